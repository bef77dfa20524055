/- 'PermutationNumber': the model. -/
import Derived.Test.YticnpajbefflbadDoorPnA
import Derived.Test.YticnpajbefflbadDoorMachU
namespace Go.Proofs.YticnpajbefflbadDoor
open Go.RowKit

def byte3 (l : List Int) : Prop := l.length = 3 ∧ ∀ j, j < 3 → 0 ≤ l.getD j 0 ∧ l.getD j 0 ≤ 255
theorem keyType_b3 : Tryd.prog.keyTypeAt 2 49 = true := by kernel_rfl
theorem cells_b3 : Tryd.prog.cellsOf 49 = 3 := by kernel_rfl
theorem formed_b3 {l : List Int} (h : byte3 l) : (Value.agg (u8s l)).formed Tryd.prog 49 = true := by
  simp [Value.formed, Tryd.underlying49, cells_b3, u8s_size, h.1]
theorem lits_b3 (d : Nat) {l : List Int} (h : byte3 l) : Tryd.prog.keyLits (d + 2) 49 (u8s l).toList = some (l.map (Lit.int .u8)) := by
  obtain ⟨h3, hb⟩ := h
  match l, h3, hb with
  | [a, b, c], _, hb =>
    have ha := hb 0 (by omega); have hb1 := hb 1 (by omega); have hc := hb 2 (by omega)
    simp at ha hb1 hc
    show Tryd.prog.keyLits (d + 2) 49 [.int .u8 a, .int .u8 b, .int .u8 c] = _
    unfold Program.keyLits
    simp only [Tryd.underlying49, cells_b3, cells_u8, List.length_cons, List.length_nil, if_true]
    rw [mapM_some (f := fun j => [Lit.int .u8 ([a, b, c].getD j 0)]) (List.range 3) (fun j hj => by
      have hj3 : j < 3 := by simpa using hj
      rcases (show j = 0 ∨ j = 1 ∨ j = 2 by omega) with rfl | rfl | rfl
      · exact lits_u8 d a ha
      · exact lits_u8 d b hb1
      · exact lits_u8 d c hc)]
    rfl
theorem run_eq_b3 {l l' : List Int} (h : byte3 l) (h' : byte3 l') (w : World) : (binOp .eql 49 (.agg (u8s l)) (.agg (u8s l'))).run Tryd.prog w = .ok (.bool (decide (l = l'))) w := by
  obtain ⟨r, hr, hiff⟩ := run_equalIn_deep (P := Tryd.prog) 9998 2 49 keyType_b3 w _ _ _ _ _ _ (formed_b3 h) (formed_b3 h') (lits_b3 0 h) (lits_b3 0 h')
  rw [run_eql_struct, hr]
  have : r = decide (l = l') := by
    rw [Bool.eq_iff_iff, hiff, decide_eq_true_iff]
    exact ⟨fun e => by
      have e2 := congrArg (List.map fun x => match x with | Lit.int _ z => z | _ => (0 : Int)) e
      simpa [List.map_map, Function.comp_def] using e2, fun e => by rw [e]⟩
  rw [this]; rfl

section
variable {P : Program} {ops : Array Oper} {rest : List Oper} {o : Oper} {a : Act} {w : World} {Q : Exit → Act → World → Prop}
/-- A value built of parts, told by the kernel. -/
theorem wpList_build (hgd : o.guard = none) (t : TypeId) {ps : Array (Nat × Operand)} (_ho : o.op = .build t ps) (v : Value) (hrun : (execOp a.eval o).run P w = .ok (.value v) w) (h : wpList P ops Q rest (a.put o.dst v) w) : wpList P ops Q (o :: rest) a w := by
  refine wpList_plain hgd fun K hK => ?_
  unfold Oper.wp
  rw [hrun]
  exact hK _ _ h
end
def z18 : List Int := List.replicate 18 0
def sTwo : List (List Int) := [[0, 1, 0], [1, 0, 0]]
def sRow (d k : Nat) : List Int := if d = 2 then sTwo.getD k [] else tabThree.getD k []
theorem sRow_ok (d k : Nat) (hd : d = 2 ∨ d = 3) (hk : k < cN d) : byte3 (sRow d k) := by
  have h2 : ∀ k, k < 2 → (sRow 2 k).length = 3 ∧ ∀ j, j < 3 → 0 ≤ (sRow 2 k).getD j 0 ∧ (sRow 2 k).getD j 0 ≤ 255 := by decide
  have h3 : ∀ k, k < 6 → (sRow 3 k).length = 3 ∧ ∀ j, j < 3 → 0 ≤ (sRow 3 k).getD j 0 ∧ (sRow 3 k).getD j 0 ≤ 255 := by decide
  rcases hd with rfl | rfl
  · exact h2 k hk
  · exact h3 k hk
theorem info_b3 : (Tryd.prog.info? 49).map (fun i => (i.zero, i.size)) = some (some (.agg (u8s [0, 0, 0])), 3) := by kernel_rfl
theorem info_b63 : (Tryd.prog.info? 55).map (fun i => (i.zero, i.size)) = some (some (.agg (u8s z18)), 18) := by kernel_rfl

set_option maxRecDepth 100000 in
set_option maxHeartbeats 1000000 in
theorem l03Images_calls (d k : Nat) (hd : d = 2 ∨ d = 3) (hk : k < cN d) (w : World) :
    Calls Tryd.prog 32 #[.int .i64 d, .int .i64 k] w fun e w' => e = .returned (.agg (u8s (sRow d k))) ∧ Below w.heap.size w w' := by
  have hz0 := (zero_of_info info_b3).1
  have hsz := Lib.hid (zero_of_info info_b3).2
  have hR : Blk (w.alloc (.cells (u8s [0, 0, 0]) 49)) w.heap.size (u8s [0, 0, 0]) 49 := Blk.new _ _ _
  have hbw : Below w.heap.size w (w.alloc (.cells (u8s [0, 0, 0]) 49)) := by (repeat (first | exact Below.refl _ _ | refine below_drew' ?_ | refine below_drewN' ?_ _ | refine below_alloc' ?_ _ | refine below_set' ?_ (by (try simp); (try omega)) _ | refine below_step ?_ (by assumption)))
  rcases hd with rfl | rfl
  · obtain rfl | rfl : k = 0 ∨ k = 1 := by simp [cN] at hk; omega
    · have Hs3 : Hid ((Tryd.prog.info? 49).map (·.size) = some (#[.int .u8 0, .int .u8 1, .int .u8 0] : Array Value).size) := Lib.hid hsz.out
      have H13 : Hid ((#[.int .u8 0, .int .u8 1, .int .u8 0] : Array Value).all (·.oneCell') = true) := Lib.hid (u8s_one [0, 1, 0])
      have Hf3 : Hid (0 + (#[.int .u8 0, .int .u8 1, .int .u8 0] : Array Value).size ≤ (u8s [0, 0, 0]).size) := Lib.hid (Nat.le_refl 3)
      have Ho : Hid (over (u8s [0, 0, 0]) 0 #[.int .u8 0, .int .u8 1, .int .u8 0] = u8s (sRow 2 0)) := Lib.hid rfl
      go_enter Tryd.func32, Tryd.ntmps32
      go_wp2_with (with_reducible show wpList _ _ _ _ _ _; refine wpList_store_row rfl 49 _ _ rfl w.heap.size 0 #[.int .u8 0, .int .u8 1, .int .u8 0] rfl rfl _ _ hR Hf3.out Hs3.out H13.out _ Ho.out ?_; intro w3 hs3)
      exact bodyPost_cell rfl rfl hs3.blk Tryd.underlying49 rfl Hs3.out rfl ⟨rfl, hs3.below _ _ (Nat.le_refl _) hbw⟩
    · have Hs3 : Hid ((Tryd.prog.info? 49).map (·.size) = some (#[.int .u8 1, .int .u8 0, .int .u8 0] : Array Value).size) := Lib.hid hsz.out
      have H13 : Hid ((#[.int .u8 1, .int .u8 0, .int .u8 0] : Array Value).all (·.oneCell') = true) := Lib.hid (u8s_one [1, 0, 0])
      have Hf3 : Hid (0 + (#[.int .u8 1, .int .u8 0, .int .u8 0] : Array Value).size ≤ (u8s [0, 0, 0]).size) := Lib.hid (Nat.le_refl 3)
      have Ho : Hid (over (u8s [0, 0, 0]) 0 #[.int .u8 1, .int .u8 0, .int .u8 0] = u8s (sRow 2 1)) := Lib.hid rfl
      go_enter Tryd.func32, Tryd.ntmps32
      go_wp2_with (with_reducible show wpList _ _ _ _ _ _; refine wpList_store_row rfl 49 _ _ rfl w.heap.size 0 #[.int .u8 1, .int .u8 0, .int .u8 0] rfl rfl _ _ hR Hf3.out Hs3.out H13.out _ Ho.out ?_; intro w3 hs3)
      exact bodyPost_cell rfl rfl hs3.blk Tryd.underlying49 rfl Hs3.out rfl ⟨rfl, hs3.below _ _ (Nat.le_refl _) hbw⟩
  · have hz6 := (zero_of_info info_b63).1
    have hs6 := Lib.hid (zero_of_info info_b63).2
    have hR1 : Blk ((w.alloc (.cells (u8s [0, 0, 0]) 49)).alloc (.cells (u8s z18) 55)) w.heap.size (u8s [0, 0, 0]) 49 := hR.alloc _
    have hE1 : Blk ((w.alloc (.cells (u8s [0, 0, 0]) 49)).alloc (.cells (u8s z18) 55)) (w.heap.size + 1) (u8s z18) 55 := Blk.new_at _ _ _ _ (by simp)
    have hbw1 : Below w.heap.size w ((w.alloc (.cells (u8s [0, 0, 0]) 49)).alloc (.cells (u8s z18) 55)) := by (repeat (first | exact Below.refl _ _ | refine below_drew' ?_ | refine below_drewN' ?_ _ | refine below_alloc' ?_ _ | refine below_set' ?_ (by (try simp); (try omega)) _ | refine below_step ?_ (by assumption)))
    have Hs6 : Hid ((Tryd.prog.info? 55).map (·.size) = some (u8s tabThree.flatten).size) := Lib.hid hs6.out
    have Hf6 : Hid (0 + (u8s tabThree.flatten).size ≤ (u8s z18).size) := Lib.hid (Nat.le_refl 18)
    have Ho6 : Hid (over (u8s z18) 0 (u8s tabThree.flatten) = u8s tabThree.flatten) := Lib.hid (over_all _ _ rfl)
    obtain ⟨r1, r2⟩ := sRow_ok 3 k (.inr rfl) hk
    have hk6 : k < 6 := hk
    have hki : (k : Int) < 6 := by omega
    have Hs3 : Hid ((Tryd.prog.info? 49).map (·.size) = some (u8s (sRow 3 k)).size) := Lib.hid (by rw [u8s_size, r1]; exact hsz.out)
    have Hsz3 : Hid ((u8s (sRow 3 k)).size = 3) := Lib.hid (by rw [u8s_size, r1])
    have Hf3 : Hid (0 + (u8s (sRow 3 k)).size ≤ (u8s [0, 0, 0]).size) := Lib.hid (by rw [u8s_size, r1]; exact Nat.le_refl 3)
    have Ho : Hid (over (u8s [0, 0, 0]) 0 (u8s (sRow 3 k)) = u8s (sRow 3 k)) := Lib.hid (over_all _ _ (by rw [u8s_size, u8s_size, r1]; rfl))
    have Hcut : Hid (cut (u8s tabThree.flatten) (k * 3) 3 = u8s (sRow 3 k)) := Lib.hid (by
      have : ∀ k, k < 6 → (tabThree.flatten.drop (k * 3)).take 3 = sRow 3 k := by decide
      rw [← this k hk6]
      unfold cut u8s
      simp [List.map_take, List.map_drop])
    have Hfit : Hid (k * 3 + 3 ≤ (u8s tabThree.flatten).size) := Lib.hid (by
      have : (u8s tabThree.flatten).size = 18 := rfl
      omega)
    clear r1 r2 hk hR hbw
    go_enter Tryd.func32, Tryd.ntmps32
    go_wp2_with (first | (with_reducible show wpList _ _ _ _ _ _; refine wpList_build rfl 55 rfl (.agg (u8s tabThree.flatten)) (by kernel_rfl) ?_) | (with_reducible show wpList _ _ _ _ _ _; refine wpList_store_row rfl 55 _ _ rfl (w.heap.size + 1) 0 (u8s tabThree.flatten) rfl rfl _ _ hE1 Hf6.out Hs6.out (u8s_one _) _ Ho6.out ?_; intro w2 hs2; have hR2 := hs2.keep (by omega) hR1; have hE2 := hs2.blk; have hbw2 := hs2.below _ _ (by omega) hbw1) | (with_reducible show wpList _ _ _ _ _ _; refine wpList_load_blk rfl 49 (.tmp 20) rfl (w.heap.size + 1) (k * 3) rfl (u8s tabThree.flatten) _ hE2 3 Hfit.out _ Tryd.underlying49 rfl hsz.out ?_; rw [Hcut.out]) | (with_reducible show wpList _ _ _ _ _ _; refine wpList_store_row rfl 49 _ _ rfl w.heap.size 0 (u8s (sRow 3 k)) rfl rfl _ _ hR2 Hf3.out Hs3.out (u8s_one _) _ Ho.out ?_; intro w3 hs3))
    exact bodyPost_cell rfl rfl hs3.blk Tryd.underlying49 rfl Hs3.out rfl ⟨rfl, hs3.below _ _ (Nat.le_refl _) hbw2⟩
end Go.Proofs.YticnpajbefflbadDoor
