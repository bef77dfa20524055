/- Products and inverses of permutations of letters: plain data; the program's small methods. -/
import Derived.Test.YtgeihpaealomkaaDoorPcE
import Derived.Test.YtgeihpaealomkaaDoorRgA
import Derived.Test.YtgeihpaealomkaaDoorLevM
import Derived.Test.YtgeihpaealomkaaDoorPnR
namespace Go.Proofs.YtgeihpaealomkaaDoor
open Go.RowKit

def thenR (p q : List Int) : List Int := p.map fun y => q.getD y.toNat 0
def numR (d : Nat) (row : List Int) : Int := pnN (fillP (rowF row) d d)
def mulN (d a b : Nat) : Nat := (numR d (thenR (pRow d a) (pRow d b))).toNat
/-- The inverse, letter for letter. -/
def backR (p : List Int) : List Int := (List.range 3).map (fun x : Nat => ((p.idxOf (x : Int) : Nat) : Int))
def invN (d a : Nat) : Nat := (numR d (backR (pRow d a))).toNat
/-- What the model's loops make. -/
def mulM (d a b : Nat) : List Int := (List.range 3).map fun x => if x < d then (sRow d b).getD ((sRow d a).getD x 0).toNat 0 else 0
def invM3 (d a : Nat) : List Int := (List.range 3).map fun x => if x < d then ((((List.range d).find? fun y => decide ((sRow d a).getD y 0 = (x : Int))).getD 0 : Nat) : Int) else 0
theorem mul_facts (d a b : Nat) (hd : d = 2 ∨ d = 3) (ha : a < cN d) (hb : b < cN d) :
    numR d (thenR (pRow d a) (pRow d b)) = (mulN d a b : Int) ∧ mulN d a b < cN d ∧ sRow d (mulN d a b) = mulM d a b ∧ (∀ j, j < mulN d a b → sRow d j ≠ mulM d a b) ∧ (thenR (pRow d a) (pRow d b)).length = 3 ∧ ∀ j, j < 3 → 0 ≤ (thenR (pRow d a) (pRow d b)).getD j 0 ∧ (thenR (pRow d a) (pRow d b)).getD j 0 ≤ 2 := by
  have h2 : ∀ a, a < 2 → ∀ b, b < 2 → numR 2 (thenR (pRow 2 a) (pRow 2 b)) = (mulN 2 a b : Int) ∧ mulN 2 a b < 2 ∧ sRow 2 (mulN 2 a b) = mulM 2 a b ∧ (∀ j, j < mulN 2 a b → sRow 2 j ≠ mulM 2 a b) ∧ (thenR (pRow 2 a) (pRow 2 b)).length = 3 ∧ ∀ j, j < 3 → 0 ≤ (thenR (pRow 2 a) (pRow 2 b)).getD j 0 ∧ (thenR (pRow 2 a) (pRow 2 b)).getD j 0 ≤ 2 := by decide +kernel
  have h3 : ∀ a, a < 6 → ∀ b, b < 6 → numR 3 (thenR (pRow 3 a) (pRow 3 b)) = (mulN 3 a b : Int) ∧ mulN 3 a b < 6 ∧ sRow 3 (mulN 3 a b) = mulM 3 a b ∧ (∀ j, j < mulN 3 a b → sRow 3 j ≠ mulM 3 a b) ∧ (thenR (pRow 3 a) (pRow 3 b)).length = 3 ∧ ∀ j, j < 3 → 0 ≤ (thenR (pRow 3 a) (pRow 3 b)).getD j 0 ∧ (thenR (pRow 3 a) (pRow 3 b)).getD j 0 ≤ 2 := by decide +kernel
  rcases hd with rfl | rfl
  · exact h2 a ha b hb
  · exact h3 a ha b hb
theorem inv_facts (d a : Nat) (hd : d = 2 ∨ d = 3) (ha : a < cN d) :
    numR d (backR (pRow d a)) = (invN d a : Int) ∧ invN d a < cN d ∧ sRow d (invN d a) = invM3 d a ∧ (∀ j, j < invN d a → sRow d j ≠ invM3 d a) ∧ (backR (pRow d a)).length = 3 ∧ ∀ j, j < 3 → 0 ≤ (backR (pRow d a)).getD j 0 ∧ (backR (pRow d a)).getD j 0 ≤ 2 := by
  have h2 : ∀ a, a < 2 → numR 2 (backR (pRow 2 a)) = (invN 2 a : Int) ∧ invN 2 a < 2 ∧ sRow 2 (invN 2 a) = invM3 2 a ∧ (∀ j, j < invN 2 a → sRow 2 j ≠ invM3 2 a) ∧ (backR (pRow 2 a)).length = 3 ∧ ∀ j, j < 3 → 0 ≤ (backR (pRow 2 a)).getD j 0 ∧ (backR (pRow 2 a)).getD j 0 ≤ 2 := by decide +kernel
  have h3 : ∀ a, a < 6 → numR 3 (backR (pRow 3 a)) = (invN 3 a : Int) ∧ invN 3 a < 6 ∧ sRow 3 (invN 3 a) = invM3 3 a ∧ (∀ j, j < invN 3 a → sRow 3 j ≠ invM3 3 a) ∧ (backR (pRow 3 a)).length = 3 ∧ ∀ j, j < 3 → 0 ≤ (backR (pRow 3 a)).getD j 0 ∧ (backR (pRow 3 a)).getD j 0 ≤ 2 := by decide +kernel
  rcases hd with rfl | rfl
  · exact h2 a ha
  · exact h3 a ha
end Go.Proofs.YtgeihpaealomkaaDoor

namespace Go.Proofs.YtgeihpaealomkaaDoor
open Go.RowKit

theorem run_index_pi (l : List Int) (w : World) (x : Nat) (hx : x < 3) (v : Value) (hv : (u8s l)[x]? = some v) : (Instr.index 54 (.agg (u8s l)) (.int .i64 x)).run Tryd.prog w = .ok v w := by
  have hu := Tryd.underlying54
  have h1 : Tryd.t5.size = 1 := by kernel_rfl
  simp only [Instr.index, asIntOf, go_sem, Go.part, Go.sizeOf]
  simp [go_sem, h1, hv, hx, Nat.mul_one]
def rows3 (p : List Int) : Prop := p.length = 3 ∧ ∀ j, j < 3 → 0 ≤ p.getD j 0 ∧ p.getD j 0 ≤ 2
theorem pRow_3 (d k : Nat) (hd : d = 2 ∨ d = 3) (hk : k < cN d) : rows3 (pRow d k) := pRow_ok d k hd hk
theorem sRow_3 (d k : Nat) (hd : d = 2 ∨ d = 3) (hk : k < cN d) : rows3 (sRow d k) := by
  have h2 : ∀ k, k < 2 → (sRow 2 k).length = 3 ∧ ∀ j, j < 3 → 0 ≤ (sRow 2 k).getD j 0 ∧ (sRow 2 k).getD j 0 ≤ 2 := by decide
  have h3 : ∀ k, k < 6 → (sRow 3 k).length = 3 ∧ ∀ j, j < 3 → 0 ≤ (sRow 3 k).getD j 0 ∧ (sRow 3 k).getD j 0 ≤ 2 := by decide
  rcases hd with rfl | rfl
  · exact h2 k hk
  · exact h3 k hk
theorem info_pm : (Tryd.prog.info? 54).map (fun i => (i.zero, i.size)) = some (some (.agg (u8s [0, 0, 0])), 3) := by kernel_rfl
/-- The turned row, entry for entry. -/
def bkF (p : List Int) (k : Nat) : List Int := (List.range k).foldl (fun l (x : Nat) => l.set (p.getD x 0).toNat (x : Int)) [0, 0, 0]
theorem bkF_succ (p : List Int) (k : Nat) : bkF p (k + 1) = (bkF p k).set (p.getD k 0).toNat (k : Int) := by simp [bkF, List.range_succ]
theorem bkF_len (p : List Int) : ∀ k, (bkF p k).length = 3
  | 0 => rfl
  | k + 1 => by rw [bkF_succ, List.length_set, bkF_len p k]
theorem bk_p (d a : Nat) (hd : d = 2 ∨ d = 3) (ha : a < cN d) : bkF (pRow d a) 3 = backR (pRow d a) := by
  have h2 : ∀ a, a < 2 → bkF (pRow 2 a) 3 = backR (pRow 2 a) := by decide
  have h3 : ∀ a, a < 6 → bkF (pRow 3 a) 3 = backR (pRow 3 a) := by decide
  rcases hd with rfl | rfl
  · exact h2 a ha
  · exact h3 a ha
theorem bk_s (d a : Nat) (hd : d = 2 ∨ d = 3) (ha : a < cN d) : bkF (sRow d a) d = invM3 d a ∧ byte3 (invM3 d a) := by
  have h2 : ∀ a, a < 2 → bkF (sRow 2 a) 2 = invM3 2 a ∧ (invM3 2 a).length = 3 ∧ ∀ j, j < 3 → 0 ≤ (invM3 2 a).getD j 0 ∧ (invM3 2 a).getD j 0 ≤ 255 := by decide
  have h3 : ∀ a, a < 6 → bkF (sRow 3 a) 3 = invM3 3 a ∧ (invM3 3 a).length = 3 ∧ ∀ j, j < 3 → 0 ≤ (invM3 3 a).getD j 0 ∧ (invM3 3 a).getD j 0 ≤ 255 := by decide
  rcases hd with rfl | rfl
  · exact h2 a ha
  · exact h3 a ha
theorem mulM_b3 (d a b : Nat) (hd : d = 2 ∨ d = 3) (ha : a < cN d) (hb : b < cN d) : byte3 (mulM d a b) := by
  have h2 : ∀ a, a < 2 → ∀ b, b < 2 → (mulM 2 a b).length = 3 ∧ ∀ j, j < 3 → 0 ≤ (mulM 2 a b).getD j 0 ∧ (mulM 2 a b).getD j 0 ≤ 255 := by decide
  have h3 : ∀ a, a < 6 → ∀ b, b < 6 → (mulM 3 a b).length = 3 ∧ ∀ j, j < 3 → 0 ≤ (mulM 3 a b).getD j 0 ∧ (mulM 3 a b).getD j 0 ≤ 255 := by decide
  rcases hd with rfl | rfl
  · exact h2 a ha b hb
  · exact h3 a ha b hb
theorem thenR_at (p q : List Int) (hp : p.length = 3) (k : Nat) (hk : k < 3) : rowF (thenR p q) k = q.getD (p.getD k 0).toNat 0 := by
  unfold rowF thenR
  simp [List.getD, List.getElem?_map, List.getElem?_eq_getElem (show k < p.length by omega)]
theorem fill_all (l : List Int) (h : l.length = 3) : fillP (rowF l) 3 3 = l := by
  match l, h with
  | [a, b, c], _ => rfl
theorem thenR_len (p q : List Int) : (thenR p q).length = p.length := by simp [thenR]

set_option maxRecDepth 100000 in
set_option maxHeartbeats 1000000 in
theorem then_calls (p q : List Int) (hp : rows3 p) (hq : rows3 q) (w : World) :
    Calls Tryd.prog 44 #[.agg (u8s p), .agg (u8s q)] w fun e w' => e = .returned (.agg (u8s (thenR p q))) ∧ Below w.heap.size w w' := by
  have hz0 := (zero_of_info info_pm).1
  have hsz := Lib.hid (zero_of_info info_pm).2
  have hP : Blk ((((w.alloc (.cells (u8s p) 54)).alloc (.cells (u8s q) 54)).alloc (.cells (u8s [0, 0, 0]) 54)).alloc (.cells (u8s [0, 0, 0]) 54)) w.heap.size (u8s p) 54 := (((Blk.new w _ _).alloc _).alloc _).alloc _
  have hQ : Blk ((((w.alloc (.cells (u8s p) 54)).alloc (.cells (u8s q) 54)).alloc (.cells (u8s [0, 0, 0]) 54)).alloc (.cells (u8s [0, 0, 0]) 54)) (w.heap.size + 1) (u8s q) 54 := ((Blk.new_at _ _ _ _ (by simp)).alloc _).alloc _
  have hR : Blk ((((w.alloc (.cells (u8s p) 54)).alloc (.cells (u8s q) 54)).alloc (.cells (u8s [0, 0, 0]) 54)).alloc (.cells (u8s [0, 0, 0]) 54)) (w.heap.size + 2) (u8s [0, 0, 0]) 54 := (Blk.new_at _ _ _ _ (by simp)).alloc _
  have hO : Blk ((((w.alloc (.cells (u8s p) 54)).alloc (.cells (u8s q) 54)).alloc (.cells (u8s [0, 0, 0]) 54)).alloc (.cells (u8s [0, 0, 0]) 54)) (w.heap.size + 3) (u8s [0, 0, 0]) 54 := Blk.new_at _ _ _ _ (by simp)
  have hbw : Below w.heap.size w ((((w.alloc (.cells (u8s p) 54)).alloc (.cells (u8s q) 54)).alloc (.cells (u8s [0, 0, 0]) 54)).alloc (.cells (u8s [0, 0, 0]) 54)) := by (repeat (first | exact Below.refl _ _ | refine below_drew' ?_ | refine below_drewN' ?_ _ | refine below_alloc' ?_ _ | refine below_set' ?_ (by (try simp); (try omega)) _ | refine below_step ?_ (by assumption)))
  have Hp3 := Lib.hid hp
  have Hq3 := Lib.hid hq
  have Hsp : Hid ((u8s p).size = 3) := Lib.hid (by rw [u8s_size, hp.1])
  have HcP : Hid (cut (u8s p) 0 3 = u8s p) := Lib.hid (cut_all _ _ (by rw [u8s_size, hp.1]))
  have HcT : Hid (cut (u8s (thenR p q)) 0 3 = u8s (thenR p q)) := Lib.hid (cut_all _ _ (by rw [u8s_size, thenR_len, hp.1]))
  have HsT : Hid ((u8s (thenR p q)).size = 3) := Lib.hid (by rw [u8s_size, thenR_len, hp.1])
  have Hs3 : Hid ((Tryd.prog.info? 54).map (·.size) = some (u8s (thenR p q)).size) := Lib.hid (by rw [HsT.out]; exact hsz.out)
  have Ho : Hid (over (u8s [0, 0, 0]) 0 (u8s (thenR p q)) = u8s (thenR p q)) := Lib.hid (over_all _ _ (by rw [HsT.out]; rfl))
  have Hf3 : Hid (0 + (u8s (thenR p q)).size ≤ (u8s [0, 0, 0]).size) := Lib.hid (by rw [HsT.out]; exact Nat.le_refl 3)
  have Hfa := Lib.hid (fill_all (thenR p q) (by rw [thenR_len, hp.1]))
  clear hp hq
  go_enter Tryd.func44, Tryd.ntmps44
  go_wp2_with (with_reducible show wpList _ _ _ _ _ _; refine wpList_load_blk rfl 54 (.tmp 2) rfl w.heap.size 0 rfl (u8s p) _ hP 3 (by rw [Hsp.out]; omega) _ Tryd.underlying54 rfl hsz.out ?_; rw [HcP.out])
  go_loopw [9] (fun i wr => ∃ k : Nat, k ≤ 3 ∧ i = .int .i64 k ∧ Blk wr (w.heap.size + 1) (u8s q) 54 ∧ Blk wr (w.heap.size + 2) (u8s [0, 0, 0]) 54 ∧ Blk wr (w.heap.size + 3) (u8s (fillP (rowF (thenR p q)) 3 k)) 54 ∧ Below w.heap.size w wr) (fun i _ => 3 - (intOf i).toNat)
  case atStart => exact ⟨0, by omega, rfl, hQ, hR, hO, hbw⟩
  case round =>
    clear hP hQ hR hO hbw
    obtain ⟨k, hk, rfl, hQ, hR, hO, hbw⟩ := hrel
    by_cases hlt : k < 3
    · have hki : (k : Int) < 3 := by omega
      have e1 := u8s_at p k (by rw [Hp3.out.1]; exact hlt)
      obtain ⟨x, hx⟩ := Int.eq_ofNat_of_zero_le (Hp3.out.2 k hlt).1
      have hx2 := (Hp3.out.2 k hlt).2
      rw [hx] at e1 hx2
      have hx3 : x < 3 := by omega
      have hxi : (x : Int) < 3 := by omega
      have e2 := u8s_at q x (by rw [Hq3.out.1]; exact hx3)
      have hv := thenR_at p q Hp3.out.1 k hlt
      rw [hx, Int.toNat_natCast] at hv
      have Hset := Lib.hid (fillP_set (rowF (thenR p q)) 3 k (q.getD x 0) hv.symm)
      have e3 : (u8s (fillP (rowF (thenR p q)) 3 k))[k]? = some (.int .u8 ((fillP (rowF (thenR p q)) 3 k).getD k 0)) := u8s_at _ _ (by rw [fillP_len]; exact hlt)
      have hix := fun W => run_index_pi p W k hlt _ e1
      generalize q.getD x 0 = y at *
      generalize (fillP (rowF (thenR p q)) 3 k).getD k 0 = old at *
      have cQ := hQ.cell x
      rw [e2] at cQ
      have cO := hO.cell k
      rw [e3] at cO
      have fO := hO.free
      have hO1 := hO.set k (.int .u8 y)
      rw [← u8s_set, Hset.out] at hO1
      have hQ1 := hQ.setOther (w.heap.size + 3) k (.int .u8 y) (by omega)
      have hR1 := hR.setOther (w.heap.size + 3) k (.int .u8 y) (by omega)
      have hbw1 := below_set' (o := k) hbw (b := w.heap.size + 3) (by omega) (.int .u8 y)
      clear Hset hv hx e1 e2 e3
      go_wp2
      go_roundw
      case rel => exact ⟨k + 1, by omega, by go_num, hQ1, hR1, hO1, hbw1⟩
      case measure => simp [intOf] <;> omega
    · obtain rfl : k = 3 := by omega
      rw [Hfa.out] at hO
      go_wp2_with (first | (with_reducible show wpList _ _ _ _ _ _; refine wpList_load_blk rfl 54 (.tmp 5) rfl (w.heap.size + 3) 0 rfl (u8s (thenR p q)) _ hO 3 (by rw [HsT.out]; omega) _ Tryd.underlying54 rfl hsz.out ?_; rw [HcT.out]) | (with_reducible show wpList _ _ _ _ _ _; refine wpList_store_row rfl 54 _ _ rfl (w.heap.size + 2) 0 (u8s (thenR p q)) rfl rfl _ _ hR Hf3.out Hs3.out (u8s_one _) _ Ho.out ?_; intro w3 hs3))
      exact bodyPost_cell rfl rfl hs3.blk Tryd.underlying54 rfl Hs3.out rfl ⟨rfl, hs3.below _ _ (by omega) hbw⟩

set_option maxRecDepth 100000 in
set_option maxHeartbeats 1000000 in
theorem inverse_calls (p : List Int) (hp : rows3 p) (w : World) :
    Calls Tryd.prog 47 #[.agg (u8s p)] w fun e w' => e = .returned (.agg (u8s (bkF p 3))) ∧ Below w.heap.size w w' := by
  have hz0 := (zero_of_info info_pm).1
  have hsz := Lib.hid (zero_of_info info_pm).2
  have hP : Blk (((w.alloc (.cells (u8s p) 54)).alloc (.cells (u8s [0, 0, 0]) 54)).alloc (.cells (u8s [0, 0, 0]) 54)) w.heap.size (u8s p) 54 := ((Blk.new w _ _).alloc _).alloc _
  have hR : Blk (((w.alloc (.cells (u8s p) 54)).alloc (.cells (u8s [0, 0, 0]) 54)).alloc (.cells (u8s [0, 0, 0]) 54)) (w.heap.size + 1) (u8s [0, 0, 0]) 54 := (Blk.new_at _ _ _ _ (by simp)).alloc _
  have hO : Blk (((w.alloc (.cells (u8s p) 54)).alloc (.cells (u8s [0, 0, 0]) 54)).alloc (.cells (u8s [0, 0, 0]) 54)) (w.heap.size + 2) (u8s (bkF p 0)) 54 := Blk.new_at _ _ _ _ (by simp)
  have hbw : Below w.heap.size w (((w.alloc (.cells (u8s p) 54)).alloc (.cells (u8s [0, 0, 0]) 54)).alloc (.cells (u8s [0, 0, 0]) 54)) := by (repeat (first | exact Below.refl _ _ | refine below_drew' ?_ | refine below_drewN' ?_ _ | refine below_alloc' ?_ _ | refine below_set' ?_ (by (try simp); (try omega)) _ | refine below_step ?_ (by assumption)))
  have Hp3 := Lib.hid hp
  have Hsp : Hid ((u8s p).size = 3) := Lib.hid (by rw [u8s_size, hp.1])
  have HcP : Hid (cut (u8s p) 0 3 = u8s p) := Lib.hid (cut_all _ _ (by rw [u8s_size, hp.1]))
  have Hln := Lib.hid (bkF_len p)
  have HcT : Hid (cut (u8s (bkF p 3)) 0 3 = u8s (bkF p 3)) := Lib.hid (cut_all _ _ (by rw [u8s_size, bkF_len]))
  have HsT : Hid ((u8s (bkF p 3)).size = 3) := Lib.hid (by rw [u8s_size, bkF_len])
  have Hs3 : Hid ((Tryd.prog.info? 54).map (·.size) = some (u8s (bkF p 3)).size) := Lib.hid (by rw [HsT.out]; exact hsz.out)
  have Ho : Hid (over (u8s [0, 0, 0]) 0 (u8s (bkF p 3)) = u8s (bkF p 3)) := Lib.hid (over_all _ _ (by rw [HsT.out]; rfl))
  have Hf3 : Hid (0 + (u8s (bkF p 3)).size ≤ (u8s [0, 0, 0]).size) := Lib.hid (by rw [HsT.out]; exact Nat.le_refl 3)
  have Hsu := Lib.hid (bkF_succ p)
  clear hp
  go_enter Tryd.func47, Tryd.ntmps47
  go_wp2_with (with_reducible show wpList _ _ _ _ _ _; refine wpList_load_blk rfl 54 (.tmp 1) rfl w.heap.size 0 rfl (u8s p) _ hP 3 (by rw [Hsp.out]; omega) _ Tryd.underlying54 rfl hsz.out ?_; rw [HcP.out])
  generalize hbk : bkF p = bk at *
  have Hbk := Lib.hid hbk
  go_loopw [7] (fun i wr => ∃ k : Nat, k ≤ 3 ∧ i = .int .i64 k ∧ Blk wr (w.heap.size + 1) (u8s [0, 0, 0]) 54 ∧ Blk wr (w.heap.size + 2) (u8s (bk k)) 54 ∧ Below w.heap.size w wr) (fun i _ => 3 - (intOf i).toNat)
  case atStart => exact ⟨0, by omega, rfl, hR, hO, hbw⟩
  case round =>
    clear hP hR hO hbw hbk
    obtain ⟨k, hk, rfl, hR, hO, hbw⟩ := hrel
    by_cases hlt : k < 3
    · have hki : (k : Int) < 3 := by omega
      have e1 := u8s_at p k (by rw [Hp3.out.1]; exact hlt)
      obtain ⟨x, hx⟩ := Int.eq_ofNat_of_zero_le (Hp3.out.2 k hlt).1
      have hx2 := (Hp3.out.2 k hlt).2
      have Hset : Hid ((bk k).set (p.getD k 0).toNat (k : Int) = bk (k + 1)) := Lib.hid (Hsu.out k).symm
      rw [hx, Int.toNat_natCast] at Hset
      rw [hx] at e1 hx2
      have hx3 : x < 3 := by omega
      have hxi : (x : Int) < 3 := by omega
      have e3 : (u8s (bk k))[x]? = some (.int .u8 ((bk k).getD x 0)) := u8s_at _ _ (by rw [Hln.out]; exact hx3)
      have hix := fun W => run_index_pi p W k hlt _ e1
      have hw8 : IntKind.u8.wrap (k : Int) = (k : Int) := by simp [IntKind.wrap, IntKind.bits, IntKind.signed]; omega
      generalize (bk k).getD x 0 = old at *
      have cO := hO.cell x
      rw [e3] at cO
      have fO := hO.free
      have hO1 := hO.set x (.int .u8 (k : Int))
      rw [← u8s_set, Hset.out] at hO1
      have hR1 := hR.setOther (w.heap.size + 2) x (.int .u8 (k : Int)) (by omega)
      have hbw1 := below_set' (o := x) hbw (b := w.heap.size + 2) (by omega) (.int .u8 (k : Int))
      clear Hset hx e1 e3
      go_wp2
      go_roundw
      case rel => exact ⟨k + 1, by omega, by go_num, hR1, hO1, hbw1⟩
      case measure => simp [intOf] <;> omega
    · obtain rfl : k = 3 := by omega
      go_wp2_with (first | (with_reducible show wpList _ _ _ _ _ _; refine wpList_load_blk rfl 54 (.tmp 3) rfl (w.heap.size + 2) 0 rfl (u8s (bk 3)) _ hO 3 (by rw [HsT.out]; omega) _ Tryd.underlying54 rfl hsz.out ?_; rw [HcT.out]) | (with_reducible show wpList _ _ _ _ _ _; refine wpList_store_row rfl 54 _ _ rfl (w.heap.size + 1) 0 (u8s (bk 3)) rfl rfl _ _ hR Hf3.out Hs3.out (u8s_one _) _ Ho.out ?_; intro w3 hs3))
      exact bodyPost_cell rfl rfl hs3.blk Tryd.underlying54 rfl Hs3.out rfl ⟨by rw [Hbk.out], hs3.below _ _ (by omega) hbw⟩

set_option maxRecDepth 100000 in
set_option maxHeartbeats 1000000 in
theorem number_calls (p : List Int) (hp : rows3 p) (d : Nat) (hd : d ≤ 3) (w : World) (hT : TabsAt w) :
    Calls Tryd.prog 39 #[.agg (u8s p), .int .i64 d] w fun e w' => e = .returned (.int .i64 (numR d p)) ∧ Below w.heap.size w w' := by
  have hsz := Lib.hid (zero_of_info info_pm).2
  have hP : Blk (w.alloc (.cells (u8s p) 54)) w.heap.size (u8s p) 54 := Blk.new w _ _
  have hbw : Below w.heap.size w (w.alloc (.cells (u8s p) 54)) := by (repeat (first | exact Below.refl _ _ | refine below_drew' ?_ | refine below_drewN' ?_ _ | refine below_alloc' ?_ _ | refine below_set' ?_ (by (try simp); (try omega)) _ | refine below_step ?_ (by assumption)))
  have hT1 := hT.below hbw
  have Hsp : Hid ((u8s p).size = 3) := Lib.hid (by rw [u8s_size, hp.1])
  have HcP : Hid (cut (u8s p) 0 3 = u8s p) := Lib.hid (cut_all _ _ (by rw [u8s_size, hp.1]))
  have HI := Lib.hid (fun W => images_calls p hp.1 hp.2 d hd W)
  have Hn : Hid (numR d p = pnN (fillP (rowF p) d d)) := Lib.hid rfl
  generalize fillP (rowF p) d d = zs at *
  clear hp hT
  go_enter Tryd.func39, Tryd.ntmps39
  go_wp2_with (first | (with_reducible show wpList _ _ _ _ _ _; refine wpList_load_blk rfl 54 (.tmp 2) rfl w.heap.size 0 rfl (u8s p) _ hP 3 (by rw [Hsp.out]; omega) _ Tryd.underlying54 rfl hsz.out ?_; rw [HcP.out]) | (go_at_call 71; refine (HI.out _).mono ?_; rintro e w1 ⟨v1, rfl, hO1, hb1⟩; have hbw1 := below_step hbw hb1) | (go_at_call 54; refine (iPermutationNumber_calls _ zs _ hO1.sees (hT1.below hb1)).mono ?_; rintro e w2 ⟨rfl, hb2⟩; have hbw2 := below_step hbw1 hb2))
  go_ret
  exact ⟨ret_one Hn.out.symm, hbw2⟩
end Go.Proofs.YtgeihpaealomkaaDoor

namespace Go.Proofs.YtgeihpaealomkaaDoor
open Go.RowKit

def mlF (d a b : Nat) (x : Nat) : Int := (sRow d b).getD ((sRow d a).getD x 0).toNat 0
theorem mlF_all (d a b : Nat) : fillP (mlF d a b) 3 d = mulM d a b := rfl
theorem u8s_szs (l : List Int) (h : l.length = 3) : (u8s l).size = 3 := by rw [u8s_size, h]

set_option maxRecDepth 100000 in
set_option maxHeartbeats 2000000 in
theorem l03Then_calls (d a b : Nat) (hd : d = 2 ∨ d = 3) (ha : a < cN d) (hb : b < cN d) (w : World) :
    Calls Tryd.prog 73 #[.int .i64 d, .int .i64 a, .int .i64 b] w fun e w' => e = .returned (.int .i64 (mulN d a b : Nat)) ∧ Below w.heap.size w w' := by
  obtain ⟨_, m1, m2, m3, _, _⟩ := mul_facts d a b hd ha hb
  have hm3 := mulM_b3 d a b hd ha hb
  have HN := Lib.hid (fun W => l03Number_calls d hd (mulM d a b) hm3 (mulN d a b) m1 m2 m3 W)
  have HIa := Lib.hid (fun W => l03Images_calls d a hd ha W)
  have HIb := Lib.hid (fun W => l03Images_calls d b hd hb W)
  have hz0 := (zero_of_info info_b3).1
  have hsz := Lib.hid (zero_of_info info_b3).2
  have Ha3 := Lib.hid (sRow_3 d a hd ha)
  have Hb3 := Lib.hid (sRow_3 d b hd hb)
  have Hsa : Hid ((Tryd.prog.info? 22).map (·.size) = some (u8s (sRow d a)).size) := Lib.hid (by rw [u8s_szs _ Ha3.out.1]; exact hsz.out)
  have Hsb : Hid ((Tryd.prog.info? 22).map (·.size) = some (u8s (sRow d b)).size) := Lib.hid (by rw [u8s_szs _ Hb3.out.1]; exact hsz.out)
  have Hfa : Hid (0 + (u8s (sRow d a)).size ≤ (u8s [0, 0, 0]).size) := Lib.hid (by rw [u8s_szs _ Ha3.out.1]; exact Nat.le_refl 3)
  have Hfb : Hid (0 + (u8s (sRow d b)).size ≤ (u8s [0, 0, 0]).size) := Lib.hid (by rw [u8s_szs _ Hb3.out.1]; exact Nat.le_refl 3)
  have Hoa : Hid (over (u8s [0, 0, 0]) 0 (u8s (sRow d a)) = u8s (sRow d a)) := Lib.hid (over_all _ _ (by rw [u8s_szs _ Ha3.out.1]; rfl))
  have Hob : Hid (over (u8s [0, 0, 0]) 0 (u8s (sRow d b)) = u8s (sRow d b)) := Lib.hid (over_all _ _ (by rw [u8s_szs _ Hb3.out.1]; rfl))
  have Hsz : Hid ((Tryd.prog.info? 22).map (·.size) = some (u8s [0, 0, 0]).size) := Lib.hid hsz.out
  have Hfz : Hid (0 + (u8s [0, 0, 0]).size ≤ (u8s [0, 0, 0]).size) := Lib.hid (Nat.le_refl 3)
  have Hoz : Hid (over (u8s [0, 0, 0]) 0 (u8s [0, 0, 0]) = u8s (fillP (mlF d a b) 3 0)) := Lib.hid rfl
  have HcM : Hid (cut (u8s (mulM d a b)) 0 3 = u8s (mulM d a b)) := Lib.hid (cut_all _ _ (u8s_szs _ hm3.1))
  have HsM : Hid ((u8s (mulM d a b)).size = 3) := Lib.hid (u8s_szs _ hm3.1)
  have HF : Hid (∀ x, mlF d a b x = (sRow d b).getD ((sRow d a).getD x 0).toNat 0) := Lib.hid (fun _ => rfl)
  have HA := Lib.hid (mlF_all d a b)
  have hd3 : d ≤ 3 := by omega
  generalize mulN d a b = r at *
  generalize mulM d a b = M at *
  generalize mlF d a b = F at *
  clear m1 m2 m3 hm3
  have T1 := Lib.hid trivial
  go_enter Tryd.func73, Tryd.ntmps73
  go_wp2_with (first | (go_at_call 84; first | (clear T1; refine (HIa.out _).mono ?_; rintro e w1 ⟨rfl, hb1⟩) | (refine (HIb.out _).mono ?_; rintro e w2 ⟨rfl, hb2⟩; have hbw2 := below_step hb1 hb2; have q1 : Blk (((w2.alloc (.cells (u8s [0, 0, 0]) 22)).alloc (.cells (u8s [0, 0, 0]) 22)).alloc (.cells (u8s [0, 0, 0]) 22)) w2.heap.size (u8s [0, 0, 0]) 22 := ((Blk.new w2 _ _).alloc _).alloc _; have q2 : Blk (((w2.alloc (.cells (u8s [0, 0, 0]) 22)).alloc (.cells (u8s [0, 0, 0]) 22)).alloc (.cells (u8s [0, 0, 0]) 22)) (w2.heap.size + 1) (u8s [0, 0, 0]) 22 := (Blk.new_at _ _ _ _ (by simp)).alloc _; have q3 : Blk (((w2.alloc (.cells (u8s [0, 0, 0]) 22)).alloc (.cells (u8s [0, 0, 0]) 22)).alloc (.cells (u8s [0, 0, 0]) 22)) (w2.heap.size + 2) (u8s [0, 0, 0]) 22 := Blk.new_at _ _ _ _ (by simp); have hs2 := hbw2.size; have qb : Below w2.heap.size w2 (((w2.alloc (.cells (u8s [0, 0, 0]) 22)).alloc (.cells (u8s [0, 0, 0]) 22)).alloc (.cells (u8s [0, 0, 0]) 22)) := by (repeat (first | exact Below.refl _ _ | refine below_drew' ?_ | refine below_drewN' ?_ _ | refine below_alloc' ?_ _ | refine below_set' ?_ (by (try simp); (try omega)) _ | refine below_step ?_ (by assumption))))) | (with_reducible show wpList _ _ _ _ _ _; refine wpList_build rfl 22 rfl (.agg (u8s [0, 0, 0])) (by kernel_rfl) ?_) | (with_reducible show wpList _ _ _ _ _ _; first | (have q0 := q1; clear q1; refine wpList_store_row rfl 22 _ _ rfl w2.heap.size 0 (u8s (sRow d a)) rfl rfl _ _ q0 Hfa.out Hsa.out (u8s_one _) _ Hoa.out ?_; intro w3 hs3; have r1 := hs3.blk; have r2 := hs3.keep (by omega) q2; have r3 := hs3.keep (by omega) q3; have rb := hs3.below _ _ (by omega) (below_step hbw2 qb); clear q0 q2 q3 qb) | (have q0 := r2; clear r2; refine wpList_store_row rfl 22 _ _ rfl (w2.heap.size + 1) 0 (u8s (sRow d b)) rfl rfl _ _ q0 Hfb.out Hsb.out (u8s_one _) _ Hob.out ?_; intro w4 hs4; have s2 := hs4.blk; have s1 := hs4.keep (by omega) r1; have s3 := hs4.keep (by omega) r3; have sb := hs4.below _ _ (by omega) rb; clear r1 q0 r3 rb) | (have q0 := s3; clear s3; refine wpList_store_row rfl 22 _ _ rfl (w2.heap.size + 2) 0 (u8s [0, 0, 0]) rfl rfl _ _ q0 Hfz.out Hsz.out (u8s_one _) _ Hoz.out ?_; intro w5 hs5; have t3 := hs5.blk; have t1 := hs5.keep (by omega) s1; have t2 := hs5.keep (by omega) s2; have tb := hs5.below _ _ (by omega) sb; clear s1 s2 q0 sb)))
  clear hb1 hb2 hbw2
  generalize w2.heap.size = s at *
  go_loopw [10] (fun i wr => ∃ k : Nat, k ≤ d ∧ i = .int .i64 k ∧ Blk wr s (u8s (sRow d a)) 22 ∧ Blk wr (s + 1) (u8s (sRow d b)) 22 ∧ Blk wr (s + 2) (u8s (fillP F 3 k)) 22 ∧ Below w.heap.size w wr) (fun i _ => d - (intOf i).toNat)
  case atStart => exact ⟨0, by omega, rfl, t1, t2, t3, tb⟩
  case round =>
    clear t1 t2 t3 tb hs3 hs4 hs5
    obtain ⟨k, hk, rfl, hA, hB, hO, hbw⟩ := hrel
    by_cases hlt : k < d
    · have hki : (k : Int) < (d : Int) := by omega
      have hk3 : (k : Int) < 3 := by omega
      have e1 := u8s_at (sRow d a) k (by rw [Ha3.out.1]; omega)
      obtain ⟨x, hx⟩ := Int.eq_ofNat_of_zero_le (Ha3.out.2 k (by omega)).1
      have hx2 := (Ha3.out.2 k (by omega)).2
      have hv := HF.out k
      rw [hx, Int.toNat_natCast] at hv
      rw [hx] at e1 hx2
      have hx3 : x < 3 := by omega
      have hxi : (x : Int) < 3 := by omega
      have e2 := u8s_at (sRow d b) x (by rw [Hb3.out.1]; exact hx3)
      have Hset := Lib.hid (fillP_set F 3 k ((sRow d b).getD x 0) hv.symm)
      have e3 : (u8s (fillP F 3 k))[k]? = some (.int .u8 ((fillP F 3 k).getD k 0)) := u8s_at _ _ (by rw [fillP_len]; omega)
      generalize (sRow d b).getD x 0 = y at *
      generalize (fillP F 3 k).getD k 0 = old at *
      have cA := hA.cell k
      rw [e1] at cA
      have cB := hB.cell x
      rw [e2] at cB
      have cO := hO.cell k
      rw [e3] at cO
      have fO := hO.free
      have hO1 := hO.set k (.int .u8 y)
      rw [← u8s_set, Hset.out] at hO1
      have hA1 := hA.setOther (s + 2) k (.int .u8 y) (by omega)
      have hB1 := hB.setOther (s + 2) k (.int .u8 y) (by omega)
      have hbw1 := below_set' (o := k) hbw (b := s + 2) (by omega) (.int .u8 y)
      clear Hset hv hx e1 e2 e3
      go_wp2
      go_roundw
      case rel => exact ⟨k + 1, by omega, by go_num, hA1, hB1, hO1, hbw1⟩
      case measure => simp [intOf] <;> omega
    · obtain rfl : k = d := by omega
      rw [HA.out] at hO
      go_wp2_with (first | (with_reducible show wpList _ _ _ _ _ _; refine wpList_load_blk rfl 22 (.tmp 9) rfl (s + 2) 0 rfl (u8s M) _ hO 3 (by rw [HsM.out]; omega) _ Tryd.underlying22 rfl hsz.out ?_; rw [HcM.out]) | (go_at_call 64; refine (HN.out _).mono ?_; rintro e w6 ⟨rfl, hb6⟩))
      go_ret
      exact ⟨rfl, below_step hbw hb6⟩

set_option maxRecDepth 100000 in
set_option maxHeartbeats 2000000 in
theorem l03Back_calls (d a : Nat) (hd : d = 2 ∨ d = 3) (ha : a < cN d) (w : World) :
    Calls Tryd.prog 78 #[.int .i64 d, .int .i64 a] w fun e w' => e = .returned (.int .i64 (invN d a : Nat)) ∧ Below w.heap.size w w' := by
  obtain ⟨_, m1, m2, m3, _, _⟩ := inv_facts d a hd ha
  obtain ⟨hbk, hm3⟩ := bk_s d a hd ha
  have HN := Lib.hid (fun W => l03Number_calls d hd (invM3 d a) hm3 (invN d a) m1 m2 m3 W)
  have HIa := Lib.hid (fun W => l03Images_calls d a hd ha W)
  have hz0 := (zero_of_info info_b3).1
  have hsz := Lib.hid (zero_of_info info_b3).2
  have Ha3 := Lib.hid (sRow_3 d a hd ha)
  have Hsa : Hid ((Tryd.prog.info? 22).map (·.size) = some (u8s (sRow d a)).size) := Lib.hid (by rw [u8s_szs _ Ha3.out.1]; exact hsz.out)
  have Hfa : Hid (0 + (u8s (sRow d a)).size ≤ (u8s [0, 0, 0]).size) := Lib.hid (by rw [u8s_szs _ Ha3.out.1]; exact Nat.le_refl 3)
  have Hoa : Hid (over (u8s [0, 0, 0]) 0 (u8s (sRow d a)) = u8s (sRow d a)) := Lib.hid (over_all _ _ (by rw [u8s_szs _ Ha3.out.1]; rfl))
  have Hsz : Hid ((Tryd.prog.info? 22).map (·.size) = some (u8s [0, 0, 0]).size) := Lib.hid hsz.out
  have Hfz : Hid (0 + (u8s [0, 0, 0]).size ≤ (u8s [0, 0, 0]).size) := Lib.hid (Nat.le_refl 3)
  have Hoz : Hid (over (u8s [0, 0, 0]) 0 (u8s [0, 0, 0]) = u8s (bkF (sRow d a) 0)) := Lib.hid rfl
  have HcM : Hid (cut (u8s (invM3 d a)) 0 3 = u8s (invM3 d a)) := Lib.hid (cut_all _ _ (u8s_szs _ hm3.1))
  have HsM : Hid ((u8s (invM3 d a)).size = 3) := Lib.hid (u8s_szs _ hm3.1)
  have HA := Lib.hid hbk
  have Hsu := Lib.hid (bkF_succ (sRow d a))
  have Hln := Lib.hid (bkF_len (sRow d a))
  have hd3 : d ≤ 3 := by omega
  generalize invN d a = r at *
  generalize invM3 d a = M at *
  generalize bkF (sRow d a) = F at *
  clear m1 m2 m3 hm3 hbk
  go_enter Tryd.func78, Tryd.ntmps78
  go_wp2_with (first | (go_at_call 84; refine (HIa.out _).mono ?_; rintro e w1 ⟨rfl, hb1⟩; have q1 : Blk ((w1.alloc (.cells (u8s [0, 0, 0]) 22)).alloc (.cells (u8s [0, 0, 0]) 22)) w1.heap.size (u8s [0, 0, 0]) 22 := (Blk.new w1 _ _).alloc _; have q2 : Blk ((w1.alloc (.cells (u8s [0, 0, 0]) 22)).alloc (.cells (u8s [0, 0, 0]) 22)) (w1.heap.size + 1) (u8s [0, 0, 0]) 22 := Blk.new_at _ _ _ _ (by simp); have hs1 := hb1.size; have qb : Below w1.heap.size w1 ((w1.alloc (.cells (u8s [0, 0, 0]) 22)).alloc (.cells (u8s [0, 0, 0]) 22)) := by (repeat (first | exact Below.refl _ _ | refine below_drew' ?_ | refine below_drewN' ?_ _ | refine below_alloc' ?_ _ | refine below_set' ?_ (by (try simp); (try omega)) _ | refine below_step ?_ (by assumption)))) | (with_reducible show wpList _ _ _ _ _ _; refine wpList_build rfl 22 rfl (.agg (u8s [0, 0, 0])) (by kernel_rfl) ?_) | (with_reducible show wpList _ _ _ _ _ _; first | (have q0 := q1; clear q1; refine wpList_store_row rfl 22 _ _ rfl w1.heap.size 0 (u8s (sRow d a)) rfl rfl _ _ q0 Hfa.out Hsa.out (u8s_one _) _ Hoa.out ?_; intro w3 hs3; have r1 := hs3.blk; have r2 := hs3.keep (by omega) q2; have rb := hs3.below _ _ (by omega) (below_step hb1 qb); clear q0 q2 qb) | (have q0 := r2; clear r2; refine wpList_store_row rfl 22 _ _ rfl (w1.heap.size + 1) 0 (u8s [0, 0, 0]) rfl rfl _ _ q0 Hfz.out Hsz.out (u8s_one _) _ Hoz.out ?_; intro w5 hs5; have t2 := hs5.blk; have t1 := hs5.keep (by omega) r1; have tb := hs5.below _ _ (by omega) rb; clear r1 q0 rb)))
  clear hb1
  generalize w1.heap.size = s at *
  go_loopw [7] (fun i wr => ∃ k : Nat, k ≤ d ∧ i = .int .i64 k ∧ Blk wr s (u8s (sRow d a)) 22 ∧ Blk wr (s + 1) (u8s (F k)) 22 ∧ Below w.heap.size w wr) (fun i _ => d - (intOf i).toNat)
  case atStart => exact ⟨0, by omega, rfl, t1, t2, tb⟩
  case round =>
    clear t1 t2 tb hs3 hs5
    obtain ⟨k, hk, rfl, hA, hO, hbw⟩ := hrel
    by_cases hlt : k < d
    · have hki : (k : Int) < (d : Int) := by omega
      have hk3 : (k : Int) < 3 := by omega
      have e1 := u8s_at (sRow d a) k (by rw [Ha3.out.1]; omega)
      obtain ⟨x, hx⟩ := Int.eq_ofNat_of_zero_le (Ha3.out.2 k (by omega)).1
      have hx2 := (Ha3.out.2 k (by omega)).2
      have Hset : Hid ((F k).set ((sRow d a).getD k 0).toNat (k : Int) = F (k + 1)) := Lib.hid (Hsu.out k).symm
      rw [hx, Int.toNat_natCast] at Hset
      rw [hx] at e1 hx2
      have hx3 : x < 3 := by omega
      have hxi : (x : Int) < 3 := by omega
      have e3 : (u8s (F k))[x]? = some (.int .u8 ((F k).getD x 0)) := u8s_at _ _ (by rw [Hln.out]; exact hx3)
      have hw8 : IntKind.u8.wrap (k : Int) = (k : Int) := by simp [IntKind.wrap, IntKind.bits, IntKind.signed]; omega
      generalize (F k).getD x 0 = old at *
      have cA := hA.cell k
      rw [e1] at cA
      have cO := hO.cell x
      rw [e3] at cO
      have fO := hO.free
      have hO1 := hO.set x (.int .u8 (k : Int))
      rw [← u8s_set, Hset.out] at hO1
      have hA1 := hA.setOther (s + 1) x (.int .u8 (k : Int)) (by omega)
      have hbw1 := below_set' (o := x) hbw (b := s + 1) (by omega) (.int .u8 (k : Int))
      clear Hset hx e1 e3
      go_wp2
      go_roundw
      case rel => exact ⟨k + 1, by omega, by go_num, hA1, hO1, hbw1⟩
      case measure => simp [intOf] <;> omega
    · obtain rfl : k = d := by omega
      rw [HA.out] at hO
      go_wp2_with (first | (with_reducible show wpList _ _ _ _ _ _; refine wpList_load_blk rfl 22 (.tmp 6) rfl (s + 1) 0 rfl (u8s M) _ hO 3 (by rw [HsM.out]; omega) _ Tryd.underlying22 rfl hsz.out ?_; rw [HcM.out]) | (go_at_call 64; refine (HN.out _).mono ?_; rintro e w6 ⟨rfl, hb6⟩))
      go_ret
      exact ⟨rfl, below_step hbw hb6⟩
end Go.Proofs.YtgeihpaealomkaaDoor
