/- 'l06Of': the model's tables of a search for orders. -/
import Derived.Test.YticnpajbefflbacRtI
import Derived.Test.YticnpajbefflbacNorS
import Derived.Test.YticnpajbefflbacTriS
import Derived.Test.YticnpajbefflbacMinT
import Derived.Test.YticnpajbefflbacInv
namespace Go.Proofs.Yticnpajbefflbac
open Go.RowKit

/-- The cells of a turn: the machine, its inverse, the classes, what is trivial. -/
def tuC (M : Mach) (L S : Nat) (l : List Bool) : Array Value := mc M ++ (mc (invM M L S) ++ (ints (clsS M L S (S + 1)) ++ bl l))
structure TuL (M : Mach) (L S : Nat) (l : List Bool) : Prop where
  len : l.length = 16
  at' : ∀ q, q < S → l.getD q false = trivB M L S q
theorem cut_mid (a b c : Array Value) : cut (a ++ (b ++ c)) a.size b.size = b := by
  unfold cut
  apply Array.ext'
  simp
theorem cut_head (a b : Array Value) : cut (a ++ b) 0 a.size = a := by
  unfold cut
  apply Array.ext'
  simp
section
variable {M : Mach} {L S : Nat} {l : List Bool} (hg : Good M L S) (hl : TuL M L S l)
include hg hl
theorem tu_sizes : (mc M).size = 98 ∧ (mc (invM M L S)).size = 98 ∧ (ints (clsS M L S (S + 1))).size = 16 ∧ (bl l).size = 16 :=
  ⟨mc_size hg.ok, mc_size (invM_ok hg.ok L S hg.L3), by rw [ints_size, clsS_len], by rw [bl_size, hl.len]⟩
theorem tu_size : (tuC M L S l).size = 228 := by
  obtain ⟨h1, h2, h3, h4⟩ := tu_sizes hg hl
  simp [tuC, h1, h2, h3, h4]
theorem tu_cut0 : cut (tuC M L S l) 0 98 = mc M := by
  have := cut_head (mc M) (mc (invM M L S) ++ (ints (clsS M L S (S + 1)) ++ bl l))
  rwa [(tu_sizes hg hl).1] at this
theorem tu_cut1 : cut (tuC M L S l) 98 98 = mc (invM M L S) := by
  have := cut_mid (mc M) (mc (invM M L S)) (ints (clsS M L S (S + 1)) ++ bl l)
  rwa [(tu_sizes hg hl).1, (tu_sizes hg hl).2.1] at this
theorem tu_cut2 : cut (tuC M L S l) 196 16 = ints (clsS M L S (S + 1)) := by
  have := cut_mid (mc M ++ mc (invM M L S)) (ints (clsS M L S (S + 1))) (bl l)
  obtain ⟨h1, h2, h3, h4⟩ := tu_sizes hg hl
  rw [Array.size_append, h1, h2, h3, Array.append_assoc] at this
  exact this
theorem tu_cut3 : cut (tuC M L S l) 212 16 = bl l := by
  have := cut_mid (mc M ++ (mc (invM M L S) ++ ints (clsS M L S (S + 1)))) (bl l) #[]
  obtain ⟨h1, h2, h3, h4⟩ := tu_sizes hg hl
  rw [Array.size_append, Array.size_append, h1, h2, h3, h4, Array.append_empty, Array.append_assoc, Array.append_assoc] at this
  exact this
end
theorem tu_one (M : Mach) (L S : Nat) (l : List Bool) : (tuC M L S l).all (·.oneCell') = true := by
  simp only [tuC, Array.all_append, Bool.and_eq_true]
  exact ⟨mc_one M, mc_one _, ints_one _, bl_one _⟩
theorem tu_fields : ∃ fields, Try.prog.underlying 59 = some (.struct fields) ∧ fields.toList.mapM (fun f => (Try.prog.info? f.type).map fun i => (f.offset, i.size)) = some [(0, 98), (98, 98), (196, 16), (212, 16)] := ⟨_, Try.underlying59, by kernel_rfl⟩
theorem tu_zero : ∃ z : Array Value, z.size = 228 ∧ (Try.prog.info? 59).map (fun i => (i.zero, i.size)) = some (some (.agg z), 228) := ⟨Try.zeroCells59, by kernel_rfl, by kernel_rfl⟩
set_option maxRecDepth 100000 in
theorem built_tu {M : Mach} {L S : Nat} {l : List Bool} (hg : Good M L S) (hl : TuL M L S l) : Try.prog.built 59 [(0, .agg (mc M)), (1, .agg (mc (invM M L S))), (2, .agg (ints (clsS M L S (S + 1)))), (3, .agg (bl l))] = some (tuC M L S l) := by
  obtain ⟨fields, hu, hf⟩ := tu_fields
  obtain ⟨z, hzs, hz⟩ := tu_zero
  obtain ⟨s1, s2, s3, s4⟩ := tu_sizes hg hl
  unfold Program.built
  cases hi : Try.prog.info? 59 with
  | none => rw [hi] at hz; cases hz
  | some it =>
    rw [hi] at hz
    simp only [Option.map_some, Option.some.injEq, Prod.mk.injEq] at hz
    obtain ⟨hz, _⟩ := hz
    simp only [hu, hf, hz]
    have hc : (Value.agg z).cells = z := rfl
    rw [hc]
    have t1 : (over z 0 (mc M)).size = 228 := by rw [size_over _ _ _ (by omega), hzs]
    have t2 : (over (over z 0 (mc M)) 98 (mc (invM M L S))).size = 228 := by rw [size_over _ _ _ (by omega), t1]
    have t3 : (over (over (over z 0 (mc M)) 98 (mc (invM M L S))) 196 (ints (clsS M L S (S + 1)))).size = 228 := by rw [size_over _ _ _ (by omega), t2]
    rw [fill_part _ _ 0 0 98 (.agg (mc M)) _ (by rfl) s1 (by omega), show (Value.agg (mc M)).cells = mc M from rfl,
      fill_part _ _ 1 98 98 (.agg (mc (invM M L S))) _ (by rfl) s2 (by omega), show (Value.agg (mc (invM M L S))).cells = mc (invM M L S) from rfl,
      fill_part _ _ 2 196 16 (.agg (ints (clsS M L S (S + 1)))) _ (by rfl) s3 (by omega), show (Value.agg (ints (clsS M L S (S + 1)))).cells = ints (clsS M L S (S + 1)) from rfl,
      fill_part _ _ 3 212 16 (.agg (bl l)) _ (by rfl) s4 (by omega), show (Value.agg (bl l)).cells = bl l from rfl, Instr.fill]
    refine congrArg some ?_
    apply Array.ext_getElem?
    intro i
    have hsz := tu_size hg hl
    rw [over_get _ _ _ (by omega), over_get _ _ _ (by omega), over_get _ _ _ (by omega), over_get _ _ _ (by omega)]
    by_cases h1 : i < 98
    · rw [if_pos (by omega), if_pos (by omega), if_pos h1, if_neg (by omega), if_pos (by omega), Nat.sub_zero]
      unfold tuC
      rw [Array.getElem?_append_left (by omega)]
    · by_cases h2 : i < 196
      · rw [if_pos (by omega), if_pos (by omega), if_neg h1, if_pos (by omega)]
        unfold tuC
        rw [Array.getElem?_append_right (by omega), s1, Array.getElem?_append_left (by omega)]
      · by_cases h3 : i < 212
        · rw [if_pos (by omega), if_neg h2, if_pos (by omega)]
          unfold tuC
          rw [Array.getElem?_append_right (by omega), s1, Array.getElem?_append_right (by omega), s2, Array.getElem?_append_left (by omega), show i - 98 - 98 = i - 196 by omega]
        · by_cases h4 : i < 228
          · rw [if_neg h3, if_pos (by omega)]
            unfold tuC
            rw [Array.getElem?_append_right (by omega), s1, Array.getElem?_append_right (by omega), s2, Array.getElem?_append_right (by omega), s3, show i - 98 - 98 - 16 = i - 212 by omega]
          · rw [Array.getElem?_eq_none (by omega : (tuC M L S l).size ≤ i), if_neg h3, if_neg (by omega), if_neg h2, if_neg (by omega), if_neg h1, if_neg (by omega), if_neg (by omega), if_neg (by omega), Array.getElem?_eq_none (by omega)]
theorem exec_build4 {P : Program} {a : Act} {o : Oper} (t : TypeId) (x0 x1 x2 x3 : Operand) (ho : o.op = .build t #[(0, x0), (1, x1), (2, x2), (3, x3)]) (v0 v1 v2 v3 : Value) (h0 : a.eval x0 = v0) (h1 : a.eval x1 = v1) (h2 : a.eval x2 = v2) (h3 : a.eval x3 = v3) (cells : Array Value) (hc : P.built t [(0, v0), (1, v1), (2, v2), (3, v3)] = some cells) (W : World) :
    (execOp a.eval o).run P W = .ok (.value (.agg cells)) W := by
  subst h0 h1 h2 h3
  have := run_build (P := P) W t #[(0, a.eval x0), (1, a.eval x1), (2, a.eval x2), (3, a.eval x3)] cells hc
  unfold execOp
  simp [ho, this]

set_option maxRecDepth 100000 in
set_option maxHeartbeats 2000000 in
theorem l06Of_calls (M : Mach) (L S : Nat) (hg : Good M L S) (w : World) :
    Calls Try.prog 31 #[.agg (mc M)] w fun e w' => (∃ l, e = .returned (.agg (tuC M L S l)) ∧ TuL M L S l) ∧ Below w.heap.size w w' := by
  have hok := hg.ok
  obtain ⟨z, hzs, hzi⟩ := tu_zero
  have hz := (zero_of_info hzi).1
  have hsz := (zero_of_info hzi).2
  have F1 : Hid (cut (mc M) 0 98 = mc M) := Lib.hid (cut_all _ _ (mc_size hok)); have F2 : Hid (0 + 98 ≤ (mc M).size) := Lib.hid (by rw [mc_size hok]; omega)
  have hB0 : Blk ((w.alloc (.cells (mc M) 29)).alloc (.cells z 59)) w.heap.size (mc M) 29 := (Blk.new _ _ _).alloc _
  have hR0 : Blk ((w.alloc (.cells (mc M) 29)).alloc (.cells z 59)) (w.heap.size + 1) z 59 := Blk.new_at _ _ _ _ (by simp)
  have hbw0 : Below w.heap.size w ((w.alloc (.cells (mc M) 29)).alloc (.cells z 59)) := by (repeat (first | exact Below.refl _ _ | refine below_drew' ?_ | refine below_drewN' ?_ _ | refine below_alloc' ?_ _ | refine below_set' ?_ (by (try simp); (try omega)) _ | refine below_step ?_ (by assumption)))
  have hbd := below_drew' hbw0
  go_enter Try.func31, Try.ntmps31
  go_wp2
  generalize ((w.alloc (.cells (mc M) 29)).alloc (.cells z 59)) = w0 at *
  refine wp_region_held_drew (S := fun W => Blk W w.heap.size (mc M) 29) (by kernel_rfl) hB0.drew (fun hS0 => ?_)
  (refine hK_load 0 rfl (by kernel_rfl) (by kernel_rfl) (by kernel_rfl) 29 _ rfl (w.heap.size) 0 rfl (mc M) _ (fun W hW => hW) 98 (F2.out) _ Try.underlying29 rfl size_mach _ (F1.out) (fun _ _ _ h => h) rfl hS0 ?_; (intro K hK; go_simp; refine hK _ ?_; clear hK K))
  (refine hK_load 1 rfl (by kernel_rfl) (by kernel_rfl) (by kernel_rfl) 29 _ rfl (w.heap.size) 0 rfl (mc M) _ (fun W hW => hW) 98 (F2.out) _ Try.underlying29 rfl size_mach _ (F1.out) (fun _ _ _ h => h) rfl hS0 ?_; (intro K hK; go_simp; refine hK _ ?_; clear hK K))
  (refine hK_load 3 rfl (by kernel_rfl) (by kernel_rfl) (by kernel_rfl) 29 _ rfl (w.heap.size) 0 rfl (mc M) _ (fun W hW => hW) 98 (F2.out) _ Try.underlying29 rfl size_mach _ (F1.out) (fun _ _ _ h => h) rfl hS0 ?_; (intro K hK; go_simp; refine hK _ ?_; clear hK K))
  (refine hK_load 5 rfl (by kernel_rfl) (by kernel_rfl) (by kernel_rfl) 29 _ rfl (w.heap.size) 0 rfl (mc M) _ (fun W hW => hW) 98 (F2.out) _ Try.underlying29 rfl size_mach _ (F1.out) (fun _ _ _ h => h) rfl hS0 ?_; (intro K hK; go_simp; refine hK _ ?_; clear hK K))
  (refine wpAnyH_ready (rs := [2]) (by kernel_rfl) (by simp) ?_; refine AllReadyH.cons rfl (fun K hK => ?_) AllReadyH.nil); go_simp; refine (l01Inverse_calls M L S hg _).mono ?_; rintro e w3 ⟨rfl, hb3⟩; have hB3 : Blk w3 _ _ _ := Blk.keptAll hS0 hb3; have hR3 : Blk w3 _ _ _ := (Blk.drew hR0).keptAll hb3; have hbw3 := below_step hbd hb3
  (go_simp; refine hK.out _ _ (hB3) (fun hS1 => ?_); clear hK K)
  (refine wpAnyH_ready (rs := [4]) (by kernel_rfl) (by simp) ?_; refine AllReadyH.cons rfl (fun K hK => ?_) AllReadyH.nil); go_simp; refine (l01Classes_calls M L S hg _).mono ?_; rintro e w4 ⟨rfl, hb4⟩; have hB4 := hB3.keptAll hb4; have hR4 := hR3.keptAll hb4; have hbw4 := below_step hbw3 hb4
  (go_simp; refine hK.out _ _ (hB4) (fun hS2 => ?_); clear hK K)
  (refine wpAnyH_ready (rs := [6]) (by kernel_rfl) (by simp) ?_; refine AllReadyH.cons rfl (fun K hK => ?_) AllReadyH.nil); go_simp; refine (l01Trivial_calls M L S hg _).mono ?_; rintro e w5 ⟨⟨l, rfl, hll, hl⟩, hb5⟩; have hB5 := hB4.keptAll hb5; have hR5 := hR4.keptAll hb5; have hbw5 := below_step hbw4 hb5
  (go_simp; refine hK.out _ _ (hB5) (fun hS3 => ?_); clear hK K)
  have hL : TuL M L S l := ⟨hll, hl⟩
  have hts := tu_size hg hL
  refine hK_take 7 (.agg (tuC M L S l)) rfl (by kernel_rfl) (by kernel_rfl) (by kernel_rfl) (fun _ _ _ h => h) rfl (fun W _ => exec_build4 59 (.tmp 3) (.tmp 5) (.tmp 7) (.tmp 9) rfl _ _ _ _ rfl rfl rfl rfl _ (built_tu hg hL) W) hS3 ?_; (intro K hK; go_simp; refine hK _ ?_; clear hK K)
  refine hK_store 8 rfl (by kernel_rfl) rfl 59 (.tmp 2) (.tmp 10) rfl (w.heap.size + 1) 0 (tuC M L S l) rfl rfl z _ hR5 (by omega) (by rw [hts]; exact hsz) (tu_one M L S l) _ (over_all _ _ (by omega)) (fun w6 hs6 => ?_)
  have hB6 := hs6.keep (by omega) hB5
  have hR6 := hs6.blk
  have hbw6 := hs6.below _ _ (by omega) hbw5
  refine ⟨hB6, fun hS4 => ?_⟩
  (intro K hK; go_simp; refine hK _ ?_; clear hK K)
  refine wpAnyH_done (by kernel_rfl) ?_ _
  go_wp2
  exact bodyPost_cell rfl rfl hR6 Try.underlying59 rfl (by rw [hts]; exact hsz) rfl ⟨⟨l, rfl, hL⟩, hbw6⟩
end Go.Proofs.Yticnpajbefflbac
