/- 'l07State' by itself (a small text, for the laws of chapter 9). -/
import Derived.Test.YtdbdoohcpcjfdaaLawB
import Derived.Test.YtdbdoohcpcjfdaaMachD
import Derived.Test.YtdbdoohcpcjfdaaWordA0
namespace Go.Proofs.Ytdbdoohcpcjfdaa
open Go.RowKit

def stIn (M : Mach) (q : Int) : Bool := decide (0 ≤ q ∧ q < M.S)
def stCd (M : Mach) (q : Int) : Int := if isMach M = true then (if stIn M q = true then 0 else 2) else 1
theorem stIn_model (M : Mach) (q : Int) : decide (0 ≤ q ∧ q ≤ M.S - 1) = stIn M q := by
  unfold stIn; exact decide_eq_decide.2 ⟨fun h => ⟨h.1, by omega⟩, fun h => ⟨h.1, by omega⟩⟩
theorem stMach_small {M : Mach} (h : isMach M = true) : 2 ≤ M.L ∧ M.L ≤ 3 ∧ 1 ≤ M.S ∧ M.S ≤ 16 := by
  unfold isMach at h
  simp only [Bool.and_eq_true, decide_eq_true_eq] at h
  omega
theorem stWrap {s : Int} (h : 1 ≤ s ∧ s ≤ 16) : IntKind.i64.wrap (s - 1) = s - 1 := by simp [IntKind.wrap, IntKind.bits, IntKind.signed]; omega
theorem stCd_good {M : Mach} {q : Int} (hok : M.Ok) (h : stCd M q = 0) : ∃ (L S qn : Nat), Good M L S ∧ q = (qn : Int) ∧ qn < S := by
  unfold stCd at h
  split at h
  · rename_i hm
    obtain ⟨L, S, hg⟩ := Good.of hok hm
    split at h
    · rename_i hq
      have h2 : 0 ≤ q ∧ q < M.S := by unfold stIn at hq; exact of_decide_eq_true hq
      obtain ⟨qn, rfl⟩ := Int.eq_ofNat_of_zero_le h2.1
      have := hg.hS
      exact ⟨L, S, qn, hg, rfl, by omega⟩
    · omega
  · omega
set_option maxRecDepth 100000 in
set_option maxHeartbeats 1000000 in
theorem l07State_st (M : Mach) (hok : M.Ok) (q : Int) (w : World) :
    Calls Try.prog 35 #[.agg (mc M), .int .i64 q] w fun e w' => e = .returned (.int .i64 (stCd M q)) ∧ Below w.heap.size w w' := by
  have F1 : Hid (cut (mc M) 0 98 = mc M) := Lib.hid (cut_all _ _ (mc_size hok)); have F2 : Hid (0 + 98 ≤ (mc M).size) := Lib.hid (by rw [mc_size hok]; omega)
  have hB : Blk (w.alloc (.cells (mc M) 28)) w.heap.size (mc M) 28 := Blk.new w _ _
  have hb0 : Below w.heap.size w (w.alloc (.cells (mc M) 28)) := by (repeat (first | exact Below.refl _ _ | refine below_drew' ?_ | refine below_drewN' ?_ _ | refine below_alloc' ?_ _ | refine below_set' ?_ (by (try simp); (try omega)) _ | refine below_step ?_ (by assumption)))
  cases hm : isMach M
  · have Hc : Hid (stCd M q = 1) := Lib.hid (by simp [stCd, hm])
    go_enter Try.func35, Try.ntmps35
    go_wp2_with (first | (with_reducible show wpList _ _ _ _ _ _; refine wpList_load_blk rfl 28 (.tmp 2) rfl w.heap.size 0 rfl (mc M) _ (hB) 98 F2.out _ Try.underlying28 rfl size_mach ?_; rw [F1.out]) | (go_at_call 54; refine (l01Is_calls M hok _).mono ?_; rintro e w1 ⟨rfl, hc1⟩; rw [hm]; have hb1 := below_step hb0 hc1))
    go_ret
    exact ⟨ret_int Hc.out.symm, hb1⟩
  · obtain ⟨mL2, mL3, mS1, mS16⟩ := stMach_small hm
    have wM := stWrap ⟨mS1, mS16⟩
    cases hq : stIn M q
    · have Hc : Hid (stCd M q = 2) := Lib.hid (by simp [stCd, hm, hq])
      go_enter Try.func35, Try.ntmps35
      go_wp2_with (first | (with_reducible show wpList _ _ _ _ _ _; refine wpList_load_blk rfl 28 (.tmp 2) rfl w.heap.size 0 rfl (mc M) _ (hB) 98 F2.out _ Try.underlying28 rfl size_mach ?_; rw [F1.out]) | (go_at_call 54; refine (l01Is_calls M hok _).mono ?_; rintro e w1 ⟨rfl, hc1⟩; rw [hm]; have hb1 := below_step hb0 hc1; have sM := ((hB.keptAll hc1).cell 1).trans (mc_S M)) | (go_at_call 36; refine (l01In_calls q 0 (M.S - 1) _).mono ?_; rintro e w' ⟨rfl, rfl⟩; rw [stIn_model, hq]))
      go_ret
      exact ⟨ret_int Hc.out.symm, hb1⟩
    · have Hc : Hid (stCd M q = 0) := Lib.hid (by simp [stCd, hm, hq])
      go_enter Try.func35, Try.ntmps35
      go_wp2_with (first | (with_reducible show wpList _ _ _ _ _ _; refine wpList_load_blk rfl 28 (.tmp 2) rfl w.heap.size 0 rfl (mc M) _ (hB) 98 F2.out _ Try.underlying28 rfl size_mach ?_; rw [F1.out]) | (go_at_call 54; refine (l01Is_calls M hok _).mono ?_; rintro e w1 ⟨rfl, hc1⟩; rw [hm]; have hb1 := below_step hb0 hc1; have sM := ((hB.keptAll hc1).cell 1).trans (mc_S M)) | (go_at_call 36; refine (l01In_calls q 0 (M.S - 1) _).mono ?_; rintro e w' ⟨rfl, rfl⟩; rw [stIn_model, hq]))
      go_ret
      exact ⟨ret_int Hc.out.symm, hb1⟩
/-- A list of one's own does not lie in a block of another type. -/
theorem ownI_ne {w : World} {base b : Nat} {v : Value} {zs : List Int} {c : Array Value} {T : TypeId} (ho : OwnI w base v zs) (hB : Blk w b c T) (hT : T ≠ 2) : ∀ k, v.ownBlock = some k → k ≠ b := by
  rintro k hk rfl
  rcases ho.2 with ⟨rfl, _⟩ | ⟨g, c1, cur, rfl, _, hh, _⟩
  · cases hk
  · have : g = k := by simpa [Value.ownBlock] using hk
    subst this
    unfold Blk at hB
    rw [hh] at hB
    simp at hB
    exact hT hB.2.symm
theorem spares_t {w w' : World} {v : Value} {b base : Nat} {c : Array Value} {T : TypeId} {zs : List Int} (h : Spares w w' v) (hB : Blk w b c T) (ho : OwnI w base v zs) (hT : T ≠ 2) : Blk w' b c T := by
  unfold Blk
  rw [h b hB.lt (fun e => ownI_ne ho hB hT b e.symm rfl)]
  exact hB
end Go.Proofs.Ytdbdoohcpcjfdaa
