/- The model's sets of equal states: 'l01Same', 'l01Classes'. -/
import Derived.Test.YticnplcjjkilpaaMinN
import Derived.Test.YticnplcjjkilpaaArgs
namespace Go.Proofs.Yticnplcjjkilpaa
open Go.RowKit

theorem ints_at (c : List Int) (i : Nat) (hi : i < c.length) : (ints c)[i]? = some (.int .i64 (c.getD i 0)) := by
  simp [ints, List.getD, List.getElem?_eq_getElem hi]
theorem ints_one (c : List Int) : (ints c).all (·.oneCell') = true := by
  rw [Array.all_eq_true_iff_forall_mem]
  intro v hv
  simp only [ints, List.mem_toArray, List.mem_map] at hv
  obtain ⟨n, _, rfl⟩ := hv
  rfl
def sameUp (M : Mach) (cl : List Int) (q r k : Nat) : Bool := (List.range k).all fun x => decide (M.o q x = M.o r x) && decide (cl.getD (nn M q x) 0 = cl.getD (nn M r x) 0)
theorem sameUp_succ (M : Mach) (cl : List Int) (q r k : Nat) : sameUp M cl q r (k + 1) = (sameUp M cl q r k && (decide (M.o q k = M.o r k) && decide (cl.getD (nn M q k) 0 = cl.getD (nn M r k) 0))) := by
  simp [sameUp, List.range_succ]
theorem sameUp_no (M : Mach) (cl : List Int) (q r k L : Nat) (hk : k < L) (h : (decide (M.o q k = M.o r k) && decide (cl.getD (nn M q k) 0 = cl.getD (nn M r k) 0)) = false) : sameUp M cl q r L = false := by
  unfold sameUp; rw [List.all_eq_false]; exact ⟨k, by simpa using hk, by rw [h]; simp⟩

set_option maxRecDepth 100000 in
set_option maxHeartbeats 1000000 in
theorem l01Same_calls (M : Mach) (L S : Nat) (hg : Good M L S) (cl : List Int) (hcl : cl.length = 16) (q r : Nat) (hq : q < S) (hr : r < S) (w : World) :
    Calls Try.prog 54 #[.agg (mc M), .agg (ints cl), .int .i64 q, .int .i64 r] w fun e w' => e = .returned (.bool (sameUp M cl q r L)) ∧ Below w.heap.size w w' := by
  have hok := hg.ok
  have hL3 := hg.L3
  have hS16 := hg.S16
  have hcL := mc_L M
  rw [hg.hL] at hcL
  have Hg := Lib.hid hg; clear hg
  have hB1 : Blk ((w.alloc (.cells (mc M) 29)).alloc (.cells (ints cl) 49)) w.heap.size (mc M) 29 := (Blk.new w _ _).alloc _
  have hC1 : Blk ((w.alloc (.cells (mc M) 29)).alloc (.cells (ints cl) 49)) (w.heap.size + 1) (ints cl) 49 := Blk.new_at _ _ _ _ (by simp)
  have hbw0 : Below w.heap.size w ((w.alloc (.cells (mc M) 29)).alloc (.cells (ints cl) 49)) := by (repeat (first | exact Below.refl _ _ | refine below_drew' ?_ | refine below_drewN' ?_ _ | refine below_alloc' ?_ _ | refine below_set' ?_ (by (try simp); (try omega)) _ | refine below_step ?_ (by assumption)))
  have hqi : (q : Int) < 16 := by omega
  have hri : (r : Int) < 16 := by omega
  go_enter Try.func54, Try.ntmps54
  go_wp2
  go_loopw [9] (fun i wr => ∃ k : Nat, k ≤ L ∧ i = .int .i64 k ∧ Blk wr w.heap.size (mc M) 29 ∧ Blk wr (w.heap.size + 1) (ints cl) 49 ∧ Below w.heap.size w wr ∧ Hid (sameUp M cl q r k = true)) (fun i _ => L - (intOf i).toNat)
  case atStart => exact ⟨0, by omega, rfl, hB1, hC1, hbw0, Lib.hid rfl⟩
  case round =>
    clear hB1 hC1 hbw0
    obtain ⟨k, hk, rfl, hB, hC, hbw, HU⟩ := hrel
    have cA := hB.cell
    by_cases hlt : k < L
    · have hki : (k : Int) < 3 := by omega
      have hk3 : k < 3 := by omega
      have o1 := mc_o hok q k (by omega) hk3
      have o2 := mc_o hok r k (by omega) hk3
      have n1 := mc_n hok q k (by omega) hk3
      have n2 := mc_n hok r k (by omega) hk3
      rw [Hg.out.nn_eq q k hq hlt] at n1
      rw [Hg.out.nn_eq r k hr hlt] at n2
      have l1 := Hg.out.nn_lt q k hq hlt
      have l2 := Hg.out.nn_lt r k hr hlt
      have e1 := ints_at cl (nn M q k) (by omega)
      have e2 := ints_at cl (nn M r k) (by omega)
      have Hs := Lib.hid (sameUp_succ M cl q r k)
      have Hno : Hid ((decide (M.o q k = M.o r k) && decide (cl.getD (nn M q k) 0 = cl.getD (nn M r k) 0)) = false → sameUp M cl q r L = false) := Lib.hid (sameUp_no M cl q r k L hlt)
      have b1 : (nn M q k : Int) < 16 := by omega
      have b2 : (nn M r k : Int) < 16 := by omega
      generalize cl.getD (nn M q k) 0 = c1 at *
      generalize cl.getD (nn M r k) 0 = c2 at *
      generalize nn M q k = p1 at *
      generalize nn M r k = p2 at *
      generalize M.o q k = v1 at *
      generalize M.o r k = v2 at *
      have hB0 := hB.drew; have hC0 := hC.drew; have hbw0 := below_drew' hbw
      have cC := hC.cell
      by_cases hv : v1 = v2
      · have hv' : (v1 != v2) = false := by simpa using hv
        by_cases hc : c1 = c2
        · have hc' : (c1 != c2) = false := by simpa using hc
          have Hn : Hid (sameUp M cl q r (k + 1) = true) := Lib.hid (by rw [Hs.out, HU.out]; simp [hv, hc])
          clear hv hc Hno Hs
          go_wp2
          go_quiet (fail)
          go_wp2
          go_roundw
          case rel => exact ⟨k + 1, by omega, by go_num, hB.drewN _, hC.drewN _, by (repeat (first | exact Below.refl _ _ | refine below_drew' ?_ | refine below_drewN' ?_ _ | refine below_alloc' ?_ _ | refine below_set' ?_ (by (try simp); (try omega)) _ | refine below_step ?_ (by assumption))), Hn⟩
          case measure => simp [intOf] <;> omega
        · have hc' : (c1 != c2) = true := by simpa using hc
          have Hn := Lib.hid (Hno.out (by simp [hc]))
          clear hv hc Hno Hs
          go_wp2
          go_quiet (fail)
          go_wp2
          go_ret
          exact ⟨ret_bool Hn.out.symm, by (repeat (first | exact Below.refl _ _ | refine below_drew' ?_ | refine below_drewN' ?_ _ | refine below_alloc' ?_ _ | refine below_set' ?_ (by (try simp); (try omega)) _ | refine below_step ?_ (by assumption)))⟩
      · have hv' : (v1 != v2) = true := by simpa using hv
        have Hn := Lib.hid (Hno.out (by simp [hv]))
        clear hv Hno Hs
        go_wp2
        go_quiet (fail)
        go_wp2
        go_ret
        exact ⟨ret_bool Hn.out.symm, by (repeat (first | exact Below.refl _ _ | refine below_drew' ?_ | refine below_drewN' ?_ _ | refine below_alloc' ?_ _ | refine below_set' ?_ (by (try simp); (try omega)) _ | refine below_step ?_ (by assumption)))⟩
    · obtain rfl : k = L := by omega
      go_wp2
      go_ret
      exact ⟨ret_bool HU.out.symm, hbw⟩

/-- The least equal states at the time t, as the model has them. -/
def clsS (M : Mach) (L S t : Nat) : List Int := (List.range 16).map fun q => if q < S then (lst M L t q : Int) else 0
theorem clsS_len (M : Mach) (L S t : Nat) : (clsS M L S t).length = 16 := by simp [clsS]
theorem clsS_at (M : Mach) (L S t q : Nat) (hq : q < S) (hS : S ≤ 16) : (clsS M L S t).getD q 0 = (lst M L t q : Int) := by
  unfold clsS
  rw [List.getD, List.getElem?_map, List.getElem?_range (by omega)]
  simp [hq]
theorem clsS_zero (M : Mach) (L S : Nat) : clsS M L S 0 = List.replicate 16 0 := by
  have h : (fun q => if q < S then (lst M L 0 q : Int) else 0) = fun _ => 0 := by
    funext q
    rw [lst_zero]
    split <;> rfl
  unfold clsS
  rw [h]
  rfl
theorem sameUp_iff {M : Mach} {L S t : Nat} (hg : Good M L S) (q r : Nat) (hq : q < S) (hr : r < S) : sameUp M (clsS M L S t) q r L = eqB M L (t + 1) q r := by
  rw [Bool.eq_iff_iff, eqB_succ]
  unfold sameUp
  simp only [List.all_eq_true, List.mem_range, Bool.and_eq_true, decide_eq_true_eq]
  constructor
  · intro h x hx
    have := h x hx
    rw [clsS_at M L S t _ (hg.nn_lt q x hq hx) hg.S16, clsS_at M L S t _ (hg.nn_lt r x hr hx) hg.S16] at this
    exact ⟨this.1, (lst_iff M L t _ _).1 (by omega)⟩
  · intro h x hx
    rw [clsS_at M L S t _ (hg.nn_lt q x hq hx) hg.S16, clsS_at M L S t _ (hg.nn_lt r x hr hx) hg.S16]
    exact ⟨(h x hx).1, by rw [(lst_iff M L t _ _).2 (h x hx).2]⟩
/-- The least equal states of the first q states, at the next time. -/
def nxtS (M : Mach) (L t q : Nat) : List Int := (List.range 16).map fun p => if p < q then (lst M L (t + 1) p : Int) else 0
theorem nxtS_len (M : Mach) (L t q : Nat) : (nxtS M L t q).length = 16 := by simp [nxtS]
theorem nxtS_zero (M : Mach) (L t : Nat) : nxtS M L t 0 = List.replicate 16 0 := rfl
theorem nxtS_all (M : Mach) (L S t : Nat) : nxtS M L t S = clsS M L S (t + 1) := rfl
theorem nxtS_set (M : Mach) (L t k : Nat) (v : Int) (hv : v = (lst M L (t + 1) k : Int)) : (nxtS M L t k).set k v = nxtS M L t (k + 1) := by
  subst hv
  apply List.ext_getElem
  · simp [nxtS]
  · intro i h1 h2
    simp only [nxtS, List.getElem_set, List.getElem_map, List.getElem_range]
    by_cases h : k = i
    · subst h; simp
    · rw [if_neg h]
      by_cases h3 : i < k
      · rw [if_pos h3, if_pos (by omega)]
      · rw [if_neg h3, if_neg (by omega)]
theorem nxtS_at (M : Mach) (L t q r : Nat) (hr : r < q) (hq : q < 16) (v : Int) : ((nxtS M L t q).set q v).getD r 0 = (lst M L (t + 1) r : Int) := by
  rw [List.getD, List.getElem?_set, if_neg (by omega)]
  unfold nxtS
  rw [List.getElem?_map, List.getElem?_range (by omega)]
  simp [hr]
theorem lst_found {M : Mach} {L t q r : Nat} (_hr : r < q) (h : eqB M L t q r = true) (hno : ∀ p, p < r → eqB M L t q p = false) : lst M L t r = lst M L t q ∧ lst M L t q = r := by
  have e := (lst_iff M L t q r).2 h
  refine ⟨e.symm, ?_⟩
  obtain ⟨h1, h2, h3⟩ := lst_at M L t q
  rcases Nat.lt_trichotomy (lst M L t q) r with h4 | h4 | h4
  · rw [hno _ h4] at h2; cases h2
  · exact h4
  · rw [h3 r h4] at h; cases h
theorem lst_alone {M : Mach} {L t q : Nat} (hno : ∀ p, p < q → eqB M L t q p = false) : lst M L t q = q := by
  have := (rep_iff M L t q).2 hno
  simpa [repB] using this
end Go.Proofs.Yticnplcjjkilpaa
