/- The model's sets of equal states: 'l01Same', 'l01Classes'. -/
import Derived.Test.YtkkooafjpancoaaMinN
import Derived.Test.YtkkooafjpancoaaArgs
namespace Go.Proofs.Ytkkooafjpancoaa
open Go.RowKit

theorem ints_at (c : List Int) (i : Nat) (hi : i < c.length) : (ints c)[i]? = some (.int .i64 (c.getD i 0)) := by
  simp [ints, List.getD, List.getElem?_eq_getElem hi]
theorem ints_one (c : List Int) : (ints c).all (·.oneCell') = true := by
  rw [Array.all_eq_true_iff_forall_mem]
  intro v hv
  simp only [ints, List.mem_toArray, List.mem_map] at hv
  obtain ⟨n, _, rfl⟩ := hv
  rfl
def sameUp (M : Mach) (cl : List Int) (q r k : Nat) : Bool := (List.range k).all fun x => decide (M.o q x = M.o r x) && decide (cl.getD (nn M q x) 0 = cl.getD (nn M r x) 0)
theorem sameUp_succ (M : Mach) (cl : List Int) (q r k : Nat) : sameUp M cl q r (k + 1) = (sameUp M cl q r k && (decide (M.o q k = M.o r k) && decide (cl.getD (nn M q k) 0 = cl.getD (nn M r k) 0))) := by
  simp [sameUp, List.range_succ]
theorem sameUp_no (M : Mach) (cl : List Int) (q r k L : Nat) (hk : k < L) (h : (decide (M.o q k = M.o r k) && decide (cl.getD (nn M q k) 0 = cl.getD (nn M r k) 0)) = false) : sameUp M cl q r L = false := by
  unfold sameUp; rw [List.all_eq_false]; exact ⟨k, by simpa using hk, by rw [h]; simp⟩

/-- The least equal states at the time t, as the model has them. -/
def clsS (M : Mach) (L S t : Nat) : List Int := (List.range 16).map fun q => if q < S then (lst M L t q : Int) else 0
theorem clsS_len (M : Mach) (L S t : Nat) : (clsS M L S t).length = 16 := by simp [clsS]
theorem clsS_at (M : Mach) (L S t q : Nat) (hq : q < S) (hS : S ≤ 16) : (clsS M L S t).getD q 0 = (lst M L t q : Int) := by
  unfold clsS
  rw [List.getD, List.getElem?_map, List.getElem?_range (by omega)]
  simp [hq]
theorem clsS_zero (M : Mach) (L S : Nat) : clsS M L S 0 = List.replicate 16 0 := by
  have h : (fun q => if q < S then (lst M L 0 q : Int) else 0) = fun _ => 0 := by
    funext q
    rw [lst_zero]
    split <;> rfl
  unfold clsS
  rw [h]
  rfl
theorem sameUp_iff {M : Mach} {L S t : Nat} (hg : Good M L S) (q r : Nat) (hq : q < S) (hr : r < S) : sameUp M (clsS M L S t) q r L = eqB M L (t + 1) q r := by
  rw [Bool.eq_iff_iff, eqB_succ]
  unfold sameUp
  simp only [List.all_eq_true, List.mem_range, Bool.and_eq_true, decide_eq_true_eq]
  constructor
  · intro h x hx
    have := h x hx
    rw [clsS_at M L S t _ (hg.nn_lt q x hq hx) hg.S16, clsS_at M L S t _ (hg.nn_lt r x hr hx) hg.S16] at this
    exact ⟨this.1, (lst_iff M L t _ _).1 (by omega)⟩
  · intro h x hx
    rw [clsS_at M L S t _ (hg.nn_lt q x hq hx) hg.S16, clsS_at M L S t _ (hg.nn_lt r x hr hx) hg.S16]
    exact ⟨(h x hx).1, by rw [(lst_iff M L t _ _).2 (h x hx).2]⟩
/-- The least equal states of the first q states, at the next time. -/
def nxtS (M : Mach) (L t q : Nat) : List Int := (List.range 16).map fun p => if p < q then (lst M L (t + 1) p : Int) else 0
theorem nxtS_len (M : Mach) (L t q : Nat) : (nxtS M L t q).length = 16 := by simp [nxtS]
theorem nxtS_zero (M : Mach) (L t : Nat) : nxtS M L t 0 = List.replicate 16 0 := rfl
theorem nxtS_all (M : Mach) (L S t : Nat) : nxtS M L t S = clsS M L S (t + 1) := rfl
theorem nxtS_set (M : Mach) (L t k : Nat) (v : Int) (hv : v = (lst M L (t + 1) k : Int)) : (nxtS M L t k).set k v = nxtS M L t (k + 1) := by
  subst hv
  apply List.ext_getElem
  · simp [nxtS]
  · intro i h1 h2
    simp only [nxtS, List.getElem_set, List.getElem_map, List.getElem_range]
    by_cases h : k = i
    · subst h; simp
    · rw [if_neg h]
      by_cases h3 : i < k
      · rw [if_pos h3, if_pos (by omega)]
      · rw [if_neg h3, if_neg (by omega)]
theorem nxtS_at (M : Mach) (L t q r : Nat) (hr : r < q) (hq : q < 16) (v : Int) : ((nxtS M L t q).set q v).getD r 0 = (lst M L (t + 1) r : Int) := by
  rw [List.getD, List.getElem?_set, if_neg (by omega)]
  unfold nxtS
  rw [List.getElem?_map, List.getElem?_range (by omega)]
  simp [hr]
theorem lst_found {M : Mach} {L t q r : Nat} (_hr : r < q) (h : eqB M L t q r = true) (hno : ∀ p, p < r → eqB M L t q p = false) : lst M L t r = lst M L t q ∧ lst M L t q = r := by
  have e := (lst_iff M L t q r).2 h
  refine ⟨e.symm, ?_⟩
  obtain ⟨h1, h2, h3⟩ := lst_at M L t q
  rcases Nat.lt_trichotomy (lst M L t q) r with h4 | h4 | h4
  · rw [hno _ h4] at h2; cases h2
  · exact h4
  · rw [h3 r h4] at h; cases h
theorem lst_alone {M : Mach} {L t q : Nat} (hno : ∀ p, p < q → eqB M L t q p = false) : lst M L t q = q := by
  have := (rep_iff M L t q).2 hno
  simpa [repB] using this
end Go.Proofs.Ytkkooafjpancoaa

namespace Go.Proofs.Ytkkooafjpancoaa
open Go.RowKit

end Go.Proofs.Ytkkooafjpancoaa
