/- The model's 'l01Trivial'. -/
import Derived.Test.YtolkfoecnmjofaaTriG
import Derived.Test.YtolkfoecnmjofaaMinL
import Derived.StillTailTactics
namespace Go.Proofs.Ytolkfoecnmjofaa
open Go.RowKit

/-- A row of truth values in memory. -/
def bl (l : List Bool) : Array Value := (l.map Value.bool).toArray
theorem bl_size (l : List Bool) : (bl l).size = l.length := by simp [bl]
theorem bl_at (l : List Bool) (i : Nat) (hi : i < l.length) : (bl l)[i]? = some (.bool (l.getD i false)) := by
  simp [bl, List.getD, List.getElem?_eq_getElem hi]
theorem bl_set (l : List Bool) (i : Nat) (v : Bool) : bl (l.set i v) = (bl l).setIfInBounds i (.bool v) := by
  apply Array.ext'; simp [bl]
theorem bl_one (l : List Bool) : (bl l).all (·.oneCell') = true := by
  rw [Array.all_eq_true_iff_forall_mem]
  intro v hv
  simp only [bl, List.mem_toArray, List.mem_map] at hv
  obtain ⟨n, _, rfl⟩ := hv
  rfl
def nob : List Bool := List.replicate 16 false
theorem info_b16 : (Try.prog.info? 75).map (fun i => (i.zero, i.size)) = some (some (.agg (bl nob)), 16) := by kernel_rfl
theorem zero_b16 : ∀ w, (zeroValue 75).run Try.prog w = .ok (.agg (bl nob)) w := (zero_of_info info_b16).1
theorem size_b16 : (Try.prog.info? 75).map (·.size) = some 16 := (zero_of_info info_b16).2
theorem getD_set (l : List Bool) (i j : Nat) (v : Bool) (hi : i < l.length) : (l.set i v).getD j false = if j = i then v else l.getD j false := by
  rw [List.getD, List.getElem?_set]
  by_cases h : j = i
  · subst h
    rw [if_pos rfl, if_pos hi, if_pos rfl]; rfl
  · rw [if_neg (fun e => h e.symm), if_neg h]; rfl

/-- The first q are true. -/
def OnesTo (q : Nat) (l : List Bool) : Prop := l.length = 16 ∧ ∀ p, p < q → l.getD p false = true
theorem OnesTo.next {q : Nat} {l : List Bool} (h : OnesTo q l) (hq : q < 16) : OnesTo (q + 1) (l.set q true) :=
  ⟨by rw [List.length_set]; exact h.1, fun p hp => by
    rw [getD_set l q p true (by rw [h.1]; exact hq)]
    split
    · rfl
    · exact h.2 p (by omega)⟩
/-- What the truth values tell, in the middle of a round. -/
structure TriInv (M : Mach) (L S t q k : Nat) (l : List Bool) : Prop where
  len : l.length = 16
  low : ∀ p, p < S → trivB M L S p = true → l.getD p false = true
  all : ∀ p, p < S → l.getD p false = true → idB M L t p = true
  past : ∀ p, p < q → p < S → l.getD p false = true → idB M L (t + 1) p = true
  cur : l.getD q false = true → ∀ x, x < k → M.o q x = (x : Int) ∧ idB M L t (nn M q x) = true
theorem TriInv.start {M : Mach} {L S : Nat} {l : List Bool} (hl : l.length = 16) (h : ∀ p, p < S → l.getD p false = true) : TriInv M L S 0 0 0 l :=
  ⟨hl, fun p hp _ => h p hp, fun _ _ _ => rfl, fun _ hp => absurd hp (by omega), fun _ _ hx => absurd hx (by omega)⟩
theorem TriInv.step {M : Mach} {L S t q k : Nat} {l : List Bool} (hg : Good M L S) (h : TriInv M L S t q k l) (hq : q < S) (hk : k < L) (v : Bool) (hv : v = (l.getD q false && decide (M.o q k = (k : Int)) && l.getD (nn M q k) false)) : TriInv M L S t q (k + 1) (l.set q v) := by
  have hS := hg.S16
  have hn := hg.nn_lt q k hq hk
  have hat := fun p => getD_set l q p v (by rw [h.len]; omega)
  refine ⟨by rw [List.length_set]; exact h.len, fun p hp ht => ?_, fun p hp e => ?_, fun p hp hpS e => ?_, fun e x hx => ?_⟩
  · rw [hat p]
    by_cases hpq : p = q
    · subst hpq
      have h1 := trivB_at hg hq ht k hk
      rw [if_pos rfl, hv, h.low p hp ht, h.low _ hn h1.2]
      simp [h1.1]
    · rw [if_neg hpq]; exact h.low p hp ht
  · rw [hat p] at e
    by_cases hpq : p = q
    · subst hpq
      rw [if_pos rfl, hv] at e
      simp only [Bool.and_eq_true] at e
      exact h.all p hp e.1.1
    · rw [if_neg hpq] at e; exact h.all p hp e
  · rw [hat p, if_neg (by omega)] at e
    exact h.past p hp hpS e
  · rw [hat q, if_pos rfl, hv] at e
    simp only [Bool.and_eq_true, decide_eq_true_eq] at e
    rcases Nat.lt_or_ge x k with h1 | h1
    · exact h.cur e.1.1 x h1
    · obtain rfl : x = k := by omega
      exact ⟨e.1.2, h.all _ hn e.2⟩
theorem TriInv.row {M : Mach} {L S t q : Nat} {l : List Bool} (h : TriInv M L S t q L l) : TriInv M L S t (q + 1) 0 l :=
  ⟨h.len, h.low, h.all, fun p hp hpS e => by
    rcases Nat.lt_or_ge p q with h1 | h1
    · exact h.past p h1 hpS e
    · obtain rfl : p = q := by omega
      exact (idB_succ M L t p).2 (h.cur e), fun _ _ hx => absurd hx (by omega)⟩
theorem TriInv.round {M : Mach} {L S t : Nat} {l : List Bool} (h : TriInv M L S t S 0 l) : TriInv M L S (t + 1) 0 0 l :=
  ⟨h.len, h.low, fun p hp e => h.past p hp hp e, fun _ hp => absurd hp (by omega), fun _ _ hx => absurd hx (by omega)⟩
theorem TriInv.fin {M : Mach} {L S : Nat} {l : List Bool} (h : TriInv M L S (S + 1) 0 0 l) (q : Nat) (hq : q < S) : l.getD q false = trivB M L S q := by
  rw [Bool.eq_iff_iff]
  exact ⟨fun e => h.all q hq e, fun e => h.low q hq e⟩

end Go.Proofs.Ytolkfoecnmjofaa
