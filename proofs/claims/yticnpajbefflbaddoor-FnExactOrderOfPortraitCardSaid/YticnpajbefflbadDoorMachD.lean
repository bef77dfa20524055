/- 'IsMachine': the program's check comes to the model's. -/
import Derived.Test.YticnpajbefflbadDoorMachC
import Derived.Test.YticnpajbefflbadDoorMachU
import Derived.Test.YticnpajbefflbadDoorHeldK
namespace Go.Proofs.YticnpajbefflbadDoor
open Go.RowKit

/-- The entries that are used are good in the first q rows. -/
def rowsUpTo (M : Mach) (L S q : Nat) : Bool := (List.range q).all fun i => rowUpTo M L S i L
theorem rowsUpTo_succ (M : Mach) (L S q : Nat) : rowsUpTo M L S (q + 1) = (rowsUpTo M L S q && rowUpTo M L S q L) := by simp [rowsUpTo, List.range_succ]
theorem rowsUpTo_bad {M : Mach} {L S q m : Nat} (hq : q < m) (h : rowUpTo M L S q L = false) : rowsUpTo M L S m = false := by
  unfold rowsUpTo; rw [List.all_eq_false]; exact ⟨q, by simpa using hq, by simp [h]⟩

theorem used_iff {M : Mach} (h : M.Ok) (L S : Nat) (_ : S ≤ 16) (_ : L ≤ 3) : M = usedM M L S S ↔ ∀ q x, q < 16 → x < 3 → ¬ (q < S ∧ x < L) → M.n q x = 0 ∧ M.o q x = 0 := by
  have h1 := h.nx48; have h2 := h.ot48
  have lem : ∀ l : List Int, l.length = 48 → (l = usedL l L S ↔ ∀ q x, q < 16 → x < 3 → ¬ (q < S ∧ x < L) → l.getD (q * 3 + x) 0 = 0) := fun l hl => by
    constructor
    · intro e q x hq hx hn
      have := congrArg (fun l => l.getD (q * 3 + x) 0) e
      rw [this, usedL_get _ _ _ _ (by omega), if_neg (by omega)]
    · intro hz
      apply List.ext_getElem
      · rw [hl, usedL_len]
      · intro i hi1 hi2
        have e := usedL_get l L S i (by omega)
        rw [List.getD, List.getElem?_eq_getElem hi2] at e
        simp only [Option.getD_some] at e
        rw [e]
        split
        · simp [List.getD, List.getElem?_eq_getElem hi1]
        · rename_i hn
          have := hz (i / 3) (i % 3) (by omega) (by omega) hn
          rw [show i / 3 * 3 + i % 3 = i from by omega] at this
          simpa [List.getD, List.getElem?_eq_getElem hi1] using this
  constructor
  · intro e q x hq hx hn
    have e1 : M.nx = usedL M.nx L S := congrArg Mach.nx e
    have e2 : M.ot = usedL M.ot L S := congrArg Mach.ot e
    exact ⟨(lem M.nx h1).1 e1 q x hq hx hn, (lem M.ot h2).1 e2 q x hq hx hn⟩
  · intro hz
    have e1 := (lem M.nx h1).2 fun q x hq hx hn => (hz q x hq hx hn).1
    have e2 := (lem M.ot h2).2 fun q x hq hx hn => (hz q x hq hx hn).2
    unfold usedM; rw [← e1, ← e2]

theorem mach_iff {M : Mach} (h : M.Ok) (L S : Nat) (h16 : S ≤ 16) (h3 : L ≤ 3) : machUpTo M L S 16 = (rowsUpTo M L S S && decide (M = usedM M L S S)) := by
  rw [Bool.eq_iff_iff, Bool.and_eq_true, decide_eq_true_iff, used_iff h L S h16 h3]
  simp only [machUpTo, rowsUpTo, rowAll, rowUpTo, List.all_eq_true, List.mem_range]
  constructor
  · intro hm
    refine ⟨fun q hq x hx => ?_, fun q x hq hx hn => ?_⟩
    · have := hm q (by omega) x (by omega)
      unfold cellAll at this; rwa [if_pos ⟨hq, hx⟩] at this
    · have := hm q hq x hx
      unfold cellAll at this; rw [if_neg hn] at this; simpa using this
  · rintro ⟨hr, hz⟩ q hq x hx
    unfold cellAll
    by_cases c : q < S ∧ x < L
    · rw [if_pos c]; exact hr q c.1 x c.2
    · rw [if_neg c]; simpa using hz q x hq hx c

end Go.Proofs.YticnpajbefflbadDoor
