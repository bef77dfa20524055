/- The orbit of a word under a state, as plain data: it comes back, for a state acts one to one. -/
import Derived.Test.YtdbdoohcpcjfdaaLevM
namespace Go.Proofs.Ytdbdoohcpcjfdaa
open Go.RowKit

theorem snoc_of_len {α : Type} {l : List α} {n : Nat} (h : l.length = n + 1) : ∃ a c, l = a ++ [c] ∧ a.length = n := by
  have hne : l ≠ [] := by intro e; rw [e] at h; simp at h
  exact ⟨l.dropLast, l.getLast hne, (List.dropLast_concat_getLast hne).symm, by simp [h]⟩
theorem pigeon : ∀ (N : Nat) (g : Nat → Nat), (∀ i, i ≤ N → g i < N) → ∃ i j, i < j ∧ j ≤ N ∧ g i = g j := by
  intro N
  induction N with
  | zero => intro g h; have := h 0 (Nat.le_refl _); omega
  | succ N ih =>
    intro g h
    by_cases he : ∃ i, i ≤ N ∧ g i = g (N + 1)
    · obtain ⟨i, hi, e⟩ := he
      exact ⟨i, N + 1, by omega, Nat.le_refl _, e⟩
    · have hne : ∀ i, i ≤ N → g i ≠ g (N + 1) := fun i hi e => he ⟨i, hi, e⟩
      obtain ⟨i, j, hij, hj, e⟩ := ih (fun i => if g i = N then g (N + 1) else g i) (fun i hi => by
        have h1 := h i (by omega)
        have h2 := h (N + 1) (Nat.le_refl _)
        have h3 := hne i hi
        show (if g i = N then g (N + 1) else g i) < N
        split <;> omega)
      refine ⟨i, j, hij, by omega, ?_⟩
      have h1 := hne i (by omega)
      have h2 := hne j hj
      split at e <;> split at e <;> omega

theorem Good.apart {M : Mach} {L S : Nat} (h : Good M L S) (q x y : Nat) (hq : q < S) (hx : x < y) (hy : y < L) : M.o q x ≠ M.o q y := by
  have := h.cell q y hq hy
  simp only [cellOk, Bool.and_eq_true, decide_eq_true_eq, Bool.not_eq_true'] at this
  have h3 := this.2.2
  unfold seenB at h3
  rw [List.any_eq_false] at h3
  have := h3 x (by simpa using hx)
  simpa using this
theorem Good.o_inj {M : Mach} {L S : Nat} (h : Good M L S) (q x y : Nat) (hq : q < S) (hx : x < L) (hy : y < L) (e : M.o q x = M.o q y) : x = y := by
  rcases Nat.lt_trichotomy x y with hl | he | hl
  · exact absurd e (h.apart q x y hq hl hy)
  · exact he
  · exact absurd e.symm (h.apart q y x hq hl hx)
theorem Good.run_st {M : Mach} {L S : Nat} (h : Good M L S) (q : Nat) (hq : q < S) (l : List UInt8) (hl : lettersL L l = true) : (runL M q l).1 < S := by
  have := h.st_lt q hq l hl l.length (Nat.le_refl _)
  rwa [List.take_length] at this
theorem Good.run_inj {M : Mach} {L S : Nat} (h : Good M L S) (q : Nat) (hq : q < S) : ∀ n (a b : List UInt8), a.length = n → b.length = n → lettersL L a = true → lettersL L b = true → (runL M q a).2 = (runL M q b).2 → a = b := by
  intro n
  induction n with
  | zero => intro a b ha hb _ _ _; rw [List.eq_nil_of_length_eq_zero ha, List.eq_nil_of_length_eq_zero hb]
  | succ n ih =>
    intro a b ha hb la lb e
    obtain ⟨a', c, rfl, ha'⟩ := snoc_of_len ha
    obtain ⟨b', d, rfl, hb'⟩ := snoc_of_len hb
    rw [lettersL_snoc, Bool.and_eq_true] at la lb
    rw [runL_snoc, runL_snoc] at e
    simp only [stepL] at e
    obtain ⟨e1, e2⟩ := List.append_inj' e rfl
    obtain rfl := ih a' b' ha' hb' la.1 lb.1 e1
    have hst := h.run_st q hq a' la.1
    have hc := (letterB_iff L c).1 la.2
    have hd := (letterB_iff L d).1 lb.2
    have e3 : dig (M.o (runL M q a').1 (c.toNat - 48)) = dig (M.o (runL M q a').1 (d.toNat - 48)) := by simpa using e2
    obtain ⟨c0, c1⟩ := h.o_lt _ (c.toNat - 48) hst (by omega)
    obtain ⟨d0, d1⟩ := h.o_lt _ (d.toNat - 48) hst (by omega)
    have hL3 := h.L3
    have e4 := dig_toNat _ c0 (by omega)
    have e5 := dig_toNat _ d0 (by omega)
    rw [e3] at e4
    have e6 := h.o_inj _ _ _ hst (by omega) (by omega) (show M.o (runL M q a').1 (c.toNat - 48) = M.o (runL M q a').1 (d.toNat - 48) by omega)
    have : c = d := UInt8.toNat_inj.1 (by omega)
    rw [this]
theorem num_inj (L : Nat) (hL : 0 < L) : ∀ n (a b : List UInt8), a.length = n → b.length = n → lettersL L a = true → lettersL L b = true → numL L a = numL L b → a = b := by
  intro n
  induction n with
  | zero => intro a b ha hb _ _ _; rw [List.eq_nil_of_length_eq_zero ha, List.eq_nil_of_length_eq_zero hb]
  | succ n ih =>
    intro a b ha hb la lb e
    obtain ⟨a', c, rfl, ha'⟩ := snoc_of_len ha
    obtain ⟨b', d, rfl, hb'⟩ := snoc_of_len hb
    rw [lettersL_snoc, Bool.and_eq_true] at la lb
    rw [numL_snoc, numL_snoc] at e
    have hc := (letterB_iff L c).1 la.2
    have hd := (letterB_iff L d).1 lb.2
    have hx : c.toNat - 48 < L := by omega
    have hy : d.toNat - 48 < L := by omega
    have e1 := congrArg (· % L) e
    have e2 := congrArg (· / L) e
    simp only [Nat.mul_comm _ L, Nat.mul_add_mod, Nat.mul_add_div hL, Nat.mod_eq_of_lt hx, Nat.mod_eq_of_lt hy, Nat.div_eq_of_lt hx, Nat.div_eq_of_lt hy, Nat.add_zero] at e1 e2
    rw [ih a' b' ha' hb' la.1 lb.1 e2]
    have : c = d := UInt8.toNat_inj.1 (by omega)
    rw [this]

/-- The word behind i steps. -/
def itL (M : Mach) (q : Nat) (w : List UInt8) : Nat → List UInt8
  | 0 => w
  | i + 1 => (runL M q (itL M q w i)).2
theorem itL_len (M : Mach) (q : Nat) (w : List UInt8) : ∀ i, (itL M q w i).length = w.length
  | 0 => rfl
  | i + 1 => by rw [itL, runL_len, itL_len M q w i]
theorem Good.itL_letters {M : Mach} {L S : Nat} (h : Good M L S) (q : Nat) (hq : q < S) (w : List UInt8) (hw : lettersL L w = true) : ∀ i, lettersL L (itL M q w i) = true
  | 0 => hw
  | i + 1 => h.letters_all q hq _ (h.itL_letters q hq w hw i)
theorem Good.itL_back {M : Mach} {L S : Nat} (h : Good M L S) (q : Nat) (hq : q < S) (w : List UInt8) (hw : lettersL L w = true) (k : Nat) : ∀ i, itL M q w i = itL M q w (i + k) → itL M q w k = w
  | 0, e => by rw [Nat.zero_add] at e; exact e.symm
  | i + 1, e => by
    rw [show i + 1 + k = (i + k) + 1 from by omega] at e
    exact h.itL_back q hq w hw k i (h.run_inj q hq w.length _ _ (itL_len M q w i) (itL_len M q w (i + k)) (h.itL_letters q hq w hw _) (h.itL_letters q hq w hw _) e)

/-- The first i from the given one on that fits. -/
def firstOf (P : Nat → Bool) : Nat → Nat → Nat
  | 0, i => i
  | f + 1, i => if P i then i else firstOf P f (i + 1)
theorem firstOf_ok (P : Nat → Bool) : ∀ f i p, i ≤ p → p ≤ i + f → P p = true → i ≤ firstOf P f i ∧ firstOf P f i ≤ p ∧ P (firstOf P f i) = true ∧ ∀ j, i ≤ j → j < firstOf P f i → P j = false
  | 0, i, p, h1, h2, hp => by
    obtain rfl : i = p := by omega
    exact ⟨Nat.le_refl _, Nat.le_refl _, hp, fun j a b => absurd b (by show ¬ j < i; omega)⟩
  | f + 1, i, p, h1, h2, hp => by
    unfold firstOf
    cases hi : P i
    · have hne : i ≠ p := by intro e; rw [e] at hi; rw [hi] at hp; cases hp
      obtain ⟨a, b, c, d⟩ := firstOf_ok P f (i + 1) p (by omega) (by omega) hp
      simp only [Bool.false_eq_true, if_false]
      refine ⟨by omega, b, c, fun j h3 h4 => ?_⟩
      by_cases hj : j = i
      · rw [hj]; exact hi
      · exact d j (by omega) h4
    · simp only [if_true]
      exact ⟨Nat.le_refl _, h1, hi, fun j a b => absurd b (by omega)⟩
/-- The length of the orbit. -/
def orbN (M : Mach) (q : Nat) (w : List UInt8) : Nat := firstOf (fun i => decide (itL M q w i = w)) 243 1
theorem Good.orb {M : Mach} {L S : Nat} (h : Good M L S) (q : Nat) (hq : q < S) (w : List UInt8) (hw : lettersL L w = true) (hn : w.length ≤ 5) :
    1 ≤ orbN M q w ∧ orbN M q w ≤ 243 ∧ itL M q w (orbN M q w) = w ∧ ∀ j, 1 ≤ j → j < orbN M q w → itL M q w j ≠ w := by
  have hL3 := h.L3
  have hL2 := h.L2
  obtain ⟨i, j, hij, hj, e⟩ := pigeon 243 (fun i => numL L (itL M q w i)) (fun i _ => by
    have := numI_bd L (itL M q w i) hL3 (by rw [itL_len]; exact hn) (h.itL_letters q hq w hw i) (itL M q w i).length (Nat.le_refl _)
    rw [List.take_length] at this
    unfold numI at this
    show numL L (itL M q w i) < 243
    omega)
  have e1 := num_inj L (by omega) w.length _ _ (itL_len M q w i) (itL_len M q w j) (h.itL_letters q hq w hw _) (h.itL_letters q hq w hw _) e
  have e2 := h.itL_back q hq w hw (j - i) i (by rw [show i + (j - i) = j from by omega]; exact e1)
  obtain ⟨a, b, c, d⟩ := firstOf_ok (fun i => decide (itL M q w i = w)) 243 1 (j - i) (by omega) (by omega) (by simpa using e2)
  exact ⟨a, by unfold orbN; omega, by simpa [orbN] using c, fun k h1 h2 => by simpa using d k h1 h2⟩
/-- The first k words of the orbit. -/
def orbK (M : Mach) (q : Nat) (w : List UInt8) (k : Nat) : List ByteArray := (List.range k).map fun i => ⟨(itL M q w i).toArray⟩
theorem orbK_len (M : Mach) (q : Nat) (w : List UInt8) (k : Nat) : (orbK M q w k).length = k := by simp [orbK]
theorem orbK_snoc (M : Mach) (q : Nat) (w : List UInt8) (k : Nat) : orbK M q w (k + 1) = orbK M q w k ++ [⟨(itL M q w k).toArray⟩] := by simp [orbK, List.range_succ]
end Go.Proofs.Ytdbdoohcpcjfdaa
