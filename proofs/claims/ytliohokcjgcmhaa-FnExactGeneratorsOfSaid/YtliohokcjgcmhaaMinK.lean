/- Which states are equal, their least ones and their numbers; which states are trivial: plain data. -/
import Derived.Test.YtliohokcjgcmhaaMach
import Derived.Test.YtliohokcjgcmhaaMachU
import Derived.Maps.OwnSet
import Derived.Maps.OwnOps
import Derived.DeepKeys4
namespace Go.Proofs.Ytliohokcjgcmhaa
open Go.RowKit

/-- A number that grows, stays below a bound, and stays once it has stayed, stays from the bound on. -/
theorem stays_from (f : Nat → Nat) (S : Nat) (hm : ∀ t, f t ≤ f (t + 1)) (hb : ∀ t, f t ≤ S) (hs : ∀ t, f t = f (t + 1) → f (t + 1) = f (t + 2)) : ∀ t, S ≤ t → f t = f (t + 1) := by
  have h1 : ∀ t, f t = f (t + 1) ∨ t + 1 ≤ f (t + 1) := by
    intro t
    induction t with
    | zero => have := hm 0; omega
    | succ t ih =>
      rcases ih with ih | ih
      · exact .inl (hs t ih)
      · have := hm (t + 1); omega
  intro t ht
  rcases h1 t with h | h
  · exact h
  · have := hb (t + 1); omega

/-- How many i below k have p. -/
def cntB (p : Nat → Bool) : Nat → Nat
  | 0 => 0
  | k + 1 => cntB p k + if p k then 1 else 0
theorem cntB_le (p : Nat → Bool) : ∀ k, cntB p k ≤ k
  | 0 => Nat.le_refl _
  | k + 1 => by have := cntB_le p k; unfold cntB; split <;> omega
theorem cntB_mono (p q : Nat → Bool) : ∀ k, (∀ i, i < k → p i = true → q i = true) → cntB p k ≤ cntB q k
  | 0, _ => Nat.le_refl _
  | k + 1, h => by
    have ih := cntB_mono p q k (fun i hi => h i (by omega))
    have hk := h k (by omega)
    unfold cntB
    cases hp : p k <;> cases hq : q k <;> simp_all <;> omega
theorem cntB_same (p q : Nat → Bool) : ∀ k, (∀ i, i < k → p i = true → q i = true) → cntB p k = cntB q k → ∀ i, i < k → p i = q i
  | 0, _, _, i, hi => absurd hi (by omega)
  | k + 1, h, e, i, hi => by
    have h' : ∀ i, i < k → p i = true → q i = true := fun i hi => h i (by omega)
    have hl := cntB_mono p q k h'
    have hk := h k (by omega)
    unfold cntB at e
    have e2 : cntB p k = cntB q k ∧ p k = q k := by
      cases hp : p k <;> cases hq : q k <;> simp_all <;> omega
    rcases Nat.lt_or_ge i k with h1 | h1
    · exact cntB_same p q k h' e2.1 i h1
    · obtain rfl : i = k := by omega
      exact e2.2
theorem cntB_congr (p q : Nat → Bool) : ∀ k, (∀ i, i < k → p i = q i) → cntB p k = cntB q k
  | 0, _ => rfl
  | k + 1, h => by unfold cntB; rw [cntB_congr p q k (fun i hi => h i (by omega)), h k (by omega)]
theorem cntB_up (p : Nat → Bool) {i k : Nat} (h : i ≤ k) : cntB p i ≤ cntB p k := by
  induction h with
  | refl => exact Nat.le_refl _
  | step _ ih => exact Nat.le_trans ih (Nat.le_add_right _ _)
theorem cntB_lt (p : Nat → Bool) {i k : Nat} (h : i < k) (hp : p i = true) : cntB p i < cntB p k := by
  have h1 := cntB_up p (show i + 1 ≤ k from h)
  have h2 : cntB p (i + 1) = cntB p i + if p i then 1 else 0 := rfl
  rw [if_pos hp] at h2
  omega
theorem cntB_inj (p : Nat → Bool) {i k : Nat} (hi : p i = true) (hk : p k = true) (e : cntB p i = cntB p k) : i = k := by
  rcases Nat.lt_trichotomy i k with h | h | h
  · have := cntB_lt p h hi; omega
  · exact h
  · have := cntB_lt p h hk; omega

/-- The next state, as a plain number. -/
def nn (M : Mach) (q x : Nat) : Nat := (M.n q x).toNat
theorem Good.nn_lt {M : Mach} {L S : Nat} (hg : Good M L S) (q x : Nat) (hq : q < S) (hx : x < L) : nn M q x < S := by
  have := hg.n_lt q x hq hx; unfold nn; omega
theorem Good.nn_eq {M : Mach} {L S : Nat} (hg : Good M L S) (q x : Nat) (hq : q < S) (hx : x < L) : M.n q x = (nn M q x : Int) := by
  have := hg.n_lt q x hq hx; unfold nn; omega

/-- Do q and r lead the words of at most t letters alike? -/
def eqB (M : Mach) (L : Nat) : Nat → Nat → Nat → Bool
  | 0, _, _ => true
  | t + 1, q, r => (List.range L).all fun x => decide (M.o q x = M.o r x) && eqB M L t (nn M q x) (nn M r x)
theorem eqB_succ (M : Mach) (L t q r : Nat) : eqB M L (t + 1) q r = true ↔ ∀ x, x < L → M.o q x = M.o r x ∧ eqB M L t (nn M q x) (nn M r x) = true := by
  simp [eqB]
theorem eqB_refl (M : Mach) (L : Nat) : ∀ t q, eqB M L t q q = true
  | 0, _ => rfl
  | t + 1, q => (eqB_succ M L t q q).2 fun _ _ => ⟨rfl, eqB_refl M L t _⟩
theorem eqB_symm (M : Mach) (L : Nat) : ∀ t q r, eqB M L t q r = true → eqB M L t r q = true
  | 0, _, _, _ => rfl
  | t + 1, q, r, h => (eqB_succ M L t r q).2 fun x hx => by
    have := (eqB_succ M L t q r).1 h x hx
    exact ⟨this.1.symm, eqB_symm M L t _ _ this.2⟩
theorem eqB_trans (M : Mach) (L : Nat) : ∀ t q r s, eqB M L t q r = true → eqB M L t r s = true → eqB M L t q s = true
  | 0, _, _, _, _, _ => rfl
  | t + 1, q, r, s, h1, h2 => (eqB_succ M L t q s).2 fun x hx => by
    have a := (eqB_succ M L t q r).1 h1 x hx
    have b := (eqB_succ M L t r s).1 h2 x hx
    exact ⟨a.1.trans b.1, eqB_trans M L t _ _ _ a.2 b.2⟩
theorem eqB_less (M : Mach) (L : Nat) : ∀ t q r, eqB M L (t + 1) q r = true → eqB M L t q r = true
  | 0, _, _, _ => rfl
  | t + 1, q, r, h => (eqB_succ M L t q r).2 fun x hx => by
    have := (eqB_succ M L (t + 1) q r).1 h x hx
    exact ⟨this.1, eqB_less M L t _ _ this.2⟩
theorem eqB_le (M : Mach) (L : Nat) {s t : Nat} (h : s ≤ t) (q r : Nat) : eqB M L t q r = true → eqB M L s q r = true := by
  induction h with
  | refl => exact id
  | step _ ih => exact fun e => ih (eqB_less M L _ q r e)

/-- The least state that is equal to q. -/
def lst (M : Mach) (L t q : Nat) : Nat := ((List.range q).find? fun r => eqB M L t q r).getD q
theorem lst_at (M : Mach) (L t q : Nat) : lst M L t q ≤ q ∧ eqB M L t q (lst M L t q) = true ∧ ∀ r, r < lst M L t q → eqB M L t q r = false := by
  unfold lst
  cases h : (List.range q).find? fun r => eqB M L t q r with
  | none =>
    rw [List.find?_eq_none] at h
    refine ⟨Nat.le_refl _, eqB_refl M L t q, fun r hr => ?_⟩
    have := h r (by simpa using hr)
    simpa using this
  | some i =>
    rw [List.find?_range_eq_some] at h
    obtain ⟨h1, h2, h3⟩ := h
    refine ⟨by have : i < q := by simpa using h2
               simp; omega, h1, fun r hr => ?_⟩
    have := h3 r hr
    simpa using this
theorem lst_iff (M : Mach) (L t q r : Nat) : lst M L t q = lst M L t r ↔ eqB M L t q r = true := by
  obtain ⟨q1, q2, q3⟩ := lst_at M L t q
  obtain ⟨r1, r2, r3⟩ := lst_at M L t r
  constructor
  · intro e
    rw [e] at q2
    exact eqB_trans M L t _ _ _ q2 (eqB_symm M L t _ _ r2)
  · intro e
    have a : eqB M L t q (lst M L t r) = true := eqB_trans M L t _ _ _ e r2
    have b : eqB M L t r (lst M L t q) = true := eqB_trans M L t _ _ _ (eqB_symm M L t _ _ e) q2
    rcases Nat.lt_trichotomy (lst M L t q) (lst M L t r) with h | h | h
    · rw [r3 _ h] at b; cases b
    · exact h
    · rw [q3 _ h] at a; cases a
theorem lst_idem (M : Mach) (L t q : Nat) : lst M L t (lst M L t q) = lst M L t q := by
  rw [lst_iff]; exact eqB_symm M L t _ _ (lst_at M L t q).2.1
theorem lst_zero (M : Mach) (L q : Nat) : lst M L 0 q = 0 := by
  have h := (lst_iff M L 0 q 0).2 rfl
  have h0 := (lst_at M L 0 0).1
  omega
/-- Is it the least of its set? -/
def repB (M : Mach) (L t q : Nat) : Bool := decide (lst M L t q = q)
theorem repB_lst (M : Mach) (L t q : Nat) : repB M L t (lst M L t q) = true := by simp [repB, lst_idem]
theorem repB_up (M : Mach) (L t q : Nat) (h : repB M L t q = true) : repB M L (t + 1) q = true := by
  simp only [repB, decide_eq_true_eq] at *
  obtain ⟨h1, h2, h3⟩ := lst_at M L (t + 1) q
  rcases Nat.lt_or_ge (lst M L (t + 1) q) q with hlt | hge
  · have := (lst_at M L t q).2.2 (lst M L (t + 1) q) (by omega)
    rw [eqB_less M L t _ _ h2] at this
    cases this
  · omega
/-- Nothing is divided any further. -/
def Still (M : Mach) (L S t : Nat) : Prop := ∀ q r, q < S → r < S → eqB M L t q r = true → eqB M L (t + 1) q r = true
theorem still_of_reps (M : Mach) (L S t : Nat) (h : ∀ i, i < S → repB M L t i = repB M L (t + 1) i) : Still M L S t := fun q r hq hr e => by
  obtain ⟨q1, q2, _⟩ := lst_at M L (t + 1) q
  obtain ⟨r1, r2, _⟩ := lst_at M L (t + 1) r
  have a := h _ (show lst M L (t + 1) q < S by omega)
  have b := h _ (show lst M L (t + 1) r < S by omega)
  rw [repB_lst] at a b
  simp only [repB, decide_eq_true_eq] at a b
  have hqr : lst M L t (lst M L (t + 1) q) = lst M L t (lst M L (t + 1) r) := by
    rw [lst_iff]
    exact eqB_trans M L t _ _ _ (eqB_symm M L t _ _ (eqB_less M L t _ _ q2)) (eqB_trans M L t _ _ _ e (eqB_less M L t _ _ r2))
  rw [a, b] at hqr
  rw [← lst_iff]; exact hqr
theorem Still.next {M : Mach} {L S t : Nat} (hg : Good M L S) (h : Still M L S t) : Still M L S (t + 1) := fun q r hq hr e =>
  (eqB_succ M L (t + 1) q r).2 fun x hx => by
    have := (eqB_succ M L t q r).1 e x hx
    exact ⟨this.1, h _ _ (hg.nn_lt q x hq hx) (hg.nn_lt r x hr hx) this.2⟩
theorem reps_of_still {M : Mach} {L S t : Nat} (h : Still M L S t) : ∀ i, i < S → repB M L t i = repB M L (t + 1) i := fun i hi => by
  cases hr : repB M L (t + 1) i with
  | false =>
    cases hr' : repB M L t i with
    | false => rfl
    | true => rw [repB_up M L t i hr'] at hr; cases hr
  | true =>
    simp only [repB, decide_eq_true_eq] at *
    obtain ⟨h1, h2, _⟩ := lst_at M L t i
    have := h i _ hi (by omega) h2
    rw [← lst_iff] at this
    have h3 := (lst_at M L (t + 1) (lst M L t i)).1
    omega
theorem still_from {M : Mach} {L S : Nat} (hg : Good M L S) : ∀ t, S ≤ t → Still M L S t := fun t ht => by
  have hcs : ∀ t, cntB (repB M L t) S = cntB (repB M L (t + 1)) S → Still M L S t := fun t e =>
    still_of_reps M L S t (cntB_same _ _ S (fun i _ => repB_up M L t i) e)
  exact hcs t (stays_from (fun t => cntB (repB M L t) S) S (fun t => cntB_mono _ _ S (fun i _ => repB_up M L t i)) (fun t => cntB_le _ S)
    (fun t e => cntB_congr _ _ S (reps_of_still ((hcs t e).next hg))) t ht)
theorem Still.all {M : Mach} {L S t : Nat} (hg : Good M L S) (h : Still M L S t) : ∀ k, Still M L S (t + k)
  | 0 => h
  | k + 1 => (h.all hg k).next hg
theorem Still.eqB {M : Mach} {L S t : Nat} (hg : Good M L S) (h : Still M L S t) {q r : Nat} (hq : q < S) (hr : r < S) : ∀ k, eqB M L (t + k) q r = eqB M L t q r
  | 0 => rfl
  | k + 1 => by
    rw [← h.eqB hg hq hr k]
    cases e : Go.Proofs.Ytliohokcjgcmhaa.eqB M L (t + k) q r with
    | true => exact h.all hg k q r hq hr e
    | false =>
      cases e2 : Go.Proofs.Ytliohokcjgcmhaa.eqB M L (t + (k + 1)) q r with
      | false => rfl
      | true => rw [eqB_less M L (t + k) q r e2] at e; cases e
/-- Two times from which on nothing is divided tell the same. -/
theorem still_same {M : Mach} {L S s t : Nat} (hg : Good M L S) (hs : Still M L S s) (ht : Still M L S t) {q r : Nat} (hq : q < S) (hr : r < S) : eqB M L s q r = eqB M L t q r := by
  rcases Nat.le_total s t with h | h
  · obtain ⟨k, rfl⟩ := Nat.le.dest h
    exact (hs.eqB hg hq hr k).symm
  · obtain ⟨k, rfl⟩ := Nat.le.dest h
    exact ht.eqB hg hq hr k
theorem lst_congr {M : Mach} {L s t q : Nat} (h : ∀ r, r < q → eqB M L s q r = eqB M L t q r) : lst M L s q = lst M L t q := by
  obtain ⟨s1, s2, s3⟩ := lst_at M L s q
  obtain ⟨t1, t2, t3⟩ := lst_at M L t q
  rcases Nat.lt_trichotomy (lst M L s q) (lst M L t q) with h1 | h1 | h1
  · have := t3 _ h1; rw [← h _ (by omega), s2] at this; cases this
  · exact h1
  · have := s3 _ h1; rw [h _ (by omega), t2] at this; cases this
theorem still_lst {M : Mach} {L S s t : Nat} (hg : Good M L S) (hs : Still M L S s) (ht : Still M L S t) {q : Nat} (hq : q < S) : lst M L s q = lst M L t q :=
  lst_congr fun _ hr => still_same hg hs ht hq (by omega)

/-- The number of the set of q: the sets are counted by their least states. -/
def num (M : Mach) (L t q : Nat) : Nat := cntB (repB M L t) (lst M L t q)
theorem num_iff (M : Mach) (L t q r : Nat) : num M L t q = num M L t r ↔ eqB M L t q r = true := by
  rw [← lst_iff]
  constructor
  · exact fun e => cntB_inj _ (repB_lst M L t q) (repB_lst M L t r) e
  · exact fun e => by unfold num; rw [e]
theorem num_zero (M : Mach) (L q : Nat) : num M L 0 q = 0 := by rw [num, lst_zero]; rfl
theorem num_rep (M : Mach) (L t q : Nat) (h : repB M L t q = true) : num M L t q = cntB (repB M L t) q := by
  simp only [repB, decide_eq_true_eq] at h
  rw [num, h]
theorem num_lt (M : Mach) (L t q S : Nat) (hq : q < S) : num M L t q < cntB (repB M L t) S :=
  cntB_lt _ (by have := (lst_at M L t q).1; omega) (repB_lst M L t q)
theorem num_not (M : Mach) (L t q : Nat) (h : repB M L t q = false) : num M L t q < cntB (repB M L t) q := by
  simp only [repB, decide_eq_false_iff_not] at h
  have := (lst_at M L t q).1
  exact cntB_lt _ (by omega) (repB_lst M L t q)
theorem num_le (M : Mach) (L t q : Nat) : num M L t q ≤ q := Nat.le_trans (cntB_le _ _) (lst_at M L t q).1
theorem still_num {M : Mach} {L S s t : Nat} (hg : Good M L S) (hs : Still M L S s) (ht : Still M L S t) {q : Nat} (hq : q < S) : num M L s q = num M L t q := by
  unfold num
  rw [still_lst hg hs ht hq]
  refine cntB_congr _ _ _ fun i hi => ?_
  have := (lst_at M L t q).1
  unfold repB
  rw [still_lst hg hs ht (show i < S by omega)]
/-- If the numbers of the next states are the same at two times, the earlier one's next has told all. -/
theorem still_of_nums {M : Mach} {L S s t : Nat} (hst : s < t) (h : ∀ q x, q < S → x < L → num M L s (nn M q x) = num M L t (nn M q x)) : Still M L S t := fun q r hq hr e => by
  have e1 := (eqB_succ M L s q r).1 (eqB_le M L (show s + 1 ≤ t from hst) q r e)
  refine (eqB_succ M L t q r).2 fun x hx => ⟨(e1 x hx).1, ?_⟩
  rw [← num_iff, ← h q x hq hx, ← h r x hr hx, num_iff]
  exact (e1 x hx).2

/-! ### Trivial states -/
/-- Does q leave all words of at most t letters? -/
def idB (M : Mach) (L : Nat) : Nat → Nat → Bool
  | 0, _ => true
  | t + 1, q => (List.range L).all fun x => decide (M.o q x = (x : Int)) && idB M L t (nn M q x)
theorem idB_succ (M : Mach) (L t q : Nat) : idB M L (t + 1) q = true ↔ ∀ x, x < L → M.o q x = (x : Int) ∧ idB M L t (nn M q x) = true := by simp [idB]
theorem idB_less (M : Mach) (L : Nat) : ∀ t q, idB M L (t + 1) q = true → idB M L t q = true
  | 0, _, _ => rfl
  | t + 1, q, h => (idB_succ M L t q).2 fun x hx => by
    have := (idB_succ M L (t + 1) q).1 h x hx
    exact ⟨this.1, idB_less M L t _ this.2⟩
theorem idB_stays {M : Mach} {L S : Nat} (hg : Good M L S) : ∀ t, S ≤ t → ∀ q, q < S → idB M L t q = true → idB M L (t + 1) q = true := fun t ht => by
  have hco : ∀ t i, (!idB M L t i) = true → (!idB M L (t + 1) i) = true := fun t i h => by
    cases e : idB M L (t + 1) i with
    | false => rfl
    | true => rw [idB_less M L t i e] at h; cases h
  have hsame : ∀ t, cntB (fun i => !idB M L t i) S = cntB (fun i => !idB M L (t + 1) i) S → ∀ q, q < S → idB M L t q = true → idB M L (t + 1) q = true := fun t e q hq h => by
    have := cntB_same _ _ S (fun i _ => hco t i) e q hq
    simpa [h] using this
  refine hsame t (stays_from (fun t => cntB (fun i => !idB M L t i) S) S (fun t => cntB_mono _ _ S (fun i _ => hco t i)) (fun t => cntB_le _ S) (fun t e => ?_) t ht)
  refine cntB_congr _ _ S fun i hi => ?_
  have hs := hsame t e
  show (!idB M L (t + 1) i) = (!idB M L (t + 2) i)
  cases h1 : idB M L (t + 1) i with
  | false =>
    cases h2 : idB M L (t + 2) i with
    | false => rfl
    | true => rw [idB_less M L (t + 1) i h2] at h1; cases h1
  | true =>
    have : idB M L (t + 2) i = true := (idB_succ M L (t + 1) i).2 fun x hx => by
      have := (idB_succ M L t i).1 h1 x hx
      exact ⟨this.1, hs _ (hg.nn_lt i x hi hx) this.2⟩
    rw [this]
theorem idB_all {M : Mach} {L S : Nat} (hg : Good M L S) (q : Nat) (hq : q < S) (h : idB M L (S + 1) q = true) : ∀ t, idB M L t q = true
  | t => by
    have up : ∀ k, idB M L (S + 1 + k) q = true := fun k => by
      induction k with
      | zero => exact h
      | succ k ih => exact idB_stays hg (S + 1 + k) (by omega) q hq ih
    have down : ∀ k t, idB M L (t + k) q = true → idB M L t q = true := fun k => by
      induction k with
      | zero => exact fun _ h => h
      | succ k ih => exact fun t h => ih t (idB_less M L (t + k) q h)
    exact down (S + 1) t (by have := up t; rwa [Nat.add_comm] at this)
/-- Is q trivial? -/
def trivB (M : Mach) (L S q : Nat) : Bool := idB M L (S + 1) q
theorem trivB_at {M : Mach} {L S : Nat} (hg : Good M L S) {q : Nat} (hq : q < S) (h : trivB M L S q = true) : ∀ x, x < L → M.o q x = (x : Int) ∧ trivB M L S (nn M q x) = true := fun x hx => by
  have := (idB_succ M L (S + 1) q).1 (idB_all hg q hq h (S + 2)) x hx
  exact this
theorem trivB_iff {M : Mach} {L S t : Nat} (hg : Good M L S) (ht : Still M L S t) {q : Nat} (hq : q < S) : trivB M L S q = true ↔ ∀ x, x < L → M.o q x = (x : Int) ∧ eqB M L t (nn M q x) q = true := by
  constructor
  · intro h x hx
    have hx1 := trivB_at hg hq h x hx
    refine ⟨hx1.1, ?_⟩
    have key : ∀ t a b, a < S → b < S → trivB M L S a = true → trivB M L S b = true → eqB M L t a b = true := fun t => by
      induction t with
      | zero => exact fun _ _ _ _ _ _ => rfl
      | succ t ih =>
        intro a b ha hb h1 h2
        refine (eqB_succ M L t a b).2 fun y hy => ?_
        have a1 := trivB_at hg ha h1 y hy
        have b1 := trivB_at hg hb h2 y hy
        exact ⟨a1.1.trans b1.1.symm, ih _ _ (hg.nn_lt a y ha hy) (hg.nn_lt b y hb hy) a1.2 b1.2⟩
    exact key t _ _ (hg.nn_lt q x hq hx) hq hx1.2 h
  · intro h
    have key : ∀ s p, p < S → eqB M L t p q = true → idB M L s p = true := fun s => by
      induction s with
      | zero => exact fun _ _ _ => rfl
      | succ s ih =>
        intro p hp e
        refine (idB_succ M L s p).2 fun x hx => ?_
        have e1 := (eqB_succ M L t p q).1 (ht p q hp hq e) x hx
        exact ⟨e1.1.trans (h x hx).1, ih _ (hg.nn_lt p x hp hx) (eqB_trans M L t _ _ _ e1.2 (h x hx).2)⟩
    exact key (S + 1) q hq (eqB_refl M L t q)
end Go.Proofs.Ytliohokcjgcmhaa

namespace Go.Proofs.Ytliohokcjgcmhaa
open Go.RowKit
open Go.Maps (Keyed)

theorem laid : laidOutB Try.prog = true := by kernel_rfl
theorem keyed_mach : Keyed Try.prog 27 := Keyed.of_law (deep_law_laid laid (m := 4) (by omega) (of_decide_eq_true (by kernel_rfl)) keyType_mach (by kernel_rfl))
theorem keyed_row : Keyed Try.prog 137 := Keyed.of_law (deep_law_laid laid (m := 4) (by omega) (of_decide_eq_true (by kernel_rfl)) (by kernel_rfl) (by kernel_rfl))
theorem types_many : 4 ≤ Try.prog.types.size := of_decide_eq_true (by kernel_rfl)
def klM (M : Mach) : Lit := .string (keyBytes (machLits M))
theorem key_mach {M : Mach} (h : M.Ok) : keyOf Try.prog 27 (.agg (mc M)) = some (klM M) := by
  obtain ⟨d, hd⟩ : ∃ d, Try.prog.types.size + 1 = d + 4 := ⟨Try.prog.types.size - 3, by have := types_many; omega⟩
  have hk : Try.prog.keyType 27 = true := by kernel_rfl
  unfold keyOf
  simp only [Try.underlying27]
  rw [hk, formed_mach h, hd]
  simp only [Bool.and_self, if_true]
  show (Try.prog.keyLits (d + 4) 27 (mc M).toList).map _ = _
  rw [lits_mach d h]
  rfl
theorem klM_inj {M N : Mach} (h : M.Ok) (h' : N.Ok) (e : klM M = klM N) : M = N := by
  have h1 := key_mach h
  have h2 := key_mach h'
  rw [e] at h1
  have h3 := keyed_mach.inj h1 h2
  have h4 : mc M = mc N := by simpa using h3
  have a := lits_mach 0 h
  rw [h4, lits_mach 0 h'] at a
  exact (machLits_inj h' h (Option.some.inj a)).symm

/-- The row of a state. -/
def rowOf (V : Mach) (q : Nat) : List Int := [V.o q 0, V.o q 1, V.o q 2, V.n q 0, V.n q 1, V.n q 2]
def rowC (V : Mach) (q : Nat) : Array Value := #[.int .u8 (V.o q 0), .int .u8 (V.o q 1), .int .u8 (V.o q 2), .int .u8 (V.n q 0), .int .u8 (V.n q 1), .int .u8 (V.n q 2)]
theorem rowC_eq (V : Mach) (q : Nat) : rowC V q = ((rowOf V q).map (Value.int .u8)).toArray := rfl
theorem lits_a3 (d : Nat) (a b c : Int) (ha : 0 ≤ a ∧ a ≤ 255) (hb : 0 ≤ b ∧ b ≤ 255) (hc : 0 ≤ c ∧ c ≤ 255) : Try.prog.keyLits (d + 2) 22 [.int .u8 a, .int .u8 b, .int .u8 c] = some [.int .u8 a, .int .u8 b, .int .u8 c] := by
  unfold Program.keyLits
  simp only [Try.underlying22, cells_a3, cells_u8, List.length_cons, List.length_nil, if_true]
  rw [mapM_some (f := fun j => [Lit.int .u8 ([a, b, c].getD j 0)]) (List.range 3) (fun j hj => by
    have hj3 : j < 3 := by simpa using hj
    rcases (show j = 0 ∨ j = 1 ∨ j = 2 by omega) with rfl | rfl | rfl
    · exact lits_u8 d a ha
    · exact lits_u8 d b hb
    · exact lits_u8 d c hc)]
  rfl
theorem cells_row : Try.prog.cellsOf 137 = 6 := by kernel_rfl
theorem lits_row (d : Nat) {V : Mach} (h : V.Ok) (q : Nat) : Try.prog.keyLits (d + 3) 137 (rowC V q).toList = some ((rowOf V q).map (Lit.int .u8)) := by
  have e1 := lits_a3 d _ _ _ (Mach.o_bd h q 0) (Mach.o_bd h q 1) (Mach.o_bd h q 2)
  have e2 := lits_a3 d _ _ _ (Mach.n_bd h q 0) (Mach.n_bd h q 1) (Mach.n_bd h q 2)
  unfold Program.keyLits
  simp only [Try.underlying137, cells_row]
  rw [if_pos ⟨rfl, by simp⟩]
  simp only [List.mapM_cons, List.mapM_nil, cells_a3]
  show (do let x ← Try.prog.keyLits (d + 2) 22 [.int .u8 (V.o q 0), .int .u8 (V.o q 1), .int .u8 (V.o q 2)]; let y ← (do let z ← Try.prog.keyLits (d + 2) 22 [.int .u8 (V.n q 0), .int .u8 (V.n q 1), .int .u8 (V.n q 2)]; pure [z]); pure (x :: y)).map List.flatten = _
  rw [e1, e2]
  rfl
def klR (V : Mach) (q : Nat) : Lit := .string (keyBytes ((rowOf V q).map (Lit.int .u8)))
theorem formed_row (V : Mach) (q : Nat) : (Value.agg (rowC V q)).formed Try.prog 137 = true := by
  simp [Value.formed, Try.underlying137, cells_row, rowC]
theorem key_row {V : Mach} (h : V.Ok) (q : Nat) : keyOf Try.prog 137 (.agg (rowC V q)) = some (klR V q) := by
  obtain ⟨d, hd⟩ : ∃ d, Try.prog.types.size + 1 = d + 3 := ⟨Try.prog.types.size - 2, by have := types_many; omega⟩
  have hk : Try.prog.keyType 137 = true := by kernel_rfl
  unfold keyOf
  simp only [Try.underlying137]
  rw [hk, formed_row V q, hd]
  simp only [Bool.and_self, if_true]
  show (Try.prog.keyLits (d + 3) 137 (rowC V q).toList).map _ = _
  rw [lits_row d h q]
  rfl
theorem klR_iff {V : Mach} (h : V.Ok) (q r : Nat) : klR V q = klR V r ↔ rowOf V q = rowOf V r := by
  constructor
  · intro e
    have h1 := key_row h q
    have h2 := key_row h r
    rw [e] at h1
    have h3 := keyed_row.inj h1 h2
    have h4 : rowC V q = rowC V r := by simpa using h3
    have a := lits_row 0 h q
    rw [h4, lits_row 0 h r] at a
    have b := Option.some.inj a
    exact ((List.map_inj_right (f := Lit.int .u8) (by intro x y hxy; cases hxy; rfl)).1 b).symm
  · intro e; unfold klR; rw [e]

/-! ### Views -/
def vStep (M : Mach) (c : List Int) (q x : Nat) (V : Mach) : Mach := { V with nx := V.nx.set (q * 3 + x) (c.getD (nn M q x) 0) }
def vRow (M : Mach) (c : List Int) (q : Nat) (V : Mach) : Nat → Mach
  | 0 => V
  | k + 1 => vStep M c q k (vRow M c q V k)
def vAll (M : Mach) (c : List Int) (L : Nat) (V : Mach) : Nat → Mach
  | 0 => V
  | k + 1 => vRow M c k (vAll M c L V k) L
def viewM (M : Mach) (c : List Int) (L S : Nat) : Mach := vAll M c L M S
theorem isBytes_put {l : List Int} (h : isBytes l) (i : Nat) (v : Int) (hv : 0 ≤ v ∧ v ≤ 255) : isBytes (l.set i v) := fun n hn => by
  rcases List.mem_or_eq_of_mem_set hn with h1 | h1
  · exact h n h1
  · rw [h1]; exact hv
theorem vRow_ok {M V : Mach} {c : List Int} (hc : isBytes c) (hV : V.Ok) (q : Nat) : ∀ k, (vRow M c q V k).Ok
  | 0 => hV
  | k + 1 => by
    have h := vRow_ok hc hV (M := M) q k
    exact ⟨by simp [vRow, vStep, h.nx48], h.ot48, isBytes_put h.nxB _ _ (getD_bytes hc _), h.otB, h.Lwf, h.Swf⟩
theorem vAll_ok {M V : Mach} {c : List Int} (hc : isBytes c) (L : Nat) (hV : V.Ok) : ∀ k, (vAll M c L V k).Ok
  | 0 => hV
  | k + 1 => vRow_ok hc (vAll_ok hc L hV k) k L
theorem vRow_keeps (M : Mach) (c : List Int) (q : Nat) (V : Mach) : ∀ k, (vRow M c q V k).L = V.L ∧ (vRow M c q V k).S = V.S ∧ (vRow M c q V k).ot = V.ot
  | 0 => ⟨rfl, rfl, rfl⟩
  | k + 1 => vRow_keeps M c q V k
theorem vAll_keeps (M : Mach) (c : List Int) (L : Nat) (V : Mach) : ∀ k, (vAll M c L V k).L = V.L ∧ (vAll M c L V k).S = V.S ∧ (vAll M c L V k).ot = V.ot
  | 0 => ⟨rfl, rfl, rfl⟩
  | k + 1 => by
    have a := vRow_keeps M c k (vAll M c L V k) L
    have b := vAll_keeps M c L V k
    exact ⟨a.1.trans b.1, a.2.1.trans b.2.1, a.2.2.trans b.2.2⟩
theorem vStep_n (M : Mach) (c : List Int) (q x : Nat) (V : Mach) (hV : V.nx.length = 48) (hq : q < 16) (hx : x < 3) (q' x' : Nat) (_hq' : q' < 16) (hx' : x' < 3) :
    (vStep M c q x V).n q' x' = if q' = q ∧ x' = x then c.getD (nn M q x) 0 else V.n q' x' := by
  show (V.nx.set (q * 3 + x) (c.getD (nn M q x) 0)).getD (q' * 3 + x') 0 = _
  unfold Mach.n
  simp only [List.getD, List.getElem?_set]
  by_cases h : q' = q ∧ x' = x
  · obtain ⟨rfl, rfl⟩ := h
    rw [if_pos rfl, if_pos (by omega), if_pos ⟨rfl, rfl⟩]
    rfl
  · rw [if_neg (by omega), if_neg h]
theorem vRow_n (M : Mach) (c : List Int) (hc : isBytes c) (q : Nat) (V : Mach) (hV : V.Ok) (hq : q < 16) : ∀ k, k ≤ 3 → ∀ q' x', q' < 16 → x' < 3 →
    (vRow M c q V k).n q' x' = if q' = q ∧ x' < k then c.getD (nn M q x') 0 else V.n q' x'
  | 0, _, q', x', _, _ => by simp [vRow]
  | k + 1, hk, q', x', h1, h2 => by
    rw [show vRow M c q V (k + 1) = vStep M c q k (vRow M c q V k) from rfl, vStep_n M c q k _ (vRow_ok hc hV q k).nx48 hq (by omega) q' x' h1 h2, vRow_n M c hc q V hV hq k (by omega) q' x' h1 h2]
    by_cases e : q' = q ∧ x' = k
    · obtain ⟨rfl, rfl⟩ := e
      rw [if_pos ⟨rfl, rfl⟩, if_pos ⟨rfl, by omega⟩]
    · rw [if_neg e]
      by_cases e2 : q' = q ∧ x' < k
      · rw [if_pos e2, if_pos ⟨e2.1, by omega⟩]
      · rw [if_neg e2, if_neg (fun h => e2 ⟨h.1, by have := h.2; have : x' ≠ k := fun h3 => e ⟨h.1, h3⟩; omega⟩)]
theorem vAll_n (M : Mach) (c : List Int) (hc : isBytes c) (L : Nat) (hL : L ≤ 3) (V : Mach) (hV : V.Ok) : ∀ k, k ≤ 16 → ∀ q x, q < 16 → x < 3 →
    (vAll M c L V k).n q x = if q < k ∧ x < L then c.getD (nn M q x) 0 else V.n q x
  | 0, _, q, x, _, _ => by simp [vAll]
  | k + 1, hk, q, x, h1, h2 => by
    rw [show vAll M c L V (k + 1) = vRow M c k (vAll M c L V k) L from rfl, vRow_n M c hc k _ (vAll_ok hc L hV k) (by omega) L hL q x h1 h2, vAll_n M c hc L hL V hV k (by omega) q x h1 h2]
    by_cases e : q = k ∧ x < L
    · obtain ⟨rfl, e2⟩ := e
      rw [if_pos ⟨rfl, e2⟩, if_pos ⟨by omega, e2⟩]
    · rw [if_neg e]
      by_cases e2 : q < k ∧ x < L
      · rw [if_pos e2, if_pos ⟨by omega, e2.2⟩]
      · rw [if_neg e2, if_neg (fun h => by
          have : q ≠ k := fun h3 => e ⟨h3, h.2⟩
          exact e2 ⟨by omega, h.2⟩)]
theorem Good.zero {M : Mach} {L S : Nat} (h : Good M L S) (q x : Nat) (hq : q < 16) (hx : x < 3) (hno : ¬ (q < S ∧ x < L)) : M.n q x = 0 ∧ M.o q x = 0 := by
  have h1 := (List.all_eq_true.1 h.all) q (by simpa using hq)
  have h2 := (List.all_eq_true.1 h1) x (by simpa using hx)
  unfold cellAll at h2
  rw [if_neg hno] at h2
  simpa using h2

/-- The sets at the time t, as the program has them. -/
def clsU (M : Mach) (L S t : Nat) : List Int := (List.range 16).map fun q => if q < S then (num M L t q : Int) else 0
theorem clsU_len (M : Mach) (L S t : Nat) : (clsU M L S t).length = 16 := by simp [clsU]
theorem clsU_at (M : Mach) (L S t q : Nat) (hq : q < S) (hS : S ≤ 16) : (clsU M L S t).getD q 0 = (num M L t q : Int) := by
  unfold clsU
  rw [List.getD, List.getElem?_map, List.getElem?_range (by omega)]
  simp [hq]
theorem clsU_bytes (M : Mach) (L S t : Nat) : isBytes (clsU M L S t) := fun n hn => by
  unfold clsU at hn
  obtain ⟨q, hq, rfl⟩ := List.mem_map.1 hn
  have := num_le M L t q
  have hq16 : q < 16 := by simpa using hq
  split <;> omega
theorem clsU_zero (M : Mach) (L S : Nat) : clsU M L S 0 = List.replicate 16 0 := by
  have h : (fun q => if q < S then (num M L 0 q : Int) else 0) = fun _ => 0 := by
    funext q
    rw [num_zero]
    split <;> rfl
  unfold clsU
  rw [h]
  rfl
/-- The view at the time t. -/
def vw (M : Mach) (L S t : Nat) : Mach := viewM M (clsU M L S t) L S
theorem vw_ok {M : Mach} {L S : Nat} (hg : Good M L S) (t : Nat) : (vw M L S t).Ok := vAll_ok (clsU_bytes M L S t) L hg.ok S
theorem vw_keeps (M : Mach) (L S t : Nat) : (vw M L S t).L = M.L ∧ (vw M L S t).S = M.S ∧ (vw M L S t).ot = M.ot := vAll_keeps M _ L M S
theorem vw_o (M : Mach) (L S t q x : Nat) : (vw M L S t).o q x = M.o q x := by unfold Mach.o; rw [(vw_keeps M L S t).2.2]
theorem vw_n {M : Mach} {L S : Nat} (hg : Good M L S) (t q x : Nat) (hq : q < 16) (hx : x < 3) : (vw M L S t).n q x = if q < S ∧ x < L then (num M L t (nn M q x) : Int) else 0 := by
  unfold vw viewM
  rw [vAll_n M _ (clsU_bytes M L S t) L hg.L3 M hg.ok S hg.S16 q x hq hx]
  by_cases h : q < S ∧ x < L
  · rw [if_pos h, if_pos h, clsU_at M L S t _ (hg.nn_lt q x h.1 h.2) hg.S16]
  · rw [if_neg h, if_neg h]
    exact (hg.zero q x hq hx h).1
theorem vw_rows {M : Mach} {L S : Nat} (hg : Good M L S) (t q r : Nat) (hq : q < S) (hr : r < S) : rowOf (vw M L S t) q = rowOf (vw M L S t) r ↔ eqB M L (t + 1) q r = true := by
  have hS := hg.S16; have hL := hg.L3; have hL2 := hg.L2
  have key : ∀ x, x < 3 → ((vw M L S t).o q x = (vw M L S t).o r x ∧ (vw M L S t).n q x = (vw M L S t).n r x ↔ (x < L → M.o q x = M.o r x ∧ eqB M L t (nn M q x) (nn M r x) = true)) := fun x hx => by
    rw [vw_o, vw_o, vw_n hg t q x (by omega) hx, vw_n hg t r x (by omega) hx]
    by_cases h : x < L
    · rw [if_pos ⟨hq, h⟩, if_pos ⟨hr, h⟩, ← num_iff]
      constructor
      · intro a _; exact ⟨a.1, by omega⟩
      · intro a; exact ⟨(a h).1, by have := (a h).2; omega⟩
    · rw [if_neg (fun a => h a.2), if_neg (fun a => h a.2), (hg.zero q x (by omega) hx (fun a => h a.2)).2, (hg.zero r x (by omega) hx (fun a => h a.2)).2]
      simp [h]
  have k0 := key 0 (by omega)
  have k1 := key 1 (by omega)
  have k2 := key 2 (by omega)
  rw [eqB_succ]
  simp only [rowOf, List.cons.injEq, and_true]
  constructor
  · rintro ⟨a, b, c, d, e, f⟩ x hx
    rcases (show x = 0 ∨ x = 1 ∨ x = 2 by omega) with rfl | rfl | rfl
    · exact k0.1 ⟨a, d⟩ hx
    · exact k1.1 ⟨b, e⟩ hx
    · exact k2.1 ⟨c, f⟩ hx
  · intro h
    have a0 := k0.2 (h 0)
    have a1 := k1.2 (h 1)
    have a2 := k2.2 (h 2)
    exact ⟨a0.1, a1.1, a2.1, a0.2, a1.2, a2.2⟩
/-- A view that comes back. -/
theorem vw_still {M : Mach} {L S : Nat} (hg : Good M L S) {s t : Nat} (hst : s < t) (e : vw M L S s = vw M L S t) : Still M L S t := by
  have hS := hg.S16; have hL := hg.L3
  refine still_of_nums hst fun q x hq hx => ?_
  have h1 := vw_n hg s q x (by omega) (by omega)
  have h2 := vw_n hg t q x (by omega) (by omega)
  rw [if_pos ⟨hq, hx⟩] at h1 h2
  rw [e, h2] at h1
  omega
/-- Two times from which on nothing is divided have one view. -/
theorem clsU_still {M : Mach} {L S : Nat} (hg : Good M L S) {s t : Nat} (hs : Still M L S s) (ht : Still M L S t) : clsU M L S s = clsU M L S t := by
  unfold clsU
  refine List.map_congr_left fun q _ => ?_
  by_cases h : q < S
  · rw [if_pos h, if_pos h, still_num hg hs ht h]
  · rw [if_neg h, if_neg h]
theorem vw_last {M : Mach} {L S : Nat} (hg : Good M L S) : vw M L S (S + 1) = vw M L S (S + 2) := by
  unfold vw
  rw [clsU_still hg (still_from hg (S + 1) (by omega)) (still_from hg (S + 2) (by omega))]
end Go.Proofs.Ytliohokcjgcmhaa

namespace Go.Proofs.Ytliohokcjgcmhaa
open Go.RowKit
open Go.Maps

theorem rep_iff (M : Mach) (L t q : Nat) : repB M L t q = true ↔ ∀ r, r < q → eqB M L t q r = false := by
  obtain ⟨h1, h2, h3⟩ := lst_at M L t q
  simp only [repB, decide_eq_true_eq]
  constructor
  · intro e r hr; exact h3 r (by omega)
  · intro h
    rcases Nat.lt_or_ge (lst M L t q) q with hlt | hge
    · rw [h _ hlt] at h2; cases h2
    · omega
/-- A row that stands ahead of k. -/
def seenR (V : Mach) (k q : Nat) : Bool := (List.range k).any fun p => decide (rowOf V p = rowOf V q)
theorem seenR_iff (V : Mach) (k q : Nat) : seenR V k q = true ↔ ∃ p, p < k ∧ rowOf V p = rowOf V q := by simp [seenR]
theorem seenR_succ (V : Mach) (k q : Nat) : seenR V (k + 1) q = (seenR V k q || decide (rowOf V k = rowOf V q)) := by simp [seenR, List.range_succ]
structure RowMap (M : Mach) (L S t : Nat) (V : Mach) (k : Nat) (D : DataW Unit) : Prop where
  size : Maps.size D = cntB (repB M L (t + 1)) k
  has : ∀ q, q < S → Maps.has D (klR V q) = seenR V k q
  at' : ∀ p, p < k → D.atKey (klR V p) (.lit (.int .u8 0)) = .lit (.int .u8 (num M L (t + 1) p))
theorem RowMap.start (M : Mach) (L S t : Nat) (V : Mach) : RowMap M L S t V 0 (.map []) := ⟨rfl, fun _ _ => rfl, fun _ h => absurd h (by omega)⟩
theorem isKey_klR (V : Mach) (q : Nat) : WideAt.IsKeyLit (klR V q) := trivial
theorem rep_seen {M : Mach} {L S t : Nat} {V : Mach} (hrow : ∀ q r, q < S → r < S → (rowOf V q = rowOf V r ↔ eqB M L (t + 1) q r = true)) {k : Nat} (hk : k < S) : repB M L (t + 1) k = !seenR V k k := by
  cases h : seenR V k k with
  | true =>
    obtain ⟨p, hp, e⟩ := (seenR_iff V k k).1 h
    have h1 := (hrow p k (by omega) hk).1 e
    cases hr : repB M L (t + 1) k with
    | false => rfl
    | true =>
      have := (rep_iff M L (t + 1) k).1 hr p hp
      rw [eqB_symm M L _ _ _ h1] at this
      cases this
  | false =>
    show _ = true
    rw [rep_iff]
    intro r hr
    cases he : eqB M L (t + 1) k r with
    | false => rfl
    | true =>
      have := (hrow r k (by omega) hk).2 (eqB_symm M L _ _ _ he)
      rw [(seenR_iff V k k).2 ⟨r, hr, this⟩] at h
      cases h
/-- The row has been met: its number is there. -/
theorem RowMap.found {M : Mach} {L S t : Nat} {V : Mach} (hV : V.Ok) (hrow : ∀ q r, q < S → r < S → (rowOf V q = rowOf V r ↔ eqB M L (t + 1) q r = true)) {k : Nat} {D : DataW Unit} (h : RowMap M L S t V k D) (hk : k < S) (hs : seenR V k k = true) :
    D.atKey (klR V k) (.lit (.int .u8 0)) = .lit (.int .u8 (num M L (t + 1) k)) ∧ RowMap M L S t V (k + 1) D := by
  obtain ⟨p, hp, e⟩ := (seenR_iff V k k).1 hs
  have hkl : klR V p = klR V k := (klR_iff hV p k).2 e
  have hn : num M L (t + 1) p = num M L (t + 1) k := (num_iff M L (t + 1) p k).2 ((hrow p k (by omega) hk).1 e)
  have h0 : D.atKey (klR V k) (.lit (.int .u8 0)) = .lit (.int .u8 (num M L (t + 1) k)) := by rw [← hkl, h.at' p hp, hn]
  refine ⟨h0, ?_, fun q hq => ?_, fun p' hp' => ?_⟩
  · have hr := rep_seen hrow hk
    rw [hs] at hr
    rw [h.size]
    show _ = cntB _ k + if repB M L (t + 1) k = true then 1 else 0
    rw [hr]; rfl
  · rw [h.has q hq, seenR_succ]
    by_cases he : rowOf V k = rowOf V q
    · have : seenR V k q = true := (seenR_iff V k q).2 ⟨p, hp, e.trans he⟩
      rw [this]; rfl
    · simp [he]
  · rcases Nat.lt_or_ge p' k with h1 | h1
    · exact h.at' p' h1
    · obtain rfl : p' = k := by omega
      exact h0
/-- It is new: it gets the next number. -/
theorem RowMap.fresh {M : Mach} {L S t : Nat} {V : Mach} (hV : V.Ok) (hrow : ∀ q r, q < S → r < S → (rowOf V q = rowOf V r ↔ eqB M L (t + 1) q r = true)) {k : Nat} {D : DataW Unit} (h : RowMap M L S t V k D) (hD : Tidy D) (hk : k < S) (hs : seenR V k k = false) :
    (Maps.size D : Nat) = num M L (t + 1) k ∧ RowMap M L S t V (k + 1) (D.put (klR V k) (.lit (.int .u8 (num M L (t + 1) k)))) := by
  have hr := rep_seen hrow hk
  rw [hs] at hr
  have hn : Maps.size D = num M L (t + 1) k := by rw [h.size, num_rep M L (t + 1) k hr]
  refine ⟨hn, ?_, fun q hq => ?_, fun p hp => ?_⟩
  · rw [size_put hD, h.has k hk, hs, if_neg (by simp), h.size]
    show _ = cntB _ k + if repB M L (t + 1) k = true then 1 else 0
    rw [hr]; rfl
  · rw [seenR_succ]
    by_cases he : rowOf V k = rowOf V q
    · rw [← (klR_iff hV k q).2 he, has_put_same hD.isMap (isKey_klR V k)]
      simp [he]
    · rw [has_put_other (fun e => he ((klR_iff hV k q).1 e.symm)), h.has q hq]
      simp [he]
  · rcases Nat.lt_or_ge p k with h1 | h1
    · have hne : klR V p ≠ klR V k := fun e => by
        have := (seenR_iff V k k).2 ⟨p, h1, (klR_iff hV p k).1 e⟩
        rw [hs] at this; cases this
      rw [atKey_put_other hne, h.at' p h1]
    · obtain rfl : p = k := by omega
      rw [atKey_put_same hD.isMap (isKey_klR V p)]
/-- The numbers of the first k states. -/
def numsTo (M : Mach) (L t k : Nat) : List Int := (List.range 16).map fun q => if q < k then (num M L (t + 1) q : Int) else 0
theorem numsTo_len (M : Mach) (L t k : Nat) : (numsTo M L t k).length = 16 := by simp [numsTo]
theorem numsTo_zero (M : Mach) (L t : Nat) : numsTo M L t 0 = List.replicate 16 0 := rfl
theorem numsTo_all (M : Mach) (L S t : Nat) : numsTo M L t S = clsU M L S (t + 1) := rfl
theorem numsTo_set (M : Mach) (L t k : Nat) (_hk : k < 16) : (numsTo M L t k).set k (num M L (t + 1) k : Int) = numsTo M L t (k + 1) := by
  apply List.ext_getElem
  · simp [numsTo]
  · intro i h1 h2
    simp only [numsTo, List.getElem_set, List.getElem_map, List.getElem_range]
    by_cases h : k = i
    · subst h; simp
    · rw [if_neg h]
      by_cases h3 : i < k
      · rw [if_pos h3, if_pos (by omega)]
      · rw [if_neg h3, if_neg (by omega)]

/-! ### Views that have been met -/
def seenV (M : Mach) (L S t u : Nat) : Bool := (List.range t).any fun s => decide (vw M L S s = vw M L S u)
theorem seenV_iff (M : Mach) (L S t u : Nat) : seenV M L S t u = true ↔ ∃ s, s < t ∧ vw M L S s = vw M L S u := by simp [seenV]
theorem seenV_succ (M : Mach) (L S t u : Nat) : seenV M L S (t + 1) u = (seenV M L S t u || decide (vw M L S t = vw M L S u)) := by simp [seenV, List.range_succ]
structure ViewMap (M : Mach) (L S t : Nat) (D : DataW Unit) : Prop where
  at' : ∀ u, D.atKey (klM (vw M L S u)) (.lit (.bool false)) = .lit (.bool (seenV M L S t u))
theorem ViewMap.start (M : Mach) (L S : Nat) : ViewMap M L S 0 (.map []) := ⟨fun _ => rfl⟩
theorem ViewMap.next {M : Mach} {L S t : Nat} (hg : Good M L S) {D : DataW Unit} (h : ViewMap M L S t D) (hD : IsMap D) : ViewMap M L S (t + 1) (D.put (klM (vw M L S t)) (.lit (.bool true))) := ⟨fun u => by
  rw [seenV_succ]
  by_cases e : vw M L S t = vw M L S u
  · rw [← e, atKey_put_same hD (show WideAt.IsKeyLit (klM (vw M L S t)) from trivial)]
    simp
  · rw [atKey_put_other (fun e' => e (klM_inj (vw_ok hg t) (vw_ok hg u) e'.symm)), h.at' u]
    simp [e]⟩
theorem seen_still {M : Mach} {L S t : Nat} (hg : Good M L S) (h : seenV M L S t t = true) : Still M L S t := by
  obtain ⟨s, hs, e⟩ := (seenV_iff M L S t t).1 h
  exact vw_still hg hs e
theorem seen_soon {M : Mach} {L S t : Nat} (hg : Good M L S) (ht : t ≤ S + 2) (h : seenV M L S t t = false) : t ≤ S + 1 := by
  rcases Nat.lt_or_ge t (S + 2) with h1 | h1
  · omega
  · obtain rfl : t = S + 2 := by omega
    rw [(seenV_iff M L S (S + 2) (S + 2)).2 ⟨S + 1, by omega, vw_last hg⟩] at h
    cases h
end Go.Proofs.Ytliohokcjgcmhaa
