/- Which states are equal, their least ones and their numbers; which states are trivial: plain data. -/
import Derived.Test.YticnplcjjkilpaaMach
namespace Go.Proofs.Yticnplcjjkilpaa
open Go.RowKit

/-- A number that grows, stays below a bound, and stays once it has stayed, stays from the bound on. -/
theorem stays_from (f : Nat → Nat) (S : Nat) (hm : ∀ t, f t ≤ f (t + 1)) (hb : ∀ t, f t ≤ S) (hs : ∀ t, f t = f (t + 1) → f (t + 1) = f (t + 2)) : ∀ t, S ≤ t → f t = f (t + 1) := by
  have h1 : ∀ t, f t = f (t + 1) ∨ t + 1 ≤ f (t + 1) := by
    intro t
    induction t with
    | zero => have := hm 0; omega
    | succ t ih =>
      rcases ih with ih | ih
      · exact .inl (hs t ih)
      · have := hm (t + 1); omega
  intro t ht
  rcases h1 t with h | h
  · exact h
  · have := hb (t + 1); omega

/-- How many i below k have p. -/
def cntB (p : Nat → Bool) : Nat → Nat
  | 0 => 0
  | k + 1 => cntB p k + if p k then 1 else 0
theorem cntB_le (p : Nat → Bool) : ∀ k, cntB p k ≤ k
  | 0 => Nat.le_refl _
  | k + 1 => by have := cntB_le p k; unfold cntB; split <;> omega
theorem cntB_mono (p q : Nat → Bool) : ∀ k, (∀ i, i < k → p i = true → q i = true) → cntB p k ≤ cntB q k
  | 0, _ => Nat.le_refl _
  | k + 1, h => by
    have ih := cntB_mono p q k (fun i hi => h i (by omega))
    have hk := h k (by omega)
    unfold cntB
    cases hp : p k <;> cases hq : q k <;> simp_all <;> omega
theorem cntB_same (p q : Nat → Bool) : ∀ k, (∀ i, i < k → p i = true → q i = true) → cntB p k = cntB q k → ∀ i, i < k → p i = q i
  | 0, _, _, i, hi => absurd hi (by omega)
  | k + 1, h, e, i, hi => by
    have h' : ∀ i, i < k → p i = true → q i = true := fun i hi => h i (by omega)
    have hl := cntB_mono p q k h'
    have hk := h k (by omega)
    unfold cntB at e
    have e2 : cntB p k = cntB q k ∧ p k = q k := by
      cases hp : p k <;> cases hq : q k <;> simp_all <;> omega
    rcases Nat.lt_or_ge i k with h1 | h1
    · exact cntB_same p q k h' e2.1 i h1
    · obtain rfl : i = k := by omega
      exact e2.2
theorem cntB_congr (p q : Nat → Bool) : ∀ k, (∀ i, i < k → p i = q i) → cntB p k = cntB q k
  | 0, _ => rfl
  | k + 1, h => by unfold cntB; rw [cntB_congr p q k (fun i hi => h i (by omega)), h k (by omega)]
theorem cntB_up (p : Nat → Bool) {i k : Nat} (h : i ≤ k) : cntB p i ≤ cntB p k := by
  induction h with
  | refl => exact Nat.le_refl _
  | step _ ih => exact Nat.le_trans ih (Nat.le_add_right _ _)
theorem cntB_lt (p : Nat → Bool) {i k : Nat} (h : i < k) (hp : p i = true) : cntB p i < cntB p k := by
  have h1 := cntB_up p (show i + 1 ≤ k from h)
  have h2 : cntB p (i + 1) = cntB p i + if p i then 1 else 0 := rfl
  rw [if_pos hp] at h2
  omega
theorem cntB_inj (p : Nat → Bool) {i k : Nat} (hi : p i = true) (hk : p k = true) (e : cntB p i = cntB p k) : i = k := by
  rcases Nat.lt_trichotomy i k with h | h | h
  · have := cntB_lt p h hi; omega
  · exact h
  · have := cntB_lt p h hk; omega

/-- The next state, as a plain number. -/
def nn (M : Mach) (q x : Nat) : Nat := (M.n q x).toNat
theorem Good.nn_lt {M : Mach} {L S : Nat} (hg : Good M L S) (q x : Nat) (hq : q < S) (hx : x < L) : nn M q x < S := by
  have := hg.n_lt q x hq hx; unfold nn; omega
theorem Good.nn_eq {M : Mach} {L S : Nat} (hg : Good M L S) (q x : Nat) (hq : q < S) (hx : x < L) : M.n q x = (nn M q x : Int) := by
  have := hg.n_lt q x hq hx; unfold nn; omega

/-- Do q and r lead the words of at most t letters alike? -/
def eqB (M : Mach) (L : Nat) : Nat → Nat → Nat → Bool
  | 0, _, _ => true
  | t + 1, q, r => (List.range L).all fun x => decide (M.o q x = M.o r x) && eqB M L t (nn M q x) (nn M r x)
theorem eqB_succ (M : Mach) (L t q r : Nat) : eqB M L (t + 1) q r = true ↔ ∀ x, x < L → M.o q x = M.o r x ∧ eqB M L t (nn M q x) (nn M r x) = true := by
  simp [eqB]
theorem eqB_refl (M : Mach) (L : Nat) : ∀ t q, eqB M L t q q = true
  | 0, _ => rfl
  | t + 1, q => (eqB_succ M L t q q).2 fun _ _ => ⟨rfl, eqB_refl M L t _⟩
theorem eqB_symm (M : Mach) (L : Nat) : ∀ t q r, eqB M L t q r = true → eqB M L t r q = true
  | 0, _, _, _ => rfl
  | t + 1, q, r, h => (eqB_succ M L t r q).2 fun x hx => by
    have := (eqB_succ M L t q r).1 h x hx
    exact ⟨this.1.symm, eqB_symm M L t _ _ this.2⟩
theorem eqB_trans (M : Mach) (L : Nat) : ∀ t q r s, eqB M L t q r = true → eqB M L t r s = true → eqB M L t q s = true
  | 0, _, _, _, _, _ => rfl
  | t + 1, q, r, s, h1, h2 => (eqB_succ M L t q s).2 fun x hx => by
    have a := (eqB_succ M L t q r).1 h1 x hx
    have b := (eqB_succ M L t r s).1 h2 x hx
    exact ⟨a.1.trans b.1, eqB_trans M L t _ _ _ a.2 b.2⟩
theorem eqB_less (M : Mach) (L : Nat) : ∀ t q r, eqB M L (t + 1) q r = true → eqB M L t q r = true
  | 0, _, _, _ => rfl
  | t + 1, q, r, h => (eqB_succ M L t q r).2 fun x hx => by
    have := (eqB_succ M L (t + 1) q r).1 h x hx
    exact ⟨this.1, eqB_less M L t _ _ this.2⟩
theorem eqB_le (M : Mach) (L : Nat) {s t : Nat} (h : s ≤ t) (q r : Nat) : eqB M L t q r = true → eqB M L s q r = true := by
  induction h with
  | refl => exact id
  | step _ ih => exact fun e => ih (eqB_less M L _ q r e)

/-- The least state that is equal to q. -/
def lst (M : Mach) (L t q : Nat) : Nat := ((List.range q).find? fun r => eqB M L t q r).getD q
theorem lst_at (M : Mach) (L t q : Nat) : lst M L t q ≤ q ∧ eqB M L t q (lst M L t q) = true ∧ ∀ r, r < lst M L t q → eqB M L t q r = false := by
  unfold lst
  cases h : (List.range q).find? fun r => eqB M L t q r with
  | none =>
    rw [List.find?_eq_none] at h
    refine ⟨Nat.le_refl _, eqB_refl M L t q, fun r hr => ?_⟩
    have := h r (by simpa using hr)
    simpa using this
  | some i =>
    rw [List.find?_range_eq_some] at h
    obtain ⟨h1, h2, h3⟩ := h
    refine ⟨by have : i < q := by simpa using h2
               simp; omega, h1, fun r hr => ?_⟩
    have := h3 r hr
    simpa using this
theorem lst_iff (M : Mach) (L t q r : Nat) : lst M L t q = lst M L t r ↔ eqB M L t q r = true := by
  obtain ⟨q1, q2, q3⟩ := lst_at M L t q
  obtain ⟨r1, r2, r3⟩ := lst_at M L t r
  constructor
  · intro e
    rw [e] at q2
    exact eqB_trans M L t _ _ _ q2 (eqB_symm M L t _ _ r2)
  · intro e
    have a : eqB M L t q (lst M L t r) = true := eqB_trans M L t _ _ _ e r2
    have b : eqB M L t r (lst M L t q) = true := eqB_trans M L t _ _ _ (eqB_symm M L t _ _ e) q2
    rcases Nat.lt_trichotomy (lst M L t q) (lst M L t r) with h | h | h
    · rw [r3 _ h] at b; cases b
    · exact h
    · rw [q3 _ h] at a; cases a
theorem lst_idem (M : Mach) (L t q : Nat) : lst M L t (lst M L t q) = lst M L t q := by
  rw [lst_iff]; exact eqB_symm M L t _ _ (lst_at M L t q).2.1
theorem lst_zero (M : Mach) (L q : Nat) : lst M L 0 q = 0 := by
  have h := (lst_iff M L 0 q 0).2 rfl
  have h0 := (lst_at M L 0 0).1
  omega
/-- Is it the least of its set? -/
def repB (M : Mach) (L t q : Nat) : Bool := decide (lst M L t q = q)
theorem repB_lst (M : Mach) (L t q : Nat) : repB M L t (lst M L t q) = true := by simp [repB, lst_idem]
theorem repB_up (M : Mach) (L t q : Nat) (h : repB M L t q = true) : repB M L (t + 1) q = true := by
  simp only [repB, decide_eq_true_eq] at *
  obtain ⟨h1, h2, h3⟩ := lst_at M L (t + 1) q
  rcases Nat.lt_or_ge (lst M L (t + 1) q) q with hlt | hge
  · have := (lst_at M L t q).2.2 (lst M L (t + 1) q) (by omega)
    rw [eqB_less M L t _ _ h2] at this
    cases this
  · omega
/-- Nothing is divided any further. -/
def Still (M : Mach) (L S t : Nat) : Prop := ∀ q r, q < S → r < S → eqB M L t q r = true → eqB M L (t + 1) q r = true
theorem still_of_reps (M : Mach) (L S t : Nat) (h : ∀ i, i < S → repB M L t i = repB M L (t + 1) i) : Still M L S t := fun q r hq hr e => by
  obtain ⟨q1, q2, _⟩ := lst_at M L (t + 1) q
  obtain ⟨r1, r2, _⟩ := lst_at M L (t + 1) r
  have a := h _ (show lst M L (t + 1) q < S by omega)
  have b := h _ (show lst M L (t + 1) r < S by omega)
  rw [repB_lst] at a b
  simp only [repB, decide_eq_true_eq] at a b
  have hqr : lst M L t (lst M L (t + 1) q) = lst M L t (lst M L (t + 1) r) := by
    rw [lst_iff]
    exact eqB_trans M L t _ _ _ (eqB_symm M L t _ _ (eqB_less M L t _ _ q2)) (eqB_trans M L t _ _ _ e (eqB_less M L t _ _ r2))
  rw [a, b] at hqr
  rw [← lst_iff]; exact hqr
theorem Still.next {M : Mach} {L S t : Nat} (hg : Good M L S) (h : Still M L S t) : Still M L S (t + 1) := fun q r hq hr e =>
  (eqB_succ M L (t + 1) q r).2 fun x hx => by
    have := (eqB_succ M L t q r).1 e x hx
    exact ⟨this.1, h _ _ (hg.nn_lt q x hq hx) (hg.nn_lt r x hr hx) this.2⟩
theorem reps_of_still {M : Mach} {L S t : Nat} (h : Still M L S t) : ∀ i, i < S → repB M L t i = repB M L (t + 1) i := fun i hi => by
  cases hr : repB M L (t + 1) i with
  | false =>
    cases hr' : repB M L t i with
    | false => rfl
    | true => rw [repB_up M L t i hr'] at hr; cases hr
  | true =>
    simp only [repB, decide_eq_true_eq] at *
    obtain ⟨h1, h2, _⟩ := lst_at M L t i
    have := h i _ hi (by omega) h2
    rw [← lst_iff] at this
    have h3 := (lst_at M L (t + 1) (lst M L t i)).1
    omega
theorem still_from {M : Mach} {L S : Nat} (hg : Good M L S) : ∀ t, S ≤ t → Still M L S t := fun t ht => by
  have hcs : ∀ t, cntB (repB M L t) S = cntB (repB M L (t + 1)) S → Still M L S t := fun t e =>
    still_of_reps M L S t (cntB_same _ _ S (fun i _ => repB_up M L t i) e)
  exact hcs t (stays_from (fun t => cntB (repB M L t) S) S (fun t => cntB_mono _ _ S (fun i _ => repB_up M L t i)) (fun t => cntB_le _ S)
    (fun t e => cntB_congr _ _ S (reps_of_still ((hcs t e).next hg))) t ht)
theorem Still.all {M : Mach} {L S t : Nat} (hg : Good M L S) (h : Still M L S t) : ∀ k, Still M L S (t + k)
  | 0 => h
  | k + 1 => (h.all hg k).next hg
theorem Still.eqB {M : Mach} {L S t : Nat} (hg : Good M L S) (h : Still M L S t) {q r : Nat} (hq : q < S) (hr : r < S) : ∀ k, eqB M L (t + k) q r = eqB M L t q r
  | 0 => rfl
  | k + 1 => by
    rw [← h.eqB hg hq hr k]
    cases e : Go.Proofs.Yticnplcjjkilpaa.eqB M L (t + k) q r with
    | true => exact h.all hg k q r hq hr e
    | false =>
      cases e2 : Go.Proofs.Yticnplcjjkilpaa.eqB M L (t + (k + 1)) q r with
      | false => rfl
      | true => rw [eqB_less M L (t + k) q r e2] at e; cases e
/-- Two times from which on nothing is divided tell the same. -/
theorem still_same {M : Mach} {L S s t : Nat} (hg : Good M L S) (hs : Still M L S s) (ht : Still M L S t) {q r : Nat} (hq : q < S) (hr : r < S) : eqB M L s q r = eqB M L t q r := by
  rcases Nat.le_total s t with h | h
  · obtain ⟨k, rfl⟩ := Nat.le.dest h
    exact (hs.eqB hg hq hr k).symm
  · obtain ⟨k, rfl⟩ := Nat.le.dest h
    exact ht.eqB hg hq hr k
theorem lst_congr {M : Mach} {L s t q : Nat} (h : ∀ r, r < q → eqB M L s q r = eqB M L t q r) : lst M L s q = lst M L t q := by
  obtain ⟨s1, s2, s3⟩ := lst_at M L s q
  obtain ⟨t1, t2, t3⟩ := lst_at M L t q
  rcases Nat.lt_trichotomy (lst M L s q) (lst M L t q) with h1 | h1 | h1
  · have := t3 _ h1; rw [← h _ (by omega), s2] at this; cases this
  · exact h1
  · have := s3 _ h1; rw [h _ (by omega), t2] at this; cases this
theorem still_lst {M : Mach} {L S s t : Nat} (hg : Good M L S) (hs : Still M L S s) (ht : Still M L S t) {q : Nat} (hq : q < S) : lst M L s q = lst M L t q :=
  lst_congr fun _ hr => still_same hg hs ht hq (by omega)

/-- The number of the set of q: the sets are counted by their least states. -/
def num (M : Mach) (L t q : Nat) : Nat := cntB (repB M L t) (lst M L t q)
theorem num_iff (M : Mach) (L t q r : Nat) : num M L t q = num M L t r ↔ eqB M L t q r = true := by
  rw [← lst_iff]
  constructor
  · exact fun e => cntB_inj _ (repB_lst M L t q) (repB_lst M L t r) e
  · exact fun e => by unfold num; rw [e]
theorem num_zero (M : Mach) (L q : Nat) : num M L 0 q = 0 := by rw [num, lst_zero]; rfl
theorem num_rep (M : Mach) (L t q : Nat) (h : repB M L t q = true) : num M L t q = cntB (repB M L t) q := by
  simp only [repB, decide_eq_true_eq] at h
  rw [num, h]
theorem num_lt (M : Mach) (L t q S : Nat) (hq : q < S) : num M L t q < cntB (repB M L t) S :=
  cntB_lt _ (by have := (lst_at M L t q).1; omega) (repB_lst M L t q)
theorem num_not (M : Mach) (L t q : Nat) (h : repB M L t q = false) : num M L t q < cntB (repB M L t) q := by
  simp only [repB, decide_eq_false_iff_not] at h
  have := (lst_at M L t q).1
  exact cntB_lt _ (by omega) (repB_lst M L t q)
theorem num_le (M : Mach) (L t q : Nat) : num M L t q ≤ q := Nat.le_trans (cntB_le _ _) (lst_at M L t q).1
theorem still_num {M : Mach} {L S s t : Nat} (hg : Good M L S) (hs : Still M L S s) (ht : Still M L S t) {q : Nat} (hq : q < S) : num M L s q = num M L t q := by
  unfold num
  rw [still_lst hg hs ht hq]
  refine cntB_congr _ _ _ fun i hi => ?_
  have := (lst_at M L t q).1
  unfold repB
  rw [still_lst hg hs ht (show i < S by omega)]
/-- If the numbers of the next states are the same at two times, the earlier one's next has told all. -/
theorem still_of_nums {M : Mach} {L S s t : Nat} (hst : s < t) (h : ∀ q x, q < S → x < L → num M L s (nn M q x) = num M L t (nn M q x)) : Still M L S t := fun q r hq hr e => by
  have e1 := (eqB_succ M L s q r).1 (eqB_le M L (show s + 1 ≤ t from hst) q r e)
  refine (eqB_succ M L t q r).2 fun x hx => ⟨(e1 x hx).1, ?_⟩
  rw [← num_iff, ← h q x hq hx, ← h r x hr hx, num_iff]
  exact (e1 x hx).2

/-! ### Trivial states -/
/-- Does q leave all words of at most t letters? -/
def idB (M : Mach) (L : Nat) : Nat → Nat → Bool
  | 0, _ => true
  | t + 1, q => (List.range L).all fun x => decide (M.o q x = (x : Int)) && idB M L t (nn M q x)
theorem idB_succ (M : Mach) (L t q : Nat) : idB M L (t + 1) q = true ↔ ∀ x, x < L → M.o q x = (x : Int) ∧ idB M L t (nn M q x) = true := by simp [idB]
theorem idB_less (M : Mach) (L : Nat) : ∀ t q, idB M L (t + 1) q = true → idB M L t q = true
  | 0, _, _ => rfl
  | t + 1, q, h => (idB_succ M L t q).2 fun x hx => by
    have := (idB_succ M L (t + 1) q).1 h x hx
    exact ⟨this.1, idB_less M L t _ this.2⟩
theorem idB_stays {M : Mach} {L S : Nat} (hg : Good M L S) : ∀ t, S ≤ t → ∀ q, q < S → idB M L t q = true → idB M L (t + 1) q = true := fun t ht => by
  have hco : ∀ t i, (!idB M L t i) = true → (!idB M L (t + 1) i) = true := fun t i h => by
    cases e : idB M L (t + 1) i with
    | false => rfl
    | true => rw [idB_less M L t i e] at h; cases h
  have hsame : ∀ t, cntB (fun i => !idB M L t i) S = cntB (fun i => !idB M L (t + 1) i) S → ∀ q, q < S → idB M L t q = true → idB M L (t + 1) q = true := fun t e q hq h => by
    have := cntB_same _ _ S (fun i _ => hco t i) e q hq
    simpa [h] using this
  refine hsame t (stays_from (fun t => cntB (fun i => !idB M L t i) S) S (fun t => cntB_mono _ _ S (fun i _ => hco t i)) (fun t => cntB_le _ S) (fun t e => ?_) t ht)
  refine cntB_congr _ _ S fun i hi => ?_
  have hs := hsame t e
  show (!idB M L (t + 1) i) = (!idB M L (t + 2) i)
  cases h1 : idB M L (t + 1) i with
  | false =>
    cases h2 : idB M L (t + 2) i with
    | false => rfl
    | true => rw [idB_less M L (t + 1) i h2] at h1; cases h1
  | true =>
    have : idB M L (t + 2) i = true := (idB_succ M L (t + 1) i).2 fun x hx => by
      have := (idB_succ M L t i).1 h1 x hx
      exact ⟨this.1, hs _ (hg.nn_lt i x hi hx) this.2⟩
    rw [this]
theorem idB_all {M : Mach} {L S : Nat} (hg : Good M L S) (q : Nat) (hq : q < S) (h : idB M L (S + 1) q = true) : ∀ t, idB M L t q = true
  | t => by
    have up : ∀ k, idB M L (S + 1 + k) q = true := fun k => by
      induction k with
      | zero => exact h
      | succ k ih => exact idB_stays hg (S + 1 + k) (by omega) q hq ih
    have down : ∀ k t, idB M L (t + k) q = true → idB M L t q = true := fun k => by
      induction k with
      | zero => exact fun _ h => h
      | succ k ih => exact fun t h => ih t (idB_less M L (t + k) q h)
    exact down (S + 1) t (by have := up t; rwa [Nat.add_comm] at this)
/-- Is q trivial? -/
def trivB (M : Mach) (L S q : Nat) : Bool := idB M L (S + 1) q
theorem trivB_at {M : Mach} {L S : Nat} (hg : Good M L S) {q : Nat} (hq : q < S) (h : trivB M L S q = true) : ∀ x, x < L → M.o q x = (x : Int) ∧ trivB M L S (nn M q x) = true := fun x hx => by
  have := (idB_succ M L (S + 1) q).1 (idB_all hg q hq h (S + 2)) x hx
  exact this
theorem trivB_iff {M : Mach} {L S t : Nat} (hg : Good M L S) (ht : Still M L S t) {q : Nat} (hq : q < S) : trivB M L S q = true ↔ ∀ x, x < L → M.o q x = (x : Int) ∧ eqB M L t (nn M q x) q = true := by
  constructor
  · intro h x hx
    have hx1 := trivB_at hg hq h x hx
    refine ⟨hx1.1, ?_⟩
    have key : ∀ t a b, a < S → b < S → trivB M L S a = true → trivB M L S b = true → eqB M L t a b = true := fun t => by
      induction t with
      | zero => exact fun _ _ _ _ _ _ => rfl
      | succ t ih =>
        intro a b ha hb h1 h2
        refine (eqB_succ M L t a b).2 fun y hy => ?_
        have a1 := trivB_at hg ha h1 y hy
        have b1 := trivB_at hg hb h2 y hy
        exact ⟨a1.1.trans b1.1.symm, ih _ _ (hg.nn_lt a y ha hy) (hg.nn_lt b y hb hy) a1.2 b1.2⟩
    exact key t _ _ (hg.nn_lt q x hq hx) hq hx1.2 h
  · intro h
    have key : ∀ s p, p < S → eqB M L t p q = true → idB M L s p = true := fun s => by
      induction s with
      | zero => exact fun _ _ _ => rfl
      | succ s ih =>
        intro p hp e
        refine (idB_succ M L s p).2 fun x hx => ?_
        have e1 := (eqB_succ M L t p q).1 (ht p q hp hq e) x hx
        exact ⟨e1.1.trans (h x hx).1, ih _ (hg.nn_lt p x hp hx) (eqB_trans M L t _ _ _ e1.2 (h x hx).2)⟩
    exact key (S + 1) q hq (eqB_refl M L t q)
end Go.Proofs.Yticnplcjjkilpaa
