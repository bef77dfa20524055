/- Automata: sets of points that lead all words alike, queues of points, and what they tell of each other: plain data. · Machines told by a queue. · Rows of an automaton in memory; the keys of rows; numbers of sets in maps. · Products of states: pairs of states as points; the program's rows and the model's sets tell one machine. -/
import Derived.Test.YtliohokcjgcmhaaMinG
import Derived.Test.YtliohokcjgcmhaaOwnN
import Derived.Test.YtliohokcjgcmhaaMinC
import Derived.Test.YtliohokcjgcmhaaInvI
namespace Go.Proofs.Ytliohokcjgcmhaa

/-- Points that put out numbers and go on to points. -/
structure Aut where
  o : Nat → Nat → Int
  n : Nat → Nat → Nat
/-- Its first S points go on to such points. -/
def Aut.In (A : Aut) (L S : Nat) : Prop := ∀ q x, q < S → x < L → A.n q x < S
/-- Do q and r lead the words of at most t letters alike? -/
def aEq (A : Aut) (L : Nat) : Nat → Nat → Nat → Bool
  | 0, _, _ => true
  | t + 1, q, r => (List.range L).all fun x => decide (A.o q x = A.o r x) && aEq A L t (A.n q x) (A.n r x)
theorem aEq_succ (A : Aut) (L t q r : Nat) : aEq A L (t + 1) q r = true ↔ ∀ x, x < L → A.o q x = A.o r x ∧ aEq A L t (A.n q x) (A.n r x) = true := by
  simp [aEq]
theorem aEq_refl (A : Aut) (L : Nat) : ∀ t q, aEq A L t q q = true
  | 0, _ => rfl
  | t + 1, q => (aEq_succ A L t q q).2 fun _ _ => ⟨rfl, aEq_refl A L t _⟩
theorem aEq_symm (A : Aut) (L : Nat) : ∀ t q r, aEq A L t q r = true → aEq A L t r q = true
  | 0, _, _, _ => rfl
  | t + 1, q, r, h => (aEq_succ A L t r q).2 fun x hx => by
    have := (aEq_succ A L t q r).1 h x hx
    exact ⟨this.1.symm, aEq_symm A L t _ _ this.2⟩
theorem aEq_trans (A : Aut) (L : Nat) : ∀ t q r s, aEq A L t q r = true → aEq A L t r s = true → aEq A L t q s = true
  | 0, _, _, _, _, _ => rfl
  | t + 1, q, r, s, h1, h2 => (aEq_succ A L t q s).2 fun x hx => by
    have a := (aEq_succ A L t q r).1 h1 x hx
    have b := (aEq_succ A L t r s).1 h2 x hx
    exact ⟨a.1.trans b.1, aEq_trans A L t _ _ _ a.2 b.2⟩
theorem aEq_less (A : Aut) (L : Nat) : ∀ t q r, aEq A L (t + 1) q r = true → aEq A L t q r = true
  | 0, _, _, _ => rfl
  | t + 1, q, r, h => (aEq_succ A L t q r).2 fun x hx => by
    have := (aEq_succ A L (t + 1) q r).1 h x hx
    exact ⟨this.1, aEq_less A L t _ _ this.2⟩
theorem aEq_le (A : Aut) (L : Nat) {s t : Nat} (h : s ≤ t) (q r : Nat) : aEq A L t q r = true → aEq A L s q r = true := by
  induction h with
  | refl => exact id
  | step _ ih => exact fun e => ih (aEq_less A L _ q r e)

/-- The least state that is equal to q. -/
def aLst (A : Aut) (L t q : Nat) : Nat := ((List.range q).find? fun r => aEq A L t q r).getD q
theorem aLst_at (A : Aut) (L t q : Nat) : aLst A L t q ≤ q ∧ aEq A L t q (aLst A L t q) = true ∧ ∀ r, r < aLst A L t q → aEq A L t q r = false := by
  unfold aLst
  cases h : (List.range q).find? fun r => aEq A L t q r with
  | none =>
    rw [List.find?_eq_none] at h
    refine ⟨Nat.le_refl _, aEq_refl A L t q, fun r hr => ?_⟩
    have := h r (by simpa using hr)
    simpa using this
  | some i =>
    rw [List.find?_range_eq_some] at h
    obtain ⟨h1, h2, h3⟩ := h
    refine ⟨by have : i < q := by simpa using h2
               simp; omega, h1, fun r hr => ?_⟩
    have := h3 r hr
    simpa using this
theorem aLst_iff (A : Aut) (L t q r : Nat) : aLst A L t q = aLst A L t r ↔ aEq A L t q r = true := by
  obtain ⟨q1, q2, q3⟩ := aLst_at A L t q
  obtain ⟨r1, r2, r3⟩ := aLst_at A L t r
  constructor
  · intro e
    rw [e] at q2
    exact aEq_trans A L t _ _ _ q2 (aEq_symm A L t _ _ r2)
  · intro e
    have a : aEq A L t q (aLst A L t r) = true := aEq_trans A L t _ _ _ e r2
    have b : aEq A L t r (aLst A L t q) = true := aEq_trans A L t _ _ _ (aEq_symm A L t _ _ e) q2
    rcases Nat.lt_trichotomy (aLst A L t q) (aLst A L t r) with h | h | h
    · rw [r3 _ h] at b; cases b
    · exact h
    · rw [q3 _ h] at a; cases a
theorem aLst_idem (A : Aut) (L t q : Nat) : aLst A L t (aLst A L t q) = aLst A L t q := by
  rw [aLst_iff]; exact aEq_symm A L t _ _ (aLst_at A L t q).2.1
theorem aLst_zero (A : Aut) (L q : Nat) : aLst A L 0 q = 0 := by
  have h := (aLst_iff A L 0 q 0).2 rfl
  have h0 := (aLst_at A L 0 0).1
  omega
/-- Is it the least of its set? -/
def aRep (A : Aut) (L t q : Nat) : Bool := decide (aLst A L t q = q)
theorem aRep_lst (A : Aut) (L t q : Nat) : aRep A L t (aLst A L t q) = true := by simp [aRep, aLst_idem]
theorem aRep_up (A : Aut) (L t q : Nat) (h : aRep A L t q = true) : aRep A L (t + 1) q = true := by
  simp only [aRep, decide_eq_true_eq] at *
  obtain ⟨h1, h2, h3⟩ := aLst_at A L (t + 1) q
  rcases Nat.lt_or_ge (aLst A L (t + 1) q) q with hlt | hge
  · have := (aLst_at A L t q).2.2 (aLst A L (t + 1) q) (by omega)
    rw [aEq_less A L t _ _ h2] at this
    cases this
  · omega
/-- Nothing is divided any further. -/
def AStill (A : Aut) (L S t : Nat) : Prop := ∀ q r, q < S → r < S → aEq A L t q r = true → aEq A L (t + 1) q r = true
theorem aStill_of_reps (A : Aut) (L S t : Nat) (h : ∀ i, i < S → aRep A L t i = aRep A L (t + 1) i) : AStill A L S t := fun q r hq hr e => by
  obtain ⟨q1, q2, _⟩ := aLst_at A L (t + 1) q
  obtain ⟨r1, r2, _⟩ := aLst_at A L (t + 1) r
  have a := h _ (show aLst A L (t + 1) q < S by omega)
  have b := h _ (show aLst A L (t + 1) r < S by omega)
  rw [aRep_lst] at a b
  simp only [aRep, decide_eq_true_eq] at a b
  have hqr : aLst A L t (aLst A L (t + 1) q) = aLst A L t (aLst A L (t + 1) r) := by
    rw [aLst_iff]
    exact aEq_trans A L t _ _ _ (aEq_symm A L t _ _ (aEq_less A L t _ _ q2)) (aEq_trans A L t _ _ _ e (aEq_less A L t _ _ r2))
  rw [a, b] at hqr
  rw [← aLst_iff]; exact hqr
theorem AStill.next {A : Aut} {L S t : Nat} (hg : A.In L S) (h : AStill A L S t) : AStill A L S (t + 1) := fun q r hq hr e =>
  (aEq_succ A L (t + 1) q r).2 fun x hx => by
    have := (aEq_succ A L t q r).1 e x hx
    exact ⟨this.1, h _ _ (hg q x hq hx) (hg r x hr hx) this.2⟩
theorem aReps_of_aStill {A : Aut} {L S t : Nat} (h : AStill A L S t) : ∀ i, i < S → aRep A L t i = aRep A L (t + 1) i := fun i hi => by
  cases hr : aRep A L (t + 1) i with
  | false =>
    cases hr' : aRep A L t i with
    | false => rfl
    | true => rw [aRep_up A L t i hr'] at hr; cases hr
  | true =>
    simp only [aRep, decide_eq_true_eq] at *
    obtain ⟨h1, h2, _⟩ := aLst_at A L t i
    have := h i _ hi (by omega) h2
    rw [← aLst_iff] at this
    have h3 := (aLst_at A L (t + 1) (aLst A L t i)).1
    omega
theorem aStill_from {A : Aut} {L S : Nat} (hg : A.In L S) : ∀ t, S ≤ t → AStill A L S t := fun t ht => by
  have hcs : ∀ t, cntB (aRep A L t) S = cntB (aRep A L (t + 1)) S → AStill A L S t := fun t e =>
    aStill_of_reps A L S t (cntB_same _ _ S (fun i _ => aRep_up A L t i) e)
  exact hcs t (stays_from (fun t => cntB (aRep A L t) S) S (fun t => cntB_mono _ _ S (fun i _ => aRep_up A L t i)) (fun t => cntB_le _ S)
    (fun t e => cntB_congr _ _ S (aReps_of_aStill ((hcs t e).next hg))) t ht)
theorem AStill.all {A : Aut} {L S t : Nat} (hg : A.In L S) (h : AStill A L S t) : ∀ k, AStill A L S (t + k)
  | 0 => h
  | k + 1 => (h.all hg k).next hg
theorem AStill.aEq {A : Aut} {L S t : Nat} (hg : A.In L S) (h : AStill A L S t) {q r : Nat} (hq : q < S) (hr : r < S) : ∀ k, aEq A L (t + k) q r = aEq A L t q r
  | 0 => rfl
  | k + 1 => by
    rw [← h.aEq hg hq hr k]
    cases e : Go.Proofs.Ytliohokcjgcmhaa.aEq A L (t + k) q r with
    | true => exact h.all hg k q r hq hr e
    | false =>
      cases e2 : Go.Proofs.Ytliohokcjgcmhaa.aEq A L (t + (k + 1)) q r with
      | false => rfl
      | true => rw [aEq_less A L (t + k) q r e2] at e; cases e
/-- Two times from which on nothing is divided tell the same. -/
theorem aStill_same {A : Aut} {L S s t : Nat} (hg : A.In L S) (hs : AStill A L S s) (ht : AStill A L S t) {q r : Nat} (hq : q < S) (hr : r < S) : aEq A L s q r = aEq A L t q r := by
  rcases Nat.le_total s t with h | h
  · obtain ⟨k, rfl⟩ := Nat.le.dest h
    exact (hs.aEq hg hq hr k).symm
  · obtain ⟨k, rfl⟩ := Nat.le.dest h
    exact ht.aEq hg hq hr k
theorem aLst_congr {A : Aut} {L s t q : Nat} (h : ∀ r, r < q → aEq A L s q r = aEq A L t q r) : aLst A L s q = aLst A L t q := by
  obtain ⟨s1, s2, s3⟩ := aLst_at A L s q
  obtain ⟨t1, t2, t3⟩ := aLst_at A L t q
  rcases Nat.lt_trichotomy (aLst A L s q) (aLst A L t q) with h1 | h1 | h1
  · have := t3 _ h1; rw [← h _ (by omega), s2] at this; cases this
  · exact h1
  · have := s3 _ h1; rw [h _ (by omega), t2] at this; cases this
theorem aStill_lst {A : Aut} {L S s t : Nat} (hg : A.In L S) (hs : AStill A L S s) (ht : AStill A L S t) {q : Nat} (hq : q < S) : aLst A L s q = aLst A L t q :=
  aLst_congr fun _ hr => aStill_same hg hs ht hq (by omega)

/-- The number of the set of q: the sets are counted by their least states. -/
def aNum (A : Aut) (L t q : Nat) : Nat := cntB (aRep A L t) (aLst A L t q)
theorem aNum_iff (A : Aut) (L t q r : Nat) : aNum A L t q = aNum A L t r ↔ aEq A L t q r = true := by
  rw [← aLst_iff]
  constructor
  · exact fun e => cntB_inj _ (aRep_lst A L t q) (aRep_lst A L t r) e
  · exact fun e => by unfold aNum; rw [e]
theorem aNum_zero (A : Aut) (L q : Nat) : aNum A L 0 q = 0 := by rw [aNum, aLst_zero]; rfl
theorem aNum_rep (A : Aut) (L t q : Nat) (h : aRep A L t q = true) : aNum A L t q = cntB (aRep A L t) q := by
  simp only [aRep, decide_eq_true_eq] at h
  rw [aNum, h]
theorem aNum_lt (A : Aut) (L t q S : Nat) (hq : q < S) : aNum A L t q < cntB (aRep A L t) S :=
  cntB_lt _ (by have := (aLst_at A L t q).1; omega) (aRep_lst A L t q)
theorem aNum_not (A : Aut) (L t q : Nat) (h : aRep A L t q = false) : aNum A L t q < cntB (aRep A L t) q := by
  simp only [aRep, decide_eq_false_iff_not] at h
  have := (aLst_at A L t q).1
  exact cntB_lt _ (by omega) (aRep_lst A L t q)
theorem aNum_le (A : Aut) (L t q : Nat) : aNum A L t q ≤ q := Nat.le_trans (cntB_le _ _) (aLst_at A L t q).1
theorem aStill_num {A : Aut} {L S s t : Nat} (hg : A.In L S) (hs : AStill A L S s) (ht : AStill A L S t) {q : Nat} (hq : q < S) : aNum A L s q = aNum A L t q := by
  unfold aNum
  rw [aStill_lst hg hs ht hq]
  refine cntB_congr _ _ _ fun i hi => ?_
  have := (aLst_at A L t q).1
  unfold aRep
  rw [aStill_lst hg hs ht (show i < S by omega)]
/-- If the numbers of the next states are the same at two times, the earlier one's next has told all. -/
theorem aStill_of_nums {A : Aut} {L S s t : Nat} (hst : s < t) (h : ∀ q x, q < S → x < L → aNum A L s (A.n q x) = aNum A L t (A.n q x)) : AStill A L S t := fun q r hq hr e => by
  have e1 := (aEq_succ A L s q r).1 (aEq_le A L (show s + 1 ≤ t from hst) q r e)
  refine (aEq_succ A L t q r).2 fun x hx => ⟨(e1 x hx).1, ?_⟩
  rw [← aNum_iff, ← h q x hq hx, ← h r x hr hx, aNum_iff]
  exact (e1 x hx).2

/-! ### Queues in which each point has one place -/
section
variable {α : Type} (E : α → α → Bool) (n : α → Nat → α)
/-- The place of p, or the end. -/
def bPos (q : List α) (p : α) : Nat := q.findIdx fun r => E r p
/-- p is put at the end, if it is new. -/
def bPut (q : List α) (p : α) : List α := if bPos E q p < q.length then q else q ++ [p]
/-- The first k points to which r goes on are put in. -/
def bRow (q : List α) (r : α) : Nat → List α
  | 0 => q
  | k + 1 => bPut E (bRow q r k) (n r k)
/-- k points have been looked at. -/
def bAll (L : Nat) (p0 : α) : Nat → List α
  | 0 => [p0]
  | k + 1 => match (bAll L p0 k)[k]? with
    | some r => bRow E n (bAll L p0 k) r L
    | none => bAll L p0 k
variable {E n}
theorem bPos_le (q : List α) (p : α) : bPos E q p ≤ q.length := List.findIdx_le_length
theorem bPos_lt (q : List α) (p : α) : bPos E q p < q.length ↔ ∃ r, r ∈ q ∧ E r p = true := by
  unfold bPos; rw [List.findIdx_lt_length]
theorem bPos_at (q : List α) (p : α) (h : bPos E q p < q.length) : E (q[bPos E q p]'h) p = true := List.findIdx_getElem (w := h)
theorem bPos_before (q : List α) (p : α) (i : Nat) (hi : i < bPos E q p) : E (q[i]'(Nat.lt_of_lt_of_le hi (bPos_le q p))) p = false := by
  have := List.not_of_lt_findIdx (p := fun r => E r p) (xs := q) (i := i) hi
  simpa using this
theorem bPos_app (q z : List α) (p : α) (h : bPos E q p < q.length) : bPos E (q ++ z) p = bPos E q p := by
  unfold bPos at *
  rw [List.findIdx_append, if_pos h]
theorem bPos_new (q : List α) (p : α) (hE : E p p = true) (h : ¬ bPos E q p < q.length) : bPos E (q ++ [p]) p = q.length := by
  unfold bPos at *
  rw [List.findIdx_append, if_neg h]
  simp [List.findIdx_cons, hE]
theorem bPut_pre (q : List α) (p : α) : q <+: bPut E q p := by
  unfold bPut; split
  · exact List.prefix_refl q
  · exact List.prefix_append q [p]
theorem bPut_has (q : List α) (p : α) (hE : E p p = true) : bPos E (bPut E q p) p < (bPut E q p).length := by
  unfold bPut; split
  · assumption
  · rename_i h
    rw [bPos_new q p hE h]; simp
theorem bPut_len (q : List α) (p : α) : q.length ≤ (bPut E q p).length ∧ (bPut E q p).length ≤ q.length + 1 := by
  unfold bPut; split <;> simp
theorem bPos_pre {q q' : List α} (h : q <+: q') (p : α) (hp : bPos E q p < q.length) : bPos E q' p = bPos E q p := by
  obtain ⟨z, rfl⟩ := h
  exact bPos_app q z p hp
theorem bPos_pre_lt {q q' : List α} (h : q <+: q') (p : α) (hp : bPos E q p < q.length) : bPos E q' p < q'.length := by
  rw [bPos_pre h p hp]; exact Nat.lt_of_lt_of_le hp h.length_le
theorem bRow_pre (q : List α) (r : α) : ∀ k, q <+: bRow E n q r k
  | 0 => List.prefix_refl q
  | k + 1 => (bRow_pre q r k).trans (bPut_pre _ _)
theorem bRow_pre' (q : List α) (r : α) {j k : Nat} (h : j ≤ k) : bRow E n q r j <+: bRow E n q r k := by
  induction h with
  | refl => exact List.prefix_refl _
  | step _ ih => exact ih.trans (bPut_pre _ _)
theorem bRow_has (hE : ∀ p, E p p = true) (q : List α) (r : α) : ∀ k x, x < k → bPos E (bRow E n q r k) (n r x) < (bRow E n q r k).length
  | k + 1, x, hx => by
    rcases Nat.lt_or_ge x k with h | h
    · exact bPos_pre_lt (bPut_pre _ _) _ (bRow_has hE q r k x h)
    · obtain rfl : x = k := by omega
      exact bPut_has _ _ (hE _)
theorem bAll_step (L : Nat) (p0 : α) (k : Nat) (h : k < (bAll E n L p0 k).length) : bAll E n L p0 (k + 1) = bRow E n (bAll E n L p0 k) ((bAll E n L p0 k)[k]) L := by
  rw [bAll, List.getElem?_eq_getElem h]
theorem bAll_end (L : Nat) (p0 : α) (k : Nat) (h : (bAll E n L p0 k).length ≤ k) : bAll E n L p0 (k + 1) = bAll E n L p0 k := by
  rw [bAll, List.getElem?_eq_none h]
theorem bAll_pre1 (L : Nat) (p0 : α) (k : Nat) : bAll E n L p0 k <+: bAll E n L p0 (k + 1) := by
  rcases Nat.lt_or_ge k (bAll E n L p0 k).length with h | h
  · rw [bAll_step L p0 k h]; exact bRow_pre _ _ _
  · rw [bAll_end L p0 k h]; exact List.prefix_refl _
theorem bAll_pre (L : Nat) (p0 : α) {j k : Nat} (h : j ≤ k) : bAll E n L p0 j <+: bAll E n L p0 k := by
  induction h with
  | refl => exact List.prefix_refl _
  | step _ ih => exact ih.trans (bAll_pre1 L p0 _)
theorem bAll_pos (L : Nat) (p0 : α) (k : Nat) : 0 < (bAll E n L p0 k).length := by
  have := (bAll_pre (E := E) (n := n) L p0 (Nat.zero_le k)).length_le
  exact Nat.lt_of_lt_of_le (by simp [bAll]) this
theorem bAll_first (L : Nat) (p0 : α) (k : Nat) : (bAll E n L p0 k)[0]? = some p0 := by
  obtain ⟨z, hz⟩ := bAll_pre (E := E) (n := n) L p0 (Nat.zero_le k)
  rw [← hz]; simp [bAll]
theorem bAll_stay (L : Nat) (p0 : α) (k : Nat) (h : (bAll E n L p0 k).length ≤ k) : ∀ j, k ≤ j → bAll E n L p0 j = bAll E n L p0 k := fun j hj => by
  induction hj with
  | refl => rfl
  | step hj ih => rw [bAll_end L p0 _ (by rw [ih]; exact Nat.le_trans h hj), ih]
/-- No two points of the queue are the same. -/
def BNew (E : α → α → Bool) (q : List α) : Prop := ∀ i j (hi : i < q.length) (hj : j < q.length), E q[i] q[j] = true → i = j
structure BEq (E : α → α → Bool) : Prop where
  refl : ∀ p, E p p = true
  symm : ∀ p q, E p q = true → E q p = true
  trans : ∀ p q r, E p q = true → E q r = true → E p r = true
theorem BNew.put (hE : BEq E) {q : List α} (h : BNew E q) (p : α) : BNew E (bPut E q p) := by
  unfold bPut; split
  · exact h
  · rename_i hn
    have hno : ∀ i (hi : i < q.length), E q[i] p = false := fun i hi => by
      cases e : E q[i] p with
      | false => rfl
      | true => exact absurd ((bPos_lt q p).2 ⟨_, List.getElem_mem hi, e⟩) hn
    intro i j hi hj e
    simp only [List.length_append, List.length_cons, List.length_nil] at hi hj
    rcases Nat.lt_or_ge i q.length with h1 | h1 <;> rcases Nat.lt_or_ge j q.length with h2 | h2
    · rw [List.getElem_append_left h1, List.getElem_append_left h2] at e
      exact h i j h1 h2 e
    · rw [List.getElem_append_left h1, List.getElem_append_right h2] at e
      simp only [List.getElem_singleton] at e
      rw [hno i h1] at e; cases e
    · rw [List.getElem_append_right h1, List.getElem_append_left h2] at e
      simp only [List.getElem_singleton] at e
      have := hE.symm _ _ e
      rw [hno j h2] at this; cases this
    · omega
theorem BNew.row (hE : BEq E) {q : List α} (h : BNew E q) (r : α) : ∀ k, BNew E (bRow E n q r k)
  | 0 => h
  | k + 1 => (BNew.row hE h r k).put hE _
theorem bAll_new (hE : BEq E) (L : Nat) (p0 : α) : ∀ k, BNew E (bAll E n L p0 k)
  | 0 => fun i j hi hj _ => by simp [bAll] at hi hj; omega
  | k + 1 => by
    rcases Nat.lt_or_ge k (bAll E n L p0 k).length with h | h
    · rw [bAll_step L p0 k h]; exact (bAll_new hE L p0 k).row hE _ L
    · rw [bAll_end L p0 k h]; exact bAll_new hE L p0 k
/-- What has been looked at goes on to points of the queue. -/
theorem bAll_closed (hE : ∀ p, E p p = true) (L : Nat) (p0 : α) : ∀ k i (hi : i < (bAll E n L p0 k).length), i < k → ∀ x, x < L → bPos E (bAll E n L p0 k) (n (bAll E n L p0 k)[i] x) < (bAll E n L p0 k).length
  | k + 1, i, hi, hik, x, hx => by
    rcases Nat.lt_or_ge k (bAll E n L p0 k).length with h | h
    · have hstep := bAll_step L p0 k h
      rcases Nat.lt_or_ge i k with h1 | h1
      · have hlt : i < (bAll E n L p0 k).length := by omega
        have ih := bAll_closed hE L p0 k i hlt h1 x hx
        have e : (bAll E n L p0 (k + 1))[i] = (bAll E n L p0 k)[i] := ((bAll_pre1 L p0 k).getElem hlt).symm
        rw [e]
        exact bPos_pre_lt (bAll_pre1 L p0 k) _ ih
      · obtain rfl : i = k := by omega
        have e : (bAll E n L p0 (i + 1))[i] = (bAll E n L p0 i)[i] := ((bAll_pre1 L p0 i).getElem h).symm
        rw [e]
        have := bRow_has (n := n) hE (bAll E n L p0 i) ((bAll E n L p0 i)[i]) L x hx
        rw [hstep]; exact this
    · have he := bAll_end L p0 k h
      have hi' : i < (bAll E n L p0 k).length := by rw [← he]; exact hi
      have ih := bAll_closed hE L p0 k i hi' (by omega) x hx
      simp only [he]
      exact ih
/-- What holds of the first point and goes on holds of all. -/
theorem bRow_all (p : α → Prop) (L : Nat) (hn : ∀ r, p r → ∀ x, x < L → p (n r x)) (q : List α) (hq : ∀ r ∈ q, p r) (r : α) (hr : p r) : ∀ k, k ≤ L → ∀ s ∈ bRow E n q r k, p s
  | 0, _, s, hs => hq s hs
  | k + 1, hk, s, hs => by
    have ih := bRow_all p L hn q hq r hr k (by omega)
    rw [bRow, bPut] at hs
    split at hs
    · exact ih s hs
    · rcases List.mem_append.1 hs with h | h
      · exact ih s h
      · simp at h; subst h; exact hn r hr k (by omega)
theorem bAll_all (p : α → Prop) (L : Nat) (hn : ∀ r, p r → ∀ x, x < L → p (n r x)) (p0 : α) (h0 : p p0) : ∀ k, ∀ s ∈ bAll E n L p0 k, p s
  | 0, s, hs => by simp [bAll] at hs; subst hs; exact h0
  | k + 1, s, hs => by
    rcases Nat.lt_or_ge k (bAll E n L p0 k).length with h | h
    · rw [bAll_step L p0 k h] at hs
      exact bRow_all p L hn _ (bAll_all p L hn p0 h0 k) _ (bAll_all p L hn p0 h0 k _ (List.getElem_mem h)) L (Nat.le_refl L) s hs
    · rw [bAll_end L p0 k h] at hs
      exact bAll_all p L hn p0 h0 k s hs
end
/-! ### Two queues side by side -/
section
variable {α β : Type} {E : α → α → Bool} {n : α → Nat → α} {E' : β → β → Bool} {n' : β → Nat → β} {R : α → β → Prop}
/-- The queues have points that belong together at the same places. -/
structure Pair (R : α → β → Prop) (q : List α) (q' : List β) : Prop where
  len : q.length = q'.length
  at' : ∀ i (h : i < q.length) (h' : i < q'.length), R q[i] q'[i]
theorem Pair.pos (hR : ∀ a b c d, R a b → R c d → E a c = E' b d) {q : List α} {q' : List β} (h : Pair R q q') {p : α} {p' : β} (hp : R p p') : bPos E q p = bPos E' q' p' := by
  have key : ∀ (q : List α) (q' : List β), Pair R q q' → bPos E q p = bPos E' q' p' := fun q => by
    induction q with
    | nil =>
      intro q' h
      have : q' = [] := List.eq_nil_of_length_eq_zero h.len.symm
      subst this; rfl
    | cons a q ih =>
      intro q' h
      match q', h with
      | [], h => exact absurd h.len (by simp)
      | b :: q', h =>
        have h0 : R a b := h.at' 0 (by simp) (by simp)
        have ht : Pair R q q' := ⟨by simpa using h.len, fun i hi hi' => h.at' (i + 1) (by simp; omega) (by simp; omega)⟩
        have e := hR a b p p' h0 hp
        unfold bPos at *
        rw [List.findIdx_cons, List.findIdx_cons, e]
        cases E' b p' with
        | true => rfl
        | false => simp only [cond_false]; rw [ih q' ht]
  exact key q q' h
theorem Pair.put (hR : ∀ a b c d, R a b → R c d → E a c = E' b d) {q : List α} {q' : List β} (h : Pair R q q') {p : α} {p' : β} (hp : R p p') : Pair R (bPut E q p) (bPut E' q' p') := by
  unfold bPut
  rw [h.pos hR hp, h.len]
  split
  · exact h
  · refine ⟨by simp [h.len], fun i hi hi' => ?_⟩
    rcases Nat.lt_or_ge i q.length with h1 | h1
    · rw [List.getElem_append_left h1, List.getElem_append_left (by rw [← h.len]; exact h1)]
      exact h.at' i h1 (by rw [← h.len]; exact h1)
    · rw [List.getElem_append_right h1, List.getElem_append_right (by rw [← h.len]; exact h1)]
      simpa using hp
theorem Pair.row (hR : ∀ a b c d, R a b → R c d → E a c = E' b d) {L : Nat} (hn : ∀ a b, R a b → ∀ x, x < L → R (n a x) (n' b x)) {q : List α} {q' : List β} (h : Pair R q q') {r : α} {r' : β} (hr : R r r') : ∀ k, k ≤ L → Pair R (bRow E n q r k) (bRow E' n' q' r' k)
  | 0, _ => h
  | k + 1, hk => (Pair.row hR hn h hr k (by omega)).put hR (hn _ _ hr k (by omega))
theorem Pair.all (hR : ∀ a b c d, R a b → R c d → E a c = E' b d) {L : Nat} (hn : ∀ a b, R a b → ∀ x, x < L → R (n a x) (n' b x)) {p : α} {p' : β} (hp : R p p') : ∀ k, Pair R (bAll E n L p k) (bAll E' n' L p' k)
  | 0 => ⟨rfl, fun i hi hi' => by
      simp only [bAll, List.length_cons, List.length_nil] at hi hi'
      obtain rfl : i = 0 := by omega
      simpa [bAll] using hp⟩
  | k + 1 => by
    have ih := Pair.all hR hn hp k
    rcases Nat.lt_or_ge k (bAll E n L p k).length with h | h
    · have h' : k < (bAll E' n' L p' k).length := by rw [← ih.len]; exact h
      rw [bAll_step L p k h, bAll_step L p' k h']
      exact ih.row hR hn (ih.at' k h h') L (Nat.le_refl L)
    · rw [bAll_end L p k h, bAll_end L p' k (by rw [← ih.len]; exact h)]
      exact ih
end
/-! ### Sets of points and queues of them -/
theorem aNum_onto (A : Aut) (L t : Nat) : ∀ q k, k < cntB (aRep A L t) q → ∃ p, p < q ∧ aNum A L t p = k
  | 0, k, h => absurd h (by simp [cntB])
  | q + 1, k, h => by
    by_cases h1 : k < cntB (aRep A L t) q
    · obtain ⟨p, hp, e⟩ := aNum_onto A L t q k h1
      exact ⟨p, by omega, e⟩
    · unfold cntB at h
      cases hr : aRep A L t q with
      | false => rw [hr] at h; simp only [Bool.false_eq_true, if_false] at h; exact absurd h h1
      | true =>
        rw [hr] at h
        simp only [if_true] at h
        refine ⟨q, by omega, ?_⟩
        have := aNum_rep A L t q hr
        omega
theorem few_in : ∀ (l m : List Nat), l.Nodup → (∀ x ∈ l, x ∈ m) → l.length ≤ m.length
  | [], _, _, _ => Nat.zero_le _
  | a :: l, m, hd, h => by
    have h1 := few_in l (m.erase a) (List.nodup_cons.1 hd).2 (fun x hx => (List.mem_erase_of_ne (fun (e : x = a) => (List.nodup_cons.1 hd).1 (by rw [← e]; exact hx))).2 (h x (List.mem_cons_of_mem _ hx)))
    have h2 : a ∈ m := h a (List.mem_cons_self ..)
    rw [List.length_erase_of_mem h2] at h1
    have := List.length_pos_of_mem h2
    rw [List.length_cons]
    omega
theorem cnt_step (A : Aut) (L S t : Nat) : cntB (aRep A L t) S ≤ cntB (aRep A L (t + 1)) S := cntB_mono _ _ S fun i _ => aRep_up A L t i
theorem cnt_le (A : Aut) (L S : Nat) {s t : Nat} (h : s ≤ t) : cntB (aRep A L s) S ≤ cntB (aRep A L t) S := by
  induction h with
  | refl => exact Nat.le_refl _
  | step _ ih => exact Nat.le_trans ih (cnt_step A L S _)
theorem cnt_zero (A : Aut) (L S : Nat) (h : 0 < S) : cntB (aRep A L 0) S = 1 := by
  have h0 : aRep A L 0 0 = true := by simp [aRep, aLst_zero]
  have key : ∀ k, cntB (aRep A L 0) (k + 1) = 1 := fun k => by
    induction k with
    | zero => simp [cntB, h0]
    | succ k ih =>
      have h1 : aRep A L 0 (k + 1) = false := by simp [aRep, aLst_zero]
      rw [cntB, ih, h1]; rfl
  obtain ⟨k, rfl⟩ : ∃ k, S = k + 1 := ⟨S - 1, by omega⟩
  exact key k
/-- As many sets as before: nothing was divided. -/
theorem still_of_cnt {A : Aut} {L S t : Nat} (h : cntB (aRep A L (t + 1)) S ≤ cntB (aRep A L t) S) : AStill A L S t :=
  aStill_of_reps A L S t (cntB_same _ _ S (fun i _ => aRep_up A L t i) (Nat.le_antisymm (cnt_step A L S t) h))
theorem still_cnt {A : Aut} {L S s t : Nat} (hg : A.In L S) (hs : AStill A L S s) (ht : AStill A L S t) : cntB (aRep A L s) S = cntB (aRep A L t) S :=
  cntB_congr _ _ S fun i hi => by unfold aRep; rw [aStill_lst hg hs ht hi]
/-- Sets do not become more than the last ones. -/
theorem cnt_most {A : Aut} {L S t : Nat} (hg : A.In L S) (ht : AStill A L S t) (s : Nat) : cntB (aRep A L s) S ≤ cntB (aRep A L t) S := by
  have h1 := cnt_le A L S (show s ≤ s + t from Nat.le_add_right _ _)
  have h2 : AStill A L S (s + t) := by rw [Nat.add_comm]; exact ht.all hg s
  rw [still_cnt hg h2 ht] at h1
  exact h1
/-- Where the next points are in the same sets, the points of one automaton are told by those of another one. -/
theorem aEq_hom {A B : Aut} {L N : Nat} {pr : Nat → Nat} (hA : A.In L N) (h : ∀ i x, i < N → x < L → A.o i x = B.o (pr i) x ∧ pr (A.n i x) = B.n (pr i) x) : ∀ t i j, i < N → j < N → aEq A L t i j = aEq B L t (pr i) (pr j)
  | 0, _, _, _, _ => rfl
  | t + 1, i, j, hi, hj => by
    rw [Bool.eq_iff_iff, aEq_succ, aEq_succ]
    constructor
    · intro e x hx
      have := e x hx
      rw [aEq_hom hA h t _ _ (hA i x hi hx) (hA j x hj hx), (h i x hi hx).1, (h j x hj hx).1, (h i x hi hx).2, (h j x hj hx).2] at this
      exact this
    · intro e x hx
      have := e x hx
      rw [aEq_hom hA h t _ _ (hA i x hi hx) (hA j x hj hx), (h i x hi hx).1, (h j x hj hx).1, (h i x hi hx).2, (h j x hj hx).2]
      exact this
/-- A queue of its own points: the rows of the queue. -/
def qAut {α : Type} (E : α → α → Bool) (n : α → Nat → α) (o : α → Nat → Int) (q : List α) (d : α) : Aut := ⟨fun i x => o (q.getD i d) x, fun i x => bPos E q (n (q.getD i d) x)⟩
section
variable {α : Type} {E : α → α → Bool} {n : α → Nat → α}
theorem bRow_from (hE : ∀ p, E p p = true) (q : List α) (r : α) : ∀ k i, q.length ≤ i → i < (bRow E n q r k).length → ∃ x, x < k ∧ bPos E (bRow E n q r k) (n r x) = i
  | 0, i, h1, h2 => absurd h2 (by simp [bRow]; omega)
  | k + 1, i, h1, h2 => by
    rcases Nat.lt_or_ge i (bRow E n q r k).length with h | h
    · obtain ⟨x, hx, e⟩ := bRow_from hE q r k i h1 h
      refine ⟨x, by omega, ?_⟩
      have := bPos_pre (E := E) (bPut_pre (E := E) (bRow E n q r k) (n r k)) (n r x) (by rw [e]; exact h)
      show bPos E (bPut E (bRow E n q r k) (n r k)) (n r x) = i
      rw [this]; exact e
    · refine ⟨k, by omega, ?_⟩
      show bPos E (bPut E (bRow E n q r k) (n r k)) (n r k) = i
      have h2' : i < (bPut E (bRow E n q r k) (n r k)).length := h2
      unfold bPut at h2' ⊢
      by_cases hp : bPos E (bRow E n q r k) (n r k) < (bRow E n q r k).length
      · rw [if_pos hp] at h2'; omega
      · rw [if_neg hp] at h2' ⊢
        rw [bPos_new _ _ (hE _) hp]
        simp at h2'; omega
/-- Each point but the first one is what an earlier one goes on to. -/
theorem bAll_from (hE : ∀ p, E p p = true) (L : Nat) (p0 : α) : ∀ k i, i < (bAll E n L p0 k).length → 0 < i → ∃ j x, ∃ hj : j < (bAll E n L p0 k).length, j < i ∧ j < k ∧ x < L ∧ bPos E (bAll E n L p0 k) (n (bAll E n L p0 k)[j] x) = i
  | 0, i, hi, h0 => by simp [bAll] at hi; omega
  | k + 1, i, hi, h0 => by
    rcases Nat.lt_or_ge i (bAll E n L p0 k).length with h1 | h1
    · obtain ⟨j, x, hj, hji, hjk, hx, e⟩ := bAll_from hE L p0 k i h1 h0
      have hj' := Nat.lt_of_lt_of_le hj (bAll_pre1 (E := E) (n := n) L p0 k).length_le
      refine ⟨j, x, hj', hji, by omega, hx, ?_⟩
      have e2 : (bAll E n L p0 (k + 1))[j] = (bAll E n L p0 k)[j] := ((bAll_pre1 L p0 k).getElem hj).symm
      rw [e2, bPos_pre (bAll_pre1 L p0 k) _ (by rw [e]; exact h1)]
      exact e
    · rcases Nat.lt_or_ge k (bAll E n L p0 k).length with h | h
      · have hstep := bAll_step (E := E) (n := n) L p0 k h
        have hi2 : i < (bRow E n (bAll E n L p0 k) ((bAll E n L p0 k)[k]) L).length := by rw [← hstep]; exact hi
        obtain ⟨x, hx, e⟩ := bRow_from hE _ _ L i h1 hi2
        have hj' := Nat.lt_of_lt_of_le h (bAll_pre1 (E := E) (n := n) L p0 k).length_le
        refine ⟨k, x, hj', by omega, by omega, hx, ?_⟩
        have e2 : (bAll E n L p0 (k + 1))[k] = (bAll E n L p0 k)[k] := ((bAll_pre1 L p0 k).getElem h).symm
        rw [e2, hstep]
        exact e
      · rw [bAll_end L p0 k h] at hi; omega
theorem bPos_self (hE : ∀ p, E p p = true) {q : List α} (h : BNew E q) (i : Nat) (hi : i < q.length) : bPos E q q[i] = i := by
  have h1 : bPos E q q[i] < q.length := (bPos_lt q _).2 ⟨_, List.getElem_mem hi, hE _⟩
  exact h _ _ h1 hi (bPos_at q _ h1)
end
/-- All rows of a queue are met by the queue of their sets. -/
theorem sets_met {A : Aut} {L N : Nat} {E : Nat → Nat → Bool} (hE : BEq E) (hc : ∀ p q x, p < N → q < N → x < L → E p q = true → E (A.n p x) (A.n q x) = true) (hA : A.In L N) (hN : 0 < N)
    (hfrom : ∀ i, 0 < i → i < N → ∃ j x, j < i ∧ x < L ∧ A.n j x = i) (K : Nat) (hK : (bAll E A.n L 0 K).length ≤ K) : ∀ i, i < N → bPos E (bAll E A.n L 0 K) i < (bAll E A.n L 0 K).length := fun i => by
  induction i using Nat.strongRecOn with
  | ind i ih =>
    intro hi
    by_cases h0 : i = 0
    · subst h0
      have h1 := bAll_first (E := E) (n := A.n) L 0 K
      exact (bPos_lt _ _).2 ⟨0, List.mem_of_getElem? h1, hE.refl 0⟩
    · obtain ⟨j, x, hj, hx, e⟩ := hfrom i (by omega) hi
      have h1 := ih j hj (by omega)
      have h2 := bPos_at _ _ h1
      have h3 := bAll_closed hE.refl L 0 K _ h1 (Nat.lt_of_lt_of_le h1 hK) x hx
      obtain ⟨r, hr, er⟩ := (bPos_lt _ _).1 h3
      refine (bPos_lt _ _).2 ⟨r, hr, ?_⟩
      rw [← e]
      refine hE.trans _ _ _ er (hc _ _ x ?_ (by omega) hx h2)
      exact bAll_all (fun p => p < N) L (fun r hr x hx => hA r x hr hx) 0 hN K _ (List.getElem_mem h1)
theorem aBEq (A : Aut) (L t : Nat) : BEq (aEq A L t) := ⟨aEq_refl A L t, aEq_symm A L t, aEq_trans A L t⟩
theorem aCong {A : Aut} {L N t : Nat} (ht : AStill A L N t) (p q x : Nat) (hp : p < N) (hq : q < N) (hx : x < L) (e : aEq A L t p q = true) : aEq A L t (A.n p x) (A.n q x) = true := ((aEq_succ A L t p q).1 (ht p q hp hq e) x hx).2
/-- As many sets are met as there are. -/
theorem sets_cnt {A : Aut} {L N t : Nat} (hA : A.In L N) (ht : AStill A L N t) (hN : 0 < N) (hfrom : ∀ i, 0 < i → i < N → ∃ j x, j < i ∧ x < L ∧ A.n j x = i) (K : Nat) (hK : (bAll (aEq A L t) A.n L 0 K).length ≤ K) :
    (bAll (aEq A L t) A.n L 0 K).length = cntB (aRep A L t) N := by
  have hmet := sets_met (aBEq A L t) (aCong ht) hA hN hfrom K hK
  have hnew := bAll_new (n := A.n) (aBEq A L t) L 0 K
  have hin := bAll_all (E := aEq A L t) (fun p => p < N) L (fun r hr x hx => hA r x hr hx) 0 hN K
  generalize bAll (aEq A L t) A.n L 0 K = q at *
  apply Nat.le_antisymm
  · have := few_in (q.map (aNum A L t)) (List.range (cntB (aRep A L t) N)) ?_ ?_
    · simpa using this
    · refine List.pairwise_iff_getElem.2 fun i j hi hj hij e => ?_
      rw [List.length_map] at hi hj
      rw [List.getElem_map, List.getElem_map] at e
      have := hnew i j hi hj ((aNum_iff A L t _ _).1 e)
      omega
    · intro x hx
      obtain ⟨p, hp, rfl⟩ := List.mem_map.1 hx
      rw [List.mem_range]
      exact aNum_lt A L t p N (hin p hp)
  · have := few_in (List.range (cntB (aRep A L t) N)) (q.map (aNum A L t)) List.nodup_range ?_
    · simpa using this
    · intro x hx
      rw [List.mem_range] at hx
      obtain ⟨p, hp, e⟩ := aNum_onto A L t N x hx
      obtain ⟨r, hr, er⟩ := (bPos_lt _ _).1 (hmet p hp)
      rw [List.mem_map]
      exact ⟨r, hr, by rw [← e]; exact (aNum_iff A L t _ _).2 er⟩
/-- The rows of a complete queue. -/
theorem qAut_in {α : Type} {E : α → α → Bool} {n : α → Nat → α} (o : α → Nat → Int) (d : α) (hE : ∀ p, E p p = true) {L K : Nat} {p0 : α} (hK : (bAll E n L p0 K).length ≤ K) : (qAut E n o (bAll E n L p0 K) d).In L (bAll E n L p0 K).length := fun i x hi hx => by
  have := bAll_closed hE L p0 K i hi (Nat.lt_of_lt_of_le hi hK) x hx
  simpa [qAut, List.getD, List.getElem?_eq_getElem hi] using this
theorem qAut_from {α : Type} {E : α → α → Bool} {n : α → Nat → α} (o : α → Nat → Int) (d : α) (hE : ∀ p, E p p = true) {L K : Nat} {p0 : α} (i : Nat) (h0 : 0 < i) (hi : i < (bAll E n L p0 K).length) : ∃ j x, j < i ∧ x < L ∧ (qAut E n o (bAll E n L p0 K) d).n j x = i := by
  obtain ⟨j, x, hj, hji, _, hx, e⟩ := bAll_from hE L p0 K i hi h0
  exact ⟨j, x, hji, hx, by simpa [qAut, List.getD, List.getElem?_eq_getElem hj] using e⟩
/-- Where points are the same only if they are one, the rows' points are the points. -/
theorem qAut_hom {B : Aut} {L K : Nat} {p0 : Nat} (hK : (bAll (fun a b => a == b) B.n L p0 K).length ≤ K) (i x : Nat) (hi : i < (bAll (fun a b => a == b) B.n L p0 K).length) (hx : x < L) :
    (qAut (fun a b => a == b) B.n B.o (bAll (fun a b => a == b) B.n L p0 K) 0).o i x = B.o ((bAll (fun a b => a == b) B.n L p0 K).getD i 0) x ∧
    (bAll (fun a b => a == b) B.n L p0 K).getD ((qAut (fun a b => a == b) B.n B.o (bAll (fun a b => a == b) B.n L p0 K) 0).n i x) 0 = B.n ((bAll (fun a b => a == b) B.n L p0 K).getD i 0) x := by
  refine ⟨rfl, ?_⟩
  have h := bAll_closed (E := fun a b : Nat => a == b) (n := B.n) (fun p => by simp) L p0 K i hi (Nat.lt_of_lt_of_le hi hK) x hx
  have e := bPos_at _ _ h
  simp only [qAut, List.getD, List.getElem?_eq_getElem hi, Option.getD_some]
  rw [List.getElem?_eq_getElem h]
  simpa using e
/-- A queue without a point twice that has numbers below N has at most N of them. -/
theorem few_points {E : Nat → Nat → Bool} (hE : ∀ p, E p p = true) {q : List Nat} (h : BNew E q) {N : Nat} (hN : ∀ p ∈ q, p < N) : q.length ≤ N := by
  have := few_in q (List.range N) ?_ (fun x hx => by rw [List.mem_range]; exact hN x hx)
  · simpa using this
  · refine List.pairwise_iff_getElem.2 fun i j hi hj hij e => ?_
    have := h i j hi hj (by rw [e]; exact hE _)
    omega
end Go.Proofs.Ytliohokcjgcmhaa

namespace Go.Proofs.Ytliohokcjgcmhaa
open Go.RowKit

/-! ### Machines told by their entries -/
def mkM (L S : Int) (nx ot : Nat → Nat → Int) : Mach := ⟨L, S, (List.range 48).map fun k => nx (k / 3) (k % 3), (List.range 48).map fun k => ot (k / 3) (k % 3)⟩
theorem mk_at (f : Nat → Nat → Int) (q x : Nat) (hq : q < 16) (hx : x < 3) : ((List.range 48).map fun k => f (k / 3) (k % 3)).getD (q * 3 + x) 0 = f q x := by
  rw [List.getD, List.getElem?_map, List.getElem?_range (by omega)]
  simp only [Option.map_some, Option.getD_some]
  rw [show (q * 3 + x) / 3 = q by omega, show (q * 3 + x) % 3 = x by omega]
theorem mkM_n (L S : Int) (nx ot : Nat → Nat → Int) (q x : Nat) (hq : q < 16) (hx : x < 3) : (mkM L S nx ot).n q x = nx q x := mk_at nx q x hq hx
theorem mkM_o (L S : Int) (nx ot : Nat → Nat → Int) (q x : Nat) (hq : q < 16) (hx : x < 3) : (mkM L S nx ot).o q x = ot q x := mk_at ot q x hq hx
theorem mkM_ok {L S : Int} {nx ot : Nat → Nat → Int} (hn : ∀ q x, 0 ≤ nx q x ∧ nx q x ≤ 255) (ho : ∀ q x, 0 ≤ ot q x ∧ ot q x ≤ 255) (hL : -9223372036854775808 ≤ L ∧ L ≤ 9223372036854775807) (hS : -9223372036854775808 ≤ S ∧ S ≤ 9223372036854775807) : (mkM L S nx ot).Ok :=
  ⟨by simp [mkM], by simp [mkM], fun n h => by
    obtain ⟨k, _, rfl⟩ := List.mem_map.1 h
    exact hn _ _, fun n h => by
    obtain ⟨k, _, rfl⟩ := List.mem_map.1 h
    exact ho _ _, hL, hS⟩
/-- One entry of the next states is written. -/
theorem mkM_setN (L S : Int) (nx ot nx' : Nat → Nat → Int) (q x : Nat) (hq : q < 16) (hx : x < 3) (v : Int) (h : ∀ i y, i < 16 → y < 3 → nx' i y = if i = q ∧ y = x then v else nx i y) :
    (mc (mkM L S nx ot)).setIfInBounds (2 + q * 3 + x) (.int .u8 v) = mc (mkM L S nx' ot) := by
  rw [show 2 + q * 3 + x = 2 + (q * 3 + x) by omega, ← mc_set_nx (M := mkM L S nx ot) (by simp [mkM]) _ (by omega)]
  unfold mkM
  congr 2
  apply List.ext_getElem
  · simp
  · intro k h1 h2
    simp only [List.getElem_set, List.getElem_map, List.getElem_range]
    have hk : k < 48 := by simpa using h2
    rw [h (k / 3) (k % 3) (by omega) (by omega)]
    by_cases e : q * 3 + x = k
    · rw [if_pos e, if_pos ⟨by omega, by omega⟩]
    · rw [if_neg e, if_neg (by omega)]
/-- One row of the letters that are put out is written. -/
theorem mkM_rowO (L S : Int) (nx ot ot' : Nat → Nat → Int) (q : Nat) (hq : q < 16) (a b c : Int) (h : ∀ i y, i < 16 → y < 3 → ot' i y = if i = q then (if y = 0 then a else if y = 1 then b else c) else ot i y) :
    over (mc (mkM L S nx ot)) (50 + q * 3) #[.int .u8 a, .int .u8 b, .int .u8 c] = mc (mkM L S nx ot') := by
  have hok : (mkM L S nx ot).nx.length = 48 ∧ (mkM L S nx ot).ot.length = 48 := ⟨by simp [mkM], by simp [mkM]⟩
  have hsz : (mc (mkM L S nx ot)).size = 98 := by simp [mc, mkM]
  rw [over3 _ _ _ _ _ (by rw [hsz]; omega), show 50 + q * 3 + 1 = 50 + (q * 3 + 1) by omega, show 50 + q * 3 + 2 = 50 + (q * 3 + 2) by omega]
  have e1 := mc_set_ot (M := mkM L S nx ot) hok.1 (q * 3) (by omega) a
  rw [← e1, ← mc_set_ot (M := { mkM L S nx ot with ot := (mkM L S nx ot).ot.set (q * 3) a }) hok.1 (q * 3 + 1) (by omega) b]
  rw [← mc_set_ot (M := { mkM L S nx ot with ot := ((mkM L S nx ot).ot.set (q * 3) a).set (q * 3 + 1) b }) hok.1 (q * 3 + 2) (by omega) c]
  unfold mkM
  congr 2
  apply List.ext_getElem
  · simp
  · intro k h1 h2
    simp only [List.getElem_set, List.getElem_map, List.getElem_range]
    have hk : k < 48 := by simpa using h2
    rw [h (k / 3) (k % 3) (by omega) (by omega)]
    by_cases e : k / 3 = q
    · rw [if_pos e]
      rcases (show k % 3 = 0 ∨ k % 3 = 1 ∨ k % 3 = 2 by omega) with h3 | h3 | h3
      · rw [if_neg (by omega), if_neg (by omega), if_pos (by omega), if_pos h3]
      · rw [if_neg (by omega), if_pos (by omega), if_neg (by omega), if_pos h3]
      · rw [if_pos (by omega), if_neg (by omega), if_neg (by omega)]
    · rw [if_neg e, if_neg (by omega), if_neg (by omega), if_neg (by omega)]
/-- Only the entries count. -/
theorem mkM_congr (L S : Int) (nx ot nx' ot' : Nat → Nat → Int) (h : ∀ q x, q < 16 → x < 3 → nx q x = nx' q x ∧ ot q x = ot' q x) : mkM L S nx ot = mkM L S nx' ot' := by
  unfold mkM
  congr 1
  · apply List.map_congr_left
    intro k hk
    have : k < 48 := by simpa using hk
    exact (h _ _ (by omega) (by omega)).1
  · apply List.map_congr_left
    intro k hk
    have : k < 48 := by simpa using hk
    exact (h _ _ (by omega) (by omega)).2
theorem mkM_S (L S S' : Int) (nx ot : Nat → Nat → Int) : (mc (mkM L S nx ot)).setIfInBounds 1 (.int .i64 S') = mc (mkM L S' nx ot) := by simp [mc, mkM]
theorem mkM_zero (L : Int) : (mc zeroM).setIfInBounds 0 (.int .i64 L) = mc (mkM L 0 (fun _ _ => 0) (fun _ _ => 0)) := by
  have : (List.range 48).map (fun k : Nat => (0 : Int)) = List.replicate 48 0 := by
    rw [List.map_const', List.length_range]
  simp [mc, mkM, zeroM, this]

/-! ### The machine of a queue -/
section
variable {α : Type} (E : α → α → Bool) (n : α → Nat → α) (o : α → Nat → Int) (L : Nat) (d : α)
/-- The next states of the first q rows of a queue, and of the first x letters of the next row. -/
def qNx (q x : Nat) (l : List α) (i y : Nat) : Int := if (i < q ∨ i = q ∧ y < x) ∧ y < L then (bPos E l (n (l.getD i d) y) : Int) else 0
def qOt (k : Nat) (l : List α) (i y : Nat) : Int := if i < k ∧ y < L then o (l.getD i d) y else 0
/-- The machine of a queue. -/
def qM (l : List α) : Mach := mkM L l.length (qNx E n L d l.length 0 l) (qOt o L d l.length l)
end
section
variable {α β : Type} {E : α → α → Bool} {n : α → Nat → α} {o : α → Nat → Int} {L : Nat} {d : α} {E' : β → β → Bool} {n' : β → Nat → β} {o' : β → Nat → Int} {d' : β} {R : α → β → Prop}
theorem Pair.mach (hR : ∀ a b c d, R a b → R c d → E a c = E' b d) (hn : ∀ a b, R a b → ∀ x, x < L → R (n a x) (n' b x)) (ho : ∀ a b, R a b → ∀ x, x < L → o a x = o' b x) {q : List α} {q' : List β} (h : Pair R q q') : qM E n o L d q = qM E' n' o' L d' q' := by
  unfold qM
  rw [h.len]
  refine mkM_congr _ _ _ _ _ _ fun i x _ _ => ?_
  unfold qNx qOt
  by_cases hi : i < q'.length ∧ x < L
  · have hi' : i < q.length := by rw [h.len]; exact hi.1
    have e1 : q.getD i d = q[i] := by simp [List.getD, List.getElem?_eq_getElem hi']
    have e2 : q'.getD i d' = q'[i]'hi.1 := by simp [List.getD, List.getElem?_eq_getElem hi.1]
    rw [if_pos ⟨.inl hi.1, hi.2⟩, if_pos ⟨.inl hi.1, hi.2⟩, if_pos hi, if_pos hi, e1, e2]
    have hr := h.at' i hi' hi.1
    exact ⟨by rw [h.pos hR (hn _ _ hr x hi.2)], ho _ _ hr x hi.2⟩
  · rw [if_neg (by omega), if_neg (by omega), if_neg hi, if_neg hi]
    exact ⟨rfl, rfl⟩
/-- A row more. -/
theorem qNx_row (q : Nat) (l : List α) (i y : Nat) : qNx E n L d q L l i y = qNx E n L d (q + 1) 0 l i y := by
  unfold qNx
  by_cases h : (i < q ∨ i = q ∧ y < L) ∧ y < L
  · rw [if_pos h, if_pos ⟨.inl (by omega), h.2⟩]
  · rw [if_neg h, if_neg (by omega)]
theorem qNx_grow {q x : Nat} {l l' : List α} (h : l <+: l') (hq : q < l.length) (hcl : ∀ i y, (i < q ∨ i = q ∧ y < x) → y < L → bPos E l (n (l.getD i d) y) < l.length) (i y : Nat) : qNx E n L d q x l i y = qNx E n L d q x l' i y := by
  unfold qNx
  by_cases hc : (i < q ∨ i = q ∧ y < x) ∧ y < L
  · rw [if_pos hc, if_pos hc]
    have e : l'.getD i d = l.getD i d := by
      obtain ⟨z, rfl⟩ := h
      have : i < l.length := by omega
      simp [List.getD, List.getElem?_append_left this]
    rw [e, bPos_pre h _ (hcl i y hc.1 hc.2)]
  · rw [if_neg hc, if_neg hc]
theorem qNx_step (q x : Nat) (hx : x < L) (l : List α) (i y : Nat) : qNx E n L d q (x + 1) l i y = if i = q ∧ y = x then (bPos E l (n (l.getD q d) x) : Int) else qNx E n L d q x l i y := by
  unfold qNx
  by_cases h : i = q ∧ y = x
  · obtain ⟨rfl, rfl⟩ := h
    rw [if_pos ⟨.inr ⟨rfl, by omega⟩, hx⟩, if_pos ⟨rfl, rfl⟩]
  · rw [if_neg h]
    by_cases h2 : (i < q ∨ i = q ∧ y < x) ∧ y < L
    · rw [if_pos h2, if_pos ⟨by omega, h2.2⟩]
    · rw [if_neg h2, if_neg (by omega)]
theorem qNx_bd {q x : Nat} {l : List α} (hl : l.length ≤ 255) (i y : Nat) : 0 ≤ qNx E n L d q x l i y ∧ qNx E n L d q x l i y ≤ 255 := by
  have := bPos_le (E := E) l (n (l.getD i d) y)
  unfold qNx; split <;> omega
theorem qOt_grow {k : Nat} {l l' : List α} (h : l <+: l') (hk : k ≤ l.length) (i y : Nat) : qOt o L d k l i y = qOt o L d k l' i y := by
  unfold qOt
  by_cases hc : i < k ∧ y < L
  · rw [if_pos hc, if_pos hc]
    obtain ⟨z, rfl⟩ := h
    have : i < l.length := by omega
    simp [List.getD, List.getElem?_append_left this]
  · rw [if_neg hc, if_neg hc]
theorem qOt_step (k : Nat) (l : List α) (i y : Nat) (_hy : y < 3) : qOt o L d (k + 1) l i y = if i = k then (if y = 0 then (if 0 < L then o (l.getD k d) 0 else 0) else if y = 1 then (if 1 < L then o (l.getD k d) 1 else 0) else (if 2 < L then o (l.getD k d) 2 else 0)) else qOt o L d k l i y := by
  unfold qOt
  by_cases h : i = k
  · subst h
    rw [if_pos rfl]
    rcases (show y = 0 ∨ y = 1 ∨ y = 2 by omega) with rfl | rfl | rfl
    · simp
    · simp
    · simp
  · rw [if_neg h]
    by_cases h2 : i < k ∧ y < L
    · rw [if_pos h2, if_pos ⟨by omega, h2.2⟩]
    · rw [if_neg h2, if_neg (by omega)]
end
end Go.Proofs.Ytliohokcjgcmhaa

namespace Go.Proofs.Ytliohokcjgcmhaa
open Go.RowKit
open Go.Maps

/-- What a row of the program has: 0 behind the last letter. -/
def rowO (A : Aut) (L i x : Nat) : Int := if x < L then A.o i x else 0
def rowN (A : Aut) (L i x : Nat) : Nat := if x < L then A.n i x else 0
/-- The cells of a row. -/
def rowL (A : Aut) (L i : Nat) : List Int := [rowO A L i 0, rowO A L i 1, rowO A L i 2, (rowN A L i 0 : Int), (rowN A L i 1 : Int), (rowN A L i 2 : Int)]
def rowV (A : Aut) (L i : Nat) : Array Value := ((rowL A L i).map (Value.int .u8)).toArray
/-- The letters that rows put out are bytes. -/
def Aut.Bytes (A : Aut) (L N : Nat) : Prop := ∀ i x, i < N → x < L → 0 ≤ A.o i x ∧ A.o i x ≤ 255
/-- A slice of rows can be read. -/
def SeesR (w : World) (v : Value) (A : Aut) (L N : Nat) : Prop := ∃ g cap cur, v = .slice (some ⟨g, 0, none⟩) N cap ∧ Blk w g cur 137 ∧ ∀ i, i < N → ∀ x, x < 3 → cur[i * 6 + x]? = some (.int .u8 (rowO A L i x)) ∧ cur[i * 6 + 3 + x]? = some (.int .u8 (rowN A L i x : Int))
/-- A slice of numbers below 256 can be read. -/
def SeesK (w : World) (v : Value) (N : Nat) (f : Nat → Nat) : Prop := ∃ g cap cur, v = .slice (some ⟨g, 0, none⟩) N cap ∧ Blk w g cur 5 ∧ ∀ i, i < N → cur[i]? = some (.int .u8 (f i : Int))
theorem SeesR.below {w w1 : World} {v : Value} {A : Aut} {L N : Nat} (h : SeesR w v A L N) (hb : Below w.heap.size w w1) : SeesR w1 v A L N := by
  obtain ⟨g, cap, cur, rfl, hB, hc⟩ := h
  exact ⟨g, cap, cur, rfl, hB.keptAll hb, hc⟩
theorem SeesK.below {w w1 : World} {v : Value} {N : Nat} {f : Nat → Nat} (h : SeesK w v N f) (hb : Below w.heap.size w w1) : SeesK w1 v N f := by
  obtain ⟨g, cap, cur, rfl, hB, hc⟩ := h
  exact ⟨g, cap, cur, rfl, hB.keptAll hb, hc⟩
theorem OwnN.sees {w : World} {base : Nat} {v : Value} {N : Nat} {f : Nat → Nat} (h : OwnN w base v ((List.range N).map f)) (h0 : 0 < N) : SeesK w v N f := by
  obtain ⟨g, cap, cur, hv, _, hB, hc⟩ := h.view (by simpa using h0)
  refine ⟨g, cap, cur, by rw [hv]; simp, hB, fun i hi => ?_⟩
  have := hc i (by simpa using hi)
  simpa using this
theorem rowO_bd {A : Aut} {L N : Nat} (hA : A.Bytes L N) {i : Nat} (hi : i < N) (x : Nat) : 0 ≤ rowO A L i x ∧ rowO A L i x ≤ 255 := by
  unfold rowO
  split
  · rename_i h; exact hA i x hi h
  · omega
theorem rowN_lt {A : Aut} {L N : Nat} (hA : A.In L N) {i : Nat} (hi : i < N) (x : Nat) : rowN A L i x < N := by
  unfold rowN
  split
  · rename_i h; exact hA i x hi h
  · omega

/-! ### Keys -/
def bytes6 (l : List Int) : Prop := l.length = 6 ∧ isBytes l
theorem lits_six (d : Nat) (l : List Int) (h : bytes6 l) : Try.prog.keyLits (d + 3) 137 (l.map (Value.int .u8)) = some (l.map (Lit.int .u8)) := by
  obtain ⟨hl, hb⟩ := h
  match l, hl with
  | [a, b, c, e, f, g], _ =>
    have e1 := lits_a3 d a b c (hb a (by simp)) (hb b (by simp)) (hb c (by simp))
    have e2 := lits_a3 d e f g (hb e (by simp)) (hb f (by simp)) (hb g (by simp))
    unfold Program.keyLits
    simp only [Try.underlying137, cells_row]
    rw [if_pos ⟨rfl, by simp⟩]
    simp only [List.mapM_cons, List.mapM_nil, cells_a3]
    show (do let x ← Try.prog.keyLits (d + 2) 22 [.int .u8 a, .int .u8 b, .int .u8 c]; let y ← (do let z ← Try.prog.keyLits (d + 2) 22 [.int .u8 e, .int .u8 f, .int .u8 g]; let r ← some []; some (z :: r)); some (x :: y)).map List.flatten = _
    rw [e1, e2]
    rfl
/-- The key of six bytes. -/
def kl6 (l : List Int) : Lit := .string (keyBytes (l.map (Lit.int .u8)))
theorem isKey_kl6 (l : List Int) : WideAt.IsKeyLit (kl6 l) := trivial
theorem key_six {l : List Int} (h : bytes6 l) : keyOf Try.prog 137 (.agg (l.map (Value.int .u8)).toArray) = some (kl6 l) := by
  obtain ⟨d, hd⟩ : ∃ d, Try.prog.types.size + 1 = d + 3 := ⟨Try.prog.types.size - 2, by have := types_many; omega⟩
  have hk : Try.prog.keyType 137 = true := by kernel_rfl
  have hf : (Value.agg (l.map (Value.int .u8)).toArray).formed Try.prog 137 = true := by
    simp [Value.formed, Try.underlying137, cells_row, h.1]
  unfold keyOf
  simp only [Try.underlying137]
  rw [hk, hf, hd]
  simp only [Bool.and_self, if_true]
  show (Try.prog.keyLits (d + 3) 137 (l.map (Value.int .u8))).map _ = _
  rw [lits_six d l h]
  rfl
theorem kl6_iff {l l' : List Int} (h : bytes6 l) (h' : bytes6 l') : kl6 l = kl6 l' ↔ l = l' := by
  constructor
  · intro e
    have h1 := key_six h
    have h2 := key_six h'
    rw [e] at h1
    have h3 := keyed_row.inj h1 h2
    have h4 : l.map (Value.int .u8) = l'.map (Value.int .u8) := by simpa using h3
    exact (List.map_inj_right (f := Value.int .u8) (by intro x y hxy; cases hxy; rfl)).1 h4
  · intro e; rw [e]

/-! ### Views: rows that go on to the numbers of sets -/
def vw6 (A : Aut) (L t i : Nat) : List Int := [rowO A L i 0, rowO A L i 1, rowO A L i 2, (aNum A L t (rowN A L i 0) : Int), (aNum A L t (rowN A L i 1) : Int), (aNum A L t (rowN A L i 2) : Int)]
theorem vw6_bytes {A : Aut} {L N : Nat} (hA : A.In L N) (hb : A.Bytes L N) (hN : N ≤ 256) (t i : Nat) (hi : i < N) : bytes6 (vw6 A L t i) := by
  refine ⟨rfl, fun n hn => ?_⟩
  have o := fun x => rowO_bd hb hi x
  have m := fun x => Nat.lt_of_le_of_lt (aNum_le A L t (rowN A L i x)) (rowN_lt hA hi x)
  have m0 := m 0; have m1 := m 1; have m2 := m 2
  simp only [vw6, List.mem_cons, List.not_mem_nil, or_false] at hn
  rcases hn with rfl | rfl | rfl | rfl | rfl | rfl
  · exact o 0
  · exact o 1
  · exact o 2
  · omega
  · omega
  · omega
theorem vw6_iff {A : Aut} {L : Nat} (hL : L ≤ 3) (t i j : Nat) : vw6 A L t i = vw6 A L t j ↔ aEq A L (t + 1) i j = true := by
  rw [aEq_succ]
  have key : ∀ x, x < 3 → ((rowO A L i x = rowO A L j x ∧ (aNum A L t (rowN A L i x) : Int) = (aNum A L t (rowN A L j x) : Int)) ↔ (x < L → A.o i x = A.o j x ∧ aEq A L t (A.n i x) (A.n j x) = true)) := fun x _ => by
    unfold rowO rowN
    by_cases h : x < L
    · rw [if_pos h, if_pos h, if_pos h, if_pos h, ← aNum_iff]
      constructor
      · intro a _; exact ⟨a.1, by omega⟩
      · intro a; exact ⟨(a h).1, by have := (a h).2; omega⟩
    · rw [if_neg h, if_neg h, if_neg h, if_neg h]
      simp [h]
  have k0 := key 0 (by omega)
  have k1 := key 1 (by omega)
  have k2 := key 2 (by omega)
  simp only [vw6, List.cons.injEq, and_true]
  constructor
  · rintro ⟨a, b, c, d, e, f⟩ x hx
    rcases (show x = 0 ∨ x = 1 ∨ x = 2 by omega) with rfl | rfl | rfl
    · exact k0.1 ⟨a, d⟩ hx
    · exact k1.1 ⟨b, e⟩ hx
    · exact k2.1 ⟨c, f⟩ hx
  · intro h
    have a0 := k0.2 (h 0)
    have a1 := k1.2 (h 1)
    have a2 := k2.2 (h 2)
    exact ⟨a0.1, a1.1, a2.1, a0.2, a1.2, a2.2⟩

/-! ### The map of numbers -/
theorem aRep_iff (A : Aut) (L t q : Nat) : aRep A L t q = true ↔ ∀ r, r < q → aEq A L t q r = false := by
  obtain ⟨h1, h2, h3⟩ := aLst_at A L t q
  simp only [aRep, decide_eq_true_eq]
  constructor
  · intro e r hr; exact h3 r (by omega)
  · intro h
    rcases Nat.lt_or_ge (aLst A L t q) q with hlt | hge
    · rw [h _ hlt] at h2; cases h2
    · omega
/-- A point that leads words like q stands ahead of k. -/
def seenQ (A : Aut) (L t k q : Nat) : Bool := (List.range k).any fun p => aEq A L t p q
theorem seenQ_iff (A : Aut) (L t k q : Nat) : seenQ A L t k q = true ↔ ∃ p, p < k ∧ aEq A L t p q = true := by simp [seenQ]
theorem seenQ_succ (A : Aut) (L t k q : Nat) : seenQ A L t (k + 1) q = (seenQ A L t k q || aEq A L t k q) := by simp [seenQ, List.range_succ]
theorem rep_seenQ (A : Aut) (L t k : Nat) : aRep A L t k = !seenQ A L t k k := by
  cases h : seenQ A L t k k with
  | true =>
    obtain ⟨p, hp, e⟩ := (seenQ_iff A L t k k).1 h
    cases hr : aRep A L t k with
    | false => rfl
    | true =>
      have := (aRep_iff A L t k).1 hr p hp
      rw [aEq_symm A L _ _ _ e] at this
      cases this
  | false =>
    show _ = true
    rw [aRep_iff]
    intro r hr
    cases he : aEq A L t k r with
    | false => rfl
    | true =>
      rw [(seenQ_iff A L t k k).2 ⟨r, hr, aEq_symm A L _ _ _ he⟩] at h
      cases h
structure NMap (A : Aut) (L t N k : Nat) (kl : Nat → Lit) (D : DataW Unit) : Prop where
  size : Maps.size D = cntB (aRep A L t) k
  has : ∀ q, q < N → Maps.has D (kl q) = seenQ A L t k q
  at' : ∀ p, p < k → D.atKey (kl p) (.lit (.int .u8 0)) = .lit (.int .u8 (aNum A L t p))
theorem NMap.start (A : Aut) (L t N : Nat) (kl : Nat → Lit) : NMap A L t N 0 kl (.map []) := ⟨rfl, fun _ _ => rfl, fun _ h => absurd h (by omega)⟩
theorem NMap.found {A : Aut} {L t N k : Nat} {kl : Nat → Lit} {D : DataW Unit} (hkl : ∀ p q, p < N → q < N → (kl p = kl q ↔ aEq A L t p q = true)) (h : NMap A L t N k kl D) (hk : k < N) (hs : seenQ A L t k k = true) :
    D.atKey (kl k) (.lit (.int .u8 0)) = .lit (.int .u8 (aNum A L t k)) ∧ NMap A L t N (k + 1) kl D := by
  obtain ⟨p, hp, e⟩ := (seenQ_iff A L t k k).1 hs
  have hkk : kl p = kl k := (hkl p k (by omega) hk).2 e
  have hn : aNum A L t p = aNum A L t k := (aNum_iff A L t p k).2 e
  have h0 : D.atKey (kl k) (.lit (.int .u8 0)) = .lit (.int .u8 (aNum A L t k)) := by rw [← hkk, h.at' p hp, hn]
  refine ⟨h0, ?_, fun q hq => ?_, fun p' hp' => ?_⟩
  · have hr := rep_seenQ A L t k
    rw [hs] at hr
    rw [h.size]
    show _ = cntB _ k + if aRep A L t k = true then 1 else 0
    rw [hr]; rfl
  · rw [h.has q hq, seenQ_succ]
    cases he : aEq A L t k q with
    | true =>
      have : seenQ A L t k q = true := (seenQ_iff A L t k q).2 ⟨p, hp, aEq_trans A L t _ _ _ e he⟩
      rw [this]; rfl
    | false => simp
  · rcases Nat.lt_or_ge p' k with h1 | h1
    · exact h.at' p' h1
    · obtain rfl : p' = k := by omega
      exact h0
theorem NMap.fresh {A : Aut} {L t N k : Nat} {kl : Nat → Lit} {D : DataW Unit} (hK : ∀ p, WideAt.IsKeyLit (kl p)) (hkl : ∀ p q, p < N → q < N → (kl p = kl q ↔ aEq A L t p q = true)) (h : NMap A L t N k kl D) (hD : Tidy D) (hk : k < N) (hs : seenQ A L t k k = false) :
    (Maps.size D : Nat) = aNum A L t k ∧ NMap A L t N (k + 1) kl (D.put (kl k) (.lit (.int .u8 (aNum A L t k)))) := by
  have hr := rep_seenQ A L t k
  rw [hs] at hr
  have hn : Maps.size D = aNum A L t k := by rw [h.size, aNum_rep A L t k hr]
  refine ⟨hn, ?_, fun q hq => ?_, fun p hp => ?_⟩
  · rw [size_put hD, h.has k hk, hs, if_neg (by simp), h.size]
    show _ = cntB _ k + if aRep A L t k = true then 1 else 0
    rw [hr]; rfl
  · rw [seenQ_succ]
    cases he : aEq A L t k q with
    | true =>
      rw [← (hkl k q hk hq).2 he, has_put_same hD.isMap (hK k)]
      simp
    | false =>
      rw [has_put_other (fun e => by rw [(hkl k q hk hq).1 e.symm] at he; cases he), h.has q hq]
      simp
  · rcases Nat.lt_or_ge p k with h1 | h1
    · have hne : kl p ≠ kl k := fun e => by
        have := (seenQ_iff A L t k k).2 ⟨p, h1, (hkl p k (by omega) hk).1 e⟩
        rw [hs] at this; cases this
      rw [atKey_put_other hne, h.at' p h1]
    · obtain rfl : p = k := by omega
      rw [atKey_put_same hD.isMap (hK p)]
/-- The numbers of the first k points, and 0 behind them. -/
def aNums (A : Aut) (L t N k : Nat) : List Nat := (List.range N).map fun i => if i < k then aNum A L t i else 0
theorem aNums_len (A : Aut) (L t N k : Nat) : (aNums A L t N k).length = N := by simp [aNums]
theorem aNums_all (A : Aut) (L t N : Nat) : aNums A L t N N = (List.range N).map (aNum A L t) := by
  unfold aNums
  refine List.map_congr_left fun i hi => ?_
  rw [if_pos (by simpa using hi)]
theorem aNums_zero (A : Aut) (L t N : Nat) : aNums A L t N 0 = List.replicate N 0 := by
  unfold aNums
  simp only [Nat.not_lt_zero, if_false]
  rw [List.map_const', List.length_range]
theorem aNums_set (A : Aut) (L t N k : Nat) : (aNums A L t N k).set k (aNum A L t k) = aNums A L t N (k + 1) := by
  apply List.ext_getElem
  · simp [aNums]
  · intro i h1 h2
    simp only [aNums, List.getElem_set, List.getElem_map, List.getElem_range]
    by_cases h : k = i
    · subst h; simp
    · rw [if_neg h]
      by_cases h3 : i < k
      · rw [if_pos h3, if_pos (by omega)]
      · rw [if_neg h3, if_neg (by omega)]
/-- Numbers as cells. -/
def nats (l : List Nat) : Array Value := (l.map fun (k : Nat) => Value.int .u8 (k : Int)).toArray
theorem nats_size (l : List Nat) : (nats l).size = l.length := by simp [nats]
theorem nats_at (l : List Nat) (i : Nat) (hi : i < l.length) : (nats l)[i]? = some (.int .u8 (l.getD i 0 : Int)) := by
  simp [nats, List.getD, List.getElem?_eq_getElem hi]
theorem nats_set (l : List Nat) (i k : Nat) : nats (l.set i k) = (nats l).setIfInBounds i (.int .u8 (k : Int)) := by
  apply Array.ext'; simp [nats, List.map_set]
theorem nats_zero (N : Nat) : nats (List.replicate N 0) = Array.replicate N (.int .u8 0) := by
  apply Array.ext'; simp [nats]
end Go.Proofs.Ytliohokcjgcmhaa

namespace Go.Proofs.Ytliohokcjgcmhaa
open Go.RowKit

/-- The pair of the states p / T and p % T. -/
def prA (M K : Mach) (T : Nat) : Aut := ⟨fun p x => K.o (p % T) (M.o (p / T) x).toNat, fun p x => nn M (p / T) x * T + nn K (p % T) (M.o (p / T) x).toNat⟩
theorem pr_lt {S T p : Nat} (hp : p < S * T) : p / T < S ∧ p % T < T := by
  have hT : 0 < T := by
    rcases Nat.eq_zero_or_pos T with h | h
    · subst h; simp at hp
    · exact h
  exact ⟨(Nat.div_lt_iff_lt_mul hT).2 hp, Nat.mod_lt _ hT⟩
theorem Good.oN {M : Mach} {L S : Nat} (h : Good M L S) (q x : Nat) (hq : q < S) (hx : x < L) : (M.o q x).toNat < L ∧ M.o q x = ((M.o q x).toNat : Int) := by
  have := h.o_lt q x hq hx
  omega
theorem prA_in {M K : Mach} {L S T : Nat} (hM : Good M L S) (hK : Good K L T) : (prA M K T).In L (S * T) := fun p x hp hx => by
  obtain ⟨h1, h2⟩ := pr_lt hp
  have a := hM.nn_lt _ x h1 hx
  have b := hK.nn_lt _ _ h2 (hM.oN _ x h1 hx).1
  show nn M (p / T) x * T + nn K (p % T) (M.o (p / T) x).toNat < S * T
  calc nn M (p / T) x * T + nn K (p % T) (M.o (p / T) x).toNat < nn M (p / T) x * T + T := by omega
    _ = (nn M (p / T) x + 1) * T := by rw [Nat.succ_mul]
    _ ≤ S * T := Nat.mul_le_mul_right _ (by omega)
theorem prA_bd {M K : Mach} {T : Nat} (hK : K.Ok) (p x : Nat) : 0 ≤ (prA M K T).o p x ∧ (prA M K T).o p x ≤ 255 := Mach.o_bd hK _ _
theorem few_prod {S T : Nat} (hS : S ≤ 16) (hT : T ≤ 16) : S * T ≤ 256 := Nat.le_trans (Nat.mul_le_mul hS hT) (by omega)
abbrev eqN : Nat → Nat → Bool := fun a b => a == b
theorem eqN_eq : BEq eqN := ⟨fun p => beq_self_eq_true p, fun _ _ h => beq_iff_eq.2 (beq_iff_eq.1 h).symm, fun _ _ _ h h' => beq_iff_eq.2 ((beq_iff_eq.1 h).trans (beq_iff_eq.1 h'))⟩

/-! ### Any automaton whose points are told by numbers below N -/
section
variable {A : Aut} {L N : Nat}
theorem queue_few {E : Nat → Nat → Bool} (hE : BEq E) (hA : A.In L N) (hN : N ≤ 256) {p0 : Nat} (hp : p0 < N) : (bAll E A.n L p0 256).length ≤ 256 :=
  Nat.le_trans (few_points hE.refl (bAll_new hE L p0 256) (bAll_all (fun p => p < N) L (fun r hr x hx => hA r x hr hx) p0 hp 256)) hN
/-- The queue of sets of equal points, and its machine. -/
def setQ (A : Aut) (L p0 : Nat) : List Nat := bAll (aEq A L 256) A.n L p0 256
def setM (A : Aut) (L p0 : Nat) : Mach := qM (aEq A L 256) A.n A.o L 0 (setQ A L p0)
theorem setQ_few (hA : A.In L N) (hN : N ≤ 256) {p0 : Nat} (hp : p0 < N) : (setQ A L p0).length ≤ 256 := queue_few (aBEq A L 256) hA hN hp
theorem setQ_in (hA : A.In L N) {p0 : Nat} (hp : p0 < N) : ∀ p ∈ setQ A L p0, p < N := bAll_all (fun p => p < N) L (fun r hr x hx => hA r x hr hx) p0 hp 256
/-- Sets by their numbers. -/
def numE (A : Aut) (L t : Nat) : Nat → Nat → Bool := fun a b => aNum A L t a == aNum A L t b
theorem numE_eq (t : Nat) (a b : Nat) : numE A L t a b = aEq A L t a b := by
  unfold numE
  rw [Bool.eq_iff_iff, beq_iff_eq, aNum_iff]
theorem numE_same (t : Nat) : numE A L t = aEq A L t := by
  funext a b; exact numE_eq t a b
theorem numE_last (hA : A.In L N) (hN : N ≤ 256) {t : Nat} (ht : AStill A L N t) {a b : Nat} (ha : a < N) (hb : b < N) : numE A L t a b = aEq A L 256 a b := by
  rw [numE_eq]; exact aStill_same hA ht (aStill_from hA 256 hN) ha hb
/-- The queue by numbers of sets is that of equal points. -/
theorem numQ_pair (hA : A.In L N) (hN : N ≤ 256) {t : Nat} (ht : AStill A L N t) {p0 : Nat} (hp : p0 < N) (k : Nat) : Pair (fun a b => a < N ∧ a = b) (bAll (numE A L t) A.n L p0 k) (bAll (aEq A L 256) A.n L p0 k) :=
  Pair.all (E := numE A L t) (E' := aEq A L 256) (fun a b c d h h' => by obtain ⟨h, rfl⟩ := h; obtain ⟨h', rfl⟩ := h'; exact numE_last hA hN ht h h') (fun a b h x hx => by obtain ⟨h, rfl⟩ := h; exact ⟨hA a x h hx, rfl⟩) ⟨hp, rfl⟩ k
theorem numQ_mach (hA : A.In L N) (hN : N ≤ 256) {t : Nat} (ht : AStill A L N t) {p0 : Nat} (hp : p0 < N) : qM (numE A L t) A.n A.o L 0 (bAll (numE A L t) A.n L p0 256) = setM A L p0 :=
  Pair.mach (R := fun a b => a < N ∧ a = b) (fun a b c d h h' => by obtain ⟨h, rfl⟩ := h; obtain ⟨h', rfl⟩ := h'; exact numE_last hA hN ht h h') (fun a b h x hx => by obtain ⟨h, rfl⟩ := h; exact ⟨hA a x h hx, rfl⟩) (fun a b h x _ => by obtain ⟨_, rfl⟩ := h; rfl) (numQ_pair hA hN ht hp 256)
/-- The model's queue: of the least points of the sets. -/
def lstN (A : Aut) (L t : Nat) : Nat → Nat → Nat := fun p x => aLst A L t (A.n p x)
theorem lst_rel {t : Nat} (hA : A.In L N) (hN : N ≤ 256) (ht : AStill A L N t) (a b c d : Nat) (h : a < N ∧ b = aLst A L t a) (h' : c < N ∧ d = aLst A L t c) : aEq A L 256 a c = eqN b d := by
  obtain ⟨h, rfl⟩ := h; obtain ⟨h', rfl⟩ := h'
  rw [← aStill_same hA ht (aStill_from hA 256 hN) h h', Bool.eq_iff_iff]
  show _ ↔ (aLst A L t a == aLst A L t c) = true
  rw [beq_iff_eq, aLst_iff]
theorem lst_next {t : Nat} (hA : A.In L N) (ht : AStill A L N t) (a b : Nat) (h : a < N ∧ b = aLst A L t a) (x : Nat) (hx : x < L) : A.n a x < N ∧ lstN A L t b x = aLst A L t (A.n a x) := by
  obtain ⟨h, rfl⟩ := h
  obtain ⟨l1, l2, _⟩ := aLst_at A L t a
  refine ⟨hA a x h hx, ?_⟩
  unfold lstN
  rw [aLst_iff]
  exact aEq_symm A L t _ _ (aCong ht a _ x h (by omega) hx l2)
theorem lst_out {t : Nat} (ht : AStill A L N t) (a b : Nat) (h : a < N ∧ b = aLst A L t a) (x : Nat) (hx : x < L) : A.o a x = A.o b x := by
  obtain ⟨h, rfl⟩ := h
  obtain ⟨l1, l2, _⟩ := aLst_at A L t a
  exact ((aEq_succ A L t a _).1 (ht a _ h (by omega) l2) x hx).1
theorem lstQ_pair (hA : A.In L N) (hN : N ≤ 256) {t : Nat} (ht : AStill A L N t) {p0 : Nat} (hp : p0 < N) (k : Nat) : Pair (fun a b => a < N ∧ b = aLst A L t a) (bAll (aEq A L 256) A.n L p0 k) (bAll eqN (lstN A L t) L (aLst A L t p0) k) :=
  Pair.all (lst_rel hA hN ht) (fun a b h x hx => lst_next hA ht a b h x hx) ⟨hp, rfl⟩ k
theorem lstQ_mach (hA : A.In L N) (hN : N ≤ 256) {t : Nat} (ht : AStill A L N t) {p0 : Nat} (hp : p0 < N) : qM eqN (lstN A L t) A.o L 0 (bAll eqN (lstN A L t) L (aLst A L t p0) 256) = setM A L p0 :=
  (Pair.mach (lst_rel hA hN ht) (fun a b h x hx => lst_next hA ht a b h x hx) (fun a b h x hx => lst_out ht a b h x hx) (lstQ_pair hA hN ht hp 256)).symm
theorem lstQ_len (hA : A.In L N) (hN : N ≤ 256) {t : Nat} (ht : AStill A L N t) {p0 : Nat} (hp : p0 < N) (k : Nat) : (bAll eqN (lstN A L t) L (aLst A L t p0) k).length = (bAll (aEq A L 256) A.n L p0 k).length :=
  (lstQ_pair hA hN ht hp k).len.symm
end

/-! ### Two automata whose points belong together -/
section
variable {A B : Aut} {L N : Nat} {pr : Nat → Nat}
theorem hom_pair (hA : A.In L N) (h : ∀ i x, i < N → x < L → A.o i x = B.o (pr i) x ∧ pr (A.n i x) = B.n (pr i) x) {p0 : Nat} (hp : p0 < N) (k : Nat) : Pair (fun a b => a < N ∧ b = pr a) (bAll (aEq A L 256) A.n L p0 k) (bAll (aEq B L 256) B.n L (pr p0) k) :=
  Pair.all (fun a b c d h1 h2 => by obtain ⟨h1, rfl⟩ := h1; obtain ⟨h2, rfl⟩ := h2; exact aEq_hom hA h 256 a c h1 h2) (fun a b h1 x hx => by obtain ⟨h1, rfl⟩ := h1; exact ⟨hA a x h1 hx, ((h a x h1 hx).2).symm⟩) ⟨hp, rfl⟩ k
theorem hom_mach (hA : A.In L N) (h : ∀ i x, i < N → x < L → A.o i x = B.o (pr i) x ∧ pr (A.n i x) = B.n (pr i) x) {p0 : Nat} (hp : p0 < N) : setM A L p0 = setM B L (pr p0) :=
  Pair.mach (R := fun a b => a < N ∧ b = pr a) (fun a b c d h1 h2 => by obtain ⟨h1, rfl⟩ := h1; obtain ⟨h2, rfl⟩ := h2; exact aEq_hom hA h 256 a c h1 h2) (fun a b h1 x hx => by obtain ⟨h1, rfl⟩ := h1; exact ⟨hA a x h1 hx, ((h a x h1 hx).2).symm⟩)
    (fun a b h1 x hx => by obtain ⟨h1, rfl⟩ := h1; exact (h a x h1 hx).1) (hom_pair hA h hp 256)
theorem hom_len (hA : A.In L N) (h : ∀ i x, i < N → x < L → A.o i x = B.o (pr i) x ∧ pr (A.n i x) = B.n (pr i) x) {p0 : Nat} (hp : p0 < N) : (setQ A L p0).length = (setQ B L (pr p0)).length := (hom_pair hA h hp 256).len
end

/-! ### The rows of the queue of points -/
section
variable {B : Aut} {L N : Nat}
def ptQ (B : Aut) (L p0 : Nat) : List Nat := bAll eqN B.n L p0 256
def ptA (B : Aut) (L p0 : Nat) : Aut := qAut eqN B.n B.o (ptQ B L p0) 0
theorem ptQ_few (hB : B.In L N) (hN : N ≤ 256) {p0 : Nat} (hp : p0 < N) : (ptQ B L p0).length ≤ 256 := queue_few eqN_eq hB hN hp
theorem ptQ_lt (hB : B.In L N) {p0 : Nat} (hp : p0 < N) : ∀ p ∈ ptQ B L p0, p < N := bAll_all (fun p => p < N) L (fun r hr x hx => hB r x hr hx) p0 hp 256
theorem ptA_in (hB : B.In L N) (hN : N ≤ 256) {p0 : Nat} (hp : p0 < N) : (ptA B L p0).In L (ptQ B L p0).length := qAut_in _ _ eqN_eq.refl (ptQ_few hB hN hp)
theorem ptQ_pos (B : Aut) (L p0 : Nat) : 0 < (ptQ B L p0).length := by
  unfold ptQ; exact bAll_pos (E := eqN) (n := B.n) L p0 256
theorem ptQ_first (B : Aut) (L p0 : Nat) : (ptQ B L p0).getD 0 0 = p0 := by
  have := bAll_first (E := eqN) (n := B.n) L p0 256
  simp only [ptQ, List.getD, this, Option.getD_some]
theorem ptA_hom (hB : B.In L N) (hN : N ≤ 256) {p0 : Nat} (hp : p0 < N) (i x : Nat) (hi : i < (ptQ B L p0).length) (hx : x < L) : (ptA B L p0).o i x = B.o ((ptQ B L p0).getD i 0) x ∧ (ptQ B L p0).getD ((ptA B L p0).n i x) 0 = B.n ((ptQ B L p0).getD i 0) x :=
  qAut_hom (ptQ_few hB hN hp) i x hi hx
/-- The machine of the rows is that of the points. -/
theorem pt_mach (hB : B.In L N) (hN : N ≤ 256) {p0 : Nat} (hp : p0 < N) : setM (ptA B L p0) L 0 = setM B L p0 := by
  have := hom_mach (A := ptA B L p0) (B := B) (pr := fun i => (ptQ B L p0).getD i 0) (ptA_in hB hN hp) (fun i x hi hx => ptA_hom hB hN hp i x hi hx) (ptQ_pos B L p0)
  rw [this]
  exact congrArg _ (ptQ_first B L p0)
theorem pt_len (hB : B.In L N) (hN : N ≤ 256) {p0 : Nat} (hp : p0 < N) : (setQ (ptA B L p0) L 0).length = (setQ B L p0).length := by
  have := hom_len (A := ptA B L p0) (B := B) (pr := fun i => (ptQ B L p0).getD i 0) (ptA_in hB hN hp) (fun i x hi hx => ptA_hom hB hN hp i x hi hx) (ptQ_pos B L p0)
  rw [this]
  exact congrArg (fun p => (setQ B L p).length) (ptQ_first B L p0)
/-- The number of sets of rows is that of the states. -/
theorem pt_cnt (hB : B.In L N) (hN : N ≤ 256) {p0 : Nat} (hp : p0 < N) : cntB (aRep (ptA B L p0) L 256) (ptQ B L p0).length = (setQ B L p0).length := by
  have hin := ptA_in hB hN hp
  have hfew := ptQ_few hB hN hp
  have hst := aStill_from hin 256 hfew
  have hfrom : ∀ i, 0 < i → i < (ptQ B L p0).length → ∃ j x, j < i ∧ x < L ∧ (ptA B L p0).n j x = i := fun i h0 hi => qAut_from (E := eqN) (n := B.n) B.o 0 eqN_eq.refl (L := L) (K := 256) (p0 := p0) i h0 hi
  have hc := sets_cnt hin hst (ptQ_pos B L p0) hfrom 256 (queue_few (aBEq (ptA B L p0) L 256) hin hfew (ptQ_pos B L p0))
  rw [← pt_len hB hN hp, ← hc]
  rfl
end

/-! ### Machines of queues are machines -/
theorem getD_get (l : List Nat) {i : Nat} (h : i < l.length) : l.getD i 0 = l[i] := by simp [List.getD, List.getElem?_eq_getElem h]
theorem setM_good {A : Aut} {L N : Nat} (hA : A.In L N) {p0 : Nat} (hp : p0 < N) (h2 : 2 ≤ L) (h3 : L ≤ 3) (h16 : (setQ A L p0).length ≤ 16) (_hN : N ≤ 256)
    (ho : ∀ p x, p < N → x < L → 0 ≤ A.o p x ∧ A.o p x < L) (hi : ∀ p x y, p < N → x < y → y < L → A.o p x ≠ A.o p y) : Good (setM A L p0) L (setQ A L p0).length := by
  have hpos : 0 < (setQ A L p0).length := by
    unfold setQ; exact bAll_pos (E := aEq A L 256) (n := A.n) L p0 256
  have hin := setQ_in hA hp
  have hcl : ∀ i (hi : i < (setQ A L p0).length), i < 256 → ∀ x, x < L → bPos (aEq A L 256) (setQ A L p0) (A.n (setQ A L p0)[i] x) < (setQ A L p0).length := by
    unfold setQ; exact bAll_closed (E := aEq A L 256) (n := A.n) (aEq_refl A L 256) L p0 256
  have hat : ∀ q x, q < 16 → x < 3 → (setM A L p0).n q x = (if q < (setQ A L p0).length ∧ x < L then (bPos (aEq A L 256) (setQ A L p0) (A.n ((setQ A L p0).getD q 0) x) : Int) else 0) ∧
      (setM A L p0).o q x = (if q < (setQ A L p0).length ∧ x < L then A.o ((setQ A L p0).getD q 0) x else 0) := fun q x hq hx => by
    unfold setM qM
    rw [mkM_n _ _ _ _ _ _ hq hx, mkM_o _ _ _ _ _ _ hq hx]
    unfold qNx qOt
    by_cases h : q < (setQ A L p0).length ∧ x < L
    · rw [if_pos ⟨.inl h.1, h.2⟩, if_pos h]; exact ⟨rfl, rfl⟩
    · rw [if_neg (by omega), if_neg h]; exact ⟨rfl, rfl⟩
  refine ⟨?_, rfl, rfl, h2, h3, hpos, h16, ?_⟩
  · refine mkM_ok (fun q x => qNx_bd (by omega) q x) (fun q x => ?_) (by omega) (by omega)
    unfold qOt
    split
    · rename_i h
      obtain ⟨hq1, hx1⟩ := h
      have e := getD_get (setQ A L p0) hq1
      have := ho _ x (hin _ (List.getElem_mem hq1)) hx1
      rw [e]
      omega
    · omega
  · unfold machUpTo rowAll
    rw [List.all_eq_true]
    intro q hq
    rw [List.all_eq_true]
    intro x hx
    have hq16 : q < 16 := by simpa using hq
    have hx3 : x < 3 := by simpa using hx
    unfold cellAll
    obtain ⟨e1, e2⟩ := hat q x hq16 hx3
    by_cases h : q < (setQ A L p0).length ∧ x < L
    · have hq1 := h.1
      have e := getD_get (setQ A L p0) hq1
      have hm := hin _ (List.getElem_mem hq1)
      rw [if_pos h] at e1 e2 ⊢
      unfold cellOk
      have hc := hcl q hq1 (by omega) x h.2
      have hb := ho _ x hm h.2
      rw [e] at e1 e2
      rw [e1, e2, Bool.and_eq_true, Bool.and_eq_true, decide_eq_true_eq, decide_eq_true_eq, Bool.not_eq_true']
      refine ⟨by exact_mod_cast hc, hb.2, ?_⟩
      unfold seenB
      rw [List.any_eq_false]
      intro y hy
      have hyx : y < x := by simpa using hy
      have e3 := (hat q y hq16 (by omega)).2
      rw [if_pos ⟨h.1, by omega⟩, e] at e3
      rw [e3, decide_eq_true_eq]
      exact hi _ y x hm hyx h.2
    · rw [if_neg h] at e1 e2 ⊢
      exact decide_eq_true ⟨e1, e2⟩

/-! ### Products -/
def prodQ (M K : Mach) (L T p0 : Nat) : List Nat := setQ (prA M K T) L p0
def prodM (M K : Mach) (L T p0 : Nat) : Mach := setM (prA M K T) L p0
theorem prodM_good {M K : Mach} {L S T p0 : Nat} (hM : Good M L S) (hK : Good K L T) (hp : p0 < S * T) (h : (prodQ M K L T p0).length ≤ 16) : Good (prodM M K L T p0) L (prodQ M K L T p0).length :=
  setM_good (prA_in hM hK) hp hM.L2 hM.L3 h (few_prod hM.S16 hK.S16) (fun p x hp hx => by
    obtain ⟨h1, h2⟩ := pr_lt hp
    exact hK.o_lt _ _ h2 (hM.oN _ x h1 hx).1) (fun p x y hp hxy hy e => by
    obtain ⟨h1, h2⟩ := pr_lt hp
    have hx : x < L := by omega
    have a := hM.oN _ x h1 hx
    have b := hM.oN _ y h1 hy
    have hne := hM.inj _ x y h1 hxy hy
    have hn2 : (M.o (p / T) x).toNat ≠ (M.o (p / T) y).toNat := fun e => hne (by rw [a.2, b.2, e])
    rcases Nat.lt_or_gt_of_ne hn2 with h3 | h3
    · exact hK.inj _ _ _ h2 h3 b.1 e
    · exact hK.inj _ _ _ h2 h3 a.1 e.symm)
/-- One machine's own states. -/
def stA (M : Mach) : Aut := ⟨M.o, nn M⟩
theorem stA_in {M : Mach} {L S : Nat} (hM : Good M L S) : (stA M).In L S := fun q x hq hx => hM.nn_lt q x hq hx
def stM (M : Mach) (L q : Nat) : Mach := setM (stA M) L q
def stQ (M : Mach) (L q : Nat) : List Nat := setQ (stA M) L q
theorem stQ_le {M : Mach} {L S q : Nat} (hM : Good M L S) (hq : q < S) : (stQ M L q).length ≤ 16 := by
  have h1 : BNew (aEq (stA M) L 256) (stQ M L q) := by
    unfold stQ setQ; exact bAll_new (E := aEq (stA M) L 256) (n := (stA M).n) (aBEq (stA M) L 256) L q 256
  exact Nat.le_trans (few_points (E := aEq (stA M) L 256) (aEq_refl (stA M) L 256) h1 (setQ_in (stA_in hM) hq)) hM.S16
theorem stM_good {M : Mach} {L S q : Nat} (hM : Good M L S) (hq : q < S) : Good (stM M L q) L (stQ M L q).length :=
  setM_good (stA_in hM) hq hM.L2 hM.L3 (stQ_le hM hq) (by have := hM.S16; omega) (fun p x hp hx => hM.o_lt p x hp hx) (fun p x y hp hxy hy => hM.inj p x y hp hxy hy)
/-- The machine with one state, which is trivial. -/
def trivM (L : Nat) : Mach := mkM L 1 (fun _ _ => 0) (fun i x => if i = 0 ∧ x < L then (x : Int) else 0)
theorem trivM_o (L q x : Nat) (hq : q < 16) (hx : x < 3) : (trivM L).o q x = if q = 0 ∧ x < L then (x : Int) else 0 := mkM_o _ _ _ _ q x hq hx
theorem trivM_n (L q x : Nat) (hq : q < 16) (hx : x < 3) : (trivM L).n q x = 0 := mkM_n _ _ _ _ q x hq hx
theorem trivM_good {L : Nat} (h2 : 2 ≤ L) (h3 : L ≤ 3) : Good (trivM L) L 1 := by
  refine ⟨?_, rfl, rfl, h2, h3, by omega, by omega, ?_⟩
  · refine ⟨by simp [trivM, mkM], by simp [trivM, mkM], ?_, ?_, by simp [trivM, mkM]; omega, by simp [trivM, mkM]⟩
    · intro n hn
      simp only [trivM, mkM, List.mem_map] at hn
      obtain ⟨_, _, rfl⟩ := hn
      omega
    · intro n hn
      simp only [trivM, mkM, List.mem_map] at hn
      obtain ⟨k, _, rfl⟩ := hn
      split <;> omega
  · rcases (show L = 2 ∨ L = 3 by omega) with rfl | rfl <;> decide
/-- The product of the trivial state and q is the machine of q. -/
theorem triv_prod {M : Mach} {L S q : Nat} (hM : Good M L S) (hq : q < S) : prodM (trivM L) M L S q = stM M L q ∧ (prodQ (trivM L) M L S q).length = (stQ M L q).length := by
  have hS := hM.S16; have hL := hM.L3
  have h : ∀ i x, i < S → x < L → (stA M).o i x = (prA (trivM L) M S).o (id i) x ∧ id ((stA M).n i x) = (prA (trivM L) M S).n (id i) x := fun i x hi hx => by
    have hd : i / S = 0 := Nat.div_eq_of_lt hi
    have hm : i % S = i := Nat.mod_eq_of_lt hi
    have e1 : (trivM L).o 0 x = (x : Int) := by rw [trivM_o L 0 x (by omega) (by omega), if_pos ⟨rfl, hx⟩]
    have e2 : nn (trivM L) 0 x = 0 := by unfold nn; rw [trivM_n L 0 x (by omega) (by omega)]; rfl
    refine ⟨?_, ?_⟩
    · show M.o i x = M.o (i % S) ((trivM L).o (i / S) x).toNat
      rw [hd, hm, e1, Int.toNat_natCast]
    · show nn M i x = nn (trivM L) (i / S) x * S + nn M (i % S) ((trivM L).o (i / S) x).toNat
      rw [hd, hm, e1, Int.toNat_natCast, e2, Nat.zero_mul, Nat.zero_add]
  exact ⟨(hom_mach (stA_in hM) h hq).symm, (hom_len (stA_in hM) h hq).symm⟩
end Go.Proofs.Ytliohokcjgcmhaa
