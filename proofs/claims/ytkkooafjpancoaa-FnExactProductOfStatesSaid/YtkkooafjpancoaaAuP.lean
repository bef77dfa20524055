/- Products of states: pairs of states as points; the program's rows and the model's sets tell one machine. -/
import Derived.Test.YtkkooafjpancoaaAuD
import Derived.Test.YtkkooafjpancoaaInvG
namespace Go.Proofs.Ytkkooafjpancoaa
open Go.RowKit

/-- The pair of the states p / T and p % T. -/
def prA (M K : Mach) (T : Nat) : Aut := ⟨fun p x => K.o (p % T) (M.o (p / T) x).toNat, fun p x => nn M (p / T) x * T + nn K (p % T) (M.o (p / T) x).toNat⟩
theorem pr_lt {S T p : Nat} (hp : p < S * T) : p / T < S ∧ p % T < T := by
  have hT : 0 < T := by
    rcases Nat.eq_zero_or_pos T with h | h
    · subst h; simp at hp
    · exact h
  exact ⟨(Nat.div_lt_iff_lt_mul hT).2 hp, Nat.mod_lt _ hT⟩
theorem Good.oN {M : Mach} {L S : Nat} (h : Good M L S) (q x : Nat) (hq : q < S) (hx : x < L) : (M.o q x).toNat < L ∧ M.o q x = ((M.o q x).toNat : Int) := by
  have := h.o_lt q x hq hx
  omega
theorem prA_in {M K : Mach} {L S T : Nat} (hM : Good M L S) (hK : Good K L T) : (prA M K T).In L (S * T) := fun p x hp hx => by
  obtain ⟨h1, h2⟩ := pr_lt hp
  have a := hM.nn_lt _ x h1 hx
  have b := hK.nn_lt _ _ h2 (hM.oN _ x h1 hx).1
  show nn M (p / T) x * T + nn K (p % T) (M.o (p / T) x).toNat < S * T
  calc nn M (p / T) x * T + nn K (p % T) (M.o (p / T) x).toNat < nn M (p / T) x * T + T := by omega
    _ = (nn M (p / T) x + 1) * T := by rw [Nat.succ_mul]
    _ ≤ S * T := Nat.mul_le_mul_right _ (by omega)
theorem prA_bd {M K : Mach} {T : Nat} (hK : K.Ok) (p x : Nat) : 0 ≤ (prA M K T).o p x ∧ (prA M K T).o p x ≤ 255 := Mach.o_bd hK _ _
theorem few_prod {S T : Nat} (hS : S ≤ 16) (hT : T ≤ 16) : S * T ≤ 256 := Nat.le_trans (Nat.mul_le_mul hS hT) (by omega)
abbrev eqN : Nat → Nat → Bool := fun a b => a == b
theorem eqN_eq : BEq eqN := ⟨fun p => beq_self_eq_true p, fun _ _ h => beq_iff_eq.2 (beq_iff_eq.1 h).symm, fun _ _ _ h h' => beq_iff_eq.2 ((beq_iff_eq.1 h).trans (beq_iff_eq.1 h'))⟩

/-! ### Any automaton whose points are told by numbers below N -/
section
variable {A : Aut} {L N : Nat}
theorem queue_few {E : Nat → Nat → Bool} (hE : BEq E) (hA : A.In L N) (hN : N ≤ 256) {p0 : Nat} (hp : p0 < N) : (bAll E A.n L p0 256).length ≤ 256 :=
  Nat.le_trans (few_points hE.refl (bAll_new hE L p0 256) (bAll_all (fun p => p < N) L (fun r hr x hx => hA r x hr hx) p0 hp 256)) hN
/-- The queue of sets of equal points, and its machine. -/
def setQ (A : Aut) (L p0 : Nat) : List Nat := bAll (aEq A L 256) A.n L p0 256
def setM (A : Aut) (L p0 : Nat) : Mach := qM (aEq A L 256) A.n A.o L 0 (setQ A L p0)
theorem setQ_few (hA : A.In L N) (hN : N ≤ 256) {p0 : Nat} (hp : p0 < N) : (setQ A L p0).length ≤ 256 := queue_few (aBEq A L 256) hA hN hp
theorem setQ_in (hA : A.In L N) {p0 : Nat} (hp : p0 < N) : ∀ p ∈ setQ A L p0, p < N := bAll_all (fun p => p < N) L (fun r hr x hx => hA r x hr hx) p0 hp 256
/-- Sets by their numbers. -/
def numE (A : Aut) (L t : Nat) : Nat → Nat → Bool := fun a b => aNum A L t a == aNum A L t b
theorem numE_eq (t : Nat) (a b : Nat) : numE A L t a b = aEq A L t a b := by
  unfold numE
  rw [Bool.eq_iff_iff, beq_iff_eq, aNum_iff]
theorem numE_same (t : Nat) : numE A L t = aEq A L t := by
  funext a b; exact numE_eq t a b
theorem numE_last (hA : A.In L N) (hN : N ≤ 256) {t : Nat} (ht : AStill A L N t) {a b : Nat} (ha : a < N) (hb : b < N) : numE A L t a b = aEq A L 256 a b := by
  rw [numE_eq]; exact aStill_same hA ht (aStill_from hA 256 hN) ha hb
/-- The queue by numbers of sets is that of equal points. -/
theorem numQ_pair (hA : A.In L N) (hN : N ≤ 256) {t : Nat} (ht : AStill A L N t) {p0 : Nat} (hp : p0 < N) (k : Nat) : Pair (fun a b => a < N ∧ a = b) (bAll (numE A L t) A.n L p0 k) (bAll (aEq A L 256) A.n L p0 k) :=
  Pair.all (E := numE A L t) (E' := aEq A L 256) (fun a b c d h h' => by obtain ⟨h, rfl⟩ := h; obtain ⟨h', rfl⟩ := h'; exact numE_last hA hN ht h h') (fun a b h x hx => by obtain ⟨h, rfl⟩ := h; exact ⟨hA a x h hx, rfl⟩) ⟨hp, rfl⟩ k
theorem numQ_mach (hA : A.In L N) (hN : N ≤ 256) {t : Nat} (ht : AStill A L N t) {p0 : Nat} (hp : p0 < N) : qM (numE A L t) A.n A.o L 0 (bAll (numE A L t) A.n L p0 256) = setM A L p0 :=
  Pair.mach (R := fun a b => a < N ∧ a = b) (fun a b c d h h' => by obtain ⟨h, rfl⟩ := h; obtain ⟨h', rfl⟩ := h'; exact numE_last hA hN ht h h') (fun a b h x hx => by obtain ⟨h, rfl⟩ := h; exact ⟨hA a x h hx, rfl⟩) (fun a b h x _ => by obtain ⟨_, rfl⟩ := h; rfl) (numQ_pair hA hN ht hp 256)
/-- The model's queue: of the least points of the sets. -/
def lstN (A : Aut) (L t : Nat) : Nat → Nat → Nat := fun p x => aLst A L t (A.n p x)
theorem lst_rel {t : Nat} (hA : A.In L N) (hN : N ≤ 256) (ht : AStill A L N t) (a b c d : Nat) (h : a < N ∧ b = aLst A L t a) (h' : c < N ∧ d = aLst A L t c) : aEq A L 256 a c = eqN b d := by
  obtain ⟨h, rfl⟩ := h; obtain ⟨h', rfl⟩ := h'
  rw [← aStill_same hA ht (aStill_from hA 256 hN) h h', Bool.eq_iff_iff]
  show _ ↔ (aLst A L t a == aLst A L t c) = true
  rw [beq_iff_eq, aLst_iff]
theorem lst_next {t : Nat} (hA : A.In L N) (ht : AStill A L N t) (a b : Nat) (h : a < N ∧ b = aLst A L t a) (x : Nat) (hx : x < L) : A.n a x < N ∧ lstN A L t b x = aLst A L t (A.n a x) := by
  obtain ⟨h, rfl⟩ := h
  obtain ⟨l1, l2, _⟩ := aLst_at A L t a
  refine ⟨hA a x h hx, ?_⟩
  unfold lstN
  rw [aLst_iff]
  exact aEq_symm A L t _ _ (aCong ht a _ x h (by omega) hx l2)
theorem lst_out {t : Nat} (ht : AStill A L N t) (a b : Nat) (h : a < N ∧ b = aLst A L t a) (x : Nat) (hx : x < L) : A.o a x = A.o b x := by
  obtain ⟨h, rfl⟩ := h
  obtain ⟨l1, l2, _⟩ := aLst_at A L t a
  exact ((aEq_succ A L t a _).1 (ht a _ h (by omega) l2) x hx).1
theorem lstQ_pair (hA : A.In L N) (hN : N ≤ 256) {t : Nat} (ht : AStill A L N t) {p0 : Nat} (hp : p0 < N) (k : Nat) : Pair (fun a b => a < N ∧ b = aLst A L t a) (bAll (aEq A L 256) A.n L p0 k) (bAll eqN (lstN A L t) L (aLst A L t p0) k) :=
  Pair.all (lst_rel hA hN ht) (fun a b h x hx => lst_next hA ht a b h x hx) ⟨hp, rfl⟩ k
theorem lstQ_mach (hA : A.In L N) (hN : N ≤ 256) {t : Nat} (ht : AStill A L N t) {p0 : Nat} (hp : p0 < N) : qM eqN (lstN A L t) A.o L 0 (bAll eqN (lstN A L t) L (aLst A L t p0) 256) = setM A L p0 :=
  (Pair.mach (lst_rel hA hN ht) (fun a b h x hx => lst_next hA ht a b h x hx) (fun a b h x hx => lst_out ht a b h x hx) (lstQ_pair hA hN ht hp 256)).symm
theorem lstQ_len (hA : A.In L N) (hN : N ≤ 256) {t : Nat} (ht : AStill A L N t) {p0 : Nat} (hp : p0 < N) (k : Nat) : (bAll eqN (lstN A L t) L (aLst A L t p0) k).length = (bAll (aEq A L 256) A.n L p0 k).length :=
  (lstQ_pair hA hN ht hp k).len.symm
end

/-! ### Two automata whose points belong together -/
section
variable {A B : Aut} {L N : Nat} {pr : Nat → Nat}
theorem hom_pair (hA : A.In L N) (h : ∀ i x, i < N → x < L → A.o i x = B.o (pr i) x ∧ pr (A.n i x) = B.n (pr i) x) {p0 : Nat} (hp : p0 < N) (k : Nat) : Pair (fun a b => a < N ∧ b = pr a) (bAll (aEq A L 256) A.n L p0 k) (bAll (aEq B L 256) B.n L (pr p0) k) :=
  Pair.all (fun a b c d h1 h2 => by obtain ⟨h1, rfl⟩ := h1; obtain ⟨h2, rfl⟩ := h2; exact aEq_hom hA h 256 a c h1 h2) (fun a b h1 x hx => by obtain ⟨h1, rfl⟩ := h1; exact ⟨hA a x h1 hx, ((h a x h1 hx).2).symm⟩) ⟨hp, rfl⟩ k
theorem hom_mach (hA : A.In L N) (h : ∀ i x, i < N → x < L → A.o i x = B.o (pr i) x ∧ pr (A.n i x) = B.n (pr i) x) {p0 : Nat} (hp : p0 < N) : setM A L p0 = setM B L (pr p0) :=
  Pair.mach (R := fun a b => a < N ∧ b = pr a) (fun a b c d h1 h2 => by obtain ⟨h1, rfl⟩ := h1; obtain ⟨h2, rfl⟩ := h2; exact aEq_hom hA h 256 a c h1 h2) (fun a b h1 x hx => by obtain ⟨h1, rfl⟩ := h1; exact ⟨hA a x h1 hx, ((h a x h1 hx).2).symm⟩)
    (fun a b h1 x hx => by obtain ⟨h1, rfl⟩ := h1; exact (h a x h1 hx).1) (hom_pair hA h hp 256)
theorem hom_len (hA : A.In L N) (h : ∀ i x, i < N → x < L → A.o i x = B.o (pr i) x ∧ pr (A.n i x) = B.n (pr i) x) {p0 : Nat} (hp : p0 < N) : (setQ A L p0).length = (setQ B L (pr p0)).length := (hom_pair hA h hp 256).len
end

/-! ### The rows of the queue of points -/
section
variable {B : Aut} {L N : Nat}
def ptQ (B : Aut) (L p0 : Nat) : List Nat := bAll eqN B.n L p0 256
def ptA (B : Aut) (L p0 : Nat) : Aut := qAut eqN B.n B.o (ptQ B L p0) 0
theorem ptQ_few (hB : B.In L N) (hN : N ≤ 256) {p0 : Nat} (hp : p0 < N) : (ptQ B L p0).length ≤ 256 := queue_few eqN_eq hB hN hp
theorem ptQ_lt (hB : B.In L N) {p0 : Nat} (hp : p0 < N) : ∀ p ∈ ptQ B L p0, p < N := bAll_all (fun p => p < N) L (fun r hr x hx => hB r x hr hx) p0 hp 256
theorem ptA_in (hB : B.In L N) (hN : N ≤ 256) {p0 : Nat} (hp : p0 < N) : (ptA B L p0).In L (ptQ B L p0).length := qAut_in _ _ eqN_eq.refl (ptQ_few hB hN hp)
theorem ptQ_pos (B : Aut) (L p0 : Nat) : 0 < (ptQ B L p0).length := by
  unfold ptQ; exact bAll_pos (E := eqN) (n := B.n) L p0 256
theorem ptQ_first (B : Aut) (L p0 : Nat) : (ptQ B L p0).getD 0 0 = p0 := by
  have := bAll_first (E := eqN) (n := B.n) L p0 256
  simp only [ptQ, List.getD, this, Option.getD_some]
theorem ptA_hom (hB : B.In L N) (hN : N ≤ 256) {p0 : Nat} (hp : p0 < N) (i x : Nat) (hi : i < (ptQ B L p0).length) (hx : x < L) : (ptA B L p0).o i x = B.o ((ptQ B L p0).getD i 0) x ∧ (ptQ B L p0).getD ((ptA B L p0).n i x) 0 = B.n ((ptQ B L p0).getD i 0) x :=
  qAut_hom (ptQ_few hB hN hp) i x hi hx
/-- The machine of the rows is that of the points. -/
theorem pt_mach (hB : B.In L N) (hN : N ≤ 256) {p0 : Nat} (hp : p0 < N) : setM (ptA B L p0) L 0 = setM B L p0 := by
  have := hom_mach (A := ptA B L p0) (B := B) (pr := fun i => (ptQ B L p0).getD i 0) (ptA_in hB hN hp) (fun i x hi hx => ptA_hom hB hN hp i x hi hx) (ptQ_pos B L p0)
  rw [this]
  exact congrArg _ (ptQ_first B L p0)
theorem pt_len (hB : B.In L N) (hN : N ≤ 256) {p0 : Nat} (hp : p0 < N) : (setQ (ptA B L p0) L 0).length = (setQ B L p0).length := by
  have := hom_len (A := ptA B L p0) (B := B) (pr := fun i => (ptQ B L p0).getD i 0) (ptA_in hB hN hp) (fun i x hi hx => ptA_hom hB hN hp i x hi hx) (ptQ_pos B L p0)
  rw [this]
  exact congrArg (fun p => (setQ B L p).length) (ptQ_first B L p0)
/-- The number of sets of rows is that of the states. -/
theorem pt_cnt (hB : B.In L N) (hN : N ≤ 256) {p0 : Nat} (hp : p0 < N) : cntB (aRep (ptA B L p0) L 256) (ptQ B L p0).length = (setQ B L p0).length := by
  have hin := ptA_in hB hN hp
  have hfew := ptQ_few hB hN hp
  have hst := aStill_from hin 256 hfew
  have hfrom : ∀ i, 0 < i → i < (ptQ B L p0).length → ∃ j x, j < i ∧ x < L ∧ (ptA B L p0).n j x = i := fun i h0 hi => qAut_from (E := eqN) (n := B.n) B.o 0 eqN_eq.refl (L := L) (K := 256) (p0 := p0) i h0 hi
  have hc := sets_cnt hin hst (ptQ_pos B L p0) hfrom 256 (queue_few (aBEq (ptA B L p0) L 256) hin hfew (ptQ_pos B L p0))
  rw [← pt_len hB hN hp, ← hc]
  rfl
end

/-! ### Machines of queues are machines -/
theorem getD_get (l : List Nat) {i : Nat} (h : i < l.length) : l.getD i 0 = l[i] := by simp [List.getD, List.getElem?_eq_getElem h]
theorem setM_good {A : Aut} {L N : Nat} (hA : A.In L N) {p0 : Nat} (hp : p0 < N) (h2 : 2 ≤ L) (h3 : L ≤ 3) (h16 : (setQ A L p0).length ≤ 16) (_hN : N ≤ 256)
    (ho : ∀ p x, p < N → x < L → 0 ≤ A.o p x ∧ A.o p x < L) (hi : ∀ p x y, p < N → x < y → y < L → A.o p x ≠ A.o p y) : Good (setM A L p0) L (setQ A L p0).length := by
  have hpos : 0 < (setQ A L p0).length := by
    unfold setQ; exact bAll_pos (E := aEq A L 256) (n := A.n) L p0 256
  have hin := setQ_in hA hp
  have hcl : ∀ i (hi : i < (setQ A L p0).length), i < 256 → ∀ x, x < L → bPos (aEq A L 256) (setQ A L p0) (A.n (setQ A L p0)[i] x) < (setQ A L p0).length := by
    unfold setQ; exact bAll_closed (E := aEq A L 256) (n := A.n) (aEq_refl A L 256) L p0 256
  have hat : ∀ q x, q < 16 → x < 3 → (setM A L p0).n q x = (if q < (setQ A L p0).length ∧ x < L then (bPos (aEq A L 256) (setQ A L p0) (A.n ((setQ A L p0).getD q 0) x) : Int) else 0) ∧
      (setM A L p0).o q x = (if q < (setQ A L p0).length ∧ x < L then A.o ((setQ A L p0).getD q 0) x else 0) := fun q x hq hx => by
    unfold setM qM
    rw [mkM_n _ _ _ _ _ _ hq hx, mkM_o _ _ _ _ _ _ hq hx]
    unfold qNx qOt
    by_cases h : q < (setQ A L p0).length ∧ x < L
    · rw [if_pos ⟨.inl h.1, h.2⟩, if_pos h]; exact ⟨rfl, rfl⟩
    · rw [if_neg (by omega), if_neg h]; exact ⟨rfl, rfl⟩
  refine ⟨?_, rfl, rfl, h2, h3, hpos, h16, ?_⟩
  · refine mkM_ok (fun q x => qNx_bd (by omega) q x) (fun q x => ?_) (by omega) (by omega)
    unfold qOt
    split
    · rename_i h
      obtain ⟨hq1, hx1⟩ := h
      have e := getD_get (setQ A L p0) hq1
      have := ho _ x (hin _ (List.getElem_mem hq1)) hx1
      rw [e]
      omega
    · omega
  · unfold machUpTo rowAll
    rw [List.all_eq_true]
    intro q hq
    rw [List.all_eq_true]
    intro x hx
    have hq16 : q < 16 := by simpa using hq
    have hx3 : x < 3 := by simpa using hx
    unfold cellAll
    obtain ⟨e1, e2⟩ := hat q x hq16 hx3
    by_cases h : q < (setQ A L p0).length ∧ x < L
    · have hq1 := h.1
      have e := getD_get (setQ A L p0) hq1
      have hm := hin _ (List.getElem_mem hq1)
      rw [if_pos h] at e1 e2 ⊢
      unfold cellOk
      have hc := hcl q hq1 (by omega) x h.2
      have hb := ho _ x hm h.2
      rw [e] at e1 e2
      rw [e1, e2, Bool.and_eq_true, Bool.and_eq_true, decide_eq_true_eq, decide_eq_true_eq, Bool.not_eq_true']
      refine ⟨by exact_mod_cast hc, hb.2, ?_⟩
      unfold seenB
      rw [List.any_eq_false]
      intro y hy
      have hyx : y < x := by simpa using hy
      have e3 := (hat q y hq16 (by omega)).2
      rw [if_pos ⟨h.1, by omega⟩, e] at e3
      rw [e3, decide_eq_true_eq]
      exact hi _ y x hm hyx h.2
    · rw [if_neg h] at e1 e2 ⊢
      exact decide_eq_true ⟨e1, e2⟩

/-! ### Products -/
def prodQ (M K : Mach) (L T p0 : Nat) : List Nat := setQ (prA M K T) L p0
def prodM (M K : Mach) (L T p0 : Nat) : Mach := setM (prA M K T) L p0
theorem prodM_good {M K : Mach} {L S T p0 : Nat} (hM : Good M L S) (hK : Good K L T) (hp : p0 < S * T) (h : (prodQ M K L T p0).length ≤ 16) : Good (prodM M K L T p0) L (prodQ M K L T p0).length :=
  setM_good (prA_in hM hK) hp hM.L2 hM.L3 h (few_prod hM.S16 hK.S16) (fun p x hp hx => by
    obtain ⟨h1, h2⟩ := pr_lt hp
    exact hK.o_lt _ _ h2 (hM.oN _ x h1 hx).1) (fun p x y hp hxy hy e => by
    obtain ⟨h1, h2⟩ := pr_lt hp
    have hx : x < L := by omega
    have a := hM.oN _ x h1 hx
    have b := hM.oN _ y h1 hy
    have hne := hM.inj _ x y h1 hxy hy
    have hn2 : (M.o (p / T) x).toNat ≠ (M.o (p / T) y).toNat := fun e => hne (by rw [a.2, b.2, e])
    rcases Nat.lt_or_gt_of_ne hn2 with h3 | h3
    · exact hK.inj _ _ _ h2 h3 b.1 e
    · exact hK.inj _ _ _ h2 h3 a.1 e.symm)
/-- One machine's own states. -/
def stA (M : Mach) : Aut := ⟨M.o, nn M⟩
theorem stA_in {M : Mach} {L S : Nat} (hM : Good M L S) : (stA M).In L S := fun q x hq hx => hM.nn_lt q x hq hx
def stM (M : Mach) (L q : Nat) : Mach := setM (stA M) L q
def stQ (M : Mach) (L q : Nat) : List Nat := setQ (stA M) L q
theorem stQ_le {M : Mach} {L S q : Nat} (hM : Good M L S) (hq : q < S) : (stQ M L q).length ≤ 16 := by
  have h1 : BNew (aEq (stA M) L 256) (stQ M L q) := by
    unfold stQ setQ; exact bAll_new (E := aEq (stA M) L 256) (n := (stA M).n) (aBEq (stA M) L 256) L q 256
  exact Nat.le_trans (few_points (E := aEq (stA M) L 256) (aEq_refl (stA M) L 256) h1 (setQ_in (stA_in hM) hq)) hM.S16
theorem stM_good {M : Mach} {L S q : Nat} (hM : Good M L S) (hq : q < S) : Good (stM M L q) L (stQ M L q).length :=
  setM_good (stA_in hM) hq hM.L2 hM.L3 (stQ_le hM hq) (by have := hM.S16; omega) (fun p x hp hx => hM.o_lt p x hp hx) (fun p x y hp hxy hy => hM.inj p x y hp hxy hy)
/-- The machine with one state, which is trivial. -/
def trivM (L : Nat) : Mach := mkM L 1 (fun _ _ => 0) (fun i x => if i = 0 ∧ x < L then (x : Int) else 0)
theorem trivM_o (L q x : Nat) (hq : q < 16) (hx : x < 3) : (trivM L).o q x = if q = 0 ∧ x < L then (x : Int) else 0 := mkM_o _ _ _ _ q x hq hx
theorem trivM_n (L q x : Nat) (hq : q < 16) (hx : x < 3) : (trivM L).n q x = 0 := mkM_n _ _ _ _ q x hq hx
theorem trivM_good {L : Nat} (h2 : 2 ≤ L) (h3 : L ≤ 3) : Good (trivM L) L 1 := by
  refine ⟨?_, rfl, rfl, h2, h3, by omega, by omega, ?_⟩
  · refine ⟨by simp [trivM, mkM], by simp [trivM, mkM], ?_, ?_, by simp [trivM, mkM]; omega, by simp [trivM, mkM]⟩
    · intro n hn
      simp only [trivM, mkM, List.mem_map] at hn
      obtain ⟨_, _, rfl⟩ := hn
      omega
    · intro n hn
      simp only [trivM, mkM, List.mem_map] at hn
      obtain ⟨k, _, rfl⟩ := hn
      split <;> omega
  · rcases (show L = 2 ∨ L = 3 by omega) with rfl | rfl <;> decide
/-- The product of the trivial state and q is the machine of q. -/
theorem triv_prod {M : Mach} {L S q : Nat} (hM : Good M L S) (hq : q < S) : prodM (trivM L) M L S q = stM M L q ∧ (prodQ (trivM L) M L S q).length = (stQ M L q).length := by
  have hS := hM.S16; have hL := hM.L3
  have h : ∀ i x, i < S → x < L → (stA M).o i x = (prA (trivM L) M S).o (id i) x ∧ id ((stA M).n i x) = (prA (trivM L) M S).n (id i) x := fun i x hi hx => by
    have hd : i / S = 0 := Nat.div_eq_of_lt hi
    have hm : i % S = i := Nat.mod_eq_of_lt hi
    have e1 : (trivM L).o 0 x = (x : Int) := by rw [trivM_o L 0 x (by omega) (by omega), if_pos ⟨rfl, hx⟩]
    have e2 : nn (trivM L) 0 x = 0 := by unfold nn; rw [trivM_n L 0 x (by omega) (by omega)]; rfl
    refine ⟨?_, ?_⟩
    · show M.o i x = M.o (i % S) ((trivM L).o (i / S) x).toNat
      rw [hd, hm, e1, Int.toNat_natCast]
    · show nn M i x = nn (trivM L) (i / S) x * S + nn M (i % S) ((trivM L).o (i / S) x).toNat
      rw [hd, hm, e1, Int.toNat_natCast, e2, Nat.zero_mul, Nat.zero_add]
  exact ⟨(hom_mach (stA_in hM) h hq).symm, (hom_len (stA_in hM) h hq).symm⟩
end Go.Proofs.Ytkkooafjpancoaa
