/- 'CommutatorOfStates': the program and the model. Written by gen/genco.py. -/
import Derived.Test.YtkkooafjpancoaaPoS
namespace Go.Proofs.Ytkkooafjpancoaa
open Go.RowKit

/-! ### Points of two automata that lead words alike -/
section
variable {A B : Aut} {L : Nat} {R : Nat → Nat → Prop}
theorem aEq_rel (h : ∀ a b, R a b → ∀ x, x < L → A.o a x = B.o b x ∧ R (A.n a x) (B.n b x)) : ∀ (t a b c d : Nat), R a b → R c d → aEq A L t a c = aEq B L t b d
  | 0, _, _, _, _, _, _ => rfl
  | t + 1, a, b, c, d, h1, h2 => by
    rw [Bool.eq_iff_iff, aEq_succ, aEq_succ]
    constructor
    · intro hh x hx
      obtain ⟨o1, n1⟩ := h a b h1 x hx
      obtain ⟨o2, n2⟩ := h c d h2 x hx
      obtain ⟨e1, e2⟩ := hh x hx
      exact ⟨by rw [← o1, ← o2, e1], by rw [← aEq_rel h t _ _ _ _ n1 n2]; exact e2⟩
    · intro hh x hx
      obtain ⟨o1, n1⟩ := h a b h1 x hx
      obtain ⟨o2, n2⟩ := h c d h2 x hx
      obtain ⟨e1, e2⟩ := hh x hx
      exact ⟨by rw [o1, o2, e1], by rw [aEq_rel h t _ _ _ _ n1 n2]; exact e2⟩
theorem rel_pair (h : ∀ a b, R a b → ∀ x, x < L → A.o a x = B.o b x ∧ R (A.n a x) (B.n b x)) {a b : Nat} (h0 : R a b) (k : Nat) : Pair R (bAll (aEq A L 256) A.n L a k) (bAll (aEq B L 256) B.n L b k) :=
  Pair.all (fun a b c d h1 h2 => aEq_rel h 256 a b c d h1 h2) (fun a b h1 x hx => (h a b h1 x hx).2) h0 k
theorem rel_mach (h : ∀ a b, R a b → ∀ x, x < L → A.o a x = B.o b x ∧ R (A.n a x) (B.n b x)) {a b : Nat} (h0 : R a b) : setM A L a = setM B L b :=
  Pair.mach (R := R) (fun a b c d h1 h2 => aEq_rel h 256 a b c d h1 h2) (fun a b h1 x hx => (h a b h1 x hx).2) (fun a b h1 x hx => (h a b h1 x hx).1) (rel_pair h h0 256)
theorem rel_len (h : ∀ a b, R a b → ∀ x, x < L → A.o a x = B.o b x ∧ R (A.n a x) (B.n b x)) {a b : Nat} (h0 : R a b) : (setQ A L a).length = (setQ B L b).length := (rel_pair h h0 256).len
end
/-- What stands in the machine of a state. -/
theorem stM_at {M : Mach} {L S q : Nat} (hg : Good M L S) (hq : q < S) (i x : Nat) (hi : i < (stQ M L q).length) (hx : x < L) :
    (stM M L q).o i x = M.o ((stQ M L q).getD i 0) x ∧ nn (stM M L q) i x = bPos (aEq (stA M) L 256) (stQ M L q) (nn M ((stQ M L q).getD i 0) x) := by
  have h16 := stQ_le hg hq
  have hL := hg.L3
  have e : stM M L q = qM (aEq (stA M) L 256) (stA M).n (stA M).o L 0 (stQ M L q) := rfl
  refine ⟨?_, ?_⟩
  · rw [e]
    unfold qM
    rw [mkM_o _ _ _ _ _ _ (by omega) (by omega)]
    unfold qOt
    rw [if_pos ⟨hi, hx⟩]; rfl
  · unfold nn
    rw [e]
    unfold qM
    rw [mkM_n _ _ _ _ _ _ (by omega) (by omega)]
    unfold qNx
    rw [if_pos ⟨.inl hi, hx⟩, Int.toNat_natCast]; rfl
/-- The product of the machine of a state is the product of the state. -/
theorem st_prod {M K : Mach} {L S T q r : Nat} (hM : Good M L S) (hK : Good K L T) (hq : q < S) (hr : r < T) :
    ltR (prA (stM M L q) K T) L (0 * T + r) = ltR (prA M K T) L (q * T + r) ∧ ltB (prA (stM M L q) K T) L (0 * T + r) = ltB (prA M K T) L (q * T + r) := by
  have hS16 := hM.S16
  have hin := stA_in hM
  have hst := aStill_from hin 256 (by omega)
  have hcl : ∀ i (hi : i < (stQ M L q).length), ∀ x, x < L → bPos (aEq (stA M) L 256) (stQ M L q) ((stA M).n (stQ M L q)[i] x) < (stQ M L q).length := fun i hi x hx => by
    have h16 := stQ_le hM hq
    exact bAll_closed (E := aEq (stA M) L 256) (n := (stA M).n) (aEq_refl (stA M) L 256) L q 256 i hi (by omega) x hx
  have hqin : ∀ p ∈ stQ M L q, p < S := setQ_in hin hq
  have key : ∀ a b, (∃ i j m, i < (stQ M L q).length ∧ j < T ∧ m < S ∧ a = i * T + j ∧ b = m * T + j ∧ aEq (stA M) L 256 ((stQ M L q).getD i 0) m = true) → ∀ x, x < L → (prA (stM M L q) K T).o a x = (prA M K T).o b x ∧ ∃ i j m, i < (stQ M L q).length ∧ j < T ∧ m < S ∧ (prA (stM M L q) K T).n a x = i * T + j ∧ (prA M K T).n b x = m * T + j ∧ aEq (stA M) L 256 ((stQ M L q).getD i 0) m = true := by
    rintro a b ⟨i, j, m, hi, hj, hm, rfl, rfl, hE⟩ x hx
    obtain ⟨e1, e2⟩ := stM_at hM hq i x hi hx
    have hQ : (stQ M L q).getD i 0 = (stQ M L q)[i] := getD_get _ hi
    have hQS : (stQ M L q).getD i 0 < S := by rw [hQ]; exact hqin _ (List.getElem_mem hi)
    obtain ⟨o1, n1⟩ := (aEq_succ (stA M) L 256 _ _).1 (hst _ _ hQS hm hE) x hx
    have o1' : M.o ((stQ M L q).getD i 0) x = M.o m x := o1
    have n1' : aEq (stA M) L 256 (nn M ((stQ M L q).getD i 0) x) (nn M m x) = true := n1
    have hpos : bPos (aEq (stA M) L 256) (stQ M L q) (nn M ((stQ M L q).getD i 0) x) < (stQ M L q).length := by
      have := hcl i hi x hx
      rw [← hQ] at this
      exact this
    have hat := bPos_at (E := aEq (stA M) L 256) (stQ M L q) _ hpos
    obtain ⟨p1, p2⟩ := prA_n (M := stM M L q) (K := K) (T := T) i j x hj
    obtain ⟨p3, p4⟩ := prA_n (M := M) (K := K) (T := T) m j x hj
    have hy := hM.oN m x hm hx
    refine ⟨by rw [p2, p4, e1, o1'], _, _, _, hpos, hK.nn_lt j _ hj hy.1, hM.nn_lt m x hm hx, ?_, p3, ?_⟩
    · rw [p1, e1, e2, o1']
    · rw [getD_get _ hpos]
      exact aEq_trans (stA M) L 256 _ _ _ hat n1'
  have hpos : 0 < (stQ M L q).length := bAll_pos _ _ _
  have h0 : ∃ i j m, i < (stQ M L q).length ∧ j < T ∧ m < S ∧ 0 * T + r = i * T + j ∧ q * T + r = m * T + j ∧ aEq (stA M) L 256 ((stQ M L q).getD i 0) m = true := by
    refine ⟨0, r, q, hpos, hr, hq, rfl, rfl, ?_⟩
    have e : (stQ M L q).getD 0 0 = q := by
      have := bAll_first (E := aEq (stA M) L 256) (n := (stA M).n) L q 256
      simp only [stQ, setQ, List.getD, this, Option.getD_some]
    rw [e]
    exact aEq_refl (stA M) L 256 q
  have hm := rel_mach (A := prA (stM M L q) K T) (B := prA M K T) (L := L) (R := fun a b => ∃ i j m, i < (stQ M L q).length ∧ j < T ∧ m < S ∧ a = i * T + j ∧ b = m * T + j ∧ aEq (stA M) L 256 ((stQ M L q).getD i 0) m = true) key h0
  have hl := rel_len (A := prA (stM M L q) K T) (B := prA M K T) (L := L) (R := fun a b => ∃ i j m, i < (stQ M L q).length ∧ j < T ∧ m < S ∧ a = i * T + j ∧ b = m * T + j ∧ aEq (stA M) L 256 ((stQ M L q).getD i 0) m = true) key h0
  unfold ltR ltB
  rw [hm, hl]
  exact ⟨rfl, rfl⟩

/-! ### What 'CommutatorOfStates' answers -/
theorem facs_same {L : Nat} (fs : List Fac) : ∀ (fs' : List Fac) (P : Mach), fs.map (fun f => (f.m, f.S, f.q)) = fs'.map (fun f => (f.m, f.S, f.q)) → facs L P fs = facs L P fs' := by
  induction fs with
  | nil =>
    intro fs' P h
    cases fs' with
    | nil => rfl
    | cons f fs => simp at h
  | cons f fs ih =>
    intro fs' P h
    cases fs' with
    | nil => simp at h
    | cons g gs =>
      simp only [List.map_cons, List.cons.injEq, Prod.mk.injEq] at h
      obtain ⟨⟨h1, h2, h3⟩, h4⟩ := h
      by_cases hc : (prodQ P f.m L f.S (0 * f.S + f.q)).length ≤ 16
      · rw [facs_next (P := P) (f := f) (fs := fs) hc, ih gs _ h4]
        rw [h1, h2, h3] at hc ⊢
        rw [facs_next (P := P) (f := g) (fs := gs) hc]
      · rw [facs_up (P := P) (f := f) (fs := fs) hc]
        rw [h1, h2, h3] at hc
        rw [facs_up (P := P) (f := g) (fs := gs) hc]
theorem facs_cons {L : Nat} {P : Mach} (f : Fac) (fs : List Fac) : (ltB (prA P f.m f.S) L (0 * f.S + f.q) = true → facs L P (f :: fs) = facs L (ltR (prA P f.m f.S) L (0 * f.S + f.q)) fs) ∧ (ltB (prA P f.m f.S) L (0 * f.S + f.q) = false → (facs L P (f :: fs)).2 = false) := by
  refine ⟨fun h => ?_, fun h => ?_⟩
  · obtain ⟨h1, h2⟩ := ltB_yes h
    rw [facs_next (P := P) (f := f) (fs := fs) h1, h2]; rfl
  · rw [facs_up (P := P) (f := f) (fs := fs) (ltB_no h).1]
def coFs (M I : Mach) (S bi bm q r : Nat) : List Fac := [⟨I, S, bi, q⟩, ⟨I, S, bi, r⟩, ⟨M, S, bm, q⟩, ⟨M, S, bm, r⟩]
theorem coFs_good {M I : Mach} {L S : Nat} (hM : Good M L S) (hI : Good I L S) (bi bm q r : Nat) (hq : q < S) (hr : r < S) : ∀ f ∈ coFs M I S bi bm q r, Good f.m L f.S ∧ f.q < f.S := by
  intro f hf
  simp only [coFs, List.mem_cons, List.not_mem_nil, or_false] at hf
  rcases hf with rfl | rfl | rfl | rfl
  · exact ⟨hI, hq⟩
  · exact ⟨hI, hr⟩
  · exact ⟨hM, hq⟩
  · exact ⟨hM, hr⟩
def coX (M : Mach) (L S q r : Nat) : Mach × Bool := facs L (trivM L) (coFs M (invM M L S) S 0 0 q r)
theorem coX_b (M : Mach) (L S q r bi bm : Nat) : facs L (trivM L) (coFs M (invM M L S) S bi bm q r) = coX M L S q r := facs_same _ _ _ rfl
theorem co_first {M : Mach} {L S q r : Nat} (hM : Good M L S) (hq : q < S) : coX M L S q r = facs L (stM (invM M L S) L q) [⟨invM M L S, S, 0, r⟩, ⟨M, S, 0, q⟩, ⟨M, S, 0, r⟩] := by
  have hI := hM.inv
  obtain ⟨h1, h2⟩ := triv_prod hI hq
  have h3 : (prodQ (trivM L) (invM M L S) L S (0 * S + q)).length ≤ 16 := by rw [Nat.zero_mul, Nat.zero_add, h2]; exact stQ_le hI hq
  unfold coX coFs
  rw [facs_next (P := trivM L) (f := ⟨invM M L S, S, 0, q⟩) h3]
  show facs L (prodM (trivM L) (invM M L S) L S (0 * S + q)) _ = _
  rw [Nat.zero_mul, Nat.zero_add, h1]
def coR (M : Mach) (q r : Int) : Mach := if twoC M q M r = 0 then fR (coX M M.L.toNat M.S.toNat q.toNat r.toNat) else zeroM
def coC (M : Mach) (q r : Int) : Int := if twoC M q M r = 0 then fC (coX M M.L.toNat M.S.toNat q.toNat r.toNat) else twoC M q M r
theorem two_own {M : Mach} (hok : M.Ok) {q r : Int} (h : twoC M q M r = 0) : ∃ L S qn rn, Good M L S ∧ q = ((qn : Nat) : Int) ∧ r = ((rn : Nat) : Int) ∧ qn < S ∧ rn < S := by
  obtain ⟨h1, _, h3, h4, _⟩ := twoC_zero h
  obtain ⟨L, S, hM⟩ := Good.of hok h1
  unfold inS at h3 h4
  rw [decide_eq_true_eq, hM.hS] at h3 h4
  exact ⟨L, S, q.toNat, r.toNat, hM, (Int.toNat_of_nonneg h3.1).symm, (Int.toNat_of_nonneg h4.1).symm, by omega, by omega⟩
theorem coX_eq {M : Mach} {L S : Nat} (hg : Good M L S) (q r : Nat) : coX M M.L.toNat M.S.toNat ((q : Nat) : Int).toNat ((r : Nat) : Int).toNat = coX M L S q r := by
  rw [hg.hL, hg.hS, Int.toNat_natCast, Int.toNat_natCast, Int.toNat_natCast, Int.toNat_natCast]
theorem coR_ok {M : Mach} (hok : M.Ok) (q r : Int) : (coR M q r).Ok := by
  unfold coR
  split
  · rename_i h
    obtain ⟨L, S, qn, rn, hg, rfl, rfl, hq, hr⟩ := two_own hok h
    rw [coX_eq hg qn rn]
    exact fR_ok hg.L2 hg.L3 (coFs_good hg hg.inv 0 0 qn rn hq hr)
  · exact zeroM_ok

/-! ### The program's closure -/
def coCells (bi bm : Nat) (q r : Int) : Array Value := #[.pointer (some ⟨bi, 0, none⟩), .int .i64 q, .pointer (some ⟨bi, 0, none⟩), .int .i64 r, .pointer (some ⟨bm, 0, none⟩), .int .i64 q, .pointer (some ⟨bm, 0, none⟩), .int .i64 r]
theorem sees_co {W : World} {g bi bm q r : Nat} (hB : Blk W g (coCells bi bm q r) 57) (M I : Mach) (S : Nat) : SeesG W (.slice (some ⟨g, 0, none⟩) 4 4) (coFs M I S bi bm q r) := by
  refine ⟨some ⟨g, 0, none⟩, 4, rfl, fun _ => ⟨g, _, rfl, hB, fun i hi => ?_⟩⟩
  have hi' : i < 4 := hi
  rcases (show i = 0 ∨ i = 1 ∨ i = 2 ∨ i = 3 by omega) with rfl | rfl | rfl | rfl <;> exact ⟨rfl, rfl⟩

set_option maxRecDepth 100000 in
set_option maxHeartbeats 2000000 in
theorem coClosure_ok (M : Mach) (L S : Nat) (hg : Good M L S) (q r : Nat) (hq : q < S) (hr : r < S) (bm bi bq br : Nat) (w : World) (hM : Blk w bm (mc M) 28) (hI : Blk w bi (mc (invM M L S)) 28) (hQ : Blk w bq #[.int .i64 (q : Int)] 2) (hR : Blk w br #[.int .i64 (r : Int)] 2) (h : (coX M L S q r).2 = true) :
    Calls Try.prog 57 #[.pointer (some ⟨bm, 0, none⟩), .pointer (some ⟨bi, 0, none⟩), .pointer (some ⟨bq, 0, none⟩), .pointer (some ⟨br, 0, none⟩)] w fun e w' => e = .returned (.agg (mc (coX M L S q r).1)) ∧ Below w.heap.size w w' := by
  have hz := zero_mach
  have hzg := zero_guide
  have HzS : Hid ((mc zeroM).size = 98) := Lib.hid (mc_size zeroM_ok)
  have hfs := coFs_good hg hg.inv bi bm q r hq hr
  have HP := Lib.hid (fun W (g : Nat) (h1 : Blk W bm (mc M) 28) (h2 : Blk W bi (mc (invM M L S)) 28) (h3 : Blk W g (coCells bi bm q r) 57) => productOf_calls L hg.L2 hg.L3 (coFs M (invM M L S) S bi bm q r) (by simp [coFs]) hfs _ W (sees_co h3 M (invM M L S) S) (fun f hf => by
    simp only [coFs, List.mem_cons, List.not_mem_nil, or_false] at hf
    rcases hf with rfl | rfl | rfl | rfl
    · exact h2
    · exact h2
    · exact h1
    · exact h1))
  unfold facsOk at HP
  simp only [coX_b, h, if_true] at HP
  have hcL := mc_L M
  rw [hg.hL] at hcL
  obtain ⟨SQ, hX, _⟩ := facs_good _ (trivM L) 1 (coFs_good hg hg.inv 0 0 q r hq hr) (trivM_good hg.L2 hg.L3) (by omega) h
  have HRs : Hid ((mc (coX M L S q r).1).size = 98) := Lib.hid (mc_size hX.ok)
  generalize (coX M L S q r).1 = R at *
  have Hov : Hid (over (mc zeroM) 0 (mc R) = mc R) := Lib.hid (over_all _ _ (by rw [HRs.out, HzS.out]))
  clear hX
  have hM0 := hM.alloc (.cells (mc zeroM) 28)
  have hI0 := hI.alloc (.cells (mc zeroM) 28)
  have cQ : (w.alloc (.cells (mc zeroM) 28)).cell? ⟨bq, 0, none⟩ = some (.int .i64 (q : Int)) := (hQ.alloc _).cell 0
  have cR : (w.alloc (.cells (mc zeroM) 28)).cell? ⟨br, 0, none⟩ = some (.int .i64 (r : Int)) := (hR.alloc _).cell 0
  have cL := (hM0.cell 0).trans hcL
  have hM1 := hM0.alloc (.cells (coCells bi bm q r) 57)
  have hI1 := hI0.alloc (.cells (coCells bi bm q r) 57)
  have hG1 : Blk ((w.alloc (.cells (mc zeroM) 28)).alloc (.cells (coCells bi bm q r) 57)) (w.heap.size + 1) (coCells bi bm q r) 57 := Blk.new_at _ _ _ _ (by simp)
  have hX1 : Blk ((w.alloc (.cells (mc zeroM) 28)).alloc (.cells (coCells bi bm q r) 57)) w.heap.size (mc zeroM) 28 := (Blk.new _ _ _).alloc _
  have hb1 : Below w.heap.size w ((w.alloc (.cells (mc zeroM) 28)).alloc (.cells (coCells bi bm q r) 57)) := by show Below _ _ (World.alloc _ _); (repeat (first | exact Below.refl _ _ | refine below_drew' ?_ | refine below_drewN' ?_ _ | refine below_alloc' ?_ _ | refine below_set' ?_ (by (try simp); (try omega)) _ | refine below_step ?_ (by assumption)))
  have HPP := Lib.hid (HP.out _ (w.heap.size + 1) hM1 hI1 hG1)
  clear h hM hI hQ hR hg hfs hcL hq hr HP
  go_enter Try.func57, Try.ntmps57
  go_wp2_with (first | ((with_reducible show wpList _ _ _ _ _ _); refine wpList_build2 rfl 57 0 1 (.tmp 1) (.tmp 7) rfl (.pointer (some ⟨bi, 0, none⟩)) (.int .i64 (q : Int)) rfl rfl _ (built_gd2 bi q) ?_) | ((with_reducible show wpList _ _ _ _ _ _); refine wpList_build2 rfl 57 0 1 (.tmp 1) (.tmp 9) rfl (.pointer (some ⟨bi, 0, none⟩)) (.int .i64 (r : Int)) rfl rfl _ (built_gd2 bi r) ?_) | ((with_reducible show wpList _ _ _ _ _ _); refine wpList_build2 rfl 57 0 1 (.tmp 0) (.tmp 11) rfl (.pointer (some ⟨bm, 0, none⟩)) (.int .i64 (q : Int)) rfl rfl _ (built_gd2 bm q) ?_) | ((with_reducible show wpList _ _ _ _ _ _); refine wpList_build2 rfl 57 0 1 (.tmp 0) (.tmp 13) rfl (.pointer (some ⟨bm, 0, none⟩)) (.int .i64 (r : Int)) rfl rfl _ (built_gd2 bm r) ?_) | (go_at_call 53; refine (HPP.out).mono ?_; rintro e w2 ⟨rfl, hc2⟩; have hX2 := hX1.keptAll hc2; have hb2 := below_step hb1 hc2) | ((with_reducible show wpList _ _ _ _ _ _); refine wpList_store_blk rfl 28 (.tmp 4) (.tmp 16) rfl w.heap.size 0 (mc R) rfl rfl (mc zeroM) 28 hX2 (by first | (rw [HRs.out, HzS.out]; omega) | (rw [HRs.out]; omega)) (by rw [HRs.out]; exact size_mach) (mc_one _) ?_; intro w5 hXw5 hkeep hsz hbl; clear hsz; rw [Hov.out] at hXw5; have hbw5 := hbl w.heap.size w (Nat.le_refl _) hb2; clear hkeep hbl))
  exact bodyPost_cell rfl rfl hXw5 Try.underlying28 rfl (by rw [HRs.out]; exact size_mach) rfl ⟨rfl, hbw5⟩

set_option maxRecDepth 100000 in
set_option maxHeartbeats 2000000 in
theorem coClosure_up (M : Mach) (L S : Nat) (hg : Good M L S) (q r : Nat) (hq : q < S) (hr : r < S) (bm bi bq br : Nat) (w : World) (hM : Blk w bm (mc M) 28) (hI : Blk w bi (mc (invM M L S)) 28) (hQ : Blk w bq #[.int .i64 (q : Int)] 2) (hR : Blk w br #[.int .i64 (r : Int)] 2) (h : (coX M L S q r).2 = false) :
    Calls Try.prog 57 #[.pointer (some ⟨bm, 0, none⟩), .pointer (some ⟨bi, 0, none⟩), .pointer (some ⟨bq, 0, none⟩), .pointer (some ⟨br, 0, none⟩)] w fun e w' => e = gaveUp 3 ∧ Below w.heap.size w w' := by
  have hz := zero_mach
  have hzg := zero_guide
  have HzS : Hid ((mc zeroM).size = 98) := Lib.hid (mc_size zeroM_ok)
  have hfs := coFs_good hg hg.inv bi bm q r hq hr
  have HP := Lib.hid (fun W (g : Nat) (h1 : Blk W bm (mc M) 28) (h2 : Blk W bi (mc (invM M L S)) 28) (h3 : Blk W g (coCells bi bm q r) 57) => productOf_calls L hg.L2 hg.L3 (coFs M (invM M L S) S bi bm q r) (by simp [coFs]) hfs _ W (sees_co h3 M (invM M L S) S) (fun f hf => by
    simp only [coFs, List.mem_cons, List.not_mem_nil, or_false] at hf
    rcases hf with rfl | rfl | rfl | rfl
    · exact h2
    · exact h2
    · exact h1
    · exact h1))
  unfold facsOk at HP
  simp only [coX_b, h, Bool.false_eq_true, if_false] at HP
  have hcL := mc_L M
  rw [hg.hL] at hcL
  have hM0 := hM.alloc (.cells (mc zeroM) 28)
  have hI0 := hI.alloc (.cells (mc zeroM) 28)
  have cQ : (w.alloc (.cells (mc zeroM) 28)).cell? ⟨bq, 0, none⟩ = some (.int .i64 (q : Int)) := (hQ.alloc _).cell 0
  have cR : (w.alloc (.cells (mc zeroM) 28)).cell? ⟨br, 0, none⟩ = some (.int .i64 (r : Int)) := (hR.alloc _).cell 0
  have cL := (hM0.cell 0).trans hcL
  have hM1 := hM0.alloc (.cells (coCells bi bm q r) 57)
  have hI1 := hI0.alloc (.cells (coCells bi bm q r) 57)
  have hG1 : Blk ((w.alloc (.cells (mc zeroM) 28)).alloc (.cells (coCells bi bm q r) 57)) (w.heap.size + 1) (coCells bi bm q r) 57 := Blk.new_at _ _ _ _ (by simp)
  have hX1 : Blk ((w.alloc (.cells (mc zeroM) 28)).alloc (.cells (coCells bi bm q r) 57)) w.heap.size (mc zeroM) 28 := (Blk.new _ _ _).alloc _
  have hb1 : Below w.heap.size w ((w.alloc (.cells (mc zeroM) 28)).alloc (.cells (coCells bi bm q r) 57)) := by show Below _ _ (World.alloc _ _); (repeat (first | exact Below.refl _ _ | refine below_drew' ?_ | refine below_drewN' ?_ _ | refine below_alloc' ?_ _ | refine below_set' ?_ (by (try simp); (try omega)) _ | refine below_step ?_ (by assumption)))
  have HPP := Lib.hid (HP.out _ (w.heap.size + 1) hM1 hI1 hG1)
  clear h hM hI hQ hR hg hfs hcL hq hr HP
  go_enter Try.func57, Try.ntmps57
  go_wp2_with (first | ((with_reducible show wpList _ _ _ _ _ _); refine wpList_build2 rfl 57 0 1 (.tmp 1) (.tmp 7) rfl (.pointer (some ⟨bi, 0, none⟩)) (.int .i64 (q : Int)) rfl rfl _ (built_gd2 bi q) ?_) | ((with_reducible show wpList _ _ _ _ _ _); refine wpList_build2 rfl 57 0 1 (.tmp 1) (.tmp 9) rfl (.pointer (some ⟨bi, 0, none⟩)) (.int .i64 (r : Int)) rfl rfl _ (built_gd2 bi r) ?_) | ((with_reducible show wpList _ _ _ _ _ _); refine wpList_build2 rfl 57 0 1 (.tmp 0) (.tmp 11) rfl (.pointer (some ⟨bm, 0, none⟩)) (.int .i64 (q : Int)) rfl rfl _ (built_gd2 bm q) ?_) | ((with_reducible show wpList _ _ _ _ _ _); refine wpList_build2 rfl 57 0 1 (.tmp 0) (.tmp 13) rfl (.pointer (some ⟨bm, 0, none⟩)) (.int .i64 (r : Int)) rfl rfl _ (built_gd2 bm r) ?_) | (go_at_call 53; refine (HPP.out).mono ?_; rintro e w2 ⟨he, hc2⟩; have hb2 := below_step hb1 hc2; unfold gaveUp at he; subst he))
  exact ⟨rfl, rfl, hb2⟩

theorem coDoor (M : Mach) (L S : Nat) (hg : Good M L S) (q r : Nat) (hq : q < S) (hr : r < S) (bm bi bq br : Nat) (w : World) (hM : Blk w bm (mc M) 28) (hI : Blk w bi (mc (invM M L S)) 28) (hQ : Blk w bq #[.int .i64 (q : Int)] 2) (hR : Blk w br #[.int .i64 (r : Int)] 2) :
    Calls Try.prog 48 #[.func (.func 57) #[] #[.pointer (some ⟨bm, 0, none⟩), .pointer (some ⟨bi, 0, none⟩), .pointer (some ⟨bq, 0, none⟩), .pointer (some ⟨br, 0, none⟩)]] w fun e w' => e = .returned (.tuple #[.agg (mc (fR (coX M L S q r))), .int .i64 (fC (coX M L S q r))]) ∧ Below w.heap.size w w' := by
  have hcf : ∀ w : World, (callFunc 57 #[.pointer (some ⟨bm, 0, none⟩), .pointer (some ⟨bi, 0, none⟩), .pointer (some ⟨bq, 0, none⟩), .pointer (some ⟨br, 0, none⟩)]).run Try.prog w = .ok (.enter 57 #[.pointer (some ⟨bm, 0, none⟩), .pointer (some ⟨bi, 0, none⟩), .pointer (some ⟨bq, 0, none⟩), .pointer (some ⟨br, 0, none⟩)]) w := fun _ => run_fn _ _ Try.func57 (by kernel_rfl) (by kernel_rfl) _ _
  have hal : Below w.heap.size w ((w.alloc (.cells (mc zeroM) 28)).alloc (.cells #[.int .i64 0] 2)) := by show Below _ _ (World.alloc _ _); (repeat (first | exact Below.refl _ _ | refine below_drew' ?_ | refine below_drewN' ?_ _ | refine below_alloc' ?_ _ | refine below_set' ?_ (by (try simp); (try omega)) _ | refine below_step ?_ (by assumption)))
  have hsz : ((w.alloc (.cells (mc zeroM) 28)).alloc (.cells #[.int .i64 0] 2)).heap.size = w.heap.size + 1 + 1 := by simp
  cases h : (coX M L S q r).2
  · have e1 : fR (coX M L S q r) = zeroM := by unfold fR; rw [h]; rfl
    have e2 : fC (coX M L S q r) = 3 := by unfold fC; rw [h]; rfl
    rw [e1, e2]
    have H := coClosure_up M L S hg q r hq hr bm bi bq br _ (hM.keptAll hal) (hI.keptAll hal) (hQ.keptAll hal) (hR.keptAll hal) h
    rw [hsz] at H
    exact doorM_up _ _ w 3 hcf H
  · have e1 : fR (coX M L S q r) = (coX M L S q r).1 := by unfold fR; rw [if_pos h]
    have e2 : fC (coX M L S q r) = 0 := by unfold fC; rw [if_pos h]
    rw [e1, e2]
    have H := coClosure_ok M L S hg q r hq hr bm bi bq br _ (hM.keptAll hal) (hI.keptAll hal) (hQ.keptAll hal) (hR.keptAll hal) h
    rw [hsz] at H
    obtain ⟨SQ, hX, _⟩ := facs_good _ (trivM L) 1 (coFs_good hg hg.inv 0 0 q r hq hr) (trivM_good hg.L2 hg.L3) (by omega) h
    exact doorM_ok _ _ w _ (mc_size hX.ok) hcf H

set_option maxRecDepth 100000 in
set_option maxHeartbeats 4000000 in
theorem iCommutatorOfStates_calls (M : Mach) (hok : M.Ok) (q r : Int) (w : World) :
    Calls Try.prog 30 #[.agg (mc M), .int .i64 q, .int .i64 r] w fun e w' => e = .returned (.tuple #[.agg (mc (coR M q r)), .int .i64 (coC M q r)]) ∧ Below w.heap.size w w' := by
  have hz := zero_mach
  have F1 : Hid (cut (mc M) 0 98 = mc M) := Lib.hid (cut_all _ _ (mc_size hok))
  have F2 : Hid (0 + 98 ≤ (mc M).size) := Lib.hid (by rw [mc_size hok]; omega)
  have HzS : Hid ((mc zeroM).size = 98) := Lib.hid (mc_size zeroM_ok)
  have hmf : ∀ (fn : Fn) (first cap : Array Value) (w : World), (Instr.makeFunc fn first cap).run Try.prog w = .ok (.func fn first cap) w := fun _ _ _ _ => rfl
  have hM0 : Blk ((((w.alloc (.cells (mc M) 28)).alloc (.cells #[.int .i64 q] 2)).alloc (.cells #[.int .i64 r] 2)).alloc (.cells (mc zeroM) 28)) w.heap.size (mc M) 28 := (((Blk.new w _ _).alloc _).alloc _).alloc _
  have hQ0 : Blk ((((w.alloc (.cells (mc M) 28)).alloc (.cells #[.int .i64 q] 2)).alloc (.cells #[.int .i64 r] 2)).alloc (.cells (mc zeroM) 28)) (w.heap.size + 1) #[.int .i64 q] 2 := ((Blk.new_at _ _ _ _ (by simp)).alloc _).alloc _
  have hR0 : Blk ((((w.alloc (.cells (mc M) 28)).alloc (.cells #[.int .i64 q] 2)).alloc (.cells #[.int .i64 r] 2)).alloc (.cells (mc zeroM) 28)) (w.heap.size + 1 + 1) #[.int .i64 r] 2 := (Blk.new_at _ _ _ _ (by simp)).alloc _
  have hX0 : Blk ((((w.alloc (.cells (mc M) 28)).alloc (.cells #[.int .i64 q] 2)).alloc (.cells #[.int .i64 r] 2)).alloc (.cells (mc zeroM) 28)) (w.heap.size + 1 + 1 + 1) (mc zeroM) 28 := Blk.new_at _ _ _ _ (by simp)
  have hb0 : Below w.heap.size w ((((w.alloc (.cells (mc M) 28)).alloc (.cells #[.int .i64 q] 2)).alloc (.cells #[.int .i64 r] 2)).alloc (.cells (mc zeroM) 28)) := by show Below _ _ (World.alloc _ _); (repeat (first | exact Below.refl _ _ | refine below_drew' ?_ | refine below_drewN' ?_ _ | refine below_alloc' ?_ _ | refine below_set' ?_ (by (try simp); (try omega)) _ | refine below_step ?_ (by assumption)))
  have cQ : (((((w.alloc (.cells (mc M) 28)).alloc (.cells #[.int .i64 q] 2)).alloc (.cells #[.int .i64 r] 2)).alloc (.cells (mc zeroM) 28))).cell? ⟨w.heap.size + 1, 0, none⟩ = some (.int .i64 q) := hQ0.cell 0
  have cR : (((((w.alloc (.cells (mc M) 28)).alloc (.cells #[.int .i64 q] 2)).alloc (.cells #[.int .i64 r] 2)).alloc (.cells (mc zeroM) 28))).cell? ⟨w.heap.size + 1 + 1, 0, none⟩ = some (.int .i64 r) := hR0.cell 0
  by_cases h0 : twoC M q M r = 0
  · obtain ⟨L, S, qn, rn, hg, rfl, rfl, hq, hr⟩ := two_own hok h0
    have hm : isMach M = true := (twoC_zero h0).1
    have HRR : Hid (coR M qn rn = fR (coX M L S qn rn)) := Lib.hid (by unfold coR; rw [if_pos h0, coX_eq hg])
    have HCC : Hid (coC M qn rn = fC (coX M L S qn rn)) := Lib.hid (by unfold coC; rw [if_pos h0, coX_eq hg])
    have HCh := Lib.hid (fun W => checkStates_calls M M hok hok qn rn W)
    rw [h0] at HCh
    have HInv : Hid (∀ W, Calls Try.prog 41 #[.agg (mc M)] W fun e w' => e = .returned (.tuple #[.agg (mc (invM M L S)), .int .i64 0]) ∧ Below W.heap.size W w') := Lib.hid (fun W => by
      have := iInverseMachine_calls M hok W
      rw [(inv_res hg hm).1, (inv_res hg hm).2] at this
      exact this)
    have HD := Lib.hid (fun W bi h1 h2 h3 h4 => coDoor M L S hg qn rn hq hr w.heap.size bi (w.heap.size + 1) (w.heap.size + 1 + 1) W h1 h2 h3 h4)
    have HRs := Lib.hid (mc_size (fR_ok hg.L2 hg.L3 (coFs_good hg hg.inv 0 0 qn rn hq hr)))
    have HIs := Lib.hid (mc_size hg.inv.ok)
    rw [show facs L (trivM L) (coFs M (invM M L S) S 0 0 qn rn) = coX M L S qn rn from rfl] at HRs
    clear h0 hg hm
    generalize fR (coX M L S qn rn) = R at *
    generalize fC (coX M L S qn rn) = C at *
    generalize invM M L S = I at *
    have Hov : Hid (over (mc zeroM) 0 (mc R) = mc R) := Lib.hid (over_all _ _ (by rw [HRs.out, HzS.out]))
    have HoI : Hid (over (mc zeroM) 0 (mc I) = mc I) := Lib.hid (over_all _ _ (by rw [HIs.out, HzS.out]))
    go_enter Try.func30, Try.ntmps30
    go_wp2_with (first | (with_reducible show wpList _ _ _ _ _ _; refine wpList_load_blk rfl 28 (.tmp 3) rfl w.heap.size 0 rfl (mc M) _ (by first | exact hM1 | exact hM0) 98 F2.out _ Try.underlying28 rfl size_mach ?_; rw [F1.out]) | (go_at_call 47; refine (HCh.out _).mono ?_; rintro e w1 ⟨rfl, hc1⟩; have hM1 := hM0.keptAll hc1; have hQ1 := hQ0.keptAll hc1; have hR1 := hR0.keptAll hc1; have hX1 := hX0.keptAll hc1; have hb1 := below_step hb0 hc1) | (go_at_call 41; refine (HInv.out _).mono ?_; rintro e w2 ⟨rfl, hc2⟩; have hlt2 := (hX1.keptAll hc2).lt; have hM3 := (hM1.keptAll hc2).alloc (.cells (mc zeroM) 28); have hQ3 := (hQ1.keptAll hc2).alloc (.cells (mc zeroM) 28); have hR3 := (hR1.keptAll hc2).alloc (.cells (mc zeroM) 28); have hX3 := (hX1.keptAll hc2).alloc (.cells (mc zeroM) 28); have hb2 := below_step hb1 hc2; have hge2 := hb2.size; have hb3 := below_alloc' hb2 (.cells (mc zeroM) 28); have hY3 : Blk (w2.alloc (.cells (mc zeroM) 28)) w2.heap.size (mc zeroM) 28 := Blk.new _ _ _) | ((with_reducible show wpList _ _ _ _ _ _); refine wpList_store_blk rfl 28 (.tmp 9) (.tmp 23) rfl w2.heap.size 0 (mc I) rfl rfl (mc zeroM) 28 hY3 (by first | (rw [HIs.out, HzS.out]; omega) | (rw [HIs.out]; omega)) (by rw [HIs.out]; exact size_mach) (mc_one _) ?_; intro w4 hXw4 hkeep hsz hbl; clear hsz; rw [HoI.out] at hXw4; have hbw4 := hbl w.heap.size w (hge2) hb3; have hM4 := hkeep w.heap.size _ _ (by omega) hM3; have hQ4 := hkeep (w.heap.size + 1) _ _ (by omega) hQ3; have hR4 := hkeep (w.heap.size + 1 + 1) _ _ (by omega) hR3; have hX4 := hkeep (w.heap.size + 1 + 1 + 1) _ _ (by omega) hX3; clear hkeep hbl; have Hdoor := Lib.hid (HD.out _ _ hM4 hXw4 hQ4 hR4)) | (go_at_call 48; refine Hdoor.out.mono ?_; rintro e w6 ⟨rfl, hc6⟩; have hX6 := hX4.keptAll hc6; have hb6 := below_step hbw4 hc6) | ((with_reducible show wpList _ _ _ _ _ _); refine wpList_store_blk rfl 28 (.tmp 6) (.tmp 27) rfl (w.heap.size + 1 + 1 + 1) 0 (mc R) rfl rfl (mc zeroM) 28 hX6 (by first | (rw [HRs.out, HzS.out]; omega) | (rw [HRs.out]; omega)) (by rw [HRs.out]; exact size_mach) (mc_one _) ?_; intro w7 hXw7 hkeep hsz hbl; clear hsz; rw [Hov.out] at hXw7; have hbw7 := hbl w.heap.size w (by omega) hb6; clear hkeep hbl))
    exact bodyPost_cell1 rfl rfl hXw7 Try.underlying28 rfl (by rw [HRs.out]; exact size_mach) rfl ⟨by rw [HRR.out, HCC.out]; rfl, hbw7⟩
  · have HRR : Hid (coR M q r = zeroM) := Lib.hid (by unfold coR; rw [if_neg h0])
    have HCC : Hid (coC M q r = twoC M q M r) := Lib.hid (by unfold coC; rw [if_neg h0])
    have hne : (twoC M q M r == 0) = false := by simpa using h0
    have hne2 : (twoC M q M r != 0) = true := by simpa using h0
    clear h0
    go_enter Try.func30, Try.ntmps30
    go_wp2_with (first | (with_reducible show wpList _ _ _ _ _ _; refine wpList_load_blk rfl 28 (.tmp 3) rfl w.heap.size 0 rfl (mc M) _ (by first | exact hM0) 98 F2.out _ Try.underlying28 rfl size_mach ?_; rw [F1.out]) | (go_at_call 47; refine (checkStates_calls M M hok hok q r _).mono ?_; rintro e w1 ⟨rfl, hc1⟩; have hX1 := hX0.keptAll hc1; have hb1 := below_step hb0 hc1) | ((with_reducible show wpList _ _ _ _ _ _); refine wpList_store_blk rfl 28 (.tmp 6) (.tmp 18) rfl (w.heap.size + 1 + 1 + 1) 0 (mc zeroM) rfl rfl (mc zeroM) 28 hX1 (by first | (rw [HzS.out, HzS.out]; omega) | (rw [HzS.out]; omega)) (by rw [HzS.out]; exact size_mach) (mc_one _) ?_; intro w3 hXw3 hkeep hsz hbl; clear hsz; rw [zero_over] at hXw3; have hbw3 := hbl w.heap.size w (by omega) hb1; clear hkeep hbl))
    exact bodyPost_cell1 rfl rfl hXw3 Try.underlying28 rfl (by rw [HzS.out]; exact size_mach) rfl ⟨by rw [HRR.out, HCC.out]; rfl, hbw3⟩
end Go.Proofs.Ytkkooafjpancoaa
