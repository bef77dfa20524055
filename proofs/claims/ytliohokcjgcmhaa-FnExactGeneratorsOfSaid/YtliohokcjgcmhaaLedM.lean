/- What a state makes of a word. -/
import Derived.Test.YtliohokcjgcmhaaWordD
import Derived.Test.YtliohokcjgcmhaaMach
import Derived.Test.YtliohokcjgcmhaaInvM
import Derived.Test.YtliohokcjgcmhaaGrpM
namespace Go.Proofs.Ytliohokcjgcmhaa
open Go.RowKit

/-- One letter: the next state, and the byte that is put out. -/
def stepL (M : Mach) (s : Nat × List UInt8) (c : UInt8) : Nat × List UInt8 := ((M.n s.1 (c.toNat - 48)).toNat, s.2 ++ [dig (M.o s.1 (c.toNat - 48))])
def runL (M : Mach) (q : Nat) (l : List UInt8) : Nat × List UInt8 := l.foldl (stepL M) (q, [])
theorem runL_snoc (M : Mach) (q : Nat) (l : List UInt8) (c : UInt8) : runL M q (l ++ [c]) = stepL M (runL M q l) c := by simp [runL, List.foldl_append]
theorem runL_nil (M : Mach) (q : Nat) : runL M q [] = (q, []) := rfl
theorem runL_len (M : Mach) (q : Nat) (l : List UInt8) : (runL M q l).2.length = l.length := by
  have : ∀ (l : List UInt8) (s : Nat × List UInt8), (l.foldl (stepL M) s).2.length = s.2.length + l.length := by
    intro l
    induction l with
    | nil => intro s; simp
    | cons c l ih => intro s; rw [List.foldl_cons, ih]; simp [stepL]; omega
  have h := this l (q, [])
  simp at h
  exact h

theorem Good.st_lt {M : Mach} {L S : Nat} (h : Good M L S) (q : Nat) (hq : q < S) (l : List UInt8) (hl : lettersL L l = true) : ∀ k, k ≤ l.length → (runL M q (l.take k)).1 < S
  | 0, _ => by simpa [runL] using hq
  | k + 1, hk => by
    have hlt : k < l.length := hk
    have ih := h.st_lt q hq l hl k (by omega)
    obtain ⟨h1, h2⟩ := lettersL_at hl k hlt
    rw [take_snoc l k hlt, runL_snoc]
    have := h.n_lt _ (l[k].toNat - 48) ih (by omega)
    simp only [stepL]; omega

/-- The bytes of the image behind k rounds. -/
def imC (n : Nat) (bs : List UInt8) : Array Value := ((bs.map fun b => Value.int .u8 (b.toNat : Int)) ++ List.replicate (n - bs.length) (Value.int .u8 0)).toArray
theorem imC_size (n : Nat) (bs : List UInt8) (h : bs.length ≤ n) : (imC n bs).size = n := by simp [imC]; omega
theorem imC_zero (n : Nat) : imC n [] = (List.replicate n (Value.int .u8 0)).toArray := by simp [imC]
theorem imC_set (n : Nat) (bs : List UInt8) (b : UInt8) (h : bs.length < n) : (imC n bs).setIfInBounds bs.length (.int .u8 (b.toNat : Int)) = imC n (bs ++ [b]) := by
  simp only [imC, List.setIfInBounds_toArray]
  congr 1
  rw [List.set_append_right _ _ (by simp)]
  simp only [List.length_map, Nat.sub_self, List.map_append, List.map_cons, List.map_nil, List.append_assoc, List.length_append, List.length_cons, List.length_nil]
  congr 1
  rw [show n - bs.length = (n - (bs.length + (0 + 1))) + 1 from by omega, List.replicate_succ]
  rfl
theorem imC_done (n : Nat) (bs : List UInt8) (h : bs.length = n) : imC n bs = (bs.map fun b => Value.int .u8 (b.toNat : Int)).toArray := by simp [imC, h]
end Go.Proofs.Ytliohokcjgcmhaa

namespace Go.Proofs.Ytliohokcjgcmhaa
open Go.RowKit

/-- The letter that q leads to x. -/
def bk (M : Mach) (q x : Nat) : Nat := if M.o q 0 = (x : Int) then 0 else if M.o q 1 = (x : Int) then 1 else 2

theorem Good.inj {M : Mach} {L S : Nat} (h : Good M L S) (q x y : Nat) (hq : q < S) (hx : x < y) (hy : y < L) : M.o q x ≠ M.o q y := fun e => by
  have hc := h.cell q y hq hy
  simp only [cellOk, Bool.and_eq_true, Bool.not_eq_true', decide_eq_true_eq] at hc
  have hs := hc.2.2
  unfold seenB at hs
  rw [List.any_eq_false] at hs
  exact hs x (by simpa using hx) (by simpa using e)
theorem Good.bk_at {M : Mach} {L S : Nat} (h : Good M L S) (q x : Nat) (hq : q < S) (hx : x < L) : bk M q x < L ∧ M.o q (bk M q x) = (x : Int) ∧ ∀ y, y < bk M q x → M.o q y ≠ (x : Int) := by
  have h2 := h.L2; have h3 := h.L3
  have e0 := h.o_lt q 0 hq (by omega)
  have e1 := h.o_lt q 1 hq (by omega)
  have n01 := h.inj q 0 1 hq (by omega) (by omega)
  unfold bk
  by_cases c0 : M.o q 0 = (x : Int)
  · rw [if_pos c0]; exact ⟨by omega, c0, fun y hy => absurd hy (by omega)⟩
  · rw [if_neg c0]
    by_cases c1 : M.o q 1 = (x : Int)
    · rw [if_pos c1]
      refine ⟨by omega, c1, fun y hy => ?_⟩
      obtain rfl : y = 0 := by omega
      exact c0
    · rw [if_neg c1]
      have hL : L = 3 := by
        rcases Nat.lt_or_ge L 3 with h4 | h4
        · exfalso; omega
        · omega
      have e2 := h.o_lt q 2 hq (by omega)
      have n02 := h.inj q 0 2 hq (by omega) (by omega)
      have n12 := h.inj q 1 2 hq (by omega) (by omega)
      refine ⟨by omega, by omega, fun y hy => ?_⟩
      rcases (show y = 0 ∨ y = 1 by omega) with rfl | rfl
      · exact c0
      · exact c1
theorem Good.bk_o {M : Mach} {L S : Nat} (h : Good M L S) (q y x : Nat) (hq : q < S) (hy : y < L) (hx : x < L) (e : M.o q y = (x : Int)) : bk M q x = y := by
  obtain ⟨h1, h2, _⟩ := h.bk_at q x hq hx
  rcases Nat.lt_trichotomy (bk M q x) y with h4 | h4 | h4
  · exact absurd (h2.trans e.symm) (h.inj q _ y hq h4 hy)
  · exact h4
  · exact absurd (e.trans h2.symm) (h.inj q y _ hq h4 h1)

/-! ### The entries of the inverse -/
theorem invStep_o {M c : Mach} (hc : c.ot.length = 48) (q x y q' x' : Nat) (hy : M.o q x = (y : Int)) (hy3 : y < 3) (hq : q < 16) (hx' : x' < 3) (_hq' : q' < 16) :
    (invStep M q x c).o q' x' = if q' = q ∧ x' = y then (x : Int) else c.o q' x' := by
  show (c.ot.set (q * 3 + (M.o q x).toNat) (x : Int)).getD (q' * 3 + x') 0 = _
  rw [hy, Int.toNat_natCast]
  unfold Mach.o
  simp only [List.getD, List.getElem?_set]
  by_cases h : q' = q ∧ x' = y
  · obtain ⟨rfl, rfl⟩ := h
    rw [if_pos rfl, if_pos (by omega), if_pos ⟨rfl, rfl⟩]
    rfl
  · rw [if_neg (by omega), if_neg h]
theorem invStep_n {M c : Mach} (hc : c.nx.length = 48) (q x y q' x' : Nat) (hy : M.o q x = (y : Int)) (hy3 : y < 3) (hq : q < 16) (hx' : x' < 3) (_hq' : q' < 16) :
    (invStep M q x c).n q' x' = if q' = q ∧ x' = y then M.n q x else c.n q' x' := by
  show (c.nx.set (q * 3 + (M.o q x).toNat) (M.n q x)).getD (q' * 3 + x') 0 = _
  rw [hy, Int.toNat_natCast]
  unfold Mach.n
  simp only [List.getD, List.getElem?_set]
  by_cases h : q' = q ∧ x' = y
  · obtain ⟨rfl, rfl⟩ := h
    rw [if_pos rfl, if_pos (by omega), if_pos ⟨rfl, rfl⟩]
    rfl
  · rw [if_neg (by omega), if_neg h]
/-- Behind k letters of the state q. -/
theorem invRow_at {M : Mach} {L S : Nat} (hg : Good M L S) (c : Mach) (hc : c.Ok) (q : Nat) (hq : q < S) : ∀ k, k ≤ L → ∀ q' x', q' < 16 → x' < 3 →
    (invRow M q c k).o q' x' = (if q' = q ∧ x' < L ∧ bk M q x' < k then (bk M q x' : Int) else c.o q' x') ∧
    (invRow M q c k).n q' x' = (if q' = q ∧ x' < L ∧ bk M q x' < k then M.n q (bk M q x') else c.n q' x')
  | 0, _, q', x', _, _ => by simp [invRow]
  | k + 1, hk, q', x', h1, h2 => by
    have hS := hg.S16; have hL := hg.L3
    obtain ⟨i1, i2⟩ := invRow_at hg c hc q hq k (by omega) q' x' h1 h2
    have hok := invRow_ok hg.ok hc q k (by omega)
    obtain ⟨o0, o1⟩ := hg.o_lt q k hq (by omega)
    obtain ⟨y, hy⟩ := Int.eq_ofNat_of_zero_le o0
    rw [show invRow M q c (k + 1) = invStep M q k (invRow M q c k) from rfl,
      invStep_o hok.ot48 q k y q' x' hy (by omega) (by omega) h2 h1, invStep_n hok.nx48 q k y q' x' hy (by omega) (by omega) h2 h1, i1, i2]
    have hby := hg.bk_o q k y hq (by omega) (by omega) hy
    by_cases e : q' = q ∧ x' = y
    · obtain ⟨rfl, rfl⟩ := e
      rw [if_pos ⟨rfl, rfl⟩, if_pos ⟨rfl, by omega, by omega⟩, if_pos ⟨rfl, rfl⟩, if_pos ⟨rfl, by omega, by omega⟩, hby]
      exact ⟨rfl, rfl⟩
    · rw [if_neg e, if_neg e]
      have hiff : (q' = q ∧ x' < L ∧ bk M q x' < k) ↔ (q' = q ∧ x' < L ∧ bk M q x' < k + 1) := by
        constructor
        · rintro ⟨a, b, d⟩; exact ⟨a, b, by omega⟩
        · rintro ⟨a, b, d⟩
          refine ⟨a, b, ?_⟩
          rcases Nat.lt_or_ge (bk M q x') k with h5 | h5
          · exact h5
          · exfalso
            have hbk : bk M q x' = k := by omega
            have := (hg.bk_at q x' hq b).2.1
            rw [hbk, hy] at this
            exact e ⟨a, by omega⟩
      by_cases h6 : q' = q ∧ x' < L ∧ bk M q x' < k
      · rw [if_pos h6, if_pos (hiff.1 h6), if_pos h6, if_pos (hiff.1 h6)]; exact ⟨rfl, rfl⟩
      · rw [if_neg h6, if_neg (fun h => h6 (hiff.2 h)), if_neg h6, if_neg (fun h => h6 (hiff.2 h))]; exact ⟨rfl, rfl⟩
theorem invAll_at {M : Mach} {L S : Nat} (hg : Good M L S) (c : Mach) (hc : c.Ok) : ∀ k, k ≤ S → ∀ q x, q < k → x < L →
    (invAll M L c k).o q x = (bk M q x : Int) ∧ (invAll M L c k).n q x = M.n q (bk M q x)
  | 0, _, _, _, h, _ => absurd h (by omega)
  | k + 1, hk, q, x, h1, h2 => by
    have hS := hg.S16; have hL := hg.L3
    have hok := invAll_ok hg.ok hc L hL k
    obtain ⟨r1, r2⟩ := invRow_at hg _ hok k (by omega) L (Nat.le_refl _) q x (by omega) (by omega)
    rw [show invAll M L c (k + 1) = invRow M k (invAll M L c k) L from rfl, r1, r2]
    by_cases e : q = k
    · subst e
      have := (hg.bk_at q x (by omega) h2).1
      rw [if_pos ⟨rfl, h2, this⟩, if_pos ⟨rfl, h2, this⟩]
      exact ⟨rfl, rfl⟩
    · rw [if_neg (fun h => e h.1), if_neg (fun h => e h.1)]
      exact invAll_at hg c hc k (by omega) q x (by omega) h2
theorem Good.inv_at {M : Mach} {L S : Nat} (hg : Good M L S) (q x : Nat) (hq : q < S) (hx : x < L) : (invM M L S).o q x = (bk M q x : Int) ∧ (invM M L S).n q x = M.n q (bk M q x) :=
  invAll_at hg _ (blankM_ok hg.ok) S (Nat.le_refl _) q x hq hx

/-! ### Letters and words led by group words -/
/-- The state of a number. -/
def stOf (k : Int) : Nat := ((if 0 < k then k else -k) - 1).toNat
/-- The letter to which the number k leads x. -/
def outG (M : Mach) (k : Int) (x : Nat) : Nat := if 0 < k then (M.o (stOf k) x).toNat else bk M (stOf k) x
/-- The number of the section. -/
def nextG (M : Mach) (k : Int) (x : Nat) : Int := if 0 < k then M.n (stOf k) x + 1 else -M.n (stOf k) (bk M (stOf k) x) - 1
theorem stOf_lt {S : Nat} {k : Int} (h : numOk S k = true) : stOf k < S := by
  rw [numOk_iff] at h; unfold stOf; split <;> omega
theorem outG_lt {M : Mach} {L S : Nat} (hg : Good M L S) {k : Int} (h : numOk S k = true) {x : Nat} (hx : x < L) : outG M k x < L := by
  have hq := stOf_lt h
  unfold outG
  split
  · have := hg.o_lt (stOf k) x hq hx; omega
  · exact (hg.bk_at (stOf k) x hq hx).1
theorem nextG_ok {M : Mach} {L S : Nat} (hg : Good M L S) {k : Int} (h : numOk S k = true) {x : Nat} (hx : x < L) : numOk S (nextG M k x) = true := by
  have hq := stOf_lt h
  rw [numOk_iff]
  unfold nextG
  split
  · have := hg.n_lt (stOf k) x hq hx; omega
  · have := hg.n_lt (stOf k) _ hq (hg.bk_at (stOf k) x hq hx).1; omega

def ledG (M : Mach) (zs : List Int) (x : Nat) : Nat × List Int := zs.foldl (fun s k => (outG M k s.1, s.2 ++ [nextG M k s.1])) (x, [])
theorem ledG_nil (M : Mach) (x : Nat) : ledG M [] x = (x, []) := rfl
theorem ledG_snoc (M : Mach) (zs : List Int) (k : Int) (x : Nat) : ledG M (zs ++ [k]) x = (outG M k (ledG M zs x).1, (ledG M zs x).2 ++ [nextG M k (ledG M zs x).1]) := by
  simp [ledG, List.foldl_append]
theorem ledG_take (M : Mach) (zs : List Int) (j : Nat) (h : j < zs.length) (x : Nat) : ledG M (zs.take (j + 1)) x = (outG M zs[j] (ledG M (zs.take j) x).1, (ledG M (zs.take j) x).2 ++ [nextG M zs[j] (ledG M (zs.take j) x).1]) := by
  rw [List.take_succ_eq_append_getElem h, ledG_snoc]
theorem numsOk_at {S : Int} {zs : List Int} (h : numsOk S zs = true) (j : Nat) (hj : j < zs.length) : numOk S zs[j] = true := by
  simp [numsOk] at h; exact h _ (List.getElem_mem hj)
theorem numsOk_snoc (S : Int) (zs : List Int) (k : Int) : numsOk S (zs ++ [k]) = (numsOk S zs && numOk S k) := by simp [numsOk]
theorem ledG_good {M : Mach} {L S : Nat} (hg : Good M L S) (zs : List Int) (hz : numsOk S zs = true) (x : Nat) (hx : x < L) : ∀ j, j ≤ zs.length →
    (ledG M (zs.take j) x).1 < L ∧ (ledG M (zs.take j) x).2.length = j ∧ numsOk S (ledG M (zs.take j) x).2 = true
  | 0, _ => by simp [ledG, hx, numsOk]
  | j + 1, hj => by
    obtain ⟨h1, h2, h3⟩ := ledG_good hg zs hz x hx j (by omega)
    have hk := numsOk_at hz j hj
    rw [ledG_take M zs j hj]
    refine ⟨outG_lt hg hk h1, by simp [h2], ?_⟩
    rw [numsOk_snoc, h3, nextG_ok hg hk h1]; rfl
theorem ledG_all {M : Mach} {L S : Nat} (hg : Good M L S) (zs : List Int) (hz : numsOk S zs = true) (x : Nat) (hx : x < L) :
    (ledG M zs x).1 < L ∧ (ledG M zs x).2.length = zs.length ∧ numsOk S (ledG M zs x).2 = true := by
  have := ledG_good hg zs hz x hx zs.length (Nat.le_refl _)
  rwa [List.take_length] at this

def actG (M : Mach) (zs : List Int) (l : List UInt8) : List UInt8 × List Int := l.foldl (fun s c => (s.1 ++ [dig ((ledG M s.2 (c.toNat - 48)).1 : Nat)], (ledG M s.2 (c.toNat - 48)).2)) ([], zs)
theorem actG_nil (M : Mach) (zs : List Int) : actG M zs [] = ([], zs) := rfl
theorem actG_snoc (M : Mach) (zs : List Int) (l : List UInt8) (c : UInt8) : actG M zs (l ++ [c]) = ((actG M zs l).1 ++ [dig ((ledG M (actG M zs l).2 (c.toNat - 48)).1 : Nat)], (ledG M (actG M zs l).2 (c.toNat - 48)).2) := by
  simp [actG, List.foldl_append]
theorem actG_take (M : Mach) (zs : List Int) (l : List UInt8) (j : Nat) (h : j < l.length) : actG M zs (l.take (j + 1)) = ((actG M zs (l.take j)).1 ++ [dig ((ledG M (actG M zs (l.take j)).2 (l[j].toNat - 48)).1 : Nat)], (ledG M (actG M zs (l.take j)).2 (l[j].toNat - 48)).2) := by
  rw [List.take_succ_eq_append_getElem h, actG_snoc]
theorem actG_good {M : Mach} {L S : Nat} (hg : Good M L S) (zs : List Int) (hz : numsOk S zs = true) (l : List UInt8) (hl : lettersL L l = true) : ∀ j, j ≤ l.length →
    (actG M zs (l.take j)).1.length = j ∧ lettersL L (actG M zs (l.take j)).1 = true ∧ (actG M zs (l.take j)).2.length = zs.length ∧ numsOk S (actG M zs (l.take j)).2 = true
  | 0, _ => by simp [actG, lettersL, hz]
  | j + 1, hj => by
    obtain ⟨h1, h2, h3, h4⟩ := actG_good hg zs hz l hl j (by omega)
    obtain ⟨a1, a2⟩ := lettersL_at hl j hj
    obtain ⟨b1, b2, b3⟩ := ledG_all hg _ h4 (l[j].toNat - 48) (by omega)
    have hL3 := hg.L3
    rw [actG_take M zs l j hj]
    refine ⟨by simp [h1], ?_, by rw [b2, h3], b3⟩
    rw [lettersL_snoc, h2, Bool.true_and, letterB_iff]
    have := dig_toNat ((ledG M (actG M zs (l.take j)).2 (l[j].toNat - 48)).1 : Int) (by omega) (by omega)
    omega
theorem actG_all {M : Mach} {L S : Nat} (hg : Good M L S) (zs : List Int) (hz : numsOk S zs = true) (l : List UInt8) (hl : lettersL L l = true) :
    (actG M zs l).1.length = l.length ∧ lettersL L (actG M zs l).1 = true ∧ (actG M zs l).2.length = zs.length ∧ numsOk S (actG M zs l).2 = true := by
  have := actG_good hg zs hz l hl l.length (Nat.le_refl _)
  rwa [List.take_length] at this
end Go.Proofs.Ytliohokcjgcmhaa
