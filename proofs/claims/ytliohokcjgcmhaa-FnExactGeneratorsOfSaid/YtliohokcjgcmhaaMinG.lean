/- The minimal machine, told by its entries. -/
import Derived.Test.YtliohokcjgcmhaaMinK
import Derived.Test.YtliohokcjgcmhaaInvM
namespace Go.Proofs.Ytliohokcjgcmhaa
open Go.RowKit

/-- Three entries in a row. -/
def put3 (l : List Int) (i : Nat) (a b c : Int) : List Int := ((l.set i a).set (i + 1) b).set (i + 2) c
theorem put3_len (l : List Int) (i : Nat) (a b c : Int) : (put3 l i a b c).length = l.length := by simp [put3]
theorem put3_at (l : List Int) (hl : l.length = 48) (k : Nat) (hk : k < 16) (a b c : Int) (q x : Nat) (_hq : q < 16) (hx : x < 3) : (put3 l (k * 3) a b c).getD (q * 3 + x) 0 = if q = k then (if x = 0 then a else if x = 1 then b else c) else l.getD (q * 3 + x) 0 := by
  unfold put3
  simp only [List.getD, List.getElem?_set, List.length_set]
  by_cases h : q = k
  · subst h
    rw [if_pos rfl]
    rcases (show x = 0 ∨ x = 1 ∨ x = 2 by omega) with rfl | rfl | rfl
    · rw [if_neg (by omega), if_neg (by omega), if_pos (by omega), if_pos (by omega)]; rfl
    · rw [if_neg (by omega), if_pos (by omega), if_pos (by omega)]; rfl
    · rw [if_pos (by omega), if_pos (by omega)]; rfl
  · rw [if_neg h, if_neg (by omega), if_neg (by omega), if_neg (by omega)]
theorem over3 (c : Array Value) (p : Nat) (a b d : Value) (hp : p + 3 ≤ c.size) : over c p #[a, b, d] = ((c.setIfInBounds p a).setIfInBounds (p + 1) b).setIfInBounds (p + 2) d := by
  apply Array.ext_getElem?
  intro i
  simp only [over, List.getElem?_toArray, Array.getElem?_setIfInBounds, Array.size_setIfInBounds]
  have h3 : (#[a, b, d] : Array Value).size = 3 := rfl
  rw [h3]
  have ht : (c.toList.take p).length = p := by simp; omega
  rcases (show i < p ∨ i = p ∨ i = p + 1 ∨ i = p + 2 ∨ p + 3 ≤ i by omega) with h | h | h | h | h
  · rw [if_neg (by omega), if_neg (by omega), if_neg (by omega), List.getElem?_append_left (by rw [ht]; exact h), List.getElem?_take, if_pos h, Array.getElem?_toList]
  · subst h
    rw [if_neg (by omega), if_neg (by omega), if_pos rfl, if_pos (by omega), List.getElem?_append_right (by rw [ht]; omega), ht, Nat.sub_self]
    rfl
  · subst h
    rw [if_neg (by omega), if_pos rfl, if_pos (by omega), List.getElem?_append_right (by rw [ht]; omega), ht, show p + 1 - p = 1 from by omega]
    rfl
  · subst h
    rw [if_pos rfl, if_pos (by omega), List.getElem?_append_right (by rw [ht]; omega), ht, show p + 2 - p = 2 from by omega]
    rfl
  · rw [if_neg (by omega), if_neg (by omega), if_neg (by omega), List.getElem?_append_right (by rw [ht]; omega), ht, List.getElem?_append_right (by simp; omega), List.getElem?_drop, Array.getElem?_toList]
    congr 1
    simp
    omega
theorem mc_put_ot {m : Mach} (h : m.Ok) (k : Nat) (hk : k < 16) (a b c : Int) : over (mc m) (50 + k * 3) #[.int .u8 a, .int .u8 b, .int .u8 c] = mc { m with ot := put3 m.ot (k * 3) a b c } := by
  rw [over3 _ _ _ _ _ (by rw [mc_size h]; omega)]
  unfold put3
  rw [mc_set_ot (M := { m with ot := (m.ot.set (k * 3) a).set (k * 3 + 1) b }) h.nx48 _ (by omega), mc_set_ot (M := { m with ot := m.ot.set (k * 3) a }) h.nx48 _ (by omega), mc_set_ot h.nx48 _ (by omega)]
  simp only [Nat.add_assoc]
theorem mc_put_nx {m : Mach} (h : m.Ok) (k : Nat) (hk : k < 16) (a b c : Int) : over (mc m) (2 + k * 3) #[.int .u8 a, .int .u8 b, .int .u8 c] = mc { m with nx := put3 m.nx (k * 3) a b c } := by
  rw [over3 _ _ _ _ _ (by rw [mc_size h]; omega)]
  unfold put3
  rw [mc_set_nx (M := { m with nx := (m.nx.set (k * 3) a).set (k * 3 + 1) b }) (by simp [h.nx48]) _ (by omega), mc_set_nx (M := { m with nx := m.nx.set (k * 3) a }) (by simp [h.nx48]) _ (by omega), mc_set_nx h.nx48 _ (by omega)]
  simp only [Nat.add_assoc]
theorem mc_set_S (m : Mach) (v : Int) : mc { m with S := v } = (mc m).setIfInBounds 1 (.int .i64 v) := by
  apply Array.ext'; simp [mc]
theorem put3_ok {m : Mach} (h : m.Ok) (i : Nat) (a b c : Int) (ha : 0 ≤ a ∧ a ≤ 255) (hb : 0 ≤ b ∧ b ≤ 255) (hc : 0 ≤ c ∧ c ≤ 255) : ({ m with ot := put3 m.ot i a b c } : Mach).Ok ∧ ({ m with nx := put3 m.nx i a b c } : Mach).Ok :=
  ⟨⟨h.nx48, by simp [put3_len, h.ot48], h.nxB, isBytes_put (isBytes_put (isBytes_put h.otB _ _ ha) _ _ hb) _ _ hc, h.Lwf, h.Swf⟩,
   ⟨by simp [put3_len, h.nx48], h.ot48, isBytes_put (isBytes_put (isBytes_put h.nxB _ _ ha) _ _ hb) _ _ hc, h.otB, h.Lwf, h.Swf⟩⟩

/-- How many sets the first q states make. -/
def cntT (M : Mach) (L S q : Nat) : Nat := cntB (repB M L (S + 1)) q
/-- The number of the set of q. -/
def numT (M : Mach) (L S q : Nat) : Nat := num M L (S + 1) q
/-- The entry of the minimal machine. -/
def nextT (M : Mach) (L S p x : Nat) : Int := if x < L then (numT M L S (nn M p x) : Int) else 0
/-- m has the rows of the sets of the first q states, and nothing else. -/
structure MinUp (M : Mach) (L S : Nat) (q : Nat) (m : Mach) : Prop where
  ok : m.Ok
  hL : m.L = L
  rows : ∀ p, p < q → ∀ x, x < 3 → m.o (numT M L S p) x = M.o p x ∧ m.n (numT M L S p) x = nextT M L S p x
  rest : ∀ k, k < 16 → cntT M L S q ≤ k → ∀ x, x < 3 → m.o k x = 0 ∧ m.n k x = 0
theorem numT_lt (M : Mach) (L S p q : Nat) (h : p < q) : numT M L S p < cntT M L S q := num_lt M L (S + 1) p q h
theorem cntT_le (M : Mach) (L S q : Nat) : cntT M L S q ≤ q := cntB_le _ _
/-- Every number below is the number of a state. -/
theorem numT_onto (M : Mach) (L S : Nat) : ∀ q k, k < cntT M L S q → ∃ p, p < q ∧ numT M L S p = k
  | 0, k, h => absurd h (by simp [cntT, cntB])
  | q + 1, k, h => by
    by_cases h1 : k < cntT M L S q
    · obtain ⟨p, hp, e⟩ := numT_onto M L S q k h1
      exact ⟨p, by omega, e⟩
    · unfold cntT cntB at h
      cases hr : repB M L (S + 1) q with
      | false => rw [hr] at h; simp only [Bool.false_eq_true, if_false] at h; exact absurd h h1
      | true =>
        rw [hr] at h
        simp only [if_true] at h
        refine ⟨q, by omega, ?_⟩
        have := num_rep M L (S + 1) q hr
        unfold cntT at h1
        unfold numT; omega
/-- Two machines with the same entries are one. -/
theorem mach_ext {m m' : Mach} (h : m.Ok) (h' : m'.Ok) (hL : m.L = m'.L) (hS : m.S = m'.S) (he : ∀ k, k < 16 → ∀ x, x < 3 → m.o k x = m'.o k x ∧ m.n k x = m'.n k x) : m = m' := by
  have key : ∀ l l' : List Int, l.length = 48 → l'.length = 48 → (∀ k, k < 16 → ∀ x, x < 3 → l.getD (k * 3 + x) 0 = l'.getD (k * 3 + x) 0) → l = l' := fun l l' hl hl' hh => by
    apply List.ext_getElem (by omega)
    intro i h1 h2
    have := hh (i / 3) (by omega) (i % 3) (by omega)
    rw [show i / 3 * 3 + i % 3 = i from by omega] at this
    simpa [List.getD, List.getElem?_eq_getElem h1, List.getElem?_eq_getElem h2] using this
  obtain ⟨L, S, nx, ot⟩ := m
  obtain ⟨L', S', nx', ot'⟩ := m'
  have a := key nx nx' h.nx48 h'.nx48 (fun k hk x hx => (he k hk x hx).2)
  have b := key ot ot' h.ot48 h'.ot48 (fun k hk x hx => (he k hk x hx).1)
  simp only at hL hS
  rw [hL, hS, a, b]
theorem MinUp.unique {M : Mach} {L S : Nat} {m m' : Mach} (h : MinUp M L S S m) (h' : MinUp M L S S m') (hS : m.S = m'.S) : m = m' :=
  mach_ext h.ok h'.ok (h.hL.trans h'.hL.symm) hS fun k hk x hx => by
    rcases Nat.lt_or_ge k (cntT M L S S) with h1 | h1
    · obtain ⟨p, hp, rfl⟩ := numT_onto M L S S k h1
      exact ⟨((h.rows p hp x hx).1).trans ((h'.rows p hp x hx).1).symm, ((h.rows p hp x hx).2).trans ((h'.rows p hp x hx).2).symm⟩
    · exact ⟨((h.rest k hk h1 x hx).1).trans ((h'.rest k hk h1 x hx).1).symm, ((h.rest k hk h1 x hx).2).trans ((h'.rest k hk h1 x hx).2).symm⟩
theorem numT_eqB {M : Mach} {L S : Nat} {p r : Nat} : numT M L S p = numT M L S r ↔ eqB M L (S + 1) p r = true := num_iff M L (S + 1) p r
/-- States of one set have one row. -/
theorem row_same {M : Mach} {L S : Nat} (hg : Good M L S) {p r : Nat} (hp : p < S) (hr : r < S) (e : numT M L S p = numT M L S r) (x : Nat) (hx : x < 3) : M.o p x = M.o r x ∧ nextT M L S p x = nextT M L S r x := by
  have hS := hg.S16
  have h1 := still_from hg (S + 1) (by omega) p r hp hr (numT_eqB.1 e)
  rw [eqB_succ] at h1
  unfold nextT
  by_cases hl : x < L
  · rw [if_pos hl, if_pos hl]
    have h2 := h1 x hl
    exact ⟨h2.1, by rw [numT_eqB.2 h2.2]⟩
  · rw [if_neg hl, if_neg hl]
    exact ⟨((hg.zero p x (by omega) hx (fun h => hl h.2)).2).trans ((hg.zero r x (by omega) hx (fun h => hl h.2)).2).symm, rfl⟩
theorem getD_zeros (n i : Nat) : (List.replicate n (0 : Int)).getD i 0 = 0 := by
  rw [List.getD, List.getElem?_replicate]
  split <;> rfl
theorem MinUp.start {M : Mach} (hok : M.Ok) (L S : Nat) (hL : M.L = L) (v : Int) (hv : -9223372036854775808 ≤ v ∧ v ≤ 9223372036854775807) : MinUp M L S 0 (blankM L v) := by
  have hb : (blankM (L : Int) v).Ok := ⟨by simp [blankM], by simp [blankM], by intro n hn; simp [blankM] at hn; omega, by intro n hn; simp [blankM] at hn; omega, by rw [← hL]; exact hok.Lwf, hv⟩
  refine ⟨hb, rfl, fun p hp => absurd hp (by omega), fun k _ _ x _ => ⟨?_, ?_⟩⟩
  · exact getD_zeros 48 _
  · exact getD_zeros 48 _
theorem rep_num {M : Mach} {L S q : Nat} (h : repB M L (S + 1) q = true) : numT M L S q = cntT M L S q ∧ cntT M L S (q + 1) = cntT M L S q + 1 := by
  refine ⟨num_rep M L (S + 1) q h, ?_⟩
  show cntB _ q + (if repB M L (S + 1) q = true then 1 else 0) = _
  rw [if_pos h]; rfl
theorem notrep_num {M : Mach} {L S q : Nat} (h : repB M L (S + 1) q = false) : numT M L S q < cntT M L S q ∧ cntT M L S (q + 1) = cntT M L S q := by
  refine ⟨num_not M L (S + 1) q h, ?_⟩
  show cntB _ q + (if repB M L (S + 1) q = true then 1 else 0) = _
  rw [if_neg (by rw [h]; simp)]; rfl
/-- A state of a set that has been met. -/
theorem MinUp.again {M : Mach} {L S q : Nat} (hg : Good M L S) {m : Mach} (h : MinUp M L S q m) (hq : q < S) (hr : repB M L (S + 1) q = false) : MinUp M L S (q + 1) m := by
  obtain ⟨h1, h2⟩ := notrep_num hr
  refine ⟨h.ok, h.hL, fun p hp x hx => ?_, fun k hk hc x hx => h.rest k hk (by omega) x hx⟩
  rcases Nat.lt_or_ge p q with h3 | h3
  · exact h.rows p h3 x hx
  · obtain rfl : p = q := by omega
    obtain ⟨p', hp', e⟩ := numT_onto M L S p _ h1
    have hs := row_same hg (show p' < S by omega) hq e x hx
    rw [← e, ← hs.1, ← hs.2]
    exact h.rows p' hp' x hx
/-- A state of a new set: its row is written. -/
theorem MinUp.fresh {M : Mach} {L S q : Nat} (hg : Good M L S) {m : Mach} (h : MinUp M L S q m) (hq : q < S) (hr : repB M L (S + 1) q = true) (v : Int) (hv : -9223372036854775808 ≤ v ∧ v ≤ 9223372036854775807) :
    MinUp M L S (q + 1) { m with ot := put3 m.ot (numT M L S q * 3) (M.o q 0) (M.o q 1) (M.o q 2), nx := put3 m.nx (numT M L S q * 3) (nextT M L S q 0) (nextT M L S q 1) (nextT M L S q 2), S := v } := by
  have hS := hg.S16
  obtain ⟨h1, h2⟩ := rep_num hr
  have hk16 : numT M L S q < 16 := by have := cntT_le M L S q; omega
  have bn : ∀ x, 0 ≤ nextT M L S q x ∧ nextT M L S q x ≤ 255 := fun x => by
    unfold nextT
    split
    · rename_i hx
      have a1 := num_le M L (S + 1) (nn M q x)
      have a2 := hg.nn_lt q x hq hx
      unfold numT; omega
    · omega
  refine ⟨⟨by simp [put3_len, h.ok.nx48], by simp [put3_len, h.ok.ot48], isBytes_put (isBytes_put (isBytes_put h.ok.nxB _ _ (bn 0)) _ _ (bn 1)) _ _ (bn 2), isBytes_put (isBytes_put (isBytes_put h.ok.otB _ _ (Mach.o_bd hg.ok q 0)) _ _ (Mach.o_bd hg.ok q 1)) _ _ (Mach.o_bd hg.ok q 2), h.ok.Lwf, hv⟩, h.hL, fun p hp x hx => ?_, fun k hk hc x hx => ?_⟩
  · have e1 := put3_at m.ot h.ok.ot48 _ hk16 (M.o q 0) (M.o q 1) (M.o q 2) (numT M L S p) x (by have := num_le M L (S + 1) p; unfold numT; omega) hx
    have e2 := put3_at m.nx h.ok.nx48 _ hk16 (nextT M L S q 0) (nextT M L S q 1) (nextT M L S q 2) (numT M L S p) x (by have := num_le M L (S + 1) p; unfold numT; omega) hx
    refine ⟨e1.trans ?_, e2.trans ?_⟩
    · rcases Nat.lt_or_ge p q with h3 | h3
      · have h4 := numT_lt M L S p q h3
        rw [if_neg (by omega)]
        exact (h.rows p h3 x hx).1
      · obtain rfl : p = q := by omega
        rw [if_pos rfl]
        rcases (show x = 0 ∨ x = 1 ∨ x = 2 by omega) with rfl | rfl | rfl <;> rfl
    · rcases Nat.lt_or_ge p q with h3 | h3
      · have h4 := numT_lt M L S p q h3
        rw [if_neg (by omega)]
        exact (h.rows p h3 x hx).2
      · obtain rfl : p = q := by omega
        rw [if_pos rfl]
        rcases (show x = 0 ∨ x = 1 ∨ x = 2 by omega) with rfl | rfl | rfl <;> rfl
  · have e1 := put3_at m.ot h.ok.ot48 _ hk16 (M.o q 0) (M.o q 1) (M.o q 2) k x hk hx
    have e2 := put3_at m.nx h.ok.nx48 _ hk16 (nextT M L S q 0) (nextT M L S q 1) (nextT M L S q 2) k x hk hx
    rw [if_neg (by omega)] at e1 e2
    exact ⟨e1.trans (h.rest k hk (by omega) x hx).1, e2.trans (h.rest k hk (by omega) x hx).2⟩
/-- The minimal machine of the sets of the first q states. -/
def mnAll (M : Mach) (L S : Nat) : Nat → Mach
  | 0 => blankM L 0
  | q + 1 => if repB M L (S + 1) q then { mnAll M L S q with ot := put3 (mnAll M L S q).ot (numT M L S q * 3) (M.o q 0) (M.o q 1) (M.o q 2), nx := put3 (mnAll M L S q).nx (numT M L S q * 3) (nextT M L S q 0) (nextT M L S q 1) (nextT M L S q 2), S := (mnAll M L S q).S + 1 } else mnAll M L S q
theorem mnAll_up {M : Mach} {L S : Nat} (hg : Good M L S) : ∀ q, q ≤ S → MinUp M L S q (mnAll M L S q) ∧ (mnAll M L S q).S = (cntT M L S q : Int)
  | 0, _ => ⟨MinUp.start hg.ok L S hg.hL 0 (by omega), rfl⟩
  | q + 1, hq => by
    obtain ⟨h1, h2⟩ := mnAll_up hg q (by omega)
    have hS := hg.S16
    have hc := cntT_le M L S q
    cases hr : repB M L (S + 1) q with
    | true =>
      have e : mnAll M L S (q + 1) = { mnAll M L S q with ot := put3 (mnAll M L S q).ot (numT M L S q * 3) (M.o q 0) (M.o q 1) (M.o q 2), nx := put3 (mnAll M L S q).nx (numT M L S q * 3) (nextT M L S q 0) (nextT M L S q 1) (nextT M L S q 2), S := (mnAll M L S q).S + 1 } := by
        show (if repB M L (S + 1) q = true then _ else _) = _
        rw [if_pos hr]
      rw [e]
      refine ⟨h1.fresh hg (by omega) hr _ (by omega), ?_⟩
      show (mnAll M L S q).S + 1 = _
      rw [(rep_num hr).2, h2]; omega
    | false =>
      have e : mnAll M L S (q + 1) = mnAll M L S q := by
        show (if repB M L (S + 1) q = true then _ else _) = _
        rw [if_neg (by rw [hr]; simp)]
      rw [e, (notrep_num hr).2]
      exact ⟨h1.again hg (by omega) hr, h2⟩
def minR (M : Mach) : Mach := if isMach M then mnAll M M.L.toNat M.S.toNat M.S.toNat else zeroM
def minC (M : Mach) : Int := if isMach M then 0 else 1
theorem minR_ok {M : Mach} (h : M.Ok) : (minR M).Ok := by
  unfold minR
  split
  · rename_i hm
    obtain ⟨L, S, hg⟩ := Good.of h hm
    rw [hg.hL, hg.hS]
    simp only [Int.toNat_natCast]
    exact (mnAll_up hg S (Nat.le_refl _)).1.ok
  · exact zeroM_ok
/-- The numbers of all states. -/
def numsT (M : Mach) (L S k : Nat) : List Int := (List.range k).map fun q => (numT M L S q : Int)
theorem numsT_len (M : Mach) (L S k : Nat) : (numsT M L S k).length = k := by simp [numsT]
theorem numsT_snoc (M : Mach) (L S k : Nat) : numsT M L S (k + 1) = numsT M L S k ++ [(numT M L S k : Int)] := by simp [numsT, List.range_succ]
def numsP (M : Mach) (L S N k : Nat) : List Int := numsT M L S k ++ List.replicate (N - k) 0
theorem numsP_zero (M : Mach) (L S N : Nat) : numsP M L S N 0 = List.replicate N 0 := by simp [numsP, numsT]
theorem numsP_len (M : Mach) (L S N k : Nat) (h : k ≤ N) : (numsP M L S N k).length = N := by simp [numsP, numsT_len]; omega
theorem numsP_all (M : Mach) (L S N : Nat) : numsP M L S N N = numsT M L S N := by simp [numsP]
theorem numsP_set (M : Mach) (L S N k : Nat) (h : k < N) : (numsP M L S N k).set k (numT M L S k : Int) = numsP M L S N (k + 1) := by
  unfold numsP
  rw [List.set_append_right _ _ (by rw [numsT_len]; exact Nat.le_refl _), numsT_len, Nat.sub_self, show N - k = (N - (k + 1)) + 1 from by omega, List.replicate_succ, List.set_cons_zero, numsT_snoc, List.append_assoc]
  rfl
def minN (M : Mach) : List Int := if isMach M then numsT M M.L.toNat M.S.toNat M.S.toNat else []
theorem minN_len {M : Mach} (h : M.Ok) : (minN M).length ≤ 1048576 := by
  unfold minN
  split
  · rename_i hm
    obtain ⟨L, S, hg⟩ := Good.of h hm
    rw [numsT_len, hg.hS]
    have := hg.S16
    omega
  · simp
theorem blank_set (L : Int) : (mc zeroM).setIfInBounds 0 (.int .i64 L) = mc (blankM L 0) := by
  apply Array.ext'; simp [mc, zeroM, blankM]
end Go.Proofs.Ytliohokcjgcmhaa

namespace Go.Proofs.Ytliohokcjgcmhaa
open Go.RowKit

/-- The numbers of the first q states, as the model has them. -/
def numsZ (M : Mach) (L S q : Nat) : List Int := (List.range 16).map fun p => if p < q then (numT M L S p : Int) else 0
theorem numsZ_len (M : Mach) (L S q : Nat) : (numsZ M L S q).length = 16 := by simp [numsZ]
theorem numsZ_zero (M : Mach) (L S : Nat) : numsZ M L S 0 = List.replicate 16 0 := rfl
theorem numsZ_at (M : Mach) (L S q p : Nat) (hp : p < q) (hq : q ≤ 16) : (numsZ M L S q).getD p 0 = (numT M L S p : Int) := by
  unfold numsZ
  rw [List.getD, List.getElem?_map, List.getElem?_range (by omega)]
  simp [hp]
theorem numsZ_set (M : Mach) (L S k : Nat) (v : Int) (hv : v = (numT M L S k : Int)) : (numsZ M L S k).set k v = numsZ M L S (k + 1) := by
  subst hv
  apply List.ext_getElem
  · simp [numsZ]
  · intro i h1 h2
    simp only [numsZ, List.getElem_set, List.getElem_map, List.getElem_range]
    by_cases h : k = i
    · subst h; simp
    · rw [if_neg h]
      by_cases h3 : i < k
      · rw [if_pos h3, if_pos (by omega)]
      · rw [if_neg h3, if_neg (by omega)]
theorem numT_lst (M : Mach) (L S q : Nat) : numT M L S (lst M L (S + 1) q) = numT M L S q := by
  unfold numT num
  rw [lst_idem]
/-- One entry. -/
def spStep (M : Mach) (L S q x : Nat) (c : Mach) : Mach := { c with ot := c.ot.set (numT M L S q * 3 + x) (M.o q x), nx := c.nx.set (numT M L S q * 3 + x) (nextT M L S q x) }
def spRow (M : Mach) (L S q : Nat) (c : Mach) : Nat → Mach
  | 0 => c
  | k + 1 => spStep M L S q k (spRow M L S q c k)
def spAll (M : Mach) (L S : Nat) : Nat → Mach
  | 0 => blankM L (cntT M L S S)
  | q + 1 => spRow M L S q (spAll M L S q) L
theorem nextT_bd {M : Mach} {L S : Nat} (hg : Good M L S) (q x : Nat) (hq : q < S) : 0 ≤ nextT M L S q x ∧ nextT M L S q x ≤ 255 := by
  have hS := hg.S16
  unfold nextT
  split
  · rename_i hx
    have a1 := num_le M L (S + 1) (nn M q x)
    have a2 := hg.nn_lt q x hq hx
    unfold numT; omega
  · omega
theorem spStep_ok {M : Mach} {L S : Nat} (hg : Good M L S) {c : Mach} (hc : c.Ok) (q x : Nat) (hq : q < S) : (spStep M L S q x c).Ok :=
  ⟨by simp [spStep, hc.nx48], by simp [spStep, hc.ot48], isBytes_set hc.nxB _ _ (nextT_bd hg q x hq), isBytes_set hc.otB _ _ (Mach.o_bd hg.ok q x), hc.Lwf, hc.Swf⟩
theorem spRow_ok {M : Mach} {L S : Nat} (hg : Good M L S) {c : Mach} (hc : c.Ok) (q : Nat) (hq : q < S) : ∀ k, (spRow M L S q c k).Ok
  | 0 => hc
  | k + 1 => spStep_ok hg (spRow_ok hg hc q hq k) q k hq
theorem spRow_LS (M : Mach) (L S q : Nat) (c : Mach) : ∀ k, (spRow M L S q c k).L = c.L ∧ (spRow M L S q c k).S = c.S
  | 0 => ⟨rfl, rfl⟩
  | k + 1 => spRow_LS M L S q c k
theorem set_at48 (l : List Int) (hl : l.length = 48) (n x k y : Nat) (hn : n < 16) (hx : x < 3) (hk : k < 16) (hy : y < 3) (v : Int) : (l.set (n * 3 + x) v).getD (k * 3 + y) 0 = if k = n ∧ y = x then v else l.getD (k * 3 + y) 0 := by
  rw [List.getD, List.getElem?_set]
  by_cases h : k = n ∧ y = x
  · obtain ⟨rfl, rfl⟩ := h
    rw [if_pos rfl, if_pos (by omega), if_pos ⟨rfl, rfl⟩]; rfl
  · rw [if_neg (by omega), if_neg h]; rfl
theorem spRow_at {M : Mach} {L S : Nat} (hg : Good M L S) {c : Mach} (hc : c.Ok) (q : Nat) (hq : q < S) (k y : Nat) (hk : k < 16) (hy : y < 3) : ∀ j, j ≤ 3 →
    (spRow M L S q c j).o k y = (if k = numT M L S q ∧ y < j then M.o q y else c.o k y) ∧ (spRow M L S q c j).n k y = (if k = numT M L S q ∧ y < j then nextT M L S q y else c.n k y)
  | 0, _ => by simp [spRow]
  | j + 1, hj => by
    have hS := hg.S16
    have hn : numT M L S q < 16 := by have := num_le M L (S + 1) q; unfold numT; omega
    obtain ⟨e1, e2⟩ := spRow_at hg hc q hq k y hk hy j (by omega)
    have hr := spRow_ok hg hc q hq j
    have f1 := set_at48 _ hr.ot48 (numT M L S q) j k y hn (by omega) hk hy (M.o q j)
    have f2 := set_at48 _ hr.nx48 (numT M L S q) j k y hn (by omega) hk hy (nextT M L S q j)
    refine ⟨f1.trans ?_, f2.trans ?_⟩
    · rw [show (spRow M L S q c j).ot.getD (k * 3 + y) 0 = _ from e1]
      by_cases h : k = numT M L S q ∧ y = j
      · rw [if_pos h, if_pos ⟨h.1, by omega⟩, h.2]
      · rw [if_neg h]
        by_cases h2 : k = numT M L S q ∧ y < j
        · rw [if_pos h2, if_pos ⟨h2.1, by omega⟩]
        · rw [if_neg h2, if_neg (by omega)]
    · rw [show (spRow M L S q c j).nx.getD (k * 3 + y) 0 = _ from e2]
      by_cases h : k = numT M L S q ∧ y = j
      · rw [if_pos h, if_pos ⟨h.1, by omega⟩, h.2]
      · rw [if_neg h]
        by_cases h2 : k = numT M L S q ∧ y < j
        · rw [if_pos h2, if_pos ⟨h2.1, by omega⟩]
        · rw [if_neg h2, if_neg (by omega)]
theorem spRow_up {M : Mach} {L S q : Nat} (hg : Good M L S) {m : Mach} (h : MinUp M L S q m) (hq : q < S) : MinUp M L S (q + 1) (spRow M L S q m L) := by
  have hS := hg.S16
  have hL3 := hg.L3
  have hnum : ∀ p, numT M L S p ≤ p := fun p => num_le M L (S + 1) p
  have hcount : cntT M L S q ≤ cntT M L S (q + 1) := by
    cases hr : repB M L (S + 1) q with
    | true => rw [(rep_num hr).2]; omega
    | false => rw [(notrep_num hr).2]; omega
  refine ⟨spRow_ok hg h.ok q hq L, (spRow_LS M L S q m L).1.trans h.hL, fun p hp x hx => ?_, fun k hk hc x hx => ?_⟩
  · have hb : p < S := by omega
    obtain ⟨e1, e2⟩ := spRow_at hg h.ok q hq (numT M L S p) x (by have := hnum p; omega) hx L (by omega)
    rw [e1, e2]
    by_cases e : numT M L S p = numT M L S q
    · have hs := row_same hg hb hq e x hx
      by_cases hl : x < L
      · rw [if_pos ⟨e, hl⟩, if_pos ⟨e, hl⟩]
        exact ⟨hs.1.symm, hs.2.symm⟩
      · rw [if_neg (fun a => hl a.2), if_neg (fun a => hl a.2)]
        rcases Nat.lt_or_ge p q with h3 | h3
        · exact h.rows p h3 x hx
        · obtain rfl : p = q := by omega
          cases hr : repB M L (S + 1) p with
          | true =>
            have h1 := (rep_num hr).1
            have h0 := h.rest (numT M L S p) (by have := hnum p; omega) (by omega) x hx
            rw [h0.1, h0.2]
            exact ⟨((hg.zero p x (by omega) hx (fun a => hl a.2)).2).symm, by unfold nextT; rw [if_neg hl]⟩
          | false =>
            obtain ⟨p', hp', e'⟩ := numT_onto M L S p _ (notrep_num hr).1
            have hs' := row_same hg (show p' < S by omega) hq e' x hx
            rw [← e', ← hs'.1, ← hs'.2]
            exact h.rows p' hp' x hx
    · rw [if_neg (fun a => e a.1), if_neg (fun a => e a.1)]
      rcases Nat.lt_or_ge p q with h3 | h3
      · exact h.rows p h3 x hx
      · exact absurd (show numT M L S p = numT M L S q by rw [show p = q by omega]) e
  · obtain ⟨e1, e2⟩ := spRow_at hg h.ok q hq k x hk hx L (by omega)
    have hlt := numT_lt M L S q (q + 1) (by omega)
    rw [e1, e2, if_neg (by omega), if_neg (by omega)]
    exact h.rest k hk (by omega) x hx
theorem spAll_up {M : Mach} {L S : Nat} (hg : Good M L S) : ∀ q, q ≤ S → MinUp M L S q (spAll M L S q) ∧ (spAll M L S q).S = (cntT M L S S : Int)
  | 0, _ => by
    have hS := hg.S16
    have hc := cntT_le M L S S
    exact ⟨MinUp.start hg.ok L S hg.hL _ (by omega), rfl⟩
  | q + 1, hq => by
    obtain ⟨h1, h2⟩ := spAll_up hg q (by omega)
    exact ⟨spRow_up hg h1 (by omega), (spRow_LS M L S q _ L).2.trans h2⟩
theorem spAll_mn {M : Mach} {L S : Nat} (hg : Good M L S) : spAll M L S S = mnAll M L S S := by
  obtain ⟨h1, h2⟩ := spAll_up hg S (Nat.le_refl _)
  obtain ⟨h3, h4⟩ := mnAll_up hg S (Nat.le_refl _)
  exact h1.unique h3 (h2.trans h4.symm)
theorem spStep_mc {M : Mach} (L S : Nat) {c : Mach} (hc : c.Ok) (q x : Nat) (hy : numT M L S q * 3 + x < 48) :
    mc (spStep M L S q x c) = ((mc c).setIfInBounds (50 + numT M L S q * 3 + x) (.int .u8 (M.o q x))).setIfInBounds (2 + numT M L S q * 3 + x) (.int .u8 (nextT M L S q x)) := by
  rw [Nat.add_assoc, Nat.add_assoc, ← mc_set_ot hc.nx48 _ hy]
  rw [← mc_set_nx (M := { c with ot := c.ot.set (numT M L S q * 3 + x) (M.o q x) }) hc.nx48 _ hy]
  rfl
theorem blank_S {L : Int} (v v' : Int) : (mc (blankM L v)).setIfInBounds 1 (.int .i64 v') = mc (blankM L v') := by
  rw [← mc_set_S]; rfl
theorem numsZ_map (M : Mach) (L S : Nat) (hS : S ≤ 16) : ∀ q, q ≤ S → (numsZ M L S S).take q = numsT M L S q
  | q, hq => by
    apply List.ext_getElem
    · simp [numsZ_len, numsT_len]; omega
    · intro i h1 h2
      rw [numsT_len] at h2
      rw [List.getElem_take]
      simp only [numsZ, numsT, List.getElem_map, List.getElem_range]
      rw [if_pos (by omega)]
end Go.Proofs.Ytliohokcjgcmhaa
