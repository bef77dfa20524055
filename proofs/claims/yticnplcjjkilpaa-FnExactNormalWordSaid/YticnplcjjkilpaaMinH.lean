/- The model's minimal machine, as plain data. -/
import Derived.Test.YticnplcjjkilpaaMinG
namespace Go.Proofs.Yticnplcjjkilpaa
open Go.RowKit

/-- The numbers of the first q states, as the model has them. -/
def numsZ (M : Mach) (L S q : Nat) : List Int := (List.range 16).map fun p => if p < q then (numT M L S p : Int) else 0
theorem numsZ_len (M : Mach) (L S q : Nat) : (numsZ M L S q).length = 16 := by simp [numsZ]
theorem numsZ_zero (M : Mach) (L S : Nat) : numsZ M L S 0 = List.replicate 16 0 := rfl
theorem numsZ_at (M : Mach) (L S q p : Nat) (hp : p < q) (hq : q ≤ 16) : (numsZ M L S q).getD p 0 = (numT M L S p : Int) := by
  unfold numsZ
  rw [List.getD, List.getElem?_map, List.getElem?_range (by omega)]
  simp [hp]
theorem numsZ_set (M : Mach) (L S k : Nat) (v : Int) (hv : v = (numT M L S k : Int)) : (numsZ M L S k).set k v = numsZ M L S (k + 1) := by
  subst hv
  apply List.ext_getElem
  · simp [numsZ]
  · intro i h1 h2
    simp only [numsZ, List.getElem_set, List.getElem_map, List.getElem_range]
    by_cases h : k = i
    · subst h; simp
    · rw [if_neg h]
      by_cases h3 : i < k
      · rw [if_pos h3, if_pos (by omega)]
      · rw [if_neg h3, if_neg (by omega)]
theorem numT_lst (M : Mach) (L S q : Nat) : numT M L S (lst M L (S + 1) q) = numT M L S q := by
  unfold numT num
  rw [lst_idem]
/-- One entry. -/
def spStep (M : Mach) (L S q x : Nat) (c : Mach) : Mach := { c with ot := c.ot.set (numT M L S q * 3 + x) (M.o q x), nx := c.nx.set (numT M L S q * 3 + x) (nextT M L S q x) }
def spRow (M : Mach) (L S q : Nat) (c : Mach) : Nat → Mach
  | 0 => c
  | k + 1 => spStep M L S q k (spRow M L S q c k)
def spAll (M : Mach) (L S : Nat) : Nat → Mach
  | 0 => blankM L (cntT M L S S)
  | q + 1 => spRow M L S q (spAll M L S q) L
theorem nextT_bd {M : Mach} {L S : Nat} (hg : Good M L S) (q x : Nat) (hq : q < S) : 0 ≤ nextT M L S q x ∧ nextT M L S q x ≤ 255 := by
  have hS := hg.S16
  unfold nextT
  split
  · rename_i hx
    have a1 := num_le M L (S + 1) (nn M q x)
    have a2 := hg.nn_lt q x hq hx
    unfold numT; omega
  · omega
theorem spStep_ok {M : Mach} {L S : Nat} (hg : Good M L S) {c : Mach} (hc : c.Ok) (q x : Nat) (hq : q < S) : (spStep M L S q x c).Ok :=
  ⟨by simp [spStep, hc.nx48], by simp [spStep, hc.ot48], isBytes_set hc.nxB _ _ (nextT_bd hg q x hq), isBytes_set hc.otB _ _ (Mach.o_bd hg.ok q x), hc.Lwf, hc.Swf⟩
theorem spRow_ok {M : Mach} {L S : Nat} (hg : Good M L S) {c : Mach} (hc : c.Ok) (q : Nat) (hq : q < S) : ∀ k, (spRow M L S q c k).Ok
  | 0 => hc
  | k + 1 => spStep_ok hg (spRow_ok hg hc q hq k) q k hq
theorem spRow_LS (M : Mach) (L S q : Nat) (c : Mach) : ∀ k, (spRow M L S q c k).L = c.L ∧ (spRow M L S q c k).S = c.S
  | 0 => ⟨rfl, rfl⟩
  | k + 1 => spRow_LS M L S q c k
theorem set_at48 (l : List Int) (hl : l.length = 48) (n x k y : Nat) (hn : n < 16) (hx : x < 3) (hk : k < 16) (hy : y < 3) (v : Int) : (l.set (n * 3 + x) v).getD (k * 3 + y) 0 = if k = n ∧ y = x then v else l.getD (k * 3 + y) 0 := by
  rw [List.getD, List.getElem?_set]
  by_cases h : k = n ∧ y = x
  · obtain ⟨rfl, rfl⟩ := h
    rw [if_pos rfl, if_pos (by omega), if_pos ⟨rfl, rfl⟩]; rfl
  · rw [if_neg (by omega), if_neg h]; rfl
theorem spRow_at {M : Mach} {L S : Nat} (hg : Good M L S) {c : Mach} (hc : c.Ok) (q : Nat) (hq : q < S) (k y : Nat) (hk : k < 16) (hy : y < 3) : ∀ j, j ≤ 3 →
    (spRow M L S q c j).o k y = (if k = numT M L S q ∧ y < j then M.o q y else c.o k y) ∧ (spRow M L S q c j).n k y = (if k = numT M L S q ∧ y < j then nextT M L S q y else c.n k y)
  | 0, _ => by simp [spRow]
  | j + 1, hj => by
    have hS := hg.S16
    have hn : numT M L S q < 16 := by have := num_le M L (S + 1) q; unfold numT; omega
    obtain ⟨e1, e2⟩ := spRow_at hg hc q hq k y hk hy j (by omega)
    have hr := spRow_ok hg hc q hq j
    have f1 := set_at48 _ hr.ot48 (numT M L S q) j k y hn (by omega) hk hy (M.o q j)
    have f2 := set_at48 _ hr.nx48 (numT M L S q) j k y hn (by omega) hk hy (nextT M L S q j)
    refine ⟨f1.trans ?_, f2.trans ?_⟩
    · rw [show (spRow M L S q c j).ot.getD (k * 3 + y) 0 = _ from e1]
      by_cases h : k = numT M L S q ∧ y = j
      · rw [if_pos h, if_pos ⟨h.1, by omega⟩, h.2]
      · rw [if_neg h]
        by_cases h2 : k = numT M L S q ∧ y < j
        · rw [if_pos h2, if_pos ⟨h2.1, by omega⟩]
        · rw [if_neg h2, if_neg (by omega)]
    · rw [show (spRow M L S q c j).nx.getD (k * 3 + y) 0 = _ from e2]
      by_cases h : k = numT M L S q ∧ y = j
      · rw [if_pos h, if_pos ⟨h.1, by omega⟩, h.2]
      · rw [if_neg h]
        by_cases h2 : k = numT M L S q ∧ y < j
        · rw [if_pos h2, if_pos ⟨h2.1, by omega⟩]
        · rw [if_neg h2, if_neg (by omega)]
theorem spRow_up {M : Mach} {L S q : Nat} (hg : Good M L S) {m : Mach} (h : MinUp M L S q m) (hq : q < S) : MinUp M L S (q + 1) (spRow M L S q m L) := by
  have hS := hg.S16
  have hL3 := hg.L3
  have hnum : ∀ p, numT M L S p ≤ p := fun p => num_le M L (S + 1) p
  have hcount : cntT M L S q ≤ cntT M L S (q + 1) := by
    cases hr : repB M L (S + 1) q with
    | true => rw [(rep_num hr).2]; omega
    | false => rw [(notrep_num hr).2]; omega
  refine ⟨spRow_ok hg h.ok q hq L, (spRow_LS M L S q m L).1.trans h.hL, fun p hp x hx => ?_, fun k hk hc x hx => ?_⟩
  · have hb : p < S := by omega
    obtain ⟨e1, e2⟩ := spRow_at hg h.ok q hq (numT M L S p) x (by have := hnum p; omega) hx L (by omega)
    rw [e1, e2]
    by_cases e : numT M L S p = numT M L S q
    · have hs := row_same hg hb hq e x hx
      by_cases hl : x < L
      · rw [if_pos ⟨e, hl⟩, if_pos ⟨e, hl⟩]
        exact ⟨hs.1.symm, hs.2.symm⟩
      · rw [if_neg (fun a => hl a.2), if_neg (fun a => hl a.2)]
        rcases Nat.lt_or_ge p q with h3 | h3
        · exact h.rows p h3 x hx
        · obtain rfl : p = q := by omega
          cases hr : repB M L (S + 1) p with
          | true =>
            have h1 := (rep_num hr).1
            have h0 := h.rest (numT M L S p) (by have := hnum p; omega) (by omega) x hx
            rw [h0.1, h0.2]
            exact ⟨((hg.zero p x (by omega) hx (fun a => hl a.2)).2).symm, by unfold nextT; rw [if_neg hl]⟩
          | false =>
            obtain ⟨p', hp', e'⟩ := numT_onto M L S p _ (notrep_num hr).1
            have hs' := row_same hg (show p' < S by omega) hq e' x hx
            rw [← e', ← hs'.1, ← hs'.2]
            exact h.rows p' hp' x hx
    · rw [if_neg (fun a => e a.1), if_neg (fun a => e a.1)]
      rcases Nat.lt_or_ge p q with h3 | h3
      · exact h.rows p h3 x hx
      · exact absurd (show numT M L S p = numT M L S q by rw [show p = q by omega]) e
  · obtain ⟨e1, e2⟩ := spRow_at hg h.ok q hq k x hk hx L (by omega)
    have hlt := numT_lt M L S q (q + 1) (by omega)
    rw [e1, e2, if_neg (by omega), if_neg (by omega)]
    exact h.rest k hk (by omega) x hx
theorem spAll_up {M : Mach} {L S : Nat} (hg : Good M L S) : ∀ q, q ≤ S → MinUp M L S q (spAll M L S q) ∧ (spAll M L S q).S = (cntT M L S S : Int)
  | 0, _ => by
    have hS := hg.S16
    have hc := cntT_le M L S S
    exact ⟨MinUp.start hg.ok L S hg.hL _ (by omega), rfl⟩
  | q + 1, hq => by
    obtain ⟨h1, h2⟩ := spAll_up hg q (by omega)
    exact ⟨spRow_up hg h1 (by omega), (spRow_LS M L S q _ L).2.trans h2⟩
theorem spAll_mn {M : Mach} {L S : Nat} (hg : Good M L S) : spAll M L S S = mnAll M L S S := by
  obtain ⟨h1, h2⟩ := spAll_up hg S (Nat.le_refl _)
  obtain ⟨h3, h4⟩ := mnAll_up hg S (Nat.le_refl _)
  exact h1.unique h3 (h2.trans h4.symm)
theorem spStep_mc {M : Mach} (L S : Nat) {c : Mach} (hc : c.Ok) (q x : Nat) (hy : numT M L S q * 3 + x < 48) :
    mc (spStep M L S q x c) = ((mc c).setIfInBounds (50 + numT M L S q * 3 + x) (.int .u8 (M.o q x))).setIfInBounds (2 + numT M L S q * 3 + x) (.int .u8 (nextT M L S q x)) := by
  rw [Nat.add_assoc, Nat.add_assoc, ← mc_set_ot hc.nx48 _ hy]
  rw [← mc_set_nx (M := { c with ot := c.ot.set (numT M L S q * 3 + x) (M.o q x) }) hc.nx48 _ hy]
  rfl
theorem blank_S {L : Int} (v v' : Int) : (mc (blankM L v)).setIfInBounds 1 (.int .i64 v') = mc (blankM L v') := by
  rw [← mc_set_S]; rfl
theorem numsZ_map (M : Mach) (L S : Nat) (hS : S ≤ 16) : ∀ q, q ≤ S → (numsZ M L S S).take q = numsT M L S q
  | q, hq => by
    apply List.ext_getElem
    · simp [numsZ_len, numsT_len]; omega
    · intro i h1 h2
      rw [numsT_len] at h2
      rw [List.getElem_take]
      simp only [numsZ, numsT, List.getElem_map, List.getElem_range]
      rw [if_pos (by omega)]
end Go.Proofs.Yticnplcjjkilpaa
