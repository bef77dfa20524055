/- What the map of rows holds while the states are numbered. -/
import Derived.Test.YticnplcjjkilpaaMinK
namespace Go.Proofs.Yticnplcjjkilpaa
open Go.RowKit
open Go.Maps

theorem rep_iff (M : Mach) (L t q : Nat) : repB M L t q = true ↔ ∀ r, r < q → eqB M L t q r = false := by
  obtain ⟨h1, h2, h3⟩ := lst_at M L t q
  simp only [repB, decide_eq_true_eq]
  constructor
  · intro e r hr; exact h3 r (by omega)
  · intro h
    rcases Nat.lt_or_ge (lst M L t q) q with hlt | hge
    · rw [h _ hlt] at h2; cases h2
    · omega
/-- A row that stands ahead of k. -/
def seenR (V : Mach) (k q : Nat) : Bool := (List.range k).any fun p => decide (rowOf V p = rowOf V q)
theorem seenR_iff (V : Mach) (k q : Nat) : seenR V k q = true ↔ ∃ p, p < k ∧ rowOf V p = rowOf V q := by simp [seenR]
theorem seenR_succ (V : Mach) (k q : Nat) : seenR V (k + 1) q = (seenR V k q || decide (rowOf V k = rowOf V q)) := by simp [seenR, List.range_succ]
structure RowMap (M : Mach) (L S t : Nat) (V : Mach) (k : Nat) (D : DataW Unit) : Prop where
  size : Maps.size D = cntB (repB M L (t + 1)) k
  has : ∀ q, q < S → Maps.has D (klR V q) = seenR V k q
  at' : ∀ p, p < k → D.atKey (klR V p) (.lit (.int .u8 0)) = .lit (.int .u8 (num M L (t + 1) p))
theorem RowMap.start (M : Mach) (L S t : Nat) (V : Mach) : RowMap M L S t V 0 (.map []) := ⟨rfl, fun _ _ => rfl, fun _ h => absurd h (by omega)⟩
theorem isKey_klR (V : Mach) (q : Nat) : WideAt.IsKeyLit (klR V q) := trivial
theorem rep_seen {M : Mach} {L S t : Nat} {V : Mach} (hrow : ∀ q r, q < S → r < S → (rowOf V q = rowOf V r ↔ eqB M L (t + 1) q r = true)) {k : Nat} (hk : k < S) : repB M L (t + 1) k = !seenR V k k := by
  cases h : seenR V k k with
  | true =>
    obtain ⟨p, hp, e⟩ := (seenR_iff V k k).1 h
    have h1 := (hrow p k (by omega) hk).1 e
    cases hr : repB M L (t + 1) k with
    | false => rfl
    | true =>
      have := (rep_iff M L (t + 1) k).1 hr p hp
      rw [eqB_symm M L _ _ _ h1] at this
      cases this
  | false =>
    show _ = true
    rw [rep_iff]
    intro r hr
    cases he : eqB M L (t + 1) k r with
    | false => rfl
    | true =>
      have := (hrow r k (by omega) hk).2 (eqB_symm M L _ _ _ he)
      rw [(seenR_iff V k k).2 ⟨r, hr, this⟩] at h
      cases h
/-- The row has been met: its number is there. -/
theorem RowMap.found {M : Mach} {L S t : Nat} {V : Mach} (hV : V.Ok) (hrow : ∀ q r, q < S → r < S → (rowOf V q = rowOf V r ↔ eqB M L (t + 1) q r = true)) {k : Nat} {D : DataW Unit} (h : RowMap M L S t V k D) (hk : k < S) (hs : seenR V k k = true) :
    D.atKey (klR V k) (.lit (.int .u8 0)) = .lit (.int .u8 (num M L (t + 1) k)) ∧ RowMap M L S t V (k + 1) D := by
  obtain ⟨p, hp, e⟩ := (seenR_iff V k k).1 hs
  have hkl : klR V p = klR V k := (klR_iff hV p k).2 e
  have hn : num M L (t + 1) p = num M L (t + 1) k := (num_iff M L (t + 1) p k).2 ((hrow p k (by omega) hk).1 e)
  have h0 : D.atKey (klR V k) (.lit (.int .u8 0)) = .lit (.int .u8 (num M L (t + 1) k)) := by rw [← hkl, h.at' p hp, hn]
  refine ⟨h0, ?_, fun q hq => ?_, fun p' hp' => ?_⟩
  · have hr := rep_seen hrow hk
    rw [hs] at hr
    rw [h.size]
    show _ = cntB _ k + if repB M L (t + 1) k = true then 1 else 0
    rw [hr]; rfl
  · rw [h.has q hq, seenR_succ]
    by_cases he : rowOf V k = rowOf V q
    · have : seenR V k q = true := (seenR_iff V k q).2 ⟨p, hp, e.trans he⟩
      rw [this]; rfl
    · simp [he]
  · rcases Nat.lt_or_ge p' k with h1 | h1
    · exact h.at' p' h1
    · obtain rfl : p' = k := by omega
      exact h0
/-- It is new: it gets the next number. -/
theorem RowMap.fresh {M : Mach} {L S t : Nat} {V : Mach} (hV : V.Ok) (hrow : ∀ q r, q < S → r < S → (rowOf V q = rowOf V r ↔ eqB M L (t + 1) q r = true)) {k : Nat} {D : DataW Unit} (h : RowMap M L S t V k D) (hD : Tidy D) (hk : k < S) (hs : seenR V k k = false) :
    (Maps.size D : Nat) = num M L (t + 1) k ∧ RowMap M L S t V (k + 1) (D.put (klR V k) (.lit (.int .u8 (num M L (t + 1) k)))) := by
  have hr := rep_seen hrow hk
  rw [hs] at hr
  have hn : Maps.size D = num M L (t + 1) k := by rw [h.size, num_rep M L (t + 1) k hr]
  refine ⟨hn, ?_, fun q hq => ?_, fun p hp => ?_⟩
  · rw [size_put hD, h.has k hk, hs, if_neg (by simp), h.size]
    show _ = cntB _ k + if repB M L (t + 1) k = true then 1 else 0
    rw [hr]; rfl
  · rw [seenR_succ]
    by_cases he : rowOf V k = rowOf V q
    · rw [← (klR_iff hV k q).2 he, has_put_same hD.isMap (isKey_klR V k)]
      simp [he]
    · rw [has_put_other (fun e => he ((klR_iff hV k q).1 e.symm)), h.has q hq]
      simp [he]
  · rcases Nat.lt_or_ge p k with h1 | h1
    · have hne : klR V p ≠ klR V k := fun e => by
        have := (seenR_iff V k k).2 ⟨p, h1, (klR_iff hV p k).1 e⟩
        rw [hs] at this; cases this
      rw [atKey_put_other hne, h.at' p h1]
    · obtain rfl : p = k := by omega
      rw [atKey_put_same hD.isMap (isKey_klR V p)]
/-- The numbers of the first k states. -/
def numsTo (M : Mach) (L t k : Nat) : List Int := (List.range 16).map fun q => if q < k then (num M L (t + 1) q : Int) else 0
theorem numsTo_len (M : Mach) (L t k : Nat) : (numsTo M L t k).length = 16 := by simp [numsTo]
theorem numsTo_zero (M : Mach) (L t : Nat) : numsTo M L t 0 = List.replicate 16 0 := rfl
theorem numsTo_all (M : Mach) (L S t : Nat) : numsTo M L t S = clsU M L S (t + 1) := rfl
theorem numsTo_set (M : Mach) (L t k : Nat) (_hk : k < 16) : (numsTo M L t k).set k (num M L (t + 1) k : Int) = numsTo M L t (k + 1) := by
  apply List.ext_getElem
  · simp [numsTo]
  · intro i h1 h2
    simp only [numsTo, List.getElem_set, List.getElem_map, List.getElem_range]
    by_cases h : k = i
    · subst h; simp
    · rw [if_neg h]
      by_cases h3 : i < k
      · rw [if_pos h3, if_pos (by omega)]
      · rw [if_neg h3, if_neg (by omega)]

/-! ### Views that have been met -/
def seenV (M : Mach) (L S t u : Nat) : Bool := (List.range t).any fun s => decide (vw M L S s = vw M L S u)
theorem seenV_iff (M : Mach) (L S t u : Nat) : seenV M L S t u = true ↔ ∃ s, s < t ∧ vw M L S s = vw M L S u := by simp [seenV]
theorem seenV_succ (M : Mach) (L S t u : Nat) : seenV M L S (t + 1) u = (seenV M L S t u || decide (vw M L S t = vw M L S u)) := by simp [seenV, List.range_succ]
structure ViewMap (M : Mach) (L S t : Nat) (D : DataW Unit) : Prop where
  at' : ∀ u, D.atKey (klM (vw M L S u)) (.lit (.bool false)) = .lit (.bool (seenV M L S t u))
theorem ViewMap.start (M : Mach) (L S : Nat) : ViewMap M L S 0 (.map []) := ⟨fun _ => rfl⟩
theorem ViewMap.next {M : Mach} {L S t : Nat} (hg : Good M L S) {D : DataW Unit} (h : ViewMap M L S t D) (hD : IsMap D) : ViewMap M L S (t + 1) (D.put (klM (vw M L S t)) (.lit (.bool true))) := ⟨fun u => by
  rw [seenV_succ]
  by_cases e : vw M L S t = vw M L S u
  · rw [← e, atKey_put_same hD (show WideAt.IsKeyLit (klM (vw M L S t)) from trivial)]
    simp
  · rw [atKey_put_other (fun e' => e (klM_inj (vw_ok hg t) (vw_ok hg u) e'.symm)), h.at' u]
    simp [e]⟩
theorem seen_still {M : Mach} {L S t : Nat} (hg : Good M L S) (h : seenV M L S t t = true) : Still M L S t := by
  obtain ⟨s, hs, e⟩ := (seenV_iff M L S t t).1 h
  exact vw_still hg hs e
theorem seen_soon {M : Mach} {L S t : Nat} (hg : Good M L S) (ht : t ≤ S + 2) (h : seenV M L S t t = false) : t ≤ S + 1 := by
  rcases Nat.lt_or_ge t (S + 2) with h1 | h1
  · omega
  · obtain rfl : t = S + 2 := by omega
    rw [(seenV_iff M L S (S + 2) (S + 2)).2 ⟨S + 1, by omega, vw_last hg⟩] at h
    cases h
end Go.Proofs.Yticnplcjjkilpaa
