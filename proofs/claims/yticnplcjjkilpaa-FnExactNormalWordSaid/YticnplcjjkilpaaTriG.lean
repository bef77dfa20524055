/- 'TrivialStates', as plain data. -/
import Derived.Test.YticnplcjjkilpaaTriI
namespace Go.Proofs.Yticnplcjjkilpaa
open Go.RowKit

/-- The trivial states among the first k. -/
def triN (M : Mach) (L S k : Nat) : List Nat := (List.range k).filter fun q => trivB M L S q
def triK (M : Mach) (L S k : Nat) : List Int := (triN M L S k).map Int.ofNat
theorem triK_len (M : Mach) (L S k : Nat) : (triK M L S k).length ≤ k := by
  unfold triK triN
  rw [List.length_map]
  exact Nat.le_trans (List.length_filter_le _ _) (by simp)
theorem triK_yes {M : Mach} {L S k : Nat} (h : trivB M L S k = true) : triK M L S (k + 1) = triK M L S k ++ [(k : Int)] := by
  simp [triK, triN, List.range_succ, List.filter_append, h]
theorem triK_no {M : Mach} {L S k : Nat} (h : trivB M L S k = false) : triK M L S (k + 1) = triK M L S k := by
  simp [triK, triN, List.range_succ, List.filter_append, h]
def triR (M : Mach) : List Int := if isMach M then triK M M.L.toNat M.S.toNat M.S.toNat else []
theorem triR_len {M : Mach} (h : M.Ok) : (triR M).length ≤ 1048576 := by
  unfold triR
  split
  · rename_i hm
    obtain ⟨L, S, hg⟩ := Good.of h hm
    have h1 := triK_len M M.L.toNat M.S.toNat M.S.toNat
    have h2 := hg.S16
    rw [hg.hS] at h1
    rw [hg.hS]
    simp only [Int.toNat_natCast] at h1 ⊢
    omega
  · simp
/-- A state is trivial as its number in the minimal machine stays. -/
theorem stay_triv {M : Mach} {L S : Nat} (hg : Good M L S) (q : Nat) (hq : q < S) : stayUp (mnAll M L S S) (numT M L S q) L = trivB M L S q := by
  have hL3 := hg.L3
  obtain ⟨hup, _⟩ := mnAll_up hg S (Nat.le_refl S)
  rw [Bool.eq_iff_iff, stayUp_iff, trivB_iff hg (still_from hg (S + 1) (by omega)) hq]
  constructor
  · intro h x hx
    have h1 := h x hx
    have h2 := hup.rows q hq x (by omega)
    rw [h2.1, h2.2] at h1
    refine ⟨h1.1, ?_⟩
    have h3 := h1.2
    unfold nextT at h3
    rw [if_pos hx] at h3
    exact numT_eqB.1 (by omega)
  · intro h x hx
    have h2 := hup.rows q hq x (by omega)
    rw [h2.1, h2.2]
    refine ⟨(h x hx).1, ?_⟩
    unfold nextT
    rw [if_pos hx, numT_eqB.2 (h x hx).2]
end Go.Proofs.Yticnplcjjkilpaa
