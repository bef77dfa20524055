/- Wreath recursions: plain data; lists of lists that a call fills or appends to. -/
import Derived.Test.YtkhpfjamkkicoaaLvB
import Derived.Test.YtkhpfjamkkicoaaLedT
import Derived.Test.YtkhpfjamkkicoaaMinW
import Derived.Test.YtkhpfjamkkicoaaGrpT
import Derived.Test.YtkhpfjamkkicoaaInv
import Derived.Test.YtkhpfjamkkicoaaStoreK
namespace Go.Proofs.Ytkhpfjamkkicoaa
open Go.RowKit

def imK (M : Mach) (zs : List Int) (k : Nat) : List Int := (List.range k).map fun x => ((ledG M zs x).1 : Int)
def secK (M : Mach) (zs : List Int) (k : Nat) : List (List Int) := (List.range k).map fun x => (ledG M zs x).2
theorem imK_len (M : Mach) (zs : List Int) (k : Nat) : (imK M zs k).length = k := by simp [imK]
theorem secK_len (M : Mach) (zs : List Int) (k : Nat) : (secK M zs k).length = k := by simp [secK]
theorem imK_succ (M : Mach) (zs : List Int) (k : Nat) : imK M zs (k + 1) = imK M zs k ++ [((ledG M zs k).1 : Int)] := by simp [imK, List.range_succ]
theorem secK_succ (M : Mach) (zs : List Int) (k : Nat) : secK M zs (k + 1) = secK M zs k ++ [(ledG M zs k).2] := by simp [secK, List.range_succ]
/-- The first k of n places are filled. -/
def imP (M : Mach) (zs : List Int) (n k : Nat) : List Int := (List.range n).map fun x => if x < k then ((ledG M zs x).1 : Int) else 0
def secP (M : Mach) (zs : List Int) (n k : Nat) : List (List Int) := (List.range n).map fun x => if x < k then (ledG M zs x).2 else []
theorem imP_len (M : Mach) (zs : List Int) (n k : Nat) : (imP M zs n k).length = n := by simp [imP]
theorem secP_len (M : Mach) (zs : List Int) (n k : Nat) : (secP M zs n k).length = n := by simp [secP]
theorem imP_zero (M : Mach) (zs : List Int) (n : Nat) : imP M zs n 0 = List.replicate n 0 := by simp [imP, List.map_const']
theorem secP_zero (M : Mach) (zs : List Int) (n : Nat) : secP M zs n 0 = List.replicate n [] := by simp [secP, List.map_const']
theorem imP_all (M : Mach) (zs : List Int) (n : Nat) : imP M zs n n = imK M zs n := by
  unfold imP imK
  exact List.map_congr_left fun x hx => by rw [if_pos (by simpa using hx)]
theorem secP_all (M : Mach) (zs : List Int) (n : Nat) : secP M zs n n = secK M zs n := by
  unfold secP secK
  exact List.map_congr_left fun x hx => by rw [if_pos (by simpa using hx)]
theorem imP_set (M : Mach) (zs : List Int) (n k : Nat) (v : Int) (hv : v = ((ledG M zs k).1 : Int)) : (imP M zs n k).set k v = imP M zs n (k + 1) := by
  subst hv
  apply List.ext_getElem
  · simp [imP]
  · intro i h1 h2
    simp only [imP, List.getElem_set, List.getElem_map, List.getElem_range]
    by_cases h : k = i
    · subst h; simp
    · rw [if_neg h]
      by_cases h3 : i < k
      · rw [if_pos h3, if_pos (by omega)]
      · rw [if_neg h3, if_neg (by omega)]
theorem secP_set (M : Mach) (zs : List Int) (n k : Nat) : (secP M zs n k).set k (ledG M zs k).2 = secP M zs n (k + 1) := by
  apply List.ext_getElem
  · simp [secP]
  · intro i h1 h2
    simp only [secP, List.getElem_set, List.getElem_map, List.getElem_range]
    by_cases h : k = i
    · subst h; simp
    · rw [if_neg h]
      by_cases h3 : i < k
      · rw [if_pos h3, if_pos (by omega)]
      · rw [if_neg h3, if_neg (by omega)]
theorem imP_at (M : Mach) (zs : List Int) (n k x : Nat) (hx : x < k) (hn : x < n) : (imP M zs n k).getD x 0 = ((ledG M zs x).1 : Int) := by
  unfold imP
  rw [List.getD, List.getElem?_map, List.getElem?_range hn]
  simp [hx]
def wrI (M : Mach) (zs : List Int) : List Int := if isGrp M zs then imK M zs M.L.toNat else []
def wrS (M : Mach) (zs : List Int) : List (List Int) := if isGrp M zs then secK M zs M.L.toNat else []
theorem wr_good {M : Mach} {L S : Nat} (hg : Good M L S) {zs : List Int} (h : isGrp M zs = true) : wrI M zs = imK M zs L ∧ wrS M zs = secK M zs L := by
  simp [wrI, wrS, h, hg.hL]
theorem nums_of {M : Mach} {L S : Nat} (hg : Good M L S) {zs : List Int} (h : isGrp M zs = true) : numsOk S zs = true := by
  have h2 := (isGrp_parts h).2
  rw [hg.hS] at h2
  simp [grpOk] at h2
  exact h2.2

end Go.Proofs.Ytkhpfjamkkicoaa

namespace Go.Proofs.Ytkhpfjamkkicoaa
open Go.RowKit

theorem apart_step {iv sv v1 v2 v5 : Value} {vs : List Value} {nr n6 n8 : Nat} (hap : ∀ q, iv.ownBlock = some q → ¬ inLV sv vs q) (hi : ∀ q, iv.ownBlock = some q → q < nr) (hs : ∀ q, inLV sv vs q → q < nr) (h5 : ∀ q, v5.ownBlock = some q → nr ≤ q ∧ q < n6)
    (h1 : v1.ownBlock = iv.ownBlock ∨ v1.ownBlock = some n6) (h2 : v2.ownBlock = sv.ownBlock ∨ v2.ownBlock = some n8) (hn : nr ≤ n6) (hn8 : n6 < n8) : ∀ q, v1.ownBlock = some q → ¬ inLV v2 (vs ++ [v5]) q := by
  intro q hq hin
  have hq1 : (iv.ownBlock = some q) ∨ q = n6 := by
    rcases h1 with e | e
    · exact .inl (e ▸ hq)
    · rw [e] at hq; cases hq; exact .inr rfl
  rcases inLV_push (v := sv) hin with h | h | h
  · rcases h2 with e | e
    · have h3 : sv.ownBlock = some q := e ▸ h
      rcases hq1 with h4 | h4
      · exact hap q h4 (.inl h3)
      · have := hs q (.inl h3); omega
    · rw [e] at h; cases h
      rcases hq1 with h4 | h4
      · have := hi _ h4; omega
      · omega
  · rcases hq1 with h4 | h4
    · exact hap q h4 h
    · have := hs q h; omega
  · have h6 := h5 q h
    rcases hq1 with h4 | h4
    · have := hi _ h4; omega
    · omega
theorem ret_vvi {v u : Value} {m m' : Int} (h' : m = m') : Ending.returned (.tuple #[v, u, .int .i64 m]) = Ending.returned (.tuple #[v, u, .int .i64 m']) := by rw [h']

end Go.Proofs.Ytkhpfjamkkicoaa
