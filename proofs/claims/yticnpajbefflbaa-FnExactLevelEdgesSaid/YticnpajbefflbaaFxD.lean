/- 'FixedWords': plain data; the program. -/
import Derived.Test.YticnpajbefflbaaGrJ
namespace Go.Proofs.Yticnpajbefflbaa
open Go.RowKit

/-- How many of the first i numbers stand at their own place. -/
def fixUp (zs : List Int) (i : Nat) : Nat := ((List.range i).filter fun k => decide (zs.getD k 0 = (k : Int))).length
theorem fixUp_succ (zs : List Int) (i : Nat) : fixUp zs (i + 1) = fixUp zs i + if zs.getD i 0 = (i : Int) then 1 else 0 := by
  unfold fixUp
  rw [List.range_succ, List.filter_append, List.length_append]
  by_cases h : zs.getD i 0 = (i : Int)
  · rw [if_pos h, List.filter_cons, if_pos (decide_eq_true h)]; rfl
  · rw [if_neg h, List.filter_cons, if_neg (by rw [decide_eq_false h]; simp)]; rfl
theorem fixUp_le (zs : List Int) (i : Nat) : fixUp zs i ≤ i := by
  unfold fixUp
  have := List.length_filter_le (fun (k : Nat) => decide (zs.getD k 0 = (k : Int))) (List.range i)
  simpa using this
def fixQ (M : Mach) (L n q : Nat) : Int := ((fixUp (permL M L q n) (permL M L q n).length : Nat) : Int)
def fxL (M : Mach) (L n k : Nat) : List Int := (List.range k).map fun q => fixQ M L n q
theorem fxL_succ (M : Mach) (L n k : Nat) : fxL M L n (k + 1) = fxL M L n k ++ [fixQ M L n k] := by simp [fxL, List.range_succ]
theorem fxL_len (M : Mach) (L n k : Nat) : (fxL M L n k).length = k := by simp [fxL]
/-- The first k numbers, zeros behind. -/
def fxP (M : Mach) (L n S k : Nat) : List Int := (List.range S).map fun q => if q < k then fixQ M L n q else 0
theorem fxP_len (M : Mach) (L n S k : Nat) : (fxP M L n S k).length = S := by simp [fxP]
theorem fxP_zero (M : Mach) (L n S : Nat) : fxP M L n S 0 = List.replicate S 0 := by simp [fxP, List.map_const']
theorem fxP_all (M : Mach) (L n S : Nat) : fxP M L n S S = fxL M L n S := by
  unfold fxP fxL
  exact List.map_congr_left fun q hq => by rw [if_pos (List.mem_range.1 hq)]
theorem fxP_set0 (M : Mach) (L n S k : Nat) (_hk : k < S) : (fxP M L n S k).set k 0 = fxP M L n S k := by
  apply List.ext_getElem
  · simp
  · intro i h1 h2
    simp only [fxP, List.getElem_set, List.getElem_map, List.getElem_range]
    by_cases h : k = i
    · subst h; simp
    · rw [if_neg h]
theorem fxP_set (M : Mach) (L n S k : Nat) (_hk : k < S) : (fxP M L n S k).set k (fixQ M L n k) = fxP M L n S (k + 1) := by
  apply List.ext_getElem
  · simp [fxP]
  · intro i h1 h2
    simp only [fxP, List.getElem_set, List.getElem_map, List.getElem_range]
    by_cases h : k = i
    · subst h; simp
    · rw [if_neg h]
      by_cases h3 : i < k
      · rw [if_pos h3, if_pos (by omega)]
      · rw [if_neg h3, if_neg (by omega)]
/-- The answer of 'FixedWords'. -/
def fxR (M : Mach) (n : Int) : List Int := if gC M n [] = 0 then fxL M M.L.toNat n.toNat M.S.toNat else []
theorem gC_good {M : Mach} {n : Int} {ks : List Int} (hok : M.Ok) (h : gC M n ks = 0) : ∃ (L S nn : Nat), Good M L S ∧ n = (nn : Int) ∧ nn + L ≤ 7 := by
  unfold gC at h
  cases hm : isMach M
  · rw [hm] at h; simp at h
  · rw [if_pos hm] at h
    obtain ⟨L, S, hg⟩ := Good.of hok hm
    cases hl : gLev M n
    · rw [hl] at h; simp at h
    · unfold gLev at hl
      rw [hg.hL] at hl
      simp at hl
      obtain ⟨nn, rfl⟩ := Int.eq_ofNat_of_zero_le hl.1
      exact ⟨L, S, nn, hg, rfl, by omega⟩
theorem fxR_good {M : Mach} {L S nn : Nat} (hg : Good M L S) (h : gC M nn [] = 0) : fxR M nn = fxL M L nn S := by
  unfold fxR
  rw [if_pos h, hg.hL, hg.hS]
  rfl
theorem below_setB' {B : Nat} {w X : World} {b o : Nat} (h : Below B w X) (hp : B ≤ b) (u : Value) : Below B w (X.setCell ⟨b, o, none⟩ u) := h.setCell hp u
theorem below_allocB' {B : Nat} {w X : World} (h : Below B w X) (hB : B ≤ X.heap.size) (o : Obj) : Below B w (X.alloc o) := h.alloc hB o
theorem ints_getD (c : List Int) (i : Nat) (hi : i < c.length) : (ints c)[i]? = some (.int .i64 (c.getD i 0)) := by
  simp [ints, List.getD, List.getElem?_eq_getElem hi]
theorem size_gra (N : Int) (f b : Value) : (Try.prog.info? 82).map (·.size) = some (gra N f b).size := size_gr
theorem SeesI.nil (w : World) : SeesI w (.slice none 0 0) [] := ⟨by simp, .inl ⟨rfl, rfl⟩⟩

end Go.Proofs.Yticnpajbefflbaa
