/- 'PermutationOfPortrait': the program and the model. -/
import Derived.Test.YtgeihpaealomkaaLvI
namespace Go.Proofs.Ytgeihpaealomkaa
open Go.RowKit

def imgUp (d n : Nat) (zs : List Int) (k : Nat) : List Int := (List.range k).map fun j => imgS d zs (wordS d n j)
theorem imgUp_succ (d n : Nat) (zs : List Int) (k : Nat) : imgUp d n zs (k + 1) = imgUp d n zs k ++ [imgS d zs (wordS d n k)] := by simp [imgUp, List.range_succ]
theorem imgUp_all (d n : Nat) (zs : List Int) : imgUp d n zs (d ^ n) = imgsP d n zs := by simp [imgUp, imgsP, imgsF, wordsL, List.map_map, Function.comp_def]
theorem imgUp_len (d n : Nat) (zs : List Int) (k : Nat) : (imgUp d n zs k).length = k := by simp [imgUp]

def pvR (d n : Int) (zs : List Int) : List Int := if codeP d n zs = 0 then imgsP d.toNat n.toNat zs else []
theorem pvR_len (d n : Int) (zs : List Int) : (pvR d n zs).length ≤ 100000 := by
  unfold pvR
  split
  · rename_i h
    obtain ⟨h1, h2, _⟩ := codeP_zero d n zs h
    rw [imgsP_len]
    exact Nat.le_trans (pow_le d.toNat n.toNat (by omega) (by omega)) (by omega)
  · simp
theorem ret_lw {v : Value} {i j : Int} (h : i = j) : Ending.returned (.tuple #[v, .int .i64 i]) = Ending.returned (.tuple #[v, .int .i64 j]) := by rw [h]

end Go.Proofs.Ytgeihpaealomkaa
