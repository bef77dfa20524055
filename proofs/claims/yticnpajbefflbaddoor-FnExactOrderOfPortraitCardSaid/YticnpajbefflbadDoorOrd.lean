/- Orders and cycles of portraits: the program and the model. -/
import Derived.Test.YticnpajbefflbadDoorCyc
import Derived.Test.YticnpajbefflbadDoorLvS
namespace Go.Proofs.YticnpajbefflbadDoor
open Go.RowKit

theorem imgs_in (d n : Nat) (hd : d = 2 ∨ d = 3) (hn : n ≤ 4) (zs : List Int) (hP : isP d n zs = true) : inB (imgsP d n zs) := by
  intro p hp
  rw [imgsP_len] at hp ⊢
  have e : (imgsP d n zs).getD p 0 = imgS d zs (wordS d n p) := by
    simp [imgsP, imgsF, wordsL, List.getD, List.getElem?_map, List.getElem?_range hp]
  rw [e]
  obtain ⟨h1, h2⟩ := wordS_ok' d n p hd
  obtain ⟨a1, a2⟩ := actS_ok d n hd hn zs hP (wordS d n p) (by omega) h2
  have := numI_lt d _ a2
  rw [a1, h1] at this
  unfold imgS
  unfold pw at this
  omega
def oneB (d n : Int) (zs : List Int) : Bool := if codeP d n zs = 0 then decide ((cycL (imgsP d.toNat n.toNat zs)).length = 1) else false
theorem ret_bi {a b : Bool} {i j : Int} (h : a = b) (h' : i = j) : Ending.returned (.tuple #[.bool a, .int .i64 i]) = Ending.returned (.tuple #[.bool b, .int .i64 j]) := by rw [h, h']
theorem ret_jj {a b i j : Int} (h : a = b) (h' : i = j) : Ending.returned (.tuple #[.int .i64 a, .int .i64 i]) = Ending.returned (.tuple #[.int .i64 b, .int .i64 j]) := by rw [h, h']

end Go.Proofs.YticnpajbefflbadDoor
