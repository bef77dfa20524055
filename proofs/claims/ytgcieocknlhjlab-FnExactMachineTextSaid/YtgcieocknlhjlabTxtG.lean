/- The text of a machine, as plain data. -/
import Derived.Test.YtgcieocknlhjlabMachD
namespace Go.Proofs.Ytgcieocknlhjlab
open Go.RowKit

/-- A small letter. -/
def alp (x : Int) : UInt8 := UInt8.ofNat (97 + x.toNat)
theorem alp_toNat (x : Int) (h0 : 0 ≤ x) (h1 : x < 100) : ((alp x).toNat : Int) = 97 + x := by
  unfold alp
  rw [UInt8.toNat_ofNat_of_lt' (by show _ < 256; omega)]
  omega
/-- The first k pairs of a row. -/
def rowT (M : Mach) (q : Nat) : Nat → List UInt8
  | 0 => []
  | k + 1 => rowT M q k ++ [dig (M.o q k), alp (M.n q k)]
/-- The first q rows, with commas between them. -/
def allT (M : Mach) (L : Nat) : Nat → List UInt8
  | 0 => []
  | q + 1 => allT M L q ++ ((if q = 0 then [] else [44]) ++ rowT M q L)
def txtT (M : Mach) (L S : Nat) : List UInt8 := [dig L, 58] ++ allT M L S
theorem rowT_len (M : Mach) (q : Nat) : ∀ k, (rowT M q k).length = 2 * k
  | 0 => rfl
  | k + 1 => by rw [rowT, List.length_append, rowT_len M q k]; simp; omega
theorem allT_len (M : Mach) (L : Nat) (hL : L ≤ 3) : ∀ q, (allT M L q).length ≤ 7 * q
  | 0 => Nat.le_refl _
  | q + 1 => by
    have h1 := allT_len M L hL q
    have h2 := rowT_len M q L
    rw [allT, List.length_append, List.length_append]
    split <;> simp <;> omega
def textR (M : Mach) : ByteArray := if isMach M then ⟨(txtT M M.L.toNat M.S.toNat).toArray⟩ else ByteArray.empty
def textC (M : Mach) : Int := if isMach M then 0 else 1
end Go.Proofs.Ytgcieocknlhjlab
