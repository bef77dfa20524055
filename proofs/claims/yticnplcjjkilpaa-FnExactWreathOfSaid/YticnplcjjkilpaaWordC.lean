/- 'levelWord': the word of a number, written from its end. -/
import Derived.Test.YticnplcjjkilpaaWordB
namespace Go.Proofs.Yticnplcjjkilpaa
open Go.RowKit

/-- What the bytes are behind j rounds: zeros ahead, the last j letters behind. -/
def lw (d n j k : Nat) : List Value := List.replicate (n - j) (Value.int .u8 0) ++ (wordOf d j k).map fun b => Value.int .u8 (b.toNat : Int)
theorem lw_length (d n j k : Nat) (h : j ≤ n) : (lw d n j k).length = n := by simp [lw, length_wordOf]; omega

theorem lw_done (d n k : Nat) : lw d n n k = (wordOf d n k).map fun b => Value.int .u8 (b.toNat : Int) := by simp [lw]
theorem lw_start (d n k : Nat) : lw d n 0 k = List.replicate n (Value.int .u8 0) := by simp [lw, wordOf]
theorem made_zero (n : Nat) : madeCells (Value.int .u8 0).cells n = (List.replicate n (Value.int .u8 0)).toArray := by
  apply Array.ext
  · simp [madeCells]
  · intro i h1 h2
    simp [madeCells, Value.cells, Nat.mod_one]

theorem divpow_step (k d j : Nat) : ((k / d ^ j : Nat) : Int) / (d : Int) = ((k / d ^ (j + 1) : Nat) : Int) := by
  rw [← Int.natCast_ediv, Nat.div_div_eq_div_mul, Nat.pow_succ]
def dv (k d j : Nat) : Int := ((k / d ^ j : Nat) : Int)
theorem dv_zero (k d : Nat) : dv k d 0 = k := by simp [dv]
theorem dv_step (k d j : Nat) : dv k d j / (d : Int) = dv k d (j + 1) := divpow_step k d j
theorem dv_bd (k d j : Nat) : 0 ≤ dv k d j ∧ dv k d j ≤ k := ⟨Int.natCast_nonneg _, by have := Nat.div_le_self k (d ^ j); unfold dv; omega⟩

theorem lw_set (d n j k i : Nat) (hi : i + 1 + j = n) (hd : d = 2 ∨ d = 3) : (lw d n j k).set i (Value.int .u8 (48 + dv k d j % (d : Int))) = lw d n (j + 1) k := by
  have hz : ((UInt8.ofNat (48 + k / d ^ j % d)).toNat : Int) = 48 + dv k d j % (d : Int) := by
    have h3 : k / d ^ j % d < 3 := by rcases hd with rfl | rfl <;> omega
    rw [UInt8.toNat_ofNat_of_lt' (by show _ < 256; omega)]
    unfold dv; rw [← Int.natCast_emod]; omega
  unfold lw
  rw [wordOf_succ, List.map_cons, hz]
  have e1 : n - j = (n - (j + 1)) + 1 := by omega
  rw [e1, List.replicate_succ', List.append_assoc, List.set_append_right _ _ (by simp; omega)]
  congr 1
  rw [List.length_replicate, show i - (n - (j + 1)) = 0 from by omega]
  rfl

end Go.Proofs.Yticnplcjjkilpaa
