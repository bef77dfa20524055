/- Plain facts on words, their numbers and the sizes of levels: nothing of the program stands here. Contracts of the small functions on alphabets and ranges. -/
import Derived.WalkKit
import Derived.Test.YtliohokcjgcmhaaProg
import Derived.Test.YtliohokcjgcmhaaBase
namespace Go.Proofs.Ytliohokcjgcmhaa

/-- The word of n letters with the number k, as bytes. -/
def wordOf (d : Nat) : Nat → Nat → List UInt8
  | 0, _ => []
  | n + 1, k => wordOf d n (k / d) ++ [UInt8.ofNat (48 + k % d)]

theorem length_wordOf (d : Nat) : ∀ n k, (wordOf d n k).length = n
  | 0, _ => rfl
  | n + 1, k => by simp [wordOf, length_wordOf d n]

/-- From the other end: the first letter, and the rest. -/
theorem wordOf_succ (d : Nat) : ∀ n k, wordOf d (n + 1) k = UInt8.ofNat (48 + k / d ^ n % d) :: wordOf d n k
  | 0, k => by simp [wordOf]
  | n + 1, k => by
    rw [wordOf, wordOf_succ d n (k / d)]
    conv => rhs; rw [wordOf]
    simp only [List.cons_append, Nat.div_div_eq_div_mul, Nat.pow_succ, Nat.mul_comm]

/-- May machines have d letters? -/
def isAlpha (d : Int) : Bool := decide (d = 2) || decide (d = 3)
theorem isAlpha_iff (d : Int) : isAlpha d = true ↔ d = 2 ∨ d = 3 := by simp [isAlpha]
theorem isAlpha_no (d : Int) : isAlpha d = false ↔ ¬ (d = 2 ∨ d = 3) := by simp [isAlpha]
def isLev (n : Int) : Bool := decide (0 ≤ n) && decide (n ≤ 5)
theorem isLev_iff (n : Int) : isLev n = true ↔ 0 ≤ n ∧ n ≤ 5 := by simp [isLev]
theorem isLev_no (n : Int) : isLev n = false ↔ ¬ (0 ≤ n ∧ n ≤ 5) := by rw [Bool.eq_false_iff]; simp [isLev]

theorem pow_le (d n : Nat) (hd : d ≤ 3) (hn : n ≤ 5) : d ^ n ≤ 243 :=
  Nat.le_trans (Nat.pow_le_pow_left hd n) (Nat.le_trans (Nat.pow_le_pow_right (by omega) hn) (by decide))
/-- The number of words of n letters. -/
def pw (d n : Nat) : Int := ((d ^ n : Nat) : Int)
theorem pw_zero (d : Nat) : pw d 0 = 1 := by simp [pw]
theorem pw_succ (d n : Nat) : pw d (n + 1) = pw d n * d := by simp [pw, Nat.pow_succ]
theorem pw_bd (d n : Nat) (hd : d ≤ 3) (hn : n ≤ 5) : 0 ≤ pw d n ∧ pw d n ≤ 243 := by have := pow_le d n hd hn; unfold pw; omega
theorem pw_mul_bd (d n : Nat) (hd : d ≤ 3) (hn : n ≤ 5) : 0 ≤ pw d n * d ∧ pw d n * d ≤ 729 := by
  have h := pw_bd d n hd hn
  generalize pw d n = p at *
  obtain ⟨q, rfl⟩ := Int.eq_ofNat_of_zero_le h.1
  have h1 : q * d ≤ 243 * 3 := Nat.mul_le_mul (by omega) hd
  have h2 : ((q * d : Nat) : Int) = (q : Int) * d := Int.natCast_mul q d
  omega
end Go.Proofs.Ytliohokcjgcmhaa

namespace Go.Proofs.Ytliohokcjgcmhaa
open Go.RowKit

theorem isAlphabet_calls (d : Int) (w : World) :
    Calls Try.prog 136 #[.int .i64 d] w fun e w' => e = .returned (.bool (isAlpha d)) ∧ w = w' := by
  by_cases h2 : d = 2
  · subst h2
    go_enter Try.func136, Try.ntmps136
    go_wp2
    go_ret
    exact ⟨rfl, rfl⟩
  · have h2' : (d == 2) = false := by simpa using h2
    by_cases h3 : d = 3
    · subst h3
      go_enter Try.func136, Try.ntmps136
      go_wp2
      go_ret
      exact ⟨rfl, rfl⟩
    · have h3' : (d == 3) = false := by simpa using h3
      go_enter Try.func136, Try.ntmps136
      go_wp2
      go_ret
      exact ⟨by simp [isAlpha, h2, h3], rfl⟩

theorem l01In_calls (n low high : Int) (w : World) :
    Calls Try.prog 102 #[.int .i64 n, .int .i64 low, .int .i64 high] w fun e w' => e = .returned (.bool (decide (low ≤ n ∧ n ≤ high))) ∧ w = w' := by
  by_cases h : low ≤ n
  · go_enter Try.func102, Try.ntmps102
    go_wp2
    go_ret
    exact ⟨by simp [h], rfl⟩
  · go_enter Try.func102, Try.ntmps102
    go_wp2
    go_ret
    exact ⟨by simp; omega, rfl⟩
end Go.Proofs.Ytliohokcjgcmhaa
