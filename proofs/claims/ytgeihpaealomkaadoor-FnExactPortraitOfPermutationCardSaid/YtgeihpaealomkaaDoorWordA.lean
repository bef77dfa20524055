/- Contracts of the small functions on levels and numbers. -/
import Derived.Test.YtgeihpaealomkaaDoorWordA0
namespace Go.Proofs.YtgeihpaealomkaaDoor
open Go.RowKit

theorem levelSize_calls (d n : Nat) (hd : d ≤ 3) (hn : n ≤ 5) (w : World) :
    Calls Tryd.prog 53 #[.int .i64 d, .int .i64 n] w fun e w' => e = .returned (.int .i64 (pw d n)) ∧ w = w' := by
  go_enter Tryd.func53, Tryd.ntmps53
  go_wp2
  go_loop [5, 7] (fun s i => ∃ k : Nat, k ≤ n ∧ i = .int .i64 k ∧ s = .int .i64 (pw d k)) (fun _ i => n - (intOf i).toNat)
  case atStart => exact ⟨0, Nat.zero_le _, rfl, by rw [pw_zero]⟩
  case round =>
    obtain ⟨k, hk, rfl, rfl⟩ := hrel
    obtain ⟨hm0, hm1⟩ := pw_mul_bd d k hd (by omega)
    by_cases hlt : k < n
    · go_wp2
      go_round
      case rel => exact ⟨k + 1, by omega, by go_num, by rw [pw_succ]⟩
      case measure => simp [intOf] <;> omega
    · go_wp2
      go_ret
      obtain rfl : k = n := by omega
      exact ⟨rfl, rfl⟩

theorem l01Power_calls (d n : Nat) (hd : d ≤ 3) (hn : n ≤ 5) (w : World) :
    Calls Tryd.prog 61 #[.int .i64 d, .int .i64 n] w fun e w' => e = .returned (.int .i64 (pw d n)) ∧ w = w' := by
  go_enter Tryd.func61, Tryd.ntmps61
  go_wp2
  go_loop [1, 5] (fun i s => ∃ k j : Nat, k + j = n ∧ i = .int .i64 j ∧ s = .int .i64 (pw d k)) (fun i _ => (intOf i).toNat)
  case atStart => exact ⟨0, n, by omega, rfl, by rw [pw_zero]⟩
  case round =>
    obtain ⟨k, j, hk, rfl, rfl⟩ := hrel
    obtain ⟨hm0, hm1⟩ := pw_mul_bd d k hd (by omega)
    have hj : j ≤ 5 := by omega
    have Hk := Lib.hid hk; clear hk
    by_cases hlt : 0 < j
    · go_wp2
      go_round
      case rel => exact ⟨k + 1, j - 1, by have := Hk.out; omega, by rw [show ((j - 1 : Nat) : Int) = (j : Int) - 1 from by omega], by rw [pw_succ]⟩
      case measure => simp [intOf] <;> omega
    · go_wp2
      go_ret
      obtain rfl : k = n := by have := Hk.out; omega
      exact ⟨rfl, rfl⟩
end Go.Proofs.YtgeihpaealomkaaDoor
