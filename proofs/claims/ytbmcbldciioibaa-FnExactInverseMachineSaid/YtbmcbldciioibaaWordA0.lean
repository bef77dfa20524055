/- Contracts of the small functions on alphabets and ranges. -/
import Derived.Test.YtbmcbldciioibaaProg
import Derived.Test.YtbmcbldciioibaaWordM
import Derived.Test.YtbmcbldciioibaaBase
namespace Go.Proofs.Ytbmcbldciioibaa
open Go.RowKit

theorem isAlphabet_calls (d : Int) (w : World) :
    Calls Try.prog 80 #[.int .i64 d] w fun e w' => e = .returned (.bool (isAlpha d)) ∧ w = w' := by
  by_cases h2 : d = 2
  · subst h2
    go_enter Try.func80, Try.ntmps80
    go_wp2
    go_ret
    exact ⟨rfl, rfl⟩
  · have h2' : (d == 2) = false := by simpa using h2
    by_cases h3 : d = 3
    · subst h3
      go_enter Try.func80, Try.ntmps80
      go_wp2
      go_ret
      exact ⟨rfl, rfl⟩
    · have h3' : (d == 3) = false := by simpa using h3
      go_enter Try.func80, Try.ntmps80
      go_wp2
      go_ret
      exact ⟨by simp [isAlpha, h2, h3], rfl⟩

theorem l01In_calls (n low high : Int) (w : World) :
    Calls Try.prog 78 #[.int .i64 n, .int .i64 low, .int .i64 high] w fun e w' => e = .returned (.bool (decide (low ≤ n ∧ n ≤ high))) ∧ w = w' := by
  by_cases h : low ≤ n
  · go_enter Try.func78, Try.ntmps78
    go_wp2
    go_ret
    exact ⟨by simp [h], rfl⟩
  · go_enter Try.func78, Try.ntmps78
    go_wp2
    go_ret
    exact ⟨by simp; omega, rfl⟩
end Go.Proofs.Ytbmcbldciioibaa
