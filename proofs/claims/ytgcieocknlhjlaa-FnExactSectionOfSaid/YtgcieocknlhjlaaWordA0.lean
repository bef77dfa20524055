/- Contracts of the small functions on alphabets and ranges. -/
import Derived.Test.YtgcieocknlhjlaaProg
import Derived.Test.YtgcieocknlhjlaaWordM
import Derived.Test.YtgcieocknlhjlaaBase
namespace Go.Proofs.Ytgcieocknlhjlaa
open Go.RowKit

theorem isAlphabet_calls (d : Int) (w : World) :
    Calls Try.prog 62 #[.int .i64 d] w fun e w' => e = .returned (.bool (isAlpha d)) ∧ w = w' := by
  by_cases h2 : d = 2
  · subst h2
    go_enter Try.func62, Try.ntmps62
    go_wp2
    go_ret
    exact ⟨rfl, rfl⟩
  · have h2' : (d == 2) = false := by simpa using h2
    by_cases h3 : d = 3
    · subst h3
      go_enter Try.func62, Try.ntmps62
      go_wp2
      go_ret
      exact ⟨rfl, rfl⟩
    · have h3' : (d == 3) = false := by simpa using h3
      go_enter Try.func62, Try.ntmps62
      go_wp2
      go_ret
      exact ⟨by simp [isAlpha, h2, h3], rfl⟩

theorem l01In_calls (n low high : Int) (w : World) :
    Calls Try.prog 36 #[.int .i64 n, .int .i64 low, .int .i64 high] w fun e w' => e = .returned (.bool (decide (low ≤ n ∧ n ≤ high))) ∧ w = w' := by
  by_cases h : low ≤ n
  · go_enter Try.func36, Try.ntmps36
    go_wp2
    go_ret
    exact ⟨by simp [h], rfl⟩
  · go_enter Try.func36, Try.ntmps36
    go_wp2
    go_ret
    exact ⟨by simp; omega, rfl⟩
end Go.Proofs.Ytgcieocknlhjlaa
