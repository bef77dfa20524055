/- A region that draws, with guards; the model's check of numbers. -/
import Derived.Test.YtgeihpaealomkaaDoorGrp
namespace Go.Proofs.YtgeihpaealomkaaDoor
open Go.RowKit

theorem l01In_v (n low high : Int) (r : Bool) (h : decide (low ≤ n ∧ n ≤ high) = r) (w : World) :
    Calls Tryd.prog 30 #[.int .i64 n, .int .i64 low, .int .i64 high] w fun e w' => e = .returned (.bool r) ∧ w' = w :=
  (l01In_calls n low high w).mono fun e w' h' => ⟨by rw [h'.1, h], h'.2.symm⟩

end Go.Proofs.YtgeihpaealomkaaDoor
