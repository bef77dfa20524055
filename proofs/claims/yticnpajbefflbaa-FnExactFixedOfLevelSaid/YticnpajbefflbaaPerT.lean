/- 'PermutationOf': the model, for every input. -/
import Derived.Test.YticnpajbefflbaaPerS
namespace Go.Proofs.Yticnpajbefflbaa
open Go.RowKit

theorem l01In_yes (n low high : Int) (r : Bool) (h : decide (low ≤ n ∧ n ≤ high) = r) (w : World) :
    Calls Try.prog 48 #[.int .i64 n, .int .i64 low, .int .i64 high] w fun e w' => e = .returned (.bool r) ∧ w = w' :=
  (l01In_calls n low high w).mono fun e w' h' => ⟨by rw [h'.1, h], h'.2⟩

end Go.Proofs.Yticnpajbefflbaa
