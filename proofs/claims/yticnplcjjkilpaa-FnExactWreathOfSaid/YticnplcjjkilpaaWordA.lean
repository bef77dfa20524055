/- Contracts of the small functions on levels and numbers. -/
import Derived.Test.YticnplcjjkilpaaWordA0
namespace Go.Proofs.Yticnplcjjkilpaa
open Go.RowKit

end Go.Proofs.Yticnplcjjkilpaa
