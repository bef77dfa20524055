/- 'ActPortrait': the model, whole. -/
import Derived.Test.YticnpajbefflbadDoorPcE
namespace Go.Proofs.YticnpajbefflbadDoor
open Go.RowKit

end Go.Proofs.YticnpajbefflbadDoor
