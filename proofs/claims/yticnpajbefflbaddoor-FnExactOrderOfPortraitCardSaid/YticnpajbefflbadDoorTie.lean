/-
  DERIVED. GIVEN WITH THE SEED: THE PROGRAM's TIES (one call each: nine closed facts by the kernel) AND EACH ROW's TIE, after the 31st guide's Derived/Test/Toyas{Tie, Card}.lean. No idea stands in it: it is a product of the set-up. Laid BY PROGRAM, IN A SANDBOX (cutbox-door.mjs). By AI agents, Wed Nov 11 2026. No macro, syntax, notation, axiom, sorry.
-/
import Derived.Test.YticnpajbefflbadDoorRows
import Derived.LaidByTextLater
import Derived.SevenTiedAt
import Derived.LaidSub
import Derived.LaidOnce
namespace Go.Proofs.YticnpajbefflbadDoor
open Go
set_option maxRecDepth 100000
theorem seatTie1 : Tryd.prog.laidByTextLater [("loop.example/g01244/impl.permutationsOfTwo", Rows.laid_loop_example_g01244_impl_permutationsOfTwo), ("loop.example/g01244/impl.permutationsOfThree", Rows.laid_loop_example_g01244_impl_permutationsOfThree)] [.data, .data] true :=
  Program.laidByTextLater_by_one 27 8 19 (by kernel_rfl) (by kernel_rfl) (by kernel_rfl) (by kernel_rfl) (by kernel_rfl) (by kernel_rfl) (fun _ _ => by kernel_rfl)
theorem noOwnUnsafe : Tryd.pinned.checked.prog.headLifts.contains "ownunsafe" = false := by kernel_rfl
theorem tie : Tryd.prog.laidByTextLater [("loop.example/g01244/impl.permutationsOfTwo", Rows.laid_loop_example_g01244_impl_permutationsOfTwo), ("loop.example/g01244/impl.permutationsOfThree", Rows.laid_loop_example_g01244_impl_permutationsOfThree)] [.data, .data] true :=
  Program.laidByTextLater.sub seatTie1 ["loop.example/g01244/impl.permutationsOfTwo", "loop.example/g01244/impl.permutationsOfThree"] (by kernel_rfl) (by kernel_rfl)
theorem fnExactOrderOfPortrait_row_tie : Rows.fnExactOrderOfPortraitRow.laidByTextAt .later Tryd.pinned [.data, .data] true :=
  OpenClaim.laidByTextAt_later rfl rfl tie noOwnUnsafe
theorem fnExactOrderOfPortraitUpto_row_tie : Rows.fnExactOrderOfPortraitUptoRow.laidByTextAt .later Tryd.pinned [.data, .data] true :=
  OpenClaim.laidByTextAt_later rfl rfl tie noOwnUnsafe
end Go.Proofs.YticnpajbefflbadDoor
