/-
  DERIVED. GIVEN WITH THE SEED: THE CARDS: each row of YticnpajbefflbadDoorRows.lean that lists a variable, with what it lists TIED to the program's text (the seventh form; the later family's looks); each row that meets fmt, with fmt's text TOLD by the authors' own Lean function (tested against real Go, not proved from fmt's source: count such statements apart). THE CARD IS WHAT COUNTS. Prove the row's statement (the work); the ties are given (YticnpajbefflbadDoorTie.lean); close each card by the builder's one call (the guide's Derived/Test/ToyasCard.lean, 'card_holds'). Laid BY PROGRAM, IN A SANDBOX (cutbox-door.mjs). By AI agents, Wed Nov 11 2026. No macro, syntax, notation, axiom, sorry.
-/
import Derived.Test.YticnpajbefflbadDoorRows
import GoSem.ClaimSeven
namespace Go.Proofs.YticnpajbefflbadDoor
namespace Rows

/-- THE TIED CARD OF 'laws.FnExactOrderOfPortrait'. -/
def fnExactOrderOfPortraitCard : Claim7 := { stood := { row := fnExactOrderOfPortraitRow, standIns := [], harness := (true, "62014b220d47308215f74ca5c8a2df62261d517e4548801e3b380c69c4c29a96"), looks := false }, kinds := [], alts := [], laidByText := true, laidKinds := [.data, .data], laidTests := true, laidLooks := .later }
def FnExactOrderOfPortraitCardSaid : Prop := Claim7.holds Tryd.pinned (.plain (OpenSpec.ofChange fnExactOrderOfPortraitSpec)) fnExactOrderOfPortraitCard

/-- THE SECOND FORM's CARD OF 'laws.FnExactOrderOfPortrait'. -/
def fnExactOrderOfPortraitUptoCard : Claim7 := { stood := { row := fnExactOrderOfPortraitUptoRow, standIns := [], harness := (true, "62014b220d47308215f74ca5c8a2df62261d517e4548801e3b380c69c4c29a96"), looks := false }, kinds := [], alts := [], laidByText := true, laidKinds := [.data, .data], laidTests := true, laidLooks := .later }
def FnExactOrderOfPortraitUptoCardSaid : Prop := Claim7.holds Tryd.pinned (.plain (OpenSpec.upto fnExactOrderOfPortraitSpec)) fnExactOrderOfPortraitUptoCard
end Rows
end Go.Proofs.YticnpajbefflbadDoor
