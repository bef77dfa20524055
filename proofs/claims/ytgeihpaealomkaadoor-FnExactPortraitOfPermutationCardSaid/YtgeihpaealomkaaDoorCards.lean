/-
  DERIVED. GIVEN WITH THE SEED: THE CARDS: each row of YtgeihpaealomkaaDoorRows.lean that lists a variable, with what it lists TIED to the program's text (the seventh form; the later family's looks); each row that meets fmt, with fmt's text TOLD by the authors' own Lean function (tested against real Go, not proved from fmt's source: count such statements apart). THE CARD IS WHAT COUNTS. Prove the row's statement (the work); the ties are given (YtgeihpaealomkaaDoorTie.lean); close each card by the builder's one call (the guide's Derived/Test/ToyasCard.lean, 'card_holds'). Laid BY PROGRAM, IN A SANDBOX (cutbox-door.mjs). By AI agents, Wed Nov 11 2026. No macro, syntax, notation, axiom, sorry.
-/
import Derived.Test.YtgeihpaealomkaaDoorRows
import GoSem.ClaimSeven
namespace Go.Proofs.YtgeihpaealomkaaDoor
namespace Rows

/-- THE TIED CARD OF 'laws.FnExactPortraitOf'. -/
def fnExactPortraitOfCard : Claim7 := { stood := { row := fnExactPortraitOfRow, standIns := [], harness := (true, "5852f75b679f816c31c81b39a0b4b8212b6de92393bc696006f7cb439d7ccd0e"), looks := false }, kinds := [], alts := [], laidByText := true, laidKinds := [.data, .data], laidTests := true, laidLooks := .later }
def FnExactPortraitOfCardSaid : Prop := Claim7.holds Tryd.pinned (.plain (OpenSpec.ofChange fnExactPortraitOfSpec)) fnExactPortraitOfCard

/-- THE TIED CARD OF 'laws.FnExactMultiplyPortraits'. -/
def fnExactMultiplyPortraitsCard : Claim7 := { stood := { row := fnExactMultiplyPortraitsRow, standIns := [], harness := (true, "5852f75b679f816c31c81b39a0b4b8212b6de92393bc696006f7cb439d7ccd0e"), looks := false }, kinds := [], alts := [], laidByText := true, laidKinds := [.data, .data], laidTests := true, laidLooks := .later }
def FnExactMultiplyPortraitsCardSaid : Prop := Claim7.holds Tryd.pinned (.plain (OpenSpec.ofChange fnExactMultiplyPortraitsSpec)) fnExactMultiplyPortraitsCard

/-- THE TIED CARD OF 'laws.FnExactInvertPortrait'. -/
def fnExactInvertPortraitCard : Claim7 := { stood := { row := fnExactInvertPortraitRow, standIns := [], harness := (true, "5852f75b679f816c31c81b39a0b4b8212b6de92393bc696006f7cb439d7ccd0e"), looks := false }, kinds := [], alts := [], laidByText := true, laidKinds := [.data, .data], laidTests := true, laidLooks := .later }
def FnExactInvertPortraitCardSaid : Prop := Claim7.holds Tryd.pinned (.plain (OpenSpec.ofChange fnExactInvertPortraitSpec)) fnExactInvertPortraitCard

/-- THE TIED CARD OF 'laws.FnExactPermutationOfPortrait'. -/
def fnExactPermutationOfPortraitCard : Claim7 := { stood := { row := fnExactPermutationOfPortraitRow, standIns := [], harness := (true, "5852f75b679f816c31c81b39a0b4b8212b6de92393bc696006f7cb439d7ccd0e"), looks := false }, kinds := [], alts := [], laidByText := true, laidKinds := [.data, .data], laidTests := true, laidLooks := .later }
def FnExactPermutationOfPortraitCardSaid : Prop := Claim7.holds Tryd.pinned (.plain (OpenSpec.ofChange fnExactPermutationOfPortraitSpec)) fnExactPermutationOfPortraitCard

/-- THE TIED CARD OF 'laws.FnExactPortraitOfPermutation'. -/
def fnExactPortraitOfPermutationCard : Claim7 := { stood := { row := fnExactPortraitOfPermutationRow, standIns := [], harness := (true, "5852f75b679f816c31c81b39a0b4b8212b6de92393bc696006f7cb439d7ccd0e"), looks := false }, kinds := [], alts := [], laidByText := true, laidKinds := [.data, .data], laidTests := true, laidLooks := .later }
def FnExactPortraitOfPermutationCardSaid : Prop := Claim7.holds Tryd.pinned (.plain (OpenSpec.ofChange fnExactPortraitOfPermutationSpec)) fnExactPortraitOfPermutationCard

/-- THE TIED CARD OF 'laws.FnExactOrderOfPortrait'. -/
def fnExactOrderOfPortraitCard : Claim7 := { stood := { row := fnExactOrderOfPortraitRow, standIns := [], harness := (true, "5852f75b679f816c31c81b39a0b4b8212b6de92393bc696006f7cb439d7ccd0e"), looks := false }, kinds := [], alts := [], laidByText := true, laidKinds := [.data, .data], laidTests := true, laidLooks := .later }
def FnExactOrderOfPortraitCardSaid : Prop := Claim7.holds Tryd.pinned (.plain (OpenSpec.ofChange fnExactOrderOfPortraitSpec)) fnExactOrderOfPortraitCard

/-- THE TIED CARD OF 'laws.FnExactIsOneCycle'. -/
def fnExactIsOneCycleCard : Claim7 := { stood := { row := fnExactIsOneCycleRow, standIns := [], harness := (true, "5852f75b679f816c31c81b39a0b4b8212b6de92393bc696006f7cb439d7ccd0e"), looks := false }, kinds := [], alts := [], laidByText := true, laidKinds := [.data, .data], laidTests := true, laidLooks := .later }
def FnExactIsOneCycleCardSaid : Prop := Claim7.holds Tryd.pinned (.plain (OpenSpec.ofChange fnExactIsOneCycleSpec)) fnExactIsOneCycleCard

/-- THE SECOND FORM's CARD OF 'laws.FnExactPortraitOf'. -/
def fnExactPortraitOfUptoCard : Claim7 := { stood := { row := fnExactPortraitOfUptoRow, standIns := [], harness := (true, "5852f75b679f816c31c81b39a0b4b8212b6de92393bc696006f7cb439d7ccd0e"), looks := false }, kinds := [], alts := [], laidByText := true, laidKinds := [.data, .data], laidTests := true, laidLooks := .later }
def FnExactPortraitOfUptoCardSaid : Prop := Claim7.holds Tryd.pinned (.plain (OpenSpec.upto fnExactPortraitOfSpec)) fnExactPortraitOfUptoCard

/-- THE SECOND FORM's CARD OF 'laws.FnExactMultiplyPortraits'. -/
def fnExactMultiplyPortraitsUptoCard : Claim7 := { stood := { row := fnExactMultiplyPortraitsUptoRow, standIns := [], harness := (true, "5852f75b679f816c31c81b39a0b4b8212b6de92393bc696006f7cb439d7ccd0e"), looks := false }, kinds := [], alts := [], laidByText := true, laidKinds := [.data, .data], laidTests := true, laidLooks := .later }
def FnExactMultiplyPortraitsUptoCardSaid : Prop := Claim7.holds Tryd.pinned (.plain (OpenSpec.upto fnExactMultiplyPortraitsSpec)) fnExactMultiplyPortraitsUptoCard

/-- THE SECOND FORM's CARD OF 'laws.FnExactInvertPortrait'. -/
def fnExactInvertPortraitUptoCard : Claim7 := { stood := { row := fnExactInvertPortraitUptoRow, standIns := [], harness := (true, "5852f75b679f816c31c81b39a0b4b8212b6de92393bc696006f7cb439d7ccd0e"), looks := false }, kinds := [], alts := [], laidByText := true, laidKinds := [.data, .data], laidTests := true, laidLooks := .later }
def FnExactInvertPortraitUptoCardSaid : Prop := Claim7.holds Tryd.pinned (.plain (OpenSpec.upto fnExactInvertPortraitSpec)) fnExactInvertPortraitUptoCard

/-- THE SECOND FORM's CARD OF 'laws.FnExactPermutationOfPortrait'. -/
def fnExactPermutationOfPortraitUptoCard : Claim7 := { stood := { row := fnExactPermutationOfPortraitUptoRow, standIns := [], harness := (true, "5852f75b679f816c31c81b39a0b4b8212b6de92393bc696006f7cb439d7ccd0e"), looks := false }, kinds := [], alts := [], laidByText := true, laidKinds := [.data, .data], laidTests := true, laidLooks := .later }
def FnExactPermutationOfPortraitUptoCardSaid : Prop := Claim7.holds Tryd.pinned (.plain (OpenSpec.upto fnExactPermutationOfPortraitSpec)) fnExactPermutationOfPortraitUptoCard

/-- THE SECOND FORM's CARD OF 'laws.FnExactPortraitOfPermutation'. -/
def fnExactPortraitOfPermutationUptoCard : Claim7 := { stood := { row := fnExactPortraitOfPermutationUptoRow, standIns := [], harness := (true, "5852f75b679f816c31c81b39a0b4b8212b6de92393bc696006f7cb439d7ccd0e"), looks := false }, kinds := [], alts := [], laidByText := true, laidKinds := [.data, .data], laidTests := true, laidLooks := .later }
def FnExactPortraitOfPermutationUptoCardSaid : Prop := Claim7.holds Tryd.pinned (.plain (OpenSpec.upto fnExactPortraitOfPermutationSpec)) fnExactPortraitOfPermutationUptoCard

/-- THE SECOND FORM's CARD OF 'laws.FnExactOrderOfPortrait'. -/
def fnExactOrderOfPortraitUptoCard : Claim7 := { stood := { row := fnExactOrderOfPortraitUptoRow, standIns := [], harness := (true, "5852f75b679f816c31c81b39a0b4b8212b6de92393bc696006f7cb439d7ccd0e"), looks := false }, kinds := [], alts := [], laidByText := true, laidKinds := [.data, .data], laidTests := true, laidLooks := .later }
def FnExactOrderOfPortraitUptoCardSaid : Prop := Claim7.holds Tryd.pinned (.plain (OpenSpec.upto fnExactOrderOfPortraitSpec)) fnExactOrderOfPortraitUptoCard

/-- THE SECOND FORM's CARD OF 'laws.FnExactIsOneCycle'. -/
def fnExactIsOneCycleUptoCard : Claim7 := { stood := { row := fnExactIsOneCycleUptoRow, standIns := [], harness := (true, "5852f75b679f816c31c81b39a0b4b8212b6de92393bc696006f7cb439d7ccd0e"), looks := false }, kinds := [], alts := [], laidByText := true, laidKinds := [.data, .data], laidTests := true, laidLooks := .later }
def FnExactIsOneCycleUptoCardSaid : Prop := Claim7.holds Tryd.pinned (.plain (OpenSpec.upto fnExactIsOneCycleSpec)) fnExactIsOneCycleUptoCard
end Rows
end Go.Proofs.YtgeihpaealomkaaDoor
