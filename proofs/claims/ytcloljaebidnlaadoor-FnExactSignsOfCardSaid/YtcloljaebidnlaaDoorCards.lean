/-
  DERIVED. GIVEN WITH THE SEED: THE CARDS: each row of YtcloljaebidnlaaDoorRows.lean that lists a variable, with what it lists TIED to the program's text (the seventh form; the later family's looks); each row that meets fmt, with fmt's text TOLD by the authors' own Lean function (tested against real Go, not proved from fmt's source: count such statements apart). THE CARD IS WHAT COUNTS. Prove the row's statement (the work); the ties are given (YtcloljaebidnlaaDoorTie.lean); close each card by the builder's one call (the guide's Derived/Test/ToyasCard.lean, 'card_holds'). Laid BY PROGRAM, IN A SANDBOX (cutbox-door.mjs). By AI agents, Wed Nov 11 2026. No macro, syntax, notation, axiom, sorry.
-/
import Derived.Test.YtcloljaebidnlaaDoorRows
import GoSem.ClaimSeven
namespace Go.Proofs.YtcloljaebidnlaaDoor
namespace Rows

/-- THE TIED CARD OF 'laws.FnExactPermutationNumber'. -/
def fnExactPermutationNumberCard : Claim7 := { stood := { row := fnExactPermutationNumberRow, standIns := [], harness := (true, "5c9beee2c9433b12f2fa5276e41952277c0889a250e0cc76f4fabcd53b64fd76"), looks := false }, kinds := [], alts := [], laidByText := true, laidKinds := [.data, .data], laidTests := true, laidLooks := .later }
def FnExactPermutationNumberCardSaid : Prop := Claim7.holds Tryd.pinned (.plain (OpenSpec.ofChange fnExactPermutationNumberSpec)) fnExactPermutationNumberCard

/-- THE TIED CARD OF 'laws.FnExactActPortrait'. -/
def fnExactActPortraitCard : Claim7 := { stood := { row := fnExactActPortraitRow, standIns := [], harness := (true, "5c9beee2c9433b12f2fa5276e41952277c0889a250e0cc76f4fabcd53b64fd76"), looks := false }, kinds := [], alts := [], laidByText := true, laidKinds := [.data, .data], laidTests := true, laidLooks := .later }
def FnExactActPortraitCardSaid : Prop := Claim7.holds Tryd.pinned (.plain (OpenSpec.ofChange fnExactActPortraitSpec)) fnExactActPortraitCard

/-- THE TIED CARD OF 'laws.FnExactSignsOf'. -/
def fnExactSignsOfCard : Claim7 := { stood := { row := fnExactSignsOfRow, standIns := [], harness := (true, "5c9beee2c9433b12f2fa5276e41952277c0889a250e0cc76f4fabcd53b64fd76"), looks := false }, kinds := [], alts := [], laidByText := true, laidKinds := [.data, .data], laidTests := true, laidLooks := .later }
def FnExactSignsOfCardSaid : Prop := Claim7.holds Tryd.pinned (.plain (OpenSpec.ofChange fnExactSignsOfSpec)) fnExactSignsOfCard

/-- THE SECOND FORM's CARD OF 'laws.FnExactPermutationNumber'. -/
def fnExactPermutationNumberUptoCard : Claim7 := { stood := { row := fnExactPermutationNumberUptoRow, standIns := [], harness := (true, "5c9beee2c9433b12f2fa5276e41952277c0889a250e0cc76f4fabcd53b64fd76"), looks := false }, kinds := [], alts := [], laidByText := true, laidKinds := [.data, .data], laidTests := true, laidLooks := .later }
def FnExactPermutationNumberUptoCardSaid : Prop := Claim7.holds Tryd.pinned (.plain (OpenSpec.upto fnExactPermutationNumberSpec)) fnExactPermutationNumberUptoCard

/-- THE SECOND FORM's CARD OF 'laws.FnExactActPortrait'. -/
def fnExactActPortraitUptoCard : Claim7 := { stood := { row := fnExactActPortraitUptoRow, standIns := [], harness := (true, "5c9beee2c9433b12f2fa5276e41952277c0889a250e0cc76f4fabcd53b64fd76"), looks := false }, kinds := [], alts := [], laidByText := true, laidKinds := [.data, .data], laidTests := true, laidLooks := .later }
def FnExactActPortraitUptoCardSaid : Prop := Claim7.holds Tryd.pinned (.plain (OpenSpec.upto fnExactActPortraitSpec)) fnExactActPortraitUptoCard

/-- THE SECOND FORM's CARD OF 'laws.FnExactSignsOf'. -/
def fnExactSignsOfUptoCard : Claim7 := { stood := { row := fnExactSignsOfUptoRow, standIns := [], harness := (true, "5c9beee2c9433b12f2fa5276e41952277c0889a250e0cc76f4fabcd53b64fd76"), looks := false }, kinds := [], alts := [], laidByText := true, laidKinds := [.data, .data], laidTests := true, laidLooks := .later }
def FnExactSignsOfUptoCardSaid : Prop := Claim7.holds Tryd.pinned (.plain (OpenSpec.upto fnExactSignsOfSpec)) fnExactSignsOfUptoCard
end Rows
end Go.Proofs.YtcloljaebidnlaaDoor
