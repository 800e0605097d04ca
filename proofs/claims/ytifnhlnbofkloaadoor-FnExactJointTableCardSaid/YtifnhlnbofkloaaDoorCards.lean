/-
  DERIVED. GIVEN WITH THE SEED: THE CARDS: each row of YtifnhlnbofkloaaDoorRows.lean that lists a variable, with what it lists TIED to the program's text (the seventh form; the later family's looks); each row that meets fmt, with fmt's text TOLD by the authors' own Lean function (tested against real Go, not proved from fmt's source: count such statements apart). THE CARD IS WHAT COUNTS. Prove the row's statement (the work); the ties are given (YtifnhlnbofkloaaDoorTie.lean); close each card by the builder's one call (the guide's Derived/Test/ToyasCard.lean, 'card_holds'). Laid BY PROGRAM, IN A SANDBOX (cutbox-door.mjs). By AI agents, Wed Nov 11 2026. No macro, syntax, notation, axiom, sorry.
-/
import Derived.Test.YtifnhlnbofkloaaDoorRows
import GoSem.ClaimSeven
namespace Go.Proofs.YtifnhlnbofkloaaDoor
namespace Rows

/-- THE TIED CARD OF 'laws.FnExactRowSets'. -/
def fnExactRowSetsCard : Claim7 := { stood := { row := fnExactRowSetsRow, standIns := [], harness := (true, "ac272f5c82fd9a0a73d10687f230265872e787d135f91ff2d37e89fbcfdab5db"), looks := false }, kinds := [], alts := [], laidByText := true, laidKinds := [.data, .data], laidTests := true, laidLooks := .later }
def FnExactRowSetsCardSaid : Prop := Claim7.holds Tryd.pinned (.plain (OpenSpec.ofChange fnExactRowSetsSpec)) fnExactRowSetsCard

/-- THE TIED CARD OF 'laws.FnExactSetWeight'. -/
def fnExactSetWeightCard : Claim7 := { stood := { row := fnExactSetWeightRow, standIns := [], harness := (true, "ac272f5c82fd9a0a73d10687f230265872e787d135f91ff2d37e89fbcfdab5db"), looks := false }, kinds := [], alts := [], laidByText := true, laidKinds := [.data, .data], laidTests := true, laidLooks := .later }
def FnExactSetWeightCardSaid : Prop := Claim7.holds Tryd.pinned (.plain (OpenSpec.ofChange fnExactSetWeightSpec)) fnExactSetWeightCard

/-- THE TIED CARD OF 'laws.FnExactMinusTable'. -/
def fnExactMinusTableCard : Claim7 := { stood := { row := fnExactMinusTableRow, standIns := [], harness := (true, "ac272f5c82fd9a0a73d10687f230265872e787d135f91ff2d37e89fbcfdab5db"), looks := false }, kinds := [], alts := [], laidByText := true, laidKinds := [.data, .data], laidTests := true, laidLooks := .later }
def FnExactMinusTableCardSaid : Prop := Claim7.holds Tryd.pinned (.plain (OpenSpec.ofChange fnExactMinusTableSpec)) fnExactMinusTableCard

/-- THE TIED CARD OF 'laws.FnExactInversionTable'. -/
def fnExactInversionTableCard : Claim7 := { stood := { row := fnExactInversionTableRow, standIns := [], harness := (true, "ac272f5c82fd9a0a73d10687f230265872e787d135f91ff2d37e89fbcfdab5db"), looks := false }, kinds := [], alts := [], laidByText := true, laidKinds := [.data, .data], laidTests := true, laidLooks := .later }
def FnExactInversionTableCardSaid : Prop := Claim7.holds Tryd.pinned (.plain (OpenSpec.ofChange fnExactInversionTableSpec)) fnExactInversionTableCard

/-- THE TIED CARD OF 'laws.FnExactJointTable'. -/
def fnExactJointTableCard : Claim7 := { stood := { row := fnExactJointTableRow, standIns := [], harness := (true, "ac272f5c82fd9a0a73d10687f230265872e787d135f91ff2d37e89fbcfdab5db"), looks := false }, kinds := [], alts := [], laidByText := true, laidKinds := [.data, .data], laidTests := true, laidLooks := .later }
def FnExactJointTableCardSaid : Prop := Claim7.holds Tryd.pinned (.plain (OpenSpec.ofChange fnExactJointTableSpec)) fnExactJointTableCard

/-- THE TIED CARD OF 'laws.FnExactWeightSum'. -/
def fnExactWeightSumCard : Claim7 := { stood := { row := fnExactWeightSumRow, standIns := [], harness := (true, "ac272f5c82fd9a0a73d10687f230265872e787d135f91ff2d37e89fbcfdab5db"), looks := false }, kinds := [], alts := [], laidByText := true, laidKinds := [.data, .data], laidTests := true, laidLooks := .later }
def FnExactWeightSumCardSaid : Prop := Claim7.holds Tryd.pinned (.plain (OpenSpec.ofChange fnExactWeightSumSpec)) fnExactWeightSumCard

/-- THE TIED CARD OF 'laws.FnExactFreeSum'. -/
def fnExactFreeSumCard : Claim7 := { stood := { row := fnExactFreeSumRow, standIns := [], harness := (true, "ac272f5c82fd9a0a73d10687f230265872e787d135f91ff2d37e89fbcfdab5db"), looks := false }, kinds := [], alts := [], laidByText := true, laidKinds := [.data, .data], laidTests := true, laidLooks := .later }
def FnExactFreeSumCardSaid : Prop := Claim7.holds Tryd.pinned (.plain (OpenSpec.ofChange fnExactFreeSumSpec)) fnExactFreeSumCard

/-- THE TIED CARD OF 'laws.FnExactLambdaSum'. -/
def fnExactLambdaSumCard : Claim7 := { stood := { row := fnExactLambdaSumRow, standIns := [], harness := (true, "ac272f5c82fd9a0a73d10687f230265872e787d135f91ff2d37e89fbcfdab5db"), looks := false }, kinds := [], alts := [], laidByText := true, laidKinds := [.data, .data], laidTests := true, laidLooks := .later }
def FnExactLambdaSumCardSaid : Prop := Claim7.holds Tryd.pinned (.plain (OpenSpec.ofChange fnExactLambdaSumSpec)) fnExactLambdaSumCard

/-- THE TIED CARD OF 'laws.FnExactSetSum'. -/
def fnExactSetSumCard : Claim7 := { stood := { row := fnExactSetSumRow, standIns := [], harness := (true, "ac272f5c82fd9a0a73d10687f230265872e787d135f91ff2d37e89fbcfdab5db"), looks := false }, kinds := [], alts := [], laidByText := true, laidKinds := [.data, .data], laidTests := true, laidLooks := .later }
def FnExactSetSumCardSaid : Prop := Claim7.holds Tryd.pinned (.plain (OpenSpec.ofChange fnExactSetSumSpec)) fnExactSetSumCard

/-- THE TIED CARD OF 'laws.FnExactAllSigns'. -/
def fnExactAllSignsCard : Claim7 := { stood := { row := fnExactAllSignsRow, standIns := [], harness := (true, "ac272f5c82fd9a0a73d10687f230265872e787d135f91ff2d37e89fbcfdab5db"), looks := false }, kinds := [], alts := [], laidByText := true, laidKinds := [.data, .data], laidTests := true, laidLooks := .later }
def FnExactAllSignsCardSaid : Prop := Claim7.holds Tryd.pinned (.plain (OpenSpec.ofChange fnExactAllSignsSpec)) fnExactAllSignsCard

/-- THE SECOND FORM's CARD OF 'laws.FnExactRowSets'. -/
def fnExactRowSetsUptoCard : Claim7 := { stood := { row := fnExactRowSetsUptoRow, standIns := [], harness := (true, "ac272f5c82fd9a0a73d10687f230265872e787d135f91ff2d37e89fbcfdab5db"), looks := false }, kinds := [], alts := [], laidByText := true, laidKinds := [.data, .data], laidTests := true, laidLooks := .later }
def FnExactRowSetsUptoCardSaid : Prop := Claim7.holds Tryd.pinned (.plain (OpenSpec.upto fnExactRowSetsSpec)) fnExactRowSetsUptoCard

/-- THE SECOND FORM's CARD OF 'laws.FnExactSetWeight'. -/
def fnExactSetWeightUptoCard : Claim7 := { stood := { row := fnExactSetWeightUptoRow, standIns := [], harness := (true, "ac272f5c82fd9a0a73d10687f230265872e787d135f91ff2d37e89fbcfdab5db"), looks := false }, kinds := [], alts := [], laidByText := true, laidKinds := [.data, .data], laidTests := true, laidLooks := .later }
def FnExactSetWeightUptoCardSaid : Prop := Claim7.holds Tryd.pinned (.plain (OpenSpec.upto fnExactSetWeightSpec)) fnExactSetWeightUptoCard

/-- THE SECOND FORM's CARD OF 'laws.FnExactMinusTable'. -/
def fnExactMinusTableUptoCard : Claim7 := { stood := { row := fnExactMinusTableUptoRow, standIns := [], harness := (true, "ac272f5c82fd9a0a73d10687f230265872e787d135f91ff2d37e89fbcfdab5db"), looks := false }, kinds := [], alts := [], laidByText := true, laidKinds := [.data, .data], laidTests := true, laidLooks := .later }
def FnExactMinusTableUptoCardSaid : Prop := Claim7.holds Tryd.pinned (.plain (OpenSpec.upto fnExactMinusTableSpec)) fnExactMinusTableUptoCard

/-- THE SECOND FORM's CARD OF 'laws.FnExactInversionTable'. -/
def fnExactInversionTableUptoCard : Claim7 := { stood := { row := fnExactInversionTableUptoRow, standIns := [], harness := (true, "ac272f5c82fd9a0a73d10687f230265872e787d135f91ff2d37e89fbcfdab5db"), looks := false }, kinds := [], alts := [], laidByText := true, laidKinds := [.data, .data], laidTests := true, laidLooks := .later }
def FnExactInversionTableUptoCardSaid : Prop := Claim7.holds Tryd.pinned (.plain (OpenSpec.upto fnExactInversionTableSpec)) fnExactInversionTableUptoCard

/-- THE SECOND FORM's CARD OF 'laws.FnExactJointTable'. -/
def fnExactJointTableUptoCard : Claim7 := { stood := { row := fnExactJointTableUptoRow, standIns := [], harness := (true, "ac272f5c82fd9a0a73d10687f230265872e787d135f91ff2d37e89fbcfdab5db"), looks := false }, kinds := [], alts := [], laidByText := true, laidKinds := [.data, .data], laidTests := true, laidLooks := .later }
def FnExactJointTableUptoCardSaid : Prop := Claim7.holds Tryd.pinned (.plain (OpenSpec.upto fnExactJointTableSpec)) fnExactJointTableUptoCard

/-- THE SECOND FORM's CARD OF 'laws.FnExactWeightSum'. -/
def fnExactWeightSumUptoCard : Claim7 := { stood := { row := fnExactWeightSumUptoRow, standIns := [], harness := (true, "ac272f5c82fd9a0a73d10687f230265872e787d135f91ff2d37e89fbcfdab5db"), looks := false }, kinds := [], alts := [], laidByText := true, laidKinds := [.data, .data], laidTests := true, laidLooks := .later }
def FnExactWeightSumUptoCardSaid : Prop := Claim7.holds Tryd.pinned (.plain (OpenSpec.upto fnExactWeightSumSpec)) fnExactWeightSumUptoCard

/-- THE SECOND FORM's CARD OF 'laws.FnExactFreeSum'. -/
def fnExactFreeSumUptoCard : Claim7 := { stood := { row := fnExactFreeSumUptoRow, standIns := [], harness := (true, "ac272f5c82fd9a0a73d10687f230265872e787d135f91ff2d37e89fbcfdab5db"), looks := false }, kinds := [], alts := [], laidByText := true, laidKinds := [.data, .data], laidTests := true, laidLooks := .later }
def FnExactFreeSumUptoCardSaid : Prop := Claim7.holds Tryd.pinned (.plain (OpenSpec.upto fnExactFreeSumSpec)) fnExactFreeSumUptoCard

/-- THE SECOND FORM's CARD OF 'laws.FnExactLambdaSum'. -/
def fnExactLambdaSumUptoCard : Claim7 := { stood := { row := fnExactLambdaSumUptoRow, standIns := [], harness := (true, "ac272f5c82fd9a0a73d10687f230265872e787d135f91ff2d37e89fbcfdab5db"), looks := false }, kinds := [], alts := [], laidByText := true, laidKinds := [.data, .data], laidTests := true, laidLooks := .later }
def FnExactLambdaSumUptoCardSaid : Prop := Claim7.holds Tryd.pinned (.plain (OpenSpec.upto fnExactLambdaSumSpec)) fnExactLambdaSumUptoCard

/-- THE SECOND FORM's CARD OF 'laws.FnExactSetSum'. -/
def fnExactSetSumUptoCard : Claim7 := { stood := { row := fnExactSetSumUptoRow, standIns := [], harness := (true, "ac272f5c82fd9a0a73d10687f230265872e787d135f91ff2d37e89fbcfdab5db"), looks := false }, kinds := [], alts := [], laidByText := true, laidKinds := [.data, .data], laidTests := true, laidLooks := .later }
def FnExactSetSumUptoCardSaid : Prop := Claim7.holds Tryd.pinned (.plain (OpenSpec.upto fnExactSetSumSpec)) fnExactSetSumUptoCard

/-- THE SECOND FORM's CARD OF 'laws.FnExactAllSigns'. -/
def fnExactAllSignsUptoCard : Claim7 := { stood := { row := fnExactAllSignsUptoRow, standIns := [], harness := (true, "ac272f5c82fd9a0a73d10687f230265872e787d135f91ff2d37e89fbcfdab5db"), looks := false }, kinds := [], alts := [], laidByText := true, laidKinds := [.data, .data], laidTests := true, laidLooks := .later }
def FnExactAllSignsUptoCardSaid : Prop := Claim7.holds Tryd.pinned (.plain (OpenSpec.upto fnExactAllSignsSpec)) fnExactAllSignsUptoCard
end Rows
end Go.Proofs.YtifnhlnbofkloaaDoor
