/-
  DERIVED. GIVEN WITH THE SEED: THE CARDS: each row of YtgdijjfipicodaaDoorRows.lean that lists a variable, with what it lists TIED to the program's text (the seventh form; the later family's looks); each row that meets fmt, with fmt's text TOLD by the authors' own Lean function (tested against real Go, not proved from fmt's source: count such statements apart). THE CARD IS WHAT COUNTS. Prove the row's statement (the work); the ties are given (YtgdijjfipicodaaDoorTie.lean); close each card by the builder's one call (the guide's Derived/Test/ToyasCard.lean, 'card_holds'). Laid BY PROGRAM, IN A SANDBOX (cutbox-door.mjs). By AI agents, Wed Nov 11 2026. No macro, syntax, notation, axiom, sorry.
-/
import Derived.Test.YtgdijjfipicodaaDoorRows
import GoSem.ClaimSeven
namespace Go.Proofs.YtgdijjfipicodaaDoor
namespace Rows

/-- THE TIED CARD OF 'laws.FnExactHasSymmetry'. -/
def fnExactHasSymmetryCard : Claim7 := { stood := { row := fnExactHasSymmetryRow, standIns := [], harness := (true, "3f0456486f2f3519bc3b15385fc80018c70c7422a6642258e422c6d4a9048d3d"), looks := false }, kinds := [], alts := [], laidByText := true, laidKinds := [.data], laidTests := true, laidLooks := .later }
def FnExactHasSymmetryCardSaid : Prop := Claim7.holds Tryd.pinned (.plain (OpenSpec.ofChange fnExactHasSymmetrySpec)) fnExactHasSymmetryCard

/-- THE TIED CARD OF 'laws.FnExactListSymmetric'. -/
def fnExactListSymmetricCard : Claim7 := { stood := { row := fnExactListSymmetricRow, standIns := [], harness := (true, "3f0456486f2f3519bc3b15385fc80018c70c7422a6642258e422c6d4a9048d3d"), looks := false }, kinds := [], alts := [], laidByText := true, laidKinds := [.data, .data, .data], laidTests := true, laidLooks := .later }
def FnExactListSymmetricCardSaid : Prop := Claim7.holds Tryd.pinned (.plain (OpenSpec.ofChange fnExactListSymmetricSpec)) fnExactListSymmetricCard

/-- THE TIED CARD OF 'laws.FnExactCountSymmetric'. -/
def fnExactCountSymmetricCard : Claim7 := { stood := { row := fnExactCountSymmetricRow, standIns := [], harness := (true, "3f0456486f2f3519bc3b15385fc80018c70c7422a6642258e422c6d4a9048d3d"), looks := false }, kinds := [], alts := [], laidByText := true, laidKinds := [.data, .data, .data], laidTests := true, laidLooks := .later }
def FnExactCountSymmetricCardSaid : Prop := Claim7.holds Tryd.pinned (.plain (OpenSpec.ofChange fnExactCountSymmetricSpec)) fnExactCountSymmetricCard

/-- THE TIED CARD OF 'laws.FnExactCountUpToAll'. -/
def fnExactCountUpToAllCard : Claim7 := { stood := { row := fnExactCountUpToAllRow, standIns := [], harness := (true, "3f0456486f2f3519bc3b15385fc80018c70c7422a6642258e422c6d4a9048d3d"), looks := false }, kinds := [], alts := [], laidByText := true, laidKinds := [.data, .data], laidTests := true, laidLooks := .later }
def FnExactCountUpToAllCardSaid : Prop := Claim7.holds Tryd.pinned (.plain (OpenSpec.ofChange fnExactCountUpToAllSpec)) fnExactCountUpToAllCard

/-- THE TIED CARD OF 'laws.FnExactLeftHalf'. -/
def fnExactLeftHalfCard : Claim7 := { stood := { row := fnExactLeftHalfRow, standIns := [], harness := (true, "3f0456486f2f3519bc3b15385fc80018c70c7422a6642258e422c6d4a9048d3d"), looks := false }, kinds := [], alts := [], laidByText := true, laidKinds := [.data], laidTests := true, laidLooks := .later }
def FnExactLeftHalfCardSaid : Prop := Claim7.holds Tryd.pinned (.plain (OpenSpec.ofChange fnExactLeftHalfSpec)) fnExactLeftHalfCard

/-- THE TIED CARD OF 'laws.FnExactUpperHalf'. -/
def fnExactUpperHalfCard : Claim7 := { stood := { row := fnExactUpperHalfRow, standIns := [], harness := (true, "3f0456486f2f3519bc3b15385fc80018c70c7422a6642258e422c6d4a9048d3d"), looks := false }, kinds := [], alts := [], laidByText := true, laidKinds := [.data], laidTests := true, laidLooks := .later }
def FnExactUpperHalfCardSaid : Prop := Claim7.holds Tryd.pinned (.plain (OpenSpec.ofChange fnExactUpperHalfSpec)) fnExactUpperHalfCard

/-- THE TIED CARD OF 'laws.FnExactMiddleOf'. -/
def fnExactMiddleOfCard : Claim7 := { stood := { row := fnExactMiddleOfRow, standIns := [], harness := (true, "3f0456486f2f3519bc3b15385fc80018c70c7422a6642258e422c6d4a9048d3d"), looks := false }, kinds := [], alts := [], laidByText := true, laidKinds := [.data], laidTests := true, laidLooks := .later }
def FnExactMiddleOfCardSaid : Prop := Claim7.holds Tryd.pinned (.plain (OpenSpec.ofChange fnExactMiddleOfSpec)) fnExactMiddleOfCard

/-- THE TIED CARD OF 'laws.FnExactAllSigns'. -/
def fnExactAllSignsCard : Claim7 := { stood := { row := fnExactAllSignsRow, standIns := [], harness := (true, "3f0456486f2f3519bc3b15385fc80018c70c7422a6642258e422c6d4a9048d3d"), looks := false }, kinds := [], alts := [], laidByText := true, laidKinds := [.data, .data], laidTests := true, laidLooks := .later }
def FnExactAllSignsCardSaid : Prop := Claim7.holds Tryd.pinned (.plain (OpenSpec.ofChange fnExactAllSignsSpec)) fnExactAllSignsCard

/-- THE SECOND FORM's CARD OF 'laws.FnExactHasSymmetry'. -/
def fnExactHasSymmetryUptoCard : Claim7 := { stood := { row := fnExactHasSymmetryUptoRow, standIns := [], harness := (true, "3f0456486f2f3519bc3b15385fc80018c70c7422a6642258e422c6d4a9048d3d"), looks := false }, kinds := [], alts := [], laidByText := true, laidKinds := [.data], laidTests := true, laidLooks := .later }
def FnExactHasSymmetryUptoCardSaid : Prop := Claim7.holds Tryd.pinned (.plain (OpenSpec.upto fnExactHasSymmetrySpec)) fnExactHasSymmetryUptoCard

/-- THE SECOND FORM's CARD OF 'laws.FnExactListSymmetric'. -/
def fnExactListSymmetricUptoCard : Claim7 := { stood := { row := fnExactListSymmetricUptoRow, standIns := [], harness := (true, "3f0456486f2f3519bc3b15385fc80018c70c7422a6642258e422c6d4a9048d3d"), looks := false }, kinds := [], alts := [], laidByText := true, laidKinds := [.data, .data, .data], laidTests := true, laidLooks := .later }
def FnExactListSymmetricUptoCardSaid : Prop := Claim7.holds Tryd.pinned (.plain (OpenSpec.upto fnExactListSymmetricSpec)) fnExactListSymmetricUptoCard

/-- THE SECOND FORM's CARD OF 'laws.FnExactCountSymmetric'. -/
def fnExactCountSymmetricUptoCard : Claim7 := { stood := { row := fnExactCountSymmetricUptoRow, standIns := [], harness := (true, "3f0456486f2f3519bc3b15385fc80018c70c7422a6642258e422c6d4a9048d3d"), looks := false }, kinds := [], alts := [], laidByText := true, laidKinds := [.data, .data, .data], laidTests := true, laidLooks := .later }
def FnExactCountSymmetricUptoCardSaid : Prop := Claim7.holds Tryd.pinned (.plain (OpenSpec.upto fnExactCountSymmetricSpec)) fnExactCountSymmetricUptoCard

/-- THE SECOND FORM's CARD OF 'laws.FnExactCountUpToAll'. -/
def fnExactCountUpToAllUptoCard : Claim7 := { stood := { row := fnExactCountUpToAllUptoRow, standIns := [], harness := (true, "3f0456486f2f3519bc3b15385fc80018c70c7422a6642258e422c6d4a9048d3d"), looks := false }, kinds := [], alts := [], laidByText := true, laidKinds := [.data, .data], laidTests := true, laidLooks := .later }
def FnExactCountUpToAllUptoCardSaid : Prop := Claim7.holds Tryd.pinned (.plain (OpenSpec.upto fnExactCountUpToAllSpec)) fnExactCountUpToAllUptoCard

/-- THE SECOND FORM's CARD OF 'laws.FnExactLeftHalf'. -/
def fnExactLeftHalfUptoCard : Claim7 := { stood := { row := fnExactLeftHalfUptoRow, standIns := [], harness := (true, "3f0456486f2f3519bc3b15385fc80018c70c7422a6642258e422c6d4a9048d3d"), looks := false }, kinds := [], alts := [], laidByText := true, laidKinds := [.data], laidTests := true, laidLooks := .later }
def FnExactLeftHalfUptoCardSaid : Prop := Claim7.holds Tryd.pinned (.plain (OpenSpec.upto fnExactLeftHalfSpec)) fnExactLeftHalfUptoCard

/-- THE SECOND FORM's CARD OF 'laws.FnExactUpperHalf'. -/
def fnExactUpperHalfUptoCard : Claim7 := { stood := { row := fnExactUpperHalfUptoRow, standIns := [], harness := (true, "3f0456486f2f3519bc3b15385fc80018c70c7422a6642258e422c6d4a9048d3d"), looks := false }, kinds := [], alts := [], laidByText := true, laidKinds := [.data], laidTests := true, laidLooks := .later }
def FnExactUpperHalfUptoCardSaid : Prop := Claim7.holds Tryd.pinned (.plain (OpenSpec.upto fnExactUpperHalfSpec)) fnExactUpperHalfUptoCard

/-- THE SECOND FORM's CARD OF 'laws.FnExactMiddleOf'. -/
def fnExactMiddleOfUptoCard : Claim7 := { stood := { row := fnExactMiddleOfUptoRow, standIns := [], harness := (true, "3f0456486f2f3519bc3b15385fc80018c70c7422a6642258e422c6d4a9048d3d"), looks := false }, kinds := [], alts := [], laidByText := true, laidKinds := [.data], laidTests := true, laidLooks := .later }
def FnExactMiddleOfUptoCardSaid : Prop := Claim7.holds Tryd.pinned (.plain (OpenSpec.upto fnExactMiddleOfSpec)) fnExactMiddleOfUptoCard

/-- THE SECOND FORM's CARD OF 'laws.FnExactAllSigns'. -/
def fnExactAllSignsUptoCard : Claim7 := { stood := { row := fnExactAllSignsUptoRow, standIns := [], harness := (true, "3f0456486f2f3519bc3b15385fc80018c70c7422a6642258e422c6d4a9048d3d"), looks := false }, kinds := [], alts := [], laidByText := true, laidKinds := [.data, .data], laidTests := true, laidLooks := .later }
def FnExactAllSignsUptoCardSaid : Prop := Claim7.holds Tryd.pinned (.plain (OpenSpec.upto fnExactAllSignsSpec)) fnExactAllSignsUptoCard
end Rows
end Go.Proofs.YtgdijjfipicodaaDoor
