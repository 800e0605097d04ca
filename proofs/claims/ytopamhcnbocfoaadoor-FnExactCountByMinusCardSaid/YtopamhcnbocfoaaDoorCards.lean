/-
  DERIVED. GIVEN WITH THE SEED: THE CARDS: each row of YtopamhcnbocfoaaDoorRows.lean that lists a variable, with what it lists TIED to the program's text (the seventh form; the later family's looks); each row that meets fmt, with fmt's text TOLD by the authors' own Lean function (tested against real Go, not proved from fmt's source: count such statements apart). THE CARD IS WHAT COUNTS. Prove the row's statement (the work); the ties are given (YtopamhcnbocfoaaDoorTie.lean); close each card by the builder's one call (the guide's Derived/Test/ToyasCard.lean, 'card_holds'). Laid BY PROGRAM, IN A SANDBOX (cutbox-door.mjs). By AI agents, Wed Nov 11 2026. No macro, syntax, notation, axiom, sorry.
-/
import Derived.Test.YtopamhcnbocfoaaDoorRows
import GoSem.ClaimSeven
namespace Go.Proofs.YtopamhcnbocfoaaDoor
namespace Rows

/-- THE TIED CARD OF 'laws.FnExactTriangleOf'. -/
def fnExactTriangleOfCard : Claim7 := { stood := { row := fnExactTriangleOfRow, standIns := [], harness := (true, "d4e1458f468c541fd588248a023f7ec2d67005c9f4b81453402f2f5efc092a99"), looks := false }, kinds := [], alts := [], laidByText := true, laidKinds := [.data, .data], laidTests := true, laidLooks := .later }
def FnExactTriangleOfCardSaid : Prop := Claim7.holds Tryd.pinned (.plain (OpenSpec.ofChange fnExactTriangleOfSpec)) fnExactTriangleOfCard

/-- THE TIED CARD OF 'laws.FnExactCountByMinus'. -/
def fnExactCountByMinusCard : Claim7 := { stood := { row := fnExactCountByMinusRow, standIns := [], harness := (true, "d4e1458f468c541fd588248a023f7ec2d67005c9f4b81453402f2f5efc092a99"), looks := false }, kinds := [], alts := [], laidByText := true, laidKinds := [.data, .data], laidTests := true, laidLooks := .later }
def FnExactCountByMinusCardSaid : Prop := Claim7.holds Tryd.pinned (.plain (OpenSpec.ofChange fnExactCountByMinusSpec)) fnExactCountByMinusCard

/-- THE TIED CARD OF 'laws.FnExactCountByInversions'. -/
def fnExactCountByInversionsCard : Claim7 := { stood := { row := fnExactCountByInversionsRow, standIns := [], harness := (true, "d4e1458f468c541fd588248a023f7ec2d67005c9f4b81453402f2f5efc092a99"), looks := false }, kinds := [], alts := [], laidByText := true, laidKinds := [.data, .data], laidTests := true, laidLooks := .later }
def FnExactCountByInversionsCardSaid : Prop := Claim7.holds Tryd.pinned (.plain (OpenSpec.ofChange fnExactCountByInversionsSpec)) fnExactCountByInversionsCard

/-- THE SECOND FORM's CARD OF 'laws.FnExactTriangleOf'. -/
def fnExactTriangleOfUptoCard : Claim7 := { stood := { row := fnExactTriangleOfUptoRow, standIns := [], harness := (true, "d4e1458f468c541fd588248a023f7ec2d67005c9f4b81453402f2f5efc092a99"), looks := false }, kinds := [], alts := [], laidByText := true, laidKinds := [.data, .data], laidTests := true, laidLooks := .later }
def FnExactTriangleOfUptoCardSaid : Prop := Claim7.holds Tryd.pinned (.plain (OpenSpec.upto fnExactTriangleOfSpec)) fnExactTriangleOfUptoCard

/-- THE SECOND FORM's CARD OF 'laws.FnExactCountByMinus'. -/
def fnExactCountByMinusUptoCard : Claim7 := { stood := { row := fnExactCountByMinusUptoRow, standIns := [], harness := (true, "d4e1458f468c541fd588248a023f7ec2d67005c9f4b81453402f2f5efc092a99"), looks := false }, kinds := [], alts := [], laidByText := true, laidKinds := [.data, .data], laidTests := true, laidLooks := .later }
def FnExactCountByMinusUptoCardSaid : Prop := Claim7.holds Tryd.pinned (.plain (OpenSpec.upto fnExactCountByMinusSpec)) fnExactCountByMinusUptoCard

/-- THE SECOND FORM's CARD OF 'laws.FnExactCountByInversions'. -/
def fnExactCountByInversionsUptoCard : Claim7 := { stood := { row := fnExactCountByInversionsUptoRow, standIns := [], harness := (true, "d4e1458f468c541fd588248a023f7ec2d67005c9f4b81453402f2f5efc092a99"), looks := false }, kinds := [], alts := [], laidByText := true, laidKinds := [.data, .data], laidTests := true, laidLooks := .later }
def FnExactCountByInversionsUptoCardSaid : Prop := Claim7.holds Tryd.pinned (.plain (OpenSpec.upto fnExactCountByInversionsSpec)) fnExactCountByInversionsUptoCard
end Rows
end Go.Proofs.YtopamhcnbocfoaaDoor
