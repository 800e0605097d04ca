/-
  DERIVED. GIVEN WITH THE SEED: THE CARDS: each row of YtcifcombbdblgaaDoorRows.lean that lists a variable, with what it lists TIED to the program's text (the seventh form; the later family's looks); each row that meets fmt, with fmt's text TOLD by the authors' own Lean function (tested against real Go, not proved from fmt's source: count such statements apart). THE CARD IS WHAT COUNTS. Prove the row's statement (the work); the ties are given (YtcifcombbdblgaaDoorTie.lean); close each card by the builder's one call (the guide's Derived/Test/ToyasCard.lean, 'card_holds'). Laid BY PROGRAM, IN A SANDBOX (cutbox-door.mjs). By AI agents, Wed Nov 11 2026. No macro, syntax, notation, axiom, sorry.
-/
import Derived.Test.YtcifcombbdblgaaDoorRows
import GoSem.ClaimSeven
namespace Go.Proofs.YtcifcombbdblgaaDoor
namespace Rows

/-- THE TIED CARD OF 'laws.FnExactTriangleOf'. -/
def fnExactTriangleOfCard : Claim7 := { stood := { row := fnExactTriangleOfRow, standIns := [], harness := (true, "418f7a71872ef7a4a6ff74c8e0293308d7195bd158725419bacbe53af912b66b"), looks := false }, kinds := [], alts := [], laidByText := true, laidKinds := [.data, .data], laidTests := true, laidLooks := .later }
def FnExactTriangleOfCardSaid : Prop := Claim7.holds Tryd.pinned (.plain (OpenSpec.ofChange fnExactTriangleOfSpec)) fnExactTriangleOfCard

/-- THE TIED CARD OF 'laws.FnExactRowsAbove'. -/
def fnExactRowsAboveCard : Claim7 := { stood := { row := fnExactRowsAboveRow, standIns := [], harness := (true, "418f7a71872ef7a4a6ff74c8e0293308d7195bd158725419bacbe53af912b66b"), looks := false }, kinds := [], alts := [], laidByText := true, laidKinds := [.data, .data], laidTests := true, laidLooks := .later }
def FnExactRowsAboveCardSaid : Prop := Claim7.holds Tryd.pinned (.plain (OpenSpec.ofChange fnExactRowsAboveSpec)) fnExactRowsAboveCard

/-- THE TIED CARD OF 'laws.FnExactCountUnder'. -/
def fnExactCountUnderCard : Claim7 := { stood := { row := fnExactCountUnderRow, standIns := [], harness := (true, "418f7a71872ef7a4a6ff74c8e0293308d7195bd158725419bacbe53af912b66b"), looks := false }, kinds := [], alts := [], laidByText := true, laidKinds := [.data, .data], laidTests := true, laidLooks := .later }
def FnExactCountUnderCardSaid : Prop := Claim7.holds Tryd.pinned (.plain (OpenSpec.ofChange fnExactCountUnderSpec)) fnExactCountUnderCard

/-- THE TIED CARD OF 'laws.FnExactAllSigns'. -/
def fnExactAllSignsCard : Claim7 := { stood := { row := fnExactAllSignsRow, standIns := [], harness := (true, "418f7a71872ef7a4a6ff74c8e0293308d7195bd158725419bacbe53af912b66b"), looks := false }, kinds := [], alts := [], laidByText := true, laidKinds := [.data, .data], laidTests := true, laidLooks := .later }
def FnExactAllSignsCardSaid : Prop := Claim7.holds Tryd.pinned (.plain (OpenSpec.ofChange fnExactAllSignsSpec)) fnExactAllSignsCard

/-- THE TIED CARD OF 'laws.FnExactRankSigns'. -/
def fnExactRankSignsCard : Claim7 := { stood := { row := fnExactRankSignsRow, standIns := [], harness := (true, "418f7a71872ef7a4a6ff74c8e0293308d7195bd158725419bacbe53af912b66b"), looks := false }, kinds := [], alts := [], laidByText := true, laidKinds := [.data, .data], laidTests := true, laidLooks := .later }
def FnExactRankSignsCardSaid : Prop := Claim7.holds Tryd.pinned (.plain (OpenSpec.ofChange fnExactRankSignsSpec)) fnExactRankSignsCard

/-- THE TIED CARD OF 'laws.FnExactSignsAt'. -/
def fnExactSignsAtCard : Claim7 := { stood := { row := fnExactSignsAtRow, standIns := [], harness := (true, "418f7a71872ef7a4a6ff74c8e0293308d7195bd158725419bacbe53af912b66b"), looks := false }, kinds := [], alts := [], laidByText := true, laidKinds := [.data, .data], laidTests := true, laidLooks := .later }
def FnExactSignsAtCardSaid : Prop := Claim7.holds Tryd.pinned (.plain (OpenSpec.ofChange fnExactSignsAtSpec)) fnExactSignsAtCard

/-- THE TIED CARD OF 'laws.FnExactNextSigns'. -/
def fnExactNextSignsCard : Claim7 := { stood := { row := fnExactNextSignsRow, standIns := [], harness := (true, "418f7a71872ef7a4a6ff74c8e0293308d7195bd158725419bacbe53af912b66b"), looks := false }, kinds := [], alts := [], laidByText := true, laidKinds := [.data, .data], laidTests := true, laidLooks := .later }
def FnExactNextSignsCardSaid : Prop := Claim7.holds Tryd.pinned (.plain (OpenSpec.ofChange fnExactNextSignsSpec)) fnExactNextSignsCard

/-- THE TIED CARD OF 'laws.FnExactCountByFirst'. -/
def fnExactCountByFirstCard : Claim7 := { stood := { row := fnExactCountByFirstRow, standIns := [], harness := (true, "418f7a71872ef7a4a6ff74c8e0293308d7195bd158725419bacbe53af912b66b"), looks := false }, kinds := [], alts := [], laidByText := true, laidKinds := [.data, .data], laidTests := true, laidLooks := .later }
def FnExactCountByFirstCardSaid : Prop := Claim7.holds Tryd.pinned (.plain (OpenSpec.ofChange fnExactCountByFirstSpec)) fnExactCountByFirstCard

/-- THE TIED CARD OF 'laws.FnExactCountByMinus'. -/
def fnExactCountByMinusCard : Claim7 := { stood := { row := fnExactCountByMinusRow, standIns := [], harness := (true, "418f7a71872ef7a4a6ff74c8e0293308d7195bd158725419bacbe53af912b66b"), looks := false }, kinds := [], alts := [], laidByText := true, laidKinds := [.data, .data], laidTests := true, laidLooks := .later }
def FnExactCountByMinusCardSaid : Prop := Claim7.holds Tryd.pinned (.plain (OpenSpec.ofChange fnExactCountByMinusSpec)) fnExactCountByMinusCard

/-- THE TIED CARD OF 'laws.FnExactCountByInversions'. -/
def fnExactCountByInversionsCard : Claim7 := { stood := { row := fnExactCountByInversionsRow, standIns := [], harness := (true, "418f7a71872ef7a4a6ff74c8e0293308d7195bd158725419bacbe53af912b66b"), looks := false }, kinds := [], alts := [], laidByText := true, laidKinds := [.data, .data], laidTests := true, laidLooks := .later }
def FnExactCountByInversionsCardSaid : Prop := Claim7.holds Tryd.pinned (.plain (OpenSpec.ofChange fnExactCountByInversionsSpec)) fnExactCountByInversionsCard

/-- THE SECOND FORM's CARD OF 'laws.FnExactTriangleOf'. -/
def fnExactTriangleOfUptoCard : Claim7 := { stood := { row := fnExactTriangleOfUptoRow, standIns := [], harness := (true, "418f7a71872ef7a4a6ff74c8e0293308d7195bd158725419bacbe53af912b66b"), looks := false }, kinds := [], alts := [], laidByText := true, laidKinds := [.data, .data], laidTests := true, laidLooks := .later }
def FnExactTriangleOfUptoCardSaid : Prop := Claim7.holds Tryd.pinned (.plain (OpenSpec.upto fnExactTriangleOfSpec)) fnExactTriangleOfUptoCard

/-- THE SECOND FORM's CARD OF 'laws.FnExactRowsAbove'. -/
def fnExactRowsAboveUptoCard : Claim7 := { stood := { row := fnExactRowsAboveUptoRow, standIns := [], harness := (true, "418f7a71872ef7a4a6ff74c8e0293308d7195bd158725419bacbe53af912b66b"), looks := false }, kinds := [], alts := [], laidByText := true, laidKinds := [.data, .data], laidTests := true, laidLooks := .later }
def FnExactRowsAboveUptoCardSaid : Prop := Claim7.holds Tryd.pinned (.plain (OpenSpec.upto fnExactRowsAboveSpec)) fnExactRowsAboveUptoCard

/-- THE SECOND FORM's CARD OF 'laws.FnExactCountUnder'. -/
def fnExactCountUnderUptoCard : Claim7 := { stood := { row := fnExactCountUnderUptoRow, standIns := [], harness := (true, "418f7a71872ef7a4a6ff74c8e0293308d7195bd158725419bacbe53af912b66b"), looks := false }, kinds := [], alts := [], laidByText := true, laidKinds := [.data, .data], laidTests := true, laidLooks := .later }
def FnExactCountUnderUptoCardSaid : Prop := Claim7.holds Tryd.pinned (.plain (OpenSpec.upto fnExactCountUnderSpec)) fnExactCountUnderUptoCard

/-- THE SECOND FORM's CARD OF 'laws.FnExactAllSigns'. -/
def fnExactAllSignsUptoCard : Claim7 := { stood := { row := fnExactAllSignsUptoRow, standIns := [], harness := (true, "418f7a71872ef7a4a6ff74c8e0293308d7195bd158725419bacbe53af912b66b"), looks := false }, kinds := [], alts := [], laidByText := true, laidKinds := [.data, .data], laidTests := true, laidLooks := .later }
def FnExactAllSignsUptoCardSaid : Prop := Claim7.holds Tryd.pinned (.plain (OpenSpec.upto fnExactAllSignsSpec)) fnExactAllSignsUptoCard

/-- THE SECOND FORM's CARD OF 'laws.FnExactRankSigns'. -/
def fnExactRankSignsUptoCard : Claim7 := { stood := { row := fnExactRankSignsUptoRow, standIns := [], harness := (true, "418f7a71872ef7a4a6ff74c8e0293308d7195bd158725419bacbe53af912b66b"), looks := false }, kinds := [], alts := [], laidByText := true, laidKinds := [.data, .data], laidTests := true, laidLooks := .later }
def FnExactRankSignsUptoCardSaid : Prop := Claim7.holds Tryd.pinned (.plain (OpenSpec.upto fnExactRankSignsSpec)) fnExactRankSignsUptoCard

/-- THE SECOND FORM's CARD OF 'laws.FnExactSignsAt'. -/
def fnExactSignsAtUptoCard : Claim7 := { stood := { row := fnExactSignsAtUptoRow, standIns := [], harness := (true, "418f7a71872ef7a4a6ff74c8e0293308d7195bd158725419bacbe53af912b66b"), looks := false }, kinds := [], alts := [], laidByText := true, laidKinds := [.data, .data], laidTests := true, laidLooks := .later }
def FnExactSignsAtUptoCardSaid : Prop := Claim7.holds Tryd.pinned (.plain (OpenSpec.upto fnExactSignsAtSpec)) fnExactSignsAtUptoCard

/-- THE SECOND FORM's CARD OF 'laws.FnExactNextSigns'. -/
def fnExactNextSignsUptoCard : Claim7 := { stood := { row := fnExactNextSignsUptoRow, standIns := [], harness := (true, "418f7a71872ef7a4a6ff74c8e0293308d7195bd158725419bacbe53af912b66b"), looks := false }, kinds := [], alts := [], laidByText := true, laidKinds := [.data, .data], laidTests := true, laidLooks := .later }
def FnExactNextSignsUptoCardSaid : Prop := Claim7.holds Tryd.pinned (.plain (OpenSpec.upto fnExactNextSignsSpec)) fnExactNextSignsUptoCard

/-- THE SECOND FORM's CARD OF 'laws.FnExactCountByFirst'. -/
def fnExactCountByFirstUptoCard : Claim7 := { stood := { row := fnExactCountByFirstUptoRow, standIns := [], harness := (true, "418f7a71872ef7a4a6ff74c8e0293308d7195bd158725419bacbe53af912b66b"), looks := false }, kinds := [], alts := [], laidByText := true, laidKinds := [.data, .data], laidTests := true, laidLooks := .later }
def FnExactCountByFirstUptoCardSaid : Prop := Claim7.holds Tryd.pinned (.plain (OpenSpec.upto fnExactCountByFirstSpec)) fnExactCountByFirstUptoCard

/-- THE SECOND FORM's CARD OF 'laws.FnExactCountByMinus'. -/
def fnExactCountByMinusUptoCard : Claim7 := { stood := { row := fnExactCountByMinusUptoRow, standIns := [], harness := (true, "418f7a71872ef7a4a6ff74c8e0293308d7195bd158725419bacbe53af912b66b"), looks := false }, kinds := [], alts := [], laidByText := true, laidKinds := [.data, .data], laidTests := true, laidLooks := .later }
def FnExactCountByMinusUptoCardSaid : Prop := Claim7.holds Tryd.pinned (.plain (OpenSpec.upto fnExactCountByMinusSpec)) fnExactCountByMinusUptoCard

/-- THE SECOND FORM's CARD OF 'laws.FnExactCountByInversions'. -/
def fnExactCountByInversionsUptoCard : Claim7 := { stood := { row := fnExactCountByInversionsUptoRow, standIns := [], harness := (true, "418f7a71872ef7a4a6ff74c8e0293308d7195bd158725419bacbe53af912b66b"), looks := false }, kinds := [], alts := [], laidByText := true, laidKinds := [.data, .data], laidTests := true, laidLooks := .later }
def FnExactCountByInversionsUptoCardSaid : Prop := Claim7.holds Tryd.pinned (.plain (OpenSpec.upto fnExactCountByInversionsSpec)) fnExactCountByInversionsUptoCard
end Rows
end Go.Proofs.YtcifcombbdblgaaDoor
