/-
  DERIVED. GIVEN WITH THE SEED: THE CARDS: each row of YtmkldodkpijfjaaDoorRows.lean that lists a variable, with what it lists TIED to the program's text (the seventh form; the later family's looks); each row that meets fmt, with fmt's text TOLD by the authors' own Lean function (tested against real Go, not proved from fmt's source: count such statements apart). THE CARD IS WHAT COUNTS. Prove the row's statement (the work); the ties are given (YtmkldodkpijfjaaDoorTie.lean); close each card by the builder's one call (the guide's Derived/Test/ToyasCard.lean, 'card_holds'). Laid BY PROGRAM, IN A SANDBOX (cutbox-door.mjs). By AI agents, Wed Nov 11 2026. No macro, syntax, notation, axiom, sorry.
-/
import Derived.Test.YtmkldodkpijfjaaDoorRows
import GoSem.ClaimSeven
namespace Go.Proofs.YtmkldodkpijfjaaDoor
namespace Rows

/-- THE TIED CARD OF 'laws.FnExactMinusTable'. -/
def fnExactMinusTableCard : Claim7 := { stood := { row := fnExactMinusTableRow, standIns := [], harness := (true, "1d372edf620e3453c1e6696bd2654eb76b53e1b32a5b295150afe1384fc261b2"), looks := false }, kinds := [], alts := [], laidByText := true, laidKinds := [.data, .data], laidTests := true, laidLooks := .later }
def FnExactMinusTableCardSaid : Prop := Claim7.holds Tryd.pinned (.plain (OpenSpec.ofChange fnExactMinusTableSpec)) fnExactMinusTableCard

/-- THE TIED CARD OF 'laws.FnExactInversionTable'. -/
def fnExactInversionTableCard : Claim7 := { stood := { row := fnExactInversionTableRow, standIns := [], harness := (true, "1d372edf620e3453c1e6696bd2654eb76b53e1b32a5b295150afe1384fc261b2"), looks := false }, kinds := [], alts := [], laidByText := true, laidKinds := [.data, .data], laidTests := true, laidLooks := .later }
def FnExactInversionTableCardSaid : Prop := Claim7.holds Tryd.pinned (.plain (OpenSpec.ofChange fnExactInversionTableSpec)) fnExactInversionTableCard

/-- THE TIED CARD OF 'laws.FnExactJointTable'. -/
def fnExactJointTableCard : Claim7 := { stood := { row := fnExactJointTableRow, standIns := [], harness := (true, "1d372edf620e3453c1e6696bd2654eb76b53e1b32a5b295150afe1384fc261b2"), looks := false }, kinds := [], alts := [], laidByText := true, laidKinds := [.data, .data], laidTests := true, laidLooks := .later }
def FnExactJointTableCardSaid : Prop := Claim7.holds Tryd.pinned (.plain (OpenSpec.ofChange fnExactJointTableSpec)) fnExactJointTableCard

/-- THE TIED CARD OF 'laws.FnExactAllSigns'. -/
def fnExactAllSignsCard : Claim7 := { stood := { row := fnExactAllSignsRow, standIns := [], harness := (true, "1d372edf620e3453c1e6696bd2654eb76b53e1b32a5b295150afe1384fc261b2"), looks := false }, kinds := [], alts := [], laidByText := true, laidKinds := [.data, .data], laidTests := true, laidLooks := .later }
def FnExactAllSignsCardSaid : Prop := Claim7.holds Tryd.pinned (.plain (OpenSpec.ofChange fnExactAllSignsSpec)) fnExactAllSignsCard

/-- THE TIED CARD OF 'laws.FnExactRankSigns'. -/
def fnExactRankSignsCard : Claim7 := { stood := { row := fnExactRankSignsRow, standIns := [], harness := (true, "1d372edf620e3453c1e6696bd2654eb76b53e1b32a5b295150afe1384fc261b2"), looks := false }, kinds := [], alts := [], laidByText := true, laidKinds := [.data, .data], laidTests := true, laidLooks := .later }
def FnExactRankSignsCardSaid : Prop := Claim7.holds Tryd.pinned (.plain (OpenSpec.ofChange fnExactRankSignsSpec)) fnExactRankSignsCard

/-- THE TIED CARD OF 'laws.FnExactSignsAt'. -/
def fnExactSignsAtCard : Claim7 := { stood := { row := fnExactSignsAtRow, standIns := [], harness := (true, "1d372edf620e3453c1e6696bd2654eb76b53e1b32a5b295150afe1384fc261b2"), looks := false }, kinds := [], alts := [], laidByText := true, laidKinds := [.data, .data], laidTests := true, laidLooks := .later }
def FnExactSignsAtCardSaid : Prop := Claim7.holds Tryd.pinned (.plain (OpenSpec.ofChange fnExactSignsAtSpec)) fnExactSignsAtCard

/-- THE TIED CARD OF 'laws.FnExactNextSigns'. -/
def fnExactNextSignsCard : Claim7 := { stood := { row := fnExactNextSignsRow, standIns := [], harness := (true, "1d372edf620e3453c1e6696bd2654eb76b53e1b32a5b295150afe1384fc261b2"), looks := false }, kinds := [], alts := [], laidByText := true, laidKinds := [.data, .data], laidTests := true, laidLooks := .later }
def FnExactNextSignsCardSaid : Prop := Claim7.holds Tryd.pinned (.plain (OpenSpec.ofChange fnExactNextSignsSpec)) fnExactNextSignsCard

/-- THE SECOND FORM's CARD OF 'laws.FnExactMinusTable'. -/
def fnExactMinusTableUptoCard : Claim7 := { stood := { row := fnExactMinusTableUptoRow, standIns := [], harness := (true, "1d372edf620e3453c1e6696bd2654eb76b53e1b32a5b295150afe1384fc261b2"), looks := false }, kinds := [], alts := [], laidByText := true, laidKinds := [.data, .data], laidTests := true, laidLooks := .later }
def FnExactMinusTableUptoCardSaid : Prop := Claim7.holds Tryd.pinned (.plain (OpenSpec.upto fnExactMinusTableSpec)) fnExactMinusTableUptoCard

/-- THE SECOND FORM's CARD OF 'laws.FnExactInversionTable'. -/
def fnExactInversionTableUptoCard : Claim7 := { stood := { row := fnExactInversionTableUptoRow, standIns := [], harness := (true, "1d372edf620e3453c1e6696bd2654eb76b53e1b32a5b295150afe1384fc261b2"), looks := false }, kinds := [], alts := [], laidByText := true, laidKinds := [.data, .data], laidTests := true, laidLooks := .later }
def FnExactInversionTableUptoCardSaid : Prop := Claim7.holds Tryd.pinned (.plain (OpenSpec.upto fnExactInversionTableSpec)) fnExactInversionTableUptoCard

/-- THE SECOND FORM's CARD OF 'laws.FnExactJointTable'. -/
def fnExactJointTableUptoCard : Claim7 := { stood := { row := fnExactJointTableUptoRow, standIns := [], harness := (true, "1d372edf620e3453c1e6696bd2654eb76b53e1b32a5b295150afe1384fc261b2"), looks := false }, kinds := [], alts := [], laidByText := true, laidKinds := [.data, .data], laidTests := true, laidLooks := .later }
def FnExactJointTableUptoCardSaid : Prop := Claim7.holds Tryd.pinned (.plain (OpenSpec.upto fnExactJointTableSpec)) fnExactJointTableUptoCard

/-- THE SECOND FORM's CARD OF 'laws.FnExactAllSigns'. -/
def fnExactAllSignsUptoCard : Claim7 := { stood := { row := fnExactAllSignsUptoRow, standIns := [], harness := (true, "1d372edf620e3453c1e6696bd2654eb76b53e1b32a5b295150afe1384fc261b2"), looks := false }, kinds := [], alts := [], laidByText := true, laidKinds := [.data, .data], laidTests := true, laidLooks := .later }
def FnExactAllSignsUptoCardSaid : Prop := Claim7.holds Tryd.pinned (.plain (OpenSpec.upto fnExactAllSignsSpec)) fnExactAllSignsUptoCard

/-- THE SECOND FORM's CARD OF 'laws.FnExactRankSigns'. -/
def fnExactRankSignsUptoCard : Claim7 := { stood := { row := fnExactRankSignsUptoRow, standIns := [], harness := (true, "1d372edf620e3453c1e6696bd2654eb76b53e1b32a5b295150afe1384fc261b2"), looks := false }, kinds := [], alts := [], laidByText := true, laidKinds := [.data, .data], laidTests := true, laidLooks := .later }
def FnExactRankSignsUptoCardSaid : Prop := Claim7.holds Tryd.pinned (.plain (OpenSpec.upto fnExactRankSignsSpec)) fnExactRankSignsUptoCard

/-- THE SECOND FORM's CARD OF 'laws.FnExactSignsAt'. -/
def fnExactSignsAtUptoCard : Claim7 := { stood := { row := fnExactSignsAtUptoRow, standIns := [], harness := (true, "1d372edf620e3453c1e6696bd2654eb76b53e1b32a5b295150afe1384fc261b2"), looks := false }, kinds := [], alts := [], laidByText := true, laidKinds := [.data, .data], laidTests := true, laidLooks := .later }
def FnExactSignsAtUptoCardSaid : Prop := Claim7.holds Tryd.pinned (.plain (OpenSpec.upto fnExactSignsAtSpec)) fnExactSignsAtUptoCard

/-- THE SECOND FORM's CARD OF 'laws.FnExactNextSigns'. -/
def fnExactNextSignsUptoCard : Claim7 := { stood := { row := fnExactNextSignsUptoRow, standIns := [], harness := (true, "1d372edf620e3453c1e6696bd2654eb76b53e1b32a5b295150afe1384fc261b2"), looks := false }, kinds := [], alts := [], laidByText := true, laidKinds := [.data, .data], laidTests := true, laidLooks := .later }
def FnExactNextSignsUptoCardSaid : Prop := Claim7.holds Tryd.pinned (.plain (OpenSpec.upto fnExactNextSignsSpec)) fnExactNextSignsUptoCard
end Rows
end Go.Proofs.YtmkldodkpijfjaaDoor
