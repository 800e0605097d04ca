/-
  DERIVED. GIVEN WITH THE SEED: THE CARDS: each row of YtmcgnbbobhfkpaaDoorRows.lean that lists a variable, with what it lists TIED to the program's text (the seventh form; the later family's looks); each row that meets fmt, with fmt's text TOLD by the authors' own Lean function (tested against real Go, not proved from fmt's source: count such statements apart). THE CARD IS WHAT COUNTS. Prove the row's statement (the work); the ties are given (YtmcgnbbobhfkpaaDoorTie.lean); close each card by the builder's one call (the guide's Derived/Test/ToyasCard.lean, 'card_holds'). Laid BY PROGRAM, IN A SANDBOX (cutbox-door.mjs). By AI agents, Wed Nov 11 2026. No macro, syntax, notation, axiom, sorry.
-/
import Derived.Test.YtmcgnbbobhfkpaaDoorRows
import GoSem.ClaimSeven
namespace Go.Proofs.YtmcgnbbobhfkpaaDoor
namespace Rows

/-- THE TIED CARD OF 'laws.FnSignsCounted'. -/
def fnSignsCountedCard : Claim7 := { stood := { row := fnSignsCountedRow, standIns := [], harness := (true, "bc42c230b7c2e02353308ec2c88d6585881c03766d3b3fb857502b386d44d92c"), looks := false }, kinds := [], alts := [], laidByText := true, laidKinds := [.data, .data], laidTests := true, laidLooks := .later }
def FnSignsCountedCardSaid : Prop := Claim7.holds Tryd.pinned (.plain (OpenSpec.ofChange fnSignsCountedSpec)) fnSignsCountedCard

/-- THE SECOND FORM's CARD OF 'laws.FnSignsCounted'. -/
def fnSignsCountedUptoCard : Claim7 := { stood := { row := fnSignsCountedUptoRow, standIns := [], harness := (true, "bc42c230b7c2e02353308ec2c88d6585881c03766d3b3fb857502b386d44d92c"), looks := false }, kinds := [], alts := [], laidByText := true, laidKinds := [.data, .data], laidTests := true, laidLooks := .later }
def FnSignsCountedUptoCardSaid : Prop := Claim7.holds Tryd.pinned (.plain (OpenSpec.upto fnSignsCountedSpec)) fnSignsCountedUptoCard
end Rows
end Go.Proofs.YtmcgnbbobhfkpaaDoor
