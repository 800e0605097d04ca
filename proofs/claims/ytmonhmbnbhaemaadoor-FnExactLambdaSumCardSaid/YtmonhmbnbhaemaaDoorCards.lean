/-
  DERIVED. GIVEN WITH THE SEED: THE CARDS: each row of YtmonhmbnbhaemaaDoorRows.lean that lists a variable, with what it lists TIED to the program's text (the seventh form; the later family's looks); each row that meets fmt, with fmt's text TOLD by the authors' own Lean function (tested against real Go, not proved from fmt's source: count such statements apart). THE CARD IS WHAT COUNTS. Prove the row's statement (the work); the ties are given (YtmonhmbnbhaemaaDoorTie.lean); close each card by the builder's one call (the guide's Derived/Test/ToyasCard.lean, 'card_holds'). Laid BY PROGRAM, IN A SANDBOX (cutbox-door.mjs). By AI agents, Wed Nov 11 2026. No macro, syntax, notation, axiom, sorry.
-/
import Derived.Test.YtmonhmbnbhaemaaDoorRows
import GoSem.ClaimSeven
namespace Go.Proofs.YtmonhmbnbhaemaaDoor
namespace Rows

/-- THE TIED CARD OF 'laws.FnExactLambdaSum'. -/
def fnExactLambdaSumCard : Claim7 := { stood := { row := fnExactLambdaSumRow, standIns := [], harness := (true, "405770462b73499cfffa08df44a2d2a5085e69c49748e2e66bd344955a0afbb0"), looks := false }, kinds := [], alts := [], laidByText := true, laidKinds := [.data, .data], laidTests := true, laidLooks := .later }
def FnExactLambdaSumCardSaid : Prop := Claim7.holds Tryd.pinned (.plain (OpenSpec.ofChange fnExactLambdaSumSpec)) fnExactLambdaSumCard

/-- THE SECOND FORM's CARD OF 'laws.FnExactLambdaSum'. -/
def fnExactLambdaSumUptoCard : Claim7 := { stood := { row := fnExactLambdaSumUptoRow, standIns := [], harness := (true, "405770462b73499cfffa08df44a2d2a5085e69c49748e2e66bd344955a0afbb0"), looks := false }, kinds := [], alts := [], laidByText := true, laidKinds := [.data, .data], laidTests := true, laidLooks := .later }
def FnExactLambdaSumUptoCardSaid : Prop := Claim7.holds Tryd.pinned (.plain (OpenSpec.upto fnExactLambdaSumSpec)) fnExactLambdaSumUptoCard
end Rows
end Go.Proofs.YtmonhmbnbhaemaaDoor
