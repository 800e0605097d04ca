/-
  DERIVED. GIVEN WITH THE SEED: THE CARDS: each row of YtjkpokpidpampaaDoorRows.lean that lists a variable, with what it lists TIED to the program's text (the seventh form; the later family's looks); each row that meets fmt, with fmt's text TOLD by the authors' own Lean function (tested against real Go, not proved from fmt's source: count such statements apart). THE CARD IS WHAT COUNTS. Prove the row's statement (the work); the ties are given (YtjkpokpidpampaaDoorTie.lean); close each card by the builder's one call (the guide's Derived/Test/ToyasCard.lean, 'card_holds'). Laid BY PROGRAM, IN A SANDBOX (cutbox-door.mjs). By AI agents, Wed Nov 11 2026. No macro, syntax, notation, axiom, sorry.
-/
import Derived.Test.YtjkpokpidpampaaDoorRows
import GoSem.ClaimSeven
namespace Go.Proofs.YtjkpokpidpampaaDoor
namespace Rows

/-- THE TIED CARD OF 'laws.FnExactCountBetween'. -/
def fnExactCountBetweenCard : Claim7 := { stood := { row := fnExactCountBetweenRow, standIns := [], harness := (true, "2f4c1745c4bafb94a9083d69b96b228c2dcde1ef2f3efe6f46e3c03ce2a17647"), looks := false }, kinds := [], alts := [], laidByText := true, laidKinds := [.data, .data], laidTests := true, laidLooks := .later }
def FnExactCountBetweenCardSaid : Prop := Claim7.holds Tryd.pinned (.plain (OpenSpec.ofChange fnExactCountBetweenSpec)) fnExactCountBetweenCard

/-- THE TIED CARD OF 'laws.FnExactSetWeight'. -/
def fnExactSetWeightCard : Claim7 := { stood := { row := fnExactSetWeightRow, standIns := [], harness := (true, "2f4c1745c4bafb94a9083d69b96b228c2dcde1ef2f3efe6f46e3c03ce2a17647"), looks := false }, kinds := [], alts := [], laidByText := true, laidKinds := [.data, .data], laidTests := true, laidLooks := .later }
def FnExactSetWeightCardSaid : Prop := Claim7.holds Tryd.pinned (.plain (OpenSpec.ofChange fnExactSetWeightSpec)) fnExactSetWeightCard

/-- THE TIED CARD OF 'laws.FnExactSetSum'. -/
def fnExactSetSumCard : Claim7 := { stood := { row := fnExactSetSumRow, standIns := [], harness := (true, "2f4c1745c4bafb94a9083d69b96b228c2dcde1ef2f3efe6f46e3c03ce2a17647"), looks := false }, kinds := [], alts := [], laidByText := true, laidKinds := [.data, .data], laidTests := true, laidLooks := .later }
def FnExactSetSumCardSaid : Prop := Claim7.holds Tryd.pinned (.plain (OpenSpec.ofChange fnExactSetSumSpec)) fnExactSetSumCard

/-- THE SECOND FORM's CARD OF 'laws.FnExactCountBetween'. -/
def fnExactCountBetweenUptoCard : Claim7 := { stood := { row := fnExactCountBetweenUptoRow, standIns := [], harness := (true, "2f4c1745c4bafb94a9083d69b96b228c2dcde1ef2f3efe6f46e3c03ce2a17647"), looks := false }, kinds := [], alts := [], laidByText := true, laidKinds := [.data, .data], laidTests := true, laidLooks := .later }
def FnExactCountBetweenUptoCardSaid : Prop := Claim7.holds Tryd.pinned (.plain (OpenSpec.upto fnExactCountBetweenSpec)) fnExactCountBetweenUptoCard

/-- THE SECOND FORM's CARD OF 'laws.FnExactSetWeight'. -/
def fnExactSetWeightUptoCard : Claim7 := { stood := { row := fnExactSetWeightUptoRow, standIns := [], harness := (true, "2f4c1745c4bafb94a9083d69b96b228c2dcde1ef2f3efe6f46e3c03ce2a17647"), looks := false }, kinds := [], alts := [], laidByText := true, laidKinds := [.data, .data], laidTests := true, laidLooks := .later }
def FnExactSetWeightUptoCardSaid : Prop := Claim7.holds Tryd.pinned (.plain (OpenSpec.upto fnExactSetWeightSpec)) fnExactSetWeightUptoCard

/-- THE SECOND FORM's CARD OF 'laws.FnExactSetSum'. -/
def fnExactSetSumUptoCard : Claim7 := { stood := { row := fnExactSetSumUptoRow, standIns := [], harness := (true, "2f4c1745c4bafb94a9083d69b96b228c2dcde1ef2f3efe6f46e3c03ce2a17647"), looks := false }, kinds := [], alts := [], laidByText := true, laidKinds := [.data, .data], laidTests := true, laidLooks := .later }
def FnExactSetSumUptoCardSaid : Prop := Claim7.holds Tryd.pinned (.plain (OpenSpec.upto fnExactSetSumSpec)) fnExactSetSumUptoCard
end Rows
end Go.Proofs.YtjkpokpidpampaaDoor
