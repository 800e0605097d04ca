/-
  DERIVED. GIVEN WITH THE SEED: THE CARDS: each row of YtnhkclnloiiihaaDoorRows.lean that lists a variable, with what it lists TIED to the program's text (the seventh form; the later family's looks); each row that meets fmt, with fmt's text TOLD by the authors' own Lean function (tested against real Go, not proved from fmt's source: count such statements apart). THE CARD IS WHAT COUNTS. Prove the row's statement (the work); the ties are given (YtnhkclnloiiihaaDoorTie.lean); close each card by the builder's one call (the guide's Derived/Test/ToyasCard.lean, 'card_holds'). Laid BY PROGRAM, IN A SANDBOX (cutbox-door.mjs). By AI agents, Wed Nov 11 2026. No macro, syntax, notation, axiom, sorry.
-/
import Derived.Test.YtnhkclnloiiihaaDoorRows
import GoSem.ClaimSeven
namespace Go.Proofs.YtnhkclnloiiihaaDoor
namespace Rows

/-- THE TIED CARD OF 'laws.FnTablesOfWeights'. -/
def fnTablesOfWeightsCard : Claim7 := { stood := { row := fnTablesOfWeightsRow, standIns := [], harness := (true, "443e08411a6692a86c2c8a7963c00545c83b7c2a59e9589367df21731b162287"), looks := false }, kinds := [], alts := [], laidByText := true, laidKinds := [.data, .data], laidTests := true, laidLooks := .later }
def FnTablesOfWeightsCardSaid : Prop := Claim7.holds Tryd.pinned (.plain (OpenSpec.ofChange fnTablesOfWeightsSpec)) fnTablesOfWeightsCard

/-- THE TIED CARD OF 'laws.FnTrianglesCounted'. -/
def fnTrianglesCountedCard : Claim7 := { stood := { row := fnTrianglesCountedRow, standIns := [], harness := (true, "443e08411a6692a86c2c8a7963c00545c83b7c2a59e9589367df21731b162287"), looks := false }, kinds := [], alts := [], laidByText := true, laidKinds := [.data, .data], laidTests := true, laidLooks := .later }
def FnTrianglesCountedCardSaid : Prop := Claim7.holds Tryd.pinned (.plain (OpenSpec.ofChange fnTrianglesCountedSpec)) fnTrianglesCountedCard

/-- THE TIED CARD OF 'laws.FnTrianglesAreMatrices'. -/
def fnTrianglesAreMatricesCard : Claim7 := { stood := { row := fnTrianglesAreMatricesRow, standIns := [], harness := (true, "443e08411a6692a86c2c8a7963c00545c83b7c2a59e9589367df21731b162287"), looks := false }, kinds := [], alts := [], laidByText := true, laidKinds := [.data, .data], laidTests := true, laidLooks := .later }
def FnTrianglesAreMatricesCardSaid : Prop := Claim7.holds Tryd.pinned (.plain (OpenSpec.ofChange fnTrianglesAreMatricesSpec)) fnTrianglesAreMatricesCard

/-- THE TIED CARD OF 'laws.FnHalvesOfMatrices'. -/
def fnHalvesOfMatricesCard : Claim7 := { stood := { row := fnHalvesOfMatricesRow, standIns := [], harness := (true, "443e08411a6692a86c2c8a7963c00545c83b7c2a59e9589367df21731b162287"), looks := false }, kinds := [], alts := [], laidByText := true, laidKinds := [.data], laidTests := true, laidLooks := .later }
def FnHalvesOfMatricesCardSaid : Prop := Claim7.holds Tryd.pinned (.plain (OpenSpec.ofChange fnHalvesOfMatricesSpec)) fnHalvesOfMatricesCard

/-- THE SECOND FORM's CARD OF 'laws.FnTablesOfWeights'. -/
def fnTablesOfWeightsUptoCard : Claim7 := { stood := { row := fnTablesOfWeightsUptoRow, standIns := [], harness := (true, "443e08411a6692a86c2c8a7963c00545c83b7c2a59e9589367df21731b162287"), looks := false }, kinds := [], alts := [], laidByText := true, laidKinds := [.data, .data], laidTests := true, laidLooks := .later }
def FnTablesOfWeightsUptoCardSaid : Prop := Claim7.holds Tryd.pinned (.plain (OpenSpec.upto fnTablesOfWeightsSpec)) fnTablesOfWeightsUptoCard

/-- THE SECOND FORM's CARD OF 'laws.FnTrianglesCounted'. -/
def fnTrianglesCountedUptoCard : Claim7 := { stood := { row := fnTrianglesCountedUptoRow, standIns := [], harness := (true, "443e08411a6692a86c2c8a7963c00545c83b7c2a59e9589367df21731b162287"), looks := false }, kinds := [], alts := [], laidByText := true, laidKinds := [.data, .data], laidTests := true, laidLooks := .later }
def FnTrianglesCountedUptoCardSaid : Prop := Claim7.holds Tryd.pinned (.plain (OpenSpec.upto fnTrianglesCountedSpec)) fnTrianglesCountedUptoCard

/-- THE SECOND FORM's CARD OF 'laws.FnTrianglesAreMatrices'. -/
def fnTrianglesAreMatricesUptoCard : Claim7 := { stood := { row := fnTrianglesAreMatricesUptoRow, standIns := [], harness := (true, "443e08411a6692a86c2c8a7963c00545c83b7c2a59e9589367df21731b162287"), looks := false }, kinds := [], alts := [], laidByText := true, laidKinds := [.data, .data], laidTests := true, laidLooks := .later }
def FnTrianglesAreMatricesUptoCardSaid : Prop := Claim7.holds Tryd.pinned (.plain (OpenSpec.upto fnTrianglesAreMatricesSpec)) fnTrianglesAreMatricesUptoCard

/-- THE SECOND FORM's CARD OF 'laws.FnHalvesOfMatrices'. -/
def fnHalvesOfMatricesUptoCard : Claim7 := { stood := { row := fnHalvesOfMatricesUptoRow, standIns := [], harness := (true, "443e08411a6692a86c2c8a7963c00545c83b7c2a59e9589367df21731b162287"), looks := false }, kinds := [], alts := [], laidByText := true, laidKinds := [.data], laidTests := true, laidLooks := .later }
def FnHalvesOfMatricesUptoCardSaid : Prop := Claim7.holds Tryd.pinned (.plain (OpenSpec.upto fnHalvesOfMatricesSpec)) fnHalvesOfMatricesUptoCard
end Rows
end Go.Proofs.YtnhkclnloiiihaaDoor
