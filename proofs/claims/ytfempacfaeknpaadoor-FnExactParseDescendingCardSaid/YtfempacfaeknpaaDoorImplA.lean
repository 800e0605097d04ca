/- Contracts of the program: squares, new grids, transposes, lines whose signs alternate. -/
import Derived.Test.YtfempacfaeknpaaDoorSpecB
namespace Go.Proofs.YtfempacfaeknpaaDoor
open Go.RowKit

/-- every row has this many columns -/
def wideAll (m : List (List Int)) (c : Nat) : Prop := ∀ i, i < m.length → (gr m i).length = c

end Go.Proofs.YtfempacfaeknpaaDoor
