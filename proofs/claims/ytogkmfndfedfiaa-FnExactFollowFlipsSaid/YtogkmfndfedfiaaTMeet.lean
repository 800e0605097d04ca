/- Contracts of the program: meets and joins of terrains. No conditions but where the numbers lie. -/
import Derived.Test.YtogkmfndfedfiaaTRow
import Derived.Deep.RegionWith
namespace Go.Proofs.Ytogkmfndfedfiaa
open Go.RowKit

/-- numbers that are not far from 0 -/
def Near (f : Nat → Nat → Int) : Prop := ∀ i j, i < 7 → j < 7 → -90 ≤ f i j ∧ f i j ≤ 90

end Go.Proofs.Ytogkmfndfedfiaa
