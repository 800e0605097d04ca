/- Contracts of the laws' helpers: sizes, copies, comparisons. Conditions: lengths up to 2^20. -/
import Derived.Test.YtiocbogdiaalgaaDoorBase
import Derived.BigQuiet
import Derived.Deep.QuietTactic
namespace Go.Proofs.YtiocbogdiaalgaaDoor
open Go.RowKit

def szL (left : Int) (n : Nat) : Int := if left - n < 0 then -1 else left - n

end Go.Proofs.YtiocbogdiaalgaaDoor
