/- Contracts of the laws' helpers: sizes, copies, comparisons. Conditions: lengths up to 2^20. -/
import Derived.Test.YtnhkclnloiiihaaBase
import Derived.BigQuiet
import Derived.Deep.QuietTactic
namespace Go.Proofs.Ytnhkclnloiiihaa
open Go.RowKit

def szL (left : Int) (n : Nat) : Int := if left - n < 0 then -1 else left - n

end Go.Proofs.Ytnhkclnloiiihaa
