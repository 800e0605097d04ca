/- A struct of rows and a number: variables with one. No condition. -/
import Derived.Test.YtgdijjfipicodaaRows
import Derived.Test.YtgdijjfipicodaaBase
import Derived.Test.YtgdijjfipicodaaTLaw
import Derived.Test.YtgdijjfipicodaaSame
namespace Go.Proofs.Ytgdijjfipicodaa
open Go.RowKit

def ptA (v : Value) (n : Int) : Array Value := #[v, .int .i64 n]
theorem pt_one (a : Option Addr) (l c : Nat) (n : Int) : (ptA (.slice a l c) n).all (·.oneCell') = true := by simp [ptA, Value.oneCell']
theorem pt_same (u v : Value) (n k : Int) : (ptA u n).size = (ptA v k).size := rfl
end Go.Proofs.Ytgdijjfipicodaa
