/- Lists of counts by scores. No conditions. -/
import Derived.Test.YtcifcombbdblgaaDoorTab
import Derived.Test.YtcifcombbdblgaaDoorCountS
import Derived.Test.YtcifcombbdblgaaDoorSetOf
import Derived.Test.YtcifcombbdblgaaDoorClimbD
namespace Go.Proofs.YtcifcombbdblgaaDoor
open Go.RowKit
/-- how many climbs from all n columns have each of the first k scores -/
def scoreL (sc : List Int → List Int → Int) (n k : Nat) : List Int := (List.range k).map fun i : Nat => wrap64 (climbW sc (hits (i : Int)) (n - 1) (iota n) 0)
end Go.Proofs.YtcifcombbdblgaaDoor
