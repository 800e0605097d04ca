/- Contract of the model: the lesser or the greater heights of two tables. Condition: tables of up to seven rows. -/
import Derived.Test.YtogkmfndfedfiaaHtP
namespace Go.Proofs.Ytogkmfndfedfiaa
open Go.RowKit

def mixF (low : Bool) (A B : List (List Int)) (i j : Nat) : Int := if low then min (gi (gr A i) j) (gi (gr B i) j) else max (gi (gr A i) j) (gi (gr B i) j)

end Go.Proofs.Ytogkmfndfedfiaa
