import Derived.Shelf.Strings.Builder1
import Derived.Shelf.Strings.BuilderK
import Derived.Shelf.Small.Wraps
import Derived.Ground.Names2Prog
import Derived.Ground.NamesProg
import Derived.Test.YtiocbogdiaalgaaDoorProg
/- what the shelf proves of the library's functions that the program calls, at this program's own numbers: strings.Builder's copyCheck, WriteByte and String, cmp.Compare at int. -/
namespace Go.Proofs
open Go.Shelf
end Go.Proofs
