/- Contracts: triangles, by the program and by the model. Condition: small tables. -/
import Derived.Test.YtcifcombbdblgaaDoorTriI
namespace Go.Proofs.YtcifcombbdblgaaDoor
open Go.RowKit

end Go.Proofs.YtcifcombbdblgaaDoor
