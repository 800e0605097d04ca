/- Parts of proofs: contracts and plain facts. Conditions: as each says. -/
import Derived.Test.YtmkldodkpijfjaaDoorK08
import Derived.Deep.RegionWith
namespace Go.Proofs.YtmkldodkpijfjaaDoor
open Go.RowKit

end Go.Proofs.YtmkldodkpijfjaaDoor

