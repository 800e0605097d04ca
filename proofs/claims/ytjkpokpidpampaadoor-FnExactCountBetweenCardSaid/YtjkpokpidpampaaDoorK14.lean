/- Parts of proofs: contracts and plain facts. Conditions: as each says. -/
import Derived.Test.YtjkpokpidpampaaDoorK13
namespace Go.Proofs.YtjkpokpidpampaaDoor
open Go.RowKit Go.Maps
open Go.WideMaps (KeyLaw)

end Go.Proofs.YtjkpokpidpampaaDoor

