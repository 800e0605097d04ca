/- Contracts: the kinds of places of a sign matrix, by the program. Condition: the matrix is a sign matrix. -/
import Derived.Test.YtmkldodkpijfjaaWeM
import Derived.Test.YtmkldodkpijfjaaImplB
import Derived.Test.YtmkldodkpijfjaaDiff
namespace Go.Proofs.Ytmkldodkpijfjaa
open Go.RowKit

theorem OwnP.setElse {w : World} {B n k : Nat} {v : Value} {m : List (List Int)} {vs : List Value} (h : OwnP w B v n m k vs) {a : Addr} (ht : v.ownBlock ≠ some a.block) (hr : ∀ i, i < k → (vs.getD i undef).ownBlock ≠ some a.block) (u : Value) : OwnP (w.setCell a u) B v n m k vs :=
  ⟨Go.ownsRow_setCell_other h.top ht u, fun i hi => (h.rows i hi).setOther (hr i hi) u, h.apart⟩

end Go.Proofs.Ytmkldodkpijfjaa
