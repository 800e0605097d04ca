/- Parts of proofs: contracts and plain facts. Conditions: as each says. -/
import Derived.Test.YtgdijjfipicodaaDoorK14
namespace Go.Proofs.YtgdijjfipicodaaDoor
open Go.RowKit

theorem allI_W5 : ∀ n, n < 6 → n = 0 ∨ allI n = allW n := by decide +kernel
theorem allW_sq : ∀ n, n < 6 → ∀ m, m ∈ allW n → n = 0 ∨ square m := by decide +kernel
theorem allW_len5 : ∀ n, n < 6 → (allW n).length ≤ 429 := by decide +kernel
end Go.Proofs.YtgdijjfipicodaaDoor

