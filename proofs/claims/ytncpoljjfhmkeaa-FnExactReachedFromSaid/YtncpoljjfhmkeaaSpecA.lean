/- Contracts of the model's sign matrices. -/
import Derived.Test.YtncpoljjfhmkeaaLawB
import Derived.Test.YtncpoljjfhmkeaaMath1
namespace Go.Proofs.Ytncpoljjfhmkeaa
open Go.RowKit

set_option maxRecDepth 100000 in
set_option maxHeartbeats 400000 in
theorem l1In_any (n lo hi : Int) (w : World) :
    Calls Try.prog 52 #[.int .i64 n, .int .i64 lo, .int .i64 hi] w fun e w' => Ans (lo ≤ n ∧ n ≤ hi) e ∧ w = w' := by
  by_cases h1 : lo ≤ n
  · by_cases h2 : n ≤ hi
    · go_enter Try.func52, Try.ntmps52
      go_wp2
      go_ret
      exact ⟨Ans.yes ⟨h1, h2⟩, rfl⟩
    · go_enter Try.func52, Try.ntmps52
      go_wp2
      go_ret
      exact ⟨Ans.no (fun h => by omega), rfl⟩
  · go_enter Try.func52, Try.ntmps52
    go_wp2
    go_ret
    exact ⟨Ans.no (fun h => by omega), rfl⟩

end Go.Proofs.Ytncpoljjfhmkeaa
