/- Contracts: how many patterns there are, by the model's quotients and by the program's choices; which sizes are allowed. Condition: the numbers fit an int. -/
import Derived.Test.YtncpoljjfhmkeaaCnt
namespace Go.Proofs.Ytncpoljjfhmkeaa
open Go.RowKit

def in6 (n : Int) : Prop := 1 ≤ n ∧ n ≤ 6
def catI : Nat → Nat
  | 0 => 1
  | k + 1 => catI k * 2 * (2 * k + 1) / (k + 2)
theorem cat_b : ∀ k, k < 7 → catI k ≤ 1000 := by decide +kernel
theorem cat_same : ∀ n, n < 7 → ch (2 * n) n / (n + 1) = catI n ∧ ch (2 * n) n ≤ 1000 := by decide +kernel

end Go.Proofs.Ytncpoljjfhmkeaa
