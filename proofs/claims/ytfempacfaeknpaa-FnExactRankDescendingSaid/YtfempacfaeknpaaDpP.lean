/- Mathematics: all partitions for small n, by both sides; how many; bounds. No condition. -/
import Derived.Test.YtfempacfaeknpaaDpO
namespace Go.Proofs.Ytfempacfaeknpaa

/-- the partitions of which the first row is allowed, by the program -/
def planesL : Nat → List Int → List (List (List Int))
  | 0, _ => [[]]
  | f + 1, l => [] :: (rowsL l).flatMap fun row => (planesL f (limB row)).map fun p => row :: p
/-- how many they are -/
def countL : Nat → List Int → Nat
  | 0, _ => 1
  | f + 1, l => 1 + ((rowsL l).map fun row => countL f (limB row)).sum
/-- the partitions that go on rows, by the model -/
def allD (n : Nat) : Nat → List (List Int) → List (List (List Int))
  | 0, rows => [rows]
  | f + 1, rows => rows :: (nextD n rows).flatMap fun row => allD n f (rows ++ [row])
theorem planes_all : ∀ n : Nat, n < 5 → n = 0 ∨ allD n n [] = planesL (n - 1) (lim1 n) := by decide +kernel
theorem count_all : ∀ n : Nat, n < 6 → n = 0 ∨ (allD n n []).length = countL (n - 1) (lim1 n) := by decide +kernel
end Go.Proofs.Ytfempacfaeknpaa
