/- Parts of proofs: contracts and plain facts. Conditions: as each says. -/
import Derived.Test.YtnhkclnloiiihaaDoorK21
namespace Go.Proofs.YtnhkclnloiiihaaDoor
open Go.RowKit

def bump (d : Int) (c : List Int) (v : Int) : List Int := c.set v.toNat (wrap64 (gi c v.toNat + d))
theorem bump_len (d : Int) (c : List Int) (v : Int) : (bump d c v).length = c.length := by simp [bump]
/-- the row of signs between two rows of columns -/
def stepF (n : Nat) (xs ys : List Int) : List Int := xs.foldl (bump (-1)) (ys.foldl (bump 1) (List.replicate n 0))
/-- the minus ones among the first k -/
def minusF (st : List Int) : Nat → Int
  | 0 => 0
  | k + 1 => if gi st k < 0 then wrap64 (minusF st k + 1) else minusF st k
/-- what the sign x of column k adds, by the first j numbers of the row -/
def addIn (xs : List Int) (k : Nat) (x acc : Int) : Nat → Int
  | 0 => acc
  | j + 1 => if (k : Int) < gi xs j then wrap64 (addIn xs k x acc j + x) else addIn xs k x acc j
def addF (xs st : List Int) : Nat → Int
  | 0 => 0
  | k + 1 => addIn xs k (gi st k) (addF xs st k) xs.length
def nextMinus (n : Nat) (xs ys : List Int) (s : Int) : Int := wrap64 (s + minusF (stepF n xs ys) (stepF n xs ys).length)
def nextAdd (n : Nat) (xs ys : List Int) (s : Int) : Int := wrap64 (s + addF xs (stepF n xs ys) (stepF n xs ys).length)
abbrev Nx := Nat → List Int → List Int → Int → Int
/-- the counts with those added that are reached from a row at a score -/
def spreadF (nx : Nx) (n : Nat) : Nat → List Int → Int → List Int → List Int
  | 0, _, s, c => bump 1 c s
  | d + 1, xs, s, c => (behind n xs).foldl (fun c ys => spreadF nx n d ys (nx n xs ys s) c) c
theorem spreadF_len (nx : Nx) (n : Nat) : ∀ (d : Nat) (xs : List Int) (s : Int) (c : List Int), (spreadF nx n d xs s c).length = c.length
  | 0, _, s, c => bump_len _ _ _
  | d + 1, xs, s, c => by
    rw [spreadF]
    generalize behind (n : Int) xs = L
    induction L generalizing c with
    | nil => rfl
    | cons y r ih => rw [List.foldl_cons, ih, spreadF_len nx n d]
/-- no score leaves the table -/
def okF (nx : Nx) (n : Nat) : Nat → List Int → Int → Bool
  | 0, _, s => decide (0 ≤ s) && decide (s ≤ (n * n : Nat))
  | d + 1, xs, s => (behind n xs).all fun ys => okF nx n d ys (nx n xs ys s)
/-- the last place with a positive number -/
def lastF (c : List Int) : Nat → Nat
  | 0 => 0
  | k + 1 => if 0 < gi c k then k else lastF c k
theorem lastF_lt (c : List Int) : ∀ k, 0 < k → lastF c k < k
  | 0, h => absurd h (by omega)
  | k + 1, _ => by
    unfold lastF
    split
    · omega
    · by_cases h : 0 < k
      · have := lastF_lt c k h; omega
      · obtain rfl : k = 0 := by omega
        simp [lastF]
def countsF (nx : Nx) (n : Nat) : List Int := spreadF nx n n [] 0 (List.replicate (n * n + 1) 0)
def trimF (c : List Int) : List Int := c.take (lastF c c.length + 1)
def scoreT (sc : List Int → List Int → Int) (n k : Nat) : List Int := let T := iterT (upCh sc) (n - 1) [((iota n, 0), 1)]
  (List.range k).map fun i : Nat => wrap64 (potL T (fun p => hits (i : Int) p.1 p.2))
theorem scoreT_is (sc : List Int → List Int → Int) (n k : Nat) : scoreL sc n k = scoreT sc n k := by
  unfold scoreL scoreT
  refine List.map_congr_left fun i _ => ?_
  rw [climb_tab0]
def sameC (sc : List Int → List Int → Int) (nx : Nx) (n g : Nat) : Bool := okF nx n n [] 0 && (trimF (countsF nx n) == scoreT sc n (g + 1))
set_option maxRecDepth 1000000 in
theorem lost_same : sameC lostSc nextMinus 1 0 = true ∧ sameC lostSc nextMinus 2 0 = true ∧ sameC lostSc nextMinus 3 1 = true ∧ sameC lostSc nextMinus 4 2 = true ∧ sameC lostSc nextMinus 5 4 = true := by decide +kernel
set_option maxRecDepth 1000000 in
theorem moved_same : sameC movedSc nextAdd 1 0 = true ∧ sameC movedSc nextAdd 2 1 = true ∧ sameC movedSc nextAdd 3 3 = true ∧ sameC movedSc nextAdd 4 6 = true ∧ sameC movedSc nextAdd 5 10 = true := by decide +kernel
end Go.Proofs.YtnhkclnloiiihaaDoor

