/- Contracts: a corner sum beside or inside a table; the table with given corner sums, by the model and by the program. -/
import Derived.Test.YtiocbogdiaalgaaDoorCorn
namespace Go.Proofs.YtiocbogdiaalgaaDoor
open Go.RowKit

/-- a number of a table, 0 beside it -/
def atC (c : List (List Int)) (i j : Int) : Int := if i < 0 then 0 else if j < 0 then 0 else gi (gr c i.toNat) j.toNat
theorem atC_nat (c : List (List Int)) (i j : Nat) : atC c (i : Int) (j : Int) = gi (gr c i) j := by
  unfold atC
  rw [if_neg (by omega), if_neg (by omega), Int.toNat_natCast, Int.toNat_natCast]

theorem cellD {w : World} {a : Addr} {v : Value} (h : w.cell? a = some v) : ({ w with drawn := w.drawn + 1 } : World).cell? a = some v := h
theorem MatAt.drewD {w : World} {ao : Option Addr} {m : List (List Int)} (h : MatAt w ao m) : MatAt { w with drawn := w.drawn + 1 } ao m := h

/-- the numbers of a table are in 0..n -/
def inRange (c : List (List Int)) : Prop := ∀ i j, i < c.length → j < c.length → 0 ≤ gi (gr c i) j ∧ gi (gr c i) j ≤ c.length

/-- differences of corner sums -/
def df (c : List (List Int)) (i j : Nat) : Int := atC c i j - atC c ((i : Int) - 1) j - atC c i ((j : Int) - 1) + atC c ((i : Int) - 1) ((j : Int) - 1)
def dm (c : List (List Int)) : List (List Int) := tab c.length c.length (df c)
theorem dm_len (c : List (List Int)) : (dm c).length = c.length := tab_len _ _ _

theorem atC_range {c : List (List Int)} (h : inRange c) {i j : Int} (hi : -1 ≤ i ∧ i < c.length) (hj : -1 ≤ j ∧ j < c.length) : 0 ≤ atC c i j ∧ atC c i j ≤ c.length := by
  unfold atC
  split
  · omega
  · split
    · omega
    · exact h i.toNat j.toNat (by omega) (by omega)

theorem w64 {n : Int} (h : -9223372036854775808 ≤ n ∧ n ≤ 9223372036854775807) : IntKind.i64.wrap n = n := by
  exact IntWalk.i64_in n h

/-- .. or not far from it -/
def inWide (c : List (List Int)) : Prop := ∀ i j, i < c.length → j < c.length → -100 ≤ gi (gr c i) j ∧ gi (gr c i) j ≤ 100
theorem atC_wide {c : List (List Int)} (h : inWide c) {i j : Int} (hi : -1 ≤ i ∧ i < c.length) (hj : -1 ≤ j ∧ j < c.length) : -100 ≤ atC c i j ∧ atC c i j ≤ 100 := by
  unfold atC
  split
  · omega
  · split
    · omega
    · exact h i.toNat j.toNat (by omega) (by omega)

end Go.Proofs.YtiocbogdiaalgaaDoor
