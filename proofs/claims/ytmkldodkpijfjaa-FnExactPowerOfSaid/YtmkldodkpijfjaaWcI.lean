/- Contracts: how many places of a sign matrix there are of each kind, by the program. Condition: the matrix is a sign matrix. -/
import Derived.Test.YtmkldodkpijfjaaWeI
import Derived.Test.YtmkldodkpijfjaaLRes
import Derived.Test.YtmkldodkpijfjaaTLaw
import Derived.Test.YtmkldodkpijfjaaSame
namespace Go.Proofs.Ytmkldodkpijfjaa
open Go.RowKit

/-- six numbers in an array -/
def kcL (f : Nat → Int) : List Value := (List.range 6).map fun k => .int .i64 (f k)
def kc (f : Nat → Int) : Array Value := (kcL f).toArray
theorem kc_size (f : Nat → Int) : (kc f).size = 6 := by simp [kc, kcL]
theorem kc_at (f : Nat → Int) {k : Nat} (hk : k < 6) : (kc f)[k]? = some (.int .i64 (f k)) := by
  simp only [kc, kcL, List.getElem?_toArray, List.getElem?_map]
  rw [List.getElem?_range hk]
  rfl
theorem kc_congr {f g : Nat → Int} (h : ∀ k, k < 6 → f k = g k) : kc f = kc g := by
  unfold kc kcL
  congr 1
  refine List.map_congr_left fun k hk => ?_
  rw [List.mem_range] at hk
  rw [h k hk]
theorem kc_set (f : Nat → Int) {k : Nat} (hk : k < 6) (x : Int) : (kc f).setIfInBounds k (.int .i64 x) = kc (fun q => if q = k then x else f q) := by
  apply Array.ext_getElem?
  intro j
  rw [Array.getElem?_setIfInBounds]
  by_cases e : k = j
  · subst e
    rw [if_pos rfl, if_pos (by rw [kc_size]; exact hk), kc_at _ hk, if_pos rfl]
  · rw [if_neg e]
    by_cases hj : j < 6
    · rw [kc_at _ hj, kc_at _ hj, if_neg (fun h => e h.symm)]
    · rw [Array.getElem?_eq_none (by rw [kc_size]; omega), Array.getElem?_eq_none (by rw [kc_size]; omega)]
theorem kc_one (f : Nat → Int) : (kc f).all (·.oneCell') = true := by
  rw [Array.all_eq_true]
  intro i hi
  have hi6 : i < 6 := by rw [kc_size] at hi; exact hi
  have := kc_at f hi6
  rw [Array.getElem?_eq_getElem hi] at this
  rw [Option.some.inj this]
  rfl
theorem kc_same (f g : Nat → Int) : (kc f).size = (kc g).size := by rw [kc_size, kc_size]
end Go.Proofs.Ytmkldodkpijfjaa
