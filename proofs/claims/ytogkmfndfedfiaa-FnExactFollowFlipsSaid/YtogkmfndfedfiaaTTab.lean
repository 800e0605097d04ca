/- Contracts of the program: the table of a terrain's heights; the numbers that its heights leave. Conditions: sides up to 6. -/
import Derived.Test.YtogkmfndfedfiaaTRow
import Derived.Test.YtogkmfndfedfiaaCopyG
import Derived.Deep.DeepMust
namespace Go.Proofs.Ytogkmfndfedfiaa
open Go.RowKit

/-- a row of heights as a list -/
def rowL (r : Nat → Int) (c : Nat) : List Int := (List.range c).map r
theorem rowL_len (r : Nat → Int) (c : Nat) : (rowL r c).length = c := by simp [rowL]
theorem gi_rowL {r : Nat → Int} {c j : Nat} (h : j < c) : gi (rowL r c) j = r j := gi_row h
theorem TerrAt.ints {w : World} {g : Nat} {n : Int} {f : Nat → Nat → Int} (h : TerrAt w g n f) {i c : Nat} (hi : i < 7) (hc : c ≤ 7) : IntsAt w (some ⟨g, 1 + i * 7, none⟩) (rowL (f i) c) := by
  intro j hj
  rw [rowL_len] at hj
  refine ⟨g, 1 + i * 7, rfl, ?_⟩
  rw [gi_rowL hj]
  exact h.cell hi (by omega)

end Go.Proofs.Ytogkmfndfedfiaa
