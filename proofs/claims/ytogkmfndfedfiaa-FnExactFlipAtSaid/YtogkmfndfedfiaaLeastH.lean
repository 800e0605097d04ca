/- Contracts: the least and the greatest sign matrix, by the model and by the program; duals. Condition: the numbers fit an int. -/
import Derived.Test.YtogkmfndfedfiaaHtM
namespace Go.Proofs.Ytogkmfndfedfiaa
open Go.RowKit

/-- ones where row and column have the same index -/
def idm (n : Nat) : List (List Int) := tab n n fun i j => if i = j then 1 else 0
theorem idm_len (n : Nat) : (idm n).length = n := tab_len _ _ _
theorem idm_square {n : Nat} (h1 : 1 ≤ n) (h6 : n ≤ 6) : square (idm n) := ⟨by rw [idm_len]; exact h1, by rw [idm_len]; exact h6, fun i hi => by rw [idm_len] at hi ⊢; exact tab_row hi⟩
def inSide (n : Int) : Prop := 1 ≤ n ∧ n ≤ 6
theorem idm_small {n : Int} (h : inSide n) : Small (idm n.toNat) := by
  have h1 := h.1
  have h2 := h.2
  exact (idm_square (by omega) (by omega)).small
theorem mir_idm_small {n : Int} (h : inSide n) : Small (mir (idm n.toNat)) := by
  have h1 := h.1
  have h2 := h.2
  exact (idm_square (by omega) (by omega)).mir.small

end Go.Proofs.Ytogkmfndfedfiaa
