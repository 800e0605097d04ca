/- Contracts: stacked matrices, by the model's stores and by the program's copies. -/
import Derived.Test.YtnhkclnloiiihaaInv
import Derived.Test.YtnhkclnloiiihaaCopyG
import Derived.Laws.CopyOwn
namespace Go.Proofs.Ytnhkclnloiiihaa
open Go.RowKit

/-- one matrix in the first rows and columns, another in the last ones, 0 elsewhere -/
def stF (m k : List (List Int)) (i j : Nat) : Int :=
  if i < m.length then (if j < m.length then gi (gr m i) j else 0) else if m.length ≤ j then gi (gr k (i - m.length)) (j - m.length) else 0
def st (m k : List (List Int)) : List (List Int) := tab (m.length + k.length) (m.length + k.length) (stF m k)
theorem st_len (m k : List (List Int)) : (st m k).length = m.length + k.length := tab_len _ _ _
def stackable (m k : List (List Int)) : Prop := good m ∧ good k ∧ m.length + k.length ≤ 6
theorem st_small {m k : List (List Int)} (h : stackable m k) : Small (st m k) := ⟨by rw [st_len]; have := h.2.2; omega, fun i hi => by rw [st_len] at hi; unfold st; rw [tab_row hi]; have := h.2.2; omega⟩

end Go.Proofs.Ytnhkclnloiiihaa
