/- A table that a call owns, about to get one more row; the row of a literal. No conditions. -/
import Derived.Test.YtnhkclnloiiihaaMath1
import Derived.Laws.OwnMore
namespace Go.Proofs.Ytnhkclnloiiihaa
open Go.RowKit

theorem OwnP.more {w : World} {B : Nat} {v : Value} {M : List (List Int)} {r : List Int} {vs : List Value} (h : OwnP w B v M.length M M.length vs) : OwnP w B v M.length (M ++ [r]) M.length vs :=
  ⟨h.top, fun i hi => by rw [gr_lt (by simp; omega), List.getElem_append_left hi, ← gr_lt hi]; exact h.rows i hi, h.apart⟩
theorem gr_last (M : List (List Int)) (r : List Int) : gr (M ++ [r]) M.length = r := by
  rw [gr_lt (by simp)]
  simp
end Go.Proofs.Ytnhkclnloiiihaa
