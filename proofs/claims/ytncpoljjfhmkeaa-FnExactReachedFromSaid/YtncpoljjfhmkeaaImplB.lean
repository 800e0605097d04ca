/- Contracts of the program: lines whose signs alternate, and whether a table is a sign matrix. Condition: the numbers fit an int. -/
import Derived.Test.YtncpoljjfhmkeaaImplA
namespace Go.Proofs.Ytncpoljjfhmkeaa
open Go.RowKit

theorem wrap_neg {s x : Int} (h : s + x = 9223372036854775808) : wrap64 (s + x) < 0 := by
  rw [h]
  unfold wrap64
  omega

/-- the table itself, then the one with rows and columns exchanged -/
def selM (m : List (List Int)) (k : Nat) : List (List Int) := if k = 0 then m else tr m

theorem wf_tr {m : List (List Int)} (h : square m) (hw : WfM m) : WfM (tr m) := by
  intro i hi
  rw [tr_len] at hi
  intro j hj
  rw [tr_row hi] at hj
  rw [gi_tr hi hj]
  exact hw j hj i (by rw [h.2.2 j hj]; exact hi)

end Go.Proofs.Ytncpoljjfhmkeaa
