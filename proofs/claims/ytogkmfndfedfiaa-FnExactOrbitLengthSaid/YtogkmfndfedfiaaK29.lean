/- Parts of proofs: contracts and plain facts. Conditions: as each says. -/
import Derived.Test.YtogkmfndfedfiaaK28
namespace Go.Proofs.Ytogkmfndfedfiaa
open Go.RowKit

def canB (c : Nat → Nat → Int) (p : Nat × Nat) : Bool := !(way (hOf c) p.1 p.2 == 0)
def fcS (c : Nat → Nat → Int) (col : Int) (cs : List (Nat × Nat)) : List (Nat × Nat) := (colL col cs).filter (canB c)
def fcL (m : List (List Int)) (col : Int) : List (Nat × Nat) := fcS (S2 m) col (allCells m.length m.length)
theorem fcS_snoc (c : Nat → Nat → Int) (col : Int) (cs : List (Nat × Nat)) (p : Nat × Nat) : fcS c col (cs ++ [p]) = if ((p.1 : Int) + (p.2 : Int)) % 2 = col ∧ canB c p = true then fcS c col cs ++ [p] else fcS c col cs := by
  unfold fcS
  rw [colL_snoc]
  by_cases h : ((p.1 : Int) + (p.2 : Int)) % 2 = col
  · rw [if_pos h, List.filter_append]
    by_cases h2 : canB c p = true
    · rw [if_pos ⟨h, h2⟩]; simp [h2]
    · rw [if_neg (fun k => h2 k.2)]; simp [h2]
  · rw [if_neg h, if_neg (fun k => h k.1)]
theorem fcS_len (c : Nat → Nat → Int) (col : Int) (cs : List (Nat × Nat)) : (fcS c col cs).length ≤ cs.length := Nat.le_trans (List.length_filter_le _ _) (colL_len _ _)
end Go.Proofs.Ytogkmfndfedfiaa

