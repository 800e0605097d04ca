/- Parts of proofs: contracts and plain facts. Conditions: as each says. -/
import Derived.Test.YtogkmfndfedfiaaK46
import Derived.Deep.RegionHeld
namespace Go.Proofs.Ytogkmfndfedfiaa
open Go.RowKit

theorem made_cells (k : Nat) : (madeCells (Value.agg (cl 0 0)).cells (k * 2)).toList = (List.replicate k ((0, 0) : Nat × Nat)).flatMap crow := by
  have h1 : (madeCells (Value.agg (cl 0 0)).cells (k * 2)).toList = List.replicate (k * 2) (.int .i64 0) := by
    rw [List.eq_replicate_iff]
    refine ⟨by simp [madeCells], fun v hv => ?_⟩
    simp only [madeCells, Array.toList_map, Array.toList_range, List.mem_map, List.mem_range] at hv
    obtain ⟨j, _, rfl⟩ := hv
    have : j % (Value.agg (cl 0 0)).cells.size = 0 ∨ j % (Value.agg (cl 0 0)).cells.size = 1 := by rw [show (Value.agg (cl 0 0)).cells.size = 2 from rfl]; omega
    rcases this with e | e <;> rw [e] <;> rfl
  have h2 : ∀ k, (List.replicate k ((0, 0) : Nat × Nat)).flatMap crow = List.replicate (k * 2) (.int .i64 0) := by
    intro k
    induction k with
    | zero => rfl
    | succ k ih =>
      rw [List.replicate_succ, List.flatMap_cons, ih, show (k + 1) * 2 = k * 2 + 1 + 1 from by omega, List.replicate_succ, List.replicate_succ]
      rfl
  rw [h1, h2]

/-- the first t cells are told -/
def PutOf (cells : List (List Int)) (t : Nat) (ds : List (Nat × Nat)) : Prop := ds.length = cells.length ∧ ds.take t = (cells.take t).map pairOf
end Go.Proofs.Ytogkmfndfedfiaa

