/- Cells that can be flipped, in order: plain facts; slices of cells that a call owns. No conditions. -/
import Derived.Test.YtopamhcnbocfoaaFlA
namespace Go.Proofs.Ytopamhcnbocfoaa
open Go.RowKit

/-- the inner cells of row i with a column less than t; of the rows less than s -/
def rowCells (i t : Nat) : List (Nat × Nat) := ((List.range t).filter fun j => decide (1 ≤ j)).map fun j => (i, j)
def allCells (n s : Nat) : List (Nat × Nat) := (List.range s).flatMap fun i => if 1 ≤ i then rowCells i n else []
theorem rowCells_succ (i t : Nat) (h : 1 ≤ t) : rowCells i (t + 1) = rowCells i t ++ [(i, t)] := by
  simp [rowCells, List.range_succ, List.filter_append, h]
theorem rowCells_one (i : Nat) : rowCells i 1 = [] := by simp [rowCells, List.range_succ]
theorem allCells_succ (n s : Nat) (h : 1 ≤ s) : allCells n (s + 1) = allCells n s ++ rowCells s n := by
  simp [allCells, List.range_succ, h]
theorem allCells_one (n : Nat) : allCells n 1 = [] := by simp [allCells, List.range_succ]
theorem mem_rowCells {i t : Nat} {c : Nat × Nat} (h : c ∈ rowCells i t) : c.1 = i ∧ 1 ≤ c.2 ∧ c.2 < t := by
  simp [rowCells] at h
  obtain ⟨j, ⟨h1, h2⟩, rfl⟩ := h
  exact ⟨rfl, h2, h1⟩
theorem mem_allCells {n s : Nat} {c : Nat × Nat} (h : c ∈ allCells n s) : 1 ≤ c.1 ∧ c.1 < s ∧ 1 ≤ c.2 ∧ c.2 < n := by
  simp only [allCells, List.mem_flatMap, List.mem_range] at h
  obtain ⟨i, hi, hc⟩ := h
  by_cases h1 : 1 ≤ i
  · rw [if_pos h1] at hc
    have := mem_rowCells hc
    omega
  · rw [if_neg h1] at hc
    cases hc
theorem rowCells_len (i t : Nat) : (rowCells i t).length ≤ t := by
  unfold rowCells
  rw [List.length_map]
  exact Nat.le_trans (List.length_filter_le _ _) (by rw [List.length_range]; exact Nat.le_refl _)
theorem allCells_len (n : Nat) : ∀ s, (allCells n s).length ≤ s * n
  | 0 => by simp [allCells]
  | s + 1 => by
    have h := allCells_len n s
    by_cases h1 : 1 ≤ s
    · rw [allCells_succ n s h1, List.length_append, Nat.succ_mul]
      have := rowCells_len s n
      omega
    · obtain rfl : s = 0 := by omega
      rw [allCells_one]
      exact Nat.zero_le _
/-- those where a flip adds 2 v -/
def flipsL (f : Nat → Nat → Int) (v : Int) (cs : List (Nat × Nat)) : List (Nat × Nat) := cs.filter fun c => decide (way f c.1 c.2 = v)
/-- cells as lists of two numbers -/
def cellM (cs : List (Nat × Nat)) : List (List Int) := cs.map fun c => [(c.1 : Int), (c.2 : Int)]
theorem cellM_len (cs : List (Nat × Nat)) : (cellM cs).length = cs.length := by simp [cellM]
theorem flipsL_snoc (f : Nat → Nat → Int) (v : Int) (cs : List (Nat × Nat)) (c : Nat × Nat) : flipsL f v (cs ++ [c]) = if way f c.1 c.2 = v then flipsL f v cs ++ [c] else flipsL f v cs := by
  unfold flipsL
  rw [List.filter_append]
  by_cases h : way f c.1 c.2 = v <;> simp [h]
theorem flipsL_len (f : Nat → Nat → Int) (v : Int) (cs : List (Nat × Nat)) : (flipsL f v cs).length ≤ cs.length := List.length_filter_le _ _
theorem flipsL_congr {f g : Nat → Nat → Int} {v : Int} {cs : List (Nat × Nat)} (h : ∀ c ∈ cs, way f c.1 c.2 = way g c.1 c.2) : flipsL f v cs = flipsL g v cs := by
  unfold flipsL
  exact List.filter_congr fun c hc => by rw [h c hc]
theorem way_congr {f g : Nat → Nat → Int} {i j : Nat} (h0 : f i j = g i j) (h1 : f (i - 1) j = g (i - 1) j) (h2 : f i (j - 1) = g i (j - 1)) (h3 : f i (j + 1) = g i (j + 1)) (h4 : f (i + 1) j = g (i + 1) j) : way f i j = way g i j := by
  have e1 : up1 f i j ↔ up1 g i j := by unfold up1; rw [h0, h1, h2, h3, h4]
  have e2 : down1 f i j ↔ down1 g i j := by unfold down1; rw [h0, h1, h2, h3, h4]
  unfold way
  simp only [e1, e2]

def crow (c : Nat × Nat) : List Value := [.int .i64 (c.1 : Int), .int .i64 (c.2 : Int)]
/-- a slice of cells that the call owns from block B on -/
def OwnC (w : World) (B : Nat) (v : Value) (cs : List (Nat × Nat)) : Prop := w.ownsRow B 79 2 v cs.length (cs.flatMap crow)
theorem OwnC.nil (w : World) (B : Nat) : OwnC w B (.slice none 0 0) [] := World.ownsRow_nil _ _ _ _
end Go.Proofs.Ytopamhcnbocfoaa
