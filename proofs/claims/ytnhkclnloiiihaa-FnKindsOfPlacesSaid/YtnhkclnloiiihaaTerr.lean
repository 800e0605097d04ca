/- A terrain: fifty cells, the number of rows and forty-nine heights; how a block that holds one reads, and what a store into it makes. No conditions. -/
import Derived.Test.YtnhkclnloiiihaaHtM
import Derived.Deep.WholeRow
namespace Go.Proofs.Ytnhkclnloiiihaa
open Go.RowKit

/-- the number of rows, then the heights, row by row -/
def tl (n : Int) (f : Nat → Nat → Int) : List Value := .int .i64 n :: (List.range 49).map fun k => .int .i64 (f (k / 7) (k % 7))
def tc (n : Int) (f : Nat → Nat → Int) : Array Value := (tl n f).toArray
def TerrAt (w : World) (g : Nat) (n : Int) (f : Nat → Nat → Int) : Prop := w.heap[g]? = some (.cells (tc n f) 103 (0, 0))
/-- heights, 0 behind them -/
def pad (n : Nat) (h : Nat → Nat → Int) (i j : Nat) : Int := if i ≤ n ∧ j ≤ n then h i j else 0
def upd (f : Nat → Nat → Int) (i j : Nat) (x : Int) : Nat → Nat → Int := fun a b => if a = i ∧ b = j then x else f a b

theorem tc_size (n : Int) (f : Nat → Nat → Int) : (tc n f).size = 50 := by simp [tc, tl]
theorem tc_zero (n : Int) (f : Nat → Nat → Int) : (tc n f)[0]? = some (.int .i64 n) := by simp [tc, tl]
theorem tc_at (n : Int) (f : Nat → Nat → Int) {i j : Nat} (hi : i < 7) (hj : j < 7) : (tc n f)[1 + i * 7 + j]? = some (.int .i64 (f i j)) := by
  have e : 1 + i * 7 + j = (i * 7 + j) + 1 := by omega
  rw [e]
  simp only [tc, tl, List.getElem?_toArray, List.getElem?_cons_succ, List.getElem?_map]
  rw [List.getElem?_range (by omega)]
  simp only [Option.map_some]
  rw [show (i * 7 + j) / 7 = i from by omega, show (i * 7 + j) % 7 = j from by omega]
theorem tc_congr {n : Int} {f f' : Nat → Nat → Int} (h : ∀ i j, i < 7 → j < 7 → f i j = f' i j) : tc n f = tc n f' := by
  unfold tc tl
  congr 2
  refine List.map_congr_left fun k hk => ?_
  rw [List.mem_range] at hk
  rw [h (k / 7) (k % 7) (by omega) (by omega)]
theorem tc_set (n : Int) (f : Nat → Nat → Int) {i j : Nat} (hi : i < 7) (hj : j < 7) (x : Int) : (tc n f).setIfInBounds (1 + i * 7 + j) (.int .i64 x) = tc n (upd f i j x) := by
  apply Array.ext_getElem?
  intro k
  rw [Array.getElem?_setIfInBounds]
  by_cases e : 1 + i * 7 + j = k
  · subst e
    rw [if_pos rfl, if_pos (by rw [tc_size]; omega), tc_at n _ hi hj]
    simp [upd]
  · rw [if_neg e]
    by_cases hk : k < 50
    · by_cases h0 : k = 0
      · subst h0; rw [tc_zero, tc_zero]
      · obtain ⟨a, b, ha, hb, rfl⟩ : ∃ a b, a < 7 ∧ b < 7 ∧ k = 1 + a * 7 + b := ⟨(k - 1) / 7, (k - 1) % 7, by omega, by omega, by omega⟩
        rw [tc_at n f ha hb, tc_at n _ ha hb]
        unfold upd
        rw [if_neg (fun h => e (by rw [h.1, h.2]))]
    · rw [Array.getElem?_eq_none (by rw [tc_size]; omega), Array.getElem?_eq_none (by rw [tc_size]; omega)]

theorem TerrAt.head {w : World} {g : Nat} {n : Int} {f : Nat → Nat → Int} (h : TerrAt w g n f) : w.cell? ⟨g, 0, none⟩ = some (.int .i64 n) := by
  rw [cell_of_row w g 0 _ _ _ h, tc_zero]
theorem TerrAt.cell {w : World} {g : Nat} {n : Int} {f : Nat → Nat → Int} (h : TerrAt w g n f) {i j : Nat} (hi : i < 7) (hj : j < 7) : w.cell? ⟨g, 1 + i * 7 + j, none⟩ = some (.int .i64 (f i j)) := by
  rw [cell_of_row w g _ _ _ _ h, tc_at n f hi hj]
theorem TerrAt.frozen {w : World} {g : Nat} {n : Int} {f : Nat → Nat → Int} (h : TerrAt w g n f) (k : Nat) : w.frozen? ⟨g, k, none⟩ = false := frozen_of_row w g k _ _ h
theorem TerrAt.store {w : World} {g : Nat} {n : Int} {f : Nat → Nat → Int} (h : TerrAt w g n f) {i j : Nat} (hi : i < 7) (hj : j < 7) (x : Int) : TerrAt (w.setCell ⟨g, 1 + i * 7 + j, none⟩ (.int .i64 x)) g n (upd f i j x) := by
  unfold TerrAt
  rw [heap_setCell_same w g _ _ _ _ h, tc_set n f hi hj]
theorem TerrAt.lt {w : World} {g : Nat} {n : Int} {f : Nat → Nat → Int} (h : TerrAt w g n f) : g < w.heap.size := lt_of_block h
theorem TerrAt.below {w w' : World} {g : Nat} {n : Int} {f : Nat → Nat → Int} (h : TerrAt w g n f) (hb : Below w.heap.size w w') : TerrAt w' g n f := by
  unfold TerrAt
  rw [hb.block g h.lt]
  exact h
theorem TerrAt.other {w : World} {g : Nat} {n : Int} {f : Nat → Nat → Int} (h : TerrAt w g n f) {a : Addr} (ha : g ≠ a.block) (v : Value) : TerrAt (w.setCell a v) g n f := by
  unfold TerrAt
  rw [heap_setCell_other w a g v ha]
  exact h
theorem TerrAt.congr {w : World} {g : Nat} {n : Int} {f f' : Nat → Nat → Int} (h : TerrAt w g n f) (e : ∀ i j, i < 7 → j < 7 → f i j = f' i j) : TerrAt w g n f' := by
  unfold TerrAt
  rw [← tc_congr e]
  exact h
theorem TerrAt.new (w : World) (n : Int) (f : Nat → Nat → Int) : TerrAt (w.alloc (.cells (tc n f) 103)) w.heap.size n f := heap_alloc_new w _
theorem TerrAt.alloc {w : World} {g : Nat} {n : Int} {f : Nat → Nat → Int} (h : TerrAt w g n f) (o : Obj) : TerrAt (w.alloc o) g n f := by
  unfold TerrAt
  rw [heap_alloc_old w o h.lt]
  exact h
end Go.Proofs.Ytnhkclnloiiihaa
