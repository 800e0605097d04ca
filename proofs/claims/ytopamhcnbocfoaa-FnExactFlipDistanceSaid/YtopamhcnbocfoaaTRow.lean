/- A terrain's heights and their rows as values: loaded out of a terrain, indexed, laid into a variable. No conditions. -/
import Derived.Test.YtopamhcnbocfoaaTLaw
namespace Go.Proofs.Ytopamhcnbocfoaa
open Go.RowKit

/-- forty-nine heights; seven numbers -/
def hl (f : Nat → Nat → Int) : List Value := (List.range 49).map fun k => .int .i64 (f (k / 7) (k % 7))
def rl (r : Nat → Int) : List Value := (List.range 7).map fun j => .int .i64 (r j)
def rc (r : Nat → Int) : Array Value := (rl r).toArray
def RowAt (w : World) (g : Nat) (r : Nat → Int) : Prop := w.heap[g]? = some (.cells (rc r) 43 (0, 0))
theorem rc_size (r : Nat → Int) : (rc r).size = 7 := by simp [rc, rl]
theorem rc_same (r s : Nat → Int) : (rc r).size = (rc s).size := by rw [rc_size, rc_size]
theorem rc_at (r : Nat → Int) {j : Nat} (hj : j < 7) : (rc r)[j]? = some (.int .i64 (r j)) := by
  simp only [rc, rl, List.getElem?_toArray, List.getElem?_map]
  rw [List.getElem?_range hj]
  rfl
theorem hl_len (f : Nat → Nat → Int) : (hl f).length = 49 := by simp [hl]
theorem hl_at (f : Nat → Nat → Int) {i j : Nat} (hi : i < 7) (hj : j < 7) : (hl f)[i * 7 + j]? = some (.int .i64 (f i j)) := by
  simp only [hl, List.getElem?_map]
  rw [List.getElem?_range (by omega)]
  simp only [Option.map_some]
  rw [show (i * 7 + j) / 7 = i from by omega, show (i * 7 + j) % 7 = j from by omega]
theorem TerrAt.range {w : World} {g : Nat} {n : Int} {f : Nat → Nat → Int} (h : TerrAt w g n f) : w.rangeAt g 1 (hl f) := by
  intro j v hv
  have hj : j < 49 := by have := (List.getElem?_eq_some_iff.1 hv).1; rw [hl_len] at this; exact this
  have h1 := h.cell (i := j / 7) (j := j % 7) (by omega) (by omega)
  have h2 := hl_at f (i := j / 7) (j := j % 7) (by omega) (by omega)
  rw [show j / 7 * 7 + j % 7 = j from by omega] at h2
  rw [h2] at hv
  rw [show 1 + j = 1 + j / 7 * 7 + j % 7 from by omega, h1]
  exact hv
theorem hl_row (f : Nat → Nat → Int) {i : Nat} (hi : i < 7) : (hl f).toArray.extract (i * 7) (i * 7 + 7) = rc (f i) := by
  apply Array.ext_getElem?
  intro j
  rw [Array.getElem?_extract]
  have hs : (hl f).toArray.size = 49 := by simp [hl_len]
  by_cases hj : j < 7
  · rw [if_pos (by rw [hs]; omega), rc_at _ hj]
    rw [List.getElem?_toArray]
    exact hl_at f hi hj
  · rw [if_neg (by rw [hs]; omega), Array.getElem?_eq_none (by rw [rc_size]; omega)]

section
variable {P : Program}
/-- a row of an array of rows -/
theorem wpList_indexRow {ops : Array Oper} {rest : List Oper} {o : Oper} {a : Act} {w : World} {Q : Exit → Act → World → Prop} (hg : o.guard = none) (t : TypeId) (x y : Operand) (ho : o.op = .index t x y)
    (f : Nat → Nat → Int) (hx : a.eval x = .agg (hl f).toArray) (k : Nat) (hy : a.eval y = .int .i64 (k : Int)) (e e2 : TypeId) (hu : P.underlying t = some (.array 7 e)) (hk : k < 7)
    (he : P.underlying e = some (.array 7 e2)) (hs : (P.info? e).map (·.size) = some 7)
    (h : wpList P ops Q rest (a.put o.dst (.agg (rc (f k)))) w) : wpList P ops Q (o :: rest) a w := by
  refine wpList_plain hg fun K hK => ?_
  have hk0 : (0 : Int) ≤ k ∧ (k : Int) < 7 := by omega
  cases hq : P.info? e with
  | none => simp [hq] at hs
  | some ie =>
    have hie : ie.size = 7 := by simpa [hq] using hs
    have hrun : (Instr.index t (.agg (hl f).toArray) (.int .i64 (k : Int))).run P w = .ok (.agg (rc (f k))) w := by
      have h8 := hl_row f hk
      simp [Instr.index, Sem.run_bind, run_underlying hu, asIntOf, hk, part, isAgg, run_underlying he, sizeOf, typeInfo, hq, hie, go_sem]
      simpa using h8
    unfold Oper.wp execOp
    simp only [ho, hx, hy, Sem.run_bind, hrun, Result.andThen_ok, Sem.run_pure]
    exact hK _ _ h
/-- a number of a row -/
theorem wpList_indexNum {ops : Array Oper} {rest : List Oper} {o : Oper} {a : Act} {w : World} {Q : Exit → Act → World → Prop} (hg : o.guard = none) (t : TypeId) (x y : Operand) (ho : o.op = .index t x y)
    (r : Nat → Int) (hx : a.eval x = .agg (rc r)) (k : Nat) (hy : a.eval y = .int .i64 (k : Int)) (e : TypeId) (hu : P.underlying t = some (.array 7 e)) (hk : k < 7)
    (he : P.underlying e = some (.int .i64)) (hs : (P.info? e).map (·.size) = some 1)
    (h : wpList P ops Q rest (a.put o.dst (.int .i64 (r k))) w) : wpList P ops Q (o :: rest) a w := by
  refine wpList_plain hg fun K hK => ?_
  have hk0 : (0 : Int) ≤ k ∧ (k : Int) < 7 := by omega
  cases hq : P.info? e with
  | none => simp [hq] at hs
  | some ie =>
    have hie : ie.size = 1 := by simpa [hq] using hs
    have hrun : (Instr.index t (.agg (rc r)) (.int .i64 (k : Int))).run P w = .ok (.int .i64 (r k)) w := by
      have := rc_at r hk
      simp [Instr.index, Sem.run_bind, run_underlying hu, asIntOf, hk, part, isAgg, run_underlying he, sizeOf, typeInfo, hq, hie, go_sem, this]
    unfold Oper.wp execOp
    simp only [ho, hx, hy, Sem.run_bind, hrun, Result.andThen_ok, Sem.run_pure]
    exact hK _ _ h
end

theorem Try.info_row : (Try.prog.info? 43).map (fun i => (i.zero, i.size)) = some (some (.agg (rc fun _ => 0)), 7) := by kernel_rfl
theorem Try.size_row : (Try.prog.info? 43).map (·.size) = some 7 := (zero_of_info Try.info_row).2
theorem Try.size_rowc (r : Nat → Int) : (Try.prog.info? 43).map (·.size) = some (rc r).size := by rw [rc_size]; exact Try.size_row
theorem Try.size_rows (f : Nat → Nat → Int) : (Try.prog.info? 45).map (·.size) = some (hl f).length := by rw [hl_len]; kernel_rfl
theorem Try.size_num : (Try.prog.info? 3).map (·.size) = some 1 := by kernel_rfl
theorem rc_one (r : Nat → Int) : (rc r).all (·.oneCell') = true := by
  rw [Array.all_eq_true_iff_forall_mem]
  intro v hv
  simp only [rc, rl, List.mem_toArray, List.mem_map] at hv
  obtain ⟨k, _, rfl⟩ := hv
  rfl
theorem RowAt.cell {w : World} {g : Nat} {r : Nat → Int} (h : RowAt w g r) {j : Nat} (hj : j < 7) : w.cell? ⟨g, j, none⟩ = some (.int .i64 (r j)) := by
  rw [cell_of_row w g j _ _ _ h, rc_at r hj]
theorem RowAt.new (w : World) (r : Nat → Int) : RowAt (w.alloc (.cells (rc r) 43)) w.heap.size r := heap_alloc_new w _
theorem RowAt.lt {w : World} {g : Nat} {r : Nat → Int} (h : RowAt w g r) : g < w.heap.size := lt_of_block h
theorem RowAt.below {w w' : World} {g : Nat} {r : Nat → Int} (h : RowAt w g r) (hb : Below w.heap.size w w') : RowAt w' g r := by
  unfold RowAt
  rw [hb.block g h.lt]
  exact h
theorem Try.load_row {w : World} {g : Nat} {r : Nat → Int} (h : RowAt w g r) : (loadVar 43 ⟨g, 0, none⟩).run Try.prog w = .ok (.agg (rc r)) w :=
  run_loadVar_row w g _ _ _ _ _ h Try.underlying43 rfl (Try.size_rowc r)
/-- three variables -/
theorem three_0 (w : World) (o2 o3 : Obj) (n : Int) (f : Nat → Nat → Int) : TerrAt (((w.alloc (.cells (tc n f) 47)).alloc o2).alloc o3) w.heap.size n f := (two_bot w o2 n f).alloc o3
theorem three_1 (w : World) (o1 o3 : Obj) (n : Int) (f : Nat → Nat → Int) : TerrAt (((w.alloc o1).alloc (.cells (tc n f) 47)).alloc o3) (w.heap.size + 1) n f := (two_top w o1 n f).alloc o3
theorem three_2 (w : World) (o1 o2 : Obj) (n : Int) (f : Nat → Nat → Int) : TerrAt (((w.alloc o1).alloc o2).alloc (.cells (tc n f) 47)) (w.heap.size + 1 + 1) n f := by
  have := two_top (w.alloc o1) o2 n f
  simpa using this
theorem three_below (w : World) (o o2 o3 : Obj) : Below w.heap.size w (((w.alloc o).alloc o2).alloc o3) := (two_below w o o2).alloc (by simp; omega) o3
end Go.Proofs.Ytopamhcnbocfoaa
