/- A struct of rows and a number: variables with one. No condition. -/
import Derived.Test.YtfempacfaeknpaaDoorRows
import Derived.Test.YtfempacfaeknpaaDoorBase
import Derived.Test.YtfempacfaeknpaaDoorTLaw
import Derived.Test.YtfempacfaeknpaaDoorSame
namespace Go.Proofs.YtfempacfaeknpaaDoor
open Go.RowKit

def ptA (v : Value) (n : Int) : Array Value := #[v, .int .i64 n]
def PtAt (w : World) (g : Nat) (v : Value) (n : Int) : Prop := w.heap[g]? = some (.cells (ptA v n) 38 (0, 0))
theorem PtAt.c0 {w : World} {g : Nat} {v : Value} {n : Int} (h : PtAt w g v n) : w.cell? ⟨g, 0, none⟩ = some v := by rw [cell_of_row w g 0 _ _ _ h]; rfl
theorem PtAt.c1 {w : World} {g : Nat} {v : Value} {n : Int} (h : PtAt w g v n) : w.cell? ⟨g, 1, none⟩ = some (.int .i64 n) := by rw [cell_of_row w g 1 _ _ _ h]; rfl
theorem PtAt.frozen {w : World} {g : Nat} {v : Value} {n : Int} (h : PtAt w g v n) (k : Nat) : w.frozen? ⟨g, k, none⟩ = false := frozen_of_row w g k _ _ h
theorem PtAt.lt {w : World} {g : Nat} {v : Value} {n : Int} (h : PtAt w g v n) : g < w.heap.size := lt_of_block h
theorem PtAt.below {w w' : World} {g : Nat} {v : Value} {n : Int} (h : PtAt w g v n) (hb : Below w.heap.size w w') : PtAt w' g v n := by
  unfold PtAt
  rw [hb.block g h.lt]
  exact h
theorem PtAt.alloc {w : World} {g : Nat} {v : Value} {n : Int} (h : PtAt w g v n) (o : Obj) : PtAt (w.alloc o) g v n := by
  unfold PtAt
  rw [heap_alloc_old w o h.lt]
  exact h
theorem PtAt.new (w : World) (v : Value) (n : Int) : PtAt (w.alloc (.cells (ptA v n) 38)) w.heap.size v n := heap_alloc_new w _
theorem PtAt.setRow {w : World} {g : Nat} {v : Value} {n : Int} (h : PtAt w g v n) (u : Value) (k : Int) : PtAt (w.setRow g (ptA u k)) g u k := setRow_heap w g _ _ _ _ h
theorem Tryd.info_pt : (Tryd.prog.info? 38).map (fun i => (i.zero, i.size)) = some (some (.agg (ptA (.slice none 0 0) 0)), 2) := by kernel_rfl
theorem Tryd.size_pt (v : Value) (n : Int) : (Tryd.prog.info? 38).map (·.size) = some (ptA v n).size := (zero_of_info Tryd.info_pt).2
theorem pt_one (a : Option Addr) (l c : Nat) (n : Int) : (ptA (.slice a l c) n).all (·.oneCell') = true := by simp [ptA, Value.oneCell']
theorem pt_same (u v : Value) (n k : Int) : (ptA u n).size = (ptA v k).size := rfl
theorem Tryd.load_pt {w : World} {g : Nat} {v : Value} {n : Int} (h : PtAt w g v n) : (loadVar 38 ⟨g, 0, none⟩).run Tryd.prog w = .ok (.agg (ptA v n)) w := run_loadVar_row _ _ _ _ _ _ _ h Tryd.underlying38 rfl (Tryd.size_pt v n)
theorem Tryd.built_pt (a : Option Addr) (l c : Nat) (n : Int) : Tryd.prog.built 38 [(0, .slice a l c), (1, .int .i64 n)] = some (ptA (.slice a l c) n) := by kernel_rfl
end Go.Proofs.YtfempacfaeknpaaDoor
