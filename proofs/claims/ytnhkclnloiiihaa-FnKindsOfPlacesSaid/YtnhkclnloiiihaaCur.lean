/- The cursor that the model's draws read from: a struct of the bytes, a place and a number. No conditions: facts about worlds. -/
import Derived.Test.YtnhkclnloiiihaaBlock
import Derived.Laws.Rows
namespace Go.Proofs.Ytnhkclnloiiihaa
open Go.RowKit

/-- block g holds a cursor: bytes (a slice), the place k, the number s -/
def CurAt (w : World) (g : Nat) (a : Option Addr) (n c : Nat) (k : Nat) (s : Int) : Prop := w.heap[g]? = some (.cells #[.slice a n c, .int .i64 (k : Int), .int .u64 s] 62 (0, 0))
theorem CurAt.c0 {w : World} {g n c k : Nat} {a : Option Addr} {s : Int} (h : CurAt w g a n c k s) : w.cell? ⟨g, 0, none⟩ = some (.slice a n c) := by rw [cell_of_row w g _ _ _ _ h]; rfl
theorem CurAt.c1 {w : World} {g n c k : Nat} {a : Option Addr} {s : Int} (h : CurAt w g a n c k s) : w.cell? ⟨g, 1, none⟩ = some (.int .i64 (k : Int)) := by rw [cell_of_row w g _ _ _ _ h]; rfl
theorem CurAt.c2 {w : World} {g n c k : Nat} {a : Option Addr} {s : Int} (h : CurAt w g a n c k s) : w.cell? ⟨g, 2, none⟩ = some (.int .u64 s) := by rw [cell_of_row w g _ _ _ _ h]; rfl
theorem CurAt.frozen {w : World} {g n c k : Nat} {a : Option Addr} {s : Int} (h : CurAt w g a n c k s) (i : Nat) : w.frozen? ⟨g, i, none⟩ = false := frozen_of_row w g i _ _ h
theorem CurAt.lt {w : World} {g n c k : Nat} {a : Option Addr} {s : Int} (h : CurAt w g a n c k s) : g < w.heap.size := (Array.getElem?_eq_some_iff.1 h).1
theorem CurAt.set1 {w : World} {g n c k : Nat} {a : Option Addr} {s : Int} (h : CurAt w g a n c k s) (k' : Nat) {x : Int} (hx : x = (k' : Int)) : CurAt (w.setCell ⟨g, 1, none⟩ (.int .i64 x)) g a n c k' s := by
  subst hx
  unfold CurAt at h ⊢
  rw [heap_setCell_same w g _ _ _ _ h]
  rfl
theorem CurAt.drewN {w : World} {g n c k : Nat} {a : Option Addr} {s : Int} (h : CurAt w g a n c k s) (m : Nat) : CurAt (w.drewN m) g a n c k s := h
theorem OnlyW.drewN {S : Nat → Prop} {a w : World} (h : OnlyW S a w) (n : Nat) : OnlyW S a (w.drewN n) := ⟨h.os, h.tape, h.output, h.size, h.block⟩
theorem CurAt.set2 {w : World} {g n c k : Nat} {a : Option Addr} {s : Int} (h : CurAt w g a n c k s) (s' : Int) : CurAt (w.setCell ⟨g, 2, none⟩ (.int .u64 s')) g a n c k s' := by
  unfold CurAt at h ⊢
  rw [heap_setCell_same w g _ _ _ _ h]
  rfl
theorem CurAt.below {w w' : World} {g n c k : Nat} {a : Option Addr} {s : Int} (h : CurAt w g a n c k s) (hb : Below w.heap.size w w') : CurAt w' g a n c k s := by
  unfold CurAt
  rw [hb.block g h.lt]
  exact h
/-- bytes, read -/
def BytesIn (w : World) (a : Option Addr) (n : Nat) : Prop := ∀ i, i < n → ∃ b o x, a = some ⟨b, o, none⟩ ∧ w.cell? ⟨b, o + i, none⟩ = some (.int .u8 x) ∧ 0 ≤ x ∧ x ≤ 255
theorem BytesIn.below {w w' : World} {a : Option Addr} {n : Nat} (h : BytesIn w a n) (hb : Below w.heap.size w w') : BytesIn w' a n := fun i hi => by
  obtain ⟨b, o, x, e, hc, h1, h2⟩ := h i hi
  exact ⟨b, o, x, e, cell_below hc hb, h1, h2⟩
end Go.Proofs.Ytnhkclnloiiihaa
