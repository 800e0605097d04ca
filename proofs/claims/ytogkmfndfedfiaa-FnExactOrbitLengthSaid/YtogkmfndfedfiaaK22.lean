/- Parts of proofs: contracts and plain facts. Conditions: as each says. -/
import Derived.Test.YtogkmfndfedfiaaK21
namespace Go.Proofs.Ytogkmfndfedfiaa
open Go.RowKit

/-- a variable that holds two numbers -/
def clI (x y : Int) : Array Value := #[.int .i64 x, .int .i64 y]
def CellI (w : World) (g : Nat) (x y : Int) : Prop := w.heap[g]? = some (.cells (clI x y) 59 (0, 0))
theorem CellI.c0 {w : World} {g : Nat} {x y : Int} (h : CellI w g x y) : w.cell? ⟨g, 0, none⟩ = some (.int .i64 x) := by rw [cell_of_row w g 0 _ _ _ h]; rfl
theorem CellI.c1 {w : World} {g : Nat} {x y : Int} (h : CellI w g x y) : w.cell? ⟨g, 1, none⟩ = some (.int .i64 y) := by rw [cell_of_row w g 1 _ _ _ h]; rfl
theorem CellI.below {w w' : World} {g : Nat} {x y : Int} (h : CellI w g x y) (hb : Below w.heap.size w w') : CellI w' g x y := by
  unfold CellI
  rw [hb.block g (lt_of_block h)]
  exact h
theorem CellI.top (w : World) (o : Obj) (x y : Int) : CellI ((w.alloc o).alloc (.cells (clI x y) 59)) (w.heap.size + 1) x y := heap_alloc2_new w _ _
theorem CellI.alloc {w : World} {g : Nat} {x y : Int} (h : CellI w g x y) (o : Obj) : CellI (w.alloc o) g x y := h.below ((Below.refl _ w).alloc (Nat.le_refl _) o)
theorem Try.size_clI (x y : Int) : (Try.prog.info? 59).map (·.size) = some (clI x y).size := (zero_of_info Try.info_cell).2

theorem three_mid {w : World} {A : Obj} {n : Int} {f : Nat → Nat → Int} {x y : Int} : TerrAt (((w.alloc (.cells (tc n f) 54)).alloc (.cells (clI x y) 59)).alloc A) w.heap.size n f ∧
    CellI (((w.alloc (.cells (tc n f) 54)).alloc (.cells (clI x y) 59)).alloc A) (w.heap.size + 1) x y :=
  ⟨(two_bot w _ _ _).alloc _, (CellI.top w _ _ _).alloc _⟩
theorem three_top {w : World} {A B : Obj} {n : Int} {f : Nat → Nat → Int} : TerrAt (((w.alloc A).alloc B).alloc (.cells (tc n f) 54)) (w.heap.size + 2) n f := by
  have e : ((w.alloc A).alloc B).heap.size = w.heap.size + 2 := by simp
  rw [← e]
  exact TerrAt.new _ _ _

set_option maxRecDepth 100000 in
set_option maxHeartbeats 1600000 in
theorem flipped_any (n : Nat) (f : Nat → Nat → Int) (i j : Nat) (w : World) (hn : n ≤ 6) (hi0 : 1 ≤ i) (hi : i < n) (hj0 : 1 ≤ j) (hj : j < n) (hf : Near f) :
    Calls Try.prog 68 #[.agg (tc n f), .agg (cl i j)] w fun e w' => e = .returned (.tuple #[.agg (tc n (upd f i j (f i j + 2 * way f i j))), .bool (way f i j != 0)]) ∧ Below w.heap.size w w' := by
  have Hf := Lib.hid hf
  have hi7 : (i : Int) < 7 := by omega
  have hj7 : (j : Int) < 7 := by omega
  have b0 := hf i j (by omega) (by omega)
  clear hf
  go_enter Try.func68, Try.ntmps68
  go_upto_region 1 with (first | (refine wpList_boxT rfl 54 _ rfl _ rfl ?_) | (refine wpList_boxT rfl 59 _ rfl _ rfl ?_) | (refine wpList_allocT rfl 54 rfl _ _ Try.info_terr ?_))
  generalize hW : World.alloc (World.alloc (World.alloc w _) _) _ = w1
  have hT : TerrAt w1 w.heap.size n f := by rw [← hW]; exact three_mid.1
  have hC : CellI w1 (w.heap.size + 1) i j := by rw [← hW]; exact three_mid.2
  have hR : TerrAt w1 (w.heap.size + 2) 0 z0 := by rw [← hW]; exact three_top
  have hB : Below w.heap.size w w1 := by rw [← hW]; exact (two_below w _ _).alloc (by simp; omega) _
  clear hW
  have HT := Lib.hid hT
  have HC := Lib.hid hC
  have HR := Lib.hid hR
  have HB := Lib.hid hB
  have HZ := Lib.hid hB.size
  clear hT hC hR hB
  go_wp2_with (first
    | (refine wpList_loadG rfl 54 _ rfl w.heap.size rfl _ _ HT.out Try.underlying54 rfl (Try.size_terr _ _) ?_)
    | (refine wpList_loadG rfl 59 _ rfl (w.heap.size + 1) rfl _ _ HC.out Try.underlying59 rfl (Try.size_clI _ _) ?_))
  refine (stepAt_any n f i j w1 hi0 (by omega) hj0 (by omega) Hf.out).mono ?_
  rintro e w3 ⟨rfl, hb⟩
  have HT3 := Lib.hid (HT.out.below hb)
  have HC3 := Lib.hid (HC.out.below hb)
  have HR3 := Lib.hid (HR.out.below hb)
  have HB3 := Lib.hid (HB.out.trans (hb.mono HZ.out))
  clear hb HT HC HR
  have hway : -1 ≤ way f i j ∧ way f i j ≤ 1 := by unfold way; split <;> (try split) <;> omega
  have h0 := HC3.out.c0
  have h1 := HC3.out.c1
  have h2 := HT3.out.cell (i := i) (j := j) (by omega) (by omega)
  have h3 := HT3.out.frozen (1 + i * 7 + j)
  have hT4 : TerrAt (w3.setCell ⟨w.heap.size, 1 + i * 7 + j, none⟩ (.int .i64 (f i j + 2 * way f i j))).drew w.heap.size n (upd f i j (f i j + 2 * way f i j)) := (HT3.out.store (by omega) (by omega) _).drew
  have hR4 : TerrAt (w3.setCell ⟨w.heap.size, 1 + i * 7 + j, none⟩ (.int .i64 (f i j + 2 * way f i j))).drew (w.heap.size + 2) 0 z0 := (HR3.out.other (by simp) _).drew
  have hB4 : Below w.heap.size w (w3.setCell ⟨w.heap.size, 1 + i * 7 + j, none⟩ (.int .i64 (f i j + 2 * way f i j))).drew := below_drewN (HB3.out.setCell (p := ⟨w.heap.size, 1 + i * 7 + j, none⟩) (Nat.le_refl _) _) 1
  obtain ⟨F, hF⟩ : ∃ F, F = upd f i j (f i j + 2 * way f i j) := ⟨_, rfl⟩
  rw [← hF] at hT4
  have HF := Lib.hid hF
  have kx : IntKind.i64.wrap (f i j + 2 * way f i j) = f i j + 2 * way f i j := w64 (by omega)
  have hpost : ∀ b : Bool, (b = (way f i j != 0)) → ((Value.tuple #[.agg (tc n F), .bool b]) = .tuple #[.agg (tc n (upd f i j (f i j + 2 * way f i j))), .bool (way f i j != 0)]) := fun b e => by rw [HF.out, e]
  have HT4 := Lib.hid hT4
  have HR4 := Lib.hid hR4
  have HB4 := Lib.hid hB4
  have Hpost := Lib.hid hpost
  clear hT4 hR4 hB4 hpost hF
  go_upto_region 2 with fail
  go_region_with (fail)
  all_goals
    go_wp2_with (first
      | (refine wpList_loadG rfl 54 _ rfl w.heap.size rfl _ _ HT4.out Try.underlying54 rfl (Try.size_terr _ _) ?_)
      | (refine wpList_storeG rfl 54 _ _ rfl (w.heap.size + 2) (tc n F) _ rfl rfl HR4.out (Try.size_terr _ _) (tc_same _ _ _ _) (tc_one _ _) ?_))
    refine bodyPost_ret (v := .tuple #[.agg (tc n F), .bool (2 * way f i j != 0)]) ?_ rfl ⟨by rw [Hpost.out _ (by rcases (show way f i j = -1 ∨ way f i j = 0 ∨ way f i j = 1 by omega) with e | e | e <;> rw [e] <;> rfl)], below_setRowT HB4.out (by omega) (tc n F)⟩
    exact results_cell_two (p := 4) (q := 5) rfl _ _ (w.heap.size + 2) _ rfl (Try.load_terr (HR4.out.setRow n F))
end Go.Proofs.Ytogkmfndfedfiaa

