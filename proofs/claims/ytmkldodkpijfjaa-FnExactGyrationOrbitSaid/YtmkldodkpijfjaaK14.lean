/- Parts of proofs: contracts and plain facts. Conditions: as each says. -/
import Derived.Test.YtmkldodkpijfjaaK13
import Derived.Great.BuildSlice
import Derived.Great.FillDense
namespace Go.Proofs.Ytmkldodkpijfjaa
open Go.RowKit

/-- a variable that holds two numbers -/
def clI (x y : Int) : Array Value := #[.int .i64 x, .int .i64 y]
def CellI (w : World) (g : Nat) (x y : Int) : Prop := w.heap[g]? = some (.cells (clI x y) 104 (0, 0))
theorem CellI.c0 {w : World} {g : Nat} {x y : Int} (h : CellI w g x y) : w.cell? ⟨g, 0, none⟩ = some (.int .i64 x) := by rw [cell_of_row w g 0 _ _ _ h]; rfl
theorem CellI.c1 {w : World} {g : Nat} {x y : Int} (h : CellI w g x y) : w.cell? ⟨g, 1, none⟩ = some (.int .i64 y) := by rw [cell_of_row w g 1 _ _ _ h]; rfl
theorem CellI.below {w w' : World} {g : Nat} {x y : Int} (h : CellI w g x y) (hb : Below w.heap.size w w') : CellI w' g x y := by
  unfold CellI
  rw [hb.block g (lt_of_block h)]
  exact h
theorem CellI.top (w : World) (o : Obj) (x y : Int) : CellI ((w.alloc o).alloc (.cells (clI x y) 104)) (w.heap.size + 1) x y := heap_alloc2_new w _ _
theorem CellI.alloc {w : World} {g : Nat} {x y : Int} (h : CellI w g x y) (o : Obj) : CellI (w.alloc o) g x y := h.below ((Below.refl _ w).alloc (Nat.le_refl _) o)
theorem Try.size_clI (x y : Int) : (Try.prog.info? 104).map (·.size) = some (clI x y).size := (zero_of_info Try.info_cell).2

theorem three_mid {w : World} {A : Obj} {n : Int} {f : Nat → Nat → Int} {x y : Int} : TerrAt (((w.alloc (.cells (tc n f) 47)).alloc (.cells (clI x y) 104)).alloc A) w.heap.size n f ∧
    CellI (((w.alloc (.cells (tc n f) 47)).alloc (.cells (clI x y) 104)).alloc A) (w.heap.size + 1) x y :=
  ⟨(two_bot w _ _ _).alloc _, (CellI.top w _ _ _).alloc _⟩
theorem three_top {w : World} {A B : Obj} {n : Int} {f : Nat → Nat → Int} : TerrAt (((w.alloc A).alloc B).alloc (.cells (tc n f) 47)) (w.heap.size + 2) n f := by
  have e : ((w.alloc A).alloc B).heap.size = w.heap.size + 2 := by simp
  rw [← e]
  exact TerrAt.new _ _ _

set_option maxRecDepth 100000 in
set_option maxHeartbeats 1600000 in
theorem flipped_any (n : Nat) (f : Nat → Nat → Int) (i j : Nat) (w : World) (hn : n ≤ 6) (hi0 : 1 ≤ i) (hi : i < n) (hj0 : 1 ≤ j) (hj : j < n) (hf : Near f) :
    Calls Try.prog 102 #[.agg (tc n f), .agg (cl i j)] w fun e w' => e = .returned (.tuple #[.agg (tc n (upd f i j (f i j + 2 * way f i j))), .bool (way f i j != 0)]) ∧ Below w.heap.size w w' := by
  have Hf := Lib.hid hf
  have hi7 : (i : Int) < 7 := by omega
  have hj7 : (j : Int) < 7 := by omega
  have b0 := hf i j (by omega) (by omega)
  clear hf
  go_enter Try.func102, Try.ntmps102
  go_upto_region 1 with (first | (refine wpList_boxT rfl 47 _ rfl _ rfl ?_) | (refine wpList_boxT rfl 104 _ rfl _ rfl ?_) | (refine wpList_allocT rfl 47 rfl _ _ Try.info_terr ?_))
  generalize hW : World.alloc (World.alloc (World.alloc w _) _) _ = w1
  have hT : TerrAt w1 w.heap.size n f := by rw [← hW]; exact three_mid.1
  have hC : CellI w1 (w.heap.size + 1) i j := by rw [← hW]; exact three_mid.2
  have hR : TerrAt w1 (w.heap.size + 2) 0 z0 := by rw [← hW]; exact three_top
  have hB : Below w.heap.size w w1 := by rw [← hW]; exact (two_below w _ _).alloc (by simp; omega) _
  clear hW
  have HT := Lib.hid hT
  have HC := Lib.hid hC
  have HR := Lib.hid hR
  have HB := Lib.hid hB
  have HZ := Lib.hid hB.size
  clear hT hC hR hB
  go_wp2_with (first
    | (refine wpList_loadG rfl 47 _ rfl w.heap.size rfl _ _ HT.out Try.underlying47 rfl (Try.size_terr _ _) ?_)
    | (refine wpList_loadG rfl 104 _ rfl (w.heap.size + 1) rfl _ _ HC.out Try.underlying104 rfl (Try.size_clI _ _) ?_))
  refine (stepAt_any n f i j w1 hi0 (by omega) hj0 (by omega) Hf.out).mono ?_
  rintro e w3 ⟨rfl, hb⟩
  have HT3 := Lib.hid (HT.out.below hb)
  have HC3 := Lib.hid (HC.out.below hb)
  have HR3 := Lib.hid (HR.out.below hb)
  have HB3 := Lib.hid (HB.out.trans (hb.mono HZ.out))
  clear hb HT HC HR
  have hway : -1 ≤ way f i j ∧ way f i j ≤ 1 := by unfold way; split <;> (try split) <;> omega
  have h0 := HC3.out.c0
  have h1 := HC3.out.c1
  have h2 := HT3.out.cell (i := i) (j := j) (by omega) (by omega)
  have h3 := HT3.out.frozen (1 + i * 7 + j)
  have hT4 : TerrAt (w3.setCell ⟨w.heap.size, 1 + i * 7 + j, none⟩ (.int .i64 (f i j + 2 * way f i j))).drew w.heap.size n (upd f i j (f i j + 2 * way f i j)) := (HT3.out.store (by omega) (by omega) _).drew
  have hR4 : TerrAt (w3.setCell ⟨w.heap.size, 1 + i * 7 + j, none⟩ (.int .i64 (f i j + 2 * way f i j))).drew (w.heap.size + 2) 0 z0 := (HR3.out.other (by simp) _).drew
  have hB4 : Below w.heap.size w (w3.setCell ⟨w.heap.size, 1 + i * 7 + j, none⟩ (.int .i64 (f i j + 2 * way f i j))).drew := below_drewN (HB3.out.setCell (p := ⟨w.heap.size, 1 + i * 7 + j, none⟩) (Nat.le_refl _) _) 1
  obtain ⟨F, hF⟩ : ∃ F, F = upd f i j (f i j + 2 * way f i j) := ⟨_, rfl⟩
  rw [← hF] at hT4
  have HF := Lib.hid hF
  have kx : IntKind.i64.wrap (f i j + 2 * way f i j) = f i j + 2 * way f i j := w64 (by omega)
  have hpost : ∀ b : Bool, (b = (way f i j != 0)) → ((Value.tuple #[.agg (tc n F), .bool b]) = .tuple #[.agg (tc n (upd f i j (f i j + 2 * way f i j))), .bool (way f i j != 0)]) := fun b e => by rw [HF.out, e]
  have HT4 := Lib.hid hT4
  have HR4 := Lib.hid hR4
  have HB4 := Lib.hid hB4
  have Hpost := Lib.hid hpost
  clear hT4 hR4 hB4 hpost hF
  go_upto_region 2 with fail
  go_region_with (fail)
  all_goals
    go_wp2_with (first
      | (refine wpList_loadG rfl 47 _ rfl w.heap.size rfl _ _ HT4.out Try.underlying47 rfl (Try.size_terr _ _) ?_)
      | (refine wpList_storeG rfl 47 _ _ rfl (w.heap.size + 2) (tc n F) _ rfl rfl HR4.out (Try.size_terr _ _) (tc_same _ _ _ _) (tc_one _ _) ?_))
    refine bodyPost_ret (v := .tuple #[.agg (tc n F), .bool (2 * way f i j != 0)]) ?_ rfl ⟨by rw [Hpost.out _ (by rcases (show way f i j = -1 ∨ way f i j = 0 ∨ way f i j = 1 by omega) with e | e | e <;> rw [e] <;> rfl)], below_setRowT HB4.out (by omega) (tc n F)⟩
    exact results_cell_two (p := 4) (q := 5) rfl _ _ (w.heap.size + 2) _ rfl (Try.load_terr (HR4.out.setRow n F))
end Go.Proofs.Ytmkldodkpijfjaa

namespace Go.Proofs.Ytmkldodkpijfjaa
open Go.RowKit

theorem Try.info_toggle : (Try.prog.info? 105).map (fun i => (i.zero, i.size)) = some (some (.agg (cl 0 0)), 2) := by kernel_rfl
theorem Try.size_toggle (i j : Nat) : (Try.prog.info? 105).map (·.size) = some (cl i j).size := (zero_of_info Try.info_toggle).2
def TogAt (w : World) (g i j : Nat) : Prop := w.heap[g]? = some (.cells (cl i j) 105 (0, 0))
theorem TogAt.below {w w' : World} {g i j : Nat} (h : TogAt w g i j) (hb : Below w.heap.size w w') : TogAt w' g i j := by
  unfold TogAt
  rw [hb.block g (lt_of_block h)]
  exact h
theorem three_a {w : World} {A : Obj} {i j : Nat} {B : Obj} : TogAt (((w.alloc (.cells (cl i j) 105)).alloc A).alloc B) w.heap.size i j := by
  have h1 : TogAt (w.alloc (.cells (cl i j) 105)) w.heap.size i j := heap_alloc_new w _
  have h2 := h1.below ((Below.refl _ _).alloc (Nat.le_refl _) A)
  exact h2.below ((Below.refl _ _).alloc (Nat.le_refl _) B)

/-- the terrain of corner sums -/
def tv (n : Nat) (c : Nat → Nat → Int) : Value := .agg (tc n (pad n (hOf c)))

set_option maxRecDepth 100000 in
set_option maxHeartbeats 1600000 in
theorem toggle_any (n : Nat) (c : Nat → Nat → Int) (i j : Nat) (w : World) (hn : n ≤ 6) (hc : Crn n c) (hp : inn n (i, j)) :
    Calls Try.prog 99 #[.agg (cl i j), .agg (tc n (pad n (hOf c)))] w fun e w' => e = .returned (.agg (tc n (pad n (hOf (flipC c i j))))) ∧ Below w.heap.size w w' := by
  obtain ⟨hi1, hi2, hj1, hj2⟩ := hp
  simp only at hi1 hi2 hj1 hj2
  have hcall := fun w' => flipped_any n (pad n (hOf c)) i j w' hn hi1 hi2 hj1 hj2 (hc.near hn)
  rw [tc_congr (fun a b _ _ => pad_tog c (p := (i, j)) ⟨hi1, hi2, hj1, hj2⟩ a b)] at hcall
  obtain ⟨F, hF⟩ : ∃ F, F = pad n (hOf (flipC c i j)) := ⟨_, rfl⟩
  obtain ⟨f, hf⟩ : ∃ f, f = pad n (hOf c) := ⟨_, rfl⟩
  obtain ⟨bb, hbb⟩ : ∃ bb, bb = (way (pad n (hOf c)) i j != 0) := ⟨_, rfl⟩
  simp only at hcall
  rw [← hbb, ← hf, ← hF] at hcall
  rw [← hf, ← hF]
  have Hcall := Lib.hid hcall
  clear hcall hF hf hbb hc hi1 hi2 hj1 hj2
  go_enter Try.func99, Try.ntmps99
  go_upto_region 1 with (first | (refine wpList_boxT rfl 47 _ rfl _ rfl ?_) | (refine wpList_boxT rfl 105 _ rfl _ rfl ?_) | (refine wpList_allocT rfl 47 rfl _ _ Try.info_terr ?_))
  generalize hW : World.alloc (World.alloc (World.alloc w _) _) _ = w1
  have hT : TerrAt w1 (w.heap.size + 1) n f := by rw [← hW]; exact three_1 w _ _ _ _
  have hC : TogAt w1 w.heap.size i j := by rw [← hW]; exact three_a
  have hR : TerrAt w1 (w.heap.size + 2) 0 z0 := by rw [← hW]; exact three_top
  have hB : Below w.heap.size w w1 := by rw [← hW]; exact (two_below w _ _).alloc (by simp; omega) _
  clear hW
  have HT := Lib.hid hT
  have HC := Lib.hid hC
  have HR := Lib.hid hR
  have HB := Lib.hid hB
  have HZ := Lib.hid hB.size
  clear hT hC hR hB
  go_wp2_with (first
    | (refine wpList_loadG rfl 47 _ rfl (w.heap.size + 1) (by simp [Act.eval, Act.put]) _ _ HT.out Try.underlying47 rfl (Try.size_terr _ _) ?_)
    | (refine wpList_loadG rfl 105 _ rfl w.heap.size rfl _ _ HC.out Try.underlying105 rfl (Try.size_toggle _ _) ?_))
  refine (Hcall.out w1).mono ?_
  rintro e w3 ⟨rfl, hb⟩
  have HT3 := Lib.hid (HT.out.below hb)
  have HR3 := Lib.hid (HR.out.below hb)
  have HB3 := Lib.hid (HB.out.trans (hb.mono HZ.out))
  clear hb HT HR
  have hT4 : TerrAt (w3.setRow (w.heap.size + 1) (tc n F)) (w.heap.size + 1) n F := HT3.out.setRow n F
  have hR4 : TerrAt (w3.setRow (w.heap.size + 1) (tc n F)) (w.heap.size + 2) 0 z0 := by
    unfold TerrAt
    rw [Go.setRow_other w3 _ _ _ (by omega)]
    exact HR3.out
  have HT4 := Lib.hid hT4
  have HR4 := Lib.hid hR4
  have HB4 := Lib.hid (below_setRowT HB3.out (show w.heap.size ≤ w.heap.size + 1 by omega) (tc n F))
  clear hT4 hR4
  go_upto_region 2 with (refine wpList_storeG rfl 47 _ _ rfl (w.heap.size + 1) (tc n F) _ rfl rfl HT3.out (Try.size_terr _ _) (tc_same _ _ _ _) (tc_one _ _) ?_)
  generalize World.setRow w3 _ _ = w4 at HT4 HR4 HB4 ⊢
  go_wp2_with (first
    | (refine wpList_loadG rfl 47 _ rfl (w.heap.size + 1) rfl _ _ HT4.out Try.underlying47 rfl (Try.size_terr _ _) ?_)
    | (refine wpList_storeG rfl 47 _ _ rfl (w.heap.size + 2) (tc n F) _ rfl rfl HR4.out (Try.size_terr _ _) (tc_same _ _ _ _) (tc_one _ _) ?_))
  refine bodyPost_ret (v := .agg (tc n F)) ?_ rfl ⟨rfl, below_setRowT HB4.out (by omega) (tc n F)⟩
  exact results_cell_one (p := 4) rfl _ _ (w.heap.size + 2) _ rfl (Try.load_terr (HR4.out.setRow n F))

/-- a toggle as a value of the interface -/
def tgv (p : Nat × Nat) : Value := .iface 105 (.agg (cl p.1 p.2))
/-- steps that a slice leads to -/
def StepsAt (w : World) (ao : Option Addr) (us : List Value) : Prop := ∀ i, i < us.length → ∃ b o, ao = some ⟨b, o, none⟩ ∧ w.cell? ⟨b, o + i, none⟩ = some (us.getD i undef)
theorem StepsAt.below {w w' : World} {ao : Option Addr} {us : List Value} (h : StepsAt w ao us) (hb : Below w.heap.size w w') : StepsAt w' ao us := fun i hi => by
  obtain ⟨b, o, e, hc⟩ := h i hi
  exact ⟨b, o, e, cell_below hc hb⟩
theorem method_toggle (i j : Nat) (w : World) : (method 215 105 (.agg (cl i j)) "loop.example/g01123/impl.from").run Try.prog w = .ok (99, .agg (cl i j)) w := by kernel_rfl

end Go.Proofs.Ytmkldodkpijfjaa

namespace Go.Proofs.Ytmkldodkpijfjaa
open Go.RowKit

/-- not of the colour -/
def offCol (col : Int) (p : Nat × Nat) : Bool := !(decide (((p.1 : Int) + (p.2 : Int)) % 2 = col))
theorem offCol_filter (col : Int) (cs : List (Nat × Nat)) : cs.filter (fun p => !offCol col p) = colL col cs := by
  unfold colL offCol
  congr 1
  funext p
  simp

theorem CellsAt.setRow {w : World} {ao : Option Addr} {cs : List (Nat × Nat)} (h : CellsAt w ao cs) {g' : Nat} (v : Array Value) (hne : ∀ g o, ao = some ⟨g, o, none⟩ → g ≠ g') : CellsAt (w.setRow g' v) ao cs := fun t ht => by
  obtain ⟨g, o, e, hr⟩ := h t ht
  refine ⟨g, o, e, fun j u hj => ?_⟩
  have h1 := hr j u hj
  have h2 := Go.setRow_other w g' g v (hne g o e)
  simp only [World.cell?] at h1 ⊢
  rw [h2]
  exact h1

set_option maxRecDepth 100000 in
set_option maxHeartbeats 1600000 in
theorem colClosure (gc : Nat) (col : Int) (i j : Nat) (w : World) (hi : i ≤ 100) (hj : j ≤ 100) (hc : w.cell? ⟨gc, 0, none⟩ = some (.int .i64 col)) :
    Calls Try.prog 101 #[.agg (cl i j), .pointer (some ⟨gc, 0, none⟩)] w fun e w' => e = .returned (.bool (offCol col (i, j))) ∧ Below w.heap.size w w' := by
  have hlt := World.block_lt_of_cell? _ _ hc
  obtain ⟨d, hd⟩ : ∃ d, d = offCol col (i, j) := ⟨_, rfl⟩
  rw [← hd]
  have hdd : (((i : Int) + j) % 2 != col) = d := by
    rw [hd]
    unfold offCol
    by_cases e : ((i : Int) + j) % 2 = col <;> simp [e]
  have Hdd := Lib.hid hdd
  clear hd hdd
  go_enter Try.func101, Try.ntmps101
  go_upto_region 1 with (refine wpList_boxT rfl 104 _ rfl _ rfl ?_)
  generalize hW : World.alloc w _ = w1
  have hC : CellAt w1 w.heap.size i j := by rw [← hW]; exact heap_alloc_new w _
  have hB : Below w.heap.size w w1 := by rw [← hW]; exact (Below.refl _ _).alloc (Nat.le_refl _) _
  clear hW
  have h0 := hC.c0
  have h1 := hC.c1
  have hc' := cell_below hc hB
  have HB := Lib.hid hB
  clear hC hB hc hlt
  cases d
  all_goals
    have hq := Hdd.out
    go_wp2
    go_ret
    exact ⟨rfl, HB.out⟩

set_option maxRecDepth 100000 in
set_option maxHeartbeats 1600000 in
theorem coloured_any (n : Nat) (f : Nat → Nat → Int) (col : Int) (w : World) (hn1 : 1 ≤ n) (hn : n ≤ 6) :
    Calls Try.prog 98 #[.agg (tc n f), .int .i64 col] w fun e w' => ∃ v, e = .returned v ∧ OwnK w' (w.heap.size + 1) v (colL col (allCells n n)) ∧ Below w.heap.size w w' := by
  go_enter Try.func98, Try.ntmps98
  go_upto_region 1 with (refine wpList_boxT rfl 47 _ rfl _ rfl ?_)
  generalize hW : World.alloc (World.alloc w _) _ = w1
  have hT : TerrAt w1 w.heap.size n f := by rw [← hW]; exact two_bot w _ _ _
  have hc : w1.cell? ⟨w.heap.size + 1, 0, none⟩ = some (.int .i64 col) := by
    rw [← hW]
    have e := heap_alloc2_new w (.cells (tc n f) 47) (.cells #[.int .i64 col] 3)
    rw [cell_of_row _ _ 0 _ _ _ e]
    rfl
  have hB : Below w.heap.size w w1 := by rw [← hW]; exact two_below w _ _
  have hz3 : w1.heap.size = w.heap.size + 2 := by rw [← hW]; simp
  clear hW
  have HZ3 := Lib.hid hz3
  clear hz3
  have HT := Lib.hid hT
  have Hc := Lib.hid hc
  have HB := Lib.hid hB
  have HZ := Lib.hid hB.size
  clear hT hc hB
  go_wp2_with (refine wpList_loadG rfl 47 _ rfl w.heap.size rfl _ _ HT.out Try.underlying47 rfl (Try.size_terr _ _) ?_)
  refine (cells_any n f w1 hn1 hn).mono ?_
  rintro e w2 ⟨v2, rfl, hv2, hb2⟩
  have hpred : PredCol w1.heap.size (w.heap.size + 1) (offCol col) (allCells n n) w2 := fun w' hb p hp => by
    have hin := mem_allCells hp
    have hcc := cell_below Hc.out hb2
    have hlt := World.block_lt_of_cell? _ _ Hc.out
    refine colClosure (w.heap.size + 1) col p.1 p.2 w' (by omega) (by omega) ?_
    rw [hb.cell (p := ⟨w.heap.size + 1, 0, none⟩) hlt]
    exact hcc
  have hcall := deleteCol w1.heap.size (w.heap.size + 1) (offCol col) (allCells n n) v2 w2 hb2.size (Nat.le_trans (allCells_all hn) (by omega)) hv2.k hpred
  rw [offCol_filter] at hcall
  have Hcall := Lib.hid hcall
  have Hb2 := Lib.hid (HB.out.trans (hb2.mono HZ.out))
  have HZ2 := Lib.hid hb2.size
  obtain ⟨ca, cc, rfl, _, _, _⟩ := hv2.read
  clear hcall hpred hv2 hb2
  go_wp2_with fail
  refine Hcall.out.mono ?_
  rintro e w3 ⟨v3, rfl, hk3, hb3⟩
  have hk4 : OwnK w3 (w.heap.size + 1) v3 (colL col (allCells n n)) := by
    obtain ⟨a, c, e, h1, h2, h3, h4⟩ := hk3
    exact ⟨a, c, e, h1, h2, h3, fun g o e => by have := h4 g o e; have := HZ3.out; omega⟩
  have Hk4 := Lib.hid hk4
  have Hb3 := Lib.hid (Hb2.out.trans (hb3.mono HZ.out))
  clear hk3 hb3 hk4
  go_wp2
  go_ret
  exact ⟨v3, rfl, Hk4.out, Hb3.out⟩

set_option maxRecDepth 100000 in
set_option maxHeartbeats 1600000 in
theorem flipOf_any (n : Nat) (c : Nat → Nat → Int) (col : Int) (w : World) (hn1 : 1 ≤ n) (hn : n ≤ 6) (hc : Crn n c) :
    Calls Try.prog 97 #[.int .i64 col, .agg (tc n (pad n (hOf c)))] w fun e w' => e = .returned (.agg (tc n (pad n (hOf (togL c (colL col (allCells n n))))))) ∧ Below w.heap.size w w' := by
  have Hc := Lib.hid hc
  clear hc
  go_enter Try.func97, Try.ntmps97
  go_upto_region 1 with (first | (refine wpList_boxT rfl 47 _ rfl _ rfl ?_) | (refine wpList_allocT rfl 47 rfl _ _ Try.info_terr ?_))
  generalize hW : World.alloc (World.alloc w _) _ = w1
  have hT : TerrAt w1 w.heap.size n (pad n (hOf c)) := by rw [← hW]; exact two_bot w _ _ _
  have hR : TerrAt w1 (w.heap.size + 1) 0 z0 := by rw [← hW]; exact two_top w _ _ _
  have hB : Below w.heap.size w w1 := by rw [← hW]; exact two_below w _ _
  clear hW
  have HT := Lib.hid hT
  have HR := Lib.hid hR
  have HB := Lib.hid hB
  have HZ := Lib.hid hB.size
  clear hT hR hB
  go_wp2_with (refine wpList_loadG rfl 47 _ rfl w.heap.size rfl _ _ HT.out Try.underlying47 rfl (Try.size_terr _ _) ?_)
  refine (coloured_any n (pad n (hOf c)) col w1 hn1 hn).mono ?_
  rintro e w2 ⟨v2, rfl, hk2, hb2⟩
  have hx0 := hk2
  obtain ⟨ao, cap, rfl, _, _, _, hbl⟩ := hk2
  have hx := hx0.cells
  clear hx0
  obtain ⟨cs, hcs⟩ : ∃ cs, cs = colL col (allCells n n) := ⟨_, rfl⟩
  rw [← hcs]
  rw [← hcs] at hx
  have Hcs := Lib.hid hcs
  have Hin := Lib.hid (show ∀ p ∈ cs, inn n p by rw [hcs]; exact fun p hp => allCells_inn p (colL_mem hp))
  have hle : cs.length ≤ 36 := by rw [hcs]; exact Nat.le_trans (colL_len _ _) (allCells_all hn)
  have Hbl := Lib.hid (show ∀ g o, ao = some ⟨g, o, none⟩ → g ≠ w.heap.size from fun g o e => by have := hbl g o e; have := HZ.out; omega)
  have Hx := Lib.hid hx
  have HT2 := Lib.hid (HT.out.below hb2)
  have HR2 := Lib.hid (HR.out.below hb2)
  have Hb2 := Lib.hid (HB.out.trans (hb2.mono HZ.out))
  obtain ⟨k, hk⟩ : ∃ k, k = cs.length := ⟨_, rfl⟩
  rw [← hk]
  rw [← hk] at hle
  have Hk := Lib.hid hk
  clear hcs hx hb2 hk HT HR HB hbl
  go_wp2
  go_loopw [11] (fun i wr => ∃ t : Nat, t ≤ k ∧ i = .int .i64 t ∧ TerrAt wr w.heap.size n (pad n (hOf (togL c (cs.take t)))) ∧ TerrAt wr (w.heap.size + 1) 0 z0 ∧ CellsAt wr ao cs ∧ Below w.heap.size w wr) (fun i _ => k - (intOf i).toNat)
  case atStart => exact ⟨0, Nat.zero_le _, rfl, HT2.out, HR2.out, Hx.out, Hb2.out⟩
  case round =>
    obtain ⟨t, ht, rfl, hT, hR, hx, hbr⟩ := hrel
    have Hbr := Lib.hid hbr
    have HZr := Lib.hid hbr.size
    have HTr := Lib.hid hT
    have HRr := Lib.hid hR
    have Hxr := Lib.hid hx
    clear hT hR HT2 HR2 Hx
    by_cases hlt : t < k
    · have hlt' : t < cs.length := by rw [← Hk.out]; exact hlt
      obtain ⟨g, o, rfl, hr⟩ := hx t hlt'
      obtain ⟨p, hpv⟩ : ∃ p, p = cs[t] := ⟨_, rfl⟩
      rw [← hpv] at hr
      have Hr := Lib.hid hr
      have hpi : inn n p := by rw [hpv]; exact Hin.out _ (List.getElem_mem _)
      have Hstep := Lib.hid (show togL c (cs.take (t + 1)) = flipC (togL c (cs.take t)) p.1 p.2 by rw [take_snoc hlt', togL_snoc, hpv])
      have Hcr := Lib.hid (Hc.out.togL (cs.take t) (fun q hq => Hin.out q (List.mem_of_mem_take hq)))
      have hcall := fun w' => toggle_any n (togL c (cs.take t)) p.1 p.2 w' hn Hcr.out hpi
      rw [← Hstep.out] at hcall
      obtain ⟨F, hF⟩ : ∃ F, F = pad n (hOf (togL c (cs.take (t + 1)))) := ⟨_, rfl⟩
      rw [← hF] at hcall
      have HF := Lib.hid hF
      have Hcall := Lib.hid hcall
      clear hlt' hpv hpi hcall hF hr hx hbr
      go_upto_region 4 with (first
        | (refine wpList_load_mid rfl 104 _ rfl g (o + t * 2) rfl (crow p) _ Hr.out Try.underlying104 rfl (Try.size_celll _ _) ?_)
        | (refine wpList_allocT rfl 104 rfl _ _ Try.info_cell ?_)
        | (refine wpList_storeT rfl 104 _ _ rfl (crow p).toArray (cl 0 0) wr.heap.size rfl rfl rfl (Try.size_cell p.1 p.2) rfl (crow_one p) ?_))
      generalize hW : World.alloc wr _ = w3
      have hC : CellAt w3 wr.heap.size p.1 p.2 := by rw [← hW]; exact heap_alloc_new wr _
      have hb3 : Below wr.heap.size wr w3 := by rw [← hW]; exact (Below.refl _ _).alloc (Nat.le_refl _) _
      clear hW
      have HC := Lib.hid hC
      have HT3 := Lib.hid (HTr.out.below hb3)
      have Hb3 := Lib.hid hb3
      clear hC hb3
      go_wp2_with (first
        | (refine wpList_loadG rfl 104 _ rfl wr.heap.size rfl _ _ HC.out Try.underlying104 rfl (Try.size_cell _ _) ?_)
        | (refine wpList_loadG rfl 47 _ rfl w.heap.size rfl _ _ HT3.out Try.underlying47 rfl (Try.size_terr _ _) ?_))
      refine (Hcall.out _).mono ?_
      rintro e w4 ⟨rfl, hb4⟩
      have hbb := Hb3.out.trans (hb4.mono Hb3.out.size)
      have HT4 := Lib.hid (HT3.out.below hb4)
      have HR4 := Lib.hid (HRr.out.below hbb)
      have Hx4 := Lib.hid (Hxr.out.below hbb)
      have Hb4 := Lib.hid (Hbr.out.trans (hbb.mono HZr.out))
      have hR5 : TerrAt (w4.setRow w.heap.size (tc n F)) (w.heap.size + 1) 0 z0 := by
        unfold TerrAt
        rw [Go.setRow_other w4 _ _ _ (by omega)]
        exact HR4.out
      have HR5 := Lib.hid hR5
      have HT5 := Lib.hid (HT4.out.setRow n F)
      have Hx5 := Lib.hid (Hx4.out.setRow (tc n F) Hbl.out)
      have Hb5 := Lib.hid (below_setRowT Hb4.out (Nat.le_refl _) (tc n F))
      clear hb4 hbb hR5
      go_wp2_with (refine wpList_storeG rfl 47 _ _ rfl w.heap.size (tc n F) _ rfl rfl HT4.out (Try.size_terr _ _) (tc_same _ _ _ _) (tc_one _ _) ?_)
      go_roundw
      case rel => exact ⟨t + 1, by omega, by go_num, by rw [← HF.out]; exact HT5.out, HR5.out, Hx5.out, Hb5.out⟩
      case measure => simp [intOf]; omega
    · obtain rfl : t = k := by omega
      have hfin : cs.take t = cs := by rw [Hk.out]; exact List.take_length
      rw [hfin] at HTr
      obtain ⟨F, hF⟩ : ∃ F, F = pad n (hOf (togL c cs)) := ⟨_, rfl⟩
      rw [← hF] at HTr
      have HF := Lib.hid (show F = pad n (hOf (togL c (colL col (allCells n n)))) by rw [hF, Hcs.out])
      clear hfin hbr hF hx
      go_wp2_with (first
        | (refine wpList_loadG rfl 47 _ rfl w.heap.size rfl _ _ HTr.out Try.underlying47 rfl (Try.size_terr _ _) ?_)
        | (refine wpList_storeG rfl 47 _ _ rfl (w.heap.size + 1) (tc n F) _ rfl rfl HRr.out (Try.size_terr _ _) (tc_same _ _ _ _) (tc_one _ _) ?_))
      refine bodyPost_ret (v := .agg (tc n F)) ?_ rfl ⟨by rw [HF.out], below_setRowT Hbr.out (by omega) (tc n F)⟩
      exact results_cell_one (p := 4) rfl _ _ (w.heap.size + 1) _ rfl (Try.load_terr (HRr.out.setRow n F))
end Go.Proofs.Ytmkldodkpijfjaa

namespace Go.Proofs.Ytmkldodkpijfjaa
open Go.RowKit

section
variable {P : Program}
/-- a slice literal of one value of many cells -/
theorem wpList_buildOneT {ops : Array Oper} {rest : List Oper} {o : Oper} {a : Act} {w : World} {Q : Exit → Act → World → Prop} (hg : o.guard = none) (t e : TypeId) (x : Operand) (ho : o.op = .buildSlice t 1 #[(0, x)])
    (cells z : Array Value) (n : Nat) (hx : a.eval x = .agg cells) (hu : P.underlying t = some (.slice e)) (hz : (P.info? e).map (fun i => (i.zero, i.size)) = some (some (.agg z), n)) (_hzs : z.size = n) (hn : cells.size = n) (hn0 : 0 < n) (hbig : n ≤ 1000)
    (h : wpList P ops Q rest (a.put o.dst (.slice (some ⟨w.heap.size, 0, none⟩) 1 1)) (w.alloc (.cells cells e))) : wpList P ops Q (o :: rest) a w := by
  cases hie : P.info? e with
  | none => simp [hie] at hz
  | some ie =>
    simp only [hie, Option.map_some, Option.some.injEq, Prod.mk.injEq] at hz
    refine Go.wpList_buildSlice hg t e 1 _ ho cells ie (.agg z) hu hie hz.1 (by rw [hz.2]; omega) (by rw [hz.2]; omega) ?_ h
    rw [hz.2]
    have hf := Great.fill_whole (s := n) hn0 [.agg cells] ((Array.range (1 * n)).map ((Value.agg z).cells[· % (Value.agg z).cells.size]!)) (fun v hv => by rw [List.mem_singleton.1 hv]; exact hn) (by simp)
    simp only [List.zipIdx_cons, List.zipIdx_nil, List.map_cons, List.map_nil, List.flatMap_cons, List.flatMap_nil, List.append_nil] at hf
    simp only [List.map_toArray, List.map_cons, List.map_nil, hx]
    rw [hf]
    simp [Value.cells]
theorem wpList_neqA {ops : Array Oper} {rest : List Oper} {o : Oper} {a : Act} {w : World} {Q : Exit → Act → World → Prop} (hg : o.guard = none) (t t2 : TypeId) (x y : Operand) (ho : o.op = .binOp .neq t x y t2)
    (xs ys : Array Value) (hx : a.eval x = .agg xs) (hy : a.eval y = .agg ys) (hm : P.eqGuardType P.depth t = false) (b : Bool) (he : (Op.equalIn 10000 t (.agg xs) (.agg ys)).run P w = .ok b w)
    (h : wpList P ops Q rest (a.put o.dst (.bool (!b))) w) : wpList P ops Q (o :: rest) a w := by
  refine wpList_plain hg fun K hK => ?_
  unfold Oper.wp execOp
  simp only [ho, hx, hy, Sem.run_bind, run_eqGuard_agg (hm := hm), run_neq_struct, he, Result.andThen_ok, Sem.run_pure]
  exact hK _ _ h
end

theorem ownsRow_heap {w w' : World} {B s n : Nat} {e : TypeId} {v : Value} {xs : List Value} (h : w.ownsRow B e s v n xs) (hh : ∀ g, v.ownBlock = some g → w'.heap[g]? = w.heap[g]?) : w'.ownsRow B e s v n xs := by
  refine ⟨h.1, ?_⟩
  rcases h.2 with h0 | ⟨g, cap, cur, rfl, hg, hb, r⟩
  · exact .inl h0
  · exact .inr ⟨g, cap, cur, rfl, hg, by rw [hh g rfl]; exact hb, r⟩
theorem TerrAt.grown {w w' : World} {g : Nat} {n : Int} {f : Nat → Nat → Int} {row : Option Nat} (h : TerrAt w g n f) (hg : w.grownBy w' row) (hne : some g ≠ row) : TerrAt w' g n f := by
  unfold TerrAt
  rw [hg.block g h.lt hne]
  exact h
theorem StepsAt.heap {w w' : World} {ao : Option Addr} {us : List Value} (h : StepsAt w ao us) (hh : ∀ g o, ao = some ⟨g, o, none⟩ → w'.heap[g]? = w.heap[g]?) : StepsAt w' ao us := fun i hi => by
  obtain ⟨b, o, e, hc⟩ := h i hi
  refine ⟨b, o, e, ?_⟩
  have h2 := hh b o e
  simp only [World.cell?] at hc ⊢
  rw [h2]
  exact hc

/-- the cells of terrains, one behind the other -/
def tls (n : Int) (F : Nat → Nat → Nat → Int) (k : Nat) : List Value := (List.range k).flatMap fun i => tl n (F i)
theorem tl_len (n : Int) (f : Nat → Nat → Int) : (tl n f).length = 50 := by simp [tl]
theorem tls_succ (n : Int) (F : Nat → Nat → Nat → Int) (k : Nat) : tls n F (k + 1) = tls n F k ++ tl n (F k) := by simp [tls, List.range_succ]
theorem tls_len (n : Int) (F : Nat → Nat → Nat → Int) : ∀ k, (tls n F k).length = k * 50
  | 0 => rfl
  | k + 1 => by rw [tls_succ, List.length_append, tls_len n F k, tl_len]; omega
theorem tls_get (n : Int) (F : Nat → Nat → Nat → Int) : ∀ (k i j : Nat), i < k → j < 50 → (tls n F k)[i * 50 + j]? = (tl n (F i))[j]?
  | 0, i, j, hi, _ => absurd hi (by omega)
  | k + 1, i, j, hi, hj => by
    rw [tls_succ]
    by_cases e : i = k
    · subst e
      rw [List.getElem?_append_right (by rw [tls_len]; omega), tls_len]
      congr 1
      omega
    · rw [List.getElem?_append_left (by rw [tls_len]; omega)]
      exact tls_get n F k i j (by omega) hj
/-- a slice of k terrains that the call owns from block B on -/
def OwnTr (w : World) (B : Nat) (v : Value) (n : Int) (F : Nat → Nat → Nat → Int) (k : Nat) : Prop := w.ownsRow B 47 50 v k (tls n F k)
theorem OwnTr.read {w : World} {B k : Nat} {v : Value} {n : Int} {F : Nat → Nat → Nat → Int} (h : OwnTr w B v n F k) : ∃ ao c, v = .slice ao k c ∧ ∀ i, i < k → ∃ g o, ao = some ⟨g, o, none⟩ ∧ w.rangeAt g (o + i * 50) (tl n (F i)) := by
  rcases h.2 with ⟨rfl, h0⟩ | ⟨g, cap, cur, rfl, hg, hh, hn, hm, hs, ht⟩
  · exact ⟨none, 0, by rw [h0], fun i hi => absurd hi (by omega)⟩
  · refine ⟨some ⟨g, 0, none⟩, cap, rfl, fun i hi => ⟨g, 0, rfl, fun j u hj => ?_⟩⟩
    have hj50 : j < 50 := by have := (List.getElem?_eq_some_iff.1 hj).1; rwa [tl_len] at this
    rw [World.ownsRow.cellAt h _ (by omega), Nat.zero_add, tls_get n F k i j hi hj50]
    exact hj
theorem Try.infob_terr : (Try.prog.info? 47).map (fun i => (i.zero, i.size, i.bytes)) = some (some (.agg (tc 0 z0)), 50, 400) := by kernel_rfl
theorem OwnTr.one (w : World) (n : Int) (F : Nat → Nat → Nat → Int) : OwnTr (w.alloc (.cells (tc n (F 0)) 47)) w.heap.size (.slice (some ⟨w.heap.size, 0, none⟩) 1 1) n F 1 := by
  refine ⟨?_, .inr ⟨w.heap.size, 1, tc n (F 0), rfl, Nat.le_refl _, heap_alloc_new w _, Nat.le_refl _, by unfold maxLen; omega, ?_, ?_⟩⟩
  · rw [tls_len]
  · rw [tc_size]
  · rw [show tls n F 1 = tl n (F 0) from by simp [tls]]
    rw [show (tc n (F 0)).toList = tl n (F 0) from by simp [tc], Nat.one_mul, List.take_of_length_le (by rw [tl_len]; omega)]
theorem tl_one (n : Int) (f : Nat → Nat → Int) : ∀ u ∈ tl n f, u.oneCell' = true := fun u hu => by
  have h := Array.all_eq_true_iff_forall_mem.1 (tc_one n f) u (by simpa [tc] using hu)
  exact h
theorem tl_new (w : World) (n : Int) (f : Nat → Nat → Int) : ∀ j u, (tl n f)[j]? = some u → (w.alloc (.cells (tc n f) 47)).cell? ((⟨w.heap.size, 0, none⟩ : Addr).add j) = some u := by
  intro j u hj
  rw [Addr.add_mid, Nat.zero_add, cell_of_row _ _ j _ _ _ (heap_alloc_new w _)]
  simpa [tc] using hj

/-- the terrains of two sign matrices are the same just if these are -/
theorem pad_same {A B : List (List Int)} (hA : good A) (hB : good B) {n : Nat} (ha : A.length = n) (hb : B.length = n) : (∀ i j, i < 7 → j < 7 → pad n (hOf (S2 A)) i j = pad n (hOf (S2 B)) i j) ↔ A = B := by
  constructor
  · intro h
    have hn := hA.1.2.1
    rw [← unC_S2 hA.1, ← unC_S2 hB.1, ha, hb]
    refine unC_congr fun i j hi hj => ?_
    have := h i j (by omega) (by omega)
    unfold pad at this
    rw [if_pos ⟨hi, hj⟩, if_pos ⟨hi, hj⟩] at this
    exact hOf_eq.1 this
  · rintro rfl
    exact fun _ _ _ _ => rfl
/-- a gyration in the program's terrain -/
theorem pad_nx {M : List (List Int)} (h : good M) {n : Nat} (hl : M.length = n) : pad n (hOf (togL (S2 M) (colsL n [0, 1]))) = pad n (hOf (S2 (nx M))) := by
  subst hl
  exact (pad_eqC (S2_gyM h colsL_inn)).symm
/-- the terrain behind k gyrations -/
def tnx (m : List (List Int)) (k : Nat) : Nat → Nat → Int := pad m.length (hOf (S2 (nxN m k)))
end Go.Proofs.Ytmkldodkpijfjaa

namespace Go.Proofs.Ytmkldodkpijfjaa
open Go.RowKit

/-- the flip of a colour as a value of the interface -/
def fv (col : Int) : Value := .iface 75 (.int .i64 col)
theorem method_flip (col : Int) (w : World) : (method 215 75 (.int .i64 col) "loop.example/g01123/impl.from").run Try.prog w = .ok (97, .int .i64 col) w := by kernel_rfl
theorem method_series (ao : Option Addr) (k c : Nat) (w : World) : (method 215 77 (.slice ao k c) "loop.example/g01123/impl.from").run Try.prog w = .ok (107, .slice ao k c) w := by kernel_rfl
theorem ahead_flip (col : Int) (w : World) : (nilAhead 215 75 (.int .i64 col) "loop.example/g01123/impl.from").run Try.prog w = .ok (some false) w := by kernel_rfl
theorem ahead_series (ao : Option Addr) (k c : Nat) (w : World) : (nilAhead 215 77 (.slice ao k c) "loop.example/g01123/impl.from").run Try.prog w = .ok (some false) w := by kernel_rfl
theorem assert_flip (col : Int) (w : World) : (Instr.typeAssert (.iface 75 (.int .i64 col)) 62 77 true).run Try.prog w = .ok (.tuple #[.slice none 0 0, .bool false]) w := by kernel_rfl
theorem assert_series (ao : Option Addr) (k c : Nat) (w : World) : (Instr.typeAssert (.iface 77 (.slice ao k c)) 62 77 true).run Try.prog w = .ok (.tuple #[.slice ao k c, .bool true]) w := by kernel_rfl
theorem Try.info_step : (Try.prog.info? 62).map (fun i => (i.zero, i.size, i.bytes)) = some (some .nilIface, 1, 16) := by kernel_rfl

theorem steps_new (w : World) (x y : Value) (e : TypeId) : StepsAt (w.alloc (.cells #[x, y] e)) (some ⟨w.heap.size, 0, none⟩) [x, y] := fun k hk => by
  refine ⟨w.heap.size, 0, rfl, ?_⟩
  rw [Nat.zero_add, cell_of_row _ _ k _ _ _ (heap_alloc_new w _)]
  have : k = 0 ∨ k = 1 := by simp at hk; omega
  rcases this with rfl | rfl <;> rfl

/-- a series of flips -/
def SerAt (w : World) (B : Nat) (v : Value) (cols : List Int) : Prop := ∃ ao c, v = .iface 77 (.slice ao cols.length c) ∧ StepsAt w ao (cols.map fv) ∧ ∀ g o, ao = some ⟨g, o, none⟩ → B ≤ g ∧ g < w.heap.size ∧ ∃ cur q, w.heap[g]? = some (.cells cur 62 q)
theorem SerAt.below {w w' : World} {B : Nat} {v : Value} {cols : List Int} (h : SerAt w B v cols) (hb : Below w.heap.size w w') : SerAt w' B v cols := by
  obtain ⟨ao, c, e, hs, hg⟩ := h
  refine ⟨ao, c, e, hs.below hb, fun g o e => ?_⟩
  obtain ⟨h1, h2, cur, q, h3⟩ := hg g o e
  exact ⟨h1, Nat.lt_of_lt_of_le h2 hb.size, cur, q, by rw [hb.block g h2]; exact h3⟩

set_option maxRecDepth 100000 in
set_option maxHeartbeats 800000 in
theorem gyration_any (w : World) : Calls Try.prog 49 #[] w fun e w' => ∃ v, e = .returned v ∧ SerAt w' w.heap.size v [0, 1] ∧ Below w.heap.size w w' := by
  have hs : StepsAt (w.alloc (.cells #[fv 0, fv 1] 62)) (some ⟨w.heap.size, 0, none⟩) [fv 0, fv 1] := steps_new w _ _ _
  have hb : Below w.heap.size w (w.alloc (.cells #[fv 0, fv 1] 62)) := (Below.refl _ _).alloc (Nat.le_refl _) _
  have hz : (w.alloc (.cells #[fv 0, fv 1] 62)).heap.size = w.heap.size + 1 := by simp
  have hq : (w.alloc (.cells #[fv 0, fv 1] 62)).heap[w.heap.size]? = some (.cells #[fv 0, fv 1] 62 (0, 0)) := heap_alloc_new w _
  unfold fv at hs hb hz hq
  have Hq := Lib.hid hq
  have Hs := Lib.hid hs
  have Hb := Lib.hid hb
  have Hz := Lib.hid hz
  clear hs hb hz hq
  go_enter Try.func49, Try.ntmps49
  go_wp2
  go_ret
  exact ⟨_, rfl, ⟨_, _, rfl, Hs.out, fun g o e => by
    simp only [Option.some.injEq, Addr.mk.injEq, and_true] at e
    obtain ⟨rfl, rfl⟩ := e
    exact ⟨Nat.le_refl _, by rw [Hz.out]; omega, _, _, Hq.out⟩⟩, Hb.out⟩

/-- the first t of a list, in a row from the end on -/
def RevOf (cols : List Int) (t : Nat) (xs : List Value) : Prop := ∀ j, j < t → xs.getD (cols.length - 1 - j) undef = fv (gi cols j)

end Go.Proofs.Ytmkldodkpijfjaa

namespace Go.Proofs.Ytmkldodkpijfjaa
open Go.RowKit

set_option maxRecDepth 100000 in
set_option maxHeartbeats 1600000 in
theorem seriesFlips (n : Nat) (c : Nat → Nat → Int) (us : List (Value × List (Nat × Nat))) (ao : Option Addr) (k cp : Nat) (w : World) (_hn : n ≤ 6) (hc : Crn n c) (hk : us.length = k) (hk2 : k ≤ 4096) (hp : ∀ u ∈ us, ∀ p ∈ u.2, inn n p)
    (hs : StepsAt w ao (us.map fun u => .iface 75 u.1)) (hm : ∀ u ∈ us, ∀ w', (method 215 75 u.1 "loop.example/g01123/impl.from").run Try.prog w' = .ok (97, u.1) w')
    (hcall : ∀ u ∈ us, ∀ c, Crn n c → ∀ w', Below w.heap.size w w' → Calls Try.prog 97 #[u.1, .agg (tc n (pad n (hOf c)))] w' fun e w2 => e = .returned (.agg (tc n (pad n (hOf (togL c u.2))))) ∧ Below w'.heap.size w' w2) :
    Calls Try.prog 107 #[.slice ao k cp, .agg (tc n (pad n (hOf c)))] w fun e w' => e = .returned (.agg (tc n (pad n (hOf (togL c (us.flatMap (·.2))))))) ∧ Below w.heap.size w w' := by
  have Hc := Lib.hid hc
  have Hk := Lib.hid hk
  have Hp := Lib.hid hp
  have Hs := Lib.hid hs
  have Hm := Lib.hid hm
  have Hcall := Lib.hid hcall
  clear hc hk hp hs hm hcall
  go_enter Try.func107, Try.ntmps107
  go_upto_region 1 with (first | (refine wpList_boxT rfl 47 _ rfl _ rfl ?_) | (refine wpList_allocT rfl 47 rfl _ _ Try.info_terr ?_))
  generalize hW : World.alloc (World.alloc w _) _ = w1
  have hT : TerrAt w1 w.heap.size n (pad n (hOf c)) := by rw [← hW]; exact two_bot w _ _ _
  have hR : TerrAt w1 (w.heap.size + 1) 0 z0 := by rw [← hW]; exact two_top w _ _ _
  have hB : Below w.heap.size w w1 := by rw [← hW]; exact two_below w _ _
  clear hW
  have HT := Lib.hid hT
  have HR := Lib.hid hR
  have HB := Lib.hid hB
  clear hT hR hB
  go_wp2
  go_loopw [9] (fun i wr => ∃ t : Nat, t ≤ k ∧ i = .int .i64 t ∧ TerrAt wr w.heap.size n (pad n (hOf (togL c ((us.take t).flatMap (·.2))))) ∧ TerrAt wr (w.heap.size + 1) 0 z0 ∧ Below w.heap.size w wr) (fun i _ => k - (intOf i).toNat)
  case atStart => exact ⟨0, Nat.zero_le _, rfl, HT.out, HR.out, HB.out⟩
  case round =>
    obtain ⟨t, ht, rfl, hT, hR, hbr⟩ := hrel
    have Hbr := Lib.hid hbr
    have HZr := Lib.hid hbr.size
    have HTr := Lib.hid hT
    have HRr := Lib.hid hR
    clear hT hR HT HR HB
    by_cases hlt : t < k
    · have hlt' : t < us.length := by rw [Hk.out]; exact hlt
      obtain ⟨b, o, rfl, hcell⟩ := Hs.out.below hbr t (by rw [List.length_map]; exact hlt')
      obtain ⟨u, huv⟩ : ∃ u, u = us[t] := ⟨_, rfl⟩
      have hmem : u ∈ us := by rw [huv]; exact List.getElem_mem _
      have hu : (us.map fun u => Value.iface 75 u.1).getD t undef = .iface 75 u.1 := by rw [huv]; simp [List.getD, hlt']
      rw [hu] at hcell
      have hstep : (us.take (t + 1)).flatMap (·.2) = (us.take t).flatMap (·.2) ++ u.2 := by rw [List.take_add_one, List.getElem?_eq_getElem hlt', List.flatMap_append, ← huv]; simp
      have hcr : Crn n (togL c ((us.take t).flatMap (·.2))) := Hc.out.togL _ (fun q hq => by
        obtain ⟨v, hv, hq2⟩ := List.mem_flatMap.1 hq
        exact Hp.out v (List.mem_of_mem_take hv) q hq2)
      have hcall := fun w' (hb : Below wr.heap.size wr w') => Hcall.out u hmem _ hcr w' (hbr.trans (hb.mono hbr.size))
      rw [← togL_append, ← hstep] at hcall
      have Hcl := Lib.hid hcall
      have hm := fun w' => Hm.out u hmem w'
      obtain ⟨rv, hrv⟩ : ∃ rv, rv = u.1 := ⟨_, rfl⟩
      rw [← hrv] at hm hcell Hcl
      obtain ⟨F, hF⟩ : ∃ F, F = pad n (hOf (togL c ((us.take (t + 1)).flatMap (·.2)))) := ⟨_, rfl⟩
      rw [← hF] at Hcl
      have HF := Lib.hid hF
      clear hlt' huv hmem hu hstep hcr hcall hbr hrv hF
      go_wp2_with (refine wpList_loadG rfl 47 _ rfl w.heap.size rfl _ _ HTr.out Try.underlying47 rfl (Try.size_terr _ _) ?_)
      refine (Hcl.out _ (Below.refl _ _)).mono ?_
      rintro e w2 ⟨rfl, hb2⟩
      have HT2 := Lib.hid (HTr.out.below hb2)
      have HR2 := Lib.hid (HRr.out.below hb2)
      have Hb2 := Lib.hid (Hbr.out.trans (hb2.mono HZr.out))
      have hR3 : TerrAt (w2.setRow w.heap.size (tc n F)) (w.heap.size + 1) 0 z0 := by
        unfold TerrAt
        rw [Go.setRow_other w2 _ _ _ (by omega)]
        exact HR2.out
      have HR3 := Lib.hid hR3
      have HT3 := Lib.hid (HT2.out.setRow n F)
      have Hb3 := Lib.hid (below_setRowT Hb2.out (Nat.le_refl _) (tc n F))
      clear hb2 hm hR3
      go_wp2_with (refine wpList_storeG rfl 47 _ _ rfl w.heap.size (tc n F) _ rfl rfl HT2.out (Try.size_terr _ _) (tc_same _ _ _ _) (tc_one _ _) ?_)
      go_roundw
      case rel => exact ⟨t + 1, by omega, by go_num, by rw [← HF.out]; exact HT3.out, HR3.out, Hb3.out⟩
      case measure => simp [intOf]; omega
    · obtain rfl : t = k := by omega
      have hfin : us.take t = us := by rw [← Hk.out]; exact List.take_length
      rw [hfin] at HTr
      obtain ⟨F, hF⟩ : ∃ F, F = pad n (hOf (togL c (us.flatMap (·.2)))) := ⟨_, rfl⟩
      rw [← hF] at HTr
      have HF := Lib.hid hF
      clear hfin hbr hF
      go_wp2_with (first
        | (refine wpList_loadG rfl 47 _ rfl w.heap.size rfl _ _ HTr.out Try.underlying47 rfl (Try.size_terr _ _) ?_)
        | (refine wpList_storeG rfl 47 _ _ rfl (w.heap.size + 1) (tc n F) _ rfl rfl HRr.out (Try.size_terr _ _) (tc_same _ _ _ _) (tc_one _ _) ?_))
      refine bodyPost_ret (v := .agg (tc n F)) ?_ rfl ⟨by rw [HF.out], below_setRowT Hbr.out (by omega) (tc n F)⟩
      exact results_cell_one (p := 4) rfl _ _ (w.heap.size + 1) _ rfl (Try.load_terr (HRr.out.setRow n F))
end Go.Proofs.Ytmkldodkpijfjaa

