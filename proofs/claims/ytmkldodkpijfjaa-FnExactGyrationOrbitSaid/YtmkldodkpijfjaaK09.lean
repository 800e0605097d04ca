/- Parts of proofs: contracts and plain facts. Conditions: as each says. -/
import Derived.Test.YtmkldodkpijfjaaK08
import Derived.Deep.RegionHeld
namespace Go.Proofs.Ytmkldodkpijfjaa
open Go.RowKit

def cl (i j : Nat) : Array Value := #[.int .i64 (i : Int), .int .i64 (j : Int)]
def CellAt (w : World) (g i j : Nat) : Prop := w.heap[g]? = some (.cells (cl i j) 104 (0, 0))
theorem CellAt.c0 {w : World} {g i j : Nat} (h : CellAt w g i j) : w.cell? ⟨g, 0, none⟩ = some (.int .i64 (i : Int)) := by rw [cell_of_row w g 0 _ _ _ h]; rfl
theorem CellAt.c1 {w : World} {g i j : Nat} (h : CellAt w g i j) : w.cell? ⟨g, 1, none⟩ = some (.int .i64 (j : Int)) := by rw [cell_of_row w g 1 _ _ _ h]; rfl
theorem CellAt.lt {w : World} {g i j : Nat} (h : CellAt w g i j) : g < w.heap.size := lt_of_block h
theorem CellAt.below {w w' : World} {g i j : Nat} (h : CellAt w g i j) (hb : Below w.heap.size w w') : CellAt w' g i j := by
  unfold CellAt
  rw [hb.block g h.lt]
  exact h
theorem CellAt.alloc {w : World} {g i j : Nat} (h : CellAt w g i j) (o : Obj) : CellAt (w.alloc o) g i j := by
  unfold CellAt
  rw [heap_alloc_old w o h.lt]
  exact h
theorem CellAt.range {w : World} {g i j : Nat} (h : CellAt w g i j) : w.rangeAt g 0 [.int .i64 (i : Int), .int .i64 (j : Int)] := by
  intro k v hv
  rw [Nat.zero_add, cell_of_row w g k _ _ _ h]
  simpa [cl] using hv
theorem Try.info_cell : (Try.prog.info? 104).map (fun i => (i.zero, i.size)) = some (some (.agg (cl 0 0)), 2) := by kernel_rfl
theorem Try.size_cell (i j : Nat) : (Try.prog.info? 104).map (·.size) = some (cl i j).size := (zero_of_info Try.info_cell).2
theorem Try.size_celll (i j : Nat) : (Try.prog.info? 104).map (·.size) = some [Value.int .i64 (i : Int), .int .i64 (j : Int)].length := (zero_of_info Try.info_cell).2
/-- a terrain and a cell, laid as a method's receiver and argument -/
theorem tc_bot (w : World) (n : Int) (f : Nat → Nat → Int) (i j : Nat) : TerrAt ((w.alloc (.cells (tc n f) 47)).alloc (.cells (cl i j) 104)) w.heap.size n f := two_bot w _ _ _
theorem tc_top (w : World) (o : Obj) (i j : Nat) : CellAt ((w.alloc o).alloc (.cells (cl i j) 104)) (w.heap.size + 1) i j := heap_alloc2_new w _ _

set_option maxRecDepth 100000 in
set_option maxHeartbeats 1600000 in
theorem at_any (n : Int) (f : Nat → Nat → Int) (i j : Nat) (w : World) (hi : i < 7) (hj : j < 7) :
    Calls Try.prog 105 #[.agg (tc n f), .agg (cl i j)] w fun e w' => e = .returned (.int .i64 (f i j)) ∧ Below w.heap.size w w' := by
  go_enter Try.func105, Try.ntmps105
  go_upto_region 1 with (first | (refine wpList_boxT rfl 47 _ rfl _ rfl ?_) | (refine wpList_boxT rfl 104 _ rfl _ rfl ?_))
  generalize hW : World.alloc (World.alloc w _) _ = w1
  have hT : TerrAt w1 w.heap.size n f := by rw [← hW]; exact tc_bot w _ _ _ _
  have hC : CellAt w1 (w.heap.size + 1) i j := by rw [← hW]; exact tc_top w _ _ _
  have hB : Below w.heap.size w w1 := by rw [← hW]; exact two_below w _ _
  clear hW
  have h0 := hC.c0
  have h1 := hC.c1
  have h2 := hT.cell hi hj
  have hi7 : (i : Int) < 7 := by omega
  have hj7 : (j : Int) < 7 := by omega
  obtain ⟨x, hx⟩ : ∃ x, x = f i j := ⟨_, rfl⟩
  rw [← hx] at h2
  have Hx := Lib.hid hx
  have HB := Lib.hid hB
  clear hT hC hB hx
  go_region_held (fun w' => w'.cell? ⟨w.heap.size + 1, 0, none⟩ = some (.int .i64 (i : Int)) ∧ w'.cell? ⟨w.heap.size + 1, 1, none⟩ = some (.int .i64 (j : Int)) ∧ w'.cell? ⟨w.heap.size, 1 + i * 7 + j, none⟩ = some (.int .i64 x)) (go_keep) (fail)
  all_goals
    go_wp2
    go_ret
    exact ⟨by rw [← Hx.out]; rfl, below_drewN HB.out 1⟩

/-- four numbers -/
def fl4 (a b c d : Int) : List Value := [.int .i64 a, .int .i64 b, .int .i64 c, .int .i64 d]
theorem Try.info_four : (Try.prog.info? 112).map (fun i => (i.zero, i.size)) = some (some (.agg (fl4 0 0 0 0).toArray), 4) := by kernel_rfl
theorem Try.size_four (a b c d : Int) : (Try.prog.info? 112).map (·.size) = some (fl4 a b c d).toArray.size := (zero_of_info Try.info_four).2
theorem Try.cells_four : Try.prog.cellsOf 112 = 4 := by kernel_rfl
theorem Try.key_four : Try.prog.keyTypeAt 2 112 = true := by kernel_rfl
theorem Try.guard_four : Try.prog.eqGuardType Try.prog.depth 112 = false := by kernel_rfl
theorem lits_four {d : Nat} {a b c e : Int} (ha : Fits a) (hb : Fits b) (hc : Fits c) (he : Fits e) : Try.prog.keyLits (d + 2) 112 (fl4 a b c e) = some [.int .i64 a, .int .i64 b, .int .i64 c, .int .i64 e] := by
  have h1 := lits_num (P := Try.prog) (d := d) Try.underlying3 ha
  have h2 := lits_num (P := Try.prog) (d := d) Try.underlying3 hb
  have h3 := lits_num (P := Try.prog) (d := d) Try.underlying3 hc
  have h4 := lits_num (P := Try.prog) (d := d) Try.underlying3 he
  unfold Program.keyLits
  rw [Try.underlying112]
  simp [fl4, Try.cells_four, Try.cells_one, List.range_succ, h1, h2, h3, h4]
theorem Try.eq_four {a b c e a' b' c' e' : Int} (h1 : Fits a) (h2 : Fits b) (h3 : Fits c) (h4 : Fits e) (h5 : Fits a') (h6 : Fits b') (h7 : Fits c') (h8 : Fits e') (w : World) :
    (Op.equalIn 10000 112 (.agg (fl4 a b c e).toArray) (.agg (fl4 a' b' c' e').toArray)).run Try.prog w = .ok (decide (a = a' ∧ b = b' ∧ c = c' ∧ e = e')) w := by
  obtain ⟨r, hr, hiff⟩ := eq_by_lits (P := Try.prog) (xs := fl4 a b c e) (ys := fl4 a' b' c' e') 2 (by omega) Try.key_four (formed_agg Try.underlying112 rfl (by rw [Try.cells_four]; rfl)) (formed_agg Try.underlying112 rfl (by rw [Try.cells_four]; rfl)) (lits_four (d := 0) h1 h2 h3 h4) (lits_four (d := 0) h5 h6 h7 h8) w
  have e : r = decide (a = a' ∧ b = b' ∧ c = c' ∧ e = e') := by
    rw [Bool.eq_iff_iff, hiff]
    simp
  rw [hr, e]
section
variable {P : Program}
theorem wpList_eqA {ops : Array Oper} {rest : List Oper} {o : Oper} {a : Act} {w : World} {Q : Exit → Act → World → Prop} (hg : o.guard = none) (t t2 : TypeId) (x y : Operand) (ho : o.op = .binOp .eql t x y t2)
    (xs ys : Array Value) (hx : a.eval x = .agg xs) (hy : a.eval y = .agg ys) (hm : P.eqGuardType P.depth t = false) (b : Bool) (he : (Op.equalIn 10000 t (.agg xs) (.agg ys)).run P w = .ok b w)
    (h : wpList P ops Q rest (a.put o.dst (.bool b)) w) : wpList P ops Q (o :: rest) a w := by
  refine wpList_plain hg fun K hK => ?_
  unfold Oper.wp execOp
  simp only [ho, hx, hy, Sem.run_bind, run_eqGuard_agg (hm := hm), run_eql_struct, he, Result.andThen_ok, Sem.run_pure]
  exact hK _ _ h
end

set_option maxRecDepth 100000 in
set_option maxHeartbeats 1600000 in
theorem around_any (n : Int) (f : Nat → Nat → Int) (i j : Nat) (w : World) (hi0 : 1 ≤ i) (hi : i + 1 < 7) (hj0 : 1 ≤ j) (hj : j + 1 < 7) :
    Calls Try.prog 106 #[.agg (tc n f), .agg (cl i j)] w fun e w' => e = .returned (.agg (fl4 (f (i - 1) j) (f i (j - 1)) (f i (j + 1)) (f (i + 1) j)).toArray) ∧ Below w.heap.size w w' := by
  go_enter Try.func106, Try.ntmps106
  go_upto_region 1 with (first | (refine wpList_boxT rfl 47 _ rfl _ rfl ?_) | (refine wpList_boxT rfl 104 _ rfl _ rfl ?_) | (refine wpList_allocT rfl 112 rfl _ _ Try.info_four ?_))
  generalize hW : World.alloc (World.alloc (World.alloc w _) _) _ = w1
  have hT : TerrAt w1 w.heap.size n f := by rw [← hW]; exact three_0 w _ _ _ _
  have hC : CellAt w1 (w.heap.size + 1) i j := by rw [← hW]; exact (tc_top w _ _ _).alloc _
  have hR : w1.heap[w.heap.size + 1 + 1]? = some (.cells (fl4 0 0 0 0).toArray 112 (0, 0)) := by
    rw [← hW]
    have := heap_alloc_new ((w.alloc (.cells (tc n f) 47)).alloc (.cells (cl i j) 104)) (.cells (fl4 0 0 0 0).toArray 112)
    simpa using this
  have hB : Below w.heap.size w w1 := by rw [← hW]; exact three_below w _ _ _
  clear hW
  obtain ⟨ip, hip⟩ : ∃ p, p = i - 1 := ⟨_, rfl⟩
  obtain ⟨jp, hjp⟩ : ∃ p, p = j - 1 := ⟨_, rfl⟩
  obtain ⟨is, his⟩ : ∃ p, p = i + 1 := ⟨_, rfl⟩
  obtain ⟨js, hjs⟩ : ∃ p, p = j + 1 := ⟨_, rfl⟩
  have h0 := hC.c0
  have h1 := hC.c1
  have h2 := hT.cell (i := ip) (j := j) (by omega) (by omega)
  have h3 := hT.cell (i := i) (j := jp) (by omega) (by omega)
  have h4 := hT.cell (i := i) (j := js) (by omega) (by omega)
  have h5 := hT.cell (i := is) (j := j) (by omega) (by omega)
  have k1 : IntKind.i64.wrap ((i : Int) - 1) = (i : Int) - 1 := w64 (by omega)
  have k2 : IntKind.i64.wrap ((j : Int) - 1) = (j : Int) - 1 := w64 (by omega)
  have k3 : IntKind.i64.wrap ((i : Int) + 1) = (i : Int) + 1 := w64 (by omega)
  have k4 : IntKind.i64.wrap ((j : Int) + 1) = (j : Int) + 1 := w64 (by omega)
  have t1 : ((i : Int) - 1).toNat = ip := by omega
  have t2 : ((j : Int) - 1).toNat = jp := by omega
  have t3 : ((i : Int) + 1).toNat = is := by omega
  have t4 : ((j : Int) + 1).toNat = js := by omega
  have b1 : (i : Int) - 1 < 7 := by omega
  have b2 : (j : Int) - 1 < 7 := by omega
  have b3 : (i : Int) < 7 := by omega
  have b4 : (j : Int) < 7 := by omega
  have b5 : (i : Int) + 1 < 7 := by omega
  have b6 : (j : Int) + 1 < 7 := by omega
  have p1 : ¬ ((i : Int) - 1 < 0) := by omega
  have p2 : ¬ ((j : Int) - 1 < 0) := by omega
  have p3 : ¬ ((i : Int) + 1 < 0) := by omega
  have p4 : ¬ ((j : Int) + 1 < 0) := by omega
  have q1 : 0 ≤ (i : Int) - 1 := by omega
  have q2 : 0 ≤ (j : Int) - 1 := by omega
  generalize hx2 : f ip j = x2 at h2
  generalize hx3 : f i jp = x3 at h3
  generalize hx4 : f i js = x4 at h4
  generalize hx5 : f is j = x5 at h5
  have Hres := Lib.hid (show fl4 (f (i - 1) j) (f i (j - 1)) (f i (j + 1)) (f (i + 1) j) = fl4 x2 x3 x4 x5 by rw [← hip, ← hjp, ← his, ← hjs, hx2, hx3, hx4, hx5])
  have Hlim := Lib.hid (show 1 ≤ i ∧ i + 1 < 7 ∧ 1 ≤ j ∧ j + 1 < 7 by omega)
  clear hi0 hi hj0 hj hip hjp his hjs
  have HR := Lib.hid hR
  have HB := Lib.hid hB
  have d0 : w1.cell? ⟨w.heap.size + 1 + 1, 0, none⟩ = some (.int .i64 0) := by rw [cell_of_row w1 _ 0 _ _ _ hR]; rfl
  have d1 : w1.cell? ⟨w.heap.size + 1 + 1, 1, none⟩ = some (.int .i64 0) := by rw [cell_of_row w1 _ 1 _ _ _ hR]; rfl
  have d2 : w1.cell? ⟨w.heap.size + 1 + 1, 2, none⟩ = some (.int .i64 0) := by rw [cell_of_row w1 _ 2 _ _ _ hR]; rfl
  have d3 : w1.cell? ⟨w.heap.size + 1 + 1, 3, none⟩ = some (.int .i64 0) := by rw [cell_of_row w1 _ 3 _ _ _ hR]; rfl
  have e0 := frozen_of_row w1 _ 0 _ _ hR
  have e1 := frozen_of_row w1 _ 1 _ _ hR
  have e2 := frozen_of_row w1 _ 2 _ _ hR
  have e3 := frozen_of_row w1 _ 3 _ _ hR
  have ne1 : ¬ (w.heap.size + 1 + 1 = w.heap.size) := by omega
  have ne2 : ¬ (w.heap.size + 1 + 1 = w.heap.size + 1) := by omega
  clear hT hC hB hR hx2 hx3 hx4 hx5
  go_region_held (fun w' => w'.cell? ⟨w.heap.size + 1, 0, none⟩ = some (.int .i64 (i : Int)) ∧ w'.cell? ⟨w.heap.size + 1, 1, none⟩ = some (.int .i64 (j : Int)) ∧ w'.cell? ⟨w.heap.size, 1 + ip * 7 + j, none⟩ = some (.int .i64 x2) ∧
      w'.cell? ⟨w.heap.size, 1 + i * 7 + jp, none⟩ = some (.int .i64 x3) ∧ w'.cell? ⟨w.heap.size, 1 + i * 7 + js, none⟩ = some (.int .i64 x4) ∧ w'.cell? ⟨w.heap.size, 1 + is * 7 + j, none⟩ = some (.int .i64 x5)) (go_keep) (fail)
  all_goals
    go_wp2
    have F0 : w1.drew.heap[w.heap.size + 1 + 1]? = some (.cells (fl4 0 0 0 0).toArray 112 (0, 0)) := HR.out
    have F1 := heap_setCell_same _ _ 0 _ _ (.int .i64 x2) F0
    have F2 := heap_setCell_same _ _ 1 _ _ (.int .i64 x3) F1
    have F3 := heap_setCell_same _ _ 2 _ _ (.int .i64 x4) F2
    have F4 := heap_setCell_same _ _ 3 _ _ (.int .i64 x5) F3
    have HB4 := Lib.hid (((((below_drewN HB.out 1).setCell (p := ⟨w.heap.size + 1 + 1, 0, none⟩) (show w.heap.size ≤ w.heap.size + 1 + 1 by omega) (.int .i64 x2)).setCell (p := ⟨w.heap.size + 1 + 1, 1, none⟩) (show w.heap.size ≤ w.heap.size + 1 + 1 by omega) (.int .i64 x3)).setCell (p := ⟨w.heap.size + 1 + 1, 2, none⟩) (show w.heap.size ≤ w.heap.size + 1 + 1 by omega) (.int .i64 x4)).setCell (p := ⟨w.heap.size + 1 + 1, 3, none⟩) (show w.heap.size ≤ w.heap.size + 1 + 1 by omega) (.int .i64 x5))
    refine bodyPost_ret (v := .agg (fl4 x2 x3 x4 x5).toArray) ?_ rfl ⟨by rw [Hres.out], HB4.out⟩
    exact results_cell_one rfl _ _ (w.heap.size + 1 + 1) _ rfl (run_loadVar_row _ _ _ _ _ _ _ F4 Try.underlying112 rfl (Try.size_four x2 x3 x4 x5))
end Go.Proofs.Ytmkldodkpijfjaa

