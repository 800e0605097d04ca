/- Contracts: whole numbers as ratios; products, sums and quotients of ratios, by the program. Conditions: products of at most 4 * 10^18. -/
import Derived.Test.YtmkldodkpijfjaaRtI
namespace Go.Proofs.Ytmkldodkpijfjaa
open Go.RowKit

theorem rt3_0 (w : World) (a b c : Nat × Nat) : RtAt (((w.alloc (.cells (rtA a) 25)).alloc (.cells (rtA b) 25)).alloc (.cells (rtA c) 25)) w.heap.size a := (rtwo_bot w _ _).alloc _
theorem rt3_1 (w : World) (a b c : Nat × Nat) : RtAt (((w.alloc (.cells (rtA a) 25)).alloc (.cells (rtA b) 25)).alloc (.cells (rtA c) 25)) (w.heap.size + 1) b := (rtwo_top w _ _).alloc _
theorem rt3_2 (w : World) (a b c : Nat × Nat) : RtAt (((w.alloc (.cells (rtA a) 25)).alloc (.cells (rtA b) 25)).alloc (.cells (rtA c) 25)) (w.heap.size + 2) c := by
  have := RtAt.new ((w.alloc (.cells (rtA a) 25)).alloc (.cells (rtA b) 25)) c
  simpa using this
theorem rt3_below (w : World) (o1 o2 o3 : Obj) : Below w.heap.size w (((w.alloc o1).alloc o2).alloc o3) := (((Below.refl _ w).alloc (Nat.le_refl _) o1).alloc (by simp) o2).alloc (by simp; omega) o3
theorem wrapN {n : Nat} (h : n ≤ 4000000000000000000) : IntKind.i64.wrap (n : Int) = (n : Int) := w64 (by omega)

set_option maxRecDepth 100000 in
set_option maxHeartbeats 1600000 in
theorem whole_any (x : Nat) (w : World) : Calls Try.prog 42 #[.int .i64 (x : Int)] w fun e w' => e = .returned (.agg (rtA (x, 1))) ∧ Below w.heap.size w w' := by
  go_enter Try.func42, Try.ntmps42
  go_upto_region 1 with (refine wpList_allocT rfl 25 rfl _ _ Try.info_rt ?_)
  generalize hW : World.alloc w _ = w1
  have HR := Lib.hid (show RtAt w1 w.heap.size (0, 0) by rw [← hW]; exact RtAt.new w (0, 0))
  have HB := Lib.hid (show Below w.heap.size w w1 by rw [← hW]; exact (Below.refl _ w).alloc (Nat.le_refl _) _)
  clear hW
  go_wp2_with (refine wpList_storeG rfl 25 _ _ rfl _ (rtA (x, 1)) _ rfl rfl HR.out (Try.size_rt _) (rt_same _ _) (rt_one _) ?_)
  have HR2 := Lib.hid (HR.out.setRow (x, 1))
  have HB2 := Lib.hid (below_setRowT HB.out (Nat.le_refl _) (rtA (x, 1)))
  refine bodyPost_ret (v := .agg (rtA (x, 1))) ?_ rfl ⟨rfl, HB2.out⟩
  exact results_cell_one rfl _ _ w.heap.size _ rfl (Try.load_rt HR2.out)

set_option maxRecDepth 100000 in
set_option maxHeartbeats 1600000 in
theorem times_any (a b : Nat × Nat) (w : World) (hq0 : 0 < a.2 * b.2) (hp : a.1 * b.1 ≤ 4000000000000000000) (hq : a.2 * b.2 ≤ 4000000000000000000) :
    Calls Try.prog 43 #[.agg (rtA a), .agg (rtA b)] w fun e w' => e = .returned (.agg (rtA (tm a b))) ∧ Below w.heap.size w w' := by
  have C := Lib.hid (fun w => ratioOf_any (a.1 * b.1) (a.2 * b.2) w hq0 hp hq)
  have HV := Lib.hid (show tm a b = nrm (a.1 * b.1) (a.2 * b.2) from rfl)
  obtain ⟨a1, a2⟩ := a
  obtain ⟨b1, b2⟩ := b
  simp only at hq0 hp hq
  obtain ⟨Y, hY⟩ : ∃ Y, Y = a2 * b2 := ⟨_, rfl⟩
  obtain ⟨X, hX⟩ : ∃ X, X = a1 * b1 := ⟨_, rfl⟩
  have e1 : (a1 : Int) * (b1 : Int) = (X : Int) := by rw [hX, Int.natCast_mul]
  have e2 : (a2 : Int) * (b2 : Int) = (Y : Int) := by rw [hY, Int.natCast_mul]
  simp only at HV C
  rw [← hX, ← hY] at HV C
  rw [← hX] at hp
  rw [← hY] at hq hq0
  have w1 := wrapN hp
  have w2 := wrapN hq
  clear hX hY
  go_enter Try.func43, Try.ntmps43
  go_upto_region 1 with (first | (refine wpList_boxT rfl 25 _ rfl _ rfl ?_) | (refine wpList_allocT rfl 25 rfl _ _ Try.info_rt ?_))
  generalize hW : World.alloc (World.alloc (World.alloc w _) _) _ = w1
  have h1 : RtAt w1 w.heap.size (a1, a2) := by rw [← hW]; exact rt3_0 w _ _ _
  have h2 : RtAt w1 (w.heap.size + 1) (b1, b2) := by rw [← hW]; exact rt3_1 w _ _ _
  have h3 : RtAt w1 (w.heap.size + 2) (0, 0) := by rw [← hW]; exact rt3_2 w _ _ _
  have hB : Below w.heap.size w w1 := by rw [← hW]; exact rt3_below w _ _ _
  clear hW
  have p1 : w1.cell? ⟨w.heap.size, 0, none⟩ = some (.int .i64 (a1 : Int)) := h1.c0
  have p2 : w1.cell? ⟨w.heap.size, 1, none⟩ = some (.int .i64 (a2 : Int)) := h1.c1
  have p3 : w1.cell? ⟨w.heap.size + 1, 0, none⟩ = some (.int .i64 (b1 : Int)) := h2.c0
  have p4 : w1.cell? ⟨w.heap.size + 1, 1, none⟩ = some (.int .i64 (b2 : Int)) := h2.c1
  have H3 := Lib.hid h3
  have HB := Lib.hid hB
  clear h1 h2 h3 hB
  go_wp2_with fail
  refine (C.out _).mono ?_
  rintro e w2 ⟨rfl, hb⟩
  have HR := Lib.hid (H3.out.below hb)
  have HB2 := Lib.hid (HB.out.trans (hb.mono HB.out.size))
  clear hb p1 p2 p3 p4 H3 HB
  go_wp2_with (refine wpList_storeG rfl 25 _ _ rfl _ (rtA (nrm X Y)) _ rfl rfl HR.out (Try.size_rt _) (rt_same _ _) (rt_one _) ?_)
  have HR2 := Lib.hid (HR.out.setRow (nrm X Y))
  have HB3 := Lib.hid (below_setRowT HB2.out (show w.heap.size ≤ w.heap.size + 2 by omega) (rtA (nrm X Y)))
  refine bodyPost_ret (v := .agg (rtA (nrm X Y))) ?_ rfl ⟨by rw [HV.out], HB3.out⟩
  exact results_cell_one rfl _ _ (w.heap.size + 2) _ rfl (Try.load_rt HR2.out)

set_option maxRecDepth 100000 in
set_option maxHeartbeats 1600000 in
theorem over_any (a b : Nat × Nat) (w : World) (hq0 : 0 < a.2 * b.1) (hp : a.1 * b.2 ≤ 4000000000000000000) (hq : a.2 * b.1 ≤ 4000000000000000000) :
    Calls Try.prog 44 #[.agg (rtA a), .agg (rtA b)] w fun e w' => e = .returned (.agg (rtA (ov a b))) ∧ Below w.heap.size w w' := by
  have C := Lib.hid (fun w => ratioOf_any (a.1 * b.2) (a.2 * b.1) w hq0 hp hq)
  have HV := Lib.hid (show ov a b = nrm (a.1 * b.2) (a.2 * b.1) from rfl)
  obtain ⟨a1, a2⟩ := a
  obtain ⟨b1, b2⟩ := b
  simp only at hq0 hp hq
  obtain ⟨Y, hY⟩ : ∃ Y, Y = a2 * b1 := ⟨_, rfl⟩
  obtain ⟨X, hX⟩ : ∃ X, X = a1 * b2 := ⟨_, rfl⟩
  have e1 : (a1 : Int) * (b2 : Int) = (X : Int) := by rw [hX, Int.natCast_mul]
  have e2 : (a2 : Int) * (b1 : Int) = (Y : Int) := by rw [hY, Int.natCast_mul]
  simp only at HV C
  rw [← hX, ← hY] at HV C
  rw [← hX] at hp
  rw [← hY] at hq hq0
  have w1 := wrapN hp
  have w2 := wrapN hq
  clear hX hY
  go_enter Try.func44, Try.ntmps44
  go_upto_region 1 with (first | (refine wpList_boxT rfl 25 _ rfl _ rfl ?_) | (refine wpList_allocT rfl 25 rfl _ _ Try.info_rt ?_))
  generalize hW : World.alloc (World.alloc (World.alloc w _) _) _ = w1
  have h1 : RtAt w1 w.heap.size (a1, a2) := by rw [← hW]; exact rt3_0 w _ _ _
  have h2 : RtAt w1 (w.heap.size + 1) (b1, b2) := by rw [← hW]; exact rt3_1 w _ _ _
  have h3 : RtAt w1 (w.heap.size + 2) (0, 0) := by rw [← hW]; exact rt3_2 w _ _ _
  have hB : Below w.heap.size w w1 := by rw [← hW]; exact rt3_below w _ _ _
  clear hW
  have p1 : w1.cell? ⟨w.heap.size, 0, none⟩ = some (.int .i64 (a1 : Int)) := h1.c0
  have p2 : w1.cell? ⟨w.heap.size, 1, none⟩ = some (.int .i64 (a2 : Int)) := h1.c1
  have p3 : w1.cell? ⟨w.heap.size + 1, 0, none⟩ = some (.int .i64 (b1 : Int)) := h2.c0
  have p4 : w1.cell? ⟨w.heap.size + 1, 1, none⟩ = some (.int .i64 (b2 : Int)) := h2.c1
  have H3 := Lib.hid h3
  have HB := Lib.hid hB
  clear h1 h2 h3 hB
  go_wp2_with fail
  refine (C.out _).mono ?_
  rintro e w2 ⟨rfl, hb⟩
  have HR := Lib.hid (H3.out.below hb)
  have HB2 := Lib.hid (HB.out.trans (hb.mono HB.out.size))
  clear hb p1 p2 p3 p4 H3 HB
  go_wp2_with (refine wpList_storeG rfl 25 _ _ rfl _ (rtA (nrm X Y)) _ rfl rfl HR.out (Try.size_rt _) (rt_same _ _) (rt_one _) ?_)
  have HR2 := Lib.hid (HR.out.setRow (nrm X Y))
  have HB3 := Lib.hid (below_setRowT HB2.out (show w.heap.size ≤ w.heap.size + 2 by omega) (rtA (nrm X Y)))
  refine bodyPost_ret (v := .agg (rtA (nrm X Y))) ?_ rfl ⟨by rw [HV.out], HB3.out⟩
  exact results_cell_one rfl _ _ (w.heap.size + 2) _ rfl (Try.load_rt HR2.out)

end Go.Proofs.Ytmkldodkpijfjaa
