/- Contracts of the model: a product of ratios that is kept in lowest terms. Conditions: as they say. -/
import Derived.Test.YtgdijjfipicodaaFmM
import Derived.Test.YtgdijjfipicodaaRtI
import Derived.Deep.RegionWith
namespace Go.Proofs.Ytgdijjfipicodaa
open Go.RowKit

def RsAt (w : World) (g : Nat) (a : Nat × Nat) : Prop := w.heap[g]? = some (.cells (rtA a) 48 (0, 0))
theorem RsAt.c0 {w : World} {g : Nat} {a : Nat × Nat} (h : RsAt w g a) : w.cell? ⟨g, 0, none⟩ = some (.int .i64 (a.1 : Int)) := by rw [cell_of_row w g 0 _ _ _ h]; rfl
theorem RsAt.c1 {w : World} {g : Nat} {a : Nat × Nat} (h : RsAt w g a) : w.cell? ⟨g, 1, none⟩ = some (.int .i64 (a.2 : Int)) := by rw [cell_of_row w g 1 _ _ _ h]; rfl
theorem RsAt.f (k : Nat) {w : World} {g : Nat} {a : Nat × Nat} (h : RsAt w g a) : w.frozen? ⟨g, k, none⟩ = false := frozen_of_row w g k _ _ h
theorem RsAt.lt {w : World} {g : Nat} {a : Nat × Nat} (h : RsAt w g a) : g < w.heap.size := lt_of_block h
theorem RsAt.below {w w' : World} {g : Nat} {a : Nat × Nat} (h : RsAt w g a) (hb : Below w.heap.size w w') : RsAt w' g a := by
  unfold RsAt
  rw [hb.block g h.lt]
  exact h
theorem RsAt.drew {w : World} {g : Nat} {a : Nat × Nat} (h : RsAt w g a) : RsAt w.drew g a := h.below (below_drewN (Below.refl _ _) 1)
theorem RsAt.new (w : World) (a : Nat × Nat) : RsAt (w.alloc (.cells (rtA a) 48)) w.heap.size a := heap_alloc_new w _
theorem RsAt.put0 {w : World} {g : Nat} {a : Nat × Nat} (h : RsAt w g a) (x : Nat) : RsAt (w.setCell ⟨g, 0, none⟩ (.int .i64 (x : Int))) g (x, a.2) := by
  unfold RsAt
  rw [heap_setCell_same w g 0 _ _ (.int .i64 (x : Int)) h]
  rfl
theorem RsAt.put1 {w : World} {g : Nat} {a : Nat × Nat} (h : RsAt w g a) (x : Nat) : RsAt (w.setCell ⟨g, 1, none⟩ (.int .i64 (x : Int))) g (a.1, x) := by
  unfold RsAt
  rw [heap_setCell_same w g 1 _ _ (.int .i64 (x : Int)) h]
  rfl
theorem Try.built_sm (x y : Int) : Try.prog.built 48 [(0, .int .i64 x), (1, .int .i64 y)] = some #[.int .i64 x, .int .i64 y] := by kernel_rfl

set_option maxRecDepth 100000 in
set_option maxHeartbeats 3200000 in
theorem smTimes_any (g p q : Nat) (r : Nat × Nat) (w : World) (hp1 : 1 ≤ p) (hp : p ≤ 1000) (hq1 : 1 ≤ q) (hq : q ≤ 1000) (hr : okF r = true) (hr2 : okF (stpF r p q) = true) (hg : RsAt w g r) :
    Calls Try.prog 43 #[.pointer (some ⟨g, 0, none⟩), .int .i64 (p : Int), .int .i64 (q : Int)] w fun e w' => e = .returned (.tuple #[]) ∧ RsAt w' g (stpF r p q) ∧ Below g w w' := by
  obtain ⟨o1, o2, o3, o4⟩ := okF_b hr
  obtain ⟨n1, n2, n3, n4⟩ := okF_b hr2
  obtain ⟨r1, r2⟩ := r
  have hG1 : 0 < Nat.gcd p q := Nat.gcd_pos_of_pos_right _ hq1
  have C0 := Lib.hid (fun w' => sgGcd_any q p w' (by omega) (by omega))
  have HS := Lib.hid (show stpF (r1, r2) p q = (r1 / Nat.gcd r1 (q / Nat.gcd p q) * (p / Nat.gcd p q / Nat.gcd (p / Nat.gcd p q) r2), r2 / Nat.gcd (p / Nat.gcd p q) r2 * (q / Nat.gcd p q / Nat.gcd r1 (q / Nat.gcd p q))) from rfl)
  have hN := HS.out
  rw [hN] at n2 n4
  simp only at o1 o2 o3 o4 n2 n4
  obtain ⟨G, hG⟩ : ∃ G, G = Nat.gcd p q := ⟨_, rfl⟩
  rw [← hG] at hG1 C0 HS n2 n4
  have hp2 : p / G ≤ p := Nat.div_le_self _ _
  have hq2 : q / G ≤ q := Nat.div_le_self _ _
  have e1 : (p : Int) / (G : Int) = ((p / G : Nat) : Int) := by rw [Int.natCast_ediv]
  have e2 : (q : Int) / (G : Int) = ((q / G : Nat) : Int) := by rw [Int.natCast_ediv]
  have hqG : 0 < q / G := Nat.div_pos (Nat.le_of_dvd hq1 (by rw [hG]; exact Nat.gcd_dvd_right p q)) hG1
  obtain ⟨p1, hp1e⟩ : ∃ p1, p1 = p / G := ⟨_, rfl⟩
  obtain ⟨q1, hq1e⟩ : ∃ q1, q1 = q / G := ⟨_, rfl⟩
  rw [← hp1e] at hp2 e1 HS n2 n4
  rw [← hq1e] at hq2 e2 HS n2 n4 hqG
  have ha1 : 0 < Nat.gcd p1 r2 := Nat.gcd_pos_of_pos_right _ (by omega)
  have hb1 : 0 < Nat.gcd r1 q1 := Nat.gcd_pos_of_pos_right _ hqG
  have Hbd := Lib.hid (show p1 ≤ 4000000000000000000 ∧ r2 ≤ 4000000000000000000 ∧ r1 ≤ 4000000000000000000 ∧ q1 ≤ 4000000000000000000 from ⟨by omega, by omega, by omega, by omega⟩)
  obtain ⟨a, ha⟩ : ∃ a, a = Nat.gcd p1 r2 := ⟨_, rfl⟩
  obtain ⟨b, hb⟩ : ∃ b, b = Nat.gcd r1 q1 := ⟨_, rfl⟩
  have Ha := Lib.hid ha.symm
  have Hb := Lib.hid hb.symm
  rw [← ha] at ha1 HS n2 n4
  rw [← hb] at hb1 HS n2 n4
  have x1l : r1 / b ≤ r1 := Nat.div_le_self _ _
  have y1l : p1 / a ≤ p1 := Nat.div_le_self _ _
  have x2l : r2 / a ≤ r2 := Nat.div_le_self _ _
  have y2l : q1 / b ≤ q1 := Nat.div_le_self _ _
  have e3 : (r1 : Int) / (b : Int) = ((r1 / b : Nat) : Int) := by rw [Int.natCast_ediv]
  have e4 : (p1 : Int) / (a : Int) = ((p1 / a : Nat) : Int) := by rw [Int.natCast_ediv]
  have e5 : (r2 : Int) / (a : Int) = ((r2 / a : Nat) : Int) := by rw [Int.natCast_ediv]
  have e6 : (q1 : Int) / (b : Int) = ((q1 / b : Nat) : Int) := by rw [Int.natCast_ediv]
  obtain ⟨x1, hx1⟩ : ∃ x1, x1 = r1 / b := ⟨_, rfl⟩
  obtain ⟨y1, hy1⟩ : ∃ y1, y1 = p1 / a := ⟨_, rfl⟩
  obtain ⟨x2, hx2⟩ : ∃ x2, x2 = r2 / a := ⟨_, rfl⟩
  obtain ⟨y2, hy2⟩ : ∃ y2, y2 = q1 / b := ⟨_, rfl⟩
  rw [← hx1] at x1l e3 HS n2
  rw [← hy1] at y1l e4 HS n2
  rw [← hx2] at x2l e5 HS n4
  rw [← hy2] at y2l e6 HS n4
  obtain ⟨X, hX⟩ : ∃ X, X = x1 * y1 := ⟨_, rfl⟩
  obtain ⟨Y, hY⟩ : ∃ Y, Y = x2 * y2 := ⟨_, rfl⟩
  rw [← hX] at n2 HS
  rw [← hY] at n4 HS
  have e7 : (x1 : Int) * (y1 : Int) = (X : Int) := by rw [hX, Int.natCast_mul]
  have e8 : (x2 : Int) * (y2 : Int) = (Y : Int) := by rw [hY, Int.natCast_mul]
  have k1 : IntKind.i64.wrap (p1 : Int) = (p1 : Int) := w64 (by omega)
  have k2 : IntKind.i64.wrap (q1 : Int) = (q1 : Int) := w64 (by omega)
  have k3 : IntKind.i64.wrap (x1 : Int) = (x1 : Int) := w64 (by omega)
  have k4 : IntKind.i64.wrap (y1 : Int) = (y1 : Int) := w64 (by omega)
  have k5 : IntKind.i64.wrap (x2 : Int) = (x2 : Int) := w64 (by omega)
  have k6 : IntKind.i64.wrap (y2 : Int) = (y2 : Int) := w64 (by omega)
  have k7 : IntKind.i64.wrap (X : Int) = (X : Int) := w64 (by omega)
  have k8 : IntKind.i64.wrap (Y : Int) = (Y : Int) := w64 (by omega)
  have z1 : ¬ G = 0 := by omega
  have z2 : ¬ a = 0 := by omega
  have z3 : ¬ b = 0 := by omega
  rw [HS.out]
  have Hg := Lib.hid hg
  have c0 := hg.c0
  have c1 := hg.c1
  simp only at c0 c1
  clear hr hr2 n1 n3 hN hG hp1e hq1e ha hb hx1 hy1 hx2 hy2 hX hY hg HS hqG hG1 ha1 hb1 hp1 hq1 hp hq hp2 hq2 x1l y1l x2l y2l o1 o2 o3 o4 n2 n4
  go_enter Try.func43, Try.ntmps43
  go_wp2_with fail
  refine (C0.out w).mono ?_
  rintro e w1 ⟨rfl, rfl⟩
  go_wp2_with fail
  go_region_with (go_at_call 81; refine (sgGcd_any _ _ _ ?_ ?_).mono ?_; (first | exact Hbd.out.1 | exact Hbd.out.2.2.1); (first | exact Hbd.out.2.1 | exact Hbd.out.2.2.2); rintro e w6 ⟨rfl, rfl⟩; first | rw [Ha.out] | rw [Hb.out])
  all_goals
    have Hg1 := Lib.hid (Hg.out.drew)
    have HB1 := Lib.hid (show Below g w w.drew from below_drewN (Below.refl _ _) 1)
    clear c0 c1
    generalize hW : World.drew _ = w1 at Hg1 HB1 ⊢
    have c0 := Hg1.out.c0
    have c1 := Hg1.out.c1
    have f0 := Hg1.out.f 0
    simp only at c0 c1
    clear hW Hg
    go_wp2_with fail
    go_region
    all_goals
      clear c0 c1 f0
      generalize hW : World.drew (World.setCell _ _ _) = w2
      have Hg2 := Lib.hid (show RsAt w2 g (X, r2) from by rw [← hW]; exact (Hg1.out.put0 X).drew)
      have HB2 := Lib.hid (show Below g w w2 from by rw [← hW]; exact below_drewN (HB1.out.setCell (p := ⟨g, 0, none⟩) (Nat.le_refl _) (.int .i64 (X : Int))) 1)
      have c0 := Hg2.out.c0
      have c1 := Hg2.out.c1
      have f1 := Hg2.out.f 1
      simp only at c0 c1
      clear hW Hg1 HB1
      go_wp2_with fail
      go_region
      all_goals
        clear c0 c1 f1
        go_wp2
        (try simp only [Exit.inBlock, Exit.then]); refine bodyPost_end (results_none rfl _ _ _) rfl ?_
        refine ⟨rfl, ?_, ?_⟩
        · first | exact (Hg2.out.put1 Y).drew | exact Hg2.out.drew.put1 Y
        · first | exact below_drewN (HB2.out.setCell (p := ⟨g, 1, none⟩) (Nat.le_refl _) (.int .i64 (Y : Int))) 1 | exact (below_drewN HB2.out 1).setCell (p := ⟨g, 1, none⟩) (Nat.le_refl _) (.int .i64 (Y : Int))
end Go.Proofs.Ytgdijjfipicodaa
