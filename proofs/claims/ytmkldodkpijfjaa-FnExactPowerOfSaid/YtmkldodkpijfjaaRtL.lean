/- Contract: the laws' comparison of a ratio with itself. No conditions. -/
import Derived.Test.YtmkldodkpijfjaaRtO
namespace Go.Proofs.Ytmkldodkpijfjaa
open Go.RowKit

set_option maxRecDepth 100000 in
set_option maxHeartbeats 800000 in
theorem eqRatio_same (y : Nat × Nat) (w : World) : Calls Try.prog 9 #[.agg (rtA y), .agg (rtA y)] w fun e w' => e = .returned (.bool true) ∧ Below w.heap.size w w' := by
  obtain ⟨p, q⟩ := y
  have h1 : ((p : Int) != (p : Int)) = false := by simp
  have h2 : ((q : Int) != (q : Int)) = false := by simp
  go_enter Try.func9, Try.ntmps9
  go_upto_region 1 with (refine wpList_boxT rfl 25 _ rfl _ rfl ?_)
  generalize hW : World.alloc (World.alloc w _) _ = w1
  have r1 : RtAt w1 w.heap.size (p, q) := by rw [← hW]; exact rtwo_bot w _ _
  have r2 : RtAt w1 (w.heap.size + 1) (p, q) := by rw [← hW]; exact rtwo_top w _ _
  have hB : Below w.heap.size w w1 := by rw [← hW]; exact ((Below.refl _ w).alloc (Nat.le_refl _) _).alloc (by simp) _
  clear hW
  have c1 : w1.cell? ⟨w.heap.size, 0, none⟩ = some (.int .i64 (p : Int)) := r1.c0
  have c2 : w1.cell? ⟨w.heap.size, 1, none⟩ = some (.int .i64 (q : Int)) := r1.c1
  have c3 : w1.cell? ⟨w.heap.size + 1, 0, none⟩ = some (.int .i64 (p : Int)) := r2.c0
  have c4 : w1.cell? ⟨w.heap.size + 1, 1, none⟩ = some (.int .i64 (q : Int)) := r2.c1
  have HB := Lib.hid hB
  clear r1 r2 hB
  go_wp2
  go_ret
  exact ⟨rfl, HB.out⟩
end Go.Proofs.Ytmkldodkpijfjaa
