/- The program's own key type: a set of numbers and a score. No conditions. -/
import Derived.Test.YtcifcombbdblgaaDoorTriOf
import Derived.Test.YtcifcombbdblgaaDoorPotG
namespace Go.Proofs.YtcifcombbdblgaaDoor
open Go.RowKit Go.Maps
open Go.WideMaps (KeyLaw)

theorem Tryd.laidOut' : laidOutB Tryd.prog = true := by kernel_rfl
theorem Tryd.cells_st : Tryd.prog.cellsOf 84 = 2 := by kernel_rfl
theorem Tryd.wide_st : (match Tryd.prog.underlying 84 with | some (.array _ _) | some (.struct _) => true | _ => false) = true := by rw [Tryd.underlying84]
theorem Tryd.law_st : KeyLaw Tryd.prog 84 := deep_law_laid Tryd.laidOut' (m := 3) (by omega) (of_decide_eq_true (by kernel_rfl)) (by kernel_rfl) Tryd.wide_st
theorem types_pos : 0 < Tryd.prog.types.size := of_decide_eq_true (by kernel_rfl)
theorem S_st : StKey Tryd.prog 84 3 := ⟨Keyed.of_law Tryd.law_st, fun a b h1 h2 =>
  ky_reads_gen Tryd.underlying84 (by kernel_rfl) Tryd.cells_st rfl rfl rfl rfl (by kernel_rfl) (by kernel_rfl) Tryd.underlying51 Tryd.underlying3 types_pos a b h1 h2, Tryd.underlying3⟩
theorem zero_int (w : World) : (zeroValue 3).run Tryd.prog w = .ok (.int .i64 0) w := by kernel_rfl
end Go.Proofs.YtcifcombbdblgaaDoor
