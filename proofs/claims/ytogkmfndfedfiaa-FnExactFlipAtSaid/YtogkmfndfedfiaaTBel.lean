/- Contracts of the program: whether a terrain is below another. Condition: the numbers fit an int. -/
import Derived.Test.YtogkmfndfedfiaaTMeet
import Derived.Test.YtogkmfndfedfiaaTEq
namespace Go.Proofs.Ytogkmfndfedfiaa
open Go.RowKit

theorem TerrAt.rangeT {w : World} {g : Nat} {n : Int} {f : Nat → Nat → Int} (h : TerrAt w g n f) : w.rangeAt g 0 (tl n f) := by
  intro j v hv
  rw [Nat.zero_add, cell_of_row w g j _ _ _ h]
  simpa [tc] using hv
theorem Try.size_terrl (n : Int) (f : Nat → Nat → Int) : (Try.prog.info? 54).map (·.size) = some (tl n f).length := by
  have := Try.size_terr n f
  simpa [tc] using this
theorem field_heights {n : Int} {f : Nat → Nat → Int} (w : World) : (Instr.field 54 (.agg (tc n f)) 1).run Try.prog w = .ok (.agg (hl f).toArray) w := by
  have e : (tc n f).extract 1 50 = (hl f).toArray := by
    apply Array.ext_getElem?
    intro j
    rw [Array.getElem?_extract]
    by_cases hj : j < 49
    · rw [if_pos (by rw [tc_size]; omega)]
      simp only [tc, tl, hl, List.getElem?_toArray, Nat.add_comm 1 j, List.getElem?_cons_succ]
    · rw [if_neg (by rw [tc_size]; omega), Array.getElem?_eq_none (by simp [hl_len]; omega)]
  simp [Instr.field, Sem.run_bind, asAgg, part, e, go_sem]
  done

end Go.Proofs.Ytogkmfndfedfiaa
