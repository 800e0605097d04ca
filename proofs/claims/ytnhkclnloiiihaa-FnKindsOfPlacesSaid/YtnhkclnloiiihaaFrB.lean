/- How an argument that is a slice of bytes reads. No conditions. -/
import Derived.Test.YtnhkclnloiiihaaFrame
import Derived.Test.YtnhkclnloiiihaaCur
namespace Go.Proofs.Ytnhkclnloiiihaa
open Go.ChangeShapes Go.WideShapes Go.ChangeAt Go.RowKit Go.Deep

theorem Try.cells_byte : Try.prog.cellsOf 5 = 1 := by kernel_rfl

/-- a slice of bytes that came in -/
theorem open_bytes_arg {H : Type} {enc : TypeId × Value → H} {w : World} {ao : Option Addr} {n c : Nat} {d : DataW H} {p : List MemPlace}
    (h : DataW.Trod enc Try.prog w 0 (fun _ => true) true 22 (.slice ao n c) d p) :
    n ≤ 9223372036854775807 ∧ BytesIn w ao n := by
  obtain ⟨fuel, hf⟩ := h
  rcases open_ints Try.underlying22 Try.underlying5 Try.cells_byte hf with ⟨hcs, _⟩ | ⟨x, l, c', zs, hcs, _, hl, hm, hz, _, hcell, hwz⟩
  · simp [Value.cells] at hcs
    obtain ⟨rfl, rfl, rfl⟩ := hcs
    exact ⟨by omega, fun i hi => absurd hi (by simp)⟩
  · simp [Value.cells] at hcs
    obtain ⟨rfl, rfl, rfl⟩ := hcs
    simp only [if_true] at hz
    have hm' : c ≤ 9223372036854775807 := by simpa [maxLen] using hm
    refine ⟨by omega, fun i hi => ?_⟩
    have hc := hcell i (by omega)
    obtain ⟨b, o, rfl⟩ := at_zero (hcell 0 (by omega))
    rw [Addr.add_lit] at hc
    have hr := range_u8 hwz i
    exact ⟨b, o, _, rfl, hc, by simpa [List.getD] using hr⟩
end Go.Proofs.Ytnhkclnloiiihaa
