/- How an argument that is a slice of slices of integers reads. No conditions. -/
import Derived.Test.YtnhkclnloiiihaaRows
import Derived.Test.YtnhkclnloiiihaaBase
import Derived.ProofKit
import Derived.OpenShut
import Derived.ShutString
import Derived.ChangeOld
import Derived.Deep.Matrix
namespace Go.Proofs.Ytnhkclnloiiihaa
open Go.ChangeShapes Go.WideShapes Go.ChangeAt Go.RowKit Go.Deep

theorem Try.own : ownKnob Try.prog.godebug = none := by kernel_rfl
theorem Try.laidOut : laidOutB Try.prog = true := by kernel_rfl
theorem Try.cells_int : Try.prog.cellsOf 3 = 1 := by kernel_rfl
theorem Try.cells_ints : Try.prog.cellsOf 24 = 1 := by kernel_rfl

theorem at_zero {w : World} {a : Addr} {v : Value} (h : w.cell? (a.add 0) = some v) : ∃ b o, a = ⟨b, o, none⟩ := by
  have hs := World.cell?_spot h
  obtain ⟨b, o, s⟩ := a
  exact ⟨b, o, by simpa [Addr.add] using hs⟩

/-- a slice of integers that came in -/
theorem open_ints_arg {H : Type} {enc : TypeId × Value → H} {w : World} {ao : Option Addr} {n c : Nat} {d : DataW H} {p : List MemPlace}
    (h : DataW.Trod enc Try.prog w 0 (fun _ => true) true 24 (.slice ao n c) d p) :
    ∃ xs : List Int, xs.length = n ∧ n ≤ 9223372036854775807 ∧ WfI xs ∧ IntsAt w ao xs := by
  obtain ⟨fuel, hf⟩ := h
  rcases open_ints Try.underlying24 Try.underlying3 Try.cells_int hf with ⟨hcs, _⟩ | ⟨x, l, c', zs, hcs, _, hl, hm, hz, _, hcell, hwz⟩
  · simp [Value.cells] at hcs
    obtain ⟨rfl, rfl, rfl⟩ := hcs
    exact ⟨[], rfl, by omega, fun i hi => absurd hi (by simp), IntsAt.nil _ _⟩
  · simp [Value.cells] at hcs
    obtain ⟨rfl, rfl, rfl⟩ := hcs
    simp only [if_true] at hz
    have hlen : (zs.take n).length = n := by rw [List.length_take]; omega
    have hgi : ∀ i, i < n → gi (zs.take n) i = zs.getD i 0 := fun i hi => by simp [gi, List.getD, hi]
    have hm' : c ≤ 9223372036854775807 := by simpa [maxLen] using hm
    refine ⟨zs.take n, hlen, by omega, fun i hi => ?_, fun i hi => ?_⟩
    · rw [hlen] at hi
      rw [hgi i hi]
      exact range_i64 hwz i
    · rw [hlen] at hi
      have hc := hcell i (by omega)
      obtain ⟨b, o, rfl⟩ := at_zero (hcell 0 (by omega))
      rw [Addr.add_lit] at hc
      exact ⟨b, o, rfl, by rw [hgi i hi]; exact hc⟩

/-- a slice of slices of integers that came in -/
theorem open_mat_arg {H : Type} {enc : TypeId × Value → H} {w : World} {ao : Option Addr} {n c : Nat} {d : DataW H} {p : List MemPlace}
    (h : DataW.Trod enc Try.prog w 0 (fun _ => true) true 40 (.slice ao n c) d p) :
    ∃ m : List (List Int), m.length = n ∧ n ≤ 9223372036854775807 ∧ WfM m ∧ (∀ i, i < m.length → (gr m i).length ≤ 9223372036854775807) ∧ MatAt w ao m := by
  obtain ⟨fuel, hf⟩ := h
  rcases open_int_rows Try.underlying40 Try.underlying24 Try.underlying3 Try.cells_ints Try.cells_int hf with ⟨hcs, _⟩ | ⟨x, l, c', A, L, C, Z, hcs, _, hl, hm, _, hrows⟩
  · simp [Value.cells] at hcs
    obtain ⟨rfl, rfl, rfl⟩ := hcs
    exact ⟨[], rfl, by omega, fun i hi => absurd hi (by simp), fun i hi => absurd hi (by simp), MatAt.nil _ _⟩
  · simp [Value.cells] at hcs
    obtain ⟨rfl, rfl, rfl⟩ := hcs
    have hm' : c ≤ 9223372036854775807 := by simpa [maxLen] using hm
    obtain ⟨m, hmd⟩ : ∃ m : List (List Int), m = (List.range n).map fun r => (Z r).take (L r) := ⟨_, rfl⟩
    have hlen : m.length = n := by rw [hmd]; simp
    have hgr : ∀ r, r < n → gr m r = (Z r).take (L r) := fun r hr => by rw [gr_lt (by omega)]; simp [hmd]
    have hL : ∀ r, r < n → (gr m r).length = L r ∧ L r ≤ C r ∧ C r ≤ 9223372036854775807 ∧ ∀ i, i < L r → gi (gr m r) i = (Z r).getD i 0 := by
      intro r hr
      obtain ⟨_, h1, h2, h3, _⟩ := hrows r (by omega)
      rw [hgr r hr]
      exact ⟨by rw [List.length_take]; omega, h1, by simpa [maxLen] using h2, fun i hi => by simp [gi, List.getD, hi]⟩
    refine ⟨m, hlen, by omega, fun r hr i hi => ?_, fun r hr => ?_, fun r hr => ?_⟩
    · rw [hlen] at hr
      obtain ⟨e, _, _, hg⟩ := hL r hr
      rw [e] at hi
      rw [hg i hi]
      exact range_i64 (hrows r (by omega)).2.2.2.2.1 i
    · rw [hlen] at hr
      obtain ⟨e, h1, h2, _⟩ := hL r hr
      omega
    · rw [hlen] at hr
      obtain ⟨e, h1, h2, hg⟩ := hL r hr
      obtain ⟨hc, _, _, hz, _, hnil, hcell⟩ := hrows r (by omega)
      obtain ⟨b, o, rfl⟩ := at_zero (hrows 0 (by omega)).1
      rw [Addr.add_lit] at hc
      refine ⟨b, o, A r, C r, rfl, by rw [e]; exact hc, fun i hi => ?_, by omega, h2⟩
      rw [e] at hi
      cases hA : A r with
      | none => have := hnil hA; omega
      | some a' =>
        have hc' := (hcell a' hA).2 i (by omega)
        obtain ⟨b', o', rfl⟩ := at_zero ((hcell a' hA).2 0 (by omega))
        rw [Addr.add_lit] at hc'
        exact ⟨b', o', rfl, by rw [hg i hi]; exact hc'⟩
end Go.Proofs.Ytnhkclnloiiihaa
