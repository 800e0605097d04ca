/- The law FnExactHalfTurnFormula returns true at every input, and writes to nothing that was there Condition: none; every input that can be read. -/
import Derived.Test.YtgdijjfipicodaaFrame
import Derived.Test.YtgdijjfipicodaaHead
import Derived.Test.YtgdijjfipicodaaFmJ
import Derived.Test.YtgdijjfipicodaaFmT
namespace Go.Proofs.Ytgdijjfipicodaa.fnExactHalfTurnFormula
open Go.ChangeShapes Go.WideShapes Go.ChangeAt Go.RowKit Go.Deep
open Go.ChangeMaps (open_string shut_string)
set_option linter.unusedVariables false

set_option maxRecDepth 100000 in
set_option maxHeartbeats 1600000 in
theorem walk {w0 : World} (z0 : Int) (hz0 : -9223372036854775808 ≤ z0 ∧ z0 ≤ 9223372036854775807) (w : World) (hw : w0 = w) :
    Calls Try.prog 4 #[.int .i64 z0] w fun e w' => e = .returned (.bool true) ∧ Below w.heap.size w w' := by
  subst hw
  have Hz0 := Lib.hid hz0
  clear hz0
  go_enter Try.func4, Try.ntmps4
  have A0 := Lib.hid (Below.refl w0.heap.size w0)
  go_wp2_with fail
  refine (specHalfTurnFormula_any z0 w0 Hz0.out ).mono ?_
  rintro e u1 ⟨⟨y, b, rfl, hp1⟩, hb⟩
  have P1 := Lib.hid hp1
  have A0' := Lib.hid (A0.out.trans (hb.mono A0.out.size))
  clear A0
  have A0 := A0'
  clear A0'
  clear hb hp1
  go_wp2_with fail
  refine (implHalfTurnFormula_any z0 u1 Hz0.out ).mono ?_
  rintro e u2 ⟨⟨y2, b2, rfl, hp2⟩, hb⟩
  obtain ⟨rfl, rfl⟩ := ires_same P1.out hp2
  have A0' := Lib.hid (A0.out.trans (hb.mono A0.out.size))
  clear A0
  have A0 := A0'
  clear A0'
  clear hp2 hb P1
  have hyy : (y != y) = false := by simp
  cases b
  all_goals
    go_wp2
    go_ret
    exact ⟨rfl, A0.out⟩

set_option maxRecDepth 100000 in
theorem lifted (os : Os) (started : os.Started) (H : Type) (enc : TypeId × Value → H) :
    ReturnsInHanded {} Try.checked os 4 .any (Rows.fnExactHalfTurnFormulaSpec.pre6 enc Try.prog Try.f4 Rows.fnExactHalfTurnFormulaRow.domain false) (Rows.fnExactHalfTurnFormulaSpec.post enc Try.prog Try.f4 false true false false) := by
  refine returnsInHanded_of_change (C := Try.checked) Try.own started (by kernel_rfl) Try.func4
    (ChangeSpec.witness6 (enc := enc) (C := Try.checked) false ⟨#[], #[.int .i64 0], []⟩ 8 (by kernel_rfl) (by kernel_rfl) (by kernel_rfl) (by kernel_rfl)) ?_
  intro W base args ds gs before hval0 hW hcnd _
  have hval : ∀ (j : Nat) t v, Try.f4.params[j]? = some t → args[j]? = some v → Value.okWide Try.prog W .any base t v := hval0
  have hW' := hW
  obtain ⟨p, q, hA0, hV, rfl, hfz, hnd⟩ := hW
  have hA : DataW.TrodAll enc Try.prog W 0 (fun _ => true) true Try.f4.params.toList args.toList ds p := hA0
  rw [Try.params4] at hA hval
  obtain ⟨v0, vs0, d0, ds0, p0, q0, hargs, rfl, rfl, h0, r0⟩ := trodAll_cons hA
  obtain ⟨rfl, rfl, rfl⟩ := trodAll_nil r0
  obtain rfl : args = #[v0] := by cases args; simp_all
  obtain ⟨rfl, rfl⟩ := trodVars_none hV
  obtain ⟨a0, rfl, rfl, rfl, w0⟩ := open_int Try.underlying3 (hval 0 3 v0 rfl rfl) h0
  clear hA0 hval0
  refine (walk a0 (bounds_i64 w0) W rfl).mono fun e W' ⟨he, bel⟩ => ?_
  subst he
  exact ⟨_, rfl, _, _, _, [], _, [], hW', trodAll_mk1 (shut_bool Try.underlying4 _), (trodAll_cons_mk (shut_int Try.underlying3 w0) trodAll_mk0), rfl, bel.frame _, fun h => by cases h⟩

set_option maxRecDepth 100000 in
set_option maxHeartbeats 4000000 in
theorem closed : joinedFacts Try.prog 4 Try.f4 Rows.fnExactHalfTurnFormulaSpec Rows.fnExactHalfTurnFormulaRow = true := by
  unfold joinedFacts
  repeat' (with_reducible refine and_i ?_ ?_)
  all_goals first
    | (with_reducible exact may_enter)
    | ((with_reducible refine lifted_ok ?_); rfl)
    | ((with_reducible refine make_ok ?_); rfl)
    | (as_aux_lemma => kernel_rfl)

theorem over : Rows.fnExactHalfTurnFormulaRow.holds Try.pinned (OpenSpec.ofChange Rows.fnExactHalfTurnFormulaSpec) :=
  OpenClaim.holds_of_wide 4 Try.f4 rfl rfl rfl rfl rfl rfl rfl ⟨rfl, rfl, rfl, rfl, rfl⟩ rfl rfl rfl rfl rfl (by kernel_rfl) Try.func4 closed
    (of_decide_eq_true (by kernel_rfl)) (by unfold Func.isWrapper; rw [if_neg (of_decide_eq_false (by kernel_rfl))]; exact ⟨rfl, rfl⟩)
    (fun os started H enc _ => lifted os started H enc)

theorem proved : Rows.FnExactHalfTurnFormulaSaid := over
end Go.Proofs.Ytgdijjfipicodaa.fnExactHalfTurnFormula
