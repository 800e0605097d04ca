/- The law FnExactIsPlacing returns true at every input, and writes to nothing that was there. Condition: none; every input that can be read. -/
import Derived.Test.YtiocbogdiaalgaaFrame
import Derived.Test.YtiocbogdiaalgaaHead
import Derived.Test.YtiocbogdiaalgaaScal
namespace Go.Proofs.Ytiocbogdiaalgaa.fnExactIsPlacing
open Go.ChangeShapes Go.WideShapes Go.ChangeAt Go.RowKit Go.Deep
open Go.ChangeMaps (open_string shut_string)
set_option linter.unusedVariables false

set_option maxRecDepth 100000 in
set_option maxHeartbeats 1600000 in
theorem walk {w0 : World} (a0 : Option Addr) (len0 cap0 : Nat) (m : List (List Int)) (e0 : m.length = len0) (hl : len0 ≤ 9223372036854775807) (hwf : WfM m) (hrow : ∀ i, i < m.length → (gr m i).length ≤ 9223372036854775807) (hm : MatAt w0 a0 m) (w : World) (hw : w0 = w) :
    Calls Try.prog 4 #[.slice a0 len0 cap0] w fun e w' => e = .returned (.bool true) ∧ Below w.heap.size w w' := by
  subst e0
  subst hw
  have Hwf := Lib.hid hwf
  have Hm := Lib.hid hm
  have Hrow := Lib.hid hrow
  clear hwf hm hrow
  go_enter Try.func4, Try.ntmps4
  go_wp2_with fail
  refine (szIntSS_any a0 cap0 m 1048576 w0 hl Hrow.out (by omega) (by omega) Hm.out).mono ?_
  rintro e w1 ⟨r, rfl, hr1, hr2, hsm, rfl⟩
  by_cases hr : r < 0
  · clear hsm
    go_wp2
    go_ret
    exact ⟨rfl, Below.refl _ _⟩
  have Hs := Lib.hid (hsm (by omega))
  clear hsm
  have hr0 : 0 ≤ r := by omega
  go_wp2_with fail
  refine (toIntSS_any a0 cap0 m w0 Hs.out Hm.out).mono ?_
  rintro e w1 ⟨v, rfl, hv, hb1⟩
  obtain ⟨a1, c1, rfl, _, _, hm1⟩ := hv.read
  have Hm1 := Lib.hid hm1
  have B1 := Lib.hid hb1
  clear hv hm1 hb1
  go_wp2_with fail
  refine (specIsPlacing_any a1 c1 m w1 Hs.out Hm1.out).mono ?_
  rintro e w2 ⟨⟨y, b, rfl, hp1⟩, hb2⟩
  have P1 := Lib.hid hp1
  have B2 := Lib.hid (B1.out.trans (hb2.mono B1.out.size))
  clear hp1 hb2
  go_wp2_with fail
  refine (toIntSS_any a0 cap0 m w2 Hs.out (Hm.out.below B2.out)).mono ?_
  rintro e w3 ⟨v, rfl, hv, hb3⟩
  obtain ⟨a3, c3, rfl, _, _, hm3⟩ := hv.read
  have Hm3 := Lib.hid hm3
  have B3 := Lib.hid (B2.out.trans (hb3.mono B2.out.size))
  clear hv hm3 hb3
  go_wp2_with fail
  refine (implIsPlacing_any a3 c3 m w3 Hs.out Hwf.out Hm3.out).mono ?_
  rintro e w4 ⟨⟨y2, b2, rfl, hp2⟩, hb4⟩
  have Hm4 := Lib.hid (Hm3.out.below hb4)
  have B4 := Lib.hid (B3.out.trans (hb4.mono B3.out.size))
  obtain ⟨rfl, rfl⟩ := bres_same P1.out hp2
  clear hp2 hb4 P1
  cases b <;> cases y
  all_goals
    go_wp2_with fail
    refine (toIntSS_any a0 cap0 m w4 Hs.out (Hm.out.below B4.out)).mono ?_
    rintro e w5 ⟨v, rfl, hv, hb5⟩
    obtain ⟨a5, c5, rfl, _, _, hm5⟩ := hv.read
    have Hm5 := Lib.hid hm5
    have Hm6 := Lib.hid (Hm4.out.below hb5)
    have B5 := Lib.hid (B4.out.trans (hb5.mono B4.out.size))
    clear hv hm5 hb5
    go_wp2_with fail
    refine (eqIntSS_same a3 a5 c3 c5 m w5 Hs.out Hm6.out Hm5.out).mono ?_
    rintro e w6 ⟨rfl, hq⟩
    go_wp2
    go_ret
    exact ⟨rfl, B5.out.trans (hq.below _)⟩

set_option maxRecDepth 100000 in
theorem lifted (os : Os) (started : os.Started) (H : Type) (enc : TypeId × Value → H) :
    ReturnsInHanded {} Try.checked os 4 .any (Rows.fnExactIsPlacingSpec.pre6 enc Try.prog Try.f4 Rows.fnExactIsPlacingRow.domain false) (Rows.fnExactIsPlacingSpec.post enc Try.prog Try.f4 false true false false) := by
  refine returnsInHanded_of_change (C := Try.checked) Try.own started (by kernel_rfl) Try.func4
    (ChangeSpec.witness6 (enc := enc) (C := Try.checked) false ⟨#[], #[.slice none 0 0], []⟩ 8 (by kernel_rfl) (by kernel_rfl) (by kernel_rfl) (by kernel_rfl)) ?_
  intro W base args ds gs before hval0 hW hcnd _
  have hval : ∀ (j : Nat) t v, Try.f4.params[j]? = some t → args[j]? = some v → Value.okWide Try.prog W .any base t v := hval0
  have hW' := hW
  obtain ⟨p, q, hA0, hV, rfl, hfz, hnd⟩ := hW
  have hA : DataW.TrodAll enc Try.prog W 0 (fun _ => true) true Try.f4.params.toList args.toList ds p := hA0
  rw [Try.params4] at hA hval
  obtain ⟨v0, vs0, d0, ds0, p0, q0, hargs, rfl, rfl, h0, r0⟩ := trodAll_cons hA
  obtain ⟨rfl, rfl, rfl⟩ := trodAll_nil r0
  obtain rfl : args = #[v0] := by cases args; simp_all
  obtain ⟨rfl, rfl⟩ := trodVars_none hV
  obtain ⟨a0, len0, cap0, rfl⟩ := okWide_slice Try.underlying22 (hval 0 22 v0 rfl rfl)
  have k0 := h0
  have lt0 : ∀ x ∈ p0, x.block < W.heap.size := by obtain ⟨m, hm⟩ := k0; exact DataW.trod_lt m _ _ _ hm
  obtain ⟨m0, e0, f0, g0, y0, x0⟩ := open_mat_arg h0
  clear hA0 hval0
  refine (walk a0 len0 cap0 m0 e0 f0 g0 y0 x0 W rfl).mono fun e W' ⟨he, bel⟩ => ?_
  subst he
  exact ⟨_, rfl, _, _, _, [], _, [], hW', trodAll_mk1 (shut_bool Try.underlying4 _), (trodAll_cons_mk (Below.trod Try.laidOut (by kernel_rfl) (of_decide_eq_true (by kernel_rfl)) k0 bel lt0) trodAll_mk0), rfl, bel.frame _, fun h => by cases h⟩

set_option maxRecDepth 100000 in
set_option maxHeartbeats 4000000 in
theorem closed : joinedFacts Try.prog 4 Try.f4 Rows.fnExactIsPlacingSpec Rows.fnExactIsPlacingRow = true := by
  unfold joinedFacts
  repeat' (with_reducible refine and_i ?_ ?_)
  all_goals first
    | (with_reducible exact may_enter)
    | ((with_reducible refine lifted_ok ?_); rfl)
    | ((with_reducible refine make_ok ?_); rfl)
    | (as_aux_lemma => kernel_rfl)

theorem over : Rows.fnExactIsPlacingRow.holds Try.pinned (OpenSpec.ofChange Rows.fnExactIsPlacingSpec) :=
  OpenClaim.holds_of_wide 4 Try.f4 rfl rfl rfl rfl rfl rfl rfl ⟨rfl, rfl, rfl, rfl, rfl⟩ rfl rfl rfl rfl rfl (by kernel_rfl) Try.func4 closed
    (of_decide_eq_true (by kernel_rfl)) (by unfold Func.isWrapper; rw [if_neg (of_decide_eq_false (by kernel_rfl))]; exact ⟨rfl, rfl⟩)
    (fun os started H enc _ => lifted os started H enc)

theorem proved : Rows.FnExactIsPlacingSaid := over
end Go.Proofs.Ytiocbogdiaalgaa.fnExactIsPlacing
