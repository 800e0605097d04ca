/- The law FnExactIsJoinPart returns true at every input, and writes to nothing that was there Condition: none; every input that can be read. -/
import Derived.Test.YtopamhcnbocfoaaFrame
import Derived.Test.YtopamhcnbocfoaaHead
import Derived.Test.YtopamhcnbocfoaaFlF
namespace Go.Proofs.Ytopamhcnbocfoaa.fnExactIsJoinPart
open Go.ChangeShapes Go.WideShapes Go.ChangeAt Go.RowKit Go.Deep
open Go.ChangeMaps (open_string shut_string)
set_option linter.unusedVariables false

set_option maxRecDepth 100000 in
set_option maxHeartbeats 1600000 in
theorem walk {w0 : World} (a0 : Option Addr) (len0 cap0 : Nat) (m0 : List (List Int)) (e0 : m0.length = len0) (hl0 : len0 ≤ 9223372036854775807) (hwf0 : WfM m0) (hrow0 : ∀ i, i < m0.length → (gr m0 i).length ≤ 9223372036854775807) (hm0 : MatAt w0 a0 m0) (w : World) (hw : w0 = w) :
    Calls Try.prog 14 #[.slice a0 len0 cap0] w fun e w' => e = .returned (.bool true) ∧ Below w.heap.size w w' := by
  subst hw
  subst e0
  have Hwf0 := Lib.hid hwf0
  have Hm0 := Lib.hid hm0
  have Hrow0 := Lib.hid hrow0
  clear hwf0 hm0 hrow0
  go_enter Try.func14, Try.ntmps14
  go_wp2_with fail
  refine (szIntSS_any a0 cap0 m0 1048576 w0 hl0 Hrow0.out (by omega) (by omega) Hm0.out).mono ?_
  rintro e w1 ⟨r0, rfl, hr0a, hr0b, hsm0, rfl⟩
  by_cases hr0 : r0 < 0
  · clear hsm0
    go_wp2
    go_ret
    exact ⟨rfl, Below.refl _ _⟩
  have Hs0 := Lib.hid (hsm0 (by omega))
  clear hsm0
  have hr00 : 0 ≤ r0 := by omega
  have A0 := Lib.hid (Below.refl w0.heap.size w0)
  go_wp2_with fail
  refine (toIntSS_any a0 cap0 m0 w0 Hs0.out (Hm0.out.below A0.out)).mono ?_
  rintro e u1 ⟨v, rfl, hv, hb⟩
  obtain ⟨y0a, y0c, rfl, y0h1, y0h2, hm⟩ := hv.read
  have y0M := Lib.hid hm
  clear hm
  have A0' := Lib.hid (A0.out.trans (hb.mono A0.out.size))
  clear A0
  have A0 := A0'
  clear A0'
  clear hv hb
  have Y0 := Lib.hid (Below.refl u1.heap.size u1)
  go_wp2_with fail
  refine (specIsJoinPart_any y0a y0c m0 u1 Hs0.out (y0M.out.below Y0.out) ).mono ?_
  rintro e u2 ⟨⟨y, b, rfl, hp1⟩, hb⟩
  have P1 := Lib.hid hp1
  have A0' := Lib.hid (A0.out.trans (hb.mono A0.out.size))
  clear A0
  have A0 := A0'
  clear A0'
  have Y0' := Lib.hid (Y0.out.trans (hb.mono Y0.out.size))
  clear Y0
  have Y0 := Y0'
  clear Y0'
  clear hb hp1
  clear Y0 y0M
  go_wp2_with fail
  refine (toIntSS_any a0 cap0 m0 u2 Hs0.out (Hm0.out.below A0.out)).mono ?_
  rintro e u3 ⟨v, rfl, hv, hb⟩
  obtain ⟨x0a, x0c, rfl, x0h1, x0h2, hm⟩ := hv.read
  have x0M := Lib.hid hm
  clear hm
  have A0' := Lib.hid (A0.out.trans (hb.mono A0.out.size))
  clear A0
  have A0 := A0'
  clear A0'
  clear hv hb
  have X0 := Lib.hid (Below.refl u3.heap.size u3)
  go_wp2_with fail
  refine (implIsJoinPart_any x0a x0c m0 u3 Hs0.out Hwf0.out (x0M.out.below X0.out) x0h1 x0h2 ).mono ?_
  rintro e u4 ⟨⟨y2, b2, rfl, hp2⟩, hb⟩
  obtain ⟨rfl, rfl⟩ := bres_same P1.out hp2
  have A0' := Lib.hid (A0.out.trans (hb.mono A0.out.size))
  clear A0
  have A0 := A0'
  clear A0'
  have X0' := Lib.hid (X0.out.trans (hb.mono X0.out.size))
  clear X0
  have X0 := X0'
  clear X0'
  clear hp2 hb P1
  cases b <;> cases y
  all_goals
    go_wp2_with fail
    refine (toIntSS_any a0 cap0 m0 u4 Hs0.out (Hm0.out.below A0.out)).mono ?_
    rintro e u5 ⟨v, rfl, hv, hb⟩
    obtain ⟨z0a, z0c, rfl, z0h1, z0h2, hm⟩ := hv.read
    have z0M := Lib.hid hm
    clear hm
    have A0' := Lib.hid (A0.out.trans (hb.mono A0.out.size))
    clear A0
    have A0 := A0'
    clear A0'
    have X0' := Lib.hid (X0.out.trans (hb.mono X0.out.size))
    clear X0
    have X0 := X0'
    clear X0'
    clear hv hb
    go_wp2_with fail
    refine (eqIntSS_same x0a z0a x0c z0c m0 u5 Hs0.out (x0M.out.below X0.out) z0M.out).mono ?_
    rintro e u6 ⟨rfl, hq⟩
    have hb := hq.below u5.heap.size
    have A0' := Lib.hid (A0.out.trans (hb.mono A0.out.size))
    clear A0
    have A0 := A0'
    clear A0'
    have X0' := Lib.hid (X0.out.trans (hb.mono X0.out.size))
    clear X0
    have X0 := X0'
    clear X0'
    clear hq hb z0M
    go_wp2
    go_ret
    exact ⟨rfl, A0.out⟩

set_option maxRecDepth 100000 in
theorem lifted (os : Os) (started : os.Started) (H : Type) (enc : TypeId × Value → H) :
    ReturnsInHanded {} Try.checked os 14 .any (Rows.fnExactIsJoinPartSpec.pre6 enc Try.prog Try.f14 Rows.fnExactIsJoinPartRow.domain false) (Rows.fnExactIsJoinPartSpec.post enc Try.prog Try.f14 false true false false) := by
  refine returnsInHanded_of_change (C := Try.checked) Try.own started (by kernel_rfl) Try.func14
    (ChangeSpec.witness6 (enc := enc) (C := Try.checked) false ⟨#[], #[.slice none 0 0], []⟩ 8 (by kernel_rfl) (by kernel_rfl) (by kernel_rfl) (by kernel_rfl)) ?_
  intro W base args ds gs before hval0 hW hcnd _
  have hval : ∀ (j : Nat) t v, Try.f14.params[j]? = some t → args[j]? = some v → Value.okWide Try.prog W .any base t v := hval0
  have hW' := hW
  obtain ⟨p, q, hA0, hV, rfl, hfz, hnd⟩ := hW
  have hA : DataW.TrodAll enc Try.prog W 0 (fun _ => true) true Try.f14.params.toList args.toList ds p := hA0
  rw [Try.params14] at hA hval
  obtain ⟨v0, vs0, d0, ds0, p0, q0, hargs, rfl, rfl, h0, r0⟩ := trodAll_cons hA
  obtain ⟨rfl, rfl, rfl⟩ := trodAll_nil r0
  obtain rfl : args = #[v0] := by cases args; simp_all
  obtain ⟨rfl, rfl⟩ := trodVars_none hV
  obtain ⟨a0, len0, cap0, rfl⟩ := okWide_slice Try.underlying22 (hval 0 22 v0 rfl rfl)
  have k0 := h0
  have lt0 : ∀ x ∈ p0, x.block < W.heap.size := by obtain ⟨m, hm⟩ := k0; exact DataW.trod_lt m _ _ _ hm
  obtain ⟨m0, e0, f0, g0, y0, x0⟩ := open_mat_arg h0
  clear hA0 hval0
  refine (walk a0 len0 cap0 m0 e0 f0 g0 y0 x0 W rfl).mono fun e W' ⟨he, bel⟩ => ?_
  subst he
  exact ⟨_, rfl, _, _, _, [], _, [], hW', trodAll_mk1 (shut_bool Try.underlying4 _), (trodAll_cons_mk (Below.trod Try.laidOut (by kernel_rfl) (of_decide_eq_true (by kernel_rfl)) k0 bel lt0) trodAll_mk0), rfl, bel.frame _, fun h => by cases h⟩

set_option maxRecDepth 100000 in
set_option maxHeartbeats 4000000 in
theorem closed : joinedFacts Try.prog 14 Try.f14 Rows.fnExactIsJoinPartSpec Rows.fnExactIsJoinPartRow = true := by
  unfold joinedFacts
  repeat' (with_reducible refine and_i ?_ ?_)
  all_goals first
    | (with_reducible exact may_enter)
    | ((with_reducible refine lifted_ok ?_); rfl)
    | ((with_reducible refine make_ok ?_); rfl)
    | (as_aux_lemma => kernel_rfl)

theorem over : Rows.fnExactIsJoinPartRow.holds Try.pinned (OpenSpec.ofChange Rows.fnExactIsJoinPartSpec) :=
  OpenClaim.holds_of_wide 14 Try.f14 rfl rfl rfl rfl rfl rfl rfl ⟨rfl, rfl, rfl, rfl, rfl⟩ rfl rfl rfl rfl rfl (by kernel_rfl) Try.func14 closed
    (of_decide_eq_true (by kernel_rfl)) (by unfold Func.isWrapper; rw [if_neg (of_decide_eq_false (by kernel_rfl))]; exact ⟨rfl, rfl⟩)
    (fun os started H enc _ => lifted os started H enc)

theorem proved : Rows.FnExactIsJoinPartSaid := over
end Go.Proofs.Ytopamhcnbocfoaa.fnExactIsJoinPart
