/- The law FnExactIsFixed returns true at every input, and writes to nothing that was there Condition: none; every input that can be read. -/
import Derived.Test.YtncpoljjfhmkeaaFrame
import Derived.Test.YtncpoljjfhmkeaaHead
import Derived.Test.YtncpoljjfhmkeaaSyY
namespace Go.Proofs.Ytncpoljjfhmkeaa.fnExactIsFixed
open Go.ChangeShapes Go.WideShapes Go.ChangeAt Go.RowKit Go.Deep
open Go.ChangeMaps (open_string shut_string)
set_option linter.unusedVariables false

set_option maxRecDepth 100000 in
set_option maxHeartbeats 1600000 in
theorem walk {w0 : World} (z0 : Int) (hz0 : -9223372036854775808 ≤ z0 ∧ z0 ≤ 9223372036854775807) (a1 : Option Addr) (len1 cap1 : Nat) (m1 : List Int) (e1 : m1.length = len1) (hl1 : len1 ≤ 9223372036854775807) (hwf1 : WfI m1) (hm1 : IntsAt w0 a1 m1) (w : World) (hw : w0 = w) :
    Calls Try.prog 12 #[.int .i64 z0, .slice a1 len1 cap1] w fun e w' => e = .returned (.bool true) ∧ Below w.heap.size w w' := by
  subst hw
  have Hz0 := Lib.hid hz0
  clear hz0
  subst e1
  have Hwf1 := Lib.hid hwf1
  have Hm1 := Lib.hid hm1
  clear hwf1 hm1
  by_cases hbig : 1048576 < m1.length
  · have hbd : decide ((1048576 : Int) < (m1.length : Int)) = true := by simp; omega
    go_enter Try.func12, Try.ntmps12
    go_wp2
    go_ret
    exact ⟨rfl, Below.refl _ _⟩
  have hsz1 : m1.length ≤ 1048576 := by omega
  have hbd1 : decide ((1048576 : Int) < (m1.length : Int)) = false := by simp; omega
  clear hbig
  go_enter Try.func12, Try.ntmps12
  have A0 := Lib.hid (Below.refl w0.heap.size w0)
  go_wp2_with fail
  refine (toIntS_any a1 cap1 m1 w0 hsz1 (Hm1.out.below A0.out)).mono ?_
  rintro e u1 ⟨v, rfl, hv, hb⟩
  obtain ⟨y1a, y1c, rfl, y1h1, y1h2, hm⟩ := hv.read
  have y1M := Lib.hid hm
  clear hm
  have A0' := Lib.hid (A0.out.trans (hb.mono A0.out.size))
  clear A0
  have A0 := A0'
  clear A0'
  clear hv hb
  have Y1 := Lib.hid (Below.refl u1.heap.size u1)
  go_wp2_with fail
  refine (specIsFixed_any z0 y1a y1c m1 u1 Hz0.out hsz1 (y1M.out.below Y1.out) ).mono ?_
  rintro e u2 ⟨⟨y, b, rfl, hp1⟩, hb⟩
  have P1 := Lib.hid hp1
  have A0' := Lib.hid (A0.out.trans (hb.mono A0.out.size))
  clear A0
  have A0 := A0'
  clear A0'
  have Y1' := Lib.hid (Y1.out.trans (hb.mono Y1.out.size))
  clear Y1
  have Y1 := Y1'
  clear Y1'
  clear hb hp1
  clear Y1 y1M
  go_wp2_with fail
  refine (toIntS_any a1 cap1 m1 u2 hsz1 (Hm1.out.below A0.out)).mono ?_
  rintro e u3 ⟨v, rfl, hv, hb⟩
  obtain ⟨x1a, x1c, rfl, x1h1, x1h2, hm⟩ := hv.read
  have x1M := Lib.hid hm
  clear hm
  have A0' := Lib.hid (A0.out.trans (hb.mono A0.out.size))
  clear A0
  have A0 := A0'
  clear A0'
  clear hv hb
  have X1 := Lib.hid (Below.refl u3.heap.size u3)
  go_wp2_with fail
  refine (implIsFixed_any z0 x1a x1c m1 u3 Hz0.out hsz1 Hwf1.out (x1M.out.below X1.out) ).mono ?_
  rintro e u4 ⟨⟨y2, b2, rfl, hp2⟩, hb⟩
  obtain ⟨rfl, rfl⟩ := bres_same P1.out hp2
  have A0' := Lib.hid (A0.out.trans (hb.mono A0.out.size))
  clear A0
  have A0 := A0'
  clear A0'
  have X1' := Lib.hid (X1.out.trans (hb.mono X1.out.size))
  clear X1
  have X1 := X1'
  clear X1'
  clear hp2 hb P1
  cases b <;> cases y
  all_goals
    go_wp2_with fail
    refine (toIntS_any a1 cap1 m1 u4 hsz1 (Hm1.out.below A0.out)).mono ?_
    rintro e u5 ⟨v, rfl, hv, hb⟩
    obtain ⟨z1a, z1c, rfl, z1h1, z1h2, hm⟩ := hv.read
    have z1M := Lib.hid hm
    clear hm
    have A0' := Lib.hid (A0.out.trans (hb.mono A0.out.size))
    clear A0
    have A0 := A0'
    clear A0'
    have X1' := Lib.hid (X1.out.trans (hb.mono X1.out.size))
    clear X1
    have X1 := X1'
    clear X1'
    clear hv hb
    go_wp2_with fail
    refine (eqIntS_same x1a z1a x1c z1c m1 u5 hsz1 (x1M.out.below X1.out) z1M.out).mono ?_
    rintro e u6 ⟨rfl, hq⟩
    have hb := hq.below u5.heap.size
    have A0' := Lib.hid (A0.out.trans (hb.mono A0.out.size))
    clear A0
    have A0 := A0'
    clear A0'
    have X1' := Lib.hid (X1.out.trans (hb.mono X1.out.size))
    clear X1
    have X1 := X1'
    clear X1'
    clear hq hb z1M
    go_wp2
    go_ret
    exact ⟨rfl, A0.out⟩

set_option maxRecDepth 100000 in
theorem lifted (os : Os) (started : os.Started) (H : Type) (enc : TypeId × Value → H) :
    ReturnsInHanded {} Try.checked os 12 .any (Rows.fnExactIsFixedSpec.pre6 enc Try.prog Try.f12 Rows.fnExactIsFixedRow.domain false) (Rows.fnExactIsFixedSpec.post enc Try.prog Try.f12 false true false false) := by
  refine returnsInHanded_of_change (C := Try.checked) Try.own started (by kernel_rfl) Try.func12
    (ChangeSpec.witness6 (enc := enc) (C := Try.checked) false ⟨#[], #[.int .i64 0, .slice none 0 0], []⟩ 8 (by kernel_rfl) (by kernel_rfl) (by kernel_rfl) (by kernel_rfl)) ?_
  intro W base args ds gs before hval0 hW hcnd _
  have hval : ∀ (j : Nat) t v, Try.f12.params[j]? = some t → args[j]? = some v → Value.okWide Try.prog W .any base t v := hval0
  have hW' := hW
  obtain ⟨p, q, hA0, hV, rfl, hfz, hnd⟩ := hW
  have hA : DataW.TrodAll enc Try.prog W 0 (fun _ => true) true Try.f12.params.toList args.toList ds p := hA0
  rw [Try.params12] at hA hval
  obtain ⟨v0, vs0, d0, ds0, p0, q0, hargs, rfl, rfl, h0, r0⟩ := trodAll_cons hA
  obtain ⟨v1, vs1, d1, ds1, p1, q1, rfl, rfl, rfl, h1, r1⟩ := trodAll_cons r0
  obtain ⟨rfl, rfl, rfl⟩ := trodAll_nil r1
  obtain rfl : args = #[v0, v1] := by cases args; simp_all
  obtain ⟨rfl, rfl⟩ := trodVars_none hV
  obtain ⟨a0, rfl, rfl, rfl, w0⟩ := open_int Try.underlying3 (hval 0 3 v0 rfl rfl) h0
  obtain ⟨a1, len1, cap1, rfl⟩ := okWide_slice Try.underlying22 (hval 1 22 v1 rfl rfl)
  have k1 := h1
  have lt1 : ∀ x ∈ p1, x.block < W.heap.size := by obtain ⟨m, hm⟩ := k1; exact DataW.trod_lt m _ _ _ hm
  obtain ⟨m1, e1, f1, g1, x1⟩ := open_ints_arg h1
  clear hA0 hval0
  refine (walk a0 (bounds_i64 w0) a1 len1 cap1 m1 e1 f1 g1 x1 W rfl).mono fun e W' ⟨he, bel⟩ => ?_
  subst he
  exact ⟨_, rfl, _, _, _, [], _, [], hW', trodAll_mk1 (shut_bool Try.underlying4 _), (trodAll_cons_mk (shut_int Try.underlying3 w0) (trodAll_cons_mk (Below.trod Try.laidOut (by kernel_rfl) (of_decide_eq_true (by kernel_rfl)) k1 bel lt1) trodAll_mk0)), rfl, bel.frame _, fun h => by cases h⟩

set_option maxRecDepth 100000 in
set_option maxHeartbeats 4000000 in
theorem closed : joinedFacts Try.prog 12 Try.f12 Rows.fnExactIsFixedSpec Rows.fnExactIsFixedRow = true := by
  unfold joinedFacts
  repeat' (with_reducible refine and_i ?_ ?_)
  all_goals first
    | (with_reducible exact may_enter)
    | ((with_reducible refine lifted_ok ?_); rfl)
    | ((with_reducible refine make_ok ?_); rfl)
    | (as_aux_lemma => kernel_rfl)

theorem over : Rows.fnExactIsFixedRow.holds Try.pinned (OpenSpec.ofChange Rows.fnExactIsFixedSpec) :=
  OpenClaim.holds_of_wide 12 Try.f12 rfl rfl rfl rfl rfl rfl rfl ⟨rfl, rfl, rfl, rfl, rfl⟩ rfl rfl rfl rfl rfl (by kernel_rfl) Try.func12 closed
    (of_decide_eq_true (by kernel_rfl)) (by unfold Func.isWrapper; rw [if_neg (of_decide_eq_false (by kernel_rfl))]; exact ⟨rfl, rfl⟩)
    (fun os started H enc _ => lifted os started H enc)

theorem proved : Rows.FnExactIsFixedSaid := over
end Go.Proofs.Ytncpoljjfhmkeaa.fnExactIsFixed
