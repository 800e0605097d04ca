/- The law FnExactGyrationOrbit returns true at every input, and writes to nothing that was there Condition: none; every input that can be read. -/
import Derived.Test.YtmkldodkpijfjaaK17
namespace Go.Proofs.Ytmkldodkpijfjaa.fnExactGyrationOrbit
open Go.ChangeShapes Go.WideShapes Go.ChangeAt Go.RowKit Go.Deep
open Go.ChangeMaps (open_string shut_string)
set_option linter.unusedVariables false

set_option maxRecDepth 100000 in
set_option maxHeartbeats 1600000 in
theorem walk {w0 : World} (a0 : Option Addr) (len0 cap0 : Nat) (m0 : List (List Int)) (e0 : m0.length = len0) (hl0 : len0 ≤ 9223372036854775807) (hwf0 : WfM m0) (hrow0 : ∀ i, i < m0.length → (gr m0 i).length ≤ 9223372036854775807) (hm0 : MatAt w0 a0 m0) (w : World) (hw : w0 = w) :
    Calls Try.prog 4 #[.slice a0 len0 cap0] w fun e w' => e = .returned (.bool true) ∧ Below w.heap.size w w' := by
  subst hw
  subst e0
  have Hwf0 := Lib.hid hwf0
  have Hm0 := Lib.hid hm0
  have Hrow0 := Lib.hid hrow0
  clear hwf0 hm0 hrow0
  obtain ⟨per, hper⟩ := per_all m0
  have Hper := Lib.hid hper
  clear hper
  go_enter Try.func4, Try.ntmps4
  go_wp2_with fail
  refine (szIntSS_any a0 cap0 m0 1048576 w0 hl0 Hrow0.out (by omega) (by omega) Hm0.out).mono ?_
  rintro e w1 ⟨r0, rfl, hr0a, hr0b, hsm0, rfl⟩
  by_cases hr0 : r0 < 0
  · clear hsm0
    go_wp2
    go_ret
    exact ⟨rfl, Below.refl _ _⟩
  have Hs0 := Lib.hid (hsm0 (by omega))
  clear hsm0
  have hr00 : 0 ≤ r0 := by omega
  have A0 := Lib.hid (Below.refl w0.heap.size w0)
  go_wp2_with fail
  refine (toIntSS_any a0 cap0 m0 w0 Hs0.out (Hm0.out.below A0.out)).mono ?_
  rintro e u1 ⟨v, rfl, hv, hb⟩
  obtain ⟨y0a, y0c, rfl, y0h1, y0h2, hm⟩ := hv.read
  have y0M := Lib.hid hm
  clear hm
  have A0' := Lib.hid (A0.out.trans (hb.mono A0.out.size))
  clear A0
  have A0 := A0'
  clear A0'
  clear hv hb
  have Y0 := Lib.hid (Below.refl u1.heap.size u1)
  go_wp2_with fail
  refine (specGyrationOrbitL_any y0a y0c m0 u1 Hs0.out (y0M.out.below Y0.out) per Hper.out).mono ?_
  rintro e u2 ⟨⟨v, b, r, rfl, hv, hr⟩, hb⟩
  obtain ⟨ra, rc, rfl, hm⟩ := hv.read
  have RM := Lib.hid hm
  have HR := Lib.hid hr
  have hsr : Small3 r := by
    rcases hr with ⟨hp, _, rfl⟩ | ⟨_, _, rfl⟩
    · exact (orbit_small3 hp)
    · exact ⟨by simp, fun i hi => absurd hi (by simp)⟩
  have HSR := Lib.hid hsr
  have A0' := Lib.hid (A0.out.trans (hb.mono A0.out.size))
  clear A0
  have A0 := A0'
  clear A0'
  have Y0' := Lib.hid (Y0.out.trans (hb.mono Y0.out.size))
  clear Y0
  have Y0 := Y0'
  clear Y0'
  clear hv hb hm hr hsr
  clear Y0 y0M
  have AS := Lib.hid (Below.refl u2.heap.size u2)
  have S0 := Lib.hid A0.out.size
  have SX0 := Lib.hid AS.out.size
  go_wp2_with fail
  refine (toIntSS_any a0 cap0 m0 u2 Hs0.out (Hm0.out.below A0.out)).mono ?_
  rintro e u3 ⟨v, rfl, hv, hb⟩
  obtain ⟨x0a, x0c, x0vs, rfl, hp, x0h1, x0h2⟩ := hv.open
  have x0P := Lib.hid hp
  clear hp
  have A0' := Lib.hid (A0.out.trans (hb.mono A0.out.size))
  clear A0
  have A0 := A0'
  clear A0'
  have AS' := Lib.hid (AS.out.trans (hb.mono AS.out.size))
  clear AS
  have AS := AS'
  clear AS'
  clear hv hb
  have X0 := Lib.hid (Below.refl u3.heap.size u3)
  have hspan : ∀ g, (fun g => ∃ i, i < m0.length ∧ (x0vs.getD i undef).ownBlock = some g) g → u2.heap.size ≤ g ∧ g < u3.heap.size := fun g hg => x0P.out.span hg
  have SP0 := Lib.hid hspan
  clear hspan
  have SG := Lib.hid AS.out.size
  have XG0 := Lib.hid X0.out.size
  go_wp2_with fail
  refine (implGyrationOrbitL_any x0a x0c m0 u3 Hs0.out Hwf0.out ((x0P.out.below X0.out).at rfl) x0h1 x0h2 per Hper.out).mono ?_
  rintro e u4 ⟨⟨v, b2, r2, rfl, hv, hr⟩, hb⟩
  have he : b2 = b ∧ r2 = r := by
    rcases hr with ⟨h1, h2, h3⟩ | ⟨h1, h2, h3⟩ <;> rcases HR.out with ⟨k1, k2, k3⟩ | ⟨k1, k2, k3⟩
    · exact ⟨h2.trans k2.symm, h3.trans k3.symm⟩
    · exact absurd h1 k1
    · exact absurd k1 h1
    · exact ⟨h2.trans k2.symm, h3.trans k3.symm⟩
  obtain ⟨rfl, rfl⟩ := he
  have HC := Lib.hid (tres_same hr)
  obtain ⟨ga, gc, gvs, gus, rfl, hp⟩ := hv.open
  have GP := Lib.hid hp
  have hrl : r2.length ≤ 1048576 := by have := HSR.out.1; omega
  have A0' := Lib.hid (A0.out.trans (hb.mono A0.out.size))
  clear A0
  have A0 := A0'
  clear A0'
  have AS' := Lib.hid (AS.out.trans (hb.mono AS.out.size))
  clear AS
  have AS := AS'
  clear AS'
  have X0' := Lib.hid (X0.out.trans (hb.mono X0.out.size))
  clear X0
  have X0 := X0'
  clear X0'
  clear hv hb hp hr HR
  have AG := Lib.hid (Below.refl u4.heap.size u4)
  have hne : ((1 + (totL r2 r2.length : Int)) != (1 + (totL r2 r2.length : Int))) = false := by simp
  have HT := totL_big HSR.out (Nat.le_refl _)
  cases b2
  all_goals
    go_wp2_with fail
    refine (eqIntSSS_same ga ra gc rc r2 u4 HSR.out (GP.out.below AG.out).lists (RM.out.below AS.out)).mono ?_
    rintro e u5 ⟨rfl, hq⟩
    have hb := hq.below u4.heap.size
    have A0' := Lib.hid (A0.out.trans (hb.mono A0.out.size))
    clear A0
    have A0 := A0'
    clear A0'
    have AS' := Lib.hid (AS.out.trans (hb.mono AS.out.size))
    clear AS
    have AS := AS'
    clear AS'
    have X0' := Lib.hid (X0.out.trans (hb.mono X0.out.size))
    clear X0
    have X0 := X0'
    clear X0'
    have AG' := Lib.hid (AG.out.trans (hb.mono AG.out.size))
    clear AG
    have AG := AG'
    clear AG'
    clear hq hb
    go_wp2_with fail
    refine (toIntSS_any a0 cap0 m0 u5 Hs0.out (Hm0.out.below A0.out)).mono ?_
    rintro e u6 ⟨v, rfl, hv, hb⟩
    obtain ⟨z0a, z0c, rfl, z0h1, z0h2, hm⟩ := hv.read
    have z0M := Lib.hid hm
    clear hm
    have A0' := Lib.hid (A0.out.trans (hb.mono A0.out.size))
    clear A0
    have A0 := A0'
    clear A0'
    have AS' := Lib.hid (AS.out.trans (hb.mono AS.out.size))
    clear AS
    have AS := AS'
    clear AS'
    have X0' := Lib.hid (X0.out.trans (hb.mono X0.out.size))
    clear X0
    have X0 := X0'
    clear X0'
    have AG' := Lib.hid (AG.out.trans (hb.mono AG.out.size))
    clear AG
    have AG := AG'
    clear AG'
    clear hv hb
    go_wp2_with fail
    refine (eqIntSS_same x0a z0a x0c z0c m0 u6 Hs0.out ((x0P.out.below X0.out).at rfl) z0M.out).mono ?_
    rintro e u7 ⟨rfl, hq⟩
    have hb := hq.below u6.heap.size
    have A0' := Lib.hid (A0.out.trans (hb.mono A0.out.size))
    clear A0
    have A0 := A0'
    clear A0'
    have AS' := Lib.hid (AS.out.trans (hb.mono AS.out.size))
    clear AS
    have AS := AS'
    clear AS'
    have X0' := Lib.hid (X0.out.trans (hb.mono X0.out.size))
    clear X0
    have X0 := X0'
    clear X0'
    have AG' := Lib.hid (AG.out.trans (hb.mono AG.out.size))
    clear AG
    have AG := AG'
    clear AG'
    clear hq hb z0M
    go_wp2_with fail
    have HT0 := tot_big Hs0.out (Nat.le_refl _)
    refine (markIntSS_any u2.heap.size x0a x0c 1 m0 x0vs u7 Hs0.out (by omega) (by omega) (x0P.out.below X0.out)).mono ?_
    rintro e u8 ⟨rfl, hp, ho⟩
    have hspan := SP0.out
    have hb0 : Below u2.heap.size u7 u8 := ho.below (fun k hk => Nat.le_trans SX0.out (hspan k hk).1)
    have A0' := Lib.hid (A0.out.trans (hb0.mono S0.out))
    clear A0
    have A0 := A0'
    clear A0'
    have AS' := Lib.hid (AS.out.trans hb0)
    clear AS
    have AS := AS'
    clear AS'
    have gp := (GP.out.below AG.out).only ho (fun g hg => Nat.lt_of_lt_of_le (hspan g hg).2 XG0.out)
    have GP' := Lib.hid gp
    clear GP AG
    have GP := GP'
    clear GP'
    have AG := Lib.hid (Below.refl u8.heap.size u8)
    clear hp ho hspan hb0 gp x0P X0
    go_wp2_with fail
    refine (eqIntSSS_same ga ra gc rc r2 u8 HSR.out (GP.out.below AG.out).lists (RM.out.below AS.out)).mono ?_
    rintro e u9 ⟨rfl, hq⟩
    have hb := hq.below u8.heap.size
    have A0' := Lib.hid (A0.out.trans (hb.mono A0.out.size))
    clear A0
    have A0 := A0'
    clear A0'
    have AS' := Lib.hid (AS.out.trans (hb.mono AS.out.size))
    clear AS
    have AS := AS'
    clear AS'
    have AG' := Lib.hid (AG.out.trans (hb.mono AG.out.size))
    clear AG
    have AG := AG'
    clear AG'
    clear hq hb
    go_wp2_with fail
    refine (markIntSSS_any u3.heap.size ga gc 1 r2 gvs gus u9 HSR.out (by omega) (by omega) (GP.out.below AG.out)).mono ?_
    rintro e u10 ⟨rfl, hp, ho⟩
    have hb0 : Below u2.heap.size u9 u10 := ho.below (fun k hk => Nat.le_trans SG.out (GP.out.span hk).1)
    have A0' := Lib.hid (A0.out.trans (hb0.mono S0.out))
    clear A0
    have A0 := A0'
    clear A0'
    have AS' := Lib.hid (AS.out.trans hb0)
    clear AS
    have AS := AS'
    clear AS'
    clear GP AG
    have GM := Lib.hid (hp.lists)
    have AG := Lib.hid (Below.refl u10.heap.size u10)
    clear hp ho hb0
    go_wp2_with fail
    refine (heldIntSSS_yes ga gc r2 1 u10 HSR.out (by omega) (by omega) (GM.out.below AG.out)).mono ?_
    rintro e u11 ⟨rfl, hq⟩
    have hb := hq.below u10.heap.size
    have A0' := Lib.hid (A0.out.trans (hb.mono A0.out.size))
    clear A0
    have A0 := A0'
    clear A0'
    have AS' := Lib.hid (AS.out.trans (hb.mono AS.out.size))
    clear AS
    have AS := AS'
    clear AS'
    have AG' := Lib.hid (AG.out.trans (hb.mono AG.out.size))
    clear AG
    have AG := AG'
    clear AG'
    clear hq hb
    go_wp2_with fail
    refine (toIntSS_any a0 cap0 m0 u11 Hs0.out (Hm0.out.below A0.out)).mono ?_
    rintro e u12 ⟨v, rfl, hv, hb⟩
    obtain ⟨t0a, t0c, rfl, t0h1, t0h2, hm⟩ := hv.read
    have t0M := Lib.hid hm
    clear hm
    have A0' := Lib.hid (A0.out.trans (hb.mono A0.out.size))
    clear A0
    have A0 := A0'
    clear A0'
    have AS' := Lib.hid (AS.out.trans (hb.mono AS.out.size))
    clear AS
    have AS := AS'
    clear AS'
    have AG' := Lib.hid (AG.out.trans (hb.mono AG.out.size))
    clear AG
    have AG := AG'
    clear AG'
    clear hv hb
    have T0 := Lib.hid (Below.refl u12.heap.size u12)
    go_wp2_with fail
    refine (implGyrationOrbitL_any t0a t0c m0 u12 Hs0.out Hwf0.out (t0M.out.below T0.out) t0h1 t0h2 per Hper.out).mono ?_
    rintro e u13 ⟨⟨v, b3, r3, rfl, hv, hr⟩, hb⟩
    have he := HC.out b3 r3 hr
    obtain ⟨rfl, rfl⟩ := he
    obtain ⟨ha, hc, rfl, hm⟩ := hv.read
    have HM := Lib.hid hm
    have A0' := Lib.hid (A0.out.trans (hb.mono A0.out.size))
    clear A0
    have A0 := A0'
    clear A0'
    have AS' := Lib.hid (AS.out.trans (hb.mono AS.out.size))
    clear AS
    have AS := AS'
    clear AS'
    have AG' := Lib.hid (AG.out.trans (hb.mono AG.out.size))
    clear AG
    have AG := AG'
    clear AG'
    have T0' := Lib.hid (T0.out.trans (hb.mono T0.out.size))
    clear T0
    have T0 := T0'
    clear T0'
    clear hv hb hm hr
    have AH := Lib.hid (Below.refl u13.heap.size u13)
    go_wp2_with fail
    refine (eqIntSSS_same ha ra hc rc r2 u13 HSR.out (HM.out.below AH.out) (RM.out.below AS.out)).mono ?_
    rintro e u14 ⟨rfl, hq⟩
    have hb := hq.below u13.heap.size
    have A0' := Lib.hid (A0.out.trans (hb.mono A0.out.size))
    clear A0
    have A0 := A0'
    clear A0'
    have AS' := Lib.hid (AS.out.trans (hb.mono AS.out.size))
    clear AS
    have AS := AS'
    clear AS'
    have AG' := Lib.hid (AG.out.trans (hb.mono AG.out.size))
    clear AG
    have AG := AG'
    clear AG'
    have AH' := Lib.hid (AH.out.trans (hb.mono AH.out.size))
    clear AH
    have AH := AH'
    clear AH'
    clear hq hb
    go_wp2_with fail
    refine (heldIntSSS_yes ga gc r2 1 u14 HSR.out (by omega) (by omega) (GM.out.below AG.out)).mono ?_
    rintro e u15 ⟨rfl, hq⟩
    have hb := hq.below u14.heap.size
    have A0' := Lib.hid (A0.out.trans (hb.mono A0.out.size))
    clear A0
    have A0 := A0'
    clear A0'
    have AS' := Lib.hid (AS.out.trans (hb.mono AS.out.size))
    clear AS
    have AS := AS'
    clear AS'
    have AG' := Lib.hid (AG.out.trans (hb.mono AG.out.size))
    clear AG
    have AG := AG'
    clear AG'
    have AH' := Lib.hid (AH.out.trans (hb.mono AH.out.size))
    clear AH
    have AH := AH'
    clear AH'
    clear hq hb
    go_wp2
    go_ret
    exact ⟨rfl, A0.out⟩

set_option maxRecDepth 100000 in
theorem lifted (os : Os) (started : os.Started) (H : Type) (enc : TypeId × Value → H) :
    ReturnsInHanded {} Try.checked os 4 .any (Rows.fnExactGyrationOrbitSpec.pre6 enc Try.prog Try.f4 Rows.fnExactGyrationOrbitRow.domain false) (Rows.fnExactGyrationOrbitSpec.post enc Try.prog Try.f4 false true false false) := by
  refine returnsInHanded_of_change (C := Try.checked) Try.own started (by kernel_rfl) Try.func4
    (ChangeSpec.witness6 (enc := enc) (C := Try.checked) false ⟨#[], #[.slice none 0 0], []⟩ 8 (by kernel_rfl) (by kernel_rfl) (by kernel_rfl) (by kernel_rfl)) ?_
  intro W base args ds gs before hval0 hW hcnd _
  have hval : ∀ (j : Nat) t v, Try.f4.params[j]? = some t → args[j]? = some v → Value.okWide Try.prog W .any base t v := hval0
  have hW' := hW
  obtain ⟨p, q, hA0, hV, rfl, hfz, hnd⟩ := hW
  have hA : DataW.TrodAll enc Try.prog W 0 (fun _ => true) true Try.f4.params.toList args.toList ds p := hA0
  rw [Try.params4] at hA hval
  obtain ⟨v0, vs0, d0, ds0, p0, q0, hargs, rfl, rfl, h0, r0⟩ := trodAll_cons hA
  obtain ⟨rfl, rfl, rfl⟩ := trodAll_nil r0
  obtain rfl : args = #[v0] := by cases args; simp_all
  obtain ⟨rfl, rfl⟩ := trodVars_none hV
  obtain ⟨a0, len0, cap0, rfl⟩ := okWide_slice Try.underlying22 (hval 0 22 v0 rfl rfl)
  have k0 := h0
  have lt0 : ∀ x ∈ p0, x.block < W.heap.size := by obtain ⟨m, hm⟩ := k0; exact DataW.trod_lt m _ _ _ hm
  obtain ⟨m0, e0, f0, g0, y0, x0⟩ := open_mat_arg h0
  clear hA0 hval0
  refine (walk a0 len0 cap0 m0 e0 f0 g0 y0 x0 W rfl).mono fun e W' ⟨he, bel⟩ => ?_
  subst he
  exact ⟨_, rfl, _, _, _, [], _, [], hW', trodAll_mk1 (shut_bool Try.underlying4 _), (trodAll_cons_mk (Below.trod Try.laidOut (by kernel_rfl) (of_decide_eq_true (by kernel_rfl)) k0 bel lt0) trodAll_mk0), rfl, bel.frame _, fun h => by cases h⟩

set_option maxRecDepth 100000 in
set_option maxHeartbeats 4000000 in
theorem closed : joinedFacts Try.prog 4 Try.f4 Rows.fnExactGyrationOrbitSpec Rows.fnExactGyrationOrbitRow = true := by
  unfold joinedFacts
  repeat' (with_reducible refine and_i ?_ ?_)
  all_goals first
    | (with_reducible exact may_enter)
    | ((with_reducible refine lifted_ok ?_); rfl)
    | ((with_reducible refine make_ok ?_); rfl)
    | (as_aux_lemma => kernel_rfl)

theorem over : Rows.fnExactGyrationOrbitRow.holds Try.pinned (OpenSpec.ofChange Rows.fnExactGyrationOrbitSpec) :=
  OpenClaim.holds_of_wide 4 Try.f4 rfl rfl rfl rfl rfl rfl rfl ⟨rfl, rfl, rfl, rfl, rfl⟩ rfl rfl rfl rfl rfl (by kernel_rfl) Try.func4 closed
    (of_decide_eq_true (by kernel_rfl)) (by unfold Func.isWrapper; rw [if_neg (of_decide_eq_false (by kernel_rfl))]; exact ⟨rfl, rfl⟩)
    (fun os started H enc _ => lifted os started H enc)

theorem proved : Rows.FnExactGyrationOrbitSaid := over
end Go.Proofs.Ytmkldodkpijfjaa.fnExactGyrationOrbit
