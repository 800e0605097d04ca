/- The law FnExactInversionTable returns true at every input, and writes to nothing that was there; the card ties the two tables of the library that its row lists. Condition: the row's listed variables. -/
import Derived.Test.YtmkldodkpijfjaaDoorK16
namespace Go.Proofs.YtmkldodkpijfjaaDoor.fnExactInversionTable
open Go.ChangeShapes Go.WideShapes Go.ChangeAt Go.RowKit Go.Deep
open Go.ChangeMaps (open_string shut_string)
set_option linter.unusedVariables false

set_option maxRecDepth 100000 in
set_option maxHeartbeats 1600000 in
theorem walk {w0 : World} (z0 : Int) (hz0 : -9223372036854775808 ≤ z0 ∧ z0 ≤ 9223372036854775807) (w : World) (hw : w0 = w) (hD : Dj w0) :
    Calls Tryd.prog 4 #[.int .i64 z0] w fun e w' => e = .returned (.bool true) ∧ Below w.heap.size w w' := by
  subst hw
  have HD := Lib.hid hD
  clear hD
  have Hz0 := Lib.hid hz0
  clear hz0
  go_enter Tryd.func4, Tryd.ntmps4
  have A0 := Lib.hid (Below.refl w0.heap.size w0)
  go_wp2_with fail
  refine (specInversionTable_any z0 w0 Hz0.out ).mono ?_
  rintro e u1 ⟨⟨v, b, r, rfl, hv, hr⟩, hb⟩
  obtain ⟨ra, rc, rfl, _, _, hm⟩ := hv.read
  have RM := Lib.hid hm
  have HR := Lib.hid hr
  have hsr : r.length ≤ 1048576 := by
    rcases hr with ⟨hp, _, rfl⟩ | ⟨_, _, rfl⟩
    · exact (okA_small hp _ (tab_okF hp).2)
    · simp
  have HSR := Lib.hid hsr
  have A0' := Lib.hid (A0.out.trans (hb.mono A0.out.size))
  clear A0
  have A0 := A0'
  clear A0'
  clear hv hb hm hr hsr
  have AS := Lib.hid (Below.refl u1.heap.size u1)
  have S0 := Lib.hid A0.out.size
  have SG := Lib.hid AS.out.size
  go_wp2_with fail
  refine (implInversionTable_any z0 u1 Hz0.out (HD.out.next A0.out) ).mono ?_
  rintro e u2 ⟨⟨v, b2, r2, rfl, hv, hr⟩, hb⟩
  have he : b2 = b ∧ r2 = r := by
    rcases hr with ⟨h1, h2, h3⟩ | ⟨h1, h2, h3⟩ <;> rcases HR.out with ⟨k1, k2, k3⟩ | ⟨k1, k2, k3⟩
    · exact ⟨h2.trans k2.symm, h3.trans k3.symm⟩
    · exact absurd h1 k1
    · exact absurd k1 h1
    · exact ⟨h2.trans k2.symm, h3.trans k3.symm⟩
  obtain ⟨rfl, rfl⟩ := he
  have HC := Lib.hid (fun (b3 : Bool) (r3 : List Int) (h : (_ ∧ b3 = true ∧ r3 = _) ∨ (¬_ ∧ b3 = false ∧ r3 = [])) => lres_same HR.out h)
  obtain ⟨ga, gc, rfl, _, _, _⟩ := hv.read
  have GP := Lib.hid hv
  have hrl : r2.length ≤ 1048576 := HSR.out
  have A0' := Lib.hid (A0.out.trans (hb.mono A0.out.size))
  clear A0
  have A0 := A0'
  clear A0'
  have AS' := Lib.hid (AS.out.trans (hb.mono AS.out.size))
  clear AS
  have AS := AS'
  clear AS'
  clear hv hb hr HR
  have AG := Lib.hid (Below.refl u2.heap.size u2)
  have hne : ((1 + (r2.length : Int)) != (1 + (r2.length : Int))) = false := by simp
  cases b2
  all_goals
    go_wp2_with fail
    refine (eqIntS_same ga ra gc rc r2 u2 HSR.out (own_at (GP.out.below AG.out)) (RM.out.below AS.out)).mono ?_
    rintro e u3 ⟨rfl, hq⟩
    have hb := hq.below u2.heap.size
    have A0' := Lib.hid (A0.out.trans (hb.mono A0.out.size))
    clear A0
    have A0 := A0'
    clear A0'
    have AS' := Lib.hid (AS.out.trans (hb.mono AS.out.size))
    clear AS
    have AS := AS'
    clear AS'
    have AG' := Lib.hid (AG.out.trans (hb.mono AG.out.size))
    clear AG
    have AG := AG'
    clear AG'
    clear hq hb
    go_wp2_with fail
    refine (markIntS_any u1.heap.size ga gc r2.length 1 r2 u3 HSR.out (by omega) (by omega) (GP.out.below AG.out)).mono ?_
    rintro e u4 ⟨rfl, hp, ho⟩
    have hb0 : Below u1.heap.size u3 u4 := ho.below (fun k hk => Nat.le_trans SG.out (GP.out.lt k hk).1)
    have A0' := Lib.hid (A0.out.trans (hb0.mono S0.out))
    clear A0
    have A0 := A0'
    clear A0'
    have AS' := Lib.hid (AS.out.trans hb0)
    clear AS
    have AS := AS'
    clear AS'
    clear GP AG
    have GM := Lib.hid (own_at hp)
    have AG := Lib.hid (Below.refl u4.heap.size u4)
    clear hp ho hb0
    go_wp2_with fail
    refine (heldIntS_yes ga gc r2.length 1 u4 HSR.out (by omega) (by omega) (GM.out.below AG.out)).mono ?_
    rintro e u5 ⟨rfl, hq⟩
    have hb := hq.below u4.heap.size
    have A0' := Lib.hid (A0.out.trans (hb.mono A0.out.size))
    clear A0
    have A0 := A0'
    clear A0'
    have AS' := Lib.hid (AS.out.trans (hb.mono AS.out.size))
    clear AS
    have AS := AS'
    clear AS'
    have AG' := Lib.hid (AG.out.trans (hb.mono AG.out.size))
    clear AG
    have AG := AG'
    clear AG'
    clear hq hb
    go_wp2_with fail
    refine (implInversionTable_any z0 u5 Hz0.out (HD.out.next A0.out) ).mono ?_
    rintro e u6 ⟨⟨v, b3, r3, rfl, hv, hr⟩, hb⟩
    have he := HC.out b3 r3 hr
    obtain ⟨he1, he2⟩ := he
    subst he1
    have he3 := he2.symm
    subst he3
    obtain ⟨ha, hc, rfl, _, _, hm⟩ := hv.read
    have HM := Lib.hid hm
    have A0' := Lib.hid (A0.out.trans (hb.mono A0.out.size))
    clear A0
    have A0 := A0'
    clear A0'
    have AS' := Lib.hid (AS.out.trans (hb.mono AS.out.size))
    clear AS
    have AS := AS'
    clear AS'
    have AG' := Lib.hid (AG.out.trans (hb.mono AG.out.size))
    clear AG
    have AG := AG'
    clear AG'
    clear hv hb hm hr
    have AH := Lib.hid (Below.refl u6.heap.size u6)
    go_wp2_with fail
    refine (eqIntS_same ha ra hc rc r2 u6 HSR.out (HM.out.below AH.out) (RM.out.below AS.out)).mono ?_
    rintro e u7 ⟨rfl, hq⟩
    have hb := hq.below u6.heap.size
    have A0' := Lib.hid (A0.out.trans (hb.mono A0.out.size))
    clear A0
    have A0 := A0'
    clear A0'
    have AS' := Lib.hid (AS.out.trans (hb.mono AS.out.size))
    clear AS
    have AS := AS'
    clear AS'
    have AG' := Lib.hid (AG.out.trans (hb.mono AG.out.size))
    clear AG
    have AG := AG'
    clear AG'
    have AH' := Lib.hid (AH.out.trans (hb.mono AH.out.size))
    clear AH
    have AH := AH'
    clear AH'
    clear hq hb
    go_wp2_with fail
    refine (heldIntS_yes ga gc r2.length 1 u7 HSR.out (by omega) (by omega) (GM.out.below AG.out)).mono ?_
    rintro e u8 ⟨rfl, hq⟩
    have hb := hq.below u7.heap.size
    have A0' := Lib.hid (A0.out.trans (hb.mono A0.out.size))
    clear A0
    have A0 := A0'
    clear A0'
    have AS' := Lib.hid (AS.out.trans (hb.mono AS.out.size))
    clear AS
    have AS := AS'
    clear AS'
    have AG' := Lib.hid (AG.out.trans (hb.mono AG.out.size))
    clear AG
    have AG := AG'
    clear AG'
    have AH' := Lib.hid (AH.out.trans (hb.mono AH.out.size))
    clear AH
    have AH := AH'
    clear AH'
    clear hq hb
    go_wp2
    go_ret
    exact ⟨rfl, A0.out⟩

set_option maxRecDepth 100000 in
theorem run {H : Type} {enc : TypeId × Value → H} (W : World) (base : Nat) (args : Array Value) (ds gs : List (DataW H)) (before : List MemPlace)
    (hval : ∀ (j : Nat) t v, Tryd.f4.params[j]? = some t → args[j]? = some v → Value.okWide Tryd.prog W .any base t v)
    (hW : DataW.Whole enc Tryd.prog Tryd.f4.params.toList Rows.fnExactInversionTableSpec.vars false W args.toList ds gs before) (hD : Dj W) :
    Calls Tryd.prog 4 args W fun e W' => ∃ v, e = .returned v ∧ Rows.fnExactInversionTableSpec.post enc Tryd.prog Tryd.f4 false true false false W args v W' := by
  have hW' := hW
  obtain ⟨p, q, hA0, hV, rfl, hfz, hnd⟩ := hW
  have hA : DataW.TrodAll enc Tryd.prog W 0 (fun _ => true) true Tryd.f4.params.toList args.toList ds p := hA0
  rw [Tryd.params4] at hA hval
  obtain ⟨v0, vs0, d0, ds0, p0, q0, hargs, rfl, rfl, h0, r0⟩ := trodAll_cons hA
  obtain ⟨rfl, rfl, rfl⟩ := trodAll_nil r0
  obtain rfl : args = #[v0] := by cases args; simp_all
  obtain ⟨rfl, rfl⟩ := trodVars_none hV
  obtain ⟨a0, rfl, rfl, rfl, w0⟩ := open_int Tryd.underlying3 (hval 0 3 v0 rfl rfl) h0
  clear hA0
  refine (walk a0 (bounds_i64 w0) W rfl hD).mono fun e W' ⟨he, bel⟩ => ?_
  subst he
  exact ⟨_, rfl, _, _, _, [], _, [], hW', trodAll_mk1 (shut_bool Tryd.underlying4 _), (trodAll_cons_mk (shut_int Tryd.underlying3 w0) trodAll_mk0), rfl, bel.frame _, fun h => by cases h⟩

set_option maxRecDepth 100000 in
theorem lifted (os : Os) (started : os.Started) (H : Type) (enc : TypeId × Value → H) :
    ReturnsInHanded {} Tryd.checked os 4 .any (fun w args => (Rows.fnExactInversionTableSpec.pre enc Tryd.prog Tryd.f4 [] false w args ∧ laidMetH Tryd.prog Rows.fnExactInversionTableRow.laid w) ∧ sizedMet enc Tryd.prog Tryd.f4 (OpenSpec.ofChange Rows.fnExactInversionTableSpec) false w args)
      (Rows.fnExactInversionTableSpec.post enc Tryd.prog Tryd.f4 false true false false) := by
  refine returnsInHanded_of_calls Tryd.own started (by kernel_rfl)
    (ChangeSpec.witness_shaped (enc := enc) (C := Tryd.checked) (os := os) (X := fun w _ => laidMetH Tryd.prog Rows.fnExactInversionTableRow.laid w) false (World.laidAll Tryd.prog os Rows.fnExactInversionTableRow.laid) #[.int .i64 0] 8 (World.laidAll_os _ _ _)
      (World.shaped_of_ZipB (by kernel_rfl) (by kernel_rfl)) (by kernel_rfl) (by kernel_rfl) (by kernel_rfl)
      (by rw [MakeChecks.laidMetH_plain _ _ _ (by kernel_rfl)]; exact laidMet_laidAll _ (by kernel_rfl) (by kernel_rfl))) ?_
  intro w tape i _ _ _ hok hpre _
  obtain ⟨_, _, _, fn', hfn', _, _, _, _, hval⟩ := hok
  obtain rfl : fn' = Tryd.f4 := Option.some.inj (hfn'.symm.trans Tryd.func4)
  obtain ⟨⟨⟨ds, gs, before, hw, _⟩, hlaid⟩, _⟩ := hpre
  have hW := DataW.Whole.of_heap (w' := w.forCall tape i) (by rfl) hw
  have hL : laidMetH Tryd.prog laid2 (w.forCall tape i) := hlaid.of_heap (by rfl)
  refine (run (w.forCall tape i) w.heap.size i.args ds gs before hval hW (dj_of_laid hL)).mono fun e W' ⟨v, he, hp⟩ => ?_
  subst he
  exact ChangeSpec.post_blind hp

theorem over : Rows.fnExactInversionTableRow.holds Tryd.pinned (OpenSpec.ofChange Rows.fnExactInversionTableSpec) :=
  OpenClaim.holds_of_wide 4 Tryd.f4 rfl rfl rfl rfl rfl rfl rfl ⟨rfl, rfl, rfl, rfl, rfl⟩ rfl rfl rfl rfl rfl (by kernel_rfl) Tryd.func4 (by kernel_rfl)
    (of_decide_eq_true (by kernel_rfl)) (by unfold Func.isWrapper; rw [if_neg (of_decide_eq_false (by kernel_rfl))]; exact ⟨rfl, rfl⟩)
    (fun os started H enc _ => lifted os started H enc)

theorem proved : Rows.FnExactInversionTableCardSaid :=
  Claim7.holds_tied_plain_at .later [] Rows.fnExactInversionTableCard.laidKinds true Rows.fnExactInversionTableCard.stood.harness false over (fun _ h => by cases h) (by kernel_rfl) (fun _ h => by cases h) fnExactInversionTable_row_tie rfl ⟨rfl, rfl⟩ (by kernel_rfl) rfl
    (fun f fn hf hfn => by
      obtain rfl : f = 4 := Option.some.inj ((show Tryd.prog.funcNamed "loop.example/g01123/laws.FnExactInversionTable" = some 4 by kernel_rfl).symm.trans hf) |>.symm
      obtain rfl : fn = Tryd.f4 := (Option.some.inj (Tryd.func4.symm.trans hfn)).symm
      exact ⟨by kernel_rfl, fun j t ht => by
        rw [Tryd.params4] at ht
        have hm : t ∈ [3] := by simpa using Array.mem_of_getElem? ht
        have hall : ([3].all fun u => !Tryd.prog.wantsStandIn u) = true := by kernel_rfl
        exact (show Tryd.prog.wantsStandIn t = false by simpa using List.all_eq_true.1 hall t hm)⟩)
    (by kernel_rfl)
end Go.Proofs.YtmkldodkpijfjaaDoor.fnExactInversionTable
