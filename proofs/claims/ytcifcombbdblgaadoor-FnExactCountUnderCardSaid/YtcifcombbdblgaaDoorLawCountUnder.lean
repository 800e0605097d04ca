/- The law FnExactCountUnder returns true at every input, and writes to nothing that was there; the card ties the two tables of the library that its row lists. Condition: the row's listed variables. -/
import Derived.Test.YtcifcombbdblgaaDoorFrame
import Derived.Test.YtcifcombbdblgaaDoorCountS
import Derived.Test.YtcifcombbdblgaaDoorCountI
import Derived.Test.YtcifcombbdblgaaDoorDoor
namespace Go.Proofs.YtcifcombbdblgaaDoor.fnExactCountUnder
open Go.ChangeShapes Go.WideShapes Go.ChangeAt Go.RowKit Go.Deep
open Go.ChangeMaps (open_string shut_string)
set_option linter.unusedVariables false

set_option maxHeartbeats 1600000 in
theorem walk {w0 : World} (a0 : Option Addr) (len0 cap0 : Nat) (m : List Int) (e0 : m.length = len0) (hl : len0 ≤ 9223372036854775807) (hwf : WfI m) (hm : IntsAt w0 a0 m) (w : World) (hw : w0 = w) (hD : Dj w0) :
    Calls Tryd.prog 5 #[.slice a0 len0 cap0] w fun e w' => e = .returned (.bool true) ∧ Below w.heap.size w w' := by
  subst e0
  subst hw
  have HD := Lib.hid hD
  have Hwf := Lib.hid hwf
  have Hm := Lib.hid hm
  clear hwf hm hD
  by_cases hbig : 1048576 < m.length
  · have hbd : decide ((1048576 : Int) < (m.length : Int)) = true := by simp; omega
    go_enter Tryd.func5, Tryd.ntmps5
    go_wp2
    go_ret
    exact ⟨rfl, Below.refl _ _⟩
  have hsz0 : m.length ≤ 1048576 := by omega
  have hbd : decide ((1048576 : Int) < (m.length : Int)) = false := by simp; omega
  clear hbig
  go_enter Tryd.func5, Tryd.ntmps5
  go_wp2_with fail
  refine (toIntS_any a0 cap0 m w0 hsz0 Hm.out).mono ?_
  rintro e w1 ⟨v, rfl, hv, hb1⟩
  obtain ⟨a1, c1, rfl, _, _, hm1⟩ := hv.read
  have Hm1 := Lib.hid hm1
  have B1 := Lib.hid hb1
  clear hv hm1 hb1
  go_wp2_with fail
  refine (specCountUnder_any a1 c1 m w1 hsz0 Hm1.out).mono ?_
  rintro e w2 ⟨⟨y, b, rfl, hp1⟩, hb2⟩
  have P1 := Lib.hid hp1
  have B2 := Lib.hid (B1.out.trans (hb2.mono B1.out.size))
  clear hp1 hb2
  go_wp2_with fail
  refine (toIntS_any a0 cap0 m w2 hsz0 (Hm.out.below B2.out)).mono ?_
  rintro e w3 ⟨v, rfl, hv, hb3⟩
  obtain ⟨a3, c3, rfl, _, _, hm3⟩ := hv.read
  have Hm3 := Lib.hid hm3
  have B3 := Lib.hid (B2.out.trans (hb3.mono B2.out.size))
  clear hv hm3 hb3
  go_wp2_with fail
  refine (implCountUnder_any a3 c3 m w3 hsz0 Hwf.out Hm3.out (HD.out.next B3.out)).mono ?_
  rintro e w4 ⟨⟨y2, b2, rfl, hp2⟩, hb4⟩
  have Hm4 := Lib.hid (Hm3.out.below hb4)
  have B4 := Lib.hid (B3.out.trans (hb4.mono B3.out.size))
  obtain ⟨rfl, rfl⟩ := ires_same P1.out hp2
  clear hp2 hb4 P1
  have hyy : (y != y) = false := by simp
  cases b
  all_goals
    go_wp2_with fail
    refine (toIntS_any a0 cap0 m w4 hsz0 (Hm.out.below B4.out)).mono ?_
    rintro e w5 ⟨v, rfl, hv, hb5⟩
    obtain ⟨a5, c5, rfl, _, _, hm5⟩ := hv.read
    have Hm5 := Lib.hid hm5
    have Hm6 := Lib.hid (Hm4.out.below hb5)
    have B5 := Lib.hid (B4.out.trans (hb5.mono B4.out.size))
    clear hv hm5 hb5
    go_wp2_with fail
    refine (eqIntS_same a3 a5 c3 c5 m w5 hsz0 Hm6.out Hm5.out).mono ?_
    rintro e w6 ⟨rfl, hq⟩
    go_wp2
    go_ret
    exact ⟨rfl, B5.out.trans (hq.below _)⟩

theorem run {H : Type} {enc : TypeId × Value → H} (W : World) (base : Nat) (args : Array Value) (ds gs : List (DataW H)) (before : List MemPlace)
    (hval : ∀ (j : Nat) t v, Tryd.f5.params[j]? = some t → args[j]? = some v → Value.okWide Tryd.prog W .any base t v)
    (hW : DataW.Whole enc Tryd.prog Tryd.f5.params.toList Rows.fnExactCountUnderSpec.vars false W args.toList ds gs before) (hD : Dj W) :
    Calls Tryd.prog 5 args W fun e W' => ∃ v, e = .returned v ∧ Rows.fnExactCountUnderSpec.post enc Tryd.prog Tryd.f5 false true false false W args v W' := by
  have hW' := hW
  obtain ⟨p, q, hA0, hV, rfl, hfz, hnd⟩ := hW
  have hA : DataW.TrodAll enc Tryd.prog W 0 (fun _ => true) true Tryd.f5.params.toList args.toList ds p := hA0
  rw [Tryd.params5] at hA hval
  obtain ⟨v0, vs0, d0, ds0, p0, q0, hargs, rfl, rfl, h0, r0⟩ := trodAll_cons hA
  obtain ⟨rfl, rfl, rfl⟩ := trodAll_nil r0
  obtain rfl : args = #[v0] := by cases args; simp_all
  obtain ⟨rfl, rfl⟩ := trodVars_none hV
  obtain ⟨a0, len0, cap0, rfl⟩ := okWide_slice Tryd.underlying29 (hval 0 29 v0 rfl rfl)
  have k0 := h0
  have lt0 : ∀ x ∈ p0, x.block < W.heap.size := by obtain ⟨m, hm⟩ := k0; exact DataW.trod_lt m _ _ _ hm
  obtain ⟨m0, e0, f0, g0, x0⟩ := open_ints_arg h0
  clear hA0
  refine (walk a0 len0 cap0 m0 e0 f0 g0 x0 W rfl hD).mono fun e W' ⟨he, bel⟩ => ?_
  subst he
  exact ⟨_, rfl, _, _, _, [], _, [], hW', trodAll_mk1 (shut_bool Tryd.underlying4 _), (trodAll_cons_mk (Below.trod Tryd.laidOut (by kernel_rfl) (of_decide_eq_true (by kernel_rfl)) k0 bel lt0) trodAll_mk0), rfl, bel.frame _, fun h => by cases h⟩

set_option maxRecDepth 100000 in
theorem lifted (os : Os) (started : os.Started) (H : Type) (enc : TypeId × Value → H) :
    ReturnsInHanded {} Tryd.checked os 5 .any (fun w args => (Rows.fnExactCountUnderSpec.pre enc Tryd.prog Tryd.f5 [] false w args ∧ laidMetH Tryd.prog Rows.fnExactCountUnderRow.laid w) ∧ sizedMet enc Tryd.prog Tryd.f5 (OpenSpec.ofChange Rows.fnExactCountUnderSpec) false w args)
      (Rows.fnExactCountUnderSpec.post enc Tryd.prog Tryd.f5 false true false false) := by
  refine returnsInHanded_of_calls Tryd.own started (by kernel_rfl)
    (ChangeSpec.witness_shaped (enc := enc) (C := Tryd.checked) (os := os) (X := fun w _ => laidMetH Tryd.prog Rows.fnExactCountUnderRow.laid w) false (World.laidAll Tryd.prog os Rows.fnExactCountUnderRow.laid) #[.slice none 0 0] 8 (World.laidAll_os _ _ _)
      (World.shaped_of_ZipB (by kernel_rfl) (by kernel_rfl)) (by kernel_rfl) (by kernel_rfl) (by kernel_rfl)
      (by rw [MakeChecks.laidMetH_plain _ _ _ (by kernel_rfl)]; exact laidMet_laidAll _ (by kernel_rfl) (by kernel_rfl))) ?_
  intro w tape i _ _ _ hok hpre _
  obtain ⟨_, _, _, fn', hfn', _, _, _, _, hval⟩ := hok
  obtain rfl : fn' = Tryd.f5 := Option.some.inj (hfn'.symm.trans Tryd.func5)
  obtain ⟨⟨⟨ds, gs, before, hw, _⟩, hlaid⟩, _⟩ := hpre
  have hW := DataW.Whole.of_heap (w' := w.forCall tape i) (by rfl) hw
  have hL : laidMetH Tryd.prog laid2 (w.forCall tape i) := hlaid.of_heap (by rfl)
  refine (run (w.forCall tape i) w.heap.size i.args ds gs before hval hW (dj_of_laid hL)).mono fun e W' ⟨v, he, hp⟩ => ?_
  subst he
  exact ChangeSpec.post_blind hp

theorem over : Rows.fnExactCountUnderRow.holds Tryd.pinned (OpenSpec.ofChange Rows.fnExactCountUnderSpec) :=
  OpenClaim.holds_of_wide 5 Tryd.f5 rfl rfl rfl rfl rfl rfl rfl ⟨rfl, rfl, rfl, rfl, rfl⟩ rfl rfl rfl rfl rfl (by kernel_rfl) Tryd.func5 (by kernel_rfl)
    (of_decide_eq_true (by kernel_rfl)) (by unfold Func.isWrapper; rw [if_neg (of_decide_eq_false (by kernel_rfl))]; exact ⟨rfl, rfl⟩)
    (fun os started H enc _ => lifted os started H enc)

theorem proved : Rows.FnExactCountUnderCardSaid :=
  Claim7.holds_tied_plain_at .later [] Rows.fnExactCountUnderCard.laidKinds true Rows.fnExactCountUnderCard.stood.harness false over (fun _ h => by cases h) (by kernel_rfl) (fun _ h => by cases h) fnExactCountUnder_row_tie rfl ⟨rfl, rfl⟩ (by kernel_rfl) rfl
    (fun f fn hf hfn => by
      obtain rfl : f = 5 := Option.some.inj ((show Tryd.prog.funcNamed "loop.example/g01123/laws.FnExactCountUnder" = some 5 by kernel_rfl).symm.trans hf) |>.symm
      obtain rfl : fn = Tryd.f5 := (Option.some.inj (Tryd.func5.symm.trans hfn)).symm
      exact ⟨by kernel_rfl, fun j t ht => by
        rw [Tryd.params5] at ht
        have hm : t ∈ [29] := by simpa using Array.mem_of_getElem? ht
        have hall : ([29].all fun u => !Tryd.prog.wantsStandIn u) = true := by kernel_rfl
        exact (show Tryd.prog.wantsStandIn t = false by simpa using List.all_eq_true.1 hall t hm)⟩)
    (by kernel_rfl)
end Go.Proofs.YtcifcombbdblgaaDoor.fnExactCountUnder
