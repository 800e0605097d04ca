/- The law FnExactCountBetween returns true at every input, and writes to nothing that was there; the card ties the two tables of the library that its row lists. Condition: the row's listed variables. -/
import Derived.Test.YtjkpokpidpampaaDoorK24
namespace Go.Proofs.YtjkpokpidpampaaDoor.fnExactCountBetween
open Go.ChangeShapes Go.WideShapes Go.ChangeAt Go.RowKit Go.Deep
open Go.ChangeMaps (open_string shut_string)
set_option linter.unusedVariables false

set_option maxRecDepth 100000 in
set_option maxHeartbeats 1600000 in
theorem walk {w0 : World} (a0 : Option Addr) (len0 cap0 : Nat) (m0 : List (List Int)) (e0 : m0.length = len0) (hl0 : len0 ≤ 9223372036854775807) (hwf0 : WfM m0) (hrow0 : ∀ i, i < m0.length → (gr m0 i).length ≤ 9223372036854775807) (hm0 : MatAt w0 a0 m0) (a1 : Option Addr) (len1 cap1 : Nat) (m1 : List (List Int)) (e1 : m1.length = len1) (hl1 : len1 ≤ 9223372036854775807) (hwf1 : WfM m1) (hrow1 : ∀ i, i < m1.length → (gr m1 i).length ≤ 9223372036854775807) (hm1 : MatAt w0 a1 m1) (w : World) (hw : w0 = w) (hD : Dj w0) :
    Calls Tryd.prog 3 #[.slice a0 len0 cap0, .slice a1 len1 cap1] w fun e w' => e = .returned (.bool true) ∧ Below w.heap.size w w' := by
  subst hw
  have HD := Lib.hid hD
  clear hD
  subst e0
  have Hwf0 := Lib.hid hwf0
  have Hm0 := Lib.hid hm0
  have Hrow0 := Lib.hid hrow0
  clear hwf0 hm0 hrow0
  subst e1
  have Hwf1 := Lib.hid hwf1
  have Hm1 := Lib.hid hm1
  have Hrow1 := Lib.hid hrow1
  clear hwf1 hm1 hrow1
  go_enter Tryd.func3, Tryd.ntmps3
  go_wp2_with fail
  refine (szIntSS_any a0 cap0 m0 1048576 w0 hl0 Hrow0.out (by omega) (by omega) Hm0.out).mono ?_
  rintro e w1 ⟨r0, rfl, hr0a, hr0b, hsm0, rfl⟩
  by_cases hr0 : r0 < 0
  · clear hsm0
    go_wp2
    go_ret
    exact ⟨rfl, Below.refl _ _⟩
  have Hs0 := Lib.hid (hsm0 (by omega))
  clear hsm0
  have hr00 : 0 ≤ r0 := by omega
  go_wp2_with fail
  refine (szIntSS_any a1 cap1 m1 r0 w0 hl1 Hrow1.out (by omega) (by omega) Hm1.out).mono ?_
  rintro e w1 ⟨r1, rfl, hr1a, hr1b, hsm1, rfl⟩
  by_cases hr1 : r1 < 0
  · clear hsm1
    go_wp2
    go_ret
    exact ⟨rfl, Below.refl _ _⟩
  have Hs1 := Lib.hid (hsm1 (by omega))
  clear hsm1
  have hr10 : 0 ≤ r1 := by omega
  have A0 := Lib.hid (Below.refl w0.heap.size w0)
  go_wp2_with fail
  refine (toIntSS_any a0 cap0 m0 w0 Hs0.out (Hm0.out.below A0.out)).mono ?_
  rintro e u1 ⟨v, rfl, hv, hb⟩
  obtain ⟨y0a, y0c, rfl, y0h1, y0h2, hm⟩ := hv.read
  have y0M := Lib.hid hm
  clear hm
  have A0' := Lib.hid (A0.out.trans (hb.mono A0.out.size))
  clear A0
  have A0 := A0'
  clear A0'
  clear hv hb
  have Y0 := Lib.hid (Below.refl u1.heap.size u1)
  go_wp2_with fail
  refine (toIntSS_any a1 cap1 m1 u1 Hs1.out (Hm1.out.below A0.out)).mono ?_
  rintro e u2 ⟨v, rfl, hv, hb⟩
  obtain ⟨y1a, y1c, rfl, y1h1, y1h2, hm⟩ := hv.read
  have y1M := Lib.hid hm
  clear hm
  have A0' := Lib.hid (A0.out.trans (hb.mono A0.out.size))
  clear A0
  have A0 := A0'
  clear A0'
  have Y0' := Lib.hid (Y0.out.trans (hb.mono Y0.out.size))
  clear Y0
  have Y0 := Y0'
  clear Y0'
  clear hv hb
  have Y1 := Lib.hid (Below.refl u2.heap.size u2)
  go_wp2_with fail
  refine (specCountBetween_any y0a y0c m0 y1a y1c m1 u2 Hs0.out (y0M.out.below Y0.out) Hs1.out (y1M.out.below Y1.out) ).mono ?_
  rintro e u3 ⟨⟨y, b, rfl, hp1⟩, hb⟩
  have P1 := Lib.hid hp1
  have A0' := Lib.hid (A0.out.trans (hb.mono A0.out.size))
  clear A0
  have A0 := A0'
  clear A0'
  have Y0' := Lib.hid (Y0.out.trans (hb.mono Y0.out.size))
  clear Y0
  have Y0 := Y0'
  clear Y0'
  have Y1' := Lib.hid (Y1.out.trans (hb.mono Y1.out.size))
  clear Y1
  have Y1 := Y1'
  clear Y1'
  clear hb hp1
  clear Y0 y0M
  clear Y1 y1M
  go_wp2_with fail
  refine (toIntSS_any a0 cap0 m0 u3 Hs0.out (Hm0.out.below A0.out)).mono ?_
  rintro e u4 ⟨v, rfl, hv, hb⟩
  obtain ⟨x0a, x0c, rfl, x0h1, x0h2, hm⟩ := hv.read
  have x0M := Lib.hid hm
  clear hm
  have A0' := Lib.hid (A0.out.trans (hb.mono A0.out.size))
  clear A0
  have A0 := A0'
  clear A0'
  clear hv hb
  have X0 := Lib.hid (Below.refl u4.heap.size u4)
  go_wp2_with fail
  refine (toIntSS_any a1 cap1 m1 u4 Hs1.out (Hm1.out.below A0.out)).mono ?_
  rintro e u5 ⟨v, rfl, hv, hb⟩
  obtain ⟨x1a, x1c, rfl, x1h1, x1h2, hm⟩ := hv.read
  have x1M := Lib.hid hm
  clear hm
  have A0' := Lib.hid (A0.out.trans (hb.mono A0.out.size))
  clear A0
  have A0 := A0'
  clear A0'
  have X0' := Lib.hid (X0.out.trans (hb.mono X0.out.size))
  clear X0
  have X0 := X0'
  clear X0'
  clear hv hb
  have X1 := Lib.hid (Below.refl u5.heap.size u5)
  go_wp2_with fail
  refine (implCountBetween_any x0a x0c m0 x1a x1c m1 u5 Hs0.out Hwf0.out (x0M.out.below X0.out) x0h1 x0h2 Hs1.out Hwf1.out (x1M.out.below X1.out) x1h1 x1h2 (HD.out.next A0.out) ).mono ?_
  rintro e u6 ⟨⟨y2, b2, rfl, hp2⟩, hb⟩
  obtain ⟨rfl, rfl⟩ := ires_same P1.out hp2
  have A0' := Lib.hid (A0.out.trans (hb.mono A0.out.size))
  clear A0
  have A0 := A0'
  clear A0'
  have X0' := Lib.hid (X0.out.trans (hb.mono X0.out.size))
  clear X0
  have X0 := X0'
  clear X0'
  have X1' := Lib.hid (X1.out.trans (hb.mono X1.out.size))
  clear X1
  have X1 := X1'
  clear X1'
  clear hp2 hb P1
  have hyy : (y != y) = false := by simp
  cases b
  all_goals
    go_wp2_with fail
    refine (toIntSS_any a0 cap0 m0 u6 Hs0.out (Hm0.out.below A0.out)).mono ?_
    rintro e u7 ⟨v, rfl, hv, hb⟩
    obtain ⟨z0a, z0c, rfl, z0h1, z0h2, hm⟩ := hv.read
    have z0M := Lib.hid hm
    clear hm
    have A0' := Lib.hid (A0.out.trans (hb.mono A0.out.size))
    clear A0
    have A0 := A0'
    clear A0'
    have X0' := Lib.hid (X0.out.trans (hb.mono X0.out.size))
    clear X0
    have X0 := X0'
    clear X0'
    have X1' := Lib.hid (X1.out.trans (hb.mono X1.out.size))
    clear X1
    have X1 := X1'
    clear X1'
    clear hv hb
    go_wp2_with fail
    refine (eqIntSS_same x0a z0a x0c z0c m0 u7 Hs0.out (x0M.out.below X0.out) z0M.out).mono ?_
    rintro e u8 ⟨rfl, hq⟩
    have hb := hq.below u7.heap.size
    have A0' := Lib.hid (A0.out.trans (hb.mono A0.out.size))
    clear A0
    have A0 := A0'
    clear A0'
    have X0' := Lib.hid (X0.out.trans (hb.mono X0.out.size))
    clear X0
    have X0 := X0'
    clear X0'
    have X1' := Lib.hid (X1.out.trans (hb.mono X1.out.size))
    clear X1
    have X1 := X1'
    clear X1'
    clear hq hb z0M
    go_wp2_with fail
    refine (toIntSS_any a1 cap1 m1 u8 Hs1.out (Hm1.out.below A0.out)).mono ?_
    rintro e u9 ⟨v, rfl, hv, hb⟩
    obtain ⟨z1a, z1c, rfl, z1h1, z1h2, hm⟩ := hv.read
    have z1M := Lib.hid hm
    clear hm
    have A0' := Lib.hid (A0.out.trans (hb.mono A0.out.size))
    clear A0
    have A0 := A0'
    clear A0'
    have X0' := Lib.hid (X0.out.trans (hb.mono X0.out.size))
    clear X0
    have X0 := X0'
    clear X0'
    have X1' := Lib.hid (X1.out.trans (hb.mono X1.out.size))
    clear X1
    have X1 := X1'
    clear X1'
    clear hv hb
    go_wp2_with fail
    refine (eqIntSS_same x1a z1a x1c z1c m1 u9 Hs1.out (x1M.out.below X1.out) z1M.out).mono ?_
    rintro e u10 ⟨rfl, hq⟩
    have hb := hq.below u9.heap.size
    have A0' := Lib.hid (A0.out.trans (hb.mono A0.out.size))
    clear A0
    have A0 := A0'
    clear A0'
    have X0' := Lib.hid (X0.out.trans (hb.mono X0.out.size))
    clear X0
    have X0 := X0'
    clear X0'
    have X1' := Lib.hid (X1.out.trans (hb.mono X1.out.size))
    clear X1
    have X1 := X1'
    clear X1'
    clear hq hb z1M
    go_wp2
    go_ret
    exact ⟨rfl, A0.out⟩

set_option maxRecDepth 100000 in
theorem run {H : Type} {enc : TypeId × Value → H} (W : World) (base : Nat) (args : Array Value) (ds gs : List (DataW H)) (before : List MemPlace)
    (hval : ∀ (j : Nat) t v, Tryd.f3.params[j]? = some t → args[j]? = some v → Value.okWide Tryd.prog W .any base t v)
    (hW : DataW.Whole enc Tryd.prog Tryd.f3.params.toList Rows.fnExactCountBetweenSpec.vars false W args.toList ds gs before) (hD : Dj W) :
    Calls Tryd.prog 3 args W fun e W' => ∃ v, e = .returned v ∧ Rows.fnExactCountBetweenSpec.post enc Tryd.prog Tryd.f3 false true false false W args v W' := by
  have hW' := hW
  obtain ⟨p, q, hA0, hV, rfl, hfz, hnd⟩ := hW
  have hA : DataW.TrodAll enc Tryd.prog W 0 (fun _ => true) true Tryd.f3.params.toList args.toList ds p := hA0
  rw [Tryd.params3] at hA hval
  obtain ⟨v0, vs0, d0, ds0, p0, q0, hargs, rfl, rfl, h0, r0⟩ := trodAll_cons hA
  obtain ⟨v1, vs1, d1, ds1, p1, q1, rfl, rfl, rfl, h1, r1⟩ := trodAll_cons r0
  obtain ⟨rfl, rfl, rfl⟩ := trodAll_nil r1
  obtain rfl : args = #[v0, v1] := by cases args; simp_all
  obtain ⟨rfl, rfl⟩ := trodVars_none hV
  obtain ⟨a0, len0, cap0, rfl⟩ := okWide_slice Tryd.underlying22 (hval 0 22 v0 rfl rfl)
  have k0 := h0
  have lt0 : ∀ x ∈ p0, x.block < W.heap.size := by obtain ⟨m, hm⟩ := k0; exact DataW.trod_lt m _ _ _ hm
  obtain ⟨m0, e0, f0, g0, y0, x0⟩ := open_mat_arg h0
  obtain ⟨a1, len1, cap1, rfl⟩ := okWide_slice Tryd.underlying22 (hval 1 22 v1 rfl rfl)
  have k1 := h1
  have lt1 : ∀ x ∈ p1, x.block < W.heap.size := by obtain ⟨m, hm⟩ := k1; exact DataW.trod_lt m _ _ _ hm
  obtain ⟨m1, e1, f1, g1, y1, x1⟩ := open_mat_arg h1
  clear hA0
  refine (walk a0 len0 cap0 m0 e0 f0 g0 y0 x0 a1 len1 cap1 m1 e1 f1 g1 y1 x1 W rfl hD).mono fun e W' ⟨he, bel⟩ => ?_
  subst he
  exact ⟨_, rfl, _, _, _, [], _, [], hW', trodAll_mk1 (shut_bool Tryd.underlying4 _), (trodAll_cons_mk (Below.trod Tryd.laidOut (by kernel_rfl) (of_decide_eq_true (by kernel_rfl)) k0 bel lt0) (trodAll_cons_mk (Below.trod Tryd.laidOut (by kernel_rfl) (of_decide_eq_true (by kernel_rfl)) k1 bel lt1) trodAll_mk0)), rfl, bel.frame _, fun h => by cases h⟩

set_option maxRecDepth 100000 in
theorem lifted (os : Os) (started : os.Started) (H : Type) (enc : TypeId × Value → H) :
    ReturnsInHanded {} Tryd.checked os 3 .any (fun w args => (Rows.fnExactCountBetweenSpec.pre enc Tryd.prog Tryd.f3 [] false w args ∧ laidMetH Tryd.prog Rows.fnExactCountBetweenRow.laid w) ∧ sizedMet enc Tryd.prog Tryd.f3 (OpenSpec.ofChange Rows.fnExactCountBetweenSpec) false w args)
      (Rows.fnExactCountBetweenSpec.post enc Tryd.prog Tryd.f3 false true false false) := by
  refine returnsInHanded_of_calls Tryd.own started (by kernel_rfl)
    (ChangeSpec.witness_shaped (enc := enc) (C := Tryd.checked) (os := os) (X := fun w _ => laidMetH Tryd.prog Rows.fnExactCountBetweenRow.laid w) false (World.laidAll Tryd.prog os Rows.fnExactCountBetweenRow.laid) #[.slice none 0 0, .slice none 0 0] 8 (World.laidAll_os _ _ _)
      (World.shaped_of_ZipB (by kernel_rfl) (by kernel_rfl)) (by kernel_rfl) (by kernel_rfl) (by kernel_rfl)
      (by rw [MakeChecks.laidMetH_plain _ _ _ (by kernel_rfl)]; exact laidMet_laidAll _ (by kernel_rfl) (by kernel_rfl))) ?_
  intro w tape i _ _ _ hok hpre _
  obtain ⟨_, _, _, fn', hfn', _, _, _, _, hval⟩ := hok
  obtain rfl : fn' = Tryd.f3 := Option.some.inj (hfn'.symm.trans Tryd.func3)
  obtain ⟨⟨⟨ds, gs, before, hw, _⟩, hlaid⟩, _⟩ := hpre
  have hW := DataW.Whole.of_heap (w' := w.forCall tape i) (by rfl) hw
  have hL : laidMetH Tryd.prog laid2 (w.forCall tape i) := hlaid.of_heap (by rfl)
  refine (run (w.forCall tape i) w.heap.size i.args ds gs before hval hW (dj_of_laid hL)).mono fun e W' ⟨v, he, hp⟩ => ?_
  subst he
  exact ChangeSpec.post_blind hp

theorem over : Rows.fnExactCountBetweenRow.holds Tryd.pinned (OpenSpec.ofChange Rows.fnExactCountBetweenSpec) :=
  OpenClaim.holds_of_wide 3 Tryd.f3 rfl rfl rfl rfl rfl rfl rfl ⟨rfl, rfl, rfl, rfl, rfl⟩ rfl rfl rfl rfl rfl (by kernel_rfl) Tryd.func3 (by kernel_rfl)
    (of_decide_eq_true (by kernel_rfl)) (by unfold Func.isWrapper; rw [if_neg (of_decide_eq_false (by kernel_rfl))]; exact ⟨rfl, rfl⟩)
    (fun os started H enc _ => lifted os started H enc)

theorem proved : Rows.FnExactCountBetweenCardSaid :=
  Claim7.holds_tied_plain_at .later [] Rows.fnExactCountBetweenCard.laidKinds true Rows.fnExactCountBetweenCard.stood.harness false over (fun _ h => by cases h) (by kernel_rfl) (fun _ h => by cases h) fnExactCountBetween_row_tie rfl ⟨rfl, rfl⟩ (by kernel_rfl) rfl
    (fun f fn hf hfn => by
      obtain rfl : f = 3 := Option.some.inj ((show Tryd.prog.funcNamed "loop.example/g01123/laws.FnExactCountBetween" = some 3 by kernel_rfl).symm.trans hf) |>.symm
      obtain rfl : fn = Tryd.f3 := (Option.some.inj (Tryd.func3.symm.trans hfn)).symm
      exact ⟨by kernel_rfl, fun j t ht => by
        rw [Tryd.params3] at ht
        have hm : t ∈ [22, 22] := by simpa using Array.mem_of_getElem? ht
        have hall : ([22, 22].all fun u => !Tryd.prog.wantsStandIn u) = true := by kernel_rfl
        exact (show Tryd.prog.wantsStandIn t = false by simpa using List.all_eq_true.1 hall t hm)⟩)
    (by kernel_rfl)
end Go.Proofs.YtjkpokpidpampaaDoor.fnExactCountBetween
