/- The law FnExactLambdaSum returns true at every input, and writes to nothing that was there; the card ties the two tables of the library that its row lists. Condition: the row's listed variables. -/
import Derived.Test.YtmonhmbnbhaemaaDoorK16
namespace Go.Proofs.YtmonhmbnbhaemaaDoor.fnExactLambdaSum
open Go.ChangeShapes Go.WideShapes Go.ChangeAt Go.RowKit Go.Deep
open Go.ChangeMaps (open_string shut_string)
set_option linter.unusedVariables false

set_option maxRecDepth 100000 in
set_option maxHeartbeats 1600000 in
theorem walk {w0 : World} (a0 : Option Addr) (len0 cap0 : Nat) (m0 : List (List Int)) (e0 : m0.length = len0) (hl0 : len0 ≤ 9223372036854775807) (hwf0 : WfM m0) (hrow0 : ∀ i, i < m0.length → (gr m0 i).length ≤ 9223372036854775807) (hm0 : MatAt w0 a0 m0) (z1 : Int) (hz1 : -9223372036854775808 ≤ z1 ∧ z1 ≤ 9223372036854775807) (w : World) (hw : w0 = w) (hD : Dj w0) :
    Calls Tryd.prog 3 #[.slice a0 len0 cap0, .int .i64 z1] w fun e w' => e = .returned (.bool true) ∧ Below w.heap.size w w' := by
  subst hw
  have HD := Lib.hid hD
  clear hD
  subst e0
  have Hwf0 := Lib.hid hwf0
  have Hm0 := Lib.hid hm0
  have Hrow0 := Lib.hid hrow0
  clear hwf0 hm0 hrow0
  have Hz1 := Lib.hid hz1
  clear hz1
  go_enter Tryd.func3, Tryd.ntmps3
  go_wp2_with fail
  refine (szIntSS_any a0 cap0 m0 1048576 w0 hl0 Hrow0.out (by omega) (by omega) Hm0.out).mono ?_
  rintro e w1 ⟨r0, rfl, hr0a, hr0b, hsm0, rfl⟩
  by_cases hr0 : r0 < 0
  · clear hsm0
    go_wp2
    go_ret
    exact ⟨rfl, Below.refl _ _⟩
  have Hs0 := Lib.hid (hsm0 (by omega))
  clear hsm0
  have hr00 : 0 ≤ r0 := by omega
  have A0 := Lib.hid (Below.refl w0.heap.size w0)
  go_wp2_with fail
  refine (toIntSS_any a0 cap0 m0 w0 Hs0.out (Hm0.out.below A0.out)).mono ?_
  rintro e u1 ⟨v, rfl, hv, hb⟩
  obtain ⟨y0a, y0c, rfl, y0h1, y0h2, hm⟩ := hv.read
  have y0M := Lib.hid hm
  clear hm
  have A0' := Lib.hid (A0.out.trans (hb.mono A0.out.size))
  clear A0
  have A0 := A0'
  clear A0'
  clear hv hb
  have Y0 := Lib.hid (Below.refl u1.heap.size u1)
  go_wp2_with fail
  refine (specLambdaSum_any y0a y0c m0 z1 u1 Hs0.out (y0M.out.below Y0.out) Hz1.out ).mono ?_
  rintro e u2 ⟨⟨y, b, rfl, hp1⟩, hb⟩
  have P1 := Lib.hid hp1
  have A0' := Lib.hid (A0.out.trans (hb.mono A0.out.size))
  clear A0
  have A0 := A0'
  clear A0'
  have Y0' := Lib.hid (Y0.out.trans (hb.mono Y0.out.size))
  clear Y0
  have Y0 := Y0'
  clear Y0'
  clear hb hp1
  clear Y0 y0M
  go_upto_region 6 with (first | (refine wpList_allocT rfl 25 rfl _ _ Tryd.info_rt ?_) | (refine wpList_storeT rfl 25 _ _ rfl (rtA y) (rtA (0, 0)) u2.heap.size rfl rfl rfl (Tryd.size_rt _) (rt_same _ _) (rt_one _) ?_))
  generalize hW : World.alloc u2 _ = u3
  obtain ⟨gw, hgw⟩ : ∃ gw, gw = u2.heap.size := ⟨_, rfl⟩
  have hL : RtAt u3 gw y := by rw [← hW, hgw]; exact RtAt.new _ _
  have hb : Below u2.heap.size u2 u3 := by rw [← hW]; exact (Below.refl _ _).alloc (Nat.le_refl _) _
  rw [← hgw]
  have A0' := Lib.hid (A0.out.trans (hb.mono A0.out.size))
  clear A0
  have A0 := A0'
  clear A0'
  have Hgw := Lib.hid hL
  clear hL hb hW hgw
  have Bgw := Lib.hid (Below.refl u3.heap.size u3)
  go_wp2_with fail
  refine (toIntSS_any a0 cap0 m0 u3 Hs0.out (Hm0.out.below A0.out)).mono ?_
  rintro e u4 ⟨v, rfl, hv, hb⟩
  obtain ⟨x0a, x0c, rfl, x0h1, x0h2, hm⟩ := hv.read
  have x0M := Lib.hid hm
  clear hm
  have A0' := Lib.hid (A0.out.trans (hb.mono A0.out.size))
  clear A0
  have A0 := A0'
  clear A0'
  have Bgw' := Lib.hid (Bgw.out.trans (hb.mono Bgw.out.size))
  clear Bgw
  have Bgw := Bgw'
  clear Bgw'
  clear hv hb
  have X0 := Lib.hid (Below.refl u4.heap.size u4)
  go_wp2_with fail
  refine (implLambdaSum_any x0a x0c m0 z1 u4 Hs0.out Hwf0.out (x0M.out.below X0.out) Hz1.out (HD.out.next A0.out) ).mono ?_
  rintro e u5 ⟨⟨y2, b2, rfl, hp2⟩, hb⟩
  obtain ⟨rfl, rfl⟩ := rtres_same P1.out hp2
  have A0' := Lib.hid (A0.out.trans (hb.mono A0.out.size))
  clear A0
  have A0 := A0'
  clear A0'
  have Bgw' := Lib.hid (Bgw.out.trans (hb.mono Bgw.out.size))
  clear Bgw
  have Bgw := Bgw'
  clear Bgw'
  have X0' := Lib.hid (X0.out.trans (hb.mono X0.out.size))
  clear X0
  have X0 := X0'
  clear X0'
  clear hp2 hb P1
  go_upto_region 8 with (first | (refine wpList_allocT rfl 25 rfl _ _ Tryd.info_rt ?_) | (refine wpList_storeT rfl 25 _ _ rfl (rtA y) (rtA (0, 0)) u5.heap.size rfl rfl rfl (Tryd.size_rt _) (rt_same _ _) (rt_one _) ?_))
  generalize hW : World.alloc u5 _ = u6
  obtain ⟨gg, hgg⟩ : ∃ gg, gg = u5.heap.size := ⟨_, rfl⟩
  have hL : RtAt u6 gg y := by rw [← hW, hgg]; exact RtAt.new _ _
  have hb : Below u5.heap.size u5 u6 := by rw [← hW]; exact (Below.refl _ _).alloc (Nat.le_refl _) _
  rw [← hgg]
  have A0' := Lib.hid (A0.out.trans (hb.mono A0.out.size))
  clear A0
  have A0 := A0'
  clear A0'
  have Bgw' := Lib.hid (Bgw.out.trans (hb.mono Bgw.out.size))
  clear Bgw
  have Bgw := Bgw'
  clear Bgw'
  have X0' := Lib.hid (X0.out.trans (hb.mono X0.out.size))
  clear X0
  have X0 := X0'
  clear X0'
  have Hgg := Lib.hid hL
  clear hL hb hW hgg
  have Bgg := Lib.hid (Below.refl u6.heap.size u6)
  go_wp2_with (first | (refine wpList_loadG rfl 25 _ rfl gg rfl _ _ (Hgg.out.below Bgg.out) Tryd.underlying25 rfl (Tryd.size_rt _) ?_) | (refine wpList_loadG rfl 25 _ rfl gw rfl _ _ (Hgw.out.below Bgw.out) Tryd.underlying25 rfl (Tryd.size_rt _) ?_))
  refine (eqRatio_same y u6).mono ?_
  rintro e u7 ⟨rfl, hb⟩
  have A0' := Lib.hid (A0.out.trans (hb.mono A0.out.size))
  clear A0
  have A0 := A0'
  clear A0'
  have Bgw' := Lib.hid (Bgw.out.trans (hb.mono Bgw.out.size))
  clear Bgw
  have Bgw := Bgw'
  clear Bgw'
  have X0' := Lib.hid (X0.out.trans (hb.mono X0.out.size))
  clear X0
  have X0 := X0'
  clear X0'
  have Bgg' := Lib.hid (Bgg.out.trans (hb.mono Bgg.out.size))
  clear Bgg
  have Bgg := Bgg'
  clear Bgg'
  clear hb
  cases b
  all_goals
    go_wp2_with fail
    refine (toIntSS_any a0 cap0 m0 u7 Hs0.out (Hm0.out.below A0.out)).mono ?_
    rintro e u8 ⟨v, rfl, hv, hb⟩
    obtain ⟨z0a, z0c, rfl, z0h1, z0h2, hm⟩ := hv.read
    have z0M := Lib.hid hm
    clear hm
    have A0' := Lib.hid (A0.out.trans (hb.mono A0.out.size))
    clear A0
    have A0 := A0'
    clear A0'
    have Bgw' := Lib.hid (Bgw.out.trans (hb.mono Bgw.out.size))
    clear Bgw
    have Bgw := Bgw'
    clear Bgw'
    have X0' := Lib.hid (X0.out.trans (hb.mono X0.out.size))
    clear X0
    have X0 := X0'
    clear X0'
    have Bgg' := Lib.hid (Bgg.out.trans (hb.mono Bgg.out.size))
    clear Bgg
    have Bgg := Bgg'
    clear Bgg'
    clear hv hb
    go_wp2_with fail
    refine (eqIntSS_same x0a z0a x0c z0c m0 u8 Hs0.out (x0M.out.below X0.out) z0M.out).mono ?_
    rintro e u9 ⟨rfl, hq⟩
    have hb := hq.below u8.heap.size
    have A0' := Lib.hid (A0.out.trans (hb.mono A0.out.size))
    clear A0
    have A0 := A0'
    clear A0'
    have Bgw' := Lib.hid (Bgw.out.trans (hb.mono Bgw.out.size))
    clear Bgw
    have Bgw := Bgw'
    clear Bgw'
    have X0' := Lib.hid (X0.out.trans (hb.mono X0.out.size))
    clear X0
    have X0 := X0'
    clear X0'
    have Bgg' := Lib.hid (Bgg.out.trans (hb.mono Bgg.out.size))
    clear Bgg
    have Bgg := Bgg'
    clear Bgg'
    clear hq hb z0M
    go_wp2
    go_ret
    exact ⟨rfl, A0.out⟩

set_option maxRecDepth 100000 in
theorem run {H : Type} {enc : TypeId × Value → H} (W : World) (base : Nat) (args : Array Value) (ds gs : List (DataW H)) (before : List MemPlace)
    (hval : ∀ (j : Nat) t v, Tryd.f3.params[j]? = some t → args[j]? = some v → Value.okWide Tryd.prog W .any base t v)
    (hW : DataW.Whole enc Tryd.prog Tryd.f3.params.toList Rows.fnExactLambdaSumSpec.vars false W args.toList ds gs before) (hD : Dj W) :
    Calls Tryd.prog 3 args W fun e W' => ∃ v, e = .returned v ∧ Rows.fnExactLambdaSumSpec.post enc Tryd.prog Tryd.f3 false true false false W args v W' := by
  have hW' := hW
  obtain ⟨p, q, hA0, hV, rfl, hfz, hnd⟩ := hW
  have hA : DataW.TrodAll enc Tryd.prog W 0 (fun _ => true) true Tryd.f3.params.toList args.toList ds p := hA0
  rw [Tryd.params3] at hA hval
  obtain ⟨v0, vs0, d0, ds0, p0, q0, hargs, rfl, rfl, h0, r0⟩ := trodAll_cons hA
  obtain ⟨v1, vs1, d1, ds1, p1, q1, rfl, rfl, rfl, h1, r1⟩ := trodAll_cons r0
  obtain ⟨rfl, rfl, rfl⟩ := trodAll_nil r1
  obtain rfl : args = #[v0, v1] := by cases args; simp_all
  obtain ⟨rfl, rfl⟩ := trodVars_none hV
  obtain ⟨a0, len0, cap0, rfl⟩ := okWide_slice Tryd.underlying22 (hval 0 22 v0 rfl rfl)
  have k0 := h0
  have lt0 : ∀ x ∈ p0, x.block < W.heap.size := by obtain ⟨m, hm⟩ := k0; exact DataW.trod_lt m _ _ _ hm
  obtain ⟨m0, e0, f0, g0, y0, x0⟩ := open_mat_arg h0
  obtain ⟨a1, rfl, rfl, rfl, w1⟩ := open_int Tryd.underlying3 (hval 1 3 v1 rfl rfl) h1
  clear hA0
  refine (walk a0 len0 cap0 m0 e0 f0 g0 y0 x0 a1 (bounds_i64 w1) W rfl hD).mono fun e W' ⟨he, bel⟩ => ?_
  subst he
  exact ⟨_, rfl, _, _, _, [], _, [], hW', trodAll_mk1 (shut_bool Tryd.underlying4 _), (trodAll_cons_mk (Below.trod Tryd.laidOut (by kernel_rfl) (of_decide_eq_true (by kernel_rfl)) k0 bel lt0) (trodAll_cons_mk (shut_int Tryd.underlying3 w1) trodAll_mk0)), rfl, bel.frame _, fun h => by cases h⟩

set_option maxRecDepth 100000 in
theorem lifted (os : Os) (started : os.Started) (H : Type) (enc : TypeId × Value → H) :
    ReturnsInHanded {} Tryd.checked os 3 .any (fun w args => (Rows.fnExactLambdaSumSpec.pre enc Tryd.prog Tryd.f3 [] false w args ∧ laidMetH Tryd.prog Rows.fnExactLambdaSumRow.laid w) ∧ sizedMet enc Tryd.prog Tryd.f3 (OpenSpec.ofChange Rows.fnExactLambdaSumSpec) false w args)
      (Rows.fnExactLambdaSumSpec.post enc Tryd.prog Tryd.f3 false true false false) := by
  refine returnsInHanded_of_calls Tryd.own started (by kernel_rfl)
    (ChangeSpec.witness_shaped (enc := enc) (C := Tryd.checked) (os := os) (X := fun w _ => laidMetH Tryd.prog Rows.fnExactLambdaSumRow.laid w) false (World.laidAll Tryd.prog os Rows.fnExactLambdaSumRow.laid) #[.slice none 0 0, .int .i64 0] 8 (World.laidAll_os _ _ _)
      (World.shaped_of_ZipB (by kernel_rfl) (by kernel_rfl)) (by kernel_rfl) (by kernel_rfl) (by kernel_rfl)
      (by rw [MakeChecks.laidMetH_plain _ _ _ (by kernel_rfl)]; exact laidMet_laidAll _ (by kernel_rfl) (by kernel_rfl))) ?_
  intro w tape i _ _ _ hok hpre _
  obtain ⟨_, _, _, fn', hfn', _, _, _, _, hval⟩ := hok
  obtain rfl : fn' = Tryd.f3 := Option.some.inj (hfn'.symm.trans Tryd.func3)
  obtain ⟨⟨⟨ds, gs, before, hw, _⟩, hlaid⟩, _⟩ := hpre
  have hW := DataW.Whole.of_heap (w' := w.forCall tape i) (by rfl) hw
  have hL : laidMetH Tryd.prog laid2 (w.forCall tape i) := hlaid.of_heap (by rfl)
  refine (run (w.forCall tape i) w.heap.size i.args ds gs before hval hW (dj_of_laid hL)).mono fun e W' ⟨v, he, hp⟩ => ?_
  subst he
  exact ChangeSpec.post_blind hp

theorem over : Rows.fnExactLambdaSumRow.holds Tryd.pinned (OpenSpec.ofChange Rows.fnExactLambdaSumSpec) :=
  OpenClaim.holds_of_wide 3 Tryd.f3 rfl rfl rfl rfl rfl rfl rfl ⟨rfl, rfl, rfl, rfl, rfl⟩ rfl rfl rfl rfl rfl (by kernel_rfl) Tryd.func3 (by kernel_rfl)
    (of_decide_eq_true (by kernel_rfl)) (by unfold Func.isWrapper; rw [if_neg (of_decide_eq_false (by kernel_rfl))]; exact ⟨rfl, rfl⟩)
    (fun os started H enc _ => lifted os started H enc)

theorem proved : Rows.FnExactLambdaSumCardSaid :=
  Claim7.holds_tied_plain_at .later [] Rows.fnExactLambdaSumCard.laidKinds true Rows.fnExactLambdaSumCard.stood.harness false over (fun _ h => by cases h) (by kernel_rfl) (fun _ h => by cases h) fnExactLambdaSum_row_tie rfl ⟨rfl, rfl⟩ (by kernel_rfl) rfl
    (fun f fn hf hfn => by
      obtain rfl : f = 3 := Option.some.inj ((show Tryd.prog.funcNamed "loop.example/g01123/laws.FnExactLambdaSum" = some 3 by kernel_rfl).symm.trans hf) |>.symm
      obtain rfl : fn = Tryd.f3 := (Option.some.inj (Tryd.func3.symm.trans hfn)).symm
      exact ⟨by kernel_rfl, fun j t ht => by
        rw [Tryd.params3] at ht
        have hm : t ∈ [22, 3] := by simpa using Array.mem_of_getElem? ht
        have hall : ([22, 3].all fun u => !Tryd.prog.wantsStandIn u) = true := by kernel_rfl
        exact (show Tryd.prog.wantsStandIn t = false by simpa using List.all_eq_true.1 hall t hm)⟩)
    (by kernel_rfl)
end Go.Proofs.YtmonhmbnbhaemaaDoor.fnExactLambdaSum
