/- The law FnExactPowerOf returns true at every input, and writes to nothing that was there Condition: none; every input that can be read. -/
import Derived.Test.YtmkldodkpijfjaaFrame
import Derived.Test.YtmkldodkpijfjaaHead
import Derived.Test.YtmkldodkpijfjaaPoJ
import Derived.Test.YtmkldodkpijfjaaPoT
import Derived.Test.YtmkldodkpijfjaaRtL
namespace Go.Proofs.Ytmkldodkpijfjaa.fnExactPowerOf
open Go.ChangeShapes Go.WideShapes Go.ChangeAt Go.RowKit Go.Deep
open Go.ChangeMaps (open_string shut_string)
set_option linter.unusedVariables false

set_option maxRecDepth 100000 in
set_option maxHeartbeats 1600000 in
theorem walk {w0 : World} (a0 : Option Addr) (len0 cap0 : Nat) (m0 : List (List Int)) (e0 : m0.length = len0) (hl0 : len0 ≤ 9223372036854775807) (hwf0 : WfM m0) (hrow0 : ∀ i, i < m0.length → (gr m0 i).length ≤ 9223372036854775807) (hm0 : MatAt w0 a0 m0) (a1 : Option Addr) (len1 cap1 : Nat) (m1 : List (List Int)) (e1 : m1.length = len1) (hl1 : len1 ≤ 9223372036854775807) (hwf1 : WfM m1) (hrow1 : ∀ i, i < m1.length → (gr m1 i).length ≤ 9223372036854775807) (hm1 : MatAt w0 a1 m1) (w : World) (hw : w0 = w) :
    Calls Try.prog 3 #[.slice a0 len0 cap0, .slice a1 len1 cap1] w fun e w' => e = .returned (.bool true) ∧ Below w.heap.size w w' := by
  subst hw
  subst e0
  have Hwf0 := Lib.hid hwf0
  have Hm0 := Lib.hid hm0
  have Hrow0 := Lib.hid hrow0
  clear hwf0 hm0 hrow0
  subst e1
  have Hwf1 := Lib.hid hwf1
  have Hm1 := Lib.hid hm1
  have Hrow1 := Lib.hid hrow1
  clear hwf1 hm1 hrow1
  go_enter Try.func3, Try.ntmps3
  go_wp2_with fail
  refine (szIntSS_any a0 cap0 m0 1048576 w0 hl0 Hrow0.out (by omega) (by omega) Hm0.out).mono ?_
  rintro e w1 ⟨r0, rfl, hr0a, hr0b, hsm0, rfl⟩
  by_cases hr0 : r0 < 0
  · clear hsm0
    go_wp2
    go_ret
    exact ⟨rfl, Below.refl _ _⟩
  have Hs0 := Lib.hid (hsm0 (by omega))
  clear hsm0
  have hr00 : 0 ≤ r0 := by omega
  go_wp2_with fail
  refine (szIntSS_any a1 cap1 m1 r0 w0 hl1 Hrow1.out (by omega) (by omega) Hm1.out).mono ?_
  rintro e w1 ⟨r1, rfl, hr1a, hr1b, hsm1, rfl⟩
  by_cases hr1 : r1 < 0
  · clear hsm1
    go_wp2
    go_ret
    exact ⟨rfl, Below.refl _ _⟩
  have Hs1 := Lib.hid (hsm1 (by omega))
  clear hsm1
  have hr10 : 0 ≤ r1 := by omega
  have A0 := Lib.hid (Below.refl w0.heap.size w0)
  go_wp2_with fail
  refine (toIntSS_any a0 cap0 m0 w0 Hs0.out (Hm0.out.below A0.out)).mono ?_
  rintro e u1 ⟨v, rfl, hv, hb⟩
  obtain ⟨y0a, y0c, rfl, y0h1, y0h2, hm⟩ := hv.read
  have y0M := Lib.hid hm
  clear hm
  have A0' := Lib.hid (A0.out.trans (hb.mono A0.out.size))
  clear A0
  have A0 := A0'
  clear A0'
  clear hv hb
  have Y0 := Lib.hid (Below.refl u1.heap.size u1)
  go_wp2_with fail
  refine (toIntSS_any a1 cap1 m1 u1 Hs1.out (Hm1.out.below A0.out)).mono ?_
  rintro e u2 ⟨v, rfl, hv, hb⟩
  obtain ⟨y1a, y1c, rfl, y1h1, y1h2, hm⟩ := hv.read
  have y1M := Lib.hid hm
  clear hm
  have A0' := Lib.hid (A0.out.trans (hb.mono A0.out.size))
  clear A0
  have A0 := A0'
  clear A0'
  have Y0' := Lib.hid (Y0.out.trans (hb.mono Y0.out.size))
  clear Y0
  have Y0 := Y0'
  clear Y0'
  clear hv hb
  have Y1 := Lib.hid (Below.refl u2.heap.size u2)
  go_wp2_with fail
  refine (specPowerOf_any y0a y0c m0 y1a y1c m1 u2 Hs0.out (y0M.out.below Y0.out) Hs1.out (y1M.out.below Y1.out) ).mono ?_
  rintro e u3 ⟨⟨y, b, rfl, hp1⟩, hb⟩
  have P1 := Lib.hid hp1
  have A0' := Lib.hid (A0.out.trans (hb.mono A0.out.size))
  clear A0
  have A0 := A0'
  clear A0'
  have Y0' := Lib.hid (Y0.out.trans (hb.mono Y0.out.size))
  clear Y0
  have Y0 := Y0'
  clear Y0'
  have Y1' := Lib.hid (Y1.out.trans (hb.mono Y1.out.size))
  clear Y1
  have Y1 := Y1'
  clear Y1'
  clear hb hp1
  clear Y0 y0M
  clear Y1 y1M
  go_upto_region 9 with (first | (refine wpList_allocT rfl 25 rfl _ _ Try.info_rt ?_) | (refine wpList_storeT rfl 25 _ _ rfl (rtA y) (rtA (0, 0)) u3.heap.size rfl rfl rfl (Try.size_rt _) (rt_same _ _) (rt_one _) ?_))
  generalize hW : World.alloc u3 _ = u4
  obtain ⟨gw, hgw⟩ : ∃ gw, gw = u3.heap.size := ⟨_, rfl⟩
  have hL : RtAt u4 gw y := by rw [← hW, hgw]; exact RtAt.new _ _
  have hb : Below u3.heap.size u3 u4 := by rw [← hW]; exact (Below.refl _ _).alloc (Nat.le_refl _) _
  rw [← hgw]
  have A0' := Lib.hid (A0.out.trans (hb.mono A0.out.size))
  clear A0
  have A0 := A0'
  clear A0'
  have Hgw := Lib.hid hL
  clear hL hb hW hgw
  have Bgw := Lib.hid (Below.refl u4.heap.size u4)
  go_wp2_with fail
  refine (toIntSS_any a0 cap0 m0 u4 Hs0.out (Hm0.out.below A0.out)).mono ?_
  rintro e u5 ⟨v, rfl, hv, hb⟩
  obtain ⟨x0a, x0c, rfl, x0h1, x0h2, hm⟩ := hv.read
  have x0M := Lib.hid hm
  clear hm
  have A0' := Lib.hid (A0.out.trans (hb.mono A0.out.size))
  clear A0
  have A0 := A0'
  clear A0'
  have Bgw' := Lib.hid (Bgw.out.trans (hb.mono Bgw.out.size))
  clear Bgw
  have Bgw := Bgw'
  clear Bgw'
  clear hv hb
  have X0 := Lib.hid (Below.refl u5.heap.size u5)
  go_wp2_with fail
  refine (toIntSS_any a1 cap1 m1 u5 Hs1.out (Hm1.out.below A0.out)).mono ?_
  rintro e u6 ⟨v, rfl, hv, hb⟩
  obtain ⟨x1a, x1c, rfl, x1h1, x1h2, hm⟩ := hv.read
  have x1M := Lib.hid hm
  clear hm
  have A0' := Lib.hid (A0.out.trans (hb.mono A0.out.size))
  clear A0
  have A0 := A0'
  clear A0'
  have Bgw' := Lib.hid (Bgw.out.trans (hb.mono Bgw.out.size))
  clear Bgw
  have Bgw := Bgw'
  clear Bgw'
  have X0' := Lib.hid (X0.out.trans (hb.mono X0.out.size))
  clear X0
  have X0 := X0'
  clear X0'
  clear hv hb
  have X1 := Lib.hid (Below.refl u6.heap.size u6)
  go_wp2_with fail
  refine (implPowerOf_any x0a x0c m0 x1a x1c m1 u6 Hs0.out Hwf0.out (x0M.out.below X0.out) Hs1.out Hwf1.out (x1M.out.below X1.out) ).mono ?_
  rintro e u7 ⟨⟨y2, b2, rfl, hp2⟩, hb⟩
  obtain ⟨rfl, rfl⟩ := rtres_same P1.out hp2
  have A0' := Lib.hid (A0.out.trans (hb.mono A0.out.size))
  clear A0
  have A0 := A0'
  clear A0'
  have Bgw' := Lib.hid (Bgw.out.trans (hb.mono Bgw.out.size))
  clear Bgw
  have Bgw := Bgw'
  clear Bgw'
  have X0' := Lib.hid (X0.out.trans (hb.mono X0.out.size))
  clear X0
  have X0 := X0'
  clear X0'
  have X1' := Lib.hid (X1.out.trans (hb.mono X1.out.size))
  clear X1
  have X1 := X1'
  clear X1'
  clear hp2 hb P1
  go_upto_region 12 with (first | (refine wpList_allocT rfl 25 rfl _ _ Try.info_rt ?_) | (refine wpList_storeT rfl 25 _ _ rfl (rtA y) (rtA (0, 0)) u7.heap.size rfl rfl rfl (Try.size_rt _) (rt_same _ _) (rt_one _) ?_))
  generalize hW : World.alloc u7 _ = u8
  obtain ⟨gg, hgg⟩ : ∃ gg, gg = u7.heap.size := ⟨_, rfl⟩
  have hL : RtAt u8 gg y := by rw [← hW, hgg]; exact RtAt.new _ _
  have hb : Below u7.heap.size u7 u8 := by rw [← hW]; exact (Below.refl _ _).alloc (Nat.le_refl _) _
  rw [← hgg]
  have A0' := Lib.hid (A0.out.trans (hb.mono A0.out.size))
  clear A0
  have A0 := A0'
  clear A0'
  have Bgw' := Lib.hid (Bgw.out.trans (hb.mono Bgw.out.size))
  clear Bgw
  have Bgw := Bgw'
  clear Bgw'
  have X0' := Lib.hid (X0.out.trans (hb.mono X0.out.size))
  clear X0
  have X0 := X0'
  clear X0'
  have X1' := Lib.hid (X1.out.trans (hb.mono X1.out.size))
  clear X1
  have X1 := X1'
  clear X1'
  have Hgg := Lib.hid hL
  clear hL hb hW hgg
  have Bgg := Lib.hid (Below.refl u8.heap.size u8)
  go_wp2_with (first | (refine wpList_loadG rfl 25 _ rfl gg rfl _ _ (Hgg.out.below Bgg.out) Try.underlying25 rfl (Try.size_rt _) ?_) | (refine wpList_loadG rfl 25 _ rfl gw rfl _ _ (Hgw.out.below Bgw.out) Try.underlying25 rfl (Try.size_rt _) ?_))
  refine (eqRatio_same y u8).mono ?_
  rintro e u9 ⟨rfl, hb⟩
  have A0' := Lib.hid (A0.out.trans (hb.mono A0.out.size))
  clear A0
  have A0 := A0'
  clear A0'
  have Bgw' := Lib.hid (Bgw.out.trans (hb.mono Bgw.out.size))
  clear Bgw
  have Bgw := Bgw'
  clear Bgw'
  have X0' := Lib.hid (X0.out.trans (hb.mono X0.out.size))
  clear X0
  have X0 := X0'
  clear X0'
  have X1' := Lib.hid (X1.out.trans (hb.mono X1.out.size))
  clear X1
  have X1 := X1'
  clear X1'
  have Bgg' := Lib.hid (Bgg.out.trans (hb.mono Bgg.out.size))
  clear Bgg
  have Bgg := Bgg'
  clear Bgg'
  clear hb
  cases b
  all_goals
    go_wp2_with fail
    refine (toIntSS_any a0 cap0 m0 u9 Hs0.out (Hm0.out.below A0.out)).mono ?_
    rintro e u10 ⟨v, rfl, hv, hb⟩
    obtain ⟨z0a, z0c, rfl, z0h1, z0h2, hm⟩ := hv.read
    have z0M := Lib.hid hm
    clear hm
    have A0' := Lib.hid (A0.out.trans (hb.mono A0.out.size))
    clear A0
    have A0 := A0'
    clear A0'
    have Bgw' := Lib.hid (Bgw.out.trans (hb.mono Bgw.out.size))
    clear Bgw
    have Bgw := Bgw'
    clear Bgw'
    have X0' := Lib.hid (X0.out.trans (hb.mono X0.out.size))
    clear X0
    have X0 := X0'
    clear X0'
    have X1' := Lib.hid (X1.out.trans (hb.mono X1.out.size))
    clear X1
    have X1 := X1'
    clear X1'
    have Bgg' := Lib.hid (Bgg.out.trans (hb.mono Bgg.out.size))
    clear Bgg
    have Bgg := Bgg'
    clear Bgg'
    clear hv hb
    go_wp2_with fail
    refine (eqIntSS_same x0a z0a x0c z0c m0 u10 Hs0.out (x0M.out.below X0.out) z0M.out).mono ?_
    rintro e u11 ⟨rfl, hq⟩
    have hb := hq.below u10.heap.size
    have A0' := Lib.hid (A0.out.trans (hb.mono A0.out.size))
    clear A0
    have A0 := A0'
    clear A0'
    have Bgw' := Lib.hid (Bgw.out.trans (hb.mono Bgw.out.size))
    clear Bgw
    have Bgw := Bgw'
    clear Bgw'
    have X0' := Lib.hid (X0.out.trans (hb.mono X0.out.size))
    clear X0
    have X0 := X0'
    clear X0'
    have X1' := Lib.hid (X1.out.trans (hb.mono X1.out.size))
    clear X1
    have X1 := X1'
    clear X1'
    have Bgg' := Lib.hid (Bgg.out.trans (hb.mono Bgg.out.size))
    clear Bgg
    have Bgg := Bgg'
    clear Bgg'
    clear hq hb z0M
    go_wp2_with fail
    refine (toIntSS_any a1 cap1 m1 u11 Hs1.out (Hm1.out.below A0.out)).mono ?_
    rintro e u12 ⟨v, rfl, hv, hb⟩
    obtain ⟨z1a, z1c, rfl, z1h1, z1h2, hm⟩ := hv.read
    have z1M := Lib.hid hm
    clear hm
    have A0' := Lib.hid (A0.out.trans (hb.mono A0.out.size))
    clear A0
    have A0 := A0'
    clear A0'
    have Bgw' := Lib.hid (Bgw.out.trans (hb.mono Bgw.out.size))
    clear Bgw
    have Bgw := Bgw'
    clear Bgw'
    have X0' := Lib.hid (X0.out.trans (hb.mono X0.out.size))
    clear X0
    have X0 := X0'
    clear X0'
    have X1' := Lib.hid (X1.out.trans (hb.mono X1.out.size))
    clear X1
    have X1 := X1'
    clear X1'
    have Bgg' := Lib.hid (Bgg.out.trans (hb.mono Bgg.out.size))
    clear Bgg
    have Bgg := Bgg'
    clear Bgg'
    clear hv hb
    go_wp2_with fail
    refine (eqIntSS_same x1a z1a x1c z1c m1 u12 Hs1.out (x1M.out.below X1.out) z1M.out).mono ?_
    rintro e u13 ⟨rfl, hq⟩
    have hb := hq.below u12.heap.size
    have A0' := Lib.hid (A0.out.trans (hb.mono A0.out.size))
    clear A0
    have A0 := A0'
    clear A0'
    have Bgw' := Lib.hid (Bgw.out.trans (hb.mono Bgw.out.size))
    clear Bgw
    have Bgw := Bgw'
    clear Bgw'
    have X0' := Lib.hid (X0.out.trans (hb.mono X0.out.size))
    clear X0
    have X0 := X0'
    clear X0'
    have X1' := Lib.hid (X1.out.trans (hb.mono X1.out.size))
    clear X1
    have X1 := X1'
    clear X1'
    have Bgg' := Lib.hid (Bgg.out.trans (hb.mono Bgg.out.size))
    clear Bgg
    have Bgg := Bgg'
    clear Bgg'
    clear hq hb z1M
    go_wp2
    go_ret
    exact ⟨rfl, A0.out⟩

set_option maxRecDepth 100000 in
theorem lifted (os : Os) (started : os.Started) (H : Type) (enc : TypeId × Value → H) :
    ReturnsInHanded {} Try.checked os 3 .any (Rows.fnExactPowerOfSpec.pre6 enc Try.prog Try.f3 Rows.fnExactPowerOfRow.domain false) (Rows.fnExactPowerOfSpec.post enc Try.prog Try.f3 false true false false) := by
  refine returnsInHanded_of_change (C := Try.checked) Try.own started (by kernel_rfl) Try.func3
    (ChangeSpec.witness6 (enc := enc) (C := Try.checked) false ⟨#[], #[.slice none 0 0, .slice none 0 0], []⟩ 8 (by kernel_rfl) (by kernel_rfl) (by kernel_rfl) (by kernel_rfl)) ?_
  intro W base args ds gs before hval0 hW hcnd _
  have hval : ∀ (j : Nat) t v, Try.f3.params[j]? = some t → args[j]? = some v → Value.okWide Try.prog W .any base t v := hval0
  have hW' := hW
  obtain ⟨p, q, hA0, hV, rfl, hfz, hnd⟩ := hW
  have hA : DataW.TrodAll enc Try.prog W 0 (fun _ => true) true Try.f3.params.toList args.toList ds p := hA0
  rw [Try.params3] at hA hval
  obtain ⟨v0, vs0, d0, ds0, p0, q0, hargs, rfl, rfl, h0, r0⟩ := trodAll_cons hA
  obtain ⟨v1, vs1, d1, ds1, p1, q1, rfl, rfl, rfl, h1, r1⟩ := trodAll_cons r0
  obtain ⟨rfl, rfl, rfl⟩ := trodAll_nil r1
  obtain rfl : args = #[v0, v1] := by cases args; simp_all
  obtain ⟨rfl, rfl⟩ := trodVars_none hV
  obtain ⟨a0, len0, cap0, rfl⟩ := okWide_slice Try.underlying22 (hval 0 22 v0 rfl rfl)
  have k0 := h0
  have lt0 : ∀ x ∈ p0, x.block < W.heap.size := by obtain ⟨m, hm⟩ := k0; exact DataW.trod_lt m _ _ _ hm
  obtain ⟨m0, e0, f0, g0, y0, x0⟩ := open_mat_arg h0
  obtain ⟨a1, len1, cap1, rfl⟩ := okWide_slice Try.underlying22 (hval 1 22 v1 rfl rfl)
  have k1 := h1
  have lt1 : ∀ x ∈ p1, x.block < W.heap.size := by obtain ⟨m, hm⟩ := k1; exact DataW.trod_lt m _ _ _ hm
  obtain ⟨m1, e1, f1, g1, y1, x1⟩ := open_mat_arg h1
  clear hA0 hval0
  refine (walk a0 len0 cap0 m0 e0 f0 g0 y0 x0 a1 len1 cap1 m1 e1 f1 g1 y1 x1 W rfl).mono fun e W' ⟨he, bel⟩ => ?_
  subst he
  exact ⟨_, rfl, _, _, _, [], _, [], hW', trodAll_mk1 (shut_bool Try.underlying4 _), (trodAll_cons_mk (Below.trod Try.laidOut (by kernel_rfl) (of_decide_eq_true (by kernel_rfl)) k0 bel lt0) (trodAll_cons_mk (Below.trod Try.laidOut (by kernel_rfl) (of_decide_eq_true (by kernel_rfl)) k1 bel lt1) trodAll_mk0)), rfl, bel.frame _, fun h => by cases h⟩

set_option maxRecDepth 100000 in
set_option maxHeartbeats 4000000 in
theorem closed : joinedFacts Try.prog 3 Try.f3 Rows.fnExactPowerOfSpec Rows.fnExactPowerOfRow = true := by
  unfold joinedFacts
  repeat' (with_reducible refine and_i ?_ ?_)
  all_goals first
    | (with_reducible exact may_enter)
    | ((with_reducible refine lifted_ok ?_); rfl)
    | ((with_reducible refine make_ok ?_); rfl)
    | (as_aux_lemma => kernel_rfl)

theorem over : Rows.fnExactPowerOfRow.holds Try.pinned (OpenSpec.ofChange Rows.fnExactPowerOfSpec) :=
  OpenClaim.holds_of_wide 3 Try.f3 rfl rfl rfl rfl rfl rfl rfl ⟨rfl, rfl, rfl, rfl, rfl⟩ rfl rfl rfl rfl rfl (by kernel_rfl) Try.func3 closed
    (of_decide_eq_true (by kernel_rfl)) (by unfold Func.isWrapper; rw [if_neg (of_decide_eq_false (by kernel_rfl))]; exact ⟨rfl, rfl⟩)
    (fun os started H enc _ => lifted os started H enc)

theorem proved : Rows.FnExactPowerOfSaid := over
end Go.Proofs.Ytmkldodkpijfjaa.fnExactPowerOf
