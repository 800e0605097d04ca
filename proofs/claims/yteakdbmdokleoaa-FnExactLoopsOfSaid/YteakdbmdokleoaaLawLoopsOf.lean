/- The law FnExactLoopsOf returns true at every input, and writes to nothing that was there Condition: none; every input that can be read. -/
import Derived.Test.YteakdbmdokleoaaFrame
import Derived.Test.YteakdbmdokleoaaHead
import Derived.Test.YteakdbmdokleoaaLoopT
namespace Go.Proofs.Yteakdbmdokleoaa.fnExactLoopsOf
open Go.ChangeShapes Go.WideShapes Go.ChangeAt Go.RowKit Go.Deep
open Go.ChangeMaps (open_string shut_string)
set_option linter.unusedVariables false

set_option maxRecDepth 100000 in
set_option maxHeartbeats 3200000 in
theorem walk {w0 : World} (a0 : Option Addr) (len0 cap0 : Nat) (m0 : List (List Int)) (e0 : m0.length = len0) (hl0 : len0 ≤ 9223372036854775807) (hwf0 : WfM m0) (hrow0 : ∀ i, i < m0.length → (gr m0 i).length ≤ 9223372036854775807) (hm0 : MatAt w0 a0 m0) (w : World) (hw : w0 = w) :
    Calls Try.prog 3 #[.slice a0 len0 cap0] w fun e w' => e = .returned (.bool true) ∧ Below w.heap.size w w' := by
  subst hw
  subst e0
  have Hwf0 := Lib.hid hwf0
  have Hm0 := Lib.hid hm0
  have Hrow0 := Lib.hid hrow0
  clear hwf0 hm0 hrow0
  go_enter Try.func3, Try.ntmps3
  go_wp2_with fail
  refine (szIntSS_any a0 cap0 m0 1048576 w0 hl0 Hrow0.out (by omega) (by omega) Hm0.out).mono ?_
  rintro e w1 ⟨r0, rfl, hr0a, hr0b, hsm0, rfl⟩
  by_cases hr0 : r0 < 0
  · clear hsm0
    go_wp2
    go_ret
    exact ⟨rfl, Below.refl _ _⟩
  have Hs0 := Lib.hid (hsm0 (by omega))
  clear hsm0
  have hr00 : 0 ≤ r0 := by omega
  have A0 := Lib.hid (Below.refl w0.heap.size w0)
  go_wp2_with fail
  refine (toIntSS_any a0 cap0 m0 w0 Hs0.out (Hm0.out.below A0.out)).mono ?_
  rintro e u1 ⟨v, rfl, hv, hb⟩
  obtain ⟨ya, yc, rfl, yh1, yh2, hm⟩ := hv.read
  have A0' := Lib.hid (A0.out.trans (hb.mono A0.out.size))
  clear A0
  have A0 := A0'
  clear A0'
  have yM := Lib.hid hm
  clear hm hv hb
  go_wp2_with fail
  refine (specLoopsOf_any ya yc m0 u1 Hs0.out yM.out).mono ?_
  rintro e u2 ⟨⟨k, raA, raD, rcA, rcD, b, rA, rD, rfl, hA, hD, hr⟩, hb⟩
  clear yM
  have A0' := Lib.hid (A0.out.trans (hb.mono A0.out.size))
  clear A0
  have A0 := A0'
  clear A0'
  have HRA := Lib.hid hA
  have HRD := Lib.hid hD
  have HR := Lib.hid hr
  have hsA : Small rA := by
    rcases hr with ⟨hp, _, _, rfl, _⟩ | ⟨_, _, _, rfl, _⟩
    · exact acrT_small hp
    · exact ⟨by simp, fun i hi => absurd hi (by simp)⟩
  have hsD : Small rD := by
    rcases hr with ⟨hp, _, _, _, rfl⟩ | ⟨_, _, _, _, rfl⟩
    · exact dwnT_small hp
    · exact ⟨by simp, fun i hi => absurd hi (by simp)⟩
  have HSA := Lib.hid hsA
  have HSD := Lib.hid hsD
  have hT1 := tot_big hsA (Nat.le_refl _)
  have hT2 := tot_big hsD (Nat.le_refl _)
  have hkk : ((k : Int) != (k : Int)) = false := by simp
  clear hA hD hr hb hsA hsD
  go_upto_region 6 with (first | (refine wpList_allocT rfl 25 rfl _ _ Try.info_loops ?_) | (refine wpList_storeT rfl 25 _ _ rfl (lp k (.slice raA rA.length rcA) (.slice raD rD.length rcD)) (lp 0 nilS nilS) u2.heap.size rfl rfl rfl (Try.size_loops _ _ _) rfl (lp_one _ _ _ _ _ _ _) ?_))
  generalize hW : World.alloc u2 _ = u3
  obtain ⟨gw, hgw⟩ : ∃ gw, gw = u2.heap.size := ⟨_, rfl⟩
  have hL : LpAt u3 gw k (.slice raA rA.length rcA) (.slice raD rD.length rcD) := by rw [← hW, hgw]; exact lp_new _ _ _ _
  have hb : Below u2.heap.size u2 u3 := by rw [← hW]; exact (Below.refl _ _).alloc (Nat.le_refl _) _
  rw [← hgw]
  have A0' := Lib.hid (A0.out.trans (hb.mono A0.out.size))
  clear A0
  have A0 := A0'
  clear A0'
  have HRA' := Lib.hid (HRA.out.below hb)
  clear HRA
  have HRA := HRA'
  clear HRA'
  have HRD' := Lib.hid (HRD.out.below hb)
  clear HRD
  have HRD := HRD'
  clear HRD'
  have GW := Lib.hid hL
  have Zgw := Lib.hid hgw
  clear hL hb hW hgw
  have AS := Lib.hid (Below.refl u3.heap.size u3)
  have S0 := Lib.hid A0.out.size
  have Zl := Lib.hid GW.out.lt
  go_wp2_with fail
  refine (toIntSS_any a0 cap0 m0 u3 Hs0.out (Hm0.out.below A0.out)).mono ?_
  rintro e u4 ⟨v, rfl, hv, hb⟩
  obtain ⟨xa, xc, xvs, rfl, hp, xh1, xh2⟩ := hv.open
  have A0' := Lib.hid (A0.out.trans (hb.mono A0.out.size))
  clear A0
  have A0 := A0'
  clear A0'
  have AS' := Lib.hid (AS.out.trans (hb.mono AS.out.size))
  clear AS
  have AS := AS'
  clear AS'
  have xP := Lib.hid hp
  clear hp hv hb
  have hspan : ∀ g, (∃ i, i < m0.length ∧ (xvs.getD i undef).ownBlock = some g) → u3.heap.size ≤ g ∧ g < u4.heap.size := fun g hg => xP.out.span hg
  have SP := Lib.hid hspan
  clear hspan
  have SG := Lib.hid AS.out.size
  go_wp2_with fail
  refine (implLoopsOf_any xa xc m0 u4 Hs0.out Hwf0.out (xP.out.at rfl)).mono ?_
  rintro e u5 ⟨⟨k2, gaA, gaD, gcA, gcD, b2, rA2, rD2, H, vsA, vsD, rfl, hO, hr⟩, hb⟩
  have he := lpres_same HR.out hr
  obtain ⟨rfl, rfl, rfl, rfl⟩ := he
  clear hr
  have A0' := Lib.hid (A0.out.trans (hb.mono A0.out.size))
  clear A0
  have A0 := A0'
  clear A0'
  have AS' := Lib.hid (AS.out.trans (hb.mono AS.out.size))
  clear AS
  have AS := AS'
  clear AS'
  have xP' := Lib.hid (xP.out.below hb)
  clear xP
  have xP := xP'
  clear xP'
  have SI := Lib.hid hb.size
  have GO := Lib.hid hO
  clear hO hb
  have hgs : ∀ g, blk2 rA2 rD2 vsA vsD g → u4.heap.size ≤ g ∧ g < u5.heap.size := fun g hg => GO.out.span hg
  have GS := Lib.hid hgs
  clear hgs
  go_upto_region 8 with (first | (refine wpList_allocT rfl 25 rfl _ _ Try.info_loops ?_) | (refine wpList_storeT rfl 25 _ _ rfl (lp k2 (.slice gaA rA2.length gcA) (.slice gaD rD2.length gcD)) (lp 0 nilS nilS) u5.heap.size rfl rfl rfl (Try.size_loops _ _ _) rfl (lp_one _ _ _ _ _ _ _) ?_))
  generalize hW : World.alloc u5 _ = u6
  obtain ⟨gg, hgg⟩ : ∃ gg, gg = u5.heap.size := ⟨_, rfl⟩
  have hL : LpAt u6 gg k2 (.slice gaA rA2.length gcA) (.slice gaD rD2.length gcD) := by rw [← hW, hgg]; exact lp_new _ _ _ _
  have hb : Below u5.heap.size u5 u6 := by rw [← hW]; exact (Below.refl _ _).alloc (Nat.le_refl _) _
  rw [← hgg]
  have A0' := Lib.hid (A0.out.trans (hb.mono A0.out.size))
  clear A0
  have A0 := A0'
  clear A0'
  have AS' := Lib.hid (AS.out.trans (hb.mono AS.out.size))
  clear AS
  have AS := AS'
  clear AS'
  have xP' := Lib.hid (xP.out.below hb)
  clear xP
  have xP := xP'
  clear xP'
  have GO' := Lib.hid (GO.out.below hb)
  clear GO
  have GO := GO'
  clear GO'
  have GG := Lib.hid hL
  have Zgg := Lib.hid hgg
  clear hL hb hW hgg
  have Zgs := Lib.hid (show u5.heap.size ≤ gg by rw [Zgg.out]; exact Nat.le_refl _)
  have Zgx := Lib.hid (show u4.heap.size ≤ gg from Nat.le_trans SI.out Zgs.out)
  have hne : ((1 + (tot rA2 rA2.length : Int) + (tot rD2 rD2.length : Int)) != (1 + (tot rA2 rA2.length : Int) + (tot rD2 rD2.length : Int))) = false := by simp
  obtain ⟨bb, hbb⟩ : ∃ bb, bb = b2 := ⟨_, rfl⟩
  have HBB := Lib.hid hbb
  have HRB := HR.out
  rw [← hbb] at HRB
  have HR2 := Lib.hid HRB
  clear hbb HRB HR
  cases b2
  all_goals
    go_wp2_with (first | (refine wpList_loadG rfl 25 _ rfl gg rfl _ _ GG.out Try.underlying25 rfl (Try.size_loops _ _ _) ?_) | (refine wpList_loadG rfl 25 _ rfl gw rfl _ _ (GW.out.below AS.out) Try.underlying25 rfl (Try.size_loops _ _ _) ?_))
    refine (eqLoops_same (k2 : Int) gaA raA gaD raD gcA rcA gcD rcD rA2 rD2 u6 HSA.out HSD.out (GO.out.A.at rfl) (GO.out.D.at rfl) (HRA.out.below AS.out) (HRD.out.below AS.out)).mono ?_
    rintro e u7 ⟨rfl, hb⟩
    have A0' := Lib.hid (A0.out.trans (hb.mono A0.out.size))
    clear A0
    have A0 := A0'
    clear A0'
    have AS' := Lib.hid (AS.out.trans (hb.mono AS.out.size))
    clear AS
    have AS := AS'
    clear AS'
    have xP' := Lib.hid (xP.out.below hb)
    clear xP
    have xP := xP'
    clear xP'
    have GO' := Lib.hid (GO.out.below hb)
    clear GO
    have GO := GO'
    clear GO'
    have GG' := Lib.hid (GG.out.below hb)
    clear GG
    have GG := GG'
    clear GG'
    clear hb
    go_wp2_with fail
    refine (toIntSS_any a0 cap0 m0 u7 Hs0.out (Hm0.out.below A0.out)).mono ?_
    rintro e u8 ⟨v, rfl, hv, hb⟩
    obtain ⟨za, zc, rfl, zh1, zh2, hm⟩ := hv.read
    have A0' := Lib.hid (A0.out.trans (hb.mono A0.out.size))
    clear A0
    have A0 := A0'
    clear A0'
    have AS' := Lib.hid (AS.out.trans (hb.mono AS.out.size))
    clear AS
    have AS := AS'
    clear AS'
    have xP' := Lib.hid (xP.out.below hb)
    clear xP
    have xP := xP'
    clear xP'
    have GO' := Lib.hid (GO.out.below hb)
    clear GO
    have GO := GO'
    clear GO'
    have GG' := Lib.hid (GG.out.below hb)
    clear GG
    have GG := GG'
    clear GG'
    have zM := Lib.hid hm
    clear hm hv hb
    go_wp2_with fail
    refine (eqIntSS_same xa za xc zc m0 u8 Hs0.out (xP.out.at rfl) zM.out).mono ?_
    rintro e u9 ⟨rfl, hq⟩
    have hb := hq.below u8.heap.size
    clear zM
    have A0' := Lib.hid (A0.out.trans (hb.mono A0.out.size))
    clear A0
    have A0 := A0'
    clear A0'
    have AS' := Lib.hid (AS.out.trans (hb.mono AS.out.size))
    clear AS
    have AS := AS'
    clear AS'
    have xP' := Lib.hid (xP.out.below hb)
    clear xP
    have xP := xP'
    clear xP'
    have GO' := Lib.hid (GO.out.below hb)
    clear GO
    have GO := GO'
    clear GO'
    have GG' := Lib.hid (GG.out.below hb)
    clear GG
    have GG := GG'
    clear GG'
    clear hq hb
    go_wp2_with fail
    have HT0 := tot_big Hs0.out (Nat.le_refl _)
    refine (markIntSS_any u3.heap.size xa xc 1 m0 xvs u9 Hs0.out (by omega) (by omega) xP.out).mono ?_
    rintro e u10 ⟨rfl, hp, ho⟩
    have hspan := SP.out
    have hb0 : Below u3.heap.size u9 u10 := ho.below (fun k hk => (hspan k hk).1)
    clear xP
    have A0' := Lib.hid (A0.out.trans (hb0.mono S0.out))
    clear A0
    have A0 := A0'
    clear A0'
    have AS' := Lib.hid (AS.out.trans hb0)
    clear AS
    have AS := AS'
    clear AS'
    have GO' := Lib.hid (GO.out.only ho (fun g hg => (hspan g hg).2))
    clear GO
    have GO := GO'
    clear GO'
    have GG' := Lib.hid (GG.out.only ho (fun hg => absurd (hspan _ hg).2 (Nat.not_lt.mpr Zgx.out)))
    clear GG
    have GG := GG'
    clear GG'
    clear hp ho hspan hb0
    go_wp2_with (first | (refine wpList_loadY (by rfl) 25 _ rfl gg rfl _ _ GG.out Try.underlying25 rfl (Try.size_loops _ _ _) ?_) | (refine wpList_loadY (by rfl) 25 _ rfl gw rfl _ _ (GW.out.below AS.out) Try.underlying25 rfl (Try.size_loops _ _ _) ?_))
    refine (eqLoops_same (k2 : Int) gaA raA gaD raD gcA rcA gcD rcD rA2 rD2 u10 HSA.out HSD.out (GO.out.A.at rfl) (GO.out.D.at rfl) (HRA.out.below AS.out) (HRD.out.below AS.out)).mono ?_
    rintro e u11 ⟨rfl, hb⟩
    have A0' := Lib.hid (A0.out.trans (hb.mono A0.out.size))
    clear A0
    have A0 := A0'
    clear A0'
    have AS' := Lib.hid (AS.out.trans (hb.mono AS.out.size))
    clear AS
    have AS := AS'
    clear AS'
    have GO' := Lib.hid (GO.out.below hb)
    clear GO
    have GO := GO'
    clear GO'
    have GG' := Lib.hid (GG.out.below hb)
    clear GG
    have GG := GG'
    clear GG'
    clear hb
    go_wp2_with (first | (refine wpList_loadG rfl 25 _ rfl gg rfl _ _ GG.out Try.underlying25 rfl (Try.size_loops _ _ _) ?_))
    refine (markLoops_any u4.heap.size H (k2 : Int) gaA gaD gcA gcD rA2 rD2 vsA vsD u11 HSA.out HSD.out GO.out).mono ?_
    rintro e u13 ⟨rfl, hA, hD, u12, hb, ho⟩
    clear GO
    have A0' := Lib.hid (A0.out.trans (hb.mono A0.out.size))
    clear A0
    have A0 := A0'
    clear A0'
    have AS' := Lib.hid (AS.out.trans (hb.mono AS.out.size))
    clear AS
    have AS := AS'
    clear AS'
    have GG' := Lib.hid (GG.out.below hb)
    clear GG
    have GG := GG'
    clear GG'
    have hgs := GS.out
    have hb0 : Below u3.heap.size u12 u13 := ho.below (fun k hk => Nat.le_trans SG.out (hgs k hk).1)
    have A0' := Lib.hid (A0.out.trans (hb0.mono S0.out))
    clear A0
    have A0 := A0'
    clear A0'
    have AS' := Lib.hid (AS.out.trans hb0)
    clear AS
    have AS := AS'
    clear AS'
    have GG' := Lib.hid (GG.out.only ho (fun hg => absurd (hgs _ hg).2 (Nat.not_lt.mpr Zgs.out)))
    clear GG
    have GG := GG'
    clear GG'
    have GA := Lib.hid hA
    have GD := Lib.hid hD
    clear hA hD hb hb0 ho hgs
    go_wp2_with (first | (refine wpList_loadG rfl 25 _ rfl gg rfl _ _ GG.out Try.underlying25 rfl (Try.size_loops _ _ _) ?_))
    refine (heldLoops_yes (k2 : Int) gaA gaD gcA gcD rA2 rD2 u13 HSA.out HSD.out GA.out GD.out).mono ?_
    rintro e u14 ⟨rfl, hb⟩
    have A0' := Lib.hid (A0.out.trans (hb.mono A0.out.size))
    clear A0
    have A0 := A0'
    clear A0'
    have AS' := Lib.hid (AS.out.trans (hb.mono AS.out.size))
    clear AS
    have AS := AS'
    clear AS'
    have GG' := Lib.hid (GG.out.below hb)
    clear GG
    have GG := GG'
    clear GG'
    have GA' := Lib.hid (GA.out.below hb)
    clear GA
    have GA := GA'
    clear GA'
    have GD' := Lib.hid (GD.out.below hb)
    clear GD
    have GD := GD'
    clear GD'
    clear hb
    go_wp2_with fail
    refine (toIntSS_any a0 cap0 m0 u14 Hs0.out (Hm0.out.below A0.out)).mono ?_
    rintro e u15 ⟨v, rfl, hv, hb⟩
    obtain ⟨ta, tc, rfl, th1, th2, hm⟩ := hv.read
    have A0' := Lib.hid (A0.out.trans (hb.mono A0.out.size))
    clear A0
    have A0 := A0'
    clear A0'
    have AS' := Lib.hid (AS.out.trans (hb.mono AS.out.size))
    clear AS
    have AS := AS'
    clear AS'
    have GG' := Lib.hid (GG.out.below hb)
    clear GG
    have GG := GG'
    clear GG'
    have GA' := Lib.hid (GA.out.below hb)
    clear GA
    have GA := GA'
    clear GA'
    have GD' := Lib.hid (GD.out.below hb)
    clear GD
    have GD := GD'
    clear GD'
    have tM := Lib.hid hm
    clear hm hv hb
    go_wp2_with fail
    refine (implLoopsOf_any ta tc m0 u15 Hs0.out Hwf0.out tM.out).mono ?_
    rintro e u16 ⟨⟨k3, haA, haD, hcA, hcD, b3, rA3, rD3, H3, vsA3, vsD3, rfl, hO, hr⟩, hb⟩
    have he := lpres_same HR2.out hr
    obtain ⟨he1, he2, he3, he4⟩ := he
    rw [HBB.out] at he1
    subst he1
    have he5 := he2.symm
    subst he5
    have he6 := he3.symm
    subst he6
    have he7 := he4.symm
    subst he7
    clear hr
    clear tM
    have A0' := Lib.hid (A0.out.trans (hb.mono A0.out.size))
    clear A0
    have A0 := A0'
    clear A0'
    have AS' := Lib.hid (AS.out.trans (hb.mono AS.out.size))
    clear AS
    have AS := AS'
    clear AS'
    have GG' := Lib.hid (GG.out.below hb)
    clear GG
    have GG := GG'
    clear GG'
    have GA' := Lib.hid (GA.out.below hb)
    clear GA
    have GA := GA'
    clear GA'
    have GD' := Lib.hid (GD.out.below hb)
    clear GD
    have GD := GD'
    clear GD'
    have HO := Lib.hid hO
    clear hO hb he2 he3 he4
    go_upto_region 25 with (first | (refine wpList_allocT rfl 25 rfl _ _ Try.info_loops ?_) | (refine wpList_storeT rfl 25 _ _ rfl (lp k2 (.slice haA rA2.length hcA) (.slice haD rD2.length hcD)) (lp 0 nilS nilS) u16.heap.size rfl rfl rfl (Try.size_loops _ _ _) rfl (lp_one _ _ _ _ _ _ _) ?_))
    generalize hW : World.alloc u16 _ = u17
    obtain ⟨gh, hgh⟩ : ∃ gh, gh = u16.heap.size := ⟨_, rfl⟩
    have hL : LpAt u17 gh k2 (.slice haA rA2.length hcA) (.slice haD rD2.length hcD) := by rw [← hW, hgh]; exact lp_new _ _ _ _
    have hb : Below u16.heap.size u16 u17 := by rw [← hW]; exact (Below.refl _ _).alloc (Nat.le_refl _) _
    rw [← hgh]
    have A0' := Lib.hid (A0.out.trans (hb.mono A0.out.size))
    clear A0
    have A0 := A0'
    clear A0'
    have AS' := Lib.hid (AS.out.trans (hb.mono AS.out.size))
    clear AS
    have AS := AS'
    clear AS'
    have GG' := Lib.hid (GG.out.below hb)
    clear GG
    have GG := GG'
    clear GG'
    have GA' := Lib.hid (GA.out.below hb)
    clear GA
    have GA := GA'
    clear GA'
    have GD' := Lib.hid (GD.out.below hb)
    clear GD
    have GD := GD'
    clear GD'
    have HO' := Lib.hid (HO.out.below hb)
    clear HO
    have HO := HO'
    clear HO'
    have GH := Lib.hid hL
    have Zgh := Lib.hid hgh
    clear hL hb hW hgh
    go_wp2_with (first | (refine wpList_loadG rfl 25 _ rfl gh rfl _ _ GH.out Try.underlying25 rfl (Try.size_loops _ _ _) ?_) | (refine wpList_loadG rfl 25 _ rfl gw rfl _ _ (GW.out.below AS.out) Try.underlying25 rfl (Try.size_loops _ _ _) ?_))
    refine (eqLoops_same (k2 : Int) haA raA haD raD hcA rcA hcD rcD rA2 rD2 u17 HSA.out HSD.out (HO.out.A.at rfl) (HO.out.D.at rfl) (HRA.out.below AS.out) (HRD.out.below AS.out)).mono ?_
    rintro e u18 ⟨rfl, hb⟩
    have A0' := Lib.hid (A0.out.trans (hb.mono A0.out.size))
    clear A0
    have A0 := A0'
    clear A0'
    have AS' := Lib.hid (AS.out.trans (hb.mono AS.out.size))
    clear AS
    have AS := AS'
    clear AS'
    have GG' := Lib.hid (GG.out.below hb)
    clear GG
    have GG := GG'
    clear GG'
    have GA' := Lib.hid (GA.out.below hb)
    clear GA
    have GA := GA'
    clear GA'
    have GD' := Lib.hid (GD.out.below hb)
    clear GD
    have GD := GD'
    clear GD'
    have HO' := Lib.hid (HO.out.below hb)
    clear HO
    have HO := HO'
    clear HO'
    have GH' := Lib.hid (GH.out.below hb)
    clear GH
    have GH := GH'
    clear GH'
    clear hb
    go_wp2_with (first | (refine wpList_loadG rfl 25 _ rfl gg rfl _ _ GG.out Try.underlying25 rfl (Try.size_loops _ _ _) ?_))
    refine (heldLoops_yes (k2 : Int) gaA gaD gcA gcD rA2 rD2 u18 HSA.out HSD.out GA.out GD.out).mono ?_
    rintro e u19 ⟨rfl, hb⟩
    have A0' := Lib.hid (A0.out.trans (hb.mono A0.out.size))
    clear A0
    have A0 := A0'
    clear A0'
    have AS' := Lib.hid (AS.out.trans (hb.mono AS.out.size))
    clear AS
    have AS := AS'
    clear AS'
    have GG' := Lib.hid (GG.out.below hb)
    clear GG
    have GG := GG'
    clear GG'
    have GA' := Lib.hid (GA.out.below hb)
    clear GA
    have GA := GA'
    clear GA'
    have GD' := Lib.hid (GD.out.below hb)
    clear GD
    have GD := GD'
    clear GD'
    have HO' := Lib.hid (HO.out.below hb)
    clear HO
    have HO := HO'
    clear HO'
    have GH' := Lib.hid (GH.out.below hb)
    clear GH
    have GH := GH'
    clear GH'
    clear hb
    go_wp2
    go_ret
    exact ⟨rfl, A0.out⟩

set_option maxRecDepth 100000 in
theorem lifted (os : Os) (started : os.Started) (H : Type) (enc : TypeId × Value → H) :
    ReturnsInHanded {} Try.checked os 3 .any (Rows.fnExactLoopsOfSpec.pre6 enc Try.prog Try.f3 Rows.fnExactLoopsOfRow.domain false) (Rows.fnExactLoopsOfSpec.post enc Try.prog Try.f3 false true false false) := by
  refine returnsInHanded_of_change (C := Try.checked) Try.own started (by kernel_rfl) Try.func3
    (ChangeSpec.witness6 (enc := enc) (C := Try.checked) false ⟨#[], #[.slice none 0 0], []⟩ 8 (by kernel_rfl) (by kernel_rfl) (by kernel_rfl) (by kernel_rfl)) ?_
  intro W base args ds gs before hval0 hW hcnd _
  have hval : ∀ (j : Nat) t v, Try.f3.params[j]? = some t → args[j]? = some v → Value.okWide Try.prog W .any base t v := hval0
  have hW' := hW
  obtain ⟨p, q, hA0, hV, rfl, hfz, hnd⟩ := hW
  have hA : DataW.TrodAll enc Try.prog W 0 (fun _ => true) true Try.f3.params.toList args.toList ds p := hA0
  rw [Try.params3] at hA hval
  obtain ⟨v0, vs0, d0, ds0, p0, q0, hargs, rfl, rfl, h0, r0⟩ := trodAll_cons hA
  obtain ⟨rfl, rfl, rfl⟩ := trodAll_nil r0
  obtain rfl : args = #[v0] := by cases args; simp_all
  obtain ⟨rfl, rfl⟩ := trodVars_none hV
  obtain ⟨a0, len0, cap0, rfl⟩ := okWide_slice Try.underlying22 (hval 0 22 v0 rfl rfl)
  have k0 := h0
  have lt0 : ∀ x ∈ p0, x.block < W.heap.size := by obtain ⟨m, hm⟩ := k0; exact DataW.trod_lt m _ _ _ hm
  obtain ⟨m0, e0, f0, g0, y0, x0⟩ := open_mat_arg h0
  clear hA0 hval0
  refine (walk a0 len0 cap0 m0 e0 f0 g0 y0 x0 W rfl).mono fun e W' ⟨he, bel⟩ => ?_
  subst he
  exact ⟨_, rfl, _, _, _, [], _, [], hW', trodAll_mk1 (shut_bool Try.underlying4 _), (trodAll_cons_mk (Below.trod Try.laidOut (by kernel_rfl) (of_decide_eq_true (by kernel_rfl)) k0 bel lt0) trodAll_mk0), rfl, bel.frame _, fun h => by cases h⟩

set_option maxRecDepth 100000 in
set_option maxHeartbeats 4000000 in
theorem closed : joinedFacts Try.prog 3 Try.f3 Rows.fnExactLoopsOfSpec Rows.fnExactLoopsOfRow = true := by
  unfold joinedFacts
  repeat' (with_reducible refine and_i ?_ ?_)
  all_goals first
    | (with_reducible exact may_enter)
    | ((with_reducible refine lifted_ok ?_); rfl)
    | ((with_reducible refine make_ok ?_); rfl)
    | (as_aux_lemma => kernel_rfl)

theorem over : Rows.fnExactLoopsOfRow.holds Try.pinned (OpenSpec.ofChange Rows.fnExactLoopsOfSpec) :=
  OpenClaim.holds_of_wide 3 Try.f3 rfl rfl rfl rfl rfl rfl rfl ⟨rfl, rfl, rfl, rfl, rfl⟩ rfl rfl rfl rfl rfl (by kernel_rfl) Try.func3 closed
    (of_decide_eq_true (by kernel_rfl)) (by unfold Func.isWrapper; rw [if_neg (of_decide_eq_false (by kernel_rfl))]; exact ⟨rfl, rfl⟩)
    (fun os started H enc _ => lifted os started H enc)

theorem proved : Rows.FnExactLoopsOfSaid := over
end Go.Proofs.Yteakdbmdokleoaa.fnExactLoopsOf
