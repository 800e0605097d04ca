/- The model's draw of a table of kinds, at times with one number changed. Conditions: bytes that are read. -/
import Derived.Test.YtnhkclnloiiihaaDrw
import Derived.Test.YtnhkclnloiiihaaWeS
namespace Go.Proofs.Ytnhkclnloiiihaa
open Go.RowKit

theorem kinds_sqN {m : List (List Int)} (h : good m) : SqN m.length (kinds m) :=
  ⟨kinds_len m, fun i hi => kinds_row hi, fun i j hi hj => by
    rw [gi_kinds hi hj]
    have := kd_range h hi hj
    omega⟩

set_option maxRecDepth 100000 in
set_option maxHeartbeats 6400000 in
theorem drawFromKinds_any (a : Option Addr) (n c : Nat) (w : World) (hn : n ≤ 1048576) (hB : BytesIn w a n) :
    Calls Try.prog 72 #[.slice a n c] w (DPost w) := by
  obtain ⟨g, hg⟩ : ∃ g, g = w.heap.size := ⟨_, rfl⟩
  obtain ⟨w1, hw1⟩ : ∃ w1, w1 = w.alloc (.cells #[.slice a n c, .int .i64 0, .int .u64 0] 62) := ⟨_, rfl⟩
  have hb1 : Below w.heap.size w w1 := by rw [hw1]; exact (Below.refl _ _).alloc (Nat.le_refl _) _
  have hs1 : w1.heap.size = w.heap.size + 1 := by rw [hw1]; simp
  have hC1 : CurAt w1 g a n c 0 0 := by rw [hw1, hg]; exact CurAt.new w a n c
  have Hs1 := Lib.hid hs1
  have Hg := Lib.hid hg
  have HB := Lib.hid hB
  have Hb1 := Lib.hid hb1
  have P := Lib.hid (fun (m : Nat) (h1 : 1 ≤ m) (h2 : m ≤ 200) (wx : World) (kx : Nat) (sx : Int) (hK : Kept g w1 wx) (hkx : kx ≤ 1000000000) (hCx : CurAt wx g a n c kx sx) => curPick_any g a n c kx m sx wx (by omega) hkx h1 h2 (hB.below (hK.below hb1 (Nat.le_of_eq hg.symm) (by omega))) hCx)
  have CS := curSigns_any w g a n c 0 0 5 w1 (by decide) (by decide) (by omega) (by decide) hB hb1 (Nat.le_of_eq hg.symm) hC1
  have CS := Lib.hid CS
  clear hB hb1 hC1 hs1 hg
  go_enter Try.func72, Try.ntmps72
  go_wp2_with fail
  rw [← hw1, ← Hg.out]
  refine CS.out.mono ?_
  rintro e w2 ⟨v, M, k2, s2, rfl, hv, hd, hk2, hC2, hK2⟩
  obtain ⟨Ma, Mc, rfl, hMc1, hMc2, hm⟩ := hv.read
  have HV := Lib.hid hv
  have HD := Lib.hid hd
  have HM := Lib.hid hm
  have HK2 := Lib.hid hK2
  have HC2 := Lib.hid hC2
  have Hk2 := Lib.hid hk2
  clear hv hd hm hK2 hC2 CS hMc1 hMc2 hk2 hw1
  go_wp2_with fail
  refine (sgGood_any Ma Mc M w2 HD.out.small HM.out).mono ?_
  rintro e w3 ⟨ha, hb3⟩
  have HK3 := Lib.hid (HK2.out.trans (kept_of hb3 g))
  have HC3 := Lib.hid (HC2.out.below hb3)
  have HV3 := Lib.hid (HV.out.below hb3)
  have HM3 := Lib.hid (HM.out.below hb3)
  clear hb3 HK2 HC2 HV HM
  by_cases hgd : good M
  · have G := Lib.hid hgd
    obtain rfl := ha.is hgd
    clear ha hgd HV3
    go_wp2_with fail
    refine (weKinds_any Ma Mc M w3 G.out HM3.out).mono ?_
    rintro e w4 ⟨v, rfl, hv, hb4⟩
    obtain ⟨oa, oc, vs, rfl, hp, hoc1, hoc2⟩ := hv.open
    rw [kinds_len] at hp hoc1 ⊢
    obtain ⟨N, hN⟩ : ∃ N, N = M.length := ⟨_, rfl⟩
    have hsq := kinds_sqN G.out
    have hN1 : 1 ≤ N := by rw [hN]; exact G.out.1.1
    have hN6 : N ≤ 6 := by rw [hN]; exact G.out.1.2.1
    rw [← hN] at hp hoc1 hsq ⊢
    obtain ⟨og, rfl, hog, hogl⟩ : ∃ g, oa = some ⟨g, 0, none⟩ ∧ w3.heap.size ≤ g ∧ g < w4.heap.size := by
      rcases hp.top.2 with ⟨h0, h1⟩ | ⟨g, cap, cur, hv2, hg2, hh, _⟩
      · exact absurd h1 (Nat.ne_of_gt hN1)
      · simp only [Value.slice.injEq] at hv2
        exact ⟨g, hv2.1, hg2, lt_of_block hh⟩
    obtain ⟨KM, hKM⟩ : ∃ KM, KM = kinds M := ⟨_, rfl⟩
    rw [← hKM] at hp hsq
    have hg3 : g < w3.heap.size := by have h1 := HK3.out.size; have h2 := Hs1.out; have h3 := Hg.out; omega
    have HP := Lib.hid hp
    have HS := Lib.hid hsq
    have Hglt := Lib.hid hg3
    have HK4 := Lib.hid (HK3.out.trans (kept_of hb4 g))
    have hgw : w.heap.size ≤ w3.heap.size := by have h1 := HK3.out.size; have h2 := Hs1.out; omega
    have Hgw := Lib.hid hgw
    have C4 := Lib.hid (P.out 4 (by omega) (by omega) w4 k2 s2 HK4.out (by have := Hk2.out; omega) (HC3.out.below hb4))
    clear hv hb4 hp hsq hg3 HC3 HM3 hKM hN hgw
    go_wp2_with fail
    refine (curOne_any g a n c k2 4 s2 w4 C4.out).mono ?_
    rintro e w5 ⟨bb, k5', s5', rfl, hk5', hC5', hO5'⟩
    have HP5 := Lib.hid (HP.out.only hO5' (fun b hb => by subst hb; exact Hglt.out))
    have HKw := Lib.hid (HK4.out.trans hO5'.kept)
    have HCw := Lib.hid hC5'
    have hoglw : og < w5.heap.size := by rw [hO5'.size]; exact hogl
    have Hkw := Lib.hid (show k5' ≤ 2000 by have := Hk2.out; omega)
    clear hO5' hC5' C4 HP HK4 hk5' hogl
    cases bb
    · have Hfin := Lib.hid (show DPost w (.returned (.slice (some ⟨og, 0, none⟩) N oc)) w5 from ⟨_, KM, rfl, ⟨vs, by rw [HS.out.len]; exact HP5.out.base Hgw.out⟩, HS.out.drawn hN6, HKw.out.below Hb1.out (Nat.le_of_eq Hg.out.symm) (by have := Hs1.out; omega)⟩)
      clear HP5 HKw HCw
      go_wp2
      go_ret
      exact Hfin.out
    · have hrows : ∀ i, i < N → ∃ ri rc, vs.getD i undef = .slice (some ⟨ri, 0, none⟩) N rc ∧ w3.heap.size ≤ ri := fun i hi => by
        obtain ⟨g1, c1, h1, h2, h3, _⟩ := HP5.out.rowS hi (by rw [HS.out.row i hi]; omega)
        rw [HS.out.row i hi] at h1
        exact ⟨g1, c1, h1, h2⟩
      have Hrows := Lib.hid hrows
      have HF := Lib.hid (fun wx (hK : Kept g w5 wx) => HP5.out.keptG hK Hglt.out)
      have hF : ∀ i, i < N → ∀ ri rc, vs.getD i undef = .slice (some ⟨ri, 0, none⟩) N rc → ∀ wx, Kept g w5 wx → wx.cell? ⟨og, i, none⟩ = some (.slice (some ⟨ri, 0, none⟩) N rc) ∧ ∀ j, j < N → wx.cell? ⟨ri, j, none⟩ = some (.int .i64 (gi (gr KM i) j)) ∧ wx.frozen? ⟨ri, j, none⟩ = false := fun i hi ri rc hv wx hK => by
        have h := HF.out wx hK
        have hr := h.rows i hi
        rw [hv] at hr
        refine ⟨by rw [h.cellAt i hi, hv], fun j hj => ⟨hr.cellAt j hj, hr.frozenAt j⟩⟩
      have F := Lib.hid hF
      have Hmark := Lib.hid True.intro
      have Hmark2 := Lib.hid True.intro
      clear hrows hF HP5
      go_wp2
      go_region_with (first
        | (go_at_call 91; clear Hmark; refine (P.out N hN1 (by omega) _ k5' s5' ?_ ?_ ?_).mono ?_; exact HKw.out.drew; (have := Hkw.out; omega); exact HCw.out.drew; rintro e w6 ⟨i, k6, s6, rfl, hi6, hk6, hC6, hO6⟩; obtain ⟨ri, rc, hvs, hri⟩ := Hrows.out i hi6; have HK6 := Lib.hid (show Kept g w5 w6 from (Kept.refl g w5).drew.trans hO6.kept); have c6 := (F.out i hi6 ri rc hvs w6 HK6.out).1; have HC6 := Lib.hid hC6; have Hvs := Lib.hid hvs; have Hri := Lib.hid hri; have Hk6 := Lib.hid hk6; have hiI : (i : Int) < (N : Int) := (by omega); clear hC6 hO6 hvs hri hk6)
        | (go_at_call 91; clear Hmark2; refine (P.out N hN1 (by omega) _ k6 s6 ?_ ?_ ?_).mono ?_; exact HKw.out.trans HK6.out; (have := Hkw.out; have := Hk6.out; omega); exact HC6.out; rintro e w7 ⟨j, k7, s7, rfl, hj7, hk7, hC7, hO7⟩; have HK7 := Lib.hid (show Kept g w5 w7 from HK6.out.trans hO7.kept); have c7 := (F.out i hi6 ri rc Hvs.out w7 HK7.out).1; have HC7 := Lib.hid hC7; have Hk7 := Lib.hid hk7; have hjI : (j : Int) < (N : Int) := (by omega); clear hC7 hO7 hk7 c6)
        | (go_at_call 91; refine (P.out 8 (by omega) (by omega) _ k7 s7 ?_ ?_ ?_).mono ?_; exact HKw.out.trans HK7.out; (have := Hkw.out; have := Hk6.out; have := Hk7.out; omega); exact HC7.out; rintro e w8 ⟨x, k8, s8, rfl, hx8, hk8, hC8, hO8⟩; have HK8 := Lib.hid (show Kept g w5 w8 from HK7.out.trans hO8.kept); have c8 := (F.out i hi6 ri rc Hvs.out w8 HK8.out).1; obtain ⟨d8, f8⟩ := (F.out i hi6 ri rc Hvs.out w8 HK8.out).2 j hj7; obtain ⟨y, hy⟩ : ∃ y : Int, (x : Int) - 1 = y := ⟨_, rfl⟩; have hyb : -1 ≤ y ∧ y ≤ 7 := (by omega); have hyw : IntKind.i64.wrap y = y := w64 (by omega); have hyw2 : wrap64 y = y := (by unfold wrap64; omega); have Hy := Lib.hid hyb; clear hC8 hO8 hk8 hyb c7))
      all_goals
        have Hfin := Lib.hid (show DPost w (.returned (.slice (some ⟨og, 0, none⟩) N oc)) (w8.setCell ⟨ri, j, none⟩ (.int .i64 y)) from ⟨_, _, rfl, ⟨_, by rw [List.length_set, HS.out.len]; exact ((HF.out w8 HK8.out).storeS HS.out.len hi6 Hvs.out y).base Hgw.out⟩, HS.out.set hN6 hi6 j (by have := Hy.out; omega), ((HKw.out.trans HK8.out).below Hb1.out (Nat.le_of_eq Hg.out.symm) (by have := Hs1.out; omega)).setCell (p := ⟨ri, j, none⟩) (by have h1 := Hri.out; have h2 := Hgw.out; simp; omega) _⟩)
        clear c8 d8 f8 HKw HCw HK6 HK7 HK8 HC6 HC7 F HF Hrows
        go_wp2
        go_ret
        exact Hfin.out
  · have G := Lib.hid hgd
    obtain rfl := ha.isnt hgd
    have Hfin := Lib.hid (show DPost w (.returned (.slice Ma M.length Mc)) w3 from ⟨_, M, rfl, HV3.out.base (by have := Hs1.out; omega), HD.out, HK3.out.below Hb1.out (Nat.le_of_eq Hg.out.symm) (by have := Hs1.out; omega)⟩)
    clear ha hgd HV3 HK3 HC3
    go_wp2
    go_ret
    exact Hfin.out
end Go.Proofs.Ytnhkclnloiiihaa
