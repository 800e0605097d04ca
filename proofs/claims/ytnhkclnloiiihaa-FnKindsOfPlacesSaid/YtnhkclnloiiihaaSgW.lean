/- The model's draw of a sign matrix, at times another table: the walk. Conditions: the most rows in 1..6; a cursor at a place that is small. -/
import Derived.Test.YtnhkclnloiiihaaSgn
namespace Go.Proofs.Ytnhkclnloiiihaa
open Go.RowKit

set_option maxRecDepth 100000 in
set_option maxHeartbeats 6400000 in
theorem curSigns_any (w0 : World) (g : Nat) (a : Option Addr) (n c k : Nat) (s : Int) (mo : Nat) (w : World) (hm1 : 1 ≤ mo) (hm6 : mo ≤ 6) (hn : n ≤ 9223372036854775807) (hk : k ≤ 800000000) (hB : BytesIn w0 a n) (hb0 : Below w0.heap.size w0 w) (hg : w0.heap.size ≤ g) (hC : CurAt w g a n c k s) :
    Calls Try.prog 139 #[.pointer (some ⟨g, 0, none⟩), .int .i64 (mo : Int)] w (SgnPost g a n c k w) := by
  obtain ⟨i0, hi, hz0, hz1, hz2⟩ := info_parts Try.info_int
  obtain ⟨j0, hj, hy0, hy1, hy2⟩ := info_parts Try.info_ints
  have HB := Lib.hid hB
  have Hb0 := Lib.hid hb0
  have Hglt := Lib.hid hC.lt
  have Hsz := Lib.hid hb0.size
  have P := Lib.hid (fun (m : Nat) (h1 : 1 ≤ m) (h2 : m ≤ 200) (wx : World) (kx : Nat) (sx : Int) (hK : Kept g w wx) (hkx : kx ≤ 1000000000) (hCx : CurAt wx g a n c kx sx) => curPick_any g a n c kx m sx wx hn hkx h1 h2 (hB.below (hK.below hb0 hg hb0.size)) hCx)
  have C1 := Lib.hid (P.out mo hm1 (by omega) w k s (Kept.refl _ _) (by omega) hC)
  clear hB hb0 hC
  go_enter Try.func139, Try.ntmps139
  go_wp2_with fail
  refine C1.out.mono ?_
  rintro e w1 ⟨v, k1, s1, rfl, hv, hk1, hC1, hO⟩
  obtain ⟨N, hN⟩ : ∃ N, N = v + 1 := ⟨_, rfl⟩
  have hN1 : 1 ≤ N := by omega
  have hN6 : N ≤ 6 := by omega
  have hNm : N ≤ 9223372036854775807 := by omega
  have e1 : (1 : Int) + (v : Int) = (N : Int) := by omega
  have e2 : wrap64 (N : Int) = (N : Int) := by unfold wrap64; omega
  have HK1 := Lib.hid hO.kept
  have CS := Lib.hid (curSure_any w0 g a n c k1 s1 N w1 hN1 hN6 hn (by omega) HB.out (HK1.out.below Hb0.out hg Hsz.out) hg hC1)
  clear hN hC1 hO C1 hv
  go_wp2_with fail
  simp only [e2]
  refine CS.out.mono ?_
  rintro e w2 ⟨v2, M, k2, s2, rfl, hown, hsq, hk2, hC2, hK2⟩
  obtain ⟨oa, oc, vs, rfl, hp, hoc1, hoc2⟩ := (hown.base HK1.out.size).open
  rw [hsq.len] at hp hoc1 ⊢
  obtain ⟨og, rfl, hog, hogl⟩ : ∃ g, oa = some ⟨g, 0, none⟩ ∧ w.heap.size ≤ g ∧ g < w2.heap.size := by
    rcases hp.top.2 with ⟨h0, h1⟩ | ⟨g, cap, cur, hv2, hg2, hh, _⟩
    · exact absurd h1 (Nat.ne_of_gt hN1)
    · simp only [Value.slice.injEq] at hv2
      exact ⟨g, hv2.1, hg2, lt_of_block hh⟩
  have HP := Lib.hid hp
  have HS := Lib.hid hsq
  have HK2 := Lib.hid (HK1.out.trans hK2)
  have C3 := Lib.hid (P.out 20 (by omega) (by omega) w2 k2 s2 HK2.out (by omega) hC2)
  clear hown hp hsq hC2 hK2 CS HK1 e1 e2
  go_wp2_with fail
  refine C3.out.mono ?_
  rintro e w3 ⟨z, k3, s3, rfl, hz, hk3, hC3, hO⟩
  have HP3 := Lib.hid (HP.out.only hO (fun b hb => by subst hb; exact Hglt.out))
  have HK3 := Lib.hid (HK2.out.trans hO.kept)
  have HC3 := Lib.hid hC3
  have hogl3 : og < w3.heap.size := by rw [hO.size]; exact hogl
  have hs3 : w.heap.size ≤ w3.heap.size := HK3.out.size
  clear hO hC3 C3 HP HK2 hogl
  have Hkk := Lib.hid (show k3 ≤ k + 410 by omega)
  have hzc : z = 0 ∨ z = 1 ∨ z = 2 ∨ z = 3 ∨ 4 ≤ z := by omega
  rcases hzc with rfl | rfl | rfl | rfl | hz4
  · clear hz
    have hrows : ∀ i, i < N → ∃ ri rc, vs.getD i undef = .slice (some ⟨ri, 0, none⟩) N rc ∧ w.heap.size ≤ ri := fun i hi => by
      obtain ⟨g1, c1, h1, h2, h3, _⟩ := HP3.out.rowS hi (by rw [HS.out.row i hi]; omega)
      rw [HS.out.row i hi] at h1
      exact ⟨g1, c1, h1, h2⟩
    have Hrows := Lib.hid hrows
    have HF := Lib.hid (fun wx (hK : Kept g w3 wx) => HP3.out.keptG hK Hglt.out)
    have hF : ∀ i, i < N → ∀ ri rc, vs.getD i undef = .slice (some ⟨ri, 0, none⟩) N rc → ∀ wx, Kept g w3 wx → wx.cell? ⟨og, i, none⟩ = some (.slice (some ⟨ri, 0, none⟩) N rc) ∧ ∀ j, j < N → wx.cell? ⟨ri, j, none⟩ = some (.int .i64 (gi (gr M i) j)) ∧ wx.frozen? ⟨ri, j, none⟩ = false := fun i hi ri rc hv wx hK => by
      have h := HF.out wx hK
      have hr := h.rows i hi
      rw [hv] at hr
      refine ⟨by rw [h.cellAt i hi, hv], fun j hj => ⟨hr.cellAt j hj, hr.frozenAt j⟩⟩
    have F := Lib.hid hF
    have Hk3 := Lib.hid (show k3 ≤ 999999990 by omega)
    have hg3 : g < w3.heap.size := Nat.lt_of_lt_of_le Hglt.out hs3
    have Hg3 := Lib.hid hg3
    have Hmark := Lib.hid True.intro
    have Hmark2 := Lib.hid True.intro
    clear hrows hF hg3 hk1 hk2 hk3 HP3
    go_wp2
    go_region_with (first
      | (go_at_call 91; clear Hmark; refine (P.out N hN1 (by omega) _ k3 s3 ?_ ?_ ?_).mono ?_; (first | exact HK3.out.drew | exact HK3.out.drew.alloc _); (have := Hk3.out; omega); (first | exact HC3.out.drew | exact HC3.out.drew.alloc _); rintro e w5 ⟨i, k5, s5, rfl, hi5, hk5, hC5, hO5⟩; obtain ⟨ri, rc, hvs, hri⟩ := Hrows.out i hi5; have HK5 := Lib.hid (show Kept g w3 w5 from by (first | exact (Kept.refl g w3).drew.trans hO5.kept | exact ((Kept.refl g w3).drew.alloc _).trans hO5.kept)); have c5 := (F.out i hi5 ri rc hvs w5 HK5.out).1; have c5a := fun o => (F.out i hi5 ri rc hvs (w5.alloc o) (HK5.out.alloc o)).1; have HC5 := Lib.hid hC5; have HO5 := Lib.hid hO5; have Hvs := Lib.hid hvs; have Hri := Lib.hid hri; have Hk5 := Lib.hid hk5; have hiI : (i : Int) < (N : Int) := (by omega); clear hC5 hO5 hvs hri hk5)
      | (go_at_call 91; clear Hmark2; refine (P.out N hN1 (by omega) _ k5 s5 ?_ ?_ ?_).mono ?_; (first | exact HK3.out.trans HK5.out | exact (HK3.out.trans HK5.out).alloc _); (have := Hk3.out; have := Hk5.out; omega); (first | exact HC5.out | exact HC5.out.alloc _); rintro e w6 ⟨j, k6, s6, rfl, hj6, hk6, hC6, hO6⟩; have HK6 := Lib.hid (show Kept g w3 w6 from by (first | exact HK5.out.trans hO6.kept | exact (HK5.out.alloc _).trans hO6.kept)); have c6 := (F.out i hi5 ri rc Hvs.out w6 HK6.out).1; have c6a := fun o => (F.out i hi5 ri rc Hvs.out (w6.alloc o) (HK6.out.alloc o)).1; have HC6 := Lib.hid hC6; have HO6 := Lib.hid hO6; have Hk6 := Lib.hid hk6; have hjI : (j : Int) < (N : Int) := (by omega); clear hC6 hO6 hk6 c5 c5a)
      | (go_at_call 95; refine (curAmong_any g a n c k6 s6 _ 6 [-2, -1, 0, 1, 2, 4611686018427387904] _ hn ?_ (by decide) (by decide) ?_ ?_ ?_ ?_).mono ?_; (have := Hk3.out; have := Hk5.out; have := Hk6.out; omega); (first | exact cur_ints _ [-2, -1, 0, 1, 2, 4611686018427387904] | exact (cur_ints _ [-2, -1, 0, 1, 2, 4611686018427387904]).onlyG HO6.out (Nat.ne_of_gt (Nat.lt_of_lt_of_le Hg3.out HK5.out.size)) | exact ((cur_ints _ [-2, -1, 0, 1, 2, 4611686018427387904]).onlyG HO5.out (Nat.ne_of_gt Hg3.out)).onlyG HO6.out (Nat.ne_of_gt Hg3.out) | exact ((cur_ints _ [-2, -1, 0, 1, 2, 4611686018427387904]).drewI.onlyG HO5.out (Nat.ne_of_gt Hg3.out)).onlyG HO6.out (Nat.ne_of_gt Hg3.out)); (intro b o e; cases e; first | exact Nat.ne_of_gt (Nat.lt_of_lt_of_le Hg3.out HK6.out.size) | exact Nat.ne_of_gt (Nat.lt_of_lt_of_le Hg3.out HK5.out.size) | exact Nat.ne_of_gt Hg3.out); (first | exact HB.out.below ((HK3.out.trans HK6.out).below Hb0.out hg Hsz.out) | exact HB.out.below (((HK3.out.trans HK6.out).alloc _).below Hb0.out hg Hsz.out)); (first | exact HC6.out | exact HC6.out.alloc _); rintro e w7 ⟨x, k7, s7, rfl, hx, hk7, hC7, hO7⟩; have HK7 := Lib.hid (show Kept g w3 w7 from by (first | exact HK6.out.trans hO7.kept | exact (HK6.out.alloc _).trans hO7.kept)); have c7 := (F.out i hi5 ri rc Hvs.out w7 HK7.out).1; obtain ⟨d7, f7⟩ := (F.out i hi5 ri rc Hvs.out w7 HK7.out).2 j hj6; have HC7 := Lib.hid hC7; have Hx := Lib.hid (show -9223372036854775808 ≤ x ∧ x ≤ 9223372036854775807 from (by simp at hx; omega)); have Hk7 := Lib.hid hk7; clear hC7 hO7 hk7 hx c6 c6a))
    all_goals
      have Hfin := Lib.hid (show SgnPost g a n c k w (.returned (.slice (some ⟨og, 0, none⟩) N oc)) (w7.setCell ⟨ri, j, none⟩ (.int .i64 x)) from ⟨_, _, k7, s7, rfl, ⟨_, by rw [List.length_set, HS.out.len]; exact (HF.out w7 HK7.out).storeS HS.out.len hi5 Hvs.out x⟩, HS.out.set hN6 hi5 j Hx.out, by have := Hk5.out; have := Hk6.out; have := Hk7.out; have := Hkk.out; omega, HC7.out.setElse (p := ⟨ri, j, none⟩) (by have h1 := Hglt.out; have h2 := Hri.out; simp; omega) _, (HK3.out.trans HK7.out).setCell (p := ⟨ri, j, none⟩) Hri.out _⟩)
      clear c7 d7 f7 HK3 HC3 HK5 HK6 HK7 HC5 HC6 HC7 F HF Hrows
      go_wp2
      go_ret
      exact Hfin.out
  · clear hz
    go_wp2_with (at_make; refine wpList_make_full _ rfl _ _ 24 rfl w3.heap.size 3 i0 (.int .i64 0) 1 Try.underlying24 hi hz0 hz1 _ _ _ _ N rfl rfl rfl rfl ?d1 ?d2 ?d3 ?_)
    case d1 => rw [hz2]; omega
    case d2 => unfold maxLen; omega
    case d3 => simp
    intro w4 hown4 hg4
    have hb4 : Below w3.heap.size w3 w4 := (Below.refl _ _).grown hg4 (Nat.le_refl _) (fun _ h => by cases h)
    have hrow := OwnI.made hown4
    have hP4 := HP3.out.below hb4
    have hl := HS.out.len
    have hP5 := hP4.moreS (r := List.replicate N 0) hl
    have HP5 := Lib.hid hP5
    have Hrow := Lib.hid (show OwnI w4 w.heap.size (.slice (some ⟨w3.heap.size, 0, none⟩) N N) (gr (M ++ [List.replicate N 0]) N) by
      have h := gr_last M (List.replicate N 0)
      rw [hl] at h
      rw [h]
      exact hrow.base hs3)
    have hfr := Lib.hid (HP3.out.fresh hrow (Nat.le_refl _))
    have HK4 := Lib.hid (HK3.out.trans (kept_of hb4 g))
    have HC4 := Lib.hid (HC3.out.below hb4)
    have hs4 : w.heap.size ≤ w4.heap.size := HK4.out.size
    clear hown4 hg4 hb4 hrow hP4 hP5 hl
    go_wp2_with (at_builtin; refine wpList_append_own _ rfl _ _ 40 rfl w.heap.size 24 j0 (.slice none 0 0) 1 24 Try.underlying40 hj hy0 hy1 hy2 rfl (by decide) _ _ _ rfl (World.ownsRow.alloc HP5.out.top _) ⟨w4.heap.size, 0, none⟩ 1 1 [.slice (some ⟨w3.heap.size, 0, none⟩) N N] rfl rfl ?e1 ?e2 ?e3 ?e4 ?e5 ?_)
    case e1 => exact cell_one_new _ _ _
    case e2 => intro u hu; simp at hu; subst hu; rfl
    case e3 => unfold maxLen; omega
    case e4 => omega
    case e5 => simp; omega
    intro v' w5 hown' hgrow _
    have hput := HP5.out.snoc hs4 Hrow.out hfr.out hown' hgrow
    have Hfin := Lib.hid (show SgnPost g a n c k w (.returned v') w5 from ⟨v', _, k3, s3, rfl, ⟨_, by rw [show (M ++ [List.replicate N (0 : Int)]).length = N + 1 from by simp [HS.out.len]]; exact hput.1⟩, HS.out.more hN6, by omega, HC4.out.low hput.2 Hglt.out, HK4.out.low hput.2⟩)
    clear hput hown' hgrow
    go_wp2
    go_ret
    exact Hfin.out
  · clear hz
    have hvr := HP3.out.rows 0 (by omega)
    obtain ⟨rg, rc, hvs, hrg, hrgl, hrc⟩ := HP3.out.rowS (i := 0) (by omega) (by rw [HS.out.row 0 (by omega)]; omega)
    rw [HS.out.row 0 (by omega)] at hvs hrc
    have hcd := HP3.out.cellAt 0 (by omega)
    rw [hvs] at hcd hvr
    have hfz : w3.frozen? ⟨og, 0, none⟩ = false := World.ownsRow.frozenAt HP3.out.top 0
    have hne0 : ∀ q, (vs.getD 0 undef).ownBlock = some q → (Value.slice (some ⟨og, 0, none⟩) N oc).ownBlock ≠ some q := fun q hq => (HP3.out.rows 0 (by omega)).ne_row HP3.out.top q hq
    have Hne0 := Lib.hid hne0
    have Hvr := Lib.hid hvr
    have Hvs := Lib.hid hvs
    have hlr : (gr M 0).length = N := HS.out.row 0 (by omega)
    have Hlr := Lib.hid hlr
    have Hrg := Lib.hid hrg
    clear hvr hvs hne0 hlr hrg
    go_wp2_with (at_builtin; refine wpList_append_own_at _ rfl _ _ 24 rfl w.heap.size 3 i0 (.int .i64 0) 1 8 Try.underlying24 hi hz0 hz1 hz2 rfl (by decide) _ _ _ rfl (World.ownsRow.alloc Hvr.out _) ⟨w3.heap.size, 0, none⟩ 1 1 [.int .i64 0] rfl rfl ?e1 ?e2 ?e3 ?e4 ?e5 ?_)
    case e1 => exact cell_one_new _ _ _
    case e2 => intro u hu; simp at hu; subst hu; rfl
    case e3 => have := Hlr.out; unfold maxLen; omega
    case e4 => have := Hlr.out; omega
    case e5 => simp; omega
    intro v' w4 hown' hgrow _ hat
    have hu : OwnI w4 w.heap.size v' (gr M 0 ++ [0]) := by unfold OwnI; rw [List.length_append, List.map_append]; exact hown'
    obtain ⟨va, vc, hvv, _, _, _⟩ := hu.read
    rw [show (gr M 0 ++ [(0 : Int)]).length = N + 1 from by simp [Hlr.out]] at hvv
    subst hvv
    have hPa := HP3.out.below ((Below.refl w3.heap.size w3).alloc (Nat.le_refl _) (.cells #[.int .i64 0] 3))
    rw [← Hvs.out] at hgrow hat
    have htop4 := World.ownsRow.kept hPa.top hgrow (.inr (fun e => by
      have h1 := Hne0.out rg (by rw [Hvs.out]; rfl)
      rw [e, Hvs.out] at h1
      exact h1 rfl))
    have hvl : 0 < vs.length := by have h := HP3.out.top.1; simp at h; omega
    have hcd4 : w4.cell? ⟨og, 0, none⟩ = some (vs.getD 0 undef) := by
      rw [World.ownsRow.cellAt htop4 0 (by omega), List.getD, List.getElem?_eq_getElem hvl]
      rfl
    rw [Hvs.out] at hcd4
    clear hvl
    have hfz4 : w4.frozen? ⟨og, 0, none⟩ = false := World.ownsRow.frozenAt htop4 0
    have hsw := hPa.swapRow HS.out.len (i := 0) (by omega) hu hgrow (hat.imp id fun h => by rw [h]; simp)
    have hbl : Below w.heap.size w3 (w4.setCell ⟨og, 0, none⟩ (.slice va (N + 1) vc)) := (Below.grown ((Below.refl w.heap.size w3).alloc hs3 _) hgrow (by simp; omega) (fun q hq => by rw [Hvs.out] at hq; cases hq; exact Hrg.out)).setCell (p := ⟨og, 0, none⟩) hog _
    have Hfin := Lib.hid (show SgnPost g a n c k w (.returned (.slice (some ⟨og, 0, none⟩) N oc)) (w4.setCell ⟨og, 0, none⟩ (.slice va (N + 1) vc)) from ⟨_, _, k3, s3, rfl, ⟨_, by rw [List.length_set, HS.out.len]; exact hsw⟩, HS.out.longer hN1 hN6, by omega, HC3.out.low hbl Hglt.out, HK3.out.low hbl⟩)
    clear hown' hgrow hat hu hPa htop4 hsw hbl HP3 HK3 HC3 hcd hfz
    go_wp2
    go_ret
    exact Hfin.out
  · clear hz
    have CS := Lib.hid (curSure_any w0 g a n c k3 s3 6 w3 (by omega) (by omega) hn (by omega) HB.out (HK3.out.below Hb0.out hg Hsz.out) hg HC3.out)
    go_wp2_with fail
    refine CS.out.mono ?_
    rintro e w4 ⟨v4, M4, k4, s4, rfl, hown4, hsq4, hk4, hC4, hK4⟩
    have Hv4 := Lib.hid (hown4.base hs3)
    have HK4 := Lib.hid (HK3.out.trans hK4)
    have HS4 := Lib.hid hsq4
    have C5 := Lib.hid (P.out 2 (by omega) (by omega) w4 k4 s4 HK4.out (by omega) hC4)
    clear hown4 hsq4 hC4 hK4 CS HP3 HK3 HC3
    obtain ⟨da, dc, hvv, _, _, _⟩ := Hv4.out.read
    subst hvv
    go_wp2_with fail
    refine (curOne_any g a n c k4 2 s4 w4 C5.out).mono ?_
    rintro e w5 ⟨b, k5, s5, rfl, hk5, hC5, hO5⟩
    have HK5 := Lib.hid (HK4.out.trans hO5.kept)
    have HC5 := Lib.hid hC5
    obtain ⟨ws, hws⟩ := Hv4.out
    have Hv5 := Lib.hid (show OwnM w5 w.heap.size _ M4 from ⟨ws, hws.only hO5 (fun b hb => by subst hb; exact Hglt.out)⟩)
    clear hO5 hC5 C5 Hv4 HK4 hws
    cases b
    · go_wp2
      go_ret
      exact ⟨_, M4, k5, s5, rfl, Hv5.out, HS4.out.drawn (by omega), by omega, HC5.out, HK5.out⟩
    · go_wp2
      go_ret
      exact ⟨_, [], k5, s5, rfl, OwnM.nil _ _, Drawn.nil, by omega, HC5.out, HK5.out⟩
  · have z0 : ((z : Int) == 0) = false := by simp; omega
    have z1 : ((z : Int) == 1) = false := by simp; omega
    have z2 : ((z : Int) == 2) = false := by simp; omega
    have z3 : ((z : Int) == 3) = false := by simp; omega
    have Hfin := Lib.hid (show SgnPost g a n c k w (.returned (.slice (some ⟨og, 0, none⟩) N oc)) w3 from ⟨_, M, k3, s3, rfl, ⟨vs, by rw [HS.out.len]; exact HP3.out⟩, HS.out.drawn hN6, by omega, HC3.out, HK3.out⟩)
    clear HP3 HK3 HC3
    go_wp2
    go_ret
    exact Hfin.out
end Go.Proofs.Ytnhkclnloiiihaa
