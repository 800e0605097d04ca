/- Parts of proofs: contracts and plain facts. Conditions: as each says. -/
import Derived.Test.YtmonhmbnbhaemaaDoorK14
import Derived.Deep.RegionWith
namespace Go.Proofs.YtmonhmbnbhaemaaDoor
open Go.RowKit

theorem Tryd.built_rt1 : Tryd.prog.built 25 [(1, .int .i64 1)] = some (rtA (0, 1)) := by kernel_rfl

set_option maxRecDepth 100000 in
set_option maxHeartbeats 6400000 in
theorem specLambdaSum_of (HTm : ∀ (a b : Nat × Nat) (w : World), Cop a → Cop b → a.1 ≤ 1000000000 → a.2 ≤ 1000000000 → b.1 ≤ 1000000000 → b.2 ≤ 1000000000 →
      Calls Tryd.prog 17 #[.agg (rtA a), .agg (rtA b)] w fun e w' => e = .returned (.agg (rtA (tm a b))) ∧ Below w.heap.size w w')
    (ao : Option Addr) (c : Nat) (t : List (List Int)) (x : Int) (w : World) (hs : Small t) (ht : MatAt w ao t)
    (_ : -9223372036854775808 ≤ x ∧ x ≤ 9223372036854775807) :
    Calls Tryd.prog 5 #[.slice ao t.length c, .int .i64 x] w fun e w' => RtRes (okLam t x) (lamS t x) e ∧ Below w.heap.size w w' := by
  have htx : t.length ≤ 9223372036854775807 := by have := hs.1; omega
  have Hs := Lib.hid hs
  have Ht := Lib.hid ht
  have HTM := Lib.hid HTm
  clear hs ht HTm
  go_enter Tryd.func5, Tryd.ntmps5
  go_upto_region 1 with (refine wpList_allocT rfl 25 rfl _ _ Tryd.info_rt ?_)
  generalize hW : World.alloc w _ = w1
  have HR1 := Lib.hid (show RtAt w1 w.heap.size (0, 0) by rw [← hW]; exact RtAt.new w (0, 0))
  have HB1 := Lib.hid (show Below w.heap.size w w1 by rw [← hW]; exact (Below.refl _ w).alloc (Nat.le_refl _) _)
  clear hW
  go_wp2_with fail
  refine (weTable_any ao c t w1 Hs.out (Ht.out.below HB1.out)).mono ?_
  rintro e w2 ⟨ha, rfl⟩
  by_cases hT : isTab t
  · have HT := Lib.hid hT
    clear hT
    obtain rfl := ha.is HT.out
    clear ha
    go_wp2_with fail
    refine (l1In_any x 0 3 w1).mono ?_
    rintro e w2 ⟨ha, rfl⟩
    by_cases hl : 0 ≤ x ∧ x ≤ 3
    · have Hl := Lib.hid hl
      obtain rfl := ha.is hl
      clear ha
      obtain ⟨l, rfl⟩ : ∃ l : Nat, x = (l : Int) := ⟨x.toNat, by omega⟩
      have hl3 : l ≤ 3 := by omega
      clear hl
      go_upto_region 4 with (first | (refine wpList_buildRn rfl 25 _ rfl [(1, .int .i64 1)] rfl (rtA (0, 1)) Tryd.built_rt1 ?_) | (refine wpList_allocT rfl 25 rfl _ _ Tryd.info_rt ?_) | (refine wpList_storeT rfl 25 _ _ rfl (rtA (0, 1)) (rtA (0, 0)) _ rfl rfl rfl (Tryd.size_rt _) (rt_same _ _) (rt_one _) ?_))
      generalize hW : World.alloc w1 _ = w6
      obtain ⟨H, hH⟩ : ∃ H, H = w1.heap.size := ⟨_, rfl⟩
      have HC6 := Lib.hid (show RtAt w6 H (0, 1) by rw [← hW, hH]; exact RtAt.new w1 (0, 1))
      have HR6 := Lib.hid (show RtAt w6 w.heap.size (0, 0) by rw [← hW]; exact HR1.out.alloc _)
      have HB6 := Lib.hid (show Below w.heap.size w w6 by rw [← hW]; exact HB1.out.alloc HB1.out.size _)
      have hHw : w.heap.size < H := by rw [hH]; exact HR1.out.lt
      rw [← hH]
      clear hW hH HR1 HB1
      have h1 := HT.out.1
      have CA := Lib.hid (weAll_any t.length w6 h1.1 h1.2)
      have hlen := allW_len t.length (by omega)
      have HA := Lib.hid (allW_lamOk HT.out)
      have HS := Lib.hid (show lamS t (l : Int) = lamR l t (allW t.length) (allW t.length).length by unfold lamS; rw [Int.toNat_natCast])
      obtain ⟨A, hA⟩ : ∃ A, A = allW t.length := ⟨_, rfl⟩
      rw [← hA] at CA hlen HA HS
      clear hA h1
      go_wp2_with fail
      refine CA.out.mono ?_
      rintro e w7 ⟨v7, ts, rfl, hv7, hb7⟩
      obtain ⟨ta, tc, rfl, ht1, ht2⟩ := hv7.head
      have Hv7 := Lib.hid hv7
      have HC7 := Lib.hid (HC6.out.below hb7)
      have HR7 := Lib.hid (HR6.out.below hb7)
      have HB7 := Lib.hid (HB6.out.trans (hb7.mono HB6.out.size))
      have hHl : H < w6.heap.size := HC6.out.lt
      clear hv7 hb7 CA HC6 HR6 HB6
      go_wp2
      go_loopw [25] (fun i wr => ∃ k : Nat, k ≤ A.length ∧ i = .int .i64 k ∧ RtAt wr H (lamR l t A k) ∧ RtAt wr w.heap.size (0, 0) ∧ OwnRL wr w6.heap.size (.slice ta A.length tc) A ts ∧ Below w.heap.size w wr) (fun i _ => A.length - (intOf i).toNat)
      case atStart => exact ⟨0, Nat.zero_le _, rfl, HC7.out, HR7.out, Hv7.out, HB7.out⟩
      case round =>
        obtain ⟨k, hk, rfl, hc, hr, hlist, hbr⟩ := hrel
        have Hc := Lib.hid hc
        have Hr := Lib.hid hr
        have Hlist := Lib.hid hlist
        have Hbr := Lib.hid hbr
        clear hc hr hlist hbr HC7 HR7 Hv7 HB7
        by_cases hlt : k < A.length
        · obtain ⟨b1, o1, r1, d1, e1, hc1, hm1, _, _⟩ := Hlist.out.at hlt
          obtain ⟨hgd, hok⟩ := HA.out _ (gt_mem hlt)
          obtain ⟨⟨s1, s2, s3⟩, ⟨p1, p2, p3⟩, hv, ⟨t1, t2, t3⟩⟩ := lam_step (lam := l) HT.out hl3 (fun m hm => (HA.out m hm).2) hlen hlt
          have hl4 : (gt A k).length ≤ 4 := by have := HT.out.1; have := hok.1; omega
          have htot := sumC_cN hgd hl4
          simp only [sumC] at htot
          have C := Lib.hid (weCounts_any r1 d1 (gt A k) wr hgd hm1)
          have CQ := Lib.hid (fun wx (hx : Below wr.heap.size wr wx) => wePowerOf_any r1 ao d1 c (gt A k) t wx ⟨⟨hgd, HT.out⟩, hok.1⟩ (hm1.below hx) ((Ht.out.below Hbr.out).below hx))
          have HNX := Lib.hid (show lamR l t A (k + 1) = pl (lamR l t A k) (tm (lamV l (gt A k), 1) (pwR (gt A k) t)) from rfl)
          have P0 := Lib.hid (fun w => wePower_any (l : Int) (cN (gt A k) 0) w (by omega) (fun j hj => by have := pw_small (x := (l : Int)) (by omega) (k := j) (by omega); omega))
          have P5 := Lib.hid (fun w => wePower_any (1 + (l : Int)) (cN (gt A k) 5) w (by omega) (fun j hj => by have := pw_small (x := 1 + (l : Int)) (by omega) (k := j) (by omega); omega))
          have hprod := lamV_eq l (gt A k)
          have q0 : cntK (gt A k) 0 = (cN (gt A k) 0 : Int) := cN_eq (by omega) 0
          have q5 : cntK (gt A k) 5 = (cN (gt A k) 5 : Int) := cN_eq (by omega) 5
          rw [hok.1] at hc1 C CQ
          subst e1
          obtain ⟨v, hvv⟩ : ∃ v, v = lamV l (gt A k) := ⟨_, rfl⟩
          obtain ⟨P, hP⟩ : ∃ P, P = pwR (gt A k) t := ⟨_, rfl⟩
          obtain ⟨S, hS⟩ : ∃ S, S = lamR l t A k := ⟨_, rfl⟩
          rw [← hvv] at HNX hv t1 t2 t3 hprod
          rw [← hP] at CQ HNX p1 p2 p3 t1 t2 t3
          rw [← hS] at HNX Hc s1 s2 s3
          have CT := Lib.hid (fun w => HTM.out (v, 1) P w (cop_one v) p1 (by simp only; omega) (by simp only; omega) (by omega) (by omega))
          have CR := Lib.hid (fun w => weRatio_any v 1 w (by omega) (by omega) (by omega))
          rw [show nrm v 1 = (v, 1) from nrm_id (cop_one v)] at CR
          obtain ⟨T, hTT⟩ : ∃ T, T = tm (v, 1) P := ⟨_, rfl⟩
          rw [← hTT] at CT HNX t1 t2 t3
          have m1 := Nat.mul_le_mul s2 t3
          have m2 := Nat.mul_le_mul t2 s3
          have CU := Lib.hid (fun w => wePlus_any S T w (Nat.mul_pos s1.2 t1.2) (by omega) (by have := Nat.mul_le_mul s3 t3; omega))
          obtain ⟨U, hU⟩ : ∃ U, U = pl S T := ⟨_, rfl⟩
          rw [← hU] at CU HNX
          obtain ⟨S1, S2'⟩ := S
          obtain ⟨P1, P2⟩ := P
          obtain ⟨T1, T2⟩ := T
          obtain ⟨U1, U2⟩ := U
          have CR2 : ∀ wx, Calls Tryd.prog 18 #[.int .i64 (v : Int), .int .i64 1] wx fun e w' => e = .returned (.agg #[.int .i64 (v : Int), .int .i64 1]) ∧ Below wx.heap.size wx w' := CR.out
          have CQ2 : ∀ wx, Below wr.heap.size wr wx → Calls Tryd.prog 19 #[.slice r1 t.length d1, .slice ao t.length c] wx fun e w' => e = .returned (.agg #[.int .i64 (P1 : Int), .int .i64 (P2 : Int)]) ∧ Below wx.heap.size wx w' := CQ.out
          have CT2 : ∀ wx, Calls Tryd.prog 17 #[.agg #[.int .i64 (v : Int), .int .i64 1], .agg #[.int .i64 (P1 : Int), .int .i64 (P2 : Int)]] wx fun e w' => e = .returned (.agg #[.int .i64 (T1 : Int), .int .i64 (T2 : Int)]) ∧ Below wx.heap.size wx w' := CT.out
          have CU2 : ∀ wx, Calls Tryd.prog 16 #[.agg #[.int .i64 (S1 : Int), .int .i64 (S2' : Int)], .agg #[.int .i64 (T1 : Int), .int .i64 (T2 : Int)]] wx fun e w' => e = .returned (.agg #[.int .i64 (U1 : Int), .int .i64 (U2 : Int)]) ∧ Below wx.heap.size wx w' := CU.out
          have c0 := Hc.out.c0
          have c1 := Hc.out.c1
          have hfacts : ∀ w'', Below wr.heap.size wr w'' → w''.cell? ⟨H, 0, none⟩ = some (.int .i64 (S1 : Int)) ∧ w''.cell? ⟨H, 1, none⟩ = some (.int .i64 (S2' : Int)) ∧ w''.frozen? ⟨H, 0, none⟩ = false ∧ w''.frozen? ⟨H, 1, none⟩ = false := fun w'' hb =>
            ⟨cell_below c0 hb, cell_below c1 hb, frozen_of_row w'' H 0 _ _ (Hc.out.below hb), frozen_of_row w'' H 1 _ _ (Hc.out.below hb)⟩
          have Hfacts := Lib.hid hfacts
          have KR := Lib.hid CR2
          have KQ := Lib.hid CQ2
          have KT := Lib.hid CT2
          have KU := Lib.hid CU2
          obtain ⟨z, hz⟩ : ∃ z, z = 1 + (l : Int) := ⟨_, rfl⟩
          have hzw : IntKind.i64.wrap (1 + (l : Int)) = z := by rw [hz]; exact w64 (by omega)
          rw [← hz] at P5 hprod
          obtain ⟨M, hM⟩ : ∃ M, M = gt A k := ⟨_, rfl⟩
          rw [← hM] at P0 P5 q0 q5 C hprod
          obtain ⟨n0, hn0⟩ : ∃ n, n = cN M 0 := ⟨_, rfl⟩
          obtain ⟨n5, hn5⟩ : ∃ n, n = cN M 5 := ⟨_, rfl⟩
          rw [← hn0] at q0 P0 hprod
          rw [← hn5] at q5 P5 hprod
          obtain ⟨x1, hx1⟩ : ∃ y, y = pw (l : Int) n0 := ⟨_, rfl⟩
          obtain ⟨x3, hx3⟩ : ∃ y, y = pw z n5 := ⟨_, rfl⟩
          rw [← hx1] at P0 hprod
          rw [← hx3] at P5 hprod
          have v1 : IntKind.i64.wrap (x1 * x3) = (v : Int) := by rw [hprod]; exact w64 (by omega)
          have HQ := Lib.hid (And.intro q0 q5)
          clear CQ CT CU CR CR2 CQ2 CT2 CU2 hfacts hm1 hgd hok s1 s2 s3 p1 p2 p3 t1 t2 t3 hv m1 m2 hvv hP hS hTT hU hl4 htot hprod hz hn0 hn5 hx1 hx3 q0 q5 c0 c1
          go_wp2_with fail
          refine C.out.mono ?_
          rintro e w4 ⟨cv, rfl, hcv, hb4⟩
          have hvl : ∃ g cc, cv = .slice (some ⟨g, 0, none⟩) 6 cc := by
            obtain ⟨va, vc, e, _, _, _⟩ := hcv.read
            rw [cntL_len] at e
            subst e
            obtain ⟨g, rfl, _⟩ := hcv.isAt (by omega)
            exact ⟨g, vc, rfl⟩
          obtain ⟨g, cc, rfl⟩ := hvl
          have c0 := hcv.cellAt 0 (by omega)
          have c5 := hcv.cellAt 5 (by omega)
          obtain ⟨q0, q5⟩ := HQ.out
          rw [show gi (cntL (cntK M)) 0 = cntK M 0 from rfl, q0] at c0
          rw [show gi (cntL (cntK M)) 5 = cntK M 5 from rfl, q5] at c5
          have Hb4 := Lib.hid hb4
          clear hcv hb4 q0 q5 HQ hM C hc1
          go_upto_region 8 with (fail)
          refine wp_region_still_lit (by kernel_rfl) (by kernel_rfl) ?_
          have d0 := cellD c0
          have d5 := cellD c5
          repeat still_step
          still_call (P0.out _)
          repeat still_step
          still_call (P5.out _)
          repeat still_step
          refine wpStill_nil ?_
          generalize hw5 : ({ heap := w4.heap, tape := w4.tape, drawn := w4.drawn + 1, os := w4.os, output := w4.output } : World) = w5
          have HB5 := Lib.hid (show Below wr.heap.size wr w5 by rw [← hw5]; exact Below.drew Hb4.out)
          have HBc := Lib.hid (show Below wr.heap.size wr w5.drew from Below.drew HB5.out)
          obtain ⟨q0, q1, q2, q3⟩ := Hfacts.out _ HB5.out
          clear c0 c5 d0 d5 hw5 Hb4 P0 P5 hzw v1
          go_wp2
          go_region_with (first
            | (go_at_call 18; refine (KR.out _).mono ?_; rintro e w5 ⟨rfl, hb5⟩; have HBd := Lib.hid (HBc.out.trans (hb5.mono HBc.out.size)); clear hb5 HBc; have HBc := HBd; clear HBd; obtain ⟨q0, q1, q2, q3⟩ := Hfacts.out _ HBc.out)
            | (go_at_call 19; refine (KQ.out _ ?_).mono ?_; exact HBc.out; rintro e w5 ⟨rfl, hb5⟩; have HBd := Lib.hid (HBc.out.trans (hb5.mono HBc.out.size)); clear hb5 HBc; have HBc := HBd; clear HBd; obtain ⟨q0, q1, q2, q3⟩ := Hfacts.out _ HBc.out)
            | (go_at_call 17; refine (KT.out _).mono ?_; rintro e w5 ⟨rfl, hb5⟩; have HBd := Lib.hid (HBc.out.trans (hb5.mono HBc.out.size)); clear hb5 HBc; have HBc := HBd; clear HBd; obtain ⟨q0, q1, q2, q3⟩ := Hfacts.out _ HBc.out)
            | (go_at_call 16; refine (KU.out _).mono ?_; rintro e w9 ⟨rfl, hb5⟩; have HBd := Lib.hid (HBc.out.trans (hb5.mono HBc.out.size)); clear hb5 HBc; have HBc := HBd; clear HBd; obtain ⟨q0, q1, q2, q3⟩ := Hfacts.out _ HBc.out))
          all_goals
            have HCn := Lib.hid ((Hc.out.below HBc.out).put U1 U2)
            have HRn := Lib.hid ((Hr.out.below HBc.out).putOther (g' := H) (by omega) (.int .i64 (U1 : Int)) (.int .i64 (U2 : Int)))
            have HLn := Lib.hid (((Hlist.out.below HBc.out).setLow (g := H) (k := 0) hHl (.int .i64 (U1 : Int))).setLow (g := H) (k := 1) hHl (.int .i64 (U2 : Int)))
            have HBn := Lib.hid (((Hbr.out.trans (HBc.out.mono Hbr.out.size)).setCell (p := ⟨H, 0, none⟩) (Nat.le_of_lt hHw) (.int .i64 (U1 : Int))).setCell (p := ⟨H, 1, none⟩) (Nat.le_of_lt hHw) (.int .i64 (U2 : Int)))
            clear q0 q1 q2 q3 KR KQ KT KU Hfacts
            go_wp2
            go_roundw
            case rel => exact ⟨k + 1, by omega, by go_num, by rw [HNX.out]; exact HCn.out, HRn.out, HLn.out, HBn.out⟩
            case measure => simp [intOf]; omega
        · obtain rfl : k = A.length := by omega
          have HC := Lib.hid (show RtAt wr H (lamS t (l : Int)) by rw [HS.out]; exact Hc.out)
          clear Hc
          go_wp2_with (first | (refine wpList_loadG rfl 25 _ rfl _ rfl _ _ HC.out Tryd.underlying25 rfl (Tryd.size_rt _) ?_) | (refine wpList_storeG rfl 25 _ _ rfl _ (rtA (lamS t (l : Int))) _ rfl rfl Hr.out (Tryd.size_rt _) (rt_same _ _) (rt_one _) ?_))
          have HR3 := Lib.hid (Hr.out.setRow (lamS t (l : Int)))
          have HB3 := Lib.hid (below_setRowT Hbr.out (Nat.le_refl _) (rtA (lamS t (l : Int))))
          refine bodyPost_ret (v := .tuple #[.agg (rtA (lamS t (l : Int))), .bool true]) ?_ rfl ⟨RtRes.yes ⟨HT.out, Hl.out⟩, HB3.out⟩
          exact results_cell_two (p := 4) (q := 5) rfl _ _ w.heap.size _ rfl (Tryd.load_rt HR3.out)
    · have Hl := Lib.hid hl
      obtain rfl := ha.isnt hl
      clear ha hl
      go_wp2_with (first | (refine wpList_buildT0 rfl 25 rfl _ Tryd.built_rt0 ?_) | (refine wpList_storeG rfl 25 _ _ rfl _ (rtA (0, 0)) _ rfl rfl HR1.out (Tryd.size_rt _) (rt_same _ _) (rt_one _) ?_))
      have HR5 := Lib.hid (HR1.out.setRow (0, 0))
      have HB5 := Lib.hid (below_setRowT HB1.out (Nat.le_refl _) (rtA (0, 0)))
      refine bodyPost_ret (v := .tuple #[.agg (rtA (0, 0)), .bool false]) ?_ rfl ⟨RtRes.no (fun h => Hl.out h.2), HB5.out⟩
      exact results_cell_two (p := 4) (q := 5) rfl _ _ w.heap.size _ rfl (Tryd.load_rt HR5.out)
  · have HT := Lib.hid hT
    clear hT
    obtain rfl := ha.isnt HT.out
    clear ha
    go_wp2_with (first | (refine wpList_buildT0 rfl 25 rfl _ Tryd.built_rt0 ?_) | (refine wpList_storeG rfl 25 _ _ rfl _ (rtA (0, 0)) _ rfl rfl HR1.out (Tryd.size_rt _) (rt_same _ _) (rt_one _) ?_))
    have HR5 := Lib.hid (HR1.out.setRow (0, 0))
    have HB5 := Lib.hid (below_setRowT HB1.out (Nat.le_refl _) (rtA (0, 0)))
    refine bodyPost_ret (v := .tuple #[.agg (rtA (0, 0)), .bool false]) ?_ rfl ⟨RtRes.no (fun h => HT.out h.1), HB5.out⟩
    exact results_cell_two (p := 4) (q := 5) rfl _ _ w.heap.size _ rfl (Tryd.load_rt HR5.out)
end Go.Proofs.YtmonhmbnbhaemaaDoor

