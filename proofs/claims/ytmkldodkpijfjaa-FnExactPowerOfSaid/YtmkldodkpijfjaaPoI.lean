/- Contracts: tables; the product of a table by a matrix, by the program. Conditions: as each says. -/
import Derived.Test.YtmkldodkpijfjaaPoM
import Derived.Test.YtmkldodkpijfjaaRtO
import Derived.Test.YtmkldodkpijfjaaWwI
import Derived.Deep.RegionWith
namespace Go.Proofs.Ytmkldodkpijfjaa
open Go.RowKit

set_option maxRecDepth 100000 in
set_option maxHeartbeats 3200000 in
theorem powerOf_any (a1 a2 : Option Addr) (c1 c2 : Nat) (m t : List (List Int)) (w : World) (hok : okPw m t) (hm : MatAt w a1 m) (ht : MatAt w a2 t) :
    Calls Try.prog 24 #[.slice a1 m.length c1, .slice a2 t.length c2] w fun e w' => e = .returned (.agg (rtA (pwR m t))) ∧ Below w.heap.size w w' := by
  have hn := hok.1.1.1.2.1
  have hl := hok.2
  have h4 := hok.1.2.1
  have hmx : m.length ≤ 9223372036854775807 := by omega
  have Hok := Lib.hid hok
  have Hm := Lib.hid hm
  have Ht := Lib.hid ht
  have Hl := Lib.hid hl
  clear hok hm ht hl
  go_enter Try.func24, Try.ntmps24
  go_upto_region 1 with (refine wpList_allocT rfl 25 rfl _ _ Try.info_rt ?_)
  generalize hW : World.alloc w _ = w1
  have HR1 := Lib.hid (show RtAt w1 w.heap.size (0, 0) by rw [← hW]; exact RtAt.new w (0, 0))
  have HB1 := Lib.hid (show Below w.heap.size w w1 by rw [← hW]; exact (Below.refl _ w).alloc (Nat.le_refl _) _)
  clear hW
  go_wp2_with fail
  refine (whole_any 1 w1).mono ?_
  rintro e w2 ⟨rfl, hb⟩
  have HR2 := Lib.hid (HR1.out.below hb)
  have HB2 := Lib.hid (HB1.out.trans (hb.mono HB1.out.size))
  clear hb HR1 HB1
  go_upto_region 2 with (first | (refine wpList_allocT rfl 25 rfl _ _ Try.info_rt ?_) | (refine wpList_storeT rfl 25 _ _ rfl (rtA (1, 1)) (rtA (0, 0)) _ rfl rfl rfl (Try.size_rt _) (rt_same _ _) (rt_one _) ?_))
  generalize hW : World.alloc w2 _ = w3
  obtain ⟨H, hH⟩ : ∃ H, H = w2.heap.size := ⟨_, rfl⟩
  have HC3 := Lib.hid (show RtAt w3 H (1, 1) by rw [← hW, hH]; exact RtAt.new w2 (1, 1))
  have HR3 := Lib.hid (show RtAt w3 w.heap.size (0, 0) by rw [← hW]; exact HR2.out.alloc _)
  have HB3 := Lib.hid (show Below w.heap.size w w3 by rw [← hW]; exact HB2.out.alloc HB2.out.size _)
  have hHw : w.heap.size < H := by rw [hH]; exact HR2.out.lt
  rw [← hH]
  clear hW hH HR2 HB2
  go_wp2
  go_loopw [13] (fun i wr => ∃ k : Nat, k ≤ m.length ∧ i = .int .i64 k ∧ RtAt wr H (nrm (prd 1 m t k 0) (prd (-1) m t k 0)) ∧ RtAt wr w.heap.size (0, 0) ∧ Below w.heap.size w wr) (fun i _ => m.length - (intOf i).toNat)
  case atStart => exact ⟨0, Nat.zero_le _, rfl, by rw [prd_zero, prd_zero]; exact HC3.out, HR3.out, HB3.out⟩
  case round =>
    obtain ⟨k, hk, rfl, hc, hr, hbr⟩ := hrel
    have Hc := Lib.hid hc
    have Hr := Lib.hid hr
    have Hbr := Lib.hid hbr
    clear hc hr hbr HC3 HR3 HB3
    obtain ⟨wo, rfl⟩ : ∃ wo : World, wo = wr := ⟨_, rfl⟩
    by_cases hlt : k < m.length
    · obtain ⟨b1, o1, r1, d1, e0, hc0, hx1, _, _⟩ := Hm.out k hlt
      have hltt : k < t.length := by have := Hl.out; omega
      obtain ⟨b3, o3, r3, d3, e3, hc3, hx3, _, _⟩ := Ht.out k hltt
      have hrl : (gr m k).length = m.length := Hok.out.1.1.1.2.2 k hlt
      have hrl3 : (gr t k).length = m.length := by rw [(Hok.out.1.2.2 k hltt).1, Hl.out]
      rw [hrl] at hc0
      rw [hrl3] at hc3
      have hc1 := cell_below hc0 Hbr.out
      subst e0
      subst e3
      have Hrow := Lib.hid hx1
      have Hrow3 := Lib.hid hx3
      have Hrl := Lib.hid hrl
      have Hrl3 := Lib.hid hrl3
      have Hc3 := Lib.hid hc3
      clear hx1 hx3 hrl hrl3 hc0 hc3
      go_wp2
      go_loopw [20] (fun i wr => ∃ j : Nat, j ≤ m.length ∧ i = .int .i64 j ∧ RtAt wr H (nrm (prd 1 m t k j) (prd (-1) m t k j)) ∧ RtAt wr w.heap.size (0, 0) ∧ Below w.heap.size w wr) (fun i _ => m.length - (intOf i).toNat)
      case atStart => exact ⟨0, Nat.zero_le _, rfl, Hc.out, Hr.out, Hbr.out⟩
      case round =>
        obtain ⟨j, hj, rfl, hc, hr, hbi⟩ := hrel
        clear Hc Hr Hbr
        by_cases hjl : j < m.length
        · obtain ⟨b2, o2, e2, hc2⟩ := Hrow.out.below hbi j (by rw [Hrl.out]; exact hjl)
          obtain ⟨b4, o4, e4, hc4⟩ := Hrow3.out.below hbi j (by rw [Hrl3.out]; exact hjl)
          have hc3 := cell_below Hc3.out hbi
          subst e2
          subst e4
          obtain ⟨hy, hy1, hy4⟩ := eN_eq Hok.out.1.2 hltt (show j < t.length by have := Hl.out; omega)
          rw [hy] at hc4
          have hN := prd_bd (s := 1) Hok.out.1.2 Hl.out hltt (show j ≤ t.length by have := Hl.out; omega)
          have hD := prd_bd (s := -1) Hok.out.1.2 Hl.out hltt (show j ≤ t.length by have := Hl.out; omega)
          have HS1 := Lib.hid (show gi (gr m k) j = 1 → prd 1 m t k (j + 1) = prd 1 m t k j * eN t k j ∧ prd (-1) m t k (j + 1) = prd (-1) m t k j from fun h => ⟨prd_yes h, prd_no (by rw [h]; decide)⟩)
          have HS2 := Lib.hid (show gi (gr m k) j = -1 → prd 1 m t k (j + 1) = prd 1 m t k j ∧ prd (-1) m t k (j + 1) = prd (-1) m t k j * eN t k j from fun h => ⟨prd_no (by rw [h]; decide), prd_yes h⟩)
          have HS0 := Lib.hid (show gi (gr m k) j ≠ 1 → gi (gr m k) j ≠ -1 → prd 1 m t k (j + 1) = prd 1 m t k j ∧ prd (-1) m t k (j + 1) = prd (-1) m t k j from fun h h' => ⟨prd_no h, prd_no h'⟩)
          obtain ⟨x, hx⟩ : ∃ x, x = gi (gr m k) j := ⟨_, rfl⟩
          obtain ⟨y, hyy⟩ : ∃ y, y = eN t k j := ⟨_, rfl⟩
          obtain ⟨N, hNN⟩ : ∃ N, N = prd 1 m t k j := ⟨_, rfl⟩
          obtain ⟨D, hDD⟩ : ∃ D, D = prd (-1) m t k j := ⟨_, rfl⟩
          rw [← hx] at hc2 HS0 HS1 HS2
          rw [← hyy] at hc4 hy1 hy4 HS1 HS2
          rw [← hNN] at hN hc HS0 HS1 HS2
          rw [← hDD] at hD hc HS0 HS1 HS2
          have hle := nrm_le N D
          have hcop := nrm_cop (p := N) (q := D) (by omega)
          have Hpos := Lib.hid hcop.2
          have c50 := hc.c0
          have c51 := hc.c1
          obtain ⟨A, hA⟩ : ∃ A, A = nrm N D := ⟨_, rfl⟩
          have HA := Lib.hid hA
          have HD := Lib.hid hD
          rw [← hA] at hle Hpos c50 c51 hc
          obtain ⟨A1, A2⟩ := A
          simp only at hle Hpos c50 c51
          have Hc := Lib.hid hc
          have Hr := Lib.hid hr
          have Hbi := Lib.hid hbi
          clear hx hyy hNN hDD hcop hA hc hr hbi hy hD
          by_cases e1 : x = 1
          · have hb1 : (x == 1) = true := by simpa using e1
            obtain ⟨S1, S2'⟩ := HS1.out e1
            have HT := Lib.hid (And.intro S1 S2')
            clear e1 HS0 HS1 HS2 S1 S2'
            have hp1 : A1 * y ≤ 4000000000000000000 := Nat.le_trans (Nat.mul_le_mul hle.1 hy4) (by omega)
            have hq1 : A2 * 1 ≤ 4000000000000000000 := by have := HD.out.2; omega
            have hq0 : 0 < A2 * 1 := by have := Hpos.out; omega
            have CT := Lib.hid (fun w => times_any (A1, A2) (y, 1) w hq0 hp1 hq1)
            have Hres := Lib.hid (show tm (A1, A2) (y, 1) = nrm (N * y) D by rw [HA.out]; exact tm_whole (by have := HD.out.1; omega) y)
            obtain ⟨⟨R1, R2⟩, hR⟩ : ∃ R, R = nrm (N * y) D := ⟨_, rfl⟩
            rw [Hres.out, ← hR] at CT
            have HRR := Lib.hid hR
            clear hR
            have CT2 : ∀ w, Calls Try.prog 43 #[.agg #[.int .i64 (A1 : Int), .int .i64 (A2 : Int)], .agg #[.int .i64 (y : Int), .int .i64 1]] w fun e w' => e = .returned (.agg #[.int .i64 (R1 : Int), .int .i64 (R2 : Int)]) ∧ Below w.heap.size w w' := CT.out
            have CT3 := Lib.hid CT2
            clear CT CT2
            clear hp1 hq1 hq0 hle hN
            have hfacts : ∀ w'', Below wr.heap.size wr w'' → w''.cell? ⟨H, 0, none⟩ = some (.int .i64 (A1 : Int)) ∧ w''.cell? ⟨H, 1, none⟩ = some (.int .i64 (A2 : Int)) ∧ w''.cell? ⟨b3, o3 + k, none⟩ = some (.slice (some ⟨b4, o4, none⟩) m.length d3) ∧ w''.cell? ⟨b4, o4 + j, none⟩ = some (.int .i64 (y : Int)) ∧ w''.frozen? ⟨H, 0, none⟩ = false ∧ w''.frozen? ⟨H, 1, none⟩ = false := fun w'' hb =>
              ⟨cell_below c50 hb, cell_below c51 hb, cell_below hc3 hb, cell_below hc4 hb, frozen_of_row w'' H 0 _ _ (Hc.out.below hb), frozen_of_row w'' H 1 _ _ (Hc.out.below hb)⟩
            have Hfacts := Lib.hid hfacts
            have CW : ∀ w, Calls Try.prog 42 #[.int .i64 (y : Int)] w fun e w' => e = .returned (.agg #[.int .i64 (y : Int), .int .i64 1]) ∧ Below w.heap.size w w' := fun w => whole_any y w
            have CW := Lib.hid CW
            clear hfacts
            go_wp2
            go_region_with (first
              | (go_at_call 42; refine (CW.out _).mono ?_; rintro e w5 ⟨rfl, hb5⟩; obtain ⟨q0, q1, q2, q3, _, _⟩ := Hfacts.out w5 ((below_drewN (Below.refl _ _) 1).trans hb5); have HB5 := Lib.hid ((below_drewN (Below.refl wr.heap.size wr) 1).trans hb5); clear hb5)
              | (go_at_call 43; refine (CT3.out _).mono ?_; rintro e w6 ⟨rfl, hb6⟩; have HB6 := Lib.hid (HB5.out.trans (hb6.mono HB5.out.size)); clear hb6; obtain ⟨s0, s1, _, _, s2, s3⟩ := Hfacts.out w6 HB6.out))
            all_goals
              have HCn := Lib.hid ((Hc.out.below HB6.out).put R1 R2)
              have HRn := Lib.hid ((Hr.out.below HB6.out).putOther (g' := H) (by omega) (.int .i64 (R1 : Int)) (.int .i64 (R2 : Int)))
              have HBn := Lib.hid (((Hbi.out.trans (HB6.out.mono Hbi.out.size)).setCell (p := ⟨H, 0, none⟩) (Nat.le_of_lt hHw) (.int .i64 (R1 : Int))).setCell (p := ⟨H, 1, none⟩) (Nat.le_of_lt hHw) (.int .i64 (R2 : Int)))
              clear q0 q1 q2 q3 s0 s1 s2 s3 hc1 hc2 hc3 hc4 c50 c51 CW CT3 Hfacts
              go_wp2
              go_roundw
              case rel => exact ⟨j + 1, by omega, by go_num, by rw [HT.out.1, HT.out.2, ← HRR.out]; exact HCn.out, HRn.out, HBn.out⟩
              case measure => simp [intOf]; omega
          · have hb1 : (x == 1) = false := by simpa using e1
            by_cases e2 : x = -1
            · have hb2 : (x == -1) = true := by simpa using e2
              obtain ⟨S1, S2'⟩ := HS2.out e2
              have HT := Lib.hid (And.intro S1 S2')
              clear e1 e2 HS0 HS1 HS2 S1 S2'
              have hp1 : A1 * 1 ≤ 4000000000000000000 := by omega
              have hq1 : A2 * y ≤ 4000000000000000000 := by have h1 := HD.out.2; exact Nat.le_trans (Nat.mul_le_mul hle.2 hy4) (by omega)
              have hq0 : 0 < A2 * y := Nat.mul_pos Hpos.out hy1
              have CT := Lib.hid (fun w => over_any (A1, A2) (y, 1) w hq0 hp1 hq1)
              have Hres := Lib.hid (show ov (A1, A2) (y, 1) = nrm N (D * y) by rw [HA.out]; exact ov_whole (by have := HD.out.1; omega) y)
              obtain ⟨⟨R1, R2⟩, hR⟩ : ∃ R, R = nrm N (D * y) := ⟨_, rfl⟩
              rw [Hres.out, ← hR] at CT
              have HRR := Lib.hid hR
              clear hR
              have CT2 : ∀ w, Calls Try.prog 44 #[.agg #[.int .i64 (A1 : Int), .int .i64 (A2 : Int)], .agg #[.int .i64 (y : Int), .int .i64 1]] w fun e w' => e = .returned (.agg #[.int .i64 (R1 : Int), .int .i64 (R2 : Int)]) ∧ Below w.heap.size w w' := CT.out
              have CT3 := Lib.hid CT2
              clear CT CT2
              clear hp1 hq1 hq0 hle hN
              have hfacts : ∀ w'', Below wr.heap.size wr w'' → w''.cell? ⟨H, 0, none⟩ = some (.int .i64 (A1 : Int)) ∧ w''.cell? ⟨H, 1, none⟩ = some (.int .i64 (A2 : Int)) ∧ w''.cell? ⟨b3, o3 + k, none⟩ = some (.slice (some ⟨b4, o4, none⟩) m.length d3) ∧ w''.cell? ⟨b4, o4 + j, none⟩ = some (.int .i64 (y : Int)) ∧ w''.frozen? ⟨H, 0, none⟩ = false ∧ w''.frozen? ⟨H, 1, none⟩ = false := fun w'' hb =>
                ⟨cell_below c50 hb, cell_below c51 hb, cell_below hc3 hb, cell_below hc4 hb, frozen_of_row w'' H 0 _ _ (Hc.out.below hb), frozen_of_row w'' H 1 _ _ (Hc.out.below hb)⟩
              have Hfacts := Lib.hid hfacts
              have CW : ∀ w, Calls Try.prog 42 #[.int .i64 (y : Int)] w fun e w' => e = .returned (.agg #[.int .i64 (y : Int), .int .i64 1]) ∧ Below w.heap.size w w' := fun w => whole_any y w
              have CW := Lib.hid CW
              clear hfacts
              go_wp2
              go_region_with (first
                | (go_at_call 42; refine (CW.out _).mono ?_; rintro e w5 ⟨rfl, hb5⟩; obtain ⟨q0, q1, q2, q3, _, _⟩ := Hfacts.out w5 ((below_drewN (Below.refl _ _) 1).trans hb5); have HB5 := Lib.hid ((below_drewN (Below.refl wr.heap.size wr) 1).trans hb5); clear hb5)
                | (go_at_call 44; refine (CT3.out _).mono ?_; rintro e w6 ⟨rfl, hb6⟩; have HB6 := Lib.hid (HB5.out.trans (hb6.mono HB5.out.size)); clear hb6; obtain ⟨s0, s1, _, _, s2, s3⟩ := Hfacts.out w6 HB6.out))
              all_goals
                have HCn := Lib.hid ((Hc.out.below HB6.out).put R1 R2)
                have HRn := Lib.hid ((Hr.out.below HB6.out).putOther (g' := H) (by omega) (.int .i64 (R1 : Int)) (.int .i64 (R2 : Int)))
                have HBn := Lib.hid (((Hbi.out.trans (HB6.out.mono Hbi.out.size)).setCell (p := ⟨H, 0, none⟩) (Nat.le_of_lt hHw) (.int .i64 (R1 : Int))).setCell (p := ⟨H, 1, none⟩) (Nat.le_of_lt hHw) (.int .i64 (R2 : Int)))
                clear q0 q1 q2 q3 s0 s1 s2 s3 hc1 hc2 hc3 hc4 c50 c51 CW CT3 Hfacts
                go_wp2
                go_roundw
                case rel => exact ⟨j + 1, by omega, by go_num, by rw [HT.out.1, HT.out.2, ← HRR.out]; exact HCn.out, HRn.out, HBn.out⟩
                case measure => simp [intOf]; omega
            · have hb2 : (x == -1) = false := by simpa using e2
              obtain ⟨S1, S2'⟩ := HS0.out e1 e2
              have HC0 := Lib.hid (show RtAt wr H (nrm (prd 1 m t k (j + 1)) (prd (-1) m t k (j + 1))) by rw [S1, S2', ← HA.out]; exact Hc.out)
              clear e1 e2 HS0 HS1 HS2 S1 S2' hc1 hc3 hc4 c50 c51 hle hN
              go_wp2
              go_roundw
              case rel => exact ⟨j + 1, by omega, by go_num, HC0.out, Hr.out, Hbi.out⟩
              case measure => simp [intOf]; omega
        · obtain rfl : j = m.length := by omega
          rw [prd_row, prd_row] at hc
          have Hc := Lib.hid hc
          have Hr := Lib.hid hr
          have Hbi := Lib.hid hbi
          clear hc hr hbi
          go_wp2
          go_roundw
          case rel => exact ⟨k + 1, by omega, by go_num, Hc.out, Hr.out, Hbi.out⟩
          case measure => simp [intOf]; omega
    · obtain rfl : k = m.length := by omega
      have HC := Lib.hid (show RtAt wo H (pwR m t) by have := Hc.out; rw [prd_end, prd_end] at this; exact this)
      clear Hc
      go_wp2_with (first | (refine wpList_loadG rfl 25 _ rfl _ rfl _ _ HC.out Try.underlying25 rfl (Try.size_rt _) ?_) | (refine wpList_storeG rfl 25 _ _ rfl _ (rtA (pwR m t)) _ rfl rfl Hr.out (Try.size_rt _) (rt_same _ _) (rt_one _) ?_))
      have HR3 := Lib.hid (Hr.out.setRow (pwR m t))
      have HB3 := Lib.hid (below_setRowT Hbr.out (Nat.le_refl _) (rtA (pwR m t)))
      refine bodyPost_ret (v := .agg (rtA (pwR m t))) ?_ rfl ⟨rfl, HB3.out⟩
      exact results_cell_one rfl _ _ w.heap.size _ rfl (Try.load_rt HR3.out)
end Go.Proofs.Ytmkldodkpijfjaa
