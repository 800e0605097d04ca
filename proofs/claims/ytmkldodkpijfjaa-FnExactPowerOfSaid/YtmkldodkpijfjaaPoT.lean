/- Contracts: the product of a table by a matrix; PowerOf, by the model. Conditions: as each says. -/
import Derived.Test.YtmkldodkpijfjaaPoS
namespace Go.Proofs.Ytmkldodkpijfjaa
open Go.RowKit

set_option maxRecDepth 100000 in
set_option maxHeartbeats 3200000 in
theorem wePowerOf_any (a1 a2 : Option Addr) (c1 c2 : Nat) (m t : List (List Int)) (w : World) (hok : okPw m t) (hm : MatAt w a1 m) (ht : MatAt w a2 t) :
    Calls Try.prog 20 #[.slice a1 m.length c1, .slice a2 t.length c2] w fun e w' => e = .returned (.agg (rtA (pwR m t))) ∧ Below w.heap.size w w' := by
  have hn := hok.1.1.1.2.1
  have hl := hok.2
  have h4 := hok.1.2.1
  have hmx : m.length ≤ 9223372036854775807 := by omega
  have Hok := Lib.hid hok
  have Hm := Lib.hid hm
  have Ht := Lib.hid ht
  have Hl := Lib.hid hl
  clear hok hm ht hl
  go_enter Try.func20, Try.ntmps20
  go_upto_region 1 with (refine wpList_allocT rfl 25 rfl _ _ Try.info_rt ?_)
  generalize hW : World.alloc w _ = w1
  have HR1 := Lib.hid (show RtAt w1 w.heap.size (0, 0) by rw [← hW]; exact RtAt.new w (0, 0))
  have HB1 := Lib.hid (show Below w.heap.size w w1 by rw [← hW]; exact (Below.refl _ w).alloc (Nat.le_refl _) _)
  clear hW
  go_wp2
  go_loop [5, 6, 13] (fun num den i => ∃ k : Nat, k ≤ m.length ∧ i = .int .i64 k ∧ num = .int .i64 (prd 1 m t k 0 : Nat) ∧ den = .int .i64 (prd (-1) m t k 0 : Nat)) (fun _ _ i => m.length - (intOf i).toNat)
  case atStart => exact ⟨0, Nat.zero_le _, rfl, rfl, rfl⟩
  case round =>
    obtain ⟨k, hk, rfl, rfl, rfl⟩ := hrel
    by_cases hlt : k < m.length
    · obtain ⟨b1, o1, r1, d1, e0, hc0, hx1, _, _⟩ := Hm.out.below HB1.out k hlt
      have hltt : k < t.length := by have := Hl.out; omega
      obtain ⟨b3, o3, r3, d3, e3, hc3, hx3, _, _⟩ := Ht.out.below HB1.out k hltt
      have hrl : (gr m k).length = m.length := Hok.out.1.1.1.2.2 k hlt
      have hrl3 : (gr t k).length = m.length := by rw [(Hok.out.1.2.2 k hltt).1, Hl.out]
      rw [hrl] at hc0
      rw [hrl3] at hc3
      subst e0
      subst e3
      have Hrow := Lib.hid hx1
      have Hrow3 := Lib.hid hx3
      have Hrl := Lib.hid hrl
      have Hrl3 := Lib.hid hrl3
      clear hx1 hx3 hrl hrl3
      go_wp2
      go_loop [5, 6, 20] (fun num den i => ∃ j : Nat, j ≤ m.length ∧ i = .int .i64 j ∧ num = .int .i64 (prd 1 m t k j : Nat) ∧ den = .int .i64 (prd (-1) m t k j : Nat)) (fun _ _ i => m.length - (intOf i).toNat)
      case atStart => exact ⟨0, Nat.zero_le _, rfl, rfl, rfl⟩
      case round =>
        obtain ⟨j, hj, rfl, rfl, rfl⟩ := hrel
        by_cases hjl : j < m.length
        · obtain ⟨b2, o2, e2, hc2⟩ := Hrow.out j (by rw [Hrl.out]; exact hjl)
          obtain ⟨b4, o4, e4, hc4⟩ := Hrow3.out j (by rw [Hrl3.out]; exact hjl)
          subst e2
          subst e4
          obtain ⟨hy, hy1, hy4⟩ := eN_eq Hok.out.1.2 hltt (show j < t.length by have := Hl.out; omega)
          rw [hy] at hc4
          have hN := prd_bd (s := 1) Hok.out.1.2 Hl.out hltt (show j ≤ t.length by have := Hl.out; omega)
          have hD := prd_bd (s := -1) Hok.out.1.2 Hl.out hltt (show j ≤ t.length by have := Hl.out; omega)
          have HS1 := Lib.hid (show gi (gr m k) j = 1 → prd 1 m t k (j + 1) = prd 1 m t k j * eN t k j ∧ prd (-1) m t k (j + 1) = prd (-1) m t k j from fun h => ⟨prd_yes h, prd_no (by rw [h]; decide)⟩)
          have HS2 := Lib.hid (show gi (gr m k) j = -1 → prd 1 m t k (j + 1) = prd 1 m t k j ∧ prd (-1) m t k (j + 1) = prd (-1) m t k j * eN t k j from fun h => ⟨prd_no (by rw [h]; decide), prd_yes h⟩)
          have HS0 := Lib.hid (show gi (gr m k) j ≠ 1 → gi (gr m k) j ≠ -1 → prd 1 m t k (j + 1) = prd 1 m t k j ∧ prd (-1) m t k (j + 1) = prd (-1) m t k j from fun h h' => ⟨prd_no h, prd_no h'⟩)
          obtain ⟨x, hx⟩ : ∃ x, x = gi (gr m k) j := ⟨_, rfl⟩
          obtain ⟨y, hyy⟩ : ∃ y, y = eN t k j := ⟨_, rfl⟩
          obtain ⟨N, hNN⟩ : ∃ N, N = prd 1 m t k j := ⟨_, rfl⟩
          obtain ⟨D, hDD⟩ : ∃ D, D = prd (-1) m t k j := ⟨_, rfl⟩
          rw [← hx] at hc2 HS0 HS1 HS2
          rw [← hyy] at hc4 hy1 hy4 HS1 HS2
          rw [← hNN] at hN HS0 HS1 HS2 ⊢
          rw [← hDD] at hD HS0 HS1 HS2 ⊢
          have hNy : N * y ≤ 4398046511104 := Nat.le_trans (Nat.mul_le_mul hN.2 hy4) (by omega)
          have hDy : D * y ≤ 4398046511104 := Nat.le_trans (Nat.mul_le_mul hD.2 hy4) (by omega)
          obtain ⟨P, hP⟩ : ∃ P, P = N * y := ⟨_, rfl⟩
          obtain ⟨R, hR⟩ : ∃ R, R = D * y := ⟨_, rfl⟩
          have m1 : (N : Int) * (y : Int) = (P : Int) := by rw [hP, Int.natCast_mul]
          have m2 : (D : Int) * (y : Int) = (R : Int) := by rw [hR, Int.natCast_mul]
          rw [← hP] at hNy HS1
          rw [← hR] at hDy HS2
          have v1 : IntKind.i64.wrap (P : Int) = (P : Int) := w64 (by omega)
          have v2 : IntKind.i64.wrap (R : Int) = (R : Int) := w64 (by omega)
          clear hx hyy hNN hDD hy hP hR
          by_cases e1 : x = 1
          · have hb1 : (x == 1) = true := by simpa using e1
            have HT := Lib.hid (HS1.out e1)
            clear e1 HS0 HS1 HS2
            go_wp2
            go_round
            case rel => exact ⟨j + 1, by omega, by go_num, by rw [HT.out.1], by rw [HT.out.2]⟩
            case measure => simp [intOf]; omega
          · have hb1 : (x == 1) = false := by simpa using e1
            by_cases e2 : x = -1
            · have hb2 : (x == -1) = true := by simpa using e2
              have HT := Lib.hid (HS2.out e2)
              clear e1 e2 HS0 HS1 HS2
              go_wp2
              go_round
              case rel => exact ⟨j + 1, by omega, by go_num, by rw [HT.out.1], by rw [HT.out.2]⟩
              case measure => simp [intOf]; omega
            · have hb2 : (x == -1) = false := by simpa using e2
              have HT := Lib.hid (HS0.out e1 e2)
              clear e1 e2 HS0 HS1 HS2
              go_wp2
              go_round
              case rel => exact ⟨j + 1, by omega, by go_num, by rw [HT.out.1], by rw [HT.out.2]⟩
              case measure => simp [intOf]; omega
        · obtain rfl : j = m.length := by omega
          rw [prd_row, prd_row]
          go_wp2
          go_round
          case rel => exact ⟨k + 1, by omega, by go_num, rfl, rfl⟩
          case measure => simp [intOf]; omega
    · obtain rfl : k = m.length := by omega
      rw [prd_end, prd_end]
      have b1 := accR_small (s := 1) Hok.out.1.2 Hl.out
      have b2 := accR_small (s := -1) Hok.out.1.2 Hl.out
      have C := Lib.hid (fun w => weRatio_any (accR 1 m t m.length) (accR (-1) m t m.length) w (by omega) (by omega) (by omega))
      have HV := Lib.hid (show pwR m t = nrm (accR 1 m t m.length) (accR (-1) m t m.length) from rfl)
      rw [← HV.out] at C
      generalize accR 1 m t m.length = X at C
      generalize accR (-1) m t m.length = Y at C
      clear b1 b2
      go_wp2_with fail
      refine (C.out _).mono ?_
      rintro e w2 ⟨rfl, hb⟩
      have HR := Lib.hid (HR1.out.below hb)
      have HB := Lib.hid (HB1.out.trans (hb.mono HB1.out.size))
      clear hb HR1 HB1
      go_wp2_with (refine wpList_storeG rfl 25 _ _ rfl _ (rtA (pwR m t)) _ rfl rfl HR.out (Try.size_rt _) (rt_same _ _) (rt_one _) ?_)
      have HR3 := Lib.hid (HR.out.setRow (pwR m t))
      have HB3 := Lib.hid (below_setRowT HB.out (Nat.le_refl _) (rtA (pwR m t)))
      refine bodyPost_ret (v := .agg (rtA (pwR m t))) ?_ rfl ⟨rfl, HB3.out⟩
      exact results_cell_one rfl _ _ w.heap.size _ rfl (Try.load_rt HR3.out)

set_option maxRecDepth 100000 in
set_option maxHeartbeats 1600000 in
theorem specPowerOf_any (a1 : Option Addr) (c1 : Nat) (m : List (List Int)) (a2 : Option Addr) (c2 : Nat) (t : List (List Int)) (w : World) (hs1 : Small m) (hm : MatAt w a1 m) (hs2 : Small t) (ht : MatAt w a2 t) :
    Calls Try.prog 6 #[.slice a1 m.length c1, .slice a2 t.length c2] w fun e w' => RtRes (okPw m t) (pwR m t) e ∧ Below w.heap.size w w' := by
  have hmx : m.length ≤ 9223372036854775807 := by have := hs1.1; omega
  have htx : t.length ≤ 9223372036854775807 := by have := hs2.1; omega
  have Hs1 := Lib.hid hs1
  have Hs2 := Lib.hid hs2
  have Hm := Lib.hid hm
  have Ht := Lib.hid ht
  clear hs1 hs2 hm ht
  go_enter Try.func6, Try.ntmps6
  go_upto_region 1 with (refine wpList_allocT rfl 25 rfl _ _ Try.info_rt ?_)
  generalize hW : World.alloc w _ = w1
  have HR1 := Lib.hid (show RtAt w1 w.heap.size (0, 0) by rw [← hW]; exact RtAt.new w (0, 0))
  have HB1 := Lib.hid (show Below w.heap.size w w1 by rw [← hW]; exact (Below.refl _ w).alloc (Nat.le_refl _) _)
  clear hW
  go_wp2_with fail
  refine (sgGood_any a1 c1 m w1 Hs1.out (Hm.out.below HB1.out)).mono ?_
  rintro e w2 ⟨ha, hb⟩
  have HR2 := Lib.hid (HR1.out.below hb)
  have Hb := Lib.hid (HB1.out.trans (hb.mono HB1.out.size))
  clear hb HR1 HB1
  by_cases hg : good m
  · have Hg := Lib.hid hg
    clear hg
    obtain rfl := ha.is Hg.out
    clear ha
    go_wp2_with fail
    refine (weTable_any a2 c2 t w2 Hs2.out (Ht.out.below Hb.out)).mono ?_
    rintro e w3 ⟨ha, rfl⟩
    have HR3 := Lib.hid HR2.out
    have Hb3 := Lib.hid Hb.out
    clear HR2 Hb
    by_cases hT : isTab t
    · have HT := Lib.hid hT
      clear hT
      obtain rfl := ha.is HT.out
      clear ha
      by_cases hl : m.length = t.length
      · have HL := Lib.hid hl
        have hne : ((m.length : Int) != (t.length : Int)) = false := by simp; omega
        clear hl
        go_wp2_with fail
        refine (wePowerOf_any a1 a2 c1 c2 m t w2 ⟨⟨Hg.out, HT.out⟩, HL.out⟩ (Hm.out.below Hb3.out) (Ht.out.below Hb3.out)).mono ?_
        rintro e w4 ⟨rfl, hb4⟩
        have HR4 := Lib.hid (HR3.out.below hb4)
        have Hb4 := Lib.hid (Hb3.out.trans (hb4.mono Hb3.out.size))
        clear hb4 HR3 Hb3
        go_wp2_with (refine wpList_storeG rfl 25 _ _ rfl _ (rtA (pwR m t)) _ rfl rfl HR4.out (Try.size_rt _) (rt_same _ _) (rt_one _) ?_)
        have HR5 := Lib.hid (HR4.out.setRow (pwR m t))
        have HB5 := Lib.hid (below_setRowT Hb4.out (Nat.le_refl _) (rtA (pwR m t)))
        refine bodyPost_ret (v := .tuple #[.agg (rtA (pwR m t)), .bool true]) ?_ rfl ⟨RtRes.yes ⟨⟨Hg.out, HT.out⟩, HL.out⟩, HB5.out⟩
        exact results_cell_two (p := 4) (q := 5) rfl _ _ w.heap.size _ rfl (Try.load_rt HR5.out)
      · have HL := Lib.hid hl
        have hne : ((m.length : Int) != (t.length : Int)) = true := by simp; omega
        clear hl
        go_wp2_with (first | (refine wpList_buildT0 rfl 25 rfl _ Try.built_rt0 ?_) | (refine wpList_storeG rfl 25 _ _ rfl _ (rtA (0, 0)) _ rfl rfl HR3.out (Try.size_rt _) (rt_same _ _) (rt_one _) ?_))
        have HR5 := Lib.hid (HR3.out.setRow (0, 0))
        have HB5 := Lib.hid (below_setRowT Hb3.out (Nat.le_refl _) (rtA (0, 0)))
        refine bodyPost_ret (v := .tuple #[.agg (rtA (0, 0)), .bool false]) ?_ rfl ⟨RtRes.no (fun h => HL.out h.2), HB5.out⟩
        exact results_cell_two (p := 4) (q := 5) rfl _ _ w.heap.size _ rfl (Try.load_rt HR5.out)
    · have HT := Lib.hid hT
      clear hT
      obtain rfl := ha.isnt HT.out
      clear ha
      go_wp2_with (first | (refine wpList_buildT0 rfl 25 rfl _ Try.built_rt0 ?_) | (refine wpList_storeG rfl 25 _ _ rfl _ (rtA (0, 0)) _ rfl rfl HR3.out (Try.size_rt _) (rt_same _ _) (rt_one _) ?_))
      have HR5 := Lib.hid (HR3.out.setRow (0, 0))
      have HB5 := Lib.hid (below_setRowT Hb3.out (Nat.le_refl _) (rtA (0, 0)))
      refine bodyPost_ret (v := .tuple #[.agg (rtA (0, 0)), .bool false]) ?_ rfl ⟨RtRes.no (fun h => HT.out h.1.2), HB5.out⟩
      exact results_cell_two (p := 4) (q := 5) rfl _ _ w.heap.size _ rfl (Try.load_rt HR5.out)
  · have Hg := Lib.hid hg
    clear hg
    obtain rfl := ha.isnt Hg.out
    clear ha
    go_wp2_with (first | (refine wpList_buildT0 rfl 25 rfl _ Try.built_rt0 ?_) | (refine wpList_storeG rfl 25 _ _ rfl _ (rtA (0, 0)) _ rfl rfl HR2.out (Try.size_rt _) (rt_same _ _) (rt_one _) ?_))
    have HR5 := Lib.hid (HR2.out.setRow (0, 0))
    have HB5 := Lib.hid (below_setRowT Hb.out (Nat.le_refl _) (rtA (0, 0)))
    refine bodyPost_ret (v := .tuple #[.agg (rtA (0, 0)), .bool false]) ?_ rfl ⟨RtRes.no (fun h => Hg.out h.1.1), HB5.out⟩
    exact results_cell_two (p := 4) (q := 5) rfl _ _ w.heap.size _ rfl (Try.load_rt HR5.out)
end Go.Proofs.Ytmkldodkpijfjaa
