/- Parts of proofs: contracts and plain facts. Conditions: as each says. -/
import Derived.Test.YtnhkclnloiiihaaDoorK24
namespace Go.Proofs.YtnhkclnloiiihaaDoor
open Go.RowKit

theorem TwF.sm {n : Nat} {J : List (List Int)} {A I : List Int} (h : TwF n J A I) : Small J := ⟨by have := h.small; omega, fun i hi => by rw [(h.row i hi).1]; have := h.lenA; omega⟩
theorem pairs_ok : ∀ N : Nat, 1 ≤ N → N ≤ 4 → wrap64 (wrap64 ((wrap64 ((N : Int) * ((N : Int) - 1))).tdiv 2) + 1) = ((N * (N - 1) / 2 + 1 : Nat) : Int) ∧ wrap64 ((wrap64 ((N : Int) * ((N : Int) - 1))).tdiv 2) = ((N * (N - 1) / 2 : Nat) : Int) ∧ N * (N - 1) / 2 ≤ 20 := by
  intro N h1 h4
  obtain rfl | rfl | rfl | rfl : N = 1 ∨ N = 2 ∨ N = 3 ∨ N = 4 := by omega
  all_goals decide +kernel
def p2 (k : Nat) : Nat := 2 ^ k
theorem pow2_step : ∀ r : Nat, r < 21 → wrap64 ((p2 r : Int) * 2) = (p2 (r + 1) : Int) := by decide +kernel
theorem uPow2_any (k : Nat) (w : World) (hk : k ≤ 20) :
    Calls Tryd.prog 19 #[.int .i64 2, .int .i64 (k : Int)] w fun e w' => e = .returned (.int .i64 (p2 k : Int)) ∧ w = w' := by
  go_enter Tryd.func19, Tryd.ntmps19
  go_wp2
  go_loop [1, 5] (fun i q => ∃ t : Nat, t ≤ k ∧ i = .int .i64 (t : Int) ∧ q = .int .i64 (p2 (k - t) : Int)) (fun i _ => (intOf i).toNat)
  case atStart =>
    refine ⟨k, Nat.le_refl _, rfl, ?_⟩
    rw [Nat.sub_self]
    rfl
  case round =>
    obtain ⟨t, ht, rfl, rfl⟩ := hrel
    by_cases h0 : 0 < t
    · have hf := pow2_step (k - t) (by omega)
      rw [show k - t + 1 = k - (t - 1) from by omega] at hf
      obtain ⟨f1, hf1⟩ : ∃ f1 : Nat, f1 = p2 (k - t) := ⟨_, rfl⟩
      obtain ⟨f2, hf2⟩ : ∃ f2 : Nat, f2 = p2 (k - (t - 1)) := ⟨_, rfl⟩
      rw [← hf1, ← hf2] at hf
      rw [← hf1]
      have Hf2 := Lib.hid hf2
      have h0z : (0 : Int) < (t : Int) := by omega
      have ht1 : IntKind.i64.wrap ((t : Int) - 1) = ((t - 1 : Nat) : Int) := by rw [w64 (by omega)]; omega
      have ht2 : wrap64 ((t : Int) - 1) = ((t - 1 : Nat) : Int) := by unfold wrap64; omega
      clear hf1 hf2
      go_wp2
      go_round
      case rel => exact ⟨t - 1, by omega, rfl, by rw [← Hf2.out, hf]⟩
      case measure => simp [intOf]; omega
    · obtain rfl : t = 0 := by omega
      rw [Nat.sub_zero]
      obtain ⟨f1, hf1⟩ : ∃ f1 : Nat, f1 = p2 k := ⟨_, rfl⟩
      rw [← hf1]
      have Hf1 := Lib.hid hf1
      clear hf1
      go_wp2
      go_ret
      exact ⟨by rw [← Hf1.out]; rfl, rfl⟩

set_option maxRecDepth 100000 in
set_option maxHeartbeats 3200000 in
theorem walkTablesOfWeights (a b : Option Addr) (n m c d : Nat) (w0 : World) (hn : n ≤ 9223372036854775807) (hm : m ≤ 9223372036854775807) (hA : BytesIn w0 a n) (hBy : BytesIn w0 b m) (hD : Dj w0) :
    Calls Tryd.prog 3 #[.slice a n c, .slice b m d] w0 fun e w' => e = .returned (.bool true) ∧ Below w0.heap.size w0 w' := by
  by_cases hbig : 1048576 < n + m
  · have H := Lib.hid hbig
    clear hbig hA hBy
    go_enter Tryd.func3, Tryd.ntmps3
    go_wp2_with fail
    refine (big_any a b n m c d w0 hn hm).mono ?_
    rintro e w2 ⟨ha, rfl⟩
    obtain rfl := ha.is H.out
    clear ha
    go_wp2
    go_ret
    exact ⟨rfl, Below.refl _ _⟩
  have H := Lib.hid hbig
  have hn1 : n ≤ 1048576 := by omega
  have hm1 : m ≤ 1048576 := by omega
  have X_0 := Lib.hid hA
  have Y_0 := Lib.hid hBy
  have DJ_0 := Lib.hid hD
  clear hD
  have B0 := Lib.hid (Below.refl w0.heap.size w0)
  clear hbig hA hBy
  go_enter Tryd.func3, Tryd.ntmps3
  go_wp2_with fail
  refine (big_any a b n m c d w0 hn hm).mono ?_
  rintro e w2 ⟨ha, rfl⟩
  obtain rfl := ha.isnt H.out
  clear ha H
  go_wp2_with fail
  refine (drawJointTable_any a n c w0 hn1 X_0.out).mono ?_
  rintro e w1 ⟨v, rfl, hv1, hv2, hb⟩
  have B_1 := Lib.hid (B0.out.trans (hb.mono B0.out.size))
  have X_2 := Lib.hid (X_0.out.below hb)
  have DJ_3 := Lib.hid (DJ_0.out.next hb)
  clear X_0 DJ_0
  clear hb
  by_cases hin : 1 ≤ v ∧ v ≤ 4
  · obtain ⟨N, rfl⟩ : ∃ N : Nat, v = (N : Int) := ⟨v.toNat, by omega⟩
    have hN1 : 1 ≤ N := by omega
    have hN4 : N ≤ 4 := by omega
    have Hin := Lib.hid hin
    clear hin hv1 hv2
    go_wp2_with fail
    refine (implJointTable_any (N : Int) w1 ⟨by omega, by omega⟩ DJ_3.out).mono ?_
    rintro e w2 ⟨⟨v, t, J1, rfl, hv, hr⟩, hb⟩
    obtain ⟨rfl, hRe⟩ : t = true ∧ J1 = joint (N : Int).toNat := by
      rcases hr with ⟨_, h2, h3⟩ | ⟨h1, _⟩
      · exact ⟨h2, h3⟩
      · exact absurd Hin.out h1
    have EJ1 := Lib.hid hRe
    clear hr hRe
    obtain ⟨J1a, J1c, rfl, J1h1, J1h2, hm⟩ := hv.read
    have CJ1 := Lib.hid (And.intro J1h1 J1h2)
    have B_4 := Lib.hid (B_1.out.trans (hb.mono B_1.out.size))
    have DJ_5 := Lib.hid (DJ_3.out.next hb)
    clear B_1 DJ_3
    have AJ1_6 := Lib.hid (hm)
    clear hv hb hm J1h1 J1h2
    go_wp2_with fail
    refine (specJointTable_any (N : Int) w2 ⟨by omega, by omega⟩).mono ?_
    rintro e w3 ⟨⟨v, t, J2, rfl, hv, hr⟩, hb⟩
    obtain ⟨rfl, hRe⟩ : t = true ∧ J2 = joint (N : Int).toNat := by
      rcases hr with ⟨_, h2, h3⟩ | ⟨h1, _⟩
      · exact ⟨h2, h3⟩
      · exact absurd Hin.out h1
    have EJ2 := Lib.hid hRe
    clear hr hRe
    obtain ⟨J2a, J2c, rfl, J2h1, J2h2, hm⟩ := hv.read
    have CJ2 := Lib.hid (And.intro J2h1 J2h2)
    have B_7 := Lib.hid (B_4.out.trans (hb.mono B_4.out.size))
    have DJ_8 := Lib.hid (DJ_5.out.next hb)
    have AJ1_9 := Lib.hid (AJ1_6.out.below hb)
    clear B_4 DJ_5 AJ1_6
    have AJ2_10 := Lib.hid (hm)
    clear hv hb hm J2h1 J2h2
    go_wp2_with fail
    refine (implMinusTable_any (N : Int) w3 ⟨by omega, by omega⟩ DJ_8.out).mono ?_
    rintro e w4 ⟨⟨v, t, A1, rfl, hv, hr⟩, hb⟩
    obtain ⟨rfl, hRe⟩ : t = true ∧ A1 = tabW fMin (allW (N : Int).toNat) := by
      rcases hr with ⟨_, h2, h3⟩ | ⟨h1, _⟩
      · exact ⟨h2, h3⟩
      · exact absurd Hin.out h1
    have EA1 := Lib.hid hRe
    clear hr hRe
    obtain ⟨A1a, A1c, rfl, A1h1, A1h2, hm⟩ := hv.read
    have CA1 := Lib.hid (And.intro A1h1 A1h2)
    have B_11 := Lib.hid (B_7.out.trans (hb.mono B_7.out.size))
    have DJ_12 := Lib.hid (DJ_8.out.next hb)
    have AJ1_13 := Lib.hid (AJ1_9.out.below hb)
    have AJ2_14 := Lib.hid (AJ2_10.out.below hb)
    clear B_7 DJ_8 AJ1_9 AJ2_10
    have AA1_15 := Lib.hid (hm)
    clear hv hb hm A1h1 A1h2
    go_wp2_with fail
    refine (specMinusTable_any (N : Int) w4 ⟨by omega, by omega⟩).mono ?_
    rintro e w5 ⟨⟨v, t, A2, rfl, hv, hr⟩, hb⟩
    obtain ⟨rfl, hRe⟩ : t = true ∧ A2 = tabW fMin (allW (N : Int).toNat) := by
      rcases hr with ⟨_, h2, h3⟩ | ⟨h1, _⟩
      · exact ⟨h2, h3⟩
      · exact absurd Hin.out h1
    have EA2 := Lib.hid hRe
    clear hr hRe
    obtain ⟨A2a, A2c, rfl, A2h1, A2h2, hm⟩ := hv.read
    have CA2 := Lib.hid (And.intro A2h1 A2h2)
    have B_16 := Lib.hid (B_11.out.trans (hb.mono B_11.out.size))
    have DJ_17 := Lib.hid (DJ_12.out.next hb)
    have AJ1_18 := Lib.hid (AJ1_13.out.below hb)
    have AJ2_19 := Lib.hid (AJ2_14.out.below hb)
    have AA1_20 := Lib.hid (AA1_15.out.below hb)
    clear B_11 DJ_12 AJ1_13 AJ2_14 AA1_15
    have AA2_21 := Lib.hid (hm)
    clear hv hb hm A2h1 A2h2
    go_wp2_with fail
    refine (implInversionTable_any (N : Int) w5 ⟨by omega, by omega⟩ DJ_17.out).mono ?_
    rintro e w6 ⟨⟨v, t, I1, rfl, hv, hr⟩, hb⟩
    obtain ⟨rfl, hRe⟩ : t = true ∧ I1 = tabW fInv (allW (N : Int).toNat) := by
      rcases hr with ⟨_, h2, h3⟩ | ⟨h1, _⟩
      · exact ⟨h2, h3⟩
      · exact absurd Hin.out h1
    have EI1 := Lib.hid hRe
    clear hr hRe
    obtain ⟨I1a, I1c, rfl, I1h1, I1h2, hm⟩ := hv.read
    have CI1 := Lib.hid (And.intro I1h1 I1h2)
    have B_22 := Lib.hid (B_16.out.trans (hb.mono B_16.out.size))
    have DJ_23 := Lib.hid (DJ_17.out.next hb)
    have AJ1_24 := Lib.hid (AJ1_18.out.below hb)
    have AJ2_25 := Lib.hid (AJ2_19.out.below hb)
    have AA1_26 := Lib.hid (AA1_20.out.below hb)
    have AA2_27 := Lib.hid (AA2_21.out.below hb)
    clear B_16 DJ_17 AJ1_18 AJ2_19 AA1_20 AA2_21
    have AI1_28 := Lib.hid (hm)
    clear hv hb hm I1h1 I1h2
    go_wp2_with fail
    refine (specInversionTable_any (N : Int) w6 ⟨by omega, by omega⟩).mono ?_
    rintro e w7 ⟨⟨v, t, I2, rfl, hv, hr⟩, hb⟩
    obtain ⟨rfl, hRe⟩ : t = true ∧ I2 = tabW fInv (allW (N : Int).toNat) := by
      rcases hr with ⟨_, h2, h3⟩ | ⟨h1, _⟩
      · exact ⟨h2, h3⟩
      · exact absurd Hin.out h1
    have EI2 := Lib.hid hRe
    clear hr hRe
    obtain ⟨I2a, I2c, rfl, I2h1, I2h2, hm⟩ := hv.read
    have CI2 := Lib.hid (And.intro I2h1 I2h2)
    have B_29 := Lib.hid (B_22.out.trans (hb.mono B_22.out.size))
    have DJ_30 := Lib.hid (DJ_23.out.next hb)
    have AJ1_31 := Lib.hid (AJ1_24.out.below hb)
    have AJ2_32 := Lib.hid (AJ2_25.out.below hb)
    have AA1_33 := Lib.hid (AA1_26.out.below hb)
    have AA2_34 := Lib.hid (AA2_27.out.below hb)
    have AI1_35 := Lib.hid (AI1_28.out.below hb)
    clear B_22 DJ_23 AJ1_24 AJ2_25 AA1_26 AA2_27 AI1_28
    have AI2_36 := Lib.hid (hm)
    clear hv hb hm I2h1 I2h2
    go_wp2_with fail
    refine (implCountSigns_any (N : Int) w7).mono ?_
    rintro e _ ⟨⟨cs, t, rfl, hr⟩, rfl⟩
    obtain ⟨rfl, hRe⟩ : t = true ∧ cs = (cI (N : Int).toNat : Nat) := by
      rcases hr with ⟨_, h2, h3⟩ | ⟨h1, _⟩
      · exact ⟨h2, h3⟩
      · exact absurd (show inR (N : Int) from ⟨by omega, by omega⟩) h1
    have Ecs := Lib.hid hRe
    clear hr hRe
    have T := Lib.hid (show TwF N J1 A1 I1 by rw [EJ1.out, EA1.out, EI1.out, Int.toNat_natCast]; exact twB_ok ((tw_all N (by omega)).resolve_left (by omega)))
    have lJ := T.out.small
    have lA := T.out.lenA
    have hcs : ((cI N : Nat) : Int) = cs := by rw [Ecs.out, Int.toNat_natCast]
    have C_37 := uSameRows_any J1a J2a J1c J2c J1 J2 w7 T.out.sm (by rw [EJ2.out, ← EJ1.out]; exact T.out.sm) AJ1_31.out AJ2_32.out
    rw [show (J1 == J2) = true from by rw [beq_iff_eq]; exact EJ1.out.trans EJ2.out.symm] at C_37
    have C_38 := Lib.hid C_37
    clear C_37
    go_wp2_with fail
    refine (C_38.out).mono ?_
    rintro e w8 ⟨rfl, hq⟩
    have hb := hq.below w7.heap.size
    have B_39 := Lib.hid (B_29.out.trans (hb.mono B_29.out.size))
    have AJ1_40 := Lib.hid (AJ1_31.out.below hb)
    have AJ2_41 := Lib.hid (AJ2_32.out.below hb)
    have AA1_42 := Lib.hid (AA1_33.out.below hb)
    have AA2_43 := Lib.hid (AA2_34.out.below hb)
    have AI1_44 := Lib.hid (AI1_35.out.below hb)
    have AI2_45 := Lib.hid (AI2_36.out.below hb)
    clear B_29 AJ1_31 AJ2_32 AA1_33 AA2_34 AI1_35 AI2_36
    clear hb hq C_38
    have C_46 := uSame_any A1a A2a A1c A2c A1 A2 w8 (by omega) (by rw [EA2.out, ← EA1.out]; omega) AA1_42.out AA2_43.out
    rw [show (A1 == A2) = true from by rw [beq_iff_eq]; exact EA1.out.trans EA2.out.symm] at C_46
    have C_47 := Lib.hid C_46
    clear C_46
    go_wp2_with fail
    refine (C_47.out).mono ?_
    rintro e w9 ⟨rfl, hq⟩
    have hb := hq.below w8.heap.size
    have B_48 := Lib.hid (B_39.out.trans (hb.mono B_39.out.size))
    have AJ1_49 := Lib.hid (AJ1_40.out.below hb)
    have AA1_50 := Lib.hid (AA1_42.out.below hb)
    have AA2_51 := Lib.hid (AA2_43.out.below hb)
    have AI1_52 := Lib.hid (AI1_44.out.below hb)
    have AI2_53 := Lib.hid (AI2_45.out.below hb)
    clear B_39 AJ1_40 AA1_42 AA2_43 AI1_44 AI2_45
    clear hb hq C_47
    have C_54 := uSame_any I1a I2a I1c I2c I1 I2 w9 (by rw [T.out.lenI]; omega) (by rw [EI2.out, ← EI1.out, T.out.lenI]; omega) AI1_52.out AI2_53.out
    rw [show (I1 == I2) = true from by rw [beq_iff_eq]; exact EI1.out.trans EI2.out.symm] at C_54
    have C_55 := Lib.hid C_54
    clear C_54
    go_wp2_with fail
    refine (C_55.out).mono ?_
    rintro e w10 ⟨rfl, hq⟩
    have hb := hq.below w9.heap.size
    have B_56 := Lib.hid (B_48.out.trans (hb.mono B_48.out.size))
    have AJ1_57 := Lib.hid (AJ1_49.out.below hb)
    have AA1_58 := Lib.hid (AA1_50.out.below hb)
    have AI1_59 := Lib.hid (AI1_52.out.below hb)
    have AI2_60 := Lib.hid (AI2_53.out.below hb)
    clear B_48 AJ1_49 AA1_50 AI1_52 AI2_53
    clear hb hq C_55
    have US := uSum_any A1a A1c A1 w10 (by omega) AA1_58.out
    rw [T.out.sumA, hcs] at US
    have USA1 := Lib.hid US
    clear US
    have US := uSum_any I1a I1c I1 w10 (by rw [T.out.lenI]; omega) AI1_59.out
    rw [T.out.sumI, hcs] at US
    have USI1 := Lib.hid US
    clear US
    obtain ⟨hq, hq2⟩ := pairs_ok N hN1 hN4
    rw [← T.out.lenJ] at hq
    have hcc : (cs != cs) = false := by simp
    have hll : ((J1.length : Int) != (I1.length : Int)) = false := by rw [T.out.lenI]; simp
    have HQ2 := Lib.hid hq2
    clear hq2 hcs
    go_wp2_with fail
    refine (USA1.out).mono ?_
    rintro e _ ⟨rfl, rfl⟩
    go_wp2_with fail
    refine (USI1.out).mono ?_
    rintro e _ ⟨rfl, rfl⟩
    go_wp2
    go_loopw [144] (fun i wr => ∃ p : Nat, p ≤ J1.length ∧ i = .int .i64 p ∧ Below w10.heap.size w10 wr) (fun i _ => J1.length - (intOf i).toNat)
    case atStart => exact ⟨0, Nat.zero_le _, rfl, Below.refl _ _⟩
    case round =>
      obtain ⟨p, hp, rfl, hb⟩ := hrel
      have LBb := Lib.hid hb
      obtain ⟨w11, rfl⟩ : ∃ q : World, q = wr := ⟨_, rfl⟩
      have B_61 := Lib.hid (B_56.out.trans (hb.mono B_56.out.size))
      have AJ1_62 := Lib.hid (AJ1_57.out.below hb)
      have AA1_63 := Lib.hid (AA1_58.out.below hb)
      have AI1_64 := Lib.hid (AI1_59.out.below hb)
      clear B_56 AJ1_57 AA1_58 AI1_59
      clear hb
      by_cases hlt : p < J1.length
      · obtain ⟨b1, o1, r1, d1, e1, hc1, hx1, _, _⟩ := AJ1_62.out p hlt
        subst e1
        obtain ⟨b2, o2, e2, hc2⟩ := AI1_64.out p (by rw [T.out.lenI]; exact hlt)
        subst e2
        have hlI : p < I1.length := by rw [T.out.lenI]; exact hlt
        obtain ⟨hrl, hrs⟩ := T.out.row p hlt
        have CU := fun t : Nat => uSum_any r1 d1 (gr J1 p) (w11.drewN t) (by rw [hrl]; omega) (hx1.below (below_drewN (Below.refl _ _) t))
        rw [hrs, hrl] at CU
        rw [hrl] at hc1
        obtain ⟨x, hx⟩ : ∃ x, x = gi I1 p := ⟨_, rfl⟩
        rw [← hx] at hc2 CU
        have hxx : (x != x) = false := by simp
        have CU := Lib.hid (fun t : Nat => (CU t).mono fun e w' h => And.intro h.1 h.2.symm)
        clear hx hrs hrl hx1 hq hll
        go_wp2
        go_quiet ((go_at_call 18; exact Calls.quiet_of_same (CU.out _)))
        go_wp2
        go_roundw
        case rel => exact ⟨p + 1, by omega, by go_num, below_drewN LBb.out _⟩
        case measure => simp [intOf]; omega
      · obtain rfl : p = J1.length := by omega
        clear hp hq hll
        go_wp2
        go_loopw [22, 166] (fun sm i wr => ∃ (k : Nat) (z : Int), k ≤ A1.length ∧ i = .int .i64 k ∧ sm = .int .i64 z ∧ weigh2 A1 (A1.length - k) k z = weigh2 A1 A1.length 0 0 ∧ Below w11.heap.size w11 wr) (fun _ i _ => A1.length - (intOf i).toNat)
        case atStart => exact ⟨0, 0, Nat.zero_le _, rfl, rfl, rfl, Below.refl _ _⟩
        case round =>
          obtain ⟨k, z, hk, rfl, rfl, hz, hb⟩ := hrel
          have Hz := Lib.hid hz
          have LBb := Lib.hid hb
          clear hz
          obtain ⟨w12, rfl⟩ : ∃ q : World, q = wr := ⟨_, rfl⟩
          have B_65 := Lib.hid (B_61.out.trans (hb.mono B_61.out.size))
          have AJ1_66 := Lib.hid (AJ1_62.out.below hb)
          have AA1_67 := Lib.hid (AA1_63.out.below hb)
          clear B_61 AJ1_62 AA1_63
          clear hb
          by_cases hlt2 : k < A1.length
          · go_wp2
            go_loopw [24, 171] (fun cl i wr => ∃ (p : Nat) (y : Int), p ≤ J1.length ∧ i = .int .i64 p ∧ cl = .int .i64 y ∧ colF k (J1.drop p) y = colF k J1 0 ∧ Below w12.heap.size w12 wr) (fun _ i _ => J1.length - (intOf i).toNat)
            case atStart => exact ⟨0, 0, Nat.zero_le _, rfl, rfl, rfl, Below.refl _ _⟩
            case round =>
              obtain ⟨p, y, hp, rfl, rfl, hy, hb⟩ := hrel
              have Hy := Lib.hid hy
              have LCb := Lib.hid hb
              clear hy
              obtain ⟨w13, rfl⟩ : ∃ q : World, q = wr := ⟨_, rfl⟩
              have B_68 := Lib.hid (B_65.out.trans (hb.mono B_65.out.size))
              have AJ1_69 := Lib.hid (AJ1_66.out.below hb)
              have AA1_70 := Lib.hid (AA1_67.out.below hb)
              have LB_71 := Lib.hid (LBb.out.trans (hb.mono LBb.out.size))
              clear B_65 AJ1_66 AA1_67 LBb
              clear hb
              by_cases hlt3 : p < J1.length
              · obtain ⟨b1, o1, r1, d1, e1, hc1, hx1, _, _⟩ := AJ1_69.out p hlt3
                subst e1
                obtain ⟨hrl, _⟩ := T.out.row p hlt3
                obtain ⟨b2, o2, e2, hc2⟩ := hx1 k (by rw [hrl]; exact hlt2)
                subst e2
                rw [hrl] at hc1
                have hs := colF_step (k := k) hlt3 y
                rw [Hy.out] at hs
                obtain ⟨x, hx⟩ : ∃ x, x = gi (gr J1 p) k := ⟨_, rfl⟩
                rw [← hx] at hc2 hs
                have Hs := Lib.hid hs
                clear hx hs hrl hx1
                go_wp2
                go_roundw
                case rel => exact ⟨p + 1, _, by omega, by go_num, rfl, Hs.out.symm, LCb.out⟩
                case measure => simp [intOf]; omega
              · obtain rfl : p = J1.length := by omega
                have hy : y = gi A1 k := by have h := Hy.out; rw [List.drop_length, colF, T.out.col k hlt2] at h; exact h
                obtain ⟨b3, o3, e3, hc3⟩ := AA1_70.out k hlt2
                subst e3
                rw [← hy] at hc3
                have hyy : (y != y) = false := by simp
                have UP := Lib.hid (uPow2_any k w13 (by omega))
                obtain ⟨P, hP⟩ : ∃ P : Nat, P = p2 k := ⟨_, rfl⟩
                have UP2 := UP.out
                rw [← hP] at UP2
                have UP3 := Lib.hid UP2
                have hst : weigh2 A1 (A1.length - (k + 1)) (k + 1) (wrap64 (z + wrap64 (y * (P : Int)))) = weigh2 A1 A1.length 0 0 := by
                  have h := Hz.out
                  rw [show A1.length - k = (A1.length - (k + 1)) + 1 from by omega, weigh2, ← hy, show ((2 ^ k : Nat) : Int) = (P : Int) from by rw [hP]; rfl] at h
                  exact h
                have Hst := Lib.hid hst
                clear hy hP UP UP2 hst hp hlt3
                go_wp2_with fail
                refine (UP3.out).mono ?_
                rintro e _ ⟨rfl, rfl⟩
                go_wp2
                go_roundw
                case rel => exact ⟨k + 1, _, by omega, by go_num, rfl, Hst.out, LB_71.out⟩
                case measure => simp [intOf]; omega
          · obtain rfl : k = A1.length := by omega
            have hz : z = (p2 (N * (N - 1) / 2) : Int) := by have h := Hz.out; rw [Nat.sub_self, weigh2, T.out.all] at h; exact h
            have UP := uPow2_any (N * (N - 1) / 2) w12 HQ2.out.2
            rw [← hz] at UP
            have UP := Lib.hid UP
            have hq2 := HQ2.out.1
            have hzz : (z == z) = true := by simp
            clear hz hk hlt2
            have HQ3 := Lib.hid hq2
            clear hq2
            go_wp2_with fail
            rw [HQ3.out]
            refine (UP.out).mono ?_
            rintro e _ ⟨rfl, rfl⟩
            go_wp2
            go_ret
            exact ⟨rfl, B_65.out⟩
  · have Hin := Lib.hid hin
    clear hin
    go_wp2_with fail
    refine (implJointTable_any v w1 ⟨by omega, by omega⟩ DJ_3.out).mono ?_
    rintro e w2 ⟨⟨v, t, J1, rfl, hv, hr⟩, hb⟩
    obtain ⟨rfl, hRe⟩ : t = false ∧ J1 = [] := by
      rcases hr with ⟨h1, _⟩ | ⟨_, h2, h3⟩
      · exact absurd h1 Hin.out
      · exact ⟨h2, h3⟩
    have EJ1 := Lib.hid hRe
    clear hr hRe
    obtain ⟨J1a, J1c, rfl, J1h1, J1h2, hm⟩ := hv.read
    have CJ1 := Lib.hid (And.intro J1h1 J1h2)
    have B_4 := Lib.hid (B_1.out.trans (hb.mono B_1.out.size))
    have DJ_5 := Lib.hid (DJ_3.out.next hb)
    clear B_1 DJ_3
    have AJ1_6 := Lib.hid (hm)
    clear hv hb hm J1h1 J1h2
    go_wp2_with fail
    refine (specJointTable_any v w2 ⟨by omega, by omega⟩).mono ?_
    rintro e w3 ⟨⟨v, t, J2, rfl, hv, hr⟩, hb⟩
    obtain ⟨rfl, hRe⟩ : t = false ∧ J2 = [] := by
      rcases hr with ⟨h1, _⟩ | ⟨_, h2, h3⟩
      · exact absurd h1 Hin.out
      · exact ⟨h2, h3⟩
    have EJ2 := Lib.hid hRe
    clear hr hRe
    obtain ⟨J2a, J2c, rfl, J2h1, J2h2, hm⟩ := hv.read
    have CJ2 := Lib.hid (And.intro J2h1 J2h2)
    have B_7 := Lib.hid (B_4.out.trans (hb.mono B_4.out.size))
    have DJ_8 := Lib.hid (DJ_5.out.next hb)
    have AJ1_9 := Lib.hid (AJ1_6.out.below hb)
    clear B_4 DJ_5 AJ1_6
    have AJ2_10 := Lib.hid (hm)
    clear hv hb hm J2h1 J2h2
    go_wp2_with fail
    refine (implMinusTable_any v w3 ⟨by omega, by omega⟩ DJ_8.out).mono ?_
    rintro e w4 ⟨⟨v, t, A1, rfl, hv, hr⟩, hb⟩
    obtain ⟨rfl, hRe⟩ : t = false ∧ A1 = [] := by
      rcases hr with ⟨h1, _⟩ | ⟨_, h2, h3⟩
      · exact absurd h1 Hin.out
      · exact ⟨h2, h3⟩
    have EA1 := Lib.hid hRe
    clear hr hRe
    obtain ⟨A1a, A1c, rfl, A1h1, A1h2, hm⟩ := hv.read
    have CA1 := Lib.hid (And.intro A1h1 A1h2)
    have B_11 := Lib.hid (B_7.out.trans (hb.mono B_7.out.size))
    have DJ_12 := Lib.hid (DJ_8.out.next hb)
    have AJ1_13 := Lib.hid (AJ1_9.out.below hb)
    have AJ2_14 := Lib.hid (AJ2_10.out.below hb)
    clear B_7 DJ_8 AJ1_9 AJ2_10
    have AA1_15 := Lib.hid (hm)
    clear hv hb hm A1h1 A1h2
    go_wp2_with fail
    refine (specMinusTable_any v w4 ⟨by omega, by omega⟩).mono ?_
    rintro e w5 ⟨⟨v, t, A2, rfl, hv, hr⟩, hb⟩
    obtain ⟨rfl, hRe⟩ : t = false ∧ A2 = [] := by
      rcases hr with ⟨h1, _⟩ | ⟨_, h2, h3⟩
      · exact absurd h1 Hin.out
      · exact ⟨h2, h3⟩
    have EA2 := Lib.hid hRe
    clear hr hRe
    obtain ⟨A2a, A2c, rfl, A2h1, A2h2, hm⟩ := hv.read
    have CA2 := Lib.hid (And.intro A2h1 A2h2)
    have B_16 := Lib.hid (B_11.out.trans (hb.mono B_11.out.size))
    have DJ_17 := Lib.hid (DJ_12.out.next hb)
    have AJ1_18 := Lib.hid (AJ1_13.out.below hb)
    have AJ2_19 := Lib.hid (AJ2_14.out.below hb)
    have AA1_20 := Lib.hid (AA1_15.out.below hb)
    clear B_11 DJ_12 AJ1_13 AJ2_14 AA1_15
    have AA2_21 := Lib.hid (hm)
    clear hv hb hm A2h1 A2h2
    go_wp2_with fail
    refine (implInversionTable_any v w5 ⟨by omega, by omega⟩ DJ_17.out).mono ?_
    rintro e w6 ⟨⟨v, t, I1, rfl, hv, hr⟩, hb⟩
    obtain ⟨rfl, hRe⟩ : t = false ∧ I1 = [] := by
      rcases hr with ⟨h1, _⟩ | ⟨_, h2, h3⟩
      · exact absurd h1 Hin.out
      · exact ⟨h2, h3⟩
    have EI1 := Lib.hid hRe
    clear hr hRe
    obtain ⟨I1a, I1c, rfl, I1h1, I1h2, hm⟩ := hv.read
    have CI1 := Lib.hid (And.intro I1h1 I1h2)
    have B_22 := Lib.hid (B_16.out.trans (hb.mono B_16.out.size))
    have DJ_23 := Lib.hid (DJ_17.out.next hb)
    have AJ1_24 := Lib.hid (AJ1_18.out.below hb)
    have AJ2_25 := Lib.hid (AJ2_19.out.below hb)
    have AA1_26 := Lib.hid (AA1_20.out.below hb)
    have AA2_27 := Lib.hid (AA2_21.out.below hb)
    clear B_16 DJ_17 AJ1_18 AJ2_19 AA1_20 AA2_21
    have AI1_28 := Lib.hid (hm)
    clear hv hb hm I1h1 I1h2
    go_wp2_with fail
    refine (specInversionTable_any v w6 ⟨by omega, by omega⟩).mono ?_
    rintro e w7 ⟨⟨v, t, I2, rfl, hv, hr⟩, hb⟩
    obtain ⟨rfl, hRe⟩ : t = false ∧ I2 = [] := by
      rcases hr with ⟨h1, _⟩ | ⟨_, h2, h3⟩
      · exact absurd h1 Hin.out
      · exact ⟨h2, h3⟩
    have EI2 := Lib.hid hRe
    clear hr hRe
    obtain ⟨I2a, I2c, rfl, I2h1, I2h2, hm⟩ := hv.read
    have CI2 := Lib.hid (And.intro I2h1 I2h2)
    have B_29 := Lib.hid (B_22.out.trans (hb.mono B_22.out.size))
    have DJ_30 := Lib.hid (DJ_23.out.next hb)
    have AJ1_31 := Lib.hid (AJ1_24.out.below hb)
    have AJ2_32 := Lib.hid (AJ2_25.out.below hb)
    have AA1_33 := Lib.hid (AA1_26.out.below hb)
    have AA2_34 := Lib.hid (AA2_27.out.below hb)
    have AI1_35 := Lib.hid (AI1_28.out.below hb)
    clear B_22 DJ_23 AJ1_24 AJ2_25 AA1_26 AA2_27 AI1_28
    have AI2_36 := Lib.hid (hm)
    clear hv hb hm I2h1 I2h2
    go_wp2_with fail
    refine (implCountSigns_any v w7).mono ?_
    rintro e _ ⟨⟨cs, t, rfl, hr⟩, rfl⟩
    clear hr
    have C_37 := uSameRows_any J1a J2a J1c J2c J1 J2 w7 (by rw [EJ1.out]; exact ⟨by simp, fun i hi => absurd hi (by simp)⟩) (by rw [EJ2.out]; exact ⟨by simp, fun i hi => absurd hi (by simp)⟩) AJ1_31.out AJ2_32.out
    rw [show (J1 == J2) = true from by rw [beq_iff_eq]; exact EJ1.out.trans EJ2.out.symm] at C_37
    have C_38 := Lib.hid C_37
    clear C_37
    go_wp2_with fail
    refine (C_38.out).mono ?_
    rintro e w8 ⟨rfl, hq⟩
    have hb := hq.below w7.heap.size
    have B_39 := Lib.hid (B_29.out.trans (hb.mono B_29.out.size))
    have AJ1_40 := Lib.hid (AJ1_31.out.below hb)
    have AJ2_41 := Lib.hid (AJ2_32.out.below hb)
    have AA1_42 := Lib.hid (AA1_33.out.below hb)
    have AA2_43 := Lib.hid (AA2_34.out.below hb)
    have AI1_44 := Lib.hid (AI1_35.out.below hb)
    have AI2_45 := Lib.hid (AI2_36.out.below hb)
    clear B_29 AJ1_31 AJ2_32 AA1_33 AA2_34 AI1_35 AI2_36
    clear hb hq C_38
    have C_46 := uSame_any A1a A2a A1c A2c A1 A2 w8 (by rw [EA1.out]; decide) (by rw [EA2.out]; decide) AA1_42.out AA2_43.out
    rw [show (A1 == A2) = true from by rw [beq_iff_eq]; exact EA1.out.trans EA2.out.symm] at C_46
    have C_47 := Lib.hid C_46
    clear C_46
    go_wp2_with fail
    refine (C_47.out).mono ?_
    rintro e w9 ⟨rfl, hq⟩
    have hb := hq.below w8.heap.size
    have B_48 := Lib.hid (B_39.out.trans (hb.mono B_39.out.size))
    have AJ1_49 := Lib.hid (AJ1_40.out.below hb)
    have AJ2_50 := Lib.hid (AJ2_41.out.below hb)
    have AA1_51 := Lib.hid (AA1_42.out.below hb)
    have AA2_52 := Lib.hid (AA2_43.out.below hb)
    have AI1_53 := Lib.hid (AI1_44.out.below hb)
    have AI2_54 := Lib.hid (AI2_45.out.below hb)
    clear B_39 AJ1_40 AJ2_41 AA1_42 AA2_43 AI1_44 AI2_45
    clear hb hq C_47
    have C_55 := uSame_any I1a I2a I1c I2c I1 I2 w9 (by rw [EI1.out]; decide) (by rw [EI2.out]; decide) AI1_53.out AI2_54.out
    rw [show (I1 == I2) = true from by rw [beq_iff_eq]; exact EI1.out.trans EI2.out.symm] at C_55
    have C_56 := Lib.hid C_55
    clear C_55
    go_wp2_with fail
    refine (C_56.out).mono ?_
    rintro e w10 ⟨rfl, hq⟩
    have hb := hq.below w9.heap.size
    have B_57 := Lib.hid (B_48.out.trans (hb.mono B_48.out.size))
    have AJ1_58 := Lib.hid (AJ1_49.out.below hb)
    have AJ2_59 := Lib.hid (AJ2_50.out.below hb)
    have AA1_60 := Lib.hid (AA1_51.out.below hb)
    have AA2_61 := Lib.hid (AA2_52.out.below hb)
    have AI1_62 := Lib.hid (AI1_53.out.below hb)
    have AI2_63 := Lib.hid (AI2_54.out.below hb)
    clear B_48 AJ1_49 AJ2_50 AA1_51 AA2_52 AI1_53 AI2_54
    clear hb hq C_56
    go_wp2
    go_ret
    exact ⟨rfl, B_57.out⟩
end Go.Proofs.YtnhkclnloiiihaaDoor

