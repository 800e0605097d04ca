/- The walk of the law FnKindsOfPlaces. Conditions: bytes that are read. -/
import Derived.Test.YtnhkclnloiiihaaDkM
import Derived.Test.YtnhkclnloiiihaaLuR
import Derived.Test.YtnhkclnloiiihaaKdM
import Derived.Test.YtnhkclnloiiihaaWfI
import Derived.Test.YtnhkclnloiiihaaWfS
import Derived.Test.YtnhkclnloiiihaaWcK
import Derived.Test.YtnhkclnloiiihaaWcS
import Derived.Test.YtnhkclnloiiihaaInv
import Derived.Test.YtnhkclnloiiihaaScal
namespace Go.Proofs.Ytnhkclnloiiihaa
open Go.RowKit

theorem kinds_wf {M K : List (List Int)} (h : good M) (e : K = kinds M) : WfM K := fun i hi j hj => by
  subst e
  rw [kinds_len] at hi
  rw [kinds_row hi] at hj
  rw [gi_kinds hi hj]
  have := kd_range h hi hj
  omega
theorem fkM_kinds {M : List (List Int)} (h : good M) : fkM (kinds M) = M := by
  refine (eq_tab ?_ ?_ ?_).symm
  · rw [kinds_len]
  · intro i hi; rw [kinds_len] at hi ⊢; exact h.1.2.2 i hi
  · intro i j hi hj
    rw [kinds_len] at hi hj
    rw [gi_kinds hi hj]
    have h1 := rowS_01 h hi (k := j) (by omega)
    have h2 := colS_01 h hj (k := i) (by omega)
    have h3 := good_entry h hi hj
    unfold kd kdV sgK
    generalize sumK (gr M i) j = b at *
    generalize colS M j i = a at *
    generalize gi (gr M i) j = v at *
    obtain rfl | rfl : b = 0 ∨ b = 1 := by omega
    all_goals obtain rfl | rfl : a = 0 ∨ a = 1 := by omega
    all_goals obtain rfl | rfl | rfl : v = -1 ∨ v = 0 ∨ v = 1 := by omega
    all_goals decide
theorem kinds_isKinds {M K : List (List Int)} (h : good M) (e : K = kinds M) : isKinds K := by
  subst e
  exact ⟨kinds_square h.1, by rw [fkM_kinds h]; exact h, by rw [fkM_kinds h]⟩
theorem kinds_ok {M : List (List Int)} (h : good M) : cntK M 3 = cntK M 0 ∧ cntK M 2 = cntK M 1 ∧ cntK M 5 = mcount M ∧ wrap64 (inv M - mcount M) = cntK M 0 ∧ wrap64 ((M.length : Int) + mcount M) = cntK M 4 ∧
    wrap64 (wrap64 ((wrap64 ((M.length : Int) * wrap64 ((M.length : Int) - 1))).tdiv 2) - inv M) = cntK M 1 ∧ wrap64 ((M.length : Int) * (M.length : Int)) = hsumF (cntL (cntK M)) 0 := by
  obtain ⟨e1, e2, e3, e4, e5, e6, e7⟩ := kind_facts h
  have h1 := h.1.1
  have h6 := h.1.2.1
  have b0 := cntK_bd 0 h6
  have b1 := cntK_bd 1 h6
  have b2 := cntK_bd 2 h6
  have b3 := cntK_bd 3 h6
  have b4 := cntK_bd 4 h6
  have b5 := cntK_bd 5 h6
  have hsum : hsumF (cntL (cntK M)) 0 = cntK M 0 + cntK M 1 + cntK M 2 + cntK M 3 + cntK M 4 + cntK M 5 := by
    simp only [cntL, hsumF]
    unfold wrap64
    omega
  rw [hsum]
  clear hsum
  have w1 : ∀ x : Int, -100000 ≤ x → x ≤ 100000 → wrap64 x = x := fun x h1 h2 => by unfold wrap64; omega
  generalize cntK M 0 = k0 at *
  generalize cntK M 1 = k1 at *
  generalize cntK M 2 = k2 at *
  generalize cntK M 3 = k3 at *
  generalize cntK M 4 = k4 at *
  generalize cntK M 5 = k5 at *
  generalize inv M = iv at *
  generalize mcount M = mn at *
  obtain ⟨L, hL⟩ : ∃ L, M.length = L := ⟨_, rfl⟩
  rw [hL] at e5 e6 e7 h1 h6 ⊢
  clear hL
  obtain rfl | rfl | rfl | rfl | rfl | rfl : L = 1 ∨ L = 2 ∨ L = 3 ∨ L = 4 ∨ L = 5 ∨ L = 6 := by omega
  · exact ⟨by omega, by omega, by omega, by rw [w1] <;> omega, by rw [w1] <;> omega, by rw [show wrap64 ((wrap64 (((1 : Nat) : Int) * wrap64 (((1 : Nat) : Int) - 1))).tdiv 2) = 0 by decide +kernel, w1] <;> omega, by rw [w1] <;> omega⟩
  · exact ⟨by omega, by omega, by omega, by rw [w1] <;> omega, by rw [w1] <;> omega, by rw [show wrap64 ((wrap64 (((2 : Nat) : Int) * wrap64 (((2 : Nat) : Int) - 1))).tdiv 2) = 1 by decide +kernel, w1] <;> omega, by rw [w1] <;> omega⟩
  · exact ⟨by omega, by omega, by omega, by rw [w1] <;> omega, by rw [w1] <;> omega, by rw [show wrap64 ((wrap64 (((3 : Nat) : Int) * wrap64 (((3 : Nat) : Int) - 1))).tdiv 2) = 3 by decide +kernel, w1] <;> omega, by rw [w1] <;> omega⟩
  · exact ⟨by omega, by omega, by omega, by rw [w1] <;> omega, by rw [w1] <;> omega, by rw [show wrap64 ((wrap64 (((4 : Nat) : Int) * wrap64 (((4 : Nat) : Int) - 1))).tdiv 2) = 6 by decide +kernel, w1] <;> omega, by rw [w1] <;> omega⟩
  · exact ⟨by omega, by omega, by omega, by rw [w1] <;> omega, by rw [w1] <;> omega, by rw [show wrap64 ((wrap64 (((5 : Nat) : Int) * wrap64 (((5 : Nat) : Int) - 1))).tdiv 2) = 10 by decide +kernel, w1] <;> omega, by rw [w1] <;> omega⟩
  · exact ⟨by omega, by omega, by omega, by rw [w1] <;> omega, by rw [w1] <;> omega, by rw [show wrap64 ((wrap64 (((6 : Nat) : Int) * wrap64 (((6 : Nat) : Int) - 1))).tdiv 2) = 15 by decide +kernel, w1] <;> omega, by rw [w1] <;> omega⟩
set_option maxRecDepth 100000 in
set_option maxHeartbeats 6400000 in
theorem walkKindsOfPlaces (a b : Option Addr) (n m c d : Nat) (w0 : World) (hn : n ≤ 9223372036854775807) (hm : m ≤ 9223372036854775807) (hA : BytesIn w0 a n) (hBy : BytesIn w0 b m) :
    Calls Try.prog 7 #[.slice a n c, .slice b m d] w0 fun e w' => e = .returned (.bool true) ∧ Below w0.heap.size w0 w' := by
  by_cases hbig : 1048576 < n + m
  · have H := Lib.hid hbig
    clear hbig hA hBy
    go_enter Try.func7, Try.ntmps7
    go_wp2_with fail
    refine (big_any a b n m c d w0 hn hm).mono ?_
    rintro e w2 ⟨ha, rfl⟩
    obtain rfl := ha.is H.out
    clear ha
    go_wp2
    go_ret
    exact ⟨rfl, Below.refl _ _⟩
  have H := Lib.hid hbig
  have hn1 : n ≤ 1048576 := by omega
  have hm1 : m ≤ 1048576 := by omega
  have X_0 := Lib.hid hA
  have Y_0 := Lib.hid hBy
  have B0 := Lib.hid (Below.refl w0.heap.size w0)
  clear hbig hA hBy
  go_enter Try.func7, Try.ntmps7
  go_wp2_with fail
  refine (big_any a b n m c d w0 hn hm).mono ?_
  rintro e w2 ⟨ha, rfl⟩
  obtain rfl := ha.isnt H.out
  clear ha H
  go_wp2_with fail
  refine (drawKindsOf_any a n c w0 hn1 X_0.out).mono ?_
  rintro e w1 ⟨v, M, rfl, hv, hd, hb⟩
  obtain ⟨Ma, Mc, rfl, Mh1, Mh2, hm⟩ := hv.read
  have DM := Lib.hid hd
  have CM := Lib.hid (And.intro Mh1 Mh2)
  have B_1 := Lib.hid (B0.out.trans (hb.mono B0.out.size))
  have X_2 := Lib.hid (X_0.out.below hb)
  have Y_3 := Lib.hid (Y_0.out.below hb)
  clear X_0 Y_0
  have AM_4 := Lib.hid (hm)
  clear hv hd hb hm Mh1 Mh2
  by_cases hg : good M
  · have G := Lib.hid hg
    clear hg
    go_wp2_with fail
    refine (implKindsOf_any Ma Mc M w1 DM.out.small DM.out.wf AM_4.out).mono ?_
    rintro e w2 ⟨⟨v, t, K1, rfl, hv, hr⟩, hb⟩
    obtain ⟨rfl, hRe⟩ : t = true ∧ K1 = kinds M := by
      rcases hr with ⟨_, h2, h3⟩ | ⟨h1, _⟩
      · exact ⟨h2, h3⟩
      · exact absurd G.out h1
    have EK1 := Lib.hid hRe
    clear hr hRe
    obtain ⟨K1a, K1c, rfl, K1h1, K1h2, hm⟩ := hv.read
    have CK1 := Lib.hid (And.intro K1h1 K1h2)
    have B_5 := Lib.hid (B_1.out.trans (hb.mono B_1.out.size))
    have Y_6 := Lib.hid (Y_3.out.below hb)
    have AM_7 := Lib.hid (AM_4.out.below hb)
    clear B_1 Y_3 AM_4
    have AK1_8 := Lib.hid (hm)
    clear hv hb hm K1h1 K1h2
    go_wp2_with fail
    refine (specKindsOf_any Ma Mc M w2 DM.out.small AM_7.out).mono ?_
    rintro e w3 ⟨⟨v, t, K2, rfl, hv, hr⟩, hb⟩
    obtain ⟨rfl, hRe⟩ : t = true ∧ K2 = kinds M := by
      rcases hr with ⟨_, h2, h3⟩ | ⟨h1, _⟩
      · exact ⟨h2, h3⟩
      · exact absurd G.out h1
    have EK2 := Lib.hid hRe
    clear hr hRe
    obtain ⟨K2a, K2c, rfl, K2h1, K2h2, hm⟩ := hv.read
    have CK2 := Lib.hid (And.intro K2h1 K2h2)
    have B_9 := Lib.hid (B_5.out.trans (hb.mono B_5.out.size))
    have Y_10 := Lib.hid (Y_6.out.below hb)
    have AM_11 := Lib.hid (AM_7.out.below hb)
    have AK1_12 := Lib.hid (AK1_8.out.below hb)
    clear B_5 Y_6 AM_7 AK1_8
    have AK2_13 := Lib.hid (hm)
    clear hv hb hm K2h1 K2h2
    go_wp2_with fail
    refine (implKindCounts_any Ma Mc M w3 DM.out.small DM.out.wf AM_11.out).mono ?_
    rintro e w4 ⟨⟨v, t, C1, rfl, hv, hr⟩, hb⟩
    obtain ⟨rfl, hRe⟩ : t = true ∧ C1 = cntL (cntK M) := by
      rcases hr with ⟨_, h2, h3⟩ | ⟨h1, _⟩
      · exact ⟨h2, h3⟩
      · exact absurd G.out h1
    have EC1 := Lib.hid hRe
    clear hr hRe
    obtain ⟨C1a, C1c, rfl, C1h1, C1h2, hm⟩ := hv.read
    have CC1 := Lib.hid (And.intro C1h1 C1h2)
    have B_14 := Lib.hid (B_9.out.trans (hb.mono B_9.out.size))
    have Y_15 := Lib.hid (Y_10.out.below hb)
    have AM_16 := Lib.hid (AM_11.out.below hb)
    have AK1_17 := Lib.hid (AK1_12.out.below hb)
    have AK2_18 := Lib.hid (AK2_13.out.below hb)
    clear B_9 Y_10 AM_11 AK1_12 AK2_13
    have AC1_19 := Lib.hid (hm)
    clear hv hb hm C1h1 C1h2
    go_wp2_with fail
    refine (specKindCounts_any Ma Mc M w4 DM.out.small AM_16.out).mono ?_
    rintro e w5 ⟨⟨v, t, C2, rfl, hv, hr⟩, hb⟩
    obtain ⟨rfl, hRe⟩ : t = true ∧ C2 = cntL (cntK M) := by
      rcases hr with ⟨_, h2, h3⟩ | ⟨h1, _⟩
      · exact ⟨h2, h3⟩
      · exact absurd G.out h1
    have EC2 := Lib.hid hRe
    clear hr hRe
    obtain ⟨C2a, C2c, rfl, C2h1, C2h2, hm⟩ := hv.read
    have CC2 := Lib.hid (And.intro C2h1 C2h2)
    have B_20 := Lib.hid (B_14.out.trans (hb.mono B_14.out.size))
    have Y_21 := Lib.hid (Y_15.out.below hb)
    have AM_22 := Lib.hid (AM_16.out.below hb)
    have AK1_23 := Lib.hid (AK1_17.out.below hb)
    have AK2_24 := Lib.hid (AK2_18.out.below hb)
    have AC1_25 := Lib.hid (AC1_19.out.below hb)
    clear B_14 Y_15 AM_16 AK1_17 AK2_18 AC1_19
    have AC2_26 := Lib.hid (hm)
    clear hv hb hm C2h1 C2h2
    have C_27 := uSameRows_any K1a K2a K1c K2c K1 K2 w5 (by rw [EK1.out]; exact (kinds_square G.out.1).small) (by rw [EK2.out]; exact (kinds_square G.out.1).small) AK1_23.out AK2_24.out
    rw [show (K1 == K2) = true from by rw [beq_iff_eq]; exact EK1.out.trans EK2.out.symm] at C_27
    have C_28 := Lib.hid C_27
    clear C_27
    go_wp2_with fail
    refine (C_28.out).mono ?_
    rintro e w6 ⟨rfl, hq⟩
    have hb := hq.below w5.heap.size
    have B_29 := Lib.hid (B_20.out.trans (hb.mono B_20.out.size))
    have Y_30 := Lib.hid (Y_21.out.below hb)
    have AM_31 := Lib.hid (AM_22.out.below hb)
    have AK1_32 := Lib.hid (AK1_23.out.below hb)
    have AK2_33 := Lib.hid (AK2_24.out.below hb)
    have AC1_34 := Lib.hid (AC1_25.out.below hb)
    have AC2_35 := Lib.hid (AC2_26.out.below hb)
    clear B_20 Y_21 AM_22 AK1_23 AK2_24 AC1_25 AC2_26
    clear hb hq C_28
    have C_36 := uSame_any C1a C2a C1c C2c C1 C2 w6 (by rw [EC1.out, cntL_len]; decide) (by rw [EC2.out, cntL_len]; decide) AC1_34.out AC2_35.out
    rw [show (C1 == C2) = true from by rw [beq_iff_eq]; exact EC1.out.trans EC2.out.symm] at C_36
    have C_37 := Lib.hid C_36
    clear C_36
    go_wp2_with fail
    refine (C_37.out).mono ?_
    rintro e w7 ⟨rfl, hq⟩
    have hb := hq.below w6.heap.size
    have B_38 := Lib.hid (B_29.out.trans (hb.mono B_29.out.size))
    have Y_39 := Lib.hid (Y_30.out.below hb)
    have AM_40 := Lib.hid (AM_31.out.below hb)
    have AK1_41 := Lib.hid (AK1_32.out.below hb)
    have AC1_42 := Lib.hid (AC1_34.out.below hb)
    have AC2_43 := Lib.hid (AC2_35.out.below hb)
    clear B_29 Y_30 AM_31 AK1_32 AC1_34 AC2_35
    clear hb hq C_37
    go_wp2_with fail
    refine (implIsSign_any Ma Mc M w7 DM.out.small DM.out.wf AM_40.out).mono ?_
    rintro e w8 ⟨ha, hb⟩
    obtain rfl := ha.is G.out
    clear ha
    have B_44 := Lib.hid (B_38.out.trans (hb.mono B_38.out.size))
    have Y_45 := Lib.hid (Y_39.out.below hb)
    have AM_46 := Lib.hid (AM_40.out.below hb)
    have AK1_47 := Lib.hid (AK1_41.out.below hb)
    have AC1_48 := Lib.hid (AC1_42.out.below hb)
    clear B_38 Y_39 AM_40 AK1_41 AC1_42
    clear hb
    go_wp2_with fail
    refine (drawFromKinds_any b m d w8 hm1 Y_45.out).mono ?_
    rintro e w9 ⟨v, T, rfl, hv, hd, hb⟩
    obtain ⟨Ta, Tc, rfl, Th1, Th2, hm⟩ := hv.read
    have DT := Lib.hid hd
    have CT := Lib.hid (And.intro Th1 Th2)
    have B_49 := Lib.hid (B_44.out.trans (hb.mono B_44.out.size))
    have Y_50 := Lib.hid (Y_45.out.below hb)
    have AM_51 := Lib.hid (AM_46.out.below hb)
    have AK1_52 := Lib.hid (AK1_47.out.below hb)
    have AC1_53 := Lib.hid (AC1_48.out.below hb)
    clear B_44 Y_45 AM_46 AK1_47 AC1_48
    have AT_54 := Lib.hid (hm)
    clear hv hd hb hm Th1 Th2
    by_cases hi : isKinds T
    · have I := Lib.hid hi
      clear hi
      go_wp2_with fail
      refine (implFromKinds_any Ta Tc T w9 DT.out.small DT.out.wf AT_54.out).mono ?_
      rintro e w10 ⟨⟨v, t, P1, rfl, hv, hr⟩, hb⟩
      obtain ⟨rfl, hRe⟩ : t = true ∧ P1 = fkM T := by
        rcases hr with ⟨_, h2, h3⟩ | ⟨h1, _⟩
        · exact ⟨h2, h3⟩
        · exact absurd I.out h1
      have EP1 := Lib.hid hRe
      clear hr hRe
      obtain ⟨P1a, P1c, rfl, P1h1, P1h2, hm⟩ := hv.read
      have CP1 := Lib.hid (And.intro P1h1 P1h2)
      have B_55 := Lib.hid (B_49.out.trans (hb.mono B_49.out.size))
      have AM_56 := Lib.hid (AM_51.out.below hb)
      have AK1_57 := Lib.hid (AK1_52.out.below hb)
      have AC1_58 := Lib.hid (AC1_53.out.below hb)
      have AT_59 := Lib.hid (AT_54.out.below hb)
      clear B_49 AM_51 AK1_52 AC1_53 AT_54
      have AP1_60 := Lib.hid (hm)
      clear hv hb hm P1h1 P1h2
      go_wp2_with fail
      refine (specFromKinds_any Ta Tc T w10 DT.out.small AT_59.out).mono ?_
      rintro e w11 ⟨⟨v, t, P2, rfl, hv, hr⟩, hb⟩
      obtain ⟨rfl, hRe⟩ : t = true ∧ P2 = fkM T := by
        rcases hr with ⟨_, h2, h3⟩ | ⟨h1, _⟩
        · exact ⟨h2, h3⟩
        · exact absurd I.out h1
      have EP2 := Lib.hid hRe
      clear hr hRe
      obtain ⟨P2a, P2c, rfl, P2h1, P2h2, hm⟩ := hv.read
      have CP2 := Lib.hid (And.intro P2h1 P2h2)
      have B_61 := Lib.hid (B_55.out.trans (hb.mono B_55.out.size))
      have AM_62 := Lib.hid (AM_56.out.below hb)
      have AK1_63 := Lib.hid (AK1_57.out.below hb)
      have AC1_64 := Lib.hid (AC1_58.out.below hb)
      have AT_65 := Lib.hid (AT_59.out.below hb)
      have AP1_66 := Lib.hid (AP1_60.out.below hb)
      clear B_55 AM_56 AK1_57 AC1_58 AT_59 AP1_60
      have AP2_67 := Lib.hid (hm)
      clear hv hb hm P2h1 P2h2
      have C_68 := uSameRows_any P1a P2a P1c P2c P1 P2 w11 (by rw [EP1.out]; exact I.out.2.1.1.small) (by rw [EP2.out]; exact I.out.2.1.1.small) AP1_66.out AP2_67.out
      rw [show (P1 == P2) = true from by rw [beq_iff_eq]; exact EP1.out.trans EP2.out.symm] at C_68
      have C_69 := Lib.hid C_68
      clear C_68
      go_wp2_with fail
      refine (C_69.out).mono ?_
      rintro e w12 ⟨rfl, hq⟩
      have hb := hq.below w11.heap.size
      have B_70 := Lib.hid (B_61.out.trans (hb.mono B_61.out.size))
      have AM_71 := Lib.hid (AM_62.out.below hb)
      have AK1_72 := Lib.hid (AK1_63.out.below hb)
      have AC1_73 := Lib.hid (AC1_64.out.below hb)
      have AT_74 := Lib.hid (AT_65.out.below hb)
      have AP1_75 := Lib.hid (AP1_66.out.below hb)
      have AP2_76 := Lib.hid (AP2_67.out.below hb)
      clear B_61 AM_62 AK1_63 AC1_64 AT_65 AP1_66 AP2_67
      clear hb hq C_69
      go_wp2_with fail
      refine (implKindsOf_any P1a P1c P1 w12 (by rw [EP1.out]; exact I.out.2.1.1.small) (by rw [EP1.out]; exact fkM_wf) AP1_75.out).mono ?_
      rintro e w13 ⟨⟨v, t, P3, rfl, hv, hr⟩, hb⟩
      obtain ⟨rfl, hRe⟩ : t = true ∧ P3 = kinds P1 := by
        rcases hr with ⟨_, h2, h3⟩ | ⟨h1, _⟩
        · exact ⟨h2, h3⟩
        · exact absurd (show good P1 by rw [EP1.out]; exact I.out.2.1) h1
      have EP3 := Lib.hid hRe
      clear hr hRe
      obtain ⟨P3a, P3c, rfl, P3h1, P3h2, hm⟩ := hv.read
      have CP3 := Lib.hid (And.intro P3h1 P3h2)
      have B_77 := Lib.hid (B_70.out.trans (hb.mono B_70.out.size))
      have AM_78 := Lib.hid (AM_71.out.below hb)
      have AK1_79 := Lib.hid (AK1_72.out.below hb)
      have AC1_80 := Lib.hid (AC1_73.out.below hb)
      have AT_81 := Lib.hid (AT_74.out.below hb)
      have AP1_82 := Lib.hid (AP1_75.out.below hb)
      clear B_70 AM_71 AK1_72 AC1_73 AT_74 AP1_75
      have AP3_83 := Lib.hid (hm)
      clear hv hb hm P3h1 P3h2
      have C_84 := uSameRows_any P3a Ta P3c Tc P3 T w13 (by rw [EP3.out]; exact (kinds_square (show square P1 by rw [EP1.out]; exact I.out.2.1.1)).small) DT.out.small AP3_83.out AT_81.out
      rw [show (P3 == T) = true from by rw [beq_iff_eq]; exact (by rw [EP3.out, EP1.out]; exact I.out.2.2)] at C_84
      have C_85 := Lib.hid C_84
      clear C_84
      go_wp2_with fail
      refine (C_85.out).mono ?_
      rintro e w14 ⟨rfl, hq⟩
      have hb := hq.below w13.heap.size
      have B_86 := Lib.hid (B_77.out.trans (hb.mono B_77.out.size))
      have AM_87 := Lib.hid (AM_78.out.below hb)
      have AK1_88 := Lib.hid (AK1_79.out.below hb)
      have AC1_89 := Lib.hid (AC1_80.out.below hb)
      have AT_90 := Lib.hid (AT_81.out.below hb)
      have AP1_91 := Lib.hid (AP1_82.out.below hb)
      have AP3_92 := Lib.hid (AP3_83.out.below hb)
      clear B_77 AM_78 AK1_79 AC1_80 AT_81 AP1_82 AP3_83
      clear hb hq C_85
      go_wp2_with fail
      refine (implFromKinds_any K1a K1c K1 w14 (by rw [EK1.out]; exact (kinds_square G.out.1).small) (kinds_wf G.out EK1.out) AK1_88.out).mono ?_
      rintro e w15 ⟨⟨v, t, Q, rfl, hv, hr⟩, hb⟩
      obtain ⟨rfl, hRe⟩ : t = true ∧ Q = fkM K1 := by
        rcases hr with ⟨_, h2, h3⟩ | ⟨h1, _⟩
        · exact ⟨h2, h3⟩
        · exact absurd (kinds_isKinds G.out EK1.out) h1
      have EQ := Lib.hid hRe
      clear hr hRe
      obtain ⟨Qa, Qc, rfl, Qh1, Qh2, hm⟩ := hv.read
      have CQ := Lib.hid (And.intro Qh1 Qh2)
      have B_93 := Lib.hid (B_86.out.trans (hb.mono B_86.out.size))
      have AM_94 := Lib.hid (AM_87.out.below hb)
      have AK1_95 := Lib.hid (AK1_88.out.below hb)
      have AC1_96 := Lib.hid (AC1_89.out.below hb)
      clear B_86 AM_87 AK1_88 AC1_89
      have AQ_97 := Lib.hid (hm)
      clear hv hb hm Qh1 Qh2
      go_wp2_with fail
      refine (implInversionsOf_any Ma Mc M w15 DM.out.small DM.out.wf AM_94.out CM.out.1).mono ?_
      rintro e w16 ⟨⟨iv, t, rfl, hr⟩, hb⟩
      obtain ⟨rfl, hRe⟩ : t = true ∧ iv = inv M := by
        rcases hr with ⟨_, h2, h3⟩ | ⟨h1, _⟩
        · exact ⟨h2, h3⟩
        · exact absurd G.out h1
      have Eiv := Lib.hid hRe
      clear hr hRe
      have B_98 := Lib.hid (B_93.out.trans (hb.mono B_93.out.size))
      have AM_99 := Lib.hid (AM_94.out.below hb)
      have AK1_100 := Lib.hid (AK1_95.out.below hb)
      have AC1_101 := Lib.hid (AC1_96.out.below hb)
      have AQ_102 := Lib.hid (AQ_97.out.below hb)
      clear B_93 AM_94 AK1_95 AC1_96 AQ_97
      clear hb
      go_wp2_with fail
      refine (implMinusOnes_any Ma Mc M w16 DM.out.small DM.out.wf AM_99.out).mono ?_
      rintro e w17 ⟨⟨mn, t, rfl, hr⟩, hb⟩
      obtain ⟨rfl, hRe⟩ : t = true ∧ mn = mcount M := by
        rcases hr with ⟨_, h2, h3⟩ | ⟨h1, _⟩
        · exact ⟨h2, h3⟩
        · exact absurd G.out h1
      have Emn := Lib.hid hRe
      clear hr hRe
      have B_103 := Lib.hid (B_98.out.trans (hb.mono B_98.out.size))
      have AM_104 := Lib.hid (AM_99.out.below hb)
      have AK1_105 := Lib.hid (AK1_100.out.below hb)
      have AC1_106 := Lib.hid (AC1_101.out.below hb)
      have AQ_107 := Lib.hid (AQ_102.out.below hb)
      clear B_98 AM_99 AK1_100 AC1_101 AQ_102
      clear hb
      obtain ⟨f3, f2, f5, hq1, hq2, hq3, hq4⟩ := kinds_ok G.out
      rw [← Eiv.out, ← Emn.out] at hq1
      rw [← Emn.out] at hq2 f5
      rw [← Eiv.out] at hq3
      have CI := AC1_106.out
      have US := fun t : Nat => uSum_any C1a C1c C1 (w17.drewN t) (by rw [EC1.out, cntL_len]; decide) (AC1_106.out.below (below_drewN (Below.refl _ _) t))
      rw [EC1.out] at CI US
      have hlC : C1.length = 6 := by rw [EC1.out, cntL_len]
      obtain ⟨b0, o0, e0, hc0⟩ := CI 0 (by rw [cntL_len]; decide)
      rw [cntL_gi _ (by decide)] at hc0
      obtain ⟨b1, o1, e1, hc1⟩ := CI 1 (by rw [cntL_len]; decide)
      rw [cntL_gi _ (by decide)] at hc1
      obtain ⟨b2, o2, e2, hc2⟩ := CI 2 (by rw [cntL_len]; decide)
      rw [cntL_gi _ (by decide)] at hc2
      obtain ⟨b3, o3, e3, hc3⟩ := CI 3 (by rw [cntL_len]; decide)
      rw [cntL_gi _ (by decide)] at hc3
      obtain ⟨b4, o4, e4, hc4⟩ := CI 4 (by rw [cntL_len]; decide)
      rw [cntL_gi _ (by decide)] at hc4
      obtain ⟨b5, o5, e5, hc5⟩ := CI 5 (by rw [cntL_len]; decide)
      rw [cntL_gi _ (by decide)] at hc5
      cases e0.symm.trans e1
      cases e0.symm.trans e2
      cases e0.symm.trans e3
      cases e0.symm.trans e4
      cases e0.symm.trans e5
      subst e0
      rw [Nat.add_zero] at hc0
      rw [show ((3 : Nat) : Int) = 3 from rfl, f3] at hc3
      rw [show ((2 : Nat) : Int) = 2 from rfl, f2] at hc2
      rw [show ((5 : Nat) : Int) = 5 from rfl, f5] at hc5
      rw [show ((0 : Nat) : Int) = 0 from rfl] at hc0
      rw [show ((1 : Nat) : Int) = 1 from rfl] at hc1
      rw [show ((4 : Nat) : Int) = 4 from rfl] at hc4
      obtain ⟨k0, hk0⟩ : ∃ x, x = cntK M 0 := ⟨_, rfl⟩
      obtain ⟨k1, hk1⟩ : ∃ x, x = cntK M 1 := ⟨_, rfl⟩
      obtain ⟨k4, hk4⟩ : ∃ x, x = cntK M 4 := ⟨_, rfl⟩
      obtain ⟨ks, hks⟩ : ∃ x, x = hsumF (cntL (cntK M)) 0 := ⟨_, rfl⟩
      rw [← hk0] at hc0 hc3 hq1
      rw [← hk1] at hc1 hc2 hq3
      rw [← hk4] at hc4 hq2
      rw [← hks] at hq4 US
      rw [cntL_len] at US
      have US := Lib.hid US
      have HL := Lib.hid hlC
      clear CI f3 f2 f5 hk0 hk1 hk4 hks hlC
      have CQ := fun t : Nat => uSameRows_any Qa Ma Qc Mc Q M (w17.drewN t) (by rw [EQ.out, EK1.out, fkM_kinds G.out]; exact DM.out.small) DM.out.small (AQ_107.out.below (below_drewN (Below.refl _ _) t)) (AM_104.out.below (below_drewN (Below.refl _ _) t))
      rw [show (Q == M) = true from by rw [beq_iff_eq]; rw [EQ.out, EK1.out, fkM_kinds G.out]] at CQ
      have CQ := Lib.hid CQ
      have CU := Lib.hid (fun t : Nat => (US.out t).mono fun e w' (h : e = .returned (.int .i64 ks) ∧ _) => And.intro h.1 h.2.symm)
      have hlC := HL.out
      clear US HL
      go_wp2
      simp only [List.append_eq, List.cons_append, List.nil_append]
      go_quiet ((first | (go_at_call 27; exact Calls.quiet_of (CQ.out _)) | (go_at_call 75; exact Calls.quiet_of_same (CU.out _))))
      go_wp2
      go_ret
      exact ⟨rfl, below_drewN B_103.out _⟩
    · have I := Lib.hid hi
      clear hi
      go_wp2_with fail
      refine (implFromKinds_any Ta Tc T w9 DT.out.small DT.out.wf AT_54.out).mono ?_
      rintro e w10 ⟨⟨v, t, P1, rfl, hv, hr⟩, hb⟩
      obtain ⟨rfl, hRe⟩ : t = false ∧ P1 = [] := by
        rcases hr with ⟨h1, _⟩ | ⟨_, h2, h3⟩
        · exact absurd h1 I.out
        · exact ⟨h2, h3⟩
      have EP1 := Lib.hid hRe
      clear hr hRe
      obtain ⟨P1a, P1c, rfl, P1h1, P1h2, hm⟩ := hv.read
      have CP1 := Lib.hid (And.intro P1h1 P1h2)
      have B_55 := Lib.hid (B_49.out.trans (hb.mono B_49.out.size))
      have AM_56 := Lib.hid (AM_51.out.below hb)
      have AK1_57 := Lib.hid (AK1_52.out.below hb)
      have AC1_58 := Lib.hid (AC1_53.out.below hb)
      have AT_59 := Lib.hid (AT_54.out.below hb)
      clear B_49 AM_51 AK1_52 AC1_53 AT_54
      have AP1_60 := Lib.hid (hm)
      clear hv hb hm P1h1 P1h2
      go_wp2_with fail
      refine (specFromKinds_any Ta Tc T w10 DT.out.small AT_59.out).mono ?_
      rintro e w11 ⟨⟨v, t, P2, rfl, hv, hr⟩, hb⟩
      obtain ⟨rfl, hRe⟩ : t = false ∧ P2 = [] := by
        rcases hr with ⟨h1, _⟩ | ⟨_, h2, h3⟩
        · exact absurd h1 I.out
        · exact ⟨h2, h3⟩
      have EP2 := Lib.hid hRe
      clear hr hRe
      obtain ⟨P2a, P2c, rfl, P2h1, P2h2, hm⟩ := hv.read
      have CP2 := Lib.hid (And.intro P2h1 P2h2)
      have B_61 := Lib.hid (B_55.out.trans (hb.mono B_55.out.size))
      have AM_62 := Lib.hid (AM_56.out.below hb)
      have AK1_63 := Lib.hid (AK1_57.out.below hb)
      have AC1_64 := Lib.hid (AC1_58.out.below hb)
      have AT_65 := Lib.hid (AT_59.out.below hb)
      have AP1_66 := Lib.hid (AP1_60.out.below hb)
      clear B_55 AM_56 AK1_57 AC1_58 AT_59 AP1_60
      have AP2_67 := Lib.hid (hm)
      clear hv hb hm P2h1 P2h2
      have C_68 := uSameRows_any P1a P2a P1c P2c P1 P2 w11 (by rw [EP1.out]; exact Drawn.nil.small) (by rw [EP2.out]; exact Drawn.nil.small) AP1_66.out AP2_67.out
      rw [show (P1 == P2) = true from by rw [beq_iff_eq]; exact EP1.out.trans EP2.out.symm] at C_68
      have C_69 := Lib.hid C_68
      clear C_68
      go_wp2_with fail
      refine (C_69.out).mono ?_
      rintro e w12 ⟨rfl, hq⟩
      have hb := hq.below w11.heap.size
      have B_70 := Lib.hid (B_61.out.trans (hb.mono B_61.out.size))
      have AM_71 := Lib.hid (AM_62.out.below hb)
      have AK1_72 := Lib.hid (AK1_63.out.below hb)
      have AC1_73 := Lib.hid (AC1_64.out.below hb)
      have AT_74 := Lib.hid (AT_65.out.below hb)
      have AP1_75 := Lib.hid (AP1_66.out.below hb)
      have AP2_76 := Lib.hid (AP2_67.out.below hb)
      clear B_61 AM_62 AK1_63 AC1_64 AT_65 AP1_66 AP2_67
      clear hb hq C_69
      go_wp2_with fail
      refine (implFromKinds_any K1a K1c K1 w12 (by rw [EK1.out]; exact (kinds_square G.out.1).small) (kinds_wf G.out EK1.out) AK1_72.out).mono ?_
      rintro e w13 ⟨⟨v, t, Q, rfl, hv, hr⟩, hb⟩
      obtain ⟨rfl, hRe⟩ : t = true ∧ Q = fkM K1 := by
        rcases hr with ⟨_, h2, h3⟩ | ⟨h1, _⟩
        · exact ⟨h2, h3⟩
        · exact absurd (kinds_isKinds G.out EK1.out) h1
      have EQ := Lib.hid hRe
      clear hr hRe
      obtain ⟨Qa, Qc, rfl, Qh1, Qh2, hm⟩ := hv.read
      have CQ := Lib.hid (And.intro Qh1 Qh2)
      have B_77 := Lib.hid (B_70.out.trans (hb.mono B_70.out.size))
      have AM_78 := Lib.hid (AM_71.out.below hb)
      have AK1_79 := Lib.hid (AK1_72.out.below hb)
      have AC1_80 := Lib.hid (AC1_73.out.below hb)
      clear B_70 AM_71 AK1_72 AC1_73
      have AQ_81 := Lib.hid (hm)
      clear hv hb hm Qh1 Qh2
      go_wp2_with fail
      refine (implInversionsOf_any Ma Mc M w13 DM.out.small DM.out.wf AM_78.out CM.out.1).mono ?_
      rintro e w14 ⟨⟨iv, t, rfl, hr⟩, hb⟩
      obtain ⟨rfl, hRe⟩ : t = true ∧ iv = inv M := by
        rcases hr with ⟨_, h2, h3⟩ | ⟨h1, _⟩
        · exact ⟨h2, h3⟩
        · exact absurd G.out h1
      have Eiv := Lib.hid hRe
      clear hr hRe
      have B_82 := Lib.hid (B_77.out.trans (hb.mono B_77.out.size))
      have AM_83 := Lib.hid (AM_78.out.below hb)
      have AK1_84 := Lib.hid (AK1_79.out.below hb)
      have AC1_85 := Lib.hid (AC1_80.out.below hb)
      have AQ_86 := Lib.hid (AQ_81.out.below hb)
      clear B_77 AM_78 AK1_79 AC1_80 AQ_81
      clear hb
      go_wp2_with fail
      refine (implMinusOnes_any Ma Mc M w14 DM.out.small DM.out.wf AM_83.out).mono ?_
      rintro e w15 ⟨⟨mn, t, rfl, hr⟩, hb⟩
      obtain ⟨rfl, hRe⟩ : t = true ∧ mn = mcount M := by
        rcases hr with ⟨_, h2, h3⟩ | ⟨h1, _⟩
        · exact ⟨h2, h3⟩
        · exact absurd G.out h1
      have Emn := Lib.hid hRe
      clear hr hRe
      have B_87 := Lib.hid (B_82.out.trans (hb.mono B_82.out.size))
      have AM_88 := Lib.hid (AM_83.out.below hb)
      have AK1_89 := Lib.hid (AK1_84.out.below hb)
      have AC1_90 := Lib.hid (AC1_85.out.below hb)
      have AQ_91 := Lib.hid (AQ_86.out.below hb)
      clear B_82 AM_83 AK1_84 AC1_85 AQ_86
      clear hb
      obtain ⟨f3, f2, f5, hq1, hq2, hq3, hq4⟩ := kinds_ok G.out
      rw [← Eiv.out, ← Emn.out] at hq1
      rw [← Emn.out] at hq2 f5
      rw [← Eiv.out] at hq3
      have CI := AC1_90.out
      have US := fun t : Nat => uSum_any C1a C1c C1 (w15.drewN t) (by rw [EC1.out, cntL_len]; decide) (AC1_90.out.below (below_drewN (Below.refl _ _) t))
      rw [EC1.out] at CI US
      have hlC : C1.length = 6 := by rw [EC1.out, cntL_len]
      obtain ⟨b0, o0, e0, hc0⟩ := CI 0 (by rw [cntL_len]; decide)
      rw [cntL_gi _ (by decide)] at hc0
      obtain ⟨b1, o1, e1, hc1⟩ := CI 1 (by rw [cntL_len]; decide)
      rw [cntL_gi _ (by decide)] at hc1
      obtain ⟨b2, o2, e2, hc2⟩ := CI 2 (by rw [cntL_len]; decide)
      rw [cntL_gi _ (by decide)] at hc2
      obtain ⟨b3, o3, e3, hc3⟩ := CI 3 (by rw [cntL_len]; decide)
      rw [cntL_gi _ (by decide)] at hc3
      obtain ⟨b4, o4, e4, hc4⟩ := CI 4 (by rw [cntL_len]; decide)
      rw [cntL_gi _ (by decide)] at hc4
      obtain ⟨b5, o5, e5, hc5⟩ := CI 5 (by rw [cntL_len]; decide)
      rw [cntL_gi _ (by decide)] at hc5
      cases e0.symm.trans e1
      cases e0.symm.trans e2
      cases e0.symm.trans e3
      cases e0.symm.trans e4
      cases e0.symm.trans e5
      subst e0
      rw [Nat.add_zero] at hc0
      rw [show ((3 : Nat) : Int) = 3 from rfl, f3] at hc3
      rw [show ((2 : Nat) : Int) = 2 from rfl, f2] at hc2
      rw [show ((5 : Nat) : Int) = 5 from rfl, f5] at hc5
      rw [show ((0 : Nat) : Int) = 0 from rfl] at hc0
      rw [show ((1 : Nat) : Int) = 1 from rfl] at hc1
      rw [show ((4 : Nat) : Int) = 4 from rfl] at hc4
      obtain ⟨k0, hk0⟩ : ∃ x, x = cntK M 0 := ⟨_, rfl⟩
      obtain ⟨k1, hk1⟩ : ∃ x, x = cntK M 1 := ⟨_, rfl⟩
      obtain ⟨k4, hk4⟩ : ∃ x, x = cntK M 4 := ⟨_, rfl⟩
      obtain ⟨ks, hks⟩ : ∃ x, x = hsumF (cntL (cntK M)) 0 := ⟨_, rfl⟩
      rw [← hk0] at hc0 hc3 hq1
      rw [← hk1] at hc1 hc2 hq3
      rw [← hk4] at hc4 hq2
      rw [← hks] at hq4 US
      rw [cntL_len] at US
      have US := Lib.hid US
      have HL := Lib.hid hlC
      clear CI f3 f2 f5 hk0 hk1 hk4 hks hlC
      have CQ := fun t : Nat => uSameRows_any Qa Ma Qc Mc Q M (w15.drewN t) (by rw [EQ.out, EK1.out, fkM_kinds G.out]; exact DM.out.small) DM.out.small (AQ_91.out.below (below_drewN (Below.refl _ _) t)) (AM_88.out.below (below_drewN (Below.refl _ _) t))
      rw [show (Q == M) = true from by rw [beq_iff_eq]; rw [EQ.out, EK1.out, fkM_kinds G.out]] at CQ
      have CQ := Lib.hid CQ
      have CU := Lib.hid (fun t : Nat => (US.out t).mono fun e w' (h : e = .returned (.int .i64 ks) ∧ _) => And.intro h.1 h.2.symm)
      have hlC := HL.out
      clear US HL
      go_wp2
      simp only [List.append_eq, List.cons_append, List.nil_append]
      go_quiet ((first | (go_at_call 27; exact Calls.quiet_of (CQ.out _)) | (go_at_call 75; exact Calls.quiet_of_same (CU.out _))))
      go_wp2
      go_ret
      exact ⟨rfl, below_drewN B_87.out _⟩
  · have G := Lib.hid hg
    clear hg
    go_wp2_with fail
    refine (implKindsOf_any Ma Mc M w1 DM.out.small DM.out.wf AM_4.out).mono ?_
    rintro e w2 ⟨⟨v, t, K1, rfl, hv, hr⟩, hb⟩
    obtain ⟨rfl, hRe⟩ : t = false ∧ K1 = [] := by
      rcases hr with ⟨h1, _⟩ | ⟨_, h2, h3⟩
      · exact absurd h1 G.out
      · exact ⟨h2, h3⟩
    have EK1 := Lib.hid hRe
    clear hr hRe
    obtain ⟨K1a, K1c, rfl, K1h1, K1h2, hm⟩ := hv.read
    have CK1 := Lib.hid (And.intro K1h1 K1h2)
    have B_5 := Lib.hid (B_1.out.trans (hb.mono B_1.out.size))
    have Y_6 := Lib.hid (Y_3.out.below hb)
    have AM_7 := Lib.hid (AM_4.out.below hb)
    clear B_1 Y_3 AM_4
    have AK1_8 := Lib.hid (hm)
    clear hv hb hm K1h1 K1h2
    go_wp2_with fail
    refine (specKindsOf_any Ma Mc M w2 DM.out.small AM_7.out).mono ?_
    rintro e w3 ⟨⟨v, t, K2, rfl, hv, hr⟩, hb⟩
    obtain ⟨rfl, hRe⟩ : t = false ∧ K2 = [] := by
      rcases hr with ⟨h1, _⟩ | ⟨_, h2, h3⟩
      · exact absurd h1 G.out
      · exact ⟨h2, h3⟩
    have EK2 := Lib.hid hRe
    clear hr hRe
    obtain ⟨K2a, K2c, rfl, K2h1, K2h2, hm⟩ := hv.read
    have CK2 := Lib.hid (And.intro K2h1 K2h2)
    have B_9 := Lib.hid (B_5.out.trans (hb.mono B_5.out.size))
    have Y_10 := Lib.hid (Y_6.out.below hb)
    have AM_11 := Lib.hid (AM_7.out.below hb)
    have AK1_12 := Lib.hid (AK1_8.out.below hb)
    clear B_5 Y_6 AM_7 AK1_8
    have AK2_13 := Lib.hid (hm)
    clear hv hb hm K2h1 K2h2
    go_wp2_with fail
    refine (implKindCounts_any Ma Mc M w3 DM.out.small DM.out.wf AM_11.out).mono ?_
    rintro e w4 ⟨⟨v, t, C1, rfl, hv, hr⟩, hb⟩
    obtain ⟨rfl, hRe⟩ : t = false ∧ C1 = [] := by
      rcases hr with ⟨h1, _⟩ | ⟨_, h2, h3⟩
      · exact absurd h1 G.out
      · exact ⟨h2, h3⟩
    have EC1 := Lib.hid hRe
    clear hr hRe
    obtain ⟨C1a, C1c, rfl, C1h1, C1h2, hm⟩ := hv.read
    have CC1 := Lib.hid (And.intro C1h1 C1h2)
    have B_14 := Lib.hid (B_9.out.trans (hb.mono B_9.out.size))
    have Y_15 := Lib.hid (Y_10.out.below hb)
    have AM_16 := Lib.hid (AM_11.out.below hb)
    have AK1_17 := Lib.hid (AK1_12.out.below hb)
    have AK2_18 := Lib.hid (AK2_13.out.below hb)
    clear B_9 Y_10 AM_11 AK1_12 AK2_13
    have AC1_19 := Lib.hid (hm)
    clear hv hb hm C1h1 C1h2
    go_wp2_with fail
    refine (specKindCounts_any Ma Mc M w4 DM.out.small AM_16.out).mono ?_
    rintro e w5 ⟨⟨v, t, C2, rfl, hv, hr⟩, hb⟩
    obtain ⟨rfl, hRe⟩ : t = false ∧ C2 = [] := by
      rcases hr with ⟨h1, _⟩ | ⟨_, h2, h3⟩
      · exact absurd h1 G.out
      · exact ⟨h2, h3⟩
    have EC2 := Lib.hid hRe
    clear hr hRe
    obtain ⟨C2a, C2c, rfl, C2h1, C2h2, hm⟩ := hv.read
    have CC2 := Lib.hid (And.intro C2h1 C2h2)
    have B_20 := Lib.hid (B_14.out.trans (hb.mono B_14.out.size))
    have Y_21 := Lib.hid (Y_15.out.below hb)
    have AM_22 := Lib.hid (AM_16.out.below hb)
    have AK1_23 := Lib.hid (AK1_17.out.below hb)
    have AK2_24 := Lib.hid (AK2_18.out.below hb)
    have AC1_25 := Lib.hid (AC1_19.out.below hb)
    clear B_14 Y_15 AM_16 AK1_17 AK2_18 AC1_19
    have AC2_26 := Lib.hid (hm)
    clear hv hb hm C2h1 C2h2
    have C_27 := uSameRows_any K1a K2a K1c K2c K1 K2 w5 (by rw [EK1.out]; exact Drawn.nil.small) (by rw [EK2.out]; exact Drawn.nil.small) AK1_23.out AK2_24.out
    rw [show (K1 == K2) = true from by rw [beq_iff_eq]; exact EK1.out.trans EK2.out.symm] at C_27
    have C_28 := Lib.hid C_27
    clear C_27
    go_wp2_with fail
    refine (C_28.out).mono ?_
    rintro e w6 ⟨rfl, hq⟩
    have hb := hq.below w5.heap.size
    have B_29 := Lib.hid (B_20.out.trans (hb.mono B_20.out.size))
    have Y_30 := Lib.hid (Y_21.out.below hb)
    have AM_31 := Lib.hid (AM_22.out.below hb)
    have AK1_32 := Lib.hid (AK1_23.out.below hb)
    have AK2_33 := Lib.hid (AK2_24.out.below hb)
    have AC1_34 := Lib.hid (AC1_25.out.below hb)
    have AC2_35 := Lib.hid (AC2_26.out.below hb)
    clear B_20 Y_21 AM_22 AK1_23 AK2_24 AC1_25 AC2_26
    clear hb hq C_28
    have C_36 := uSame_any C1a C2a C1c C2c C1 C2 w6 (by rw [EC1.out]; decide) (by rw [EC2.out]; decide) AC1_34.out AC2_35.out
    rw [show (C1 == C2) = true from by rw [beq_iff_eq]; exact EC1.out.trans EC2.out.symm] at C_36
    have C_37 := Lib.hid C_36
    clear C_36
    go_wp2_with fail
    refine (C_37.out).mono ?_
    rintro e w7 ⟨rfl, hq⟩
    have hb := hq.below w6.heap.size
    have B_38 := Lib.hid (B_29.out.trans (hb.mono B_29.out.size))
    have Y_39 := Lib.hid (Y_30.out.below hb)
    have AM_40 := Lib.hid (AM_31.out.below hb)
    have AC1_41 := Lib.hid (AC1_34.out.below hb)
    have AC2_42 := Lib.hid (AC2_35.out.below hb)
    clear B_29 Y_30 AM_31 AC1_34 AC2_35
    clear hb hq C_37
    go_wp2_with fail
    refine (implIsSign_any Ma Mc M w7 DM.out.small DM.out.wf AM_40.out).mono ?_
    rintro e w8 ⟨ha, hb⟩
    obtain rfl := ha.isnt G.out
    clear ha
    have B_43 := Lib.hid (B_38.out.trans (hb.mono B_38.out.size))
    have Y_44 := Lib.hid (Y_39.out.below hb)
    have AM_45 := Lib.hid (AM_40.out.below hb)
    clear B_38 Y_39 AM_40
    clear hb
    go_wp2_with fail
    refine (drawFromKinds_any b m d w8 hm1 Y_44.out).mono ?_
    rintro e w9 ⟨v, T, rfl, hv, hd, hb⟩
    obtain ⟨Ta, Tc, rfl, Th1, Th2, hm⟩ := hv.read
    have DT := Lib.hid hd
    have CT := Lib.hid (And.intro Th1 Th2)
    have B_46 := Lib.hid (B_43.out.trans (hb.mono B_43.out.size))
    have Y_47 := Lib.hid (Y_44.out.below hb)
    clear B_43 Y_44
    have AT_48 := Lib.hid (hm)
    clear hv hd hb hm Th1 Th2
    by_cases hi : isKinds T
    · have I := Lib.hid hi
      clear hi
      go_wp2_with fail
      refine (implFromKinds_any Ta Tc T w9 DT.out.small DT.out.wf AT_48.out).mono ?_
      rintro e w10 ⟨⟨v, t, P1, rfl, hv, hr⟩, hb⟩
      obtain ⟨rfl, hRe⟩ : t = true ∧ P1 = fkM T := by
        rcases hr with ⟨_, h2, h3⟩ | ⟨h1, _⟩
        · exact ⟨h2, h3⟩
        · exact absurd I.out h1
      have EP1 := Lib.hid hRe
      clear hr hRe
      obtain ⟨P1a, P1c, rfl, P1h1, P1h2, hm⟩ := hv.read
      have CP1 := Lib.hid (And.intro P1h1 P1h2)
      have B_49 := Lib.hid (B_46.out.trans (hb.mono B_46.out.size))
      have AT_50 := Lib.hid (AT_48.out.below hb)
      clear B_46 AT_48
      have AP1_51 := Lib.hid (hm)
      clear hv hb hm P1h1 P1h2
      go_wp2_with fail
      refine (specFromKinds_any Ta Tc T w10 DT.out.small AT_50.out).mono ?_
      rintro e w11 ⟨⟨v, t, P2, rfl, hv, hr⟩, hb⟩
      obtain ⟨rfl, hRe⟩ : t = true ∧ P2 = fkM T := by
        rcases hr with ⟨_, h2, h3⟩ | ⟨h1, _⟩
        · exact ⟨h2, h3⟩
        · exact absurd I.out h1
      have EP2 := Lib.hid hRe
      clear hr hRe
      obtain ⟨P2a, P2c, rfl, P2h1, P2h2, hm⟩ := hv.read
      have CP2 := Lib.hid (And.intro P2h1 P2h2)
      have B_52 := Lib.hid (B_49.out.trans (hb.mono B_49.out.size))
      have AT_53 := Lib.hid (AT_50.out.below hb)
      have AP1_54 := Lib.hid (AP1_51.out.below hb)
      clear B_49 AT_50 AP1_51
      have AP2_55 := Lib.hid (hm)
      clear hv hb hm P2h1 P2h2
      have C_56 := uSameRows_any P1a P2a P1c P2c P1 P2 w11 (by rw [EP1.out]; exact I.out.2.1.1.small) (by rw [EP2.out]; exact I.out.2.1.1.small) AP1_54.out AP2_55.out
      rw [show (P1 == P2) = true from by rw [beq_iff_eq]; exact EP1.out.trans EP2.out.symm] at C_56
      have C_57 := Lib.hid C_56
      clear C_56
      go_wp2_with fail
      refine (C_57.out).mono ?_
      rintro e w12 ⟨rfl, hq⟩
      have hb := hq.below w11.heap.size
      have B_58 := Lib.hid (B_52.out.trans (hb.mono B_52.out.size))
      have AT_59 := Lib.hid (AT_53.out.below hb)
      have AP1_60 := Lib.hid (AP1_54.out.below hb)
      have AP2_61 := Lib.hid (AP2_55.out.below hb)
      clear B_52 AT_53 AP1_54 AP2_55
      clear hb hq C_57
      go_wp2_with fail
      refine (implKindsOf_any P1a P1c P1 w12 (by rw [EP1.out]; exact I.out.2.1.1.small) (by rw [EP1.out]; exact fkM_wf) AP1_60.out).mono ?_
      rintro e w13 ⟨⟨v, t, P3, rfl, hv, hr⟩, hb⟩
      obtain ⟨rfl, hRe⟩ : t = true ∧ P3 = kinds P1 := by
        rcases hr with ⟨_, h2, h3⟩ | ⟨h1, _⟩
        · exact ⟨h2, h3⟩
        · exact absurd (show good P1 by rw [EP1.out]; exact I.out.2.1) h1
      have EP3 := Lib.hid hRe
      clear hr hRe
      obtain ⟨P3a, P3c, rfl, P3h1, P3h2, hm⟩ := hv.read
      have CP3 := Lib.hid (And.intro P3h1 P3h2)
      have B_62 := Lib.hid (B_58.out.trans (hb.mono B_58.out.size))
      have AT_63 := Lib.hid (AT_59.out.below hb)
      have AP1_64 := Lib.hid (AP1_60.out.below hb)
      clear B_58 AT_59 AP1_60
      have AP3_65 := Lib.hid (hm)
      clear hv hb hm P3h1 P3h2
      have C_66 := uSameRows_any P3a Ta P3c Tc P3 T w13 (by rw [EP3.out]; exact (kinds_square (show square P1 by rw [EP1.out]; exact I.out.2.1.1)).small) DT.out.small AP3_65.out AT_63.out
      rw [show (P3 == T) = true from by rw [beq_iff_eq]; exact (by rw [EP3.out, EP1.out]; exact I.out.2.2)] at C_66
      have C_67 := Lib.hid C_66
      clear C_66
      go_wp2_with fail
      refine (C_67.out).mono ?_
      rintro e w14 ⟨rfl, hq⟩
      have hb := hq.below w13.heap.size
      have B_68 := Lib.hid (B_62.out.trans (hb.mono B_62.out.size))
      have AT_69 := Lib.hid (AT_63.out.below hb)
      have AP1_70 := Lib.hid (AP1_64.out.below hb)
      have AP3_71 := Lib.hid (AP3_65.out.below hb)
      clear B_62 AT_63 AP1_64 AP3_65
      clear hb hq C_67
      go_wp2
      go_ret
      exact ⟨rfl, B_68.out⟩
    · have I := Lib.hid hi
      clear hi
      go_wp2_with fail
      refine (implFromKinds_any Ta Tc T w9 DT.out.small DT.out.wf AT_48.out).mono ?_
      rintro e w10 ⟨⟨v, t, P1, rfl, hv, hr⟩, hb⟩
      obtain ⟨rfl, hRe⟩ : t = false ∧ P1 = [] := by
        rcases hr with ⟨h1, _⟩ | ⟨_, h2, h3⟩
        · exact absurd h1 I.out
        · exact ⟨h2, h3⟩
      have EP1 := Lib.hid hRe
      clear hr hRe
      obtain ⟨P1a, P1c, rfl, P1h1, P1h2, hm⟩ := hv.read
      have CP1 := Lib.hid (And.intro P1h1 P1h2)
      have B_49 := Lib.hid (B_46.out.trans (hb.mono B_46.out.size))
      have AT_50 := Lib.hid (AT_48.out.below hb)
      clear B_46 AT_48
      have AP1_51 := Lib.hid (hm)
      clear hv hb hm P1h1 P1h2
      go_wp2_with fail
      refine (specFromKinds_any Ta Tc T w10 DT.out.small AT_50.out).mono ?_
      rintro e w11 ⟨⟨v, t, P2, rfl, hv, hr⟩, hb⟩
      obtain ⟨rfl, hRe⟩ : t = false ∧ P2 = [] := by
        rcases hr with ⟨h1, _⟩ | ⟨_, h2, h3⟩
        · exact absurd h1 I.out
        · exact ⟨h2, h3⟩
      have EP2 := Lib.hid hRe
      clear hr hRe
      obtain ⟨P2a, P2c, rfl, P2h1, P2h2, hm⟩ := hv.read
      have CP2 := Lib.hid (And.intro P2h1 P2h2)
      have B_52 := Lib.hid (B_49.out.trans (hb.mono B_49.out.size))
      have AT_53 := Lib.hid (AT_50.out.below hb)
      have AP1_54 := Lib.hid (AP1_51.out.below hb)
      clear B_49 AT_50 AP1_51
      have AP2_55 := Lib.hid (hm)
      clear hv hb hm P2h1 P2h2
      have C_56 := uSameRows_any P1a P2a P1c P2c P1 P2 w11 (by rw [EP1.out]; exact Drawn.nil.small) (by rw [EP2.out]; exact Drawn.nil.small) AP1_54.out AP2_55.out
      rw [show (P1 == P2) = true from by rw [beq_iff_eq]; exact EP1.out.trans EP2.out.symm] at C_56
      have C_57 := Lib.hid C_56
      clear C_56
      go_wp2_with fail
      refine (C_57.out).mono ?_
      rintro e w12 ⟨rfl, hq⟩
      have hb := hq.below w11.heap.size
      have B_58 := Lib.hid (B_52.out.trans (hb.mono B_52.out.size))
      have AT_59 := Lib.hid (AT_53.out.below hb)
      have AP1_60 := Lib.hid (AP1_54.out.below hb)
      have AP2_61 := Lib.hid (AP2_55.out.below hb)
      clear B_52 AT_53 AP1_54 AP2_55
      clear hb hq C_57
      go_wp2
      go_ret
      exact ⟨rfl, B_58.out⟩
end Go.Proofs.Ytnhkclnloiiihaa
