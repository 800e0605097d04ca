/- The walk of the law FnTurnsAndMirrors. Conditions: bytes that are read. -/
import Derived.Test.YtnhkclnloiiihaaDrw
import Derived.Test.YtnhkclnloiiihaaLwR
import Derived.Test.YtnhkclnloiiihaaLwL
import Derived.Test.YtnhkclnloiiihaaTmM
import Derived.Test.YtnhkclnloiiihaaLeastD
namespace Go.Proofs.Ytnhkclnloiiihaa
open Go.RowKit

theorem sizes_ok {M : List (List Int)} (h : good M) {a b k : Int} (ha : a = inv M) (hb : b = inv (mir M)) (hk : k = mcount M) :
    (wrap64 (wrap64 (a + b) - k) != wrap64 ((wrap64 ((M.length : Int) * ((M.length : Int) - 1))).tdiv 2)) = false := by
  have e := inv_mir h
  rw [← ha, ← hb, ← hk] at e
  have h1 := h.1.1
  have h6 := h.1.2.1
  obtain ⟨L, hL⟩ : ∃ L, L = M.length := ⟨_, rfl⟩
  rw [← hL] at e h1 h6 ⊢
  clear ha hb hk hL h
  have key : ∀ x : Int, a + b - k = x → wrap64 x = x → wrap64 (wrap64 (a + b) - k) = x := fun x hx hw => by unfold wrap64 at hw ⊢; omega
  obtain rfl | rfl | rfl | rfl | rfl | rfl : L = 1 ∨ L = 2 ∨ L = 3 ∨ L = 4 ∨ L = 5 ∨ L = 6 := by omega
  · rw [key 0 (by omega) (by decide +kernel)]; decide +kernel
  · rw [key 1 (by omega) (by decide +kernel)]; decide +kernel
  · rw [key 3 (by omega) (by decide +kernel)]; decide +kernel
  · rw [key 6 (by omega) (by decide +kernel)]; decide +kernel
  · rw [key 10 (by omega) (by decide +kernel)]; decide +kernel
  · rw [key 15 (by omega) (by decide +kernel)]; decide +kernel

set_option maxRecDepth 100000 in
set_option maxHeartbeats 6400000 in
theorem walkTurnsAndMirrors (a b : Option Addr) (n m c d : Nat) (w0 : World) (hn : n ≤ 9223372036854775807) (hm : m ≤ 9223372036854775807) (hA : BytesIn w0 a n) (hBy : BytesIn w0 b m) :
    Calls Try.prog 6 #[.slice a n c, .slice b m d] w0 fun e w' => e = .returned (.bool true) ∧ Below w0.heap.size w0 w' := by
  by_cases hbig : 1048576 < n + m
  · have H := Lib.hid hbig
    clear hbig hA hBy
    go_enter Try.func6, Try.ntmps6
    go_wp2_with fail
    refine (big_any a b n m c d w0 hn hm).mono ?_
    rintro e w2 ⟨ha, rfl⟩
    obtain rfl := ha.is H.out
    clear ha
    go_wp2
    go_ret
    exact ⟨rfl, Below.refl _ _⟩
  have H := Lib.hid hbig
  have hn1 : n ≤ 1048576 := by omega
  have hm1 : m ≤ 1048576 := by omega
  have X_0 := Lib.hid hA
  have Y_0 := Lib.hid hBy
  have B0 := Lib.hid (Below.refl w0.heap.size w0)
  clear hbig hA hBy
  go_enter Try.func6, Try.ntmps6
  go_wp2_with fail
  refine (big_any a b n m c d w0 hn hm).mono ?_
  rintro e w2 ⟨ha, rfl⟩
  obtain rfl := ha.isnt H.out
  clear ha H
  go_wp2_with fail
  refine (drawTurnMatrix_any a n c w0 hn1 X_0.out).mono ?_
  rintro e w1 ⟨v, M, rfl, hv, hd, hb⟩
  obtain ⟨Ma, Mc, rfl, Mh1, Mh2, hm⟩ := hv.read
  have DM := Lib.hid hd
  have CM := Lib.hid (And.intro Mh1 Mh2)
  have B_1 := Lib.hid (B0.out.trans (hb.mono B0.out.size))
  have X_2 := Lib.hid (X_0.out.below hb)
  have Y_3 := Lib.hid (Y_0.out.below hb)
  clear X_0 Y_0
  have AM_4 := Lib.hid (hm)
  clear hv hd hb hm Mh1 Mh2
  by_cases hg : good M
  · have G := Lib.hid hg
    have hMl := hg.1.2.1
    have hM0 := hg.1.1
    obtain ⟨x, hx⟩ := isX_ex M
    have HX := Lib.hid (hx hg)
    have HI := Lib.hid hx
    clear hg hx
    go_wp2_with fail
    refine (implTurnMatrix_any Ma Mc M w1 DM.out.small DM.out.wf AM_4.out).mono ?_
    rintro e w2 ⟨⟨v, t, T1, rfl, hv, hr⟩, hb⟩
    obtain ⟨rfl, hRe⟩ : t = true ∧ T1 = cw M := by
      rcases hr with ⟨_, h2, h3⟩ | ⟨h1, _⟩
      · exact ⟨h2, h3⟩
      · exact absurd G.out h1
    have ET1 := Lib.hid hRe
    clear hr hRe
    obtain ⟨T1a, T1c, rfl, T1h1, T1h2, hm⟩ := hv.read
    have CT1 := Lib.hid (And.intro T1h1 T1h2)
    have B_5 := Lib.hid (B_1.out.trans (hb.mono B_1.out.size))
    have Y_6 := Lib.hid (Y_3.out.below hb)
    have AM_7 := Lib.hid (AM_4.out.below hb)
    clear B_1 Y_3 AM_4
    have AT1_8 := Lib.hid (hm)
    clear hv hb hm T1h1 T1h2
    go_wp2_with fail
    refine (specTurnMatrix_any Ma Mc M w2 DM.out.small AM_7.out).mono ?_
    rintro e w3 ⟨⟨v, t, T2, rfl, hv, hr⟩, hb⟩
    obtain ⟨rfl, hRe⟩ : t = true ∧ T2 = cw M := by
      rcases hr with ⟨_, h2, h3⟩ | ⟨h1, _⟩
      · exact ⟨h2, h3⟩
      · exact absurd G.out h1
    have ET2 := Lib.hid hRe
    clear hr hRe
    obtain ⟨T2a, T2c, rfl, T2h1, T2h2, hm⟩ := hv.read
    have CT2 := Lib.hid (And.intro T2h1 T2h2)
    have B_9 := Lib.hid (B_5.out.trans (hb.mono B_5.out.size))
    have Y_10 := Lib.hid (Y_6.out.below hb)
    have AM_11 := Lib.hid (AM_7.out.below hb)
    have AT1_12 := Lib.hid (AT1_8.out.below hb)
    clear B_5 Y_6 AM_7 AT1_8
    have AT2_13 := Lib.hid (hm)
    clear hv hb hm T2h1 T2h2
    go_wp2_with fail
    refine (implMirrorMatrix_any Ma Mc M w3 DM.out.small DM.out.wf AM_11.out).mono ?_
    rintro e w4 ⟨⟨v, t, U1, rfl, hv, hr⟩, hb⟩
    obtain ⟨rfl, hRe⟩ : t = true ∧ U1 = mir M := by
      rcases hr with ⟨_, h2, h3⟩ | ⟨h1, _⟩
      · exact ⟨h2, h3⟩
      · exact absurd G.out h1
    have EU1 := Lib.hid hRe
    clear hr hRe
    obtain ⟨U1a, U1c, rfl, U1h1, U1h2, hm⟩ := hv.read
    have CU1 := Lib.hid (And.intro U1h1 U1h2)
    have B_14 := Lib.hid (B_9.out.trans (hb.mono B_9.out.size))
    have Y_15 := Lib.hid (Y_10.out.below hb)
    have AM_16 := Lib.hid (AM_11.out.below hb)
    have AT1_17 := Lib.hid (AT1_12.out.below hb)
    have AT2_18 := Lib.hid (AT2_13.out.below hb)
    clear B_9 Y_10 AM_11 AT1_12 AT2_13
    have AU1_19 := Lib.hid (hm)
    clear hv hb hm U1h1 U1h2
    go_wp2_with fail
    refine (specMirrorMatrix_any Ma Mc M w4 DM.out.small AM_16.out).mono ?_
    rintro e w5 ⟨⟨v, t, U2, rfl, hv, hr⟩, hb⟩
    obtain ⟨rfl, hRe⟩ : t = true ∧ U2 = mir M := by
      rcases hr with ⟨_, h2, h3⟩ | ⟨h1, _⟩
      · exact ⟨h2, h3⟩
      · exact absurd G.out h1
    have EU2 := Lib.hid hRe
    clear hr hRe
    obtain ⟨U2a, U2c, rfl, U2h1, U2h2, hm⟩ := hv.read
    have CU2 := Lib.hid (And.intro U2h1 U2h2)
    have B_20 := Lib.hid (B_14.out.trans (hb.mono B_14.out.size))
    have Y_21 := Lib.hid (Y_15.out.below hb)
    have AM_22 := Lib.hid (AM_16.out.below hb)
    have AT1_23 := Lib.hid (AT1_17.out.below hb)
    have AT2_24 := Lib.hid (AT2_18.out.below hb)
    have AU1_25 := Lib.hid (AU1_19.out.below hb)
    clear B_14 Y_15 AM_16 AT1_17 AT2_18 AU1_19
    have AU2_26 := Lib.hid (hm)
    clear hv hb hm U2h1 U2h2
    go_wp2_with fail
    refine (implTransposeMatrix_any Ma Mc M w5 DM.out.small DM.out.wf AM_22.out).mono ?_
    rintro e w6 ⟨⟨v, t, V1, rfl, hv, hr⟩, hb⟩
    obtain ⟨rfl, hRe⟩ : t = true ∧ V1 = tr M := by
      rcases hr with ⟨_, h2, h3⟩ | ⟨h1, _⟩
      · exact ⟨h2, h3⟩
      · exact absurd G.out h1
    have EV1 := Lib.hid hRe
    clear hr hRe
    obtain ⟨V1a, V1c, rfl, V1h1, V1h2, hm⟩ := hv.read
    have CV1 := Lib.hid (And.intro V1h1 V1h2)
    have B_27 := Lib.hid (B_20.out.trans (hb.mono B_20.out.size))
    have Y_28 := Lib.hid (Y_21.out.below hb)
    have AM_29 := Lib.hid (AM_22.out.below hb)
    have AT1_30 := Lib.hid (AT1_23.out.below hb)
    have AT2_31 := Lib.hid (AT2_24.out.below hb)
    have AU1_32 := Lib.hid (AU1_25.out.below hb)
    have AU2_33 := Lib.hid (AU2_26.out.below hb)
    clear B_20 Y_21 AM_22 AT1_23 AT2_24 AU1_25 AU2_26
    have AV1_34 := Lib.hid (hm)
    clear hv hb hm V1h1 V1h2
    go_wp2_with fail
    refine (specTransposeMatrix_any Ma Mc M w6 DM.out.small AM_29.out).mono ?_
    rintro e w7 ⟨⟨v, t, V2, rfl, hv, hr⟩, hb⟩
    obtain ⟨rfl, hRe⟩ : t = true ∧ V2 = tr M := by
      rcases hr with ⟨_, h2, h3⟩ | ⟨h1, _⟩
      · exact ⟨h2, h3⟩
      · exact absurd G.out h1
    have EV2 := Lib.hid hRe
    clear hr hRe
    obtain ⟨V2a, V2c, rfl, V2h1, V2h2, hm⟩ := hv.read
    have CV2 := Lib.hid (And.intro V2h1 V2h2)
    have B_35 := Lib.hid (B_27.out.trans (hb.mono B_27.out.size))
    have Y_36 := Lib.hid (Y_28.out.below hb)
    have AM_37 := Lib.hid (AM_29.out.below hb)
    have AT1_38 := Lib.hid (AT1_30.out.below hb)
    have AT2_39 := Lib.hid (AT2_31.out.below hb)
    have AU1_40 := Lib.hid (AU1_32.out.below hb)
    have AU2_41 := Lib.hid (AU2_33.out.below hb)
    have AV1_42 := Lib.hid (AV1_34.out.below hb)
    clear B_27 Y_28 AM_29 AT1_30 AT2_31 AU1_32 AU2_33 AV1_34
    have AV2_43 := Lib.hid (hm)
    clear hv hb hm V2h1 V2h2
    go_wp2_with fail
    refine (implLeastOfTurns_x Ma Mc M w7 DM.out.small DM.out.wf AM_37.out HI.out).mono ?_
    rintro e w8 ⟨⟨v, t, L1, rfl, hv, hr⟩, hb⟩
    obtain ⟨rfl, hRe⟩ : t = true ∧ L1 = x := by
      rcases hr with ⟨_, h2, h3⟩ | ⟨h1, _⟩
      · exact ⟨h2, h3⟩
      · exact absurd G.out h1
    have EL1 := Lib.hid hRe
    clear hr hRe
    obtain ⟨L1a, L1c, rfl, L1h1, L1h2, hm⟩ := hv.read
    have CL1 := Lib.hid (And.intro L1h1 L1h2)
    have B_44 := Lib.hid (B_35.out.trans (hb.mono B_35.out.size))
    have Y_45 := Lib.hid (Y_36.out.below hb)
    have AM_46 := Lib.hid (AM_37.out.below hb)
    have AT1_47 := Lib.hid (AT1_38.out.below hb)
    have AT2_48 := Lib.hid (AT2_39.out.below hb)
    have AU1_49 := Lib.hid (AU1_40.out.below hb)
    have AU2_50 := Lib.hid (AU2_41.out.below hb)
    have AV1_51 := Lib.hid (AV1_42.out.below hb)
    have AV2_52 := Lib.hid (AV2_43.out.below hb)
    clear B_35 Y_36 AM_37 AT1_38 AT2_39 AU1_40 AU2_41 AV1_42 AV2_43
    have AL1_53 := Lib.hid (hm)
    clear hv hb hm L1h1 L1h2
    go_wp2_with fail
    refine (specLeastOfTurns_x Ma Mc M w8 DM.out.small AM_46.out HI.out).mono ?_
    rintro e w9 ⟨⟨v, t, L2, rfl, hv, hr⟩, hb⟩
    obtain ⟨rfl, hRe⟩ : t = true ∧ L2 = x := by
      rcases hr with ⟨_, h2, h3⟩ | ⟨h1, _⟩
      · exact ⟨h2, h3⟩
      · exact absurd G.out h1
    have EL2 := Lib.hid hRe
    clear hr hRe
    obtain ⟨L2a, L2c, rfl, L2h1, L2h2, hm⟩ := hv.read
    have CL2 := Lib.hid (And.intro L2h1 L2h2)
    have B_54 := Lib.hid (B_44.out.trans (hb.mono B_44.out.size))
    have Y_55 := Lib.hid (Y_45.out.below hb)
    have AM_56 := Lib.hid (AM_46.out.below hb)
    have AT1_57 := Lib.hid (AT1_47.out.below hb)
    have AT2_58 := Lib.hid (AT2_48.out.below hb)
    have AU1_59 := Lib.hid (AU1_49.out.below hb)
    have AU2_60 := Lib.hid (AU2_50.out.below hb)
    have AV1_61 := Lib.hid (AV1_51.out.below hb)
    have AV2_62 := Lib.hid (AV2_52.out.below hb)
    have AL1_63 := Lib.hid (AL1_53.out.below hb)
    clear B_44 Y_45 AM_46 AT1_47 AT2_48 AU1_49 AU2_50 AV1_51 AV2_52 AL1_53
    have AL2_64 := Lib.hid (hm)
    clear hv hb hm L2h1 L2h2
    have C_65 := hRows_any T1a T2a T1c T2c T1 T2 w9 (by rw [ET1.out]; exact (good_cw G.out).1.small) (by rw [ET2.out]; exact (good_cw G.out).1.small) AT1_57.out AT2_58.out
    rw [show (T1 == T2) = true from by rw [beq_iff_eq]; exact ET1.out.trans ET2.out.symm] at C_65
    have C_66 := Lib.hid C_65
    clear C_65
    go_wp2_with fail
    refine (C_66.out).mono ?_
    rintro e w10 ⟨rfl, hq⟩
    have hb := hq.below w9.heap.size
    have B_67 := Lib.hid (B_54.out.trans (hb.mono B_54.out.size))
    have Y_68 := Lib.hid (Y_55.out.below hb)
    have AM_69 := Lib.hid (AM_56.out.below hb)
    have AT1_70 := Lib.hid (AT1_57.out.below hb)
    have AT2_71 := Lib.hid (AT2_58.out.below hb)
    have AU1_72 := Lib.hid (AU1_59.out.below hb)
    have AU2_73 := Lib.hid (AU2_60.out.below hb)
    have AV1_74 := Lib.hid (AV1_61.out.below hb)
    have AV2_75 := Lib.hid (AV2_62.out.below hb)
    have AL1_76 := Lib.hid (AL1_63.out.below hb)
    have AL2_77 := Lib.hid (AL2_64.out.below hb)
    clear B_54 Y_55 AM_56 AT1_57 AT2_58 AU1_59 AU2_60 AV1_61 AV2_62 AL1_63 AL2_64
    clear hb hq C_66
    have C_78 := hRows_any U1a U2a U1c U2c U1 U2 w10 (by rw [EU1.out]; exact (good_mir G.out).1.small) (by rw [EU2.out]; exact (good_mir G.out).1.small) AU1_72.out AU2_73.out
    rw [show (U1 == U2) = true from by rw [beq_iff_eq]; exact EU1.out.trans EU2.out.symm] at C_78
    have C_79 := Lib.hid C_78
    clear C_78
    go_wp2_with fail
    refine (C_79.out).mono ?_
    rintro e w11 ⟨rfl, hq⟩
    have hb := hq.below w10.heap.size
    have B_80 := Lib.hid (B_67.out.trans (hb.mono B_67.out.size))
    have Y_81 := Lib.hid (Y_68.out.below hb)
    have AM_82 := Lib.hid (AM_69.out.below hb)
    have AT1_83 := Lib.hid (AT1_70.out.below hb)
    have AU1_84 := Lib.hid (AU1_72.out.below hb)
    have AU2_85 := Lib.hid (AU2_73.out.below hb)
    have AV1_86 := Lib.hid (AV1_74.out.below hb)
    have AV2_87 := Lib.hid (AV2_75.out.below hb)
    have AL1_88 := Lib.hid (AL1_76.out.below hb)
    have AL2_89 := Lib.hid (AL2_77.out.below hb)
    clear B_67 Y_68 AM_69 AT1_70 AU1_72 AU2_73 AV1_74 AV2_75 AL1_76 AL2_77
    clear hb hq C_79
    have C_90 := hRows_any V1a V2a V1c V2c V1 V2 w11 (by rw [EV1.out]; exact (good_tr G.out).1.small) (by rw [EV2.out]; exact (good_tr G.out).1.small) AV1_86.out AV2_87.out
    rw [show (V1 == V2) = true from by rw [beq_iff_eq]; exact EV1.out.trans EV2.out.symm] at C_90
    have C_91 := Lib.hid C_90
    clear C_90
    go_wp2_with fail
    refine (C_91.out).mono ?_
    rintro e w12 ⟨rfl, hq⟩
    have hb := hq.below w11.heap.size
    have B_92 := Lib.hid (B_80.out.trans (hb.mono B_80.out.size))
    have Y_93 := Lib.hid (Y_81.out.below hb)
    have AM_94 := Lib.hid (AM_82.out.below hb)
    have AT1_95 := Lib.hid (AT1_83.out.below hb)
    have AU1_96 := Lib.hid (AU1_84.out.below hb)
    have AV1_97 := Lib.hid (AV1_86.out.below hb)
    have AV2_98 := Lib.hid (AV2_87.out.below hb)
    have AL1_99 := Lib.hid (AL1_88.out.below hb)
    have AL2_100 := Lib.hid (AL2_89.out.below hb)
    clear B_80 Y_81 AM_82 AT1_83 AU1_84 AV1_86 AV2_87 AL1_88 AL2_89
    clear hb hq C_91
    have C_101 := hRows_any L1a L2a L1c L2c L1 L2 w12 (by rw [EL1.out]; exact (lst_good G.out HX.out).1.small) (by rw [EL2.out]; exact (lst_good G.out HX.out).1.small) AL1_99.out AL2_100.out
    rw [show (L1 == L2) = true from by rw [beq_iff_eq]; exact EL1.out.trans EL2.out.symm] at C_101
    have C_102 := Lib.hid C_101
    clear C_101
    go_wp2_with fail
    refine (C_102.out).mono ?_
    rintro e w13 ⟨rfl, hq⟩
    have hb := hq.below w12.heap.size
    have B_103 := Lib.hid (B_92.out.trans (hb.mono B_92.out.size))
    have Y_104 := Lib.hid (Y_93.out.below hb)
    have AM_105 := Lib.hid (AM_94.out.below hb)
    have AT1_106 := Lib.hid (AT1_95.out.below hb)
    have AU1_107 := Lib.hid (AU1_96.out.below hb)
    have AV1_108 := Lib.hid (AV1_97.out.below hb)
    have AL1_109 := Lib.hid (AL1_99.out.below hb)
    have AL2_110 := Lib.hid (AL2_100.out.below hb)
    clear B_92 Y_93 AM_94 AT1_95 AU1_96 AV1_97 AL1_99 AL2_100
    clear hb hq C_102
    go_wp2
    go_loopw [22, 23] (fun now i wr => ∃ (k : Nat) (N : List (List Int)) (na : Option Addr) (nc : Nat), k ≤ 4 ∧ i = .int .i64 k ∧ now = .slice na N.length nc ∧ N = cwN M k ∧ MatAt wr na N ∧ Below w13.heap.size w13 wr) (fun _ i _ => 4 - (intOf i).toNat)
    case atStart => exact ⟨0, M, Ma, Mc, by omega, rfl, rfl, rfl, AM_105.out, Below.refl _ _⟩
    case round =>
      obtain ⟨k, N, Na, Nc, hk, rfl, rfl, hN, hmN, hb⟩ := hrel
      have EN := Lib.hid hN
      have LBb := Lib.hid hb
      obtain ⟨w14, rfl⟩ : ∃ q : World, q = wr := ⟨_, rfl⟩
      have B_111 := Lib.hid (B_103.out.trans (hb.mono B_103.out.size))
      have Y_112 := Lib.hid (Y_104.out.below hb)
      have AM_113 := Lib.hid (AM_105.out.below hb)
      have AT1_114 := Lib.hid (AT1_106.out.below hb)
      have AU1_115 := Lib.hid (AU1_107.out.below hb)
      have AV1_116 := Lib.hid (AV1_108.out.below hb)
      have AL1_117 := Lib.hid (AL1_109.out.below hb)
      clear B_103 Y_104 AM_105 AT1_106 AU1_107 AV1_108 AL1_109
      clear hb
      have AN_118 := Lib.hid (hmN)
      clear hmN hN
      by_cases hlt : k < 4
      · go_wp2_with fail
        refine (implTurnMatrix_any Na Nc N w14 (by rw [EN.out]; exact (good_cwN G.out k).1.small) (by rw [EN.out]; exact (good_cwN G.out k).wf) AN_118.out).mono ?_
        rintro e w15 ⟨⟨v, t, P, rfl, hv, hr⟩, hb⟩
        obtain ⟨rfl, hRe⟩ : t = true ∧ P = cw N := by
          rcases hr with ⟨_, h2, h3⟩ | ⟨h1, _⟩
          · exact ⟨h2, h3⟩
          · exact absurd (show good N by rw [EN.out]; exact good_cwN G.out k) h1
        have EP := Lib.hid hRe
        clear hr hRe
        obtain ⟨Pa, Pc, rfl, Ph1, Ph2, hm⟩ := hv.read
        have CP := Lib.hid (And.intro Ph1 Ph2)
        have B_119 := Lib.hid (B_111.out.trans (hb.mono B_111.out.size))
        have Y_120 := Lib.hid (Y_112.out.below hb)
        have AM_121 := Lib.hid (AM_113.out.below hb)
        have AT1_122 := Lib.hid (AT1_114.out.below hb)
        have AU1_123 := Lib.hid (AU1_115.out.below hb)
        have AV1_124 := Lib.hid (AV1_116.out.below hb)
        have AL1_125 := Lib.hid (AL1_117.out.below hb)
        have LB_126 := Lib.hid (LBb.out.trans (hb.mono LBb.out.size))
        have AN_127 := Lib.hid (AN_118.out.below hb)
        clear B_111 Y_112 AM_113 AT1_114 AU1_115 AV1_116 AL1_117 LBb AN_118
        have AP_128 := Lib.hid (hm)
        clear hv hb hm Ph1 Ph2
        have FP := Lib.hid (show P = cwN M (k + 1) by rw [EP.out, EN.out]; rfl)
        go_wp2_with fail
        refine (implLeastOfTurns_any Pa Pc P x w15 (by rw [FP.out]; exact (good_cwN G.out (k + 1)).1.small) (by rw [FP.out]; exact (good_cwN G.out (k + 1)).wf) AP_128.out (fun _ r hr => lst_one G.out.1 (lst_cwN G.out.1 (k + 1) (by rw [← FP.out]; exact hr)) HX.out)).mono ?_
        rintro e w16 ⟨⟨v, t, S, rfl, hv, hr⟩, hb⟩
        obtain ⟨rfl, hRe⟩ : t = true ∧ S = x := by
          rcases hr with ⟨_, h2, h3⟩ | ⟨h1, _⟩
          · exact ⟨h2, h3⟩
          · exact absurd (show good P by rw [FP.out]; exact good_cwN G.out (k + 1)) h1
        have ES := Lib.hid hRe
        clear hr hRe
        obtain ⟨Sa, Sc, rfl, Sh1, Sh2, hm⟩ := hv.read
        have CS := Lib.hid (And.intro Sh1 Sh2)
        have B_129 := Lib.hid (B_119.out.trans (hb.mono B_119.out.size))
        have Y_130 := Lib.hid (Y_120.out.below hb)
        have AM_131 := Lib.hid (AM_121.out.below hb)
        have AT1_132 := Lib.hid (AT1_122.out.below hb)
        have AU1_133 := Lib.hid (AU1_123.out.below hb)
        have AV1_134 := Lib.hid (AV1_124.out.below hb)
        have AL1_135 := Lib.hid (AL1_125.out.below hb)
        have LB_136 := Lib.hid (LB_126.out.trans (hb.mono LB_126.out.size))
        have AN_137 := Lib.hid (AN_127.out.below hb)
        have AP_138 := Lib.hid (AP_128.out.below hb)
        clear B_119 Y_120 AM_121 AT1_122 AU1_123 AV1_124 AL1_125 LB_126 AN_127 AP_128
        have AS_139 := Lib.hid (hm)
        clear hv hb hm Sh1 Sh2
        have C_140 := hRows_any Sa L1a Sc L1c S L1 w16 (by rw [ES.out]; exact (lst_good G.out HX.out).1.small) (by rw [EL1.out]; exact (lst_good G.out HX.out).1.small) AS_139.out AL1_135.out
        rw [show (S == L1) = true from by rw [beq_iff_eq]; exact ES.out.trans EL1.out.symm] at C_140
        have C_141 := Lib.hid C_140
        clear C_140
        go_wp2_with fail
        refine (C_141.out).mono ?_
        rintro e w17 ⟨rfl, hq⟩
        have hb := hq.below w16.heap.size
        have B_142 := Lib.hid (B_129.out.trans (hb.mono B_129.out.size))
        have Y_143 := Lib.hid (Y_130.out.below hb)
        have AM_144 := Lib.hid (AM_131.out.below hb)
        have AT1_145 := Lib.hid (AT1_132.out.below hb)
        have AU1_146 := Lib.hid (AU1_133.out.below hb)
        have AV1_147 := Lib.hid (AV1_134.out.below hb)
        have AL1_148 := Lib.hid (AL1_135.out.below hb)
        have LB_149 := Lib.hid (LB_136.out.trans (hb.mono LB_136.out.size))
        have AN_150 := Lib.hid (AN_137.out.below hb)
        have AP_151 := Lib.hid (AP_138.out.below hb)
        have AS_152 := Lib.hid (AS_139.out.below hb)
        clear B_129 Y_130 AM_131 AT1_132 AU1_133 AV1_134 AL1_135 LB_136 AN_137 AP_138 AS_139
        clear hb hq C_141
        go_wp2_with fail
        refine (hLess_of Pa L1a Pc L1c M.length P L1 w17 (by omega) (by rw [FP.out]; exact sq_cwN G.out.1 _) (by rw [EL1.out, ← lst_len HX.out]; exact (lst_good G.out HX.out).1.sq) AP_151.out AL1_148.out).mono ?_
        rintro e w18 ⟨ha, hq⟩
        obtain rfl := ha.isnt (by rw [FP.out, EL1.out]; exact lst_turn G.out.1 HX.out (k + 1) (by omega))
        clear ha
        have hb := hq.below w17.heap.size
        have B_153 := Lib.hid (B_142.out.trans (hb.mono B_142.out.size))
        have Y_154 := Lib.hid (Y_143.out.below hb)
        have AM_155 := Lib.hid (AM_144.out.below hb)
        have AT1_156 := Lib.hid (AT1_145.out.below hb)
        have AU1_157 := Lib.hid (AU1_146.out.below hb)
        have AV1_158 := Lib.hid (AV1_147.out.below hb)
        have AL1_159 := Lib.hid (AL1_148.out.below hb)
        have LB_160 := Lib.hid (LB_149.out.trans (hb.mono LB_149.out.size))
        have AN_161 := Lib.hid (AN_150.out.below hb)
        have AP_162 := Lib.hid (AP_151.out.below hb)
        have AS_163 := Lib.hid (AS_152.out.below hb)
        clear B_142 Y_143 AM_144 AT1_145 AU1_146 AV1_147 AL1_148 LB_149 AN_150 AP_151 AS_152
        clear hb hq
        go_wp2
        go_roundw
        case rel => exact ⟨k + 1, P, Pa, Pc, by omega, by go_num, rfl, FP.out, AP_162.out, LB_160.out⟩
        case measure => simp [intOf]; omega
      · obtain rfl : k = 4 := by omega
        have FN := Lib.hid (show N = M from EN.out.trans (cw4 G.out.1))
        clear hk hlt
        go_wp2_with fail
        refine (implMirrorMatrix_any U1a U1c U1 w14 (by rw [EU1.out]; exact (good_mir G.out).1.small) (by rw [EU1.out]; exact (good_mir G.out).wf) AU1_115.out).mono ?_
        rintro e w15 ⟨⟨v, t, Q, rfl, hv, hr⟩, hb⟩
        obtain ⟨rfl, hRe⟩ : t = true ∧ Q = mir U1 := by
          rcases hr with ⟨_, h2, h3⟩ | ⟨h1, _⟩
          · exact ⟨h2, h3⟩
          · exact absurd (show good U1 by rw [EU1.out]; exact good_mir G.out) h1
        have EQ := Lib.hid hRe
        clear hr hRe
        obtain ⟨Qa, Qc, rfl, Qh1, Qh2, hm⟩ := hv.read
        have CQ := Lib.hid (And.intro Qh1 Qh2)
        have B_119 := Lib.hid (B_111.out.trans (hb.mono B_111.out.size))
        have Y_120 := Lib.hid (Y_112.out.below hb)
        have AM_121 := Lib.hid (AM_113.out.below hb)
        have AT1_122 := Lib.hid (AT1_114.out.below hb)
        have AU1_123 := Lib.hid (AU1_115.out.below hb)
        have AV1_124 := Lib.hid (AV1_116.out.below hb)
        have AL1_125 := Lib.hid (AL1_117.out.below hb)
        have AN_126 := Lib.hid (AN_118.out.below hb)
        clear B_111 Y_112 AM_113 AT1_114 AU1_115 AV1_116 AL1_117 AN_118
        have AQ_127 := Lib.hid (hm)
        clear hv hb hm Qh1 Qh2
        go_wp2_with fail
        refine (implMirrorMatrix_any V1a V1c V1 w15 (by rw [EV1.out]; exact (good_tr G.out).1.small) (by rw [EV1.out]; exact (good_tr G.out).wf) AV1_124.out).mono ?_
        rintro e w16 ⟨⟨v, t, R, rfl, hv, hr⟩, hb⟩
        obtain ⟨rfl, hRe⟩ : t = true ∧ R = mir V1 := by
          rcases hr with ⟨_, h2, h3⟩ | ⟨h1, _⟩
          · exact ⟨h2, h3⟩
          · exact absurd (show good V1 by rw [EV1.out]; exact good_tr G.out) h1
        have ER := Lib.hid hRe
        clear hr hRe
        obtain ⟨Ra, Rc, rfl, Rh1, Rh2, hm⟩ := hv.read
        have CR := Lib.hid (And.intro Rh1 Rh2)
        have B_128 := Lib.hid (B_119.out.trans (hb.mono B_119.out.size))
        have Y_129 := Lib.hid (Y_120.out.below hb)
        have AM_130 := Lib.hid (AM_121.out.below hb)
        have AT1_131 := Lib.hid (AT1_122.out.below hb)
        have AU1_132 := Lib.hid (AU1_123.out.below hb)
        have AV1_133 := Lib.hid (AV1_124.out.below hb)
        have AL1_134 := Lib.hid (AL1_125.out.below hb)
        have AN_135 := Lib.hid (AN_126.out.below hb)
        have AQ_136 := Lib.hid (AQ_127.out.below hb)
        clear B_119 Y_120 AM_121 AT1_122 AU1_123 AV1_124 AL1_125 AN_126 AQ_127
        have AR_137 := Lib.hid (hm)
        clear hv hb hm Rh1 Rh2
        go_wp2_with fail
        refine (implMinusOnes_any Ma Mc M w16 DM.out.small DM.out.wf AM_130.out).mono ?_
        rintro e w17 ⟨⟨mn, t, rfl, hr⟩, hb⟩
        obtain ⟨rfl, hRe⟩ : t = true ∧ mn = mcount M := by
          rcases hr with ⟨_, h2, h3⟩ | ⟨h1, _⟩
          · exact ⟨h2, h3⟩
          · exact absurd G.out h1
        have Emn := Lib.hid hRe
        clear hr hRe
        have B_138 := Lib.hid (B_128.out.trans (hb.mono B_128.out.size))
        have Y_139 := Lib.hid (Y_129.out.below hb)
        have AM_140 := Lib.hid (AM_130.out.below hb)
        have AT1_141 := Lib.hid (AT1_131.out.below hb)
        have AU1_142 := Lib.hid (AU1_132.out.below hb)
        have AV1_143 := Lib.hid (AV1_133.out.below hb)
        have AL1_144 := Lib.hid (AL1_134.out.below hb)
        have AN_145 := Lib.hid (AN_135.out.below hb)
        have AQ_146 := Lib.hid (AQ_136.out.below hb)
        have AR_147 := Lib.hid (AR_137.out.below hb)
        clear B_128 Y_129 AM_130 AT1_131 AU1_132 AV1_133 AL1_134 AN_135 AQ_136 AR_137
        clear hb
        go_wp2_with fail
        refine (implMinusOnes_any T1a T1c T1 w17 (by rw [ET1.out]; exact (good_cw G.out).1.small) (by rw [ET1.out]; exact (good_cw G.out).wf) AT1_141.out).mono ?_
        rintro e w18 ⟨⟨mk, t, rfl, hr⟩, hb⟩
        obtain ⟨rfl, hRe⟩ : t = true ∧ mk = mcount T1 := by
          rcases hr with ⟨_, h2, h3⟩ | ⟨h1, _⟩
          · exact ⟨h2, h3⟩
          · exact absurd (show good T1 by rw [ET1.out]; exact good_cw G.out) h1
        have Emk := Lib.hid hRe
        clear hr hRe
        have B_148 := Lib.hid (B_138.out.trans (hb.mono B_138.out.size))
        have Y_149 := Lib.hid (Y_139.out.below hb)
        have AM_150 := Lib.hid (AM_140.out.below hb)
        have AT1_151 := Lib.hid (AT1_141.out.below hb)
        have AU1_152 := Lib.hid (AU1_142.out.below hb)
        have AV1_153 := Lib.hid (AV1_143.out.below hb)
        have AL1_154 := Lib.hid (AL1_144.out.below hb)
        have AN_155 := Lib.hid (AN_145.out.below hb)
        have AQ_156 := Lib.hid (AQ_146.out.below hb)
        have AR_157 := Lib.hid (AR_147.out.below hb)
        clear B_138 Y_139 AM_140 AT1_141 AU1_142 AV1_143 AL1_144 AN_145 AQ_146 AR_147
        clear hb
        go_wp2_with fail
        refine (implInversionsOf_any Ma Mc M w18 DM.out.small DM.out.wf AM_150.out CM.out.1).mono ?_
        rintro e w19 ⟨⟨ia, t, rfl, hr⟩, hb⟩
        obtain ⟨rfl, hRe⟩ : t = true ∧ ia = inv M := by
          rcases hr with ⟨_, h2, h3⟩ | ⟨h1, _⟩
          · exact ⟨h2, h3⟩
          · exact absurd G.out h1
        have Eia := Lib.hid hRe
        clear hr hRe
        have B_158 := Lib.hid (B_148.out.trans (hb.mono B_148.out.size))
        have Y_159 := Lib.hid (Y_149.out.below hb)
        have AM_160 := Lib.hid (AM_150.out.below hb)
        have AT1_161 := Lib.hid (AT1_151.out.below hb)
        have AU1_162 := Lib.hid (AU1_152.out.below hb)
        have AV1_163 := Lib.hid (AV1_153.out.below hb)
        have AL1_164 := Lib.hid (AL1_154.out.below hb)
        have AN_165 := Lib.hid (AN_155.out.below hb)
        have AQ_166 := Lib.hid (AQ_156.out.below hb)
        have AR_167 := Lib.hid (AR_157.out.below hb)
        clear B_148 Y_149 AM_150 AT1_151 AU1_152 AV1_153 AL1_154 AN_155 AQ_156 AR_157
        clear hb
        go_wp2_with fail
        refine (implInversionsOf_any U1a U1c U1 w19 (by rw [EU1.out]; exact (good_mir G.out).1.small) (by rw [EU1.out]; exact (good_mir G.out).wf) AU1_162.out CU1.out.1).mono ?_
        rintro e w20 ⟨⟨ib, t, rfl, hr⟩, hb⟩
        obtain ⟨rfl, hRe⟩ : t = true ∧ ib = inv U1 := by
          rcases hr with ⟨_, h2, h3⟩ | ⟨h1, _⟩
          · exact ⟨h2, h3⟩
          · exact absurd (show good U1 by rw [EU1.out]; exact good_mir G.out) h1
        have Eib := Lib.hid hRe
        clear hr hRe
        have B_168 := Lib.hid (B_158.out.trans (hb.mono B_158.out.size))
        have Y_169 := Lib.hid (Y_159.out.below hb)
        have AM_170 := Lib.hid (AM_160.out.below hb)
        have AT1_171 := Lib.hid (AT1_161.out.below hb)
        have AU1_172 := Lib.hid (AU1_162.out.below hb)
        have AV1_173 := Lib.hid (AV1_163.out.below hb)
        have AL1_174 := Lib.hid (AL1_164.out.below hb)
        have AN_175 := Lib.hid (AN_165.out.below hb)
        have AQ_176 := Lib.hid (AQ_166.out.below hb)
        have AR_177 := Lib.hid (AR_167.out.below hb)
        clear B_158 Y_159 AM_160 AT1_161 AU1_162 AV1_163 AL1_164 AN_165 AQ_166 AR_167
        clear hb
        go_wp2_with fail
        refine (implInversionsOf_any V1a V1c V1 w20 (by rw [EV1.out]; exact (good_tr G.out).1.small) (by rw [EV1.out]; exact (good_tr G.out).wf) AV1_173.out CV1.out.1).mono ?_
        rintro e w21 ⟨⟨ic, t, rfl, hr⟩, hb⟩
        obtain ⟨rfl, hRe⟩ : t = true ∧ ic = inv V1 := by
          rcases hr with ⟨_, h2, h3⟩ | ⟨h1, _⟩
          · exact ⟨h2, h3⟩
          · exact absurd (show good V1 by rw [EV1.out]; exact good_tr G.out) h1
        have Eic := Lib.hid hRe
        clear hr hRe
        have B_178 := Lib.hid (B_168.out.trans (hb.mono B_168.out.size))
        have Y_179 := Lib.hid (Y_169.out.below hb)
        have AM_180 := Lib.hid (AM_170.out.below hb)
        have AT1_181 := Lib.hid (AT1_171.out.below hb)
        have AU1_182 := Lib.hid (AU1_172.out.below hb)
        have AV1_183 := Lib.hid (AV1_173.out.below hb)
        have AL1_184 := Lib.hid (AL1_174.out.below hb)
        have AN_185 := Lib.hid (AN_175.out.below hb)
        have AQ_186 := Lib.hid (AQ_176.out.below hb)
        have AR_187 := Lib.hid (AR_177.out.below hb)
        clear B_168 Y_169 AM_170 AT1_171 AU1_172 AV1_173 AL1_174 AN_175 AQ_176 AR_177
        clear hb
        obtain rfl : mk = mn := by rw [Emk.out, Emn.out, ET1.out, mcount_cw]
        obtain rfl : ic = ia := by rw [Eic.out, Eia.out, EV1.out, inv_tr G.out]
        have hmm : (mk != mk) = false := by simp
        have hii : (ic != ic) = false := by simp
        have hsz := sizes_ok G.out (a := ic) (b := ib) (k := mk) (by rw [Eic.out, EV1.out, inv_tr G.out]) (by rw [Eib.out, EU1.out]) (by rw [Emk.out, ET1.out, mcount_cw])
        have C_188 := hRows_any Na Ma Nc Mc N M w21 (by rw [FN.out]; exact G.out.1.small) DM.out.small AN_185.out AM_180.out
        rw [show (N == M) = true from by rw [beq_iff_eq]; exact FN.out] at C_188
        have C_189 := Lib.hid C_188
        clear C_188
        go_wp2_with fail
        refine (C_189.out).mono ?_
        rintro e w22 ⟨rfl, hq⟩
        have hb := hq.below w21.heap.size
        have B_190 := Lib.hid (B_178.out.trans (hb.mono B_178.out.size))
        have Y_191 := Lib.hid (Y_179.out.below hb)
        have AM_192 := Lib.hid (AM_180.out.below hb)
        have AT1_193 := Lib.hid (AT1_181.out.below hb)
        have AU1_194 := Lib.hid (AU1_182.out.below hb)
        have AV1_195 := Lib.hid (AV1_183.out.below hb)
        have AL1_196 := Lib.hid (AL1_184.out.below hb)
        have AN_197 := Lib.hid (AN_185.out.below hb)
        have AQ_198 := Lib.hid (AQ_186.out.below hb)
        have AR_199 := Lib.hid (AR_187.out.below hb)
        clear B_178 Y_179 AM_180 AT1_181 AU1_182 AV1_183 AL1_184 AN_185 AQ_186 AR_187
        clear hb hq C_189
        have C_200 := hRows_any Qa Ma Qc Mc Q M w22 (by rw [EQ.out, EU1.out, mir_mir G.out.1]; exact G.out.1.small) DM.out.small AQ_198.out AM_192.out
        rw [show (Q == M) = true from by rw [beq_iff_eq]; exact (by rw [EQ.out, EU1.out, mir_mir G.out.1])] at C_200
        have C_201 := Lib.hid C_200
        clear C_200
        go_wp2_with fail
        refine (C_201.out).mono ?_
        rintro e w23 ⟨rfl, hq⟩
        have hb := hq.below w22.heap.size
        have B_202 := Lib.hid (B_190.out.trans (hb.mono B_190.out.size))
        have Y_203 := Lib.hid (Y_191.out.below hb)
        have AM_204 := Lib.hid (AM_192.out.below hb)
        have AT1_205 := Lib.hid (AT1_193.out.below hb)
        have AU1_206 := Lib.hid (AU1_194.out.below hb)
        have AV1_207 := Lib.hid (AV1_195.out.below hb)
        have AL1_208 := Lib.hid (AL1_196.out.below hb)
        have AN_209 := Lib.hid (AN_197.out.below hb)
        have AQ_210 := Lib.hid (AQ_198.out.below hb)
        have AR_211 := Lib.hid (AR_199.out.below hb)
        clear B_190 Y_191 AM_192 AT1_193 AU1_194 AV1_195 AL1_196 AN_197 AQ_198 AR_199
        clear hb hq C_201
        have C_212 := hRows_any Ra T1a Rc T1c R T1 w23 (by rw [ER.out, EV1.out]; exact (good_cw G.out).1.small) (by rw [ET1.out]; exact (good_cw G.out).1.small) AR_211.out AT1_205.out
        rw [show (R == T1) = true from by rw [beq_iff_eq]; exact (by rw [ER.out, EV1.out, ET1.out]; rfl)] at C_212
        have C_213 := Lib.hid C_212
        clear C_212
        go_wp2_with fail
        refine (C_213.out).mono ?_
        rintro e w24 ⟨rfl, hq⟩
        have hb := hq.below w23.heap.size
        have B_214 := Lib.hid (B_202.out.trans (hb.mono B_202.out.size))
        have Y_215 := Lib.hid (Y_203.out.below hb)
        have AM_216 := Lib.hid (AM_204.out.below hb)
        have AT1_217 := Lib.hid (AT1_205.out.below hb)
        have AU1_218 := Lib.hid (AU1_206.out.below hb)
        have AV1_219 := Lib.hid (AV1_207.out.below hb)
        have AL1_220 := Lib.hid (AL1_208.out.below hb)
        have AN_221 := Lib.hid (AN_209.out.below hb)
        have AQ_222 := Lib.hid (AQ_210.out.below hb)
        have AR_223 := Lib.hid (AR_211.out.below hb)
        clear B_202 Y_203 AM_204 AT1_205 AU1_206 AV1_207 AL1_208 AN_209 AQ_210 AR_211
        clear hb hq C_213
        go_wp2_with fail
        refine (drawInversionsOf_any b m d w24 hm1 Y_215.out).mono ?_
        rintro e w25 ⟨v, X, rfl, hv, hd, hb⟩
        obtain ⟨Xa, Xc, rfl, Xh1, Xh2, hm⟩ := hv.read
        have DX := Lib.hid hd
        have CX := Lib.hid (And.intro Xh1 Xh2)
        have B_224 := Lib.hid (B_214.out.trans (hb.mono B_214.out.size))
        have Y_225 := Lib.hid (Y_215.out.below hb)
        clear B_214 Y_215
        have AX_226 := Lib.hid (hm)
        clear hv hd hb hm Xh1 Xh2
        by_cases hgx : good X
        · have GX := Lib.hid hgx
          clear hgx
          go_wp2_with fail
          refine (implInversionsOf_any Xa Xc X w25 DX.out.small DX.out.wf AX_226.out CX.out.1).mono ?_
          rintro e w26 ⟨⟨i1, t, rfl, hr⟩, hb⟩
          obtain ⟨rfl, hRe⟩ : t = true ∧ i1 = inv X := by
            rcases hr with ⟨_, h2, h3⟩ | ⟨h1, _⟩
            · exact ⟨h2, h3⟩
            · exact absurd GX.out h1
          have Ei1 := Lib.hid hRe
          clear hr hRe
          have B_227 := Lib.hid (B_224.out.trans (hb.mono B_224.out.size))
          have Y_228 := Lib.hid (Y_225.out.below hb)
          have AX_229 := Lib.hid (AX_226.out.below hb)
          clear B_224 Y_225 AX_226
          clear hb
          go_wp2_with fail
          refine (specInversionsOf_any Xa Xc X w26 DX.out.small AX_229.out).mono ?_
          rintro e w27 ⟨⟨i2, t, rfl, hr⟩, hb⟩
          obtain ⟨rfl, hRe⟩ : t = true ∧ i2 = inv X := by
            rcases hr with ⟨_, h2, h3⟩ | ⟨h1, _⟩
            · exact ⟨h2, h3⟩
            · exact absurd GX.out h1
          have Ei2 := Lib.hid hRe
          clear hr hRe
          have B_230 := Lib.hid (B_227.out.trans (hb.mono B_227.out.size))
          have Y_231 := Lib.hid (Y_228.out.below hb)
          have AX_232 := Lib.hid (AX_229.out.below hb)
          clear B_227 Y_228 AX_229
          clear hb
          obtain rfl : i2 = i1 := Ei2.out.trans Ei1.out.symm
          have hi12 : (i2 != i2) = false := by simp
          go_wp2_with fail
          refine (implFirstColumn_any Xa Xc X w27 DX.out.small DX.out.wf AX_232.out).mono ?_
          rintro e w28 ⟨hc, hb⟩
          obtain ⟨j, hj, rfl⟩ : ∃ j, IsFirst (gr X 0) j ∧ e = .returned (.tuple #[.int .i64 (j : Int), .bool true]) := by
            rcases hc with ⟨_, j, hj, h⟩ | ⟨h, _⟩
            · exact ⟨j, hj, h⟩
            · exact absurd GX.out h
          have HJ := Lib.hid hj
          have B_233 := Lib.hid (B_230.out.trans (hb.mono B_230.out.size))
          have Y_234 := Lib.hid (Y_231.out.below hb)
          have AX_235 := Lib.hid (AX_232.out.below hb)
          clear B_230 Y_231 AX_232
          clear hb hc hj
          go_wp2_with fail
          refine (specFirstColumn_any Xa Xc X w28 DX.out.small AX_235.out).mono ?_
          rintro e w29 ⟨hc, hb⟩
          obtain rfl : e = .returned (.tuple #[.int .i64 (j : Int), .bool true]) := by
            rcases hc with ⟨_, j2, hj2, h⟩ | ⟨h, _⟩
            · rw [h, first_unique hj2 HJ.out]
            · exact absurd GX.out h
          have B_236 := Lib.hid (B_233.out.trans (hb.mono B_233.out.size))
          have Y_237 := Lib.hid (Y_234.out.below hb)
          have AX_238 := Lib.hid (AX_235.out.below hb)
          clear B_233 Y_234 AX_235
          clear hb hc
          have hjj : ((j : Int) != (j : Int)) = false := by simp
          obtain ⟨b1, o1, r1, d1, e1, hc1, hx1, _, _⟩ := AX_238.out 0 (by have := GX.out.1.1; omega)
          subst e1
          obtain ⟨p1, q1, e1, hd1⟩ := hx1 j HJ.out.1
          subst e1
          rw [HJ.out.2.1] at hd1
          have hX0 : 0 < X.length := by have := GX.out.1.1; omega
          have hjl := HJ.out.1
          have hl0 := GX.out.1.2.2 0 hX0
          rw [hl0] at hc1 hjl
          clear hx1 hl0
          rw [Nat.add_zero] at hc1
          go_wp2
          go_ret
          exact ⟨rfl, B_236.out⟩
        · have GX := Lib.hid hgx
          clear hgx
          go_wp2_with fail
          refine (implInversionsOf_any Xa Xc X w25 DX.out.small DX.out.wf AX_226.out CX.out.1).mono ?_
          rintro e w26 ⟨⟨i1, t, rfl, hr⟩, hb⟩
          obtain ⟨rfl, hRe⟩ : t = false ∧ i1 = 0 := by
            rcases hr with ⟨h1, _⟩ | ⟨_, h2, h3⟩
            · exact absurd h1 GX.out
            · exact ⟨h2, h3⟩
          have Ei1 := Lib.hid hRe
          clear hr hRe
          have B_227 := Lib.hid (B_224.out.trans (hb.mono B_224.out.size))
          have Y_228 := Lib.hid (Y_225.out.below hb)
          have AX_229 := Lib.hid (AX_226.out.below hb)
          clear B_224 Y_225 AX_226
          clear hb
          go_wp2_with fail
          refine (specInversionsOf_any Xa Xc X w26 DX.out.small AX_229.out).mono ?_
          rintro e w27 ⟨⟨i2, t, rfl, hr⟩, hb⟩
          obtain ⟨rfl, hRe⟩ : t = false ∧ i2 = 0 := by
            rcases hr with ⟨h1, _⟩ | ⟨_, h2, h3⟩
            · exact absurd h1 GX.out
            · exact ⟨h2, h3⟩
          have Ei2 := Lib.hid hRe
          clear hr hRe
          have B_230 := Lib.hid (B_227.out.trans (hb.mono B_227.out.size))
          have Y_231 := Lib.hid (Y_228.out.below hb)
          have AX_232 := Lib.hid (AX_229.out.below hb)
          clear B_227 Y_228 AX_229
          clear hb
          obtain rfl : i1 = 0 := Ei1.out
          obtain rfl : i2 = 0 := Ei2.out
          go_wp2_with fail
          refine (implFirstColumn_any Xa Xc X w27 DX.out.small DX.out.wf AX_232.out).mono ?_
          rintro e w28 ⟨hc, hb⟩
          obtain rfl : e = .returned (.tuple #[.int .i64 0, .bool false]) := by
            rcases hc with ⟨h, _⟩ | ⟨_, h⟩
            · exact absurd h GX.out
            · exact h
          have B_233 := Lib.hid (B_230.out.trans (hb.mono B_230.out.size))
          have Y_234 := Lib.hid (Y_231.out.below hb)
          have AX_235 := Lib.hid (AX_232.out.below hb)
          clear B_230 Y_231 AX_232
          clear hb hc
          go_wp2_with fail
          refine (specFirstColumn_any Xa Xc X w28 DX.out.small AX_235.out).mono ?_
          rintro e w29 ⟨hc, hb⟩
          obtain rfl : e = .returned (.tuple #[.int .i64 0, .bool false]) := by
            rcases hc with ⟨h, _⟩ | ⟨_, h⟩
            · exact absurd h GX.out
            · exact h
          have B_236 := Lib.hid (B_233.out.trans (hb.mono B_233.out.size))
          have Y_237 := Lib.hid (Y_234.out.below hb)
          have AX_238 := Lib.hid (AX_235.out.below hb)
          clear B_233 Y_234 AX_235
          clear hb hc
          go_wp2
          go_ret
          exact ⟨rfl, B_236.out⟩
  · have G := Lib.hid hg
    clear hg
    go_wp2_with fail
    refine (implTurnMatrix_any Ma Mc M w1 DM.out.small DM.out.wf AM_4.out).mono ?_
    rintro e w2 ⟨⟨v, t, T1, rfl, hv, hr⟩, hb⟩
    obtain ⟨rfl, hRe⟩ : t = false ∧ T1 = [] := by
      rcases hr with ⟨h1, _⟩ | ⟨_, h2, h3⟩
      · exact absurd h1 G.out
      · exact ⟨h2, h3⟩
    have ET1 := Lib.hid hRe
    clear hr hRe
    obtain ⟨T1a, T1c, rfl, T1h1, T1h2, hm⟩ := hv.read
    have CT1 := Lib.hid (And.intro T1h1 T1h2)
    have B_5 := Lib.hid (B_1.out.trans (hb.mono B_1.out.size))
    have Y_6 := Lib.hid (Y_3.out.below hb)
    have AM_7 := Lib.hid (AM_4.out.below hb)
    clear B_1 Y_3 AM_4
    have AT1_8 := Lib.hid (hm)
    clear hv hb hm T1h1 T1h2
    go_wp2_with fail
    refine (specTurnMatrix_any Ma Mc M w2 DM.out.small AM_7.out).mono ?_
    rintro e w3 ⟨⟨v, t, T2, rfl, hv, hr⟩, hb⟩
    obtain ⟨rfl, hRe⟩ : t = false ∧ T2 = [] := by
      rcases hr with ⟨h1, _⟩ | ⟨_, h2, h3⟩
      · exact absurd h1 G.out
      · exact ⟨h2, h3⟩
    have ET2 := Lib.hid hRe
    clear hr hRe
    obtain ⟨T2a, T2c, rfl, T2h1, T2h2, hm⟩ := hv.read
    have CT2 := Lib.hid (And.intro T2h1 T2h2)
    have B_9 := Lib.hid (B_5.out.trans (hb.mono B_5.out.size))
    have Y_10 := Lib.hid (Y_6.out.below hb)
    have AM_11 := Lib.hid (AM_7.out.below hb)
    have AT1_12 := Lib.hid (AT1_8.out.below hb)
    clear B_5 Y_6 AM_7 AT1_8
    have AT2_13 := Lib.hid (hm)
    clear hv hb hm T2h1 T2h2
    go_wp2_with fail
    refine (implMirrorMatrix_any Ma Mc M w3 DM.out.small DM.out.wf AM_11.out).mono ?_
    rintro e w4 ⟨⟨v, t, U1, rfl, hv, hr⟩, hb⟩
    obtain ⟨rfl, hRe⟩ : t = false ∧ U1 = [] := by
      rcases hr with ⟨h1, _⟩ | ⟨_, h2, h3⟩
      · exact absurd h1 G.out
      · exact ⟨h2, h3⟩
    have EU1 := Lib.hid hRe
    clear hr hRe
    obtain ⟨U1a, U1c, rfl, U1h1, U1h2, hm⟩ := hv.read
    have CU1 := Lib.hid (And.intro U1h1 U1h2)
    have B_14 := Lib.hid (B_9.out.trans (hb.mono B_9.out.size))
    have Y_15 := Lib.hid (Y_10.out.below hb)
    have AM_16 := Lib.hid (AM_11.out.below hb)
    have AT1_17 := Lib.hid (AT1_12.out.below hb)
    have AT2_18 := Lib.hid (AT2_13.out.below hb)
    clear B_9 Y_10 AM_11 AT1_12 AT2_13
    have AU1_19 := Lib.hid (hm)
    clear hv hb hm U1h1 U1h2
    go_wp2_with fail
    refine (specMirrorMatrix_any Ma Mc M w4 DM.out.small AM_16.out).mono ?_
    rintro e w5 ⟨⟨v, t, U2, rfl, hv, hr⟩, hb⟩
    obtain ⟨rfl, hRe⟩ : t = false ∧ U2 = [] := by
      rcases hr with ⟨h1, _⟩ | ⟨_, h2, h3⟩
      · exact absurd h1 G.out
      · exact ⟨h2, h3⟩
    have EU2 := Lib.hid hRe
    clear hr hRe
    obtain ⟨U2a, U2c, rfl, U2h1, U2h2, hm⟩ := hv.read
    have CU2 := Lib.hid (And.intro U2h1 U2h2)
    have B_20 := Lib.hid (B_14.out.trans (hb.mono B_14.out.size))
    have Y_21 := Lib.hid (Y_15.out.below hb)
    have AM_22 := Lib.hid (AM_16.out.below hb)
    have AT1_23 := Lib.hid (AT1_17.out.below hb)
    have AT2_24 := Lib.hid (AT2_18.out.below hb)
    have AU1_25 := Lib.hid (AU1_19.out.below hb)
    clear B_14 Y_15 AM_16 AT1_17 AT2_18 AU1_19
    have AU2_26 := Lib.hid (hm)
    clear hv hb hm U2h1 U2h2
    go_wp2_with fail
    refine (implTransposeMatrix_any Ma Mc M w5 DM.out.small DM.out.wf AM_22.out).mono ?_
    rintro e w6 ⟨⟨v, t, V1, rfl, hv, hr⟩, hb⟩
    obtain ⟨rfl, hRe⟩ : t = false ∧ V1 = [] := by
      rcases hr with ⟨h1, _⟩ | ⟨_, h2, h3⟩
      · exact absurd h1 G.out
      · exact ⟨h2, h3⟩
    have EV1 := Lib.hid hRe
    clear hr hRe
    obtain ⟨V1a, V1c, rfl, V1h1, V1h2, hm⟩ := hv.read
    have CV1 := Lib.hid (And.intro V1h1 V1h2)
    have B_27 := Lib.hid (B_20.out.trans (hb.mono B_20.out.size))
    have Y_28 := Lib.hid (Y_21.out.below hb)
    have AM_29 := Lib.hid (AM_22.out.below hb)
    have AT1_30 := Lib.hid (AT1_23.out.below hb)
    have AT2_31 := Lib.hid (AT2_24.out.below hb)
    have AU1_32 := Lib.hid (AU1_25.out.below hb)
    have AU2_33 := Lib.hid (AU2_26.out.below hb)
    clear B_20 Y_21 AM_22 AT1_23 AT2_24 AU1_25 AU2_26
    have AV1_34 := Lib.hid (hm)
    clear hv hb hm V1h1 V1h2
    go_wp2_with fail
    refine (specTransposeMatrix_any Ma Mc M w6 DM.out.small AM_29.out).mono ?_
    rintro e w7 ⟨⟨v, t, V2, rfl, hv, hr⟩, hb⟩
    obtain ⟨rfl, hRe⟩ : t = false ∧ V2 = [] := by
      rcases hr with ⟨h1, _⟩ | ⟨_, h2, h3⟩
      · exact absurd h1 G.out
      · exact ⟨h2, h3⟩
    have EV2 := Lib.hid hRe
    clear hr hRe
    obtain ⟨V2a, V2c, rfl, V2h1, V2h2, hm⟩ := hv.read
    have CV2 := Lib.hid (And.intro V2h1 V2h2)
    have B_35 := Lib.hid (B_27.out.trans (hb.mono B_27.out.size))
    have Y_36 := Lib.hid (Y_28.out.below hb)
    have AM_37 := Lib.hid (AM_29.out.below hb)
    have AT1_38 := Lib.hid (AT1_30.out.below hb)
    have AT2_39 := Lib.hid (AT2_31.out.below hb)
    have AU1_40 := Lib.hid (AU1_32.out.below hb)
    have AU2_41 := Lib.hid (AU2_33.out.below hb)
    have AV1_42 := Lib.hid (AV1_34.out.below hb)
    clear B_27 Y_28 AM_29 AT1_30 AT2_31 AU1_32 AU2_33 AV1_34
    have AV2_43 := Lib.hid (hm)
    clear hv hb hm V2h1 V2h2
    go_wp2_with fail
    refine (implLeastOfTurns_x Ma Mc M w7 DM.out.small DM.out.wf AM_37.out (x := []) (fun h => absurd h G.out)).mono ?_
    rintro e w8 ⟨⟨v, t, L1, rfl, hv, hr⟩, hb⟩
    obtain ⟨rfl, hRe⟩ : t = false ∧ L1 = [] := by
      rcases hr with ⟨h1, _⟩ | ⟨_, h2, h3⟩
      · exact absurd h1 G.out
      · exact ⟨h2, h3⟩
    have EL1 := Lib.hid hRe
    clear hr hRe
    obtain ⟨L1a, L1c, rfl, L1h1, L1h2, hm⟩ := hv.read
    have CL1 := Lib.hid (And.intro L1h1 L1h2)
    have B_44 := Lib.hid (B_35.out.trans (hb.mono B_35.out.size))
    have Y_45 := Lib.hid (Y_36.out.below hb)
    have AM_46 := Lib.hid (AM_37.out.below hb)
    have AT1_47 := Lib.hid (AT1_38.out.below hb)
    have AT2_48 := Lib.hid (AT2_39.out.below hb)
    have AU1_49 := Lib.hid (AU1_40.out.below hb)
    have AU2_50 := Lib.hid (AU2_41.out.below hb)
    have AV1_51 := Lib.hid (AV1_42.out.below hb)
    have AV2_52 := Lib.hid (AV2_43.out.below hb)
    clear B_35 Y_36 AM_37 AT1_38 AT2_39 AU1_40 AU2_41 AV1_42 AV2_43
    have AL1_53 := Lib.hid (hm)
    clear hv hb hm L1h1 L1h2
    go_wp2_with fail
    refine (specLeastOfTurns_x Ma Mc M w8 DM.out.small AM_46.out (x := []) (fun h => absurd h G.out)).mono ?_
    rintro e w9 ⟨⟨v, t, L2, rfl, hv, hr⟩, hb⟩
    obtain ⟨rfl, hRe⟩ : t = false ∧ L2 = [] := by
      rcases hr with ⟨h1, _⟩ | ⟨_, h2, h3⟩
      · exact absurd h1 G.out
      · exact ⟨h2, h3⟩
    have EL2 := Lib.hid hRe
    clear hr hRe
    obtain ⟨L2a, L2c, rfl, L2h1, L2h2, hm⟩ := hv.read
    have CL2 := Lib.hid (And.intro L2h1 L2h2)
    have B_54 := Lib.hid (B_44.out.trans (hb.mono B_44.out.size))
    have Y_55 := Lib.hid (Y_45.out.below hb)
    have AM_56 := Lib.hid (AM_46.out.below hb)
    have AT1_57 := Lib.hid (AT1_47.out.below hb)
    have AT2_58 := Lib.hid (AT2_48.out.below hb)
    have AU1_59 := Lib.hid (AU1_49.out.below hb)
    have AU2_60 := Lib.hid (AU2_50.out.below hb)
    have AV1_61 := Lib.hid (AV1_51.out.below hb)
    have AV2_62 := Lib.hid (AV2_52.out.below hb)
    have AL1_63 := Lib.hid (AL1_53.out.below hb)
    clear B_44 Y_45 AM_46 AT1_47 AT2_48 AU1_49 AU2_50 AV1_51 AV2_52 AL1_53
    have AL2_64 := Lib.hid (hm)
    clear hv hb hm L2h1 L2h2
    have C_65 := hRows_any T1a T2a T1c T2c T1 T2 w9 (by rw [ET1.out]; exact Drawn.nil.small) (by rw [ET2.out]; exact Drawn.nil.small) AT1_57.out AT2_58.out
    rw [show (T1 == T2) = true from by rw [beq_iff_eq]; exact ET1.out.trans ET2.out.symm] at C_65
    have C_66 := Lib.hid C_65
    clear C_65
    go_wp2_with fail
    refine (C_66.out).mono ?_
    rintro e w10 ⟨rfl, hq⟩
    have hb := hq.below w9.heap.size
    have B_67 := Lib.hid (B_54.out.trans (hb.mono B_54.out.size))
    have Y_68 := Lib.hid (Y_55.out.below hb)
    have AM_69 := Lib.hid (AM_56.out.below hb)
    have AT1_70 := Lib.hid (AT1_57.out.below hb)
    have AT2_71 := Lib.hid (AT2_58.out.below hb)
    have AU1_72 := Lib.hid (AU1_59.out.below hb)
    have AU2_73 := Lib.hid (AU2_60.out.below hb)
    have AV1_74 := Lib.hid (AV1_61.out.below hb)
    have AV2_75 := Lib.hid (AV2_62.out.below hb)
    have AL1_76 := Lib.hid (AL1_63.out.below hb)
    have AL2_77 := Lib.hid (AL2_64.out.below hb)
    clear B_54 Y_55 AM_56 AT1_57 AT2_58 AU1_59 AU2_60 AV1_61 AV2_62 AL1_63 AL2_64
    clear hb hq C_66
    have C_78 := hRows_any U1a U2a U1c U2c U1 U2 w10 (by rw [EU1.out]; exact Drawn.nil.small) (by rw [EU2.out]; exact Drawn.nil.small) AU1_72.out AU2_73.out
    rw [show (U1 == U2) = true from by rw [beq_iff_eq]; exact EU1.out.trans EU2.out.symm] at C_78
    have C_79 := Lib.hid C_78
    clear C_78
    go_wp2_with fail
    refine (C_79.out).mono ?_
    rintro e w11 ⟨rfl, hq⟩
    have hb := hq.below w10.heap.size
    have B_80 := Lib.hid (B_67.out.trans (hb.mono B_67.out.size))
    have Y_81 := Lib.hid (Y_68.out.below hb)
    have AM_82 := Lib.hid (AM_69.out.below hb)
    have AU1_83 := Lib.hid (AU1_72.out.below hb)
    have AU2_84 := Lib.hid (AU2_73.out.below hb)
    have AV1_85 := Lib.hid (AV1_74.out.below hb)
    have AV2_86 := Lib.hid (AV2_75.out.below hb)
    have AL1_87 := Lib.hid (AL1_76.out.below hb)
    have AL2_88 := Lib.hid (AL2_77.out.below hb)
    clear B_67 Y_68 AM_69 AU1_72 AU2_73 AV1_74 AV2_75 AL1_76 AL2_77
    clear hb hq C_79
    have C_89 := hRows_any V1a V2a V1c V2c V1 V2 w11 (by rw [EV1.out]; exact Drawn.nil.small) (by rw [EV2.out]; exact Drawn.nil.small) AV1_85.out AV2_86.out
    rw [show (V1 == V2) = true from by rw [beq_iff_eq]; exact EV1.out.trans EV2.out.symm] at C_89
    have C_90 := Lib.hid C_89
    clear C_89
    go_wp2_with fail
    refine (C_90.out).mono ?_
    rintro e w12 ⟨rfl, hq⟩
    have hb := hq.below w11.heap.size
    have B_91 := Lib.hid (B_80.out.trans (hb.mono B_80.out.size))
    have Y_92 := Lib.hid (Y_81.out.below hb)
    have AM_93 := Lib.hid (AM_82.out.below hb)
    have AV1_94 := Lib.hid (AV1_85.out.below hb)
    have AV2_95 := Lib.hid (AV2_86.out.below hb)
    have AL1_96 := Lib.hid (AL1_87.out.below hb)
    have AL2_97 := Lib.hid (AL2_88.out.below hb)
    clear B_80 Y_81 AM_82 AV1_85 AV2_86 AL1_87 AL2_88
    clear hb hq C_90
    have C_98 := hRows_any L1a L2a L1c L2c L1 L2 w12 (by rw [EL1.out]; exact Drawn.nil.small) (by rw [EL2.out]; exact Drawn.nil.small) AL1_96.out AL2_97.out
    rw [show (L1 == L2) = true from by rw [beq_iff_eq]; exact EL1.out.trans EL2.out.symm] at C_98
    have C_99 := Lib.hid C_98
    clear C_98
    go_wp2_with fail
    refine (C_99.out).mono ?_
    rintro e w13 ⟨rfl, hq⟩
    have hb := hq.below w12.heap.size
    have B_100 := Lib.hid (B_91.out.trans (hb.mono B_91.out.size))
    have Y_101 := Lib.hid (Y_92.out.below hb)
    have AM_102 := Lib.hid (AM_93.out.below hb)
    have AL1_103 := Lib.hid (AL1_96.out.below hb)
    have AL2_104 := Lib.hid (AL2_97.out.below hb)
    clear B_91 Y_92 AM_93 AL1_96 AL2_97
    clear hb hq C_99
    go_wp2_with fail
    refine (drawInversionsOf_any b m d w13 hm1 Y_101.out).mono ?_
    rintro e w14 ⟨v, X, rfl, hv, hd, hb⟩
    obtain ⟨Xa, Xc, rfl, Xh1, Xh2, hm⟩ := hv.read
    have DX := Lib.hid hd
    have CX := Lib.hid (And.intro Xh1 Xh2)
    have B_105 := Lib.hid (B_100.out.trans (hb.mono B_100.out.size))
    have Y_106 := Lib.hid (Y_101.out.below hb)
    clear B_100 Y_101
    have AX_107 := Lib.hid (hm)
    clear hv hd hb hm Xh1 Xh2
    by_cases hgx : good X
    · have GX := Lib.hid hgx
      clear hgx
      go_wp2_with fail
      refine (implInversionsOf_any Xa Xc X w14 DX.out.small DX.out.wf AX_107.out CX.out.1).mono ?_
      rintro e w15 ⟨⟨i1, t, rfl, hr⟩, hb⟩
      obtain ⟨rfl, hRe⟩ : t = true ∧ i1 = inv X := by
        rcases hr with ⟨_, h2, h3⟩ | ⟨h1, _⟩
        · exact ⟨h2, h3⟩
        · exact absurd GX.out h1
      have Ei1 := Lib.hid hRe
      clear hr hRe
      have B_108 := Lib.hid (B_105.out.trans (hb.mono B_105.out.size))
      have Y_109 := Lib.hid (Y_106.out.below hb)
      have AX_110 := Lib.hid (AX_107.out.below hb)
      clear B_105 Y_106 AX_107
      clear hb
      go_wp2_with fail
      refine (specInversionsOf_any Xa Xc X w15 DX.out.small AX_110.out).mono ?_
      rintro e w16 ⟨⟨i2, t, rfl, hr⟩, hb⟩
      obtain ⟨rfl, hRe⟩ : t = true ∧ i2 = inv X := by
        rcases hr with ⟨_, h2, h3⟩ | ⟨h1, _⟩
        · exact ⟨h2, h3⟩
        · exact absurd GX.out h1
      have Ei2 := Lib.hid hRe
      clear hr hRe
      have B_111 := Lib.hid (B_108.out.trans (hb.mono B_108.out.size))
      have Y_112 := Lib.hid (Y_109.out.below hb)
      have AX_113 := Lib.hid (AX_110.out.below hb)
      clear B_108 Y_109 AX_110
      clear hb
      obtain rfl : i2 = i1 := Ei2.out.trans Ei1.out.symm
      have hi12 : (i2 != i2) = false := by simp
      go_wp2_with fail
      refine (implFirstColumn_any Xa Xc X w16 DX.out.small DX.out.wf AX_113.out).mono ?_
      rintro e w17 ⟨hc, hb⟩
      obtain ⟨j, hj, rfl⟩ : ∃ j, IsFirst (gr X 0) j ∧ e = .returned (.tuple #[.int .i64 (j : Int), .bool true]) := by
        rcases hc with ⟨_, j, hj, h⟩ | ⟨h, _⟩
        · exact ⟨j, hj, h⟩
        · exact absurd GX.out h
      have HJ := Lib.hid hj
      have B_114 := Lib.hid (B_111.out.trans (hb.mono B_111.out.size))
      have Y_115 := Lib.hid (Y_112.out.below hb)
      have AX_116 := Lib.hid (AX_113.out.below hb)
      clear B_111 Y_112 AX_113
      clear hb hc hj
      go_wp2_with fail
      refine (specFirstColumn_any Xa Xc X w17 DX.out.small AX_116.out).mono ?_
      rintro e w18 ⟨hc, hb⟩
      obtain rfl : e = .returned (.tuple #[.int .i64 (j : Int), .bool true]) := by
        rcases hc with ⟨_, j2, hj2, h⟩ | ⟨h, _⟩
        · rw [h, first_unique hj2 HJ.out]
        · exact absurd GX.out h
      have B_117 := Lib.hid (B_114.out.trans (hb.mono B_114.out.size))
      have Y_118 := Lib.hid (Y_115.out.below hb)
      have AX_119 := Lib.hid (AX_116.out.below hb)
      clear B_114 Y_115 AX_116
      clear hb hc
      have hjj : ((j : Int) != (j : Int)) = false := by simp
      obtain ⟨b1, o1, r1, d1, e1, hc1, hx1, _, _⟩ := AX_119.out 0 (by have := GX.out.1.1; omega)
      subst e1
      obtain ⟨p1, q1, e1, hd1⟩ := hx1 j HJ.out.1
      subst e1
      rw [HJ.out.2.1] at hd1
      have hX0 : 0 < X.length := by have := GX.out.1.1; omega
      have hjl := HJ.out.1
      have hl0 := GX.out.1.2.2 0 hX0
      rw [hl0] at hc1 hjl
      clear hx1 hl0
      rw [Nat.add_zero] at hc1
      go_wp2
      go_ret
      exact ⟨rfl, B_117.out⟩
    · have GX := Lib.hid hgx
      clear hgx
      go_wp2_with fail
      refine (implInversionsOf_any Xa Xc X w14 DX.out.small DX.out.wf AX_107.out CX.out.1).mono ?_
      rintro e w15 ⟨⟨i1, t, rfl, hr⟩, hb⟩
      obtain ⟨rfl, hRe⟩ : t = false ∧ i1 = 0 := by
        rcases hr with ⟨h1, _⟩ | ⟨_, h2, h3⟩
        · exact absurd h1 GX.out
        · exact ⟨h2, h3⟩
      have Ei1 := Lib.hid hRe
      clear hr hRe
      have B_108 := Lib.hid (B_105.out.trans (hb.mono B_105.out.size))
      have Y_109 := Lib.hid (Y_106.out.below hb)
      have AX_110 := Lib.hid (AX_107.out.below hb)
      clear B_105 Y_106 AX_107
      clear hb
      go_wp2_with fail
      refine (specInversionsOf_any Xa Xc X w15 DX.out.small AX_110.out).mono ?_
      rintro e w16 ⟨⟨i2, t, rfl, hr⟩, hb⟩
      obtain ⟨rfl, hRe⟩ : t = false ∧ i2 = 0 := by
        rcases hr with ⟨h1, _⟩ | ⟨_, h2, h3⟩
        · exact absurd h1 GX.out
        · exact ⟨h2, h3⟩
      have Ei2 := Lib.hid hRe
      clear hr hRe
      have B_111 := Lib.hid (B_108.out.trans (hb.mono B_108.out.size))
      have Y_112 := Lib.hid (Y_109.out.below hb)
      have AX_113 := Lib.hid (AX_110.out.below hb)
      clear B_108 Y_109 AX_110
      clear hb
      obtain rfl : i1 = 0 := Ei1.out
      obtain rfl : i2 = 0 := Ei2.out
      go_wp2_with fail
      refine (implFirstColumn_any Xa Xc X w16 DX.out.small DX.out.wf AX_113.out).mono ?_
      rintro e w17 ⟨hc, hb⟩
      obtain rfl : e = .returned (.tuple #[.int .i64 0, .bool false]) := by
        rcases hc with ⟨h, _⟩ | ⟨_, h⟩
        · exact absurd h GX.out
        · exact h
      have B_114 := Lib.hid (B_111.out.trans (hb.mono B_111.out.size))
      have Y_115 := Lib.hid (Y_112.out.below hb)
      have AX_116 := Lib.hid (AX_113.out.below hb)
      clear B_111 Y_112 AX_113
      clear hb hc
      go_wp2_with fail
      refine (specFirstColumn_any Xa Xc X w17 DX.out.small AX_116.out).mono ?_
      rintro e w18 ⟨hc, hb⟩
      obtain rfl : e = .returned (.tuple #[.int .i64 0, .bool false]) := by
        rcases hc with ⟨h, _⟩ | ⟨_, h⟩
        · exact absurd h GX.out
        · exact h
      have B_117 := Lib.hid (B_114.out.trans (hb.mono B_114.out.size))
      have Y_118 := Lib.hid (Y_115.out.below hb)
      have AX_119 := Lib.hid (AX_116.out.below hb)
      clear B_114 Y_115 AX_116
      clear hb hc
      go_wp2
      go_ret
      exact ⟨rfl, B_117.out⟩
end Go.Proofs.Ytnhkclnloiiihaa
