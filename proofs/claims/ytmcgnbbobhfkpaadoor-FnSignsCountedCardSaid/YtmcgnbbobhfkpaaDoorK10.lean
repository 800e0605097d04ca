/- Parts of proofs: contracts and plain facts. Conditions: as each says. -/
import Derived.Test.YtmcgnbbobhfkpaaDoorK09
namespace Go.Proofs.YtmcgnbbobhfkpaaDoor
open Go.RowKit

theorem wrap_mulL (a b : Int) : wrap64 (wrap64 a * b) = wrap64 (a * b) := by
  obtain ⟨q, hq⟩ : ∃ q : Int, wrap64 a = a + q * 18446744073709551616 := ⟨(wrap64 a - a) / 18446744073709551616, by unfold wrap64; omega⟩
  rw [hq, Int.add_mul, Int.mul_assoc, Int.mul_comm 18446744073709551616 b, ← Int.mul_assoc]
  obtain ⟨t, ht⟩ : ∃ t, t = q * b := ⟨_, rfl⟩
  obtain ⟨y, hy⟩ : ∃ y, y = a * b := ⟨_, rfl⟩
  rw [← ht, ← hy]
  unfold wrap64
  omega
set_option maxRecDepth 100000 in
set_option maxHeartbeats 6400000 in
theorem walkSigns (a b : Option Addr) (n m c d : Nat) (w : World) (hn : n ≤ 9223372036854775807) (hm : m ≤ 9223372036854775807) (hA : BytesIn w a n) (hB : BytesIn w b m) (hD : Dj w) :
    Calls Tryd.prog 3 #[.slice a n c, .slice b m d] w fun e w' => e = .returned (.bool true) ∧ Below w.heap.size w w' := by
  by_cases hbig : 1048576 < n + m
  · have H := Lib.hid hbig
    clear hbig hA hB hD
    go_enter Tryd.func3, Tryd.ntmps3
    go_wp2_with fail
    refine (big_any a b n m c d w hn hm).mono ?_
    rintro e w2 ⟨ha, rfl⟩
    obtain rfl := ha.is H.out
    clear ha
    go_wp2
    go_ret
    exact ⟨rfl, Below.refl _ _⟩
  · have H := Lib.hid hbig
    have HA := Lib.hid hA
    have HB := Lib.hid hB
    have HD := Lib.hid hD
    have hn1 : n ≤ 1048576 := by omega
    have hm1 : m ≤ 1048576 := by omega
    clear hbig hA hB hD
    go_enter Tryd.func3, Tryd.ntmps3
    go_wp2_with fail
    refine (big_any a b n m c d w hn hm).mono ?_
    rintro e w2 ⟨ha, rfl⟩
    obtain rfl := ha.isnt H.out
    clear ha
    go_wp2_with fail
    refine (drawCountByFirst_any a n c w hn1 HA.out).mono ?_
    rintro e w1 ⟨v, rfl, hv, hb1⟩
    have hvb : -1 ≤ v ∧ v ≤ 7 := by simp at hv; omega
    have Hb1 := Lib.hid hb1
    clear hv hb1
    go_wp2_with fail
    refine (implCountByFirst_any v w1 (by omega) (HD.out.next Hb1.out)).mono ?_
    rintro e w2 ⟨⟨f1, t1, L1, rfl, hf1, hr1⟩, hb2⟩
    have Hf1 := Lib.hid hf1
    have Hr1 := Lib.hid hr1
    obtain ⟨fa, fc, rfl, _, _, _⟩ := hf1.read
    have Hb2 := Lib.hid (Hb1.out.trans (hb2.mono Hb1.out.size))
    have HB2 := Lib.hid Hb2.out.size
    clear hf1 hr1 hb2
    go_wp2_with fail
    refine (specCountByFirst_any v w2 (by omega)).mono ?_
    rintro e w3 ⟨⟨f2, t2, L2, rfl, hf2, hr2⟩, hb3⟩
    have Hf2 := Lib.hid hf2
    obtain ⟨ga, gc, rfl, _, _, _⟩ := hf2.read
    have Hf1 := Lib.hid (Hf1.out.below hb3)
    have Hb3 := Lib.hid (Hb2.out.trans (hb3.mono HB2.out))
    have HB3 := Lib.hid Hb3.out.size
    have he := lres_same Hr1.out hr2
    obtain ⟨rfl, rfl⟩ := he
    clear hf2 hr2 hb3
    go_wp2_with fail
    refine (implCountSigns_any v w3).mono ?_
    rintro e w4 ⟨⟨y, t3, rfl, hy⟩, rfl⟩
    by_cases hin : inN v
    · obtain ⟨rfl, rfl⟩ : t2 = true ∧ L2 = firstW v.toNat := by
        rcases Hr1.out with ⟨_, h2, h3⟩ | ⟨h1, _⟩
        · exact ⟨h2, h3⟩
        · exact absurd hin h1
      obtain ⟨rfl, rfl⟩ : t3 = true ∧ y = (cI v.toNat : Nat) := by
        rcases hy with ⟨_, h2, h3⟩ | ⟨h1, _⟩
        · exact ⟨h2, h3⟩
        · exact absurd ⟨hin.1, by have := hin.2; omega⟩ h1
      obtain ⟨N, rfl⟩ : ∃ N : Nat, v = (N : Int) := ⟨v.toNat, by have := hin.1; omega⟩
      have h1 : 1 ≤ N := by have := hin.1; omega
      have h6 : N ≤ 6 := by have := hin.2; omega
      have hS := scF_ok h1 h6
      rw [Int.toNat_natCast] at Hf1 Hf2 ⊢
      obtain ⟨L, hL⟩ : ∃ L, L = firstW N := ⟨_, rfl⟩
      rw [← hL] at hS Hf1 Hf2 ⊢
      have S := Lib.hid hS
      have hlen := hS.len
      have Hlen := Lib.hid hlen
      have HX := Lib.hid (own_at Hf1.out)
      have C1 := hSame_any fa ga fc gc L L w3 (by omega) (by omega) (own_at Hf1.out) (own_at Hf2.out)
      have C2 := fun wx (hb : Below w3.heap.size w3 wx) => hSum_any fa fc L wx (by omega) ((own_at Hf1.out).below hb)
      rw [show (L == L) = true from by simp] at C1
      rw [hS.sum] at C2
      rw [hlen] at C1 C2 ⊢
      obtain ⟨Z, hZ⟩ : ∃ Z : Nat, Z = cI N := ⟨_, rfl⟩
      rw [← hZ] at C2 ⊢
      have C1 := Lib.hid C1
      have C2 := Lib.hid C2
      have hzz : ((Z : Int) != (Z : Int)) = false := by simp
      have hNN : ((N : Int) != (N : Int)) = false := by simp
      clear hS hlen hL hZ hin hy Hr1 Hf2 hvb
      go_wp2_with fail
      refine C1.out.mono ?_
      rintro e w4 ⟨rfl, hq4⟩
      have Hq4 := Lib.hid (hq4.below w3.heap.size)
      clear hq4
      go_wp2_with fail
      refine (C2.out w4 Hq4.out).mono ?_
      rintro e w5 ⟨rfl, rfl⟩
      have HX4 := Lib.hid (HX.out.below Hq4.out)
      have Hb4 := Lib.hid (Hb3.out.trans (Hq4.out.mono HB3.out))
      clear HX Hq4 C1 C2
      go_wp2
      go_loop [86] (fun i => ∃ j : Nat, j ≤ N ∧ i = .int .i64 j) (fun i => N - (intOf i).toNat)
      case atStart => exact ⟨0, Nat.zero_le _, rfl⟩
      case round =>
        obtain ⟨j, hj, rfl⟩ := hrel
        by_cases hlt : j < N
        · obtain ⟨b1, o1, e1, hc1⟩ := HX4.out j (by rw [Hlen.out]; exact hlt)
          obtain ⟨b2, o2, e2, hc2⟩ := HX4.out (N - 1 - j) (by rw [Hlen.out]; omega)
          rw [e1] at e2
          cases e2
          subst e1
          rw [← S.out.sym j hlt] at hc2
          obtain ⟨x, hx⟩ : ∃ x, x = gi L j := ⟨_, rfl⟩
          rw [← hx] at hc1 hc2
          have hxx : (x != x) = false := by simp
          have hidx : ((N : Int) - 1 - (j : Int)) = ((N - 1 - j : Nat) : Int) := by omega
          have hw1 : IntKind.i64.wrap ((N : Int) - 1) = ((N - 1 : Nat) : Int) := by rw [i64_small (by omega) (by omega)]; omega
          have hw2 : IntKind.i64.wrap (((N - 1 : Nat) : Int) - (j : Int)) = ((N - 1 - j : Nat) : Int) := by rw [i64_small (by omega) (by omega)]; omega
          clear hx
          go_wp2
          go_round
          case rel => exact ⟨j + 1, by omega, by go_num⟩
          case measure => simp [intOf]; omega
        · obtain rfl : j = N := by omega
          by_cases h1N : 1 < j
          · have hgt : (1 : Int) < (j : Int) := by omega
            have hw1 : IntKind.i64.wrap ((j : Int) - 1) = ((j - 1 : Nat) : Int) := by rw [i64_small (by omega) (by omega)]; omega
            have CS := implCountSigns_any ((j - 1 : Nat) : Int) w4
            rw [Int.toNat_natCast] at CS
            obtain ⟨b0, o0, e0, hc0⟩ := HX4.out 0 (by rw [Hlen.out]; omega)
            rw [S.out.less h1N, Nat.add_zero] at hc0
            obtain ⟨Y, hY⟩ : ∃ Y : Nat, Y = cI (j - 1) := ⟨_, rfl⟩
            rw [← hY] at CS hc0
            subst e0
            have CS := Lib.hid CS
            have hyy : ((Y : Int) != (Y : Int)) = false := by simp
            have hin2 : inR ((j - 1 : Nat) : Int) := ⟨by omega, by omega⟩
            have Hin2 := Lib.hid hin2
            clear hY hin2
            go_wp2_with fail
            refine CS.out.mono ?_
            rintro e w6 ⟨⟨y, t, rfl, hy⟩, rfl⟩
            obtain ⟨rfl, rfl⟩ : t = true ∧ y = (Y : Int) := by
              rcases hy with ⟨_, h2, h3⟩ | ⟨h1, _⟩
              · exact ⟨h2, h3⟩
              · exact absurd Hin2.out h1
            clear hy CS
            go_wp2
            go_loopw [16] (fun i wr => ∃ k : Nat, k + 1 ≤ j ∧ i = .int .i64 k ∧ Below w4.heap.size w4 wr) (fun i _ => j - (intOf i).toNat)
            case atStart => exact ⟨0, by omega, rfl, Below.refl _ _⟩
            case round =>
              obtain ⟨k, hk, rfl, hbr⟩ := hrel
              have Hbr := Lib.hid hbr
              by_cases hlt2 : k + 1 < j
              · obtain ⟨b1, o1, e1, hc1⟩ := HX4.out.below hbr k (by rw [Hlen.out]; omega)
                obtain ⟨b2, o2, e2, hc2⟩ := HX4.out.below hbr (k + 1) (by rw [Hlen.out]; omega)
                cases e1
                cases e2
                have hfm := S.out.form k hlt2
                have bd1 := S.out.bd k (by omega)
                have bd2 := S.out.bd (k + 1) (by omega)
                obtain ⟨x, hx⟩ : ∃ x, x = gi L k := ⟨_, rfl⟩
                obtain ⟨z, hz⟩ : ∃ z, z = gi L (k + 1) := ⟨_, rfl⟩
                rw [← hx] at hc1 hfm bd1
                rw [← hz] at hc2 hfm bd2
                have hne : (wrap64 (wrap64 (x * ((j : Int) - (k : Int) - 1)) * ((j : Int) + (k : Int))) != wrap64 (wrap64 (z * ((k : Int) + 1)) * (2 * (j : Int) - (k : Int) - 2))) = false := by
                  rw [wrap_mulL, wrap_mulL, hfm]
                  simp
                clear hx hz hbr hfm
                go_wp2
                go_quiet (fail)
                go_wp2
                go_roundw
                case rel => exact ⟨k + 1, by omega, by go_num, below_drewN Hbr.out _⟩
                case measure => simp [intOf]; omega
              · have hlt3 : ¬ (k : Int) + 1 < (j : Int) := by omega
                have HBT := Lib.hid (Hb4.out.trans (Hbr.out.mono Hb4.out.size))
                obtain ⟨wt, rfl⟩ : ∃ wt : World, wt = wr := ⟨_, rfl⟩
                clear hbr Hbr HX4
                go_wp2_with fail
                refine (drawCountByMinus_any b m d wt hm1 (HB.out.below HBT.out)).mono ?_
                rintro e s1 ⟨v2, rfl, hv2, hbs1⟩
                have hv2b : 0 ≤ v2 ∧ v2 ≤ 6 := by simp at hv2; omega
                have Hs1 := Lib.hid (HBT.out.trans (hbs1.mono HBT.out.size))
                clear hv2 hbs1
                go_wp2_with fail
                refine (implCountByMinus_any v2 s1 (by omega) (HD.out.next Hs1.out)).mono ?_
                rintro e s2 ⟨⟨p1, q1, A1, rfl, hp1, hx1⟩, hbs2⟩
                have Hp1 := Lib.hid hp1
                obtain ⟨pa, pc, rfl, _, _, _⟩ := hp1.read
                have Hs2 := Lib.hid (Hs1.out.trans (hbs2.mono Hs1.out.size))
                clear hp1 hbs2
                go_wp2_with fail
                refine (specCountByMinus_any v2 s2 (by omega)).mono ?_
                rintro e s3 ⟨⟨p2, q2, A2, rfl, hp2, hx2⟩, hbs3⟩
                have Hp2 := Lib.hid hp2
                obtain ⟨pb, pd, rfl, _, _, _⟩ := hp2.read
                have Hp1 := Lib.hid (Hp1.out.below hbs3)
                have Hs3 := Lib.hid (Hs2.out.trans (hbs3.mono Hs2.out.size))
                obtain ⟨rfl, rfl⟩ := lres_same hx1 hx2
                clear hp2 hbs3 hx2
                go_wp2_with fail
                refine (implCountByInversions_any v2 s3 (by omega) (HD.out.next Hs3.out)).mono ?_
                rintro e s4 ⟨⟨p3, q3, I1, rfl, hp3, hx3⟩, hbs4⟩
                have Hp3 := Lib.hid hp3
                obtain ⟨ia, ic, rfl, _, _, _⟩ := hp3.read
                have Hp1 := Lib.hid (Hp1.out.below hbs4)
                have Hp2 := Lib.hid (Hp2.out.below hbs4)
                have Hs4 := Lib.hid (Hs3.out.trans (hbs4.mono Hs3.out.size))
                clear hp3 hbs4
                go_wp2_with fail
                refine (specCountByInversions_any v2 s4 (by omega)).mono ?_
                rintro e s5 ⟨⟨p4, q4, I2, rfl, hp4, hx4⟩, hbs5⟩
                have Hp4 := Lib.hid hp4
                obtain ⟨ib, id2, rfl, _, _, _⟩ := hp4.read
                have Hp1 := Lib.hid (Hp1.out.below hbs5)
                have Hp2 := Lib.hid (Hp2.out.below hbs5)
                have Hp3 := Lib.hid (Hp3.out.below hbs5)
                have Hs5 := Lib.hid (Hs4.out.trans (hbs5.mono Hs4.out.size))
                obtain ⟨rfl, rfl⟩ := lres_same hx3 hx4
                clear hp4 hbs5 hx4
                by_cases hk5 : 1 ≤ v2 ∧ v2 ≤ 5
                · obtain ⟨rfl, rfl⟩ : q2 = true ∧ A2 = listMinus v2.toNat := by
                    rcases hx1 with ⟨_, h2, h3⟩ | ⟨h1, _⟩
                    · exact ⟨h2, h3⟩
                    · exact absurd hk5 h1
                  obtain ⟨rfl, rfl⟩ : q4 = true ∧ I2 = listAdd v2.toNat := by
                    rcases hx3 with ⟨_, h2, h3⟩ | ⟨h1, _⟩
                    · exact ⟨h2, h3⟩
                    · exact absurd hk5 h1
                  obtain ⟨K, rfl⟩ : ∃ K : Nat, v2 = (K : Int) := ⟨v2.toNat, by omega⟩
                  have k1 : 1 ≤ K := by omega
                  have k5 : K ≤ 5 := by omega
                  have hG := scG_ok k1 k5
                  obtain ⟨hpv, hP10⟩ := (pairs_val K (by omega)).resolve_left (by omega)
                  rw [Int.toNat_natCast] at Hp1 Hp2 Hp3 Hp4 ⊢
                  obtain ⟨A, hA⟩ : ∃ A, A = listMinus K := ⟨_, rfl⟩
                  obtain ⟨I, hI⟩ : ∃ I, I = listAdd K := ⟨_, rfl⟩
                  rw [← hA] at hG Hp1 Hp2 ⊢
                  rw [← hI] at hG Hp3 Hp4 ⊢
                  have G := Lib.hid hG
                  obtain ⟨P, hP⟩ : ∃ P, P = K * (K - 1) / 2 := ⟨_, rfl⟩
                  have HPe := Lib.hid hP
                  rw [← hP] at hpv hP10
                  have lA := hG.lenA
                  have lI := hG.lenI
                  rw [← hP] at lI
                  have D1 := Lib.hid (hSame_any pa pb pc pd A A s5 (by omega) (by omega) (own_at Hp1.out) (own_at Hp2.out))
                  have D2 := fun wx (hb : Below s5.heap.size s5 wx) => hSame_any ia ib ic id2 I I wx (by omega) (by omega) ((own_at Hp3.out).below hb) ((own_at Hp4.out).below hb)
                  rw [show (A == A) = true from by simp] at D1
                  rw [show (I == I) = true from by simp, lI] at D2
                  have D2 := Lib.hid D2
                  have XA := Lib.hid (own_at Hp1.out)
                  have XI := Lib.hid (own_at Hp3.out)
                  have CK := Lib.hid (fun wx => implCountSigns_any (K : Int) wx)
                  clear hx1 hx3 hk5 hA hI hP Hp1 Hp2 Hp3 Hp4 hG hv2b
                  go_wp2_with fail
                  refine D1.out.mono ?_
                  rintro e s6 ⟨rfl, hq6⟩
                  have Hq6 := Lib.hid (hq6.below s5.heap.size)
                  clear hq6
                  go_wp2_with fail
                  refine (D2.out s6 Hq6.out).mono ?_
                  rintro e s7 ⟨rfl, hq7⟩
                  have Hq7 := Lib.hid (Hq6.out.trans ((hq7.below s6.heap.size).mono Hq6.out.size))
                  have Hs7 := Lib.hid (Hs5.out.trans (Hq7.out.mono Hs5.out.size))
                  have YA := Lib.hid (XA.out.below Hq7.out)
                  have YI := Lib.hid (XI.out.below Hq7.out)
                  clear hq7 D1 D2 XA XI
                  go_wp2_with fail
                  refine (CK.out s7).mono ?_
                  rintro e s8 ⟨⟨y, t, rfl, hy⟩, rfl⟩
                  obtain ⟨rfl, rfl⟩ : t = true ∧ y = (cI K : Nat) := by
                    rcases hy with ⟨_, h2, h3⟩ | ⟨h1, _⟩
                    · exact ⟨h2, by rw [h3, Int.toNat_natCast]⟩
                    · exact absurd ⟨by omega, by omega⟩ h1
                  clear hy CK
                  go_wp2
                  go_loop [28, 31] (fun p i => ∃ t : Nat, 1 ≤ t ∧ t ≤ K ∧ i = .int .i64 ((t : Int) + 1) ∧ p = .int .i64 (facN t : Nat)) (fun _ i => K + 1 - (intOf i).toNat)
                  case atStart => exact ⟨1, by omega, by omega, rfl, rfl⟩
                  case round =>
                    obtain ⟨t, ht1, htK, rfl, rfl⟩ := hrel
                    by_cases hlt : t < K
                    · have hf := fac_step t (by omega)
                      have hle : ((t : Int) + 1) ≤ (K : Int) := by omega
                      obtain ⟨f1, hf1⟩ : ∃ f1 : Nat, f1 = facN t := ⟨_, rfl⟩
                      obtain ⟨f2, hf2⟩ : ∃ f2 : Nat, f2 = facN (t + 1) := ⟨_, rfl⟩
                      rw [← hf1, ← hf2] at hf
                      rw [← hf1]
                      have Hf2 := Lib.hid hf2
                      clear hf1 hf2
                      go_wp2
                      go_round
                      case rel => exact ⟨t + 1, by omega, by omega, by go_num, by rw [← Hf2.out, hf]⟩
                      case measure => simp [intOf]; omega
                    · obtain rfl : t = K := by omega
                      have hle : ¬ ((t : Int) + 1) ≤ (t : Int) := by omega
                      obtain ⟨F, hF⟩ : ∃ F : Nat, F = facN t := ⟨_, rfl⟩
                      have HF := Lib.hid hF
                      rw [← hF]
                      clear hF
                      go_wp2
                      go_loop [29, 32] (fun q i => ∃ r : Nat, r ≤ P ∧ i = .int .i64 (r : Int) ∧ q = .int .i64 (2 ^ r : Nat)) (fun _ i => P - (intOf i).toNat)
                      case atStart => exact ⟨0, Nat.zero_le _, rfl, rfl⟩
                      case round =>
                        obtain ⟨r, hr, rfl, rfl⟩ := hrel
                        by_cases hlt2 : r < P
                        · have hf := two_step r (by omega)
                          have hrP : (r : Int) < (P : Int) := by omega
                          obtain ⟨f1, hf1⟩ : ∃ f1 : Nat, f1 = 2 ^ r := ⟨_, rfl⟩
                          obtain ⟨f2, hf2⟩ : ∃ f2 : Nat, f2 = 2 ^ (r + 1) := ⟨_, rfl⟩
                          rw [← hf1, ← hf2] at hf
                          rw [← hf1]
                          have Hf2 := Lib.hid hf2
                          clear hf1 hf2
                          go_wp2
                          go_round
                          case rel => exact ⟨r + 1, by omega, by go_num, by rw [← Hf2.out, hf]⟩
                          case measure => simp [intOf]; omega
                        · obtain rfl : r = P := by omega
                          have hrr : ¬ (r : Int) < (r : Int) := by omega
                          obtain ⟨R2, hR2⟩ : ∃ R2 : Nat, R2 = 2 ^ r := ⟨_, rfl⟩
                          have HR2 := Lib.hid hR2
                          rw [← hR2]
                          clear hR2
                          go_wp2
                          go_loop [30, 33, 229] (fun s t i => ∃ k : Nat, ∃ sv tv : Int, k ≤ A.length ∧ i = .int .i64 k ∧ s = .int .i64 sv ∧ t = .int .i64 tv ∧ weighF (A.drop k) tv sv = weighF A 1 0) (fun _ _ i => A.length - (intOf i).toNat)
                          case atStart => exact ⟨0, 0, 1, Nat.zero_le _, rfl, rfl, rfl, by rw [List.drop_zero]⟩
                          case round =>
                            obtain ⟨k, sv, tv, hk, rfl, rfl, rfl, hW⟩ := hrel
                            by_cases hlt3 : k < A.length
                            · obtain ⟨b1, o1, e1, hc1⟩ := YA.out k hlt3
                              subst e1
                              rw [weighF_step hlt3] at hW
                              obtain ⟨x, hx⟩ : ∃ x, x = gi A k := ⟨_, rfl⟩
                              rw [← hx] at hc1 hW
                              have HW := Lib.hid hW
                              clear hx hW
                              go_wp2
                              go_round
                              case rel => exact ⟨k + 1, _, _, by omega, by go_num, rfl, rfl, HW.out⟩
                              case measure => simp [intOf]; omega
                            · obtain rfl : k = A.length := by omega
                              rw [List.drop_length, weighF, G.out.wgt, ← HPe.out, ← HR2.out] at hW
                              subst hW
                              have hZ1 := G.out.sumA
                              have hZ2 := G.out.sumI
                              have hZ3 := G.out.headA
                              rw [← HF.out] at hZ3
                              obtain ⟨Z, hZ⟩ : ∃ Z : Nat, Z = cI t := ⟨_, rfl⟩
                              rw [← hZ] at hZ1 hZ2 ⊢
                              have T1 := hSum_any pa pc A s7 (by omega) YA.out
                              have T2 := hSum_any ia ic I s7 (by omega) YI.out
                              rw [hZ1] at T1
                              rw [hZ2, lI] at T2
                              obtain ⟨b1, o1, e1, hc1⟩ := YA.out 0 (by omega)
                              obtain ⟨b2, o2, e2, hc2⟩ := YI.out 0 (by omega)
                              rw [hZ3, Nat.add_zero] at hc1
                              rw [G.out.headI, Nat.add_zero] at hc2
                              subst e1
                              subst e2
                              have T1 := Lib.hid T1
                              have T2 := Lib.hid T2
                              have hzz : ((Z : Int) == (Z : Int)) = true := by simp
                              have hff : ((F : Int) == (F : Int)) = true := by simp
                              have hR : ((R2 : Int) == (R2 : Int)) = true := by simp
                              have hl0 : 0 < A.length := by omega
                              have lA0 := lA.2
                              clear hZ hZ1 hZ2 hZ3 HF HPe G HR2 lA lI YA YI hlt3 hk
                              go_wp2_with fail
                              refine T1.out.mono ?_
                              rintro e s9 ⟨rfl, rfl⟩
                              go_wp2_with fail
                              refine T2.out.mono ?_
                              rintro e s9 ⟨rfl, rfl⟩
                              go_wp2
                              go_ret
                              exact ⟨rfl, Hs7.out⟩
                · obtain ⟨rfl, rfl⟩ : q2 = false ∧ A2 = [] := by
                    rcases hx1 with ⟨h1, _⟩ | ⟨_, h2, h3⟩
                    · exact absurd h1 hk5
                    · exact ⟨h2, h3⟩
                  obtain ⟨rfl, rfl⟩ : q4 = false ∧ I2 = [] := by
                    rcases hx3 with ⟨h1, _⟩ | ⟨_, h2, h3⟩
                    · exact absurd h1 hk5
                    · exact ⟨h2, h3⟩
                  have D1 := Lib.hid (hSame_any pa pb pc pd [] [] s5 (by simp) (by simp) (own_at Hp1.out) (own_at Hp2.out))
                  have D2 := Lib.hid (fun wx (hb : Below s5.heap.size s5 wx) => hSame_any ia ib ic id2 [] [] wx (by simp) (by simp) ((own_at Hp3.out).below hb) ((own_at Hp4.out).below hb))
                  clear hx1 hx3 hk5 Hp1 Hp2 Hp3 Hp4 hv2b
                  go_wp2_with fail
                  refine D1.out.mono ?_
                  rintro e s6 ⟨rfl, hq6⟩
                  have Hq6 := Lib.hid (hq6.below s5.heap.size)
                  clear hq6
                  go_wp2_with fail
                  refine (D2.out s6 Hq6.out).mono ?_
                  rintro e s7 ⟨rfl, hq7⟩
                  have Hq7 := Lib.hid (Hq6.out.trans ((hq7.below s6.heap.size).mono Hq6.out.size))
                  have Hs7 := Lib.hid (Hs5.out.trans (Hq7.out.mono Hs5.out.size))
                  clear hq7 D1 D2
                  go_wp2
                  go_ret
                  exact ⟨rfl, Hs7.out⟩
          · have hgt : ¬ (1 : Int) < (j : Int) := by omega
            have HBT := Hb4
            obtain ⟨wt, rfl⟩ : ∃ wt : World, wt = w4 := ⟨_, rfl⟩
            clear HX4
            go_wp2_with fail
            refine (drawCountByMinus_any b m d wt hm1 (HB.out.below HBT.out)).mono ?_
            rintro e s1 ⟨v2, rfl, hv2, hbs1⟩
            have hv2b : 0 ≤ v2 ∧ v2 ≤ 6 := by simp at hv2; omega
            have Hs1 := Lib.hid (HBT.out.trans (hbs1.mono HBT.out.size))
            clear hv2 hbs1
            go_wp2_with fail
            refine (implCountByMinus_any v2 s1 (by omega) (HD.out.next Hs1.out)).mono ?_
            rintro e s2 ⟨⟨p1, q1, A1, rfl, hp1, hx1⟩, hbs2⟩
            have Hp1 := Lib.hid hp1
            obtain ⟨pa, pc, rfl, _, _, _⟩ := hp1.read
            have Hs2 := Lib.hid (Hs1.out.trans (hbs2.mono Hs1.out.size))
            clear hp1 hbs2
            go_wp2_with fail
            refine (specCountByMinus_any v2 s2 (by omega)).mono ?_
            rintro e s3 ⟨⟨p2, q2, A2, rfl, hp2, hx2⟩, hbs3⟩
            have Hp2 := Lib.hid hp2
            obtain ⟨pb, pd, rfl, _, _, _⟩ := hp2.read
            have Hp1 := Lib.hid (Hp1.out.below hbs3)
            have Hs3 := Lib.hid (Hs2.out.trans (hbs3.mono Hs2.out.size))
            obtain ⟨rfl, rfl⟩ := lres_same hx1 hx2
            clear hp2 hbs3 hx2
            go_wp2_with fail
            refine (implCountByInversions_any v2 s3 (by omega) (HD.out.next Hs3.out)).mono ?_
            rintro e s4 ⟨⟨p3, q3, I1, rfl, hp3, hx3⟩, hbs4⟩
            have Hp3 := Lib.hid hp3
            obtain ⟨ia, ic, rfl, _, _, _⟩ := hp3.read
            have Hp1 := Lib.hid (Hp1.out.below hbs4)
            have Hp2 := Lib.hid (Hp2.out.below hbs4)
            have Hs4 := Lib.hid (Hs3.out.trans (hbs4.mono Hs3.out.size))
            clear hp3 hbs4
            go_wp2_with fail
            refine (specCountByInversions_any v2 s4 (by omega)).mono ?_
            rintro e s5 ⟨⟨p4, q4, I2, rfl, hp4, hx4⟩, hbs5⟩
            have Hp4 := Lib.hid hp4
            obtain ⟨ib, id2, rfl, _, _, _⟩ := hp4.read
            have Hp1 := Lib.hid (Hp1.out.below hbs5)
            have Hp2 := Lib.hid (Hp2.out.below hbs5)
            have Hp3 := Lib.hid (Hp3.out.below hbs5)
            have Hs5 := Lib.hid (Hs4.out.trans (hbs5.mono Hs4.out.size))
            obtain ⟨rfl, rfl⟩ := lres_same hx3 hx4
            clear hp4 hbs5 hx4
            by_cases hk5 : 1 ≤ v2 ∧ v2 ≤ 5
            · obtain ⟨rfl, rfl⟩ : q2 = true ∧ A2 = listMinus v2.toNat := by
                rcases hx1 with ⟨_, h2, h3⟩ | ⟨h1, _⟩
                · exact ⟨h2, h3⟩
                · exact absurd hk5 h1
              obtain ⟨rfl, rfl⟩ : q4 = true ∧ I2 = listAdd v2.toNat := by
                rcases hx3 with ⟨_, h2, h3⟩ | ⟨h1, _⟩
                · exact ⟨h2, h3⟩
                · exact absurd hk5 h1
              obtain ⟨K, rfl⟩ : ∃ K : Nat, v2 = (K : Int) := ⟨v2.toNat, by omega⟩
              have k1 : 1 ≤ K := by omega
              have k5 : K ≤ 5 := by omega
              have hG := scG_ok k1 k5
              obtain ⟨hpv, hP10⟩ := (pairs_val K (by omega)).resolve_left (by omega)
              rw [Int.toNat_natCast] at Hp1 Hp2 Hp3 Hp4 ⊢
              obtain ⟨A, hA⟩ : ∃ A, A = listMinus K := ⟨_, rfl⟩
              obtain ⟨I, hI⟩ : ∃ I, I = listAdd K := ⟨_, rfl⟩
              rw [← hA] at hG Hp1 Hp2 ⊢
              rw [← hI] at hG Hp3 Hp4 ⊢
              have G := Lib.hid hG
              obtain ⟨P, hP⟩ : ∃ P, P = K * (K - 1) / 2 := ⟨_, rfl⟩
              have HPe := Lib.hid hP
              rw [← hP] at hpv hP10
              have lA := hG.lenA
              have lI := hG.lenI
              rw [← hP] at lI
              have D1 := Lib.hid (hSame_any pa pb pc pd A A s5 (by omega) (by omega) (own_at Hp1.out) (own_at Hp2.out))
              have D2 := fun wx (hb : Below s5.heap.size s5 wx) => hSame_any ia ib ic id2 I I wx (by omega) (by omega) ((own_at Hp3.out).below hb) ((own_at Hp4.out).below hb)
              rw [show (A == A) = true from by simp] at D1
              rw [show (I == I) = true from by simp, lI] at D2
              have D2 := Lib.hid D2
              have XA := Lib.hid (own_at Hp1.out)
              have XI := Lib.hid (own_at Hp3.out)
              have CK := Lib.hid (fun wx => implCountSigns_any (K : Int) wx)
              clear hx1 hx3 hk5 hA hI hP Hp1 Hp2 Hp3 Hp4 hG hv2b
              go_wp2_with fail
              refine D1.out.mono ?_
              rintro e s6 ⟨rfl, hq6⟩
              have Hq6 := Lib.hid (hq6.below s5.heap.size)
              clear hq6
              go_wp2_with fail
              refine (D2.out s6 Hq6.out).mono ?_
              rintro e s7 ⟨rfl, hq7⟩
              have Hq7 := Lib.hid (Hq6.out.trans ((hq7.below s6.heap.size).mono Hq6.out.size))
              have Hs7 := Lib.hid (Hs5.out.trans (Hq7.out.mono Hs5.out.size))
              have YA := Lib.hid (XA.out.below Hq7.out)
              have YI := Lib.hid (XI.out.below Hq7.out)
              clear hq7 D1 D2 XA XI
              go_wp2_with fail
              refine (CK.out s7).mono ?_
              rintro e s8 ⟨⟨y, t, rfl, hy⟩, rfl⟩
              obtain ⟨rfl, rfl⟩ : t = true ∧ y = (cI K : Nat) := by
                rcases hy with ⟨_, h2, h3⟩ | ⟨h1, _⟩
                · exact ⟨h2, by rw [h3, Int.toNat_natCast]⟩
                · exact absurd ⟨by omega, by omega⟩ h1
              clear hy CK
              go_wp2
              go_loop [28, 31] (fun p i => ∃ t : Nat, 1 ≤ t ∧ t ≤ K ∧ i = .int .i64 ((t : Int) + 1) ∧ p = .int .i64 (facN t : Nat)) (fun _ i => K + 1 - (intOf i).toNat)
              case atStart => exact ⟨1, by omega, by omega, rfl, rfl⟩
              case round =>
                obtain ⟨t, ht1, htK, rfl, rfl⟩ := hrel
                by_cases hlt : t < K
                · have hf := fac_step t (by omega)
                  have hle : ((t : Int) + 1) ≤ (K : Int) := by omega
                  obtain ⟨f1, hf1⟩ : ∃ f1 : Nat, f1 = facN t := ⟨_, rfl⟩
                  obtain ⟨f2, hf2⟩ : ∃ f2 : Nat, f2 = facN (t + 1) := ⟨_, rfl⟩
                  rw [← hf1, ← hf2] at hf
                  rw [← hf1]
                  have Hf2 := Lib.hid hf2
                  clear hf1 hf2
                  go_wp2
                  go_round
                  case rel => exact ⟨t + 1, by omega, by omega, by go_num, by rw [← Hf2.out, hf]⟩
                  case measure => simp [intOf]; omega
                · obtain rfl : t = K := by omega
                  have hle : ¬ ((t : Int) + 1) ≤ (t : Int) := by omega
                  obtain ⟨F, hF⟩ : ∃ F : Nat, F = facN t := ⟨_, rfl⟩
                  have HF := Lib.hid hF
                  rw [← hF]
                  clear hF
                  go_wp2
                  go_loop [29, 32] (fun q i => ∃ r : Nat, r ≤ P ∧ i = .int .i64 (r : Int) ∧ q = .int .i64 (2 ^ r : Nat)) (fun _ i => P - (intOf i).toNat)
                  case atStart => exact ⟨0, Nat.zero_le _, rfl, rfl⟩
                  case round =>
                    obtain ⟨r, hr, rfl, rfl⟩ := hrel
                    by_cases hlt2 : r < P
                    · have hf := two_step r (by omega)
                      have hrP : (r : Int) < (P : Int) := by omega
                      obtain ⟨f1, hf1⟩ : ∃ f1 : Nat, f1 = 2 ^ r := ⟨_, rfl⟩
                      obtain ⟨f2, hf2⟩ : ∃ f2 : Nat, f2 = 2 ^ (r + 1) := ⟨_, rfl⟩
                      rw [← hf1, ← hf2] at hf
                      rw [← hf1]
                      have Hf2 := Lib.hid hf2
                      clear hf1 hf2
                      go_wp2
                      go_round
                      case rel => exact ⟨r + 1, by omega, by go_num, by rw [← Hf2.out, hf]⟩
                      case measure => simp [intOf]; omega
                    · obtain rfl : r = P := by omega
                      have hrr : ¬ (r : Int) < (r : Int) := by omega
                      obtain ⟨R2, hR2⟩ : ∃ R2 : Nat, R2 = 2 ^ r := ⟨_, rfl⟩
                      have HR2 := Lib.hid hR2
                      rw [← hR2]
                      clear hR2
                      go_wp2
                      go_loop [30, 33, 229] (fun s t i => ∃ k : Nat, ∃ sv tv : Int, k ≤ A.length ∧ i = .int .i64 k ∧ s = .int .i64 sv ∧ t = .int .i64 tv ∧ weighF (A.drop k) tv sv = weighF A 1 0) (fun _ _ i => A.length - (intOf i).toNat)
                      case atStart => exact ⟨0, 0, 1, Nat.zero_le _, rfl, rfl, rfl, by rw [List.drop_zero]⟩
                      case round =>
                        obtain ⟨k, sv, tv, hk, rfl, rfl, rfl, hW⟩ := hrel
                        by_cases hlt3 : k < A.length
                        · obtain ⟨b1, o1, e1, hc1⟩ := YA.out k hlt3
                          subst e1
                          rw [weighF_step hlt3] at hW
                          obtain ⟨x, hx⟩ : ∃ x, x = gi A k := ⟨_, rfl⟩
                          rw [← hx] at hc1 hW
                          have HW := Lib.hid hW
                          clear hx hW
                          go_wp2
                          go_round
                          case rel => exact ⟨k + 1, _, _, by omega, by go_num, rfl, rfl, HW.out⟩
                          case measure => simp [intOf]; omega
                        · obtain rfl : k = A.length := by omega
                          rw [List.drop_length, weighF, G.out.wgt, ← HPe.out, ← HR2.out] at hW
                          subst hW
                          have hZ1 := G.out.sumA
                          have hZ2 := G.out.sumI
                          have hZ3 := G.out.headA
                          rw [← HF.out] at hZ3
                          obtain ⟨Z, hZ⟩ : ∃ Z : Nat, Z = cI t := ⟨_, rfl⟩
                          rw [← hZ] at hZ1 hZ2 ⊢
                          have T1 := hSum_any pa pc A s7 (by omega) YA.out
                          have T2 := hSum_any ia ic I s7 (by omega) YI.out
                          rw [hZ1] at T1
                          rw [hZ2, lI] at T2
                          obtain ⟨b1, o1, e1, hc1⟩ := YA.out 0 (by omega)
                          obtain ⟨b2, o2, e2, hc2⟩ := YI.out 0 (by omega)
                          rw [hZ3, Nat.add_zero] at hc1
                          rw [G.out.headI, Nat.add_zero] at hc2
                          subst e1
                          subst e2
                          have T1 := Lib.hid T1
                          have T2 := Lib.hid T2
                          have hzz : ((Z : Int) == (Z : Int)) = true := by simp
                          have hff : ((F : Int) == (F : Int)) = true := by simp
                          have hR : ((R2 : Int) == (R2 : Int)) = true := by simp
                          have hl0 : 0 < A.length := by omega
                          have lA0 := lA.2
                          clear hZ hZ1 hZ2 hZ3 HF HPe G HR2 lA lI YA YI hlt3 hk
                          go_wp2_with fail
                          refine T1.out.mono ?_
                          rintro e s9 ⟨rfl, rfl⟩
                          go_wp2_with fail
                          refine T2.out.mono ?_
                          rintro e s9 ⟨rfl, rfl⟩
                          go_wp2
                          go_ret
                          exact ⟨rfl, Hs7.out⟩
            · obtain ⟨rfl, rfl⟩ : q2 = false ∧ A2 = [] := by
                rcases hx1 with ⟨h1, _⟩ | ⟨_, h2, h3⟩
                · exact absurd h1 hk5
                · exact ⟨h2, h3⟩
              obtain ⟨rfl, rfl⟩ : q4 = false ∧ I2 = [] := by
                rcases hx3 with ⟨h1, _⟩ | ⟨_, h2, h3⟩
                · exact absurd h1 hk5
                · exact ⟨h2, h3⟩
              have D1 := Lib.hid (hSame_any pa pb pc pd [] [] s5 (by simp) (by simp) (own_at Hp1.out) (own_at Hp2.out))
              have D2 := Lib.hid (fun wx (hb : Below s5.heap.size s5 wx) => hSame_any ia ib ic id2 [] [] wx (by simp) (by simp) ((own_at Hp3.out).below hb) ((own_at Hp4.out).below hb))
              clear hx1 hx3 hk5 Hp1 Hp2 Hp3 Hp4 hv2b
              go_wp2_with fail
              refine D1.out.mono ?_
              rintro e s6 ⟨rfl, hq6⟩
              have Hq6 := Lib.hid (hq6.below s5.heap.size)
              clear hq6
              go_wp2_with fail
              refine (D2.out s6 Hq6.out).mono ?_
              rintro e s7 ⟨rfl, hq7⟩
              have Hq7 := Lib.hid (Hq6.out.trans ((hq7.below s6.heap.size).mono Hq6.out.size))
              have Hs7 := Lib.hid (Hs5.out.trans (Hq7.out.mono Hs5.out.size))
              clear hq7 D1 D2
              go_wp2
              go_ret
              exact ⟨rfl, Hs7.out⟩
    · obtain ⟨rfl, rfl⟩ : t2 = false ∧ L2 = [] := by
        rcases Hr1.out with ⟨h1, _⟩ | ⟨_, h2, h3⟩
        · exact absurd h1 hin
        · exact ⟨h2, h3⟩
      have C1 := Lib.hid (hSame_any fa ga fc gc [] [] w3 (by simp) (by simp) (own_at Hf1.out) (own_at Hf2.out))
      clear Hr1 hin
      go_wp2_with fail
      refine C1.out.mono ?_
      rintro e w4 ⟨rfl, hq4⟩
      have HBT := Lib.hid (Hb3.out.trans ((hq4.below w3.heap.size).mono HB3.out))
      clear hq4 C1
      go_wp2
      go_loop [86] (fun i => i = .int .i64 0) (fun _ => 0)
      case atStart => rfl
      case round =>
        obtain rfl := hrel
        obtain ⟨wt, rfl⟩ : ∃ wt : World, wt = w4 := ⟨_, rfl⟩
        go_wp2_with fail
        refine (drawCountByMinus_any b m d wt hm1 (HB.out.below HBT.out)).mono ?_
        rintro e s1 ⟨v2, rfl, hv2, hbs1⟩
        have hv2b : 0 ≤ v2 ∧ v2 ≤ 6 := by simp at hv2; omega
        have Hs1 := Lib.hid (HBT.out.trans (hbs1.mono HBT.out.size))
        clear hv2 hbs1
        go_wp2_with fail
        refine (implCountByMinus_any v2 s1 (by omega) (HD.out.next Hs1.out)).mono ?_
        rintro e s2 ⟨⟨p1, q1, A1, rfl, hp1, hx1⟩, hbs2⟩
        have Hp1 := Lib.hid hp1
        obtain ⟨pa, pc, rfl, _, _, _⟩ := hp1.read
        have Hs2 := Lib.hid (Hs1.out.trans (hbs2.mono Hs1.out.size))
        clear hp1 hbs2
        go_wp2_with fail
        refine (specCountByMinus_any v2 s2 (by omega)).mono ?_
        rintro e s3 ⟨⟨p2, q2, A2, rfl, hp2, hx2⟩, hbs3⟩
        have Hp2 := Lib.hid hp2
        obtain ⟨pb, pd, rfl, _, _, _⟩ := hp2.read
        have Hp1 := Lib.hid (Hp1.out.below hbs3)
        have Hs3 := Lib.hid (Hs2.out.trans (hbs3.mono Hs2.out.size))
        obtain ⟨rfl, rfl⟩ := lres_same hx1 hx2
        clear hp2 hbs3 hx2
        go_wp2_with fail
        refine (implCountByInversions_any v2 s3 (by omega) (HD.out.next Hs3.out)).mono ?_
        rintro e s4 ⟨⟨p3, q3, I1, rfl, hp3, hx3⟩, hbs4⟩
        have Hp3 := Lib.hid hp3
        obtain ⟨ia, ic, rfl, _, _, _⟩ := hp3.read
        have Hp1 := Lib.hid (Hp1.out.below hbs4)
        have Hp2 := Lib.hid (Hp2.out.below hbs4)
        have Hs4 := Lib.hid (Hs3.out.trans (hbs4.mono Hs3.out.size))
        clear hp3 hbs4
        go_wp2_with fail
        refine (specCountByInversions_any v2 s4 (by omega)).mono ?_
        rintro e s5 ⟨⟨p4, q4, I2, rfl, hp4, hx4⟩, hbs5⟩
        have Hp4 := Lib.hid hp4
        obtain ⟨ib, id2, rfl, _, _, _⟩ := hp4.read
        have Hp1 := Lib.hid (Hp1.out.below hbs5)
        have Hp2 := Lib.hid (Hp2.out.below hbs5)
        have Hp3 := Lib.hid (Hp3.out.below hbs5)
        have Hs5 := Lib.hid (Hs4.out.trans (hbs5.mono Hs4.out.size))
        obtain ⟨rfl, rfl⟩ := lres_same hx3 hx4
        clear hp4 hbs5 hx4
        by_cases hk5 : 1 ≤ v2 ∧ v2 ≤ 5
        · obtain ⟨rfl, rfl⟩ : q2 = true ∧ A2 = listMinus v2.toNat := by
            rcases hx1 with ⟨_, h2, h3⟩ | ⟨h1, _⟩
            · exact ⟨h2, h3⟩
            · exact absurd hk5 h1
          obtain ⟨rfl, rfl⟩ : q4 = true ∧ I2 = listAdd v2.toNat := by
            rcases hx3 with ⟨_, h2, h3⟩ | ⟨h1, _⟩
            · exact ⟨h2, h3⟩
            · exact absurd hk5 h1
          obtain ⟨K, rfl⟩ : ∃ K : Nat, v2 = (K : Int) := ⟨v2.toNat, by omega⟩
          have k1 : 1 ≤ K := by omega
          have k5 : K ≤ 5 := by omega
          have hG := scG_ok k1 k5
          obtain ⟨hpv, hP10⟩ := (pairs_val K (by omega)).resolve_left (by omega)
          rw [Int.toNat_natCast] at Hp1 Hp2 Hp3 Hp4 ⊢
          obtain ⟨A, hA⟩ : ∃ A, A = listMinus K := ⟨_, rfl⟩
          obtain ⟨I, hI⟩ : ∃ I, I = listAdd K := ⟨_, rfl⟩
          rw [← hA] at hG Hp1 Hp2 ⊢
          rw [← hI] at hG Hp3 Hp4 ⊢
          have G := Lib.hid hG
          obtain ⟨P, hP⟩ : ∃ P, P = K * (K - 1) / 2 := ⟨_, rfl⟩
          have HPe := Lib.hid hP
          rw [← hP] at hpv hP10
          have lA := hG.lenA
          have lI := hG.lenI
          rw [← hP] at lI
          have D1 := Lib.hid (hSame_any pa pb pc pd A A s5 (by omega) (by omega) (own_at Hp1.out) (own_at Hp2.out))
          have D2 := fun wx (hb : Below s5.heap.size s5 wx) => hSame_any ia ib ic id2 I I wx (by omega) (by omega) ((own_at Hp3.out).below hb) ((own_at Hp4.out).below hb)
          rw [show (A == A) = true from by simp] at D1
          rw [show (I == I) = true from by simp, lI] at D2
          have D2 := Lib.hid D2
          have XA := Lib.hid (own_at Hp1.out)
          have XI := Lib.hid (own_at Hp3.out)
          have CK := Lib.hid (fun wx => implCountSigns_any (K : Int) wx)
          clear hx1 hx3 hk5 hA hI hP Hp1 Hp2 Hp3 Hp4 hG hv2b
          go_wp2_with fail
          refine D1.out.mono ?_
          rintro e s6 ⟨rfl, hq6⟩
          have Hq6 := Lib.hid (hq6.below s5.heap.size)
          clear hq6
          go_wp2_with fail
          refine (D2.out s6 Hq6.out).mono ?_
          rintro e s7 ⟨rfl, hq7⟩
          have Hq7 := Lib.hid (Hq6.out.trans ((hq7.below s6.heap.size).mono Hq6.out.size))
          have Hs7 := Lib.hid (Hs5.out.trans (Hq7.out.mono Hs5.out.size))
          have YA := Lib.hid (XA.out.below Hq7.out)
          have YI := Lib.hid (XI.out.below Hq7.out)
          clear hq7 D1 D2 XA XI
          go_wp2_with fail
          refine (CK.out s7).mono ?_
          rintro e s8 ⟨⟨y, t, rfl, hy⟩, rfl⟩
          obtain ⟨rfl, rfl⟩ : t = true ∧ y = (cI K : Nat) := by
            rcases hy with ⟨_, h2, h3⟩ | ⟨h1, _⟩
            · exact ⟨h2, by rw [h3, Int.toNat_natCast]⟩
            · exact absurd ⟨by omega, by omega⟩ h1
          clear hy CK
          go_wp2
          go_loop [28, 31] (fun p i => ∃ t : Nat, 1 ≤ t ∧ t ≤ K ∧ i = .int .i64 ((t : Int) + 1) ∧ p = .int .i64 (facN t : Nat)) (fun _ i => K + 1 - (intOf i).toNat)
          case atStart => exact ⟨1, by omega, by omega, rfl, rfl⟩
          case round =>
            obtain ⟨t, ht1, htK, rfl, rfl⟩ := hrel
            by_cases hlt : t < K
            · have hf := fac_step t (by omega)
              have hle : ((t : Int) + 1) ≤ (K : Int) := by omega
              obtain ⟨f1, hf1⟩ : ∃ f1 : Nat, f1 = facN t := ⟨_, rfl⟩
              obtain ⟨f2, hf2⟩ : ∃ f2 : Nat, f2 = facN (t + 1) := ⟨_, rfl⟩
              rw [← hf1, ← hf2] at hf
              rw [← hf1]
              have Hf2 := Lib.hid hf2
              clear hf1 hf2
              go_wp2
              go_round
              case rel => exact ⟨t + 1, by omega, by omega, by go_num, by rw [← Hf2.out, hf]⟩
              case measure => simp [intOf]; omega
            · obtain rfl : t = K := by omega
              have hle : ¬ ((t : Int) + 1) ≤ (t : Int) := by omega
              obtain ⟨F, hF⟩ : ∃ F : Nat, F = facN t := ⟨_, rfl⟩
              have HF := Lib.hid hF
              rw [← hF]
              clear hF
              go_wp2
              go_loop [29, 32] (fun q i => ∃ r : Nat, r ≤ P ∧ i = .int .i64 (r : Int) ∧ q = .int .i64 (2 ^ r : Nat)) (fun _ i => P - (intOf i).toNat)
              case atStart => exact ⟨0, Nat.zero_le _, rfl, rfl⟩
              case round =>
                obtain ⟨r, hr, rfl, rfl⟩ := hrel
                by_cases hlt2 : r < P
                · have hf := two_step r (by omega)
                  have hrP : (r : Int) < (P : Int) := by omega
                  obtain ⟨f1, hf1⟩ : ∃ f1 : Nat, f1 = 2 ^ r := ⟨_, rfl⟩
                  obtain ⟨f2, hf2⟩ : ∃ f2 : Nat, f2 = 2 ^ (r + 1) := ⟨_, rfl⟩
                  rw [← hf1, ← hf2] at hf
                  rw [← hf1]
                  have Hf2 := Lib.hid hf2
                  clear hf1 hf2
                  go_wp2
                  go_round
                  case rel => exact ⟨r + 1, by omega, by go_num, by rw [← Hf2.out, hf]⟩
                  case measure => simp [intOf]; omega
                · obtain rfl : r = P := by omega
                  have hrr : ¬ (r : Int) < (r : Int) := by omega
                  obtain ⟨R2, hR2⟩ : ∃ R2 : Nat, R2 = 2 ^ r := ⟨_, rfl⟩
                  have HR2 := Lib.hid hR2
                  rw [← hR2]
                  clear hR2
                  go_wp2
                  go_loop [30, 33, 229] (fun s t i => ∃ k : Nat, ∃ sv tv : Int, k ≤ A.length ∧ i = .int .i64 k ∧ s = .int .i64 sv ∧ t = .int .i64 tv ∧ weighF (A.drop k) tv sv = weighF A 1 0) (fun _ _ i => A.length - (intOf i).toNat)
                  case atStart => exact ⟨0, 0, 1, Nat.zero_le _, rfl, rfl, rfl, by rw [List.drop_zero]⟩
                  case round =>
                    obtain ⟨k, sv, tv, hk, rfl, rfl, rfl, hW⟩ := hrel
                    by_cases hlt3 : k < A.length
                    · obtain ⟨b1, o1, e1, hc1⟩ := YA.out k hlt3
                      subst e1
                      rw [weighF_step hlt3] at hW
                      obtain ⟨x, hx⟩ : ∃ x, x = gi A k := ⟨_, rfl⟩
                      rw [← hx] at hc1 hW
                      have HW := Lib.hid hW
                      clear hx hW
                      go_wp2
                      go_round
                      case rel => exact ⟨k + 1, _, _, by omega, by go_num, rfl, rfl, HW.out⟩
                      case measure => simp [intOf]; omega
                    · obtain rfl : k = A.length := by omega
                      rw [List.drop_length, weighF, G.out.wgt, ← HPe.out, ← HR2.out] at hW
                      subst hW
                      have hZ1 := G.out.sumA
                      have hZ2 := G.out.sumI
                      have hZ3 := G.out.headA
                      rw [← HF.out] at hZ3
                      obtain ⟨Z, hZ⟩ : ∃ Z : Nat, Z = cI t := ⟨_, rfl⟩
                      rw [← hZ] at hZ1 hZ2 ⊢
                      have T1 := hSum_any pa pc A s7 (by omega) YA.out
                      have T2 := hSum_any ia ic I s7 (by omega) YI.out
                      rw [hZ1] at T1
                      rw [hZ2, lI] at T2
                      obtain ⟨b1, o1, e1, hc1⟩ := YA.out 0 (by omega)
                      obtain ⟨b2, o2, e2, hc2⟩ := YI.out 0 (by omega)
                      rw [hZ3, Nat.add_zero] at hc1
                      rw [G.out.headI, Nat.add_zero] at hc2
                      subst e1
                      subst e2
                      have T1 := Lib.hid T1
                      have T2 := Lib.hid T2
                      have hzz : ((Z : Int) == (Z : Int)) = true := by simp
                      have hff : ((F : Int) == (F : Int)) = true := by simp
                      have hR : ((R2 : Int) == (R2 : Int)) = true := by simp
                      have hl0 : 0 < A.length := by omega
                      have lA0 := lA.2
                      clear hZ hZ1 hZ2 hZ3 HF HPe G HR2 lA lI YA YI hlt3 hk
                      go_wp2_with fail
                      refine T1.out.mono ?_
                      rintro e s9 ⟨rfl, rfl⟩
                      go_wp2_with fail
                      refine T2.out.mono ?_
                      rintro e s9 ⟨rfl, rfl⟩
                      go_wp2
                      go_ret
                      exact ⟨rfl, Hs7.out⟩
        · obtain ⟨rfl, rfl⟩ : q2 = false ∧ A2 = [] := by
            rcases hx1 with ⟨h1, _⟩ | ⟨_, h2, h3⟩
            · exact absurd h1 hk5
            · exact ⟨h2, h3⟩
          obtain ⟨rfl, rfl⟩ : q4 = false ∧ I2 = [] := by
            rcases hx3 with ⟨h1, _⟩ | ⟨_, h2, h3⟩
            · exact absurd h1 hk5
            · exact ⟨h2, h3⟩
          have D1 := Lib.hid (hSame_any pa pb pc pd [] [] s5 (by simp) (by simp) (own_at Hp1.out) (own_at Hp2.out))
          have D2 := Lib.hid (fun wx (hb : Below s5.heap.size s5 wx) => hSame_any ia ib ic id2 [] [] wx (by simp) (by simp) ((own_at Hp3.out).below hb) ((own_at Hp4.out).below hb))
          clear hx1 hx3 hk5 Hp1 Hp2 Hp3 Hp4 hv2b
          go_wp2_with fail
          refine D1.out.mono ?_
          rintro e s6 ⟨rfl, hq6⟩
          have Hq6 := Lib.hid (hq6.below s5.heap.size)
          clear hq6
          go_wp2_with fail
          refine (D2.out s6 Hq6.out).mono ?_
          rintro e s7 ⟨rfl, hq7⟩
          have Hq7 := Lib.hid (Hq6.out.trans ((hq7.below s6.heap.size).mono Hq6.out.size))
          have Hs7 := Lib.hid (Hs5.out.trans (Hq7.out.mono Hs5.out.size))
          clear hq7 D1 D2
          go_wp2
          go_ret
          exact ⟨rfl, Hs7.out⟩
end Go.Proofs.YtmcgnbbobhfkpaaDoor

