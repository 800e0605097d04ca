/- Parts of proofs: contracts and plain facts. Conditions: as each says. -/
import Derived.Test.YtgdijjfipicodaaK13
namespace Go.Proofs.Ytgdijjfipicodaa
open Go.RowKit

theorem set_gr_self {L : List (List Int)} {k : Nat} (h : k < L.length) : L.set k (gr L k) = L := by
  refine ext_gr (by rw [List.length_set]) fun r hr => ?_
  rw [gr_set h]
  by_cases e : r = k
  · rw [if_pos e, e]
  · rw [if_neg e]
theorem set_set_gr {L : List (List Int)} {k : Nat} {x y : List Int} : (L.set k x).set k y = L.set k y := by simp

set_option maxRecDepth 100000 in
set_option maxHeartbeats 3200000 in
theorem sySolve_any (n : Nat) (w : World) (h1 : 1 ≤ n) (h4 : n ≤ 4) :
    Calls Try.prog 67 #[.int .i64 (n : Int)] w fun e w' => ∃ v, e = .returned v ∧ OwnI w' w.heap.size v (sol n) ∧ Below w.heap.size w w' := by
  obtain ⟨i0, hi0, hz0, hz1, hz2⟩ := info_parts Try.info_int
  have CS := Lib.hid (sySum_any n w h1 h4)
  have HS0 := Lib.hid (sumT_mt h1 (show n < 5 by omega))
  have hm0 := sys_mt h1 (show n < 5 by omega)
  obtain ⟨hs1, hs2⟩ := sol_is h1 (show n < 5 by omega)
  have hN14 : catN n ≤ 14 := catN_le n (by omega)
  have hN1 : 1 ≤ catN n := catN_pos n (by omega)
  have HPiv := Lib.hid (solK_piv _ _ hs1)
  have HMt := Lib.hid (solK_mt hm0 hs1 (by omega))
  have Hd := Lib.hid (show mixR (dgF (sumT (patP 6 n)) (2 * (n : Int))) (sumT (patP 6 n)) (catN n) = sysL n from rfl)
  have Hsm := Lib.hid (show ∀ r c, 0 ≤ gi (gr (sumT (patP 6 n)) r) c ∨ True from fun _ _ => .inr trivial)
  obtain ⟨L0, hL0⟩ : ∃ L0, L0 = sysL n := ⟨_, rfl⟩
  obtain ⟨N, hN⟩ : ∃ N, N = catN n := ⟨_, rfl⟩
  obtain ⟨T, hT⟩ : ∃ T, T = sumT (patP 6 n) := ⟨_, rfl⟩
  rw [← hL0, ← hN] at HPiv HMt hs2
  rw [← hT, ← hN, ← hL0] at Hd
  rw [← hT, ← hN] at HS0
  rw [← hT] at CS
  rw [← hN] at hN14 hN1
  obtain ⟨M, hM⟩ : ∃ M, N = M + 1 := ⟨N - 1, by omega⟩
  have HM := Lib.hid (show N - 1 = M by omega)
  rw [HM.out] at HPiv HMt hs2
  have HNM := Lib.hid hM
  have hM13 : M ≤ 13 := by omega
  have Hsol := Lib.hid hs2
  have hNm : N ≤ 9223372036854775807 := by omega
  clear hm0 hs1 hs2 hL0 hN hT hM Hsm
  go_enter Try.func67, Try.ntmps67
  go_wp2_with fail
  refine CS.out.mono ?_
  rintro e w1 ⟨v, rfl, hv, hb⟩
  obtain ⟨g, c, us, rfl, hp, hg⟩ := hv.head (by rw [HS0.out.1]; exact hN1)
  have hTl := HS0.out.1
  rw [hTl] at hp ⊢
  have Hp := Lib.hid hp
  have Hb := Lib.hid hb
  have Hg := Lib.hid hg
  have hlast : IntKind.i64.wrap ((N : Int) - 1) = (M : Int) := by rw [w64 (by omega)]; have := HNM.out; omega
  clear hv hp hb hg hTl CS
  rw [← mixR_zero (dgF T (2 * (n : Int))) T] at Hp
  go_wp2
  go_loopw [24] (fun x wr => ∃ a : Nat, a ≤ N ∧ x = .int .i64 a ∧ OwnP wr w.heap.size (.slice (some ⟨g, 0, none⟩) N c) N (mixR (dgF T (2 * (n : Int))) T a) N us ∧ Below w.heap.size w wr) (fun x _ => N - (intOf x).toNat)
  case atStart => exact ⟨0, Nat.zero_le _, rfl, Hp.out, Hb.out⟩
  case round =>
    obtain ⟨a, ha, rfl, hown, hbr⟩ := hrel
    have Hown := Lib.hid hown
    have Hbr := Lib.hid hbr
    clear hown hbr Hp Hb
    by_cases hal : a < N
    · obtain ⟨hrl, hrin⟩ := HS0.out.2 a hal
      have hgr : gr (mixR (dgF T (2 * (n : Int))) T a) a = gr T a := by rw [gr_mixR (by rw [HS0.out.1]; exact hal), if_neg (Nat.lt_irrefl a)]
      have hd := Hown.out.cellAt a hal
      obtain ⟨q, cap, hvs, hd2, hf2, hgq, hst⟩ := Hown.out.atL (by rw [mixR_len]; exact HS0.out.1) hal (by rw [hgr, hrl]; exact hal)
      rw [hgr] at hvs hd2 hst
      rw [hrl] at hvs
      rw [hvs] at hd
      have hin := hrin a hal
      obtain ⟨y, hy⟩ : ∃ y, y = gi (gr T a) a := ⟨_, rfl⟩
      obtain ⟨z, hz⟩ : ∃ z, z = (y - 2 * (n : Int) + pM) % pM := ⟨_, rfl⟩
      have hst2 := hst z
      have hF : (gr T a).set a z = dgF T (2 * (n : Int)) a := by unfold dgF; rw [hz, hy]
      rw [hF, mixR_step (by rw [HS0.out.1]; exact hal)] at hst2
      have Hst := Lib.hid hst2
      have Hbs := Lib.hid (Hbr.out.setCell (p := ⟨q, a, none⟩) hgq (.int .i64 z))
      rw [← hy] at hd2 hin
      have hin2 : 0 ≤ y ∧ y < 1000000007 := hin
      have e1 : (y - 2 * (n : Int) + 1000000007) % 1000000007 = z := by rw [hz]; rfl
      have t1 : (y - 2 * (n : Int) + 1000000007).tmod 1000000007 = z := by rw [hz]; exact tmod_pM (by omega)
      clear hrl hrin hgr hvs hgq hst hst2 hF hy hz hin Hown
      go_upto_region 6 with (fail)
      go_region
      all_goals
        go_wp2
        go_roundw
        case rel => exact ⟨a + 1, by omega, by go_num, Hst.out.drew, Hbs.out.drew⟩
        case measure => simp [intOf]; omega
    · obtain rfl : a = N := by omega
      rw [Hd.out] at Hown
      have Hown := Lib.hid (show OwnP wr w.heap.size (.slice (some ⟨g, 0, none⟩) a c) a (solK L0 0).1 a us from Hown.out)
      go_wp2
      go_loopw [6] (fun x wq => ∃ (k : Nat) (us : List Value), k ≤ M ∧ x = .int .i64 k ∧ OwnP wq w.heap.size (.slice (some ⟨g, 0, none⟩) a c) a (solK L0 k).1 a us ∧ Below w.heap.size w wq) (fun x _ => M - (intOf x).toNat)
      case atStart => exact ⟨0, us, Nat.zero_le _, rfl, Hown.out, Hbr.out⟩
      case round =>
        rename World => wq
        obtain ⟨k, us, hk, rfl, hown, hbq⟩ := hrel
        have Hown2 := Lib.hid hown
        have Hbq := Lib.hid hbq
        have Hmt := Lib.hid (HMt.out k hk)
        clear hown hbq Hown Hbr
        by_cases hkM : k < M
        · have hpv := HPiv.out k hkM
          have HX := Lib.hid (show (solK L0 (k + 1)).1 = colK (solK L0 k).1 k from rfl)
          obtain ⟨L, hL⟩ : ∃ L, L = (solK L0 k).1 := ⟨_, rfl⟩
          rw [← hL] at Hown2 Hmt hpv HX
          rw [Hmt.out.1] at hpv
          have hka : k < a := by have := HNM.out; omega
          obtain ⟨A, hA⟩ : ∃ A, A = pivF L k a k := ⟨_, rfl⟩
          rw [← hA] at hpv
          have HA := Lib.hid hA
          have HS := Lib.hid (show colS L k = swpL L k A by unfold colS; rw [Hmt.out.1, hA])
          obtain ⟨hAa, hA0⟩ := hpv
          have HA0 := Lib.hid hA0
          clear hL hA hA0
          go_wp2
          go_loop [7] (fun x => ∃ (b f : Nat), b ≤ A ∧ b + f = k + a ∧ x = .int .i64 b ∧ pivF L k f b = A) (fun x => a - (intOf x).toNat)
          case atStart => exact ⟨k, a, by rw [HA.out]; exact pivF_ge _ _ _ _, rfl, rfl, HA.out.symm⟩
          case round =>
            obtain ⟨b, f, hbA, hbf, rfl, hp⟩ := hrel
            have Hp := Lib.hid hp
            have Hbf := Lib.hid hbf
            clear hp hbf
            have hba : b < a := by omega
            obtain ⟨hrl, _⟩ := Hmt.out.2 b hba
            have hd := Hown2.out.cellAt b hba
            obtain ⟨q, cap, hvs, hd2, _, _, _⟩ := Hown2.out.atL Hmt.out.1 hba (show k < (gr L b).length by omega)
            rw [hrl] at hvs
            rw [hvs] at hd
            obtain ⟨y, hy⟩ : ∃ y, y = gi (gr L b) k := ⟨_, rfl⟩
            have Hy := Lib.hid hy
            rw [← hy] at hd2
            have Hvb := Lib.hid hvs
            clear hrl hvs hy
            by_cases e : y = 0
            · have hy0 : (y == 0) = true := by simp [e]
              have HN := Lib.hid (show ∃ f', f = f' + 1 ∧ pivF L k f' (b + 1) = A from by
                cases f with
                | zero =>
                  have h := Hp.out
                  have h2 : b = A := h
                  rw [← h2, ← Hy.out] at HA0
                  exact absurd e HA0.out
                | succ f =>
                  refine ⟨f, rfl, ?_⟩
                  have h := Hp.out
                  unfold pivF at h
                  rw [if_pos (by rw [← Hy.out]; exact e)] at h
                  exact h)
              obtain ⟨f', hf1, hf2⟩ := HN.out
              have HF := Lib.hid (show b + 1 ≤ A ∧ b + 1 + f' = k + a from ⟨by rw [← hf2]; exact pivF_ge _ _ _ _, by have := Hbf.out; omega⟩)
              have Hf2 := Lib.hid hf2
              clear e hf1 hf2 HN
              go_wp2
              go_round
              case rel => exact ⟨b + 1, f', HF.out.1, HF.out.2, by go_num, Hf2.out⟩
              case measure => simp [intOf]; omega
            · have hy0 : (y == 0) = false := by simp [e]
              obtain rfl : b = A := by
                have h := Hp.out
                cases f with
                | zero => exact h
                | succ f => unfold pivF at h; rw [if_neg (by rw [← Hy.out]; exact e)] at h; exact h
              clear e Hp Hbf HA hbA
              have hdk := Hown2.out.cellAt k hka
              obtain ⟨qk, ck, hvk, _, _, _, _⟩ := Hown2.out.atL Hmt.out.1 hka (show k < (gr L k).length by rw [(Hmt.out.2 k hka).1]; exact hka)
              rw [(Hmt.out.2 k hka).1] at hvk
              have Hvk := Lib.hid hvk
              rw [hvk] at hdk
              clear hvk
              go_wp2
              go_quiet (fail)
              clear hdk hd hd2 hy0
              generalize hWX : World.drewN wq _ = wx
              have HwX := Lib.hid (show OwnP wx w.heap.size (.slice (some ⟨g, 0, none⟩) a c) a L a us ∧ Below w.heap.size w wx by rw [← hWX]; exact ⟨Hown2.out.drewN _, below_drewN Hbq.out _⟩)
              clear hWX Hown2 Hbq
              have hswp := HwX.out.1.swap Hmt.out.1 hka hba
              rw [Hvk.out, Hvb.out] at hswp
              have hl := (show us.length = a by simpa using HwX.out.1.top.1)
              have d0 := HwX.out.1.cellAt k hka
              rw [Hvk.out] at d0
              have f0 := World.ownsRow.frozenAt HwX.out.1.top k
              have t1 := (World.ownsRow.stored HwX.out.1.top k (.slice (some ⟨q, 0, none⟩) a cap)).1
              have d1 : (wx.setCell ⟨g, k, none⟩ (.slice (some ⟨q, 0, none⟩) a cap)).cell? ⟨g, b, none⟩ = some (.slice (some ⟨q, 0, none⟩) a cap) := by
                have h9 := Hvb.out
                rw [World.ownsRow.cellAt t1 b (by omega), List.getElem?_set]
                split
                · rw [if_pos (by omega)]
                · rw [← h9, List.getD, List.getElem?_eq_getElem (by omega)]
                  rfl
              have f1 := World.ownsRow.frozenAt t1 b
              have Hsw := Lib.hid hswp
              have Hbx := Lib.hid ((HwX.out.2.setCell (p := ⟨g, k, none⟩) Hg.out (.slice (some ⟨q, 0, none⟩) a cap)).setCell (p := ⟨g, b, none⟩) Hg.out (.slice (some ⟨qk, 0, none⟩) a ck))
              clear hswp hl t1 HwX
              go_upto_region 17 with (fail)
              clear d0 f0 d1 f1
              generalize hWY : World.setCell (World.setCell wx _ _) _ _ = wy at Hsw Hbx ⊢
              clear hWY
              have Hm1 := Lib.hid (Hmt.out.swp hka hba)
              rw [← HS.out] at Hsw Hm1
              have HX1 := Lib.hid (show (solK L0 (k + 1)).1 = colE (colN (colS L k) k) k from HX.out)
              obtain ⟨L1, hL1⟩ : ∃ L1, L1 = colS L k := ⟨_, rfl⟩
              obtain ⟨us1, hus1⟩ : ∃ us1, us1 = swpV us k b := ⟨_, rfl⟩
              rw [← hL1] at Hsw Hm1 HX1
              rw [← hus1] at Hsw
              clear hL1 hus1 Hmt HX HS Hvk Hvb HA0 hba
              obtain ⟨hrl, hrin⟩ := Hm1.out.2 k hka
              have hdk := Hsw.out.cellAt k hka
              obtain ⟨q1, c1, hv1, hd2, _, _, _⟩ := Hsw.out.atL Hm1.out.1 hka (show k < (gr L1 k).length by omega)
              rw [hrl] at hv1
              have Hv1 := Lib.hid hv1
              rw [hv1] at hdk
              have hin := hrin k hka
              obtain ⟨x1, hx1⟩ : ∃ x1, x1 = gi (gr L1 k) k := ⟨_, rfl⟩
              rw [← hx1] at hd2 hin
              have CI := Lib.hid (syInverse_any x1 wy hin)
              have hyin := invF_inP x1
              obtain ⟨y1, hy1⟩ : ∃ y1, y1 = invF x1 := ⟨_, rfl⟩
              rw [← hy1] at CI hyin
              have HN1 := Lib.hid (show colN L1 k = L1.set k (mixL (nmF (gr L1 k) y1) (gr L1 k) a) by unfold colN; rw [Hm1.out.1, ← hx1, ← hy1])
              have Hyin := Lib.hid hyin
              clear hrl hrin hv1 hin hx1 hy1 hyin
              go_wp2_with fail
              refine CI.out.mono ?_
              rintro e w9 ⟨rfl, rfl⟩
              have HI := Lib.hid (show OwnP w9 w.heap.size (.slice (some ⟨g, 0, none⟩) a c) a (L1.set k (mixL (nmF (gr L1 k) y1) (gr L1 k) 0)) a us1 by rw [mixL_zero, set_gr_self (by rw [Hm1.out.1]; exact hka)]; exact Hsw.out)
              clear CI hd2
              go_wp2
              go_loopw [91] (fun x wz => ∃ t : Nat, t ≤ a ∧ x = .int .i64 t ∧ OwnP wz w.heap.size (.slice (some ⟨g, 0, none⟩) a c) a (L1.set k (mixL (nmF (gr L1 k) y1) (gr L1 k) t)) a us1 ∧ Below w.heap.size w wz) (fun x _ => a - (intOf x).toNat)
              case atStart => exact ⟨0, Nat.zero_le _, rfl, HI.out, Hbx.out⟩
              case round =>
                rename World => wz
                obtain ⟨t, ht, rfl, hown, hbz⟩ := hrel
                have Hown := Lib.hid hown
                have Hbz := Lib.hid hbz
                clear hown hbz HI Hsw Hbx hdk
                by_cases htl : t < a
                · have hl1 := Hm1.out.1
                  have hgr : gr (L1.set k (mixL (nmF (gr L1 k) y1) (gr L1 k) t)) k = mixL (nmF (gr L1 k) y1) (gr L1 k) t := by rw [gr_set (by omega), if_pos rfl]
                  obtain ⟨hrl, hrin⟩ := Hm1.out.2 k hka
                  have hd := Hown.out.cellAt k hka
                  rw [Hv1.out] at hd
                  obtain ⟨q, cap, hvs, hd2, hf2, hgq, hst⟩ := Hown.out.atL (by rw [List.length_set]; exact hl1) hka (show t < (gr (L1.set k (mixL (nmF (gr L1 k) y1) (gr L1 k) t)) k).length by rw [hgr, mixL_len]; omega)
                  rw [hgr] at hvs hd2 hst
                  rw [gi_mixL (by omega), if_neg (Nat.lt_irrefl t)] at hd2
                  rw [Hv1.out, mixL_len, hrl] at hvs
                  simp only [Value.slice.injEq, Option.some.injEq, Addr.mk.injEq, and_true, true_and] at hvs
                  obtain ⟨rfl, -⟩ := hvs
                  have hin := hrin t htl
                  obtain ⟨z, hz⟩ : ∃ z, z = nmF (gr L1 k) y1 t := ⟨_, rfl⟩
                  have hst2 := hst z
                  rw [hz, mixL_step (by omega), set_set_gr, ← hz] at hst2
                  have Hst := Lib.hid hst2
                  have Hbs := Lib.hid (Hbz.out.setCell (p := ⟨q1, t, none⟩) hgq (.int .i64 z))
                  have hzd : z = gi (gr L1 k) t * y1 % pM := hz
                  obtain ⟨y, hy⟩ : ∃ y, y = gi (gr L1 k) t := ⟨_, rfl⟩
                  rw [← hy] at hd2 hin hzd
                  have b1 := mul_inP (x := y) (y := y1) ⟨hin.1, Int.le_of_lt hin.2⟩ ⟨Hyin.out.1, Int.le_of_lt Hyin.out.2⟩
                  obtain ⟨p, hp⟩ : ∃ p, p = y * y1 := ⟨_, rfl⟩
                  rw [← hp] at hzd b1
                  have hw : IntKind.i64.wrap (y * y1) = p := by rw [← hp]; exact w64 (by omega)
                  have e1 : p % 1000000007 = z := by rw [hzd]; rfl
                  have t1 : p.tmod 1000000007 = z := by rw [hzd]; exact tmod_pM b1.1
                  clear hl1 hgr hrl hrin hgq hst hst2 hz hzd hy hp hin Hown
                  go_upto_region 21 with (fail)
                  go_region
                  all_goals
                    go_wp2
                    go_roundw
                    case rel => exact ⟨t + 1, by omega, by go_num, Hst.out.drew, Hbs.out.drew⟩
                    case measure => simp [intOf]; omega
                · obtain rfl : t = a := by omega
                  rw [← HN1.out] at Hown
                  have Hm2 := Lib.hid (Hm1.out.colN (k := k) hka)
                  obtain ⟨L2, hL2⟩ : ∃ L2, L2 = colN L1 k := ⟨_, rfl⟩
                  rw [← hL2] at Hown HX1 Hm2
                  clear hL2 HN1 Hm1 Hyin Hv1
                  have Hown := Lib.hid (show OwnP wz w.heap.size (.slice (some ⟨g, 0, none⟩) t c) t (mixR (elR L2 k) L2 0) t us1 by rw [mixR_zero]; exact Hown.out)
                  have HE := Lib.hid (show (solK L0 (k + 1)).1 = mixR (elR L2 k) L2 t by rw [HX1.out]; unfold colE; rw [Hm2.out.1])
                  clear HX1
                  go_wp2
                  go_loopw [113] (fun x wp => ∃ r : Nat, r ≤ t ∧ x = .int .i64 r ∧ OwnP wp w.heap.size (.slice (some ⟨g, 0, none⟩) t c) t (mixR (elR L2 k) L2 r) t us1 ∧ Below w.heap.size w wp) (fun x _ => t - (intOf x).toNat)
                  case atStart => exact ⟨0, Nat.zero_le _, rfl, Hown.out, Hbz.out⟩
                  case round =>
                    rename World => wp
                    obtain ⟨r, hr, rfl, hown, hbp⟩ := hrel
                    have Hown2 := Lib.hid hown
                    have Hbp := Lib.hid hbp
                    clear hown hbp Hown Hbz
                    by_cases hrl : r < t
                    · have hm2l := Hm2.out.1
                      have hgr : gr (mixR (elR L2 k) L2 r) r = gr L2 r := by rw [gr_mixR (by omega), if_neg (Nat.lt_irrefl r)]
                      have hgk : gr (mixR (elR L2 k) L2 r) k = gr L2 k := by
                        rw [gr_mixR (by omega)]
                        split
                        · unfold elR; rw [if_pos rfl]
                        · rfl
                      have Hgk := Lib.hid hgk
                      obtain ⟨hrl2, hrin⟩ := Hm2.out.2 r hrl
                      obtain ⟨hkl2, hkin⟩ := Hm2.out.2 k hka
                      have Hrl := Lib.hid hrl2
                      have Hkl := Lib.hid hkl2
                      have Hrin := Lib.hid hrin
                      have Hkin := Lib.hid hkin
                      have hd := Hown2.out.cellAt r hrl
                      obtain ⟨qr, cr, hvr, hd2, _, hqr, _⟩ := Hown2.out.atL (by rw [mixR_len]; exact hm2l) hrl (show k < (gr (mixR (elR L2 k) L2 r) r).length by rw [hgr, hrl2]; exact hka)
                      obtain ⟨qk, ck, hvk, _, _, _, _⟩ := Hown2.out.atL (by rw [mixR_len]; exact hm2l) hka (show k < (gr (mixR (elR L2 k) L2 r) k).length by rw [hgk, hkl2]; exact hka)
                      rw [hgr] at hvr hd2
                      rw [hgk] at hvk
                      rw [hrl2] at hvr
                      rw [hkl2] at hvk
                      rw [hvr] at hd
                      have hin := hrin k hka
                      obtain ⟨x, hx⟩ : ∃ x, x = gi (gr L2 r) k := ⟨_, rfl⟩
                      rw [← hx] at hd2 hin
                      have Hvr := Lib.hid hvr
                      have Hvk := Lib.hid hvk
                      have Hqr := Lib.hid hqr
                      have Hin := Lib.hid hin
                      have HxE := Lib.hid hx
                      have Hgr := Lib.hid hgr
                      clear hgk hrl2 hkl2 hrin hkin hvr hvk hqr hin hx hgr
                      by_cases erk : r = k
                      · have hne : ((r : Int) != (k : Int)) = false := by simp [erk]
                        have Hsk := Lib.hid (mixR_skip (F := elR L2 k) (L := L2) (t := r) (by unfold elR; rw [if_pos erk]))
                        rw [Hsk.out] at Hown2
                        clear erk
                        go_wp2
                        go_loopw [14] (fun z wn => z = .int .i64 0 ∧ OwnP wn w.heap.size (.slice (some ⟨g, 0, none⟩) t c) t (mixR (elR L2 k) L2 (r + 1)) t us1 ∧ Below w.heap.size w wn) (fun z _ => 0)
                        case atStart => exact ⟨rfl, Hown2.out, Hbp.out⟩
                        case round =>
                          rename World => wn
                          obtain ⟨rfl, hown, hbn⟩ := hrel
                          have Hown3 := Lib.hid hown
                          have Hbn := Lib.hid hbn
                          clear hown hbn Hown2 Hbp hd hd2
                          go_wp2
                          go_roundw
                          case rel => exact ⟨r + 1, by omega, by go_num, Hown3.out, Hbn.out⟩
                          case measure => simp [intOf]; omega
                      · have hne : ((r : Int) != (k : Int)) = true := by simp; omega
                        have HER := Lib.hid (show elR L2 k r = mixL (elF (gr L2 r) (gr L2 k) x) (gr L2 r) t by unfold elR; rw [if_neg erk, hm2l, ← HxE.out])
                        have Herk := Lib.hid erk
                        have Hown3 := Lib.hid (show OwnP wp w.heap.size (.slice (some ⟨g, 0, none⟩) t c) t ((mixR (elR L2 k) L2 r).set r (mixL (elF (gr L2 r) (gr L2 k) x) (gr L2 r) 0)) t us1 by
                          have e : (mixR (elR L2 k) L2 r).set r (gr L2 r) = mixR (elR L2 k) L2 r := by
                            have h := set_gr_self (L := mixR (elR L2 k) L2 r) (k := r) (by rw [mixR_len]; omega)
                            rw [Hgr.out] at h
                            exact h
                          rw [mixL_zero, e]
                          exact Hown2.out)
                        clear erk
                        go_wp2
                        go_loopw [14] (fun z wn => ∃ b : Nat, b ≤ t ∧ z = .int .i64 b ∧ OwnP wn w.heap.size (.slice (some ⟨g, 0, none⟩) t c) t ((mixR (elR L2 k) L2 r).set r (mixL (elF (gr L2 r) (gr L2 k) x) (gr L2 r) b)) t us1 ∧ Below w.heap.size w wn) (fun z _ => t - (intOf z).toNat)
                        case atStart => exact ⟨0, Nat.zero_le _, rfl, Hown3.out, Hbp.out⟩
                        case round =>
                          rename World => wn
                          obtain ⟨b, hb, rfl, hown, hbn⟩ := hrel
                          have Hown4 := Lib.hid hown
                          have Hbn := Lib.hid hbn
                          clear hown hbn Hown2 Hown3 Hbp hd hd2
                          by_cases hbt : b < t
                          · have hbM : b ≤ M := by have := HNM.out; omega
                            obtain ⟨S, hS⟩ : ∃ S, S = mixR (elR L2 k) L2 r := ⟨_, rfl⟩
                            have hSl : S.length = t := by rw [hS, mixR_len]; exact hm2l
                            rw [← hS] at Hown4 ⊢
                            have hgr : gr (S.set r (mixL (elF (gr L2 r) (gr L2 k) x) (gr L2 r) b)) r = mixL (elF (gr L2 r) (gr L2 k) x) (gr L2 r) b := by rw [gr_set (by omega), if_pos rfl]
                            have hgk : gr (S.set r (mixL (elF (gr L2 r) (gr L2 k) x) (gr L2 r) b)) k = gr L2 k := by rw [gr_set (by omega), if_neg (fun e => Herk.out e.symm), hS]; exact Hgk.out
                            have hdr := Hown4.out.cellAt r hrl
                            have hdk := Hown4.out.cellAt k hka
                            rw [Hvr.out] at hdr
                            rw [Hvk.out] at hdk
                            obtain ⟨q5, c5, hv5, hd5, hf5, hg5, hst⟩ := Hown4.out.atL (by rw [List.length_set]; exact hSl) hrl (show b < (gr (S.set r (mixL (elF (gr L2 r) (gr L2 k) x) (gr L2 r) b)) r).length by rw [hgr, mixL_len, Hrl.out]; exact hbt)
                            obtain ⟨q6, c6, hv6, hd6, _, _, _⟩ := Hown4.out.atL (by rw [List.length_set]; exact hSl) hka (show b < (gr (S.set r (mixL (elF (gr L2 r) (gr L2 k) x) (gr L2 r) b)) k).length by rw [hgk, Hkl.out]; exact hbt)
                            rw [hgr] at hv5 hd5 hst
                            rw [hgk] at hv6 hd6
                            rw [gi_mixL (by rw [Hrl.out]; exact hbt), if_neg (Nat.lt_irrefl b)] at hd5
                            rw [Hvr.out, mixL_len, Hrl.out] at hv5
                            rw [Hvk.out, Hkl.out] at hv6
                            simp only [Value.slice.injEq, Option.some.injEq, Addr.mk.injEq, and_true, true_and] at hv5 hv6
                            obtain ⟨rfl, -⟩ := hv5
                            obtain ⟨rfl, -⟩ := hv6
                            have i1 := Hrin.out b hbt
                            have i2 := Hkin.out b hbt
                            obtain ⟨z, hz⟩ : ∃ z, z = elF (gr L2 r) (gr L2 k) x b := ⟨_, rfl⟩
                            have hst2 := hst z
                            rw [hz, mixL_step (by rw [Hrl.out]; exact hbt), set_set_gr, ← hz] at hst2
                            have Hst := Lib.hid hst2
                            have Hbs := Lib.hid (Hbn.out.setCell (p := ⟨qr, b, none⟩) hg5 (.int .i64 z))
                            have hzd : z = (gi (gr L2 r) b + (pM - x) * gi (gr L2 k) b) % pM := hz
                            obtain ⟨y, hy⟩ : ∃ y, y = gi (gr L2 r) b := ⟨_, rfl⟩
                            obtain ⟨v, hv⟩ : ∃ v, v = gi (gr L2 k) b := ⟨_, rfl⟩
                            rw [← hy] at hd5 i1 hzd
                            rw [← hv] at hd6 i2 hzd
                            have hx1 := Hin.out
                            have hx2 : 0 ≤ x ∧ x < 1000000007 := hx1
                            have hy2 : 0 ≤ y ∧ y < 1000000007 := i1
                            have b1 := mul_inP (x := 1000000007 - x) (y := v) ⟨by omega, by show _ ≤ (1000000007 : Int); omega⟩ ⟨i2.1, Int.le_of_lt i2.2⟩
                            obtain ⟨p, hp⟩ : ∃ p, p = (1000000007 - x) * v := ⟨_, rfl⟩
                            have hzd2 : z = (y + p) % pM := by rw [hzd, hp]; rfl
                            rw [← hp] at b1
                            have hw : IntKind.i64.wrap ((1000000007 - x) * v) = p := by rw [← hp]; exact w64 (by omega)
                            have e1 : (y + p) % 1000000007 = z := by rw [hzd2]; rfl
                            have t1 : (y + p).tmod 1000000007 = z := by rw [hzd2]; exact tmod_pM (by omega)
                            clear hgr hgk hg5 hst hst2 hz hzd hzd2 hy hv hp i1 i2 hx1 Hown4 hSl
                            go_upto_region 30 with (fail)
                            go_region
                            all_goals
                              go_wp2
                              go_roundw
                              case rel => exact ⟨b + 1, by omega, by go_num, by first | exact Hst.out.drew | (rw [← hS]; exact Hst.out.drew) | (rw [hS] at Hst; exact Hst.out.drew), Hbs.out.drew⟩
                              case measure => simp [intOf]; omega
                          · obtain rfl : b = t := by omega
                            have hbM : ¬ b ≤ M := by have := HNM.out; omega
                            rw [← HER.out, mixR_step (by omega)] at Hown4
                            go_wp2
                            go_roundw
                            case rel => exact ⟨r + 1, by omega, by go_num, Hown4.out, Hbn.out⟩
                            case measure => simp [intOf]; omega
                    · obtain rfl : r = t := by omega
                      rw [← HE.out] at Hown2
                      go_wp2
                      go_roundw
                      case rel => exact ⟨k + 1, us1, by omega, by go_num, Hown2.out, Hbp.out⟩
                      case measure => simp [intOf]; omega
        · obtain rfl : k = M := by omega
          have HNM2 := Lib.hid (show k < a by have := HNM.out; omega)
          obtain ⟨Lf, hLf⟩ : ∃ Lf, Lf = (solK L0 k).1 := ⟨_, rfl⟩
          rw [← hLf] at Hown2 Hmt Hsol
          clear hLf HPiv HMt
          go_wp2
          go_loopw [15, 16] (fun o x wp => ∃ t : Nat, t ≤ k ∧ x = .int .i64 t ∧ OwnI wp wq.heap.size o ((List.range t).map (outF Lf a)) ∧ Below wq.heap.size wq wp) (fun _ x _ => k - (intOf x).toNat)
          case atStart => exact ⟨0, Nat.zero_le _, rfl, OwnI.nil _ _, Below.refl _ _⟩
          case round =>
            rename World => wp
            obtain ⟨t, ht, rfl, hown, hbp⟩ := hrel
            have Ho := Lib.hid hown
            have Hbp := Lib.hid hbp
            have Hol := Lib.hid (show ((List.range t).map (outF Lf a)).length = t by simp)
            have HF0 := Lib.hid (show (List.range (t + 1)).map (outF Lf a) = (List.range t).map (outF Lf a) ++ [outF Lf a t] by rw [List.range_succ, List.map_append]; rfl)
            have HE0 := Lib.hid (show t = k → (List.range t).map (outF Lf a) ++ [1] = sol n from fun e => by rw [← Hsol.out, e]; unfold outL; rw [HM.out])
            obtain ⟨O, hO⟩ : ∃ O, O = (List.range t).map (outF Lf a) := ⟨_, rfl⟩
            rw [← hO] at Ho Hol HF0 HE0
            clear hown hbp hO
            by_cases htk : t < k
            · have hta : t < a := by have := HNM2.out; omega
              have hka : k < a := HNM2.out
              obtain ⟨hrl, hrin⟩ := Hmt.out.2 t hta
              have hd0 := Hown2.out.cellAt t hta
              obtain ⟨q, cap, hvs, hd2, _, _, _⟩ := Hown2.out.atL Hmt.out.1 hta (show k < (gr Lf t).length by omega)
              rw [hrl] at hvs
              rw [hvs] at hd0
              have hd := cell_below hd0 Hbp.out
              have hd3 := cell_below hd2 Hbp.out
              have hin := hrin k hka
              have HF := Lib.hid (show (List.range (t + 1)).map (outF Lf a) = O ++ [(pM - gi (gr Lf t) k) % pM] by
                rw [HF0.out]
                unfold outF
                rw [HM.out])
              obtain ⟨y, hy⟩ : ∃ y, y = gi (gr Lf t) k := ⟨_, rfl⟩
              rw [← hy] at hd3 hin HF
              have hin2 : 0 ≤ y ∧ y < 1000000007 := hin
              obtain ⟨z, hz⟩ : ∃ z, z = (pM - y) % pM := ⟨_, rfl⟩
              rw [← hz] at HF
              have e1 : (1000000007 - y) % 1000000007 = z := by rw [hz]; rfl
              have t1 : (1000000007 - y).tmod 1000000007 = z := by rw [hz]; exact tmod_pM (by omega)
              clear hrl hrin hd0 hvs hd2 hin hy hz
              go_wp2_with (at_builtin; refine wpList_append_own _ rfl _ _ 24 rfl wq.heap.size 3 i0 (.int .i64 0) 1 8 Try.underlying24 hi0 hz0 hz1 hz2 rfl (by decide) _ _ _ rfl (World.ownsRow.alloc Ho.out _) ⟨wp.heap.size, 0, none⟩ 1 1 [.int .i64 z] rfl rfl ?c1 ?c2 ?c3 ?c4 ?c5 ?_)
              all_goals first | (case c1 => exact cell_one_new _ _ _) | skip
              case c2 => first | rfl | (intro u hu; simp at hu; subst hu; rfl)
              case c3 => have := Hol.out; unfold maxLen; omega
              case c4 => have := Hol.out; omega
              case c5 => have := Hbp.out.size; simp; omega
              intro v' w2 hown' hgrow _
              have hs := Ho.out.snoc Hbp.out.size hown' hgrow
              rw [← HF.out] at hs
              have Hs := Lib.hid hs.1
              have Hb2 := Lib.hid (Hbp.out.trans hs.2)
              clear hown' hgrow hs
              go_wp2
              go_roundw
              case rel => exact ⟨t + 1, by omega, by go_num, Hs.out, Hb2.out⟩
              case measure => simp [intOf]; omega
            · obtain rfl : t = k := by omega
              have HE := Lib.hid (HE0.out rfl)
              go_wp2_with (at_builtin; refine wpList_append_own _ rfl _ _ 24 rfl wq.heap.size 3 i0 (.int .i64 0) 1 8 Try.underlying24 hi0 hz0 hz1 hz2 rfl (by decide) _ _ _ rfl (World.ownsRow.alloc Ho.out _) ⟨wp.heap.size, 0, none⟩ 1 1 [.int .i64 1] rfl rfl ?c1 ?c2 ?c3 ?c4 ?c5 ?_)
              all_goals first | (case c1 => exact cell_one_new _ _ _) | skip
              case c2 => first | rfl | (intro u hu; simp at hu; subst hu; rfl)
              case c3 => have := Hol.out; unfold maxLen; omega
              case c4 => have := Hol.out; omega
              case c5 => have := Hbp.out.size; simp; omega
              intro v' w2 hown' hgrow _
              have hs := Ho.out.snoc Hbp.out.size hown' hgrow
              rw [HE.out] at hs
              have Hs := Lib.hid (hs.1.base Hbq.out.size)
              have Hb2 := Lib.hid (Hbq.out.trans ((Hbp.out.trans hs.2).mono Hbq.out.size))
              clear hown' hgrow hs
              go_wp2
              go_ret
              exact ⟨_, rfl, Hs.out, Hb2.out⟩
end Go.Proofs.Ytgdijjfipicodaa

