/- Parts of proofs: contracts and plain facts. Conditions: as each says. -/
import Derived.Test.YtifnhlnbofkloaaDoorK18
namespace Go.Proofs.YtifnhlnbofkloaaDoor
open Go.RowKit

set_option maxRecDepth 100000 in
set_option maxHeartbeats 6400000 in
theorem specFreeSum_any (n x y : Int) (w : World) (_ : -9223372036854775808 ≤ n ∧ n ≤ 9223372036854775807)
    (_ : -9223372036854775808 ≤ x ∧ x ≤ 9223372036854775807) (_ : -9223372036854775808 ≤ y ∧ y ≤ 9223372036854775807) :
    Calls Tryd.prog 34 #[.int .i64 n, .int .i64 x, .int .i64 y] w fun e w' => IRes (okFree n x y) (sumV (fun m => fVal m x y) (allW n.toNat)) e ∧ Below w.heap.size w w' := by
  go_enter Tryd.func34, Tryd.ntmps34
  go_wp2_with fail
  refine (weSide_any n w).mono ?_
  rintro e w1 ⟨ha, rfl⟩
  by_cases hn : 1 ≤ n ∧ n ≤ 4
  · have Hn := Lib.hid hn
    obtain ⟨N, rfl⟩ : ∃ N : Nat, n = (N : Int) := ⟨n.toNat, by omega⟩
    obtain rfl := ha.is hn
    have hN1 : 1 ≤ N := by omega
    have hN4 : N ≤ 4 := by omega
    clear ha hn
    go_wp2_with fail
    refine (weWeights_any (some ⟨w.heap.size, 0, none⟩) 2 [x, y] _ (by simp) (ints_new w [x, y])).mono ?_
    rintro e w2 ⟨ha, rfl⟩
    have ha := ha.iff (allIn_two x y 0 5)
    have Hb2 := Lib.hid ((Below.refl _ w).alloc (Nat.le_refl _) (.cells ([x, y].map (Value.int .i64)).toArray 3))
    have HB2 := Lib.hid Hb2.out.size
    by_cases hf : is05 x y
    · have Hf := Lib.hid hf
      have hx5 : 0 ≤ x ∧ x ≤ 5 := hf.1
      have hy5 : 0 ≤ y ∧ y ≤ 5 := hf.2
      obtain rfl := ha.is hf
      clear ha hf
      go_wp2_with fail
      refine (weAll_any N _ hN1 hN4).mono ?_
      rintro e w3 ⟨v, vs, rfl, hv, hb⟩
      obtain ⟨ta, tc, rfl, ht1, ht2⟩ := hv.head
      have hlen := allW_len N (by omega)
      have HA := Lib.hid (fun m hm => allW_ok hN1 hN4 m hm)
      have hbd : ∀ k, k ≤ (allW N).length → 0 ≤ sumVk (fun m => fVal m x y) (allW N) k ∧ sumVk (fun m => fVal m x y) (allW N) k ≤ k * 10000000000000000 := fun k hk => sumVk_bd (F := fun m => fVal m x y) (A := allW N) (fun m hm => by
        rw [← prodW_free]
        exact prodW_small (wtF_le Hf.out) (sumC_cN (HA.out m hm).2 (by rw [(HA.out m hm).1]; exact hN4)) (Nat.le_refl _)) hk
      have Hbd := Lib.hid hbd
      obtain ⟨A, hA⟩ : ∃ A, A = allW N := ⟨_, rfl⟩
      rw [← hA] at hv hlen HA Hbd ht1 ⊢
      have HAe := Lib.hid hA
      have Hv := Lib.hid hv
      have Hb := Lib.hid (Hb2.out.trans (hb.mono HB2.out))
      clear hv hb hA hbd
      go_wp2
      go_loopw [8, 25] (fun s i wr => ∃ k : Nat, k ≤ A.length ∧ i = .int .i64 k ∧ s = .int .i64 (sumVk (fun m => fVal m x y) A k) ∧ Below w3.heap.size w3 wr) (fun _ i _ => A.length - (intOf i).toNat)
      case atStart => exact ⟨0, Nat.zero_le _, rfl, rfl, Below.refl _ _⟩
      case round =>
        obtain ⟨k, hk, rfl, rfl, hbr⟩ := hrel
        have Hbr := Lib.hid hbr
        have HBr := Lib.hid hbr.size
        clear hbr
        by_cases hlt : k < A.length
        · obtain ⟨b1, o1, r1, d1, e1, hc1, hm1, _, _⟩ := (Hv.out.below Hbr.out).at hlt
          obtain ⟨hml, hgd⟩ := HA.out _ (gt_mem hlt)
          have hmn : (gt A k).length ≤ 6 := by omega
          have htot := sumC_cN hgd (show (gt A k).length ≤ 4 by omega)
          have C := Lib.hid (weCounts_any r1 d1 (gt A k) wr hgd hm1)
          have S := Lib.hid (show sumVk (fun m => fVal m x y) A (k + 1) = sumVk (fun m => fVal m x y) A k + pw x (cN (gt A k) 0) * pw y (cN (gt A k) 1) * pw (x + y) (cN (gt A k) 5) from rfl)
          have h1 := Hbd.out k hk
          have h2 := Hbd.out (k + 1) (by omega)
          rw [S.out] at h2
          have hall := prodW_small (wt := wtF x y) (c := cN (gt A k)) (wtF_le Hf.out) htot (k := 6) (Nat.le_refl _)
          rw [prodW_free] at hall
          have htwo := prodW_small (wt := wtF x y) (c := cN (gt A k)) (wtF_le Hf.out) htot (k := 2) (by omega)
          rw [show prodW (wtF x y) (cN (gt A k)) 2 = 1 * pw x (cN (gt A k) 0) * pw y (cN (gt A k) 1) from rfl, Int.one_mul] at htwo
          rw [show fVal (gt A k) x y = pw x (cN (gt A k) 0) * pw y (cN (gt A k) 1) * pw (x + y) (cN (gt A k) 5) from rfl] at hall
          simp only [sumC] at htot
          have P0 := Lib.hid (fun w => wePower_any x (cN (gt A k) 0) w (by omega) (fun j hj => by have := pw_small (x := x) (by omega) (k := j) (by omega); omega))
          have P1 := Lib.hid (fun w => wePower_any y (cN (gt A k) 1) w (by omega) (fun j hj => by have := pw_small (x := y) (by omega) (k := j) (by omega); omega))
          have P5 := Lib.hid (fun w => wePower_any (x + y) (cN (gt A k) 5) w (by omega) (fun j hj => by have := pw_small (x := x + y) (by omega) (k := j) (by omega); omega))
          have q0 : cntK (gt A k) 0 = (cN (gt A k) 0 : Int) := cN_eq hmn 0
          have q1 : cntK (gt A k) 1 = (cN (gt A k) 1 : Int) := cN_eq hmn 1
          have q5 : cntK (gt A k) 5 = (cN (gt A k) 5 : Int) := cN_eq hmn 5
          obtain ⟨M, hM⟩ : ∃ M, M = gt A k := ⟨_, rfl⟩
          rw [← hM] at S h2 hall htwo htot P0 P1 P5 q0 q1 q5 C hml hc1
          rw [hml] at hc1 C
          subst e1
          have HQ := Lib.hid (And.intro q0 (And.intro q1 q5))
          obtain ⟨n0, hn0⟩ : ∃ n, n = cN M 0 := ⟨_, rfl⟩
          obtain ⟨n1, hn1⟩ : ∃ n, n = cN M 1 := ⟨_, rfl⟩
          obtain ⟨n5, hn5⟩ : ∃ n, n = cN M 5 := ⟨_, rfl⟩
          rw [← hn0, ← hn1, ← hn5] at HQ S h2 hall
          rw [← hn0, ← hn1] at htwo
          rw [← hn0] at P0
          rw [← hn1] at P1
          rw [← hn5] at P5
          obtain ⟨z, hz⟩ : ∃ z, z = x + y := ⟨_, rfl⟩
          have hzw : IntKind.i64.wrap (x + y) = z := by rw [hz]; exact w64 (by omega)
          rw [← hz] at P5 S h2 hall
          obtain ⟨x1, hx1⟩ : ∃ t, t = pw x n0 := ⟨_, rfl⟩
          obtain ⟨x2, hx2⟩ : ∃ t, t = pw y n1 := ⟨_, rfl⟩
          obtain ⟨x3, hx3⟩ : ∃ t, t = pw z n5 := ⟨_, rfl⟩
          rw [← hx1, ← hx2, ← hx3] at S h2 hall
          rw [← hx1, ← hx2] at htwo
          rw [← hx1] at P0
          rw [← hx2] at P1
          rw [← hx3] at P5
          obtain ⟨u, hu⟩ : ∃ u, u = x1 * x2 := ⟨_, rfl⟩
          rw [← hu] at S h2 hall htwo
          obtain ⟨p, hp⟩ : ∃ p, p = u * x3 := ⟨_, rfl⟩
          rw [← hp] at S h2 hall
          obtain ⟨s, hs⟩ : ∃ s, s = sumVk (fun m => fVal m x y) A k := ⟨_, rfl⟩
          rw [← hs] at h1 h2 S ⊢
          obtain ⟨r, hr⟩ : ∃ r, r = s + p := ⟨_, rfl⟩
          have v1 : IntKind.i64.wrap (x1 * x2) = u := by rw [← hu]; exact w64 (by omega)
          have v2 : IntKind.i64.wrap (u * x3) = p := by rw [← hp]; exact w64 (by omega)
          have v3 : IntKind.i64.wrap (s + p) = r := by rw [← hr]; exact w64 (by omega)
          rw [← hr] at S
          clear hm1 hgd hml hs hp hu hr hx1 hx2 hx3 hz hn0 hn1 hn5 h1 h2 hall htwo htot q0 q1 q5 hmn
          go_wp2_with fail
          refine C.out.mono ?_
          rintro e w4 ⟨cv, rfl, hcv, hb4⟩
          have hvl : ∃ g cc, cv = .slice (some ⟨g, 0, none⟩) 6 cc := by
            obtain ⟨va, vc, e, _, _, _⟩ := hcv.read
            rw [cntL_len] at e
            subst e
            obtain ⟨g, rfl, _⟩ := hcv.isAt (by omega)
            exact ⟨g, vc, rfl⟩
          obtain ⟨g, cc, rfl⟩ := hvl
          have c0 := hcv.cellAt 0 (by omega)
          have c1 := hcv.cellAt 1 (by omega)
          have c5 := hcv.cellAt 5 (by omega)
          obtain ⟨q0, q1, q5⟩ := HQ.out
          rw [show gi (cntL (cntK M)) 0 = cntK M 0 from rfl, q0] at c0
          rw [show gi (cntL (cntK M)) 1 = cntK M 1 from rfl, q1] at c1
          rw [show gi (cntL (cntK M)) 5 = cntK M 5 from rfl, q5] at c5
          have Hb4 := Lib.hid (Hbr.out.trans (hb4.mono HBr.out))
          clear hcv hb4 q0 q1 q5 HQ hM C hc1
          go_upto_region 8 with (fail)
          refine wp_region_still_lit (by kernel_rfl) (by kernel_rfl) ?_
          have d0 := cellD c0
          have d1 := cellD c1
          have d5 := cellD c5
          repeat still_step
          still_call (P0.out _)
          repeat still_step
          still_call (P1.out _)
          repeat still_step
          still_call (P5.out _)
          repeat still_step
          refine wpStill_nil ?_
          go_wp2
          go_roundw
          case rel => exact ⟨k + 1, by omega, by go_num, by rw [S.out], below_drewN Hb4.out 1⟩
          case measure => simp [intOf]; omega
        · obtain rfl : k = A.length := by omega
          have HV := Lib.hid (show sumVk (fun m => fVal m x y) A A.length = sumV (fun m => fVal m x y) (allW ((N : Int)).toNat) by rw [Int.toNat_natCast, ← HAe.out]; rfl)
          rw [HV.out]
          have Hfb := Lib.hid (Hb.out.trans (Hbr.out.mono Hb.out.size))
          go_wp2
          go_ret2
          exact ⟨IRes.yes ⟨Hn.out, Hf.out⟩, Hfb.out⟩
    · have Hf := Lib.hid hf
      obtain rfl := ha.isnt hf
      clear ha hf
      go_wp2
      go_ret2
      exact ⟨IRes.no (fun h => Hf.out h.2), Hb2.out⟩
  · have Hn := Lib.hid hn
    obtain rfl := ha.isnt hn
    clear ha hn
    go_wp2
    go_ret2
    exact ⟨IRes.no (fun h => Hn.out h.1), Below.refl _ _⟩
end Go.Proofs.YtifnhlnbofkloaaDoor

