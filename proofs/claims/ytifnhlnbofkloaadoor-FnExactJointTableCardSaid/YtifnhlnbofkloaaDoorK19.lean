/- Parts of proofs: contracts and plain facts. Conditions: as each says. -/
import Derived.Test.YtifnhlnbofkloaaDoorK18
import Derived.Deep.RegionWith
namespace Go.Proofs.YtifnhlnbofkloaaDoor
open Go.RowKit

set_option maxRecDepth 100000 in
set_option maxHeartbeats 6400000 in
theorem specFreeSum_any (n x y : Int) (w : World) (_ : -9223372036854775808 ≤ n ∧ n ≤ 9223372036854775807)
    (_ : -9223372036854775808 ≤ x ∧ x ≤ 9223372036854775807) (_ : -9223372036854775808 ≤ y ∧ y ≤ 9223372036854775807) :
    Calls Tryd.prog 34 #[.int .i64 n, .int .i64 x, .int .i64 y] w fun e w' => IRes (okFree n x y) (sumV (fun m => fVal m x y) (allW n.toNat)) e ∧ Below w.heap.size w w' := by
  go_enter Tryd.func34, Tryd.ntmps34
  go_wp2_with fail
  refine (weSide_any n w).mono ?_
  rintro e w1 ⟨ha, rfl⟩
  by_cases hn : 1 ≤ n ∧ n ≤ 4
  · have Hn := Lib.hid hn
    obtain ⟨N, rfl⟩ : ∃ N : Nat, n = (N : Int) := ⟨n.toNat, by omega⟩
    obtain rfl := ha.is hn
    have hN1 : 1 ≤ N := by omega
    have hN4 : N ≤ 4 := by omega
    clear ha hn
    go_wp2_with fail
    refine (weWeights_any (some ⟨w.heap.size, 0, none⟩) 2 [x, y] _ (by simp) (ints_new w [x, y])).mono ?_
    rintro e w2 ⟨ha, rfl⟩
    have ha := ha.iff (allIn_two x y 0 5)
    have Hb2 := Lib.hid ((Below.refl _ w).alloc (Nat.le_refl _) (.cells ([x, y].map (Value.int .i64)).toArray 3))
    have HB2 := Lib.hid Hb2.out.size
    by_cases hf : is05 x y
    · have Hf := Lib.hid hf
      have hx5 : 0 ≤ x ∧ x ≤ 5 := hf.1
      have hy5 : 0 ≤ y ∧ y ≤ 5 := hf.2
      obtain rfl := ha.is hf
      clear ha hf
      go_wp2_with fail
      refine (weAll_any N _ hN1 hN4).mono ?_
      rintro e w3 ⟨v, vs, rfl, hv, hb⟩
      obtain ⟨ta, tc, rfl, ht1, ht2⟩ := hv.head
      have hlen := allW_len N (by omega)
      have HA := Lib.hid (fun m hm => allW_ok hN1 hN4 m hm)
      have hbd : ∀ k, k ≤ (allW N).length → 0 ≤ sumVk (fun m => fVal m x y) (allW N) k ∧ sumVk (fun m => fVal m x y) (allW N) k ≤ k * 10000000000000000 := fun k hk => sumVk_bd (F := fun m => fVal m x y) (A := allW N) (fun m hm => by
        rw [← prodW_free]
        exact prodW_small (wtF_le Hf.out) (sumC_cN (HA.out m hm).2 (by rw [(HA.out m hm).1]; exact hN4)) (Nat.le_refl _)) hk
      have Hbd := Lib.hid hbd
      obtain ⟨A, hA⟩ : ∃ A, A = allW N := ⟨_, rfl⟩
      rw [← hA] at hv hlen HA Hbd ht1 ⊢
      have HAe := Lib.hid hA
      have Hv := Lib.hid hv
      have Hb := Lib.hid (Hb2.out.trans (hb.mono HB2.out))
      clear hv hb hA hbd
      go_wp2
      go_loopw [8, 25] (fun s i wr => ∃ k : Nat, k ≤ A.length ∧ i = .int .i64 k ∧ s = .int .i64 (sumVk (fun m => fVal m x y) A k) ∧ Below w3.heap.size w3 wr) (fun _ i _ => A.length - (intOf i).toNat)
      case atStart => exact ⟨0, Nat.zero_le _, rfl, rfl, Below.refl _ _⟩
      case round =>
        obtain ⟨k, hk, rfl, rfl, hbr⟩ := hrel
        have Hbr := Lib.hid hbr
        have HBr := Lib.hid hbr.size
        clear hbr
        by_cases hlt : k < A.length
        · obtain ⟨b1, o1, r1, d1, e1, hc1, hm1, _, _⟩ := (Hv.out.below Hbr.out).at hlt
          obtain ⟨hml, hgd⟩ := HA.out _ (gt_mem hlt)
          have hmn : (gt A k).length ≤ 6 := by omega
          have htot := sumC_cN hgd (show (gt A k).length ≤ 4 by omega)
          have C := Lib.hid (weCounts_any r1 d1 (gt A k) wr hgd hm1)
          have S := Lib.hid (show sumVk (fun m => fVal m x y) A (k + 1) = sumVk (fun m => fVal m x y) A k + pw x (cN (gt A k) 0) * pw y (cN (gt A k) 1) * pw (x + y) (cN (gt A k) 5) from rfl)
          have h1 := Hbd.out k hk
          have h2 := Hbd.out (k + 1) (by omega)
          rw [S.out] at h2
          have hall := prodW_small (wt := wtF x y) (c := cN (gt A k)) (wtF_le Hf.out) htot (k := 6) (Nat.le_refl _)
          rw [prodW_free] at hall
          have htwo := prodW_small (wt := wtF x y) (c := cN (gt A k)) (wtF_le Hf.out) htot (k := 2) (by omega)
          rw [show prodW (wtF x y) (cN (gt A k)) 2 = 1 * pw x (cN (gt A k) 0) * pw y (cN (gt A k) 1) from rfl, Int.one_mul] at htwo
          rw [show fVal (gt A k) x y = pw x (cN (gt A k) 0) * pw y (cN (gt A k) 1) * pw (x + y) (cN (gt A k) 5) from rfl] at hall
          simp only [sumC] at htot
          have P0 := Lib.hid (fun w => wePower_any x (cN (gt A k) 0) w (by omega) (fun j hj => by have := pw_small (x := x) (by omega) (k := j) (by omega); omega))
          have P1 := Lib.hid (fun w => wePower_any y (cN (gt A k) 1) w (by omega) (fun j hj => by have := pw_small (x := y) (by omega) (k := j) (by omega); omega))
          have P5 := Lib.hid (fun w => wePower_any (x + y) (cN (gt A k) 5) w (by omega) (fun j hj => by have := pw_small (x := x + y) (by omega) (k := j) (by omega); omega))
          have q0 : cntK (gt A k) 0 = (cN (gt A k) 0 : Int) := cN_eq hmn 0
          have q1 : cntK (gt A k) 1 = (cN (gt A k) 1 : Int) := cN_eq hmn 1
          have q5 : cntK (gt A k) 5 = (cN (gt A k) 5 : Int) := cN_eq hmn 5
          obtain ⟨M, hM⟩ : ∃ M, M = gt A k := ⟨_, rfl⟩
          rw [← hM] at S h2 hall htwo htot P0 P1 P5 q0 q1 q5 C hml hc1
          rw [hml] at hc1 C
          subst e1
          have HQ := Lib.hid (And.intro q0 (And.intro q1 q5))
          obtain ⟨n0, hn0⟩ : ∃ n, n = cN M 0 := ⟨_, rfl⟩
          obtain ⟨n1, hn1⟩ : ∃ n, n = cN M 1 := ⟨_, rfl⟩
          obtain ⟨n5, hn5⟩ : ∃ n, n = cN M 5 := ⟨_, rfl⟩
          rw [← hn0, ← hn1, ← hn5] at HQ S h2 hall
          rw [← hn0, ← hn1] at htwo
          rw [← hn0] at P0
          rw [← hn1] at P1
          rw [← hn5] at P5
          obtain ⟨z, hz⟩ : ∃ z, z = x + y := ⟨_, rfl⟩
          have hzw : IntKind.i64.wrap (x + y) = z := by rw [hz]; exact w64 (by omega)
          rw [← hz] at P5 S h2 hall
          obtain ⟨x1, hx1⟩ : ∃ t, t = pw x n0 := ⟨_, rfl⟩
          obtain ⟨x2, hx2⟩ : ∃ t, t = pw y n1 := ⟨_, rfl⟩
          obtain ⟨x3, hx3⟩ : ∃ t, t = pw z n5 := ⟨_, rfl⟩
          rw [← hx1, ← hx2, ← hx3] at S h2 hall
          rw [← hx1, ← hx2] at htwo
          rw [← hx1] at P0
          rw [← hx2] at P1
          rw [← hx3] at P5
          obtain ⟨u, hu⟩ : ∃ u, u = x1 * x2 := ⟨_, rfl⟩
          rw [← hu] at S h2 hall htwo
          obtain ⟨p, hp⟩ : ∃ p, p = u * x3 := ⟨_, rfl⟩
          rw [← hp] at S h2 hall
          obtain ⟨s, hs⟩ : ∃ s, s = sumVk (fun m => fVal m x y) A k := ⟨_, rfl⟩
          rw [← hs] at h1 h2 S ⊢
          obtain ⟨r, hr⟩ : ∃ r, r = s + p := ⟨_, rfl⟩
          have v1 : IntKind.i64.wrap (x1 * x2) = u := by rw [← hu]; exact w64 (by omega)
          have v2 : IntKind.i64.wrap (u * x3) = p := by rw [← hp]; exact w64 (by omega)
          have v3 : IntKind.i64.wrap (s + p) = r := by rw [← hr]; exact w64 (by omega)
          rw [← hr] at S
          clear hm1 hgd hml hs hp hu hr hx1 hx2 hx3 hz hn0 hn1 hn5 h1 h2 hall htwo htot q0 q1 q5 hmn
          go_wp2_with fail
          refine C.out.mono ?_
          rintro e w4 ⟨cv, rfl, hcv, hb4⟩
          have hvl : ∃ g cc, cv = .slice (some ⟨g, 0, none⟩) 6 cc := by
            obtain ⟨va, vc, e, _, _, _⟩ := hcv.read
            rw [cntL_len] at e
            subst e
            obtain ⟨g, rfl, _⟩ := hcv.isAt (by omega)
            exact ⟨g, vc, rfl⟩
          obtain ⟨g, cc, rfl⟩ := hvl
          have c0 := hcv.cellAt 0 (by omega)
          have c1 := hcv.cellAt 1 (by omega)
          have c5 := hcv.cellAt 5 (by omega)
          obtain ⟨q0, q1, q5⟩ := HQ.out
          rw [show gi (cntL (cntK M)) 0 = cntK M 0 from rfl, q0] at c0
          rw [show gi (cntL (cntK M)) 1 = cntK M 1 from rfl, q1] at c1
          rw [show gi (cntL (cntK M)) 5 = cntK M 5 from rfl, q5] at c5
          have Hb4 := Lib.hid (Hbr.out.trans (hb4.mono HBr.out))
          clear hcv hb4 q0 q1 q5 HQ hM C hc1
          go_upto_region 8 with (fail)
          refine wp_region_still_lit (by kernel_rfl) (by kernel_rfl) ?_
          have d0 := cellD c0
          have d1 := cellD c1
          have d5 := cellD c5
          repeat still_step
          still_call (P0.out _)
          repeat still_step
          still_call (P1.out _)
          repeat still_step
          still_call (P5.out _)
          repeat still_step
          refine wpStill_nil ?_
          go_wp2
          go_roundw
          case rel => exact ⟨k + 1, by omega, by go_num, by rw [S.out], below_drewN Hb4.out 1⟩
          case measure => simp [intOf]; omega
        · obtain rfl : k = A.length := by omega
          have HV := Lib.hid (show sumVk (fun m => fVal m x y) A A.length = sumV (fun m => fVal m x y) (allW ((N : Int)).toNat) by rw [Int.toNat_natCast, ← HAe.out]; rfl)
          rw [HV.out]
          have Hfb := Lib.hid (Hb.out.trans (Hbr.out.mono Hb.out.size))
          go_wp2
          go_ret2
          exact ⟨IRes.yes ⟨Hn.out, Hf.out⟩, Hfb.out⟩
    · have Hf := Lib.hid hf
      obtain rfl := ha.isnt hf
      clear ha hf
      go_wp2
      go_ret2
      exact ⟨IRes.no (fun h => Hf.out h.2), Hb2.out⟩
  · have Hn := Lib.hid hn
    obtain rfl := ha.isnt hn
    clear ha hn
    go_wp2
    go_ret2
    exact ⟨IRes.no (fun h => Hn.out h.1), Below.refl _ _⟩
end Go.Proofs.YtifnhlnbofkloaaDoor

namespace Go.Proofs.YtifnhlnbofkloaaDoor
open Go.RowKit

def jR (n : Nat) : Nat := (tabW fInv (allW n)).length
def jC (n : Nat) : Nat := (tabW fMin (allW n)).length
/-- how many of the first t matrices have p inversions and k minus ones -/
def jF (A : List (List (List Int))) (t p k : Nat) : Int := sumF (fun i => if fInv (A.getD i []) = p ∧ fMin (A.getD i []) = k then 1 else 0) t
theorem jF_zero (A : List (List (List Int))) (p k : Nat) : jF A 0 p k = 0 := rfl
theorem jF_step (A : List (List (List Int))) (t p k : Nat) : jF A (t + 1) p k = if p = fInv (A.getD t []) ∧ k = fMin (A.getD t []) then jF A t (fInv (A.getD t [])) (fMin (A.getD t [])) + 1 else jF A t p k := by
  unfold jF
  simp only [sumF]
  by_cases e : p = fInv (A.getD t []) ∧ k = fMin (A.getD t [])
  · rw [if_pos e, e.1, e.2, if_pos ⟨rfl, rfl⟩]
  · rw [if_neg e, if_neg (fun h => e ⟨h.1.symm, h.2.symm⟩)]
    omega
theorem jF_bd (A : List (List (List Int))) (t p k : Nat) : 0 ≤ jF A t p k ∧ jF A t p k ≤ t := sumF_01 fun i _ => by split <;> omega
def joint (n : Nat) : List (List Int) := tab (jR n) (jC n) (jF (allW n) (allW n).length)
theorem j_ok : ∀ n, n < 5 → ∀ m, m ∈ allW n → fInv m < jR n ∧ fMin m < jC n ∧ cN m 5 = fMin m ∧ cN m 0 + cN m 5 = fInv m := by decide +kernel
theorem j_size : ∀ n, n < 5 → n = 0 ∨ (jR n = n * (n - 1) / 2 + 1 ∧ jR n ≤ 100 ∧ jC n ≤ 100 ∧ 1 ≤ jC n) := by decide +kernel
theorem joint_small {n : Int} (h : 1 ≤ n ∧ n ≤ 4) : Small (joint n.toNat) := by
  have hs := (j_size n.toNat (by omega)).resolve_left (by omega)
  refine ⟨by unfold joint; rw [tab_len]; omega, fun i hi => ?_⟩
  unfold joint at hi ⊢
  rw [tab_len] at hi
  rw [tab_row hi]
  omega
end Go.Proofs.YtifnhlnbofkloaaDoor

namespace Go.Proofs.YtifnhlnbofkloaaDoor
open Go.RowKit

theorem OwnP.headAt {w : World} {B n k : Nat} {v : Value} {m : List (List Int)} {vs : List Value} (h : OwnP w B v n m k vs) (hn : 1 ≤ n) : ∃ g c, v = .slice (some ⟨g, 0, none⟩) n c ∧ B ≤ g ∧ g < w.heap.size := by
  rcases h.top.2 with ⟨h0, h1⟩ | ⟨g, cap, cur, hv, hg, hh, _⟩
  · omega
  · exact ⟨g, cap, hv, hg, lt_of_block hh⟩
theorem j_num : ∀ n : Nat, n < 5 → n = 0 ∨ ((n : Int) * ((n : Int) - 1) = ((n * (n - 1) : Nat) : Int) ∧ Int.tdiv ((n * (n - 1) : Nat) : Int) 2 = ((n * (n - 1) / 2 : Nat) : Int) ∧ n * (n - 1) ≤ 100) := by decide +kernel

set_option maxRecDepth 100000 in
set_option maxHeartbeats 3200000 in
theorem specJointTable_any (n : Int) (w : World) (hz : -9223372036854775808 ≤ n ∧ n ≤ 9223372036854775807) :
    Calls Tryd.prog 30 #[.int .i64 n] w fun e w' => MRes (1 ≤ n ∧ n ≤ 4) (joint n.toNat) w' w.heap.size e ∧ Below w.heap.size w w' := by
  by_cases h : 1 ≤ n ∧ n ≤ 4
  · obtain ⟨N, rfl⟩ : ∃ N : Nat, n = (N : Int) := ⟨n.toNat, by omega⟩
    have hN1 : 1 ≤ N := by omega
    have hN4 : N ≤ 4 := by omega
    obtain ⟨i0, hi, hz0, hz1, hz2⟩ := info_parts Tryd.info_int
    obtain ⟨j0, hj, hy0, hy1, hy2⟩ := info_parts Tryd.info_ints
    have HJ := Lib.hid (j_ok N (by omega))
    have HF := Lib.hid (f_ok N (by omega))
    obtain ⟨hs1, hs2, hs3, hs4⟩ := (j_size N (by omega)).resolve_left (by omega)
    obtain ⟨hn1, hn2, hn3⟩ := (j_num N (by omega)).resolve_left (by omega)
    have HC := Lib.hid (show (tabW fMin (allW N)).length = jC N from rfl)
    have HZ := Lib.hid hz
    obtain ⟨P, hP⟩ : ∃ P, P = N * (N - 1) := ⟨_, rfl⟩
    obtain ⟨Q, hQ⟩ : ∃ Q, Q = N * (N - 1) / 2 := ⟨_, rfl⟩
    rw [← hP] at hn1 hn2 hn3
    rw [hP, ← hQ, ← hP] at hn2
    rw [← hQ] at hs1
    have Hn := Lib.hid (And.intro hn1 hn2)
    rw [Int.toNat_natCast]
    clear hz hP hQ hn1 hn2
    go_enter Tryd.func30, Tryd.ntmps30
    go_wp2_with fail
    refine (weSide_any (N : Int) w).mono ?_
    rintro e w1 ⟨ha, rfl⟩
    obtain rfl := ha.is h
    have C2 := Lib.hid (specMinusTable_any (N : Int) w HZ.out)
    rw [Int.toNat_natCast] at C2
    clear ha h
    go_wp2_with fail
    refine C2.out.mono ?_
    rintro e w2 ⟨⟨v2, b2, r2, rfl, hv2, hr2⟩, hb2⟩
    have hr3 : b2 = true ∧ r2 = tabW fMin (allW N) := by
      rcases hr2 with ⟨_, h2, h3⟩ | ⟨h1, _, _⟩
      · exact ⟨h2, h3⟩
      · exact absurd ⟨by omega, by omega⟩ h1
    obtain ⟨rfl, rfl⟩ := hr3
    obtain ⟨ua, uc, huu, _, _, _⟩ := hv2.read
    rw [HC.out] at huu
    subst huu
    have Hb2 := Lib.hid hb2
    have HB2 := Lib.hid hb2.size
    obtain ⟨R, hR⟩ : ∃ R, R = jR N := ⟨_, rfl⟩
    obtain ⟨C, hC⟩ : ∃ C, C = jC N := ⟨_, rfl⟩
    have Hjt := Lib.hid (show joint N = tab R C (jF (allW N) (allW N).length) by rw [hR, hC]; rfl)
    rw [← hR] at hs1 hs2 HJ
    rw [← hC] at hs3 hs4 HJ ⊢
    clear hv2 hr2 hb2 C2 hR hC HC
    go_wp2
    go_loopw [6, 7] (fun out i wr => ∃ (k : Nat) (vs : List Value), k ≤ R ∧ i = .int .i64 k ∧ OwnP wr w.heap.size out k (tab R C fun _ _ => 0) k vs ∧ Below w.heap.size w wr) (fun _ i _ => R - (intOf i).toNat)
    case atStart => exact ⟨0, [], Nat.zero_le _, rfl, ⟨World.ownsRow_nil _ _ _ _, fun i hi => absurd hi (by omega), fun i j _ hj => absurd hj (by omega)⟩, Hb2.out⟩
    case round =>
      obtain ⟨k, vs, hk, rfl, hout, hbr⟩ := hrel
      have hn1 := Hn.out.1
      have hn2 := Hn.out.2
      have HBr := Lib.hid hbr.size
      have Hout := Lib.hid hout
      have Hbr := Lib.hid hbr
      clear hout hbr
      by_cases hlt : k < R
      · have hd : decide ((k : Int) ≤ (Q : Int)) = true := by simp; omega
        go_wp2_with (at_make; refine wpList_make_full _ rfl _ _ 29 rfl wr.heap.size 3 i0 (.int .i64 0) 1 Tryd.underlying29 hi hz0 hz1 _ _ _ _ C rfl rfl rfl rfl ?d1 ?d2 ?d3 ?_)
        case d1 => rw [hz2]; omega
        case d2 => unfold maxLen; omega
        case d3 => simp
        intro w2 hown2 hg2
        have hb2 : Below wr.heap.size wr w2 := (Below.refl _ _).grown hg2 (Nat.le_refl _) (fun _ h => by cases h)
        have hrow := OwnI.made hown2
        have hB2 := hb2.size
        have e1 : gr (tab R C fun _ _ => (0 : Int)) k = List.replicate C 0 := zero_row hlt
        have Hout2 := Lib.hid (Hout.out.below hb2)
        have hrow2 : OwnI w2 w.heap.size (.slice (some ⟨wr.heap.size, 0, none⟩) C C) (gr (tab R C fun _ _ => (0 : Int)) k) := by rw [e1]; exact hrow.base HBr.out
        have Hrow := Lib.hid hrow2
        have hfr := Lib.hid (Hout.out.fresh hrow (Nat.le_refl _))
        have Hb3 := Lib.hid (Hbr.out.trans (hb2.mono HBr.out))
        have hbase := HBr.out
        clear hown2 hg2 hb2 hrow e1 hrow2
        go_wp2_with (at_builtin; refine wpList_append_own _ rfl _ _ 22 rfl w.heap.size 29 j0 (.slice none 0 0) 1 24 Tryd.underlying22 hj hy0 hy1 hy2 rfl (by decide) _ _ _ rfl (World.ownsRow.alloc Hout2.out.top _) ⟨w2.heap.size, 0, none⟩ 1 1 [.slice (some ⟨wr.heap.size, 0, none⟩) C C] rfl rfl ?e1 ?e2 ?e3 ?e4 ?e5 ?_)
        case e1 => exact cell_one_new _ _ _
        case e2 => intro u hu; simp at hu; subst hu; rfl
        case e3 => unfold maxLen; omega
        case e4 => omega
        case e5 => simp; omega
        intro v' w3 hown' hgrow _
        have hput := Hout2.out.snoc (show w.heap.size ≤ w2.heap.size by omega) Hrow.out hfr.out hown' hgrow
        have Hput := Lib.hid hput
        clear hput hown' hgrow hn1 hn2
        go_wp2
        go_roundw
        case rel => exact ⟨k + 1, _, by omega, by go_num, Hput.out.1, Hb3.out.trans Hput.out.2⟩
        case measure => simp [intOf]; omega
      · obtain rfl : k = R := by omega
        have hd : decide ((k : Int) ≤ (Q : Int)) = false := by simp; omega
        have CA := Lib.hid (weAll_any N wr hN1 hN4)
        have hlen := allW_len N (by omega)
        have HA := Lib.hid (fun m hm => (allW_good N (by omega) m hm).resolve_left (by omega))
        obtain ⟨A, hA⟩ : ∃ A, A = allW N := ⟨_, rfl⟩
        rw [← hA] at CA hlen HA HJ HF Hjt
        obtain ⟨go, gc, rfl, hgo, hgo2⟩ := Hout.out.headAt (by omega)
        have Hgo := Lib.hid (And.intro hgo hgo2)
        clear hA hgo hgo2
        go_wp2_with fail
        refine CA.out.mono ?_
        rintro e w4 ⟨v4, ts, rfl, hv4, hb4⟩
        obtain ⟨ta, tc, rfl, ht1, ht2⟩ := hv4.head
        have Hr0 := Lib.hid (show ∀ i, i < k → ∀ g, (vs.getD i undef).ownBlock = some g → g < wr.heap.size from fun i hi g hg2 => ((Hout.out.rows i hi).lt g hg2).2)
        have Hv4 := Lib.hid hv4
        have Ht := Lib.hid (Hout.out.below hb4)
        have Hb4 := Lib.hid (Hbr.out.trans (hb4.mono HBr.out))
        clear hv4 hb4 CA Hout hn1 hn2 hd
        go_wp2
        go_loopw [36] (fun i wq => ∃ (t : Nat) (f : Nat → Nat → Int), t ≤ A.length ∧ i = .int .i64 t ∧ OwnP wq w.heap.size (.slice (some ⟨go, 0, none⟩) k gc) k (tab k C f) k vs ∧ (∀ p q, p < k → q < C → f p q = jF A t p q) ∧ OwnRL wq wr.heap.size (.slice ta A.length tc) A ts ∧ Below w.heap.size w wq) (fun i _ => A.length - (intOf i).toNat)
        case atStart => exact ⟨0, _, Nat.zero_le _, rfl, Ht.out, fun _ _ _ _ => rfl, Hv4.out, Hb4.out⟩
        case round =>
          rename World => wq
          obtain ⟨t, f, htt, rfl, hown, heq, hlist, hbq⟩ := hrel
          have Hown := Lib.hid hown
          have Heq := Lib.hid heq
          have Hlist := Lib.hid hlist
          have Hbq := Lib.hid hbq
          have HBq := Lib.hid hbq.size
          clear hown heq hlist hbq Ht Hv4
          by_cases hlt2 : t < A.length
          · obtain ⟨b1, o1, r1, d1, e1, hc1, hm1, _, _⟩ := Hlist.out.at hlt2
            obtain ⟨hml, hgd⟩ := HA.out _ (gt_mem hlt2)
            obtain ⟨j1, j2, _, _⟩ := HJ.out _ (gt_mem hlt2)
            obtain ⟨⟨f1, f2⟩, f3, f4⟩ := HF.out _ (gt_mem hlt2)
            have CI := Lib.hid (fun wx (hx : Below wq.heap.size wq wx) => weInversions_any r1 d1 (gt A t) wx hgd (hm1.below hx))
            have CM := Lib.hid (fun wx (hx : Below wq.heap.size wq wx) => sgMinus_any r1 d1 (gt A t) wx hgd.1 (hm1.below hx))
            have hbd := jF_bd A t (fInv (gt A t)) (fMin (gt A t))
            have HS := Lib.hid (fun p k => (show jF A (t + 1) p k = if p = fInv (gt A t) ∧ k = fMin (gt A t) then jF A t (fInv (gt A t)) (fMin (gt A t)) + 1 else jF A t p k from jF_step A t p k))
            have hfv := Heq.out _ _ j1 j2
            rw [f3] at CI
            rw [f1] at CM
            rw [hml] at hc1 CI CM
            subst e1
            obtain ⟨M, hM⟩ : ∃ M, M = gt A t := ⟨_, rfl⟩
            rw [← hM] at j1 j2 CI CM hbd HS hfv f2 f4
            obtain ⟨p, hp⟩ : ∃ p, p = fInv M := ⟨_, rfl⟩
            obtain ⟨q, hq⟩ : ∃ q, q = fMin M := ⟨_, rfl⟩
            rw [← hp] at j1 hbd HS hfv CI f4
            rw [← hq] at j2 hbd HS hfv CM f2
            obtain ⟨y, hy⟩ : ∃ y, y = jF A t p q := ⟨_, rfl⟩
            rw [← hy] at hbd HS hfv
            obtain ⟨g, cap, hvs, hd2, hf2, hg, _⟩ := Hown.out.at2 j1 j2
            have hd := Hown.out.cellAt p j1
            rw [hvs] at hd
            rw [hfv] at hd2
            have hfacts : ∀ w'', Below wq.heap.size wq w'' → w''.cell? ⟨go, p, none⟩ = some (.slice (some ⟨g, 0, none⟩) C cap) ∧ w''.cell? ⟨g, q, none⟩ = some (.int .i64 y) ∧ w''.frozen? ⟨g, q, none⟩ = false := fun w'' hb => by
              obtain ⟨g', cap', hvs', _, hf', _, _⟩ := (Hown.out.below hb).at2 j1 j2
              rw [hvs] at hvs'
              cases hvs'
              exact ⟨cell_below hd hb, cell_below hd2 hb, hf'⟩
            have hst : ∀ w'', Below wq.heap.size wq w'' → OwnP (w''.setCell ⟨g, q, none⟩ (.int .i64 (y + 1))) w.heap.size (.slice (some ⟨go, 0, none⟩) k gc) k (tab k C fun a b => if a = p ∧ b = q then y + 1 else f a b) k vs := fun w'' hb => by
              obtain ⟨g', cap', hvs', _, _, _, hst'⟩ := (Hown.out.below hb).at2 j1 j2
              rw [hvs] at hvs'
              cases hvs'
              exact hst' _
            have hgl : g < wr.heap.size := by
              have h := Hr0.out p j1
              rw [hvs] at h
              exact h g rfl
            have hls : ∀ w'', Below wq.heap.size wq w'' → OwnRL (w''.setCell ⟨g, q, none⟩ (.int .i64 (y + 1))) wr.heap.size (.slice (some ⟨b1, o1, none⟩) A.length tc) A ts := fun w'' hb => by
              have HL := Hlist.out.below hb
              exact ⟨Go.ownsRow_setCell_other (a := ⟨g, q, none⟩) HL.top (fun e => by have := (World.ownsRow.lt HL.top g e).1; omega) _, fun i hi => by
                obtain ⟨us, hu⟩ := HL.each i hi
                exact ⟨us, ⟨Go.ownsRow_setCell_other (a := ⟨g, q, none⟩) hu.top (fun e => by have := (World.ownsRow.lt hu.top g e).1; omega) _, fun j hj => Go.ownsRow_setCell_other (a := ⟨g, q, none⟩) (hu.rows j hj) (fun e => by have := (OwnI.lt (hu.rows j hj) g e).1; omega) _⟩⟩⟩
            have Hfacts := Lib.hid hfacts
            have Hst := Lib.hid hst
            have Hls := Lib.hid hls
            have Hg := Lib.hid hg
            clear hm1 hgd hml hM hp hq hfv hy f1 f3 hvs hd hd2 hf2 hg hfacts hst hls hgl Hlist Hown
            go_wp2
            go_region_with (first
              | (go_at_call 61; refine (CI.out _ ?_).mono ?_; exact below_drewN (Below.refl _ _) 1; rintro e w5 ⟨rfl, hb5⟩; obtain ⟨q0, q1, q2⟩ := Hfacts.out w5 ((below_drewN (Below.refl _ _) 1).trans hb5); have HB5 := Lib.hid ((below_drewN (Below.refl wq.heap.size wq) 1).trans hb5); clear hb5)
              | (go_at_call 58; refine (CM.out _ ?_).mono ?_; (first | exact HB5.out | exact below_drewN (Below.refl _ _) 1); rintro e w6 ⟨rfl, rfl⟩))
            all_goals
              have HSn := Lib.hid (Hst.out _ HB5.out)
              have HLn := Lib.hid (Hls.out _ HB5.out)
              have HBn := Lib.hid ((Hbq.out.trans (HB5.out.mono HBq.out)).setCell (p := ⟨g, q, none⟩) Hg.out (.int .i64 (y + 1)))
              clear q0 q1 q2 hc1 CI CM Hfacts Hst Hls
              go_wp2
              go_roundw
              case rel =>
                refine ⟨t + 1, _, by omega, by go_num, HSn.out, fun a b ha hb => ?_, HLn.out, HBn.out⟩
                rw [HS.out]
                by_cases e : a = p ∧ b = q
                · rw [if_pos e, if_pos e]
                · rw [if_neg e, if_neg e]; exact Heq.out a b ha hb
              case measure => simp [intOf]; omega
          · obtain rfl : t = A.length := by omega
            have hfin : OwnM wq w.heap.size (.slice (some ⟨go, 0, none⟩) k gc) (joint N) := by
              have e : joint N = tab k C f := by
                rw [Hjt.out]
                exact eq_tab (tab_len _ _ _) (fun i hi => tab_row hi) (fun i j hi hj => by rw [gi_tab hi hj, ← Heq.out i j hi hj])
              exact ⟨vs, by rw [e, tab_len]; exact Hown.out⟩
            have Hfin := Lib.hid hfin
            clear hfin
            go_wp2
            go_ret2
            exact ⟨MRes.yes ⟨by omega, by omega⟩ (by have hf := Hfin.out; rw [hs1] at hf; exact hf), Hbq.out⟩
  · have H := Lib.hid h
    clear h
    go_enter Tryd.func30, Tryd.ntmps30
    go_wp2_with fail
    refine (weSide_any n w).mono ?_
    rintro e w1 ⟨ha, rfl⟩
    obtain rfl := ha.isnt H.out
    clear ha
    go_wp2
    go_ret2
    exact ⟨MRes.no H.out, Below.refl _ _⟩
end Go.Proofs.YtifnhlnbofkloaaDoor

namespace Go.Proofs.YtifnhlnbofkloaaDoor
open Go.RowKit

set_option maxRecDepth 100000 in
set_option maxHeartbeats 3200000 in
theorem implJointTable_any (n : Int) (w : World) (hz : -9223372036854775808 ≤ n ∧ n ≤ 9223372036854775807) (hD : Dj w) :
    Calls Tryd.prog 31 #[.int .i64 n] w fun e w' => MRes (1 ≤ n ∧ n ≤ 4) (joint n.toNat) w' w.heap.size e ∧ Below w.heap.size w w' := by
  have HD := Lib.hid hD
  have HZ := Lib.hid hz
  have C1 := Lib.hid (implInversionTable_any n w hz hD)
  clear hD hz
  go_enter Tryd.func31, Tryd.ntmps31
  go_wp2_with fail
  refine C1.out.mono ?_
  rintro e w1 ⟨⟨v, b, r, rfl, hv, hr⟩, hb⟩
  by_cases hn : 1 ≤ n ∧ n ≤ 4
  · have hr2 : b = true ∧ r = tabW fInv (allW n.toNat) := by
      rcases hr with ⟨_, h2, h3⟩ | ⟨h1, _, _⟩
      · exact ⟨h2, h3⟩
      · exact absurd hn h1
    obtain ⟨rfl, rfl⟩ := hr2
    obtain ⟨N, rfl⟩ : ∃ N : Nat, n = (N : Int) := ⟨n.toNat, by omega⟩
    rw [Int.toNat_natCast] at hv
    have hN1 : 1 ≤ N := by omega
    have hN4 : N ≤ 4 := by omega
    obtain ⟨va, vc, hvv, _, _, _⟩ := hv.read
    have HJ := Lib.hid (j_ok N (by omega))
    obtain ⟨hs1, hs2, hs3, hs4⟩ := (j_size N (by omega)).resolve_left (by omega)
    have HR := Lib.hid (show (tabW fInv (allW N)).length = jR N from rfl)
    have HC := Lib.hid (show (tabW fMin (allW N)).length = jC N from rfl)
    rw [HR.out] at hvv
    subst hvv
    have C2 := Lib.hid (implMinusTable_any (N : Int) w1 HZ.out (HD.out.next hb))
    rw [Int.toNat_natCast] at C2
    have Hb := Lib.hid hb
    have HB := Lib.hid hb.size
    clear hv hr hb C1 hs1 hn
    go_wp2_with fail
    refine C2.out.mono ?_
    rintro e w2 ⟨⟨v2, b2, r2, rfl, hv2, hr2⟩, hb2⟩
    have hr3 : b2 = true ∧ r2 = tabW fMin (allW N) := by
      rcases hr2 with ⟨_, h2, h3⟩ | ⟨h1, _, _⟩
      · exact ⟨h2, h3⟩
      · exact absurd ⟨by omega, by omega⟩ h1
    obtain ⟨rfl, rfl⟩ := hr3
    obtain ⟨ua, uc, huu, _, _, _⟩ := hv2.read
    rw [HC.out] at huu
    subst huu
    have Hb2 := Lib.hid (Hb.out.trans (hb2.mono HB.out))
    have HB2 := Lib.hid Hb2.out.size
    obtain ⟨R, hR⟩ : ∃ R, R = jR N := ⟨_, rfl⟩
    obtain ⟨C, hC⟩ : ∃ C, C = jC N := ⟨_, rfl⟩
    have Hjt := Lib.hid (show joint N = tab R C (jF (allW N) (allW N).length) by rw [hR, hC]; rfl)
    rw [← hR] at hs2 HJ ⊢
    rw [← hC] at hs3 hs4 HJ ⊢
    clear hv2 hr2 hb2 C2 hR hC HR HC Hb HB
    go_wp2_with fail
    refine (newTable_any R C w2 (by omega) (by omega)).mono ?_
    rintro e w3 ⟨vs, rfl, hv3, hb3⟩
    obtain ⟨G, hG⟩ : ∃ G, G = w2.heap.size := ⟨_, rfl⟩
    rw [← hG] at hv3 ⊢
    have Hr0 := Lib.hid (show ∀ i, i < R → ∀ g, (vs.getD i undef).ownBlock = some g → g < w3.heap.size from fun i hi g hg2 => ((hv3.rows i hi).lt g hg2).2)
    have Hv3 := Lib.hid (show OwnP w3 w.heap.size (.slice (some ⟨G, 0, none⟩) R R) R (tab R C fun _ _ => 0) R vs from hv3.base (by rw [hG]; exact HB2.out))
    have Hb3 := Lib.hid (Hb2.out.trans (hb3.mono HB2.out))
    have HB3 := Lib.hid Hb3.out.size
    have CA := Lib.hid (allSigns_any N w3 hN1 (by omega) (HD.out.next Hb3.out))
    rw [allI_eq hN1 hN4] at CA
    have hlen := allW_len N (by omega)
    have HA := Lib.hid (fun m hm => allW_ok hN1 hN4 m hm)
    obtain ⟨A, hA⟩ : ∃ A, A = allW N := ⟨_, rfl⟩
    rw [← hA] at CA hlen HA HJ Hjt
    clear hv3 hb3 hG hA Hb2 HB2
    go_wp2_with fail
    refine CA.out.mono ?_
    rintro e w4 ⟨v4, ts, rfl, hv4, hb4⟩
    obtain ⟨ta, tc, rfl, ht1, ht2⟩ := hv4.head
    have Hv4 := Lib.hid hv4
    have Ht := Lib.hid (Hv3.out.below hb4)
    have Hb4 := Lib.hid (Hb3.out.trans (hb4.mono HB3.out))
    have HB4 := Lib.hid Hb4.out.size
    have HB34 := Lib.hid hb4.size
    clear hv4 hb4 CA Hv3
    go_wp2
    go_loopw [33] (fun i wr => ∃ (t : Nat) (f : Nat → Nat → Int), t ≤ A.length ∧ i = .int .i64 t ∧ OwnP wr w.heap.size (.slice (some ⟨G, 0, none⟩) R R) R (tab R C f) R vs ∧ (∀ p k, p < R → k < C → f p k = jF A t p k) ∧ OwnRL wr w3.heap.size (.slice ta A.length tc) A ts ∧ Below w.heap.size w wr) (fun i _ => A.length - (intOf i).toNat)
    case atStart => exact ⟨0, _, Nat.zero_le _, rfl, Ht.out, fun _ _ _ _ => rfl, Hv4.out, Hb4.out⟩
    case round =>
      obtain ⟨t, f, htt, rfl, hown, heq, hlist, hbr⟩ := hrel
      have Hown := Lib.hid hown
      have Heq := Lib.hid heq
      have Hlist := Lib.hid hlist
      have Hbr := Lib.hid hbr
      have HBr := Lib.hid hbr.size
      clear hown heq hlist hbr Ht Hv4
      by_cases hlt : t < A.length
      · obtain ⟨b1, o1, r1, d1, e1, hc1, hm1, _, _⟩ := Hlist.out.at hlt
        obtain ⟨hml, hgd⟩ := HA.out _ (gt_mem hlt)
        obtain ⟨j1, j2, j3, j4⟩ := HJ.out _ (gt_mem hlt)
        have CC := Lib.hid (countsOfKinds_any r1 d1 (gt A t) wr hgd hm1)
        have q0 : cntK (gt A t) 0 = (cN (gt A t) 0 : Int) := cN_eq hgd.1.2.1 0
        have q5 : cntK (gt A t) 5 = (cN (gt A t) 5 : Int) := cN_eq hgd.1.2.1 5
        have hbd := jF_bd A t (fInv (gt A t)) (fMin (gt A t))
        have HS := Lib.hid (fun p k => (show jF A (t + 1) p k = if p = fInv (gt A t) ∧ k = fMin (gt A t) then jF A t (fInv (gt A t)) (fMin (gt A t)) + 1 else jF A t p k from jF_step A t p k))
        have hfv := Heq.out _ _ j1 j2
        rw [hml] at hc1 CC
        subst e1
        obtain ⟨M, hM⟩ : ∃ M, M = gt A t := ⟨_, rfl⟩
        rw [← hM] at j1 j2 j3 j4 CC q0 q5 hbd HS hfv
        obtain ⟨p, hp⟩ : ∃ p, p = fInv M := ⟨_, rfl⟩
        obtain ⟨k, hk⟩ : ∃ k, k = fMin M := ⟨_, rfl⟩
        obtain ⟨c0, hc0⟩ : ∃ c0, c0 = cN M 0 := ⟨_, rfl⟩
        rw [← hk] at j3
        rw [j3] at q5 j4
        rw [← hp, ← hc0] at j4
        rw [← hc0] at q0
        rw [← hp] at j1 hbd HS hfv
        rw [← hk] at j2 hbd HS hfv
        have hsum : (c0 : Int) + (k : Int) = (p : Int) := by omega
        have hpb : p ≤ 100 := by omega
        obtain ⟨y, hy⟩ : ∃ y, y = jF A t p k := ⟨_, rfl⟩
        rw [← hy] at hbd HS hfv
        have Hfv := Lib.hid hfv
        have HQ := Lib.hid (And.intro q0 q5)
        clear hm1 hgd hml hM hp hk hc0 q0 q5 j3 j4 hfv hy
        go_wp2_with fail
        refine CC.out.mono ?_
        rintro e w5 ⟨rfl, hb5⟩
        have Hown5 := Lib.hid (Hown.out.below hb5)
        have Hlist5 := Lib.hid (Hlist.out.below hb5)
        have Hb5 := Lib.hid (Hbr.out.trans (hb5.mono HBr.out))
        have HB5 := Lib.hid Hb5.out.size
        clear hb5 CC Hown Hlist hc1
        go_upto_region 10 with (first | (refine wpList_allocT rfl 65 rfl _ _ Tryd.info_kc ?_) | (refine wpList_storeT rfl 65 _ _ rfl _ (kc fun _ => 0) _ rfl rfl rfl (Tryd.size_kc _) (kc_same _ _) (kc_one _) ?_))
        have hbA : Below w5.heap.size w5 (w5.alloc (.cells (kc fun q => cntK M q) 65)) := (Below.refl _ _).alloc (Nat.le_refl _) _
        have hK := KcAt.new w5 (fun q => cntK M q)
        have hown6 := Hown5.out.below hbA
        have Hlist6 := Lib.hid (Hlist5.out.below hbA)
        have Hb6 := Lib.hid (Hb5.out.trans (hbA.mono HB5.out))
        obtain ⟨g6, hg6⟩ : ∃ g6, g6 = w5.heap.size := ⟨_, rfl⟩
        rw [← hg6] at hK ⊢
        generalize hW6 : w5.alloc (.cells (kc fun q => cntK M q) 65) = w6 at hbA hK hown6 Hlist6 Hb6 ⊢
        have k0 := hK.cell (k := 0) (by omega)
        have k5 := hK.cell (k := 5) (by omega)
        rw [show cntK M ((0 : Nat) : Int) = cntK M 0 from rfl, HQ.out.1] at k0
        rw [show cntK M ((5 : Nat) : Int) = cntK M 5 from rfl, HQ.out.2] at k5
        have hd := hown6.cellAt p j1
        obtain ⟨g, cap, hvs, hd2, hf2, hg, hst⟩ := hown6.at2 j1 j2
        rw [hvs] at hd
        rw [Hfv.out] at hd2
        have Hst := Lib.hid (hst (y + 1))
        have Hlst := Lib.hid (show OwnRL (w6.setCell ⟨g, k, none⟩ (.int .i64 (y + 1))) w3.heap.size (.slice (some ⟨b1, o1, none⟩) A.length tc) A ts from by
          have hgl : g < w3.heap.size := by
            have h := (Hr0.out p j1)
            rw [hvs] at h
            exact h g rfl
          exact ⟨Go.ownsRow_setCell_other (a := ⟨g, k, none⟩) Hlist6.out.top (fun e => by have := (World.ownsRow.lt Hlist6.out.top g e).1; omega) _, fun i hi => by
            obtain ⟨us, hu⟩ := Hlist6.out.each i hi
            exact ⟨us, ⟨Go.ownsRow_setCell_other (a := ⟨g, k, none⟩) hu.top (fun e => by have := (World.ownsRow.lt hu.top g e).1; omega) _, fun j hj => Go.ownsRow_setCell_other (a := ⟨g, k, none⟩) (hu.rows j hj) (fun e => by have := (OwnI.lt (hu.rows j hj) g e).1; omega) _⟩⟩⟩)
        have Hbs := Lib.hid (Hb6.out.setCell (p := ⟨g, k, none⟩) hg (.int .i64 (y + 1)))
        clear hbA hK hown6 hg6 hW6 hst hvs hg
        go_wp2
        go_roundw
        case rel =>
          refine ⟨t + 1, _, by omega, by go_num, Hst.out, fun a b ha hb => ?_, Hlst.out, Hbs.out⟩
          rw [HS.out]
          by_cases e : a = p ∧ b = k
          · rw [if_pos e, if_pos e]
          · rw [if_neg e, if_neg e]; exact Heq.out a b ha hb
        case measure => simp [intOf]; omega
      · obtain rfl : t = A.length := by omega
        have hfin : OwnM wr w.heap.size (.slice (some ⟨G, 0, none⟩) R R) (joint N) := by
          have e : joint N = tab R C f := by
            rw [Hjt.out]
            exact eq_tab (tab_len _ _ _) (fun i hi => tab_row hi) (fun i j hi hj => by rw [gi_tab hi hj, ← Heq.out i j hi hj])
          exact ⟨vs, by rw [e, tab_len]; exact Hown.out⟩
        have Hfin := Lib.hid hfin
        clear hfin
        go_wp2
        go_ret2
        exact ⟨MRes.yes ⟨by omega, by omega⟩ (by rw [Int.toNat_natCast]; exact Hfin.out), Hbr.out⟩
  · have hr2 : b = false ∧ r = [] := by
      rcases hr with ⟨h1, _, _⟩ | ⟨_, h2, h3⟩
      · exact absurd h1 hn
      · exact ⟨h2, h3⟩
    obtain ⟨rfl, rfl⟩ := hr2
    obtain ⟨va, vc, hvv, _, _, _⟩ := hv.read
    subst hvv
    have Hn := Lib.hid hn
    have Hb := Lib.hid hb
    clear hv hr hb hn C1
    go_wp2
    go_ret2
    exact ⟨MRes.no Hn.out, Hb.out⟩
end Go.Proofs.YtifnhlnbofkloaaDoor

