/- Parts of proofs: contracts and plain facts. Conditions: as each says. -/
import Derived.Test.YtifnhlnbofkloaaDoorK16
import Derived.StillTailTactics
import Derived.Maps.AppendAt
namespace Go.Proofs.YtifnhlnbofkloaaDoor
open Go.RowKit

set_option maxRecDepth 100000 in
set_option maxHeartbeats 800000 in
theorem wePower_any (x : Int) (k : Nat) (w : World) (hk : k ≤ 1000) (hb : ∀ j, j ≤ k → 0 ≤ pw x j ∧ pw x j ≤ 4000000000000000000) :
    Calls Tryd.prog 72 #[.int .i64 x, .int .i64 (k : Int)] w fun e w' => e = .returned (.int .i64 (pw x k)) ∧ w' = w := by
  have Hb := Lib.hid hb
  clear hb
  go_enter Tryd.func72, Tryd.ntmps72
  go_wp2
  go_loop [1, 5] (fun i p => ∃ t : Nat, t ≤ k ∧ i = .int .i64 ((k : Int) - (t : Int)) ∧ p = .int .i64 (pw x t)) (fun i _ => (intOf i).toNat)
  case atStart => exact ⟨0, Nat.zero_le _, by simp, rfl⟩
  case round =>
    obtain ⟨t, ht, rfl, rfl⟩ := hrel
    obtain ⟨r, hr⟩ : ∃ r : Nat, (k : Int) - (t : Int) = (r : Int) := ⟨k - t, by omega⟩
    by_cases hlt : t < k
    · have h1 := Hb.out t (by omega)
      have h2 := Hb.out (t + 1) (by omega)
      have S := Lib.hid (pw_succ x t)
      rw [S.out] at h2
      obtain ⟨p, hp⟩ : ∃ p, p = pw x t := ⟨_, rfl⟩
      rw [← hp] at h1 h2 S ⊢
      obtain ⟨q, hq⟩ : ∃ q, q = p * x := ⟨_, rfl⟩
      have hw : IntKind.i64.wrap (p * x) = q := by rw [← hq]; exact w64 (by omega)
      rw [← hq] at S h2
      rw [hr]
      have hr0 : (0 : Int) < (r : Int) := by omega
      have hd : decide ((0 : Int) < (r : Int)) = true := by simpa using hr0
      have hrb : r ≤ 1000 := by omega
      have Hr := Lib.hid hr
      clear hp hq hr hlt ht
      go_wp2
      go_round
      case rel => exact ⟨t + 1, by have := Hr.out; omega, by congr 1; have := Hr.out; omega, by rw [S.out]⟩
      case measure => simp [intOf]; omega
    · obtain rfl : t = k := by omega
      have hr0 : r = 0 := by omega
      subst hr0
      rw [hr]
      have hd : decide ((0 : Int) < ((0 : Nat) : Int)) = false := by simp
      go_wp2
      go_ret
      exact ⟨rfl, rfl⟩

set_option maxRecDepth 100000 in
set_option maxHeartbeats 800000 in
theorem weWeights_any (ao : Option Addr) (c : Nat) (xs : List Int) (w : World) (hn : xs.length ≤ 1048576) (hx : IntsAt w ao xs) :
    Calls Tryd.prog 66 #[.slice ao xs.length c] w fun e w' => Ans (allIn xs 0 5) e ∧ w = w' := by
  have Hx := Lib.hid hx
  clear hx
  go_enter Tryd.func66, Tryd.ntmps66
  go_wp2_with fail
  refine (l1All_any ao c xs 0 5 w hn Hx.out).mono ?_
  rintro e w2 ⟨⟨b, rfl, hb⟩, rfl⟩
  have Hb := Lib.hid hb
  clear hb
  go_wp2
  go_ret
  exact ⟨⟨b, rfl, Hb.out⟩, rfl⟩

set_option maxRecDepth 100000 in
set_option maxHeartbeats 3200000 in
theorem weWeight_any (ao : Option Addr) (cp : Nat) (m : List (List Int)) (a b c : Int) (w : World) (hg : good m) (h4 : m.length ≤ 4) (hf : isFac a b c) (hm : MatAt w ao m) :
    Calls Tryd.prog 67 #[.slice ao m.length cp, .int .i64 a, .int .i64 b, .int .i64 c] w fun e w' => e = .returned (.int .i64 (wVal m a b c)) ∧ Below w.heap.size w w' := by
  have Hg := Lib.hid hg
  have Hm := Lib.hid hm
  have hn := hg.1.2.1
  have hmx : m.length ≤ 9223372036854775807 := by omega
  obtain ⟨h1, h2, h3⟩ := hf
  have htot := sumC_cN hg h4
  simp only [sumC] at htot
  have p1 := pw_small (x := a) (by omega) (k := cN m 0 + cN m 3) (by omega)
  have p2 := pw_small (x := b) (by omega) (k := cN m 1 + cN m 2) (by omega)
  have p3 := pw_small (x := c) (by omega) (k := cN m 5) (by omega)
  have hpair := prodW_small (wt := wtP a b c) (c := cN m) (wtP_le ⟨h1, h2, h3⟩) (sumC_cN hg h4) (k := 6) (by omega)
  rw [prodW_pairs] at hpair
  have hpair2 : 0 ≤ pw a (cN m 0 + cN m 3) * pw b (cN m 1 + cN m 2) ∧ pw a (cN m 0 + cN m 3) * pw b (cN m 1 + cN m 2) ≤ 10000000000000000 := by
    have q1 := pw_le (x := a) (by omega) (cN m 0 + cN m 3)
    have q2 := pw_le (x := b) (by omega) (cN m 1 + cN m 2)
    have q3 : pw a (cN m 0 + cN m 3) * pw b (cN m 1 + cN m 2) ≤ pw 10 (cN m 0 + cN m 3) * pw 10 (cN m 1 + cN m 2) := Int.mul_le_mul q1.2 q2.2 q2.1 (Int.le_trans q1.1 q1.2)
    rw [← pw_add] at q3
    have q4 := pw_ten (show cN m 0 + cN m 3 + (cN m 1 + cN m 2) ≤ 16 by omega)
    rw [pw_16] at q4
    exact ⟨Int.mul_nonneg q1.1 q2.1, by omega⟩
  have C1 := Lib.hid (fun w => wePower_any a (cN m 0 + cN m 3) w (by omega) (fun j hj => by have := pw_small (x := a) (by omega) (k := j) (by omega); omega))
  have C2 := Lib.hid (fun w => wePower_any b (cN m 1 + cN m 2) w (by omega) (fun j hj => by have := pw_small (x := b) (by omega) (k := j) (by omega); omega))
  have C3 := Lib.hid (fun w => wePower_any c (cN m 5) w (by omega) (fun j hj => by have := pw_small (x := c) (by omega) (k := j) (by omega); omega))
  have e0 : cntK m 0 = (cN m 0 : Int) := cN_eq hn 0
  have e1 : cntK m 1 = (cN m 1 : Int) := cN_eq hn 1
  have e2 : cntK m 2 = (cN m 2 : Int) := cN_eq hn 2
  have e3 : cntK m 3 = (cN m 3 : Int) := cN_eq hn 3
  have e5 : cntK m 5 = (cN m 5 : Int) := cN_eq hn 5
  have HE := Lib.hid (And.intro e0 (And.intro e1 (And.intro e2 (And.intro e3 e5))))
  have HV := Lib.hid (show wVal m a b c = pw a (cN m 0 + cN m 3) * pw b (cN m 1 + cN m 2) * pw c (cN m 5) from rfl)
  rw [HV.out] at hpair
  obtain ⟨x1, hx1⟩ : ∃ x, x = pw a (cN m 0 + cN m 3) := ⟨_, rfl⟩
  obtain ⟨x2, hx2⟩ : ∃ x, x = pw b (cN m 1 + cN m 2) := ⟨_, rfl⟩
  obtain ⟨x3, hx3⟩ : ∃ x, x = pw c (cN m 5) := ⟨_, rfl⟩
  rw [← hx1, ← hx2] at hpair2
  rw [← hx1, ← hx2, ← hx3] at hpair HV
  rw [← hx1] at C1
  rw [← hx2] at C2
  rw [← hx3] at C3
  obtain ⟨y, hy⟩ : ∃ y, y = x1 * x2 := ⟨_, rfl⟩
  obtain ⟨z, hz⟩ : ∃ z, z = y * x3 := ⟨_, rfl⟩
  rw [← hy] at hpair2
  rw [← hy, ← hz] at hpair HV
  have w1 : IntKind.i64.wrap (x1 * x2) = y := by rw [← hy]; exact w64 (by omega)
  have w2' : IntKind.i64.wrap (y * x3) = z := by rw [← hz]; exact w64 (by omega)
  obtain ⟨n0, hn0⟩ : ∃ n, n = cN m 0 := ⟨_, rfl⟩
  obtain ⟨n1, hn1⟩ : ∃ n, n = cN m 1 := ⟨_, rfl⟩
  obtain ⟨n2, hn2⟩ : ∃ n, n = cN m 2 := ⟨_, rfl⟩
  obtain ⟨n3, hn3⟩ : ∃ n, n = cN m 3 := ⟨_, rfl⟩
  obtain ⟨n5, hn5⟩ : ∃ n, n = cN m 5 := ⟨_, rfl⟩
  obtain ⟨n4, hn4⟩ : ∃ n, n = cN m 4 := ⟨_, rfl⟩
  rw [← hn0, ← hn3] at C1
  rw [← hn1, ← hn2] at C2
  rw [← hn5] at C3
  rw [← hn0, ← hn1, ← hn2, ← hn3, ← hn5] at HE
  rw [← hn0, ← hn1, ← hn2, ← hn3, ← hn4, ← hn5] at htot
  have k1 : IntKind.i64.wrap ((n0 : Int) + (n3 : Int)) = ((n0 + n3 : Nat) : Int) := by rw [w64 (by omega)]; omega
  have k2 : IntKind.i64.wrap ((n1 : Int) + (n2 : Int)) = ((n1 + n2 : Nat) : Int) := by rw [w64 (by omega)]; omega
  obtain ⟨s1, hs1⟩ : ∃ s, s = n0 + n3 := ⟨_, rfl⟩
  obtain ⟨s2, hs2⟩ : ∃ s, s = n1 + n2 := ⟨_, rfl⟩
  rw [← hs1] at k1 C1
  rw [← hs2] at k2 C2
  clear hg hm p1 p2 p3 hpair hpair2 htot e0 e1 e2 e3 e5 hx1 hx2 hx3 hy hz hn0 hn1 hn2 hn3 hn4 hn5 hs1 hs2 h1 h2 h3 h4
  go_enter Tryd.func67, Tryd.ntmps67
  go_wp2_with fail
  refine (weCounts_any ao cp m w Hg.out Hm.out).mono ?_
  rintro e w2 ⟨v, rfl, hv, hb⟩
  have hvl : ∃ g cc, v = .slice (some ⟨g, 0, none⟩) 6 cc := by
    obtain ⟨va, vc, e, _, _, _⟩ := hv.read
    rw [cntL_len] at e
    subst e
    obtain ⟨g, rfl, _⟩ := hv.isAt (by omega)
    exact ⟨g, vc, rfl⟩
  obtain ⟨g, cc, rfl⟩ := hvl
  have c0 := hv.cellAt 0 (by omega)
  have c1 := hv.cellAt 1 (by omega)
  have c2 := hv.cellAt 2 (by omega)
  have c3 := hv.cellAt 3 (by omega)
  have c5 := hv.cellAt 5 (by omega)
  obtain ⟨e0, e1, e2, e3, e5⟩ := HE.out
  rw [show gi (cntL (cntK m)) 0 = cntK m 0 from rfl, e0] at c0
  rw [show gi (cntL (cntK m)) 1 = cntK m 1 from rfl, e1] at c1
  rw [show gi (cntL (cntK m)) 2 = cntK m 2 from rfl, e2] at c2
  rw [show gi (cntL (cntK m)) 3 = cntK m 3 from rfl, e3] at c3
  rw [show gi (cntL (cntK m)) 5 = cntK m 5 from rfl, e5] at c5
  have Hb := Lib.hid hb
  clear hv hb e0 e1 e2 e3 e5 HE
  go_upto_region 2 with (fail)
  refine wp_region_still_lit (by kernel_rfl) (by kernel_rfl) ?_
  have d0 := cellD c0
  have d1 := cellD c1
  have d2 := cellD c2
  have d3 := cellD c3
  have d5 := cellD c5
  repeat still_step
  still_call (C1.out _)
  repeat still_step
  still_call (C2.out _)
  repeat still_step
  still_call (C3.out _)
  repeat still_step
  refine wpStill_nil ?_
  go_wp2
  go_ret
  exact ⟨by rw [HV.out]; rfl, Hb.out.trans (below_drewN (Below.refl _ _) 1)⟩
end Go.Proofs.YtifnhlnbofkloaaDoor

namespace Go.Proofs.YtifnhlnbofkloaaDoor
open Go.RowKit

/-- rows of columns -/
def colsOk (t : List (List Int)) : Prop := 1 ≤ t.length ∧ t.length ≤ 6 ∧ ∀ i, i < t.length → (gr t i).length ≤ 6 ∧ ∀ k, k < (gr t i).length → 0 ≤ gi (gr t i) k ∧ gi (gr t i) k < t.length
theorem fullTri.cols {t : List (List Int)} (h : fullTri t) : colsOk t := ⟨h.1.1, h.1.2.1, fun i hi => ⟨by have := (h.1.2.2 i hi).1; have := h.1.2.1; omega, fun k hk => full_lt h hi hk⟩⟩

/-- the numbers behind k rows -/
def soF (t : List (List Int)) (k a b : Nat) : Int := (if a < k then occ (gr t a) b (gr t a).length else 0) - (if 0 < a ∧ a ≤ k then occ (gr t (a - 1)) b (gr t (a - 1)).length else 0)
theorem soF_zero (t : List (List Int)) (a b : Nat) : soF t 0 a b = 0 := by
  unfold soF
  rw [if_neg (by omega), if_neg (by omega)]
  rfl
theorem soF_full {t : List (List Int)} {a : Nat} (b : Nat) (ha : a < t.length) : soF t t.length a b = signAt t a b := by
  unfold soF signAt
  rw [if_pos ha]
  by_cases h : 0 < a
  · rw [if_pos ⟨h, by omega⟩, if_pos h]
  · rw [if_neg (by omega), if_neg h]
def soG (t : List (List Int)) (k u a b : Nat) : Int := soF t k a b + (if a = k then occ (gr t k) b u else 0) - (if a = k + 1 then occ (gr t k) b u else 0)
theorem soG_zero (t : List (List Int)) (k a b : Nat) : soG t k 0 a b = soF t k a b := by unfold soG; simp [occ]
theorem soG_full (t : List (List Int)) (k a b : Nat) : soG t k (gr t k).length a b = soF t (k + 1) a b := by
  unfold soG soF
  by_cases h1 : a = k
  · subst h1
    rw [if_neg (show ¬ a < a by omega), if_pos rfl, if_neg (show ¬ a = a + 1 by omega), if_pos (show a < a + 1 by omega)]
    by_cases h0 : 0 < a
    · rw [if_pos ⟨h0, by omega⟩, if_pos ⟨h0, by omega⟩]; omega
    · rw [if_neg (by omega), if_neg (by omega)]; omega
  · rw [if_neg h1]
    by_cases h2 : a = k + 1
    · subst h2
      rw [if_neg (by omega), if_neg (by omega), if_pos rfl, if_neg (by omega), if_pos (by omega)]
      rw [show k + 1 - 1 = k from rfl]
      omega
    · rw [if_neg h2]
      have e1 : (a < k + 1) = (a < k) := propext (by omega)
      have e2 : (0 < a ∧ a ≤ k + 1) = (0 < a ∧ a ≤ k) := propext (by omega)
      simp only [e1, e2]
      omega
theorem soG_bd {t : List (List Int)} (h : colsOk t) {k u a b : Nat} (hk : k < t.length) (hu : u ≤ (gr t k).length) (ha : a < t.length) : -100 ≤ soG t k u a b ∧ soG t k u a b ≤ 100 := by
  have h1 := occ_bd (gr t a) b (gr t a).length
  have h2 := occ_bd (gr t (a - 1)) b (gr t (a - 1)).length
  have h3 := occ_bd (gr t k) b u
  have h4 := (h.2.2 a ha).1
  have h5 := (h.2.2 (a - 1) (by omega)).1
  have h6 := (h.2.2 k hk).1
  unfold soG soF
  repeat' split
  all_goals omega
theorem soG_step {t : List (List Int)} (k u a b J : Nat) (hJ : gi (gr t k) u = (J : Int)) : soG t k (u + 1) a b = if a = k ∧ b = J then soG t k u a b + 1 else if a = k + 1 ∧ b = J then soG t k u a b - 1 else soG t k u a b := by
  unfold soG
  simp only [occ, hJ]
  by_cases hb : b = J
  · subst hb
    simp only [if_true, and_true]
    by_cases h1 : a = k
    · subst h1; simp; omega
    · by_cases h2 : a = k + 1
      · subst h2; simp; omega
      · simp [h1, h2]
  · have hb2 : ¬ ((J : Int) = (b : Int)) := fun e => hb (by omega)
    simp [hb, hb2]

def fromTab (t : List (List Int)) : List (List Int) := tab t.length t.length (signAt t)
theorem fromTab_len (t : List (List Int)) : (fromTab t).length = t.length := tab_len _ _ _
theorem fromTab_small {t : List (List Int)} (h : t.length ≤ 6) : Small (fromTab t) := ⟨by rw [fromTab_len]; omega, fun i hi => by rw [fromTab_len] at hi; unfold fromTab; rw [tab_row hi]; omega⟩

set_option maxRecDepth 100000 in
set_option maxHeartbeats 1600000 in
theorem signsOf_any (ao : Option Addr) (c : Nat) (m : List (List Int)) (w : World) (hco : colsOk m) (hm : MatAt w ao m) :
    Calls Tryd.prog 109 #[.slice ao m.length c] w fun e w' => ∃ v, e = .returned v ∧ OwnM w' w.heap.size v (fromTab m) ∧ Below w.heap.size w w' := by
  have hn := hco.2.1
  have hmx : m.length ≤ 9223372036854775807 := by omega
  have Hco := Lib.hid hco
  have Hm := Lib.hid hm
  clear hco hm
  go_enter Tryd.func109, Tryd.ntmps109
  go_wp2_with fail
  refine (newGrid_any m.length w (by omega)).mono ?_
  rintro e w1 ⟨vs, rfl, hv, hb⟩
  have Hv := Lib.hid hv
  have Hb := Lib.hid hb
  clear hv hb
  go_wp2
  go_loopw [13] (fun i wr => ∃ (k : Nat) (f : Nat → Nat → Int), k ≤ m.length ∧ i = .int .i64 k ∧ OwnP wr w.heap.size (.slice (some ⟨w.heap.size, 0, none⟩) m.length m.length) m.length (tab m.length m.length f) m.length vs ∧
      (∀ a b, a < m.length → b < m.length → f a b = soF m k a b) ∧ Below w.heap.size w wr) (fun i _ => m.length - (intOf i).toNat)
  case atStart => exact ⟨0, _, Nat.zero_le _, rfl, Hv.out, fun a b _ _ => (soF_zero m a b).symm, Hb.out⟩
  case round =>
    obtain ⟨k, f, hk, rfl, hown, heq, hbr⟩ := hrel
    obtain ⟨wo, rfl⟩ : ∃ wo : World, wo = wr := ⟨_, rfl⟩
    clear Hv Hb
    by_cases hlt : k < m.length
    · obtain ⟨b1, o1, r1, d1, e0, hc0, hx1, _, _⟩ := Hm.out k hlt
      have hr6 := (Hco.out.2.2 k hlt).1
      have hrx : (gr m k).length ≤ 9223372036854775807 := by omega
      have hc1 := cell_below hc0 hbr
      subst e0
      have Hrow := Lib.hid hx1
      have Hown := Lib.hid hown
      have Heq := Lib.hid heq
      have Hbr := Lib.hid hbr
      clear hown heq hbr hx1 hc0
      go_wp2
      go_loopw [20] (fun i wr => ∃ (u : Nat) (f : Nat → Nat → Int), u ≤ (gr m k).length ∧ i = .int .i64 u ∧ OwnP wr w.heap.size (.slice (some ⟨w.heap.size, 0, none⟩) m.length m.length) m.length (tab m.length m.length f) m.length vs ∧
          (∀ a b, a < m.length → b < m.length → f a b = soG m k u a b) ∧ Below w.heap.size w wr) (fun i _ => (gr m k).length - (intOf i).toNat)
      case atStart => exact ⟨0, f, Nat.zero_le _, rfl, Hown.out, fun a b ha hb => by rw [Heq.out a b ha hb, soG_zero], Hbr.out⟩
      case round =>
        obtain ⟨u, f, hu, rfl, hown, heq, hbi⟩ := hrel
        clear Hown Heq
        by_cases hul : u < (gr m k).length
        · obtain ⟨b2, o2, e2, hc2⟩ := Hrow.out.below hbi u hul
          have hcol := (Hco.out.2.2 k hlt).2 u hul
          obtain ⟨J, hJ⟩ : ∃ J : Nat, gi (gr m k) u = (J : Int) := ⟨(gi (gr m k) u).toNat, by omega⟩
          rw [hJ] at hc2 hcol
          have hJn : J < m.length := by omega
          have HJ := Lib.hid hJ
          clear hcol hJ
          have hd := hown.cellAt k hlt
          obtain ⟨g, cap, hvs, hd2, hf2, hg, hst⟩ := hown.at2 hlt hJn
          rw [hvs] at hd
          have hfb := soG_bd Hco.out (b := J) hlt hu hlt
          rw [← heq k J hlt hJn] at hfb
          have hst1 := hst (f k J + 1)
          have hbs := hbi.setCell (p := ⟨g, J, none⟩) hg (.int .i64 (f k J + 1))
          by_cases hk1 : k + 1 < m.length
          · have hd' := hst1.cellAt (k + 1) hk1
            obtain ⟨g', cap', hvs', hd2', hf2', hg', hst'⟩ := hst1.at2 hk1 hJn
            rw [hvs'] at hd'
            rw [if_neg (by omega)] at hd2'
            have hfb' := soG_bd Hco.out (b := J) hlt hu hk1
            rw [← heq (k + 1) J hk1 hJn] at hfb'
            have Hst := Lib.hid (hst' (f (k + 1) J - 1))
            have Hbs := Lib.hid (hbs.setCell (p := ⟨g', J, none⟩) hg' (.int .i64 (f (k + 1) J - 1)))
            have Heq := Lib.hid heq
            subst e2
            clear hown heq hbi hvs hst hg hst1 hbs hvs' hst' hg'
            go_wp2
            go_roundw
            case rel =>
              refine ⟨u + 1, _, by omega, by go_num, Hst.out, fun a b ha hb => ?_, Hbs.out⟩
              rw [soG_step k u a b J HJ.out]
              by_cases h2 : a = k + 1 ∧ b = J
              · obtain ⟨rfl, rfl⟩ := h2
                rw [if_pos ⟨rfl, rfl⟩, if_neg (by omega), if_pos ⟨rfl, rfl⟩, Heq.out _ _ ha hb]
              · rw [if_neg h2]
                by_cases h1 : a = k ∧ b = J
                · obtain ⟨rfl, rfl⟩ := h1
                  rw [if_pos ⟨rfl, rfl⟩, if_pos ⟨rfl, rfl⟩, Heq.out _ _ ha hb]
                · rw [if_neg h1, if_neg h1, if_neg h2, Heq.out _ _ ha hb]
            case measure => simp [intOf]; omega
          · have Hst := Lib.hid hst1
            have Hbs := Lib.hid hbs
            have Heq := Lib.hid heq
            have hk2 : ¬ ((k : Int) + 1 < (m.length : Int)) := by omega
            subst e2
            clear hown heq hbi hvs hst hg hst1 hbs
            go_wp2
            go_roundw
            case rel =>
              refine ⟨u + 1, _, by omega, by go_num, Hst.out, fun a b ha hb => ?_, Hbs.out⟩
              rw [soG_step k u a b J HJ.out]
              by_cases h1 : a = k ∧ b = J
              · obtain ⟨rfl, rfl⟩ := h1
                rw [if_pos ⟨rfl, rfl⟩, if_pos ⟨rfl, rfl⟩, Heq.out _ _ ha hb]
              · rw [if_neg h1, if_neg h1, if_neg (fun h => by omega), Heq.out _ _ ha hb]
            case measure => simp [intOf]; omega
        · obtain rfl : u = (gr m k).length := by omega
          have Hown := Lib.hid hown
          have Heq := Lib.hid heq
          have Hbi := Lib.hid hbi
          clear hown heq hbi
          go_wp2
          go_roundw
          case rel => exact ⟨k + 1, f, by omega, by go_num, Hown.out, fun a b ha hb => by rw [Heq.out a b ha hb, soG_full], Hbi.out⟩
          case measure => simp [intOf]; omega
    · obtain rfl : k = m.length := by omega
      go_wp2
      go_ret
      refine ⟨_, rfl, ⟨vs, ?_⟩, hbr⟩
      rw [fromTab_len]
      have e : fromTab m = tab m.length m.length f := eq_tab (fromTab_len m) (fun i hi => tab_row hi) (fun i j hi hj => by unfold fromTab; rw [gi_tab hi hj, heq i j hi hj, soF_full j hi])
      rw [e]
      exact hown

/-- the model's numbers behind k rows, and within one -/
def tfF (t : List (List Int)) (k a b : Nat) : Int := if a < k then signAt t a b else 0
def tfG (t : List (List Int)) (k u a b : Nat) : Int := if a = k then occ (gr t k) b u else tfF t k a b
def tfH (t : List (List Int)) (k u a b : Nat) : Int := if a = k then occ (gr t k) b (gr t k).length - occ (gr t (k - 1)) b u else tfF t k a b
theorem tfG_zero (t : List (List Int)) (k a b : Nat) : tfG t k 0 a b = tfF t k a b := by
  unfold tfG tfF
  split
  · next h => subst h; rw [if_neg (by omega)]; rfl
  · rfl
theorem tfH_zero (t : List (List Int)) (k a b : Nat) : tfH t k 0 a b = tfG t k (gr t k).length a b := by
  unfold tfG tfH
  split
  · simp [occ]
  · rfl
theorem tfH_full (t : List (List Int)) {k : Nat} (a b : Nat) (hk : 0 < k) : tfH t k (gr t (k - 1)).length a b = tfF t (k + 1) a b := by
  unfold tfH tfF signAt
  by_cases h : a = k
  · subst h; rw [if_pos rfl, if_pos (by omega), if_pos hk]
  · rw [if_neg h]
    have e : (a < k + 1) = (a < k) := propext (by omega)
    simp only [e]
theorem tfG_full (t : List (List Int)) (a b : Nat) : tfG t 0 (gr t 0).length a b = tfF t 1 a b := by
  unfold tfG tfF signAt
  by_cases h : a = 0
  · subst h; simp
  · rw [if_neg h, if_neg (by omega), if_neg (by omega)]
theorem tfG_step {t : List (List Int)} (k u a b J : Nat) (hJ : gi (gr t k) u = (J : Int)) : tfG t k (u + 1) a b = if a = k ∧ b = J then tfG t k u a b + 1 else tfG t k u a b := by
  unfold tfG
  simp only [occ, hJ]
  by_cases hb : b = J
  · subst hb; by_cases h1 : a = k <;> simp [h1]
  · have hb2 : ¬ ((J : Int) = (b : Int)) := fun e => hb (by omega)
    simp [hb, hb2]
theorem tfH_step {t : List (List Int)} (k u a b J : Nat) (hJ : gi (gr t (k - 1)) u = (J : Int)) : tfH t k (u + 1) a b = if a = k ∧ b = J then tfH t k u a b - 1 else tfH t k u a b := by
  unfold tfH
  simp only [occ, hJ]
  by_cases hb : b = J
  · subst hb
    by_cases h1 : a = k
    · simp [h1]; omega
    · simp [h1]
  · have hb2 : ¬ ((J : Int) = (b : Int)) := fun e => hb (by omega)
    simp [hb, hb2]
theorem tf_bd {t : List (List Int)} (h : colsOk t) {k u b : Nat} (hk : k < t.length) (hu : u ≤ 6) : (-100 ≤ tfG t k u k b ∧ tfG t k u k b ≤ 100) ∧ -100 ≤ tfH t k u k b ∧ tfH t k u k b ≤ 100 := by
  have h1 := occ_bd (gr t k) b (gr t k).length
  have h2 := occ_bd (gr t (k - 1)) b u
  have h3 := occ_bd (gr t k) b u
  have h4 := (h.2.2 k hk).1
  unfold tfG tfH
  simp only [if_true]
  omega

end Go.Proofs.YtifnhlnbofkloaaDoor

namespace Go.Proofs.YtifnhlnbofkloaaDoor
open Go.RowKit

/-- all triangles whose last row is xs, of d + 1 numbers -/
def trisD : Nat → List Int → List (List (List Int))
  | 0, xs => [[xs]]
  | d + 1, xs => (above xs).flatMap fun ys => (trisD d ys).map fun t => t ++ [xs]
def trisP (d : Nat) (xs : List Int) (k : Nat) : List (List (List Int)) := ((above xs).take k).flatMap fun ys => (trisD d ys).map fun t => t ++ [xs]
def trisQ (d : Nat) (xs : List Int) (k t : Nat) : List (List (List Int)) := trisP d xs k ++ ((trisD d (gr (above xs) k)).take t).map fun t => t ++ [xs]
theorem trisP_zero (d : Nat) (xs : List Int) : trisP d xs 0 = [] := by simp [trisP]
theorem trisQ_zero (d : Nat) (xs : List Int) (k : Nat) : trisQ d xs k 0 = trisP d xs k := by simp [trisQ]
theorem trisQ_step {d : Nat} {xs : List Int} {k t : Nat} (h : t < (trisD d (gr (above xs) k)).length) : trisQ d xs k (t + 1) = trisQ d xs k t ++ [gt (trisD d (gr (above xs) k)) t ++ [xs]] := by
  unfold trisQ
  rw [List.take_add_one, List.map_append, List.getElem?_eq_getElem h, gt_lt h]
  simp
theorem trisQ_end {d : Nat} {xs : List Int} {k : Nat} (h : k < (above xs).length) : trisQ d xs k (trisD d (gr (above xs) k)).length = trisP d xs (k + 1) := by
  unfold trisQ trisP
  rw [List.take_length, List.take_add_one (i := k), List.flatMap_append, List.getElem?_eq_getElem h, gr_lt h]
  simp
theorem trisP_end (d : Nat) (xs : List Int) : trisP d xs (above xs).length = trisD (d + 1) xs := by
  unfold trisP
  rw [List.take_length]
  rfl
def trB : Nat → Nat
  | 0 => 1
  | d + 1 => 16 ^ (d + 1) * trB d
theorem trisD_le : ∀ (d : Nat) (xs : List Int), Rise xs → xs.length = d + 1 → (trisD d xs).length ≤ trB d
  | 0, xs, _, _ => by simp [trisD, trB]
  | d + 1, xs, hr, hl => by
    unfold trisD
    refine Nat.le_trans (flat_len _ (trB d) _ fun ys hy => ?_) ?_
    · rw [List.length_map]
      obtain ⟨h1, h2⟩ := above_mem hr hy
      exact trisD_le d ys h1 (by omega)
    · rw [trB]
      refine Nat.mul_le_mul_right _ ?_
      have := above_len hr
      rw [hl] at this
      exact this
theorem trisQ_le {d : Nat} {xs : List Int} (hr : Rise xs) (hl : xs.length = d + 2) {k t : Nat} (hk : k < (above xs).length) : (trisQ d xs k t).length ≤ trB (d + 1) := by
  have h1 : (trisQ d xs k t).length ≤ (trisP d xs (k + 1)).length := by
    rw [← trisQ_end hk]
    unfold trisQ
    rw [List.length_append, List.length_append, List.length_map, List.length_map, List.length_take, List.take_length]
    omega
  refine Nat.le_trans h1 ?_
  have h2 : (trisP d xs (k + 1)).length ≤ ((above xs).take (k + 1)).length * trB d := flat_len _ (trB d) _ fun ys hy => by
    rw [List.length_map]
    obtain ⟨h1, h2⟩ := above_mem hr (List.mem_of_mem_take hy)
    exact trisD_le d ys h1 (by omega)
  refine Nat.le_trans h2 ?_
  rw [trB]
  refine Nat.mul_le_mul_right _ ?_
  have h3 := above_len hr
  rw [hl] at h3
  rw [List.length_take]
  exact Nat.le_trans (Nat.min_le_right _ _) h3
theorem trB_le : ∀ d, d < 5 → trB d ≤ 1099511627776 := by decide +kernel
theorem trisD_len : ∀ (d : Nat) (xs : List Int), Rise xs → xs.length = d + 1 → ∀ t, t ∈ trisD d xs → t.length = d + 1
  | 0, xs, _, _, t, h => by simp [trisD] at h; rw [h]; rfl
  | d + 1, xs, hr, hl, t, h => by
    unfold trisD at h
    rw [List.mem_flatMap] at h
    obtain ⟨ys, hy, h⟩ := h
    rw [List.mem_map] at h
    obtain ⟨t', ht', rfl⟩ := h
    obtain ⟨h1, h2⟩ := above_mem hr hy
    rw [List.length_append, trisD_len d ys h1 (by omega) t' ht']
    rfl

/-- the last row of triangles of sign matrices -/
def fullR (n : Nat) : List Int := (List.range n).map fun j : Nat => (j : Int)
theorem fullR_len (n : Nat) : (fullR n).length = n := by simp [fullR]
theorem fullR_ok : ∀ n, n < 7 → mask (fullR n) = 2 ^ n - 1 := by decide +kernel
theorem fullR_up (n : Nat) : Up (fullR n) := by
  unfold fullR
  rw [up_iff]
  intro k hk _
  rw [List.length_map, List.length_range] at hk
  have h1 : gi ((List.range n).map fun j : Nat => (j : Int)) k = (k : Int) := gi_row hk
  have h2 : gi ((List.range n).map fun j : Nat => (j : Int)) (k - 1) = ((k - 1 : Nat) : Int) := gi_row (by omega)
  rw [h1, h2]
  omega
theorem fullR_rise {n : Nat} (h : n ≤ 16) : Rise (fullR n) := ⟨fullR_up n, fun x hx => by
  simp only [fullR, List.mem_map, List.mem_range] at hx
  obtain ⟨j, hj, rfl⟩ := hx
  omega⟩
instance (t : List (List Int)) : Decidable (colsOk t) := by unfold colsOk; infer_instance
theorem tris_cols : ∀ n, n < 6 → ∀ t, t ∈ trisD (n - 1) (fullR n) → n = 0 ∨ (t.length = n ∧ colsOk t) := by decide +kernel
/-- all sign matrices with n rows, as the program makes them of triangles -/
def allI (n : Nat) : List (List (List Int)) := (trisD (n - 1) (fullR n)).map fun t => (fromTab t).reverse
theorem allI_W : ∀ n, n < 5 → n = 0 ∨ allI n = allW n := by decide +kernel
end Go.Proofs.YtifnhlnbofkloaaDoor

namespace Go.Proofs.YtifnhlnbofkloaaDoor
open Go.RowKit

/-- tables whose slices of rows lie in different blocks -/
def Tops (vs : List Value) : Prop := ∀ i j, i < j → j < vs.length → ∀ g, (vs.getD i undef).ownBlock = some g → (vs.getD j undef).ownBlock ≠ some g
/-- what grows leaves a table of another block as it was -/
theorem OwnR.keptTop {w w1 : World} {B B' n' : Nat} {x v : Value} {m : List (List Int)} {vs ys : List Value} (h : OwnR w B x m vs) (k : w.ownsRow B' 29 1 v n' ys) (hne : ∀ g, v.ownBlock = some g → x.ownBlock ≠ some g) (hg : w.grownBy w1 v.ownBlock) : OwnR w1 B x m vs :=
  ⟨World.ownsRow.kept h.top hg (by
    cases hb : x.ownBlock with
    | none => exact .inl rfl
    | some g => exact .inr (fun e => hne g e.symm hb)), fun i hi => row_kept (h.rows i hi) k (by decide) hg⟩
theorem OwnR.lt {w : World} {B : Nat} {v : Value} {m : List (List Int)} {vs : List Value} (h : OwnR w B v m vs) : ∀ g, v.ownBlock = some g → B ≤ g ∧ g < w.heap.size := World.ownsRow.lt h.top

/-- the list so far, and the list whose tables are being lengthened, from the t-th on -/
structure TrI (w : World) (B Bi : Nat) (out inn : Value) (n : Nat) (P T : List (List (List Int))) (vs us : List Value) (t : Nat) : Prop where
  own : OwnRL w B out P vs
  ap : Tops vs
  inner : w.ownsRow Bi 22 1 inn n us
  rest : ∀ j, t ≤ j → j < n → ∃ zs, OwnR w Bi (us.getD j undef) (gt T j) zs
  sep : ∀ a, a < vs.length → ∀ j, t ≤ j → j < n → ∀ g, (us.getD j undef).ownBlock = some g → (vs.getD a undef).ownBlock ≠ some g
  dis : ∀ g, out.ownBlock = some g → inn.ownBlock ≠ some g

theorem TrI.below {w w' : World} {B Bi : Nat} {out inn : Value} {n : Nat} {P T : List (List (List Int))} {vs us : List Value} {t : Nat} (h : TrI w B Bi out inn n P T vs us t) (hb : Below w.heap.size w w') : TrI w' B Bi out inn n P T vs us t :=
  ⟨h.own.below hb, h.ap, ownsRow_below h.inner hb, fun j h1 h2 => ⟨_, (h.rest j h1 h2).choose_spec.below hb⟩, h.sep, h.dis⟩
theorem TrI.grow {w w1 : World} {B Bi : Nat} {out inn : Value} {n : Nat} {P T : List (List (List Int))} {vs us : List Value} {t : Nat} {zs : List Value} (h : TrI w B Bi out inn n P T vs us t) (ht : t < n) (hz : OwnR w Bi (us.getD t undef) (gt T t) zs)
    (hua : ∀ j, t < j → j < n → ∀ g, (us.getD t undef).ownBlock = some g → (us.getD j undef).ownBlock ≠ some g) (hg : w.grownBy w1 (us.getD t undef).ownBlock) : TrI w1 B Bi out inn n P T vs us (t + 1) :=
  ⟨⟨row_kept h.own.top hz.top (by decide) hg, fun i hi => ⟨_, (h.own.each i hi).choose_spec.keptTop hz.top (fun g hg2 => h.sep i (by rw [h.own.len]; exact hi) t (Nat.le_refl _) ht g hg2) hg⟩⟩, h.ap,
    row_kept h.inner hz.top (by decide) hg, fun j h1 h2 => ⟨_, (h.rest j (by omega) h2).choose_spec.keptTop hz.top (fun g hg2 => hua j (by omega) h2 g hg2) hg⟩, fun a ha j h1 h2 => h.sep a ha j (by omega) h2, h.dis⟩
theorem TrI.push {w w1 : World} {B Bi : Nat} {out inn out' v : Value} {n : Nat} {P T : List (List (List Int))} {vs us zs : List Value} {t : Nat} {M : List (List Int)} (h : TrI w B Bi out inn n P T vs us t) (hv : OwnR w B v M zs)
    (hs : ∀ j, t ≤ j → j < n → ∀ g, (us.getD j undef).ownBlock = some g → v.ownBlock ≠ some g) (hap : ∀ a, a < vs.length → ∀ g, (vs.getD a undef).ownBlock = some g → v.ownBlock ≠ some g)
    (h1 : w1.ownsRow B 22 1 out' (P.length + 1) (vs ++ [v])) (hg : w.grownBy w1 out.ownBlock) (hat : out'.ownBlock = out.ownBlock ∨ out'.ownBlock = some w.heap.size) : TrI w1 B Bi out' inn n (P ++ [M]) T (vs ++ [v]) us t := by
  have hl := h.own.len
  refine ⟨h.own.join (ks := [M]) rfl (fun i hi => by obtain rfl : i = 0 := by simpa using hi
                                                     exact ⟨zs, hv⟩) h1 hg, fun i j hij hj g hi => ?_, ?_, fun j h2 h3 => ?_, fun a ha j h2 h3 g hgj => ?_, fun g hgo => ?_⟩
  · rw [List.length_append, List.length_singleton] at hj
    rw [getD_left (by omega)] at hi
    by_cases e : j < vs.length
    · rw [getD_left e]; exact h.ap i j hij e g hi
    · rw [getD_right (by omega), show j - vs.length = 0 by omega]
      exact hap i (by omega) g hi
  · refine World.ownsRow.kept h.inner hg ?_
    cases hb : inn.ownBlock with
    | none => exact .inl rfl
    | some g => exact .inr (fun e => h.dis g e.symm hb)
  · obtain ⟨ys, hy⟩ := h.rest j h2 h3
    exact ⟨ys, hy.kept h.own.top (by decide) (by decide) hg⟩
  · rw [List.length_append, List.length_singleton] at ha
    by_cases e : a < vs.length
    · rw [getD_left e]; exact h.sep a e j h2 h3 g hgj
    · rw [getD_right (by omega), show a - vs.length = 0 by omega]
      exact hs j h2 h3 g hgj
  · rcases hat with e | e
    · exact h.dis g (by rw [← e]; exact hgo)
    · rw [e] at hgo
      cases hgo
      intro hi
      have := (World.ownsRow.lt h.inner _ hi).2
      omega

set_option maxRecDepth 100000 in
set_option maxHeartbeats 6400000 in
theorem triangles_any : ∀ (d : Nat) (xs : List Int) (w : World), d < 5 → Rise xs → xs.length = d + 1 → Dj w →
    Calls Tryd.prog 107 #[.int .u64 (mask xs : Nat)] w fun e w' => ∃ v vs, e = .returned v ∧ OwnRL w' w.heap.size v (trisD d xs) vs ∧ Tops vs ∧ Below w.heap.size w w' := by
  intro d
  induction d with
  | zero =>
    intro xs w hd hr hl hD
    have hs := size_any hr (by omega) w
    have hrow := row_any hr (by omega) w hD
    have he : ((xs.length : Int) == 1) = true := by simp; omega
    obtain ⟨m, hm⟩ : ∃ m : Int, m = (mask xs : Nat) := ⟨_, rfl⟩
    rw [← hm] at hs hrow ⊢
    have Hs := Lib.hid hs
    have Hrow := Lib.hid hrow
    clear hs hrow hD hm hr hl
    go_enter Tryd.func107, Tryd.ntmps107
    go_wp2_with fail
    refine Hs.out.mono ?_
    rintro e w1 ⟨rfl, rfl⟩
    go_wp2_with fail
    refine Hrow.out.mono ?_
    rintro e w1 ⟨v, rfl, hv, hb⟩
    obtain ⟨va, vc, hvv, _, _, _⟩ := hv.read
    obtain ⟨l, hll⟩ : ∃ l, l = xs.length := ⟨_, rfl⟩
    rw [← hll] at hvv
    subst hvv
    have hbA : Below w1.heap.size w1 (w1.alloc (.cells #[.slice va l vc] 29)) := (Below.refl _ _).alloc (Nat.le_refl _) _
    have hRA : OwnR (w1.alloc (.cells #[.slice va l vc] 29)) w.heap.size (.slice (some ⟨w1.heap.size, 0, none⟩) 1 1) [xs] [.slice va l vc] :=
      ⟨ownsRow_built w1 [.slice va l vc] hb.size (by simp), fun i hi => by obtain rfl : i = 0 := (by simpa using hi); exact hv.below hbA⟩
    generalize hWA : w1.alloc (.cells #[.slice va l vc] 29) = wA at hbA hRA
    have hszA : wA.heap.size = w1.heap.size + 1 := by rw [← hWA]; simp
    have hbB : Below wA.heap.size wA (wA.alloc (.cells #[.slice (some ⟨w1.heap.size, 0, none⟩) 1 1] 22)) := (Below.refl _ _).alloc (Nat.le_refl _) _
    have hRB : OwnRL (wA.alloc (.cells #[.slice (some ⟨w1.heap.size, 0, none⟩) 1 1] 22)) w.heap.size (.slice (some ⟨wA.heap.size, 0, none⟩) 1 1) [[xs]] [.slice (some ⟨w1.heap.size, 0, none⟩) 1 1] :=
      ⟨ownsRow_built wA [.slice (some ⟨w1.heap.size, 0, none⟩) 1 1] (Nat.le_trans hb.size hbA.size) (by simp), fun i hi => by obtain rfl : i = 0 := (by simpa using hi); exact ⟨_, hRA.below hbB⟩⟩
    have HRB := Lib.hid hRB
    have HbB := Lib.hid (hb.trans ((hbA.trans (hbB.mono hbA.size)).mono hb.size))
    have HWA := Lib.hid hWA
    have HszA := Lib.hid hszA
    clear hv hb hbA hRA hbB hRB hszA hWA hll
    go_wp2
    go_ret
    refine ⟨.slice (some ⟨wA.heap.size, 0, none⟩) 1 1, [.slice (some ⟨w1.heap.size, 0, none⟩) 1 1], by rw [HszA.out]; rfl, ?_, fun i j hij hj => by simp at hj; omega, ?_⟩
    · have := HRB.out; rw [← HWA.out] at this ⊢; exact this
    · have := HbB.out; rw [← HWA.out] at this; exact this
  | succ d ih =>
    intro xs w hd hr hl hD
    have hs := size_any hr (by omega) w
    have hsets := setsAbove_any hr (by omega) w hD
    have he : ((xs.length : Int) == 1) = false := by simp; omega
    obtain ⟨j0, hj, hy0, hy1, hy2⟩ := info_parts Tryd.info_ints
    obtain ⟨k0, hk0, ht0, ht1, ht2⟩ := info_parts Tryd.info_intssW
    have Hrow := Lib.hid (fun w' (hD' : Dj w') => row_any hr (by omega) w' hD')
    have Hys := Lib.hid (fun k (hk : k < (above xs).length) => above_mem hr (gr_mem hk))
    have Hle := Lib.hid (fun k t (hk : k < (above xs).length) => trisQ_le (t := t) hr (by omega) hk)
    have HtB := Lib.hid (trB_le (d + 1) hd)
    have hA5 : (above xs).length ≤ 1099511627776 := by
      have := above_len hr
      rw [hl] at this
      exact Nat.le_trans this (Nat.le_trans (Nat.pow_le_pow_right (by omega) (show d + 1 + 1 - 1 ≤ 5 by omega)) (by decide))
    have Hih := Lib.hid ih
    have HD := Lib.hid hD
    have Hl := Lib.hid hl
    obtain ⟨m, hm⟩ : ∃ m : Int, m = (mask xs : Nat) := ⟨_, rfl⟩
    rw [← hm] at hs hsets Hrow ⊢
    have Hs := Lib.hid hs
    have Hsets := Lib.hid hsets
    clear hs hsets hD hm hl ih hr
    go_enter Tryd.func107, Tryd.ntmps107
    go_wp2_with fail
    refine Hs.out.mono ?_
    rintro e w1 ⟨rfl, rfl⟩
    go_wp2_with fail
    refine Hsets.out.mono ?_
    rintro e w1 ⟨v, rfl, hv, hb⟩
    obtain ⟨sa, sc, rfl, hs1, hs2, hsr⟩ := hv.read
    have Hsr := Lib.hid hsr
    have Hb := Lib.hid hb
    have HB := Lib.hid hb.size
    have HD1 := Lib.hid (HD.out.next hb)
    clear hv hb hsr Hs Hsets HD
    obtain ⟨A, hA⟩ : ∃ A, A = above xs := ⟨_, rfl⟩
    rw [← hA] at Hys Hle hA5 hs1 Hsr ⊢
    have HA := Lib.hid hA
    clear hA
    go_wp2
    go_loopw [3, 18] (fun out i wr => ∃ (k : Nat) (vs : List Value), k ≤ A.length ∧ i = .int .i64 k ∧ OwnRL wr w1.heap.size out (trisP d xs k) vs ∧ Tops vs ∧ Below w1.heap.size w1 wr) (fun _ i _ => A.length - (intOf i).toNat)
    case atStart => exact ⟨0, [], Nat.zero_le _, rfl, by rw [trisP_zero]; exact OwnRL.nil _ _, fun i j _ hj => absurd hj (by simp), Below.refl _ _⟩
    case round =>
      obtain ⟨k, vs, hk, rfl, hown, hap, hbr⟩ := hrel
      obtain ⟨wo, hwo⟩ : ∃ wo : World, wo = wr := ⟨_, rfl⟩
      subst hwo
      have Hown := Lib.hid hown
      have Hap := Lib.hid hap
      have Hbr := Lib.hid hbr
      have HBr := Lib.hid hbr.size
      clear hown hap hbr
      by_cases hlt : k < A.length
      · obtain ⟨b, o, e0, hcell⟩ := Hsr.out.below Hbr.out k hlt
        subst e0
        obtain ⟨hy, hyl⟩ := Hys.out k hlt
        have C := Lib.hid (Hih.out (gr A k) wo (by omega) hy (by have := Hl.out; omega) (HD1.out.next Hbr.out))
        have HTl := Lib.hid (trisD_len d (gr A k) hy (by have := Hl.out; omega))
        have HQ := Lib.hid (fun t (ht : t < (trisD d (gr A k)).length) => show trisQ d xs k (t + 1) = trisQ d xs k t ++ [gt (trisD d (gr A k)) t ++ [xs]] by rw [HA.out] at ht ⊢; exact trisQ_step ht)
        have HQe := Lib.hid (show trisQ d xs k (trisD d (gr A k)).length = trisP d xs (k + 1) by rw [HA.out]; exact trisQ_end (by rw [← HA.out]; exact hlt))
        have HQl := Lib.hid (fun t => Nat.le_trans (Hle.out k t hlt) HtB.out)
        have hcell' : wo.cell? ⟨b, o + k, none⟩ = some (.int .u64 (mask (gr A k) : Nat)) := hcell
        obtain ⟨q, hq⟩ : ∃ q : Int, q = (mask (gr A k) : Nat) := ⟨_, rfl⟩
        rw [← hq] at hcell' C
        clear hcell hy hyl hq
        go_wp2_with fail
        refine C.out.mono ?_
        rintro e w2 ⟨v2, us, rfl, hT, hTa, hb2⟩
        obtain ⟨T, hTT⟩ : ∃ T, T = trisD d (gr A k) := ⟨_, rfl⟩
        rw [← hTT] at hT HTl HQ HQe
        obtain ⟨ta, tc, rfl, htl1, htl2⟩ := hT.head
        have hTn : T.length ≤ 1099511627776 := Nat.le_trans (by
          have h1 := HQl.out T.length
          have h2 : T.length ≤ (trisQ d xs k T.length).length := by
            unfold trisQ
            rw [← HA.out, ← hTT, List.length_append, List.length_map, List.take_length]
            omega
          exact Nat.le_trans h2 h1) (Nat.le_refl _)
        have hlenT := hT.len
        have HI := Lib.hid (show TrI w2 w1.heap.size wo.heap.size _ (.slice ta T.length tc) T.length (trisQ d xs k 0) T vs us 0 from
          ⟨by rw [trisQ_zero]; exact Hown.out.below hb2, Hap.out, hT.top, fun j _ hj => hT.each j hj, fun a ha j _ hj g hg1 hg2 => by
            obtain ⟨ys, hx⟩ := Hown.out.each a (by rw [← Hown.out.len]; exact ha)
            obtain ⟨zs, hz⟩ := hT.each j hj
            have h1 := (hx.lt g hg2).2
            have h2 := (hz.lt g hg1).1
            omega, fun g hg1 hg2 => by
            have h1 := (World.ownsRow.lt Hown.out.top g hg1).2
            have h2 := (World.ownsRow.lt hT.top g hg2).1
            omega⟩)
        have HTa := Lib.hid hTa
        have Hb2 := Lib.hid (Hbr.out.trans (hb2.mono HBr.out))
        have Hb2' := Lib.hid hb2.size
        have HlT := Lib.hid hlenT
        clear hT hTa hb2 hTT Hown Hap C hlenT
        go_wp2
        go_loopw [3, 25] (fun out i wi => ∃ (t : Nat) (vs : List Value), t ≤ T.length ∧ i = .int .i64 t ∧ TrI wi w1.heap.size wo.heap.size out (.slice ta T.length tc) T.length (trisQ d xs k t) T vs us t ∧ Below w1.heap.size w1 wi ∧ wo.heap.size ≤ wi.heap.size) (fun _ i _ => T.length - (intOf i).toNat)
        case atStart => exact ⟨0, vs, Nat.zero_le _, rfl, HI.out, Hb2.out, Hb2'.out⟩
        case round =>
          obtain ⟨t, vs, ht, rfl, hI, hbi, hszi⟩ := hrel
          clear HI Hb2 Hb2'
          by_cases htl : t < T.length
          · obtain ⟨zs, hz⟩ := hI.rest t (Nat.le_refl _) htl
            obtain ⟨qa, qc, hq, hq1, hq2, _⟩ := hz.read
            have htt := HTl.out _ (gt_mem htl)
            rw [htt] at hq hq1
            obtain ⟨ai, ci, e, _, _, hcs⟩ := ownsRow_read hI.inner
            cases e
            obtain ⟨b2, o2, e2, hc2⟩ := hcs t htl
            rw [hq] at hc2
            subst e2
            obtain ⟨oa, oc, hoo, ho1, ho2⟩ := hI.own.head
            have hHQ := HQ.out t htl
            have hPl := HQl.out t
            obtain ⟨P, hP⟩ : ∃ P, P = trisQ d xs k t := ⟨_, rfl⟩
            rw [← hP] at hI hoo ho1 hHQ hPl
            obtain ⟨Pl, hPl2⟩ : ∃ Pl, Pl = P.length := ⟨_, rfl⟩
            rw [← hPl2] at hoo ho1 hPl
            have HPl := Lib.hid hPl2
            subst hoo
            have hua : ∀ j, t < j → j < T.length → ∀ g, (us.getD t undef).ownBlock = some g → (us.getD j undef).ownBlock ≠ some g := fun j h1 h2 g hg => HTa.out t j h1 (by rw [HlT.out]; exact h2) g hg
            have HI := Lib.hid hI
            have Hbi := Lib.hid hbi
            have HBi := Lib.hid hbi.size
            have Hz := Lib.hid hz
            have Hq := Lib.hid hq
            have Hua := Lib.hid hua
            have HHQ := Lib.hid hHQ
            have Htt := Lib.hid htt
            have C := Lib.hid (Hrow.out wr (HD1.out.next hbi))
            clear hI hbi hz hq hua hcs hP hPl2 hHQ ho1 ho2 hq1 hq2 htt
            go_wp2_with fail
            refine C.out.mono ?_
            rintro e w3 ⟨rv, rfl, hrv, hb3⟩
            obtain ⟨ra, rc, hrr, _, _, _⟩ := hrv.read
            obtain ⟨l, hll⟩ : ∃ l, l = xs.length := ⟨_, rfl⟩
            rw [← hll] at hrr
            subst hrr
            have hb3A : Below wr.heap.size wr (w3.alloc (.cells #[.slice ra l rc] 29)) := hb3.alloc hb3.size _
            have hz3 := Hz.out.below hb3A
            rw [Hq.out] at hz3
            have Hrv := Lib.hid hrv
            have HB3 := Lib.hid hb3.size
            have Hb3A := Lib.hid hb3A
            have Hz3 := Lib.hid hz3
            clear hrv hb3 hb3A hz3 hll C
            go_wp2_with (at_builtin; refine wpList_append_own_at _ rfl _ _ 22 rfl wo.heap.size 29 j0 (.slice none 0 0) 1 24 Tryd.underlying22 hj hy0 hy1 hy2 rfl (by decide) _ (d + 1) zs rfl (by have := Hz3.out.top; rw [Htt.out] at this; exact this) ⟨w3.heap.size, 0, none⟩ 1 1 [.slice ra l rc] rfl rfl ?g1 ?g2 ?g3 ?g4 ?g5 ?_)
            case g1 => exact cell_one_new _ _ _
            case g2 => intro u hu; simp at hu; subst hu; rfl
            case g3 => unfold maxLen; omega
            case g4 => omega
            case g5 => have := HB3.out; simp; omega
            intro v' w4 hown4 hgrow4 _ hat4
            have hG : TrI w4 w1.heap.size wo.heap.size _ _ T.length P T vs us (t + 1) := (HI.out.below Hb3A.out).grow htl (by rw [Hq.out]; exact Hz3.out) Hua.out (by rw [Hq.out]; exact hgrow4)
            have hv4 : OwnR w4 wo.heap.size v' (gt T t ++ [xs]) (zs ++ [.slice ra l rc]) := Hz3.out.join (k := [xs]) rfl (fun i hi => by
              obtain rfl : i = 0 := by simpa using hi
              exact (Hrv.out.base hszi).below ((Below.refl _ _).alloc (Nat.le_refl _) _)) (by rw [Htt.out]; exact hown4) hgrow4
            have hsz3 : (w3.alloc (.cells #[.slice ra l rc] 29)).heap.size = w3.heap.size + 1 := by simp
            have hvs : ∀ j, t + 1 ≤ j → j < T.length → ∀ g, (us.getD j undef).ownBlock = some g → v'.ownBlock ≠ some g := fun j h1 h2 g hg hgv => by
              rcases hat4 with e | e
              · rw [e] at hgv
                exact Hua.out j (by omega) h2 g (by rw [Hq.out]; exact hgv) hg
              · rw [e] at hgv
                cases hgv
                obtain ⟨ys, hy⟩ := HI.out.rest j (by omega) h2
                have h3 := (hy.lt _ hg).2
                have := HB3.out
                omega
            have hva : ∀ a, a < vs.length → ∀ g, (vs.getD a undef).ownBlock = some g → v'.ownBlock ≠ some g := fun a ha g hg hgv => by
              rcases hat4 with e | e
              · rw [e] at hgv
                exact HI.out.sep a ha t (Nat.le_refl _) htl g (by rw [Hq.out]; exact hgv) hg
              · rw [e] at hgv
                cases hgv
                obtain ⟨ys, hy⟩ := HI.out.own.each a (by rw [← HI.out.own.len]; exact ha)
                have h3 := (hy.lt _ hg).2
                have := HB3.out
                omega
            obtain ⟨pa, pc, hpp, _, _, _⟩ := ownsRow_read hown4
            have hb4 : Below w1.heap.size w1 w4 := (Hbi.out.trans (Hb3A.out.mono HBi.out)).grown hgrow4 (Nat.le_trans HBi.out Hb3A.out.size) (fun g hg => Nat.le_trans HBr.out (Hz3.out.lt g hg).1)
            have hsz4 : wo.heap.size ≤ w4.heap.size := by
              have h1 := (hgrow4.size)
              rw [hsz3] at h1
              have := HB3.out
              omega
            have HG := Lib.hid (hG.below ((Below.refl _ w4).alloc (Nat.le_refl _) (.cells #[v'] 22)))
            have Hv4 := Lib.hid ((hv4.base HBr.out).below ((Below.refl _ w4).alloc (Nat.le_refl _) (.cells #[v'] 22)))
            have Hvs := Lib.hid hvs
            have Hva := Lib.hid hva
            have Hb4 := Lib.hid hb4
            have HB4 := Lib.hid hb4.size
            have Hsz4 := Lib.hid hsz4
            clear hown4 hgrow4 hat4 hG hv4 hsz3 hvs hva hb4 hsz4 Hz3 Hb3A HB3 Hrv
            subst hpp
            go_wp2_with (at_builtin; refine wpList_append_own_at _ rfl _ _ 52 rfl w1.heap.size 22 k0 (.slice none 0 0) 1 24 Tryd.underlying52 hk0 ht0 ht1 ht2 rfl (by decide) _ Pl vs rfl (by have := HG.out.own.top; rw [← HPl.out] at this; exact this) ⟨w4.heap.size, 0, none⟩ 1 1 [.slice pa (d + 1 + 1) pc] rfl rfl ?f1 ?f2 ?f3 ?f4 ?f5 ?_)
            case f1 => exact cell_one_new _ _ _
            case f2 => intro u hu; simp at hu; subst hu; rfl
            case f3 => unfold maxLen; omega
            case f4 => omega
            case f5 => have := HB4.out; simp; omega
            intro out' w5 hown5 hgrow5 _ hat5
            have hP5 := HG.out.push Hv4.out Hvs.out Hva.out (by rw [← HPl.out]; exact hown5) hgrow5 (by simpa using hat5)
            rw [← HHQ.out] at hP5
            have hb5 : Below w1.heap.size w1 w5 := (Hb4.out.alloc HB4.out (.cells #[.slice pa (d + 1 + 1) pc] 22)).grown hgrow5 (by have := HB4.out; simp; omega) (fun g hg => (World.ownsRow.lt HG.out.own.top g hg).1)
            have hsz5 : wo.heap.size ≤ w5.heap.size := by
              have h1 := hgrow5.size
              have := Hsz4.out
              simp at h1
              omega
            obtain ⟨ua, uc, huu, _, _, _⟩ := ownsRow_read hown5
            have HP5 := Lib.hid hP5
            have Hb5 := Lib.hid hb5
            have Hsz5 := Lib.hid hsz5
            clear hown5 hgrow5 hat5 hP5 hb5 hsz5 HG Hv4 Hvs Hva
            subst huu
            go_wp2
            go_roundw
            case rel => exact ⟨t + 1, _, by omega, by go_num, HP5.out, Hb5.out, Hsz5.out⟩
            case measure => simp [intOf]; omega
          · obtain rfl : t = T.length := by omega
            have HO := Lib.hid hI.own
            have HAp := Lib.hid hI.ap
            have Hbi := Lib.hid hbi
            clear hI hbi
            go_wp2
            go_roundw
            case rel => exact ⟨k + 1, vs, by omega, by go_num, by rw [← HQe.out]; exact HO.out, HAp.out, Hbi.out⟩
            case measure => simp [intOf]; omega
      · obtain rfl : k = A.length := by omega
        have HV := Lib.hid (show trisP d xs A.length = trisD (d + 1) xs by rw [HA.out]; exact trisP_end d xs)
        go_wp2
        go_ret
        exact ⟨_, vs, rfl, by rw [← HV.out]; exact Hown.out.base HB.out, Hap.out, Hb.out.trans (Hbr.out.mono HB.out)⟩
end Go.Proofs.YtifnhlnbofkloaaDoor

