/- Contracts: weights by kinds of places, by the model. Conditions: as each says. -/
import Derived.Test.YtifnhlnbofkloaaWwI
import Derived.Test.YtifnhlnbofkloaaWcS
import Derived.StillTailTactics
namespace Go.Proofs.Ytifnhlnbofkloaa
open Go.RowKit

set_option maxRecDepth 100000 in
set_option maxHeartbeats 800000 in
theorem wePower_any (x : Int) (k : Nat) (w : World) (hk : k ≤ 1000) (hb : ∀ j, j ≤ k → 0 ≤ pw x j ∧ pw x j ≤ 4000000000000000000) :
    Calls Try.prog 78 #[.int .i64 x, .int .i64 (k : Int)] w fun e w' => e = .returned (.int .i64 (pw x k)) ∧ w' = w := by
  have Hb := Lib.hid hb
  clear hb
  go_enter Try.func78, Try.ntmps78
  go_wp2
  go_loop [1, 5] (fun i p => ∃ t : Nat, t ≤ k ∧ i = .int .i64 ((k : Int) - (t : Int)) ∧ p = .int .i64 (pw x t)) (fun i _ => (intOf i).toNat)
  case atStart => exact ⟨0, Nat.zero_le _, by simp, rfl⟩
  case round =>
    obtain ⟨t, ht, rfl, rfl⟩ := hrel
    obtain ⟨r, hr⟩ : ∃ r : Nat, (k : Int) - (t : Int) = (r : Int) := ⟨k - t, by omega⟩
    by_cases hlt : t < k
    · have h1 := Hb.out t (by omega)
      have h2 := Hb.out (t + 1) (by omega)
      have S := Lib.hid (pw_succ x t)
      rw [S.out] at h2
      obtain ⟨p, hp⟩ : ∃ p, p = pw x t := ⟨_, rfl⟩
      rw [← hp] at h1 h2 S ⊢
      obtain ⟨q, hq⟩ : ∃ q, q = p * x := ⟨_, rfl⟩
      have hw : IntKind.i64.wrap (p * x) = q := by rw [← hq]; exact w64 (by omega)
      rw [← hq] at S h2
      rw [hr]
      have hr0 : (0 : Int) < (r : Int) := by omega
      have hd : decide ((0 : Int) < (r : Int)) = true := by simpa using hr0
      have hrb : r ≤ 1000 := by omega
      have Hr := Lib.hid hr
      clear hp hq hr hlt ht
      go_wp2
      go_round
      case rel => exact ⟨t + 1, by have := Hr.out; omega, by congr 1; have := Hr.out; omega, by rw [S.out]⟩
      case measure => simp [intOf]; omega
    · obtain rfl : t = k := by omega
      have hr0 : r = 0 := by omega
      subst hr0
      rw [hr]
      have hd : decide ((0 : Int) < ((0 : Nat) : Int)) = false := by simp
      go_wp2
      go_ret
      exact ⟨rfl, rfl⟩

set_option maxRecDepth 100000 in
set_option maxHeartbeats 800000 in
theorem weWeights_any (ao : Option Addr) (c : Nat) (xs : List Int) (w : World) (hn : xs.length ≤ 1048576) (hx : IntsAt w ao xs) :
    Calls Try.prog 50 #[.slice ao xs.length c] w fun e w' => Ans (allIn xs 0 5) e ∧ w = w' := by
  have Hx := Lib.hid hx
  clear hx
  go_enter Try.func50, Try.ntmps50
  go_wp2_with fail
  refine (l1All_any ao c xs 0 5 w hn Hx.out).mono ?_
  rintro e w2 ⟨⟨b, rfl, hb⟩, rfl⟩
  have Hb := Lib.hid hb
  clear hb
  go_wp2
  go_ret
  exact ⟨⟨b, rfl, Hb.out⟩, rfl⟩

set_option maxRecDepth 100000 in
set_option maxHeartbeats 3200000 in
theorem weWeight_any (ao : Option Addr) (cp : Nat) (m : List (List Int)) (a b c : Int) (w : World) (hg : good m) (h4 : m.length ≤ 4) (hf : isFac a b c) (hm : MatAt w ao m) :
    Calls Try.prog 51 #[.slice ao m.length cp, .int .i64 a, .int .i64 b, .int .i64 c] w fun e w' => e = .returned (.int .i64 (wVal m a b c)) ∧ Below w.heap.size w w' := by
  have Hg := Lib.hid hg
  have Hm := Lib.hid hm
  have hn := hg.1.2.1
  have hmx : m.length ≤ 9223372036854775807 := by omega
  obtain ⟨h1, h2, h3⟩ := hf
  have htot := sumC_cN hg h4
  simp only [sumC] at htot
  have p1 := pw_small (x := a) (by omega) (k := cN m 0 + cN m 3) (by omega)
  have p2 := pw_small (x := b) (by omega) (k := cN m 1 + cN m 2) (by omega)
  have p3 := pw_small (x := c) (by omega) (k := cN m 5) (by omega)
  have hpair := prodW_small (wt := wtP a b c) (c := cN m) (wtP_le ⟨h1, h2, h3⟩) (sumC_cN hg h4) (k := 6) (by omega)
  rw [prodW_pairs] at hpair
  have hpair2 : 0 ≤ pw a (cN m 0 + cN m 3) * pw b (cN m 1 + cN m 2) ∧ pw a (cN m 0 + cN m 3) * pw b (cN m 1 + cN m 2) ≤ 10000000000000000 := by
    have q1 := pw_le (x := a) (by omega) (cN m 0 + cN m 3)
    have q2 := pw_le (x := b) (by omega) (cN m 1 + cN m 2)
    have q3 : pw a (cN m 0 + cN m 3) * pw b (cN m 1 + cN m 2) ≤ pw 10 (cN m 0 + cN m 3) * pw 10 (cN m 1 + cN m 2) := Int.mul_le_mul q1.2 q2.2 q2.1 (Int.le_trans q1.1 q1.2)
    rw [← pw_add] at q3
    have q4 := pw_ten (show cN m 0 + cN m 3 + (cN m 1 + cN m 2) ≤ 16 by omega)
    rw [pw_16] at q4
    exact ⟨Int.mul_nonneg q1.1 q2.1, by omega⟩
  have C1 := Lib.hid (fun w => wePower_any a (cN m 0 + cN m 3) w (by omega) (fun j hj => by have := pw_small (x := a) (by omega) (k := j) (by omega); omega))
  have C2 := Lib.hid (fun w => wePower_any b (cN m 1 + cN m 2) w (by omega) (fun j hj => by have := pw_small (x := b) (by omega) (k := j) (by omega); omega))
  have C3 := Lib.hid (fun w => wePower_any c (cN m 5) w (by omega) (fun j hj => by have := pw_small (x := c) (by omega) (k := j) (by omega); omega))
  have e0 : cntK m 0 = (cN m 0 : Int) := cN_eq hn 0
  have e1 : cntK m 1 = (cN m 1 : Int) := cN_eq hn 1
  have e2 : cntK m 2 = (cN m 2 : Int) := cN_eq hn 2
  have e3 : cntK m 3 = (cN m 3 : Int) := cN_eq hn 3
  have e5 : cntK m 5 = (cN m 5 : Int) := cN_eq hn 5
  have HE := Lib.hid (And.intro e0 (And.intro e1 (And.intro e2 (And.intro e3 e5))))
  have HV := Lib.hid (show wVal m a b c = pw a (cN m 0 + cN m 3) * pw b (cN m 1 + cN m 2) * pw c (cN m 5) from rfl)
  rw [HV.out] at hpair
  obtain ⟨x1, hx1⟩ : ∃ x, x = pw a (cN m 0 + cN m 3) := ⟨_, rfl⟩
  obtain ⟨x2, hx2⟩ : ∃ x, x = pw b (cN m 1 + cN m 2) := ⟨_, rfl⟩
  obtain ⟨x3, hx3⟩ : ∃ x, x = pw c (cN m 5) := ⟨_, rfl⟩
  rw [← hx1, ← hx2] at hpair2
  rw [← hx1, ← hx2, ← hx3] at hpair HV
  rw [← hx1] at C1
  rw [← hx2] at C2
  rw [← hx3] at C3
  obtain ⟨y, hy⟩ : ∃ y, y = x1 * x2 := ⟨_, rfl⟩
  obtain ⟨z, hz⟩ : ∃ z, z = y * x3 := ⟨_, rfl⟩
  rw [← hy] at hpair2
  rw [← hy, ← hz] at hpair HV
  have w1 : IntKind.i64.wrap (x1 * x2) = y := by rw [← hy]; exact w64 (by omega)
  have w2' : IntKind.i64.wrap (y * x3) = z := by rw [← hz]; exact w64 (by omega)
  obtain ⟨n0, hn0⟩ : ∃ n, n = cN m 0 := ⟨_, rfl⟩
  obtain ⟨n1, hn1⟩ : ∃ n, n = cN m 1 := ⟨_, rfl⟩
  obtain ⟨n2, hn2⟩ : ∃ n, n = cN m 2 := ⟨_, rfl⟩
  obtain ⟨n3, hn3⟩ : ∃ n, n = cN m 3 := ⟨_, rfl⟩
  obtain ⟨n5, hn5⟩ : ∃ n, n = cN m 5 := ⟨_, rfl⟩
  obtain ⟨n4, hn4⟩ : ∃ n, n = cN m 4 := ⟨_, rfl⟩
  rw [← hn0, ← hn3] at C1
  rw [← hn1, ← hn2] at C2
  rw [← hn5] at C3
  rw [← hn0, ← hn1, ← hn2, ← hn3, ← hn5] at HE
  rw [← hn0, ← hn1, ← hn2, ← hn3, ← hn4, ← hn5] at htot
  have k1 : IntKind.i64.wrap ((n0 : Int) + (n3 : Int)) = ((n0 + n3 : Nat) : Int) := by rw [w64 (by omega)]; omega
  have k2 : IntKind.i64.wrap ((n1 : Int) + (n2 : Int)) = ((n1 + n2 : Nat) : Int) := by rw [w64 (by omega)]; omega
  obtain ⟨s1, hs1⟩ : ∃ s, s = n0 + n3 := ⟨_, rfl⟩
  obtain ⟨s2, hs2⟩ : ∃ s, s = n1 + n2 := ⟨_, rfl⟩
  rw [← hs1] at k1 C1
  rw [← hs2] at k2 C2
  clear hg hm p1 p2 p3 hpair hpair2 htot e0 e1 e2 e3 e5 hx1 hx2 hx3 hy hz hn0 hn1 hn2 hn3 hn4 hn5 hs1 hs2 h1 h2 h3 h4
  go_enter Try.func51, Try.ntmps51
  go_wp2_with fail
  refine (weCounts_any ao cp m w Hg.out Hm.out).mono ?_
  rintro e w2 ⟨v, rfl, hv, hb⟩
  have hvl : ∃ g cc, v = .slice (some ⟨g, 0, none⟩) 6 cc := by
    obtain ⟨va, vc, e, _, _, _⟩ := hv.read
    rw [cntL_len] at e
    subst e
    obtain ⟨g, rfl, _⟩ := hv.isAt (by omega)
    exact ⟨g, vc, rfl⟩
  obtain ⟨g, cc, rfl⟩ := hvl
  have c0 := hv.cellAt 0 (by omega)
  have c1 := hv.cellAt 1 (by omega)
  have c2 := hv.cellAt 2 (by omega)
  have c3 := hv.cellAt 3 (by omega)
  have c5 := hv.cellAt 5 (by omega)
  obtain ⟨e0, e1, e2, e3, e5⟩ := HE.out
  rw [show gi (cntL (cntK m)) 0 = cntK m 0 from rfl, e0] at c0
  rw [show gi (cntL (cntK m)) 1 = cntK m 1 from rfl, e1] at c1
  rw [show gi (cntL (cntK m)) 2 = cntK m 2 from rfl, e2] at c2
  rw [show gi (cntL (cntK m)) 3 = cntK m 3 from rfl, e3] at c3
  rw [show gi (cntL (cntK m)) 5 = cntK m 5 from rfl, e5] at c5
  have Hb := Lib.hid hb
  clear hv hb e0 e1 e2 e3 e5 HE
  go_upto_region 2 with (fail)
  refine wp_region_still_lit (by kernel_rfl) (by kernel_rfl) ?_
  have d0 := cellD c0
  have d1 := cellD c1
  have d2 := cellD c2
  have d3 := cellD c3
  have d5 := cellD c5
  repeat still_step
  still_call (C1.out _)
  repeat still_step
  still_call (C2.out _)
  repeat still_step
  still_call (C3.out _)
  repeat still_step
  refine wpStill_nil ?_
  go_wp2
  go_ret
  exact ⟨by rw [HV.out]; rfl, Hb.out.trans (below_drewN (Below.refl _ _) 1)⟩
set_option maxRecDepth 100000 in
set_option maxHeartbeats 1600000 in
theorem specWeightOf_any (ao : Option Addr) (cp : Nat) (m : List (List Int)) (a b c : Int) (w : World) (hs : Small m) (hm : MatAt w ao m)
    (_ : -9223372036854775808 ≤ a ∧ a ≤ 9223372036854775807) (_ : -9223372036854775808 ≤ b ∧ b ≤ 9223372036854775807) (_ : -9223372036854775808 ≤ c ∧ c ≤ 9223372036854775807) :
    Calls Try.prog 24 #[.slice ao m.length cp, .int .i64 a, .int .i64 b, .int .i64 c] w fun e w' => IRes (okWt m a b c) (wVal m a b c) e ∧ Below w.heap.size w w' := by
  have hmx : m.length ≤ 9223372036854775807 := by have := hs.1; omega
  have Hs := Lib.hid hs
  have Hm := Lib.hid hm
  clear hs hm
  go_enter Try.func24, Try.ntmps24
  go_wp2_with fail
  refine (sgGood_any ao cp m w Hs.out Hm.out).mono ?_
  rintro e w1 ⟨ha, hb⟩
  have Hb := Lib.hid hb
  have HB := Lib.hid hb.size
  clear hb
  by_cases hg : good m
  · have Hg := Lib.hid hg
    clear hg
    obtain rfl := ha.is Hg.out
    clear ha
    go_wp2_with fail
    refine (weWeights_any (some ⟨w1.heap.size, 0, none⟩) 3 [a, b, c] _ (by simp) (ints_new w1 [a, b, c])).mono ?_
    rintro e w2 ⟨ha, rfl⟩
    have ha := ha.iff (allIn_three a b c 0 5)
    have Hb2 := Lib.hid (Hb.out.alloc HB.out (.cells ([a, b, c].map (Value.int .i64)).toArray 3))
    have HB2 := Lib.hid Hb2.out.size
    by_cases hf : isFac a b c
    · have Hf := Lib.hid hf
      clear hf
      obtain rfl := ha.is Hf.out
      clear ha
      by_cases h4 : m.length ≤ 4
      · have H4 := Lib.hid h4
        have hd : decide ((4 : Int) < (m.length : Int)) = false := by simp; omega
        clear h4
        go_wp2_with fail
        refine (weWeight_any ao cp m a b c _ Hg.out H4.out Hf.out (Hm.out.below Hb2.out)).mono ?_
        rintro e w4 ⟨rfl, hb4⟩
        have Hb4 := Lib.hid (Hb2.out.trans (hb4.mono HB2.out))
        clear hb4
        go_wp2
        go_ret2
        exact ⟨IRes.yes ⟨⟨Hg.out, H4.out⟩, Hf.out⟩, Hb4.out⟩
      · have H4 := Lib.hid h4
        have hd : decide ((4 : Int) < (m.length : Int)) = true := by simp; omega
        clear h4
        go_wp2
        go_ret2
        exact ⟨IRes.no (fun h => H4.out h.1.2), Hb2.out⟩
    · have Hf := Lib.hid hf
      clear hf
      obtain rfl := ha.isnt Hf.out
      clear ha
      go_wp2
      go_ret2
      exact ⟨IRes.no (fun h => Hf.out h.2), Hb2.out⟩
  · have Hg := Lib.hid hg
    clear hg
    obtain rfl := ha.isnt Hg.out
    clear ha
    go_wp2
    go_ret2
    exact ⟨IRes.no (fun h => Hg.out h.1.1), Hb.out⟩
end Go.Proofs.Ytifnhlnbofkloaa
