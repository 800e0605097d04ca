/- Parts of proofs: contracts and plain facts. Conditions: as each says. -/
import Derived.Test.YtncpoljjfhmkeaaK09
import Derived.Deep.RegionWith
namespace Go.Proofs.Ytncpoljjfhmkeaa
open Go.RowKit

set_option maxRecDepth 100000 in
set_option maxHeartbeats 800000 in
theorem specSumOperator_any (n : Int) (w : World) (_ : -9223372036854775808 ≤ n ∧ n ≤ 9223372036854775807) :
    Calls Try.prog 35 #[.int .i64 n] w fun e w' => MRes (1 ≤ n ∧ n ≤ 4) (sumT (patP 6 n.toNat)) w' w.heap.size e ∧ Below w.heap.size w w' := by
  go_enter Try.func35, Try.ntmps35
  go_wp2_with fail
  refine (syPairs_any _ w).mono ?_
  rintro e w1 ⟨ha, rfl⟩
  by_cases hn : 1 ≤ n ∧ n ≤ 4
  · obtain rfl := ha.is hn
    have Hn := Lib.hid hn
    have C := sySum_any n.toNat w (by omega) (by omega)
    rw [Int.toNat_of_nonneg (by omega)] at C
    have C := Lib.hid C
    clear ha hn
    go_wp2_with fail
    refine C.out.mono ?_
    rintro e w2 ⟨v, rfl, hv, hb⟩
    have Hv := Lib.hid hv
    have Hb := Lib.hid hb
    clear hv hb
    go_wp2
    go_ret2
    exact ⟨MRes.yes Hn.out Hv.out, Hb.out⟩
  · obtain rfl := ha.isnt hn
    have Hn := Lib.hid hn
    clear ha hn
    go_wp2
    go_ret2
    exact ⟨MRes.no Hn.out, Below.refl _ _⟩

/-- the sum of the products of the first k numbers -/
def dotK (row v : List Int) : Nat → Int
  | 0 => 0
  | k + 1 => dotK row v k + gi row k * gi v k
/-- the image of a vector: its first k numbers, all -/
def appK (m : List (List Int)) (v : List Int) (k : Nat) : List Int := (List.range k).map fun a => dotK (gr m a) v v.length
theorem appK_len (m : List (List Int)) (v : List Int) (k : Nat) : (appK m v k).length = k := by simp [appK]
theorem appK_succ (m : List (List Int)) (v : List Int) (k : Nat) : appK m v (k + 1) = appK m v k ++ [dotK (gr m k) v v.length] := by simp [appK, List.range_succ]
theorem appK_at {m : List (List Int)} {v : List Int} {k a : Nat} (h : a < k) : gi (appK m v k) a = dotK (gr m a) v v.length := gi_row h
/-- a square table of small numbers -/
def tabOk (m : List (List Int)) : Prop := (1 ≤ m.length ∧ m.length ≤ 14) ∧ ∀ i, i < m.length → (gr m i).length = m.length ∧ allIn (gr m i) 0 100
def vecOk (m : List (List Int)) (v : List Int) : Prop := v.length = m.length ∧ allIn v 0 1000000
def applyOk (m : List (List Int)) (v : List Int) : Prop := tabOk m ∧ vecOk m v
theorem mul_bd {x y : Int} (h1 : 0 ≤ x ∧ x ≤ 100) (h2 : 0 ≤ y ∧ y ≤ 1000000) : 0 ≤ x * y ∧ x * y ≤ 100000000 :=
  ⟨Int.mul_nonneg h1.1 h2.1, Int.le_trans (Int.mul_le_mul_of_nonneg_right h1.2 h2.1) (Int.le_trans (Int.mul_le_mul_of_nonneg_left h2.2 (by omega)) (by omega))⟩
theorem dotK_bd {row v : List Int} (h1 : allIn row 0 100) (h2 : allIn v 0 1000000) : ∀ k : Nat, k ≤ row.length → k ≤ v.length → 0 ≤ dotK row v k ∧ dotK row v k ≤ (k : Int) * 100000000
  | 0, _, _ => by simp [dotK]
  | k + 1, ha, hb => by
    have := dotK_bd h1 h2 k (by omega) (by omega)
    have := mul_bd (h1 k (by omega)) (h2 k (by omega))
    unfold dotK
    omega

set_option maxRecDepth 100000 in
set_option maxHeartbeats 1600000 in
theorem syApply_any (ao a2 : Option Addr) (c c2 : Nat) (m : List (List Int)) (v : List Int) (w : World) (hok : applyOk m v) (hm : MatAt w ao m) (hv : IntsAt w a2 v) :
    Calls Try.prog 74 #[.slice ao m.length c, .slice a2 v.length c2] w fun e w' => ∃ u, e = .returned u ∧ OwnI w' w.heap.size u (appK m v m.length) ∧ Below w.heap.size w w' := by
  obtain ⟨i0, hi, hz0, hz1, hz2⟩ := info_parts Try.info_int
  obtain ⟨⟨⟨hm1, hm14⟩, hrows⟩, hvl, hvin⟩ := hok
  have Hvl := Lib.hid hvl
  have Hrows := Lib.hid hrows
  have Hvin := Lib.hid hvin
  have Hm := Lib.hid hm
  have Hv := Lib.hid hv
  obtain ⟨N, hN⟩ : ∃ N, N = m.length := ⟨_, rfl⟩
  rw [hvl, ← hN]
  rw [← hN] at hm1 hm14
  have HN := Lib.hid hN
  have hNm : N ≤ 9223372036854775807 := by omega
  clear hrows hvl hvin hm hv hN
  go_enter Try.func74, Try.ntmps74
  go_wp2
  go_loopw [5, 13] (fun u x wr => ∃ a : Nat, a ≤ N ∧ x = .int .i64 a ∧ OwnI wr w.heap.size u (appK m v a) ∧ Below w.heap.size w wr) (fun _ x _ => N - (intOf x).toNat)
  case atStart => exact ⟨0, Nat.zero_le _, rfl, OwnI.nil _ _, Below.refl _ _⟩
  case round =>
    obtain ⟨a, ha, rfl, hown, hbr⟩ := hrel
    have Hown := Lib.hid hown
    have Hbr := Lib.hid hbr
    clear hown hbr
    by_cases hal : a < N
    · obtain ⟨b1, o1, r1, d1, rfl, hc1, hx1, _, _⟩ := Hm.out.below Hbr.out a (by rw [← HN.out]; exact hal)
      obtain ⟨hrl, hrin⟩ := Hrows.out a (by rw [← HN.out]; exact hal)
      rw [hrl, ← HN.out] at hc1
      have Hx1 := Lib.hid hx1
      have Hrl := Lib.hid hrl
      have Hrin := Lib.hid hrin
      clear hrl hrin hx1
      go_wp2
      go_loop [8, 19] (fun s x => ∃ b : Nat, b ≤ N ∧ x = .int .i64 b ∧ s = .int .i64 (dotK (gr m a) v b)) (fun _ x => N - (intOf x).toNat)
      case atStart => exact ⟨0, Nat.zero_le _, rfl, rfl⟩
      case round =>
        obtain ⟨b, hb, rfl, rfl⟩ := hrel
        by_cases hbl : b < N
        · obtain ⟨b2, o2, e2, hc2⟩ := Hx1.out b (by rw [Hrl.out, ← HN.out]; exact hbl)
          obtain ⟨b3, o3, e3, hc3⟩ := Hv.out.below Hbr.out b (by rw [Hvl.out, ← HN.out]; exact hbl)
          have hb1 := dotK_bd Hrin.out Hvin.out b (by rw [Hrl.out, ← HN.out]; exact hb) (by rw [Hvl.out, ← HN.out]; exact hb)
          have hb2 := dotK_bd Hrin.out Hvin.out (b + 1) (by rw [Hrl.out, ← HN.out]; exact hbl) (by rw [Hvl.out, ← HN.out]; exact hbl)
          have hb3 := mul_bd (Hrin.out b (by rw [Hrl.out, ← HN.out]; exact hbl)) (Hvin.out b (by rw [Hvl.out, ← HN.out]; exact hbl))
          have HS := Lib.hid (show dotK (gr m a) v (b + 1) = dotK (gr m a) v b + gi (gr m a) b * gi v b from rfl)
          obtain ⟨s, hs⟩ : ∃ s, s = dotK (gr m a) v b := ⟨_, rfl⟩
          obtain ⟨x, hx⟩ : ∃ x, x = gi (gr m a) b := ⟨_, rfl⟩
          obtain ⟨y, hy⟩ : ∃ y, y = gi v b := ⟨_, rfl⟩
          rw [← hs] at hb1 HS ⊢
          rw [← hx] at hc2 hb3 HS
          rw [← hy] at hc3 hb3 HS
          obtain ⟨p, hp⟩ : ∃ p, p = x * y := ⟨_, rfl⟩
          have hw : IntKind.i64.wrap (x * y) = p := by rw [← hp]; exact w64 (by omega)
          rw [← hp] at HS hb3
          subst e2
          subst e3
          clear hs hx hy hp hb2
          go_wp2
          go_round
          case rel => exact ⟨b + 1, by omega, by go_num, by rw [HS.out]⟩
          case measure => simp [intOf]; omega
        · obtain rfl : b = N := by omega
          have HE := Lib.hid (show appK m v (a + 1) = appK m v a ++ [dotK (gr m a) v b] by rw [appK_succ, Hvl.out, ← HN.out])
          have Hal := Lib.hid (appK_len m v a)
          obtain ⟨s, hs⟩ : ∃ s, s = dotK (gr m a) v b := ⟨_, rfl⟩
          rw [← hs] at HE ⊢
          clear hs
          go_wp2_with (at_builtin; refine wpList_append_own _ rfl _ _ 22 rfl w.heap.size 3 i0 (.int .i64 0) 1 8 Try.underlying22 hi hz0 hz1 hz2 rfl (by decide) _ _ _ rfl (World.ownsRow.alloc Hown.out _) ⟨wr.heap.size, 0, none⟩ 1 1 [.int .i64 s] rfl rfl ?c1 ?c2 ?c3 ?c4 ?c5 ?_)
          case c2 => first | rfl | (intro u hu; simp at hu; subst hu; rfl)
          case c3 => have := Hal.out; unfold maxLen; omega
          case c4 => have := Hal.out; omega
          case c5 => have := Hbr.out.size; simp; omega
          intro v' w2 hown' hgrow _
          have hs := Hown.out.snoc Hbr.out.size hown' hgrow
          have Hs := Lib.hid hs.1
          have Hb2 := Lib.hid (Hbr.out.trans hs.2)
          clear hown' hgrow hs
          go_wp2
          go_roundw
          case rel => exact ⟨a + 1, by omega, by go_num, by rw [HE.out]; exact Hs.out, Hb2.out⟩
          case measure => simp [intOf]; omega
    · obtain rfl : a = N := by omega
      go_wp2
      go_ret
      exact ⟨_, rfl, Hown.out, Hbr.out⟩

set_option maxRecDepth 100000 in
set_option maxHeartbeats 1600000 in
theorem specApplyOperator_any (ao : Option Addr) (c : Nat) (m : List (List Int)) (a2 : Option Addr) (c2 : Nat) (v : List Int) (w : World) (hs : Small m) (hm : MatAt w ao m) (hn : v.length ≤ 1048576) (hv : IntsAt w a2 v) :
    Calls Try.prog 38 #[.slice ao m.length c, .slice a2 v.length c2] w fun e w' => LRes (applyOk m v) (appK m v m.length) w' w.heap.size e ∧ Below w.heap.size w w' := by
  have hml : m.length ≤ 9223372036854775807 := by have := hs.1; omega
  have hvm : v.length ≤ 9223372036854775807 := by omega
  have Hs := Lib.hid hs
  have Hm := Lib.hid hm
  have Hv := Lib.hid hv
  clear hs hm hv
  go_enter Try.func38, Try.ntmps38
  go_wp2_with fail
  refine (l1In_any _ _ _ w).mono ?_
  rintro e w1 ⟨ha, rfl⟩
  by_cases h1 : 1 ≤ (m.length : Int) ∧ (m.length : Int) ≤ 14
  · obtain rfl := ha.is h1
    have H1 := Lib.hid (show 1 ≤ m.length ∧ m.length ≤ 14 by omega)
    clear ha h1
    by_cases h2 : v.length = m.length
    · have H2 := Lib.hid h2
      have hne : ((v.length : Int) != (m.length : Int)) = false := by simp; omega
      clear h2
      go_wp2_with fail
      refine (l1All_any a2 c2 v _ _ w hn Hv.out).mono ?_
      rintro e w1 ⟨ha, rfl⟩
      by_cases h3 : allIn v 0 1000000
      · obtain rfl := ha.is h3
        have H3 := Lib.hid h3
        clear ha h3
        go_wp2
        go_loopw [26] (fun x wr => ∃ a : Nat, a ≤ m.length ∧ x = .int .i64 a ∧ (∀ i, i < a → (gr m i).length = m.length ∧ allIn (gr m i) 0 100) ∧ Below w.heap.size w wr) (fun x _ => m.length - (intOf x).toNat)
        case atStart => exact ⟨0, Nat.zero_le _, rfl, fun i hi => absurd hi (by omega), Below.refl _ _⟩
        case round =>
          obtain ⟨a, ha, rfl, hd, hbr⟩ := hrel
          have Hd := Lib.hid hd
          have Hbr := Lib.hid hbr
          clear hd hbr
          by_cases hal : a < m.length
          · obtain ⟨b1, o1, r1, d1, e1, hc1, hx1, hd1, hd2⟩ := Hm.out.below Hbr.out a hal
            have hrs := Hs.out.2 a hal
            have CA := Lib.hid (l1All_any r1 d1 (gr m a) 0 100 wr hrs hx1)
            have HN := Lib.hid (fun (h : ¬((gr m a).length = m.length ∧ allIn (gr m a) 0 100)) (h2 : applyOk m v) => h (h2.1.2 a hal))
            have HY := Lib.hid (show ((gr m a).length = m.length ∧ allIn (gr m a) 0 100) → ∀ i, i < a + 1 → (gr m i).length = m.length ∧ allIn (gr m i) 0 100 from fun h i hi => by
              by_cases e : i = a
              · rw [e]; exact h
              · exact Hd.out i (by omega))
            obtain ⟨G, hG⟩ : ∃ G, G = gr m a := ⟨_, rfl⟩
            rw [← hG] at hc1 CA hrs HN HY hd1
            have hgl : G.length ≤ 9223372036854775807 := by omega
            subst e1
            clear hG hx1 hd1 hd2
            by_cases hl : G.length = m.length
            · have Hl := Lib.hid hl
              have hne2 : ((G.length : Int) != (m.length : Int)) = false := by simp; omega
              clear hl
              go_wp2_with fail
              refine CA.out.mono ?_
              rintro e w5 ⟨hA, rfl⟩
              by_cases hin : allIn G 0 100
              · obtain rfl := hA.is hin
                have HY2 := Lib.hid (HY.out ⟨Hl.out, hin⟩)
                clear hA hin
                go_wp2
                go_roundw
                case rel => exact ⟨a + 1, by omega, by go_num, HY2.out, Hbr.out⟩
                case measure => simp [intOf]; omega
              · obtain rfl := hA.isnt hin
                have HN2 := Lib.hid (HN.out fun h => hin h.2)
                clear hA hin
                go_wp2
                go_ret2
                exact ⟨LRes.no HN2.out, Hbr.out⟩
            · have hne2 : ((G.length : Int) != (m.length : Int)) = true := by simp; omega
              have HN2 := Lib.hid (HN.out fun h => hl h.1)
              clear hl
              go_wp2
              go_ret2
              exact ⟨LRes.no HN2.out, Hbr.out⟩
          · obtain rfl : a = m.length := by omega
            have Hok := Lib.hid (show applyOk m v from ⟨⟨H1.out, Hd.out⟩, H2.out, H3.out⟩)
            go_wp2_with fail
            refine (syApply_any ao a2 c c2 m v wr Hok.out (Hm.out.below Hbr.out) (Hv.out.below Hbr.out)).mono ?_
            rintro e w5 ⟨u, rfl, hu, hb⟩
            have Hu := Lib.hid (hu.base Hbr.out.size)
            have Hb := Lib.hid (Hbr.out.trans (hb.mono Hbr.out.size))
            clear hu hb
            go_wp2
            go_ret2
            exact ⟨LRes.yes Hok.out Hu.out, Hb.out⟩
      · obtain rfl := ha.isnt h3
        have H3 := Lib.hid h3
        clear ha h3
        go_wp2
        go_ret2
        exact ⟨LRes.no fun h => H3.out h.2.2, Below.refl _ _⟩
    · have H2 := Lib.hid h2
      have hne : ((v.length : Int) != (m.length : Int)) = true := by simp; omega
      clear h2
      go_wp2
      go_ret2
      exact ⟨LRes.no fun h => H2.out h.2.1, Below.refl _ _⟩
  · obtain rfl := ha.isnt h1
    have H1 := Lib.hid (show ¬(1 ≤ m.length ∧ m.length ≤ 14) by omega)
    clear ha h1
    go_wp2
    go_ret2
    exact ⟨LRes.no fun h => H1.out h.1.1, Below.refl _ _⟩

/-- as many small numbers as there are patterns -/
def fixIn (n : Int) (v : List Int) : Prop := (1 ≤ n ∧ n ≤ 4) ∧ v.length = catN n.toNat ∧ allIn v 0 1000000
/-- the sum of all operators makes each number 2 n times greater -/
def isFix (n : Nat) (v : List Int) : Prop := ∀ a, a < v.length → gi (appK (sumT (patP 6 n)) v v.length) a = 2 * (n : Int) * gi v a
theorem sumT_len (l : List (List Int)) : (sumT l).length = l.length := tab_len _ _ _
theorem sumT_ok {n : Nat} (h1 : 1 ≤ n) (h4 : n ≤ 4) {v : List Int} (hl : v.length = (patP 6 n).length) (hv : allIn v 0 1000000) : applyOk (sumT (patP 6 n)) v := by
  have h14 : (patP 6 n).length ≤ 14 := catN_le n (by omega)
  have hp : 1 ≤ (patP 6 n).length := catN_pos n (by omega)
  refine ⟨⟨by rw [sumT_len]; omega, fun i hi => ?_⟩, by rw [sumT_len]; exact hl, hv⟩
  rw [sumT_at h1 (by omega)] at hi ⊢
  rw [tab_len] at hi ⊢
  refine ⟨tab_row hi, fun j hj => ?_⟩
  rw [tab_row hi] at hj
  rw [gi_tab hi hj]
  have := sumN_in (patP 6 n) (2 * n) i j
  omega
theorem mul2_bd {n : Nat} {y : Int} (h4 : n ≤ 4) (h2 : 0 ≤ y ∧ y ≤ 1000000) : 0 ≤ 2 * (n : Int) * y ∧ 2 * (n : Int) * y ≤ 8000000 := by
  have h := mul_bd (x := 2 * (n : Int)) (y := y) (by omega) h2
  refine ⟨h.1, ?_⟩
  have := Int.mul_le_mul_of_nonneg_right (a := 2 * (n : Int)) (b := 8) (c := y) (by omega) h2.1
  omega

set_option maxRecDepth 100000 in
set_option maxHeartbeats 1600000 in
theorem syFixed_any (n : Nat) (ao : Option Addr) (c : Nat) (v : List Int) (w : World) (h1 : 1 ≤ n) (h4 : n ≤ 4) (hl : v.length = (patP 6 n).length) (hv : allIn v 0 1000000) (hx : IntsAt w ao v) :
    Calls Try.prog 81 #[.int .i64 (n : Int), .slice ao v.length c] w fun e w' => Ans (isFix n v) e ∧ Below w.heap.size w w' := by
  have Hok := Lib.hid (sumT_ok h1 h4 hl hv)
  have CS := Lib.hid (sySum_any n w h1 h4)
  have h14 : v.length ≤ 14 := by rw [hl]; exact catN_le n (by omega)
  have hvm : v.length ≤ 9223372036854775807 := by omega
  have Hl := Lib.hid (show v.length = (sumT (patP 6 n)).length by rw [sumT_len]; exact hl)
  have HI := Lib.hid (show isFix n v ↔ ∀ a, a < v.length → gi (appK (sumT (patP 6 n)) v v.length) a = 2 * (n : Int) * gi v a from Iff.rfl)
  obtain ⟨m, hm⟩ : ∃ m, m = sumT (patP 6 n) := ⟨_, rfl⟩
  rw [← hm] at Hok CS Hl HI
  have Hv := Lib.hid hv
  have Hx := Lib.hid hx
  clear hl hv hx hm
  go_enter Try.func81, Try.ntmps81
  go_wp2_with fail
  refine CS.out.mono ?_
  rintro e w1 ⟨t, rfl, ht, hb⟩
  obtain ⟨ta, tc, rfl, _, _, hm⟩ := ht.read
  have Hb := Lib.hid hb
  have CA := Lib.hid (syApply_any ta ao tc c m v w1 Hok.out hm (Hx.out.below hb))
  rw [← Hl.out] at CA ⊢
  clear ht hb hm CS
  go_wp2_with fail
  refine CA.out.mono ?_
  rintro e w2 ⟨u, rfl, hu, hb⟩
  obtain ⟨ua, uc, hue, _, _, hx⟩ := hu.read
  rw [appK_len] at hue
  subst hue
  have Hu := Lib.hid hx
  have Hb2 := Lib.hid (Hb.out.trans (hb.mono Hb.out.size))
  clear hu hb hx CA
  go_wp2
  go_loopw [12] (fun x wr => ∃ a : Nat, a ≤ v.length ∧ x = .int .i64 a ∧ (∀ i, i < a → gi (appK m v v.length) i = 2 * (n : Int) * gi v i) ∧ Q w2 wr) (fun x _ => v.length - (intOf x).toNat)
  case atStart => exact ⟨0, Nat.zero_le _, rfl, fun i hi => absurd hi (by omega), Q.refl _⟩
  case round =>
    obtain ⟨a, ha, rfl, hd, hq⟩ := hrel
    have Hd := Lib.hid hd
    have Hq := Lib.hid hq
    clear hd hq
    by_cases hal : a < v.length
    · obtain ⟨b1, o1, rfl, hc1⟩ := Hu.out.below (Hq.out.below _) a (by rw [appK_len]; exact hal)
      obtain ⟨b2, o2, rfl, hc2⟩ := Hx.out.below (Hb2.out.trans (Hq.out.below _)) a hal
      have hbd := mul2_bd h4 (Hv.out a hal)
      have HN := Lib.hid (fun (h : ¬ gi (appK m v v.length) a = 2 * (n : Int) * gi v a) (h2 : isFix n v) => h (HI.out.1 h2 a hal))
      have HY := Lib.hid (show gi (appK m v v.length) a = 2 * (n : Int) * gi v a → ∀ i, i < a + 1 → gi (appK m v v.length) i = 2 * (n : Int) * gi v i from fun h i hi => by
        by_cases e : i = a
        · rw [e]; exact h
        · exact Hd.out i (by omega))
      obtain ⟨x, hx⟩ : ∃ x, x = gi (appK m v v.length) a := ⟨_, rfl⟩
      obtain ⟨y, hy⟩ : ∃ y, y = gi v a := ⟨_, rfl⟩
      rw [← hx] at hc1 HN HY
      rw [← hy] at hc2 hbd HN HY
      obtain ⟨z, hz⟩ : ∃ z, z = 2 * (n : Int) * y := ⟨_, rfl⟩
      have hw : IntKind.i64.wrap (2 * (n : Int) * y) = z := by rw [← hz]; exact w64 (by omega)
      rw [← hz] at HN HY hbd
      clear hx hy hz
      by_cases e : x = z
      · have hne : (x != z) = false := by simp [e]
        have HY2 := Lib.hid (HY.out e)
        clear HN HY e
        go_wp2
        go_roundw
        case rel => exact ⟨a + 1, by omega, by go_num, HY2.out, Hq.out⟩
        case measure => simp [intOf]; omega
      · have hne : (x != z) = true := by simp [e]
        have HN2 := Lib.hid (HN.out e)
        have HB := Lib.hid (Hb2.out.trans (Hq.out.below _))
        clear HN HY e
        go_wp2
        go_ret
        exact ⟨Ans.no HN2.out, HB.out⟩
    · obtain rfl : a = v.length := by omega
      have HB := Lib.hid (Hb2.out.trans (Hq.out.below _))
      go_wp2
      go_ret
      exact ⟨Ans.yes (HI.out.2 Hd.out), HB.out⟩

set_option maxRecDepth 100000 in
set_option maxHeartbeats 800000 in
theorem specIsFixed_any (n : Int) (ao : Option Addr) (c : Nat) (v : List Int) (w : World) (_ : -9223372036854775808 ≤ n ∧ n ≤ 9223372036854775807) (hn : v.length ≤ 1048576) (hx : IntsAt w ao v) :
    Calls Try.prog 43 #[.int .i64 n, .slice ao v.length c] w fun e w' => BRes (fixIn n v) (isFix n.toNat v) e ∧ Below w.heap.size w w' := by
  have hvm : v.length ≤ 9223372036854775807 := by omega
  by_cases hN : 1 ≤ n ∧ n ≤ 4
  · have Hn := Lib.hid hN
    obtain ⟨N, rfl⟩ : ∃ N : Nat, n = N := ⟨n.toNat, by omega⟩
    have h1 : 1 ≤ N := by omega
    have h4 : N ≤ 4 := by omega
    have CL := Lib.hid (loAll4_any N w h4)
    have HF := Lib.hid (fun w hl hv hx => syFixed_any N ao c v w h1 h4 hl hv hx)
    have HI := Lib.hid (show fixIn N v ↔ v.length = (patP 6 N).length ∧ allIn v 0 1000000 from ⟨fun h => h.2, fun h => ⟨hN, h⟩⟩)
    have h14 : (patP 6 N).length ≤ 14 := catN_le N (by omega)
    obtain ⟨L, hL⟩ : ∃ L, L = (patP 6 N).length := ⟨_, rfl⟩
    rw [← hL] at CL HI h14 HF
    have Hx := Lib.hid hx
    rw [Int.toNat_natCast]
    clear hN hx hL
    go_enter Try.func43, Try.ntmps43
    go_wp2_with fail
    refine (syPairs_any _ w).mono ?_
    rintro e w1 ⟨ha, rfl⟩
    obtain rfl := ha.is Hn.out
    clear ha
    go_wp2_with fail
    refine CL.out.mono ?_
    rintro e w2 ⟨la, lc, rfl, hv, hb⟩
    have Hb := Lib.hid hb
    clear hv hb CL
    by_cases hl : v.length = L
    · have Hl := Lib.hid hl
      have hne : ((v.length : Int) != (L : Int)) = false := by simp; omega
      clear hl
      go_wp2_with fail
      refine (l1All_any ao c v _ _ w2 hn (Hx.out.below Hb.out)).mono ?_
      rintro e w1 ⟨ha, rfl⟩
      by_cases h3 : allIn v 0 1000000
      · obtain rfl := ha.is h3
        have H3 := Lib.hid h3
        have CF := Lib.hid (HF.out w2 Hl.out h3 (Hx.out.below Hb.out))
        have Hok := Lib.hid (HI.out.2 ⟨Hl.out, h3⟩)
        clear ha h3 hne
        go_wp2_with fail
        refine CF.out.mono ?_
        rintro e w5 ⟨⟨b, rfl, hb2⟩, hb⟩
        have HB2 := Lib.hid hb2
        have HB := Lib.hid (Hb.out.trans (hb.mono Hb.out.size))
        clear hb2 hb CF
        go_wp2
        go_ret2
        exact ⟨⟨b, true, rfl, .inl ⟨Hok.out, rfl, HB2.out⟩⟩, HB.out⟩
      · obtain rfl := ha.isnt h3
        have H3 := Lib.hid h3
        clear ha h3 hne
        go_wp2
        go_ret2
        exact ⟨⟨false, false, rfl, .inr ⟨fun h => H3.out h.2.2, rfl, rfl⟩⟩, Hb.out⟩
    · have Hl := Lib.hid (show ¬fixIn N v from fun h => hl (HI.out.1 h).1)
      have hne : ((v.length : Int) != (L : Int)) = true := by simp; omega
      clear hl
      go_wp2
      go_ret2
      exact ⟨⟨false, false, rfl, .inr ⟨Hl.out, rfl, rfl⟩⟩, Hb.out⟩
  · have Hn := Lib.hid hN
    clear hN hx
    go_enter Try.func43, Try.ntmps43
    go_wp2_with fail
    refine (syPairs_any _ w).mono ?_
    rintro e w1 ⟨ha, rfl⟩
    obtain rfl := ha.isnt Hn.out
    clear ha
    go_wp2
    go_ret2
    exact ⟨⟨false, false, rfl, .inr ⟨fun h => Hn.out h.1, rfl, rfl⟩⟩, Below.refl _ _⟩
end Go.Proofs.Ytncpoljjfhmkeaa

namespace Go.Proofs.Ytncpoljjfhmkeaa
open Go.RowKit

def pM : Int := 1000000007
/-- the first t rows are told by F, the others stay -/
def mixR (F : Nat → List Int) (L : List (List Int)) (t : Nat) : List (List Int) := (List.range L.length).map fun r => if r < t then F r else gr L r
/-- the first b numbers are told by F, the others stay -/
def mixL (F : Nat → Int) (row : List Int) (b : Nat) : List Int := (List.range row.length).map fun c => if c < b then F c else gi row c
theorem mixR_len (F : Nat → List Int) (L : List (List Int)) (t : Nat) : (mixR F L t).length = L.length := by simp [mixR]
theorem mixL_len (F : Nat → Int) (row : List Int) (b : Nat) : (mixL F row b).length = row.length := by simp [mixL]
theorem gr_mixR {F : Nat → List Int} {L : List (List Int)} {t r : Nat} (h : r < L.length) : gr (mixR F L t) r = if r < t then F r else gr L r := by
  rw [gr_lt (by rw [mixR_len]; exact h)]
  simp [mixR]
theorem gi_mixL {F : Nat → Int} {row : List Int} {b c : Nat} (h : c < row.length) : gi (mixL F row b) c = if c < b then F c else gi row c := gi_row h
theorem gr_set {L : List (List Int)} {i j : Nat} {x : List Int} (h : i < L.length) : gr (L.set i x) j = if j = i then x else gr L j := by
  simp only [gr, List.getD, List.getElem?_set]
  by_cases e : i = j
  · subst e; simp [h]
  · rw [if_neg e, if_neg (fun h => e h.symm)]
theorem mixR_zero (F : Nat → List Int) (L : List (List Int)) : mixR F L 0 = L := ext_gr (mixR_len _ _ _) fun r hr => by
  rw [mixR_len] at hr
  rw [gr_mixR hr, if_neg (by omega)]
theorem mixL_zero (F : Nat → Int) (row : List Int) : mixL F row 0 = row := ext_gi (mixL_len _ _ _) fun r hr => by
  rw [mixL_len] at hr
  rw [gi_mixL hr, if_neg (by omega)]
theorem mixR_step {F : Nat → List Int} {L : List (List Int)} {t : Nat} (h : t < L.length) : (mixR F L t).set t (F t) = mixR F L (t + 1) := by
  refine ext_gr (by rw [List.length_set, mixR_len, mixR_len]) fun r hr => ?_
  rw [List.length_set, mixR_len] at hr
  rw [gr_set (by rw [mixR_len]; exact h), gr_mixR hr, gr_mixR hr]
  by_cases e : r = t
  · subst e; rw [if_pos rfl, if_pos (Nat.lt_succ_self r)]
  · rw [if_neg e]
    by_cases e2 : r < t
    · rw [if_pos e2, if_pos (show r < t + 1 by omega)]
    · rw [if_neg e2, if_neg (show ¬r < t + 1 by omega)]
theorem mixL_step {F : Nat → Int} {row : List Int} {b : Nat} (h : b < row.length) : (mixL F row b).set b (F b) = mixL F row (b + 1) := by
  refine ext_gi (by rw [List.length_set, mixL_len, mixL_len]) fun r hr => ?_
  rw [List.length_set, mixL_len] at hr
  rw [gi_set (by rw [mixL_len]; exact h), gi_mixL hr, gi_mixL hr]
  by_cases e : r = b
  · subst e; rw [if_pos rfl, if_pos (Nat.lt_succ_self r)]
  · rw [if_neg e]
    by_cases e2 : r < b
    · rw [if_pos e2, if_pos (show r < b + 1 by omega)]
    · rw [if_neg e2, if_neg (show ¬r < b + 1 by omega)]

/-- 2 n taken off the numbers of the diagonal -/
def dgF (L : List (List Int)) (c : Int) (a : Nat) : List Int := (gr L a).set a ((gi (gr L a) a - c + pM) % pM)
/-- the power -/
def powF : Nat → Nat → Int → Int → Int
  | 0, _, out, _ => out
  | f + 1, k, out, x => if k = 0 then out else powF f (k / 2) (if k % 2 = 1 then out * x % pM else out) (x * x % pM)
def invF (x : Int) : Int := powF 31 1000000005 1 x
/-- the row of the pivot -/
def pivF (L : List (List Int)) (k : Nat) : Nat → Nat → Nat
  | 0, a => a
  | f + 1, a => if gi (gr L a) k = 0 then pivF L k f (a + 1) else a
def swpL (L : List (List Int)) (i j : Nat) : List (List Int) := (L.set i (gr L j)).set j (gr L i)
def nmF (row : List Int) (y : Int) (c : Nat) : Int := gi row c * y % pM
def elF (row piv : List Int) (x : Int) (c : Nat) : Int := (gi row c + (pM - x) * gi piv c) % pM
def elR (L : List (List Int)) (k a : Nat) : List Int := if a = k then gr L a else mixL (elF (gr L a) (gr L k) (gi (gr L a) k)) (gr L a) L.length
/-- one column -/
def colS (L : List (List Int)) (k : Nat) : List (List Int) := swpL L k (pivF L k L.length k)
def colN (L : List (List Int)) (k : Nat) : List (List Int) := L.set k (mixL (nmF (gr L k) (invF (gi (gr L k) k))) (gr L k) L.length)
def colE (L : List (List Int)) (k : Nat) : List (List Int) := mixR (elR L k) L L.length
def colK (L : List (List Int)) (k : Nat) : List (List Int) := colE (colN (colS L k) k) k
/-- .. the first k columns, with the look whether there is a pivot -/
def solK (L : List (List Int)) : Nat → List (List Int) × Bool
  | 0 => (L, true)
  | k + 1 => (colK (solK L k).1 k, (solK L k).2 && (decide (pivF (solK L k).1 k (solK L k).1.length k < (solK L k).1.length) && decide (gi (gr (solK L k).1 (pivF (solK L k).1 k (solK L k).1.length k)) k ≠ 0)))
def outF (L : List (List Int)) (N : Nat) (k : Nat) : Int := (pM - gi (gr L k) (N - 1)) % pM
def outL (L : List (List Int)) (N : Nat) : List Int := (List.range (N - 1)).map (outF L N) ++ [1]
def sysL (n : Nat) : List (List Int) := mixR (dgF (sumT (patP 6 n)) (2 * n)) (sumT (patP 6 n)) (catN n)
def sol : Nat → List Int
  | 1 => [1]
  | 2 => [1, 1]
  | 3 => [2, 1, 1, 2, 1]
  | 4 => [7, 3, 3, 3, 1, 3, 1, 3, 1, 7, 3, 3, 3, 1]
  | _ => []
set_option maxRecDepth 100000 in
theorem sol_all : ∀ n, n < 5 → n = 0 ∨ ((solK (sysL n) (catN n - 1)).2 && outL (solK (sysL n) (catN n - 1)).1 (catN n) == sol n) = true := by decide +kernel
end Go.Proofs.Ytncpoljjfhmkeaa

namespace Go.Proofs.Ytncpoljjfhmkeaa
open Go.RowKit

/-- a ratio of a row, a row of a table -/
def gq (row : List (Nat × Nat)) (j : Nat) : Nat × Nat := row.getD j (0, 0)
def gqr (m : List (List (Nat × Nat))) (i : Nat) : List (Nat × Nat) := m.getD i []
def tabQ (N : Nat) (f : Nat → Nat → Nat × Nat) : List (List (Nat × Nat)) := (List.range N).map fun r => (List.range N).map fun c => f r c
def okQ (a : Nat × Nat) : Bool := decide (a.1 ≤ 1000000) && decide (1 ≤ a.2) && decide (a.2 ≤ 1000000)
/-- what comes to the last rank, from the first r ranks -/
def leaQ (m : List (List (Nat × Nat))) (last : Nat) : Nat → Nat × Nat
  | 0 => (0, 1)
  | r + 1 => pl (leaQ m last r) (gq (gqr m r) last)
def partQ (m : List (List (Nat × Nat))) (last c : Nat) : Nat × Nat := ov (gq (gqr m last) c) (leaQ m last last)
def newQ (m : List (List (Nat × Nat))) (last r c : Nat) : Nat × Nat := pl (gq (gqr m r) c) (tm (gq (gqr m r) last) (partQ m last c))
/-- the table up to the column a, and in it up to the row b -/
def tkF (m : List (List (Nat × Nat))) (last a b r c : Nat) : Nat × Nat :=
  if r < last ∧ c < last ∧ (c < a ∨ (c = a ∧ r < b)) then newQ m last r c
  else if r = last ∧ c < last ∧ c < a then partQ m last c
  else gq (gqr m r) c
def tkQ (N : Nat) (m : List (List (Nat × Nat))) (last : Nat) : List (List (Nat × Nat)) := tabQ N (tkF m last last 0)
/-- all numbers stay small -/
def okT (N : Nat) (m : List (List (Nat × Nat))) : Bool := (List.range N).all fun r => (List.range N).all fun c => okQ (gq (gqr m r) c)
def okL (m : List (List (Nat × Nat))) (last : Nat) : Bool := ((List.range (last + 1)).all fun r => okQ (leaQ m last r)) && decide (1 ≤ (leaQ m last last).1)
/-- the last k ranks taken out, with the look -/
def elimQ (N : Nat) (m : List (List (Nat × Nat))) : Nat → List (List (Nat × Nat)) × Bool
  | 0 => (m, true)
  | k + 1 => (tkQ N (elimQ N m k).1 (N - 1 - k), (elimQ N m k).2 && okT N (elimQ N m k).1 && okL (elimQ N m k).1 (N - 1 - k))
/-- the parts that a rank has of those before it -/
def shQ (parts before : List (Nat × Nat)) : Nat → Nat × Nat
  | 0 => (0, 1)
  | k + 1 => pl (shQ parts before k) (tm (gq parts k) (gq before k))
def vecQ (m : List (List (Nat × Nat))) : Nat → List (Nat × Nat) × Bool
  | 0 => ([(1, 1)], true)
  | k + 1 => ((vecQ m k).1 ++ [shQ (gqr m (k + 1)) (vecQ m k).1 (k + 1)], (vecQ m k).2 && ((List.range (k + 2)).all fun j => okQ (shQ (gqr m (k + 1)) (vecQ m k).1 j)))
/-- the least common multiple of the denominators, and the whole numbers -/
def mulQ (v : List (Nat × Nat)) : Nat → Nat
  | 0 => 1
  | k + 1 => mulQ v k * ((gq v k).2 / Nat.gcd (mulQ v k) (gq v k).2)
def wholeQ (v : List (Nat × Nat)) : List Int := v.map fun a => ((mulQ v v.length / a.2 * a.1 : Nat) : Int)
def sysQ (n : Nat) : List (List (Nat × Nat)) := tabQ (catN n) fun r c => ((sumN (patP 6 n) (2 * n) r c).toNat, 1)
set_option maxRecDepth 100000 in
theorem solQ_all : ∀ n, n < 5 → n = 0 ∨ ((elimQ (catN n) (sysQ n) (catN n - 1)).2 && okT (catN n) (elimQ (catN n) (sysQ n) (catN n - 1)).1
  && (vecQ (elimQ (catN n) (sysQ n) (catN n - 1)).1 (catN n - 1)).2
  && ((List.range (catN n + 1)).all fun k => decide (mulQ (vecQ (elimQ (catN n) (sysQ n) (catN n - 1)).1 (catN n - 1)).1 k ≤ 1000000))
  && wholeQ (vecQ (elimQ (catN n) (sysQ n) (catN n - 1)).1 (catN n - 1)).1 == sol n) = true := by decide +kernel
end Go.Proofs.Ytncpoljjfhmkeaa

namespace Go.Proofs.Ytncpoljjfhmkeaa
open Go.RowKit

theorem frozen_below {w w' : World} {a : Addr} (h : w.frozen? a = false) (hl : a.block < w.heap.size) (hb : Below w.heap.size w w') : w'.frozen? a = false := by
  unfold World.frozen? at h ⊢
  rw [hb.block a.block hl]
  exact h

/-- a table of ratios: N rows of N, the first k of them made and told by f -/
structure Tq (w : World) (B g N k : Nat) (rw' : Nat → Nat) (f : Nat → Nat → Nat × Nat) : Prop where
  top : ∀ i, i < k → w.cell? ⟨g, i, none⟩ = some (.slice (some ⟨rw' i, 0, none⟩) N N)
  rest : ∀ i, i < N → ∃ u, w.cell? ⟨g, i, none⟩ = some u
  topf : ∀ i, w.frozen? ⟨g, i, none⟩ = false
  num : ∀ i j, i < k → j < N → w.cell? ⟨rw' i, j * 2, none⟩ = some (.int .i64 ((f i j).1 : Int))
  den : ∀ i j, i < k → j < N → w.cell? ⟨rw' i, j * 2 + 1, none⟩ = some (.int .i64 ((f i j).2 : Int))
  fr : ∀ i q, i < k → w.frozen? ⟨rw' i, q, none⟩ = false
  inj : ∀ i j, i < k → j < k → i ≠ j → rw' i ≠ rw' j
  base : ∀ i, i < k → B ≤ rw' i ∧ rw' i ≠ g ∧ rw' i < w.heap.size
  lt : B ≤ g ∧ g < w.heap.size
theorem Tq.below {w w' : World} {B g N k : Nat} {rw' : Nat → Nat} {f : Nat → Nat → Nat × Nat} (h : Tq w B g N k rw' f) (hb : Below w.heap.size w w') : Tq w' B g N k rw' f :=
  ⟨fun i hi => cell_below (h.top i hi) hb, fun i hi => by obtain ⟨u, hu⟩ := h.rest i hi; exact ⟨u, cell_below hu hb⟩, fun i => frozen_below (h.topf i) h.lt.2 hb,
   fun i j hi hj => cell_below (h.num i j hi hj) hb, fun i j hi hj => cell_below (h.den i j hi hj) hb, fun i q hi => frozen_below (h.fr i q hi) (h.base i hi).2.2 hb, h.inj,
   fun i hi => ⟨(h.base i hi).1, (h.base i hi).2.1, Nat.lt_of_lt_of_le (h.base i hi).2.2 hb.size⟩, ⟨h.lt.1, Nat.lt_of_lt_of_le h.lt.2 hb.size⟩⟩
theorem size_set2 (w : World) (a b : Addr) (u v : Value) : ((w.setCell a u).setCell b v).heap.size = w.heap.size := by simp [World.setCell]
/-- a ratio is stored -/
theorem Tq.store {w : World} {B g N k : Nat} {rw' : Nat → Nat} {f : Nat → Nat → Nat × Nat} (h : Tq w B g N k rw' f) {i j : Nat} (hi : i < k) (hj : j < N) (x y : Nat) :
    Tq ((w.setCell ⟨rw' i, j * 2, none⟩ (.int .i64 (x : Int))).setCell ⟨rw' i, j * 2 + 1, none⟩ (.int .i64 (y : Int))) B g N k rw' (fun a b => if a = i ∧ b = j then (x, y) else f a b) := by
  have hg := (h.base i hi).2.1
  have oth : ∀ (b o : Nat) (v : Value), w.cell? ⟨b, o, none⟩ = some v → (b ≠ rw' i ∨ (o ≠ j * 2 ∧ o ≠ j * 2 + 1)) → ((w.setCell ⟨rw' i, j * 2, none⟩ (.int .i64 (x : Int))).setCell ⟨rw' i, j * 2 + 1, none⟩ (.int .i64 (y : Int))).cell? ⟨b, o, none⟩ = some v := fun b o v hv hne => by
    rw [World.cell?_setCell_other _ _ _ _ (by intro e; simp only [Addr.mk.injEq, and_true] at e; omega), World.cell?_setCell_other _ _ _ _ (by intro e; simp only [Addr.mk.injEq, and_true] at e; omega)]
    exact hv
  have fro : ∀ a, ((w.setCell ⟨rw' i, j * 2, none⟩ (.int .i64 (x : Int))).setCell ⟨rw' i, j * 2 + 1, none⟩ (.int .i64 (y : Int))).frozen? a = w.frozen? a := fun a => by rw [World.frozen?_setCell, World.frozen?_setCell]
  refine ⟨fun a ha => oth _ _ _ (h.top a ha) (.inl (fun e => hg e.symm)), fun a ha => ?_, fun a => by rw [fro]; exact h.topf a, fun a b ha hb => ?_, fun a b ha hb => ?_, fun a q ha => by rw [fro]; exact h.fr a q ha, h.inj, fun a ha => ?_, ?_⟩
  · obtain ⟨u, hu⟩ := h.rest a ha
    exact ⟨u, oth _ _ _ hu (.inl (fun e => hg e.symm))⟩
  · by_cases e : a = i ∧ b = j
    · obtain ⟨rfl, rfl⟩ := e
      rw [if_pos ⟨rfl, rfl⟩, World.cell?_setCell_other _ _ _ _ (by intro e; simp only [Addr.mk.injEq, and_true] at e; omega)]
      exact World.cell?_setCell_same _ _ _ (h.num a b ha hb)
    · rw [if_neg e]
      refine oth _ _ _ (h.num a b ha hb) ?_
      by_cases e2 : a = i
      · right; have : b ≠ j := fun e3 => e ⟨e2, e3⟩; omega
      · left; exact h.inj a i ha hi e2
  · by_cases e : a = i ∧ b = j
    · obtain ⟨rfl, rfl⟩ := e
      rw [if_pos ⟨rfl, rfl⟩]
      exact World.cell?_setCell_same _ _ _ (by rw [World.cell?_setCell_other _ _ _ _ (by intro e; simp only [Addr.mk.injEq, and_true] at e; omega)]; exact h.den a b ha hb)
    · rw [if_neg e]
      refine oth _ _ _ (h.den a b ha hb) ?_
      by_cases e2 : a = i
      · right; have : b ≠ j := fun e3 => e ⟨e2, e3⟩; omega
      · left; exact h.inj a i ha hi e2
  · obtain ⟨h1, h2, h3⟩ := h.base a ha
    exact ⟨h1, h2, by rw [size_set2]; exact h3⟩
  · exact ⟨h.lt.1, by rw [size_set2]; exact h.lt.2⟩
theorem Tq.congr {w : World} {B g N k : Nat} {rw' : Nat → Nat} {f f' : Nat → Nat → Nat × Nat} (h : Tq w B g N k rw' f) (e : ∀ i j, i < k → j < N → f' i j = f i j) : Tq w B g N k rw' f' :=
  ⟨h.top, h.rest, h.topf, fun i j hi hj => by rw [e i j hi hj]; exact h.num i j hi hj, fun i j hi hj => by rw [e i j hi hj]; exact h.den i j hi hj, h.fr, h.inj, h.base, h.lt⟩
theorem Tq.drew {w : World} {B g N k : Nat} {rw' : Nat → Nat} {f : Nat → Nat → Nat × Nat} (h : Tq w B g N k rw' f) : Tq w.drew B g N k rw' f :=
  ⟨h.top, h.rest, h.topf, h.num, h.den, h.fr, h.inj, h.base, h.lt⟩

theorem Try.infob_rt : (Try.prog.info? 87).map (fun i => (i.zero, i.size, i.bytes)) = some (some (.agg (rtA (0, 0))), 2, 16) := by kernel_rfl
theorem Try.info_rts : (Try.prog.info? 70).map (fun i => (i.zero, i.size, i.bytes)) = some (some (.slice none 0 0), 1, 24) := by kernel_rfl

set_option maxRecDepth 100000 in
set_option maxHeartbeats 800000 in
theorem fixedBy1_any (v : Value) (l : List (List Int)) (k r c h : Nat) (w : World) (hl : l.length ≤ 14) (hk8 : k ≤ 8) (hr : r < l.length) (hc : c < l.length) (ht : TotAt w v l k) (hcell : w.cell? ⟨h, 0, none⟩ = some (.iface 62 v)) :
    Calls Try.prog 101 #[.int .i64 (r : Int), .int .i64 (c : Int), .pointer (some ⟨h, 0, none⟩)] w fun e w' => e = .returned (.agg (rtA ((sumN l k r c).toNat, 1))) ∧ Below w.heap.size w w' := by
  have CA := Lib.hid (fun w' (hb : Below w.heap.size w w') => ttAt_any v l k r c w' hl hk8 hr hc (ht.below hb))
  have hsn := sumN_in l k r c
  have Hcell := Lib.hid hcell
  obtain ⟨g, cp, rfl, _⟩ := ht
  have hmt := fun w' => method_tt_at (some ⟨g, 0, none⟩) k cp w'
  have hna := fun w' => ahead_tt_at (some ⟨g, 0, none⟩) k cp w'
  obtain ⟨x, hx⟩ : ∃ x : Nat, sumN l k r c = (x : Int) := ⟨(sumN l k r c).toNat, by omega⟩
  rw [hx] at CA
  have HX := Lib.hid (show ((sumN l k r c).toNat, 1) = (x, 1) by rw [hx]; rfl)
  rw [HX.out]
  clear hsn hcell hx
  go_enter Try.func101, Try.ntmps101
  go_upto_region 1 with (refine wpList_allocT rfl 87 rfl _ _ Try.info_rt ?_)
  generalize hW : World.alloc w _ = w1
  have HR := Lib.hid (show RtAt w1 w.heap.size (0, 0) by rw [← hW]; exact RtAt.new w (0, 0))
  have hb1 : Below w.heap.size w w1 := by rw [← hW]; exact (Below.refl _ w).alloc (Nat.le_refl _) _
  have HB := Lib.hid hb1
  have hc1 := cell_below Hcell.out hb1
  clear hW hb1
  go_wp2_with fail
  refine (CA.out w1 HB.out).mono ?_
  rintro e w2 ⟨rfl, hb⟩
  have HR2 := Lib.hid (HR.out.below hb)
  have HB2 := Lib.hid (HB.out.trans (hb.mono HB.out.size))
  clear hb HR CA hc1
  go_wp2_with fail
  refine (whole_any x w2).mono ?_
  rintro e w3 ⟨rfl, hb⟩
  have HR3 := Lib.hid (HR2.out.below hb)
  have HB3 := Lib.hid (HB2.out.trans (hb.mono HB2.out.size))
  clear hb HR2
  go_wp2_with (refine wpList_storeG rfl 87 _ _ rfl _ (rtA (x, 1)) _ rfl rfl HR3.out (Try.size_rt _) (rt_same _ _) (rt_one _) ?_)
  have HR4 := Lib.hid (HR3.out.setRow (x, 1))
  have HB4 := Lib.hid (below_setRowT HB3.out (Nat.le_refl _) (rtA (x, 1)))
  refine bodyPost_ret (v := .agg (rtA (x, 1))) ?_ rfl ⟨rfl, HB4.out⟩
  exact results_cell_one rfl _ _ w.heap.size _ rfl (Try.load_rt HR4.out)
end Go.Proofs.Ytncpoljjfhmkeaa

