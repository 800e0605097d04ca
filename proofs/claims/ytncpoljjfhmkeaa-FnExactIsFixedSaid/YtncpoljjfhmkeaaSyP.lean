/- Contracts of the model: operators applied to vectors, fixed vectors. Conditions: lengths up to 2^20, numbers of an int. -/
import Derived.Test.YtncpoljjfhmkeaaSyO
namespace Go.Proofs.Ytncpoljjfhmkeaa
open Go.RowKit

set_option maxRecDepth 100000 in
set_option maxHeartbeats 800000 in
theorem specSumOperator_any (n : Int) (w : World) (_ : -9223372036854775808 ≤ n ∧ n ≤ 9223372036854775807) :
    Calls Try.prog 35 #[.int .i64 n] w fun e w' => MRes (1 ≤ n ∧ n ≤ 4) (sumT (patP 6 n.toNat)) w' w.heap.size e ∧ Below w.heap.size w w' := by
  go_enter Try.func35, Try.ntmps35
  go_wp2_with fail
  refine (syPairs_any _ w).mono ?_
  rintro e w1 ⟨ha, rfl⟩
  by_cases hn : 1 ≤ n ∧ n ≤ 4
  · obtain rfl := ha.is hn
    have Hn := Lib.hid hn
    have C := sySum_any n.toNat w (by omega) (by omega)
    rw [Int.toNat_of_nonneg (by omega)] at C
    have C := Lib.hid C
    clear ha hn
    go_wp2_with fail
    refine C.out.mono ?_
    rintro e w2 ⟨v, rfl, hv, hb⟩
    have Hv := Lib.hid hv
    have Hb := Lib.hid hb
    clear hv hb
    go_wp2
    go_ret2
    exact ⟨MRes.yes Hn.out Hv.out, Hb.out⟩
  · obtain rfl := ha.isnt hn
    have Hn := Lib.hid hn
    clear ha hn
    go_wp2
    go_ret2
    exact ⟨MRes.no Hn.out, Below.refl _ _⟩

/-- the sum of the products of the first k numbers -/
def dotK (row v : List Int) : Nat → Int
  | 0 => 0
  | k + 1 => dotK row v k + gi row k * gi v k
/-- the image of a vector: its first k numbers, all -/
def appK (m : List (List Int)) (v : List Int) (k : Nat) : List Int := (List.range k).map fun a => dotK (gr m a) v v.length
theorem appK_len (m : List (List Int)) (v : List Int) (k : Nat) : (appK m v k).length = k := by simp [appK]
theorem appK_succ (m : List (List Int)) (v : List Int) (k : Nat) : appK m v (k + 1) = appK m v k ++ [dotK (gr m k) v v.length] := by simp [appK, List.range_succ]
theorem appK_at {m : List (List Int)} {v : List Int} {k a : Nat} (h : a < k) : gi (appK m v k) a = dotK (gr m a) v v.length := gi_row h
/-- a square table of small numbers -/
def tabOk (m : List (List Int)) : Prop := (1 ≤ m.length ∧ m.length ≤ 14) ∧ ∀ i, i < m.length → (gr m i).length = m.length ∧ allIn (gr m i) 0 100
def vecOk (m : List (List Int)) (v : List Int) : Prop := v.length = m.length ∧ allIn v 0 1000000
def applyOk (m : List (List Int)) (v : List Int) : Prop := tabOk m ∧ vecOk m v
theorem mul_bd {x y : Int} (h1 : 0 ≤ x ∧ x ≤ 100) (h2 : 0 ≤ y ∧ y ≤ 1000000) : 0 ≤ x * y ∧ x * y ≤ 100000000 :=
  ⟨Int.mul_nonneg h1.1 h2.1, Int.le_trans (Int.mul_le_mul_of_nonneg_right h1.2 h2.1) (Int.le_trans (Int.mul_le_mul_of_nonneg_left h2.2 (by omega)) (by omega))⟩
theorem dotK_bd {row v : List Int} (h1 : allIn row 0 100) (h2 : allIn v 0 1000000) : ∀ k : Nat, k ≤ row.length → k ≤ v.length → 0 ≤ dotK row v k ∧ dotK row v k ≤ (k : Int) * 100000000
  | 0, _, _ => by simp [dotK]
  | k + 1, ha, hb => by
    have := dotK_bd h1 h2 k (by omega) (by omega)
    have := mul_bd (h1 k (by omega)) (h2 k (by omega))
    unfold dotK
    omega

set_option maxRecDepth 100000 in
set_option maxHeartbeats 1600000 in
theorem syApply_any (ao a2 : Option Addr) (c c2 : Nat) (m : List (List Int)) (v : List Int) (w : World) (hok : applyOk m v) (hm : MatAt w ao m) (hv : IntsAt w a2 v) :
    Calls Try.prog 74 #[.slice ao m.length c, .slice a2 v.length c2] w fun e w' => ∃ u, e = .returned u ∧ OwnI w' w.heap.size u (appK m v m.length) ∧ Below w.heap.size w w' := by
  obtain ⟨i0, hi, hz0, hz1, hz2⟩ := info_parts Try.info_int
  obtain ⟨⟨⟨hm1, hm14⟩, hrows⟩, hvl, hvin⟩ := hok
  have Hvl := Lib.hid hvl
  have Hrows := Lib.hid hrows
  have Hvin := Lib.hid hvin
  have Hm := Lib.hid hm
  have Hv := Lib.hid hv
  obtain ⟨N, hN⟩ : ∃ N, N = m.length := ⟨_, rfl⟩
  rw [hvl, ← hN]
  rw [← hN] at hm1 hm14
  have HN := Lib.hid hN
  have hNm : N ≤ 9223372036854775807 := by omega
  clear hrows hvl hvin hm hv hN
  go_enter Try.func74, Try.ntmps74
  go_wp2
  go_loopw [5, 13] (fun u x wr => ∃ a : Nat, a ≤ N ∧ x = .int .i64 a ∧ OwnI wr w.heap.size u (appK m v a) ∧ Below w.heap.size w wr) (fun _ x _ => N - (intOf x).toNat)
  case atStart => exact ⟨0, Nat.zero_le _, rfl, OwnI.nil _ _, Below.refl _ _⟩
  case round =>
    obtain ⟨a, ha, rfl, hown, hbr⟩ := hrel
    have Hown := Lib.hid hown
    have Hbr := Lib.hid hbr
    clear hown hbr
    by_cases hal : a < N
    · obtain ⟨b1, o1, r1, d1, rfl, hc1, hx1, _, _⟩ := Hm.out.below Hbr.out a (by rw [← HN.out]; exact hal)
      obtain ⟨hrl, hrin⟩ := Hrows.out a (by rw [← HN.out]; exact hal)
      rw [hrl, ← HN.out] at hc1
      have Hx1 := Lib.hid hx1
      have Hrl := Lib.hid hrl
      have Hrin := Lib.hid hrin
      clear hrl hrin hx1
      go_wp2
      go_loop [8, 19] (fun s x => ∃ b : Nat, b ≤ N ∧ x = .int .i64 b ∧ s = .int .i64 (dotK (gr m a) v b)) (fun _ x => N - (intOf x).toNat)
      case atStart => exact ⟨0, Nat.zero_le _, rfl, rfl⟩
      case round =>
        obtain ⟨b, hb, rfl, rfl⟩ := hrel
        by_cases hbl : b < N
        · obtain ⟨b2, o2, e2, hc2⟩ := Hx1.out b (by rw [Hrl.out, ← HN.out]; exact hbl)
          obtain ⟨b3, o3, e3, hc3⟩ := Hv.out.below Hbr.out b (by rw [Hvl.out, ← HN.out]; exact hbl)
          have hb1 := dotK_bd Hrin.out Hvin.out b (by rw [Hrl.out, ← HN.out]; exact hb) (by rw [Hvl.out, ← HN.out]; exact hb)
          have hb2 := dotK_bd Hrin.out Hvin.out (b + 1) (by rw [Hrl.out, ← HN.out]; exact hbl) (by rw [Hvl.out, ← HN.out]; exact hbl)
          have hb3 := mul_bd (Hrin.out b (by rw [Hrl.out, ← HN.out]; exact hbl)) (Hvin.out b (by rw [Hvl.out, ← HN.out]; exact hbl))
          have HS := Lib.hid (show dotK (gr m a) v (b + 1) = dotK (gr m a) v b + gi (gr m a) b * gi v b from rfl)
          obtain ⟨s, hs⟩ : ∃ s, s = dotK (gr m a) v b := ⟨_, rfl⟩
          obtain ⟨x, hx⟩ : ∃ x, x = gi (gr m a) b := ⟨_, rfl⟩
          obtain ⟨y, hy⟩ : ∃ y, y = gi v b := ⟨_, rfl⟩
          rw [← hs] at hb1 HS ⊢
          rw [← hx] at hc2 hb3 HS
          rw [← hy] at hc3 hb3 HS
          obtain ⟨p, hp⟩ : ∃ p, p = x * y := ⟨_, rfl⟩
          have hw : IntKind.i64.wrap (x * y) = p := by rw [← hp]; exact w64 (by omega)
          rw [← hp] at HS hb3
          subst e2
          subst e3
          clear hs hx hy hp hb2
          go_wp2
          go_round
          case rel => exact ⟨b + 1, by omega, by go_num, by rw [HS.out]⟩
          case measure => simp [intOf]; omega
        · obtain rfl : b = N := by omega
          have HE := Lib.hid (show appK m v (a + 1) = appK m v a ++ [dotK (gr m a) v b] by rw [appK_succ, Hvl.out, ← HN.out])
          have Hal := Lib.hid (appK_len m v a)
          obtain ⟨s, hs⟩ : ∃ s, s = dotK (gr m a) v b := ⟨_, rfl⟩
          rw [← hs] at HE ⊢
          clear hs
          go_wp2_with (at_builtin; refine wpList_append_own _ rfl _ _ 22 rfl w.heap.size 3 i0 (.int .i64 0) 1 8 Try.underlying22 hi hz0 hz1 hz2 rfl (by decide) _ _ _ rfl (World.ownsRow.alloc Hown.out _) ⟨wr.heap.size, 0, none⟩ 1 1 [.int .i64 s] rfl rfl ?c1 ?c2 ?c3 ?c4 ?c5 ?_)
          case c2 => first | rfl | (intro u hu; simp at hu; subst hu; rfl)
          case c3 => have := Hal.out; unfold maxLen; omega
          case c4 => have := Hal.out; omega
          case c5 => have := Hbr.out.size; simp; omega
          intro v' w2 hown' hgrow _
          have hs := Hown.out.snoc Hbr.out.size hown' hgrow
          have Hs := Lib.hid hs.1
          have Hb2 := Lib.hid (Hbr.out.trans hs.2)
          clear hown' hgrow hs
          go_wp2
          go_roundw
          case rel => exact ⟨a + 1, by omega, by go_num, by rw [HE.out]; exact Hs.out, Hb2.out⟩
          case measure => simp [intOf]; omega
    · obtain rfl : a = N := by omega
      go_wp2
      go_ret
      exact ⟨_, rfl, Hown.out, Hbr.out⟩

set_option maxRecDepth 100000 in
set_option maxHeartbeats 1600000 in
theorem specApplyOperator_any (ao : Option Addr) (c : Nat) (m : List (List Int)) (a2 : Option Addr) (c2 : Nat) (v : List Int) (w : World) (hs : Small m) (hm : MatAt w ao m) (hn : v.length ≤ 1048576) (hv : IntsAt w a2 v) :
    Calls Try.prog 38 #[.slice ao m.length c, .slice a2 v.length c2] w fun e w' => LRes (applyOk m v) (appK m v m.length) w' w.heap.size e ∧ Below w.heap.size w w' := by
  have hml : m.length ≤ 9223372036854775807 := by have := hs.1; omega
  have hvm : v.length ≤ 9223372036854775807 := by omega
  have Hs := Lib.hid hs
  have Hm := Lib.hid hm
  have Hv := Lib.hid hv
  clear hs hm hv
  go_enter Try.func38, Try.ntmps38
  go_wp2_with fail
  refine (l1In_any _ _ _ w).mono ?_
  rintro e w1 ⟨ha, rfl⟩
  by_cases h1 : 1 ≤ (m.length : Int) ∧ (m.length : Int) ≤ 14
  · obtain rfl := ha.is h1
    have H1 := Lib.hid (show 1 ≤ m.length ∧ m.length ≤ 14 by omega)
    clear ha h1
    by_cases h2 : v.length = m.length
    · have H2 := Lib.hid h2
      have hne : ((v.length : Int) != (m.length : Int)) = false := by simp; omega
      clear h2
      go_wp2_with fail
      refine (l1All_any a2 c2 v _ _ w hn Hv.out).mono ?_
      rintro e w1 ⟨ha, rfl⟩
      by_cases h3 : allIn v 0 1000000
      · obtain rfl := ha.is h3
        have H3 := Lib.hid h3
        clear ha h3
        go_wp2
        go_loopw [26] (fun x wr => ∃ a : Nat, a ≤ m.length ∧ x = .int .i64 a ∧ (∀ i, i < a → (gr m i).length = m.length ∧ allIn (gr m i) 0 100) ∧ Below w.heap.size w wr) (fun x _ => m.length - (intOf x).toNat)
        case atStart => exact ⟨0, Nat.zero_le _, rfl, fun i hi => absurd hi (by omega), Below.refl _ _⟩
        case round =>
          obtain ⟨a, ha, rfl, hd, hbr⟩ := hrel
          have Hd := Lib.hid hd
          have Hbr := Lib.hid hbr
          clear hd hbr
          by_cases hal : a < m.length
          · obtain ⟨b1, o1, r1, d1, e1, hc1, hx1, hd1, hd2⟩ := Hm.out.below Hbr.out a hal
            have hrs := Hs.out.2 a hal
            have CA := Lib.hid (l1All_any r1 d1 (gr m a) 0 100 wr hrs hx1)
            have HN := Lib.hid (fun (h : ¬((gr m a).length = m.length ∧ allIn (gr m a) 0 100)) (h2 : applyOk m v) => h (h2.1.2 a hal))
            have HY := Lib.hid (show ((gr m a).length = m.length ∧ allIn (gr m a) 0 100) → ∀ i, i < a + 1 → (gr m i).length = m.length ∧ allIn (gr m i) 0 100 from fun h i hi => by
              by_cases e : i = a
              · rw [e]; exact h
              · exact Hd.out i (by omega))
            obtain ⟨G, hG⟩ : ∃ G, G = gr m a := ⟨_, rfl⟩
            rw [← hG] at hc1 CA hrs HN HY hd1
            have hgl : G.length ≤ 9223372036854775807 := by omega
            subst e1
            clear hG hx1 hd1 hd2
            by_cases hl : G.length = m.length
            · have Hl := Lib.hid hl
              have hne2 : ((G.length : Int) != (m.length : Int)) = false := by simp; omega
              clear hl
              go_wp2_with fail
              refine CA.out.mono ?_
              rintro e w5 ⟨hA, rfl⟩
              by_cases hin : allIn G 0 100
              · obtain rfl := hA.is hin
                have HY2 := Lib.hid (HY.out ⟨Hl.out, hin⟩)
                clear hA hin
                go_wp2
                go_roundw
                case rel => exact ⟨a + 1, by omega, by go_num, HY2.out, Hbr.out⟩
                case measure => simp [intOf]; omega
              · obtain rfl := hA.isnt hin
                have HN2 := Lib.hid (HN.out fun h => hin h.2)
                clear hA hin
                go_wp2
                go_ret2
                exact ⟨LRes.no HN2.out, Hbr.out⟩
            · have hne2 : ((G.length : Int) != (m.length : Int)) = true := by simp; omega
              have HN2 := Lib.hid (HN.out fun h => hl h.1)
              clear hl
              go_wp2
              go_ret2
              exact ⟨LRes.no HN2.out, Hbr.out⟩
          · obtain rfl : a = m.length := by omega
            have Hok := Lib.hid (show applyOk m v from ⟨⟨H1.out, Hd.out⟩, H2.out, H3.out⟩)
            go_wp2_with fail
            refine (syApply_any ao a2 c c2 m v wr Hok.out (Hm.out.below Hbr.out) (Hv.out.below Hbr.out)).mono ?_
            rintro e w5 ⟨u, rfl, hu, hb⟩
            have Hu := Lib.hid (hu.base Hbr.out.size)
            have Hb := Lib.hid (Hbr.out.trans (hb.mono Hbr.out.size))
            clear hu hb
            go_wp2
            go_ret2
            exact ⟨LRes.yes Hok.out Hu.out, Hb.out⟩
      · obtain rfl := ha.isnt h3
        have H3 := Lib.hid h3
        clear ha h3
        go_wp2
        go_ret2
        exact ⟨LRes.no fun h => H3.out h.2.2, Below.refl _ _⟩
    · have H2 := Lib.hid h2
      have hne : ((v.length : Int) != (m.length : Int)) = true := by simp; omega
      clear h2
      go_wp2
      go_ret2
      exact ⟨LRes.no fun h => H2.out h.2.1, Below.refl _ _⟩
  · obtain rfl := ha.isnt h1
    have H1 := Lib.hid (show ¬(1 ≤ m.length ∧ m.length ≤ 14) by omega)
    clear ha h1
    go_wp2
    go_ret2
    exact ⟨LRes.no fun h => H1.out h.1.1, Below.refl _ _⟩

/-- as many small numbers as there are patterns -/
def fixIn (n : Int) (v : List Int) : Prop := (1 ≤ n ∧ n ≤ 4) ∧ v.length = catN n.toNat ∧ allIn v 0 1000000
/-- the sum of all operators makes each number 2 n times greater -/
def isFix (n : Nat) (v : List Int) : Prop := ∀ a, a < v.length → gi (appK (sumT (patP 6 n)) v v.length) a = 2 * (n : Int) * gi v a
theorem sumT_len (l : List (List Int)) : (sumT l).length = l.length := tab_len _ _ _
theorem sumT_ok {n : Nat} (h1 : 1 ≤ n) (h4 : n ≤ 4) {v : List Int} (hl : v.length = (patP 6 n).length) (hv : allIn v 0 1000000) : applyOk (sumT (patP 6 n)) v := by
  have h14 : (patP 6 n).length ≤ 14 := catN_le n (by omega)
  have hp : 1 ≤ (patP 6 n).length := catN_pos n (by omega)
  refine ⟨⟨by rw [sumT_len]; omega, fun i hi => ?_⟩, by rw [sumT_len]; exact hl, hv⟩
  rw [sumT_at h1 (by omega)] at hi ⊢
  rw [tab_len] at hi ⊢
  refine ⟨tab_row hi, fun j hj => ?_⟩
  rw [tab_row hi] at hj
  rw [gi_tab hi hj]
  have := sumN_in (patP 6 n) (2 * n) i j
  omega
theorem mul2_bd {n : Nat} {y : Int} (h4 : n ≤ 4) (h2 : 0 ≤ y ∧ y ≤ 1000000) : 0 ≤ 2 * (n : Int) * y ∧ 2 * (n : Int) * y ≤ 8000000 := by
  have h := mul_bd (x := 2 * (n : Int)) (y := y) (by omega) h2
  refine ⟨h.1, ?_⟩
  have := Int.mul_le_mul_of_nonneg_right (a := 2 * (n : Int)) (b := 8) (c := y) (by omega) h2.1
  omega

set_option maxRecDepth 100000 in
set_option maxHeartbeats 1600000 in
theorem syFixed_any (n : Nat) (ao : Option Addr) (c : Nat) (v : List Int) (w : World) (h1 : 1 ≤ n) (h4 : n ≤ 4) (hl : v.length = (patP 6 n).length) (hv : allIn v 0 1000000) (hx : IntsAt w ao v) :
    Calls Try.prog 81 #[.int .i64 (n : Int), .slice ao v.length c] w fun e w' => Ans (isFix n v) e ∧ Below w.heap.size w w' := by
  have Hok := Lib.hid (sumT_ok h1 h4 hl hv)
  have CS := Lib.hid (sySum_any n w h1 h4)
  have h14 : v.length ≤ 14 := by rw [hl]; exact catN_le n (by omega)
  have hvm : v.length ≤ 9223372036854775807 := by omega
  have Hl := Lib.hid (show v.length = (sumT (patP 6 n)).length by rw [sumT_len]; exact hl)
  have HI := Lib.hid (show isFix n v ↔ ∀ a, a < v.length → gi (appK (sumT (patP 6 n)) v v.length) a = 2 * (n : Int) * gi v a from Iff.rfl)
  obtain ⟨m, hm⟩ : ∃ m, m = sumT (patP 6 n) := ⟨_, rfl⟩
  rw [← hm] at Hok CS Hl HI
  have Hv := Lib.hid hv
  have Hx := Lib.hid hx
  clear hl hv hx hm
  go_enter Try.func81, Try.ntmps81
  go_wp2_with fail
  refine CS.out.mono ?_
  rintro e w1 ⟨t, rfl, ht, hb⟩
  obtain ⟨ta, tc, rfl, _, _, hm⟩ := ht.read
  have Hb := Lib.hid hb
  have CA := Lib.hid (syApply_any ta ao tc c m v w1 Hok.out hm (Hx.out.below hb))
  rw [← Hl.out] at CA ⊢
  clear ht hb hm CS
  go_wp2_with fail
  refine CA.out.mono ?_
  rintro e w2 ⟨u, rfl, hu, hb⟩
  obtain ⟨ua, uc, hue, _, _, hx⟩ := hu.read
  rw [appK_len] at hue
  subst hue
  have Hu := Lib.hid hx
  have Hb2 := Lib.hid (Hb.out.trans (hb.mono Hb.out.size))
  clear hu hb hx CA
  go_wp2
  go_loopw [12] (fun x wr => ∃ a : Nat, a ≤ v.length ∧ x = .int .i64 a ∧ (∀ i, i < a → gi (appK m v v.length) i = 2 * (n : Int) * gi v i) ∧ Q w2 wr) (fun x _ => v.length - (intOf x).toNat)
  case atStart => exact ⟨0, Nat.zero_le _, rfl, fun i hi => absurd hi (by omega), Q.refl _⟩
  case round =>
    obtain ⟨a, ha, rfl, hd, hq⟩ := hrel
    have Hd := Lib.hid hd
    have Hq := Lib.hid hq
    clear hd hq
    by_cases hal : a < v.length
    · obtain ⟨b1, o1, rfl, hc1⟩ := Hu.out.below (Hq.out.below _) a (by rw [appK_len]; exact hal)
      obtain ⟨b2, o2, rfl, hc2⟩ := Hx.out.below (Hb2.out.trans (Hq.out.below _)) a hal
      have hbd := mul2_bd h4 (Hv.out a hal)
      have HN := Lib.hid (fun (h : ¬ gi (appK m v v.length) a = 2 * (n : Int) * gi v a) (h2 : isFix n v) => h (HI.out.1 h2 a hal))
      have HY := Lib.hid (show gi (appK m v v.length) a = 2 * (n : Int) * gi v a → ∀ i, i < a + 1 → gi (appK m v v.length) i = 2 * (n : Int) * gi v i from fun h i hi => by
        by_cases e : i = a
        · rw [e]; exact h
        · exact Hd.out i (by omega))
      obtain ⟨x, hx⟩ : ∃ x, x = gi (appK m v v.length) a := ⟨_, rfl⟩
      obtain ⟨y, hy⟩ : ∃ y, y = gi v a := ⟨_, rfl⟩
      rw [← hx] at hc1 HN HY
      rw [← hy] at hc2 hbd HN HY
      obtain ⟨z, hz⟩ : ∃ z, z = 2 * (n : Int) * y := ⟨_, rfl⟩
      have hw : IntKind.i64.wrap (2 * (n : Int) * y) = z := by rw [← hz]; exact w64 (by omega)
      rw [← hz] at HN HY hbd
      clear hx hy hz
      by_cases e : x = z
      · have hne : (x != z) = false := by simp [e]
        have HY2 := Lib.hid (HY.out e)
        clear HN HY e
        go_wp2
        go_roundw
        case rel => exact ⟨a + 1, by omega, by go_num, HY2.out, Hq.out⟩
        case measure => simp [intOf]; omega
      · have hne : (x != z) = true := by simp [e]
        have HN2 := Lib.hid (HN.out e)
        have HB := Lib.hid (Hb2.out.trans (Hq.out.below _))
        clear HN HY e
        go_wp2
        go_ret
        exact ⟨Ans.no HN2.out, HB.out⟩
    · obtain rfl : a = v.length := by omega
      have HB := Lib.hid (Hb2.out.trans (Hq.out.below _))
      go_wp2
      go_ret
      exact ⟨Ans.yes (HI.out.2 Hd.out), HB.out⟩

set_option maxRecDepth 100000 in
set_option maxHeartbeats 800000 in
theorem specIsFixed_any (n : Int) (ao : Option Addr) (c : Nat) (v : List Int) (w : World) (_ : -9223372036854775808 ≤ n ∧ n ≤ 9223372036854775807) (hn : v.length ≤ 1048576) (hx : IntsAt w ao v) :
    Calls Try.prog 43 #[.int .i64 n, .slice ao v.length c] w fun e w' => BRes (fixIn n v) (isFix n.toNat v) e ∧ Below w.heap.size w w' := by
  have hvm : v.length ≤ 9223372036854775807 := by omega
  by_cases hN : 1 ≤ n ∧ n ≤ 4
  · have Hn := Lib.hid hN
    obtain ⟨N, rfl⟩ : ∃ N : Nat, n = N := ⟨n.toNat, by omega⟩
    have h1 : 1 ≤ N := by omega
    have h4 : N ≤ 4 := by omega
    have CL := Lib.hid (loAll4_any N w h4)
    have HF := Lib.hid (fun w hl hv hx => syFixed_any N ao c v w h1 h4 hl hv hx)
    have HI := Lib.hid (show fixIn N v ↔ v.length = (patP 6 N).length ∧ allIn v 0 1000000 from ⟨fun h => h.2, fun h => ⟨hN, h⟩⟩)
    have h14 : (patP 6 N).length ≤ 14 := catN_le N (by omega)
    obtain ⟨L, hL⟩ : ∃ L, L = (patP 6 N).length := ⟨_, rfl⟩
    rw [← hL] at CL HI h14 HF
    have Hx := Lib.hid hx
    rw [Int.toNat_natCast]
    clear hN hx hL
    go_enter Try.func43, Try.ntmps43
    go_wp2_with fail
    refine (syPairs_any _ w).mono ?_
    rintro e w1 ⟨ha, rfl⟩
    obtain rfl := ha.is Hn.out
    clear ha
    go_wp2_with fail
    refine CL.out.mono ?_
    rintro e w2 ⟨la, lc, rfl, hv, hb⟩
    have Hb := Lib.hid hb
    clear hv hb CL
    by_cases hl : v.length = L
    · have Hl := Lib.hid hl
      have hne : ((v.length : Int) != (L : Int)) = false := by simp; omega
      clear hl
      go_wp2_with fail
      refine (l1All_any ao c v _ _ w2 hn (Hx.out.below Hb.out)).mono ?_
      rintro e w1 ⟨ha, rfl⟩
      by_cases h3 : allIn v 0 1000000
      · obtain rfl := ha.is h3
        have H3 := Lib.hid h3
        have CF := Lib.hid (HF.out w2 Hl.out h3 (Hx.out.below Hb.out))
        have Hok := Lib.hid (HI.out.2 ⟨Hl.out, h3⟩)
        clear ha h3 hne
        go_wp2_with fail
        refine CF.out.mono ?_
        rintro e w5 ⟨⟨b, rfl, hb2⟩, hb⟩
        have HB2 := Lib.hid hb2
        have HB := Lib.hid (Hb.out.trans (hb.mono Hb.out.size))
        clear hb2 hb CF
        go_wp2
        go_ret2
        exact ⟨⟨b, true, rfl, .inl ⟨Hok.out, rfl, HB2.out⟩⟩, HB.out⟩
      · obtain rfl := ha.isnt h3
        have H3 := Lib.hid h3
        clear ha h3 hne
        go_wp2
        go_ret2
        exact ⟨⟨false, false, rfl, .inr ⟨fun h => H3.out h.2.2, rfl, rfl⟩⟩, Hb.out⟩
    · have Hl := Lib.hid (show ¬fixIn N v from fun h => hl (HI.out.1 h).1)
      have hne : ((v.length : Int) != (L : Int)) = true := by simp; omega
      clear hl
      go_wp2
      go_ret2
      exact ⟨⟨false, false, rfl, .inr ⟨Hl.out, rfl, rfl⟩⟩, Hb.out⟩
  · have Hn := Lib.hid hN
    clear hN hx
    go_enter Try.func43, Try.ntmps43
    go_wp2_with fail
    refine (syPairs_any _ w).mono ?_
    rintro e w1 ⟨ha, rfl⟩
    obtain rfl := ha.isnt Hn.out
    clear ha
    go_wp2
    go_ret2
    exact ⟨⟨false, false, rfl, .inr ⟨fun h => Hn.out h.1, rfl, rfl⟩⟩, Below.refl _ _⟩
end Go.Proofs.Ytncpoljjfhmkeaa
