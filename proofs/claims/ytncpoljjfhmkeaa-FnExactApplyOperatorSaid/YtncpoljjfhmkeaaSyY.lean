/- Contracts of the program: operators and their images. Conditions: lengths up to 2^20, numbers of an int. -/
import Derived.Test.YtncpoljjfhmkeaaSyX
namespace Go.Proofs.Ytncpoljjfhmkeaa
open Go.RowKit

theorem tab_small {N : Nat} (f : Nat → Nat → Int) (h : N ≤ 14) : Small (tab N N f) := ⟨by rw [tab_len]; omega, fun i hi => by rw [tab_len] at hi; rw [tab_row hi]; omega⟩
theorem opT_small {n : Nat} (h : n < 5) (i : Nat) : Small (opT (patP 6 n) i) := tab_small _ (catN_le n h)
theorem sumT_small {n : Nat} (h : n < 5) : Small (sumT (patP 6 n)) := tab_small _ (catN_le n h)

set_option maxRecDepth 100000 in
set_option maxHeartbeats 800000 in
theorem isTableOf_any (ao : Option Addr) (c R : Nat) (lo hi : Int) (m : List (List Int)) (w : World) (hs : Small m) (hm : MatAt w ao m) :
    Calls Try.prog 75 #[.slice ao m.length c, .int .i64 (R : Int), .int .i64 lo, .int .i64 hi] w fun e w' => Ans ((1 ≤ m.length ∧ m.length ≤ R) ∧ ∀ i, i < m.length → (gr m i).length = m.length ∧ allIn (gr m i) lo hi) e ∧ Below w.heap.size w w' := by
  have hml : m.length ≤ 9223372036854775807 := by have := hs.1; omega
  have Hs := Lib.hid hs
  have Hm := Lib.hid hm
  have HB0 := Lib.hid ((Below.refl w.heap.size w).alloc (Nat.le_refl _) (.cells ([(m.length : Int)].map (Value.int .i64)).toArray 3))
  have C1 := Lib.hid (numsIn_any (some ⟨w.heap.size, 0, none⟩) 1 [(m.length : Int)] 1 (R : Int) (w.alloc (.cells ([(m.length : Int)].map (Value.int .i64)).toArray 3)) (by simp) (nums_new w _))
  clear hs hm
  go_enter Try.func75, Try.ntmps75
  go_wp2_with fail
  refine C1.out.mono ?_
  rintro e w1 ⟨ha, rfl⟩
  by_cases h1 : 1 ≤ m.length ∧ m.length ≤ R
  · have H1 := Lib.hid h1
    obtain rfl := ha.is ((allIn_num _ _ _).2 (by omega))
    clear ha h1 C1
    go_wp2_with fail
    refine (hasSize_any ao c m.length m.length m _ Hs.out (Hm.out.below HB0.out) hml hml).mono ?_
    rintro e w2 ⟨ha, hb⟩
    have HB1 := Lib.hid (HB0.out.trans (hb.mono HB0.out.size))
    clear hb
    by_cases h2 : m.length = m.length ∧ wideAll m m.length
    · have H2 := Lib.hid h2.2
      obtain rfl := ha.is h2
      clear ha h2
      go_wp2
      go_loopw [28] (fun x wr => ∃ a : Nat, a ≤ m.length ∧ x = .int .i64 a ∧ (∀ i, i < a → allIn (gr m i) lo hi) ∧ Below w.heap.size w wr) (fun x _ => m.length - (intOf x).toNat)
      case atStart => exact ⟨0, Nat.zero_le _, rfl, fun i hi => absurd hi (by omega), HB1.out⟩
      case round =>
        obtain ⟨a, ha, rfl, hd, hbr⟩ := hrel
        have Hd := Lib.hid hd
        have Hbr := Lib.hid hbr
        clear hd hbr
        by_cases hal : a < m.length
        · obtain ⟨b1, o1, r1, d1, e1, hc1, hx1, _, _⟩ := Hm.out.below Hbr.out a hal
          have hrs := Hs.out.2 a hal
          have CA := Lib.hid (numsIn_any r1 d1 (gr m a) lo hi wr hrs hx1)
          have HN := Lib.hid (fun (h : ¬allIn (gr m a) lo hi) (h2 : (1 ≤ m.length ∧ m.length ≤ R) ∧ ∀ i, i < m.length → (gr m i).length = m.length ∧ allIn (gr m i) lo hi) => h (h2.2 a hal).2)
          have HY := Lib.hid (show allIn (gr m a) lo hi → ∀ i, i < a + 1 → allIn (gr m i) lo hi from fun h i hi => by
            by_cases e : i = a
            · rw [e]; exact h
            · exact Hd.out i (by omega))
          obtain ⟨G, hG⟩ : ∃ G, G = gr m a := ⟨_, rfl⟩
          rw [← hG] at hc1 CA hrs HN HY
          have hgl : G.length ≤ 9223372036854775807 := by omega
          subst e1
          clear hG hx1
          go_wp2_with fail
          refine CA.out.mono ?_
          rintro e w5 ⟨hA, rfl⟩
          by_cases hin : allIn G lo hi
          · obtain rfl := hA.is hin
            have HY2 := Lib.hid (HY.out hin)
            clear hA hin HN HY
            go_wp2
            go_roundw
            case rel => exact ⟨a + 1, by omega, by go_num, HY2.out, Hbr.out⟩
            case measure => simp [intOf]; omega
          · obtain rfl := hA.isnt hin
            have HN2 := Lib.hid (HN.out hin)
            clear hA hin HN HY
            go_wp2
            go_ret
            exact ⟨Ans.no HN2.out, Hbr.out⟩
        · obtain rfl : a = m.length := by omega
          have Hok := Lib.hid (show (1 ≤ m.length ∧ m.length ≤ R) ∧ ∀ i, i < m.length → (gr m i).length = m.length ∧ allIn (gr m i) lo hi from ⟨H1.out, fun i hi => ⟨H2.out i hi, Hd.out i hi⟩⟩)
          go_wp2
          go_ret
          exact ⟨Ans.yes Hok.out, Hbr.out⟩
    · have H2 := Lib.hid h2
      obtain rfl := ha.isnt h2
      clear ha h2
      go_wp2
      go_ret
      exact ⟨Ans.no fun h => H2.out (by first | exact ⟨rfl, fun i hi => (h.2 i hi).1⟩ | exact ⟨trivial, fun i hi => (h.2 i hi).1⟩), HB1.out⟩
  · have H1 := Lib.hid h1
    obtain rfl := ha.isnt (fun h => h1 (by have := (allIn_num _ _ _).1 h; omega))
    clear ha h1 C1
    go_wp2
    go_ret
    exact ⟨Ans.no fun h => H1.out h.1, HB0.out⟩

set_option maxRecDepth 100000 in
set_option maxHeartbeats 800000 in
theorem isVector_any (ao : Option Addr) (c n : Nat) (v : List Int) (w : World) (hn : v.length ≤ 1048576) (hn2 : n ≤ 1048576) (hx : IntsAt w ao v) :
    Calls Try.prog 76 #[.slice ao v.length c, .int .i64 (n : Int)] w fun e w' => Ans (v.length = n ∧ allIn v 0 1000000) e ∧ w = w' := by
  have hvm : v.length ≤ 9223372036854775807 := by omega
  have C := Lib.hid (numsIn_any ao c v 0 1000000 w hn hx)
  clear hx
  by_cases h : v.length = n
  · have H := Lib.hid h
    have hne : ((v.length : Int) == (n : Int)) = true := by simp [h]
    clear h
    go_enter Try.func76, Try.ntmps76
    go_wp2_with fail
    refine C.out.mono ?_
    rintro e w1 ⟨⟨b, rfl, hb⟩, rfl⟩
    have Hb := Lib.hid hb
    clear hb
    go_wp2
    go_ret
    exact ⟨⟨b, rfl, by rw [Hb.out]; exact ⟨fun h => ⟨H.out, h⟩, fun h => h.2⟩⟩, rfl⟩
  · have H := Lib.hid h
    have hne : ((v.length : Int) == (n : Int)) = false := by simp; omega
    clear h
    go_enter Try.func76, Try.ntmps76
    go_wp2
    go_ret
    exact ⟨Ans.no fun h => H.out h.1, rfl⟩

set_option maxRecDepth 100000 in
set_option maxHeartbeats 800000 in
theorem implOperatorOf_any (n i : Int) (w : World) (_ : -9223372036854775808 ≤ n ∧ n ≤ 9223372036854775807) (_ : -9223372036854775808 ≤ i ∧ i ≤ 9223372036854775807) :
    Calls Try.prog 31 #[.int .i64 n, .int .i64 i] w fun e w' => MRes (pointIn n i) (opT (patP 6 n.toNat) i.toNat) w' w.heap.size e ∧ Below w.heap.size w w' := by
  go_enter Try.func31, Try.ntmps31
  go_wp2_with fail
  refine (isRanked_any _ w).mono ?_
  rintro e w1 ⟨ha, hb⟩
  have HB := Lib.hid hb
  by_cases hn : 1 ≤ n ∧ n ≤ 4
  · obtain rfl := ha.is hn
    obtain ⟨k2, hk2⟩ : ∃ k2 : Nat, 2 * n = (k2 : Int) := ⟨(2 * n).toNat, by omega⟩
    have HB0 := Lib.hid ((Below.refl w1.heap.size w1).alloc (Nat.le_refl _) (.cells ([i].map (Value.int .i64)).toArray 3))
    have C1 := Lib.hid (arePoints_any k2 (some ⟨w1.heap.size, 0, none⟩) 1 [i] (w1.alloc (.cells ([i].map (Value.int .i64)).toArray 3)) (by omega) (by simp) (nums_new w1 _))
    have Hk2 := Lib.hid hk2
    have hw : IntKind.i64.wrap (2 * n) = (k2 : Int) := by rw [← hk2]; exact w64 (by omega)
    have Hn := Lib.hid hn
    clear ha hb hk2 hn
    go_wp2_with fail
    refine C1.out.mono ?_
    rintro e w2 ⟨ha, rfl⟩
    have HB2 := Lib.hid (HB.out.trans (HB0.out.mono HB.out.size))
    by_cases hi : 0 ≤ i ∧ i < 2 * n
    · obtain rfl := ha.is ((allIn_num _ _ _).2 (by have := Hk2.out; omega))
      have Hp := Lib.hid (show pointIn n i from ⟨Hn.out, hi⟩)
      have hnn := Hn.out
      have C := fun w => joiningAt_any n.toNat i.toNat w (by omega) (by omega) (by omega)
      rw [Int.toNat_of_nonneg (by omega), Int.toNat_of_nonneg (by omega)] at C
      have C := Lib.hid C
      have hl14 : (patP 6 n.toNat).length ≤ 14 := catN_le n.toNat (by omega)
      have hl1 : 1 ≤ (patP 6 n.toNat).length := catN_pos n.toNat (by omega)
      have HT := Lib.hid (show tab (patP 6 n.toNat).length (patP 6 n.toNat).length (opN (patP 6 n.toNat) i.toNat) = opT (patP 6 n.toNat) i.toNat from rfl)
      obtain ⟨l, hl⟩ : ∃ l, l = patP 6 n.toNat := ⟨_, rfl⟩
      have HL := Lib.hid hl
      rw [← hl] at C hl14 hl1 HT
      clear ha hi hl hnn C1
      go_wp2_with fail
      refine (C.out _).mono ?_
      rintro e w3 ⟨a, c, rfl, hv, hb⟩
      have HJ := Lib.hid (show JnAt w3 (.slice a l.length c) l i.toNat from ⟨a, c, rfl, own_at hv⟩)
      have HB3 := Lib.hid (HB2.out.trans (hb.mono HB2.out.size))
      have CT := Lib.hid (tableOf_jn _ l i.toNat w3 hl14 hl1 HJ.out)
      clear hv hb
      go_wp2_with fail
      refine CT.out.mono ?_
      rintro e w4 ⟨u, rfl, hu, hb⟩
      have HU := Lib.hid (hu.base HB3.out.size)
      have HB4 := Lib.hid (HB3.out.trans (hb.mono HB3.out.size))
      clear hu hb CT
      go_wp2
      go_ret2
      exact ⟨by rw [← HL.out]; exact MRes.yes Hp.out (by rw [← HT.out]; exact HU.out), HB4.out⟩
    · obtain rfl := ha.isnt (fun h => hi (by have := (allIn_num _ _ _).1 h; have := Hk2.out; omega))
      have Hp := Lib.hid (show ¬pointIn n i from fun h => hi h.2)
      clear ha hi C1
      go_wp2
      go_ret2
      exact ⟨MRes.no Hp.out, HB2.out⟩
  · obtain rfl := ha.isnt hn
    have Hn := Lib.hid hn
    clear ha hn hb
    go_wp2
    go_ret2
    exact ⟨MRes.no fun h => Hn.out h.1, HB.out⟩

set_option maxRecDepth 100000 in
set_option maxHeartbeats 800000 in
theorem implSumOperator_any (n : Int) (w : World) (_ : -9223372036854775808 ≤ n ∧ n ≤ 9223372036854775807) :
    Calls Try.prog 36 #[.int .i64 n] w fun e w' => MRes (1 ≤ n ∧ n ≤ 4) (sumT (patP 6 n.toNat)) w' w.heap.size e ∧ Below w.heap.size w w' := by
  go_enter Try.func36, Try.ntmps36
  go_wp2_with fail
  refine (isRanked_any _ w).mono ?_
  rintro e w1 ⟨ha, hb⟩
  have HB := Lib.hid hb
  by_cases hn : 1 ≤ n ∧ n ≤ 4
  · obtain rfl := ha.is hn
    have Hn := Lib.hid hn
    have C := joiningAtAll_any n.toNat w1 (by omega) (by omega)
    rw [Int.toNat_of_nonneg (by omega)] at C
    have C := Lib.hid C
    have hl14 : (patP 6 n.toNat).length ≤ 14 := catN_le n.toNat (by omega)
    have hl1 : 1 ≤ (patP 6 n.toNat).length := catN_pos n.toNat (by omega)
    have HT := Lib.hid (sumT_at (n := n.toNat) (by omega) (by omega))
    obtain ⟨k, hk⟩ : ∃ k, k = 2 * n.toNat := ⟨_, rfl⟩
    have hk1 : 1 ≤ k := by omega
    have hk8 : k ≤ 8 := by omega
    obtain ⟨l, hl⟩ : ∃ l, l = patP 6 n.toNat := ⟨_, rfl⟩
    have HL := Lib.hid hl
    rw [← hl, ← hk] at C HT
    rw [← hl] at hl14 hl1
    clear ha hn hb hl hk
    go_wp2_with fail
    refine C.out.mono ?_
    rintro e w2 ⟨v, rfl, hv, hb⟩
    have HB2 := Lib.hid (HB.out.trans (hb.mono HB.out.size))
    have CT := Lib.hid (tableOf_tt v l k w2 hl14 hl1 hk1 hk8 hv)
    clear hv hb C
    go_wp2_with fail
    refine CT.out.mono ?_
    rintro e w4 ⟨u, rfl, hu, hb⟩
    have HU := Lib.hid (hu.base HB2.out.size)
    have HB4 := Lib.hid (HB2.out.trans (hb.mono HB2.out.size))
    clear hu hb CT
    go_wp2
    go_ret2
    exact ⟨by rw [← HL.out]; exact MRes.yes Hn.out (by rw [HT.out]; exact HU.out), HB4.out⟩
  · obtain rfl := ha.isnt hn
    have Hn := Lib.hid hn
    clear ha hn hb
    go_wp2
    go_ret2
    exact ⟨MRes.no Hn.out, HB.out⟩

set_option maxRecDepth 100000 in
set_option maxHeartbeats 800000 in
theorem implApplyOperator_any (ao : Option Addr) (c : Nat) (m : List (List Int)) (a2 : Option Addr) (c2 : Nat) (v : List Int) (w : World) (hs : Small m) (_hwf : WfM m) (hm : MatAt w ao m) (hn : v.length ≤ 1048576) (_hwf2 : WfI v) (hv : IntsAt w a2 v) :
    Calls Try.prog 40 #[.slice ao m.length c, .slice a2 v.length c2] w fun e w' => LRes (applyOk m v) (appK m v m.length) w' w.heap.size e ∧ Below w.heap.size w w' := by
  have hml : m.length ≤ 9223372036854775807 := by have := hs.1; omega
  have hml2 : m.length ≤ 1048576 := hs.1
  have C1 := Lib.hid (isTableOf_any ao c 14 0 100 m w hs hm)
  have Hm := Lib.hid hm
  have Hv := Lib.hid hv
  clear hs hm hv
  go_enter Try.func40, Try.ntmps40
  go_wp2_with fail
  refine C1.out.mono ?_
  rintro e w1 ⟨ha, hb⟩
  have HB := Lib.hid hb
  clear hb C1
  by_cases h1 : tabOk m
  · have H1 := Lib.hid h1
    obtain rfl := ha.is h1
    clear ha h1
    go_wp2_with fail
    refine (isVector_any a2 c2 m.length v w1 hn hml2 (Hv.out.below HB.out)).mono ?_
    rintro e w2 ⟨ha, rfl⟩
    by_cases h2 : v.length = m.length ∧ allIn v 0 1000000
    · have H2 := Lib.hid h2
      obtain rfl := ha.is h2
      have CA := Lib.hid (applied_wr ao c m a2 c2 v w1 H1.out.1.2 H1.out.1.1 H1.out.2 h2.1 h2.2 (Hv.out.below HB.out) (Hm.out.below HB.out))
      have HE := Lib.hid (imgL_end (f := fun r c => gi (gr m r) c) (v := v) (m := m) (N := m.length) rfl h2.1 (fun _ _ _ _ => rfl))
      obtain ⟨x, hx⟩ : ∃ x, x = imgL (fun r c => gi (gr m r) c) v m.length m.length 0 := ⟨_, rfl⟩
      rw [← hx] at CA HE
      clear ha h2 hx
      go_wp2_with fail
      refine CA.out.mono ?_
      rintro e w3 ⟨u, rfl, hu, hb⟩
      have HU := Lib.hid (hu.base HB.out.size)
      have HB2 := Lib.hid (HB.out.trans (hb.mono HB.out.size))
      clear hu hb CA
      go_wp2
      go_ret2
      exact ⟨LRes.yes ⟨H1.out, H2.out⟩ (by rw [← HE.out]; exact HU.out), HB2.out⟩
    · have H2 := Lib.hid h2
      obtain rfl := ha.isnt h2
      clear ha h2
      go_wp2
      go_ret2
      exact ⟨LRes.no fun h => H2.out h.2, HB.out⟩
  · have H1 := Lib.hid h1
    obtain rfl := ha.isnt h1
    clear ha h1
    go_wp2
    go_ret2
    exact ⟨LRes.no fun h => H1.out h.1, HB.out⟩

set_option maxRecDepth 100000 in
set_option maxHeartbeats 1600000 in
theorem implIsFixed_any (n : Int) (ao : Option Addr) (c : Nat) (v : List Int) (w : World) (_ : -9223372036854775808 ≤ n ∧ n ≤ 9223372036854775807) (hn : v.length ≤ 1048576) (_hwf : WfI v) (hx : IntsAt w ao v) :
    Calls Try.prog 44 #[.int .i64 n, .slice ao v.length c] w fun e w' => BRes (fixIn n v) (isFix n.toNat v) e ∧ Below w.heap.size w w' := by
  have hvm : v.length ≤ 9223372036854775807 := by omega
  by_cases hN : 1 ≤ n ∧ n ≤ 4
  · have Hn := Lib.hid hN
    obtain ⟨N, rfl⟩ : ∃ N : Nat, n = N := ⟨n.toNat, by omega⟩
    have h1 : 1 ≤ N := by omega
    have h4 : N ≤ 4 := by omega
    have CJ := Lib.hid (fun w => joiningAtAll_any N w h1 h4)
    have HI := Lib.hid (show fixIn N v ↔ v.length = (patP 6 N).length ∧ allIn v 0 1000000 from ⟨fun h => h.2, fun h => ⟨hN, h⟩⟩)
    have HF := Lib.hid (show isFix N v ↔ ∀ a, a < v.length → gi (appK (sumT (patP 6 N)) v v.length) a = 2 * (N : Int) * gi v a from Iff.rfl)
    have hl14 : (patP 6 N).length ≤ 14 := catN_le N (by omega)
    have hl1 : 1 ≤ (patP 6 N).length := catN_pos N (by omega)
    have HT := Lib.hid (sumT_at h1 (show N < 5 by omega))
    obtain ⟨k, hk⟩ : ∃ k, k = 2 * N := ⟨_, rfl⟩
    have hk1 : 1 ≤ k := by omega
    have hk8 : k ≤ 8 := by omega
    obtain ⟨l, hl⟩ : ∃ l, l = patP 6 N := ⟨_, rfl⟩
    rw [← hl] at CJ HI HF hl14 hl1 HT
    rw [← hk] at CJ HT
    have Hx := Lib.hid hx
    rw [Int.toNat_natCast]
    clear hN hx hl hk
    go_enter Try.func44, Try.ntmps44
    go_wp2_with fail
    refine (isRanked_any _ w).mono ?_
    rintro e w1 ⟨ha, hb⟩
    have HB := Lib.hid hb
    obtain rfl := ha.is Hn.out
    clear ha hb
    go_wp2_with fail
    refine (CJ.out w1).mono ?_
    rintro e w2 ⟨t, rfl, ht, hb⟩
    have HB2 := Lib.hid (HB.out.trans (hb.mono HB.out.size))
    have Ht := Lib.hid ht
    clear ht hb HB
    go_wp2_with fail
    refine (ttSize_any t l k w2 hl14 hk1 hk8 Ht.out).mono ?_
    rintro e w3 ⟨rfl, rfl⟩
    go_wp2_with fail
    refine (isVector_any ao c l.length v w3 hn (by omega) (Hx.out.below HB2.out)).mono ?_
    rintro e w4 ⟨ha, rfl⟩
    by_cases h2 : v.length = l.length ∧ allIn v 0 1000000
    · obtain rfl := ha.is h2
      have H2 := Lib.hid h2
      have Hok := Lib.hid (HI.out.2 h2)
      have Hvi := Lib.hid h2.2
      have CA := Lib.hid (applied_tt t l k ao c v w3 hl14 hl1 hk1 hk8 h2.1 h2.2 (Hx.out.below HB2.out) Ht.out)
      have HE := Lib.hid (imgL_end (f := sumN l k) (v := v) (m := sumT l) (N := l.length) (by rw [sumT_len]) h2.1 (fun r c hr hc => by rw [HT.out, gi_tab hr hc]))
      have hv14 : v.length ≤ 14 := by omega
      have CB := Lib.hid (show Calls Try.prog 77 #[.iface 62 t, .slice ao v.length c] w3 fun e w' => ∃ x, e = .returned x ∧ OwnI w' w3.heap.size x (appK (sumT l) v v.length) ∧ Below w3.heap.size w3 w' by
        have e : (sumT l).length = v.length := by rw [sumT_len, h2.1]
        rw [HE.out, e] at CA
        exact CA.out)
      clear ha h2 CA HE
      go_wp2_with fail
      refine CB.out.mono ?_
      rintro e w5 ⟨u, rfl, hu, hb⟩
      obtain ⟨ua, uc, hue, _, _, hux⟩ := hu.read
      rw [appK_len] at hue
      subst hue
      have Hu := Lib.hid hux
      have HB3 := Lib.hid (HB2.out.trans (hb.mono HB2.out.size))
      clear hu hb hux CB
      obtain ⟨m, hm⟩ : ∃ m, m = sumT l := ⟨_, rfl⟩
      rw [← hm] at Hu HF
      clear hm
      go_wp2
      go_loopw [24] (fun x wr => ∃ a : Nat, a ≤ v.length ∧ x = .int .i64 a ∧ (∀ i, i < a → gi (appK m v v.length) i = 2 * (N : Int) * gi v i) ∧ Q w5 wr) (fun x _ => v.length - (intOf x).toNat)
      case atStart => exact ⟨0, Nat.zero_le _, rfl, fun i hi => absurd hi (by omega), Q.refl _⟩
      case round =>
        obtain ⟨a, ha, rfl, hd, hq⟩ := hrel
        have Hd := Lib.hid hd
        have Hq := Lib.hid hq
        clear hd hq
        by_cases hal : a < v.length
        · obtain ⟨b1, o1, rfl, hc1⟩ := Hu.out.below (Hq.out.below _) a (by rw [appK_len]; exact hal)
          obtain ⟨b2, o2, rfl, hc2⟩ := Hx.out.below (HB3.out.trans (Hq.out.below _)) a hal
          have hbd := mul2_bd h4 (Hvi.out a hal)
          have HN := Lib.hid (fun (h : ¬ gi (appK m v v.length) a = 2 * (N : Int) * gi v a) (h2 : isFix N v) => h (HF.out.1 h2 a hal))
          have HY := Lib.hid (show gi (appK m v v.length) a = 2 * (N : Int) * gi v a → ∀ i, i < a + 1 → gi (appK m v v.length) i = 2 * (N : Int) * gi v i from fun h i hi => by
            by_cases e : i = a
            · rw [e]; exact h
            · exact Hd.out i (by omega))
          obtain ⟨x, hx⟩ : ∃ x, x = gi (appK m v v.length) a := ⟨_, rfl⟩
          obtain ⟨y, hy⟩ : ∃ y, y = gi v a := ⟨_, rfl⟩
          rw [← hx] at hc1 HN HY
          rw [← hy] at hc2 hbd HN HY
          obtain ⟨z, hz⟩ : ∃ z, z = 2 * (N : Int) * y := ⟨_, rfl⟩
          have hw : IntKind.i64.wrap (2 * (N : Int) * y) = z := by rw [← hz]; exact w64 (by omega)
          rw [← hz] at HN HY hbd
          clear hx hy hz
          by_cases e : x = z
          · have hne : (x != z) = false := by simp [e]
            have HY2 := Lib.hid (HY.out e)
            clear HN HY e
            go_wp2
            go_roundw
            case rel => exact ⟨a + 1, by omega, by go_num, HY2.out, Hq.out⟩
            case measure => simp [intOf]; omega
          · have hne : (x != z) = true := by simp [e]
            have HN2 := Lib.hid (HN.out e)
            have HB := Lib.hid (HB3.out.trans (Hq.out.below _))
            clear HN HY e
            go_wp2
            go_ret2
            exact ⟨⟨false, true, rfl, .inl ⟨Hok.out, rfl, ⟨fun h => (by cases h), fun h => absurd h HN2.out⟩⟩⟩, HB.out⟩
        · obtain rfl : a = v.length := by omega
          have HB := Lib.hid (HB3.out.trans (Hq.out.below _))
          go_wp2
          go_ret2
          exact ⟨⟨true, true, rfl, .inl ⟨Hok.out, rfl, ⟨fun _ => HF.out.2 Hd.out, fun _ => rfl⟩⟩⟩, HB.out⟩
    · obtain rfl := ha.isnt h2
      have H2 := Lib.hid (show ¬fixIn N v from fun h => h2 (HI.out.1 h))
      clear ha h2
      go_wp2
      go_ret2
      exact ⟨⟨false, false, rfl, .inr ⟨H2.out, rfl, rfl⟩⟩, HB2.out⟩
  · have Hn := Lib.hid hN
    clear hN hx
    go_enter Try.func44, Try.ntmps44
    go_wp2_with fail
    refine (isRanked_any _ w).mono ?_
    rintro e w1 ⟨ha, hb⟩
    have HB := Lib.hid hb
    obtain rfl := ha.isnt Hn.out
    clear ha hb
    go_wp2
    go_ret2
    exact ⟨⟨false, false, rfl, .inr ⟨fun h => Hn.out h.1, rfl, rfl⟩⟩, HB.out⟩
end Go.Proofs.Ytncpoljjfhmkeaa
