/- Parts of proofs: contracts and plain facts. Conditions: as each says. -/
import Derived.Test.YtncpoljjfhmkeaaK14
import Derived.Deep.RegionWith
import Derived.Deep.Cut
namespace Go.Proofs.Ytncpoljjfhmkeaa
open Go.RowKit

theorem tab_small {N : Nat} (f : Nat → Nat → Int) (h : N ≤ 14) : Small (tab N N f) := ⟨by rw [tab_len]; omega, fun i hi => by rw [tab_len] at hi; rw [tab_row hi]; omega⟩
theorem opT_small {n : Nat} (h : n < 5) (i : Nat) : Small (opT (patP 6 n) i) := tab_small _ (catN_le n h)
theorem sumT_small {n : Nat} (h : n < 5) : Small (sumT (patP 6 n)) := tab_small _ (catN_le n h)

set_option maxRecDepth 100000 in
set_option maxHeartbeats 800000 in
theorem isTableOf_any (ao : Option Addr) (c R : Nat) (lo hi : Int) (m : List (List Int)) (w : World) (hs : Small m) (hm : MatAt w ao m) :
    Calls Try.prog 75 #[.slice ao m.length c, .int .i64 (R : Int), .int .i64 lo, .int .i64 hi] w fun e w' => Ans ((1 ≤ m.length ∧ m.length ≤ R) ∧ ∀ i, i < m.length → (gr m i).length = m.length ∧ allIn (gr m i) lo hi) e ∧ Below w.heap.size w w' := by
  have hml : m.length ≤ 9223372036854775807 := by have := hs.1; omega
  have Hs := Lib.hid hs
  have Hm := Lib.hid hm
  have HB0 := Lib.hid ((Below.refl w.heap.size w).alloc (Nat.le_refl _) (.cells ([(m.length : Int)].map (Value.int .i64)).toArray 3))
  have C1 := Lib.hid (numsIn_any (some ⟨w.heap.size, 0, none⟩) 1 [(m.length : Int)] 1 (R : Int) (w.alloc (.cells ([(m.length : Int)].map (Value.int .i64)).toArray 3)) (by simp) (nums_new w _))
  clear hs hm
  go_enter Try.func75, Try.ntmps75
  go_wp2_with fail
  refine C1.out.mono ?_
  rintro e w1 ⟨ha, rfl⟩
  by_cases h1 : 1 ≤ m.length ∧ m.length ≤ R
  · have H1 := Lib.hid h1
    obtain rfl := ha.is ((allIn_num _ _ _).2 (by omega))
    clear ha h1 C1
    go_wp2_with fail
    refine (hasSize_any ao c m.length m.length m _ Hs.out (Hm.out.below HB0.out) hml hml).mono ?_
    rintro e w2 ⟨ha, hb⟩
    have HB1 := Lib.hid (HB0.out.trans (hb.mono HB0.out.size))
    clear hb
    by_cases h2 : m.length = m.length ∧ wideAll m m.length
    · have H2 := Lib.hid h2.2
      obtain rfl := ha.is h2
      clear ha h2
      go_wp2
      go_loopw [28] (fun x wr => ∃ a : Nat, a ≤ m.length ∧ x = .int .i64 a ∧ (∀ i, i < a → allIn (gr m i) lo hi) ∧ Below w.heap.size w wr) (fun x _ => m.length - (intOf x).toNat)
      case atStart => exact ⟨0, Nat.zero_le _, rfl, fun i hi => absurd hi (by omega), HB1.out⟩
      case round =>
        obtain ⟨a, ha, rfl, hd, hbr⟩ := hrel
        have Hd := Lib.hid hd
        have Hbr := Lib.hid hbr
        clear hd hbr
        by_cases hal : a < m.length
        · obtain ⟨b1, o1, r1, d1, e1, hc1, hx1, _, _⟩ := Hm.out.below Hbr.out a hal
          have hrs := Hs.out.2 a hal
          have CA := Lib.hid (numsIn_any r1 d1 (gr m a) lo hi wr hrs hx1)
          have HN := Lib.hid (fun (h : ¬allIn (gr m a) lo hi) (h2 : (1 ≤ m.length ∧ m.length ≤ R) ∧ ∀ i, i < m.length → (gr m i).length = m.length ∧ allIn (gr m i) lo hi) => h (h2.2 a hal).2)
          have HY := Lib.hid (show allIn (gr m a) lo hi → ∀ i, i < a + 1 → allIn (gr m i) lo hi from fun h i hi => by
            by_cases e : i = a
            · rw [e]; exact h
            · exact Hd.out i (by omega))
          obtain ⟨G, hG⟩ : ∃ G, G = gr m a := ⟨_, rfl⟩
          rw [← hG] at hc1 CA hrs HN HY
          have hgl : G.length ≤ 9223372036854775807 := by omega
          subst e1
          clear hG hx1
          go_wp2_with fail
          refine CA.out.mono ?_
          rintro e w5 ⟨hA, rfl⟩
          by_cases hin : allIn G lo hi
          · obtain rfl := hA.is hin
            have HY2 := Lib.hid (HY.out hin)
            clear hA hin HN HY
            go_wp2
            go_roundw
            case rel => exact ⟨a + 1, by omega, by go_num, HY2.out, Hbr.out⟩
            case measure => simp [intOf]; omega
          · obtain rfl := hA.isnt hin
            have HN2 := Lib.hid (HN.out hin)
            clear hA hin HN HY
            go_wp2
            go_ret
            exact ⟨Ans.no HN2.out, Hbr.out⟩
        · obtain rfl : a = m.length := by omega
          have Hok := Lib.hid (show (1 ≤ m.length ∧ m.length ≤ R) ∧ ∀ i, i < m.length → (gr m i).length = m.length ∧ allIn (gr m i) lo hi from ⟨H1.out, fun i hi => ⟨H2.out i hi, Hd.out i hi⟩⟩)
          go_wp2
          go_ret
          exact ⟨Ans.yes Hok.out, Hbr.out⟩
    · have H2 := Lib.hid h2
      obtain rfl := ha.isnt h2
      clear ha h2
      go_wp2
      go_ret
      exact ⟨Ans.no fun h => H2.out (by first | exact ⟨rfl, fun i hi => (h.2 i hi).1⟩ | exact ⟨trivial, fun i hi => (h.2 i hi).1⟩), HB1.out⟩
  · have H1 := Lib.hid h1
    obtain rfl := ha.isnt (fun h => h1 (by have := (allIn_num _ _ _).1 h; omega))
    clear ha h1 C1
    go_wp2
    go_ret
    exact ⟨Ans.no fun h => H1.out h.1, HB0.out⟩

set_option maxRecDepth 100000 in
set_option maxHeartbeats 800000 in
theorem isVector_any (ao : Option Addr) (c n : Nat) (v : List Int) (w : World) (hn : v.length ≤ 1048576) (hn2 : n ≤ 1048576) (hx : IntsAt w ao v) :
    Calls Try.prog 76 #[.slice ao v.length c, .int .i64 (n : Int)] w fun e w' => Ans (v.length = n ∧ allIn v 0 1000000) e ∧ w = w' := by
  have hvm : v.length ≤ 9223372036854775807 := by omega
  have C := Lib.hid (numsIn_any ao c v 0 1000000 w hn hx)
  clear hx
  by_cases h : v.length = n
  · have H := Lib.hid h
    have hne : ((v.length : Int) == (n : Int)) = true := by simp [h]
    clear h
    go_enter Try.func76, Try.ntmps76
    go_wp2_with fail
    refine C.out.mono ?_
    rintro e w1 ⟨⟨b, rfl, hb⟩, rfl⟩
    have Hb := Lib.hid hb
    clear hb
    go_wp2
    go_ret
    exact ⟨⟨b, rfl, by rw [Hb.out]; exact ⟨fun h => ⟨H.out, h⟩, fun h => h.2⟩⟩, rfl⟩
  · have H := Lib.hid h
    have hne : ((v.length : Int) == (n : Int)) = false := by simp; omega
    clear h
    go_enter Try.func76, Try.ntmps76
    go_wp2
    go_ret
    exact ⟨Ans.no fun h => H.out h.1, rfl⟩

set_option maxRecDepth 100000 in
set_option maxHeartbeats 800000 in
theorem implOperatorOf_any (n i : Int) (w : World) (_ : -9223372036854775808 ≤ n ∧ n ≤ 9223372036854775807) (_ : -9223372036854775808 ≤ i ∧ i ≤ 9223372036854775807) :
    Calls Try.prog 31 #[.int .i64 n, .int .i64 i] w fun e w' => MRes (pointIn n i) (opT (patP 6 n.toNat) i.toNat) w' w.heap.size e ∧ Below w.heap.size w w' := by
  go_enter Try.func31, Try.ntmps31
  go_wp2_with fail
  refine (isRanked_any _ w).mono ?_
  rintro e w1 ⟨ha, hb⟩
  have HB := Lib.hid hb
  by_cases hn : 1 ≤ n ∧ n ≤ 4
  · obtain rfl := ha.is hn
    obtain ⟨k2, hk2⟩ : ∃ k2 : Nat, 2 * n = (k2 : Int) := ⟨(2 * n).toNat, by omega⟩
    have HB0 := Lib.hid ((Below.refl w1.heap.size w1).alloc (Nat.le_refl _) (.cells ([i].map (Value.int .i64)).toArray 3))
    have C1 := Lib.hid (arePoints_any k2 (some ⟨w1.heap.size, 0, none⟩) 1 [i] (w1.alloc (.cells ([i].map (Value.int .i64)).toArray 3)) (by omega) (by simp) (nums_new w1 _))
    have Hk2 := Lib.hid hk2
    have hw : IntKind.i64.wrap (2 * n) = (k2 : Int) := by rw [← hk2]; exact w64 (by omega)
    have Hn := Lib.hid hn
    clear ha hb hk2 hn
    go_wp2_with fail
    refine C1.out.mono ?_
    rintro e w2 ⟨ha, rfl⟩
    have HB2 := Lib.hid (HB.out.trans (HB0.out.mono HB.out.size))
    by_cases hi : 0 ≤ i ∧ i < 2 * n
    · obtain rfl := ha.is ((allIn_num _ _ _).2 (by have := Hk2.out; omega))
      have Hp := Lib.hid (show pointIn n i from ⟨Hn.out, hi⟩)
      have hnn := Hn.out
      have C := fun w => joiningAt_any n.toNat i.toNat w (by omega) (by omega) (by omega)
      rw [Int.toNat_of_nonneg (by omega), Int.toNat_of_nonneg (by omega)] at C
      have C := Lib.hid C
      have hl14 : (patP 6 n.toNat).length ≤ 14 := catN_le n.toNat (by omega)
      have hl1 : 1 ≤ (patP 6 n.toNat).length := catN_pos n.toNat (by omega)
      have HT := Lib.hid (show tab (patP 6 n.toNat).length (patP 6 n.toNat).length (opN (patP 6 n.toNat) i.toNat) = opT (patP 6 n.toNat) i.toNat from rfl)
      obtain ⟨l, hl⟩ : ∃ l, l = patP 6 n.toNat := ⟨_, rfl⟩
      have HL := Lib.hid hl
      rw [← hl] at C hl14 hl1 HT
      clear ha hi hl hnn C1
      go_wp2_with fail
      refine (C.out _).mono ?_
      rintro e w3 ⟨a, c, rfl, hv, hb⟩
      have HJ := Lib.hid (show JnAt w3 (.slice a l.length c) l i.toNat from ⟨a, c, rfl, own_at hv⟩)
      have HB3 := Lib.hid (HB2.out.trans (hb.mono HB2.out.size))
      have CT := Lib.hid (tableOf_jn _ l i.toNat w3 hl14 hl1 HJ.out)
      clear hv hb
      go_wp2_with fail
      refine CT.out.mono ?_
      rintro e w4 ⟨u, rfl, hu, hb⟩
      have HU := Lib.hid (hu.base HB3.out.size)
      have HB4 := Lib.hid (HB3.out.trans (hb.mono HB3.out.size))
      clear hu hb CT
      go_wp2
      go_ret2
      exact ⟨by rw [← HL.out]; exact MRes.yes Hp.out (by rw [← HT.out]; exact HU.out), HB4.out⟩
    · obtain rfl := ha.isnt (fun h => hi (by have := (allIn_num _ _ _).1 h; have := Hk2.out; omega))
      have Hp := Lib.hid (show ¬pointIn n i from fun h => hi h.2)
      clear ha hi C1
      go_wp2
      go_ret2
      exact ⟨MRes.no Hp.out, HB2.out⟩
  · obtain rfl := ha.isnt hn
    have Hn := Lib.hid hn
    clear ha hn hb
    go_wp2
    go_ret2
    exact ⟨MRes.no fun h => Hn.out h.1, HB.out⟩

set_option maxRecDepth 100000 in
set_option maxHeartbeats 800000 in
theorem implSumOperator_any (n : Int) (w : World) (_ : -9223372036854775808 ≤ n ∧ n ≤ 9223372036854775807) :
    Calls Try.prog 36 #[.int .i64 n] w fun e w' => MRes (1 ≤ n ∧ n ≤ 4) (sumT (patP 6 n.toNat)) w' w.heap.size e ∧ Below w.heap.size w w' := by
  go_enter Try.func36, Try.ntmps36
  go_wp2_with fail
  refine (isRanked_any _ w).mono ?_
  rintro e w1 ⟨ha, hb⟩
  have HB := Lib.hid hb
  by_cases hn : 1 ≤ n ∧ n ≤ 4
  · obtain rfl := ha.is hn
    have Hn := Lib.hid hn
    have C := joiningAtAll_any n.toNat w1 (by omega) (by omega)
    rw [Int.toNat_of_nonneg (by omega)] at C
    have C := Lib.hid C
    have hl14 : (patP 6 n.toNat).length ≤ 14 := catN_le n.toNat (by omega)
    have hl1 : 1 ≤ (patP 6 n.toNat).length := catN_pos n.toNat (by omega)
    have HT := Lib.hid (sumT_at (n := n.toNat) (by omega) (by omega))
    obtain ⟨k, hk⟩ : ∃ k, k = 2 * n.toNat := ⟨_, rfl⟩
    have hk1 : 1 ≤ k := by omega
    have hk8 : k ≤ 8 := by omega
    obtain ⟨l, hl⟩ : ∃ l, l = patP 6 n.toNat := ⟨_, rfl⟩
    have HL := Lib.hid hl
    rw [← hl, ← hk] at C HT
    rw [← hl] at hl14 hl1
    clear ha hn hb hl hk
    go_wp2_with fail
    refine C.out.mono ?_
    rintro e w2 ⟨v, rfl, hv, hb⟩
    have HB2 := Lib.hid (HB.out.trans (hb.mono HB.out.size))
    have CT := Lib.hid (tableOf_tt v l k w2 hl14 hl1 hk1 hk8 hv)
    clear hv hb C
    go_wp2_with fail
    refine CT.out.mono ?_
    rintro e w4 ⟨u, rfl, hu, hb⟩
    have HU := Lib.hid (hu.base HB2.out.size)
    have HB4 := Lib.hid (HB2.out.trans (hb.mono HB2.out.size))
    clear hu hb CT
    go_wp2
    go_ret2
    exact ⟨by rw [← HL.out]; exact MRes.yes Hn.out (by rw [HT.out]; exact HU.out), HB4.out⟩
  · obtain rfl := ha.isnt hn
    have Hn := Lib.hid hn
    clear ha hn hb
    go_wp2
    go_ret2
    exact ⟨MRes.no Hn.out, HB.out⟩

set_option maxRecDepth 100000 in
set_option maxHeartbeats 800000 in
theorem implApplyOperator_any (ao : Option Addr) (c : Nat) (m : List (List Int)) (a2 : Option Addr) (c2 : Nat) (v : List Int) (w : World) (hs : Small m) (_hwf : WfM m) (hm : MatAt w ao m) (hn : v.length ≤ 1048576) (_hwf2 : WfI v) (hv : IntsAt w a2 v) :
    Calls Try.prog 40 #[.slice ao m.length c, .slice a2 v.length c2] w fun e w' => LRes (applyOk m v) (appK m v m.length) w' w.heap.size e ∧ Below w.heap.size w w' := by
  have hml : m.length ≤ 9223372036854775807 := by have := hs.1; omega
  have hml2 : m.length ≤ 1048576 := hs.1
  have C1 := Lib.hid (isTableOf_any ao c 14 0 100 m w hs hm)
  have Hm := Lib.hid hm
  have Hv := Lib.hid hv
  clear hs hm hv
  go_enter Try.func40, Try.ntmps40
  go_wp2_with fail
  refine C1.out.mono ?_
  rintro e w1 ⟨ha, hb⟩
  have HB := Lib.hid hb
  clear hb C1
  by_cases h1 : tabOk m
  · have H1 := Lib.hid h1
    obtain rfl := ha.is h1
    clear ha h1
    go_wp2_with fail
    refine (isVector_any a2 c2 m.length v w1 hn hml2 (Hv.out.below HB.out)).mono ?_
    rintro e w2 ⟨ha, rfl⟩
    by_cases h2 : v.length = m.length ∧ allIn v 0 1000000
    · have H2 := Lib.hid h2
      obtain rfl := ha.is h2
      have CA := Lib.hid (applied_wr ao c m a2 c2 v w1 H1.out.1.2 H1.out.1.1 H1.out.2 h2.1 h2.2 (Hv.out.below HB.out) (Hm.out.below HB.out))
      have HE := Lib.hid (imgL_end (f := fun r c => gi (gr m r) c) (v := v) (m := m) (N := m.length) rfl h2.1 (fun _ _ _ _ => rfl))
      obtain ⟨x, hx⟩ : ∃ x, x = imgL (fun r c => gi (gr m r) c) v m.length m.length 0 := ⟨_, rfl⟩
      rw [← hx] at CA HE
      clear ha h2 hx
      go_wp2_with fail
      refine CA.out.mono ?_
      rintro e w3 ⟨u, rfl, hu, hb⟩
      have HU := Lib.hid (hu.base HB.out.size)
      have HB2 := Lib.hid (HB.out.trans (hb.mono HB.out.size))
      clear hu hb CA
      go_wp2
      go_ret2
      exact ⟨LRes.yes ⟨H1.out, H2.out⟩ (by rw [← HE.out]; exact HU.out), HB2.out⟩
    · have H2 := Lib.hid h2
      obtain rfl := ha.isnt h2
      clear ha h2
      go_wp2
      go_ret2
      exact ⟨LRes.no fun h => H2.out h.2, HB.out⟩
  · have H1 := Lib.hid h1
    obtain rfl := ha.isnt h1
    clear ha h1
    go_wp2
    go_ret2
    exact ⟨LRes.no fun h => H1.out h.1, HB.out⟩

set_option maxRecDepth 100000 in
set_option maxHeartbeats 1600000 in
theorem implIsFixed_any (n : Int) (ao : Option Addr) (c : Nat) (v : List Int) (w : World) (_ : -9223372036854775808 ≤ n ∧ n ≤ 9223372036854775807) (hn : v.length ≤ 1048576) (_hwf : WfI v) (hx : IntsAt w ao v) :
    Calls Try.prog 44 #[.int .i64 n, .slice ao v.length c] w fun e w' => BRes (fixIn n v) (isFix n.toNat v) e ∧ Below w.heap.size w w' := by
  have hvm : v.length ≤ 9223372036854775807 := by omega
  by_cases hN : 1 ≤ n ∧ n ≤ 4
  · have Hn := Lib.hid hN
    obtain ⟨N, rfl⟩ : ∃ N : Nat, n = N := ⟨n.toNat, by omega⟩
    have h1 : 1 ≤ N := by omega
    have h4 : N ≤ 4 := by omega
    have CJ := Lib.hid (fun w => joiningAtAll_any N w h1 h4)
    have HI := Lib.hid (show fixIn N v ↔ v.length = (patP 6 N).length ∧ allIn v 0 1000000 from ⟨fun h => h.2, fun h => ⟨hN, h⟩⟩)
    have HF := Lib.hid (show isFix N v ↔ ∀ a, a < v.length → gi (appK (sumT (patP 6 N)) v v.length) a = 2 * (N : Int) * gi v a from Iff.rfl)
    have hl14 : (patP 6 N).length ≤ 14 := catN_le N (by omega)
    have hl1 : 1 ≤ (patP 6 N).length := catN_pos N (by omega)
    have HT := Lib.hid (sumT_at h1 (show N < 5 by omega))
    obtain ⟨k, hk⟩ : ∃ k, k = 2 * N := ⟨_, rfl⟩
    have hk1 : 1 ≤ k := by omega
    have hk8 : k ≤ 8 := by omega
    obtain ⟨l, hl⟩ : ∃ l, l = patP 6 N := ⟨_, rfl⟩
    rw [← hl] at CJ HI HF hl14 hl1 HT
    rw [← hk] at CJ HT
    have Hx := Lib.hid hx
    rw [Int.toNat_natCast]
    clear hN hx hl hk
    go_enter Try.func44, Try.ntmps44
    go_wp2_with fail
    refine (isRanked_any _ w).mono ?_
    rintro e w1 ⟨ha, hb⟩
    have HB := Lib.hid hb
    obtain rfl := ha.is Hn.out
    clear ha hb
    go_wp2_with fail
    refine (CJ.out w1).mono ?_
    rintro e w2 ⟨t, rfl, ht, hb⟩
    have HB2 := Lib.hid (HB.out.trans (hb.mono HB.out.size))
    have Ht := Lib.hid ht
    clear ht hb HB
    go_wp2_with fail
    refine (ttSize_any t l k w2 hl14 hk1 hk8 Ht.out).mono ?_
    rintro e w3 ⟨rfl, rfl⟩
    go_wp2_with fail
    refine (isVector_any ao c l.length v w3 hn (by omega) (Hx.out.below HB2.out)).mono ?_
    rintro e w4 ⟨ha, rfl⟩
    by_cases h2 : v.length = l.length ∧ allIn v 0 1000000
    · obtain rfl := ha.is h2
      have H2 := Lib.hid h2
      have Hok := Lib.hid (HI.out.2 h2)
      have Hvi := Lib.hid h2.2
      have CA := Lib.hid (applied_tt t l k ao c v w3 hl14 hl1 hk1 hk8 h2.1 h2.2 (Hx.out.below HB2.out) Ht.out)
      have HE := Lib.hid (imgL_end (f := sumN l k) (v := v) (m := sumT l) (N := l.length) (by rw [sumT_len]) h2.1 (fun r c hr hc => by rw [HT.out, gi_tab hr hc]))
      have hv14 : v.length ≤ 14 := by omega
      have CB := Lib.hid (show Calls Try.prog 77 #[.iface 62 t, .slice ao v.length c] w3 fun e w' => ∃ x, e = .returned x ∧ OwnI w' w3.heap.size x (appK (sumT l) v v.length) ∧ Below w3.heap.size w3 w' by
        have e : (sumT l).length = v.length := by rw [sumT_len, h2.1]
        rw [HE.out, e] at CA
        exact CA.out)
      clear ha h2 CA HE
      go_wp2_with fail
      refine CB.out.mono ?_
      rintro e w5 ⟨u, rfl, hu, hb⟩
      obtain ⟨ua, uc, hue, _, _, hux⟩ := hu.read
      rw [appK_len] at hue
      subst hue
      have Hu := Lib.hid hux
      have HB3 := Lib.hid (HB2.out.trans (hb.mono HB2.out.size))
      clear hu hb hux CB
      obtain ⟨m, hm⟩ : ∃ m, m = sumT l := ⟨_, rfl⟩
      rw [← hm] at Hu HF
      clear hm
      go_wp2
      go_loopw [24] (fun x wr => ∃ a : Nat, a ≤ v.length ∧ x = .int .i64 a ∧ (∀ i, i < a → gi (appK m v v.length) i = 2 * (N : Int) * gi v i) ∧ Q w5 wr) (fun x _ => v.length - (intOf x).toNat)
      case atStart => exact ⟨0, Nat.zero_le _, rfl, fun i hi => absurd hi (by omega), Q.refl _⟩
      case round =>
        obtain ⟨a, ha, rfl, hd, hq⟩ := hrel
        have Hd := Lib.hid hd
        have Hq := Lib.hid hq
        clear hd hq
        by_cases hal : a < v.length
        · obtain ⟨b1, o1, rfl, hc1⟩ := Hu.out.below (Hq.out.below _) a (by rw [appK_len]; exact hal)
          obtain ⟨b2, o2, rfl, hc2⟩ := Hx.out.below (HB3.out.trans (Hq.out.below _)) a hal
          have hbd := mul2_bd h4 (Hvi.out a hal)
          have HN := Lib.hid (fun (h : ¬ gi (appK m v v.length) a = 2 * (N : Int) * gi v a) (h2 : isFix N v) => h (HF.out.1 h2 a hal))
          have HY := Lib.hid (show gi (appK m v v.length) a = 2 * (N : Int) * gi v a → ∀ i, i < a + 1 → gi (appK m v v.length) i = 2 * (N : Int) * gi v i from fun h i hi => by
            by_cases e : i = a
            · rw [e]; exact h
            · exact Hd.out i (by omega))
          obtain ⟨x, hx⟩ : ∃ x, x = gi (appK m v v.length) a := ⟨_, rfl⟩
          obtain ⟨y, hy⟩ : ∃ y, y = gi v a := ⟨_, rfl⟩
          rw [← hx] at hc1 HN HY
          rw [← hy] at hc2 hbd HN HY
          obtain ⟨z, hz⟩ : ∃ z, z = 2 * (N : Int) * y := ⟨_, rfl⟩
          have hw : IntKind.i64.wrap (2 * (N : Int) * y) = z := by rw [← hz]; exact w64 (by omega)
          rw [← hz] at HN HY hbd
          clear hx hy hz
          by_cases e : x = z
          · have hne : (x != z) = false := by simp [e]
            have HY2 := Lib.hid (HY.out e)
            clear HN HY e
            go_wp2
            go_roundw
            case rel => exact ⟨a + 1, by omega, by go_num, HY2.out, Hq.out⟩
            case measure => simp [intOf]; omega
          · have hne : (x != z) = true := by simp [e]
            have HN2 := Lib.hid (HN.out e)
            have HB := Lib.hid (HB3.out.trans (Hq.out.below _))
            clear HN HY e
            go_wp2
            go_ret2
            exact ⟨⟨false, true, rfl, .inl ⟨Hok.out, rfl, ⟨fun h => (by cases h), fun h => absurd h HN2.out⟩⟩⟩, HB.out⟩
        · obtain rfl : a = v.length := by omega
          have HB := Lib.hid (HB3.out.trans (Hq.out.below _))
          go_wp2
          go_ret2
          exact ⟨⟨true, true, rfl, .inl ⟨Hok.out, rfl, ⟨fun _ => HF.out.2 Hd.out, fun _ => rfl⟩⟩⟩, HB.out⟩
    · obtain rfl := ha.isnt h2
      have H2 := Lib.hid (show ¬fixIn N v from fun h => h2 (HI.out.1 h))
      clear ha h2
      go_wp2
      go_ret2
      exact ⟨⟨false, false, rfl, .inr ⟨H2.out, rfl, rfl⟩⟩, HB2.out⟩
  · have Hn := Lib.hid hN
    clear hN hx
    go_enter Try.func44, Try.ntmps44
    go_wp2_with fail
    refine (isRanked_any _ w).mono ?_
    rintro e w1 ⟨ha, hb⟩
    have HB := Lib.hid hb
    obtain rfl := ha.isnt Hn.out
    clear ha hb
    go_wp2
    go_ret2
    exact ⟨⟨false, false, rfl, .inr ⟨fun h => Hn.out h.1, rfl, rfl⟩⟩, HB.out⟩
end Go.Proofs.Ytncpoljjfhmkeaa

namespace Go.Proofs.Ytncpoljjfhmkeaa
open Go.RowKit

theorem sol_short (n : Nat) : (sol n).length ≤ 14 := by unfold sol; split <;> decide
/-- the solution by ratios: all sizes, and that it is the solution -/
theorem solQ_is {n : Nat} (h1 : 1 ≤ n) (h4 : n ≤ 4) : (elimQ (catN n) (sysQ n) (catN n - 1)).2 = true ∧ okT (catN n) (elimQ (catN n) (sysQ n) (catN n - 1)).1 = true ∧ (vecQ (elimQ (catN n) (sysQ n) (catN n - 1)).1 (catN n - 1)).2 = true
    ∧ (∀ k, k ≤ catN n → mulQ (vecQ (elimQ (catN n) (sysQ n) (catN n - 1)).1 (catN n - 1)).1 k ≤ 1000000) ∧ wholeQ (vecQ (elimQ (catN n) (sysQ n) (catN n - 1)).1 (catN n - 1)).1 = sol n := by
  rcases solQ_all n (by omega) with h | h
  · omega
  · rw [Bool.and_eq_true, Bool.and_eq_true, Bool.and_eq_true, Bool.and_eq_true, List.all_eq_true, beq_iff_eq] at h
    obtain ⟨⟨⟨⟨a, b⟩, c⟩, d⟩, e⟩ := h
    exact ⟨a, b, c, fun k hk => of_decide_eq_true (d k (by simp; omega)), e⟩

set_option maxRecDepth 100000 in
set_option maxHeartbeats 800000 in
theorem implSolutionOf_any (n : Int) (w : World) (_ : -9223372036854775808 ≤ n ∧ n ≤ 9223372036854775807) :
    Calls Try.prog 42 #[.int .i64 n] w fun e w' => LRes (1 ≤ n ∧ n ≤ 4) (sol n.toNat) w' w.heap.size e ∧ Below w.heap.size w w' := by
  go_enter Try.func42, Try.ntmps42
  go_wp2_with fail
  refine (isRanked_any _ w).mono ?_
  rintro e w1 ⟨ha, hb⟩
  have HB := Lib.hid hb
  by_cases hn : 1 ≤ n ∧ n ≤ 4
  · obtain rfl := ha.is hn
    have Hn := Lib.hid hn
    have C := joiningAtAll_any n.toNat w1 (by omega) (by omega)
    rw [Int.toNat_of_nonneg (by omega)] at C
    have C := Lib.hid C
    have hl14 : catN n.toNat ≤ 14 := catN_le n.toNat (by omega)
    have hl1 : 1 ≤ catN n.toNat := catN_pos n.toNat (by omega)
    have hk1 : 1 ≤ 2 * n.toNat := by omega
    have hk8 : 2 * n.toNat ≤ 8 := by omega
    have HQ := Lib.hid (solQ_is (n := n.toNat) (by omega) (by omega))
    clear ha hn hb
    go_wp2_with fail
    refine C.out.mono ?_
    rintro e w2 ⟨v, rfl, hv, hb⟩
    have HB2 := Lib.hid (HB.out.trans (hb.mono HB.out.size))
    have CF := Lib.hid (fixedBy_any v (patP 6 n.toNat) (2 * n.toNat) (catN n.toNat) (catN n.toNat - 1) (sysQ n.toNat) w2 rfl hl14 hl1 hk1 hk8 hv rfl rfl HQ.out.1 HQ.out.2.1 HQ.out.2.2.1)
    clear hv hb C
    go_wp2_with fail
    refine CF.out.mono ?_
    rintro e w3 ⟨V, cap, rfl, hV, hcells, hb⟩
    have HB3 := Lib.hid (HB2.out.trans (hb.mono HB2.out.size))
    obtain ⟨q, hq⟩ : ∃ q, q = (vecQ (elimQ (catN n.toNat) (sysQ n.toNat) (catN n.toNat - 1)).1 (catN n.toNat - 1)).1 := ⟨_, rfl⟩
    have hlen : q.length = catN n.toNat := by rw [hq, vecQ_len]; omega
    have hsm := vecQ_small (m := (elimQ (catN n.toNat) (sysQ n.toNat) (catN n.toNat - 1)).1) (catN n.toNat - 1) HQ.out.2.2.1
    have hmq := HQ.out.2.2.2.1
    have hwq := HQ.out.2.2.2.2
    rw [← hq] at hcells hsm hmq hwq
    have CL := leastWhole_any q V cap w3 (by omega) hV (fun j hj => hcells j (by omega)) (fun j hj => hsm j (by omega)) (fun j hj => hmq j (by omega))
    rw [hlen, hwq] at CL
    have CL := Lib.hid CL
    obtain ⟨N, hN⟩ : ∃ N, N = catN n.toNat := ⟨_, rfl⟩
    rw [← hN] at CL ⊢
    clear hq hlen hsm hmq hwq hcells hV hb CF HQ hN hl14 hl1
    go_wp2_with fail
    refine CL.out.mono ?_
    rintro e w4 ⟨x, rfl, hx, hb⟩
    have HX := Lib.hid (hx.base HB3.out.size)
    have HB4 := Lib.hid (HB3.out.trans (hb.mono HB3.out.size))
    clear hx hb CL
    go_wp2
    go_ret2
    exact ⟨LRes.yes Hn.out HX.out, HB4.out⟩
  · obtain rfl := ha.isnt hn
    have Hn := Lib.hid hn
    clear ha hn hb
    go_wp2
    go_ret2
    exact ⟨LRes.no Hn.out, HB.out⟩
end Go.Proofs.Ytncpoljjfhmkeaa

namespace Go.Proofs.Ytncpoljjfhmkeaa
open Go.RowKit

/-- all numbers are at least 0 and less than the prime number -/
def inP (x : Int) : Prop := 0 ≤ x ∧ x < pM
theorem mod_inP (x : Int) : inP (x % pM) := ⟨Int.emod_nonneg _ (by decide), Int.emod_lt_of_pos _ (by decide)⟩
theorem mul_inP {x y : Int} (h1 : 0 ≤ x ∧ x ≤ pM) (h2 : 0 ≤ y ∧ y ≤ pM) : 0 ≤ x * y ∧ x * y ≤ 1000000014000000049 :=
  ⟨Int.mul_nonneg h1.1 h2.1, Int.le_trans (Int.mul_le_mul_of_nonneg_right h1.2 h2.1) (Int.le_trans (Int.mul_le_mul_of_nonneg_left h2.2 (by decide)) (by decide))⟩
theorem tmod_pM {x : Int} (h : 0 ≤ x) : x.tmod 1000000007 = x % pM := Int.tmod_eq_emod_of_nonneg h
theorem emod_pM (x : Int) : x % 1000000007 = x % pM := rfl

set_option maxRecDepth 100000 in
set_option maxHeartbeats 1600000 in
theorem syInverse_any (x : Int) (w : World) (hx : inP x) :
    Calls Try.prog 98 #[.int .i64 x] w fun e w' => e = .returned (.int .i64 (invF x)) ∧ w' = w := by
  obtain ⟨r, hr⟩ : ∃ r, r = invF x := ⟨_, rfl⟩
  rw [← hr]
  have H0 := Lib.hid (show powF 31 1000000005 1 x = r by rw [hr]; rfl)
  have Hx := Lib.hid hx
  clear hr hx
  go_enter Try.func98, Try.ntmps98
  go_wp2
  go_loop [0, 3, 4] (fun a o k => ∃ (f K : Nat) (O X : Int), K < 2 ^ f ∧ K ≤ 1000000005 ∧ k = .int .i64 (K : Int) ∧ o = .int .i64 O ∧ a = .int .i64 X ∧ inP O ∧ inP X ∧ powF f K O X = r) (fun _ _ k => (intOf k).toNat)
  case atStart => exact ⟨31, 1000000005, 1, x, by decide, Nat.le_refl _, rfl, rfl, rfl, ⟨by decide, by decide⟩, Hx.out, H0.out⟩
  case round =>
    obtain ⟨f, K, O, X, hK, hKb, rfl, rfl, rfl, hO, hX, hp⟩ := hrel
    have Hp := Lib.hid hp
    have HO := Lib.hid hO
    have HX := Lib.hid hX
    have HK := Lib.hid hK
    clear hp hO hX hK H0
    by_cases h0 : 0 < K
    · obtain ⟨f, rfl⟩ : ∃ f', f = f' + 1 := ⟨f - 1, by
        rcases Nat.eq_zero_or_pos f with h | h
        · have := HK.out; rw [h] at this; omega
        · omega⟩
      obtain ⟨K2, hK2⟩ : ∃ K2, K2 = K / 2 := ⟨_, rfl⟩
      have hq1 : (K : Int) / 2 = (K2 : Int) := by omega
      have hq2 : (K : Int).tdiv 2 = (K2 : Int) := by rw [Int.tdiv_eq_ediv_of_nonneg (by omega)]; exact hq1
      have HK2 := Lib.hid (show K2 < 2 ^ f by have := HK.out; rw [Nat.pow_succ] at this; omega)
      have HS := Lib.hid (show powF f K2 (if K % 2 = 1 then O * X % pM else O) (X * X % pM) = r by
        have h := Hp.out
        unfold powF at h
        rw [if_neg (by omega), ← hK2] at h
        exact h)
      have hK2b : K2 ≤ 1000000005 := by omega
      have hlt2 : K2 < K := by omega
      have b1 := mul_inP (x := O) (y := X) ⟨HO.out.1, Int.le_of_lt HO.out.2⟩ ⟨HX.out.1, Int.le_of_lt HX.out.2⟩
      have b2 := mul_inP (x := X) (y := X) ⟨HX.out.1, Int.le_of_lt HX.out.2⟩ ⟨HX.out.1, Int.le_of_lt HX.out.2⟩
      obtain ⟨p1, hp1⟩ : ∃ p1, p1 = O * X := ⟨_, rfl⟩
      obtain ⟨p2, hp2⟩ : ∃ p2, p2 = X * X := ⟨_, rfl⟩
      have w1 : IntKind.i64.wrap (O * X) = p1 := by rw [← hp1]; exact w64 (by rw [← hp1] at b1; omega)
      have w2 : IntKind.i64.wrap (X * X) = p2 := by rw [← hp2]; exact w64 (by rw [← hp2] at b2; omega)
      rw [← hp1] at b1
      rw [← hp2] at b2
      rw [← hp1, ← hp2] at HS
      obtain ⟨m1, hm1⟩ : ∃ m1, m1 = p1 % pM := ⟨_, rfl⟩
      obtain ⟨m2, hm2⟩ : ∃ m2, m2 = p2 % pM := ⟨_, rfl⟩
      have e1 : p1 % 1000000007 = m1 := by rw [hm1]; rfl
      have e2 : p2 % 1000000007 = m2 := by rw [hm2]; rfl
      have t1 : p1.tmod 1000000007 = m1 := by rw [hm1]; exact tmod_pM b1.1
      have t2 : p2.tmod 1000000007 = m2 := by rw [hm2]; exact tmod_pM b2.1
      rw [← hm1, ← hm2] at HS
      have Hm1 := Lib.hid (show inP m1 by rw [hm1]; exact mod_inP _)
      have Hm2 := Lib.hid (show inP m2 by rw [hm2]; exact mod_inP _)
      clear hK2 hp1 hp2 hm1 hm2 Hp HK
      by_cases hodd : K % 2 = 1
      · have HS2 := Lib.hid (show powF f K2 m1 m2 = r by have h := HS.out; rw [if_pos hodd] at h; exact h)
        have o1 : (K : Int) % 2 = 1 := by omega
        have o2 : (K : Int).tmod 2 = 1 := by rw [Int.tmod_eq_emod_of_nonneg (by omega)]; exact o1
        clear hodd HS
        go_wp2
        go_round
        case rel => exact ⟨f, K2, m1, m2, HK2.out, hK2b, rfl, rfl, rfl, Hm1.out, Hm2.out, HS2.out⟩
        case measure => simp [intOf]; omega
      · have HS2 := Lib.hid (show powF f K2 O m2 = r by have h := HS.out; rw [if_neg hodd] at h; exact h)
        have o1 : (K : Int) % 2 = 0 := by omega
        have o2 : (K : Int).tmod 2 = 0 := by rw [Int.tmod_eq_emod_of_nonneg (by omega)]; exact o1
        clear hodd HS
        go_wp2
        go_round
        case rel => exact ⟨f, K2, O, m2, HK2.out, hK2b, rfl, rfl, rfl, HO.out, Hm2.out, HS2.out⟩
        case measure => simp [intOf]; omega
    · obtain rfl : K = 0 := by omega
      have HR := Lib.hid (show O = r by
        have h := Hp.out
        cases f with
        | zero => exact h
        | succ f => unfold powF at h; rw [if_pos rfl] at h; exact h)
      go_wp2
      go_ret
      exact ⟨by rw [← HR.out]; rfl, rfl⟩

/-- a number of an owned table: its row, its cell, a store into it -/
theorem OwnP.atL {w : World} {B n : Nat} {v : Value} {m : List (List Int)} {vs : List Value} (h : OwnP w B v n m n vs) (hm : m.length = n) {i j : Nat} (hi : i < n) (hj : j < (gr m i).length) :
    ∃ g cap, vs.getD i undef = .slice (some ⟨g, 0, none⟩) (gr m i).length cap ∧ w.cell? ⟨g, j, none⟩ = some (.int .i64 (gi (gr m i) j)) ∧ w.frozen? ⟨g, j, none⟩ = false ∧ B ≤ g ∧
      ∀ x, OwnP (w.setCell ⟨g, j, none⟩ (.int .i64 x)) B v n (m.set i ((gr m i).set j x)) n vs := by
  have hrow := h.rows i hi
  obtain ⟨ao, cap, hv, _, _, _⟩ := hrow.read
  have hrow' := hrow
  rw [hv] at hrow'
  obtain ⟨g, rfl, hg, _⟩ := hrow'.isAt (by omega)
  refine ⟨g, cap, hv, hrow'.cellAt j hj, hrow'.frozenAt j, hg, fun x => ⟨?_, fun a ha => ?_, h.apart⟩⟩
  · exact Go.ownsRow_setCell_other h.top (fun e => hrow.ne_row h.top g (by rw [hv]; rfl) e) _
  · rw [gr_set (by omega)]
    by_cases e : a = i
    · subst e
      rw [if_pos rfl, hv]
      exact hrow'.store j x
    · rw [if_neg e]
      refine (h.rows a ha).setOther (fun hg' => ?_) _
      rcases Nat.lt_or_gt_of_ne e with hlt | hlt
      · exact h.apart a i hlt hi g hg' (by rw [hv]; rfl)
      · exact h.apart i a hlt ha g (by rw [hv]; rfl) hg'

/-- two rows have been exchanged -/
def swpV (vs : List Value) (i j : Nat) : List Value := (vs.set i (vs.getD j undef)).set j (vs.getD i undef)
theorem vs_setB {vs : List Value} {i j : Nat} {x : Value} (h : i < vs.length) : (vs.set i x).getD j undef = if j = i then x else vs.getD j undef := by
  simp only [List.getD, List.getElem?_set]
  by_cases e : i = j
  · subst e; simp [h]
  · rw [if_neg e, if_neg (fun h => e h.symm)]
theorem swpV_at {vs : List Value} {i j a : Nat} (hi : i < vs.length) (hj : j < vs.length) : (swpV vs i j).getD a undef = vs.getD (if a = j then i else if a = i then j else a) undef := by
  unfold swpV
  rw [vs_setB (by rw [List.length_set]; exact hj), vs_setB hi]
  by_cases e : a = j
  · rw [if_pos e, if_pos e]
  · rw [if_neg e, if_neg e]
    by_cases e2 : a = i
    · rw [if_pos e2, if_pos e2]
    · rw [if_neg e2, if_neg e2]
theorem gr_swpL {L : List (List Int)} {i j a : Nat} (hi : i < L.length) (hj : j < L.length) : gr (swpL L i j) a = gr L (if a = j then i else if a = i then j else a) := by
  unfold swpL
  rw [gr_set (by rw [List.length_set]; exact hj), gr_set hi]
  by_cases e : a = j
  · rw [if_pos e, if_pos e]
  · rw [if_neg e, if_neg e]
    by_cases e2 : a = i
    · rw [if_pos e2, if_pos e2]
    · rw [if_neg e2, if_neg e2]
theorem OwnP.swap {w : World} {B g n c : Nat} {m : List (List Int)} {vs : List Value} (h : OwnP w B (.slice (some ⟨g, 0, none⟩) n c) n m n vs) (hm : m.length = n) {i j : Nat} (hi : i < n) (hj : j < n) :
    OwnP ((w.setCell ⟨g, i, none⟩ (vs.getD j undef)).setCell ⟨g, j, none⟩ (vs.getD i undef)) B (.slice (some ⟨g, 0, none⟩) n c) n (swpL m i j) n (swpV vs i j) := by
  obtain ⟨cur, hcur⟩ := ownsRow_block h.top
  have hl : vs.length = n := by simpa using h.top.1
  have ht := (World.ownsRow.stored (World.ownsRow.stored h.top i (vs.getD j undef)).1 j (vs.getD i undef)).1
  refine ⟨ht, fun a ha => ?_, fun a b hab hb q hq => ?_⟩
  · rw [swpV_at (by omega) (by omega), gr_swpL (by omega) (by omega)]
    have hx : (if a = j then i else if a = i then j else a) < n := by split; exact hi; split; exact hj; exact ha
    have hr := h.rows _ hx
    exact (hr.setOther (hr.ne_top hcur) _).setOther (hr.ne_top hcur) _
  · rw [swpV_at (by omega) (by omega)] at hq ⊢
    have hx : (if a = j then i else if a = i then j else a) < n := by split; exact hi; split; exact hj; omega
    have hy : (if b = j then i else if b = i then j else b) < n := by split; exact hi; split; exact hj; exact hb
    have hne : (if a = j then i else if a = i then j else a) ≠ (if b = j then i else if b = i then j else b) := by
      repeat' split
      all_goals omega
    rcases Nat.lt_or_gt_of_ne hne with e | e
    · exact h.apart _ _ e hy q hq
    · intro hq2
      exact h.apart _ _ e hx q hq2 hq
end Go.Proofs.Ytncpoljjfhmkeaa

namespace Go.Proofs.Ytncpoljjfhmkeaa
open Go.RowKit

/-- a square table of numbers less than the prime number -/
def Mt (L : List (List Int)) (N : Nat) : Prop := L.length = N ∧ ∀ r, r < N → (gr L r).length = N ∧ ∀ c, c < N → inP (gi (gr L r) c)
theorem powF_inP : ∀ (f k : Nat) (o x : Int), inP o → inP (powF f k o x)
  | 0, _, _, _, h => h
  | f + 1, k, o, x, h => by
    unfold powF
    split
    · exact h
    · refine powF_inP f _ _ _ ?_
      split
      · exact mod_inP _
      · exact h
theorem invF_inP (x : Int) : inP (invF x) := powF_inP _ _ _ _ ⟨by decide, by decide⟩
theorem pivF_ge (L : List (List Int)) (k : Nat) : ∀ f a, a ≤ pivF L k f a
  | 0, a => Nat.le_refl _
  | f + 1, a => by
    unfold pivF
    split
    · have := pivF_ge L k f (a + 1); omega
    · exact Nat.le_refl _
theorem Mt.swp {L : List (List Int)} {N i j : Nat} (h : Mt L N) (hi : i < N) (hj : j < N) : Mt (swpL L i j) N := by
  refine ⟨by simp [swpL, h.1], fun r hr => ?_⟩
  rw [gr_swpL (by rw [h.1]; exact hi) (by rw [h.1]; exact hj)]
  refine h.2 _ ?_
  split
  · exact hi
  · split
    · exact hj
    · exact hr
theorem Mt.set {L : List (List Int)} {N i : Nat} {row : List Int} (h : Mt L N) (hi : i < N) (h1 : row.length = N) (h2 : ∀ c, c < N → inP (gi row c)) : Mt (L.set i row) N := by
  refine ⟨by rw [List.length_set]; exact h.1, fun r hr => ?_⟩
  rw [gr_set (by rw [h.1]; exact hi)]
  split
  · exact ⟨h1, h2⟩
  · exact h.2 r hr
theorem Mt.mixL {L : List (List Int)} {N i : Nat} {F : Nat → Int} {b : Nat} (h : Mt L N) (hi : i < N) (hF : ∀ c, inP (F c)) : (mixL F (gr L i) b).length = N ∧ ∀ c, c < N → inP (gi (mixL F (gr L i) b) c) := by
  obtain ⟨h1, h2⟩ := h.2 i hi
  refine ⟨by rw [mixL_len]; exact h1, fun c hc => ?_⟩
  rw [gi_mixL (by omega)]
  split
  · exact hF c
  · exact h2 c hc
theorem Mt.colN {L : List (List Int)} {N k : Nat} (h : Mt L N) (hk : k < N) : Mt (colN L k) N := by
  have := h.mixL (F := nmF (gr L k) (invF (gi (gr L k) k))) (b := L.length) hk (fun c => mod_inP _)
  exact h.set hk this.1 this.2
theorem Mt.elR {L : List (List Int)} {N k a : Nat} (h : Mt L N) (ha : a < N) : (elR L k a).length = N ∧ ∀ c, c < N → inP (gi (elR L k a) c) := by
  unfold Go.Proofs.Ytncpoljjfhmkeaa.elR
  split
  · exact h.2 a ha
  · exact h.mixL ha (fun c => mod_inP _)
theorem Mt.mixR {L : List (List Int)} {N t : Nat} {F : Nat → List Int} (h : Mt L N) (hF : ∀ a, a < N → (F a).length = N ∧ ∀ c, c < N → inP (gi (F a) c)) : Mt (mixR F L t) N := by
  refine ⟨by rw [mixR_len]; exact h.1, fun r hr => ?_⟩
  rw [gr_mixR (by rw [h.1]; exact hr)]
  split
  · exact hF r hr
  · exact h.2 r hr
theorem mixR_skip {F : Nat → List Int} {L : List (List Int)} {t : Nat} (h : F t = gr L t) : mixR F L t = mixR F L (t + 1) := by
  refine ext_gr (by rw [mixR_len, mixR_len]) fun r hr => ?_
  rw [mixR_len] at hr
  rw [gr_mixR hr, gr_mixR hr]
  by_cases e : r = t
  · subst e; rw [if_neg (Nat.lt_irrefl r), if_pos (Nat.lt_succ_self r), h]
  · by_cases e2 : r < t
    · rw [if_pos e2, if_pos (show r < t + 1 by omega)]
    · rw [if_neg e2, if_neg (show ¬r < t + 1 by omega)]
/-- the look at the pivots -/
theorem solK_piv (L : List (List Int)) : ∀ K, (solK L K).2 = true → ∀ k, k < K → pivF (solK L k).1 k (solK L k).1.length k < (solK L k).1.length ∧ gi (gr (solK L k).1 (pivF (solK L k).1 k (solK L k).1.length k)) k ≠ 0
  | 0, _, k, hk => absurd hk (by omega)
  | K + 1, h, k, hk => by
    unfold solK at h
    rw [Bool.and_eq_true, Bool.and_eq_true, decide_eq_true_eq, decide_eq_true_eq] at h
    by_cases e : k = K
    · rw [e]; exact h.2
    · exact solK_piv L K h.1 k (by omega)
theorem solK_mt {L : List (List Int)} {N K : Nat} (h : Mt L N) (hs : (solK L K).2 = true) (hK : K < N) : ∀ k, k ≤ K → Mt (solK L k).1 N
  | 0, _ => h
  | k + 1, hk => by
    have hm := solK_mt h hs hK k (by omega)
    have hp := (solK_piv L K hs k (by omega)).1
    rw [hm.1] at hp
    have h1 : Mt (colS (solK L k).1 k) N := hm.swp (by omega) (by rw [hm.1]; exact hp)
    have h2 := h1.colN (k := k) (by omega)
    exact h2.mixR fun a ha => h2.elR ha

theorem sumT_mt {n : Nat} (h1 : 1 ≤ n) (h4 : n < 5) : Mt (sumT (patP 6 n)) (catN n) := by
  refine ⟨sumT_len _, fun r hr => ?_⟩
  have e : (patP 6 n).length = catN n := rfl
  rw [sumT_at h1 h4, e]
  refine ⟨tab_row hr, fun c hc => ?_⟩
  rw [gi_tab hr hc]
  have h := sumN_in (patP 6 n) (2 * n) r c
  refine ⟨h.1, ?_⟩
  have : (1000 : Int) < pM := by decide
  omega
theorem dgF_row {L : List (List Int)} {N a : Nat} {c : Int} (h : Mt L N) (ha : a < N) : (dgF L c a).length = N ∧ ∀ x, x < N → inP (gi (dgF L c a) x) := by
  obtain ⟨h1, h2⟩ := h.2 a ha
  unfold dgF
  refine ⟨by rw [List.length_set]; exact h1, fun x hx => ?_⟩
  rw [gi_set (by omega)]
  split
  · exact mod_inP _
  · exact h2 x hx
theorem sys_mt {n : Nat} (h1 : 1 ≤ n) (h4 : n < 5) : Mt (sysL n) (catN n) := (sumT_mt h1 h4).mixR fun _ ha => dgF_row (sumT_mt h1 h4) ha
theorem sol_is {n : Nat} (h1 : 1 ≤ n) (h4 : n < 5) : (solK (sysL n) (catN n - 1)).2 = true ∧ outL (solK (sysL n) (catN n - 1)).1 (catN n) = sol n := by
  have h := (sol_all n h4).resolve_left (by omega)
  rw [Bool.and_eq_true] at h
  exact ⟨h.1, eq_of_beq h.2⟩
end Go.Proofs.Ytncpoljjfhmkeaa

