/- Contracts of the program: patterns joined at a point and at the points of a word, small arcs, nests. Conditions: lengths up to 2^20, numbers of an int. -/
import Derived.Test.YtncpoljjfhmkeaaSyS
import Derived.Test.YtncpoljjfhmkeaaPatI
import Derived.Test.YtncpoljjfhmkeaaScal
import Derived.Deep.RegionWith
import Derived.Deep.Cut
namespace Go.Proofs.Ytncpoljjfhmkeaa
open Go.RowKit

theorem nums_new (w : World) (xs : List Int) : IntsAt (w.alloc (.cells (xs.map (Value.int .i64)).toArray 3)) (some ⟨w.heap.size, 0, none⟩) xs := fun i hi => ⟨w.heap.size, 0, rfl, by
  rw [Nat.zero_add, cell_new]
  simp [gi, List.getD, hi]⟩

set_option maxRecDepth 100000 in
set_option maxHeartbeats 800000 in
theorem numsIn_any (ao : Option Addr) (c : Nat) (xs : List Int) (lo hi : Int) (w : World) (hn : xs.length ≤ 1048576) (hx : IntsAt w ao xs) :
    Calls Try.prog 90 #[.int .i64 lo, .int .i64 hi, .slice ao xs.length c] w fun e w' => Ans (allIn xs lo hi) e ∧ w = w' := by
  have hmx : xs.length ≤ 9223372036854775807 := by omega
  have Hx := Lib.hid hx
  clear hx
  go_enter Try.func90, Try.ntmps90
  go_wp2
  go_loop [11] (fun i => ∃ k : Nat, k ≤ xs.length ∧ i = .int .i64 k ∧ ∀ j, j < k → lo ≤ gi xs j ∧ gi xs j ≤ hi) (fun i => xs.length - (intOf i).toNat)
  case atStart => exact ⟨0, Nat.zero_le _, rfl, fun j hj => absurd hj (by omega)⟩
  case round =>
    obtain ⟨k, hk, rfl, hd⟩ := hrel
    have Hd := Lib.hid hd
    clear hd
    by_cases hlt : k < xs.length
    · obtain ⟨b1, o1, rfl, hc1⟩ := Hx.out k hlt
      have Hno := Lib.hid (fun (h : ¬(lo ≤ gi xs k ∧ gi xs k ≤ hi)) (h2 : allIn xs lo hi) => h (h2 k hlt))
      have Hyes := Lib.hid (show (lo ≤ gi xs k ∧ gi xs k ≤ hi) → ∀ j, j < k + 1 → lo ≤ gi xs j ∧ gi xs j ≤ hi from fun h j hj => by
        by_cases e : j = k
        · subst e; exact h
        · exact Hd.out j (by omega))
      obtain ⟨x, hx⟩ : ∃ x, x = gi xs k := ⟨_, rfl⟩
      rw [← hx] at hc1 Hno Hyes
      clear hx
      by_cases h1 : x < lo
      · have hd1 : decide (x < lo) = true := by simpa using h1
        have H := Lib.hid (Hno.out (fun h => by omega))
        clear Hno Hyes h1
        go_wp2
        go_ret
        exact ⟨Ans.no H.out, rfl⟩
      · have hd1 : decide (x < lo) = false := by simpa using h1
        by_cases h2 : hi < x
        · have hd2 : decide (hi < x) = true := by simpa using h2
          have H := Lib.hid (Hno.out (fun h => by omega))
          clear Hno Hyes h1 h2
          go_wp2
          go_ret
          exact ⟨Ans.no H.out, rfl⟩
        · have hd2 : decide (hi < x) = false := by simpa using h2
          have H := Lib.hid (Hyes.out ⟨by omega, by omega⟩)
          clear Hno Hyes h1 h2
          go_wp2
          go_round
          case rel => exact ⟨k + 1, by omega, by go_num, H.out⟩
          case measure => simp [intOf]; omega
    · obtain rfl : k = xs.length := by omega
      go_wp2
      go_ret
      exact ⟨Ans.yes Hd.out, rfl⟩

theorem allIn_num (x lo hi : Int) : allIn [x] lo hi ↔ lo ≤ x ∧ x ≤ hi := by
  refine ⟨fun h => h 0 (by simp), fun h i hi => ?_⟩
  obtain rfl : i = 0 := by simpa using hi
  exact h

set_option maxRecDepth 100000 in
set_option maxHeartbeats 800000 in
theorem isRanked_any (n : Int) (w : World) :
    Calls Try.prog 54 #[.int .i64 n] w fun e w' => Ans (1 ≤ n ∧ n ≤ 4) e ∧ Below w.heap.size w w' := by
  go_enter Try.func54, Try.ntmps54
  go_wp2_with fail
  refine (numsIn_any (some ⟨w.heap.size, 0, none⟩) 1 [n] 1 4 _ (by simp) (nums_new w [n])).mono ?_
  rintro e w2 ⟨ha, rfl⟩
  obtain ⟨b, rfl, hb⟩ := ha.iff (allIn_num n 1 4)
  have Hb := Lib.hid hb
  clear ha hb
  go_wp2
  go_ret
  exact ⟨⟨b, rfl, Hb.out⟩, (Below.refl _ _).alloc (Nat.le_refl _) _⟩

set_option maxRecDepth 100000 in
set_option maxHeartbeats 800000 in
theorem arePoints_any (n : Nat) (ao : Option Addr) (c : Nat) (xs : List Int) (w : World) (h : n ≤ 1048576) (hn : xs.length ≤ 1048576) (hx : IntsAt w ao xs) :
    Calls Try.prog 64 #[.int .i64 (n : Int), .slice ao xs.length c] w fun e w' => Ans (allIn xs 0 ((n : Int) - 1)) e ∧ w = w' := by
  have Hx := Lib.hid hx
  clear hx
  go_enter Try.func64, Try.ntmps64
  go_wp2_with fail
  refine (numsIn_any ao c xs 0 ((n : Int) - 1) w hn Hx.out).mono ?_
  rintro e w2 ⟨ha, rfl⟩
  obtain ⟨b, rfl, hb⟩ := ha
  have Hb := Lib.hid hb
  clear hb
  go_wp2
  go_ret
  exact ⟨⟨b, rfl, Hb.out⟩, rfl⟩

theorem nextPoint_any (ao : Option Addr) (c : Nat) (p : List Int) (i : Nat) (w : World) (h2 : 2 ≤ p.length) (h12 : p.length ≤ 12) (hi : i < p.length) :
    Calls Try.prog 67 #[.slice ao p.length c, .int .i64 (i : Int)] w fun e w' => e = .returned (.int .i64 (nx p i : Int)) ∧ w' = w := by
  have hr1 := rem_nx h2 i
  have hr2 := trem_nx h2 i
  have hn0 : ((p.length : Int) == 0) = false := beq_false_of_ne (by omega)
  obtain ⟨y, hy⟩ : ∃ y, nx p i = y := ⟨_, rfl⟩
  rw [hy] at hr1 hr2 ⊢
  clear hy
  go_enter Try.func67, Try.ntmps67
  go_wp2
  go_ret
  exact ⟨rfl, rfl⟩

set_option maxRecDepth 100000 in
set_option maxHeartbeats 1600000 in
theorem joined_any (ao : Option Addr) (c : Nat) (p : List Int) (i : Nat) (w : World) (hp : Lk p) (hi : i < p.length) (hx : IntsAt w ao p) :
    Calls Try.prog 66 #[.slice ao p.length c, .int .i64 (i : Int)] w fun e w' => ∃ v, e = .returned v ∧ OwnI w' w.heap.size v (joinL p i) ∧ Below w.heap.size w w' := by
  have CN := Lib.hid (nextPoint_any ao c p i w hp.lo hp.hi hi)
  obtain ⟨k, A, B, hk, hA, hB, k1, A1, B1, ki, Ai, Bk, gA, gB⟩ := hp.four hi
  obtain ⟨b0, o0, rfl, hci⟩ := hx i hi
  obtain ⟨b1, o1, he, hck⟩ := hx k k1
  simp only [Option.some.injEq, Addr.mk.injEq, and_true] at he
  obtain ⟨rfl, rfl⟩ := he
  have h2 := hp.lo
  have h12 := hp.hi
  rw [hk] at CN
  rw [hA] at hci
  rw [hB] at hck
  have hmx : p.length ≤ 9223372036854775807 := by omega
  have Hx := Lib.hid hx
  have HJ := Lib.hid (show joinL p i = (((p.set A (B : Int)).set B (A : Int)).set i (k : Int)).set k (i : Int) by unfold joinL; rw [hk, hA, hB, Int.toNat_natCast, Int.toNat_natCast])
  have hbw : b0 < w.heap.size := World.block_lt_of_cell? _ _ hci
  clear hp hx hk hA hB gA gB
  go_enter Try.func66, Try.ntmps66
  go_wp2_with fail
  refine CN.out.mono ?_
  rintro e w1 ⟨rfl, rfl⟩
  clear CN
  go_wp2_with fail
  refine (sClone_any (some ⟨b0, o0, none⟩) c p w1 (by omega) Hx.out).mono ?_
  rintro e w2 ⟨v, rfl, hv, hb⟩
  have hci2 := cell_below hci hb
  have hck2 := cell_below hck hb
  obtain ⟨va, vc, rfl, _, _, _⟩ := hv.read
  obtain ⟨g, rfl, hg, _⟩ := hv.isAt (by omega)
  have P1 := hv.store A (B : Int)
  have P2 : OwnI ((w2.setCell ⟨g, A, none⟩ (.int .i64 (B : Int))).setCell ⟨g, B, none⟩ (.int .i64 (A : Int))).drew w1.heap.size (.slice (some ⟨g, 0, none⟩) p.length vc) ((p.set A (B : Int)).set B (A : Int)) := (P1.store B (A : Int)).drew
  have HP2 := Lib.hid P2
  have d0 := hv.cellAt A A1
  have f0 := hv.frozenAt A
  have d1 := P1.cellAt B B1
  have f1 := P1.frozenAt B
  have Hb2 := Lib.hid ((hb.setCell (p := ⟨g, A, none⟩) hg (.int .i64 (B : Int))).setCell (p := ⟨g, B, none⟩) hg (.int .i64 (A : Int))).drew
  clear hv hb hci hck P1 P2
  go_upto_region 3 with (fail)
  go_region
  all_goals
    clear d0 f0 d1 f1 hci2 hck2
    generalize World.drew _ = wx at HP2 Hb2 ⊢
    have d2 := HP2.out.cellAt i hi
    have f2 := HP2.out.frozenAt i
    have P3 := HP2.out.store i (k : Int)
    have d3 := P3.cellAt k k1
    have f3 := P3.frozenAt k
    have HP := Lib.hid (P3.store k (i : Int))
    have Hb := Lib.hid ((Hb2.out.setCell (p := ⟨g, i, none⟩) hg (.int .i64 (k : Int))).setCell (p := ⟨g, k, none⟩) hg (.int .i64 (i : Int)))
    clear P3
    go_wp2
    go_ret
    exact ⟨_, rfl, by rw [HJ.out]; have h := HP.out; simpa using h, Hb.out⟩

set_option maxRecDepth 100000 in
set_option maxHeartbeats 800000 in
theorem implJoinWord_any (ao : Option Addr) (c : Nat) (p : List Int) (a2 : Option Addr) (c2 : Nat) (ws : List Int) (w : World) (hn : p.length ≤ 1048576) (hwf : WfI p) (hx : IntsAt w ao p) (hn2 : ws.length ≤ 1048576) (_hwf2 : WfI ws) (hx2 : IntsAt w a2 ws) :
    Calls Try.prog 27 #[.slice ao p.length c, .slice a2 ws.length c2] w fun e w' => LRes (wordOk p ws) (joinT p ws ws.length) w' w.heap.size e ∧ Below w.heap.size w w' := by
  have hmx : p.length ≤ 9223372036854775807 := by omega
  have hmx2 : ws.length ≤ 9223372036854775807 := by omega
  have Hx := Lib.hid hx
  have Hx2 := Lib.hid hx2
  have Hwf := Lib.hid hwf
  clear hx hx2 hwf
  go_enter Try.func27, Try.ntmps27
  go_wp2_with fail
  refine (implIsPattern_any ao c p w hn Hwf.out Hx.out).mono ?_
  rintro e w1 ⟨ha, hb1⟩
  have HB := Lib.hid hb1
  clear hb1
  by_cases hg : isPat p
  · have Hg := Lib.hid hg
    have hl2 := hg.lo
    have hl12 := hg.hi
    clear hg
    obtain rfl := ha.is Hg.out
    clear ha
    by_cases h100 : 100 < ws.length
    · have hd : decide ((100 : Int) < (ws.length : Int)) = true := by simp; omega
      go_wp2
      go_ret2
      exact ⟨LRes.no fun h => by have := h.2.1; omega, HB.out⟩
    have hd : decide ((100 : Int) < (ws.length : Int)) = false := by simp; omega
    have hw100 : ws.length ≤ 100 := by omega
    clear h100
    go_wp2_with fail
    refine (arePoints_any p.length a2 c2 ws w1 hn hn2 (Hx2.out.below HB.out)).mono ?_
    rintro e w1 ⟨ha, rfl⟩
    by_cases hb : allIn ws 0 ((p.length : Int) - 1)
    · have Hb := Lib.hid hb
      obtain rfl := ha.is hb
      clear ha hb hd
      go_wp2_with fail
      refine (sClone_any ao c p w1 hn (Hx.out.below HB.out)).mono ?_
      rintro e w2 ⟨v, rfl, hv, hb2⟩
      obtain ⟨va, vc, rfl, _, _, _⟩ := hv.read
      have Hv := Lib.hid (hv.base HB.out.size)
      have Hb2 := Lib.hid (HB.out.trans (hb2.mono HB.out.size))
      clear hv hb2 HB
      go_wp2
      go_loopw [6, 28] (fun q i wr => ∃ (k : Nat) (qa : Option Addr) (qc : Nat), k ≤ ws.length ∧ i = .int .i64 k ∧ q = .slice qa p.length qc ∧ OwnI wr w.heap.size q (joinT p ws k) ∧ Below w.heap.size w wr) (fun _ i _ => ws.length - (intOf i).toNat)
      case atStart => exact ⟨0, _, _, Nat.zero_le _, rfl, rfl, Hv.out, Hb2.out⟩
      case round =>
        obtain ⟨k, qa, qc, hk, rfl, rfl, hq, hbr⟩ := hrel
        have Hq := Lib.hid hq
        have Hbr := Lib.hid hbr
        clear hq hbr Hv Hb2
        by_cases hlt : k < ws.length
        · obtain ⟨b1, o1, rfl, hc1⟩ := Hx2.out.below Hbr.out k hlt
          have hin := Hb.out k hlt
          obtain ⟨x, hxe⟩ : ∃ x : Nat, gi ws k = x := ⟨(gi ws k).toNat, by omega⟩
          rw [hxe] at hc1 hin
          have HE := Lib.hid (show joinT p ws (k + 1) = joinL (joinT p ws k) x by rw [joinT, hxe, Int.toNat_natCast])
          have hl := joinT_len p ws k
          have Hlk := Lib.hid (Hg.out.lk.run (ws := ws) (fun k hk => by have := Hb.out k hk; omega) k hk)
          obtain ⟨qa', qc', hqe, _, _, hqi⟩ := Hq.out.read
          have hqe2 : qa = qa' ∧ qc = qc' := by simp only [Value.slice.injEq] at hqe; exact ⟨hqe.1, hqe.2.2⟩
          obtain ⟨rfl, rfl⟩ := hqe2
          clear hqe
          have CJ := Lib.hid (joined_any _ qc (joinT p ws k) x wr Hlk.out (by omega) hqi)
          rw [hl] at CJ
          clear hxe hl hqi
          go_wp2_with fail
          refine CJ.out.mono ?_
          rintro e w3 ⟨v, rfl, hv, hb⟩
          rw [← HE.out] at hv
          obtain ⟨va, vc, hve, hd1, hd2, hd3⟩ := hv.read
          clear hd1 hd2 hd3
          rw [joinT_len] at hve
          subst hve
          have Hv2 := Lib.hid (hv.base Hbr.out.size)
          have Hb3 := Lib.hid (Hbr.out.trans (hb.mono Hbr.out.size))
          clear hv hb CJ
          go_wp2
          go_roundw
          case rel => exact ⟨k + 1, _, _, by omega, by go_num, rfl, Hv2.out, Hb3.out⟩
          case measure => simp [intOf]; omega
        · obtain rfl : k = ws.length := by omega
          go_wp2
          go_ret2
          exact ⟨LRes.yes ⟨Hg.out, hw100, Hb.out⟩ Hq.out, Hbr.out⟩
    · have Hb := Lib.hid hb
      obtain rfl := ha.isnt hb
      clear ha hb
      go_wp2
      go_ret2
      exact ⟨LRes.no fun h => Hb.out h.2.2, HB.out⟩
  · have Hg := Lib.hid hg
    clear hg
    obtain rfl := ha.isnt Hg.out
    clear ha
    go_wp2
    go_ret2
    exact ⟨LRes.no fun h => Hg.out h.1, HB.out⟩

theorem wordOk_one {p : List Int} {i : Int} : wordOk p [i] ↔ isPat p ∧ 0 ≤ i ∧ i < p.length := by
  unfold wordOk
  rw [allIn_num]
  constructor
  · rintro ⟨h, _, h1, h2⟩; exact ⟨h, h1, by omega⟩
  · rintro ⟨h, h1, h2⟩; exact ⟨h, by simp, h1, by omega⟩

theorem implJoinAt_any (ao : Option Addr) (c : Nat) (p : List Int) (i : Int) (w : World) (hn : p.length ≤ 1048576) (hwf : WfI p) (hx : IntsAt w ao p) (hi : -9223372036854775808 ≤ i ∧ i ≤ 9223372036854775807) :
    Calls Try.prog 25 #[.slice ao p.length c, .int .i64 i] w fun e w' => LRes (isPat p ∧ 0 ≤ i ∧ i < p.length) (joinL p i.toNat) w' w.heap.size e ∧ Below w.heap.size w w' := by
  have Hx := Lib.hid hx
  have HW := Lib.hid (nums_new w [i])
  have Hb0 := Lib.hid ((Below.refl w.heap.size w).alloc (Nat.le_refl _) (.cells ([i].map (Value.int .i64)).toArray 3))
  have C := Lib.hid (implJoinWord_any ao c p (some ⟨w.heap.size, 0, none⟩) 1 [i] (w.alloc (.cells ([i].map (Value.int .i64)).toArray 3)) hn hwf (hx.below Hb0.out) (by simp) (fun j hj => by obtain rfl : j = 0 := by simpa using hj
                                                                                                                                                                                             exact hi) HW.out)
  clear hx hwf HW
  go_enter Try.func25, Try.ntmps25
  go_wp2_with fail
  refine C.out.mono ?_
  rintro e w2 ⟨⟨v, b, r, rfl, hv, hr⟩, hb⟩
  have HV := Lib.hid (hv.base Hb0.out.size)
  have HB := Lib.hid (Hb0.out.trans (hb.mono Hb0.out.size))
  have HR := Lib.hid hr
  clear hv hb hr C
  go_wp2
  go_ret2
  refine ⟨⟨v, b, r, rfl, HV.out, ?_⟩, HB.out⟩
  rcases HR.out with ⟨h1, h2, h3⟩ | ⟨h1, h2, h3⟩
  · exact .inl ⟨wordOk_one.1 h1, h2, h3⟩
  · exact .inr ⟨fun h => h1 (wordOk_one.2 h), h2, h3⟩
end Go.Proofs.Ytncpoljjfhmkeaa
