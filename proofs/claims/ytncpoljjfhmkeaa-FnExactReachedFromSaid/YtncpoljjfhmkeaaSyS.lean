/- Contracts of the model: patterns joined at a point and at the points of a word, small arcs, nests. Conditions: lengths up to 2^20, numbers of an int. -/
import Derived.Test.YtncpoljjfhmkeaaSyM
import Derived.Test.YtncpoljjfhmkeaaPatS
import Derived.Test.YtncpoljjfhmkeaaOwn
import Derived.Test.YtncpoljjfhmkeaaL1
namespace Go.Proofs.Ytncpoljjfhmkeaa
open Go.RowKit

theorem rem_nx {p : List Int} (h : 2 ≤ p.length) (i : Nat) : ((i : Int) + 1) % (p.length : Int) = (nx p i : Int) := by unfold nx; rw [Int.natCast_emod, Int.natCast_add]; rfl
theorem trem_nx {p : List Int} (h : 2 ≤ p.length) (i : Nat) : ((i : Int) + 1).tmod (p.length : Int) = (nx p i : Int) := by rw [Int.tmod_eq_emod_of_nonneg (by omega)]; exact rem_nx h i

set_option maxRecDepth 100000 in
set_option maxHeartbeats 1600000 in
theorem syJoin_any (ao : Option Addr) (c : Nat) (p : List Int) (i : Nat) (w : World) (hp : Lk p) (hi : i < p.length) (hx : IntsAt w ao p) :
    Calls Try.prog 60 #[.slice ao p.length c, .int .i64 (i : Int)] w fun e w' => ∃ v, e = .returned v ∧ OwnI w' w.heap.size v (joinL p i) ∧ Below w.heap.size w w' := by
  obtain ⟨k, A, B, hk, hA, hB, k1, A1, B1, ki, Ai, Bk, gA, gB⟩ := hp.four hi
  obtain ⟨b0, o0, rfl, hci⟩ := hx i hi
  obtain ⟨b1, o1, he, hck⟩ := hx k k1
  simp only [Option.some.injEq, Addr.mk.injEq, and_true] at he
  obtain ⟨rfl, rfl⟩ := he
  have h2 := hp.lo
  have h12 := hp.hi
  have hr1 := rem_nx h2 i
  have hr2 := trem_nx h2 i
  rw [hk] at hr1 hr2
  rw [hA] at hci
  rw [hB] at hck
  have hn0 : ((p.length : Int) == 0) = false := beq_false_of_ne (by omega)
  have hmx : p.length ≤ 9223372036854775807 := by omega
  have Hx := Lib.hid hx
  have Hown := Lib.hid (l1Own_any (some ⟨b0, o0, none⟩) c p w (by omega) (fun h => by cases h) hx)
  by_cases hs : A = k
  · have Hj := Lib.hid (hp.join_same hi (by rw [hk, hA, hs]))
    subst hs
    clear hp hx hk hA hB gA gB
    go_enter Try.func60, Try.ntmps60
    go_wp2_with fail
    refine Hown.out.mono ?_
    rintro e w1 ⟨v, rfl, hv, hb⟩
    have Hv := Lib.hid hv
    have Hb := Lib.hid hb
    clear hv hb
    go_wp2
    go_ret
    exact ⟨_, rfl, by rw [Hj.out]; exact Hv.out, Hb.out⟩
  · have Hj := Lib.hid (hp.join_model hi (by rw [hk, hA]; omega))
    have HJ := Lib.hid (show joinS p i = (((p.set i (k : Int)).set k (i : Int)).set A (B : Int)).set B (A : Int) by unfold joinS; rw [hk, hA, hB, Int.toNat_natCast, Int.toNat_natCast])
    have hne : ((A : Int) == (k : Int)) = false := beq_false_of_ne (by omega)
    clear hp hx hk hA hB gA gB hs
    go_enter Try.func60, Try.ntmps60
    go_wp2
    go_quiet (fail)
    go_wp2_with fail
    refine (l1Own_any (some ⟨b0, o0, none⟩) c p _ (by omega) (fun h => by cases h) (Hx.out.below (by exact (below_drewN (Below.refl _ _) _)))).mono ?_
    rintro e w1 ⟨v, rfl, hv, hb⟩
    have hz : (w.drewN nq).heap.size = w.heap.size := by simp
    rw [hz] at hv hb
    obtain ⟨va, vc, rfl, _, _, _⟩ := hv.read
    obtain ⟨g, rfl, hg, _⟩ := hv.isAt (by omega)
    have P1 := hv.store i (k : Int)
    have P2 := P1.store k (i : Int)
    have P3 := P2.store A (B : Int)
    have P4 := P3.store B (A : Int)
    have HP := Lib.hid P4
    have d0 := hv.cellAt i hi
    have f0 := hv.frozenAt i
    have d1 := P1.cellAt k k1
    have f1 := P1.frozenAt k
    have d2 := P2.cellAt A A1
    have f2 := P2.frozenAt A
    have d3 := P3.cellAt B B1
    have f3 := P3.frozenAt B
    have Hb := Lib.hid ((((((below_drewN (Below.refl w.heap.size w) nq).trans hb).setCell (p := ⟨g, i, none⟩) hg (.int .i64 (k : Int))).setCell (p := ⟨g, k, none⟩) hg (.int .i64 (i : Int))).setCell (p := ⟨g, A, none⟩) hg (.int .i64 (B : Int))).setCell (p := ⟨g, B, none⟩) hg (.int .i64 (A : Int)))
    clear hz hv hb P1 P2 P3 P4 Hx Hown
    go_wp2
    go_ret
    refine ⟨_, rfl, ?_, Hb.out⟩
    rw [← Hj.out, HJ.out]
    have h := HP.out
    simpa using h

set_option maxRecDepth 100000 in
set_option maxHeartbeats 800000 in
theorem specJoinAt_any (ao : Option Addr) (c : Nat) (p : List Int) (i : Int) (w : World) (hn : p.length ≤ 1048576) (hx : IntsAt w ao p) (_ : -9223372036854775808 ≤ i ∧ i ≤ 9223372036854775807) :
    Calls Try.prog 24 #[.slice ao p.length c, .int .i64 i] w fun e w' => LRes (isPat p ∧ 0 ≤ i ∧ i < p.length) (joinL p i.toNat) w' w.heap.size e ∧ Below w.heap.size w w' := by
  have hmx : p.length ≤ 9223372036854775807 := by omega
  have Hx := Lib.hid hx
  clear hx
  go_enter Try.func24, Try.ntmps24
  go_wp2_with fail
  refine (loIsPattern_any ao c p w hn Hx.out).mono ?_
  rintro e w1 ⟨ha, rfl⟩
  by_cases hg : isPat p
  · have Hg := Lib.hid hg
    have hl2 := hg.lo
    clear hg
    obtain rfl := ha.is Hg.out
    clear ha
    go_wp2_with fail
    refine (l1In_any _ _ _ w).mono ?_
    rintro e w1 ⟨ha, rfl⟩
    by_cases hb : 0 ≤ i ∧ i ≤ (p.length : Int) - 1
    · have Hb := Lib.hid (show 0 ≤ i ∧ i < p.length by omega)
      obtain ⟨j, rfl⟩ : ∃ j : Nat, i = j := ⟨i.toNat, by omega⟩
      have hj : j < p.length := by omega
      obtain rfl := ha.is (by first | exact hb | omega)
      clear ha hb
      go_wp2_with fail
      refine (syJoin_any ao c p j w Hg.out.lk hj Hx.out).mono ?_
      rintro e w2 ⟨v, rfl, hv, hb2⟩
      have Hv := Lib.hid hv
      have Hb2 := Lib.hid hb2
      clear hv hb2
      go_wp2
      go_ret2
      exact ⟨LRes.yes ⟨Hg.out, Hb.out⟩ Hv.out, Hb2.out⟩
    · have Hb := Lib.hid (show ¬(0 ≤ i ∧ i < p.length) by omega)
      obtain rfl := ha.isnt (by first | exact hb | omega)
      clear ha hb
      go_wp2
      go_ret2
      exact ⟨LRes.no fun h => Hb.out h.2, Below.refl _ _⟩
  · have Hg := Lib.hid hg
    clear hg
    obtain rfl := ha.isnt Hg.out
    clear ha
    go_wp2
    go_ret2
    exact ⟨LRes.no fun h => Hg.out h.1, Below.refl _ _⟩

/-- a pattern, and a word of at most 100 of its points -/
def wordOk (p ws : List Int) : Prop := isPat p ∧ ws.length ≤ 100 ∧ allIn ws 0 ((p.length : Int) - 1)

set_option maxRecDepth 100000 in
set_option maxHeartbeats 800000 in
theorem specJoinWord_any (ao : Option Addr) (c : Nat) (p : List Int) (a2 : Option Addr) (c2 : Nat) (ws : List Int) (w : World) (hn : p.length ≤ 1048576) (hx : IntsAt w ao p) (hn2 : ws.length ≤ 1048576) (hx2 : IntsAt w a2 ws) :
    Calls Try.prog 26 #[.slice ao p.length c, .slice a2 ws.length c2] w fun e w' => LRes (wordOk p ws) (joinT p ws ws.length) w' w.heap.size e ∧ Below w.heap.size w w' := by
  have hmx : p.length ≤ 9223372036854775807 := by omega
  have hmx2 : ws.length ≤ 9223372036854775807 := by omega
  have Hx := Lib.hid hx
  have Hx2 := Lib.hid hx2
  clear hx hx2
  go_enter Try.func26, Try.ntmps26
  go_wp2_with fail
  refine (loIsPattern_any ao c p w hn Hx.out).mono ?_
  rintro e w1 ⟨ha, rfl⟩
  by_cases hg : isPat p
  · have Hg := Lib.hid hg
    have hl2 := hg.lo
    have hl12 := hg.hi
    clear hg
    obtain rfl := ha.is Hg.out
    clear ha
    by_cases h100 : 100 < ws.length
    · have hd : decide ((100 : Int) < (ws.length : Int)) = true := by simp; omega
      go_wp2
      go_ret2
      exact ⟨LRes.no fun h => by have := h.2.1; omega, Below.refl _ _⟩
    have hd : decide ((100 : Int) < (ws.length : Int)) = false := by simp; omega
    have hw100 : ws.length ≤ 100 := by omega
    clear h100
    go_wp2_with fail
    refine (l1All_any a2 c2 ws _ _ w hn2 Hx2.out).mono ?_
    rintro e w1 ⟨ha, rfl⟩
    by_cases hb : allIn ws 0 ((p.length : Int) - 1)
    · have Hb := Lib.hid hb
      obtain rfl := ha.is hb
      clear ha hb hd
      go_wp2_with fail
      refine (l1Own_any ao c p w hn (fun h => by subst h; exact absurd (Hx.out 0 (by omega)) (by rintro ⟨_, _, h, _⟩; cases h)) Hx.out).mono ?_
      rintro e w2 ⟨v, rfl, hv, hb2⟩
      obtain ⟨va, vc, rfl, _, _, _⟩ := hv.read
      have Hv := Lib.hid hv
      have Hb2 := Lib.hid hb2
      clear hv hb2
      go_wp2
      go_loopw [6, 29] (fun q i wr => ∃ (k : Nat) (qa : Option Addr) (qc : Nat), k ≤ ws.length ∧ i = .int .i64 k ∧ q = .slice qa p.length qc ∧ OwnI wr w.heap.size q (joinT p ws k) ∧ Below w.heap.size w wr) (fun _ i _ => ws.length - (intOf i).toNat)
      case atStart => exact ⟨0, _, _, Nat.zero_le _, rfl, rfl, Hv.out, Hb2.out⟩
      case round =>
        obtain ⟨k, qa, qc, hk, rfl, rfl, hq, hbr⟩ := hrel
        have Hq := Lib.hid hq
        have Hbr := Lib.hid hbr
        clear hq hbr Hv Hb2
        by_cases hlt : k < ws.length
        · obtain ⟨b1, o1, rfl, hc1⟩ := Hx2.out.below Hbr.out k hlt
          have hin := Hb.out k hlt
          obtain ⟨x, hxe⟩ : ∃ x : Nat, gi ws k = x := ⟨(gi ws k).toNat, by omega⟩
          rw [hxe] at hc1 hin
          have HE := Lib.hid (show joinT p ws (k + 1) = joinL (joinT p ws k) x by rw [joinT, hxe, Int.toNat_natCast])
          have hl := joinT_len p ws k
          have Hlk := Lib.hid (Hg.out.lk.run (ws := ws) (fun k hk => by have := Hb.out k hk; omega) k hk)
          obtain ⟨qa', qc', hqe, _, _, hqi⟩ := Hq.out.read
          have hqe2 : qa = qa' ∧ qc = qc' := by simp only [Value.slice.injEq] at hqe; exact ⟨hqe.1, hqe.2.2⟩
          obtain ⟨rfl, rfl⟩ := hqe2
          clear hqe
          have CJ := Lib.hid (syJoin_any _ qc (joinT p ws k) x wr Hlk.out (by omega) hqi)
          rw [hl] at CJ
          clear hxe hl hqi
          go_wp2_with fail
          refine CJ.out.mono ?_
          rintro e w3 ⟨v, rfl, hv, hb⟩
          rw [← HE.out] at hv
          obtain ⟨va, vc, hve, hd1, hd2, hd3⟩ := hv.read
          clear hd1 hd2 hd3
          rw [joinT_len] at hve
          subst hve
          have Hv2 := Lib.hid (hv.base Hbr.out.size)
          have Hb3 := Lib.hid (Hbr.out.trans (hb.mono Hbr.out.size))
          clear hv hb CJ
          go_wp2
          go_roundw
          case rel => exact ⟨k + 1, _, _, by omega, by go_num, rfl, Hv2.out, Hb3.out⟩
          case measure => simp [intOf]; omega
        · obtain rfl : k = ws.length := by omega
          go_wp2
          go_ret2
          exact ⟨LRes.yes ⟨Hg.out, hw100, Hb.out⟩ Hq.out, Hbr.out⟩
    · have Hb := Lib.hid hb
      obtain rfl := ha.isnt hb
      clear ha hb
      go_wp2
      go_ret2
      exact ⟨LRes.no fun h => Hb.out h.2.2, Below.refl _ _⟩
  · have Hg := Lib.hid hg
    clear hg
    obtain rfl := ha.isnt Hg.out
    clear ha
    go_wp2
    go_ret2
    exact ⟨LRes.no fun h => Hg.out h.1, Below.refl _ _⟩
end Go.Proofs.Ytncpoljjfhmkeaa
