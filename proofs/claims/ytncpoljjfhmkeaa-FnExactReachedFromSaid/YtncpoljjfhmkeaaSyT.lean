/- Contracts of the model: small arcs, nests, ranks of patterns. Conditions: lengths up to 2^20, numbers of an int. -/
import Derived.Test.YtncpoljjfhmkeaaSyS
import Derived.Test.YtncpoljjfhmkeaaScal
import Derived.Test.YtncpoljjfhmkeaaAllS
namespace Go.Proofs.Ytncpoljjfhmkeaa
open Go.RowKit

set_option maxRecDepth 100000 in
set_option maxHeartbeats 800000 in
theorem specSmallArcs_any (ao : Option Addr) (c : Nat) (p : List Int) (w : World) (hn : p.length ≤ 1048576) (hx : IntsAt w ao p) :
    Calls Try.prog 28 #[.slice ao p.length c] w fun e w' => LRes (isPat p) (arcsL p p.length) w' w.heap.size e ∧ Below w.heap.size w w' := by
  obtain ⟨i0, hi, hz0, hz1, hz2⟩ := info_parts Try.info_int
  have hmx : p.length ≤ 9223372036854775807 := by omega
  have Hx := Lib.hid hx
  clear hx
  go_enter Try.func28, Try.ntmps28
  go_wp2_with fail
  refine (loIsPattern_any ao c p w hn Hx.out).mono ?_
  rintro e w1 ⟨ha, rfl⟩
  by_cases hg : isPat p
  · have Hg := Lib.hid hg
    have h2 := hg.lo
    have h12 := hg.hi
    have hn0 : ((p.length : Int) == 0) = false := beq_false_of_ne (by omega)
    clear hg
    obtain rfl := ha.is Hg.out
    clear ha
    go_wp2
    go_loopw [4, 12] (fun q i wr => ∃ k : Nat, k ≤ p.length ∧ i = .int .i64 k ∧ OwnI wr w.heap.size q (arcsL p k) ∧ Below w.heap.size w wr) (fun _ i _ => p.length - (intOf i).toNat)
    case atStart => exact ⟨0, Nat.zero_le _, rfl, OwnI.nil _ _, Below.refl _ _⟩
    case round =>
      obtain ⟨k, hk, rfl, hown, hbr⟩ := hrel
      have Hown := Lib.hid hown
      have Hbr := Lib.hid hbr
      clear hown hbr
      by_cases hlt : k < p.length
      · obtain ⟨b1, o1, rfl, hc1⟩ := Hx.out.below Hbr.out k hlt
        have hin := Hg.out.inside k hlt
        have hr1 := rem_nx h2 k
        have hr2 := trem_nx h2 k
        obtain ⟨x, hxe⟩ : ∃ x : Nat, gi p k = x := ⟨(gi p k).toNat, by omega⟩
        obtain ⟨y, hy⟩ : ∃ y, nx p k = y := ⟨_, rfl⟩
        rw [hxe] at hc1 hin
        rw [hy] at hr1 hr2
        have hy12 : y ≤ 12 := by have := Hg.out.lk.nx_lt k; omega
        have HA := Lib.hid (show arcsL p (k + 1) = if (x : Int) = y then arcsL p k ++ [(k : Int)] else arcsL p k by rw [arcsL, hxe, hy])
        have hal := arcsL_len p k
        clear hxe hy
        by_cases e : x = y
        · subst e
          have HA2 := Lib.hid (HA.out.trans (if_pos rfl))
          go_wp2_with (at_builtin; refine wpList_append_own _ rfl _ _ 22 rfl w.heap.size 3 i0 (.int .i64 0) 1 8 Try.underlying22 hi hz0 hz1 hz2 rfl (by decide) _ _ _ rfl (World.ownsRow.alloc Hown.out _) ⟨wr.heap.size, 0, none⟩ 1 1 [.int .i64 (k : Int)] rfl rfl ?c1 ?c2 ?c3 ?c4 ?c5 ?_)
          case c2 => first | rfl | (intro u hu; simp at hu; subst hu; rfl)
          case c3 => unfold maxLen; omega
          case c4 => omega
          case c5 => have := Hbr.out.size; simp; omega
          intro v' w2 hown' hgrow _
          have hs := Hown.out.snoc Hbr.out.size hown' hgrow
          have Hs := Lib.hid hs.1
          have Hb2 := Lib.hid (Hbr.out.trans hs.2)
          clear hown' hgrow hs hal
          go_wp2
          go_roundw
          case rel => exact ⟨k + 1, by omega, by go_num, by rw [HA2.out]; exact Hs.out, Hb2.out⟩
          case measure => simp [intOf]; omega
        · have HA2 := Lib.hid (HA.out.trans (if_neg (by omega)))
          have hne : ((x : Int) == (y : Int)) = false := beq_false_of_ne (by omega)
          clear e
          go_wp2
          go_roundw
          case rel => exact ⟨k + 1, by omega, by go_num, by rw [HA2.out]; exact Hown.out, Hbr.out⟩
          case measure => simp [intOf]; omega
      · obtain rfl : k = p.length := by omega
        go_wp2
        go_ret2
        exact ⟨LRes.yes Hg.out Hown.out, Hbr.out⟩
  · have Hg := Lib.hid hg
    clear hg
    obtain rfl := ha.isnt Hg.out
    clear ha
    go_wp2
    go_ret2
    exact ⟨LRes.no Hg.out, Below.refl _ _⟩

set_option maxRecDepth 100000 in
set_option maxHeartbeats 800000 in
theorem specNestOf_any (ao : Option Addr) (c : Nat) (p : List Int) (w : World) (hn : p.length ≤ 1048576) (hx : IntsAt w ao p) :
    Calls Try.prog 47 #[.slice ao p.length c] w fun e w' => IRes (isPat p) (nestF p p.length).2 e ∧ Below w.heap.size w w' := by
  have hmx : p.length ≤ 9223372036854775807 := by omega
  have Hx := Lib.hid hx
  clear hx
  go_enter Try.func47, Try.ntmps47
  go_wp2_with fail
  refine (loIsPattern_any ao c p w hn Hx.out).mono ?_
  rintro e w1 ⟨ha, rfl⟩
  by_cases hg : isPat p
  · have Hg := Lib.hid hg
    have h12 := hg.hi
    clear hg
    obtain rfl := ha.is Hg.out
    clear ha
    go_wp2
    go_loopw [4, 5, 13] (fun m d i wr => ∃ k : Nat, k ≤ p.length ∧ i = .int .i64 k ∧ m = .int .i64 (nestF p k).2 ∧ d = .int .i64 (nestF p k).1 ∧ Below w.heap.size w wr) (fun _ _ i _ => p.length - (intOf i).toNat)
    case atStart => exact ⟨0, Nat.zero_le _, rfl, rfl, rfl, Below.refl _ _⟩
    case round =>
      obtain ⟨k, hk, rfl, rfl, rfl, hbr⟩ := hrel
      have Hbr := Lib.hid hbr
      clear hbr
      have hN := nestF_in p k
      have HS := Lib.hid (show nestF p (k + 1) = if gi p k > k then ((nestF p k).1 + 1, max (nestF p k).2 ((nestF p k).1 + 1)) else ((nestF p k).1 - 1, (nestF p k).2) from rfl)
      by_cases hlt : k < p.length
      · obtain ⟨b1, o1, rfl, hc1⟩ := Hx.out.below Hbr.out k hlt
        obtain ⟨x, hxe⟩ : ∃ x, x = gi p k := ⟨_, rfl⟩
        obtain ⟨d, hd⟩ : ∃ d, d = (nestF p k).1 := ⟨_, rfl⟩
        obtain ⟨m, hm⟩ : ∃ m, m = (nestF p k).2 := ⟨_, rfl⟩
        rw [← hxe] at hc1 HS
        rw [← hd, ← hm] at hN HS
        rw [← hd, ← hm]
        clear hxe hd hm
        by_cases e : (k : Int) < x
        · have hdec : decide ((k : Int) < x) = true := by simpa using e
          have HS2 := Lib.hid (HS.out.trans (if_pos e))
          clear e
          go_wp2_with fail
          refine (l1Most_any _ _ wr).mono ?_
          rintro e w3 ⟨rfl, rfl⟩
          go_wp2
          go_roundw
          case rel => exact ⟨k + 1, by omega, by go_num, by rw [HS2.out], by rw [HS2.out], Hbr.out⟩
          case measure => simp [intOf]; omega
        · have hdec : decide ((k : Int) < x) = false := by simpa using e
          have HS2 := Lib.hid (HS.out.trans (if_neg e))
          have hmm : max m (d - 1) = m := by omega
          clear e
          go_wp2_with fail
          refine (l1Most_any _ _ wr).mono ?_
          rintro e w3 ⟨rfl, rfl⟩
          rw [hmm]
          go_wp2
          go_roundw
          case rel => exact ⟨k + 1, by omega, by go_num, by rw [HS2.out], by rw [HS2.out], Hbr.out⟩
          case measure => simp [intOf]; omega
      · obtain rfl : k = p.length := by omega
        go_wp2
        go_ret2
        exact ⟨IRes.yes Hg.out, Hbr.out⟩
  · have Hg := Lib.hid hg
    clear hg
    obtain rfl := ha.isnt Hg.out
    clear ha
    go_wp2
    go_ret2
    exact ⟨IRes.no Hg.out, Below.refl _ _⟩
end Go.Proofs.Ytncpoljjfhmkeaa
