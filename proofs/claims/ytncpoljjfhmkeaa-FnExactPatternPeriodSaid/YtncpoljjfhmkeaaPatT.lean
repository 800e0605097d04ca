/- Patterns turned, by the model and by the program. Condition: the numbers fit an int. -/
import Derived.Test.YtncpoljjfhmkeaaPatR
import Derived.Deep.RegionWith
import Derived.Deep.Cut
namespace Go.Proofs.Ytncpoljjfhmkeaa
open Go.RowKit

theorem turnF_eq (n : Nat) (by' x : Int) : turnF n by' x = (x + by').tmod n % n := by unfold turnF; simp

set_option maxRecDepth 100000 in
set_option maxHeartbeats 1600000 in
theorem loTurn_any (ao : Option Addr) (c : Nat) (p : List Int) (by' : Int) (w : World) (hp : isPat p) (hy : -100 ≤ by' ∧ by' ≤ 100) (hx : IntsAt w ao p) :
    Calls Try.prog 87 #[.slice ao p.length c, .int .i64 by'] w fun e w' => ∃ v, e = .returned v ∧ OwnI w' w.heap.size v (renP (turnF p.length by') p p.length) ∧ Below w.heap.size w w' := by
  obtain ⟨i0, hi, hz0, hz1, hz2⟩ := info_parts Try.info_int
  have Hx := Lib.hid hx
  have Hp := Lib.hid hp
  have h12 := hp.hi
  have h2 := hp.lo
  have hmx : p.length ≤ 9223372036854775807 := by omega
  clear hx hp
  go_enter Try.func87, Try.ntmps87
  go_wp2_with (at_make; refine wpList_make_full _ rfl _ _ 22 rfl w.heap.size 3 i0 (.int .i64 0) 1 Try.underlying22 hi hz0 hz1 _ _ _ _ p.length rfl rfl rfl rfl ?c1 ?c2 ?c3 ?_)
  case c1 => rw [hz2]; omega
  case c2 => unfold maxLen; omega
  case c3 => simp
  intro w1 hown hgr
  have Hb1 := Lib.hid ((Below.refl _ _).grown hgr (Nat.le_refl _) (fun _ h => by cases h))
  have Hown1 := Lib.hid (OwnI.made hown)
  clear hown hgr
  go_wp2
  go_loopw [15] (fun i wr => ∃ k : Nat, k ≤ p.length ∧ i = .int .i64 k ∧ OwnI wr w.heap.size (.slice (some ⟨w.heap.size, 0, none⟩) p.length p.length) (renP (turnF p.length by') p k) ∧ Below w.heap.size w wr) (fun i _ => p.length - (intOf i).toNat)
  case atStart => exact ⟨0, Nat.zero_le _, rfl, Hown1.out, Hb1.out⟩
  case round =>
    obtain ⟨k, hk, rfl, hown, hbr⟩ := hrel
    clear Hown1 Hb1
    by_cases hlt : k < p.length
    · obtain ⟨b1, o1, rfl, hc1⟩ := Hx.out.below hbr k hlt
      have hin := Hp.out.inside k hlt
      have hn0 : ((p.length : Int) == 0) = false := beq_false_of_ne (by omega)
      obtain ⟨x, hxe⟩ : ∃ x, x = gi p k := ⟨_, rfl⟩
      have k1 := tmod_in ((k : Int) + by') (show 1 ≤ p.length by omega)
      have k2 := tmod_in (x + by') (show 1 ≤ p.length by omega)
      have hfk := turnF_in p.length by' (k : Int) (by omega)
      have hfx := turnF_in p.length by' x (by omega)
      obtain ⟨y, hyy⟩ : ∃ y : Nat, turnF p.length by' (k : Int) = y := ⟨(turnF p.length by' (k : Int)).toNat, by omega⟩
      have e1 : renP (turnF p.length by') p (k + 1) = (renP (turnF p.length by') p k).set y ((x + by').tmod p.length % p.length) := by
        rw [hxe, ← turnF_eq]
        show (renP (turnF p.length by') p k).set (turnF p.length by' (k : Int)).toNat _ = _
        rw [hyy, Int.toNat_natCast]
      have hyl : y < p.length := by omega
      have hd := hown.cellAt y hyl
      have hf := hown.frozenAt y
      have hst := hown.store y ((x + by').tmod p.length % p.length)
      rw [← e1] at hst
      have Hst := Lib.hid hst
      have Hbs := Lib.hid (hbr.setCell (p := ⟨w.heap.size, y, none⟩) (Nat.le_refl _) (.int .i64 ((x + by').tmod p.length % p.length)))
      have Hyy := Lib.hid hyy
      unfold turnF at hyy
      rw [← hxe] at hc1 hin
      clear hown hbr hst e1 hxe
      go_upto_region 6 with (fail)
      go_region
      all_goals
        go_wp2
        go_roundw
        case rel => exact ⟨k + 1, by omega, by go_num, Hst.out.drew, Hbs.out.drew⟩
        case measure => simp [intOf]; omega
    · obtain rfl : k = p.length := by omega
      have Hown := Lib.hid hown
      have Hbr := Lib.hid hbr
      clear hown hbr
      go_wp2
      go_ret
      exact ⟨_, rfl, Hown.out, Hbr.out⟩

def turnOk (p : List Int) (by' : Int) : Prop := isPat p ∧ -100 ≤ by' ∧ by' ≤ 100

set_option maxRecDepth 100000 in
set_option maxHeartbeats 1600000 in
theorem implTurnPattern_any (ao : Option Addr) (c : Nat) (p : List Int) (by' : Int) (w : World) (hn : p.length ≤ 1048576) (hwf : WfI p) (hx : IntsAt w ao p) (hby : -9223372036854775808 ≤ by' ∧ by' ≤ 9223372036854775807) :
    Calls Try.prog 88 #[.slice ao p.length c, .int .i64 by'] w fun e w' => LRes (turnOk p by') (renP (turnF p.length by') p p.length) w' w.heap.size e ∧ Below w.heap.size w w' := by
  have hb := (Below.refl w.heap.size w).alloc (Nat.le_refl _) (.cells #[.int .i64 by'] 3)
  have Hx := Lib.hid (hx.below hb)
  have hcell : (w.alloc (.cells #[.int .i64 by'] 3)).cell? ⟨w.heap.size, 0, none⟩ = some (.int .i64 by') := by rw [cell_new]; rfl
  have Hcell := Lib.hid hcell
  have Hb := Lib.hid hb
  have HB := Lib.hid hb.size
  have Hsz := Lib.hid (show (w.alloc (.cells #[.int .i64 by'] 3)).heap.size = w.heap.size + 1 by simp)
  obtain ⟨w0, hw0⟩ : ∃ w0, w0 = w.alloc (.cells #[.int .i64 by'] 3) := ⟨_, rfl⟩
  go_enter Try.func88, Try.ntmps88
  rw [← hw0] at Hx Hcell Hb HB Hsz
  go_wp2_with fail
  refine (implIsPattern_any ao c p _ hn hwf (by rw [← hw0]; exact Hx.out)).mono ?_
  rw [← hw0]
  rintro e w1 ⟨ha, hb1⟩
  have Hb1 := Lib.hid (Hb.out.trans (hb1.mono HB.out))
  have HB1 := Lib.hid (show w.heap.size + 1 ≤ w1.heap.size by have := hb1.size; have := Hsz.out; omega)
  have hc1 := cell_below Hcell.out hb1
  have Hc1 := Lib.hid hc1
  have Hx1 := Lib.hid (Hx.out.below hb1)
  clear hcell hb hb1 hx hw0 HB Hb
  by_cases hg : isPat p
  · have Hg := Lib.hid hg
    have h12 := hg.hi
    have hmx : p.length ≤ 9223372036854775807 := by omega
    clear hg
    obtain rfl := ha.is Hg.out
    clear ha
    by_cases hlo : -100 ≤ by'
    · by_cases hhi : by' ≤ 100
      · have hb2 := (Below.refl w1.heap.size w1).alloc (Nat.le_refl _) (.cells #[.int .i64 (p.length : Int)] 3)
        have hcs : (w1.alloc (.cells #[.int .i64 (p.length : Int)] 3)).cell? ⟨w1.heap.size, 0, none⟩ = some (.int .i64 (p.length : Int)) := by rw [cell_new]; rfl
        have Hcs := Lib.hid hcs
        have Hb2 := Lib.hid hb2
        have HZ1 := Lib.hid Hb1.out.size
        have Hb12 := Lib.hid (Hb1.out.trans (hb2.mono HZ1.out))
        have HZ2 := Lib.hid Hb12.out.size
        clear hb2 hcs
        go_wp2_with fail
        refine (renamed_turn ao c p by' w.heap.size w1.heap.size _ Hg.out (Hx1.out.below Hb2.out) ⟨hlo, hhi⟩ (cell_below Hc1.out Hb2.out) Hcs.out).mono ?_
        rintro e w2 ⟨v, rfl, hv, hb3⟩
        have Hv := Lib.hid (hv.base HZ2.out)
        have Hb3 := Lib.hid (Hb12.out.trans (hb3.mono HZ2.out))
        clear hv hb3
        go_wp2
        go_ret2
        exact ⟨LRes.yes ⟨Hg.out, hlo, hhi⟩ Hv.out, Hb3.out⟩
      · go_wp2
        go_ret2
        exact ⟨LRes.no fun h => by have := h.2.2; omega, Hb1.out⟩
    · go_wp2
      go_ret2
      exact ⟨LRes.no fun h => by have := h.2.1; omega, Hb1.out⟩
  · have Hg := Lib.hid hg
    clear hg
    obtain rfl := ha.isnt Hg.out
    clear ha
    go_wp2
    go_ret2
    exact ⟨LRes.no fun h => Hg.out h.1, Hb1.out⟩
end Go.Proofs.Ytncpoljjfhmkeaa
