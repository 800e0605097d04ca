/- Patterns mirrored and turned, by the model and by the program. Condition: the numbers fit an int. -/
import Derived.Test.YteakdbmdokleoaaPatI
namespace Go.Proofs.Yteakdbmdokleoaa
open Go.RowKit

/-- the pattern in which each end is called as f tells, from the first k ends -/
def renP (f : Int → Int) (p : List Int) : Nat → List Int
  | 0 => List.replicate p.length 0
  | k + 1 => (renP f p k).set (f (k : Int)).toNat (f (gi p k))
theorem renP_len (f : Int → Int) (p : List Int) : ∀ k, (renP f p k).length = p.length
  | 0 => by simp [renP]
  | k + 1 => by simp [renP, renP_len f p k]
theorem ren_few {p : List Int} (h : isPat p) {f : Int → Int} : (renP f p p.length).length ≤ 1048576 := by
  rw [renP_len]; have := h.hi; omega
def mirF (n : Nat) (x : Int) : Int := (n : Int) - 1 - x
def turnF (n : Nat) (by' x : Int) : Int := (Int.tmod (x + by') n + n) % n
theorem tmod_in (x : Int) {n : Nat} (h : 1 ≤ n) : -(n : Int) < Int.tmod x n ∧ Int.tmod x n < n := by
  have h1 := Int.tmod_lt_of_pos x (show (0 : Int) < n by omega)
  have h2 := Int.lt_tmod_of_pos x (show (0 : Int) < n by omega)
  omega
theorem turnF_in (n : Nat) (by' x : Int) (h : 1 ≤ n) : 0 ≤ turnF n by' x ∧ turnF n by' x < n := by
  unfold turnF
  exact ⟨Int.emod_nonneg _ (by omega), Int.emod_lt_of_pos _ (by omega)⟩

set_option maxRecDepth 100000 in
set_option maxHeartbeats 800000 in
theorem specMirrorPattern_any (ao : Option Addr) (c : Nat) (p : List Int) (w : World) (hn : p.length ≤ 1048576) (hx : IntsAt w ao p) :
    Calls Try.prog 60 #[.slice ao p.length c] w fun e w' => LRes (isPat p) (renP (mirF p.length) p p.length) w' w.heap.size e ∧ Below w.heap.size w w' := by
  obtain ⟨i0, hi, hz0, hz1, hz2⟩ := info_parts Try.info_int
  have hmx : p.length ≤ 9223372036854775807 := by omega
  have Hx := Lib.hid hx
  clear hx
  go_enter Try.func60, Try.ntmps60
  go_wp2_with fail
  refine (loIsPattern_any ao c p w hn Hx.out).mono ?_
  rintro e w1 ⟨ha, rfl⟩
  by_cases hg : isPat p
  · have Hg := Lib.hid hg
    have h12 := hg.hi
    have h2 := hg.lo
    clear hg
    obtain rfl := ha.is Hg.out
    clear ha
    go_wp2_with (at_make; refine wpList_make_full _ rfl _ _ 42 rfl w.heap.size 3 i0 (.int .i64 0) 1 Try.underlying42 hi hz0 hz1 _ _ _ _ p.length rfl rfl rfl rfl ?c1 ?c2 ?c3 ?_)
    case c1 => rw [hz2]; omega
    case c2 => unfold maxLen; omega
    case c3 => simp
    intro w1 hown hgr
    have Hb1 := Lib.hid ((Below.refl _ _).grown hgr (Nat.le_refl _) (fun _ h => by cases h))
    have Hown1 := Lib.hid (OwnI.made hown)
    clear hown hgr
    go_wp2
    go_loopw [15] (fun i wr => ∃ k : Nat, k ≤ p.length ∧ i = .int .i64 k ∧ OwnI wr w.heap.size (.slice (some ⟨w.heap.size, 0, none⟩) p.length p.length) (renP (mirF p.length) p k) ∧ Below w.heap.size w wr) (fun i _ => p.length - (intOf i).toNat)
    case atStart => exact ⟨0, Nat.zero_le _, rfl, Hown1.out, Hb1.out⟩
    case round =>
      obtain ⟨k, hk, rfl, hown, hbr⟩ := hrel
      clear Hown1 Hb1
      by_cases hlt : k < p.length
      · obtain ⟨b1, o1, rfl, hc1⟩ := Hx.out.below hbr k hlt
        have hin := Hg.out.inside k hlt
        have hne := Hg.out.other k hlt
        obtain ⟨y, hy⟩ : ∃ y : Nat, (p.length : Int) - 1 - (k : Int) = y := ⟨p.length - 1 - k, by omega⟩
        have hyl : y < p.length := by omega
        have hd := hown.cellAt y hyl
        have hf := hown.frozenAt y
        have hst := hown.store y ((p.length : Int) - 1 - gi p k)
        have e1 : renP (mirF p.length) p (k + 1) = (renP (mirF p.length) p k).set y ((p.length : Int) - 1 - gi p k) := by
          show (renP (mirF p.length) p k).set (mirF p.length (k : Int)).toNat (mirF p.length (gi p k)) = _
          unfold mirF
          rw [hy, Int.toNat_natCast]
        rw [← e1] at hst
        have Hst := Lib.hid hst
        have Hbs := Lib.hid (hbr.setCell (p := ⟨w.heap.size, y, none⟩) (Nat.le_refl _) (.int .i64 ((p.length : Int) - 1 - gi p k)))
        obtain ⟨x, hxe⟩ : ∃ x, x = gi p k := ⟨_, rfl⟩
        rw [← hxe] at hc1 hin Hst Hbs
        clear hown hbr hst e1 hxe hne
        go_wp2
        go_roundw
        case rel => exact ⟨k + 1, by omega, by go_num, Hst.out, Hbs.out⟩
        case measure => simp [intOf]; omega
      · obtain rfl : k = p.length := by omega
        have Hown := Lib.hid hown
        have Hbr := Lib.hid hbr
        clear hown hbr
        go_wp2
        go_ret2
        exact ⟨LRes.yes Hg.out Hown.out, Hbr.out⟩
  · have Hg := Lib.hid hg
    clear hg
    obtain rfl := ha.isnt Hg.out
    clear ha
    go_wp2
    go_ret2
    exact ⟨LRes.no Hg.out, Below.refl _ _⟩

set_option maxRecDepth 100000 in
set_option maxHeartbeats 400000 in
theorem mirEnd_any (x : Int) (n c cb : Nat) (ao : Option Addr) (w : World) (hn : n ≤ 1048576) (hx : 0 ≤ x ∧ x < n) (hcell : w.cell? ⟨cb, 0, none⟩ = some (.slice ao n c)) :
    Calls Try.prog 105 #[.int .i64 x, .pointer (some ⟨cb, 0, none⟩)] w fun e w' => e = .returned (.int .i64 (mirF n x)) ∧ w = w' := by
  unfold mirF
  go_enter Try.func105, Try.ntmps105
  go_wp2
  go_ret
  exact ⟨rfl, rfl⟩

set_option maxRecDepth 100000 in
set_option maxHeartbeats 400000 in
theorem turnEnd_any (x by' : Int) (n b1 b2 : Nat) (w : World) (hn1 : 1 ≤ n) (hn : n ≤ 12) (hx : 0 ≤ x ∧ x < n) (hy : -100 ≤ by' ∧ by' ≤ 100) (hc1 : w.cell? ⟨b1, 0, none⟩ = some (.int .i64 by')) (hc2 : w.cell? ⟨b2, 0, none⟩ = some (.int .i64 (n : Int))) :
    Calls Try.prog 104 #[.int .i64 x, .pointer (some ⟨b1, 0, none⟩), .pointer (some ⟨b2, 0, none⟩)] w fun e w' => e = .returned (.int .i64 (turnF n by' x)) ∧ Q w w' := by
  have k1 := tmod_in (x + by') hn1
  unfold turnF
  go_enter Try.func104, Try.ntmps104
  go_wp2
  go_quiet (fail)
  go_wp2
  go_ret
  exact ⟨rfl, (Q.refl _).drewN _⟩

-- GENERATED by gen/patr.py
set_option maxRecDepth 100000 in
set_option maxHeartbeats 1600000 in
theorem renamed_mirror (ao : Option Addr) (c : Nat) (p : List Int) (a2 : Option Addr) (c2 cb : Nat) (w : World) (hp : isPat p) (hx : IntsAt w ao p) (hcell : w.cell? ⟨cb, 0, none⟩ = some (.slice a2 p.length c2)) :
    Calls Try.prog 103 #[.slice ao p.length c, .func (.func 105) #[] #[.pointer (some ⟨cb, 0, none⟩)]] w fun e w' => ∃ v, e = .returned v ∧ OwnI w' w.heap.size v (renP (mirF p.length) p p.length) ∧ Below w.heap.size w w' := by
  obtain ⟨i0, hi, hz0, hz1, hz2⟩ := info_parts Try.info_int
  have Hx := Lib.hid hx
  have Hp := Lib.hid hp
  have h12 := hp.hi
  have h2 := hp.lo
  have hmx : p.length ≤ 9223372036854775807 := by omega
  have Hcell := Lib.hid hcell
  clear hcell
  clear hx hp
  go_enter Try.func103, Try.ntmps103
  go_wp2_with (at_make; refine wpList_make_full _ rfl _ _ 42 rfl w.heap.size 3 i0 (.int .i64 0) 1 Try.underlying42 hi hz0 hz1 _ _ _ _ p.length rfl rfl rfl rfl ?c1 ?c2 ?c3 ?_)
  case c1 => rw [hz2]; omega
  case c2 => unfold maxLen; omega
  case c3 => simp
  intro w1 hown hgr
  have Hb1 := Lib.hid ((Below.refl _ _).grown hgr (Nat.le_refl _) (fun _ h => by cases h))
  have Hown1 := Lib.hid (OwnI.made hown)
  clear hown hgr
  go_wp2
  go_loopw [13] (fun i wr => ∃ k : Nat, k ≤ p.length ∧ i = .int .i64 k ∧ OwnI wr w.heap.size (.slice (some ⟨w.heap.size, 0, none⟩) p.length p.length) (renP (mirF p.length) p k) ∧ Below w.heap.size w wr) (fun i _ => p.length - (intOf i).toNat)
  case atStart => exact ⟨0, Nat.zero_le _, rfl, Hown1.out, Hb1.out⟩
  case round =>
    obtain ⟨k, hk, rfl, hown, hbr⟩ := hrel
    clear Hown1 Hb1
    by_cases hlt : k < p.length
    · obtain ⟨b1, o1, rfl, hc1⟩ := Hx.out.below hbr k hlt
      have hin := Hp.out.inside k hlt
      have hfk : 0 ≤ (mirF p.length) (k : Int) ∧ (mirF p.length) (k : Int) < p.length := by unfold mirF; omega
      have hfx : 0 ≤ (mirF p.length) (gi p k) ∧ (mirF p.length) (gi p k) < p.length := by unfold mirF; omega
      have Hown := Lib.hid hown
      have Hbr := Lib.hid hbr
      obtain ⟨x, hxe⟩ : ∃ x, x = gi p k := ⟨_, rfl⟩
      have e1 : renP (mirF p.length) p (k + 1) = (renP (mirF p.length) p k).set ((mirF p.length) (k : Int)).toNat ((mirF p.length) (gi p k)) := rfl
      rw [← hxe] at hc1 hin hfx e1
      have E1 := Lib.hid e1
      clear hown hbr hxe e1
      go_wp2_with fail
      refine (mirEnd_any (k : Int) p.length c2 cb a2 wr (by omega) (by omega) (cell_below Hcell.out Hbr.out)).mono ?_
      rintro e w2 ⟨rfl, hq2⟩
      subst hq2
      have Hbr2 := Hbr
      go_wp2_with fail
      refine (mirEnd_any x p.length c2 cb a2 wr (by omega) (by omega) (cell_below Hcell.out Hbr2.out)).mono ?_
      rintro e w3 ⟨rfl, hq3⟩
      subst hq3
      have Hbr3 := Hbr
      have Hown3 := Hown
      obtain ⟨y, hy⟩ : ∃ y : Nat, (mirF p.length) (k : Int) = y := ⟨((mirF p.length) (k : Int)).toNat, by omega⟩
      obtain ⟨z, hz⟩ : ∃ z, z = (mirF p.length) x := ⟨_, rfl⟩
      have E2 := E1.out
      rw [hy, Int.toNat_natCast, ← hz] at E2
      rw [hy] at hfk ⊢
      rw [← hz] at hfx ⊢
      have hyl : y < p.length := by omega
      have hd := Hown3.out.cellAt y hyl
      have hf := Hown3.out.frozenAt y
      have hst := Hown3.out.store y z
      rw [← E2] at hst
      have Hst := Lib.hid hst
      have Hbs := Lib.hid (Hbr3.out.setCell (p := ⟨w.heap.size, y, none⟩) (Nat.le_refl _) (.int .i64 z))
      clear hst E2 E1 hz hy
      go_wp2
      go_roundw
      case rel => exact ⟨k + 1, by omega, by go_num, Hst.out, Hbs.out⟩
      case measure => simp [intOf]; omega
    · obtain rfl : k = p.length := by omega
      have Hown := Lib.hid hown
      have Hbr := Lib.hid hbr
      clear hown hbr
      go_wp2
      go_ret
      exact ⟨_, rfl, Hown.out, Hbr.out⟩

set_option maxRecDepth 100000 in
set_option maxHeartbeats 1600000 in
theorem renamed_turn (ao : Option Addr) (c : Nat) (p : List Int) (by' : Int) (b1 b2 : Nat) (w : World) (hp : isPat p) (hx : IntsAt w ao p) (hby : -100 ≤ by' ∧ by' ≤ 100) (hc1 : w.cell? ⟨b1, 0, none⟩ = some (.int .i64 by')) (hc2 : w.cell? ⟨b2, 0, none⟩ = some (.int .i64 (p.length : Int))) :
    Calls Try.prog 103 #[.slice ao p.length c, .func (.func 104) #[] #[.pointer (some ⟨b1, 0, none⟩), .pointer (some ⟨b2, 0, none⟩)]] w fun e w' => ∃ v, e = .returned v ∧ OwnI w' w.heap.size v (renP (turnF p.length by') p p.length) ∧ Below w.heap.size w w' := by
  obtain ⟨i0, hi, hz0, hz1, hz2⟩ := info_parts Try.info_int
  have Hx := Lib.hid hx
  have Hp := Lib.hid hp
  have h12 := hp.hi
  have h2 := hp.lo
  have hmx : p.length ≤ 9223372036854775807 := by omega
  have Hc1 := Lib.hid hc1
  have Hc2 := Lib.hid hc2
  clear hc1 hc2
  clear hx hp
  go_enter Try.func103, Try.ntmps103
  go_wp2_with (at_make; refine wpList_make_full _ rfl _ _ 42 rfl w.heap.size 3 i0 (.int .i64 0) 1 Try.underlying42 hi hz0 hz1 _ _ _ _ p.length rfl rfl rfl rfl ?c1 ?c2 ?c3 ?_)
  case c1 => rw [hz2]; omega
  case c2 => unfold maxLen; omega
  case c3 => simp
  intro w1 hown hgr
  have Hb1 := Lib.hid ((Below.refl _ _).grown hgr (Nat.le_refl _) (fun _ h => by cases h))
  have Hown1 := Lib.hid (OwnI.made hown)
  clear hown hgr
  go_wp2
  go_loopw [13] (fun i wr => ∃ k : Nat, k ≤ p.length ∧ i = .int .i64 k ∧ OwnI wr w.heap.size (.slice (some ⟨w.heap.size, 0, none⟩) p.length p.length) (renP (turnF p.length by') p k) ∧ Below w.heap.size w wr) (fun i _ => p.length - (intOf i).toNat)
  case atStart => exact ⟨0, Nat.zero_le _, rfl, Hown1.out, Hb1.out⟩
  case round =>
    obtain ⟨k, hk, rfl, hown, hbr⟩ := hrel
    clear Hown1 Hb1
    by_cases hlt : k < p.length
    · obtain ⟨b3, o3, rfl, hc3⟩ := Hx.out.below hbr k hlt
      have hin := Hp.out.inside k hlt
      have hfk : 0 ≤ (turnF p.length by') (k : Int) ∧ (turnF p.length by') (k : Int) < p.length := turnF_in _ _ _ (by omega)
      have hfx : 0 ≤ (turnF p.length by') (gi p k) ∧ (turnF p.length by') (gi p k) < p.length := turnF_in _ _ _ (by omega)
      have Hown := Lib.hid hown
      have Hbr := Lib.hid hbr
      obtain ⟨x, hxe⟩ : ∃ x, x = gi p k := ⟨_, rfl⟩
      have e1 : renP (turnF p.length by') p (k + 1) = (renP (turnF p.length by') p k).set ((turnF p.length by') (k : Int)).toNat ((turnF p.length by') (gi p k)) := rfl
      rw [← hxe] at hc3 hin hfx e1
      have E1 := Lib.hid e1
      clear hown hbr hxe e1
      go_wp2_with fail
      refine (turnEnd_any (k : Int) by' p.length b1 b2 wr (by omega) h12 (by omega) hby (cell_below Hc1.out Hbr.out) (cell_below Hc2.out Hbr.out)).mono ?_
      rintro e w2 ⟨rfl, hq2⟩
      have Hbr2 := Lib.hid (Hbr.out.trans (hq2.below _))
      have Hown2 := Lib.hid (Hown.out.below (hq2.below _))
      clear hq2
      go_wp2_with fail
      refine (turnEnd_any x by' p.length b1 b2 w2 (by omega) h12 (by omega) hby (cell_below Hc1.out Hbr2.out) (cell_below Hc2.out Hbr2.out)).mono ?_
      rintro e w3 ⟨rfl, hq3⟩
      have Hbr3 := Lib.hid (Hbr2.out.trans (hq3.below _))
      have Hown3 := Lib.hid (Hown2.out.below (hq3.below _))
      clear hq3
      obtain ⟨y, hy⟩ : ∃ y : Nat, (turnF p.length by') (k : Int) = y := ⟨((turnF p.length by') (k : Int)).toNat, by omega⟩
      obtain ⟨z, hz⟩ : ∃ z, z = (turnF p.length by') x := ⟨_, rfl⟩
      have E2 := E1.out
      rw [hy, Int.toNat_natCast, ← hz] at E2
      rw [hy] at hfk ⊢
      rw [← hz] at hfx ⊢
      have hyl : y < p.length := by omega
      have hd := Hown3.out.cellAt y hyl
      have hf := Hown3.out.frozenAt y
      have hst := Hown3.out.store y z
      rw [← E2] at hst
      have Hst := Lib.hid hst
      have Hbs := Lib.hid (Hbr3.out.setCell (p := ⟨w.heap.size, y, none⟩) (Nat.le_refl _) (.int .i64 z))
      clear hst E2 E1 hz hy
      go_wp2
      go_roundw
      case rel => exact ⟨k + 1, by omega, by go_num, Hst.out, Hbs.out⟩
      case measure => simp [intOf]; omega
    · obtain rfl : k = p.length := by omega
      have Hown := Lib.hid hown
      have Hbr := Lib.hid hbr
      clear hown hbr
      go_wp2
      go_ret
      exact ⟨_, rfl, Hown.out, Hbr.out⟩


set_option maxRecDepth 100000 in
set_option maxHeartbeats 1600000 in
theorem implMirrorPattern_any (ao : Option Addr) (c : Nat) (p : List Int) (w : World) (hn : p.length ≤ 1048576) (hwf : WfI p) (hx : IntsAt w ao p) :
    Calls Try.prog 61 #[.slice ao p.length c] w fun e w' => LRes (isPat p) (renP (mirF p.length) p p.length) w' w.heap.size e ∧ Below w.heap.size w w' := by
  have hb := (Below.refl w.heap.size w).alloc (Nat.le_refl _) (.cells #[.slice ao p.length c] 42)
  have Hx := Lib.hid (hx.below hb)
  have hcell : (w.alloc (.cells #[.slice ao p.length c] 42)).cell? ⟨w.heap.size, 0, none⟩ = some (.slice ao p.length c) := by rw [cell_new]; rfl
  have Hcell := Lib.hid hcell
  have Hb := Lib.hid hb
  have HB := Lib.hid hb.size
  obtain ⟨w0, hw0⟩ : ∃ w0, w0 = w.alloc (.cells #[.slice ao p.length c] 42) := ⟨_, rfl⟩
  go_enter Try.func61, Try.ntmps61
  have hc0 := hcell
  rw [← hw0] at Hx Hcell Hb HB
  go_wp2_with fail
  refine (implIsPattern_any ao c p _ hn hwf (by rw [← hw0]; exact Hx.out)).mono ?_
  rw [← hw0]
  rintro e w1 ⟨ha, hb1⟩
  have Hb1 := Lib.hid (Hb.out.trans (hb1.mono HB.out))
  have HB1 := Lib.hid Hb1.out.size
  have hc1 := cell_below Hcell.out hb1
  have Hc1 := Lib.hid hc1
  have Hx1 := Lib.hid (Hx.out.below hb1)
  clear hcell hb hb1 hx hc0 hw0 HB Hb
  by_cases hg : isPat p
  · have Hg := Lib.hid hg
    clear hg
    obtain rfl := ha.is Hg.out
    clear ha
    go_wp2_with fail
    refine (renamed_mirror ao c p ao c w.heap.size w1 Hg.out Hx1.out Hc1.out).mono ?_
    rintro e w2 ⟨v, rfl, hv, hb2⟩
    have Hv := Lib.hid (hv.base HB1.out)
    have Hb2 := Lib.hid (Hb1.out.trans (hb2.mono HB1.out))
    clear hv hb2
    go_wp2
    go_ret2
    exact ⟨LRes.yes Hg.out Hv.out, Hb2.out⟩
  · have Hg := Lib.hid hg
    clear hg
    obtain rfl := ha.isnt Hg.out
    clear ha
    go_wp2
    go_ret2
    exact ⟨LRes.no Hg.out, Hb1.out⟩
end Go.Proofs.Yteakdbmdokleoaa
