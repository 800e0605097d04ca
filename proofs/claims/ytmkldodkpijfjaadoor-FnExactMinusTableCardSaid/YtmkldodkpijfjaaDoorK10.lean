/- Parts of proofs: contracts and plain facts. Conditions: as each says. -/
import Derived.Test.YtmkldodkpijfjaaDoorK09
import Derived.Laws.BitsAllLaws
import Derived.Deep.RegionWith
namespace Go.Proofs.YtmkldodkpijfjaaDoor
open Go.RowKit

set_option maxRecDepth 100000 in
set_option maxHeartbeats 1600000 in
theorem weAll_any (n : Nat) (w : World) (h1 : 1 ≤ n) (h4 : n ≤ 4) :
    Calls Tryd.prog 36 #[.int .i64 (n : Int)] w fun e w' => ∃ v vs, e = .returned v ∧ OwnRL w' w.heap.size v (allW n) vs ∧ Below w.heap.size w w' := by
  obtain ⟨i0, hi, hz0, hz1, hz2⟩ := info_parts Tryd.info_int
  have hrep : ∀ j, j < (List.replicate n (0 : Int)).length → gi (List.replicate n (0 : Int)) j = 0 := fun j hj => by rw [gi_lt hj]; simp
  have Hrep := Lib.hid hrep
  clear hrep
  go_enter Tryd.func36, Tryd.ntmps36
  go_wp2_with (at_make; refine wpList_make_full _ rfl _ _ 22 rfl w.heap.size 3 i0 (.int .i64 0) 1 Tryd.underlying22 hi hz0 hz1 _ _ _ _ n rfl rfl rfl rfl ?c1 ?c2 ?c3 ?_)
  case c1 => rw [hz2]; omega
  case c2 => unfold maxLen; omega
  case c3 => simp
  intro w1 hown hg
  have hb1 : Below w.heap.size w w1 := (Below.refl _ _).grown hg (Nat.le_refl _) (fun _ h => by cases h)
  have hown1 := OwnI.made hown
  have C := Lib.hid (weGoOn_any n (by omega) n [] (List.replicate n 0) none (some ⟨w.heap.size, 0, none⟩) 0 n w.heap.size [] w1 (by simp) (fun j hj => by rw [Hrep.out j hj]; omega) (by simp) hb1.size (OwnR.nil _ _) (by simpa using hown1))
  rw [List.length_replicate, List.length_nil] at C
  have Hb1 := Lib.hid hb1
  clear hown hg hb1 hown1
  go_wp2_with fail
  refine C.out.mono ?_
  rintro e w2 ⟨v, vs, rfl, hv, _, hb⟩
  have Hv := Lib.hid hv
  have Hb := Lib.hid (Hb1.out.trans (hb.mono Hb1.out.size))
  obtain ⟨va, vc, rfl, _, _⟩ := hv.head
  clear hv hb
  go_wp2
  go_ret
  exact ⟨_, vs, rfl, Hv.out, Hb.out⟩

set_option maxRecDepth 100000 in
set_option maxHeartbeats 1600000 in
theorem weAdd_any (ao : Option Addr) (c : Nat) (L : List Int) (k : Nat) (w : World) (hl : L.length ≤ 100) (hb : ∀ j, 0 ≤ gi L j ∧ gi L j ≤ 100) (hk : k < 100) (hc0 : ao = none → c = 0) (hx : IntsAt w ao L) :
    Calls Tryd.prog 37 #[.slice ao L.length c, .int .i64 (k : Int)] w fun e w' => ∃ v, e = .returned v ∧ OwnI w' w.heap.size v (addAt L k) ∧ Below w.heap.size w w' := by
  obtain ⟨i0, hi, hz0, hz1, hz2⟩ := info_parts Tryd.info_int
  have C := Lib.hid (l1Own_any ao c L w (by omega) hc0 hx)
  have HL := Lib.hid hl
  have hbk := hb k
  clear hx hb
  go_enter Tryd.func37, Tryd.ntmps37
  go_wp2_with fail
  refine C.out.mono ?_
  rintro e w2 ⟨v, rfl, hv, hb2⟩
  rw [← padTo_zero L] at hv
  have Hv := Lib.hid hv
  have Hb2 := Lib.hid hb2
  clear hv hb2 C hl
  go_wp2
  go_loopw [5] (fun out wr => ∃ t : Nat, L.length + t ≤ max L.length (k + 1) ∧ OwnI wr w.heap.size out (padTo L t) ∧ Below w.heap.size w wr) (fun out _ => k + 1 - slLen out)
  case atStart => exact ⟨0, by omega, Hv.out, Hb2.out⟩
  case round =>
    obtain ⟨t, ht, hown, hbr⟩ := hrel
    obtain ⟨oa, oc, hoo, ho1, ho2, _⟩ := hown.read
    rw [padTo_len] at hoo ho1
    have Hown := Lib.hid hown
    have Hbr := Lib.hid hbr
    have HB := Lib.hid hbr.size
    obtain ⟨q, hq⟩ : ∃ q, q = L.length + t := ⟨_, rfl⟩
    rw [← hq] at hoo ho1
    have Hq := Lib.hid hq
    have hqb : q ≤ 200 := by have := HL.out; omega
    have Hqk := Lib.hid (show q ≤ max L.length (k + 1) by omega)
    subst hoo
    clear Hv Hb2 hown hbr hq ht
    by_cases hlt : q ≤ k
    · have hd : decide ((q : Int) ≤ (k : Int)) = true := by simp; omega
      go_wp2_with (at_builtin; refine wpList_append_own _ rfl _ _ 22 rfl w.heap.size 3 i0 (.int .i64 0) 1 8 Tryd.underlying22 hi hz0 hz1 hz2 rfl (by decide) _ q _ rfl (by have := World.ownsRow.alloc Hown.out (.cells #[.int .i64 0] 3); rw [padTo_len, ← Hq.out] at this; exact this) ⟨wr.heap.size, 0, none⟩ 1 1 [.int .i64 0] rfl rfl ?e1 ?e2 ?e3 ?e4 ?e5 ?_)
      case e1 => exact cell_one_new _ _ _
      case e2 => intro u hu; simp at hu; subst hu; rfl
      case e3 => unfold maxLen; omega
      case e4 => omega
      case e5 => have := HB.out; simp; omega
      intro v' w3 hown' hgrow _
      rw [show q + 1 = (padTo L t).length + 1 by rw [padTo_len, Hq.out]] at hown'
      have hput := Hown.out.snoc HB.out hown' hgrow
      rw [← padTo_succ] at hput
      obtain ⟨pa, pc, hpp, _, _, _⟩ := hput.1.read
      have hlen : slLen v' = q + 1 := by rw [hpp]; show (padTo L (t + 1)).length = q + 1; rw [padTo_len, Hq.out]; omega
      have Hput := Lib.hid hput.1
      have Hb3 := Lib.hid (Hbr.out.trans hput.2)
      have Hlen := Lib.hid hlen
      clear hown' hgrow hput hpp hlen ho1 ho2
      go_wp2
      go_roundw
      case rel => exact ⟨t + 1, by have := Hq.out; omega, Hput.out, Hb3.out⟩
      case measure =>
        show k + 1 - slLen v' < k + 1 - q
        rw [Hlen.out]
        omega
    · have hd : decide ((q : Int) ≤ (k : Int)) = false := by simp; omega
      have hkq : k < q := by omega
      have hw := Hown.out
      obtain ⟨g, rfl, hg1, hg2⟩ := hw.isAt (by omega)
      have hcell := hw.cellAt k hkq
      rw [gi_padTo] at hcell
      have hfr := hw.frozenAt k
      have hst := hw.store k (gi L k + 1)
      rw [addAt_of (by have := Hq.out; have := Hqk.out; omega)] at hst
      have Hbs := Lib.hid (Hbr.out.setCell (p := ⟨g, k, none⟩) hg1 (.int .i64 (gi L k + 1)))
      obtain ⟨x, hx⟩ : ∃ x, x = gi L k := ⟨_, rfl⟩
      rw [← hx] at hcell hst Hbs hbk
      have Hst := Lib.hid hst
      clear hw hst hx hlt ho1 ho2
      go_wp2
      go_ret
      exact ⟨_, rfl, Hst.out, Hbs.out⟩

set_option maxRecDepth 100000 in
set_option maxHeartbeats 1600000 in
theorem weInversions_any (ao : Option Addr) (cp : Nat) (m : List (List Int)) (w : World) (hg : good m) (hm : MatAt w ao m) :
    Calls Tryd.prog 41 #[.slice ao m.length cp] w fun e w' => e = .returned (.int .i64 (invW m)) ∧ Below w.heap.size w w' := by
  have Hg := Lib.hid hg
  have Hm := Lib.hid hm
  have b0 := cntK_bd (m := m) 0 hg.1.2.1
  have b5 := cntK_bd (m := m) 5 hg.1.2.1
  have HV := Lib.hid (show invW m = cntK m 0 + cntK m 5 from rfl)
  clear hg hm
  go_enter Tryd.func41, Tryd.ntmps41
  go_wp2_with fail
  refine (weCounts_any ao cp m w Hg.out Hm.out).mono ?_
  rintro e w2 ⟨v, rfl, hv, hb⟩
  have hvl : ∃ g cc, v = .slice (some ⟨g, 0, none⟩) 6 cc := by
    obtain ⟨va, vc, e, _, _, _⟩ := hv.read
    rw [cntL_len] at e
    subst e
    obtain ⟨g, rfl, _⟩ := hv.isAt (by omega)
    exact ⟨g, vc, rfl⟩
  obtain ⟨g, cc, rfl⟩ := hvl
  have c0 := hv.cellAt 0 (by omega)
  have c5 := hv.cellAt 5 (by omega)
  rw [show gi (cntL (cntK m)) 0 = cntK m 0 from rfl] at c0
  rw [show gi (cntL (cntK m)) 5 = cntK m 5 from rfl] at c5
  obtain ⟨x, hx⟩ : ∃ x, x = cntK m 0 := ⟨_, rfl⟩
  obtain ⟨y, hy⟩ : ∃ y, y = cntK m 5 := ⟨_, rfl⟩
  rw [← hx] at c0 b0 HV
  rw [← hy] at c5 b5 HV
  have Hb := Lib.hid hb
  clear hv hb hx hy
  go_wp2
  go_quiet (fail)
  go_wp2
  go_ret
  exact ⟨by rw [HV.out]; rfl, below_drewN Hb.out _⟩

set_option maxRecDepth 100000 in
set_option maxHeartbeats 3200000 in
theorem specMinusTable_any (n : Int) (w : World) (_ : -9223372036854775808 ≤ n ∧ n ≤ 9223372036854775807) :
    Calls Tryd.prog 10 #[.int .i64 n] w fun e w' => LRes (1 ≤ n ∧ n ≤ 4) (tabW fMin (allW n.toNat)) w' w.heap.size e ∧ Below w.heap.size w w' := by
  by_cases h : 1 ≤ n ∧ n ≤ 4
  · obtain ⟨N, rfl⟩ : ∃ N : Nat, n = (N : Int) := ⟨n.toNat, by omega⟩
    have hN1 : 1 ≤ N := by omega
    have hN4 : N ≤ 4 := by omega
    rw [Int.toNat_natCast]
    go_enter Tryd.func10, Tryd.ntmps10
    go_wp2_with fail
    refine (weSide_any (N : Int) w).mono ?_
    rintro e w1 ⟨ha, rfl⟩
    obtain rfl := ha.is h
    clear ha h
    go_wp2_with fail
    refine (weAll_any N w hN1 hN4).mono ?_
    rintro e w2 ⟨v, vs, rfl, hv, hb⟩
    obtain ⟨ta, tc, rfl, ht1, ht2⟩ := hv.head
    have hlen := allW_len N (by omega)
    have Hok := Lib.hid (tab_ok N (by omega))
    have Hf := Lib.hid (f_ok N (by omega))
    have Hgd := Lib.hid (fun k (hk : k < (allW N).length) => (allW_good N (by omega) _ (gt_mem hk)).resolve_left (by omega))
    obtain ⟨A, hA⟩ : ∃ A, A = allW N := ⟨_, rfl⟩
    rw [← hA] at hv hlen Hok Hf Hgd ht1 ⊢
    have Hv := Lib.hid hv
    have Hb := Lib.hid hb
    have HB := Lib.hid hb.size
    have HA := Lib.hid hA
    clear hv hb hA
    go_wp2
    go_loopw [4, 13] (fun out i wr => ∃ k : Nat, k ≤ A.length ∧ i = .int .i64 k ∧ OwnI wr w.heap.size out (tabW fMin (A.take k)) ∧ Below w2.heap.size w2 wr) (fun _ i _ => A.length - (intOf i).toNat)
    case atStart => exact ⟨0, Nat.zero_le _, rfl, OwnI.nil _ _, Below.refl _ _⟩
    case round =>
      obtain ⟨k, hk, rfl, hown, hbr⟩ := hrel
      have Hown := Lib.hid hown
      have Hbr := Lib.hid hbr
      have HBr := Lib.hid hbr.size
      clear hown hbr
      by_cases hlt : k < A.length
      · obtain ⟨b1, o1, r1, d1, e1, hc1, hm1, _, _⟩ := (Hv.out.below Hbr.out).at hlt
        obtain ⟨hml, hmg⟩ := Hgd.out k hlt
        obtain ⟨hfe, hfl⟩ := (Hf.out (gt A k) (gt_mem hlt)).1
        have hstep : tabW fMin (A.take (k + 1)) = addAt (tabW fMin (A.take k)) (fMin (gt A k)) := tabW_step _ A hlt
        have hokL := okA_at (Hok.out k (by omega)).1
        obtain ⟨oa, oc, hoo, ho1, ho2, hox⟩ := Hown.out.read
        have hnc : oa = none → oc = 0 := by have := Hown.out; rw [hoo] at this; exact this.none_cap
        have C1 := Lib.hid (fun wx (hx : Below wr.heap.size wr wx) => (fun r d m w h hm => sgMinus_any r d m w h hm) r1 d1 (gt A k) wx hmg.1 (hm1.below hx))
        obtain ⟨L, hL⟩ : ∃ L, L = tabW fMin (A.take k) := ⟨_, rfl⟩
        obtain ⟨f, hf⟩ : ∃ f, f = fMin (gt A k) := ⟨_, rfl⟩
        rw [← hL] at hstep hokL hoo ho1 hox
        rw [← hf] at hstep hfe hfl
        have C2 := Lib.hid (fun wx (hx : Below wr.heap.size wr wx) => weAdd_any oa oc L f wx hokL.1 hokL.2 hfl hnc (hox.below hx))
        rw [hfe] at C1
        rw [hml] at hc1 C1
        subst e1
        have Hstep := Lib.hid hstep
        obtain ⟨l, hl⟩ : ∃ l, l = L.length := ⟨_, rfl⟩
        rw [← hl] at hoo C2
        subst hoo
        clear hml hmg hfe hstep hokL ho1 ho2 hox hnc hm1 hL hf hl hfl
        go_wp2_with fail
        refine (C1.out wr (Below.refl _ _)).mono ?_
        rintro e w3 ⟨rfl, rfl⟩
        have hx1 : Below wr.heap.size wr wr := Below.refl _ _
        go_wp2_with fail
        refine (C2.out _ hx1).mono ?_
        rintro e w4 ⟨v4, rfl, hv4, hb4⟩
        have Hv4 := Lib.hid (hv4.base (Nat.le_trans HB.out (Nat.le_trans HBr.out hx1.size)))
        have Hb4 := Lib.hid (Hbr.out.trans ((hx1.trans (hb4.mono hx1.size)).mono HBr.out))
        clear hv4 hb4 hx1 C1 C2
        go_wp2
        go_roundw
        case rel => exact ⟨k + 1, by omega, by go_num, by rw [Hstep.out]; exact Hv4.out, Hb4.out⟩
        case measure => simp [intOf]; omega
      · obtain rfl : k = A.length := by omega
        have Hfin := Lib.hid (show OwnI wr w.heap.size _ (tabW fMin A) by have := Hown.out; rw [List.take_length] at this; exact this)
        have Hfb := Lib.hid (Hb.out.trans (Hbr.out.mono HB.out))
        go_wp2
        go_ret2
        exact ⟨LRes.yes ⟨by omega, by omega⟩ (by rw [← HA.out]; exact Hfin.out), Hfb.out⟩
  · have H := Lib.hid h
    clear h
    go_enter Tryd.func10, Tryd.ntmps10
    go_wp2_with fail
    refine (weSide_any n w).mono ?_
    rintro e w1 ⟨ha, rfl⟩
    obtain rfl := ha.isnt H.out
    clear ha
    go_wp2
    go_ret2
    exact ⟨LRes.no H.out, Below.refl _ _⟩

set_option maxRecDepth 100000 in
set_option maxHeartbeats 3200000 in
theorem specInversionTable_any (n : Int) (w : World) (_ : -9223372036854775808 ≤ n ∧ n ≤ 9223372036854775807) :
    Calls Tryd.prog 15 #[.int .i64 n] w fun e w' => LRes (1 ≤ n ∧ n ≤ 4) (tabW fInv (allW n.toNat)) w' w.heap.size e ∧ Below w.heap.size w w' := by
  by_cases h : 1 ≤ n ∧ n ≤ 4
  · obtain ⟨N, rfl⟩ : ∃ N : Nat, n = (N : Int) := ⟨n.toNat, by omega⟩
    have hN1 : 1 ≤ N := by omega
    have hN4 : N ≤ 4 := by omega
    rw [Int.toNat_natCast]
    go_enter Tryd.func15, Tryd.ntmps15
    go_wp2_with fail
    refine (weSide_any (N : Int) w).mono ?_
    rintro e w1 ⟨ha, rfl⟩
    obtain rfl := ha.is h
    clear ha h
    go_wp2_with fail
    refine (weAll_any N w hN1 hN4).mono ?_
    rintro e w2 ⟨v, vs, rfl, hv, hb⟩
    obtain ⟨ta, tc, rfl, ht1, ht2⟩ := hv.head
    have hlen := allW_len N (by omega)
    have Hok := Lib.hid (tab_ok N (by omega))
    have Hf := Lib.hid (f_ok N (by omega))
    have Hgd := Lib.hid (fun k (hk : k < (allW N).length) => (allW_good N (by omega) _ (gt_mem hk)).resolve_left (by omega))
    obtain ⟨A, hA⟩ : ∃ A, A = allW N := ⟨_, rfl⟩
    rw [← hA] at hv hlen Hok Hf Hgd ht1 ⊢
    have Hv := Lib.hid hv
    have Hb := Lib.hid hb
    have HB := Lib.hid hb.size
    have HA := Lib.hid hA
    clear hv hb hA
    go_wp2
    go_loopw [4, 13] (fun out i wr => ∃ k : Nat, k ≤ A.length ∧ i = .int .i64 k ∧ OwnI wr w.heap.size out (tabW fInv (A.take k)) ∧ Below w2.heap.size w2 wr) (fun _ i _ => A.length - (intOf i).toNat)
    case atStart => exact ⟨0, Nat.zero_le _, rfl, OwnI.nil _ _, Below.refl _ _⟩
    case round =>
      obtain ⟨k, hk, rfl, hown, hbr⟩ := hrel
      have Hown := Lib.hid hown
      have Hbr := Lib.hid hbr
      have HBr := Lib.hid hbr.size
      clear hown hbr
      by_cases hlt : k < A.length
      · obtain ⟨b1, o1, r1, d1, e1, hc1, hm1, _, _⟩ := (Hv.out.below Hbr.out).at hlt
        obtain ⟨hml, hmg⟩ := Hgd.out k hlt
        obtain ⟨hfe, hfl⟩ := (Hf.out (gt A k) (gt_mem hlt)).2
        have hstep : tabW fInv (A.take (k + 1)) = addAt (tabW fInv (A.take k)) (fInv (gt A k)) := tabW_step _ A hlt
        have hokL := okA_at (Hok.out k (by omega)).2
        obtain ⟨oa, oc, hoo, ho1, ho2, hox⟩ := Hown.out.read
        have hnc : oa = none → oc = 0 := by have := Hown.out; rw [hoo] at this; exact this.none_cap
        have C1 := Lib.hid (fun wx (hx : Below wr.heap.size wr wx) => (fun r d m w h hm => weInversions_any r d m w h hm) r1 d1 (gt A k) wx hmg (hm1.below hx))
        obtain ⟨L, hL⟩ : ∃ L, L = tabW fInv (A.take k) := ⟨_, rfl⟩
        obtain ⟨f, hf⟩ : ∃ f, f = fInv (gt A k) := ⟨_, rfl⟩
        rw [← hL] at hstep hokL hoo ho1 hox
        rw [← hf] at hstep hfe hfl
        have C2 := Lib.hid (fun wx (hx : Below wr.heap.size wr wx) => weAdd_any oa oc L f wx hokL.1 hokL.2 hfl hnc (hox.below hx))
        rw [hfe] at C1
        rw [hml] at hc1 C1
        subst e1
        have Hstep := Lib.hid hstep
        obtain ⟨l, hl⟩ : ∃ l, l = L.length := ⟨_, rfl⟩
        rw [← hl] at hoo C2
        subst hoo
        clear hml hmg hfe hstep hokL ho1 ho2 hox hnc hm1 hL hf hl hfl
        go_wp2_with fail
        refine (C1.out wr (Below.refl _ _)).mono ?_
        rintro e w3 ⟨rfl, hx1⟩
        go_wp2_with fail
        refine (C2.out _ hx1).mono ?_
        rintro e w4 ⟨v4, rfl, hv4, hb4⟩
        have Hv4 := Lib.hid (hv4.base (Nat.le_trans HB.out (Nat.le_trans HBr.out hx1.size)))
        have Hb4 := Lib.hid (Hbr.out.trans ((hx1.trans (hb4.mono hx1.size)).mono HBr.out))
        clear hv4 hb4 hx1 C1 C2
        go_wp2
        go_roundw
        case rel => exact ⟨k + 1, by omega, by go_num, by rw [Hstep.out]; exact Hv4.out, Hb4.out⟩
        case measure => simp [intOf]; omega
      · obtain rfl : k = A.length := by omega
        have Hfin := Lib.hid (show OwnI wr w.heap.size _ (tabW fInv A) by have := Hown.out; rw [List.take_length] at this; exact this)
        have Hfb := Lib.hid (Hb.out.trans (Hbr.out.mono HB.out))
        go_wp2
        go_ret2
        exact ⟨LRes.yes ⟨by omega, by omega⟩ (by rw [← HA.out]; exact Hfin.out), Hfb.out⟩
  · have H := Lib.hid h
    clear h
    go_enter Tryd.func15, Tryd.ntmps15
    go_wp2_with fail
    refine (weSide_any n w).mono ?_
    rintro e w1 ⟨ha, rfl⟩
    obtain rfl := ha.isnt H.out
    clear ha
    go_wp2
    go_ret2
    exact ⟨LRes.no H.out, Below.refl _ _⟩
end Go.Proofs.YtmkldodkpijfjaaDoor

namespace Go.Proofs.YtmkldodkpijfjaaDoor
/-- how many of the first k numbers are j -/
def occ (xs : List Int) (j : Int) : Nat → Int
  | 0 => 0
  | k + 1 => occ xs j k + (if gi xs k = j then 1 else 0)
theorem occ_bd (xs : List Int) (j : Int) : ∀ k, 0 ≤ occ xs j k ∧ occ xs j k ≤ k
  | 0 => by simp [occ]
  | k + 1 => by have := occ_bd xs j k; simp only [occ]; split <;> omega
/-- all numbers of a triangle are at most the last one of its last row -/
theorem tri_le {t : List (List Int)} (h : isTri t) : ∀ d i, i + d + 1 = t.length → ∀ k, k ≤ i → gi (gr t i) k ≤ gi (gr t (t.length - 1)) (t.length - 1)
  | 0, i, hi, k, hk => by
    have hl := (h.2.2 i (by omega)).1
    have hr := ((isRowP_iff _).1 (h.2.2 i (by omega)).2.1).2.2
    rw [show t.length - 1 = i from by omega]
    rcases Nat.lt_or_ge k i with hki | hki
    · have hup := (up_iff _).1 hr.1
      have mono : ∀ d k, k + d < (gr t i).length → gi (gr t i) k ≤ gi (gr t i) (k + d) := by
        intro d
        induction d with
        | zero => intro k _; exact Int.le_refl _
        | succ d ih =>
          intro k hkd
          have h1 := ih k (by omega)
          have h2 := hup (k + (d + 1)) hkd (by omega)
          rw [show k + (d + 1) - 1 = k + d from by omega] at h2
          omega
      have := mono (i - k) k (by omega)
      rwa [show k + (i - k) = i from by omega] at this
    · rw [show k = i from by omega]; exact Int.le_refl _
  | d + 1, i, hi, k, hk => by
    have h1 := (h.2.2 (i + 1) (by omega)).2.2 (by omega)
    have hl := (h.2.2 i (by omega)).1
    have h2 := (h1 k (by rw [show i + 1 - 1 = i from rfl]; omega)).2
    rw [show i + 1 - 1 = i from rfl] at h2
    have h3 := tri_le h d (i + 1) (by omega) (k + 1) (by omega)
    omega
/-- 0, 1, .., n - 1 -/
def iota (n : Nat) : List Int := rng 0 ((n : Int) - 1)
theorem iota_len (n : Nat) : (iota n).length = n := by unfold iota rng; simp
theorem gi_iota {n i : Nat} (h : i < n) : gi (iota n) i = i := by
  rw [gi_lt (by rw [iota_len]; exact h)]
  simp [iota, rng]
theorem up_iota (n : Nat) : Up (iota n) := by
  rw [up_iff]
  intro k hk h0
  rw [iota_len] at hk
  rw [gi_iota hk, gi_iota (by omega)]
  omega
theorem mem_iota {n : Nat} {x : Int} : x ∈ iota n ↔ 0 ≤ x ∧ x < n := by unfold iota; rw [mem_rng]; omega
theorem mask_iota (n : Nat) : mask (iota n) = 2 ^ n - 1 := by
  apply Nat.eq_of_testBit_eq
  intro i
  rw [testBit_mask (fun x hx => (mem_iota.1 hx).1), Nat.testBit_two_pow_sub_one]
  congr 1
  rw [mem_iota]
  simp
/-- a row of n numbers is 0, 1, .. exactly if its last number is n - 1 -/
theorem row_full {xs : List Int} (h : isRowP xs) : mask xs = 2 ^ xs.length - 1 ↔ gi xs (xs.length - 1) = (xs.length : Int) - 1 := by
  obtain ⟨h1, h2, hu, hr⟩ := (isRowP_iff _).1 h
  rw [← mask_iota]
  constructor
  · intro hm
    have e := mask_inj hu (fun x hx => (hr x hx).1) (up_iota _) (fun x hx => (mem_iota.1 hx).1) hm
    generalize hn : xs.length = n at *
    rw [e, gi_iota (by omega)]
    omega
  · intro hl
    congr 1
    refine ext_gi (by rw [iota_len]) fun i hi => ?_
    rw [gi_iota hi]
    have hup := (up_iff _).1 hu
    have lo : ∀ k, k < xs.length → (k : Int) ≤ gi xs k := by
      intro k
      induction k with
      | zero => intro hk; exact (hr _ (gi_mem hk)).1
      | succ k ih =>
        intro hk
        have a := ih (by omega)
        have b := hup (k + 1) hk (by omega)
        rw [show k + 1 - 1 = k from rfl] at b
        omega
    have hi2 : ∀ d k, k + d + 1 = xs.length → gi xs k ≤ k := by
      intro d
      induction d with
      | zero => intro k hk; rw [show xs.length - 1 = k from by omega] at hl; omega
      | succ d ih =>
        intro k hk
        have a := ih (k + 1) (by omega)
        have b := hup (k + 1) (by omega) (by omega)
        rw [show k + 1 - 1 = k from rfl] at b
        omega
    have := lo i hi
    have := hi2 (xs.length - 1 - i) i (by omega)
    omega
/-- the numbers of the sign matrix of a triangle -/
def signAt (t : List (List Int)) (i j : Nat) : Int := occ (gr t i) j (gr t i).length - (if 0 < i then occ (gr t (i - 1)) j (gr t (i - 1)).length else 0)
def fromT (t : List (List Int)) : List (List Int) := (List.range t.length).map fun i => (List.range t.length).map fun j => signAt t i j
/-- a triangle whose last row is that of sign matrices -/
def fullTri (t : List (List Int)) : Prop := isTri t ∧ gi (gr t (t.length - 1)) (t.length - 1) = (t.length : Int) - 1
theorem full_lt {t : List (List Int)} (h : fullTri t) {i k : Nat} (hi : i < t.length) (hk : k < (gr t i).length) : 0 ≤ gi (gr t i) k ∧ gi (gr t i) k < t.length := by
  have hl := (h.1.2.2 i hi).1
  have := tri_le h.1 (t.length - 1 - i) i (by omega) k (by omega)
  have := ((h.1.2.2 i hi).2.1.2.2 k hk).1.1
  have := h.2
  omega
end Go.Proofs.YtmkldodkpijfjaaDoor

namespace Go.Proofs.YtmkldodkpijfjaaDoor
open Go.RowKit

theorem take_succ_gi {xs : List Int} {k : Nat} (h : k < xs.length) : xs.take (k + 1) = xs.take k ++ [gi xs k] := by
  rw [gi_lt h, List.take_succ_eq_append_getElem h]

theorem shl_one {x : Int} (h0 : 0 ≤ x) (h1 : x ≤ 15) : IntKind.u64.wrap (2 ^ x.toNat) = ((2 ^ x.toNat : Nat) : Int) := by
  rw [IntKind.wrap_u64]
  have : 2 ^ x.toNat ≤ 2 ^ 15 := Nat.pow_le_pow_right (by omega) (by omega)
  rw [show ((2 : Int) ^ x.toNat) = ((2 ^ x.toNat : Nat) : Int) by simp]
  generalize 2 ^ x.toNat = q at this
  omega

set_option maxRecDepth 100000 in
set_option maxHeartbeats 400000 in
theorem setOf_any (ao : Option Addr) (c : Nat) (xs : List Int) (w : World) (hn : xs.length ≤ 1048576) (hr : ∀ x ∈ xs, 0 ≤ x ∧ x ≤ 15) (hx : IntsAt w ao xs) :
    Calls Tryd.prog 60 #[.slice ao xs.length c] w fun e w' => e = .returned (.int .u64 (mask xs : Nat)) ∧ w = w' := by
  have hmx : xs.length ≤ 9223372036854775807 := by omega
  have Hx := Lib.hid hx
  have Hr := Lib.hid hr
  clear hx hr
  go_enter Tryd.func60, Tryd.ntmps60
  go_wp2
  go_loop [3, 8] (fun s i => ∃ k : Nat, k ≤ xs.length ∧ i = .int .i64 k ∧ s = .int .u64 (mask (xs.take k) : Nat)) (fun _ i => xs.length - (intOf i).toNat)
  case atStart => exact ⟨0, Nat.zero_le _, rfl, rfl⟩
  case round =>
    obtain ⟨k, hk, rfl, rfl⟩ := hrel
    by_cases hlt : k < xs.length
    · obtain ⟨b, o, rfl, hc⟩ := Hx.out k hlt
      have hb := Hr.out _ (gi_mem hlt)
      have h1 : mask (xs.take k) < 65536 := mask_lt (n := 16) (fun y hy => by have := Hr.out y (List.mem_of_mem_take hy); omega)
      have h2 : 2 ^ (gi xs k).toNat ≤ 2 ^ 15 := Nat.pow_le_pow_right (by omega) (by omega)
      have e1 := shl_one hb.1 hb.2
      have e2 : bits .or .u64 ((mask (xs.take k) : Nat) : Int) (IntKind.u64.wrap (2 ^ (gi xs k).toNat)) = ((mask (xs.take (k + 1)) : Nat) : Int) := by
        rw [e1, u64_or_nat _ _ (by omega) (by omega), take_succ_gi hlt, mask_snoc]
      have hb0 := hb.1
      obtain ⟨x, hxv⟩ : ∃ x, x = gi xs k := ⟨_, rfl⟩
      have hb15 := hb.2
      rw [← hxv] at hc e2 hb0 hb15
      obtain ⟨s, hs⟩ : ∃ s : Int, s = ((mask (xs.take k) : Nat) : Int) := ⟨_, rfl⟩
      rw [← hs] at e2 ⊢
      have E2 := Lib.hid e2
      clear hs hxv h1 h2 hb e1 e2
      go_wp2
      go_round
      case rel => exact ⟨k + 1, by omega, by go_num, by rw [E2.out]⟩
      case measure => simp [intOf]; omega
    · obtain rfl : k = xs.length := by omega
      rw [List.take_length]
      go_wp2
      go_ret
      exact ⟨rfl, rfl⟩

theorem allColumns_any (n : Nat) (w : World) (hn : n ≤ 15) :
    Calls Tryd.prog 66 #[.int .i64 (n : Int)] w fun e w' => e = .returned (.int .u64 ((2 ^ n - 1 : Nat) : Int)) ∧ w = w' := by
  have e1 := shl_one (x := (n : Int)) (by omega) (by omega)
  rw [Int.toNat_natCast] at e1
  have E : IntKind.u64.wrap (IntKind.u64.wrap (2 ^ n) - 1) = ((2 ^ n - 1 : Nat) : Int) := by
    have h2 : 2 ^ n ≤ 2 ^ 15 := Nat.pow_le_pow_right (by omega) (by omega)
    have h3 : 0 < 2 ^ n := Nat.two_pow_pos n
    rw [e1, IntKind.wrap_u64, Int.emod_eq_of_lt (by omega) (by omega)]
    omega
  have E2 := Lib.hid E
  clear e1 E
  go_enter Tryd.func66, Tryd.ntmps66
  go_wp2
  go_ret
  exact ⟨by rw [← E2.out]; rfl, rfl⟩
end Go.Proofs.YtmkldodkpijfjaaDoor

namespace Go.Proofs.YtmkldodkpijfjaaDoor
open Go.RowKit

def sv (b : List Int) : Value := .int .u64 (mask b : Nat)
/-- the cells at an address read as these sets -/
def SetsAt (w : World) (ao : Option Addr) (bs : List (List Int)) : Prop := ∀ i, i < bs.length → ∃ b o, ao = some ⟨b, o, none⟩ ∧ w.cell? ⟨b, o + i, none⟩ = some (sv (gr bs i))
theorem SetsAt.below {w w' : World} {ao : Option Addr} {bs : List (List Int)} (h : SetsAt w ao bs) (hb : Below w.heap.size w w') : SetsAt w' ao bs := by
  intro i hi
  obtain ⟨b, o, e, hc⟩ := h i hi
  exact ⟨b, o, e, cell_below hc hb⟩
/-- a slice of sets that the call owns -/
def OwnB (w : World) (B : Nat) (v : Value) (bs : List (List Int)) : Prop := w.ownsRow B 61 1 v bs.length (bs.map sv)
theorem OwnB.below {w w' : World} {B : Nat} {v : Value} {bs : List (List Int)} (h : OwnB w B v bs) (hb : Below w.heap.size w w') : OwnB w' B v bs := ownsRow_below h hb
theorem OwnB.base {w : World} {B B' : Nat} {v : Value} {bs : List (List Int)} (h : OwnB w B v bs) (hB : B' ≤ B) : OwnB w B' v bs := ownsRow_base h hB
theorem OwnB.nil (w : World) (B : Nat) : OwnB w B (.slice none 0 0) [] := World.ownsRow_nil _ _ _ _
theorem OwnB.read {w : World} {B : Nat} {v : Value} {bs : List (List Int)} (h : OwnB w B v bs) : ∃ ao c, v = .slice ao bs.length c ∧ bs.length ≤ c ∧ c ≤ 9223372036854775807 ∧ SetsAt w ao bs := by
  obtain ⟨ao, c, hv, h1, h2, hc⟩ := ownsRow_read h
  refine ⟨ao, c, hv, h1, h2, fun i hi => ?_⟩
  obtain ⟨b, o, e, hcell⟩ := hc i hi
  refine ⟨b, o, e, ?_⟩
  rw [hcell, gr_lt hi]
  simp [List.getD, hi]
theorem OwnB.snoc {w w1 : World} {B : Nat} {v v' : Value} {bs : List (List Int)} {x : List Int} {o : Obj} (h : OwnB w B v bs) (hB : B ≤ w.heap.size)
    (h1 : w1.ownsRow B 61 1 v' (bs.length + 1) (bs.map sv ++ [sv x])) (hg : (w.alloc o).grownBy w1 v.ownBlock) : OwnB w1 B v' (bs ++ [x]) ∧ Below B w w1 := by
  refine ⟨by unfold OwnB; rw [List.length_append, List.map_append]; exact h1, ?_⟩
  exact Below.grown ((Below.refl B w).alloc hB o) hg (by simp; omega) (fun k hk => (World.ownsRow.lt h k hk).1)
theorem OwnB.one (w : World) : OwnB (w.alloc (.cells #[sv []] 61)) w.heap.size (.slice (some ⟨w.heap.size, 0, none⟩) 1 1) [[]] := ownsRow_built w [sv []] (Nat.le_refl _) (by simp)

theorem Tryd.info_rowset : (Tryd.prog.info? 61).map (fun i => (i.zero, i.size, i.bytes)) = some (some (.int .u64 0), 1, 8) := by kernel_rfl

theorem i64_small {n : Int} (h1 : -1000000 ≤ n) (h2 : n ≤ 1000000) : IntKind.i64.wrap n = n := by
  simp [IntKind.wrap, IntKind.bits, IntKind.signed]
  omega

/-- of those that are behind b, the ones of the numbers lo .. v - 1 -/
def lengPart (b : List Int) (lo v : Int) : List (List Int) := ((rng lo (v - 1)).filter fun x => decide (lst b < x)).map fun x => b ++ [x]
theorem lengPart_start (b : List Int) (lo : Int) : lengPart b lo lo = [] := by unfold lengPart; rw [rng_nil (by omega)]; rfl
theorem lengPart_step {b : List Int} {lo v : Int} (h : lo ≤ v) : lengPart b lo (v + 1) = lengPart b lo v ++ (if lst b < v then [b ++ [v]] else []) := by
  unfold lengPart
  rw [show v + 1 - 1 = v from by omega, rng_snoc h, List.filter_append, List.map_append]
  by_cases hl : lst b < v <;> simp [hl]
theorem leng_take {bs : List (List Int)} {k : Nat} (h : k < bs.length) (lo hi : Int) : leng (bs.take (k + 1)) lo hi = leng (bs.take k) lo hi ++ lengPart (gr bs k) lo (hi + 1) := by
  unfold leng lengPart
  rw [List.take_succ_eq_append_getElem h, List.flatMap_append, gr_lt h, show hi + 1 - 1 = hi from by omega]
  simp

theorem or_step {b : List Int} {v : Int} (hb : Rise b) (h0 : 0 ≤ v) (h1 : v ≤ 15) : bits .or .u64 ((mask b : Nat) : Int) ((2 ^ v.toNat : Nat) : Int) = ((mask (b ++ [v]) : Nat) : Int) := by
  have := mask_lt16 hb
  have h2 : 2 ^ v.toNat ≤ 2 ^ 15 := Nat.pow_le_pow_right (by omega) (by omega)
  rw [u64_or_nat _ _ (by omega) (by omega), mask_snoc]

set_option maxRecDepth 100000 in
set_option maxHeartbeats 1600000 in
theorem lengthened_any (ao : Option Addr) (c : Nat) (bs : List (List Int)) (lo hi : Int) (w : World) (hn : bs.length ≤ 1048576) (hbs : ∀ b ∈ bs, Rise b) (hlo : 0 ≤ lo) (hlo2 : lo ≤ 15) (hhi : hi ≤ 15) (hx : SetsAt w ao bs) :
    Calls Tryd.prog 94 #[.slice ao bs.length c, .int .i64 lo, .int .i64 hi] w fun e w' => ∃ v, e = .returned v ∧ OwnB w' w.heap.size v (leng bs lo hi) ∧ Below w.heap.size w w' := by
  obtain ⟨i0, hi0, hz0, hz1, hz2⟩ := info_parts Tryd.info_rowset
  have hmx : bs.length ≤ 9223372036854775807 := by omega
  have Hx := Lib.hid hx
  have Hbs := Lib.hid hbs
  clear hx hbs
  go_enter Tryd.func94, Tryd.ntmps94
  go_wp2
  go_loopw [7, 13] (fun out i wr => ∃ k : Nat, k ≤ bs.length ∧ i = .int .i64 k ∧ OwnB wr w.heap.size out (leng (bs.take k) lo hi) ∧ Below w.heap.size w wr) (fun _ i _ => bs.length - (intOf i).toNat)
  case atStart => exact ⟨0, Nat.zero_le _, rfl, OwnB.nil _ _, Below.refl _ _⟩
  case round =>
    obtain ⟨k, hk, rfl, hown, hbr⟩ := hrel
    by_cases hlt : k < bs.length
    · obtain ⟨b0, o0, rfl, hc0⟩ := Hx.out k hlt
      have hc := cell_below hc0 hbr
      have hrise := Hbs.out _ (gr_mem hlt)
      have Hown := Lib.hid hown
      have Hbr := Lib.hid hbr
      have Hlt := Lib.hid (leng_take hlt lo hi)
      have hlen : (leng (bs.take k) lo hi).length ≤ k * 16 := by
        unfold leng
        refine flatMap_le (n := k) (k := 16) (by rw [List.length_take]; omega) (fun b _ => ?_)
        rw [List.length_map]
        exact rng_filter_le hlo hhi _
      obtain ⟨b, hb⟩ : ∃ b, b = gr bs k := ⟨_, rfl⟩
      obtain ⟨L0, hL0⟩ : ∃ L0, L0 = leng (bs.take k) lo hi := ⟨_, rfl⟩
      rw [← hb] at hc hrise
      rw [← hL0] at hlen
      have Hb := Lib.hid hb
      have HL0 := Lib.hid hL0
      have Hrise := Lib.hid hrise
      obtain ⟨m, hm⟩ : ∃ m : Int, m = (mask b : Nat) := ⟨_, rfl⟩
      have hc' : wr.cell? ⟨b0, o0 + k, none⟩ = some (.int .u64 m) := by rw [hm]; exact hc
      have Hm := Lib.hid hm
      obtain ⟨wo, hwo⟩ : ∃ wo : World, wo = wr := ⟨_, rfl⟩
      subst hwo
      clear hc0 hown hbr hc hrise hb hL0 hm
      go_wp2
      go_loopw [7, 10] (fun out i wr => ∃ v : Int, lo ≤ v ∧ (lo ≤ hi → v ≤ hi + 1) ∧ (hi < lo → v = lo) ∧ i = .int .i64 v ∧ OwnB wr w.heap.size out (L0 ++ lengPart b lo v) ∧ Below w.heap.size w wr) (fun _ i _ => (hi + 1 - intOf i).toNat)
      case atStart => exact ⟨lo, Int.le_refl _, fun h => by omega, fun _ => rfl, rfl, by rw [lengPart_start, List.append_nil, HL0.out]; exact Hown.out, Hbr.out⟩
      case round =>
        obtain ⟨v, hv1, hv2, hv3, rfl, hown, hbi⟩ := hrel
        clear Hown Hbr hc'
        by_cases hvh : v ≤ hi
        · have hv0 : 0 ≤ v := by omega
          have hv15 : v ≤ 15 := by omega
          have e1 := shl_one hv0 hv15
          have htest := mask_test Hrise.out.1 (fun x hx => (Hrise.out.2 x hx).1) hv0
          have hor := or_step Hrise.out hv0 hv15
          have hlen2 : (lengPart b lo v).length ≤ 16 := by
            unfold lengPart
            rw [List.length_map]
            exact rng_filter_le hlo (by omega) _
          rw [← Hm.out] at hor
          have Hstep := Lib.hid (lengPart_step (b := b) hv1)
          obtain ⟨p, hp⟩ : ∃ p : Int, p = ((2 ^ v.toNat : Nat) : Int) := ⟨_, rfl⟩
          rw [← hp] at e1 hor
          have hmp : m < p ↔ lst b < v := by rw [Hm.out, hp, ← htest]; omega
          obtain ⟨m', hm'⟩ : ∃ m' : Int, m' = (mask (b ++ [v]) : Nat) := ⟨_, rfl⟩
          rw [← hm'] at hor
          have Hm' := Lib.hid hm'
          have Hown := Lib.hid hown
          have Hbi := Lib.hid hbi
          have HB := Lib.hid hbi.size
          clear htest hp hm' hown hbi
          by_cases hcmp : lst b < v
          · have hlt2 := hmp.2 hcmp
            have Hcmp := Lib.hid hcmp
            clear hmp hcmp
            obtain ⟨Lc, hLc⟩ : ∃ Lc, Lc = L0 ++ lengPart b lo v := ⟨_, rfl⟩
            have hlen3 : Lc.length ≤ 33554432 := by rw [hLc, List.length_append]; omega
            have Hown' := Lib.hid (show OwnB wr w.heap.size _ Lc by rw [hLc]; exact Hown.out)
            have HLc := Lib.hid hLc
            clear Hown hLc hlen hlen2
            obtain ⟨ao2, co2, hout, hco2, hco3, _⟩ := Hown'.out.read
            subst hout
            go_wp2_with (at_builtin; refine wpList_append_own _ rfl _ _ 59 rfl w.heap.size 61 i0 (.int .u64 0) 1 8 Tryd.underlying59 hi0 hz0 hz1 hz2 rfl (by decide) _ _ _ rfl (World.ownsRow.alloc Hown'.out _) ⟨wr.heap.size, 0, none⟩ 1 1 [.int .u64 m'] rfl rfl (cell_one_new _ _ _) ?q2 ?q3 ?q4 ?q5 ?_)
            case q2 => intro u hu; simp at hu; subst hu; rfl
            case q3 => unfold maxLen; omega
            case q4 => omega
            case q5 => have := HB.out; simp; omega
            intro v' w3 hown' hgrow _
            have hput := Hown'.out.snoc (x := b ++ [v]) HB.out (by unfold sv; rw [← Hm'.out]; exact hown') hgrow
            obtain ⟨ao', co', rfl, _, _, _⟩ := hput.1.read
            have Hput := Lib.hid hput
            clear hput hown' hgrow
            go_wp2
            go_roundw
            case rel => exact ⟨v + 1, by omega, fun _ => by omega, fun h => by omega, by go_num, by rw [Hstep.out, if_pos Hcmp.out, ← List.append_assoc, ← HLc.out]; exact Hput.out.1, Hbi.out.trans Hput.out.2⟩
            case measure => simp [intOf]; omega
          · have hlt2 : ¬ m < p := fun h => hcmp (hmp.1 h)
            have Hcmp := Lib.hid hcmp
            clear hmp hcmp
            go_wp2
            go_roundw
            case rel => exact ⟨v + 1, by omega, fun _ => by omega, fun h => by omega, by go_num, by rw [Hstep.out, if_neg Hcmp.out, List.append_nil]; exact Hown.out, Hbi.out⟩
            case measure => simp [intOf]; omega
        · have Hown := Lib.hid hown
          have Hbi := Lib.hid hbi
          clear hown hbi
          go_wp2
          go_roundw
          case rel =>
            refine ⟨k + 1, by omega, by go_num, ?_, Hbi.out⟩
            rw [Hlt.out, ← HL0.out, ← Hb.out]
            have e : lengPart b lo (hi + 1) = lengPart b lo v := by
              by_cases h : lo ≤ hi
              · rw [show v = hi + 1 from by have := hv2 h; omega]
              · rw [hv3 (by omega), lengPart_start]
                unfold lengPart
                rw [rng_nil (by omega)]; rfl
            rw [e]
            exact Hown.out
          case measure => simp [intOf]; omega
    · obtain rfl : k = bs.length := by omega
      rw [List.take_length] at hown
      go_wp2
      go_ret
      exact ⟨_, rfl, hown, hbr⟩

theorem leng_rise {bs : List (List Int)} {lo hi : Int} (h : ∀ b ∈ bs, Rise b) (hlo : 0 ≤ lo) (hhi : hi ≤ 15) : ∀ b ∈ leng bs lo hi, Rise b := by
  intro b' hb'
  simp only [leng, List.mem_flatMap, List.mem_map, List.mem_filter, decide_eq_true_eq, mem_rng] at hb'
  obtain ⟨b, hb, v, ⟨⟨h1, h2⟩, h3⟩, rfl⟩ := hb'
  have hr := h b hb
  refine ⟨up_join hr.1 trivial (fun x hx y hy => ?_), fun x hx => ?_⟩
  · simp at hy; subst hy
    have := le_lst hr.1 x hx
    omega
  · rcases List.mem_append.1 hx with hx | hx
    · exact hr.2 x hx
    · simp at hx; subst hx; omega
theorem leng_len {bs : List (List Int)} {lo hi : Int} (hlo : 0 ≤ lo) (hhi : hi ≤ 15) : (leng bs lo hi).length ≤ bs.length * 16 := by
  unfold leng
  refine flatMap_le (Nat.le_refl _) (fun b _ => ?_)
  rw [List.length_map]
  exact rng_filter_le hlo hhi _
theorem bfs_step {xs : List Int} {k : Nat} (h0 : 0 < k) (h : k < xs.length) (bs : List (List Int)) : bfs (xs.drop (k - 1)) bs = bfs (xs.drop k) (leng bs (gi xs (k - 1)) (gi xs k)) := by
  rw [List.drop_eq_getElem_cons (by omega : k - 1 < xs.length), show k - 1 + 1 = k from by omega, List.drop_eq_getElem_cons h, bfs, gi_lt h, gi_lt (by omega)]
theorem bfs_last {xs : List Int} (h : 1 ≤ xs.length) (bs : List (List Int)) : bfs (xs.drop (xs.length - 1)) bs = bs := by
  rw [List.drop_eq_getElem_cons (by omega), show xs.length - 1 + 1 = xs.length from by omega, List.drop_length]
  rfl

set_option maxRecDepth 100000 in
set_option maxHeartbeats 1600000 in
theorem setsAbove_any {xs : List Int} (h : Rise xs) (hl : xs.length ≤ 6) (w : World) (hD : Dj w) :
    Calls Tryd.prog 61 #[.int .u64 (mask xs : Nat)] w fun e w' => ∃ v, e = .returned v ∧ OwnB w' w.heap.size v (above xs) ∧ Below w.heap.size w w' := by
  have hrow := row_any h hl w hD
  obtain ⟨m, hm⟩ : ∃ m : Int, m = (mask xs : Nat) := ⟨_, rfl⟩
  rw [← hm] at hrow ⊢
  have Hrow := Lib.hid hrow
  have H := Lib.hid h
  clear hm hD hrow h
  go_enter Tryd.func61, Tryd.ntmps61
  go_wp2_with fail
  refine Hrow.out.mono ?_
  rintro e w1 ⟨v, rfl, hv, hb⟩
  obtain ⟨r, cr, rfl, hcr, hcr2, hx⟩ := hv.read
  have Hx := Lib.hid hx
  have Hb := Lib.hid hb
  have HB := Lib.hid hb.size
  clear hx hb hv
  by_cases h2 : 2 ≤ xs.length
  · have hn2 : ¬ (xs.length : Int) < 2 := by omega
    have one := OwnB.one w1
    have onb : Below w1.heap.size w1 (w1.alloc (.cells #[sv []] 61)) := (Below.refl _ _).alloc (Nat.le_refl _) _
    have One := Lib.hid one
    have Onb := Lib.hid onb
    clear one onb
    go_wp2
    go_loopw [4, 5] (fun sets i wr => ∃ (k : Nat) (bs : List (List Int)), k + 1 ≤ xs.length ∧ i = .int .i64 ((k : Int) + 1) ∧ OwnB wr w1.heap.size sets bs ∧ bfs (xs.drop k) bs = above xs ∧ (∀ b ∈ bs, Rise b) ∧ bs.length ≤ 16 ^ k ∧ Below w1.heap.size w1 wr) (fun _ i _ => xs.length - (intOf i).toNat)
    case atStart => exact ⟨0, [[]], by omega, rfl, One.out, bfs_above h2, fun b hb => by simp at hb; subst hb; exact ⟨trivial, fun x hx => by cases hx⟩, by simp, Onb.out⟩
    case round =>
      obtain ⟨k, bs, hk, rfl, hown, hbfs, hrise, hlen, hbr⟩ := hrel
      clear One Onb
      have Hbr := Lib.hid hbr
      have HBr := Lib.hid hbr.size
      by_cases hlt : k + 1 < xs.length
      · have hx' := Hx.out.below hbr
        obtain ⟨b0, o0, e0, hc0⟩ := hx' (k + 1) hlt
        obtain ⟨b0', o0', e0', hc1⟩ := hx' k (by omega)
        rw [e0] at e0'
        cases e0'
        have g1 := H.out.2 _ (gi_mem hlt)
        have g0 := H.out.2 _ (gi_mem (show k < xs.length by omega))
        have hpow : 16 ^ k ≤ 16 ^ 4 := Nat.pow_le_pow_right (by omega) (by omega)
        have hpow2 : 16 ^ (k + 1) = 16 ^ k * 16 := Nat.pow_succ _ _
        have hll := leng_len (bs := bs) g0.1 g1.2
        have Hlen2 := Lib.hid (show (leng bs (gi xs k) (gi xs (k + 1))).length ≤ 16 ^ (k + 1) by rw [hpow2]; exact Nat.le_trans hll (Nat.mul_le_mul_right _ hlen))
        have Hrise2 := Lib.hid (leng_rise hrise g0.1 g1.2)
        have Hbfs := Lib.hid (show bfs (xs.drop (k + 1)) (leng bs (gi xs k) (gi xs (k + 1))) = above xs by have := bfs_step (k := k + 1) (by omega) hlt bs; rw [show k + 1 - 1 = k from rfl] at this; rw [← this]; exact hbfs)
        obtain ⟨sa, sc, rfl, _, _, hsr⟩ := hown.read
        have hcall : ∀ w', Below wr.heap.size wr w' → Calls Tryd.prog 94 #[.slice sa bs.length sc, .int .i64 (gi xs k), .int .i64 (gi xs (k + 1))] w' fun e w'' => ∃ v, e = .returned v ∧ OwnB w'' w'.heap.size v (leng bs (gi xs k) (gi xs (k + 1))) ∧ Below w'.heap.size w' w'' :=
          fun w' hw' => lengthened_any sa sc bs _ _ w' (by omega) hrise g0.1 g0.2 g1.2 (hsr.below hw')
        obtain ⟨y, hy⟩ : ∃ y, y = gi xs k := ⟨_, rfl⟩
        obtain ⟨z, hz⟩ : ∃ z, z = gi xs (k + 1) := ⟨_, rfl⟩
        rw [← hy] at hc1
        rw [← hz] at hc0
        rw [← hy, ← hz] at hcall
        have Hy := Lib.hid hy
        have Hz := Lib.hid hz
        have Hcall := Lib.hid hcall
        have hk2 : (k : Int) < (xs.length : Int) := by omega
        have hk3 : (k : Int) + 1 < (xs.length : Int) := by omega
        have hk4 : k < xs.length := by omega
        have hwk : IntKind.i64.wrap (k : Int) = (k : Int) := i64_small (by omega) (by omega)
        subst e0
        clear hx' g1 g0 hpow hpow2 hll hown hbfs hrise hlen hsr hcall hy hz hbr
        go_wp2
        go_region_with (go_at_call 94; refine (Hcall.out _ ?_).mono ?_; exact below_drewN (Below.refl _ _) 1; rintro e w2 ⟨v, rfl, hv, hb2⟩)
        all_goals
          obtain ⟨va, vc, hvv, _, _, _⟩ := hv.read
          rw [Hy.out, Hz.out] at hv
          have Hv := Lib.hid hv
          obtain ⟨nv, hnv⟩ : ∃ nv, nv = (leng bs y z).length := ⟨_, rfl⟩
          rw [← hnv] at hvv
          subst hvv
          have Hb2 := Lib.hid hb2
          clear hv hb2 hnv
          go_wp2
          go_roundw
          case rel =>
            have hb3 : Below wr.heap.size wr w2 := (below_drewN (Below.refl _ _) 1).trans Hb2.out
            exact ⟨k + 1, _, by omega, by go_num, Hv.out.base HBr.out, Hbfs.out, Hrise2.out, Hlen2.out, Hbr.out.trans (hb3.mono HBr.out)⟩
          case measure => simp [intOf]; omega
      · obtain rfl : k = xs.length - 1 := by omega
        rw [bfs_last (by omega)] at hbfs
        subst hbfs
        go_wp2
        go_ret
        exact ⟨_, rfl, hown.base HB.out, Hb.out.trans (hbr.mono HB.out)⟩
  · have hn2 : (xs.length : Int) < 2 := by omega
    go_wp2
    go_ret
    rw [above_one (by omega)]
    exact ⟨_, rfl, OwnB.nil _ _, Hb.out⟩
end Go.Proofs.YtmkldodkpijfjaaDoor

