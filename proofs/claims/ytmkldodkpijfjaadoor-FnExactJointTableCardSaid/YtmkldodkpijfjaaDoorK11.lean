/- Parts of proofs: contracts and plain facts. Conditions: as each says. -/
import Derived.Test.YtmkldodkpijfjaaDoorK10
import Derived.Deep.RegionWith
import Derived.Laws.BitsAllLaws
namespace Go.Proofs.YtmkldodkpijfjaaDoor
open Go.RowKit

set_option maxRecDepth 100000 in
set_option maxHeartbeats 1600000 in
theorem weAll_any (n : Nat) (w : World) (h1 : 1 ≤ n) (h4 : n ≤ 4) :
    Calls Tryd.prog 36 #[.int .i64 (n : Int)] w fun e w' => ∃ v vs, e = .returned v ∧ OwnRL w' w.heap.size v (allW n) vs ∧ Below w.heap.size w w' := by
  obtain ⟨i0, hi, hz0, hz1, hz2⟩ := info_parts Tryd.info_int
  have hrep : ∀ j, j < (List.replicate n (0 : Int)).length → gi (List.replicate n (0 : Int)) j = 0 := fun j hj => by rw [gi_lt hj]; simp
  have Hrep := Lib.hid hrep
  clear hrep
  go_enter Tryd.func36, Tryd.ntmps36
  go_wp2_with (at_make; refine wpList_make_full _ rfl _ _ 22 rfl w.heap.size 3 i0 (.int .i64 0) 1 Tryd.underlying22 hi hz0 hz1 _ _ _ _ n rfl rfl rfl rfl ?c1 ?c2 ?c3 ?_)
  case c1 => rw [hz2]; omega
  case c2 => unfold maxLen; omega
  case c3 => simp
  intro w1 hown hg
  have hb1 : Below w.heap.size w w1 := (Below.refl _ _).grown hg (Nat.le_refl _) (fun _ h => by cases h)
  have hown1 := OwnI.made hown
  have C := Lib.hid (weGoOn_any n (by omega) n [] (List.replicate n 0) none (some ⟨w.heap.size, 0, none⟩) 0 n w.heap.size [] w1 (by simp) (fun j hj => by rw [Hrep.out j hj]; omega) (by simp) hb1.size (OwnR.nil _ _) (by simpa using hown1))
  rw [List.length_replicate, List.length_nil] at C
  have Hb1 := Lib.hid hb1
  clear hown hg hb1 hown1
  go_wp2_with fail
  refine C.out.mono ?_
  rintro e w2 ⟨v, vs, rfl, hv, _, hb⟩
  have Hv := Lib.hid hv
  have Hb := Lib.hid (Hb1.out.trans (hb.mono Hb1.out.size))
  obtain ⟨va, vc, rfl, _, _⟩ := hv.head
  clear hv hb
  go_wp2
  go_ret
  exact ⟨_, vs, rfl, Hv.out, Hb.out⟩

set_option maxRecDepth 100000 in
set_option maxHeartbeats 1600000 in
theorem weAdd_any (ao : Option Addr) (c : Nat) (L : List Int) (k : Nat) (w : World) (hl : L.length ≤ 100) (hb : ∀ j, 0 ≤ gi L j ∧ gi L j ≤ 100) (hk : k < 100) (hc0 : ao = none → c = 0) (hx : IntsAt w ao L) :
    Calls Tryd.prog 37 #[.slice ao L.length c, .int .i64 (k : Int)] w fun e w' => ∃ v, e = .returned v ∧ OwnI w' w.heap.size v (addAt L k) ∧ Below w.heap.size w w' := by
  obtain ⟨i0, hi, hz0, hz1, hz2⟩ := info_parts Tryd.info_int
  have C := Lib.hid (l1Own_any ao c L w (by omega) hc0 hx)
  have HL := Lib.hid hl
  have hbk := hb k
  clear hx hb
  go_enter Tryd.func37, Tryd.ntmps37
  go_wp2_with fail
  refine C.out.mono ?_
  rintro e w2 ⟨v, rfl, hv, hb2⟩
  rw [← padTo_zero L] at hv
  have Hv := Lib.hid hv
  have Hb2 := Lib.hid hb2
  clear hv hb2 C hl
  go_wp2
  go_loopw [5] (fun out wr => ∃ t : Nat, L.length + t ≤ max L.length (k + 1) ∧ OwnI wr w.heap.size out (padTo L t) ∧ Below w.heap.size w wr) (fun out _ => k + 1 - slLen out)
  case atStart => exact ⟨0, by omega, Hv.out, Hb2.out⟩
  case round =>
    obtain ⟨t, ht, hown, hbr⟩ := hrel
    obtain ⟨oa, oc, hoo, ho1, ho2, _⟩ := hown.read
    rw [padTo_len] at hoo ho1
    have Hown := Lib.hid hown
    have Hbr := Lib.hid hbr
    have HB := Lib.hid hbr.size
    obtain ⟨q, hq⟩ : ∃ q, q = L.length + t := ⟨_, rfl⟩
    rw [← hq] at hoo ho1
    have Hq := Lib.hid hq
    have hqb : q ≤ 200 := by have := HL.out; omega
    have Hqk := Lib.hid (show q ≤ max L.length (k + 1) by omega)
    subst hoo
    clear Hv Hb2 hown hbr hq ht
    by_cases hlt : q ≤ k
    · have hd : decide ((q : Int) ≤ (k : Int)) = true := by simp; omega
      go_wp2_with (at_builtin; refine wpList_append_own _ rfl _ _ 22 rfl w.heap.size 3 i0 (.int .i64 0) 1 8 Tryd.underlying22 hi hz0 hz1 hz2 rfl (by decide) _ q _ rfl (by have := World.ownsRow.alloc Hown.out (.cells #[.int .i64 0] 3); rw [padTo_len, ← Hq.out] at this; exact this) ⟨wr.heap.size, 0, none⟩ 1 1 [.int .i64 0] rfl rfl ?e1 ?e2 ?e3 ?e4 ?e5 ?_)
      case e1 => exact cell_one_new _ _ _
      case e2 => intro u hu; simp at hu; subst hu; rfl
      case e3 => unfold maxLen; omega
      case e4 => omega
      case e5 => have := HB.out; simp; omega
      intro v' w3 hown' hgrow _
      rw [show q + 1 = (padTo L t).length + 1 by rw [padTo_len, Hq.out]] at hown'
      have hput := Hown.out.snoc HB.out hown' hgrow
      rw [← padTo_succ] at hput
      obtain ⟨pa, pc, hpp, _, _, _⟩ := hput.1.read
      have hlen : slLen v' = q + 1 := by rw [hpp]; show (padTo L (t + 1)).length = q + 1; rw [padTo_len, Hq.out]; omega
      have Hput := Lib.hid hput.1
      have Hb3 := Lib.hid (Hbr.out.trans hput.2)
      have Hlen := Lib.hid hlen
      clear hown' hgrow hput hpp hlen ho1 ho2
      go_wp2
      go_roundw
      case rel => exact ⟨t + 1, by have := Hq.out; omega, Hput.out, Hb3.out⟩
      case measure =>
        show k + 1 - slLen v' < k + 1 - q
        rw [Hlen.out]
        omega
    · have hd : decide ((q : Int) ≤ (k : Int)) = false := by simp; omega
      have hkq : k < q := by omega
      have hw := Hown.out
      obtain ⟨g, rfl, hg1, hg2⟩ := hw.isAt (by omega)
      have hcell := hw.cellAt k hkq
      rw [gi_padTo] at hcell
      have hfr := hw.frozenAt k
      have hst := hw.store k (gi L k + 1)
      rw [addAt_of (by have := Hq.out; have := Hqk.out; omega)] at hst
      have Hbs := Lib.hid (Hbr.out.setCell (p := ⟨g, k, none⟩) hg1 (.int .i64 (gi L k + 1)))
      obtain ⟨x, hx⟩ : ∃ x, x = gi L k := ⟨_, rfl⟩
      rw [← hx] at hcell hst Hbs hbk
      have Hst := Lib.hid hst
      clear hw hst hx hlt ho1 ho2
      go_wp2
      go_ret
      exact ⟨_, rfl, Hst.out, Hbs.out⟩

set_option maxRecDepth 100000 in
set_option maxHeartbeats 1600000 in
theorem weInversions_any (ao : Option Addr) (cp : Nat) (m : List (List Int)) (w : World) (hg : good m) (hm : MatAt w ao m) :
    Calls Tryd.prog 41 #[.slice ao m.length cp] w fun e w' => e = .returned (.int .i64 (invW m)) ∧ Below w.heap.size w w' := by
  have Hg := Lib.hid hg
  have Hm := Lib.hid hm
  have b0 := cntK_bd (m := m) 0 hg.1.2.1
  have b5 := cntK_bd (m := m) 5 hg.1.2.1
  have HV := Lib.hid (show invW m = cntK m 0 + cntK m 5 from rfl)
  clear hg hm
  go_enter Tryd.func41, Tryd.ntmps41
  go_wp2_with fail
  refine (weCounts_any ao cp m w Hg.out Hm.out).mono ?_
  rintro e w2 ⟨v, rfl, hv, hb⟩
  have hvl : ∃ g cc, v = .slice (some ⟨g, 0, none⟩) 6 cc := by
    obtain ⟨va, vc, e, _, _, _⟩ := hv.read
    rw [cntL_len] at e
    subst e
    obtain ⟨g, rfl, _⟩ := hv.isAt (by omega)
    exact ⟨g, vc, rfl⟩
  obtain ⟨g, cc, rfl⟩ := hvl
  have c0 := hv.cellAt 0 (by omega)
  have c5 := hv.cellAt 5 (by omega)
  rw [show gi (cntL (cntK m)) 0 = cntK m 0 from rfl] at c0
  rw [show gi (cntL (cntK m)) 5 = cntK m 5 from rfl] at c5
  obtain ⟨x, hx⟩ : ∃ x, x = cntK m 0 := ⟨_, rfl⟩
  obtain ⟨y, hy⟩ : ∃ y, y = cntK m 5 := ⟨_, rfl⟩
  rw [← hx] at c0 b0 HV
  rw [← hy] at c5 b5 HV
  have Hb := Lib.hid hb
  clear hv hb hx hy
  go_wp2
  go_quiet (fail)
  go_wp2
  go_ret
  exact ⟨by rw [HV.out]; rfl, below_drewN Hb.out _⟩

set_option maxRecDepth 100000 in
set_option maxHeartbeats 3200000 in
theorem specMinusTable_any (n : Int) (w : World) (_ : -9223372036854775808 ≤ n ∧ n ≤ 9223372036854775807) :
    Calls Tryd.prog 10 #[.int .i64 n] w fun e w' => LRes (1 ≤ n ∧ n ≤ 4) (tabW fMin (allW n.toNat)) w' w.heap.size e ∧ Below w.heap.size w w' := by
  by_cases h : 1 ≤ n ∧ n ≤ 4
  · obtain ⟨N, rfl⟩ : ∃ N : Nat, n = (N : Int) := ⟨n.toNat, by omega⟩
    have hN1 : 1 ≤ N := by omega
    have hN4 : N ≤ 4 := by omega
    rw [Int.toNat_natCast]
    go_enter Tryd.func10, Tryd.ntmps10
    go_wp2_with fail
    refine (weSide_any (N : Int) w).mono ?_
    rintro e w1 ⟨ha, rfl⟩
    obtain rfl := ha.is h
    clear ha h
    go_wp2_with fail
    refine (weAll_any N w hN1 hN4).mono ?_
    rintro e w2 ⟨v, vs, rfl, hv, hb⟩
    obtain ⟨ta, tc, rfl, ht1, ht2⟩ := hv.head
    have hlen := allW_len N (by omega)
    have Hok := Lib.hid (tab_ok N (by omega))
    have Hf := Lib.hid (f_ok N (by omega))
    have Hgd := Lib.hid (fun k (hk : k < (allW N).length) => (allW_good N (by omega) _ (gt_mem hk)).resolve_left (by omega))
    obtain ⟨A, hA⟩ : ∃ A, A = allW N := ⟨_, rfl⟩
    rw [← hA] at hv hlen Hok Hf Hgd ht1 ⊢
    have Hv := Lib.hid hv
    have Hb := Lib.hid hb
    have HB := Lib.hid hb.size
    have HA := Lib.hid hA
    clear hv hb hA
    go_wp2
    go_loopw [4, 13] (fun out i wr => ∃ k : Nat, k ≤ A.length ∧ i = .int .i64 k ∧ OwnI wr w.heap.size out (tabW fMin (A.take k)) ∧ Below w2.heap.size w2 wr) (fun _ i _ => A.length - (intOf i).toNat)
    case atStart => exact ⟨0, Nat.zero_le _, rfl, OwnI.nil _ _, Below.refl _ _⟩
    case round =>
      obtain ⟨k, hk, rfl, hown, hbr⟩ := hrel
      have Hown := Lib.hid hown
      have Hbr := Lib.hid hbr
      have HBr := Lib.hid hbr.size
      clear hown hbr
      by_cases hlt : k < A.length
      · obtain ⟨b1, o1, r1, d1, e1, hc1, hm1, _, _⟩ := (Hv.out.below Hbr.out).at hlt
        obtain ⟨hml, hmg⟩ := Hgd.out k hlt
        obtain ⟨hfe, hfl⟩ := (Hf.out (gt A k) (gt_mem hlt)).1
        have hstep : tabW fMin (A.take (k + 1)) = addAt (tabW fMin (A.take k)) (fMin (gt A k)) := tabW_step _ A hlt
        have hokL := okA_at (Hok.out k (by omega)).1
        obtain ⟨oa, oc, hoo, ho1, ho2, hox⟩ := Hown.out.read
        have hnc : oa = none → oc = 0 := by have := Hown.out; rw [hoo] at this; exact this.none_cap
        have C1 := Lib.hid (fun wx (hx : Below wr.heap.size wr wx) => (fun r d m w h hm => sgMinus_any r d m w h hm) r1 d1 (gt A k) wx hmg.1 (hm1.below hx))
        obtain ⟨L, hL⟩ : ∃ L, L = tabW fMin (A.take k) := ⟨_, rfl⟩
        obtain ⟨f, hf⟩ : ∃ f, f = fMin (gt A k) := ⟨_, rfl⟩
        rw [← hL] at hstep hokL hoo ho1 hox
        rw [← hf] at hstep hfe hfl
        have C2 := Lib.hid (fun wx (hx : Below wr.heap.size wr wx) => weAdd_any oa oc L f wx hokL.1 hokL.2 hfl hnc (hox.below hx))
        rw [hfe] at C1
        rw [hml] at hc1 C1
        subst e1
        have Hstep := Lib.hid hstep
        obtain ⟨l, hl⟩ : ∃ l, l = L.length := ⟨_, rfl⟩
        rw [← hl] at hoo C2
        subst hoo
        clear hml hmg hfe hstep hokL ho1 ho2 hox hnc hm1 hL hf hl hfl
        go_wp2_with fail
        refine (C1.out wr (Below.refl _ _)).mono ?_
        rintro e w3 ⟨rfl, rfl⟩
        have hx1 : Below wr.heap.size wr wr := Below.refl _ _
        go_wp2_with fail
        refine (C2.out _ hx1).mono ?_
        rintro e w4 ⟨v4, rfl, hv4, hb4⟩
        have Hv4 := Lib.hid (hv4.base (Nat.le_trans HB.out (Nat.le_trans HBr.out hx1.size)))
        have Hb4 := Lib.hid (Hbr.out.trans ((hx1.trans (hb4.mono hx1.size)).mono HBr.out))
        clear hv4 hb4 hx1 C1 C2
        go_wp2
        go_roundw
        case rel => exact ⟨k + 1, by omega, by go_num, by rw [Hstep.out]; exact Hv4.out, Hb4.out⟩
        case measure => simp [intOf]; omega
      · obtain rfl : k = A.length := by omega
        have Hfin := Lib.hid (show OwnI wr w.heap.size _ (tabW fMin A) by have := Hown.out; rw [List.take_length] at this; exact this)
        have Hfb := Lib.hid (Hb.out.trans (Hbr.out.mono HB.out))
        go_wp2
        go_ret2
        exact ⟨LRes.yes ⟨by omega, by omega⟩ (by rw [← HA.out]; exact Hfin.out), Hfb.out⟩
  · have H := Lib.hid h
    clear h
    go_enter Tryd.func10, Tryd.ntmps10
    go_wp2_with fail
    refine (weSide_any n w).mono ?_
    rintro e w1 ⟨ha, rfl⟩
    obtain rfl := ha.isnt H.out
    clear ha
    go_wp2
    go_ret2
    exact ⟨LRes.no H.out, Below.refl _ _⟩

set_option maxRecDepth 100000 in
set_option maxHeartbeats 3200000 in
theorem specInversionTable_any (n : Int) (w : World) (_ : -9223372036854775808 ≤ n ∧ n ≤ 9223372036854775807) :
    Calls Tryd.prog 15 #[.int .i64 n] w fun e w' => LRes (1 ≤ n ∧ n ≤ 4) (tabW fInv (allW n.toNat)) w' w.heap.size e ∧ Below w.heap.size w w' := by
  by_cases h : 1 ≤ n ∧ n ≤ 4
  · obtain ⟨N, rfl⟩ : ∃ N : Nat, n = (N : Int) := ⟨n.toNat, by omega⟩
    have hN1 : 1 ≤ N := by omega
    have hN4 : N ≤ 4 := by omega
    rw [Int.toNat_natCast]
    go_enter Tryd.func15, Tryd.ntmps15
    go_wp2_with fail
    refine (weSide_any (N : Int) w).mono ?_
    rintro e w1 ⟨ha, rfl⟩
    obtain rfl := ha.is h
    clear ha h
    go_wp2_with fail
    refine (weAll_any N w hN1 hN4).mono ?_
    rintro e w2 ⟨v, vs, rfl, hv, hb⟩
    obtain ⟨ta, tc, rfl, ht1, ht2⟩ := hv.head
    have hlen := allW_len N (by omega)
    have Hok := Lib.hid (tab_ok N (by omega))
    have Hf := Lib.hid (f_ok N (by omega))
    have Hgd := Lib.hid (fun k (hk : k < (allW N).length) => (allW_good N (by omega) _ (gt_mem hk)).resolve_left (by omega))
    obtain ⟨A, hA⟩ : ∃ A, A = allW N := ⟨_, rfl⟩
    rw [← hA] at hv hlen Hok Hf Hgd ht1 ⊢
    have Hv := Lib.hid hv
    have Hb := Lib.hid hb
    have HB := Lib.hid hb.size
    have HA := Lib.hid hA
    clear hv hb hA
    go_wp2
    go_loopw [4, 13] (fun out i wr => ∃ k : Nat, k ≤ A.length ∧ i = .int .i64 k ∧ OwnI wr w.heap.size out (tabW fInv (A.take k)) ∧ Below w2.heap.size w2 wr) (fun _ i _ => A.length - (intOf i).toNat)
    case atStart => exact ⟨0, Nat.zero_le _, rfl, OwnI.nil _ _, Below.refl _ _⟩
    case round =>
      obtain ⟨k, hk, rfl, hown, hbr⟩ := hrel
      have Hown := Lib.hid hown
      have Hbr := Lib.hid hbr
      have HBr := Lib.hid hbr.size
      clear hown hbr
      by_cases hlt : k < A.length
      · obtain ⟨b1, o1, r1, d1, e1, hc1, hm1, _, _⟩ := (Hv.out.below Hbr.out).at hlt
        obtain ⟨hml, hmg⟩ := Hgd.out k hlt
        obtain ⟨hfe, hfl⟩ := (Hf.out (gt A k) (gt_mem hlt)).2
        have hstep : tabW fInv (A.take (k + 1)) = addAt (tabW fInv (A.take k)) (fInv (gt A k)) := tabW_step _ A hlt
        have hokL := okA_at (Hok.out k (by omega)).2
        obtain ⟨oa, oc, hoo, ho1, ho2, hox⟩ := Hown.out.read
        have hnc : oa = none → oc = 0 := by have := Hown.out; rw [hoo] at this; exact this.none_cap
        have C1 := Lib.hid (fun wx (hx : Below wr.heap.size wr wx) => (fun r d m w h hm => weInversions_any r d m w h hm) r1 d1 (gt A k) wx hmg (hm1.below hx))
        obtain ⟨L, hL⟩ : ∃ L, L = tabW fInv (A.take k) := ⟨_, rfl⟩
        obtain ⟨f, hf⟩ : ∃ f, f = fInv (gt A k) := ⟨_, rfl⟩
        rw [← hL] at hstep hokL hoo ho1 hox
        rw [← hf] at hstep hfe hfl
        have C2 := Lib.hid (fun wx (hx : Below wr.heap.size wr wx) => weAdd_any oa oc L f wx hokL.1 hokL.2 hfl hnc (hox.below hx))
        rw [hfe] at C1
        rw [hml] at hc1 C1
        subst e1
        have Hstep := Lib.hid hstep
        obtain ⟨l, hl⟩ : ∃ l, l = L.length := ⟨_, rfl⟩
        rw [← hl] at hoo C2
        subst hoo
        clear hml hmg hfe hstep hokL ho1 ho2 hox hnc hm1 hL hf hl hfl
        go_wp2_with fail
        refine (C1.out wr (Below.refl _ _)).mono ?_
        rintro e w3 ⟨rfl, hx1⟩
        go_wp2_with fail
        refine (C2.out _ hx1).mono ?_
        rintro e w4 ⟨v4, rfl, hv4, hb4⟩
        have Hv4 := Lib.hid (hv4.base (Nat.le_trans HB.out (Nat.le_trans HBr.out hx1.size)))
        have Hb4 := Lib.hid (Hbr.out.trans ((hx1.trans (hb4.mono hx1.size)).mono HBr.out))
        clear hv4 hb4 hx1 C1 C2
        go_wp2
        go_roundw
        case rel => exact ⟨k + 1, by omega, by go_num, by rw [Hstep.out]; exact Hv4.out, Hb4.out⟩
        case measure => simp [intOf]; omega
      · obtain rfl : k = A.length := by omega
        have Hfin := Lib.hid (show OwnI wr w.heap.size _ (tabW fInv A) by have := Hown.out; rw [List.take_length] at this; exact this)
        have Hfb := Lib.hid (Hb.out.trans (Hbr.out.mono HB.out))
        go_wp2
        go_ret2
        exact ⟨LRes.yes ⟨by omega, by omega⟩ (by rw [← HA.out]; exact Hfin.out), Hfb.out⟩
  · have H := Lib.hid h
    clear h
    go_enter Tryd.func15, Tryd.ntmps15
    go_wp2_with fail
    refine (weSide_any n w).mono ?_
    rintro e w1 ⟨ha, rfl⟩
    obtain rfl := ha.isnt H.out
    clear ha
    go_wp2
    go_ret2
    exact ⟨LRes.no H.out, Below.refl _ _⟩
end Go.Proofs.YtmkldodkpijfjaaDoor

namespace Go.Proofs.YtmkldodkpijfjaaDoor
open Go.RowKit

theorem OwnP.headAt {w : World} {B n k : Nat} {v : Value} {m : List (List Int)} {vs : List Value} (h : OwnP w B v n m k vs) (hn : 1 ≤ n) : ∃ g c, v = .slice (some ⟨g, 0, none⟩) n c ∧ B ≤ g ∧ g < w.heap.size := by
  rcases h.top.2 with ⟨h0, h1⟩ | ⟨g, cap, cur, hv, hg, hh, _⟩
  · omega
  · exact ⟨g, cap, hv, hg, lt_of_block hh⟩
theorem j_num : ∀ n : Nat, n < 5 → n = 0 ∨ ((n : Int) * ((n : Int) - 1) = ((n * (n - 1) : Nat) : Int) ∧ Int.tdiv ((n * (n - 1) : Nat) : Int) 2 = ((n * (n - 1) / 2 : Nat) : Int) ∧ n * (n - 1) ≤ 100) := by decide +kernel

set_option maxRecDepth 100000 in
set_option maxHeartbeats 3200000 in
theorem specJointTable_any (n : Int) (w : World) (hz : -9223372036854775808 ≤ n ∧ n ≤ 9223372036854775807) :
    Calls Tryd.prog 17 #[.int .i64 n] w fun e w' => MRes (1 ≤ n ∧ n ≤ 4) (joint n.toNat) w' w.heap.size e ∧ Below w.heap.size w w' := by
  by_cases h : 1 ≤ n ∧ n ≤ 4
  · obtain ⟨N, rfl⟩ : ∃ N : Nat, n = (N : Int) := ⟨n.toNat, by omega⟩
    have hN1 : 1 ≤ N := by omega
    have hN4 : N ≤ 4 := by omega
    obtain ⟨i0, hi, hz0, hz1, hz2⟩ := info_parts Tryd.info_int
    obtain ⟨j0, hj, hy0, hy1, hy2⟩ := info_parts Tryd.info_ints
    have HJ := Lib.hid (j_ok N (by omega))
    have HF := Lib.hid (f_ok N (by omega))
    obtain ⟨hs1, hs2, hs3, hs4⟩ := (j_size N (by omega)).resolve_left (by omega)
    obtain ⟨hn1, hn2, hn3⟩ := (j_num N (by omega)).resolve_left (by omega)
    have HC := Lib.hid (show (tabW fMin (allW N)).length = jC N from rfl)
    have HZ := Lib.hid hz
    obtain ⟨P, hP⟩ : ∃ P, P = N * (N - 1) := ⟨_, rfl⟩
    obtain ⟨Q, hQ⟩ : ∃ Q, Q = N * (N - 1) / 2 := ⟨_, rfl⟩
    rw [← hP] at hn1 hn2 hn3
    rw [hP, ← hQ, ← hP] at hn2
    rw [← hQ] at hs1
    have Hn := Lib.hid (And.intro hn1 hn2)
    rw [Int.toNat_natCast]
    clear hz hP hQ hn1 hn2
    go_enter Tryd.func17, Tryd.ntmps17
    go_wp2_with fail
    refine (weSide_any (N : Int) w).mono ?_
    rintro e w1 ⟨ha, rfl⟩
    obtain rfl := ha.is h
    have C2 := Lib.hid (specMinusTable_any (N : Int) w HZ.out)
    rw [Int.toNat_natCast] at C2
    clear ha h
    go_wp2_with fail
    refine C2.out.mono ?_
    rintro e w2 ⟨⟨v2, b2, r2, rfl, hv2, hr2⟩, hb2⟩
    have hr3 : b2 = true ∧ r2 = tabW fMin (allW N) := by
      rcases hr2 with ⟨_, h2, h3⟩ | ⟨h1, _, _⟩
      · exact ⟨h2, h3⟩
      · exact absurd ⟨by omega, by omega⟩ h1
    obtain ⟨rfl, rfl⟩ := hr3
    obtain ⟨ua, uc, huu, _, _, _⟩ := hv2.read
    rw [HC.out] at huu
    subst huu
    have Hb2 := Lib.hid hb2
    have HB2 := Lib.hid hb2.size
    obtain ⟨R, hR⟩ : ∃ R, R = jR N := ⟨_, rfl⟩
    obtain ⟨C, hC⟩ : ∃ C, C = jC N := ⟨_, rfl⟩
    have Hjt := Lib.hid (show joint N = tab R C (jF (allW N) (allW N).length) by rw [hR, hC]; rfl)
    rw [← hR] at hs1 hs2 HJ
    rw [← hC] at hs3 hs4 HJ ⊢
    clear hv2 hr2 hb2 C2 hR hC HC
    go_wp2
    go_loopw [6, 7] (fun out i wr => ∃ (k : Nat) (vs : List Value), k ≤ R ∧ i = .int .i64 k ∧ OwnP wr w.heap.size out k (tab R C fun _ _ => 0) k vs ∧ Below w.heap.size w wr) (fun _ i _ => R - (intOf i).toNat)
    case atStart => exact ⟨0, [], Nat.zero_le _, rfl, ⟨World.ownsRow_nil _ _ _ _, fun i hi => absurd hi (by omega), fun i j _ hj => absurd hj (by omega)⟩, Hb2.out⟩
    case round =>
      obtain ⟨k, vs, hk, rfl, hout, hbr⟩ := hrel
      have hn1 := Hn.out.1
      have hn2 := Hn.out.2
      have HBr := Lib.hid hbr.size
      have Hout := Lib.hid hout
      have Hbr := Lib.hid hbr
      clear hout hbr
      by_cases hlt : k < R
      · have hd : decide ((k : Int) ≤ (Q : Int)) = true := by simp; omega
        go_wp2_with (at_make; refine wpList_make_full _ rfl _ _ 22 rfl wr.heap.size 3 i0 (.int .i64 0) 1 Tryd.underlying22 hi hz0 hz1 _ _ _ _ C rfl rfl rfl rfl ?d1 ?d2 ?d3 ?_)
        case d1 => rw [hz2]; omega
        case d2 => unfold maxLen; omega
        case d3 => simp
        intro w2 hown2 hg2
        have hb2 : Below wr.heap.size wr w2 := (Below.refl _ _).grown hg2 (Nat.le_refl _) (fun _ h => by cases h)
        have hrow := OwnI.made hown2
        have hB2 := hb2.size
        have e1 : gr (tab R C fun _ _ => (0 : Int)) k = List.replicate C 0 := zero_row hlt
        have Hout2 := Lib.hid (Hout.out.below hb2)
        have hrow2 : OwnI w2 w.heap.size (.slice (some ⟨wr.heap.size, 0, none⟩) C C) (gr (tab R C fun _ _ => (0 : Int)) k) := by rw [e1]; exact hrow.base HBr.out
        have Hrow := Lib.hid hrow2
        have hfr := Lib.hid (Hout.out.fresh hrow (Nat.le_refl _))
        have Hb3 := Lib.hid (Hbr.out.trans (hb2.mono HBr.out))
        have hbase := HBr.out
        clear hown2 hg2 hb2 hrow e1 hrow2
        go_wp2_with (at_builtin; refine wpList_append_own _ rfl _ _ 28 rfl w.heap.size 22 j0 (.slice none 0 0) 1 24 Tryd.underlying28 hj hy0 hy1 hy2 rfl (by decide) _ _ _ rfl (World.ownsRow.alloc Hout2.out.top _) ⟨w2.heap.size, 0, none⟩ 1 1 [.slice (some ⟨wr.heap.size, 0, none⟩) C C] rfl rfl ?e1 ?e2 ?e3 ?e4 ?e5 ?_)
        case e1 => exact cell_one_new _ _ _
        case e2 => intro u hu; simp at hu; subst hu; rfl
        case e3 => unfold maxLen; omega
        case e4 => omega
        case e5 => simp; omega
        intro v' w3 hown' hgrow _
        have hput := Hout2.out.snoc (show w.heap.size ≤ w2.heap.size by omega) Hrow.out hfr.out hown' hgrow
        have Hput := Lib.hid hput
        clear hput hown' hgrow hn1 hn2
        go_wp2
        go_roundw
        case rel => exact ⟨k + 1, _, by omega, by go_num, Hput.out.1, Hb3.out.trans Hput.out.2⟩
        case measure => simp [intOf]; omega
      · obtain rfl : k = R := by omega
        have hd : decide ((k : Int) ≤ (Q : Int)) = false := by simp; omega
        have CA := Lib.hid (weAll_any N wr hN1 hN4)
        have hlen := allW_len N (by omega)
        have HA := Lib.hid (fun m hm => (allW_good N (by omega) m hm).resolve_left (by omega))
        obtain ⟨A, hA⟩ : ∃ A, A = allW N := ⟨_, rfl⟩
        rw [← hA] at CA hlen HA HJ HF Hjt
        obtain ⟨go, gc, rfl, hgo, hgo2⟩ := Hout.out.headAt (by omega)
        have Hgo := Lib.hid (And.intro hgo hgo2)
        clear hA hgo hgo2
        go_wp2_with fail
        refine CA.out.mono ?_
        rintro e w4 ⟨v4, ts, rfl, hv4, hb4⟩
        obtain ⟨ta, tc, rfl, ht1, ht2⟩ := hv4.head
        have Hr0 := Lib.hid (show ∀ i, i < k → ∀ g, (vs.getD i undef).ownBlock = some g → g < wr.heap.size from fun i hi g hg2 => ((Hout.out.rows i hi).lt g hg2).2)
        have Hv4 := Lib.hid hv4
        have Ht := Lib.hid (Hout.out.below hb4)
        have Hb4 := Lib.hid (Hbr.out.trans (hb4.mono HBr.out))
        clear hv4 hb4 CA Hout hn1 hn2 hd
        go_wp2
        go_loopw [36] (fun i wq => ∃ (t : Nat) (f : Nat → Nat → Int), t ≤ A.length ∧ i = .int .i64 t ∧ OwnP wq w.heap.size (.slice (some ⟨go, 0, none⟩) k gc) k (tab k C f) k vs ∧ (∀ p q, p < k → q < C → f p q = jF A t p q) ∧ OwnRL wq wr.heap.size (.slice ta A.length tc) A ts ∧ Below w.heap.size w wq) (fun i _ => A.length - (intOf i).toNat)
        case atStart => exact ⟨0, _, Nat.zero_le _, rfl, Ht.out, fun _ _ _ _ => rfl, Hv4.out, Hb4.out⟩
        case round =>
          rename World => wq
          obtain ⟨t, f, htt, rfl, hown, heq, hlist, hbq⟩ := hrel
          have Hown := Lib.hid hown
          have Heq := Lib.hid heq
          have Hlist := Lib.hid hlist
          have Hbq := Lib.hid hbq
          have HBq := Lib.hid hbq.size
          clear hown heq hlist hbq Ht Hv4
          by_cases hlt2 : t < A.length
          · obtain ⟨b1, o1, r1, d1, e1, hc1, hm1, _, _⟩ := Hlist.out.at hlt2
            obtain ⟨hml, hgd⟩ := HA.out _ (gt_mem hlt2)
            obtain ⟨j1, j2, _, _⟩ := HJ.out _ (gt_mem hlt2)
            obtain ⟨⟨f1, f2⟩, f3, f4⟩ := HF.out _ (gt_mem hlt2)
            have CI := Lib.hid (fun wx (hx : Below wq.heap.size wq wx) => weInversions_any r1 d1 (gt A t) wx hgd (hm1.below hx))
            have CM := Lib.hid (fun wx (hx : Below wq.heap.size wq wx) => sgMinus_any r1 d1 (gt A t) wx hgd.1 (hm1.below hx))
            have hbd := jF_bd A t (fInv (gt A t)) (fMin (gt A t))
            have HS := Lib.hid (fun p k => (show jF A (t + 1) p k = if p = fInv (gt A t) ∧ k = fMin (gt A t) then jF A t (fInv (gt A t)) (fMin (gt A t)) + 1 else jF A t p k from jF_step A t p k))
            have hfv := Heq.out _ _ j1 j2
            rw [f3] at CI
            rw [f1] at CM
            rw [hml] at hc1 CI CM
            subst e1
            obtain ⟨M, hM⟩ : ∃ M, M = gt A t := ⟨_, rfl⟩
            rw [← hM] at j1 j2 CI CM hbd HS hfv f2 f4
            obtain ⟨p, hp⟩ : ∃ p, p = fInv M := ⟨_, rfl⟩
            obtain ⟨q, hq⟩ : ∃ q, q = fMin M := ⟨_, rfl⟩
            rw [← hp] at j1 hbd HS hfv CI f4
            rw [← hq] at j2 hbd HS hfv CM f2
            obtain ⟨y, hy⟩ : ∃ y, y = jF A t p q := ⟨_, rfl⟩
            rw [← hy] at hbd HS hfv
            obtain ⟨g, cap, hvs, hd2, hf2, hg, _⟩ := Hown.out.at2 j1 j2
            have hd := Hown.out.cellAt p j1
            rw [hvs] at hd
            rw [hfv] at hd2
            have hfacts : ∀ w'', Below wq.heap.size wq w'' → w''.cell? ⟨go, p, none⟩ = some (.slice (some ⟨g, 0, none⟩) C cap) ∧ w''.cell? ⟨g, q, none⟩ = some (.int .i64 y) ∧ w''.frozen? ⟨g, q, none⟩ = false := fun w'' hb => by
              obtain ⟨g', cap', hvs', _, hf', _, _⟩ := (Hown.out.below hb).at2 j1 j2
              rw [hvs] at hvs'
              cases hvs'
              exact ⟨cell_below hd hb, cell_below hd2 hb, hf'⟩
            have hst : ∀ w'', Below wq.heap.size wq w'' → OwnP (w''.setCell ⟨g, q, none⟩ (.int .i64 (y + 1))) w.heap.size (.slice (some ⟨go, 0, none⟩) k gc) k (tab k C fun a b => if a = p ∧ b = q then y + 1 else f a b) k vs := fun w'' hb => by
              obtain ⟨g', cap', hvs', _, _, _, hst'⟩ := (Hown.out.below hb).at2 j1 j2
              rw [hvs] at hvs'
              cases hvs'
              exact hst' _
            have hgl : g < wr.heap.size := by
              have h := Hr0.out p j1
              rw [hvs] at h
              exact h g rfl
            have hls : ∀ w'', Below wq.heap.size wq w'' → OwnRL (w''.setCell ⟨g, q, none⟩ (.int .i64 (y + 1))) wr.heap.size (.slice (some ⟨b1, o1, none⟩) A.length tc) A ts := fun w'' hb => by
              have HL := Hlist.out.below hb
              exact ⟨Go.ownsRow_setCell_other (a := ⟨g, q, none⟩) HL.top (fun e => by have := (World.ownsRow.lt HL.top g e).1; omega) _, fun i hi => by
                obtain ⟨us, hu⟩ := HL.each i hi
                exact ⟨us, ⟨Go.ownsRow_setCell_other (a := ⟨g, q, none⟩) hu.top (fun e => by have := (World.ownsRow.lt hu.top g e).1; omega) _, fun j hj => Go.ownsRow_setCell_other (a := ⟨g, q, none⟩) (hu.rows j hj) (fun e => by have := (OwnI.lt (hu.rows j hj) g e).1; omega) _⟩⟩⟩
            have Hfacts := Lib.hid hfacts
            have Hst := Lib.hid hst
            have Hls := Lib.hid hls
            have Hg := Lib.hid hg
            clear hm1 hgd hml hM hp hq hfv hy f1 f3 hvs hd hd2 hf2 hg hfacts hst hls hgl Hlist Hown
            go_wp2
            go_region_with (first
              | (go_at_call 41; refine (CI.out _ ?_).mono ?_; exact below_drewN (Below.refl _ _) 1; rintro e w5 ⟨rfl, hb5⟩; obtain ⟨q0, q1, q2⟩ := Hfacts.out w5 ((below_drewN (Below.refl _ _) 1).trans hb5); have HB5 := Lib.hid ((below_drewN (Below.refl wq.heap.size wq) 1).trans hb5); clear hb5)
              | (go_at_call 38; refine (CM.out _ ?_).mono ?_; (first | exact HB5.out | exact below_drewN (Below.refl _ _) 1); rintro e w6 ⟨rfl, rfl⟩))
            all_goals
              have HSn := Lib.hid (Hst.out _ HB5.out)
              have HLn := Lib.hid (Hls.out _ HB5.out)
              have HBn := Lib.hid ((Hbq.out.trans (HB5.out.mono HBq.out)).setCell (p := ⟨g, q, none⟩) Hg.out (.int .i64 (y + 1)))
              clear q0 q1 q2 hc1 CI CM Hfacts Hst Hls
              go_wp2
              go_roundw
              case rel =>
                refine ⟨t + 1, _, by omega, by go_num, HSn.out, fun a b ha hb => ?_, HLn.out, HBn.out⟩
                rw [HS.out]
                by_cases e : a = p ∧ b = q
                · rw [if_pos e, if_pos e]
                · rw [if_neg e, if_neg e]; exact Heq.out a b ha hb
              case measure => simp [intOf]; omega
          · obtain rfl : t = A.length := by omega
            have hfin : OwnM wq w.heap.size (.slice (some ⟨go, 0, none⟩) k gc) (joint N) := by
              have e : joint N = tab k C f := by
                rw [Hjt.out]
                exact eq_tab (tab_len _ _ _) (fun i hi => tab_row hi) (fun i j hi hj => by rw [gi_tab hi hj, ← Heq.out i j hi hj])
              exact ⟨vs, by rw [e, tab_len]; exact Hown.out⟩
            have Hfin := Lib.hid hfin
            clear hfin
            go_wp2
            go_ret2
            exact ⟨MRes.yes ⟨by omega, by omega⟩ (by have hf := Hfin.out; rw [hs1] at hf; exact hf), Hbq.out⟩
  · have H := Lib.hid h
    clear h
    go_enter Tryd.func17, Tryd.ntmps17
    go_wp2_with fail
    refine (weSide_any n w).mono ?_
    rintro e w1 ⟨ha, rfl⟩
    obtain rfl := ha.isnt H.out
    clear ha
    go_wp2
    go_ret2
    exact ⟨MRes.no H.out, Below.refl _ _⟩
end Go.Proofs.YtmkldodkpijfjaaDoor

namespace Go.Proofs.YtmkldodkpijfjaaDoor
/-- how many of the first k numbers are j -/
def occ (xs : List Int) (j : Int) : Nat → Int
  | 0 => 0
  | k + 1 => occ xs j k + (if gi xs k = j then 1 else 0)
theorem occ_bd (xs : List Int) (j : Int) : ∀ k, 0 ≤ occ xs j k ∧ occ xs j k ≤ k
  | 0 => by simp [occ]
  | k + 1 => by have := occ_bd xs j k; simp only [occ]; split <;> omega
/-- all numbers of a triangle are at most the last one of its last row -/
theorem tri_le {t : List (List Int)} (h : isTri t) : ∀ d i, i + d + 1 = t.length → ∀ k, k ≤ i → gi (gr t i) k ≤ gi (gr t (t.length - 1)) (t.length - 1)
  | 0, i, hi, k, hk => by
    have hl := (h.2.2 i (by omega)).1
    have hr := ((isRowP_iff _).1 (h.2.2 i (by omega)).2.1).2.2
    rw [show t.length - 1 = i from by omega]
    rcases Nat.lt_or_ge k i with hki | hki
    · have hup := (up_iff _).1 hr.1
      have mono : ∀ d k, k + d < (gr t i).length → gi (gr t i) k ≤ gi (gr t i) (k + d) := by
        intro d
        induction d with
        | zero => intro k _; exact Int.le_refl _
        | succ d ih =>
          intro k hkd
          have h1 := ih k (by omega)
          have h2 := hup (k + (d + 1)) hkd (by omega)
          rw [show k + (d + 1) - 1 = k + d from by omega] at h2
          omega
      have := mono (i - k) k (by omega)
      rwa [show k + (i - k) = i from by omega] at this
    · rw [show k = i from by omega]; exact Int.le_refl _
  | d + 1, i, hi, k, hk => by
    have h1 := (h.2.2 (i + 1) (by omega)).2.2 (by omega)
    have hl := (h.2.2 i (by omega)).1
    have h2 := (h1 k (by rw [show i + 1 - 1 = i from rfl]; omega)).2
    rw [show i + 1 - 1 = i from rfl] at h2
    have h3 := tri_le h d (i + 1) (by omega) (k + 1) (by omega)
    omega
/-- 0, 1, .., n - 1 -/
def iota (n : Nat) : List Int := rng 0 ((n : Int) - 1)
theorem iota_len (n : Nat) : (iota n).length = n := by unfold iota rng; simp
theorem gi_iota {n i : Nat} (h : i < n) : gi (iota n) i = i := by
  rw [gi_lt (by rw [iota_len]; exact h)]
  simp [iota, rng]
theorem up_iota (n : Nat) : Up (iota n) := by
  rw [up_iff]
  intro k hk h0
  rw [iota_len] at hk
  rw [gi_iota hk, gi_iota (by omega)]
  omega
theorem mem_iota {n : Nat} {x : Int} : x ∈ iota n ↔ 0 ≤ x ∧ x < n := by unfold iota; rw [mem_rng]; omega
theorem mask_iota (n : Nat) : mask (iota n) = 2 ^ n - 1 := by
  apply Nat.eq_of_testBit_eq
  intro i
  rw [testBit_mask (fun x hx => (mem_iota.1 hx).1), Nat.testBit_two_pow_sub_one]
  congr 1
  rw [mem_iota]
  simp
/-- a row of n numbers is 0, 1, .. exactly if its last number is n - 1 -/
theorem row_full {xs : List Int} (h : isRowP xs) : mask xs = 2 ^ xs.length - 1 ↔ gi xs (xs.length - 1) = (xs.length : Int) - 1 := by
  obtain ⟨h1, h2, hu, hr⟩ := (isRowP_iff _).1 h
  rw [← mask_iota]
  constructor
  · intro hm
    have e := mask_inj hu (fun x hx => (hr x hx).1) (up_iota _) (fun x hx => (mem_iota.1 hx).1) hm
    generalize hn : xs.length = n at *
    rw [e, gi_iota (by omega)]
    omega
  · intro hl
    congr 1
    refine ext_gi (by rw [iota_len]) fun i hi => ?_
    rw [gi_iota hi]
    have hup := (up_iff _).1 hu
    have lo : ∀ k, k < xs.length → (k : Int) ≤ gi xs k := by
      intro k
      induction k with
      | zero => intro hk; exact (hr _ (gi_mem hk)).1
      | succ k ih =>
        intro hk
        have a := ih (by omega)
        have b := hup (k + 1) hk (by omega)
        rw [show k + 1 - 1 = k from rfl] at b
        omega
    have hi2 : ∀ d k, k + d + 1 = xs.length → gi xs k ≤ k := by
      intro d
      induction d with
      | zero => intro k hk; rw [show xs.length - 1 = k from by omega] at hl; omega
      | succ d ih =>
        intro k hk
        have a := ih (k + 1) (by omega)
        have b := hup (k + 1) (by omega) (by omega)
        rw [show k + 1 - 1 = k from rfl] at b
        omega
    have := lo i hi
    have := hi2 (xs.length - 1 - i) i (by omega)
    omega
/-- the numbers of the sign matrix of a triangle -/
def signAt (t : List (List Int)) (i j : Nat) : Int := occ (gr t i) j (gr t i).length - (if 0 < i then occ (gr t (i - 1)) j (gr t (i - 1)).length else 0)
def fromT (t : List (List Int)) : List (List Int) := (List.range t.length).map fun i => (List.range t.length).map fun j => signAt t i j
/-- a triangle whose last row is that of sign matrices -/
def fullTri (t : List (List Int)) : Prop := isTri t ∧ gi (gr t (t.length - 1)) (t.length - 1) = (t.length : Int) - 1
theorem full_lt {t : List (List Int)} (h : fullTri t) {i k : Nat} (hi : i < t.length) (hk : k < (gr t i).length) : 0 ≤ gi (gr t i) k ∧ gi (gr t i) k < t.length := by
  have hl := (h.1.2.2 i hi).1
  have := tri_le h.1 (t.length - 1 - i) i (by omega) k (by omega)
  have := ((h.1.2.2 i hi).2.1.2.2 k hk).1.1
  have := h.2
  omega
end Go.Proofs.YtmkldodkpijfjaaDoor

namespace Go.Proofs.YtmkldodkpijfjaaDoor
open Go.RowKit

theorem take_succ_gi {xs : List Int} {k : Nat} (h : k < xs.length) : xs.take (k + 1) = xs.take k ++ [gi xs k] := by
  rw [gi_lt h, List.take_succ_eq_append_getElem h]

theorem shl_one {x : Int} (h0 : 0 ≤ x) (h1 : x ≤ 15) : IntKind.u64.wrap (2 ^ x.toNat) = ((2 ^ x.toNat : Nat) : Int) := by
  rw [IntKind.wrap_u64]
  have : 2 ^ x.toNat ≤ 2 ^ 15 := Nat.pow_le_pow_right (by omega) (by omega)
  rw [show ((2 : Int) ^ x.toNat) = ((2 ^ x.toNat : Nat) : Int) by simp]
  generalize 2 ^ x.toNat = q at this
  omega

set_option maxRecDepth 100000 in
set_option maxHeartbeats 400000 in
theorem setOf_any (ao : Option Addr) (c : Nat) (xs : List Int) (w : World) (hn : xs.length ≤ 1048576) (hr : ∀ x ∈ xs, 0 ≤ x ∧ x ≤ 15) (hx : IntsAt w ao xs) :
    Calls Tryd.prog 60 #[.slice ao xs.length c] w fun e w' => e = .returned (.int .u64 (mask xs : Nat)) ∧ w = w' := by
  have hmx : xs.length ≤ 9223372036854775807 := by omega
  have Hx := Lib.hid hx
  have Hr := Lib.hid hr
  clear hx hr
  go_enter Tryd.func60, Tryd.ntmps60
  go_wp2
  go_loop [3, 8] (fun s i => ∃ k : Nat, k ≤ xs.length ∧ i = .int .i64 k ∧ s = .int .u64 (mask (xs.take k) : Nat)) (fun _ i => xs.length - (intOf i).toNat)
  case atStart => exact ⟨0, Nat.zero_le _, rfl, rfl⟩
  case round =>
    obtain ⟨k, hk, rfl, rfl⟩ := hrel
    by_cases hlt : k < xs.length
    · obtain ⟨b, o, rfl, hc⟩ := Hx.out k hlt
      have hb := Hr.out _ (gi_mem hlt)
      have h1 : mask (xs.take k) < 65536 := mask_lt (n := 16) (fun y hy => by have := Hr.out y (List.mem_of_mem_take hy); omega)
      have h2 : 2 ^ (gi xs k).toNat ≤ 2 ^ 15 := Nat.pow_le_pow_right (by omega) (by omega)
      have e1 := shl_one hb.1 hb.2
      have e2 : bits .or .u64 ((mask (xs.take k) : Nat) : Int) (IntKind.u64.wrap (2 ^ (gi xs k).toNat)) = ((mask (xs.take (k + 1)) : Nat) : Int) := by
        rw [e1, u64_or_nat _ _ (by omega) (by omega), take_succ_gi hlt, mask_snoc]
      have hb0 := hb.1
      obtain ⟨x, hxv⟩ : ∃ x, x = gi xs k := ⟨_, rfl⟩
      have hb15 := hb.2
      rw [← hxv] at hc e2 hb0 hb15
      obtain ⟨s, hs⟩ : ∃ s : Int, s = ((mask (xs.take k) : Nat) : Int) := ⟨_, rfl⟩
      rw [← hs] at e2 ⊢
      have E2 := Lib.hid e2
      clear hs hxv h1 h2 hb e1 e2
      go_wp2
      go_round
      case rel => exact ⟨k + 1, by omega, by go_num, by rw [E2.out]⟩
      case measure => simp [intOf]; omega
    · obtain rfl : k = xs.length := by omega
      rw [List.take_length]
      go_wp2
      go_ret
      exact ⟨rfl, rfl⟩

theorem allColumns_any (n : Nat) (w : World) (hn : n ≤ 15) :
    Calls Tryd.prog 66 #[.int .i64 (n : Int)] w fun e w' => e = .returned (.int .u64 ((2 ^ n - 1 : Nat) : Int)) ∧ w = w' := by
  have e1 := shl_one (x := (n : Int)) (by omega) (by omega)
  rw [Int.toNat_natCast] at e1
  have E : IntKind.u64.wrap (IntKind.u64.wrap (2 ^ n) - 1) = ((2 ^ n - 1 : Nat) : Int) := by
    have h2 : 2 ^ n ≤ 2 ^ 15 := Nat.pow_le_pow_right (by omega) (by omega)
    have h3 : 0 < 2 ^ n := Nat.two_pow_pos n
    rw [e1, IntKind.wrap_u64, Int.emod_eq_of_lt (by omega) (by omega)]
    omega
  have E2 := Lib.hid E
  clear e1 E
  go_enter Tryd.func66, Tryd.ntmps66
  go_wp2
  go_ret
  exact ⟨by rw [← E2.out]; rfl, rfl⟩
end Go.Proofs.YtmkldodkpijfjaaDoor

namespace Go.Proofs.YtmkldodkpijfjaaDoor
open Go.RowKit

def risesP (lo hi : Int) (xs : List Int) : Prop := ∀ k, k < xs.length → (lo ≤ gi xs k ∧ gi xs k ≤ hi) ∧ (0 < k → gi xs (k - 1) < gi xs k)

end Go.Proofs.YtmkldodkpijfjaaDoor

namespace Go.Proofs.YtmkldodkpijfjaaDoor
open Go.RowKit

end Go.Proofs.YtmkldodkpijfjaaDoor

