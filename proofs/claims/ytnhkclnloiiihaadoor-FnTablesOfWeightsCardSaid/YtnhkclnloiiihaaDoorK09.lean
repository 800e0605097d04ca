/- Parts of proofs: contracts and plain facts. Conditions: as each says. -/
import Derived.Test.YtnhkclnloiiihaaDoorK08
namespace Go.Proofs.YtnhkclnloiiihaaDoor
open Go.RowKit

set_option maxRecDepth 100000 in
set_option maxHeartbeats 1600000 in
theorem weAll_any (n : Nat) (w : World) (h1 : 1 ≤ n) (h4 : n ≤ 4) :
    Calls Tryd.prog 61 #[.int .i64 (n : Int)] w fun e w' => ∃ v vs, e = .returned v ∧ OwnRL w' w.heap.size v (allW n) vs ∧ Below w.heap.size w w' := by
  obtain ⟨i0, hi, hz0, hz1, hz2⟩ := info_parts Tryd.info_int
  have hrep : ∀ j, j < (List.replicate n (0 : Int)).length → gi (List.replicate n (0 : Int)) j = 0 := fun j hj => by rw [gi_lt hj]; simp
  have Hrep := Lib.hid hrep
  clear hrep
  go_enter Tryd.func61, Tryd.ntmps61
  go_wp2_with (at_make; refine wpList_make_full _ rfl _ _ 28 rfl w.heap.size 3 i0 (.int .i64 0) 1 Tryd.underlying28 hi hz0 hz1 _ _ _ _ n rfl rfl rfl rfl ?c1 ?c2 ?c3 ?_)
  case c1 => rw [hz2]; omega
  case c2 => unfold maxLen; omega
  case c3 => simp
  intro w1 hown hg
  have hb1 : Below w.heap.size w w1 := (Below.refl _ _).grown hg (Nat.le_refl _) (fun _ h => by cases h)
  have hown1 := OwnI.made hown
  have C := Lib.hid (weGoOn_any n (by omega) n [] (List.replicate n 0) none (some ⟨w.heap.size, 0, none⟩) 0 n w.heap.size [] w1 (by simp) (fun j hj => by rw [Hrep.out j hj]; omega) (by simp) hb1.size (OwnR.nil _ _) (by simpa using hown1))
  rw [List.length_replicate, List.length_nil] at C
  have Hb1 := Lib.hid hb1
  clear hown hg hb1 hown1
  go_wp2_with fail
  refine C.out.mono ?_
  rintro e w2 ⟨v, vs, rfl, hv, _, hb⟩
  have Hv := Lib.hid hv
  have Hb := Lib.hid (Hb1.out.trans (hb.mono Hb1.out.size))
  obtain ⟨va, vc, rfl, _, _⟩ := hv.head
  clear hv hb
  go_wp2
  go_ret
  exact ⟨_, vs, rfl, Hv.out, Hb.out⟩

set_option maxRecDepth 100000 in
set_option maxHeartbeats 1600000 in
theorem weAdd_any (ao : Option Addr) (c : Nat) (L : List Int) (k : Nat) (w : World) (hl : L.length ≤ 100) (hb : ∀ j, 0 ≤ gi L j ∧ gi L j ≤ 100) (hk : k < 100) (hc0 : ao = none → c = 0) (hx : IntsAt w ao L) :
    Calls Tryd.prog 65 #[.slice ao L.length c, .int .i64 (k : Int)] w fun e w' => ∃ v, e = .returned v ∧ OwnI w' w.heap.size v (addAt L k) ∧ Below w.heap.size w w' := by
  obtain ⟨i0, hi, hz0, hz1, hz2⟩ := info_parts Tryd.info_int
  have C := Lib.hid (l1Own_any ao c L w (by omega) hc0 hx)
  have HL := Lib.hid hl
  have hbk := hb k
  clear hx hb
  go_enter Tryd.func65, Tryd.ntmps65
  go_wp2_with fail
  refine C.out.mono ?_
  rintro e w2 ⟨v, rfl, hv, hb2⟩
  rw [← padTo_zero L] at hv
  have Hv := Lib.hid hv
  have Hb2 := Lib.hid hb2
  clear hv hb2 C hl
  go_wp2
  go_loopw [5] (fun out wr => ∃ t : Nat, L.length + t ≤ max L.length (k + 1) ∧ OwnI wr w.heap.size out (padTo L t) ∧ Below w.heap.size w wr) (fun out _ => k + 1 - slLen out)
  case atStart => exact ⟨0, by omega, Hv.out, Hb2.out⟩
  case round =>
    obtain ⟨t, ht, hown, hbr⟩ := hrel
    obtain ⟨oa, oc, hoo, ho1, ho2, _⟩ := hown.read
    rw [padTo_len] at hoo ho1
    have Hown := Lib.hid hown
    have Hbr := Lib.hid hbr
    have HB := Lib.hid hbr.size
    obtain ⟨q, hq⟩ : ∃ q, q = L.length + t := ⟨_, rfl⟩
    rw [← hq] at hoo ho1
    have Hq := Lib.hid hq
    have hqb : q ≤ 200 := by have := HL.out; omega
    have Hqk := Lib.hid (show q ≤ max L.length (k + 1) by omega)
    subst hoo
    clear Hv Hb2 hown hbr hq ht
    by_cases hlt : q ≤ k
    · have hd : decide ((q : Int) ≤ (k : Int)) = true := by simp; omega
      go_wp2_with (at_builtin; refine wpList_append_own _ rfl _ _ 28 rfl w.heap.size 3 i0 (.int .i64 0) 1 8 Tryd.underlying28 hi hz0 hz1 hz2 rfl (by decide) _ q _ rfl (by have := World.ownsRow.alloc Hown.out (.cells #[.int .i64 0] 3); rw [padTo_len, ← Hq.out] at this; exact this) ⟨wr.heap.size, 0, none⟩ 1 1 [.int .i64 0] rfl rfl ?e1 ?e2 ?e3 ?e4 ?e5 ?_)
      case e1 => exact cell_one_new _ _ _
      case e2 => intro u hu; simp at hu; subst hu; rfl
      case e3 => unfold maxLen; omega
      case e4 => omega
      case e5 => have := HB.out; simp; omega
      intro v' w3 hown' hgrow _
      rw [show q + 1 = (padTo L t).length + 1 by rw [padTo_len, Hq.out]] at hown'
      have hput := Hown.out.snoc HB.out hown' hgrow
      rw [← padTo_succ] at hput
      obtain ⟨pa, pc, hpp, _, _, _⟩ := hput.1.read
      have hlen : slLen v' = q + 1 := by rw [hpp]; show (padTo L (t + 1)).length = q + 1; rw [padTo_len, Hq.out]; omega
      have Hput := Lib.hid hput.1
      have Hb3 := Lib.hid (Hbr.out.trans hput.2)
      have Hlen := Lib.hid hlen
      clear hown' hgrow hput hpp hlen ho1 ho2
      go_wp2
      go_roundw
      case rel => exact ⟨t + 1, by have := Hq.out; omega, Hput.out, Hb3.out⟩
      case measure =>
        show k + 1 - slLen v' < k + 1 - q
        rw [Hlen.out]
        omega
    · have hd : decide ((q : Int) ≤ (k : Int)) = false := by simp; omega
      have hkq : k < q := by omega
      have hw := Hown.out
      obtain ⟨g, rfl, hg1, hg2⟩ := hw.isAt (by omega)
      have hcell := hw.cellAt k hkq
      rw [gi_padTo] at hcell
      have hfr := hw.frozenAt k
      have hst := hw.store k (gi L k + 1)
      rw [addAt_of (by have := Hq.out; have := Hqk.out; omega)] at hst
      have Hbs := Lib.hid (Hbr.out.setCell (p := ⟨g, k, none⟩) hg1 (.int .i64 (gi L k + 1)))
      obtain ⟨x, hx⟩ : ∃ x, x = gi L k := ⟨_, rfl⟩
      rw [← hx] at hcell hst Hbs hbk
      have Hst := Lib.hid hst
      clear hw hst hx hlt ho1 ho2
      go_wp2
      go_ret
      exact ⟨_, rfl, Hst.out, Hbs.out⟩

set_option maxRecDepth 100000 in
set_option maxHeartbeats 1600000 in
theorem weInversions_any (ao : Option Addr) (cp : Nat) (m : List (List Int)) (w : World) (hg : good m) (hm : MatAt w ao m) :
    Calls Tryd.prog 62 #[.slice ao m.length cp] w fun e w' => e = .returned (.int .i64 (invW m)) ∧ Below w.heap.size w w' := by
  have Hg := Lib.hid hg
  have Hm := Lib.hid hm
  have b0 := cntK_bd (m := m) 0 hg.1.2.1
  have b5 := cntK_bd (m := m) 5 hg.1.2.1
  have HV := Lib.hid (show invW m = cntK m 0 + cntK m 5 from rfl)
  clear hg hm
  go_enter Tryd.func62, Tryd.ntmps62
  go_wp2_with fail
  refine (weCounts_any ao cp m w Hg.out Hm.out).mono ?_
  rintro e w2 ⟨v, rfl, hv, hb⟩
  have hvl : ∃ g cc, v = .slice (some ⟨g, 0, none⟩) 6 cc := by
    obtain ⟨va, vc, e, _, _, _⟩ := hv.read
    rw [cntL_len] at e
    subst e
    obtain ⟨g, rfl, _⟩ := hv.isAt (by omega)
    exact ⟨g, vc, rfl⟩
  obtain ⟨g, cc, rfl⟩ := hvl
  have c0 := hv.cellAt 0 (by omega)
  have c5 := hv.cellAt 5 (by omega)
  rw [show gi (cntL (cntK m)) 0 = cntK m 0 from rfl] at c0
  rw [show gi (cntL (cntK m)) 5 = cntK m 5 from rfl] at c5
  obtain ⟨x, hx⟩ : ∃ x, x = cntK m 0 := ⟨_, rfl⟩
  obtain ⟨y, hy⟩ : ∃ y, y = cntK m 5 := ⟨_, rfl⟩
  rw [← hx] at c0 b0 HV
  rw [← hy] at c5 b5 HV
  have Hb := Lib.hid hb
  clear hv hb hx hy
  go_wp2
  go_quiet (fail)
  go_wp2
  go_ret
  exact ⟨by rw [HV.out]; rfl, below_drewN Hb.out _⟩

set_option maxRecDepth 100000 in
set_option maxHeartbeats 3200000 in
theorem specMinusTable_any (n : Int) (w : World) (_ : -9223372036854775808 ≤ n ∧ n ≤ 9223372036854775807) :
    Calls Tryd.prog 12 #[.int .i64 n] w fun e w' => LRes (1 ≤ n ∧ n ≤ 4) (tabW fMin (allW n.toNat)) w' w.heap.size e ∧ Below w.heap.size w w' := by
  by_cases h : 1 ≤ n ∧ n ≤ 4
  · obtain ⟨N, rfl⟩ : ∃ N : Nat, n = (N : Int) := ⟨n.toNat, by omega⟩
    have hN1 : 1 ≤ N := by omega
    have hN4 : N ≤ 4 := by omega
    rw [Int.toNat_natCast]
    go_enter Tryd.func12, Tryd.ntmps12
    go_wp2_with fail
    refine (weSide_any (N : Int) w).mono ?_
    rintro e w1 ⟨ha, rfl⟩
    obtain rfl := ha.is h
    clear ha h
    go_wp2_with fail
    refine (weAll_any N w hN1 hN4).mono ?_
    rintro e w2 ⟨v, vs, rfl, hv, hb⟩
    obtain ⟨ta, tc, rfl, ht1, ht2⟩ := hv.head
    have hlen := allW_len N (by omega)
    have Hok := Lib.hid (tab_ok N (by omega))
    have Hf := Lib.hid (f_ok N (by omega))
    have Hgd := Lib.hid (fun k (hk : k < (allW N).length) => (allW_good N (by omega) _ (gt_mem hk)).resolve_left (by omega))
    obtain ⟨A, hA⟩ : ∃ A, A = allW N := ⟨_, rfl⟩
    rw [← hA] at hv hlen Hok Hf Hgd ht1 ⊢
    have Hv := Lib.hid hv
    have Hb := Lib.hid hb
    have HB := Lib.hid hb.size
    have HA := Lib.hid hA
    clear hv hb hA
    go_wp2
    go_loopw [4, 13] (fun out i wr => ∃ k : Nat, k ≤ A.length ∧ i = .int .i64 k ∧ OwnI wr w.heap.size out (tabW fMin (A.take k)) ∧ Below w2.heap.size w2 wr) (fun _ i _ => A.length - (intOf i).toNat)
    case atStart => exact ⟨0, Nat.zero_le _, rfl, OwnI.nil _ _, Below.refl _ _⟩
    case round =>
      obtain ⟨k, hk, rfl, hown, hbr⟩ := hrel
      have Hown := Lib.hid hown
      have Hbr := Lib.hid hbr
      have HBr := Lib.hid hbr.size
      clear hown hbr
      by_cases hlt : k < A.length
      · obtain ⟨b1, o1, r1, d1, e1, hc1, hm1, _, _⟩ := (Hv.out.below Hbr.out).at hlt
        obtain ⟨hml, hmg⟩ := Hgd.out k hlt
        obtain ⟨hfe, hfl⟩ := (Hf.out (gt A k) (gt_mem hlt)).1
        have hstep : tabW fMin (A.take (k + 1)) = addAt (tabW fMin (A.take k)) (fMin (gt A k)) := tabW_step _ A hlt
        have hokL := okA_at (Hok.out k (by omega)).1
        obtain ⟨oa, oc, hoo, ho1, ho2, hox⟩ := Hown.out.read
        have hnc : oa = none → oc = 0 := by have := Hown.out; rw [hoo] at this; exact this.none_cap
        have C1 := Lib.hid (fun wx (hx : Below wr.heap.size wr wx) => (fun r d m w h hm => sgMinus_any r d m w h hm) r1 d1 (gt A k) wx hmg.1 (hm1.below hx))
        obtain ⟨L, hL⟩ : ∃ L, L = tabW fMin (A.take k) := ⟨_, rfl⟩
        obtain ⟨f, hf⟩ : ∃ f, f = fMin (gt A k) := ⟨_, rfl⟩
        rw [← hL] at hstep hokL hoo ho1 hox
        rw [← hf] at hstep hfe hfl
        have C2 := Lib.hid (fun wx (hx : Below wr.heap.size wr wx) => weAdd_any oa oc L f wx hokL.1 hokL.2 hfl hnc (hox.below hx))
        rw [hfe] at C1
        rw [hml] at hc1 C1
        subst e1
        have Hstep := Lib.hid hstep
        obtain ⟨l, hl⟩ : ∃ l, l = L.length := ⟨_, rfl⟩
        rw [← hl] at hoo C2
        subst hoo
        clear hml hmg hfe hstep hokL ho1 ho2 hox hnc hm1 hL hf hl hfl
        go_wp2_with fail
        refine (C1.out wr (Below.refl _ _)).mono ?_
        rintro e w3 ⟨rfl, rfl⟩
        have hx1 : Below wr.heap.size wr wr := Below.refl _ _
        go_wp2_with fail
        refine (C2.out _ hx1).mono ?_
        rintro e w4 ⟨v4, rfl, hv4, hb4⟩
        have Hv4 := Lib.hid (hv4.base (Nat.le_trans HB.out (Nat.le_trans HBr.out hx1.size)))
        have Hb4 := Lib.hid (Hbr.out.trans ((hx1.trans (hb4.mono hx1.size)).mono HBr.out))
        clear hv4 hb4 hx1 C1 C2
        go_wp2
        go_roundw
        case rel => exact ⟨k + 1, by omega, by go_num, by rw [Hstep.out]; exact Hv4.out, Hb4.out⟩
        case measure => simp [intOf]; omega
      · obtain rfl : k = A.length := by omega
        have Hfin := Lib.hid (show OwnI wr w.heap.size _ (tabW fMin A) by have := Hown.out; rw [List.take_length] at this; exact this)
        have Hfb := Lib.hid (Hb.out.trans (Hbr.out.mono HB.out))
        go_wp2
        go_ret2
        exact ⟨LRes.yes ⟨by omega, by omega⟩ (by rw [← HA.out]; exact Hfin.out), Hfb.out⟩
  · have H := Lib.hid h
    clear h
    go_enter Tryd.func12, Tryd.ntmps12
    go_wp2_with fail
    refine (weSide_any n w).mono ?_
    rintro e w1 ⟨ha, rfl⟩
    obtain rfl := ha.isnt H.out
    clear ha
    go_wp2
    go_ret2
    exact ⟨LRes.no H.out, Below.refl _ _⟩

set_option maxRecDepth 100000 in
set_option maxHeartbeats 3200000 in
theorem specInversionTable_any (n : Int) (w : World) (_ : -9223372036854775808 ≤ n ∧ n ≤ 9223372036854775807) :
    Calls Tryd.prog 14 #[.int .i64 n] w fun e w' => LRes (1 ≤ n ∧ n ≤ 4) (tabW fInv (allW n.toNat)) w' w.heap.size e ∧ Below w.heap.size w w' := by
  by_cases h : 1 ≤ n ∧ n ≤ 4
  · obtain ⟨N, rfl⟩ : ∃ N : Nat, n = (N : Int) := ⟨n.toNat, by omega⟩
    have hN1 : 1 ≤ N := by omega
    have hN4 : N ≤ 4 := by omega
    rw [Int.toNat_natCast]
    go_enter Tryd.func14, Tryd.ntmps14
    go_wp2_with fail
    refine (weSide_any (N : Int) w).mono ?_
    rintro e w1 ⟨ha, rfl⟩
    obtain rfl := ha.is h
    clear ha h
    go_wp2_with fail
    refine (weAll_any N w hN1 hN4).mono ?_
    rintro e w2 ⟨v, vs, rfl, hv, hb⟩
    obtain ⟨ta, tc, rfl, ht1, ht2⟩ := hv.head
    have hlen := allW_len N (by omega)
    have Hok := Lib.hid (tab_ok N (by omega))
    have Hf := Lib.hid (f_ok N (by omega))
    have Hgd := Lib.hid (fun k (hk : k < (allW N).length) => (allW_good N (by omega) _ (gt_mem hk)).resolve_left (by omega))
    obtain ⟨A, hA⟩ : ∃ A, A = allW N := ⟨_, rfl⟩
    rw [← hA] at hv hlen Hok Hf Hgd ht1 ⊢
    have Hv := Lib.hid hv
    have Hb := Lib.hid hb
    have HB := Lib.hid hb.size
    have HA := Lib.hid hA
    clear hv hb hA
    go_wp2
    go_loopw [4, 13] (fun out i wr => ∃ k : Nat, k ≤ A.length ∧ i = .int .i64 k ∧ OwnI wr w.heap.size out (tabW fInv (A.take k)) ∧ Below w2.heap.size w2 wr) (fun _ i _ => A.length - (intOf i).toNat)
    case atStart => exact ⟨0, Nat.zero_le _, rfl, OwnI.nil _ _, Below.refl _ _⟩
    case round =>
      obtain ⟨k, hk, rfl, hown, hbr⟩ := hrel
      have Hown := Lib.hid hown
      have Hbr := Lib.hid hbr
      have HBr := Lib.hid hbr.size
      clear hown hbr
      by_cases hlt : k < A.length
      · obtain ⟨b1, o1, r1, d1, e1, hc1, hm1, _, _⟩ := (Hv.out.below Hbr.out).at hlt
        obtain ⟨hml, hmg⟩ := Hgd.out k hlt
        obtain ⟨hfe, hfl⟩ := (Hf.out (gt A k) (gt_mem hlt)).2
        have hstep : tabW fInv (A.take (k + 1)) = addAt (tabW fInv (A.take k)) (fInv (gt A k)) := tabW_step _ A hlt
        have hokL := okA_at (Hok.out k (by omega)).2
        obtain ⟨oa, oc, hoo, ho1, ho2, hox⟩ := Hown.out.read
        have hnc : oa = none → oc = 0 := by have := Hown.out; rw [hoo] at this; exact this.none_cap
        have C1 := Lib.hid (fun wx (hx : Below wr.heap.size wr wx) => (fun r d m w h hm => weInversions_any r d m w h hm) r1 d1 (gt A k) wx hmg (hm1.below hx))
        obtain ⟨L, hL⟩ : ∃ L, L = tabW fInv (A.take k) := ⟨_, rfl⟩
        obtain ⟨f, hf⟩ : ∃ f, f = fInv (gt A k) := ⟨_, rfl⟩
        rw [← hL] at hstep hokL hoo ho1 hox
        rw [← hf] at hstep hfe hfl
        have C2 := Lib.hid (fun wx (hx : Below wr.heap.size wr wx) => weAdd_any oa oc L f wx hokL.1 hokL.2 hfl hnc (hox.below hx))
        rw [hfe] at C1
        rw [hml] at hc1 C1
        subst e1
        have Hstep := Lib.hid hstep
        obtain ⟨l, hl⟩ : ∃ l, l = L.length := ⟨_, rfl⟩
        rw [← hl] at hoo C2
        subst hoo
        clear hml hmg hfe hstep hokL ho1 ho2 hox hnc hm1 hL hf hl hfl
        go_wp2_with fail
        refine (C1.out wr (Below.refl _ _)).mono ?_
        rintro e w3 ⟨rfl, hx1⟩
        go_wp2_with fail
        refine (C2.out _ hx1).mono ?_
        rintro e w4 ⟨v4, rfl, hv4, hb4⟩
        have Hv4 := Lib.hid (hv4.base (Nat.le_trans HB.out (Nat.le_trans HBr.out hx1.size)))
        have Hb4 := Lib.hid (Hbr.out.trans ((hx1.trans (hb4.mono hx1.size)).mono HBr.out))
        clear hv4 hb4 hx1 C1 C2
        go_wp2
        go_roundw
        case rel => exact ⟨k + 1, by omega, by go_num, by rw [Hstep.out]; exact Hv4.out, Hb4.out⟩
        case measure => simp [intOf]; omega
      · obtain rfl : k = A.length := by omega
        have Hfin := Lib.hid (show OwnI wr w.heap.size _ (tabW fInv A) by have := Hown.out; rw [List.take_length] at this; exact this)
        have Hfb := Lib.hid (Hb.out.trans (Hbr.out.mono HB.out))
        go_wp2
        go_ret2
        exact ⟨LRes.yes ⟨by omega, by omega⟩ (by rw [← HA.out]; exact Hfin.out), Hfb.out⟩
  · have H := Lib.hid h
    clear h
    go_enter Tryd.func14, Tryd.ntmps14
    go_wp2_with fail
    refine (weSide_any n w).mono ?_
    rintro e w1 ⟨ha, rfl⟩
    obtain rfl := ha.isnt H.out
    clear ha
    go_wp2
    go_ret2
    exact ⟨LRes.no H.out, Below.refl _ _⟩
end Go.Proofs.YtnhkclnloiiihaaDoor

