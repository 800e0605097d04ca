/- Parts of proofs: contracts and plain facts. Conditions: as each says. -/
import Derived.Test.YtgdijjfipicodaaDoorK09
namespace Go.Proofs.YtgdijjfipicodaaDoor
open Go.RowKit

/-- the first k rows can be those of a left half -/
def hfTo (rows : List (List Int)) (k : Nat) : Prop := ∀ i, i < k → (gr rows i).length = rows.length / 2 ∧ allIn (gr rows i) (-1) 1
theorem hfTo.lhP {rows : List (List Int)} (h : hfTo rows rows.length) (h1 : 1 ≤ rows.length ∧ rows.length ≤ 6) (h2 : rows.length % 2 = 1) : lhP rows := ⟨h1.1, h1.2, h2, fun i hi => (h i hi).1⟩
theorem sumK_bd {xs : List Int} (h : allIn xs (-1) 1) : ∀ t, t ≤ xs.length → -(t : Int) ≤ sumK xs t ∧ sumK xs t ≤ (t : Int)
  | 0, _ => by simp [sumK]
  | t + 1, ht => by
    have h1 := sumK_bd h t (by omega)
    have h2 := h t (by omega)
    rw [sumK]
    omega
theorem take_snoc {xs : List Int} {k : Nat} (hk : k < xs.length) : xs.take (k + 1) = xs.take k ++ [gi xs k] := by
  rw [List.take_succ_eq_append_getElem hk, gi_lt hk]
theorem lsM_row {rows : List (List Int)} {i : Nat} (hi : i < rows.length) : (gr (lsM rows) i).length = rows.length := tab_row hi
theorem lsM_low {rows : List (List Int)} {i h : Nat} (hi : i < rows.length) (hh : h = rows.length / 2) (hl : (gr rows i).length = h) : (gr (lsM rows) i).take h = gr rows i := by
  refine ext_gi (by rw [List.length_take, lsM_row hi]; omega) fun j hj => ?_
  rw [List.length_take, lsM_row hi] at hj
  have e : gi ((gr (lsM rows) i).take h) j = gi (gr (lsM rows) i) j := by
    unfold gi
    rw [List.getD, List.getD, List.getElem?_take_of_lt (by omega)]
  rw [e]
  unfold lsM
  rw [gi_tab hi (by omega)]
  unfold lsF
  rw [if_pos (by omega)]
theorem lsM_mid {rows : List (List Int)} {i h : Nat} (hi : i < rows.length) (hh : h = rows.length / 2) : gi (gr (lsM rows) i) h = 1 - 2 * sumK (gr rows i) h := by
  unfold lsM
  rw [gi_tab hi (by omega), hh, ls_mid]
theorem lsM_high {rows : List (List Int)} {i h t : Nat} (hi : i < rows.length) (hn : rows.length = 2 * h + 1) (ht : t < h) : gi (gr (lsM rows) i) (h + 1 + t) = gi (gr rows i) (h - 1 - t) := by
  unfold lsM
  rw [gi_tab hi (by omega)]
  unfold lsF
  rw [if_neg (by omega), if_neg (by omega), show rows.length - 1 - (h + 1 + t) = h - 1 - t from by omega]
theorem lsM_small {rows : List (List Int)} (h : rows.length ≤ 6) : Small (lsM rows) := ⟨by rw [lsM_len]; omega, fun i hi => by rw [lsM_len] at hi; rw [lsM_row hi]; omega⟩
theorem no_lh {rows : List (List Int)} {i : Nat} (hi : i < rows.length) (h : ¬((gr rows i).length = rows.length / 2)) : ¬(lhP rows ∧ good (lhM rows)) := fun k => h (k.1.2.2.2 i hi)
theorem no_ls {rows : List (List Int)} {i : Nat} (hi : i < rows.length) (hl : (gr rows i).length = rows.length / 2) (h : ¬allIn (gr rows i) (-1) 1) : ¬(lhP rows ∧ good (lhM rows)) := fun k => h fun j hj => (lh_good k.1 k.2).1 i hi j (by omega)

theorem OwnM.nilR {w : World} {B n c : Nat} {ao : Option Addr} {m : List (List Int)} (h : OwnM w B (.slice ao n c) m) : NilRows w ao m := by
  intro k b o r d hk e hc hr
  obtain ⟨vs, h⟩ := h
  obtain ⟨ao', c', e', _, _, hcell⟩ := ownsRow_read h.top
  cases e'
  obtain ⟨b1, o1, e1, hc1⟩ := hcell k hk
  rw [e] at e1
  cases e1
  rw [hc] at hc1
  have h2 := h.rows k hk
  rw [← Option.some.inj hc1, hr] at h2
  exact OwnI.nil_of h2 rfl

end Go.Proofs.YtgdijjfipicodaaDoor

namespace Go.Proofs.YtgdijjfipicodaaDoor
open Go.RowKit

theorem OwnP.extU {w : World} {B n k : Nat} {v : Value} {m m' : List (List Int)} {vs : List Value} (h : OwnP w B v n m k vs) (e : ∀ i, i < k → gr m' i = gr m i) : OwnP w B v n m' k vs :=
  ⟨h.top, fun i hi => by rw [e i hi]; exact h.rows i hi, h.apart⟩

set_option maxRecDepth 100000 in
set_option maxHeartbeats 1600000 in
theorem smCopy_any (ao : Option Addr) (c : Nat) (m : List (List Int)) (w : World) (hs : Small m) (hm : MatAt w ao m) (hz : NilRows w ao m) :
    Calls Tryd.prog 48 #[.slice ao m.length c] w fun e w' => ∃ v, e = .returned v ∧ OwnM w' w.heap.size v m ∧ Below w.heap.size w w' := by
  obtain ⟨j0, hj, hy0, hy1, hy2⟩ := info_parts Tryd.info_ints
  have hl := hs.1
  have hmx : m.length ≤ 9223372036854775807 := by omega
  have Hm := Lib.hid hm
  have Hs := Lib.hid hs
  have Hz := Lib.hid hz
  clear hm hs hz
  go_enter Tryd.func48, Tryd.ntmps48
  go_wp2
  go_loopw [3, 8] (fun out i wr => ∃ (k : Nat) (vs : List Value), k ≤ m.length ∧ i = .int .i64 k ∧ OwnP wr w.heap.size out k m k vs ∧ Below w.heap.size w wr) (fun _ i _ => m.length - (intOf i).toNat)
  case atStart => exact ⟨0, [], Nat.zero_le _, rfl, ⟨World.ownsRow_nil _ _ _ _, fun i hi => absurd hi (by omega), fun i j _ hj => absurd hj (by omega)⟩, Below.refl _ _⟩
  case round =>
    obtain ⟨k, vs, hk, rfl, hout, hbr⟩ := hrel
    have Hout := Lib.hid hout
    have Hbr := Lib.hid hbr
    have hB := hbr.size
    clear hout hbr
    by_cases hlt : k < m.length
    · obtain ⟨b1, o1, r1, d1, e1, hc0, hr1, _, _⟩ := Hm.out k hlt
      have hzk := Hz.out k b1 o1 r1 d1 hlt e1 hc0
      have hc1 := cell_below hc0 Hbr.out
      have CO := Lib.hid (l1Own_any r1 d1 (gr m k) wr (Hs.out.2 k hlt) (fun e => (hzk e).1) (hr1.below Hbr.out))
      subst e1
      clear hr1 hzk hc0
      go_wp2_with fail
      refine CO.out.mono ?_
      rintro e w2 ⟨cv, rfl, hv, hb⟩
      obtain ⟨ca, cc, rfl, _, _, _⟩ := hv.read
      have HV := Lib.hid hv
      have Hout2 := Lib.hid (Hout.out.below hb)
      have Hb := Lib.hid hb
      have hB2 := hb.size
      have hfr := Lib.hid (Hout.out.fresh hv (Nat.le_refl _))
      clear hv hb CO
      go_wp2_with (at_builtin; refine wpList_append_own _ rfl _ _ 22 rfl w.heap.size 42 j0 (.slice none 0 0) 1 24 Tryd.underlying22 hj hy0 hy1 hy2 rfl (by decide) _ _ _ rfl (World.ownsRow.alloc Hout2.out.top _) ⟨w2.heap.size, 0, none⟩ 1 1 [.slice ca (gr m k).length cc] rfl rfl ?d1 ?d2 ?d3 ?d4 ?d5 ?_)
      case d1 => exact cell_one_new _ _ _
      case d2 => intro u hu; simp at hu; subst hu; rfl
      case d3 => unfold maxLen; omega
      case d4 => omega
      case d5 => simp; omega
      intro v' w1 hown' hgrow _
      have hput := Hout2.out.snoc (show w.heap.size ≤ w2.heap.size by omega) (HV.out.base hB) hfr.out hown' hgrow
      have Hput := Lib.hid hput
      clear hput hown' hgrow
      go_wp2
      go_roundw
      case rel => exact ⟨k + 1, _, by omega, by go_num, Hput.out.1, (Hbr.out.trans (Hb.out.mono hB)).trans Hput.out.2⟩
      case measure => simp [intOf]; omega
    · obtain rfl : k = m.length := by omega
      go_wp2
      go_ret
      exact ⟨_, rfl, ⟨vs, Hout.out⟩, Hbr.out⟩

theorem usM_row {rows : List (List Int)} {L t q : Nat} (hL : L = rows.length) (ht : t < L) (hq : q = L - 1 - t) : gr (usM rows) (L + t) = (gr rows q).reverse := by
  rw [usM_high (by omega) (by omega), show 2 * rows.length - 1 - (L + t) = q from by omega]
theorem usM_small {rows : List (List Int)} (hs : Small rows) (h : rows.length ≤ 3) : Small (usM rows) := by
  refine ⟨by rw [usM_len]; omega, fun i hi => ?_⟩
  rw [usM_len] at hi
  by_cases e : i < rows.length
  · rw [usM_low e]; exact hs.2 i e
  · rw [usM_high (by omega) hi, List.length_reverse]; exact hs.2 _ (by omega)

end Go.Proofs.YtgdijjfipicodaaDoor

namespace Go.Proofs.YtgdijjfipicodaaDoor
open Go.RowKit

/-- the first rows and columns of a table -/
def firstT (m : List (List Int)) (r c : Nat) : List (List Int) := tab r c fun i j => gi (gr m i) j
theorem firstT_small (m : List (List Int)) {r c : Nat} (hr : r ≤ 1048576) (hc : c ≤ 1048576) : Small (firstT m r c) := ⟨by rw [firstT, tab_len]; exact hr, fun i hi => by rw [firstT, tab_len] at hi; rw [firstT, tab_row hi]; exact hc⟩
theorem firstT_row {m : List (List Int)} {r c i : Nat} (hi : i < r) (hl : c ≤ (gr m i).length) : gr (firstT m r c) i = (gr m i).take c := by
  refine ext_gi (by rw [firstT, tab_row hi, List.length_take]; omega) fun j hj => ?_
  rw [firstT, tab_row hi] at hj
  rw [firstT, gi_tab hi hj]
  unfold gi
  rw [List.getD, List.getD, List.getElem?_take_of_lt hj]
theorem firstT_take {m : List (List Int)} {r c : Nat} (hr : r ≤ m.length) (hl : ∀ i, i < r → (gr m i).length = c) : m.take r = firstT m r c := by
  refine eq_tab (by rw [List.length_take]; omega) (fun i hi => ?_) fun i j hi hj => ?_
  · have e : gr (m.take r) i = gr m i := by
      unfold gr
      rw [List.getD, List.getD, List.getElem?_take_of_lt hi]
    rw [e, hl i hi]
  · have e : gr (m.take r) i = gr m i := by
      unfold gr
      rw [List.getD, List.getD, List.getElem?_take_of_lt hi]
    rw [e]
/-- the column in the middle -/
def midL (m : List (List Int)) : List Int := (List.range m.length).map fun i => gi (gr m i) (m.length / 2)
theorem midL_len (m : List (List Int)) : (midL m).length = m.length := by simp [midL]
theorem midL_at {m : List (List Int)} {i : Nat} (h : i < m.length) : gi (midL m) i = gi (gr m i) (m.length / 2) := by
  rw [gi_lt (by rw [midL_len]; exact h)]
  simp [midL]
theorem take_snocH {xs : List Int} {k : Nat} (hk : k < xs.length) : xs.take (k + 1) = xs.take k ++ [gi xs k] := by
  rw [List.take_succ_eq_append_getElem hk, gi_lt hk]

set_option maxRecDepth 100000 in
set_option maxHeartbeats 1600000 in
theorem specLeftHalf_any (ao : Option Addr) (c : Nat) (m : List (List Int)) (w : World) (hs : Small m) (hm : MatAt w ao m) :
    Calls Tryd.prog 25 #[.slice ao m.length c] w fun e w' => MRes (good m ∧ ofK m 2) (firstT m m.length (m.length / 2)) w' w.heap.size e ∧ Below w.heap.size w w' := by
  obtain ⟨j0, hj, hy0, hy1, hy2⟩ := info_parts Tryd.info_ints
  have Hm := Lib.hid hm
  have CG := Lib.hid (sgGood_any ao c m w hs hm)
  have CO := Lib.hid (fun w' (h : good m) (h2 : MatAt w' ao m) => smHas_any ao c 2 m w' h.1 h2 (by omega))
  clear hm hs
  go_enter Tryd.func25, Tryd.ntmps25
  go_wp2_with fail
  refine CG.out.mono ?_
  rintro e w1 ⟨ha, hb⟩
  have Hb := Lib.hid hb
  have hB := hb.size
  clear hb
  by_cases hg : good m
  · obtain rfl := ha.is hg
    have Hg := Lib.hid hg
    have CO2 := Lib.hid (CO.out w1 hg (Hm.out.below Hb.out))
    have hmx : m.length ≤ 6 := hg.1.2.1
    clear ha hg CG CO
    go_wp2_with fail
    refine CO2.out.mono ?_
    rintro e w2 ⟨ha, hb2⟩
    have HB2 := Lib.hid (Hb.out.trans (hb2.mono hB))
    clear hb2 CO2
    by_cases hk : ofK m 2
    · obtain rfl := ha.is hk
      have Hk := Lib.hid hk
      clear ha hk
      obtain ⟨h, hh⟩ : ∃ h, h = m.length / 2 := ⟨_, rfl⟩
      have hq : (m.length : Int) / 2 = (h : Int) := by omega
      have hhn : h ≤ m.length := by omega
      have Hh := Lib.hid hh
      clear hh
      go_wp2
      go_loopw [4, 17] (fun out i wr => ∃ (k : Nat) (vs : List Value), k ≤ m.length ∧ i = .int .i64 k ∧ OwnP wr w.heap.size out k (firstT m m.length h) k vs ∧ Below w.heap.size w wr) (fun _ i _ => m.length - (intOf i).toNat)
      case atStart => exact ⟨0, [], Nat.zero_le _, rfl, ⟨World.ownsRow_nil _ _ _ _, fun i hi => absurd hi (by omega), fun i j _ hj => absurd hj (by omega)⟩, HB2.out⟩
      case round =>
        obtain ⟨k, vs, hk, rfl, hout, hbr⟩ := hrel
        have Hout := Lib.hid hout
        have Hbr := Lib.hid hbr
        have hBr := hbr.size
        clear hout hbr HB2
        by_cases hlt : k < m.length
        · obtain ⟨b1, o1, r1, d1, e1, hc0, hr1, hd1, _⟩ := Hm.out k hlt
          have hrl : (gr m k).length = m.length := Hg.out.1.2.2 k hlt
          obtain ⟨b2, o2, e2, _⟩ := hr1 0 (by omega)
          have hc1 := cell_below hc0 Hbr.out
          rw [hrl] at hc1 hd1
          have hhd : h ≤ d1 := by omega
          have HR := Lib.hid (firstT_row (m := m) (r := m.length) (c := h) hlt (by omega))
          have CL := l1Own_any r1 d1 ((gr m k).take h) wr (by rw [List.length_take]; omega) (fun e => by rw [e2] at e; cases e) ((hr1.below Hbr.out).take h)
          rw [List.length_take, hrl, Nat.min_eq_left hhn] at CL
          rw [← HR.out] at CL
          subst e1 e2
          have CL := Lib.hid CL
          clear hr1 hc0
          go_wp2_with fail
          refine CL.out.mono ?_
          rintro e w3 ⟨cv, rfl, hv, hb3⟩
          obtain ⟨ca, cc, hcv, _, _, _⟩ := hv.read
          subst hcv
          have HV := Lib.hid hv
          have Hout2 := Lib.hid (Hout.out.below hb3)
          have Hb3 := Lib.hid hb3
          have hB3 := hb3.size
          have hfr := Lib.hid (Hout.out.fresh hv (Nat.le_refl _))
          clear hv hb3 CL
          go_wp2_with (at_builtin; refine wpList_append_own _ rfl _ _ 22 rfl w.heap.size 42 j0 (.slice none 0 0) 1 24 Tryd.underlying22 hj hy0 hy1 hy2 rfl (by decide) _ _ _ rfl (World.ownsRow.alloc Hout2.out.top _) ⟨w3.heap.size, 0, none⟩ 1 1 [.slice ca (gr (firstT m m.length h) k).length cc] rfl rfl ?d1 ?d2 ?d3 ?d4 ?d5 ?_)
          case d1 => exact cell_one_new _ _ _
          case d2 => intro u hu; simp at hu; subst hu; rfl
          case d3 => unfold maxLen; omega
          case d4 => omega
          case d5 => simp; omega
          intro v' w4 hown' hgrow _
          have hput := Hout2.out.snoc (show w.heap.size ≤ w3.heap.size by omega) (HV.out.base hBr) hfr.out hown' hgrow
          have Hput := Lib.hid hput
          clear hput hown' hgrow
          go_wp2
          go_roundw
          case rel => exact ⟨k + 1, _, by omega, by go_num, Hput.out.1, (Hbr.out.trans (Hb3.out.mono hBr)).trans Hput.out.2⟩
          case measure => simp [intOf]; omega
        · obtain rfl : k = m.length := by omega
          have HO := Lib.hid (show OwnM wr w.heap.size _ (firstT m m.length (m.length / 2)) from ⟨vs, by rw [← Hh.out, show (firstT m m.length h).length = m.length from tab_len _ _ _]; exact Hout.out⟩)
          clear Hout
          go_wp2
          go_ret2
          exact ⟨MRes.yes ⟨Hg.out, Hk.out⟩ HO.out, Hbr.out⟩
    · obtain rfl := ha.isnt hk
      have Hk := Lib.hid (show ¬(good m ∧ ofK m 2) from fun h => hk h.2)
      clear ha hk
      go_wp2
      go_ret2
      exact ⟨MRes.no Hk.out, HB2.out⟩
  · obtain rfl := ha.isnt hg
    have Hg := Lib.hid (show ¬(good m ∧ ofK m 2) from fun h => hg h.1)
    clear ha hg
    go_wp2
    go_ret2
    exact ⟨MRes.no Hg.out, Hb.out⟩

set_option maxRecDepth 100000 in
set_option maxHeartbeats 1600000 in
theorem specMiddleOf_any (ao : Option Addr) (c : Nat) (m : List (List Int)) (w : World) (hs : Small m) (hm : MatAt w ao m) :
    Calls Tryd.prog 31 #[.slice ao m.length c] w fun e w' => LRes (good m ∧ ofK m 2) (midL m) w' w.heap.size e ∧ Below w.heap.size w w' := by
  have Hm := Lib.hid hm
  have CG := Lib.hid (sgGood_any ao c m w hs hm)
  have CO := Lib.hid (fun w' (h : good m) (h2 : MatAt w' ao m) => smHas_any ao c 2 m w' h.1 h2 (by omega))
  clear hm hs
  go_enter Tryd.func31, Tryd.ntmps31
  go_wp2_with fail
  refine CG.out.mono ?_
  rintro e w1 ⟨ha, hb⟩
  have Hb := Lib.hid hb
  have hB := hb.size
  clear hb
  by_cases hg : good m
  · obtain rfl := ha.is hg
    have Hg := Lib.hid hg
    have CO2 := Lib.hid (CO.out w1 hg (Hm.out.below Hb.out))
    have hmx : m.length ≤ 6 := hg.1.2.1
    clear ha hg CG CO
    go_wp2_with fail
    refine CO2.out.mono ?_
    rintro e w2 ⟨ha, hb2⟩
    have HB2 := Lib.hid (Hb.out.trans (hb2.mono hB))
    clear hb2 CO2
    by_cases hk : ofK m 2
    · obtain rfl := ha.is hk
      have Hk := Lib.hid hk
      clear ha hk
      obtain ⟨h, hh⟩ : ∃ h, h = m.length / 2 := ⟨_, rfl⟩
      have hq : (m.length : Int) / 2 = (h : Int) := by omega
      have Hh := Lib.hid hh
      clear hh
      go_wp2
      go_loopw [4, 17] (fun out i wr => ∃ k : Nat, k ≤ m.length ∧ i = .int .i64 k ∧ OwnI wr w.heap.size out ((midL m).take k) ∧ Below w.heap.size w wr) (fun _ i _ => m.length - (intOf i).toNat)
      case atStart => exact ⟨0, Nat.zero_le _, rfl, OwnI.nil _ _, HB2.out⟩
      case round =>
        obtain ⟨k, hk, rfl, hout, hbr⟩ := hrel
        have Hout := Lib.hid hout
        have Hbr := Lib.hid hbr
        clear hout hbr HB2
        by_cases hlt : k < m.length
        · obtain ⟨b1, o1, r1, d1, e1, hc0, hr1, _, _⟩ := Hm.out k hlt
          have hrl : (gr m k).length = m.length := Hg.out.1.2.2 k hlt
          have hhn : h < m.length := by have := Hh.out; omega
          obtain ⟨b2, o2, e2, hc2⟩ := (hr1.below Hbr.out) h (by omega)
          have hc1 := cell_below hc0 Hbr.out
          rw [hrl] at hc1
          have HS := Lib.hid (show (midL m).take k ++ [gi (gr m k) h] = (midL m).take (k + 1) from by rw [take_snocH (by rw [midL_len]; exact hlt), midL_at hlt, Hh.out])
          have Hln := Lib.hid (show ((midL m).take k).length < 1048576 from by rw [List.length_take, midL_len]; omega)
          subst e1 e2
          obtain ⟨x, hx⟩ : ∃ x, x = gi (gr m k) h := ⟨_, rfl⟩
          rw [← hx] at hc2 HS
          clear hr1 hc0 hx
          go_wp2_with (at_builtin; refine wpList_numT rfl _ _ rfl w.heap.size _ _ x Hout.out rfl rfl Hbr.out.size Hln.out ?_)
          intro v5 w5 hv5 hb5
          rw [HS.out] at hv5
          have HV5 := Lib.hid hv5
          have HB5 := Lib.hid (Hbr.out.trans hb5)
          clear hv5 hb5
          go_wp2
          go_roundw
          case rel => exact ⟨k + 1, by omega, by go_num, HV5.out, HB5.out⟩
          case measure => simp [intOf]; omega
        · obtain rfl : k = m.length := by omega
          have HO := Lib.hid (show OwnI wr w.heap.size _ (midL m) from by have h1 := Hout.out; rw [List.take_of_length_le (by rw [midL_len]; exact Nat.le_refl _)] at h1; exact h1)
          clear Hout
          go_wp2
          go_ret2
          exact ⟨LRes.yes ⟨Hg.out, Hk.out⟩ HO.out, Hbr.out⟩
    · obtain rfl := ha.isnt hk
      have Hk := Lib.hid (show ¬(good m ∧ ofK m 2) from fun h => hk h.2)
      clear ha hk
      go_wp2
      go_ret2
      exact ⟨LRes.no Hk.out, HB2.out⟩
  · obtain rfl := ha.isnt hg
    have Hg := Lib.hid (show ¬(good m ∧ ofK m 2) from fun h => hg h.1)
    clear ha hg
    go_wp2
    go_ret2
    exact ⟨LRes.no Hg.out, Hb.out⟩

/-- an upper half is told -/
def uhQ (m : List (List Int)) : Prop := good m ∧ m.length % 2 = 0 ∧ ofK m 0

set_option maxRecDepth 100000 in
set_option maxHeartbeats 1600000 in
theorem specUpperHalf_any (ao : Option Addr) (c : Nat) (m : List (List Int)) (w : World) (hs : Small m) (hm : MatAt w ao m) (hc1 : m.length ≤ c) (hc2 : c ≤ 9223372036854775807) :
    Calls Tryd.prog 29 #[.slice ao m.length c] w fun e w' => MRes (uhQ m) (firstT m (m.length / 2) m.length) w' w.heap.size e ∧ Below w.heap.size w w' := by
  have Hm := Lib.hid hm
  have CG := Lib.hid (sgGood_any ao c m w hs hm)
  have CO := Lib.hid (fun w' (h : good m) (h2 : MatAt w' ao m) => smHas_any ao c 0 m w' h.1 h2 (by omega))
  clear hm hs
  go_enter Tryd.func29, Tryd.ntmps29
  go_wp2_with fail
  refine CG.out.mono ?_
  rintro e w1 ⟨ha, hb⟩
  have Hb := Lib.hid hb
  have hB := hb.size
  clear hb
  by_cases hg : good m
  · obtain rfl := ha.is hg
    have Hg := Lib.hid hg
    have CO2 := Lib.hid (CO.out w1 hg (Hm.out.below Hb.out))
    have hmx : m.length ≤ 6 := hg.1.2.1
    have hm1 : 1 ≤ m.length := hg.1.1
    clear ha hg CG CO
    by_cases hev : m.length % 2 = 0
    · have hb0 : ((m.length : Int) % 2 == 1) = false := by simp; omega
      go_wp2_with fail
      refine CO2.out.mono ?_
      rintro e w2 ⟨ha, hb2⟩
      have HB2 := Lib.hid (Hb.out.trans (hb2.mono hB))
      clear hb2 CO2
      by_cases hk : ofK m 0
      · obtain rfl := ha.is hk
        have HP := Lib.hid (show uhQ m from ⟨Hg.out, hev, hk⟩)
        clear ha hk hb0
        obtain ⟨h, hh⟩ : ∃ h, h = m.length / 2 := ⟨_, rfl⟩
        have hq : (m.length : Int) / 2 = (h : Int) := by omega
        have hhn : h ≤ m.length := by omega
        have HE := Lib.hid (show m.take h = firstT m (m.length / 2) m.length from by rw [← hh]; exact firstT_take hhn (fun i hi => Hg.out.1.2.2 i (by omega)))
        obtain ⟨b1, o1, r1, d1, e1, hc0, hr1, _, hcap⟩ := Hm.out 0 (by omega)
        have CC := smCopy_any ao c (m.take h) w2 (by
          refine ⟨by rw [List.length_take]; omega, fun i hi => ?_⟩
          rw [List.length_take] at hi
          have e : gr (m.take h) i = gr m i := by unfold gr; rw [List.getD, List.getD, List.getElem?_take_of_lt (by omega)]
          rw [e, Hg.out.1.2.2 i (by omega)]
          omega) ((Hm.out.below HB2.out).take h) (nilRows_full ((Hm.out.below HB2.out).take h) (fun i hi => by
            rw [List.length_take] at hi
            have e : gr (m.take h) i = gr m i := by unfold gr; rw [List.getD, List.getD, List.getElem?_take_of_lt (by omega)]
            rw [e, Hg.out.1.2.2 i (by omega)]
            omega))
        rw [List.length_take, Nat.min_eq_left hhn, HE.out] at CC
        have CC := Lib.hid CC
        subst e1
        have hhc : h ≤ c := by omega
        have HN := Lib.hid (show (firstT m (m.length / 2) m.length).length = h from by rw [← hh]; exact tab_len _ _ _)
        clear hh hev hr1 hc0
        go_wp2_with fail
        refine CC.out.mono ?_
        rintro e w3 ⟨v, rfl, hv, hb3⟩
        have HV := Lib.hid (hv.base HB2.out.size)
        have HB3 := Lib.hid (HB2.out.trans (hb3.mono HB2.out.size))
        clear hv hb3 CC
        go_wp2
        go_ret2
        exact ⟨MRes.yes HP.out HV.out, HB3.out⟩
      · obtain rfl := ha.isnt hk
        have Hk := Lib.hid (show ¬uhQ m from fun h => hk h.2.2)
        clear ha hk
        go_wp2
        go_ret2
        exact ⟨MRes.no Hk.out, HB2.out⟩
    · have hb0 : ((m.length : Int) % 2 == 1) = true := by simp; omega
      have Hk := Lib.hid (show ¬uhQ m from fun h => hev h.2.1)
      clear hev
      go_wp2
      go_ret2
      exact ⟨MRes.no Hk.out, Hb.out⟩
  · obtain rfl := ha.isnt hg
    have Hg := Lib.hid (show ¬uhQ m from fun h => hg h.1)
    clear ha hg
    go_wp2
    go_ret2
    exact ⟨MRes.no Hg.out, Hb.out⟩
end Go.Proofs.YtgdijjfipicodaaDoor

namespace Go.Proofs.YtgdijjfipicodaaDoor
open Go.RowKit

set_option maxRecDepth 100000 in
set_option maxHeartbeats 1600000 in
theorem isSignsOfKind_any (ao : Option Addr) (c k : Nat) (m : List (List Int)) (w : World) (hs : Small m) (hwf : WfM m) (hm : MatAt w ao m) (hk : k < 5) (hS : Sk w) :
    Calls Tryd.prog 58 #[.slice ao m.length c, .int .i64 (k : Int)] w fun e w' => Ans (good m ∧ ofK m k) e ∧ Below w.heap.size w w' := by
  have Hm := Lib.hid hm
  have HS := Lib.hid hS
  have CG := Lib.hid (implIsSign_any ao c m w hs hwf hm)
  have CO := Lib.hid (fun w' (h : good m) (h2 : MatAt w' ao m) (h3 : Sk w') => isOfKind_any ao c k m w' h.1 h2 hk h3)
  clear hm hs hwf hS hk
  go_enter Tryd.func58, Tryd.ntmps58
  go_wp2_with fail
  refine CG.out.mono ?_
  rintro e w1 ⟨ha, hb⟩
  have Hb := Lib.hid hb
  have hB := hb.size
  clear hb
  by_cases hg : good m
  · obtain rfl := ha.is hg
    have Hg := Lib.hid hg
    have CO2 := Lib.hid (CO.out w1 hg (Hm.out.below Hb.out) (HS.out.below Hb.out))
    clear ha hg CG CO
    go_wp2_with fail
    refine CO2.out.mono ?_
    rintro e w3 ⟨⟨b, rfl, hbb⟩, hb3⟩
    have Hbb := Lib.hid hbb
    have HB3 := Lib.hid (Hb.out.trans (hb3.mono hB))
    clear hbb hb3
    go_wp2
    go_ret
    exact ⟨⟨_, rfl, by rw [Hbb.out]; exact ⟨fun h => ⟨Hg.out, h⟩, fun h => h.2⟩⟩, HB3.out⟩
  · obtain rfl := ha.isnt hg
    have Hg := Lib.hid (show ¬(good m ∧ ofK m k) from fun h => hg h.1)
    clear ha hg
    go_wp2
    go_ret
    exact ⟨Ans.no Hg.out, Hb.out⟩

set_option maxRecDepth 100000 in
set_option maxHeartbeats 3200000 in
theorem firstOf_any (ao : Option Addr) (c R C : Nat) (m : List (List Int)) (w : World) (hsq : square m) (hm : MatAt w ao m) (hR : R ≤ m.length) (hC : C ≤ m.length) :
    Calls Tryd.prog 59 #[.slice ao m.length c, .int .i64 (R : Int), .int .i64 (C : Int)] w fun e w' => ∃ v, e = .returned v ∧ OwnM w' w.heap.size v (firstT m R C) ∧ Below w.heap.size w w' := by
  obtain ⟨n, hn⟩ : ∃ n, n = m.length := ⟨_, rfl⟩
  have hn6 : n ≤ 6 := by rw [hn]; exact hsq.2.1
  have HN := Lib.hid hn
  have Hsq := Lib.hid hsq
  have Hm := Lib.hid hm
  rw [← hn] at hR hC ⊢
  clear hsq hm hn
  go_enter Tryd.func59, Tryd.ntmps59
  go_wp2_with fail
  refine (newTable_any R C w (by omega) (by omega)).mono ?_
  rintro e w1 ⟨vs, rfl, hv, hb⟩
  have Hv := Lib.hid hv
  have Hb := Lib.hid hb
  clear hv hb
  obtain ⟨G, hG⟩ : ∃ G, G = w.heap.size := ⟨_, rfl⟩
  rw [← hG] at Hv ⊢
  have HGe := Lib.hid hG
  clear hG
  go_wp2
  go_loopw [15] (fun y wr => ∃ (k : Nat) (f : Nat → Nat → Int), k ≤ R ∧ y = .int .i64 k ∧ OwnP wr G (.slice (some ⟨G, 0, none⟩) R R) R (tab R C f) R vs ∧ (∀ a b, a < k → b < C → f a b = gi (gr m a) b) ∧ Below w.heap.size w wr) (fun y _ => R - (intOf y).toNat)
  case atStart => exact ⟨0, _, Nat.zero_le _, rfl, Hv.out, fun a b ha _ => absurd ha (by omega), Hb.out⟩
  case round =>
    obtain ⟨k, f, hk, rfl, hown, hf, hbr⟩ := hrel
    clear Hv Hb
    have Hf := Lib.hid hf
    have Hbr := Lib.hid hbr
    have Hown := Lib.hid hown
    clear hf hbr hown
    by_cases hlt : k < R
    · have hlm : k < m.length := by rw [← HN.out]; omega
      have hltn : k < n := by omega
      obtain ⟨b1, o1, r1, d1, e1, hc1, hx1, _, _⟩ := Hm.out k hlm
      have hrl : (gr m k).length = n := by rw [HN.out]; exact Hsq.out.2.2 k hlm
      obtain ⟨b3, o3, e3, _⟩ := hx1 0 (by omega)
      have hc2 := cell_below hc1 Hbr.out
      rw [hrl] at hc2
      have Hx := Lib.hid (hx1.below Hbr.out)
      have hd := Hown.out.cellAt k hlt
      subst e1 e3
      clear hx1 hc1
      by_cases h0 : C = 0
      · have hrow := Hown.out.rows k hlt
        obtain ⟨ra, rc, hre, _, _, _⟩ := hrow.read
        have hz : (gr (tab R C f) k).length = C := tab_row hlt
        have H0 := Lib.hid h0
        rw [hz] at hre
        rw [hre] at hd
        clear hrow hz hre h0
        go_wp2_with (refine wpList_copy_nothing rfl _ _ 42 42 rfl 3 Tryd.underlying42 (by kernel_rfl) ra _ C rc n d1 rfl rfl (by rw [H0.out]; exact Nat.min_zero _) ?_)
        go_wp2
        go_roundw
        case rel => exact ⟨k + 1, f, by omega, by go_num, Hown.out, fun a b _ hb => absurd hb (by have := H0.out; omega), Hbr.out⟩
        case measure => simp [intOf]; omega
      · obtain ⟨g, cap, hvs, _, _, _, _⟩ := Hown.out.at2 (i := k) (j := 0) hlt (by omega)
        rw [hvs] at hd
        have Hvs := Lib.hid hvs
        have HC0 := Lib.hid (show 0 < C by omega)
        obtain ⟨xs, hxs⟩ : ∃ xs, xs = (gr m k).take C := ⟨_, rfl⟩
        have hxl : xs.length = C := by rw [hxs, List.length_take, hrl]; omega
        have Hxl := Lib.hid hxl
        have H2 := Lib.hid (show 0 + xs.length ≤ C by rw [hxl]; omega)
        have H3 := Lib.hid (show xs.length = Nat.min n C by rw [hxl]; exact (Nat.min_eq_right (by omega)).symm)
        have Hx0 := Lib.hid (show IntsAt wr (some ⟨b3, o3, none⟩) xs by rw [hxs]; exact Hx.out.take C)
        have Hxv := Lib.hid (show ∀ b, b < C → gi xs b = gi (gr m k) b from fun b hb => by rw [hxs]; unfold gi; rw [List.getD, List.getD, List.getElem?_take_of_lt hb])
        have Hlt := Lib.hid hlt
        clear hvs hxs hxl h0 hrl
        go_wp2_with ((with_reducible refine wpList_copy_grid2 (o := ⟨some 25, _, _, _, _, _⟩) ?gA1 (.tmp 20) (.tmp 24) ?gA2 Hown.out k 0 Hlt.out xs H2.out g cap Hvs.out C cap n d1 b3 o3 ?gA3 H3.out ?hsA Hx0.out ?_))
        case gA1 => rfl
        case gA2 => rfl
        case gA3 => rfl
        case hsA => rfl
        intro w5 hown5 hb5
        have Hown5 := Lib.hid hown5
        have HB5 := Lib.hid (Hbr.out.trans (show Below w.heap.size wr w5 by rw [← HGe.out]; exact hb5))
        clear hown5 hb5 Hown hd
        go_wp2
        go_roundw
        case rel =>
          refine ⟨k + 1, _, by omega, by go_num, Hown5.out, fun a b ha hb => ?_, HB5.out⟩
          have hxl := Hxl.out
          by_cases e : a = k
          · have hb2 : b < xs.length := by omega
            simp [e, hb2, Hxv.out b hb]
          · have e9 := Hf.out a b (by omega) hb
            simp [e, e9]
        case measure => simp [intOf]; omega
    · obtain rfl : k = R := by omega
      have he : tab k C f = firstT m k C := eq_tab (tab_len _ _ _) (fun i hi => tab_row hi) fun i j hi hj => by rw [gi_tab hi hj, Hf.out i j hi hj]
      have HO := Lib.hid (show OwnM wr w.heap.size (.slice (some ⟨G, 0, none⟩) k k) (firstT m k C) from ⟨vs, by
        have h1 := Hown.out
        rw [he] at h1
        rw [show (firstT m k C).length = k from tab_len _ _ _, ← HGe.out]
        exact h1⟩)
      clear Hown he
      go_wp2
      go_ret
      exact ⟨_, rfl, HO.out, Hbr.out⟩

set_option maxRecDepth 100000 in
set_option maxHeartbeats 1600000 in
theorem implLeftHalf_any (ao : Option Addr) (c : Nat) (m : List (List Int)) (w : World) (hs : Small m) (hwf : WfM m) (hm : MatAt w ao m) (hS : Sk w) :
    Calls Tryd.prog 26 #[.slice ao m.length c] w fun e w' => MRes (good m ∧ ofK m 2) (firstT m m.length (m.length / 2)) w' w.heap.size e ∧ Below w.heap.size w w' := by
  have Hm := Lib.hid hm
  have CK := Lib.hid (isSignsOfKind_any ao c 2 m w hs hwf hm (by omega) hS)
  have CF := Lib.hid (fun w' (h : good m) (h2 : MatAt w' ao m) => firstOf_any ao c m.length (m.length / 2) m w' h.1 h2 (Nat.le_refl _) (by omega))
  have hl := hs.1
  clear hm hs hwf hS
  go_enter Tryd.func26, Tryd.ntmps26
  go_wp2_with fail
  refine CK.out.mono ?_
  rintro e w1 ⟨ha, hb⟩
  have Hb := Lib.hid hb
  have hB := hb.size
  clear hb CK
  by_cases hg : good m ∧ ofK m 2
  · obtain rfl := ha.is hg
    have Hg := Lib.hid hg
    have CF2 := CF.out w1 hg.1 (Hm.out.below Hb.out)
    obtain ⟨h, hh⟩ : ∃ h, h = m.length / 2 := ⟨_, rfl⟩
    have hq : (m.length : Int) / 2 = (h : Int) := by omega
    have hwh : IntKind.i64.wrap (h : Int) = (h : Int) := w64 (by omega)
    rw [← hh] at CF2
    have HH := Lib.hid hh
    have CF2 := Lib.hid CF2
    clear ha hg CF hh
    go_wp2_with fail
    refine CF2.out.mono ?_
    rintro e w3 ⟨v, rfl, hv, hb3⟩
    have Hv := Lib.hid (show OwnM w3 w.heap.size v (firstT m m.length (m.length / 2)) from by rw [← HH.out]; exact hv.base hB)
    have HB3 := Lib.hid (Hb.out.trans (hb3.mono hB))
    clear hv hb3
    go_wp2
    go_ret2
    exact ⟨MRes.yes Hg.out Hv.out, HB3.out⟩
  · obtain rfl := ha.isnt hg
    have Hg := Lib.hid hg
    clear ha hg
    go_wp2
    go_ret2
    exact ⟨MRes.no Hg.out, Hb.out⟩

set_option maxRecDepth 100000 in
set_option maxHeartbeats 1600000 in
theorem implUpperHalf_any (ao : Option Addr) (c : Nat) (m : List (List Int)) (w : World) (hs : Small m) (hwf : WfM m) (hm : MatAt w ao m) (hS : Sk w) :
    Calls Tryd.prog 30 #[.slice ao m.length c] w fun e w' => MRes (uhQ m) (firstT m (m.length / 2) m.length) w' w.heap.size e ∧ Below w.heap.size w w' := by
  have Hm := Lib.hid hm
  have CK := Lib.hid (isSignsOfKind_any ao c 0 m w hs hwf hm (by omega) hS)
  have CF := Lib.hid (fun w' (h : good m) (h2 : MatAt w' ao m) => firstOf_any ao c (m.length / 2) m.length m w' h.1 h2 (by omega) (Nat.le_refl _))
  have hl := hs.1
  clear hm hs hwf hS
  go_enter Tryd.func30, Tryd.ntmps30
  go_wp2_with fail
  refine CK.out.mono ?_
  rintro e w1 ⟨ha, hb⟩
  have Hb := Lib.hid hb
  have hB := hb.size
  clear hb CK
  by_cases hg : good m ∧ ofK m 0
  · obtain rfl := ha.is hg
    have Hg := Lib.hid hg
    clear ha hg
    by_cases hev : m.length % 2 = 0
    · have hb0 : ((m.length : Int) % 2 == 1) = false := by simp; omega
      have HP := Lib.hid (show uhQ m from ⟨Hg.out.1, hev, Hg.out.2⟩)
      have CF2 := CF.out w1 Hg.out.1 (Hm.out.below Hb.out)
      obtain ⟨h, hh⟩ : ∃ h, h = m.length / 2 := ⟨_, rfl⟩
      have hq : (m.length : Int) / 2 = (h : Int) := by omega
      have hwh : IntKind.i64.wrap (h : Int) = (h : Int) := w64 (by omega)
      rw [← hh] at CF2
      have HH := Lib.hid hh
      have CF2 := Lib.hid CF2
      clear CF hh hev
      go_wp2_with fail
      refine CF2.out.mono ?_
      rintro e w3 ⟨v, rfl, hv, hb3⟩
      have Hv := Lib.hid (show OwnM w3 w.heap.size v (firstT m (m.length / 2) m.length) from by rw [← HH.out]; exact hv.base hB)
      have HB3 := Lib.hid (Hb.out.trans (hb3.mono hB))
      clear hv hb3
      go_wp2
      go_ret2
      exact ⟨MRes.yes HP.out Hv.out, HB3.out⟩
    · have hb0 : ((m.length : Int) % 2 == 1) = true := by simp; omega
      have Hk := Lib.hid (show ¬uhQ m from fun h => hev h.2.1)
      clear hev
      go_wp2
      go_ret2
      exact ⟨MRes.no Hk.out, Hb.out⟩
  · obtain rfl := ha.isnt hg
    have Hg := Lib.hid (show ¬uhQ m from fun h => hg ⟨h.1, h.2.2⟩)
    clear ha hg
    go_wp2
    go_ret2
    exact ⟨MRes.no Hg.out, Hb.out⟩

set_option maxRecDepth 100000 in
set_option maxHeartbeats 1600000 in
theorem implMiddleOf_any (ao : Option Addr) (c : Nat) (m : List (List Int)) (w : World) (hs : Small m) (hwf : WfM m) (hm : MatAt w ao m) (hS : Sk w) :
    Calls Tryd.prog 32 #[.slice ao m.length c] w fun e w' => LRes (good m ∧ ofK m 2) (midL m) w' w.heap.size e ∧ Below w.heap.size w w' := by
  have Hm := Lib.hid hm
  have CK := Lib.hid (isSignsOfKind_any ao c 2 m w hs hwf hm (by omega) hS)
  clear hm hs hwf hS
  go_enter Tryd.func32, Tryd.ntmps32
  go_wp2_with fail
  refine CK.out.mono ?_
  rintro e w1 ⟨ha, hb⟩
  have HB2 := Lib.hid hb
  clear hb CK
  by_cases hg : good m ∧ ofK m 2
  · obtain rfl := ha.is hg
    have Hg := Lib.hid hg
    have hmx : m.length ≤ 6 := hg.1.1.2.1
    clear ha hg
    obtain ⟨h, hh⟩ : ∃ h, h = m.length / 2 := ⟨_, rfl⟩
    have hq : (m.length : Int) / 2 = (h : Int) := by omega
    have Hh := Lib.hid hh
    clear hh
    go_wp2
    go_loopw [4, 12] (fun out i wr => ∃ k : Nat, k ≤ m.length ∧ i = .int .i64 k ∧ OwnI wr w.heap.size out ((midL m).take k) ∧ Below w.heap.size w wr) (fun _ i _ => m.length - (intOf i).toNat)
    case atStart => exact ⟨0, Nat.zero_le _, rfl, OwnI.nil _ _, HB2.out⟩
    case round =>
      obtain ⟨k, hk, rfl, hout, hbr⟩ := hrel
      have Hout := Lib.hid hout
      have Hbr := Lib.hid hbr
      clear hout hbr HB2
      by_cases hlt : k < m.length
      · obtain ⟨b1, o1, r1, d1, e1, hc0, hr1, _, _⟩ := Hm.out k hlt
        have hrl : (gr m k).length = m.length := Hg.out.1.1.2.2 k hlt
        have hhn : h < m.length := by have := Hh.out; omega
        obtain ⟨b2, o2, e2, hc2⟩ := (hr1.below Hbr.out) h (by omega)
        have hc1 := cell_below hc0 Hbr.out
        rw [hrl] at hc1
        have HS := Lib.hid (show (midL m).take k ++ [gi (gr m k) h] = (midL m).take (k + 1) from by rw [take_snocH (by rw [midL_len]; exact hlt), midL_at hlt, Hh.out])
        have Hln := Lib.hid (show ((midL m).take k).length < 1048576 from by rw [List.length_take, midL_len]; omega)
        subst e1 e2
        obtain ⟨x, hx⟩ : ∃ x, x = gi (gr m k) h := ⟨_, rfl⟩
        rw [← hx] at hc2 HS
        clear hr1 hc0 hx
        go_wp2_with (at_builtin; refine wpList_numT rfl _ _ rfl w.heap.size _ _ x Hout.out rfl rfl Hbr.out.size Hln.out ?_)
        intro v5 w5 hv5 hb5
        rw [HS.out] at hv5
        have HV5 := Lib.hid hv5
        have HB5 := Lib.hid (Hbr.out.trans hb5)
        clear hv5 hb5
        go_wp2
        go_roundw
        case rel => exact ⟨k + 1, by omega, by go_num, HV5.out, HB5.out⟩
        case measure => simp [intOf]; omega
      · obtain rfl : k = m.length := by omega
        have HO := Lib.hid (show OwnI wr w.heap.size _ (midL m) from by have h1 := Hout.out; rw [List.take_of_length_le (by rw [midL_len]; exact Nat.le_refl _)] at h1; exact h1)
        clear Hout
        go_wp2
        go_ret2
        exact ⟨LRes.yes Hg.out HO.out, Hbr.out⟩
  · obtain rfl := ha.isnt hg
    have Hg := Lib.hid hg
    clear ha hg
    go_wp2
    go_ret2
    exact ⟨LRes.no Hg.out, HB2.out⟩
end Go.Proofs.YtgdijjfipicodaaDoor

