/- Contracts of the model: the matrices with a left half and with an upper half. Conditions: lengths up to 2^20; a row that is nil has no room. -/
import Derived.Test.YtgdijjfipicodaaHfM
import Derived.Test.YtgdijjfipicodaaDpG
import Derived.Test.YtgdijjfipicodaaOwnT
import Derived.Test.YtgdijjfipicodaaOwnV
import Derived.Test.YtgdijjfipicodaaSpecC
namespace Go.Proofs.Ytgdijjfipicodaa
open Go.RowKit

/-- the first k rows can be those of a left half -/
def hfTo (rows : List (List Int)) (k : Nat) : Prop := ∀ i, i < k → (gr rows i).length = rows.length / 2 ∧ allIn (gr rows i) (-1) 1
theorem hfTo.lhP {rows : List (List Int)} (h : hfTo rows rows.length) (h1 : 1 ≤ rows.length ∧ rows.length ≤ 6) (h2 : rows.length % 2 = 1) : lhP rows := ⟨h1.1, h1.2, h2, fun i hi => (h i hi).1⟩
theorem sumK_bd {xs : List Int} (h : allIn xs (-1) 1) : ∀ t, t ≤ xs.length → -(t : Int) ≤ sumK xs t ∧ sumK xs t ≤ (t : Int)
  | 0, _ => by simp [sumK]
  | t + 1, ht => by
    have h1 := sumK_bd h t (by omega)
    have h2 := h t (by omega)
    rw [sumK]
    omega
theorem take_snoc {xs : List Int} {k : Nat} (hk : k < xs.length) : xs.take (k + 1) = xs.take k ++ [gi xs k] := by
  rw [List.take_succ_eq_append_getElem hk, gi_lt hk]
theorem lsM_row {rows : List (List Int)} {i : Nat} (hi : i < rows.length) : (gr (lsM rows) i).length = rows.length := tab_row hi
theorem lsM_low {rows : List (List Int)} {i h : Nat} (hi : i < rows.length) (hh : h = rows.length / 2) (hl : (gr rows i).length = h) : (gr (lsM rows) i).take h = gr rows i := by
  refine ext_gi (by rw [List.length_take, lsM_row hi]; omega) fun j hj => ?_
  rw [List.length_take, lsM_row hi] at hj
  have e : gi ((gr (lsM rows) i).take h) j = gi (gr (lsM rows) i) j := by
    unfold gi
    rw [List.getD, List.getD, List.getElem?_take_of_lt (by omega)]
  rw [e]
  unfold lsM
  rw [gi_tab hi (by omega)]
  unfold lsF
  rw [if_pos (by omega)]
theorem lsM_mid {rows : List (List Int)} {i h : Nat} (hi : i < rows.length) (hh : h = rows.length / 2) : gi (gr (lsM rows) i) h = 1 - 2 * sumK (gr rows i) h := by
  unfold lsM
  rw [gi_tab hi (by omega), hh, ls_mid]
theorem lsM_high {rows : List (List Int)} {i h t : Nat} (hi : i < rows.length) (hn : rows.length = 2 * h + 1) (ht : t < h) : gi (gr (lsM rows) i) (h + 1 + t) = gi (gr rows i) (h - 1 - t) := by
  unfold lsM
  rw [gi_tab hi (by omega)]
  unfold lsF
  rw [if_neg (by omega), if_neg (by omega), show rows.length - 1 - (h + 1 + t) = h - 1 - t from by omega]
theorem lsM_small {rows : List (List Int)} (h : rows.length ≤ 6) : Small (lsM rows) := ⟨by rw [lsM_len]; omega, fun i hi => by rw [lsM_len] at hi; rw [lsM_row hi]; omega⟩
theorem no_lh {rows : List (List Int)} {i : Nat} (hi : i < rows.length) (h : ¬((gr rows i).length = rows.length / 2)) : ¬(lhP rows ∧ good (lhM rows)) := fun k => h (k.1.2.2.2 i hi)
theorem no_ls {rows : List (List Int)} {i : Nat} (hi : i < rows.length) (hl : (gr rows i).length = rows.length / 2) (h : ¬allIn (gr rows i) (-1) 1) : ¬(lhP rows ∧ good (lhM rows)) := fun k => h fun j hj => (lh_good k.1 k.2).1 i hi j (by omega)

theorem OwnM.nilR {w : World} {B n c : Nat} {ao : Option Addr} {m : List (List Int)} (h : OwnM w B (.slice ao n c) m) : NilRows w ao m := by
  intro k b o r d hk e hc hr
  obtain ⟨vs, h⟩ := h
  obtain ⟨ao', c', e', _, _, hcell⟩ := ownsRow_read h.top
  cases e'
  obtain ⟨b1, o1, e1, hc1⟩ := hcell k hk
  rw [e] at e1
  cases e1
  rw [hc] at hc1
  have h2 := h.rows k hk
  rw [← Option.some.inj hc1, hr] at h2
  exact OwnI.nil_of h2 rfl

set_option maxRecDepth 100000 in
set_option maxHeartbeats 3200000 in
theorem specFromLeftHalf_any (ao : Option Addr) (c : Nat) (rows : List (List Int)) (w : World) (hs : Small rows) (hm : MatAt w ao rows) (hz : NilRows w ao rows) :
    Calls Try.prog 28 #[.slice ao rows.length c] w fun e w' => MRes (lhP rows ∧ good (lhM rows)) (lhM rows) w' w.heap.size e ∧ Below w.heap.size w w' := by
  obtain ⟨i0, hi, hz0, hz1, hz2⟩ := info_parts Try.info_int
  obtain ⟨j0, hj, hy0, hy1, hy2⟩ := info_parts Try.info_ints
  have hl := hs.1
  have hmx : rows.length ≤ 9223372036854775807 := by omega
  have Hm := Lib.hid hm
  have Hs := Lib.hid hs
  have Hz := Lib.hid hz
  clear hm hs hz
  by_cases hn : 1 ≤ rows.length ∧ rows.length ≤ 6
  · by_cases hodd : rows.length % 2 = 1
    · have hb0 : ((rows.length : Int) % 2 == 0) = false := by simp; omega
      obtain ⟨h, hh⟩ : ∃ h, h = rows.length / 2 := ⟨_, rfl⟩
      have hq : (rows.length : Int) / 2 = (h : Int) := by omega
      have hh2 := Lib.hid (show rows.length = 2 * h + 1 by omega)
      have Hh := Lib.hid hh
      have Hn := Lib.hid hn
      have Hodd := Lib.hid hodd
      have h2 : h ≤ 2 := by omega
      have hn1 : rows.length ≤ 6 := hn.2
      clear hh hodd
      go_enter Try.func28, Try.ntmps28
      go_wp2_with fail
      refine (l1In_any _ _ _ w).mono ?_
      rintro e w2 ⟨ha, rfl⟩
      obtain rfl := ha.is ⟨by omega, by omega⟩
      clear ha hn
      go_wp2
      go_loopw [5, 25] (fun out i wr => ∃ (k : Nat) (vs : List Value), k ≤ rows.length ∧ i = .int .i64 k ∧ OwnP wr w.heap.size out k (lsM rows) k vs ∧ hfTo rows k ∧ Below w.heap.size w wr) (fun _ i _ => rows.length - (intOf i).toNat)
      case atStart => exact ⟨0, [], Nat.zero_le _, rfl, ⟨World.ownsRow_nil _ _ _ _, fun i hi => absurd hi (by omega), fun i j _ hj => absurd hj (by omega)⟩, fun i hi => absurd hi (by omega), Below.refl _ _⟩
      case round =>
        obtain ⟨k, vs, hk, rfl, hout, hto, hbr⟩ := hrel
        obtain ⟨wo, rfl⟩ : ∃ wo : World, wo = wr := ⟨_, rfl⟩
        have Hout := Lib.hid hout
        have Hto := Lib.hid hto
        have Hbr := Lib.hid hbr
        have hB := hbr.size
        clear hout hto hbr
        by_cases hlt : k < rows.length
        · obtain ⟨b1, o1, r1, d1, e0, hc0, hx1, _, _⟩ := Hm.out k hlt
          have hzk := Hz.out k b1 o1 r1 d1 hlt e0 hc0
          have hc1 := cell_below hc0 Hbr.out
          have hlk := Hs.out.2 k hlt
          have Hx1 := Lib.hid (hx1.below Hbr.out)
          have Hzk := Lib.hid hzk
          subst e0
          clear hx1 hzk hc0
          by_cases hrl : (gr rows k).length = h
          · have hrl2 := Lib.hid (show (gr rows k).length = rows.length / 2 by rw [hrl, Hh.out])
            have HL := Lib.hid (lsM_low hlt Hh.out hrl)
            have HM := Lib.hid (lsM_mid hlt Hh.out)
            have HHi := Lib.hid (fun t (ht : t < h) => lsM_high hlt hh2.out ht)
            have HR := Lib.hid (lsM_row hlt)
            have Hno := Lib.hid (fun x => no_ls hlt hrl2.out x)
            have Hsd := Lib.hid (fun x => sumK_bd (xs := gr rows k) x)
            have CA := Lib.hid (l1All_any r1 d1 (gr rows k) (-1) 1 wo hlk Hx1.out)
            have CO := Lib.hid (l1Own_any r1 d1 (gr rows k) wo hlk (fun e => (Hzk.out e).1) Hx1.out)
            have Hx2 := Lib.hid (fun (w1 : World) (hb : Below wo.heap.size wo w1) (i : Nat) (hi : i < h) => Hx1.out.below hb i (by rw [hrl]; exact hi))
            obtain ⟨row, hrow⟩ : ∃ row, row = gr rows k := ⟨_, rfl⟩
            have Hrow := Lib.hid hrow
            rw [← hrow] at hc1 hrl HL HM HHi Hno Hsd CA CO Hx2 hlk
            have Hrl := Lib.hid hrl
            have hbn : ((row.length : Int) != (h : Int)) = false := by simp; omega
            have Hgk := Lib.hid (show gr rows k = row from hrow.symm)
            clear hrow Hx1
            rw [hrl] at hc1 CA CO hbn
            clear hrl
            go_wp2_with fail
            refine CA.out.mono ?_
            rintro e w2 ⟨ha, rfl⟩
            by_cases hall : allIn row (-1) 1
            · obtain rfl := ha.is hall
              have Hall := Lib.hid hall
              clear ha hall CA Hno
              go_wp2_with fail
              refine CO.out.mono ?_
              rintro e w3 ⟨v3, rfl, hv3, hb3⟩
              obtain ⟨a3, c3, rfl, _, _, _⟩ := hv3.read
              have HV3 := Lib.hid hv3
              have HB3 := Lib.hid hb3
              have hB3 := hb3.size
              clear hv3 hb3 CO
              go_wp2
              go_loop [8, 43] (fun s i => ∃ t : Nat, t ≤ h ∧ i = .int .i64 t ∧ s = .int .i64 (sumK row t)) (fun _ i => h - (intOf i).toNat)
              case atStart => exact ⟨0, Nat.zero_le _, rfl, rfl⟩
              case round =>
                obtain ⟨t, ht, rfl, rfl⟩ := hrel
                have hsd := Hsd.out Hall.out t (by rw [Hrl.out]; exact ht)
                by_cases htl : t < h
                · obtain ⟨b2, o2, e2, hc2⟩ := Hx2.out w3 HB3.out t htl
                  subst e2
                  have hin := Hall.out t (by rw [Hrl.out]; exact htl)
                  have Hst := Lib.hid (show sumK row (t + 1) = sumK row t + gi row t from rfl)
                  obtain ⟨s, hs⟩ : ∃ s, s = sumK row t := ⟨_, rfl⟩
                  rw [← hs] at Hst hsd ⊢
                  obtain ⟨x, hx⟩ : ∃ x, x = gi row t := ⟨_, rfl⟩
                  rw [← hx] at Hst hin hc2
                  clear hs hx
                  have hw1 : IntKind.i64.wrap (s + x) = s + x := w64 (by omega)
                  go_wp2
                  go_round
                  case rel => exact ⟨t + 1, by omega, by go_num, by rw [Hst.out]⟩
                  case measure => simp [intOf]; omega
                · obtain rfl : t = h := by omega
                  have HM2 := HM.out
                  obtain ⟨s, hs⟩ : ∃ s, s = sumK row t := ⟨_, rfl⟩
                  rw [← hs] at HM2 hsd ⊢
                  have HM3 := Lib.hid HM2
                  clear hs HM2 HM
                  have hw1 : IntKind.i64.wrap (2 * s) = 2 * s := w64 (by omega)
                  have hw2 : IntKind.i64.wrap (1 - 2 * s) = 1 - 2 * s := w64 (by omega)
                  have hl3 : row.length < 1048576 := by have := Hrl.out; omega
                  have HRt := Lib.hid (show row ++ [1 - 2 * s] = (gr (lsM rows) k).take (t + 1) from by rw [take_snoc (by rw [HR.out, hh2.out]; omega), HL.out, HM3.out])
                  clear hsd
                  go_wp2_with (at_builtin; refine wpList_numT rfl _ _ rfl wo.heap.size _ row (1 - 2 * s) HV3.out (by rw [Hrl.out]; rfl) rfl hB3 hl3 ?_)
                  intro v4 w4 hv4 hb4
                  rw [HRt.out] at hv4
                  have HV4 := Lib.hid hv4
                  have HB4 := Lib.hid (HB3.out.trans hb4)
                  clear hv4 hb4 hw1 hw2
                  go_wp2
                  go_loopw [9, 12] (fun r i wr => ∃ u : Nat, u ≤ t ∧ i = .int .i64 ((t : Int) - 1 - u) ∧ OwnI wr wo.heap.size r ((gr (lsM rows) k).take (t + 1 + u)) ∧ Below wo.heap.size wo wr) (fun _ i _ => (intOf i + 1).toNat)
                  case atStart => exact ⟨0, Nat.zero_le _, by go_num, HV4.out, HB4.out⟩
                  case round =>
                    obtain ⟨u, hu, rfl, hown, hbi⟩ := hrel
                    clear HV4 HB4
                    by_cases hul : u < t
                    · obtain ⟨b2, o2, e2, hc2⟩ := Hx2.out wr hbi (t - 1 - u) (by omega)
                      subst e2
                      have hB2 := hbi.size
                      have Hbi := Lib.hid hbi
                      have Hown := Lib.hid hown
                      have HRu := Lib.hid (show (gr (lsM rows) k).take (t + 1 + u) ++ [gi row (t - 1 - u)] = (gr (lsM rows) k).take (t + 1 + (u + 1)) from by rw [show t + 1 + (u + 1) = t + 1 + u + 1 from rfl, take_snoc (by rw [HR.out, hh2.out]; omega), HHi.out u hul])
                      have Hln := Lib.hid (show ((gr (lsM rows) k).take (t + 1 + u)).length < 1048576 from by rw [List.length_take, HR.out]; omega)
                      clear hbi hown
                      go_wp2_with (at_builtin; refine wpList_numT rfl _ _ rfl wo.heap.size _ _ (gi row (t - 1 - u)) Hown.out rfl rfl hB2 Hln.out ?_)
                      intro v5 w5 hv5 hb5
                      rw [HRu.out] at hv5
                      have HV5 := Lib.hid hv5
                      have HB5 := Lib.hid (Hbi.out.trans hb5)
                      clear hv5 hb5
                      go_wp2
                      go_roundw
                      case rel => exact ⟨u + 1, by omega, by go_num, HV5.out, HB5.out⟩
                      case measure => simp [intOf]; omega
                    · obtain rfl : u = t := by omega
                      have hfull : (gr (lsM rows) k).take (u + 1 + u) = gr (lsM rows) k := List.take_of_length_le (by rw [HR.out, hh2.out]; omega)
                      rw [hfull] at hown
                      obtain ⟨rr, rc, hr, _, _, _⟩ := hown.read
                      have Hrowi := Lib.hid hown
                      have hB2 := hbi.size
                      have Hout2 := Lib.hid (Hout.out.below hbi)
                      have Hbi := Lib.hid hbi
                      have hfr := Lib.hid (Hout.out.fresh hown (Nat.le_refl _))
                      clear hown hbi hfull
                      subst hr
                      go_wp2_with (at_builtin; refine wpList_append_own _ rfl _ _ 22 rfl w.heap.size 24 j0 (.slice none 0 0) 1 24 Try.underlying22 hj hy0 hy1 hy2 rfl (by decide) _ _ _ rfl (World.ownsRow.alloc Hout2.out.top _) ⟨wr.heap.size, 0, none⟩ 1 1 [.slice rr (gr (lsM rows) k).length rc] rfl rfl ?d1 ?d2 ?d3 ?d4 ?d5 ?_)
                      case d1 => exact cell_one_new _ _ _
                      case d2 => intro u hu; simp at hu; subst hu; rfl
                      case d3 => unfold maxLen; omega
                      case d4 => omega
                      case d5 => simp; omega
                      intro v' w1 hown' hgrow _
                      have hput := Hout2.out.snoc (show w.heap.size ≤ wr.heap.size by omega) (Hrowi.out.base hB) hfr.out hown' hgrow
                      have Hput := Lib.hid hput
                      clear hput hown' hgrow
                      go_wp2
                      go_roundw
                      case rel =>
                        refine ⟨k + 1, _, by omega, by go_num, Hput.out.1, fun i hi => ?_, (Hbr.out.trans (Hbi.out.mono hB)).trans Hput.out.2⟩
                        by_cases e : i = k
                        · subst e; exact ⟨hrl2.out, by rw [Hgk.out]; exact Hall.out⟩
                        · exact Hto.out i (by omega)
                      case measure => simp [intOf]; omega
            · obtain rfl := ha.isnt hall
              have Hn2 := Lib.hid (Hno.out hall)
              clear ha hall
              go_wp2
              go_ret2
              exact ⟨MRes.no Hn2.out, Hbr.out⟩
          · have hbn : (((gr rows k).length : Int) != (h : Int)) = true := by simp; omega
            have Hno := Lib.hid (no_lh hlt (show ¬((gr rows k).length = rows.length / 2) by rw [← Hh.out]; exact hrl))
            clear hrl
            go_wp2
            go_ret2
            exact ⟨MRes.no Hno.out, Hbr.out⟩
        · obtain rfl : k = rows.length := by omega
          have hP := Hto.out.lhP Hn.out Hodd.out
          have Hown := Lib.hid (show OwnM wo w.heap.size _ (lsM rows) from ⟨vs, by rw [lsM_len]; exact Hout.out⟩)
          obtain ⟨ra, rc, rfl, _, _, hmr⟩ := Hown.out.read
          have HC := Lib.hid (sgGood_any ra rc (lsM rows) wo (lsM_small hn1) hmr)
          rw [lsM_len] at HC
          rw [lsM_len] at Hown
          have HP := Lib.hid hP
          have Hg1 := Lib.hid (fun x => ls_good hP x)
          have Hg2 := Lib.hid ((lh_iff rows).1)
          rw [lsM_len]
          clear hP hmr Hout Hto
          go_wp2_with fail
          refine HC.out.mono ?_
          rintro e w5 ⟨ha, hb⟩
          have HB5 := Lib.hid (Hbr.out.trans (hb.mono hB))
          have Ho5 := Lib.hid (Hown.out.below hb)
          clear hb
          by_cases hg : good (lsM rows)
          · obtain rfl := ha.is hg
            have he := Hg1.out hg
            rw [he] at Ho5 hg
            have Hgg := Lib.hid hg
            clear ha hg he
            go_wp2
            go_ret2
            exact ⟨MRes.yes ⟨HP.out, Hgg.out⟩ Ho5.out, HB5.out⟩
          · obtain rfl := ha.isnt hg
            have Hng := Lib.hid (show ¬(lhP rows ∧ good (lhM rows)) from fun k => hg (Hg2.out k).2.2)
            clear ha hg
            go_wp2
            go_ret2
            exact ⟨MRes.no Hng.out, HB5.out⟩
    · have hb0 : ((rows.length : Int) % 2 == 0) = true := by simp; omega
      have Hno := Lib.hid (show ¬(lhP rows ∧ good (lhM rows)) from fun k => hodd k.1.2.2.1)
      go_enter Try.func28, Try.ntmps28
      go_wp2_with fail
      refine (l1In_any _ _ _ w).mono ?_
      rintro e w2 ⟨ha, rfl⟩
      obtain rfl := ha.is ⟨by omega, by omega⟩
      clear ha hn hodd
      go_wp2
      go_ret2
      exact ⟨MRes.no Hno.out, Below.refl _ _⟩
  · have Hno := Lib.hid (show ¬(lhP rows ∧ good (lhM rows)) from fun k => hn ⟨k.1.1, k.1.2.1⟩)
    go_enter Try.func28, Try.ntmps28
    go_wp2_with fail
    refine (l1In_any _ _ _ w).mono ?_
    rintro e w2 ⟨ha, rfl⟩
    obtain rfl := ha.isnt (fun k => hn (by omega))
    clear ha hn
    go_wp2
    go_ret2
    exact ⟨MRes.no Hno.out, Below.refl _ _⟩
end Go.Proofs.Ytgdijjfipicodaa
