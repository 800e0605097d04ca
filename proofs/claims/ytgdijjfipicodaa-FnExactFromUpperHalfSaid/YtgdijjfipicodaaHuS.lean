/- Contracts of the model: copies of tables; the matrix with an upper half. Conditions: lengths up to 2^20; a row that is nil has no room. -/
import Derived.Test.YtgdijjfipicodaaHfS
namespace Go.Proofs.Ytgdijjfipicodaa
open Go.RowKit

theorem OwnP.extU {w : World} {B n k : Nat} {v : Value} {m m' : List (List Int)} {vs : List Value} (h : OwnP w B v n m k vs) (e : ∀ i, i < k → gr m' i = gr m i) : OwnP w B v n m' k vs :=
  ⟨h.top, fun i hi => by rw [e i hi]; exact h.rows i hi, h.apart⟩

set_option maxRecDepth 100000 in
set_option maxHeartbeats 1600000 in
theorem smCopy_any (ao : Option Addr) (c : Nat) (m : List (List Int)) (w : World) (hs : Small m) (hm : MatAt w ao m) (hz : NilRows w ao m) :
    Calls Try.prog 52 #[.slice ao m.length c] w fun e w' => ∃ v, e = .returned v ∧ OwnM w' w.heap.size v m ∧ Below w.heap.size w w' := by
  obtain ⟨j0, hj, hy0, hy1, hy2⟩ := info_parts Try.info_ints
  have hl := hs.1
  have hmx : m.length ≤ 9223372036854775807 := by omega
  have Hm := Lib.hid hm
  have Hs := Lib.hid hs
  have Hz := Lib.hid hz
  clear hm hs hz
  go_enter Try.func52, Try.ntmps52
  go_wp2
  go_loopw [3, 8] (fun out i wr => ∃ (k : Nat) (vs : List Value), k ≤ m.length ∧ i = .int .i64 k ∧ OwnP wr w.heap.size out k m k vs ∧ Below w.heap.size w wr) (fun _ i _ => m.length - (intOf i).toNat)
  case atStart => exact ⟨0, [], Nat.zero_le _, rfl, ⟨World.ownsRow_nil _ _ _ _, fun i hi => absurd hi (by omega), fun i j _ hj => absurd hj (by omega)⟩, Below.refl _ _⟩
  case round =>
    obtain ⟨k, vs, hk, rfl, hout, hbr⟩ := hrel
    have Hout := Lib.hid hout
    have Hbr := Lib.hid hbr
    have hB := hbr.size
    clear hout hbr
    by_cases hlt : k < m.length
    · obtain ⟨b1, o1, r1, d1, e1, hc0, hr1, _, _⟩ := Hm.out k hlt
      have hzk := Hz.out k b1 o1 r1 d1 hlt e1 hc0
      have hc1 := cell_below hc0 Hbr.out
      have CO := Lib.hid (l1Own_any r1 d1 (gr m k) wr (Hs.out.2 k hlt) (fun e => (hzk e).1) (hr1.below Hbr.out))
      subst e1
      clear hr1 hzk hc0
      go_wp2_with fail
      refine CO.out.mono ?_
      rintro e w2 ⟨cv, rfl, hv, hb⟩
      obtain ⟨ca, cc, rfl, _, _, _⟩ := hv.read
      have HV := Lib.hid hv
      have Hout2 := Lib.hid (Hout.out.below hb)
      have Hb := Lib.hid hb
      have hB2 := hb.size
      have hfr := Lib.hid (Hout.out.fresh hv (Nat.le_refl _))
      clear hv hb CO
      go_wp2_with (at_builtin; refine wpList_append_own _ rfl _ _ 22 rfl w.heap.size 24 j0 (.slice none 0 0) 1 24 Try.underlying22 hj hy0 hy1 hy2 rfl (by decide) _ _ _ rfl (World.ownsRow.alloc Hout2.out.top _) ⟨w2.heap.size, 0, none⟩ 1 1 [.slice ca (gr m k).length cc] rfl rfl ?d1 ?d2 ?d3 ?d4 ?d5 ?_)
      case d1 => exact cell_one_new _ _ _
      case d2 => intro u hu; simp at hu; subst hu; rfl
      case d3 => unfold maxLen; omega
      case d4 => omega
      case d5 => simp; omega
      intro v' w1 hown' hgrow _
      have hput := Hout2.out.snoc (show w.heap.size ≤ w2.heap.size by omega) (HV.out.base hB) hfr.out hown' hgrow
      have Hput := Lib.hid hput
      clear hput hown' hgrow
      go_wp2
      go_roundw
      case rel => exact ⟨k + 1, _, by omega, by go_num, Hput.out.1, (Hbr.out.trans (Hb.out.mono hB)).trans Hput.out.2⟩
      case measure => simp [intOf]; omega
    · obtain rfl : k = m.length := by omega
      go_wp2
      go_ret
      exact ⟨_, rfl, ⟨vs, Hout.out⟩, Hbr.out⟩

theorem usM_row {rows : List (List Int)} {L t q : Nat} (hL : L = rows.length) (ht : t < L) (hq : q = L - 1 - t) : gr (usM rows) (L + t) = (gr rows q).reverse := by
  rw [usM_high (by omega) (by omega), show 2 * rows.length - 1 - (L + t) = q from by omega]
theorem usM_small {rows : List (List Int)} (hs : Small rows) (h : rows.length ≤ 3) : Small (usM rows) := by
  refine ⟨by rw [usM_len]; omega, fun i hi => ?_⟩
  rw [usM_len] at hi
  by_cases e : i < rows.length
  · rw [usM_low e]; exact hs.2 i e
  · rw [usM_high (by omega) hi, List.length_reverse]; exact hs.2 _ (by omega)

set_option maxRecDepth 100000 in
set_option maxHeartbeats 3200000 in
theorem specFromUpperHalf_any (ao : Option Addr) (c : Nat) (rows : List (List Int)) (w : World) (hs : Small rows) (hm : MatAt w ao rows) (hz : NilRows w ao rows) :
    Calls Try.prog 31 #[.slice ao rows.length c] w fun e w' => MRes (uhP rows ∧ good (uhM rows)) (uhM rows) w' w.heap.size e ∧ Below w.heap.size w w' := by
  obtain ⟨j0, hj, hy0, hy1, hy2⟩ := info_parts Try.info_ints
  have hl := hs.1
  have hmx : rows.length ≤ 9223372036854775807 := by omega
  have CC := Lib.hid (smCopy_any ao c rows w hs hm hz)
  have Hm := Lib.hid hm
  have Hs := Lib.hid hs
  clear hm hs hz
  by_cases hn : 1 ≤ rows.length ∧ rows.length ≤ 3
  · obtain ⟨L, hL⟩ : ∃ L, L = rows.length := ⟨_, rfl⟩
    have Hn := Lib.hid hn
    have HL := Lib.hid hL
    have hL3 : L ≤ 3 := by omega
    rw [← hL] at hmx hl CC ⊢
    clear hL
    go_enter Try.func31, Try.ntmps31
    go_wp2_with fail
    refine (l1In_any _ _ _ w).mono ?_
    rintro e w2 ⟨ha, rfl⟩
    obtain rfl := ha.is (by have := Hn.out; have := HL.out; omega)
    clear ha hn
    go_wp2_with fail
    refine CC.out.mono ?_
    rintro e w2 ⟨v, rfl, hv, hb⟩
    obtain ⟨vs0, hv0⟩ := hv
    rw [← HL.out] at hv0
    have H0 := Lib.hid (hv0.extU (m' := usM rows) (fun i hi => usM_low (by have := HL.out; omega)))
    have Hb0 := Lib.hid hb
    clear hv0 hb CC
    go_wp2
    go_loopw [4, 5] (fun out i wr => ∃ (t : Nat) (vs : List Value), t ≤ L ∧ i = .int .i64 ((L : Int) - 1 - t) ∧ OwnP wr w.heap.size out (L + t) (usM rows) (L + t) vs ∧ Below w.heap.size w wr) (fun _ i _ => (intOf i + 1).toNat)
    case atStart => exact ⟨0, vs0, Nat.zero_le _, by go_num, H0.out, Hb0.out⟩
    case round =>
      obtain ⟨t, vs, ht, rfl, hout, hbr⟩ := hrel
      clear H0 Hb0
      have Hout := Lib.hid hout
      have Hbr := Lib.hid hbr
      have hB := hbr.size
      clear hout hbr
      by_cases hlt : t < L
      · obtain ⟨q, hq⟩ : ∃ q : Nat, q = L - 1 - t := ⟨_, rfl⟩
        have hqi : (L : Int) - 1 - t = (q : Int) := by omega
        have Hqi := Lib.hid hqi
        have hqL : q < L := by omega
        have HR := Lib.hid (usM_row HL.out hlt hq)
        rw [hqi]
        clear hq hqi
        obtain ⟨b1, o1, r1, d1, e1, hc0, hr1, _, _⟩ := Hm.out q (by rw [← HL.out]; exact hqL)
        have hlk := Hs.out.2 q (by rw [← HL.out]; exact hqL)
        have Hcell := Lib.hid (show ∀ w', Below w.heap.size w w' → w'.cell? ⟨b1, o1 + q, none⟩ = some (.slice r1 (gr rows q).length d1) from fun w' hb => cell_below hc0 hb)
        have Hx1 := Lib.hid (show ∀ w', Below w.heap.size w w' → IntsAt w' r1 (gr rows q) from fun w' hb => hr1.below hb)
        subst e1
        obtain ⟨row, hrow⟩ : ∃ row, row = gr rows q := ⟨_, rfl⟩
        rw [← hrow] at HR hlk Hcell Hx1
        have hc1 := Hcell.out wr Hbr.out
        obtain ⟨R, hRe⟩ : ∃ R, R = row.length := ⟨_, rfl⟩
        have HRe := Lib.hid hRe
        rw [← hRe] at hc1 hlk Hcell
        have hRm : R ≤ 9223372036854775807 := by omega
        clear hrow hc0 hr1 hRe
        obtain ⟨wo, hwo⟩ : ∃ wo : World, wo = wr := ⟨_, rfl⟩
        rw [← hwo] at Hout Hbr hc1 hB ⊢
        clear hwo
        go_wp2
        go_loopw [6, 7] (fun r j wr => ∃ u : Nat, u ≤ R ∧ j = .int .i64 ((R : Int) - 1 - u) ∧ OwnI wr wo.heap.size r ((gr (usM rows) (L + t)).take u) ∧ Below wo.heap.size wo wr) (fun _ j _ => (intOf j + 1).toNat)
        case atStart => exact ⟨0, Nat.zero_le _, by go_num, OwnI.nil _ _, Below.refl _ _⟩
        case round =>
          obtain ⟨u, hu, rfl, hown, hbi⟩ := hrel
          by_cases hul : u < R
          · obtain ⟨b2, o2, e2, hc2⟩ := Hx1.out wr (Hbr.out.trans (hbi.mono hB)) (R - 1 - u) (by rw [← HRe.out]; omega)
            have hc3 := Hcell.out wr (Hbr.out.trans (hbi.mono hB))
            subst e2
            have hB2 := hbi.size
            have Hbi := Lib.hid hbi
            have Hown := Lib.hid hown
            have HRu := Lib.hid (show (gr (usM rows) (L + t)).take u ++ [gi row (R - 1 - u)] = (gr (usM rows) (L + t)).take (u + 1) from by rw [take_snoc (by rw [HR.out, List.length_reverse, ← HRe.out]; omega), HR.out, gi_rev (by rw [← HRe.out]; exact hul), HRe.out])
            have Hln := Lib.hid (show ((gr (usM rows) (L + t)).take u).length < 1048576 from by rw [List.length_take]; omega)
            clear hbi hown hc1
            go_wp2_with (at_builtin; refine wpList_numT rfl _ _ rfl wo.heap.size _ _ (gi row (R - 1 - u)) Hown.out rfl rfl hB2 Hln.out ?_)
            intro v5 w5 hv5 hb5
            rw [HRu.out] at hv5
            have HV5 := Lib.hid hv5
            have HB5 := Lib.hid (Hbi.out.trans hb5)
            clear hv5 hb5
            go_wp2
            go_roundw
            case rel => exact ⟨u + 1, by omega, by go_num, HV5.out, HB5.out⟩
            case measure => simp [intOf]; omega
          · obtain rfl : u = R := by omega
            have hfull : (gr (usM rows) (L + t)).take u = gr (usM rows) (L + t) := List.take_of_length_le (by rw [HR.out, List.length_reverse, ← HRe.out]; exact Nat.le_refl _)
            rw [hfull] at hown
            obtain ⟨rr, rc, hr, _, _, _⟩ := hown.read
            have Hrowi := Lib.hid hown
            have hB2 := hbi.size
            have Hout2 := Lib.hid (Hout.out.below hbi)
            have Hbi := Lib.hid hbi
            have hfr := Lib.hid (Hout.out.fresh hown (Nat.le_refl _))
            clear hown hbi hfull hc1
            subst hr
            go_wp2_with (at_builtin; refine wpList_append_own _ rfl _ _ 22 rfl w.heap.size 24 j0 (.slice none 0 0) 1 24 Try.underlying22 hj hy0 hy1 hy2 rfl (by decide) _ _ _ rfl (World.ownsRow.alloc Hout2.out.top _) ⟨wr.heap.size, 0, none⟩ 1 1 [.slice rr (gr (usM rows) (L + t)).length rc] rfl rfl ?d1 ?d2 ?d3 ?d4 ?d5 ?_)
            case d1 => exact cell_one_new _ _ _
            case d2 => intro u hu; simp at hu; subst hu; rfl
            case d3 => unfold maxLen; omega
            case d4 => omega
            case d5 => simp; omega
            intro v' w1 hown' hgrow _
            have hput := Hout2.out.snoc (show w.heap.size ≤ wr.heap.size by omega) (Hrowi.out.base hB) hfr.out hown' hgrow
            have Hput := Lib.hid hput
            clear hput hown' hgrow
            go_wp2
            go_roundw
            case rel => exact ⟨t + 1, _, by omega, by rw [show (q : Int) - 1 = (L : Int) - 1 - ((t + 1 : Nat) : Int) from by have := Hqi.out; omega], Hput.out.1, (Hbr.out.trans (Hbi.out.mono hB)).trans Hput.out.2⟩
            case measure => simp [intOf]
      · obtain rfl : t = L := by omega
        have h2 : t + t = (usM rows).length := by rw [usM_len, ← HL.out]; omega
        have Hown := Lib.hid (show OwnM wr w.heap.size _ (usM rows) from ⟨vs, by rw [← h2]; exact Hout.out⟩)
        obtain ⟨ra, rc, rfl, _, _, hmr⟩ := Hown.out.read
        have HC := Lib.hid (sgGood_any ra rc (usM rows) wr (usM_small Hs.out Hn.out.2) hmr)
        have Hg2 := Lib.hid (uh_iff rows)
        obtain ⟨Z, hZ⟩ : ∃ Z, Z = (usM rows).length := ⟨_, rfl⟩
        rw [← hZ] at HC Hown ⊢
        clear hmr Hout h2 hZ
        go_wp2_with fail
        refine HC.out.mono ?_
        rintro e w5 ⟨ha, hb⟩
        have HB5 := Lib.hid (Hbr.out.trans (hb.mono hB))
        have Ho5 := Lib.hid (Hown.out.below hb)
        clear hb
        by_cases hg : good (usM rows)
        · obtain rfl := ha.is hg
          have hk := Hg2.out.2 ⟨Hn.out, hg⟩
          have he := us_eq hk.1.2.2
          rw [he] at Ho5
          have Hk := Lib.hid hk
          clear ha hg he hk
          go_wp2
          go_ret2
          exact ⟨MRes.yes Hk.out Ho5.out, HB5.out⟩
        · obtain rfl := ha.isnt hg
          have Hng := Lib.hid (show ¬(uhP rows ∧ good (uhM rows)) from fun k => hg (Hg2.out.1 k).2)
          clear ha hg
          go_wp2
          go_ret2
          exact ⟨MRes.no Hng.out, HB5.out⟩
  · have Hno := Lib.hid (show ¬(uhP rows ∧ good (uhM rows)) from fun k => hn ⟨k.1.1, k.1.2.1⟩)
    go_enter Try.func31, Try.ntmps31
    go_wp2_with fail
    refine (l1In_any _ _ _ w).mono ?_
    rintro e w2 ⟨ha, rfl⟩
    obtain rfl := ha.isnt (fun k => hn (by omega))
    clear ha hn
    go_wp2
    go_ret2
    exact ⟨MRes.no Hno.out, Below.refl _ _⟩
end Go.Proofs.Ytgdijjfipicodaa
