/- Contract of the model's sgParse. Condition: the text has at most 2^20 bytes. -/
import Derived.Test.YtiocbogdiaalgaaDoorParseS
import Derived.Test.YtiocbogdiaalgaaDoorDiff
namespace Go.Proofs.YtiocbogdiaalgaaDoor
open Go.RowKit

theorem bstr_list (l : List UInt8) : (bstr l).toList = l := ByteArray.toList_mk l
theorem text_ne {x l : List UInt8} : (!((bstr x).toList == (bstr l).toList)) = !(decide (x = l)) := by
  rw [bstr_list, bstr_list]
  by_cases h : x = l
  · subst h; simp
  · have : (x == l) = false := by simp [h]
    rw [this]; simp [h]

set_option maxRecDepth 100000 in
set_option maxHeartbeats 3200000 in
theorem sgParse_any (l : List UInt8) (w : World) (hl : l.length ≤ 1048576) :
    Calls Tryd.prog 9 #[.string (bstr l)] w fun e w' => MRes (parses l) (mv l) w' w.heap.size e ∧ Below w.heap.size w w' := by
  obtain ⟨i0, hi, hz0, hz1, hz2⟩ := info_parts Tryd.info_int
  obtain ⟨j0, hj, hy0, hy1, hy2⟩ := info_parts Tryd.info_ints
  go_enter Tryd.func9, Tryd.ntmps9
  go_wp2_with fail
  refine (l1Split_any l w hl).mono ?_
  rintro e w1 ⟨v, rfl, hv, hb⟩
  obtain ⟨ao, c, rfl, hnc, hc63, hts⟩ := hv.read
  have hnl := cut_len l
  have hB := hb.size
  have Hts := Lib.hid hts
  have Hb1 := Lib.hid hb
  clear hv hb hts
  obtain ⟨n, hn⟩ : ∃ n, n = (cut l).length := ⟨_, rfl⟩
  rw [← hn] at hnc hnl ⊢
  have Hn := Lib.hid hn
  clear hn
  go_wp2
  go_loopw [4, 13] (fun out i wo => ∃ (k : Nat) (vs : List Value), k ≤ n ∧ k ≤ 6 ∧ i = .int .i64 k ∧ OwnP wo w1.heap.size out k (mv l) k vs ∧ (∀ j, j < k → (gr (mv l) j).length ≤ 6) ∧ Below w1.heap.size w1 wo) (fun _ i _ => n - (intOf i).toNat)
  case atStart => exact ⟨0, [], Nat.zero_le _, by omega, rfl, ⟨World.ownsRow_nil _ _ _ _, fun i hi => absurd hi (by omega), fun i j _ hj => absurd hj (by omega)⟩, fun j hj => absurd hj (by omega), Below.refl _ _⟩
  case round =>
    obtain ⟨wo, rfl⟩ : ∃ wo : World, wo = wr := ⟨_, rfl⟩
    obtain ⟨k, vs, hk, hk6, rfl, hown, hrows, hbr⟩ := hrel
    have hBr := hbr.size
    have Hown := Lib.hid hown
    have Hrows := Lib.hid hrows
    have Hbr := Lib.hid hbr
    obtain ⟨oa, oc, rfl, hoc1, hoc2, _⟩ := ownsRow_read hown.top
    clear hown hrows hbr
    by_cases hlt : k < n
    · have hkc : k < (cut l).length := by rw [← Hn.out]; exact hlt
      obtain ⟨p, hp⟩ : ∃ p, p = (cut l)[k] := ⟨_, rfl⟩
      obtain ⟨b1, o1, rfl, hc1⟩ := (Hts.out.below Hbr.out) k hkc
      rw [← hp] at hc1
      have hpl : p.length ≤ 1048576 := by have := cut_piece l p (by rw [hp]; exact List.getElem_mem _); omega
      have hsz := bstr_size p
      have Hp := Lib.hid hp
      clear hp
      by_cases h6 : k = 6
      · have hnp : ¬ parses l := not_parses_many (by rw [← Hn.out]; omega)
        have hkb : ((k : Int) == 6) = true := by simp; omega
        have Hnp := Lib.hid hnp
        clear hnp h6
        go_wp2
        go_ret2
        exact ⟨MRes.no Hnp.out, Hb1.out.trans (Hbr.out.mono hB)⟩
      · have hkb : ((k : Int) == 6) = false := by simp; omega
        by_cases h7 : 6 < p.length
        · have hnp : ¬ parses l := not_parses_long hkc (by rw [← Hp.out]; exact h7)
          have Hnp := Lib.hid hnp
          clear hnp h6
          go_wp2
          go_ret2
          exact ⟨MRes.no Hnp.out, Hb1.out.trans (Hbr.out.mono hB)⟩
        · go_wp2
          go_loopw [7, 8] (fun row i wr => ∃ t : Nat, t ≤ p.length ∧ i = .int .i64 t ∧ OwnI wr wo.heap.size row (rowV (p.take t)) ∧ Below wo.heap.size wo wr) (fun _ i _ => p.length - (intOf i).toNat)
          case atStart => exact ⟨0, Nat.zero_le _, rfl, OwnI.nil _ _, Below.refl _ _⟩
          case round =>

            obtain ⟨t, ht, rfl, hrow, hbi⟩ := hrel
            have hB2 := hbi.size
            have Hrow := Lib.hid hrow
            have Hbi := Lib.hid hbi
            obtain ⟨ra, rc, rfl, hrc, _, _⟩ := hrow.read
            have htk : (rowV (p.take t)).length = t := by simp [rowV]; omega
            clear hrow hbi
            rw [htk] at hrc ⊢
            by_cases htl : t < p.length
            · obtain ⟨b, hb⟩ : ∃ b, p[t]? = some b := ⟨_, List.getElem?_eq_getElem htl⟩
              have hix := str_at hb
              have Hb := Lib.hid hb
              clear hb
              have hrow2 : OwnI wr wo.heap.size (.slice ra t rc) (rowV (p.take t)) := by have := Hrow.out; rw [htk] at this; exact this
              clear Hrow
              have Hrow := Lib.hid hrow2
              clear hrow2
              by_cases h43 : b = 43
              · subst h43
                have hv : val 43 = 1 := by decide
                have hq1 : (((43 : UInt8).toNat : Int) == 43) = true := by decide
                have hq2 : (((43 : UInt8).toNat : Int) == 45) = false := by decide
                go_wp2_with (at_builtin; refine wpList_append_own _ rfl _ _ 31 rfl wo.heap.size 3 i0 (.int .i64 0) 1 8 Tryd.underlying31 hi hz0 hz1 hz2 rfl (by decide) _ _ _ rfl (World.ownsRow.alloc Hrow.out _) ⟨wr.heap.size, 0, none⟩ 1 1 [.int .i64 1] rfl rfl ?c1 ?c2 ?c3 ?c4 ?c5 ?_)
                case c1 => exact cell_one_new _ _ _
                case c2 => intro u hu; simp at hu; subst hu; rfl
                case c3 => unfold maxLen; rw [htk]; omega
                case c4 => rw [htk]; omega
                case c5 => simp; omega
                intro v' w2 hown' hgrow _
                obtain ⟨hr2, hb2⟩ := Hrow.out.snoc hB2 (by rw [htk]; exact hown') hgrow
                rw [show rowV (p.take t) ++ [1] = rowV (p.take (t + 1)) from by rw [List.take_add_one, Hb.out]; simp [rowV, hv]] at hr2
                have Hr2 := Lib.hid hr2
                have Hb2 := Lib.hid (Hbi.out.trans hb2)
                clear hown' hgrow hr2 hb2
                go_wp2
                go_roundw
                case rel => exact ⟨t + 1, by omega, by go_num, Hr2.out, Hb2.out⟩
                case measure => simp [intOf]; omega
              · by_cases h45 : b = 45
                · subst h45
                  have hv : val 45 = -1 := by decide
                  have hq1 : (((45 : UInt8).toNat : Int) == 43) = false := by decide
                  have hq2 : (((45 : UInt8).toNat : Int) == 45) = true := by decide
                  go_wp2_with (at_builtin; refine wpList_append_own _ rfl _ _ 31 rfl wo.heap.size 3 i0 (.int .i64 0) 1 8 Tryd.underlying31 hi hz0 hz1 hz2 rfl (by decide) _ _ _ rfl (World.ownsRow.alloc Hrow.out _) ⟨wr.heap.size, 0, none⟩ 1 1 [.int .i64 (-1)] rfl rfl ?c1 ?c2 ?c3 ?c4 ?c5 ?_)
                  case c1 => exact cell_one_new _ _ _
                  case c2 => intro u hu; simp at hu; subst hu; rfl
                  case c3 => unfold maxLen; rw [htk]; omega
                  case c4 => rw [htk]; omega
                  case c5 => simp; omega
                  intro v' w2 hown' hgrow _
                  obtain ⟨hr2, hb2⟩ := Hrow.out.snoc hB2 (by rw [htk]; exact hown') hgrow
                  rw [show rowV (p.take t) ++ [(-1)] = rowV (p.take (t + 1)) from by rw [List.take_add_one, Hb.out]; simp [rowV, hv]] at hr2
                  have Hr2 := Lib.hid hr2
                  have Hb2 := Lib.hid (Hbi.out.trans hb2)
                  clear hown' hgrow hr2 hb2
                  go_wp2
                  go_roundw
                  case rel => exact ⟨t + 1, by omega, by go_num, Hr2.out, Hb2.out⟩
                  case measure => simp [intOf]; omega
                · have hv : val b = 0 := by unfold val; rw [if_neg h45, if_neg h43]
                  have hq1 : ((b.toNat : Int) == 43) = false := by have := nat_beq (b := b) (n := 43) 43 rfl; rw [show (43 : Int) = ((43 : Nat) : Int) from rfl, this]; simp [h43]
                  have hq2 : ((b.toNat : Int) == 45) = false := by have := nat_beq (b := b) (n := 45) 45 rfl; rw [show (45 : Int) = ((45 : Nat) : Int) from rfl, this]; simp [h45]
                  go_wp2_with (at_builtin; refine wpList_append_own _ rfl _ _ 31 rfl wo.heap.size 3 i0 (.int .i64 0) 1 8 Tryd.underlying31 hi hz0 hz1 hz2 rfl (by decide) _ _ _ rfl (World.ownsRow.alloc Hrow.out _) ⟨wr.heap.size, 0, none⟩ 1 1 [.int .i64 0] rfl rfl ?c1 ?c2 ?c3 ?c4 ?c5 ?_)
                  case c1 => exact cell_one_new _ _ _
                  case c2 => intro u hu; simp at hu; subst hu; rfl
                  case c3 => unfold maxLen; rw [htk]; omega
                  case c4 => rw [htk]; omega
                  case c5 => simp; omega
                  intro v' w2 hown' hgrow _
                  obtain ⟨hr2, hb2⟩ := Hrow.out.snoc hB2 (by rw [htk]; exact hown') hgrow
                  rw [show rowV (p.take t) ++ [0] = rowV (p.take (t + 1)) from by rw [List.take_add_one, Hb.out]; simp [rowV, hv]] at hr2
                  have Hr2 := Lib.hid hr2
                  have Hb2 := Lib.hid (Hbi.out.trans hb2)
                  clear hown' hgrow hr2 hb2
                  go_wp2
                  go_roundw
                  case rel => exact ⟨t + 1, by omega, by go_num, Hr2.out, Hb2.out⟩
                  case measure => simp [intOf]; omega
            · obtain rfl : t = p.length := by omega
              have hgr : gr (mv l) k = rowV p := by rw [gr_mv hkc, Hp.out]
              have hrow2 : OwnI wr wo.heap.size (.slice ra p.length rc) (gr (mv l) k) := by have := Hrow.out; rw [htk, List.take_length] at this; rw [hgr]; exact this
              clear Hrow
              have Hrow := Lib.hid hrow2
              have Hgl := Lib.hid (show (gr (mv l) k).length ≤ 6 by rw [hgr]; simp [rowV]; omega)
              have hfr := Lib.hid (Hown.out.fresh hrow2 (Nat.le_refl _))
              have Hown2 := Lib.hid (Hown.out.below Hbi.out)
              clear hrow2 hgr
              go_wp2_with (at_builtin; refine wpList_append_own _ rfl _ _ 22 rfl w1.heap.size 31 j0 (.slice none 0 0) 1 24 Tryd.underlying22 hj hy0 hy1 hy2 rfl (by decide) _ _ _ rfl (World.ownsRow.alloc Hown2.out.top _) ⟨wr.heap.size, 0, none⟩ 1 1 [.slice ra p.length rc] rfl rfl ?d1 ?d2 ?d3 ?d4 ?d5 ?_)
              case d1 => exact cell_one_new _ _ _
              case d2 => intro u hu; simp at hu; subst hu; rfl
              case d3 => unfold maxLen; omega
              case d4 => omega
              case d5 => simp; omega
              intro v' w2 hown' hgrow _
              have hput := Hown2.out.snoc (show w1.heap.size ≤ wr.heap.size by omega) (Hrow.out.base hBr) hfr.out hown' hgrow
              have Hput := Lib.hid hput
              clear hput hown' hgrow
              go_wp2
              go_roundw
              case rel =>
                refine ⟨k + 1, _, by omega, by omega, by go_num, Hput.out.1, fun j hj => ?_, (Hbr.out.trans (Hbi.out.mono hBr)).trans Hput.out.2⟩
                by_cases e : j = k
                · subst e; exact Hgl.out
                · exact Hrows.out j (by omega)
              case measure => simp [intOf]; omega
    · obtain rfl : k = n := by omega
      have hml : (mv l).length = k := by rw [mv_len, ← Hn.out]
      have hM : OwnM wo w1.heap.size (.slice oa k oc) (mv l) := ⟨vs, by rw [hml]; exact Hown.out⟩
      obtain ⟨oa', oc', e0, _, _, hmat⟩ := hM.read
      rw [hml] at e0
      injection e0 with e1 _ e2
      subst e1 e2
      have hsm : Small (mv l) := ⟨by rw [hml]; omega, fun i hi => by rw [hml] at hi; have := Hrows.out i hi; omega⟩
      have Hsm := Lib.hid hsm
      have Hmat := Lib.hid hmat
      have HM := Lib.hid hM
      have Hb2 := Lib.hid (Hb1.out.trans (Hbr.out.mono hB))
      have hB2 := Hb2.out.size
      have hgood := sgGood_any oa oc (mv l) wo Hsm.out Hmat.out
      rw [hml] at hgood
      have Hgood := Lib.hid hgood
      clear hM hmat hsm hgood Hown Hrows
      go_wp2_with fail
      refine Hgood.out.mono ?_
      rintro e w2 ⟨ha, hb3⟩
      by_cases hg : good (mv l)
      · obtain rfl := ha.is hg
        have htx := sgText_any oa oc (mv l) w2 hg.1 (Hmat.out.below hb3)
        rw [hml] at htx
        have Htx := Lib.hid htx
        have Hg := Lib.hid hg
        have Hb3 := Lib.hid (Hb2.out.trans (hb3.mono hB2))
        have HM2 := Lib.hid ((HM.out.below hb3).base hB)
        clear ha hb3 htx hg
        go_wp2_with fail
        refine Htx.out.mono ?_
        rintro e w3 ⟨rfl, rfl⟩
        obtain ⟨x, hx⟩ : ∃ x, x = txtB (mv l) k := ⟨_, rfl⟩
        rw [← hx]
        have hne := text_ne (x := x) (l := l)
        by_cases hxl : x = l
        · have hd : decide (x = l) = true := by simp [hxl]
          have Hpar := Lib.hid (show parses l from ⟨Hg.out, by rw [hml, ← hx]; exact hxl⟩)
          rw [hd] at hne
          clear hx hxl hd
          go_wp2
          go_ret2
          exact ⟨MRes.yes Hpar.out HM2.out, Hb3.out⟩
        · have hd : decide (x = l) = false := by simp [hxl]
          have Hpar := Lib.hid (show ¬ parses l from fun h => hxl (by rw [hx, ← hml]; exact h.2))
          rw [hd] at hne
          clear hx hxl hd
          go_wp2
          go_ret2
          exact ⟨MRes.no Hpar.out, Hb3.out⟩
      · obtain rfl := ha.isnt hg
        have Hpar := Lib.hid (show ¬ parses l from fun h => hg h.1)
        have Hb3 := Lib.hid (Hb2.out.trans (hb3.mono hB2))
        clear ha hb3 hg
        go_wp2
        go_ret2
        exact ⟨MRes.no Hpar.out, Hb3.out⟩
end Go.Proofs.YtiocbogdiaalgaaDoor
