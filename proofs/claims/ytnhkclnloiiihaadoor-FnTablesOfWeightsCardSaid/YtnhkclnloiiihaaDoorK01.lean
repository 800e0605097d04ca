/- Parts of proofs: contracts and plain facts. Conditions: as each says. -/
import Derived.Test.YtnhkclnloiiihaaDoorK00
namespace Go.Proofs.YtnhkclnloiiihaaDoor
open Go.RowKit

/-- the first t numbers of column k -/
def colTo (m : List (List Int)) (k t : Nat) : List Int := (List.range t).map fun i => gi (gr m i) k
theorem colTo_succ (m : List (List Int)) (k t : Nat) : colTo m k (t + 1) = colTo m k t ++ [gi (gr m t) k] := by simp [colTo, List.range_succ]
theorem colTo_len (m : List (List Int)) (k t : Nat) : (colTo m k t).length = t := by simp [colTo]
theorem colTo_tr {m : List (List Int)} {k : Nat} (hk : k < m.length) : colTo m k m.length = gr (tr m) k := by unfold tr; rw [gr_tab hk]; rfl

set_option maxRecDepth 100000 in
set_option maxHeartbeats 800000 in
theorem sgTurn_any (ao : Option Addr) (c : Nat) (m : List (List Int)) (w : World) (hsq : square m) (hm : MatAt w ao m) :
    Calls Tryd.prog 134 #[.slice ao m.length c] w fun e w' => ∃ v, e = .returned v ∧ OwnM w' w.heap.size v (tr m) ∧ Below w.heap.size w w' := by
  obtain ⟨i0, hi, hz0, hz1, hz2⟩ := info_parts Tryd.info_int
  obtain ⟨j0, hj, hy0, hy1, hy2⟩ := info_parts Tryd.info_ints
  have hn := hsq.2.1
  have hmx : m.length ≤ 9223372036854775807 := by omega
  have Hsq := Lib.hid hsq
  clear hsq
  go_enter Tryd.func134, Tryd.ntmps134
  go_wp2
  go_loopw [3, 10] (fun out i wr => ∃ (k : Nat) (vs : List Value), k ≤ m.length ∧ i = .int .i64 k ∧ OwnP wr w.heap.size out k (tr m) k vs ∧ Below w.heap.size w wr) (fun _ i _ => m.length - (intOf i).toNat)
  case atStart => exact ⟨0, [], Nat.zero_le _, rfl, ⟨World.ownsRow_nil _ _ _ _, fun i hi => absurd hi (by omega), fun i j _ hj => absurd hj (by omega)⟩, Below.refl _ _⟩
  case round =>
    obtain ⟨k, vs, hk, rfl, hout, hbr⟩ := hrel
    obtain ⟨wo, rfl⟩ : ∃ wo : World, wo = wr := ⟨_, rfl⟩
    by_cases hlt : k < m.length
    · have Hout := Lib.hid hout
      have Hbr := Lib.hid hbr
      have hmo := Lib.hid (hm.below hbr)
      have hB := hbr.size
      clear hout hbr hm
      go_wp2
      go_loopw [5, 15] (fun row i wr => ∃ t : Nat, t ≤ m.length ∧ i = .int .i64 t ∧ OwnI wr wo.heap.size row (colTo m k t) ∧ Below wo.heap.size wo wr) (fun _ i _ => m.length - (intOf i).toNat)
      case atStart => exact ⟨0, Nat.zero_le _, rfl, OwnI.nil _ _, Below.refl _ _⟩
      case round =>
        obtain ⟨t, ht, rfl, hrow, hbi⟩ := hrel
        by_cases htl : t < m.length
        · obtain ⟨b1, o1, r1, d1, e0, hc1, hx1, _, _⟩ := hmo.out.below hbi t htl
          obtain ⟨b2, o2, e2, hc2⟩ := hx1 k (by rw [Hsq.out.2.2 t htl]; exact hlt)
          have hrl : (gr m t).length = m.length := Hsq.out.2.2 t htl
          rw [hrl] at hc1
          subst e0 e2
          have hB2 := hbi.size
          have Hbi := Lib.hid hbi
          have Hrow := Lib.hid hrow
          clear hbi hx1 hrl hrow
          go_wp2_with (at_builtin; refine wpList_append_own _ rfl _ _ 28 rfl wo.heap.size 3 i0 (.int .i64 0) 1 8 Tryd.underlying28 hi hz0 hz1 hz2 rfl (by decide) _ _ _ rfl (World.ownsRow.alloc Hrow.out _) ⟨wr.heap.size, 0, none⟩ 1 1 [.int .i64 (gi (gr m t) k)] rfl rfl ?c1 ?c2 ?c3 ?c4 ?c5 ?_)
          case c1 => exact cell_one_new _ _ _
          case c2 => intro u hu; simp at hu; subst hu; rfl
          case c3 => unfold maxLen; rw [colTo_len]; omega
          case c4 => rw [colTo_len]; omega
          case c5 => simp; omega
          intro v' w1 hown' hgrow _
          obtain ⟨hr2, hb2⟩ := Hrow.out.snoc hB2 hown' hgrow
          rw [← colTo_succ] at hr2
          have Hr2 := Lib.hid hr2
          have Hb2 := Lib.hid hb2
          clear hown' hgrow hr2 hb2
          go_wp2
          go_roundw
          case rel => exact ⟨t + 1, by omega, by go_num, Hr2.out, Hbi.out.trans Hb2.out⟩
          case measure => simp [intOf]; omega
        · obtain rfl : t = m.length := by omega
          rw [colTo_tr hlt] at hrow
          obtain ⟨rr, rc, hr, _, _, _⟩ := hrow.read
          have Hrow := Lib.hid hrow
          have hB2 := hbi.size
          have Hout2 := Lib.hid (Hout.out.below hbi)
          have Hbi := Lib.hid hbi
          have hfr := Lib.hid (Hout.out.fresh hrow (Nat.le_refl _))
          clear hrow hbi
          subst hr
          go_wp2_with (at_builtin; refine wpList_append_own _ rfl _ _ 25 rfl w.heap.size 28 j0 (.slice none 0 0) 1 24 Tryd.underlying25 hj hy0 hy1 hy2 rfl (by decide) _ _ _ rfl (World.ownsRow.alloc Hout2.out.top _) ⟨wr.heap.size, 0, none⟩ 1 1 [.slice rr (gr (tr m) k).length rc] rfl rfl ?d1 ?d2 ?d3 ?d4 ?d5 ?_)
          case d1 => exact cell_one_new _ _ _
          case d2 => intro u hu; simp at hu; subst hu; rfl
          case d3 => unfold maxLen; omega
          case d4 => omega
          case d5 => simp; omega
          intro v' w1 hown' hgrow _
          have hput := Hout2.out.snoc (show w.heap.size ≤ wr.heap.size by omega) (Hrow.out.base hB) hfr.out hown' hgrow
          have Hput := Lib.hid hput
          clear hput hown' hgrow
          go_wp2
          go_roundw
          case rel => exact ⟨k + 1, _, by omega, by go_num, Hput.out.1, (Hbr.out.trans (Hbi.out.mono hB)).trans Hput.out.2⟩
          case measure => simp [intOf]; omega
    · obtain rfl : k = m.length := by omega
      go_wp2
      go_ret
      exact ⟨_, rfl, ⟨vs, by rw [tr_len]; exact hout⟩, hbr⟩

set_option maxRecDepth 100000 in
set_option maxHeartbeats 800000 in
theorem sgGood_any (ao : Option Addr) (c : Nat) (m : List (List Int)) (w : World) (hs : Small m) (hm : MatAt w ao m) :
    Calls Tryd.prog 83 #[.slice ao m.length c] w fun e w' => Ans (good m) e ∧ Below w.heap.size w w' := by
  by_cases h1 : square m
  · by_cases h2 : rowsOk m
    · have H1 := Lib.hid h1
      have H2 := Lib.hid h2
      have Hs := Lib.hid hs
      have Hm := Lib.hid hm
      clear h1 h2 hs hm
      go_enter Tryd.func83, Tryd.ntmps83
      go_wp2_with fail
      refine (sgSquare_any ao c m w Hs.out Hm.out).mono ?_
      rintro e w2 ⟨ha, rfl⟩
      obtain rfl := ha.is H1.out
      clear ha
      go_wp2_with fail
      refine (sgRows_any ao c m w Hs.out Hm.out).mono ?_
      rintro e w2 ⟨ha, rfl⟩
      obtain rfl := ha.is H2.out
      clear ha
      go_wp2_with fail
      refine (sgTurn_any ao c m w H1.out Hm.out).mono ?_
      rintro e w2 ⟨v, rfl, hv, hb⟩
      obtain ⟨a2, c2, rfl, _, _, hr⟩ := hv.read
      have Hr := Lib.hid hr
      have Hb := Lib.hid hb
      clear hv hr hb
      go_wp2_with fail
      refine (sgRows_any a2 c2 (tr m) w2 H1.out.tr.small Hr.out).mono ?_
      rintro e w3 ⟨ha, rfl⟩
      by_cases h3 : rowsOk (tr m)
      · have H3 := Lib.hid h3
        clear h3
        obtain rfl := ha.is H3.out
        clear ha
        go_wp2
        go_ret
        exact ⟨Ans.yes ⟨H1.out, H2.out, H3.out⟩, Hb.out⟩
      · have H3 := Lib.hid h3
        clear h3
        obtain rfl := ha.isnt H3.out
        clear ha
        go_wp2
        go_ret
        exact ⟨Ans.no fun h => H3.out h.2.2, Hb.out⟩
    · have H1 := Lib.hid h1
      have H2 := Lib.hid h2
      have Hs := Lib.hid hs
      have Hm := Lib.hid hm
      clear h1 h2 hs hm
      go_enter Tryd.func83, Tryd.ntmps83
      go_wp2_with fail
      refine (sgSquare_any ao c m w Hs.out Hm.out).mono ?_
      rintro e w2 ⟨ha, rfl⟩
      obtain rfl := ha.is H1.out
      clear ha
      go_wp2_with fail
      refine (sgRows_any ao c m w Hs.out Hm.out).mono ?_
      rintro e w2 ⟨ha, rfl⟩
      obtain rfl := ha.isnt H2.out
      clear ha
      go_wp2
      go_ret
      exact ⟨Ans.no fun h => H2.out h.2.1, Below.refl _ _⟩
  · have H1 := Lib.hid h1
    have Hs := Lib.hid hs
    have Hm := Lib.hid hm
    clear h1 hs hm
    go_enter Tryd.func83, Tryd.ntmps83
    go_wp2_with fail
    refine (sgSquare_any ao c m w Hs.out Hm.out).mono ?_
    rintro e w2 ⟨ha, rfl⟩
    obtain rfl := ha.isnt H1.out
    clear ha
    go_wp2
    go_ret
    exact ⟨Ans.no fun h => H1.out h.1, Below.refl _ _⟩

end Go.Proofs.YtnhkclnloiiihaaDoor

namespace Go.Proofs.YtnhkclnloiiihaaDoor
open Go.RowKit

/-- every row has this many columns -/
def wideAll (m : List (List Int)) (c : Nat) : Prop := ∀ i, i < m.length → (gr m i).length = c

set_option maxRecDepth 100000 in
set_option maxHeartbeats 400000 in
theorem hasSize1_any (a : Option Addr) (n d cb cols : Nat) (w : World) (_hn : n ≤ 9223372036854775807) (_hc : cols ≤ 9223372036854775807) (hcell : w.cell? ⟨cb, 0, none⟩ = some (.int .i64 (cols : Int))) :
    Calls Tryd.prog 141 #[.slice a n d, .pointer (some ⟨cb, 0, none⟩)] w fun e w' => e = .returned (.bool (decide (n ≠ cols))) ∧ w = w' := by
  by_cases h : n = cols
  · have hb : ((n : Int) != (cols : Int)) = false := by simp; omega
    rw [show decide (n ≠ cols) = false by simp [h]]
    go_enter Tryd.func141, Tryd.ntmps141
    go_wp2
    go_ret
    exact ⟨rfl, rfl⟩
  · have hb : ((n : Int) != (cols : Int)) = true := by simp; omega
    rw [show decide (n ≠ cols) = true by simp [h]]
    go_enter Tryd.func141, Tryd.ntmps141
    go_wp2
    go_ret
    exact ⟨rfl, rfl⟩

set_option maxRecDepth 100000 in
set_option maxHeartbeats 400000 in
theorem indexRows_any (ao : Option Addr) (c cb cols : Nat) (m : List (List Int)) (w : World) (hs : Small m) (hm : MatAt w ao m) (hc : cols ≤ 9223372036854775807) (hcell : w.cell? ⟨cb, 0, none⟩ = some (.int .i64 (cols : Int))) :
    Calls Tryd.prog 159 #[.slice ao m.length c, .func (.func 141) #[] #[.pointer (some ⟨cb, 0, none⟩)]] w fun e w' => (∃ r : Int, e = .returned (.int .i64 r) ∧ -1 ≤ r ∧ r ≤ 1048576 ∧ (r < 0 ↔ wideAll m cols)) ∧ w = w' := by
  have hn := hs.1
  have hrow := hs.2
  have hmx : m.length ≤ 9223372036854775807 := by omega
  have Hm := Lib.hid hm
  have Hrow := Lib.hid hrow
  have Hcell := Lib.hid hcell
  clear hs hm hrow hcell
  go_enter Tryd.func159, Tryd.ntmps159
  go_wp2
  go_loop [8] (fun i => ∃ k : Nat, k ≤ m.length ∧ i = .int .i64 k ∧ (∀ j, j < k → (gr m j).length = cols)) (fun i => m.length - (intOf i).toNat)
  case atStart => exact ⟨0, Nat.zero_le _, rfl, fun j hj => absurd hj (by omega)⟩
  case round =>
    obtain ⟨k, hk, rfl, heq⟩ := hrel
    have Heq := Lib.hid heq
    clear heq
    by_cases hlt : k < m.length
    · obtain ⟨b1, o1, r1, d1, rfl, hc1, _, _, _⟩ := Hm.out k hlt
      have hrk := Hrow.out k hlt
      go_wp2_with fail
      refine (hasSize1_any r1 (gr m k).length d1 cb cols w (by omega) hc Hcell.out).mono ?_
      rintro e w2 ⟨rfl, rfl⟩
      by_cases he : (gr m k).length = cols
      · rw [show decide ((gr m k).length ≠ cols) = false by simp [he]]
        have He := Lib.hid he
        clear he hrk
        go_wp2
        go_round
        case rel =>
          refine ⟨k + 1, by omega, by go_num, fun j hj => ?_⟩
          by_cases e : j = k
          · subst e; exact He.out
          · exact Heq.out j (by omega)
        case measure => simp [intOf]; omega
      · rw [show decide ((gr m k).length ≠ cols) = true by simp [he]]
        have He := Lib.hid he
        clear he hrk
        go_wp2
        go_ret
        exact ⟨⟨_, rfl, by omega, by omega, ⟨fun h => absurd h (by omega), fun h => absurd (h k hlt) He.out⟩⟩, rfl⟩
    · obtain rfl : k = m.length := by omega
      go_wp2
      go_ret
      exact ⟨⟨_, rfl, by omega, by omega, ⟨fun _ => Heq.out, fun _ => by omega⟩⟩, rfl⟩

set_option maxRecDepth 100000 in
set_option maxHeartbeats 400000 in
theorem containsRows_any (ao : Option Addr) (c cb cols : Nat) (m : List (List Int)) (w : World) (hs : Small m) (hm : MatAt w ao m) (hc : cols ≤ 9223372036854775807) (hcell : w.cell? ⟨cb, 0, none⟩ = some (.int .i64 (cols : Int))) :
    Calls Tryd.prog 140 #[.slice ao m.length c, .func (.func 141) #[] #[.pointer (some ⟨cb, 0, none⟩)]] w fun e w' => Ans (¬ wideAll m cols) e ∧ w = w' := by
  have hmx : m.length ≤ 9223372036854775807 := by have := hs.1; omega
  go_enter Tryd.func140, Tryd.ntmps140
  go_wp2_with fail
  refine (indexRows_any ao c cb cols m w hs hm hc hcell).mono ?_
  rintro e w2 ⟨⟨r, rfl, h1, h2, h3⟩, rfl⟩
  have H3 := Lib.hid h3
  clear hs hm hcell h3
  by_cases h : r < 0
  · have hd : decide ((0 : Int) ≤ r) = false := by simp; omega
    go_wp2
    go_ret
    exact ⟨Ans.no (p := ¬ wideAll m cols) (fun hn : ¬ wideAll m cols => hn (H3.out.1 (by omega))), rfl⟩
  · go_wp2
    go_ret
    exact ⟨Ans.yes (p := ¬ wideAll m cols) (fun hn : wideAll m cols => by have := H3.out.2 hn; omega), rfl⟩

set_option maxRecDepth 100000 in
set_option maxHeartbeats 400000 in
theorem hasSize_any (ao : Option Addr) (c rows cols : Nat) (m : List (List Int)) (w : World) (hs : Small m) (hm : MatAt w ao m) (_hr : rows ≤ 9223372036854775807) (hc : cols ≤ 9223372036854775807) :
    Calls Tryd.prog 98 #[.slice ao m.length c, .int .i64 (rows : Int), .int .i64 (cols : Int)] w fun e w' => Ans (m.length = rows ∧ wideAll m cols) e ∧ Below w.heap.size w w' := by
  have hmx : m.length ≤ 9223372036854775807 := by have := hs.1; omega
  have hb := (Below.refl w.heap.size w).alloc (Nat.le_refl _) (.cells #[.int .i64 (cols : Int)] 3)
  have Hm := Lib.hid (hm.below hb)
  have hcell : (w.alloc (.cells #[.int .i64 (cols : Int)] 3)).cell? ⟨w.heap.size, 0, none⟩ = some (.int .i64 (cols : Int)) := by rw [cell_new]; rfl
  have Hcell := Lib.hid hcell
  have Hb := Lib.hid hb
  have Hs := Lib.hid hs
  clear hb hm hcell hs
  by_cases hl : m.length = rows
  · have hq : ((m.length : Int) == (rows : Int)) = true := by simp; omega
    have Hl := Lib.hid hl
    clear hl
    go_enter Tryd.func98, Tryd.ntmps98
    go_wp2_with fail
    refine (containsRows_any ao c w.heap.size cols m _ Hs.out Hm.out hc Hcell.out).mono ?_
    rintro e w2 ⟨ha, rfl⟩
    by_cases hw : wideAll m cols
    · obtain rfl := ha.isnt (fun h => h hw)
      have Hw := Lib.hid hw
      clear ha hw
      go_wp2
      go_ret
      exact ⟨Ans.yes ⟨Hl.out, Hw.out⟩, Hb.out⟩
    · obtain rfl := ha.is hw
      have Hw := Lib.hid hw
      clear ha hw
      go_wp2
      go_ret
      exact ⟨Ans.no fun h => Hw.out h.2, Hb.out⟩
  · have hq : ((m.length : Int) == (rows : Int)) = false := by simp; omega
    have Hl := Lib.hid hl
    clear hl
    go_enter Tryd.func98, Tryd.ntmps98
    go_wp2
    go_ret
    exact ⟨Ans.no fun h => Hl.out h.1, Hb.out⟩

set_option maxRecDepth 100000 in
set_option maxHeartbeats 400000 in
theorem isSquare_any (ao : Option Addr) (c : Nat) (m : List (List Int)) (w : World) (hs : Small m) (hm : MatAt w ao m) :
    Calls Tryd.prog 129 #[.slice ao m.length c] w fun e w' => Ans (square m) e ∧ Below w.heap.size w w' := by
  have hn := hs.1
  have hmx : m.length ≤ 9223372036854775807 := by omega
  have Hs := Lib.hid hs
  have Hm := Lib.hid hm
  clear hs hm
  by_cases h0 : 1 ≤ m.length
  · by_cases h6 : m.length ≤ 6
    · go_enter Tryd.func129, Tryd.ntmps129
      go_wp2_with fail
      refine (hasSize_any ao c m.length m.length m w Hs.out Hm.out hmx hmx).mono ?_
      rintro e w2 ⟨ha, hb⟩
      have Hb := Lib.hid hb
      clear hb
      by_cases hw : wideAll m m.length
      · obtain rfl := ha.is ⟨rfl, hw⟩
        have Hw := Lib.hid hw
        clear ha hw
        go_wp2
        go_ret
        exact ⟨Ans.yes ⟨h0, h6, Hw.out⟩, Hb.out⟩
      · obtain rfl := ha.isnt (fun h => hw h.2)
        have Hw := Lib.hid hw
        clear ha hw
        go_wp2
        go_ret
        exact ⟨Ans.no fun h => Hw.out h.2.2, Hb.out⟩
    · go_enter Tryd.func129, Tryd.ntmps129
      go_wp2
      go_ret
      exact ⟨Ans.no fun h => h6 h.2.1, Below.refl _ _⟩
  · go_enter Tryd.func129, Tryd.ntmps129
    go_wp2
    go_ret
    exact ⟨Ans.no fun h => h0 h.1, Below.refl _ _⟩

set_option maxRecDepth 100000 in
set_option maxHeartbeats 400000 in
theorem newTable_any (n c : Nat) (w : World) (hn : n ≤ 1048576) (hcn : c ≤ 1048576) :
    Calls Tryd.prog 110 #[.int .i64 (n : Int), .int .i64 (c : Int)] w fun e w' => ∃ vs, e = .returned (.slice (some ⟨w.heap.size, 0, none⟩) n n) ∧ OwnP w' w.heap.size (.slice (some ⟨w.heap.size, 0, none⟩) n n) n (tab n c fun _ _ => 0) n vs ∧ Below w.heap.size w w' := by
  obtain ⟨i0, hi, hz0, hz1, hz2⟩ := info_parts Tryd.info_int
  obtain ⟨j0, hj, hy0, hy1, hy2⟩ := info_parts Tryd.info_ints
  have hmx : n ≤ 9223372036854775807 := by omega
  go_enter Tryd.func110, Tryd.ntmps110
  go_wp2_with (at_make; refine wpList_make_full _ rfl _ _ 25 rfl w.heap.size 28 j0 (.slice none 0 0) 1 Tryd.underlying25 hj hy0 hy1 _ _ _ _ n rfl rfl rfl rfl ?c1 ?c2 ?c3 ?_)
  case c1 => rw [hy2]; omega
  case c2 => unfold maxLen; omega
  case c3 => simp
  intro w1 hown hg
  have hb1 : Below w.heap.size w w1 := (Below.refl _ _).grown hg (Nat.le_refl _) (fun _ h => by cases h)
  have hown1 := OwnP.made (m := tab n c fun _ _ => 0) hown
  clear hown hg
  go_wp2
  go_loopw [11] (fun i wr => ∃ (k : Nat) (vs : List Value), k ≤ n ∧ i = .int .i64 k ∧ OwnP wr w.heap.size (.slice (some ⟨w.heap.size, 0, none⟩) n n) n (tab n c fun _ _ => 0) k vs ∧ Below w.heap.size w wr)
    (fun i _ => n - (intOf i).toNat)
  case atStart => exact ⟨0, _, Nat.zero_le _, rfl, hown1, hb1⟩
  case round =>
    obtain ⟨k, vs, hk, rfl, hown, hbr⟩ := hrel
    clear hown1 hb1
    by_cases hlt : k < n
    · have hB := hbr.size
      have Hown := Lib.hid hown
      have Hbr := Lib.hid hbr
      clear hown hbr
      go_wp2_with (at_make; refine wpList_make_full _ rfl _ _ 28 rfl wr.heap.size 3 i0 (.int .i64 0) 1 Tryd.underlying28 hi hz0 hz1 _ _ _ _ c rfl rfl rfl rfl ?d1 ?d2 ?d3 ?_)
      case d1 => rw [hz2]; omega
      case d2 => unfold maxLen; omega
      case d3 => simp
      intro w2 hown2 hg2
      have hb2 : Below wr.heap.size wr w2 := (Below.refl _ _).grown hg2 (Nat.le_refl _) (fun _ h => by cases h)
      have hrow := OwnI.made hown2
      have hpos := Hown.out.below hb2
      have hd := hpos.cellAt k hlt
      have hf : w2.frozen? ⟨w.heap.size, k, none⟩ = false := World.ownsRow.frozenAt hpos.top k
      have e1 : gr (tab n c fun _ _ => (0 : Int)) k = List.replicate c 0 := zero_row hlt
      have hput := hpos.put hlt (v := .slice (some ⟨wr.heap.size, 0, none⟩) c c) (by rw [e1]; exact hrow.base hB) (Hown.out.fresh hrow (Nat.le_refl _))
      have Hput := Lib.hid hput
      have Hbs := Lib.hid ((Hbr.out.trans (hb2.mono hB)).setCell (p := ⟨w.heap.size, k, none⟩) (Nat.le_refl _) (.slice (some ⟨wr.heap.size, 0, none⟩) c c))
      clear hown2 hg2 hb2 hrow hpos e1 hput
      go_wp2
      go_roundw
      case rel => exact ⟨k + 1, _, by omega, by go_num, Hput.out, Hbs.out⟩
      case measure => simp [intOf]; omega
    · obtain rfl : k = n := by omega
      go_wp2
      go_ret
      exact ⟨vs, rfl, hown, hbr⟩

set_option maxRecDepth 100000 in
set_option maxHeartbeats 400000 in
theorem newGrid_any (n : Nat) (w : World) (hn : n ≤ 1048576) :
    Calls Tryd.prog 99 #[.int .i64 (n : Int)] w fun e w' => ∃ vs, e = .returned (.slice (some ⟨w.heap.size, 0, none⟩) n n) ∧ OwnP w' w.heap.size (.slice (some ⟨w.heap.size, 0, none⟩) n n) n (tab n n fun _ _ => 0) n vs ∧ Below w.heap.size w w' := by
  go_enter Tryd.func99, Tryd.ntmps99
  go_wp2_with fail
  refine (newTable_any n n w hn hn).mono ?_
  rintro e w1 ⟨vs, rfl, hv, hb⟩
  have Hv := Lib.hid hv
  have Hb := Lib.hid hb
  clear hv hb
  go_wp2
  go_ret
  exact ⟨vs, rfl, Hv.out, Hb.out⟩

set_option maxRecDepth 100000 in
set_option maxHeartbeats 800000 in
theorem transposed_any (ao : Option Addr) (c : Nat) (m : List (List Int)) (w : World) (hsq : square m) (hm : MatAt w ao m) :
    Calls Tryd.prog 130 #[.slice ao m.length c] w fun e w' => ∃ v, e = .returned v ∧ OwnM w' w.heap.size v (tr m) ∧ Below w.heap.size w w' := by
  have hn := hsq.2.1
  have hmx : m.length ≤ 9223372036854775807 := by omega
  have Hsq := Lib.hid hsq
  have Hm := Lib.hid hm
  clear hsq hm
  go_enter Tryd.func130, Tryd.ntmps130
  go_wp2_with fail
  refine (newGrid_any m.length w (by omega)).mono ?_
  rintro e w1 ⟨vs, rfl, hv, hb⟩
  have Hv := Lib.hid hv
  have Hb := Lib.hid hb
  clear hv hb
  go_wp2
  go_loopw [13] (fun i wr => ∃ (k : Nat) (f : Nat → Nat → Int), k ≤ m.length ∧ i = .int .i64 k ∧ OwnP wr w.heap.size (.slice (some ⟨w.heap.size, 0, none⟩) m.length m.length) m.length (tab m.length m.length f) m.length vs ∧
      (∀ a b, a < m.length → b < k → f a b = gi (gr m b) a) ∧ Below w.heap.size w wr) (fun i _ => m.length - (intOf i).toNat)
  case atStart => exact ⟨0, _, Nat.zero_le _, rfl, Hv.out, fun a b _ hb => absurd hb (by omega), Hb.out⟩
  case round =>
    obtain ⟨k, f, hk, rfl, hown, heq, hbr⟩ := hrel
    obtain ⟨wo, rfl⟩ : ∃ wo : World, wo = wr := ⟨_, rfl⟩
    clear Hv Hb
    by_cases hlt : k < m.length
    · obtain ⟨b1, o1, r1, d1, e0, hc0, hx1, _, _⟩ := Hm.out k hlt
      have hrl : (gr m k).length = m.length := Hsq.out.2.2 k hlt
      rw [hrl] at hc0
      have hc1 := cell_below hc0 hbr
      subst e0
      have Hrow := Lib.hid hx1
      have Hown := Lib.hid hown
      have Heq := Lib.hid heq
      have Hbr := Lib.hid hbr
      clear hown heq hbr hx1 hrl hc0
      go_wp2
      go_loopw [20] (fun i wr => ∃ (t : Nat) (f : Nat → Nat → Int), t ≤ m.length ∧ i = .int .i64 t ∧ OwnP wr w.heap.size (.slice (some ⟨w.heap.size, 0, none⟩) m.length m.length) m.length (tab m.length m.length f) m.length vs ∧
          (∀ a b, a < m.length → b < k → f a b = gi (gr m b) a) ∧ (∀ a, a < t → f a k = gi (gr m k) a) ∧ Below w.heap.size w wr) (fun i _ => m.length - (intOf i).toNat)
      case atStart => exact ⟨0, f, Nat.zero_le _, rfl, Hown.out, Heq.out, fun a ha => absurd ha (by omega), Hbr.out⟩
      case round =>
        obtain ⟨t, f, ht, rfl, hown, heq, hcol, hbi⟩ := hrel
        clear Hown Heq
        by_cases htl : t < m.length
        · obtain ⟨b2, o2, e2, hc2⟩ := Hrow.out.below hbi t (by rw [Hsq.out.2.2 k hlt]; exact htl)
          have hd := hown.cellAt t htl
          obtain ⟨g, cap, hvs, hd2, hf2, hg, hst⟩ := hown.at2 htl hlt
          rw [hvs] at hd
          have Hst := Lib.hid (hst (gi (gr m k) t))
          have Heq := Lib.hid heq
          have Hcol := Lib.hid hcol
          have Hbs := Lib.hid (hbi.setCell (p := ⟨g, k, none⟩) hg (.int .i64 (gi (gr m k) t)))
          subst e2
          clear hown heq hcol hbi hvs hst hg
          go_wp2
          go_roundw
          case rel =>
            refine ⟨t + 1, _, by omega, by go_num, Hst.out, fun a b ha hb => ?_, fun a ha => ?_, Hbs.out⟩
            · rw [if_neg (fun h => by omega)]
              exact Heq.out a b ha hb
            · by_cases e : a = t
              · subst e; rw [if_pos ⟨rfl, rfl⟩]
              · rw [if_neg (fun h => e h.1)]
                exact Hcol.out a (by omega)
          case measure => simp [intOf]; omega
        · obtain rfl : t = m.length := by omega
          have Hown := Lib.hid hown
          have Heq := Lib.hid heq
          have Hcol := Lib.hid hcol
          have Hbi := Lib.hid hbi
          clear hown heq hcol hbi
          go_wp2
          go_roundw
          case rel =>
            refine ⟨k + 1, f, by omega, by go_num, Hown.out, fun a b ha hb => ?_, Hbi.out⟩
            by_cases e : b = k
            · subst e; exact Hcol.out a ha
            · exact Heq.out a b ha (by omega)
          case measure => simp [intOf]; omega
    · obtain rfl : k = m.length := by omega
      go_wp2
      go_ret
      exact ⟨_, rfl, ⟨vs, by
        rw [tr_len]
        have e : tr m = tab m.length m.length f := (eq_tab (by rw [tr_len]) (fun i hi => tr_row hi) (fun i j hi hj => by rw [gi_tr hi hj, heq i j hi hj]))
        rw [e]
        exact hown⟩, hbr⟩
end Go.Proofs.YtnhkclnloiiihaaDoor

namespace Go.Proofs.YtnhkclnloiiihaaDoor
open Go.RowKit

theorem wrap_neg {s x : Int} (h : s + x = 9223372036854775808) : wrap64 (s + x) < 0 := by
  rw [h]
  unfold wrap64
  omega

set_option maxRecDepth 100000 in
set_option maxHeartbeats 400000 in
theorem signsAlternate_any (ao : Option Addr) (c : Nat) (xs : List Int) (w : World) (hn : xs.length ≤ 1048576) (hwf : WfI xs) (hx : IntsAt w ao xs) :
    Calls Tryd.prog 131 #[.slice ao xs.length c] w fun e w' => Ans (lineOk xs) e ∧ w = w' := by
  have hmx : xs.length ≤ 9223372036854775807 := by omega
  have Hwf := Lib.hid hwf
  have Hx := Lib.hid hx
  clear hwf hx
  go_enter Tryd.func131, Tryd.ntmps131
  go_wp2
  go_loop [3, 8] (fun s i => ∃ t : Nat, t ≤ xs.length ∧ i = .int .i64 t ∧ s = .int .i64 (sumK xs t) ∧ (∀ u, u ≤ t → 0 ≤ sumK xs u ∧ sumK xs u ≤ 1)) (fun _ i => xs.length - (intOf i).toNat)
  case atStart => exact ⟨0, Nat.zero_le _, rfl, rfl, fun u hu => by obtain rfl : u = 0 := by omega
                                                                    simp [sumK]⟩
  case round =>
    obtain ⟨t, ht, rfl, rfl, hsum⟩ := hrel
    have hs0 := (hsum t (Nat.le_refl _)).1
    have hs1 := (hsum t (Nat.le_refl _)).2
    have Hsum := Lib.hid hsum
    clear hsum
    by_cases htl : t < xs.length
    · obtain ⟨b2, o2, rfl, hc2⟩ := Hx.out t htl
      have hw1 := (Hwf.out t htl).1
      have hw2 := (Hwf.out t htl).2
      have hno : ¬ (0 ≤ sumK xs (t + 1) ∧ sumK xs (t + 1) ≤ 1) → ¬ lineOk xs := fun h hl => h (hl.1 (t + 1) (by omega))
      have hsu : sumK xs (t + 1) = sumK xs t + gi xs t := rfl
      have Hno := Lib.hid hno
      have Hsu := Lib.hid hsu
      obtain ⟨x, hx⟩ : ∃ x, x = gi xs t := ⟨_, rfl⟩
      obtain ⟨s, hsm⟩ : ∃ s, s = sumK xs t := ⟨_, rfl⟩
      rw [← hx] at hc2 hw1 hw2
      rw [← hsm] at hs0 hs1 ⊢
      have Hx := Lib.hid hx
      have Hsm := Lib.hid hsm
      clear hx hsm hno hsu
      by_cases hA : s + x < 0
      · go_wp2
        go_ret
        exact ⟨Ans.no (Hno.out (by rw [Hsu.out, ← Hx.out, ← Hsm.out]; omega)), rfl⟩
      · by_cases hD : s + x = 9223372036854775808
        · have HD := Lib.hid hD
          have hneg := wrap_neg hD
          have hbad : ¬ lineOk xs := Hno.out (by rw [Hsu.out, ← Hx.out, ← Hsm.out]; omega)
          have Hbad := Lib.hid hbad
          clear hD hA hbad hw1 hw2 hs0 hs1
          go_wp2
          go_ret
          exact ⟨Ans.no Hbad.out, rfl⟩
        · have hle : s + x ≤ 9223372036854775807 := by omega
          clear hD
          by_cases hC : 1 < s + x
          · have hd : decide ((1 : Int) < s + x) = true := by simpa using hC
            go_wp2
            go_ret
            exact ⟨Ans.no (Hno.out (by rw [Hsu.out, ← Hx.out, ← Hsm.out]; omega)), rfl⟩
          · have hd : decide ((1 : Int) < s + x) = false := by simpa using hC
            go_wp2
            go_round
            case rel =>
              have e1 : s + x = sumK xs (t + 1) := by rw [Hsu.out, ← Hx.out, ← Hsm.out]
              refine ⟨t + 1, by omega, by go_num, by rw [← e1], fun u hu => ?_⟩
              by_cases e : u = t + 1
              · subst e; rw [← e1]; omega
              · exact Hsum.out u (by omega)
            case measure => simp [intOf]; omega
    · obtain rfl : t = xs.length := by omega
      obtain ⟨s, hsm⟩ : ∃ s, s = sumK xs xs.length := ⟨_, rfl⟩
      rw [← hsm] at hs0 hs1 ⊢
      have Hsm := Lib.hid hsm
      clear hsm
      by_cases he : s = 1
      · have hb : (s == 1) = true := by simp [he]
        have He := Lib.hid he
        clear he
        go_wp2
        go_ret
        exact ⟨Ans.yes ⟨Hsum.out, by rw [← Hsm.out]; exact He.out⟩, rfl⟩
      · have hb : (s == 1) = false := by simp [he]
        go_wp2
        go_ret
        refine ⟨Ans.no fun h => ?_, rfl⟩
        have := h.2
        rw [← Hsm.out] at this
        exact he this

/-- the table itself, then the one with rows and columns exchanged -/
def selM (m : List (List Int)) (k : Nat) : List (List Int) := if k = 0 then m else tr m

theorem wf_tr {m : List (List Int)} (h : square m) (hw : WfM m) : WfM (tr m) := by
  intro i hi
  rw [tr_len] at hi
  intro j hj
  rw [tr_row hi] at hj
  rw [gi_tr hi hj]
  exact hw j hj i (by rw [h.2.2 j hj]; exact hi)

set_option maxRecDepth 100000 in
set_option maxHeartbeats 800000 in
theorem implIsSign_any (ao : Option Addr) (c : Nat) (m : List (List Int)) (w : World) (hs : Small m) (hwf : WfM m) (hm : MatAt w ao m) :
    Calls Tryd.prog 81 #[.slice ao m.length c] w fun e w' => Ans (good m) e ∧ Below w.heap.size w w' := by
  by_cases hsq : square m
  · have Hsq := Lib.hid hsq
    have Hs := Lib.hid hs
    have Hm := Lib.hid hm
    have Hwf := Lib.hid hwf
    have hn := hsq.2.1
    have hmx : m.length ≤ 9223372036854775807 := by omega
    clear hsq hs hm hwf
    go_enter Tryd.func81, Tryd.ntmps81
    go_wp2_with fail
    refine (isSquare_any ao c m w Hs.out Hm.out).mono ?_
    rintro e w2 ⟨ha, hb0⟩
    obtain rfl := ha.is Hsq.out
    have Hb0 := Lib.hid hb0
    clear ha hb0
    go_wp2_with fail
    refine (transposed_any ao c m w2 Hsq.out (Hm.out.below Hb0.out)).mono ?_
    rintro e w1 ⟨v, rfl, hv0, hb0⟩
    have hv := hv0.base Hb0.out.size
    have hb := Hb0.out.trans (hb0.mono Hb0.out.size)
    clear hv0 hb0
    obtain ⟨a2, c2, rfl, hc1, hc2, hr⟩ := hv.read
    rw [tr_len]
    have hsz := hb.size
    have hb2 : Below w.heap.size w (w1.alloc (.cells #[.slice ao m.length c, .slice a2 m.length c2] 77)) := hb.alloc hsz _
    have hb3 : Below w1.heap.size w1 (w1.alloc (.cells #[.slice ao m.length c, .slice a2 m.length c2] 77)) := (Below.refl _ _).alloc (Nat.le_refl _) _
    have hsel : ∀ k, k < 2 → ∃ a d, (w1.alloc (.cells #[.slice ao m.length c, .slice a2 m.length c2] 77)).cell? ⟨w1.heap.size, k, none⟩ = some (.slice a m.length d) ∧
        MatAt (w1.alloc (.cells #[.slice ao m.length c, .slice a2 m.length c2] 77)) a (selM m k) ∧ (selM m k).length = m.length ∧ square (selM m k) ∧ WfM (selM m k) := by
      intro k hk
      by_cases e : k = 0
      · subst e
        exact ⟨ao, c, by rw [cell_new]; rfl, Hm.out.below hb2, rfl, Hsq.out, Hwf.out⟩
      · obtain rfl : k = 1 := by omega
        exact ⟨a2, c2, by rw [cell_new]; rfl, hr.below hb3, tr_len m, Hsq.out.tr, wf_tr Hsq.out Hwf.out⟩
    have Hsel := Lib.hid hsel
    have Hb2 := Lib.hid hb2
    clear hv hb hr hb2 hb3 hsel
    go_wp2
    go_loop [15] (fun i => ∃ k : Nat, k ≤ 2 ∧ i = .int .i64 k ∧ ∀ j, j < k → rowsOk (selM m j)) (fun i => 2 - (intOf i).toNat)
    case atStart => exact ⟨0, Nat.zero_le _, rfl, fun j hj => absurd hj (by omega)⟩
    case round =>
      obtain ⟨k, hk, rfl, hdone⟩ := hrel
      have Hd := Lib.hid hdone
      clear hdone
      by_cases hlt : k < 2
      · obtain ⟨a, d, hcell, hmat, hlen, hsq2, hwf2⟩ := Hsel.out k hlt
        have Hmat := Lib.hid hmat
        have Hlen := Lib.hid hlen
        have Hsq2 := Lib.hid hsq2
        have Hwf2 := Lib.hid hwf2
        clear hmat hlen hsq2 hwf2 hc1 hc2
        go_wp2
        go_loop [21] (fun i => ∃ t : Nat, t ≤ m.length ∧ i = .int .i64 t ∧ ∀ j, j < t → lineOk (gr (selM m k) j)) (fun i => m.length - (intOf i).toNat)
        case atStart => exact ⟨0, Nat.zero_le _, rfl, fun j hj => absurd hj (by omega)⟩
        case round =>
          obtain ⟨t, ht, rfl, hln⟩ := hrel
          have Hln := Lib.hid hln
          clear hln
          by_cases htl : t < m.length
          · obtain ⟨b3, o3, r3, d3, rfl, hc3, hx3, _, _⟩ := Hmat.out t (by rw [Hlen.out]; exact htl)
            have hrl : (gr (selM m k) t).length ≤ 1048576 := by rw [Hsq2.out.2.2 t (by rw [Hlen.out]; exact htl), Hlen.out]; omega
            have Hx3 := Lib.hid hx3
            clear hx3
            go_wp2_with fail
            refine (signsAlternate_any r3 d3 (gr (selM m k) t) _ hrl (Hwf2.out t (by rw [Hlen.out]; exact htl)) Hx3.out).mono ?_
            rintro e w3 ⟨ha, rfl⟩
            by_cases hok : lineOk (gr (selM m k) t)
            · have Hok := Lib.hid hok
              clear hok
              obtain rfl := ha.is Hok.out
              clear ha
              go_wp2
              go_round
              case rel =>
                refine ⟨t + 1, by omega, by go_num, fun j hj => ?_⟩
                by_cases e : j = t
                · subst e; exact Hok.out
                · exact Hln.out j (by omega)
              case measure => simp [intOf]; omega
            · have Hok := Lib.hid hok
              clear hok
              obtain rfl := ha.isnt Hok.out
              clear ha
              go_wp2
              go_ret
              refine ⟨Ans.no fun h => Hok.out ?_, Hb2.out⟩
              have hlt' : t < (selM m k).length := by rw [Hlen.out]; exact htl
              unfold selM at hlt' ⊢
              split
              · next e => rw [if_pos e] at hlt'; exact h.2.1 t hlt'
              · next e => rw [if_neg e] at hlt'; exact h.2.2 t hlt'
          · obtain rfl : t = m.length := by omega
            go_wp2
            go_round
            case rel =>
              refine ⟨k + 1, by omega, by go_num, fun j hj => ?_⟩
              by_cases e : j = k
              · subst e; intro i hi; exact Hln.out i (by rw [Hlen.out] at hi; exact hi)
              · exact Hd.out j (by omega)
            case measure => simp [intOf]; omega
      · obtain rfl : k = 2 := by omega
        go_wp2
        go_ret
        exact ⟨Ans.yes ⟨Hsq.out, Hd.out 0 (by omega), Hd.out 1 (by omega)⟩, Hb2.out⟩
  · have Hsq := Lib.hid hsq
    have Hs := Lib.hid hs
    have Hm := Lib.hid hm
    clear hsq hs hm hwf
    go_enter Tryd.func81, Tryd.ntmps81
    go_wp2_with fail
    refine (isSquare_any ao c m w Hs.out Hm.out).mono ?_
    rintro e w2 ⟨ha, hb0⟩
    obtain rfl := ha.isnt Hsq.out
    have Hb0 := Lib.hid hb0
    clear ha hb0
    go_wp2
    go_ret
    exact ⟨Ans.no fun h => Hsq.out h.1, Hb0.out⟩
end Go.Proofs.YtnhkclnloiiihaaDoor

