/- Parts of proofs: contracts and plain facts. Conditions: as each says. -/
import Derived.Test.YtgdijjfipicodaaK02
namespace Go.Proofs.Ytgdijjfipicodaa
open Go.RowKit

/-- every row has this many columns -/
def wideAll (m : List (List Int)) (c : Nat) : Prop := ∀ i, i < m.length → (gr m i).length = c

set_option maxRecDepth 100000 in
set_option maxHeartbeats 400000 in
theorem hasSize1_any (a : Option Addr) (n d cb cols : Nat) (w : World) (_hn : n ≤ 9223372036854775807) (_hc : cols ≤ 9223372036854775807) (hcell : w.cell? ⟨cb, 0, none⟩ = some (.int .i64 (cols : Int))) :
    Calls Try.prog 95 #[.slice a n d, .pointer (some ⟨cb, 0, none⟩)] w fun e w' => e = .returned (.bool (decide (n ≠ cols))) ∧ w = w' := by
  by_cases h : n = cols
  · have hb : ((n : Int) != (cols : Int)) = false := by simp; omega
    rw [show decide (n ≠ cols) = false by simp [h]]
    go_enter Try.func95, Try.ntmps95
    go_wp2
    go_ret
    exact ⟨rfl, rfl⟩
  · have hb : ((n : Int) != (cols : Int)) = true := by simp; omega
    rw [show decide (n ≠ cols) = true by simp [h]]
    go_enter Try.func95, Try.ntmps95
    go_wp2
    go_ret
    exact ⟨rfl, rfl⟩

set_option maxRecDepth 100000 in
set_option maxHeartbeats 400000 in
theorem indexRows_any (ao : Option Addr) (c cb cols : Nat) (m : List (List Int)) (w : World) (hs : Small m) (hm : MatAt w ao m) (hc : cols ≤ 9223372036854775807) (hcell : w.cell? ⟨cb, 0, none⟩ = some (.int .i64 (cols : Int))) :
    Calls Try.prog 119 #[.slice ao m.length c, .func (.func 95) #[] #[.pointer (some ⟨cb, 0, none⟩)]] w fun e w' => (∃ r : Int, e = .returned (.int .i64 r) ∧ -1 ≤ r ∧ r ≤ 1048576 ∧ (r < 0 ↔ wideAll m cols)) ∧ w = w' := by
  have hn := hs.1
  have hrow := hs.2
  have hmx : m.length ≤ 9223372036854775807 := by omega
  have Hm := Lib.hid hm
  have Hrow := Lib.hid hrow
  have Hcell := Lib.hid hcell
  clear hs hm hrow hcell
  go_enter Try.func119, Try.ntmps119
  go_wp2
  go_loop [8] (fun i => ∃ k : Nat, k ≤ m.length ∧ i = .int .i64 k ∧ (∀ j, j < k → (gr m j).length = cols)) (fun i => m.length - (intOf i).toNat)
  case atStart => exact ⟨0, Nat.zero_le _, rfl, fun j hj => absurd hj (by omega)⟩
  case round =>
    obtain ⟨k, hk, rfl, heq⟩ := hrel
    have Heq := Lib.hid heq
    clear heq
    by_cases hlt : k < m.length
    · obtain ⟨b1, o1, r1, d1, rfl, hc1, _, _, _⟩ := Hm.out k hlt
      have hrk := Hrow.out k hlt
      go_wp2_with fail
      refine (hasSize1_any r1 (gr m k).length d1 cb cols w (by omega) hc Hcell.out).mono ?_
      rintro e w2 ⟨rfl, rfl⟩
      by_cases he : (gr m k).length = cols
      · rw [show decide ((gr m k).length ≠ cols) = false by simp [he]]
        have He := Lib.hid he
        clear he hrk
        go_wp2
        go_round
        case rel =>
          refine ⟨k + 1, by omega, by go_num, fun j hj => ?_⟩
          by_cases e : j = k
          · subst e; exact He.out
          · exact Heq.out j (by omega)
        case measure => simp [intOf]; omega
      · rw [show decide ((gr m k).length ≠ cols) = true by simp [he]]
        have He := Lib.hid he
        clear he hrk
        go_wp2
        go_ret
        exact ⟨⟨_, rfl, by omega, by omega, ⟨fun h => absurd h (by omega), fun h => absurd (h k hlt) He.out⟩⟩, rfl⟩
    · obtain rfl : k = m.length := by omega
      go_wp2
      go_ret
      exact ⟨⟨_, rfl, by omega, by omega, ⟨fun _ => Heq.out, fun _ => by omega⟩⟩, rfl⟩

set_option maxRecDepth 100000 in
set_option maxHeartbeats 400000 in
theorem containsRows_any (ao : Option Addr) (c cb cols : Nat) (m : List (List Int)) (w : World) (hs : Small m) (hm : MatAt w ao m) (hc : cols ≤ 9223372036854775807) (hcell : w.cell? ⟨cb, 0, none⟩ = some (.int .i64 (cols : Int))) :
    Calls Try.prog 94 #[.slice ao m.length c, .func (.func 95) #[] #[.pointer (some ⟨cb, 0, none⟩)]] w fun e w' => Ans (¬ wideAll m cols) e ∧ w = w' := by
  have hmx : m.length ≤ 9223372036854775807 := by have := hs.1; omega
  go_enter Try.func94, Try.ntmps94
  go_wp2_with fail
  refine (indexRows_any ao c cb cols m w hs hm hc hcell).mono ?_
  rintro e w2 ⟨⟨r, rfl, h1, h2, h3⟩, rfl⟩
  have H3 := Lib.hid h3
  clear hs hm hcell h3
  by_cases h : r < 0
  · have hd : decide ((0 : Int) ≤ r) = false := by simp; omega
    go_wp2
    go_ret
    exact ⟨Ans.no (p := ¬ wideAll m cols) (fun hn : ¬ wideAll m cols => hn (H3.out.1 (by omega))), rfl⟩
  · go_wp2
    go_ret
    exact ⟨Ans.yes (p := ¬ wideAll m cols) (fun hn : wideAll m cols => by have := H3.out.2 hn; omega), rfl⟩

set_option maxRecDepth 100000 in
set_option maxHeartbeats 400000 in
theorem hasSize_any (ao : Option Addr) (c rows cols : Nat) (m : List (List Int)) (w : World) (hs : Small m) (hm : MatAt w ao m) (_hr : rows ≤ 9223372036854775807) (hc : cols ≤ 9223372036854775807) :
    Calls Try.prog 61 #[.slice ao m.length c, .int .i64 (rows : Int), .int .i64 (cols : Int)] w fun e w' => Ans (m.length = rows ∧ wideAll m cols) e ∧ Below w.heap.size w w' := by
  have hmx : m.length ≤ 9223372036854775807 := by have := hs.1; omega
  have hb := (Below.refl w.heap.size w).alloc (Nat.le_refl _) (.cells #[.int .i64 (cols : Int)] 3)
  have Hm := Lib.hid (hm.below hb)
  have hcell : (w.alloc (.cells #[.int .i64 (cols : Int)] 3)).cell? ⟨w.heap.size, 0, none⟩ = some (.int .i64 (cols : Int)) := by rw [cell_new]; rfl
  have Hcell := Lib.hid hcell
  have Hb := Lib.hid hb
  have Hs := Lib.hid hs
  clear hb hm hcell hs
  by_cases hl : m.length = rows
  · have hq : ((m.length : Int) == (rows : Int)) = true := by simp; omega
    have Hl := Lib.hid hl
    clear hl
    go_enter Try.func61, Try.ntmps61
    go_wp2_with fail
    refine (containsRows_any ao c w.heap.size cols m _ Hs.out Hm.out hc Hcell.out).mono ?_
    rintro e w2 ⟨ha, rfl⟩
    by_cases hw : wideAll m cols
    · obtain rfl := ha.isnt (fun h => h hw)
      have Hw := Lib.hid hw
      clear ha hw
      go_wp2
      go_ret
      exact ⟨Ans.yes ⟨Hl.out, Hw.out⟩, Hb.out⟩
    · obtain rfl := ha.is hw
      have Hw := Lib.hid hw
      clear ha hw
      go_wp2
      go_ret
      exact ⟨Ans.no fun h => Hw.out h.2, Hb.out⟩
  · have hq : ((m.length : Int) == (rows : Int)) = false := by simp; omega
    have Hl := Lib.hid hl
    clear hl
    go_enter Try.func61, Try.ntmps61
    go_wp2
    go_ret
    exact ⟨Ans.no fun h => Hl.out h.1, Hb.out⟩

set_option maxRecDepth 100000 in
set_option maxHeartbeats 400000 in
theorem isSquare_any (ao : Option Addr) (c : Nat) (m : List (List Int)) (w : World) (hs : Small m) (hm : MatAt w ao m) :
    Calls Try.prog 76 #[.slice ao m.length c] w fun e w' => Ans (square m) e ∧ Below w.heap.size w w' := by
  have hn := hs.1
  have hmx : m.length ≤ 9223372036854775807 := by omega
  have Hs := Lib.hid hs
  have Hm := Lib.hid hm
  clear hs hm
  by_cases h0 : 1 ≤ m.length
  · by_cases h6 : m.length ≤ 6
    · go_enter Try.func76, Try.ntmps76
      go_wp2_with fail
      refine (hasSize_any ao c m.length m.length m w Hs.out Hm.out hmx hmx).mono ?_
      rintro e w2 ⟨ha, hb⟩
      have Hb := Lib.hid hb
      clear hb
      by_cases hw : wideAll m m.length
      · obtain rfl := ha.is ⟨rfl, hw⟩
        have Hw := Lib.hid hw
        clear ha hw
        go_wp2
        go_ret
        exact ⟨Ans.yes ⟨h0, h6, Hw.out⟩, Hb.out⟩
      · obtain rfl := ha.isnt (fun h => hw h.2)
        have Hw := Lib.hid hw
        clear ha hw
        go_wp2
        go_ret
        exact ⟨Ans.no fun h => Hw.out h.2.2, Hb.out⟩
    · go_enter Try.func76, Try.ntmps76
      go_wp2
      go_ret
      exact ⟨Ans.no fun h => h6 h.2.1, Below.refl _ _⟩
  · go_enter Try.func76, Try.ntmps76
    go_wp2
    go_ret
    exact ⟨Ans.no fun h => h0 h.1, Below.refl _ _⟩

set_option maxRecDepth 100000 in
set_option maxHeartbeats 400000 in
theorem newTable_any (n c : Nat) (w : World) (hn : n ≤ 1048576) (hcn : c ≤ 1048576) :
    Calls Try.prog 96 #[.int .i64 (n : Int), .int .i64 (c : Int)] w fun e w' => ∃ vs, e = .returned (.slice (some ⟨w.heap.size, 0, none⟩) n n) ∧ OwnP w' w.heap.size (.slice (some ⟨w.heap.size, 0, none⟩) n n) n (tab n c fun _ _ => 0) n vs ∧ Below w.heap.size w w' := by
  obtain ⟨i0, hi, hz0, hz1, hz2⟩ := info_parts Try.info_int
  obtain ⟨j0, hj, hy0, hy1, hy2⟩ := info_parts Try.info_ints
  have hmx : n ≤ 9223372036854775807 := by omega
  go_enter Try.func96, Try.ntmps96
  go_wp2_with (at_make; refine wpList_make_full _ rfl _ _ 22 rfl w.heap.size 24 j0 (.slice none 0 0) 1 Try.underlying22 hj hy0 hy1 _ _ _ _ n rfl rfl rfl rfl ?c1 ?c2 ?c3 ?_)
  case c1 => rw [hy2]; omega
  case c2 => unfold maxLen; omega
  case c3 => simp
  intro w1 hown hg
  have hb1 : Below w.heap.size w w1 := (Below.refl _ _).grown hg (Nat.le_refl _) (fun _ h => by cases h)
  have hown1 := OwnP.made (m := tab n c fun _ _ => 0) hown
  clear hown hg
  go_wp2
  go_loopw [11] (fun i wr => ∃ (k : Nat) (vs : List Value), k ≤ n ∧ i = .int .i64 k ∧ OwnP wr w.heap.size (.slice (some ⟨w.heap.size, 0, none⟩) n n) n (tab n c fun _ _ => 0) k vs ∧ Below w.heap.size w wr)
    (fun i _ => n - (intOf i).toNat)
  case atStart => exact ⟨0, _, Nat.zero_le _, rfl, hown1, hb1⟩
  case round =>
    obtain ⟨k, vs, hk, rfl, hown, hbr⟩ := hrel
    clear hown1 hb1
    by_cases hlt : k < n
    · have hB := hbr.size
      have Hown := Lib.hid hown
      have Hbr := Lib.hid hbr
      clear hown hbr
      go_wp2_with (at_make; refine wpList_make_full _ rfl _ _ 24 rfl wr.heap.size 3 i0 (.int .i64 0) 1 Try.underlying24 hi hz0 hz1 _ _ _ _ c rfl rfl rfl rfl ?d1 ?d2 ?d3 ?_)
      case d1 => rw [hz2]; omega
      case d2 => unfold maxLen; omega
      case d3 => simp
      intro w2 hown2 hg2
      have hb2 : Below wr.heap.size wr w2 := (Below.refl _ _).grown hg2 (Nat.le_refl _) (fun _ h => by cases h)
      have hrow := OwnI.made hown2
      have hpos := Hown.out.below hb2
      have hd := hpos.cellAt k hlt
      have hf : w2.frozen? ⟨w.heap.size, k, none⟩ = false := World.ownsRow.frozenAt hpos.top k
      have e1 : gr (tab n c fun _ _ => (0 : Int)) k = List.replicate c 0 := zero_row hlt
      have hput := hpos.put hlt (v := .slice (some ⟨wr.heap.size, 0, none⟩) c c) (by rw [e1]; exact hrow.base hB) (Hown.out.fresh hrow (Nat.le_refl _))
      have Hput := Lib.hid hput
      have Hbs := Lib.hid ((Hbr.out.trans (hb2.mono hB)).setCell (p := ⟨w.heap.size, k, none⟩) (Nat.le_refl _) (.slice (some ⟨wr.heap.size, 0, none⟩) c c))
      clear hown2 hg2 hb2 hrow hpos e1 hput
      go_wp2
      go_roundw
      case rel => exact ⟨k + 1, _, by omega, by go_num, Hput.out, Hbs.out⟩
      case measure => simp [intOf]; omega
    · obtain rfl : k = n := by omega
      go_wp2
      go_ret
      exact ⟨vs, rfl, hown, hbr⟩

set_option maxRecDepth 100000 in
set_option maxHeartbeats 400000 in
theorem newGrid_any (n : Nat) (w : World) (hn : n ≤ 1048576) :
    Calls Try.prog 62 #[.int .i64 (n : Int)] w fun e w' => ∃ vs, e = .returned (.slice (some ⟨w.heap.size, 0, none⟩) n n) ∧ OwnP w' w.heap.size (.slice (some ⟨w.heap.size, 0, none⟩) n n) n (tab n n fun _ _ => 0) n vs ∧ Below w.heap.size w w' := by
  go_enter Try.func62, Try.ntmps62
  go_wp2_with fail
  refine (newTable_any n n w hn hn).mono ?_
  rintro e w1 ⟨vs, rfl, hv, hb⟩
  have Hv := Lib.hid hv
  have Hb := Lib.hid hb
  clear hv hb
  go_wp2
  go_ret
  exact ⟨vs, rfl, Hv.out, Hb.out⟩

set_option maxRecDepth 100000 in
set_option maxHeartbeats 800000 in
theorem transposed_any (ao : Option Addr) (c : Nat) (m : List (List Int)) (w : World) (hsq : square m) (hm : MatAt w ao m) :
    Calls Try.prog 77 #[.slice ao m.length c] w fun e w' => ∃ v, e = .returned v ∧ OwnM w' w.heap.size v (tr m) ∧ Below w.heap.size w w' := by
  have hn := hsq.2.1
  have hmx : m.length ≤ 9223372036854775807 := by omega
  have Hsq := Lib.hid hsq
  have Hm := Lib.hid hm
  clear hsq hm
  go_enter Try.func77, Try.ntmps77
  go_wp2_with fail
  refine (newGrid_any m.length w (by omega)).mono ?_
  rintro e w1 ⟨vs, rfl, hv, hb⟩
  have Hv := Lib.hid hv
  have Hb := Lib.hid hb
  clear hv hb
  go_wp2
  go_loopw [13] (fun i wr => ∃ (k : Nat) (f : Nat → Nat → Int), k ≤ m.length ∧ i = .int .i64 k ∧ OwnP wr w.heap.size (.slice (some ⟨w.heap.size, 0, none⟩) m.length m.length) m.length (tab m.length m.length f) m.length vs ∧
      (∀ a b, a < m.length → b < k → f a b = gi (gr m b) a) ∧ Below w.heap.size w wr) (fun i _ => m.length - (intOf i).toNat)
  case atStart => exact ⟨0, _, Nat.zero_le _, rfl, Hv.out, fun a b _ hb => absurd hb (by omega), Hb.out⟩
  case round =>
    obtain ⟨k, f, hk, rfl, hown, heq, hbr⟩ := hrel
    obtain ⟨wo, rfl⟩ : ∃ wo : World, wo = wr := ⟨_, rfl⟩
    clear Hv Hb
    by_cases hlt : k < m.length
    · obtain ⟨b1, o1, r1, d1, e0, hc0, hx1, _, _⟩ := Hm.out k hlt
      have hrl : (gr m k).length = m.length := Hsq.out.2.2 k hlt
      rw [hrl] at hc0
      have hc1 := cell_below hc0 hbr
      subst e0
      have Hrow := Lib.hid hx1
      have Hown := Lib.hid hown
      have Heq := Lib.hid heq
      have Hbr := Lib.hid hbr
      clear hown heq hbr hx1 hrl hc0
      go_wp2
      go_loopw [20] (fun i wr => ∃ (t : Nat) (f : Nat → Nat → Int), t ≤ m.length ∧ i = .int .i64 t ∧ OwnP wr w.heap.size (.slice (some ⟨w.heap.size, 0, none⟩) m.length m.length) m.length (tab m.length m.length f) m.length vs ∧
          (∀ a b, a < m.length → b < k → f a b = gi (gr m b) a) ∧ (∀ a, a < t → f a k = gi (gr m k) a) ∧ Below w.heap.size w wr) (fun i _ => m.length - (intOf i).toNat)
      case atStart => exact ⟨0, f, Nat.zero_le _, rfl, Hown.out, Heq.out, fun a ha => absurd ha (by omega), Hbr.out⟩
      case round =>
        obtain ⟨t, f, ht, rfl, hown, heq, hcol, hbi⟩ := hrel
        clear Hown Heq
        by_cases htl : t < m.length
        · obtain ⟨b2, o2, e2, hc2⟩ := Hrow.out.below hbi t (by rw [Hsq.out.2.2 k hlt]; exact htl)
          have hd := hown.cellAt t htl
          obtain ⟨g, cap, hvs, hd2, hf2, hg, hst⟩ := hown.at2 htl hlt
          rw [hvs] at hd
          have Hst := Lib.hid (hst (gi (gr m k) t))
          have Heq := Lib.hid heq
          have Hcol := Lib.hid hcol
          have Hbs := Lib.hid (hbi.setCell (p := ⟨g, k, none⟩) hg (.int .i64 (gi (gr m k) t)))
          subst e2
          clear hown heq hcol hbi hvs hst hg
          go_wp2
          go_roundw
          case rel =>
            refine ⟨t + 1, _, by omega, by go_num, Hst.out, fun a b ha hb => ?_, fun a ha => ?_, Hbs.out⟩
            · rw [if_neg (fun h => by omega)]
              exact Heq.out a b ha hb
            · by_cases e : a = t
              · subst e; rw [if_pos ⟨rfl, rfl⟩]
              · rw [if_neg (fun h => e h.1)]
                exact Hcol.out a (by omega)
          case measure => simp [intOf]; omega
        · obtain rfl : t = m.length := by omega
          have Hown := Lib.hid hown
          have Heq := Lib.hid heq
          have Hcol := Lib.hid hcol
          have Hbi := Lib.hid hbi
          clear hown heq hcol hbi
          go_wp2
          go_roundw
          case rel =>
            refine ⟨k + 1, f, by omega, by go_num, Hown.out, fun a b ha hb => ?_, Hbi.out⟩
            by_cases e : b = k
            · subst e; exact Hcol.out a ha
            · exact Heq.out a b ha (by omega)
          case measure => simp [intOf]; omega
    · obtain rfl : k = m.length := by omega
      go_wp2
      go_ret
      exact ⟨_, rfl, ⟨vs, by
        rw [tr_len]
        have e : tr m = tab m.length m.length f := (eq_tab (by rw [tr_len]) (fun i hi => tr_row hi) (fun i j hi hj => by rw [gi_tr hi hj, heq i j hi hj]))
        rw [e]
        exact hown⟩, hbr⟩
end Go.Proofs.Ytgdijjfipicodaa

namespace Go.Proofs.Ytgdijjfipicodaa
open Go.RowKit

theorem wrap_neg {s x : Int} (h : s + x = 9223372036854775808) : wrap64 (s + x) < 0 := by
  rw [h]
  unfold wrap64
  omega

set_option maxRecDepth 100000 in
set_option maxHeartbeats 400000 in
theorem signsAlternate_any (ao : Option Addr) (c : Nat) (xs : List Int) (w : World) (hn : xs.length ≤ 1048576) (hwf : WfI xs) (hx : IntsAt w ao xs) :
    Calls Try.prog 78 #[.slice ao xs.length c] w fun e w' => Ans (lineOk xs) e ∧ w = w' := by
  have hmx : xs.length ≤ 9223372036854775807 := by omega
  have Hwf := Lib.hid hwf
  have Hx := Lib.hid hx
  clear hwf hx
  go_enter Try.func78, Try.ntmps78
  go_wp2
  go_loop [3, 8] (fun s i => ∃ t : Nat, t ≤ xs.length ∧ i = .int .i64 t ∧ s = .int .i64 (sumK xs t) ∧ (∀ u, u ≤ t → 0 ≤ sumK xs u ∧ sumK xs u ≤ 1)) (fun _ i => xs.length - (intOf i).toNat)
  case atStart => exact ⟨0, Nat.zero_le _, rfl, rfl, fun u hu => by obtain rfl : u = 0 := by omega
                                                                    simp [sumK]⟩
  case round =>
    obtain ⟨t, ht, rfl, rfl, hsum⟩ := hrel
    have hs0 := (hsum t (Nat.le_refl _)).1
    have hs1 := (hsum t (Nat.le_refl _)).2
    have Hsum := Lib.hid hsum
    clear hsum
    by_cases htl : t < xs.length
    · obtain ⟨b2, o2, rfl, hc2⟩ := Hx.out t htl
      have hw1 := (Hwf.out t htl).1
      have hw2 := (Hwf.out t htl).2
      have hno : ¬ (0 ≤ sumK xs (t + 1) ∧ sumK xs (t + 1) ≤ 1) → ¬ lineOk xs := fun h hl => h (hl.1 (t + 1) (by omega))
      have hsu : sumK xs (t + 1) = sumK xs t + gi xs t := rfl
      have Hno := Lib.hid hno
      have Hsu := Lib.hid hsu
      obtain ⟨x, hx⟩ : ∃ x, x = gi xs t := ⟨_, rfl⟩
      obtain ⟨s, hsm⟩ : ∃ s, s = sumK xs t := ⟨_, rfl⟩
      rw [← hx] at hc2 hw1 hw2
      rw [← hsm] at hs0 hs1 ⊢
      have Hx := Lib.hid hx
      have Hsm := Lib.hid hsm
      clear hx hsm hno hsu
      by_cases hA : s + x < 0
      · go_wp2
        go_ret
        exact ⟨Ans.no (Hno.out (by rw [Hsu.out, ← Hx.out, ← Hsm.out]; omega)), rfl⟩
      · by_cases hD : s + x = 9223372036854775808
        · have HD := Lib.hid hD
          have hneg := wrap_neg hD
          have hbad : ¬ lineOk xs := Hno.out (by rw [Hsu.out, ← Hx.out, ← Hsm.out]; omega)
          have Hbad := Lib.hid hbad
          clear hD hA hbad hw1 hw2 hs0 hs1
          go_wp2
          go_ret
          exact ⟨Ans.no Hbad.out, rfl⟩
        · have hle : s + x ≤ 9223372036854775807 := by omega
          clear hD
          by_cases hC : 1 < s + x
          · have hd : decide ((1 : Int) < s + x) = true := by simpa using hC
            go_wp2
            go_ret
            exact ⟨Ans.no (Hno.out (by rw [Hsu.out, ← Hx.out, ← Hsm.out]; omega)), rfl⟩
          · have hd : decide ((1 : Int) < s + x) = false := by simpa using hC
            go_wp2
            go_round
            case rel =>
              have e1 : s + x = sumK xs (t + 1) := by rw [Hsu.out, ← Hx.out, ← Hsm.out]
              refine ⟨t + 1, by omega, by go_num, by rw [← e1], fun u hu => ?_⟩
              by_cases e : u = t + 1
              · subst e; rw [← e1]; omega
              · exact Hsum.out u (by omega)
            case measure => simp [intOf]; omega
    · obtain rfl : t = xs.length := by omega
      obtain ⟨s, hsm⟩ : ∃ s, s = sumK xs xs.length := ⟨_, rfl⟩
      rw [← hsm] at hs0 hs1 ⊢
      have Hsm := Lib.hid hsm
      clear hsm
      by_cases he : s = 1
      · have hb : (s == 1) = true := by simp [he]
        have He := Lib.hid he
        clear he
        go_wp2
        go_ret
        exact ⟨Ans.yes ⟨Hsum.out, by rw [← Hsm.out]; exact He.out⟩, rfl⟩
      · have hb : (s == 1) = false := by simp [he]
        go_wp2
        go_ret
        refine ⟨Ans.no fun h => ?_, rfl⟩
        have := h.2
        rw [← Hsm.out] at this
        exact he this

/-- the table itself, then the one with rows and columns exchanged -/
def selM (m : List (List Int)) (k : Nat) : List (List Int) := if k = 0 then m else tr m

theorem wf_tr {m : List (List Int)} (h : square m) (hw : WfM m) : WfM (tr m) := by
  intro i hi
  rw [tr_len] at hi
  intro j hj
  rw [tr_row hi] at hj
  rw [gi_tr hi hj]
  exact hw j hj i (by rw [h.2.2 j hj]; exact hi)

set_option maxRecDepth 100000 in
set_option maxHeartbeats 800000 in
theorem implIsSign_any (ao : Option Addr) (c : Nat) (m : List (List Int)) (w : World) (hs : Small m) (hwf : WfM m) (hm : MatAt w ao m) :
    Calls Try.prog 39 #[.slice ao m.length c] w fun e w' => Ans (good m) e ∧ Below w.heap.size w w' := by
  by_cases hsq : square m
  · have Hsq := Lib.hid hsq
    have Hs := Lib.hid hs
    have Hm := Lib.hid hm
    have Hwf := Lib.hid hwf
    have hn := hsq.2.1
    have hmx : m.length ≤ 9223372036854775807 := by omega
    clear hsq hs hm hwf
    go_enter Try.func39, Try.ntmps39
    go_wp2_with fail
    refine (isSquare_any ao c m w Hs.out Hm.out).mono ?_
    rintro e w2 ⟨ha, hb0⟩
    obtain rfl := ha.is Hsq.out
    have Hb0 := Lib.hid hb0
    clear ha hb0
    go_wp2_with fail
    refine (transposed_any ao c m w2 Hsq.out (Hm.out.below Hb0.out)).mono ?_
    rintro e w1 ⟨v, rfl, hv0, hb0⟩
    have hv := hv0.base Hb0.out.size
    have hb := Hb0.out.trans (hb0.mono Hb0.out.size)
    clear hv0 hb0
    obtain ⟨a2, c2, rfl, hc1, hc2, hr⟩ := hv.read
    rw [tr_len]
    have hsz := hb.size
    have hb2 : Below w.heap.size w (w1.alloc (.cells #[.slice ao m.length c, .slice a2 m.length c2] 69)) := hb.alloc hsz _
    have hb3 : Below w1.heap.size w1 (w1.alloc (.cells #[.slice ao m.length c, .slice a2 m.length c2] 69)) := (Below.refl _ _).alloc (Nat.le_refl _) _
    have hsel : ∀ k, k < 2 → ∃ a d, (w1.alloc (.cells #[.slice ao m.length c, .slice a2 m.length c2] 69)).cell? ⟨w1.heap.size, k, none⟩ = some (.slice a m.length d) ∧
        MatAt (w1.alloc (.cells #[.slice ao m.length c, .slice a2 m.length c2] 69)) a (selM m k) ∧ (selM m k).length = m.length ∧ square (selM m k) ∧ WfM (selM m k) := by
      intro k hk
      by_cases e : k = 0
      · subst e
        exact ⟨ao, c, by rw [cell_new]; rfl, Hm.out.below hb2, rfl, Hsq.out, Hwf.out⟩
      · obtain rfl : k = 1 := by omega
        exact ⟨a2, c2, by rw [cell_new]; rfl, hr.below hb3, tr_len m, Hsq.out.tr, wf_tr Hsq.out Hwf.out⟩
    have Hsel := Lib.hid hsel
    have Hb2 := Lib.hid hb2
    clear hv hb hr hb2 hb3 hsel
    go_wp2
    go_loop [15] (fun i => ∃ k : Nat, k ≤ 2 ∧ i = .int .i64 k ∧ ∀ j, j < k → rowsOk (selM m j)) (fun i => 2 - (intOf i).toNat)
    case atStart => exact ⟨0, Nat.zero_le _, rfl, fun j hj => absurd hj (by omega)⟩
    case round =>
      obtain ⟨k, hk, rfl, hdone⟩ := hrel
      have Hd := Lib.hid hdone
      clear hdone
      by_cases hlt : k < 2
      · obtain ⟨a, d, hcell, hmat, hlen, hsq2, hwf2⟩ := Hsel.out k hlt
        have Hmat := Lib.hid hmat
        have Hlen := Lib.hid hlen
        have Hsq2 := Lib.hid hsq2
        have Hwf2 := Lib.hid hwf2
        clear hmat hlen hsq2 hwf2 hc1 hc2
        go_wp2
        go_loop [21] (fun i => ∃ t : Nat, t ≤ m.length ∧ i = .int .i64 t ∧ ∀ j, j < t → lineOk (gr (selM m k) j)) (fun i => m.length - (intOf i).toNat)
        case atStart => exact ⟨0, Nat.zero_le _, rfl, fun j hj => absurd hj (by omega)⟩
        case round =>
          obtain ⟨t, ht, rfl, hln⟩ := hrel
          have Hln := Lib.hid hln
          clear hln
          by_cases htl : t < m.length
          · obtain ⟨b3, o3, r3, d3, rfl, hc3, hx3, _, _⟩ := Hmat.out t (by rw [Hlen.out]; exact htl)
            have hrl : (gr (selM m k) t).length ≤ 1048576 := by rw [Hsq2.out.2.2 t (by rw [Hlen.out]; exact htl), Hlen.out]; omega
            have Hx3 := Lib.hid hx3
            clear hx3
            go_wp2_with fail
            refine (signsAlternate_any r3 d3 (gr (selM m k) t) _ hrl (Hwf2.out t (by rw [Hlen.out]; exact htl)) Hx3.out).mono ?_
            rintro e w3 ⟨ha, rfl⟩
            by_cases hok : lineOk (gr (selM m k) t)
            · have Hok := Lib.hid hok
              clear hok
              obtain rfl := ha.is Hok.out
              clear ha
              go_wp2
              go_round
              case rel =>
                refine ⟨t + 1, by omega, by go_num, fun j hj => ?_⟩
                by_cases e : j = t
                · subst e; exact Hok.out
                · exact Hln.out j (by omega)
              case measure => simp [intOf]; omega
            · have Hok := Lib.hid hok
              clear hok
              obtain rfl := ha.isnt Hok.out
              clear ha
              go_wp2
              go_ret
              refine ⟨Ans.no fun h => Hok.out ?_, Hb2.out⟩
              have hlt' : t < (selM m k).length := by rw [Hlen.out]; exact htl
              unfold selM at hlt' ⊢
              split
              · next e => rw [if_pos e] at hlt'; exact h.2.1 t hlt'
              · next e => rw [if_neg e] at hlt'; exact h.2.2 t hlt'
          · obtain rfl : t = m.length := by omega
            go_wp2
            go_round
            case rel =>
              refine ⟨k + 1, by omega, by go_num, fun j hj => ?_⟩
              by_cases e : j = k
              · subst e; intro i hi; exact Hln.out i (by rw [Hlen.out] at hi; exact hi)
              · exact Hd.out j (by omega)
            case measure => simp [intOf]; omega
      · obtain rfl : k = 2 := by omega
        go_wp2
        go_ret
        exact ⟨Ans.yes ⟨Hsq.out, Hd.out 0 (by omega), Hd.out 1 (by omega)⟩, Hb2.out⟩
  · have Hsq := Lib.hid hsq
    have Hs := Lib.hid hs
    have Hm := Lib.hid hm
    clear hsq hs hm hwf
    go_enter Try.func39, Try.ntmps39
    go_wp2_with fail
    refine (isSquare_any ao c m w Hs.out Hm.out).mono ?_
    rintro e w2 ⟨ha, hb0⟩
    obtain rfl := ha.isnt Hsq.out
    have Hb0 := Lib.hid hb0
    clear ha hb0
    go_wp2
    go_ret
    exact ⟨Ans.no fun h => Hsq.out h.1, Hb0.out⟩
end Go.Proofs.Ytgdijjfipicodaa

namespace Go.Proofs.Ytgdijjfipicodaa
open Go.RowKit

/-- the rows backwards -/
def mir (m : List (List Int)) : List (List Int) := tab m.length m.length fun i j => gi (gr m i) (m.length - 1 - j)
theorem mir_len (m : List (List Int)) : (mir m).length = m.length := tab_len _ _ _
theorem mir_row {m : List (List Int)} {i : Nat} (h : i < m.length) : (gr (mir m) i).length = m.length := tab_row h
theorem gi_mir {m : List (List Int)} {i j : Nat} (hi : i < m.length) (hj : j < m.length) : gi (gr (mir m) i) j = gi (gr m i) (m.length - 1 - j) := gi_tab hi hj
theorem square.mir {m : List (List Int)} (h : square m) : square (mir m) := ⟨by rw [mir_len]; exact h.1, by rw [mir_len]; exact h.2.1, fun i hi => by rw [mir_len] at hi ⊢; exact mir_row hi⟩
/-- turned clockwise -/
def cw (m : List (List Int)) : List (List Int) := mir (tr m)
theorem cw_len (m : List (List Int)) : (cw m).length = m.length := by unfold cw; rw [mir_len, tr_len]
theorem cw_row {m : List (List Int)} {i : Nat} (h : i < m.length) : (gr (cw m) i).length = m.length := by unfold cw; rw [mir_row (by rw [tr_len]; exact h), tr_len]
theorem gi_cw {m : List (List Int)} {i j : Nat} (hi : i < m.length) (hj : j < m.length) : gi (gr (cw m) i) j = gi (gr m (m.length - 1 - j)) i := by
  unfold cw
  rw [gi_mir (by rw [tr_len]; exact hi) (by rw [tr_len]; exact hj), tr_len, gi_tr hi (by omega)]
theorem square.cw {m : List (List Int)} (h : square m) : square (cw m) := h.tr.mir

set_option maxRecDepth 100000 in
set_option maxHeartbeats 800000 in
theorem turned_any (ao : Option Addr) (c : Nat) (m : List (List Int)) (w : World) (hsq : square m) (hm : MatAt w ao m) :
    Calls Try.prog 106 #[.slice ao m.length c] w fun e w' => ∃ v, e = .returned v ∧ OwnM w' w.heap.size v (cw m) ∧ Below w.heap.size w w' := by
  have hn := hsq.2.1
  have hmx : m.length ≤ 9223372036854775807 := by omega
  have Hsq := Lib.hid hsq
  have Hm := Lib.hid hm
  clear hsq hm
  go_enter Try.func106, Try.ntmps106
  go_wp2_with fail
  refine (newGrid_any m.length w (by omega)).mono ?_
  rintro e w1 ⟨vs, rfl, hv, hb⟩
  have Hv := Lib.hid hv
  have Hb := Lib.hid hb
  clear hv hb
  go_wp2
  go_loopw [13] (fun i wr => ∃ (k : Nat) (f : Nat → Nat → Int), k ≤ m.length ∧ i = .int .i64 k ∧ OwnP wr w.heap.size (.slice (some ⟨w.heap.size, 0, none⟩) m.length m.length) m.length (tab m.length m.length f) m.length vs ∧
      (∀ a b, a < k → b < m.length → f (b) (m.length - 1 - a) = gi (gr m a) b) ∧ Below w.heap.size w wr) (fun i _ => m.length - (intOf i).toNat)
  case atStart => exact ⟨0, _, Nat.zero_le _, rfl, Hv.out, fun a b ha _ => absurd ha (by omega), Hb.out⟩
  case round =>
    obtain ⟨k, f, hk, rfl, hown, heq, hbr⟩ := hrel
    obtain ⟨wo, rfl⟩ : ∃ wo : World, wo = wr := ⟨_, rfl⟩
    clear Hv Hb
    by_cases hlt : k < m.length
    · obtain ⟨b1, o1, r1, d1, e0, hc0, hx1, _, _⟩ := Hm.out k hlt
      have hrl : (gr m k).length = m.length := Hsq.out.2.2 k hlt
      rw [hrl] at hc0
      have hc1 := cell_below hc0 hbr
      subst e0
      have Hrow := Lib.hid hx1
      have Hown := Lib.hid hown
      have Heq := Lib.hid heq
      have Hbr := Lib.hid hbr
      clear hown heq hbr hx1 hrl hc0
      go_wp2
      go_loopw [20] (fun i wr => ∃ (t : Nat) (f : Nat → Nat → Int), t ≤ m.length ∧ i = .int .i64 t ∧ OwnP wr w.heap.size (.slice (some ⟨w.heap.size, 0, none⟩) m.length m.length) m.length (tab m.length m.length f) m.length vs ∧
          (∀ a b, a < k → b < m.length → f (b) (m.length - 1 - a) = gi (gr m a) b) ∧ (∀ b, b < t → f (b) (m.length - 1 - k) = gi (gr m k) b) ∧ Below w.heap.size w wr) (fun i _ => m.length - (intOf i).toNat)
      case atStart => exact ⟨0, f, Nat.zero_le _, rfl, Hown.out, Heq.out, fun a ha => absurd ha (by omega), Hbr.out⟩
      case round =>
        obtain ⟨t, f, ht, rfl, hown, heq, hcol, hbi⟩ := hrel
        clear Hown Heq
        by_cases htl : t < m.length
        · obtain ⟨b2, o2, e2, hc2⟩ := Hrow.out.below hbi t (by rw [Hsq.out.2.2 k hlt]; exact htl)
          have hd := hown.cellAt (t) (by omega)
          obtain ⟨g, cap, hvs, hd2, hf2, hg, hst⟩ := hown.at2 (i := t) (j := m.length - 1 - k) (by omega) (by omega)
          rw [hvs] at hd
          have Hst := Lib.hid (hst (gi (gr m k) t))
          have Heq := Lib.hid heq
          have Hcol := Lib.hid hcol
          have Hbs := Lib.hid (hbi.setCell (p := ⟨g, m.length - 1 - k, none⟩) hg (.int .i64 (gi (gr m k) t)))
          subst e2
          clear hown heq hcol hbi hvs hst hg
          go_wp2
          go_roundw
          case rel =>
            refine ⟨t + 1, _, by omega, by go_num, Hst.out, fun a b ha hb => ?_, fun b hb => ?_, Hbs.out⟩
            · rw [if_neg (fun h => by omega)]
              exact Heq.out a b ha hb
            · by_cases e : b = t
              · subst e; rw [if_pos ⟨rfl, rfl⟩]
              · rw [if_neg (fun h => by omega)]
                exact Hcol.out b (by omega)
          case measure => simp [intOf]; omega
        · obtain rfl : t = m.length := by omega
          have Hown := Lib.hid hown
          have Heq := Lib.hid heq
          have Hcol := Lib.hid hcol
          have Hbi := Lib.hid hbi
          clear hown heq hcol hbi
          go_wp2
          go_roundw
          case rel =>
            refine ⟨k + 1, f, by omega, by go_num, Hown.out, fun a b ha hb => ?_, Hbi.out⟩
            by_cases e : a = k
            · subst e; exact Hcol.out b hb
            · exact Heq.out a b (by omega) hb
          case measure => simp [intOf]; omega
    · obtain rfl : k = m.length := by omega
      go_wp2
      go_ret
      exact ⟨_, rfl, ⟨vs, by
        rw [cw_len]
        have e : cw m = tab m.length m.length f := (eq_tab (by rw [cw_len]) (fun i hi => cw_row hi) (fun i j hi hj => by rw [gi_cw hi hj]; have := heq (m.length - 1 - j) i (by omega) hi; rw [show m.length - 1 - (m.length - 1 - j) = j from by omega] at this; exact this.symm))
        rw [e]
        exact hown⟩, hbr⟩

set_option maxRecDepth 100000 in
set_option maxHeartbeats 800000 in
theorem mirrored_any (ao : Option Addr) (c : Nat) (m : List (List Int)) (w : World) (hsq : square m) (hm : MatAt w ao m) :
    Calls Try.prog 107 #[.slice ao m.length c] w fun e w' => ∃ v, e = .returned v ∧ OwnM w' w.heap.size v (mir m) ∧ Below w.heap.size w w' := by
  have hn := hsq.2.1
  have hmx : m.length ≤ 9223372036854775807 := by omega
  have Hsq := Lib.hid hsq
  have Hm := Lib.hid hm
  clear hsq hm
  go_enter Try.func107, Try.ntmps107
  go_wp2_with fail
  refine (newGrid_any m.length w (by omega)).mono ?_
  rintro e w1 ⟨vs, rfl, hv, hb⟩
  have Hv := Lib.hid hv
  have Hb := Lib.hid hb
  clear hv hb
  go_wp2
  go_loopw [13] (fun i wr => ∃ (k : Nat) (f : Nat → Nat → Int), k ≤ m.length ∧ i = .int .i64 k ∧ OwnP wr w.heap.size (.slice (some ⟨w.heap.size, 0, none⟩) m.length m.length) m.length (tab m.length m.length f) m.length vs ∧
      (∀ a b, a < k → b < m.length → f (a) (m.length - 1 - b) = gi (gr m a) b) ∧ Below w.heap.size w wr) (fun i _ => m.length - (intOf i).toNat)
  case atStart => exact ⟨0, _, Nat.zero_le _, rfl, Hv.out, fun a b ha _ => absurd ha (by omega), Hb.out⟩
  case round =>
    obtain ⟨k, f, hk, rfl, hown, heq, hbr⟩ := hrel
    obtain ⟨wo, rfl⟩ : ∃ wo : World, wo = wr := ⟨_, rfl⟩
    clear Hv Hb
    by_cases hlt : k < m.length
    · obtain ⟨b1, o1, r1, d1, e0, hc0, hx1, _, _⟩ := Hm.out k hlt
      have hrl : (gr m k).length = m.length := Hsq.out.2.2 k hlt
      rw [hrl] at hc0
      have hc1 := cell_below hc0 hbr
      subst e0
      have Hrow := Lib.hid hx1
      have Hown := Lib.hid hown
      have Heq := Lib.hid heq
      have Hbr := Lib.hid hbr
      clear hown heq hbr hx1 hrl hc0
      go_wp2
      go_loopw [20] (fun i wr => ∃ (t : Nat) (f : Nat → Nat → Int), t ≤ m.length ∧ i = .int .i64 t ∧ OwnP wr w.heap.size (.slice (some ⟨w.heap.size, 0, none⟩) m.length m.length) m.length (tab m.length m.length f) m.length vs ∧
          (∀ a b, a < k → b < m.length → f (a) (m.length - 1 - b) = gi (gr m a) b) ∧ (∀ b, b < t → f (k) (m.length - 1 - b) = gi (gr m k) b) ∧ Below w.heap.size w wr) (fun i _ => m.length - (intOf i).toNat)
      case atStart => exact ⟨0, f, Nat.zero_le _, rfl, Hown.out, Heq.out, fun a ha => absurd ha (by omega), Hbr.out⟩
      case round =>
        obtain ⟨t, f, ht, rfl, hown, heq, hcol, hbi⟩ := hrel
        clear Hown Heq
        by_cases htl : t < m.length
        · obtain ⟨b2, o2, e2, hc2⟩ := Hrow.out.below hbi t (by rw [Hsq.out.2.2 k hlt]; exact htl)
          have hd := hown.cellAt (k) (by omega)
          obtain ⟨g, cap, hvs, hd2, hf2, hg, hst⟩ := hown.at2 (i := k) (j := m.length - 1 - t) (by omega) (by omega)
          rw [hvs] at hd
          have Hst := Lib.hid (hst (gi (gr m k) t))
          have Heq := Lib.hid heq
          have Hcol := Lib.hid hcol
          have Hbs := Lib.hid (hbi.setCell (p := ⟨g, m.length - 1 - t, none⟩) hg (.int .i64 (gi (gr m k) t)))
          subst e2
          clear hown heq hcol hbi hvs hst hg
          go_wp2
          go_roundw
          case rel =>
            refine ⟨t + 1, _, by omega, by go_num, Hst.out, fun a b ha hb => ?_, fun b hb => ?_, Hbs.out⟩
            · rw [if_neg (fun h => by omega)]
              exact Heq.out a b ha hb
            · by_cases e : b = t
              · subst e; rw [if_pos ⟨rfl, rfl⟩]
              · rw [if_neg (fun h => by omega)]
                exact Hcol.out b (by omega)
          case measure => simp [intOf]; omega
        · obtain rfl : t = m.length := by omega
          have Hown := Lib.hid hown
          have Heq := Lib.hid heq
          have Hcol := Lib.hid hcol
          have Hbi := Lib.hid hbi
          clear hown heq hcol hbi
          go_wp2
          go_roundw
          case rel =>
            refine ⟨k + 1, f, by omega, by go_num, Hown.out, fun a b ha hb => ?_, Hbi.out⟩
            by_cases e : a = k
            · subst e; exact Hcol.out b hb
            · exact Heq.out a b (by omega) hb
          case measure => simp [intOf]; omega
    · obtain rfl : k = m.length := by omega
      go_wp2
      go_ret
      exact ⟨_, rfl, ⟨vs, by
        rw [mir_len]
        have e : mir m = tab m.length m.length f := (eq_tab (by rw [mir_len]) (fun i hi => mir_row hi) (fun i j hi hj => by rw [gi_mir hi hj]; have := heq i (m.length - 1 - j) hi (by omega); rw [show m.length - 1 - (m.length - 1 - j) = j from by omega] at this; exact this.symm))
        rw [e]
        exact hown⟩, hbr⟩

/-- the answer of a function that hands back a table and whether there is one -/
def MRes (p : Prop) (r : List (List Int)) (w : World) (B : Nat) (e : Ending) : Prop :=
  ∃ v b r', e = .returned (.tuple #[v, .bool b]) ∧ OwnM w B v r' ∧ ((p ∧ b = true ∧ r' = r) ∨ (¬p ∧ b = false ∧ r' = []))
theorem MRes.yes {p : Prop} {r : List (List Int)} {w : World} {B : Nat} {v : Value} (h : p) (ho : OwnM w B v r) : MRes p r w B (.returned (.tuple #[v, .bool true])) := ⟨v, true, r, rfl, ho, .inl ⟨h, rfl, rfl⟩⟩
theorem MRes.no {p : Prop} {r : List (List Int)} {w : World} {B : Nat} (h : ¬p) : MRes p r w B (.returned (.tuple #[.slice none 0 0, .bool false])) := ⟨_, false, [], rfl, OwnM.nil _ _, .inr ⟨h, rfl, rfl⟩⟩


end Go.Proofs.Ytgdijjfipicodaa

