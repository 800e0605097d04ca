/- Contracts of the program: squares, new grids, transposes, lines whose signs alternate. -/
import Derived.Test.YtnhkclnloiiihaaSpecB
namespace Go.Proofs.Ytnhkclnloiiihaa
open Go.RowKit

/-- every row has this many columns -/
def wideAll (m : List (List Int)) (c : Nat) : Prop := ∀ i, i < m.length → (gr m i).length = c

set_option maxRecDepth 100000 in
set_option maxHeartbeats 400000 in
theorem hasSize1_any (a : Option Addr) (n d cb cols : Nat) (w : World) (_hn : n ≤ 9223372036854775807) (_hc : cols ≤ 9223372036854775807) (hcell : w.cell? ⟨cb, 0, none⟩ = some (.int .i64 (cols : Int))) :
    Calls Try.prog 206 #[.slice a n d, .pointer (some ⟨cb, 0, none⟩)] w fun e w' => e = .returned (.bool (decide (n ≠ cols))) ∧ w = w' := by
  by_cases h : n = cols
  · have hb : ((n : Int) != (cols : Int)) = false := by simp; omega
    rw [show decide (n ≠ cols) = false by simp [h]]
    go_enter Try.func206, Try.ntmps206
    go_wp2
    go_ret
    exact ⟨rfl, rfl⟩
  · have hb : ((n : Int) != (cols : Int)) = true := by simp; omega
    rw [show decide (n ≠ cols) = true by simp [h]]
    go_enter Try.func206, Try.ntmps206
    go_wp2
    go_ret
    exact ⟨rfl, rfl⟩

set_option maxRecDepth 100000 in
set_option maxHeartbeats 400000 in
theorem indexRows_any (ao : Option Addr) (c cb cols : Nat) (m : List (List Int)) (w : World) (hs : Small m) (hm : MatAt w ao m) (hc : cols ≤ 9223372036854775807) (hcell : w.cell? ⟨cb, 0, none⟩ = some (.int .i64 (cols : Int))) :
    Calls Try.prog 180 #[.slice ao m.length c, .func (.func 206) #[] #[.pointer (some ⟨cb, 0, none⟩)]] w fun e w' => (∃ r : Int, e = .returned (.int .i64 r) ∧ -1 ≤ r ∧ r ≤ 1048576 ∧ (r < 0 ↔ wideAll m cols)) ∧ w = w' := by
  have hn := hs.1
  have hrow := hs.2
  have hmx : m.length ≤ 9223372036854775807 := by omega
  have Hm := Lib.hid hm
  have Hrow := Lib.hid hrow
  have Hcell := Lib.hid hcell
  clear hs hm hrow hcell
  go_enter Try.func180, Try.ntmps180
  go_wp2
  go_loop [8] (fun i => ∃ k : Nat, k ≤ m.length ∧ i = .int .i64 k ∧ (∀ j, j < k → (gr m j).length = cols)) (fun i => m.length - (intOf i).toNat)
  case atStart => exact ⟨0, Nat.zero_le _, rfl, fun j hj => absurd hj (by omega)⟩
  case round =>
    obtain ⟨k, hk, rfl, heq⟩ := hrel
    have Heq := Lib.hid heq
    clear heq
    by_cases hlt : k < m.length
    · obtain ⟨b1, o1, r1, d1, rfl, hc1, _, _, _⟩ := Hm.out k hlt
      have hrk := Hrow.out k hlt
      go_wp2_with fail
      refine (hasSize1_any r1 (gr m k).length d1 cb cols w (by omega) hc Hcell.out).mono ?_
      rintro e w2 ⟨rfl, rfl⟩
      by_cases he : (gr m k).length = cols
      · rw [show decide ((gr m k).length ≠ cols) = false by simp [he]]
        have He := Lib.hid he
        clear he hrk
        go_wp2
        go_round
        case rel =>
          refine ⟨k + 1, by omega, by go_num, fun j hj => ?_⟩
          by_cases e : j = k
          · subst e; exact He.out
          · exact Heq.out j (by omega)
        case measure => simp [intOf]; omega
      · rw [show decide ((gr m k).length ≠ cols) = true by simp [he]]
        have He := Lib.hid he
        clear he hrk
        go_wp2
        go_ret
        exact ⟨⟨_, rfl, by omega, by omega, ⟨fun h => absurd h (by omega), fun h => absurd (h k hlt) He.out⟩⟩, rfl⟩
    · obtain rfl : k = m.length := by omega
      go_wp2
      go_ret
      exact ⟨⟨_, rfl, by omega, by omega, ⟨fun _ => Heq.out, fun _ => by omega⟩⟩, rfl⟩

set_option maxRecDepth 100000 in
set_option maxHeartbeats 400000 in
theorem containsRows_any (ao : Option Addr) (c cb cols : Nat) (m : List (List Int)) (w : World) (hs : Small m) (hm : MatAt w ao m) (hc : cols ≤ 9223372036854775807) (hcell : w.cell? ⟨cb, 0, none⟩ = some (.int .i64 (cols : Int))) :
    Calls Try.prog 205 #[.slice ao m.length c, .func (.func 206) #[] #[.pointer (some ⟨cb, 0, none⟩)]] w fun e w' => Ans (¬ wideAll m cols) e ∧ w = w' := by
  have hmx : m.length ≤ 9223372036854775807 := by have := hs.1; omega
  go_enter Try.func205, Try.ntmps205
  go_wp2_with fail
  refine (indexRows_any ao c cb cols m w hs hm hc hcell).mono ?_
  rintro e w2 ⟨⟨r, rfl, h1, h2, h3⟩, rfl⟩
  have H3 := Lib.hid h3
  clear hs hm hcell h3
  by_cases h : r < 0
  · have hd : decide ((0 : Int) ≤ r) = false := by simp; omega
    go_wp2
    go_ret
    exact ⟨Ans.no (p := ¬ wideAll m cols) (fun hn : ¬ wideAll m cols => hn (H3.out.1 (by omega))), rfl⟩
  · go_wp2
    go_ret
    exact ⟨Ans.yes (p := ¬ wideAll m cols) (fun hn : wideAll m cols => by have := H3.out.2 hn; omega), rfl⟩

set_option maxRecDepth 100000 in
set_option maxHeartbeats 400000 in
theorem hasSize_any (ao : Option Addr) (c rows cols : Nat) (m : List (List Int)) (w : World) (hs : Small m) (hm : MatAt w ao m) (_hr : rows ≤ 9223372036854775807) (hc : cols ≤ 9223372036854775807) :
    Calls Try.prog 188 #[.slice ao m.length c, .int .i64 (rows : Int), .int .i64 (cols : Int)] w fun e w' => Ans (m.length = rows ∧ wideAll m cols) e ∧ Below w.heap.size w w' := by
  have hmx : m.length ≤ 9223372036854775807 := by have := hs.1; omega
  have hb := (Below.refl w.heap.size w).alloc (Nat.le_refl _) (.cells #[.int .i64 (cols : Int)] 3)
  have Hm := Lib.hid (hm.below hb)
  have hcell : (w.alloc (.cells #[.int .i64 (cols : Int)] 3)).cell? ⟨w.heap.size, 0, none⟩ = some (.int .i64 (cols : Int)) := by rw [cell_new]; rfl
  have Hcell := Lib.hid hcell
  have Hb := Lib.hid hb
  have Hs := Lib.hid hs
  clear hb hm hcell hs
  by_cases hl : m.length = rows
  · have hq : ((m.length : Int) == (rows : Int)) = true := by simp; omega
    have Hl := Lib.hid hl
    clear hl
    go_enter Try.func188, Try.ntmps188
    go_wp2_with fail
    refine (containsRows_any ao c w.heap.size cols m _ Hs.out Hm.out hc Hcell.out).mono ?_
    rintro e w2 ⟨ha, rfl⟩
    by_cases hw : wideAll m cols
    · obtain rfl := ha.isnt (fun h => h hw)
      have Hw := Lib.hid hw
      clear ha hw
      go_wp2
      go_ret
      exact ⟨Ans.yes ⟨Hl.out, Hw.out⟩, Hb.out⟩
    · obtain rfl := ha.is hw
      have Hw := Lib.hid hw
      clear ha hw
      go_wp2
      go_ret
      exact ⟨Ans.no fun h => Hw.out h.2, Hb.out⟩
  · have hq : ((m.length : Int) == (rows : Int)) = false := by simp; omega
    have Hl := Lib.hid hl
    clear hl
    go_enter Try.func188, Try.ntmps188
    go_wp2
    go_ret
    exact ⟨Ans.no fun h => Hl.out h.1, Hb.out⟩

set_option maxRecDepth 100000 in
set_option maxHeartbeats 400000 in
theorem isSquare_any (ao : Option Addr) (c : Nat) (m : List (List Int)) (w : World) (hs : Small m) (hm : MatAt w ao m) :
    Calls Try.prog 127 #[.slice ao m.length c] w fun e w' => Ans (square m) e ∧ Below w.heap.size w w' := by
  have hn := hs.1
  have hmx : m.length ≤ 9223372036854775807 := by omega
  have Hs := Lib.hid hs
  have Hm := Lib.hid hm
  clear hs hm
  by_cases h0 : 1 ≤ m.length
  · by_cases h6 : m.length ≤ 6
    · go_enter Try.func127, Try.ntmps127
      go_wp2_with fail
      refine (hasSize_any ao c m.length m.length m w Hs.out Hm.out hmx hmx).mono ?_
      rintro e w2 ⟨ha, hb⟩
      have Hb := Lib.hid hb
      clear hb
      by_cases hw : wideAll m m.length
      · obtain rfl := ha.is ⟨rfl, hw⟩
        have Hw := Lib.hid hw
        clear ha hw
        go_wp2
        go_ret
        exact ⟨Ans.yes ⟨h0, h6, Hw.out⟩, Hb.out⟩
      · obtain rfl := ha.isnt (fun h => hw h.2)
        have Hw := Lib.hid hw
        clear ha hw
        go_wp2
        go_ret
        exact ⟨Ans.no fun h => Hw.out h.2.2, Hb.out⟩
    · go_enter Try.func127, Try.ntmps127
      go_wp2
      go_ret
      exact ⟨Ans.no fun h => h6 h.2.1, Below.refl _ _⟩
  · go_enter Try.func127, Try.ntmps127
    go_wp2
    go_ret
    exact ⟨Ans.no fun h => h0 h.1, Below.refl _ _⟩

set_option maxRecDepth 100000 in
set_option maxHeartbeats 400000 in
theorem newTable_any (n c : Nat) (w : World) (hn : n ≤ 1048576) (hcn : c ≤ 1048576) :
    Calls Try.prog 182 #[.int .i64 (n : Int), .int .i64 (c : Int)] w fun e w' => ∃ vs, e = .returned (.slice (some ⟨w.heap.size, 0, none⟩) n n) ∧ OwnP w' w.heap.size (.slice (some ⟨w.heap.size, 0, none⟩) n n) n (tab n c fun _ _ => 0) n vs ∧ Below w.heap.size w w' := by
  obtain ⟨i0, hi, hz0, hz1, hz2⟩ := info_parts Try.info_int
  obtain ⟨j0, hj, hy0, hy1, hy2⟩ := info_parts Try.info_ints
  have hmx : n ≤ 9223372036854775807 := by omega
  go_enter Try.func182, Try.ntmps182
  go_wp2_with (at_make; refine wpList_make_full _ rfl _ _ 40 rfl w.heap.size 24 j0 (.slice none 0 0) 1 Try.underlying40 hj hy0 hy1 _ _ _ _ n rfl rfl rfl rfl ?c1 ?c2 ?c3 ?_)
  case c1 => rw [hy2]; omega
  case c2 => unfold maxLen; omega
  case c3 => simp
  intro w1 hown hg
  have hb1 : Below w.heap.size w w1 := (Below.refl _ _).grown hg (Nat.le_refl _) (fun _ h => by cases h)
  have hown1 := OwnP.made (m := tab n c fun _ _ => 0) hown
  clear hown hg
  go_wp2
  go_loopw [11] (fun i wr => ∃ (k : Nat) (vs : List Value), k ≤ n ∧ i = .int .i64 k ∧ OwnP wr w.heap.size (.slice (some ⟨w.heap.size, 0, none⟩) n n) n (tab n c fun _ _ => 0) k vs ∧ Below w.heap.size w wr)
    (fun i _ => n - (intOf i).toNat)
  case atStart => exact ⟨0, _, Nat.zero_le _, rfl, hown1, hb1⟩
  case round =>
    obtain ⟨k, vs, hk, rfl, hown, hbr⟩ := hrel
    clear hown1 hb1
    by_cases hlt : k < n
    · have hB := hbr.size
      have Hown := Lib.hid hown
      have Hbr := Lib.hid hbr
      clear hown hbr
      go_wp2_with (at_make; refine wpList_make_full _ rfl _ _ 24 rfl wr.heap.size 3 i0 (.int .i64 0) 1 Try.underlying24 hi hz0 hz1 _ _ _ _ c rfl rfl rfl rfl ?d1 ?d2 ?d3 ?_)
      case d1 => rw [hz2]; omega
      case d2 => unfold maxLen; omega
      case d3 => simp
      intro w2 hown2 hg2
      have hb2 : Below wr.heap.size wr w2 := (Below.refl _ _).grown hg2 (Nat.le_refl _) (fun _ h => by cases h)
      have hrow := OwnI.made hown2
      have hpos := Hown.out.below hb2
      have hd := hpos.cellAt k hlt
      have hf : w2.frozen? ⟨w.heap.size, k, none⟩ = false := World.ownsRow.frozenAt hpos.top k
      have e1 : gr (tab n c fun _ _ => (0 : Int)) k = List.replicate c 0 := zero_row hlt
      have hput := hpos.put hlt (v := .slice (some ⟨wr.heap.size, 0, none⟩) c c) (by rw [e1]; exact hrow.base hB) (Hown.out.fresh hrow (Nat.le_refl _))
      have Hput := Lib.hid hput
      have Hbs := Lib.hid ((Hbr.out.trans (hb2.mono hB)).setCell (p := ⟨w.heap.size, k, none⟩) (Nat.le_refl _) (.slice (some ⟨wr.heap.size, 0, none⟩) c c))
      clear hown2 hg2 hb2 hrow hpos e1 hput
      go_wp2
      go_roundw
      case rel => exact ⟨k + 1, _, by omega, by go_num, Hput.out, Hbs.out⟩
      case measure => simp [intOf]; omega
    · obtain rfl : k = n := by omega
      go_wp2
      go_ret
      exact ⟨vs, rfl, hown, hbr⟩

set_option maxRecDepth 100000 in
set_option maxHeartbeats 400000 in
theorem newGrid_any (n : Nat) (w : World) (hn : n ≤ 1048576) :
    Calls Try.prog 122 #[.int .i64 (n : Int)] w fun e w' => ∃ vs, e = .returned (.slice (some ⟨w.heap.size, 0, none⟩) n n) ∧ OwnP w' w.heap.size (.slice (some ⟨w.heap.size, 0, none⟩) n n) n (tab n n fun _ _ => 0) n vs ∧ Below w.heap.size w w' := by
  go_enter Try.func122, Try.ntmps122
  go_wp2_with fail
  refine (newTable_any n n w hn hn).mono ?_
  rintro e w1 ⟨vs, rfl, hv, hb⟩
  have Hv := Lib.hid hv
  have Hb := Lib.hid hb
  clear hv hb
  go_wp2
  go_ret
  exact ⟨vs, rfl, Hv.out, Hb.out⟩

set_option maxRecDepth 100000 in
set_option maxHeartbeats 800000 in
theorem transposed_any (ao : Option Addr) (c : Nat) (m : List (List Int)) (w : World) (hsq : square m) (hm : MatAt w ao m) :
    Calls Try.prog 128 #[.slice ao m.length c] w fun e w' => ∃ v, e = .returned v ∧ OwnM w' w.heap.size v (tr m) ∧ Below w.heap.size w w' := by
  have hn := hsq.2.1
  have hmx : m.length ≤ 9223372036854775807 := by omega
  have Hsq := Lib.hid hsq
  have Hm := Lib.hid hm
  clear hsq hm
  go_enter Try.func128, Try.ntmps128
  go_wp2_with fail
  refine (newGrid_any m.length w (by omega)).mono ?_
  rintro e w1 ⟨vs, rfl, hv, hb⟩
  have Hv := Lib.hid hv
  have Hb := Lib.hid hb
  clear hv hb
  go_wp2
  go_loopw [13] (fun i wr => ∃ (k : Nat) (f : Nat → Nat → Int), k ≤ m.length ∧ i = .int .i64 k ∧ OwnP wr w.heap.size (.slice (some ⟨w.heap.size, 0, none⟩) m.length m.length) m.length (tab m.length m.length f) m.length vs ∧
      (∀ a b, a < m.length → b < k → f a b = gi (gr m b) a) ∧ Below w.heap.size w wr) (fun i _ => m.length - (intOf i).toNat)
  case atStart => exact ⟨0, _, Nat.zero_le _, rfl, Hv.out, fun a b _ hb => absurd hb (by omega), Hb.out⟩
  case round =>
    obtain ⟨k, f, hk, rfl, hown, heq, hbr⟩ := hrel
    obtain ⟨wo, rfl⟩ : ∃ wo : World, wo = wr := ⟨_, rfl⟩
    clear Hv Hb
    by_cases hlt : k < m.length
    · obtain ⟨b1, o1, r1, d1, e0, hc0, hx1, _, _⟩ := Hm.out k hlt
      have hrl : (gr m k).length = m.length := Hsq.out.2.2 k hlt
      rw [hrl] at hc0
      have hc1 := cell_below hc0 hbr
      subst e0
      have Hrow := Lib.hid hx1
      have Hown := Lib.hid hown
      have Heq := Lib.hid heq
      have Hbr := Lib.hid hbr
      clear hown heq hbr hx1 hrl hc0
      go_wp2
      go_loopw [20] (fun i wr => ∃ (t : Nat) (f : Nat → Nat → Int), t ≤ m.length ∧ i = .int .i64 t ∧ OwnP wr w.heap.size (.slice (some ⟨w.heap.size, 0, none⟩) m.length m.length) m.length (tab m.length m.length f) m.length vs ∧
          (∀ a b, a < m.length → b < k → f a b = gi (gr m b) a) ∧ (∀ a, a < t → f a k = gi (gr m k) a) ∧ Below w.heap.size w wr) (fun i _ => m.length - (intOf i).toNat)
      case atStart => exact ⟨0, f, Nat.zero_le _, rfl, Hown.out, Heq.out, fun a ha => absurd ha (by omega), Hbr.out⟩
      case round =>
        obtain ⟨t, f, ht, rfl, hown, heq, hcol, hbi⟩ := hrel
        clear Hown Heq
        by_cases htl : t < m.length
        · obtain ⟨b2, o2, e2, hc2⟩ := Hrow.out.below hbi t (by rw [Hsq.out.2.2 k hlt]; exact htl)
          have hd := hown.cellAt t htl
          obtain ⟨g, cap, hvs, hd2, hf2, hg, hst⟩ := hown.at2 htl hlt
          rw [hvs] at hd
          have Hst := Lib.hid (hst (gi (gr m k) t))
          have Heq := Lib.hid heq
          have Hcol := Lib.hid hcol
          have Hbs := Lib.hid (hbi.setCell (p := ⟨g, k, none⟩) hg (.int .i64 (gi (gr m k) t)))
          subst e2
          clear hown heq hcol hbi hvs hst hg
          go_wp2
          go_roundw
          case rel =>
            refine ⟨t + 1, _, by omega, by go_num, Hst.out, fun a b ha hb => ?_, fun a ha => ?_, Hbs.out⟩
            · rw [if_neg (fun h => by omega)]
              exact Heq.out a b ha hb
            · by_cases e : a = t
              · subst e; rw [if_pos ⟨rfl, rfl⟩]
              · rw [if_neg (fun h => e h.1)]
                exact Hcol.out a (by omega)
          case measure => simp [intOf]; omega
        · obtain rfl : t = m.length := by omega
          have Hown := Lib.hid hown
          have Heq := Lib.hid heq
          have Hcol := Lib.hid hcol
          have Hbi := Lib.hid hbi
          clear hown heq hcol hbi
          go_wp2
          go_roundw
          case rel =>
            refine ⟨k + 1, f, by omega, by go_num, Hown.out, fun a b ha hb => ?_, Hbi.out⟩
            by_cases e : b = k
            · subst e; exact Hcol.out a ha
            · exact Heq.out a b ha (by omega)
          case measure => simp [intOf]; omega
    · obtain rfl : k = m.length := by omega
      go_wp2
      go_ret
      exact ⟨_, rfl, ⟨vs, by
        rw [tr_len]
        have e : tr m = tab m.length m.length f := (eq_tab (by rw [tr_len]) (fun i hi => tr_row hi) (fun i j hi hj => by rw [gi_tr hi hj, heq i j hi hj]))
        rw [e]
        exact hown⟩, hbr⟩
end Go.Proofs.Ytnhkclnloiiihaa
