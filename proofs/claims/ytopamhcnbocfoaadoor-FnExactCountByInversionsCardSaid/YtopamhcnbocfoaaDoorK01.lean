/- Parts of proofs: contracts and plain facts. Conditions: as each says. -/
import Derived.Test.YtopamhcnbocfoaaDoorK00
namespace Go.Proofs.YtopamhcnbocfoaaDoor

/-- the sum of the first k numbers -/
def sumK (xs : List Int) : Nat → Int
  | 0 => 0
  | k + 1 => sumK xs k + gi xs k

theorem sumK_congr {xs ys : List Int} {k : Nat} (h : ∀ i, i < k → gi xs i = gi ys i) : sumK xs k = sumK ys k := by
  induction k with
  | zero => rfl
  | succ k ih => simp only [sumK]; rw [ih (fun i hi => h i (by omega)), h k (by omega)]

/-- signs alternate, the sum is 1 -/
def lineOk (xs : List Int) : Prop := (∀ k, k ≤ xs.length → 0 ≤ sumK xs k ∧ sumK xs k ≤ 1) ∧ sumK xs xs.length = 1
def rowsOk (m : List (List Int)) : Prop := ∀ i, i < m.length → lineOk (gr m i)
def square (m : List (List Int)) : Prop := 1 ≤ m.length ∧ m.length ≤ 6 ∧ ∀ i, i < m.length → (gr m i).length = m.length

/-- a table given by its numbers -/
def tab (n c : Nat) (f : Nat → Nat → Int) : List (List Int) := (List.range n).map fun i => (List.range c).map fun j => f i j
theorem tab_len (n c : Nat) (f : Nat → Nat → Int) : (tab n c f).length = n := by simp [tab]
theorem gr_tab {n c : Nat} {f : Nat → Nat → Int} {i : Nat} (h : i < n) : gr (tab n c f) i = (List.range c).map fun j => f i j := by
  rw [gr_lt (by rw [tab_len]; exact h)]
  simp [tab]
theorem tab_row {n c : Nat} {f : Nat → Nat → Int} {i : Nat} (h : i < n) : (gr (tab n c f) i).length = c := by rw [gr_tab h]; simp
theorem gi_row {c : Nat} {g : Nat → Int} {j : Nat} (h : j < c) : gi ((List.range c).map g) j = g j := by
  rw [gi_lt (by simpa using h)]
  simp
theorem gi_tab {n c : Nat} {f : Nat → Nat → Int} {i j : Nat} (hi : i < n) (hj : j < c) : gi (gr (tab n c f) i) j = f i j := by rw [gr_tab hi, gi_row hj]

theorem zero_row {n c k : Nat} (h : k < n) : gr (tab n c fun _ _ => 0) k = List.replicate c 0 := by
  refine ext_gi (by rw [tab_row h, List.length_replicate]) fun j hj => ?_
  rw [tab_row h] at hj
  rw [gi_tab h hj, gi_lt (by simpa using hj)]
  simp

/-- a table that agrees with the function is that table -/
theorem eq_tab {m : List (List Int)} {n c : Nat} {f : Nat → Nat → Int} (h1 : m.length = n) (h2 : ∀ i, i < n → (gr m i).length = c) (h3 : ∀ i j, i < n → j < c → gi (gr m i) j = f i j) : m = tab n c f := by
  refine ext_gr (by rw [h1, tab_len]) fun i hi => ?_
  rw [h1] at hi
  refine ext_gi (by rw [h2 i hi, tab_row hi]) fun j hj => ?_
  rw [h2 i hi] at hj
  rw [h3 i j hi hj, gi_tab hi hj]

/-- rows and columns exchanged -/
def tr (m : List (List Int)) : List (List Int) := tab m.length m.length fun i j => gi (gr m j) i
def good (m : List (List Int)) : Prop := square m ∧ rowsOk m ∧ rowsOk (tr m)

theorem square.small {m : List (List Int)} (h : square m) : Small m := ⟨by have := h.2.1; omega, fun i hi => by rw [h.2.2 i hi]; have := h.2.1; omega⟩
theorem tr_len (m : List (List Int)) : (tr m).length = m.length := tab_len _ _ _
theorem tr_row {m : List (List Int)} {i : Nat} (h : i < m.length) : (gr (tr m) i).length = m.length := tab_row h
theorem gi_tr {m : List (List Int)} {i j : Nat} (hi : i < m.length) (hj : j < m.length) : gi (gr (tr m) i) j = gi (gr m j) i := gi_tab hi hj
theorem square.tr {m : List (List Int)} (h : square m) : square (tr m) := ⟨by rw [tr_len]; exact h.1, by rw [tr_len]; exact h.2.1, fun i hi => by rw [tr_len] at hi ⊢; exact tr_row hi⟩
theorem tr_tr {m : List (List Int)} (h : square m) : Go.Proofs.YtopamhcnbocfoaaDoor.tr (Go.Proofs.YtopamhcnbocfoaaDoor.tr m) = m := by
  refine ext_gr (by rw [tr_len, tr_len]) fun i hi => ?_
  rw [tr_len, tr_len] at hi
  have e : (gr (Go.Proofs.YtopamhcnbocfoaaDoor.tr (Go.Proofs.YtopamhcnbocfoaaDoor.tr m)) i).length = m.length := by rw [tr_row (by rw [tr_len]; exact hi), tr_len]
  refine ext_gi (by rw [e, h.2.2 i hi]) fun j hj => ?_
  rw [e] at hj
  rw [gi_tr (by rw [tr_len]; exact hi) (by rw [tr_len]; exact hj), gi_tr hj hi]

theorem cell_new (w : World) (cs : Array Value) (e : TypeId) (k : Nat) : (w.alloc (.cells cs e)).cell? ⟨w.heap.size, k, none⟩ = cs[k]? := by
  unfold World.cell?
  rw [heap_alloc_new]
  rfl

/-- a number of an owned grid: its row, its cell, a store into it -/
theorem OwnP.at2 {w : World} {B n c : Nat} {v : Value} {f : Nat → Nat → Int} {vs : List Value} (h : OwnP w B v n (tab n c f) n vs) {i j : Nat} (hi : i < n) (hj : j < c) :
    ∃ g cap, vs.getD i undef = .slice (some ⟨g, 0, none⟩) c cap ∧ w.cell? ⟨g, j, none⟩ = some (.int .i64 (f i j)) ∧ w.frozen? ⟨g, j, none⟩ = false ∧ B ≤ g ∧
      ∀ x, OwnP (w.setCell ⟨g, j, none⟩ (.int .i64 x)) B v n (tab n c fun a b => if a = i ∧ b = j then x else f a b) n vs := by
  have hrow := h.rows i hi
  obtain ⟨ao, cap, hv, _, _, _⟩ := hrow.read
  rw [tab_row hi] at hv
  have hrow' := hrow
  rw [hv] at hrow'
  obtain ⟨g, rfl, hg, _⟩ := hrow'.isAt (by omega)
  refine ⟨g, cap, hv, ?_, hrow'.frozenAt j, hg, fun x => ⟨?_, fun a ha => ?_, h.apart⟩⟩
  · rw [hrow'.cellAt j hj, gi_tab hi hj]
  · exact Go.ownsRow_setCell_other h.top (fun e => hrow.ne_row h.top g (by rw [hv]; rfl) e) _
  · by_cases e : a = i
    · subst e
      have := hrow'.store j x
      rw [hv]
      have e2 : gr (tab n c fun a' b => if a' = a ∧ b = j then x else f a' b) a = (gr (tab n c f) a).set j x := by
        refine ext_gi (by rw [tab_row hi, List.length_set, tab_row hi]) fun b hb => ?_
        rw [tab_row hi] at hb
        rw [gi_tab hi hb, gi_set (by rw [tab_row hi]; exact hj), gi_tab hi hb]
        by_cases e3 : b = j <;> simp [e3]
      rw [e2]
      exact this
    · have e2 : gr (tab n c fun a' b => if a' = i ∧ b = j then x else f a' b) a = gr (tab n c f) a := by
        refine ext_gi (by rw [tab_row ha, tab_row ha]) fun b hb => ?_
        rw [tab_row ha] at hb
        rw [gi_tab ha hb, gi_tab ha hb, if_neg (fun h => e h.1)]
      rw [e2]
      refine (h.rows a ha).setOther (fun hg' => ?_) _
      rcases Nat.lt_or_gt_of_ne e with hlt | hlt
      · exact h.apart a i hlt hi g hg' (by rw [hv]; rfl)
      · exact h.apart i a hlt ha g (by rw [hv]; rfl) hg'
end Go.Proofs.YtopamhcnbocfoaaDoor

namespace Go.Proofs.YtopamhcnbocfoaaDoor
open Go.RowKit

set_option maxRecDepth 100000 in
set_option maxHeartbeats 400000 in
theorem l1In_any (n lo hi : Int) (w : World) :
    Calls Tryd.prog 26 #[.int .i64 n, .int .i64 lo, .int .i64 hi] w fun e w' => Ans (lo ≤ n ∧ n ≤ hi) e ∧ w = w' := by
  by_cases h1 : lo ≤ n
  · by_cases h2 : n ≤ hi
    · go_enter Tryd.func26, Tryd.ntmps26
      go_wp2
      go_ret
      exact ⟨Ans.yes ⟨h1, h2⟩, rfl⟩
    · go_enter Tryd.func26, Tryd.ntmps26
      go_wp2
      go_ret
      exact ⟨Ans.no (fun h => by omega), rfl⟩
  · go_enter Tryd.func26, Tryd.ntmps26
    go_wp2
    go_ret
    exact ⟨Ans.no (fun h => by omega), rfl⟩

set_option maxRecDepth 100000 in
set_option maxHeartbeats 400000 in
theorem sgSquare_any (ao : Option Addr) (c : Nat) (m : List (List Int)) (w : World) (hs : Small m) (hm : MatAt w ao m) :
    Calls Tryd.prog 33 #[.slice ao m.length c] w fun e w' => Ans (square m) e ∧ w = w' := by
  have hn := hs.1
  have hrow := hs.2
  have hmx : m.length ≤ 9223372036854775807 := by omega
  by_cases h1 : 1 ≤ m.length ∧ m.length ≤ 6
  · go_enter Tryd.func33, Tryd.ntmps33
    go_wp2_with fail
    refine (l1In_any _ _ _ w).mono ?_
    rintro e w2 ⟨ha, rfl⟩
    obtain rfl := ha.is ⟨by omega, by omega⟩
    clear ha
    go_wp2
    go_loopw [11] (fun i wr => ∃ k : Nat, k ≤ m.length ∧ i = .int .i64 k ∧ (∀ j, j < k → (gr m j).length = m.length) ∧ w = wr) (fun i _ => m.length - (intOf i).toNat)
    case atStart => exact ⟨0, Nat.zero_le _, rfl, fun j hj => absurd hj (by omega), by trivial⟩
    case round =>
      obtain ⟨k, hk, rfl, heq, rfl⟩ := hrel
      by_cases hlt : k < m.length
      · obtain ⟨b1, o1, r1, d1, rfl, hc1, _, _, _⟩ := hm k hlt
        have hrk := hrow k hlt
        have Heq := Lib.hid heq
        clear hm hs hrow heq
        by_cases he : (gr m k).length = m.length
        · have hb : (((gr m k).length : Int) != (m.length : Int)) = false := by simp [he]
          have He := Lib.hid he
          clear he
          go_wp2
          go_roundw
          case rel =>
            refine ⟨k + 1, by omega, by go_num, fun j hj => ?_, by trivial⟩
            by_cases e : j = k
            · subst e; exact He.out
            · exact Heq.out j (by omega)
          case measure => simp [intOf]; omega
        · have hb : (((gr m k).length : Int) != (m.length : Int)) = true := by simp; omega
          go_wp2
          go_ret
          exact ⟨Ans.no fun h => he (h.2.2 k hlt), rfl⟩
      · obtain rfl : k = m.length := by omega
        go_wp2
        go_ret
        exact ⟨Ans.yes ⟨h1.1, h1.2, heq⟩, rfl⟩
  · go_enter Tryd.func33, Tryd.ntmps33
    go_wp2_with fail
    refine (l1In_any _ _ _ w).mono ?_
    rintro e w2 ⟨ha, rfl⟩
    obtain rfl := ha.isnt (fun h => h1 ⟨by omega, by omega⟩)
    clear ha
    go_wp2
    go_ret
    exact ⟨Ans.no fun h => h1 ⟨h.1, h.2.1⟩, rfl⟩

set_option maxRecDepth 100000 in
set_option maxHeartbeats 800000 in
theorem sgRows_any (ao : Option Addr) (c : Nat) (m : List (List Int)) (w : World) (hs : Small m) (hm : MatAt w ao m) :
    Calls Tryd.prog 34 #[.slice ao m.length c] w fun e w' => Ans (rowsOk m) e ∧ w = w' := by
  have hn := hs.1
  have hrow := hs.2
  have hmx : m.length ≤ 9223372036854775807 := by omega
  go_enter Tryd.func34, Tryd.ntmps34
  go_wp2
  go_loop [10] (fun i => ∃ k : Nat, k ≤ m.length ∧ i = .int .i64 k ∧ (∀ j, j < k → lineOk (gr m j))) (fun i => m.length - (intOf i).toNat)
  case atStart => exact ⟨0, Nat.zero_le _, rfl, fun j hj => absurd hj (by omega)⟩
  case round =>
    obtain ⟨k, hk, rfl, hdone⟩ := hrel
    by_cases hlt : k < m.length
    · obtain ⟨b1, o1, r1, d1, rfl, hc1, hx1, _, _⟩ := hm k hlt
      have hrk := hrow k hlt
      have hrx : (gr m k).length ≤ 9223372036854775807 := by omega
      have Hd := Lib.hid hdone
      clear hm hs hrow hdone
      go_wp2
      go_loop [5, 16] (fun s i => ∃ t : Nat, t ≤ (gr m k).length ∧ i = .int .i64 t ∧ s = .int .i64 (sumK (gr m k) t) ∧ (∀ u, u ≤ t → 0 ≤ sumK (gr m k) u ∧ sumK (gr m k) u ≤ 1)) (fun _ i => (gr m k).length - (intOf i).toNat)
      case atStart => exact ⟨0, Nat.zero_le _, rfl, rfl, fun u hu => by obtain rfl : u = 0 := by omega
                                                                        simp [sumK]⟩
      case round =>
        obtain ⟨t, ht, rfl, rfl, hsum⟩ := hrel
        have hs0 := (hsum t (Nat.le_refl _)).1
        have hs1 := (hsum t (Nat.le_refl _)).2
        have Hsum := Lib.hid hsum
        clear hsum
        by_cases htl : t < (gr m k).length
        · obtain ⟨b2, o2, rfl, hc2⟩ := hx1 t htl
          obtain ⟨x, hx⟩ : ∃ x, x = gi (gr m k) t := ⟨_, rfl⟩
          obtain ⟨s, hsm⟩ : ∃ s, s = sumK (gr m k) t := ⟨_, rfl⟩
          rw [← hx] at hc2
          rw [← hsm] at hs0 hs1 ⊢
          have Hx := Lib.hid hx
          have Hsm := Lib.hid hsm
          clear hx1 hx hsm
          by_cases hx : -1 ≤ x ∧ x ≤ 1
          · obtain ⟨hxa, hxb⟩ := hx
            go_wp2_with fail
            refine (l1In_any _ _ _ w).mono ?_
            rintro e w2 ⟨ha, rfl⟩
            obtain rfl := ha.is ⟨by omega, by omega⟩
            clear ha
            by_cases hsx : 0 ≤ s + x ∧ s + x ≤ 1
            · obtain ⟨hsa, hsb⟩ := hsx
              go_wp2_with fail
              refine (l1In_any _ _ _ w).mono ?_
              rintro e w2 ⟨ha, rfl⟩
              obtain rfl := ha.is ⟨by omega, by omega⟩
              clear ha
              go_wp2
              go_round
              case rel =>
                have e1 : s + x = sumK (gr m k) (t + 1) := by simp only [sumK]; rw [← Hx.out, ← Hsm.out]
                refine ⟨t + 1, by omega, by go_num, by rw [← e1], fun u hu => ?_⟩
                by_cases e : u = t + 1
                · subst e; rw [← e1]; exact ⟨hsa, hsb⟩
                · exact Hsum.out u (by omega)
              case measure => simp [intOf]; omega
            · go_wp2_with fail
              refine (l1In_any _ _ _ w).mono ?_
              rintro e w2 ⟨ha, rfl⟩
              obtain rfl := ha.isnt (fun h => hsx ⟨by omega, by omega⟩)
              clear ha
              go_wp2
              go_ret
              refine ⟨Ans.no fun h => ?_, rfl⟩
              have := (h k hlt).1 (t + 1) (by omega)
              simp only [sumK] at this
              rw [← Hx.out, ← Hsm.out] at this
              exact hsx this
          · go_wp2_with fail
            refine (l1In_any _ _ _ w).mono ?_
            rintro e w2 ⟨ha, rfl⟩
            obtain rfl := ha.isnt (fun h => hx ⟨by omega, by omega⟩)
            clear ha
            go_wp2
            go_ret
            refine ⟨Ans.no fun h => ?_, rfl⟩
            have := (h k hlt).1 (t + 1) (by omega)
            simp only [sumK] at this
            rw [← Hx.out, ← Hsm.out] at this
            omega
        · obtain rfl : t = (gr m k).length := by omega
          obtain ⟨s, hsm⟩ : ∃ s, s = sumK (gr m k) (gr m k).length := ⟨_, rfl⟩
          rw [← hsm] at hs0 hs1 ⊢
          have Hsm := Lib.hid hsm
          clear hx1 hsm
          by_cases he : s = 1
          · have hb : (s != 1) = false := by simp [he]
            have He := Lib.hid he
            clear he
            go_wp2
            go_round
            case rel =>
              refine ⟨k + 1, by omega, by go_num, fun j hj => ?_⟩
              by_cases e : j = k
              · subst e; exact ⟨Hsum.out, by rw [← Hsm.out]; exact He.out⟩
              · exact Hd.out j (by omega)
            case measure => simp [intOf]; omega
          · have hb : (s != 1) = true := by simp [he]
            go_wp2
            go_ret
            refine ⟨Ans.no fun h => ?_, rfl⟩
            have := (h k hlt).2
            rw [← Hsm.out] at this
            exact he this
    · obtain rfl : k = m.length := by omega
      go_wp2
      go_ret
      exact ⟨Ans.yes hdone, rfl⟩
end Go.Proofs.YtopamhcnbocfoaaDoor

namespace Go.Proofs.YtopamhcnbocfoaaDoor
open Go.RowKit

/-- the first t numbers of column k -/
def colTo (m : List (List Int)) (k t : Nat) : List Int := (List.range t).map fun i => gi (gr m i) k
theorem colTo_succ (m : List (List Int)) (k t : Nat) : colTo m k (t + 1) = colTo m k t ++ [gi (gr m t) k] := by simp [colTo, List.range_succ]
theorem colTo_len (m : List (List Int)) (k t : Nat) : (colTo m k t).length = t := by simp [colTo]
theorem colTo_tr {m : List (List Int)} {k : Nat} (hk : k < m.length) : colTo m k m.length = gr (tr m) k := by unfold tr; rw [gr_tab hk]; rfl

set_option maxRecDepth 100000 in
set_option maxHeartbeats 800000 in
theorem sgTurn_any (ao : Option Addr) (c : Nat) (m : List (List Int)) (w : World) (hsq : square m) (hm : MatAt w ao m) :
    Calls Tryd.prog 35 #[.slice ao m.length c] w fun e w' => ∃ v, e = .returned v ∧ OwnM w' w.heap.size v (tr m) ∧ Below w.heap.size w w' := by
  obtain ⟨i0, hi, hz0, hz1, hz2⟩ := info_parts Tryd.info_int
  obtain ⟨j0, hj, hy0, hy1, hy2⟩ := info_parts Tryd.info_ints
  have hn := hsq.2.1
  have hmx : m.length ≤ 9223372036854775807 := by omega
  have Hsq := Lib.hid hsq
  clear hsq
  go_enter Tryd.func35, Tryd.ntmps35
  go_wp2
  go_loopw [3, 10] (fun out i wr => ∃ (k : Nat) (vs : List Value), k ≤ m.length ∧ i = .int .i64 k ∧ OwnP wr w.heap.size out k (tr m) k vs ∧ Below w.heap.size w wr) (fun _ i _ => m.length - (intOf i).toNat)
  case atStart => exact ⟨0, [], Nat.zero_le _, rfl, ⟨World.ownsRow_nil _ _ _ _, fun i hi => absurd hi (by omega), fun i j _ hj => absurd hj (by omega)⟩, Below.refl _ _⟩
  case round =>
    obtain ⟨k, vs, hk, rfl, hout, hbr⟩ := hrel
    obtain ⟨wo, rfl⟩ : ∃ wo : World, wo = wr := ⟨_, rfl⟩
    by_cases hlt : k < m.length
    · have Hout := Lib.hid hout
      have Hbr := Lib.hid hbr
      have hmo := Lib.hid (hm.below hbr)
      have hB := hbr.size
      clear hout hbr hm
      go_wp2
      go_loopw [5, 15] (fun row i wr => ∃ t : Nat, t ≤ m.length ∧ i = .int .i64 t ∧ OwnI wr wo.heap.size row (colTo m k t) ∧ Below wo.heap.size wo wr) (fun _ i _ => m.length - (intOf i).toNat)
      case atStart => exact ⟨0, Nat.zero_le _, rfl, OwnI.nil _ _, Below.refl _ _⟩
      case round =>
        obtain ⟨t, ht, rfl, hrow, hbi⟩ := hrel
        by_cases htl : t < m.length
        · obtain ⟨b1, o1, r1, d1, e0, hc1, hx1, _, _⟩ := hmo.out.below hbi t htl
          obtain ⟨b2, o2, e2, hc2⟩ := hx1 k (by rw [Hsq.out.2.2 t htl]; exact hlt)
          have hrl : (gr m t).length = m.length := Hsq.out.2.2 t htl
          rw [hrl] at hc1
          subst e0 e2
          have hB2 := hbi.size
          have Hbi := Lib.hid hbi
          have Hrow := Lib.hid hrow
          clear hbi hx1 hrl hrow
          go_wp2_with (at_builtin; refine wpList_append_own _ rfl _ _ 29 rfl wo.heap.size 3 i0 (.int .i64 0) 1 8 Tryd.underlying29 hi hz0 hz1 hz2 rfl (by decide) _ _ _ rfl (World.ownsRow.alloc Hrow.out _) ⟨wr.heap.size, 0, none⟩ 1 1 [.int .i64 (gi (gr m t) k)] rfl rfl ?c1 ?c2 ?c3 ?c4 ?c5 ?_)
          case c1 => exact cell_one_new _ _ _
          case c2 => intro u hu; simp at hu; subst hu; rfl
          case c3 => unfold maxLen; rw [colTo_len]; omega
          case c4 => rw [colTo_len]; omega
          case c5 => simp; omega
          intro v' w1 hown' hgrow _
          obtain ⟨hr2, hb2⟩ := Hrow.out.snoc hB2 hown' hgrow
          rw [← colTo_succ] at hr2
          have Hr2 := Lib.hid hr2
          have Hb2 := Lib.hid hb2
          clear hown' hgrow hr2 hb2
          go_wp2
          go_roundw
          case rel => exact ⟨t + 1, by omega, by go_num, Hr2.out, Hbi.out.trans Hb2.out⟩
          case measure => simp [intOf]; omega
        · obtain rfl : t = m.length := by omega
          rw [colTo_tr hlt] at hrow
          obtain ⟨rr, rc, hr, _, _, _⟩ := hrow.read
          have Hrow := Lib.hid hrow
          have hB2 := hbi.size
          have Hout2 := Lib.hid (Hout.out.below hbi)
          have Hbi := Lib.hid hbi
          have hfr := Lib.hid (Hout.out.fresh hrow (Nat.le_refl _))
          clear hrow hbi
          subst hr
          go_wp2_with (at_builtin; refine wpList_append_own _ rfl _ _ 22 rfl w.heap.size 29 j0 (.slice none 0 0) 1 24 Tryd.underlying22 hj hy0 hy1 hy2 rfl (by decide) _ _ _ rfl (World.ownsRow.alloc Hout2.out.top _) ⟨wr.heap.size, 0, none⟩ 1 1 [.slice rr (gr (tr m) k).length rc] rfl rfl ?d1 ?d2 ?d3 ?d4 ?d5 ?_)
          case d1 => exact cell_one_new _ _ _
          case d2 => intro u hu; simp at hu; subst hu; rfl
          case d3 => unfold maxLen; omega
          case d4 => omega
          case d5 => simp; omega
          intro v' w1 hown' hgrow _
          have hput := Hout2.out.snoc (show w.heap.size ≤ wr.heap.size by omega) (Hrow.out.base hB) hfr.out hown' hgrow
          have Hput := Lib.hid hput
          clear hput hown' hgrow
          go_wp2
          go_roundw
          case rel => exact ⟨k + 1, _, by omega, by go_num, Hput.out.1, (Hbr.out.trans (Hbi.out.mono hB)).trans Hput.out.2⟩
          case measure => simp [intOf]; omega
    · obtain rfl : k = m.length := by omega
      go_wp2
      go_ret
      exact ⟨_, rfl, ⟨vs, by rw [tr_len]; exact hout⟩, hbr⟩

set_option maxRecDepth 100000 in
set_option maxHeartbeats 800000 in
theorem sgGood_any (ao : Option Addr) (c : Nat) (m : List (List Int)) (w : World) (hs : Small m) (hm : MatAt w ao m) :
    Calls Tryd.prog 21 #[.slice ao m.length c] w fun e w' => Ans (good m) e ∧ Below w.heap.size w w' := by
  by_cases h1 : square m
  · by_cases h2 : rowsOk m
    · have H1 := Lib.hid h1
      have H2 := Lib.hid h2
      have Hs := Lib.hid hs
      have Hm := Lib.hid hm
      clear h1 h2 hs hm
      go_enter Tryd.func21, Tryd.ntmps21
      go_wp2_with fail
      refine (sgSquare_any ao c m w Hs.out Hm.out).mono ?_
      rintro e w2 ⟨ha, rfl⟩
      obtain rfl := ha.is H1.out
      clear ha
      go_wp2_with fail
      refine (sgRows_any ao c m w Hs.out Hm.out).mono ?_
      rintro e w2 ⟨ha, rfl⟩
      obtain rfl := ha.is H2.out
      clear ha
      go_wp2_with fail
      refine (sgTurn_any ao c m w H1.out Hm.out).mono ?_
      rintro e w2 ⟨v, rfl, hv, hb⟩
      obtain ⟨a2, c2, rfl, _, _, hr⟩ := hv.read
      have Hr := Lib.hid hr
      have Hb := Lib.hid hb
      clear hv hr hb
      go_wp2_with fail
      refine (sgRows_any a2 c2 (tr m) w2 H1.out.tr.small Hr.out).mono ?_
      rintro e w3 ⟨ha, rfl⟩
      by_cases h3 : rowsOk (tr m)
      · have H3 := Lib.hid h3
        clear h3
        obtain rfl := ha.is H3.out
        clear ha
        go_wp2
        go_ret
        exact ⟨Ans.yes ⟨H1.out, H2.out, H3.out⟩, Hb.out⟩
      · have H3 := Lib.hid h3
        clear h3
        obtain rfl := ha.isnt H3.out
        clear ha
        go_wp2
        go_ret
        exact ⟨Ans.no fun h => H3.out h.2.2, Hb.out⟩
    · have H1 := Lib.hid h1
      have H2 := Lib.hid h2
      have Hs := Lib.hid hs
      have Hm := Lib.hid hm
      clear h1 h2 hs hm
      go_enter Tryd.func21, Tryd.ntmps21
      go_wp2_with fail
      refine (sgSquare_any ao c m w Hs.out Hm.out).mono ?_
      rintro e w2 ⟨ha, rfl⟩
      obtain rfl := ha.is H1.out
      clear ha
      go_wp2_with fail
      refine (sgRows_any ao c m w Hs.out Hm.out).mono ?_
      rintro e w2 ⟨ha, rfl⟩
      obtain rfl := ha.isnt H2.out
      clear ha
      go_wp2
      go_ret
      exact ⟨Ans.no fun h => H2.out h.2.1, Below.refl _ _⟩
  · have H1 := Lib.hid h1
    have Hs := Lib.hid hs
    have Hm := Lib.hid hm
    clear h1 hs hm
    go_enter Tryd.func21, Tryd.ntmps21
    go_wp2_with fail
    refine (sgSquare_any ao c m w Hs.out Hm.out).mono ?_
    rintro e w2 ⟨ha, rfl⟩
    obtain rfl := ha.isnt H1.out
    clear ha
    go_wp2
    go_ret
    exact ⟨Ans.no fun h => H1.out h.1, Below.refl _ _⟩

end Go.Proofs.YtopamhcnbocfoaaDoor

namespace Go.Proofs.YtopamhcnbocfoaaDoor
open Go.RowKit

/-- every row has this many columns -/
def wideAll (m : List (List Int)) (c : Nat) : Prop := ∀ i, i < m.length → (gr m i).length = c

set_option maxRecDepth 100000 in
set_option maxHeartbeats 400000 in
theorem hasSize1_any (a : Option Addr) (n d cb cols : Nat) (w : World) (_hn : n ≤ 9223372036854775807) (_hc : cols ≤ 9223372036854775807) (hcell : w.cell? ⟨cb, 0, none⟩ = some (.int .i64 (cols : Int))) :
    Calls Tryd.prog 54 #[.slice a n d, .pointer (some ⟨cb, 0, none⟩)] w fun e w' => e = .returned (.bool (decide (n ≠ cols))) ∧ w = w' := by
  by_cases h : n = cols
  · have hb : ((n : Int) != (cols : Int)) = false := by simp; omega
    rw [show decide (n ≠ cols) = false by simp [h]]
    go_enter Tryd.func54, Tryd.ntmps54
    go_wp2
    go_ret
    exact ⟨rfl, rfl⟩
  · have hb : ((n : Int) != (cols : Int)) = true := by simp; omega
    rw [show decide (n ≠ cols) = true by simp [h]]
    go_enter Tryd.func54, Tryd.ntmps54
    go_wp2
    go_ret
    exact ⟨rfl, rfl⟩

set_option maxRecDepth 100000 in
set_option maxHeartbeats 400000 in
theorem indexRows_any (ao : Option Addr) (c cb cols : Nat) (m : List (List Int)) (w : World) (hs : Small m) (hm : MatAt w ao m) (hc : cols ≤ 9223372036854775807) (hcell : w.cell? ⟨cb, 0, none⟩ = some (.int .i64 (cols : Int))) :
    Calls Tryd.prog 62 #[.slice ao m.length c, .func (.func 54) #[] #[.pointer (some ⟨cb, 0, none⟩)]] w fun e w' => (∃ r : Int, e = .returned (.int .i64 r) ∧ -1 ≤ r ∧ r ≤ 1048576 ∧ (r < 0 ↔ wideAll m cols)) ∧ w = w' := by
  have hn := hs.1
  have hrow := hs.2
  have hmx : m.length ≤ 9223372036854775807 := by omega
  have Hm := Lib.hid hm
  have Hrow := Lib.hid hrow
  have Hcell := Lib.hid hcell
  clear hs hm hrow hcell
  go_enter Tryd.func62, Tryd.ntmps62
  go_wp2
  go_loop [8] (fun i => ∃ k : Nat, k ≤ m.length ∧ i = .int .i64 k ∧ (∀ j, j < k → (gr m j).length = cols)) (fun i => m.length - (intOf i).toNat)
  case atStart => exact ⟨0, Nat.zero_le _, rfl, fun j hj => absurd hj (by omega)⟩
  case round =>
    obtain ⟨k, hk, rfl, heq⟩ := hrel
    have Heq := Lib.hid heq
    clear heq
    by_cases hlt : k < m.length
    · obtain ⟨b1, o1, r1, d1, rfl, hc1, _, _, _⟩ := Hm.out k hlt
      have hrk := Hrow.out k hlt
      go_wp2_with fail
      refine (hasSize1_any r1 (gr m k).length d1 cb cols w (by omega) hc Hcell.out).mono ?_
      rintro e w2 ⟨rfl, rfl⟩
      by_cases he : (gr m k).length = cols
      · rw [show decide ((gr m k).length ≠ cols) = false by simp [he]]
        have He := Lib.hid he
        clear he hrk
        go_wp2
        go_round
        case rel =>
          refine ⟨k + 1, by omega, by go_num, fun j hj => ?_⟩
          by_cases e : j = k
          · subst e; exact He.out
          · exact Heq.out j (by omega)
        case measure => simp [intOf]; omega
      · rw [show decide ((gr m k).length ≠ cols) = true by simp [he]]
        have He := Lib.hid he
        clear he hrk
        go_wp2
        go_ret
        exact ⟨⟨_, rfl, by omega, by omega, ⟨fun h => absurd h (by omega), fun h => absurd (h k hlt) He.out⟩⟩, rfl⟩
    · obtain rfl : k = m.length := by omega
      go_wp2
      go_ret
      exact ⟨⟨_, rfl, by omega, by omega, ⟨fun _ => Heq.out, fun _ => by omega⟩⟩, rfl⟩

set_option maxRecDepth 100000 in
set_option maxHeartbeats 400000 in
theorem containsRows_any (ao : Option Addr) (c cb cols : Nat) (m : List (List Int)) (w : World) (hs : Small m) (hm : MatAt w ao m) (hc : cols ≤ 9223372036854775807) (hcell : w.cell? ⟨cb, 0, none⟩ = some (.int .i64 (cols : Int))) :
    Calls Tryd.prog 53 #[.slice ao m.length c, .func (.func 54) #[] #[.pointer (some ⟨cb, 0, none⟩)]] w fun e w' => Ans (¬ wideAll m cols) e ∧ w = w' := by
  have hmx : m.length ≤ 9223372036854775807 := by have := hs.1; omega
  go_enter Tryd.func53, Tryd.ntmps53
  go_wp2_with fail
  refine (indexRows_any ao c cb cols m w hs hm hc hcell).mono ?_
  rintro e w2 ⟨⟨r, rfl, h1, h2, h3⟩, rfl⟩
  have H3 := Lib.hid h3
  clear hs hm hcell h3
  by_cases h : r < 0
  · have hd : decide ((0 : Int) ≤ r) = false := by simp; omega
    go_wp2
    go_ret
    exact ⟨Ans.no (p := ¬ wideAll m cols) (fun hn : ¬ wideAll m cols => hn (H3.out.1 (by omega))), rfl⟩
  · go_wp2
    go_ret
    exact ⟨Ans.yes (p := ¬ wideAll m cols) (fun hn : wideAll m cols => by have := H3.out.2 hn; omega), rfl⟩

set_option maxRecDepth 100000 in
set_option maxHeartbeats 400000 in
theorem hasSize_any (ao : Option Addr) (c rows cols : Nat) (m : List (List Int)) (w : World) (hs : Small m) (hm : MatAt w ao m) (_hr : rows ≤ 9223372036854775807) (hc : cols ≤ 9223372036854775807) :
    Calls Tryd.prog 46 #[.slice ao m.length c, .int .i64 (rows : Int), .int .i64 (cols : Int)] w fun e w' => Ans (m.length = rows ∧ wideAll m cols) e ∧ Below w.heap.size w w' := by
  have hmx : m.length ≤ 9223372036854775807 := by have := hs.1; omega
  have hb := (Below.refl w.heap.size w).alloc (Nat.le_refl _) (.cells #[.int .i64 (cols : Int)] 3)
  have Hm := Lib.hid (hm.below hb)
  have hcell : (w.alloc (.cells #[.int .i64 (cols : Int)] 3)).cell? ⟨w.heap.size, 0, none⟩ = some (.int .i64 (cols : Int)) := by rw [cell_new]; rfl
  have Hcell := Lib.hid hcell
  have Hb := Lib.hid hb
  have Hs := Lib.hid hs
  clear hb hm hcell hs
  by_cases hl : m.length = rows
  · have hq : ((m.length : Int) == (rows : Int)) = true := by simp; omega
    have Hl := Lib.hid hl
    clear hl
    go_enter Tryd.func46, Tryd.ntmps46
    go_wp2_with fail
    refine (containsRows_any ao c w.heap.size cols m _ Hs.out Hm.out hc Hcell.out).mono ?_
    rintro e w2 ⟨ha, rfl⟩
    by_cases hw : wideAll m cols
    · obtain rfl := ha.isnt (fun h => h hw)
      have Hw := Lib.hid hw
      clear ha hw
      go_wp2
      go_ret
      exact ⟨Ans.yes ⟨Hl.out, Hw.out⟩, Hb.out⟩
    · obtain rfl := ha.is hw
      have Hw := Lib.hid hw
      clear ha hw
      go_wp2
      go_ret
      exact ⟨Ans.no fun h => Hw.out h.2, Hb.out⟩
  · have hq : ((m.length : Int) == (rows : Int)) = false := by simp; omega
    have Hl := Lib.hid hl
    clear hl
    go_enter Tryd.func46, Tryd.ntmps46
    go_wp2
    go_ret
    exact ⟨Ans.no fun h => Hl.out h.1, Hb.out⟩

set_option maxRecDepth 100000 in
set_option maxHeartbeats 400000 in
theorem isSquare_any (ao : Option Addr) (c : Nat) (m : List (List Int)) (w : World) (hs : Small m) (hm : MatAt w ao m) :
    Calls Tryd.prog 36 #[.slice ao m.length c] w fun e w' => Ans (square m) e ∧ Below w.heap.size w w' := by
  have hn := hs.1
  have hmx : m.length ≤ 9223372036854775807 := by omega
  have Hs := Lib.hid hs
  have Hm := Lib.hid hm
  clear hs hm
  by_cases h0 : 1 ≤ m.length
  · by_cases h6 : m.length ≤ 6
    · go_enter Tryd.func36, Tryd.ntmps36
      go_wp2_with fail
      refine (hasSize_any ao c m.length m.length m w Hs.out Hm.out hmx hmx).mono ?_
      rintro e w2 ⟨ha, hb⟩
      have Hb := Lib.hid hb
      clear hb
      by_cases hw : wideAll m m.length
      · obtain rfl := ha.is ⟨rfl, hw⟩
        have Hw := Lib.hid hw
        clear ha hw
        go_wp2
        go_ret
        exact ⟨Ans.yes ⟨h0, h6, Hw.out⟩, Hb.out⟩
      · obtain rfl := ha.isnt (fun h => hw h.2)
        have Hw := Lib.hid hw
        clear ha hw
        go_wp2
        go_ret
        exact ⟨Ans.no fun h => Hw.out h.2.2, Hb.out⟩
    · go_enter Tryd.func36, Tryd.ntmps36
      go_wp2
      go_ret
      exact ⟨Ans.no fun h => h6 h.2.1, Below.refl _ _⟩
  · go_enter Tryd.func36, Tryd.ntmps36
    go_wp2
    go_ret
    exact ⟨Ans.no fun h => h0 h.1, Below.refl _ _⟩

set_option maxRecDepth 100000 in
set_option maxHeartbeats 400000 in
theorem newTable_any (n c : Nat) (w : World) (hn : n ≤ 1048576) (hcn : c ≤ 1048576) :
    Calls Tryd.prog 55 #[.int .i64 (n : Int), .int .i64 (c : Int)] w fun e w' => ∃ vs, e = .returned (.slice (some ⟨w.heap.size, 0, none⟩) n n) ∧ OwnP w' w.heap.size (.slice (some ⟨w.heap.size, 0, none⟩) n n) n (tab n c fun _ _ => 0) n vs ∧ Below w.heap.size w w' := by
  obtain ⟨i0, hi, hz0, hz1, hz2⟩ := info_parts Tryd.info_int
  obtain ⟨j0, hj, hy0, hy1, hy2⟩ := info_parts Tryd.info_ints
  have hmx : n ≤ 9223372036854775807 := by omega
  go_enter Tryd.func55, Tryd.ntmps55
  go_wp2_with (at_make; refine wpList_make_full _ rfl _ _ 22 rfl w.heap.size 29 j0 (.slice none 0 0) 1 Tryd.underlying22 hj hy0 hy1 _ _ _ _ n rfl rfl rfl rfl ?c1 ?c2 ?c3 ?_)
  case c1 => rw [hy2]; omega
  case c2 => unfold maxLen; omega
  case c3 => simp
  intro w1 hown hg
  have hb1 : Below w.heap.size w w1 := (Below.refl _ _).grown hg (Nat.le_refl _) (fun _ h => by cases h)
  have hown1 := OwnP.made (m := tab n c fun _ _ => 0) hown
  clear hown hg
  go_wp2
  go_loopw [11] (fun i wr => ∃ (k : Nat) (vs : List Value), k ≤ n ∧ i = .int .i64 k ∧ OwnP wr w.heap.size (.slice (some ⟨w.heap.size, 0, none⟩) n n) n (tab n c fun _ _ => 0) k vs ∧ Below w.heap.size w wr)
    (fun i _ => n - (intOf i).toNat)
  case atStart => exact ⟨0, _, Nat.zero_le _, rfl, hown1, hb1⟩
  case round =>
    obtain ⟨k, vs, hk, rfl, hown, hbr⟩ := hrel
    clear hown1 hb1
    by_cases hlt : k < n
    · have hB := hbr.size
      have Hown := Lib.hid hown
      have Hbr := Lib.hid hbr
      clear hown hbr
      go_wp2_with (at_make; refine wpList_make_full _ rfl _ _ 29 rfl wr.heap.size 3 i0 (.int .i64 0) 1 Tryd.underlying29 hi hz0 hz1 _ _ _ _ c rfl rfl rfl rfl ?d1 ?d2 ?d3 ?_)
      case d1 => rw [hz2]; omega
      case d2 => unfold maxLen; omega
      case d3 => simp
      intro w2 hown2 hg2
      have hb2 : Below wr.heap.size wr w2 := (Below.refl _ _).grown hg2 (Nat.le_refl _) (fun _ h => by cases h)
      have hrow := OwnI.made hown2
      have hpos := Hown.out.below hb2
      have hd := hpos.cellAt k hlt
      have hf : w2.frozen? ⟨w.heap.size, k, none⟩ = false := World.ownsRow.frozenAt hpos.top k
      have e1 : gr (tab n c fun _ _ => (0 : Int)) k = List.replicate c 0 := zero_row hlt
      have hput := hpos.put hlt (v := .slice (some ⟨wr.heap.size, 0, none⟩) c c) (by rw [e1]; exact hrow.base hB) (Hown.out.fresh hrow (Nat.le_refl _))
      have Hput := Lib.hid hput
      have Hbs := Lib.hid ((Hbr.out.trans (hb2.mono hB)).setCell (p := ⟨w.heap.size, k, none⟩) (Nat.le_refl _) (.slice (some ⟨wr.heap.size, 0, none⟩) c c))
      clear hown2 hg2 hb2 hrow hpos e1 hput
      go_wp2
      go_roundw
      case rel => exact ⟨k + 1, _, by omega, by go_num, Hput.out, Hbs.out⟩
      case measure => simp [intOf]; omega
    · obtain rfl : k = n := by omega
      go_wp2
      go_ret
      exact ⟨vs, rfl, hown, hbr⟩

set_option maxRecDepth 100000 in
set_option maxHeartbeats 400000 in
theorem newGrid_any (n : Nat) (w : World) (hn : n ≤ 1048576) :
    Calls Tryd.prog 47 #[.int .i64 (n : Int)] w fun e w' => ∃ vs, e = .returned (.slice (some ⟨w.heap.size, 0, none⟩) n n) ∧ OwnP w' w.heap.size (.slice (some ⟨w.heap.size, 0, none⟩) n n) n (tab n n fun _ _ => 0) n vs ∧ Below w.heap.size w w' := by
  go_enter Tryd.func47, Tryd.ntmps47
  go_wp2_with fail
  refine (newTable_any n n w hn hn).mono ?_
  rintro e w1 ⟨vs, rfl, hv, hb⟩
  have Hv := Lib.hid hv
  have Hb := Lib.hid hb
  clear hv hb
  go_wp2
  go_ret
  exact ⟨vs, rfl, Hv.out, Hb.out⟩

set_option maxRecDepth 100000 in
set_option maxHeartbeats 800000 in
theorem transposed_any (ao : Option Addr) (c : Nat) (m : List (List Int)) (w : World) (hsq : square m) (hm : MatAt w ao m) :
    Calls Tryd.prog 37 #[.slice ao m.length c] w fun e w' => ∃ v, e = .returned v ∧ OwnM w' w.heap.size v (tr m) ∧ Below w.heap.size w w' := by
  have hn := hsq.2.1
  have hmx : m.length ≤ 9223372036854775807 := by omega
  have Hsq := Lib.hid hsq
  have Hm := Lib.hid hm
  clear hsq hm
  go_enter Tryd.func37, Tryd.ntmps37
  go_wp2_with fail
  refine (newGrid_any m.length w (by omega)).mono ?_
  rintro e w1 ⟨vs, rfl, hv, hb⟩
  have Hv := Lib.hid hv
  have Hb := Lib.hid hb
  clear hv hb
  go_wp2
  go_loopw [13] (fun i wr => ∃ (k : Nat) (f : Nat → Nat → Int), k ≤ m.length ∧ i = .int .i64 k ∧ OwnP wr w.heap.size (.slice (some ⟨w.heap.size, 0, none⟩) m.length m.length) m.length (tab m.length m.length f) m.length vs ∧
      (∀ a b, a < m.length → b < k → f a b = gi (gr m b) a) ∧ Below w.heap.size w wr) (fun i _ => m.length - (intOf i).toNat)
  case atStart => exact ⟨0, _, Nat.zero_le _, rfl, Hv.out, fun a b _ hb => absurd hb (by omega), Hb.out⟩
  case round =>
    obtain ⟨k, f, hk, rfl, hown, heq, hbr⟩ := hrel
    obtain ⟨wo, rfl⟩ : ∃ wo : World, wo = wr := ⟨_, rfl⟩
    clear Hv Hb
    by_cases hlt : k < m.length
    · obtain ⟨b1, o1, r1, d1, e0, hc0, hx1, _, _⟩ := Hm.out k hlt
      have hrl : (gr m k).length = m.length := Hsq.out.2.2 k hlt
      rw [hrl] at hc0
      have hc1 := cell_below hc0 hbr
      subst e0
      have Hrow := Lib.hid hx1
      have Hown := Lib.hid hown
      have Heq := Lib.hid heq
      have Hbr := Lib.hid hbr
      clear hown heq hbr hx1 hrl hc0
      go_wp2
      go_loopw [20] (fun i wr => ∃ (t : Nat) (f : Nat → Nat → Int), t ≤ m.length ∧ i = .int .i64 t ∧ OwnP wr w.heap.size (.slice (some ⟨w.heap.size, 0, none⟩) m.length m.length) m.length (tab m.length m.length f) m.length vs ∧
          (∀ a b, a < m.length → b < k → f a b = gi (gr m b) a) ∧ (∀ a, a < t → f a k = gi (gr m k) a) ∧ Below w.heap.size w wr) (fun i _ => m.length - (intOf i).toNat)
      case atStart => exact ⟨0, f, Nat.zero_le _, rfl, Hown.out, Heq.out, fun a ha => absurd ha (by omega), Hbr.out⟩
      case round =>
        obtain ⟨t, f, ht, rfl, hown, heq, hcol, hbi⟩ := hrel
        clear Hown Heq
        by_cases htl : t < m.length
        · obtain ⟨b2, o2, e2, hc2⟩ := Hrow.out.below hbi t (by rw [Hsq.out.2.2 k hlt]; exact htl)
          have hd := hown.cellAt t htl
          obtain ⟨g, cap, hvs, hd2, hf2, hg, hst⟩ := hown.at2 htl hlt
          rw [hvs] at hd
          have Hst := Lib.hid (hst (gi (gr m k) t))
          have Heq := Lib.hid heq
          have Hcol := Lib.hid hcol
          have Hbs := Lib.hid (hbi.setCell (p := ⟨g, k, none⟩) hg (.int .i64 (gi (gr m k) t)))
          subst e2
          clear hown heq hcol hbi hvs hst hg
          go_wp2
          go_roundw
          case rel =>
            refine ⟨t + 1, _, by omega, by go_num, Hst.out, fun a b ha hb => ?_, fun a ha => ?_, Hbs.out⟩
            · rw [if_neg (fun h => by omega)]
              exact Heq.out a b ha hb
            · by_cases e : a = t
              · subst e; rw [if_pos ⟨rfl, rfl⟩]
              · rw [if_neg (fun h => e h.1)]
                exact Hcol.out a (by omega)
          case measure => simp [intOf]; omega
        · obtain rfl : t = m.length := by omega
          have Hown := Lib.hid hown
          have Heq := Lib.hid heq
          have Hcol := Lib.hid hcol
          have Hbi := Lib.hid hbi
          clear hown heq hcol hbi
          go_wp2
          go_roundw
          case rel =>
            refine ⟨k + 1, f, by omega, by go_num, Hown.out, fun a b ha hb => ?_, Hbi.out⟩
            by_cases e : b = k
            · subst e; exact Hcol.out a ha
            · exact Heq.out a b ha (by omega)
          case measure => simp [intOf]; omega
    · obtain rfl : k = m.length := by omega
      go_wp2
      go_ret
      exact ⟨_, rfl, ⟨vs, by
        rw [tr_len]
        have e : tr m = tab m.length m.length f := (eq_tab (by rw [tr_len]) (fun i hi => tr_row hi) (fun i j hi hj => by rw [gi_tr hi hj, heq i j hi hj]))
        rw [e]
        exact hown⟩, hbr⟩
end Go.Proofs.YtopamhcnbocfoaaDoor

