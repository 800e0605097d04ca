/- Parts of proofs: contracts and plain facts. Conditions: as each says. -/
import Derived.Test.YtgdijjfipicodaaDoorK16
import Derived.Deep.WholeRow
import Derived.Deep.MidRow
namespace Go.Proofs.YtgdijjfipicodaaDoor
open Go.RowKit

theorem im_lt {m : List (List Int)} {i : Nat} (h : i < 4) : im m i = cwN m i := by unfold im; rw [if_pos h]
theorem im_ge {m : List (List Int)} {i : Nat} (h : 4 ≤ i) : im m i = mir (cwN m (i - 4)) := by unfold im; rw [if_neg (by omega)]

theorem one_owned (w : World) (B : Nat) (hB : B ≤ w.heap.size) (e : TypeId) (x : Value) : (w.alloc (.cells #[x] e)).ownsRow B e 1 (.slice (some ⟨w.heap.size, 0, none⟩) 1 1) 1 [x] :=
  ⟨by simp, .inr ⟨w.heap.size, 1, #[x], rfl, hB, heap_alloc_new w _, by omega, by unfold maxLen; omega, by simp, by simp⟩⟩

def vlen : Value → Nat
  | .slice _ n _ => n
  | _ => 0

set_option maxRecDepth 100000 in
set_option maxHeartbeats 3200000 in
theorem images_any (ao : Option Addr) (c : Nat) (m : List (List Int)) (w : World) (hsq : square m) (hm : MatAt w ao m) :
    Calls Tryd.prog 99 #[.slice ao m.length c] w fun e w' => ∃ g cap vs, e = .returned (.slice (some ⟨g, 0, none⟩) 8 cap) ∧ 8 ≤ cap ∧ OwnG w' w.heap.size (.slice (some ⟨g, 0, none⟩) 8 cap) 8 (im m) vs ∧ Below w.heap.size w w' := by
  obtain ⟨j0, hj, hy0, hy1, hy2⟩ := info_parts Tryd.info_grid
  have hn := hsq.2.1
  have hmx : m.length ≤ 9223372036854775807 := by omega
  have Hsq := Lib.hid hsq
  have Hm := Lib.hid hm
  clear hsq hm
  go_enter Tryd.func99, Tryd.ntmps99
  go_wp2_with fail
  refine (copied_any ao c m w Hsq.out Hm.out).mono ?_
  rintro e w1 ⟨v, rfl, hv, hb⟩
  obtain ⟨a1, c1, rfl, _, _, _⟩ := hv.read
  have h0 : OwnG (w1.alloc (.cells #[.slice a1 m.length c1] 62)) w.heap.size (.slice (some ⟨w1.heap.size, 0, none⟩) 1 1) 1 (im m) [.slice a1 m.length c1] := by
    refine ⟨one_owned w1 w.heap.size hb.size _ _, fun i hi => ?_⟩
    obtain rfl : i = 0 := by omega
    exact hv.below ((Below.refl _ w1).alloc (Nat.le_refl _) _)
  have H0 := Lib.hid h0
  have B0 := Lib.hid (show Below w.heap.size w (w1.alloc (.cells #[.slice a1 m.length c1] 62)) from hb.alloc hb.size _)
  clear hv hb h0
  go_wp2
  go_loopw [3] (fun all wr => ∃ (k : Nat) (vs : List Value), k < 4 ∧ OwnG wr w.heap.size all (k + 1) (im m) vs ∧ Below w.heap.size w wr) (fun all _ => 5 - vlen all)
  case atStart => exact ⟨0, _, by omega, H0.out, B0.out⟩
  case round =>
    clear H0 B0
    obtain ⟨k, vs, hk, hown, hbr⟩ := hrel
    obtain ⟨g, cap, rfl, hcap, hcap2, hBg⟩ := hown.isAt (by omega)
    have hB := hbr.size
    by_cases hlt : k < 3
    · have hk1 : ((k + 1 : Nat) : Int) < 4 := by omega
      have hcell := hown.cellAt k (by omega)
      have hel := hown.each k (by omega)
      rw [im_lt (by omega)] at hel
      obtain ⟨a2, c2, hv2, _, _, hm2⟩ := hel.read
      rw [cwN_len] at hv2
      rw [hv2] at hcell
      have hturn := turned_any a2 c2 (cwN m k) wr (Hsq.out.cwN k) hm2
      rw [cwN_len] at hturn
      have Hturn := Lib.hid hturn
      have Hown := Lib.hid hown
      have Hbr := Lib.hid hbr
      clear hturn hown hbr hel hv2 hm2
      go_wp2_with fail
      refine Hturn.out.mono ?_
      rintro e w2 ⟨v, rfl, hv, hb2⟩
      obtain ⟨a3, c3, rfl, _, _, _⟩ := hv.read
      rw [show (cw (cwN m k)).length = m.length from by rw [cw_len, cwN_len]] at hv
      have hv' : OwnM w2 w.heap.size (.slice a3 m.length c3) (im m (k + 1)) := by rw [im_lt (by omega)]; exact hv.base hB
      rw [show (cw (cwN m k)).length = m.length from by rw [cw_len, cwN_len]]
      have Hv := Lib.hid hv'
      have Hown2 := Lib.hid (Hown.out.below hb2)
      have Hbr2 := Lib.hid (Hbr.out.trans (hb2.mono hB))
      have hB2 := Hbr2.out.size
      clear hv hv' hb2 hcell
      go_wp2_with (at_builtin; refine wpList_append_own _ rfl _ _ 64 rfl w.heap.size 62 j0 (.slice none 0 0) 1 24 Tryd.underlying64 hj hy0 hy1 hy2 rfl (by decide) _ _ _ rfl (World.ownsRow.alloc Hown2.out.top _) ⟨w2.heap.size, 0, none⟩ 1 1 [.slice a3 m.length c3] rfl rfl ?c1 ?c2 ?c3 ?c4 ?c5 ?_)
      case c1 => exact cell_one_new _ _ _
      case c2 => intro u hu; simp at hu; subst hu; rfl
      case c3 => unfold maxLen; omega
      case c4 => omega
      case c5 => simp; omega
      intro v' w3 hown' hgrow _
      have hput := Hown2.out.snoc hB2 Hv.out hown' hgrow
      have Hput := Lib.hid hput
      obtain ⟨g4, cap4, rfl, _, _, _⟩ := hput.1.isAt (by omega)
      clear hput hown' hgrow
      go_wp2
      go_roundw
      case rel => exact ⟨k + 1, _, by omega, Hput.out.1, Hbr2.out.trans Hput.out.2⟩
      case measure => simp [vlen]; omega
    · have e4 : k + 1 = 4 := by omega
      rw [e4] at hown hcap ⊢
      clear e4
      have hvl : vs.length = 4 := by simpa using hown.top.1
      have Hown := Lib.hid hown
      have Hbr := Lib.hid hbr
      obtain ⟨v4, hv4⟩ : ∃ v4, v4 = vs := ⟨_, rfl⟩
      rw [← hv4] at hvl
      have hsnap : ∀ i, i < 4 → wr.cell? ⟨g, i, none⟩ = some (v4.getD i undef) := fun i hi => by rw [hv4]; exact hown.cellAt i hi
      have hfirst : ∀ i, i < 4 → vs.getD i undef = v4.getD i undef := fun i hi => by rw [hv4]
      have Hsnap := Lib.hid hsnap
      have Hfirst := Lib.hid hfirst
      clear hown hbr hsnap hfirst hv4
      obtain ⟨wo, hwo⟩ : ∃ wo : World, wo = wr := ⟨_, rfl⟩
      go_wp2
      go_loopw [3, 24] (fun all i wr => ∃ (t : Nat) (vs : List Value), t ≤ 4 ∧ i = .int .i64 t ∧ OwnG wr w.heap.size all (4 + t) (im m) vs ∧ (∀ i, i < 4 → vs.getD i undef = v4.getD i undef) ∧
        (∀ i, i < 4 → wr.cell? ⟨g, i, none⟩ = some (v4.getD i undef)) ∧ Below w.heap.size w wr) (fun _ i _ => 4 - (intOf i).toNat)
      case atStart => exact ⟨0, vs, by omega, rfl, Hown.out, Hfirst.out, Hsnap.out, Hbr.out⟩
      case round =>
        clear Hown Hfirst Hsnap Hbr hB
        obtain ⟨t, vs, ht, rfl, hown, hfirst, hsnap, hbr⟩ := hrel
        obtain ⟨g2, cap5, rfl, hcap5, hcap6, hBg2⟩ := hown.isAt (by omega)
        have hB := hbr.size
        have Hown := Lib.hid hown
        have Hbr := Lib.hid hbr
        by_cases htl : t < 4
        · have hcell := hsnap t htl
          have hel := hown.each t (by omega)
          rw [hfirst t htl, im_lt htl] at hel
          obtain ⟨a2, c2, hv2, _, _, hm2⟩ := hel.read
          rw [cwN_len] at hv2
          rw [hv2] at hcell
          have hmir := mirrored_any a2 c2 (cwN m t) wr (Hsq.out.cwN t) hm2
          rw [cwN_len] at hmir
          have Hmir := Lib.hid hmir
          have Hfirst := Lib.hid hfirst
          have Hsnap := Lib.hid hsnap
          clear hmir hown hbr hel hv2 hm2 hfirst hsnap
          go_wp2_with fail
          refine Hmir.out.mono ?_
          rintro e w2 ⟨v, rfl, hv, hb2⟩
          obtain ⟨a3, c3, rfl, _, _, _⟩ := hv.read
          rw [show (mir (cwN m t)).length = m.length from by rw [mir_len, cwN_len]] at hv
          have hv' : OwnM w2 w.heap.size (.slice a3 m.length c3) (im m (4 + t)) := by rw [im_ge (by omega), show 4 + t - 4 = t from by omega]; exact hv.base hB
          rw [show (mir (cwN m t)).length = m.length from by rw [mir_len, cwN_len]]
          have Hv := Lib.hid hv'
          have Hown2 := Lib.hid (Hown.out.below hb2)
          have Hsnap2 := Lib.hid (show ∀ i, i < 4 → w2.cell? ⟨g, i, none⟩ = some (v4.getD i undef) from fun i hi => cell_below (Hsnap.out i hi) hb2)
          have Hbr2 := Lib.hid (Hbr.out.trans (hb2.mono hB))
          have hB2 := Hbr2.out.size
          clear hv hv' hb2 hcell
          go_wp2_with (at_builtin; refine wpList_append_keep rfl _ _ 64 rfl w.heap.size 62 j0 (.slice none 0 0) 24 Tryd.underlying64 hj hy0 hy1 hy2 rfl g2 (4 + t) cap5 vs rfl (World.ownsRow.alloc Hown2.out.top _) ⟨w2.heap.size, 0, none⟩ 1 1 [.slice a3 m.length c3] rfl rfl ?c1 ?c2 ?c3 ?c4 ?c5 ?_)
          case c1 => exact cell_one_new _ _ _
          case c2 => intro u hu; simp at hu; subst hu; rfl
          case c3 => unfold maxLen; omega
          case c4 => omega
          case c5 => simp; omega
          intro v' w3 hown' hgrow hkeep
          have hput := Hown2.out.snoc hB2 Hv.out hown' hgrow
          have hvl2 : vs.length = 4 + t := by simpa using Hown2.out.top.1
          have hsnap3 : ∀ i, i < 4 → w3.cell? ⟨g, i, none⟩ = some (v4.getD i undef) := by
            intro i hi
            by_cases e : g = g2
            · subst e
              refine hkeep i _ ?_
              rw [← Hfirst.out i hi, List.getD, List.getElem?_eq_getElem (by omega)]
              rfl
            · have h2 := Hsnap2.out i hi
              have h3 : (w2.alloc (.cells #[.slice a3 m.length c3] 62)).cell? ⟨g, i, none⟩ = some (v4.getD i undef) := cell_below h2 ((Below.refl _ w2).alloc (Nat.le_refl _) _)
              exact hgrow.cell h3 (fun h => e (Option.some.inj h))
          have hfirst3 : ∀ i, i < 4 → (vs ++ [Value.slice a3 m.length c3]).getD i undef = v4.getD i undef := by
            intro i hi
            rw [← Hfirst.out i hi, List.getD, List.getD, List.getElem?_append_left (by omega)]
          have Hput := Lib.hid hput
          have Hsnap3 := Lib.hid hsnap3
          have Hfirst3 := Lib.hid hfirst3
          clear hput hown' hgrow hkeep hsnap3 hfirst3
          go_wp2
          go_roundw
          case rel => exact ⟨t + 1, _, by omega, by go_num, Hput.out.1, Hfirst3.out, Hsnap3.out, Hbr2.out.trans Hput.out.2⟩
          case measure => simp [intOf]; omega
        · obtain rfl : t = 4 := by omega
          clear hown hbr hfirst hsnap
          go_wp2
          go_ret
          exact ⟨g2, cap5, vs, rfl, hcap5, Hown.out, Hbr.out⟩

end Go.Proofs.YtgdijjfipicodaaDoor

namespace Go.Proofs.YtgdijjfipicodaaDoor

theorem ite_iff {p q : Prop} [Decidable p] [Decidable q] {x y : Int} (h : p ↔ q) : (if p then x else y) = if q then x else y := by
  by_cases hp : p
  · rw [if_pos hp, if_pos (h.1 hp)]
  · rw [if_neg hp, if_neg (fun hq => hp (h.2 hq))]

/-- the height where the corner sum is c -/
def hOf (c : Nat → Nat → Int) (i j : Nat) : Int := (i : Int) + (j : Int) - 2 * c i j
/-- the numbers that corner sums leave -/
def dC (c : Nat → Nat → Int) (i j : Nat) : Int := c (i + 1) (j + 1) - c i (j + 1) - c (i + 1) j + c i j
/-- the table of heights, the table of numbers -/
def htT (n : Nat) (c : Nat → Nat → Int) : List (List Int) := tab (n + 1) (n + 1) (hOf c)
def unC (n : Nat) (c : Nat → Nat → Int) : List (List Int) := tab n n (dC c)
def ht (m : List (List Int)) : List (List Int) := htT m.length (S2 m)

/-- corner sums of a sign matrix, told by their neighbours -/
structure Crn (n : Nat) (c : Nat → Nat → Int) : Prop where
  top : ∀ j, j ≤ n → c 0 j = 0
  left : ∀ i, i ≤ n → c i 0 = 0
  right : ∀ i, i ≤ n → c i n = i
  bottom : ∀ j, j ≤ n → c n j = j
  across : ∀ i j, i ≤ n → j < n → c i j ≤ c i (j + 1) ∧ c i (j + 1) ≤ c i j + 1
  down : ∀ i j, i < n → j ≤ n → c i j ≤ c (i + 1) j ∧ c (i + 1) j ≤ c i j + 1

theorem Crn.le_i {n : Nat} {c : Nat → Nat → Int} (h : Crn n c) {i j : Nat} (hi : i ≤ n) (hj : j ≤ n) : 0 ≤ c i j ∧ c i j ≤ i := by
  induction i with
  | zero => rw [h.top j hj]; omega
  | succ i ih =>
    have := ih (by omega)
    have := h.down i j (by omega) hj
    omega
theorem Crn.le_j {n : Nat} {c : Nat → Nat → Int} (h : Crn n c) {i j : Nat} (hi : i ≤ n) (hj : j ≤ n) : c i j ≤ j := by
  induction j with
  | zero => rw [h.left i hi]; omega
  | succ j ih =>
    have := ih (by omega)
    have := h.across i j hi (by omega)
    omega
theorem Crn.ge {n : Nat} {c : Nat → Nat → Int} (h : Crn n c) {i j : Nat} (hi : i ≤ n) (hj : j ≤ n) : (i : Int) + j - n ≤ c i j := by
  obtain ⟨k, rfl⟩ : ∃ k, n = j + k := ⟨n - j, by omega⟩
  clear hj
  induction k generalizing j with
  | zero => have := h.right i hi; simp only [Nat.add_zero] at this; rw [this]; omega
  | succ k ih =>
    have h2 := ih (j := j + 1) (by rw [show j + 1 + k = j + (k + 1) from by omega]; exact h) (by omega)
    have := h.across i j hi (by omega)
    omega

/-- heights are in 0..n -/
theorem Crn.hbound {n : Nat} {c : Nat → Nat → Int} (h : Crn n c) {i j : Nat} (hi : i ≤ n) (hj : j ≤ n) : 0 ≤ hOf c i j ∧ hOf c i j ≤ n := by
  have h1 := h.le_i hi hj
  have h2 := h.le_j hi hj
  have h3 := h.ge hi hj
  unfold hOf
  omega

theorem good_crn {m : List (List Int)} (h : good m) : Crn m.length (S2 m) := by
  have rowS : ∀ i j, S2 m (i + 1) j = S2 m i j + sumK (gr m i) j := fun i j => by rw [S2_succ, sumK_sumF]
  have colS : ∀ i j, i ≤ m.length → j < m.length → S2 m i (j + 1) = S2 m i j + sumK (gr (tr m) j) i := fun i j hi hj => by
    rw [S2_cols hi (show j + 1 ≤ m.length by omega), S2_cols hi (show j ≤ m.length by omega)]
    rfl
  have rowOk : ∀ i j, i < m.length → j ≤ m.length → 0 ≤ sumK (gr m i) j ∧ sumK (gr m i) j ≤ 1 := fun i j hi hj => (h.2.1 i hi).1 j (by rw [h.1.2.2 i hi]; exact hj)
  have colOk : ∀ i j, i < m.length → j ≤ m.length → 0 ≤ sumK (gr (tr m) i) j ∧ sumK (gr (tr m) i) j ≤ 1 := fun i j hi hj => (h.2.2 i (by rw [tr_len]; exact hi)).1 j (by rw [tr_row hi]; exact hj)
  refine ⟨fun j _ => rfl, fun i _ => S2_zero_col m i, fun i hi => ?_, fun j hj => ?_, fun i j hi hj => ?_, fun i j hi hj => ?_⟩
  · induction i with
    | zero => rfl
    | succ i ih =>
      rw [rowS, ih (by omega)]
      have := (h.2.1 i (by omega)).2
      rw [h.1.2.2 i (by omega)] at this
      omega
  · induction j with
    | zero => exact S2_zero_col m _
    | succ j ih =>
      rw [colS _ j (Nat.le_refl _) (by omega), ih (by omega)]
      have := (h.2.2 j (by rw [tr_len]; omega)).2
      rw [tr_row (by omega)] at this
      omega
  · rw [colS i j hi hj]
    have := colOk j i hj hi
    omega
  · rw [rowS i j]
    have := rowOk i j hi hj
    omega

theorem unC_len (n : Nat) (c : Nat → Nat → Int) : (unC n c).length = n := tab_len _ _ _
theorem htT_len (n : Nat) (c : Nat → Nat → Int) : (htT n c).length = n + 1 := tab_len _ _ _
theorem gi_htT {n : Nat} {c : Nat → Nat → Int} {i j : Nat} (hi : i ≤ n) (hj : j ≤ n) : gi (gr (htT n c) i) j = hOf c i j := gi_tab (by omega) (by omega)
theorem gi_unC {n : Nat} {c : Nat → Nat → Int} {i j : Nat} (hi : i < n) (hj : j < n) : gi (gr (unC n c) i) j = dC c i j := gi_tab hi hj
theorem htT_small {n : Nat} (c : Nat → Nat → Int) (h : n ≤ 6) : Small (htT n c) := ⟨by rw [htT_len]; omega, fun i hi => by rw [htT_len] at hi; unfold htT; rw [tab_row hi]; omega⟩
theorem unC_small {n : Nat} (c : Nat → Nat → Int) (h : n ≤ 6) : Small (unC n c) := ⟨by rw [unC_len]; omega, fun i hi => by rw [unC_len] at hi; unfold unC; rw [tab_row hi]; omega⟩

theorem unC_S2 {m : List (List Int)} (h : square m) : unC m.length (S2 m) = m := by
  refine (eq_tab rfl h.2.2 fun i j hi hj => ?_).symm
  have := S2_step m i j
  unfold dC
  omega

/-- the numbers by heights -/
theorem dC_h (c : Nat → Nat → Int) (i j : Nat) : hOf c i (j + 1) - hOf c i j + hOf c (i + 1) j - hOf c (i + 1) (j + 1) = 2 * dC c i j := by
  unfold hOf dC
  omega

/-- corner sums of the table with given ones -/
theorem S2_unC {n : Nat} {c : Nat → Nat → Int} (h0 : ∀ j, j ≤ n → c 0 j = 0) (h1 : ∀ i, i ≤ n → c i 0 = 0) : ∀ i j, i ≤ n → j ≤ n → S2 (unC n c) i j = c i j := by
  intro i
  induction i with
  | zero => intro j _ hj; rw [h0 j hj]; rfl
  | succ i ih =>
    intro j hi
    induction j with
    | zero => intro _; rw [h1 _ hi]; exact S2_zero_col _ _
    | succ j ihj =>
      intro hj
      rw [S2_step, ih (j + 1) (by omega) hj, ihj (by omega), ih j (by omega) (by omega), gi_unC (by omega) (by omega)]
      unfold dC
      omega

theorem unC_square {n : Nat} (c : Nat → Nat → Int) (h1 : 1 ≤ n) (h6 : n ≤ 6) : square (unC n c) := ⟨by rw [unC_len]; exact h1, by rw [unC_len]; exact h6, fun i hi => by rw [unC_len] at hi ⊢; exact tab_row hi⟩

/-- they are those of a sign matrix -/
theorem crn_good {n : Nat} {c : Nat → Nat → Int} (h : Crn n c) (h1 : 1 ≤ n) (h6 : n ≤ 6) : good (unC n c) := by
  have hS := S2_unC h.top h.left
  have hsq := unC_square c h1 h6
  have rowS : ∀ i j, S2 (unC n c) (i + 1) j = S2 (unC n c) i j + sumK (gr (unC n c) i) j := fun i j => by rw [S2_succ, sumK_sumF]
  have colS : ∀ i j, i ≤ n → j < n → S2 (unC n c) i (j + 1) = S2 (unC n c) i j + sumK (gr (tr (unC n c)) j) i := fun i j hi hj => by
    rw [S2_cols (by rw [unC_len]; exact hi) (by rw [unC_len]; omega), S2_cols (by rw [unC_len]; exact hi) (by rw [unC_len]; omega)]
    rfl
  have rK : ∀ i j, i < n → j ≤ n → sumK (gr (unC n c) i) j = c (i + 1) j - c i j := fun i j hi hj => by
    have := rowS i j
    rw [hS (i + 1) j (by omega) hj, hS i j (by omega) hj] at this
    omega
  have cK : ∀ i j, i ≤ n → j < n → sumK (gr (tr (unC n c)) j) i = c i (j + 1) - c i j := fun i j hi hj => by
    have := colS i j hi hj
    rw [hS i (j + 1) hi (by omega), hS i j hi (by omega)] at this
    omega
  refine ⟨hsq, fun i hi => ?_, fun j hj => ?_⟩
  · have hl := hsq.2.2 i hi
    rw [unC_len] at hi hl
    unfold lineOk
    rw [hl]
    refine ⟨fun k hk => ?_, ?_⟩
    · rw [rK i k hi hk]; have := h.down i k hi hk; omega
    · rw [rK i n hi (Nat.le_refl _), h.right i (by omega), h.right (i + 1) (by omega)]; omega
  · rw [tr_len, unC_len] at hj
    have hl : (gr (tr (unC n c)) j).length = n := by rw [tr_row (by rw [unC_len]; exact hj), unC_len]
    unfold lineOk
    rw [hl]
    refine ⟨fun k hk => ?_, ?_⟩
    · rw [cK k j hk hj]; have := h.across k j hk hj; omega
    · rw [cK n j (Nat.le_refl _) hj, h.bottom j (by omega), h.bottom (j + 1) (by omega)]; omega

theorem hOf_lt {a b : Nat → Nat → Int} {i j : Nat} : hOf a i j < hOf b i j ↔ b i j < a i j := by unfold hOf; omega
theorem hOf_eq {a b : Nat → Nat → Int} {i j : Nat} : hOf a i j = hOf b i j ↔ a i j = b i j := by unfold hOf; omega
theorem htT_congr {n : Nat} {a b : Nat → Nat → Int} (h : ∀ i j, i ≤ n → j ≤ n → a i j = b i j) : htT n a = htT n b := by
  refine eq_tab (htT_len _ _) (fun i hi => tab_row hi) fun i j hi hj => ?_
  rw [gi_htT (by omega) (by omega), hOf_eq]
  exact h i j (by omega) (by omega)
theorem htT_inj {n : Nat} {a b : Nat → Nat → Int} (h : htT n a = htT n b) : ∀ i j, i ≤ n → j ≤ n → a i j = b i j := by
  intro i j hi hj
  rw [← hOf_eq, ← gi_htT hi hj, ← gi_htT hi hj, h]
theorem unC_congr {n : Nat} {a b : Nat → Nat → Int} (h : ∀ i j, i ≤ n → j ≤ n → a i j = b i j) : unC n a = unC n b := by
  refine eq_tab (unC_len _ _) (fun i hi => tab_row hi) fun i j hi hj => ?_
  rw [gi_unC hi hj]
  unfold dC
  rw [h _ _ (by omega) (by omega), h _ _ (by omega) (by omega), h _ _ (by omega) (by omega), h _ _ (by omega) (by omega)]

/-- the greater and the lesser corner sums: the meet's and the join's -/
def maxC (a b : Nat → Nat → Int) (i j : Nat) : Int := max (a i j) (b i j)
def minC2 (a b : Nat → Nat → Int) (i j : Nat) : Int := min (a i j) (b i j)
theorem Crn.max {n : Nat} {a b : Nat → Nat → Int} (h : Crn n a) (k : Crn n b) : Crn n (maxC a b) := by
  unfold maxC
  refine ⟨fun j hj => ?_, fun i hi => ?_, fun i hi => ?_, fun j hj => ?_, fun i j hi hj => ?_, fun i j hi hj => ?_⟩
  · rw [h.top j hj, k.top j hj]; rfl
  · rw [h.left i hi, k.left i hi]; rfl
  · rw [h.right i hi, k.right i hi]; omega
  · rw [h.bottom j hj, k.bottom j hj]; omega
  · have := h.across i j hi hj; have := k.across i j hi hj; omega
  · have := h.down i j hi hj; have := k.down i j hi hj; omega
theorem Crn.min {n : Nat} {a b : Nat → Nat → Int} (h : Crn n a) (k : Crn n b) : Crn n (minC2 a b) := by
  unfold minC2
  refine ⟨fun j hj => ?_, fun i hi => ?_, fun i hi => ?_, fun j hj => ?_, fun i j hi hj => ?_, fun i j hi hj => ?_⟩
  · rw [h.top j hj, k.top j hj]; rfl
  · rw [h.left i hi, k.left i hi]; rfl
  · rw [h.right i hi, k.right i hi]; omega
  · rw [h.bottom j hj, k.bottom j hj]; omega
  · have := h.across i j hi hj; have := k.across i j hi hj; omega
  · have := h.down i j hi hj; have := k.down i j hi hj; omega

/-- flips: what the height of a cell may be changed by -/
def up1 (h : Nat → Nat → Int) (i j : Nat) : Prop := h (i - 1) j = h i j + 1 ∧ h i (j - 1) = h i j + 1 ∧ h i (j + 1) = h i j + 1 ∧ h (i + 1) j = h i j + 1
def down1 (h : Nat → Nat → Int) (i j : Nat) : Prop := h (i - 1) j = h i j - 1 ∧ h i (j - 1) = h i j - 1 ∧ h i (j + 1) = h i j - 1 ∧ h (i + 1) j = h i j - 1
instance (h : Nat → Nat → Int) (i j : Nat) : Decidable (up1 h i j) := by unfold up1; infer_instance
instance (h : Nat → Nat → Int) (i j : Nat) : Decidable (down1 h i j) := by unfold down1; infer_instance
def way (h : Nat → Nat → Int) (i j : Nat) : Int := if up1 h i j then 1 else if down1 h i j then -1 else 0
def setC (c : Nat → Nat → Int) (i j : Nat) (x : Int) : Nat → Nat → Int := fun a b => if a = i ∧ b = j then x else c a b

theorem hOf_setC (c : Nat → Nat → Int) (i j : Nat) (x : Int) (a b : Nat) : hOf (setC c i j x) a b = if a = i ∧ b = j then (i : Int) + j - 2 * x else hOf c a b := by
  unfold hOf setC
  split
  · next h => rw [h.1, h.2]
  · rfl

theorem Crn.flip {n : Nat} {c : Nat → Nat → Int} (h : Crn n c) {i j : Nat} (hi : 0 < i) (hi2 : i < n) (hj : 0 < j) (hj2 : j < n) (hw : way (hOf c) i j ≠ 0) : Crn n (setC c i j (c i j - way (hOf c) i j)) := by
  obtain ⟨i, rfl⟩ : ∃ k, i = k + 1 := ⟨i - 1, by omega⟩
  obtain ⟨j, rfl⟩ : ∃ k, j = k + 1 := ⟨j - 1, by omega⟩
  have key : (way (hOf c) (i + 1) (j + 1) = 1 ∧ c i (j + 1) = c (i + 1) (j + 1) - 1 ∧ c (i + 1) j = c (i + 1) (j + 1) - 1 ∧ c (i + 1) (j + 1 + 1) = c (i + 1) (j + 1) ∧ c (i + 1 + 1) (j + 1) = c (i + 1) (j + 1)) ∨
      (way (hOf c) (i + 1) (j + 1) = -1 ∧ c i (j + 1) = c (i + 1) (j + 1) ∧ c (i + 1) j = c (i + 1) (j + 1) ∧ c (i + 1) (j + 1 + 1) = c (i + 1) (j + 1) + 1 ∧ c (i + 1 + 1) (j + 1) = c (i + 1) (j + 1) + 1) := by
    unfold way at hw ⊢
    by_cases h1 : up1 (hOf c) (i + 1) (j + 1)
    · rw [if_pos h1]
      unfold up1 hOf at h1
      simp only [Nat.add_sub_cancel] at h1
      refine .inl ⟨rfl, ?_⟩
      omega
    · rw [if_neg h1] at hw ⊢
      by_cases h2 : down1 (hOf c) (i + 1) (j + 1)
      · rw [if_pos h2]
        unfold down1 hOf at h2
        simp only [Nat.add_sub_cancel] at h2
        refine .inr ⟨rfl, ?_⟩
        omega
      · rw [if_neg h2] at hw
        exact absurd rfl hw
  have hs : ∀ a b, setC c (i + 1) (j + 1) (c (i + 1) (j + 1) - way (hOf c) (i + 1) (j + 1)) a b = if a = i + 1 ∧ b = j + 1 then c (i + 1) (j + 1) - way (hOf c) (i + 1) (j + 1) else c a b := fun _ _ => rfl
  refine ⟨fun b hb => ?_, fun a ha => ?_, fun a ha => ?_, fun b hb => ?_, fun a b ha hb => ?_, fun a b ha hb => ?_⟩
  · rw [hs, if_neg (by omega)]; exact h.top b hb
  · rw [hs, if_neg (by omega)]; exact h.left a ha
  · rw [hs, if_neg (by omega)]; exact h.right a ha
  · rw [hs, if_neg (by omega)]; exact h.bottom b hb
  · have h0 := h.across a b ha hb
    rw [hs, hs]
    by_cases e1 : a = i + 1
    · subst e1
      by_cases e2 : b = j + 1
      · subst e2
        rw [if_pos ⟨rfl, rfl⟩, if_neg (by omega)]
        omega
      · by_cases e3 : b = j
        · subst e3
          rw [if_neg (by omega), if_pos ⟨rfl, rfl⟩]
          omega
        · rw [if_neg (by omega), if_neg (by omega)]; exact h0
    · rw [if_neg (by omega), if_neg (by omega)]; exact h0
  · have h0 := h.down a b ha hb
    rw [hs, hs]
    by_cases e1 : b = j + 1
    · subst e1
      by_cases e2 : a = i + 1
      · subst e2
        rw [if_pos ⟨rfl, rfl⟩, if_neg (by omega)]
        omega
      · by_cases e3 : a = i
        · subst e3
          rw [if_neg (by omega), if_pos ⟨rfl, rfl⟩]
          omega
        · rw [if_neg (by omega), if_neg (by omega)]; exact h0
    · rw [if_neg (by omega), if_neg (by omega)]; exact h0
end Go.Proofs.YtgdijjfipicodaaDoor

namespace Go.Proofs.YtgdijjfipicodaaDoor
open Go.RowKit

/-- the number of rows, then the heights, row by row -/
def tl (n : Int) (f : Nat → Nat → Int) : List Value := .int .i64 n :: (List.range 49).map fun k => .int .i64 (f (k / 7) (k % 7))
def tc (n : Int) (f : Nat → Nat → Int) : Array Value := (tl n f).toArray
/-- heights, 0 behind them -/
def pad (n : Nat) (h : Nat → Nat → Int) (i j : Nat) : Int := if i ≤ n ∧ j ≤ n then h i j else 0
def upd (f : Nat → Nat → Int) (i j : Nat) (x : Int) : Nat → Nat → Int := fun a b => if a = i ∧ b = j then x else f a b

theorem tc_size (n : Int) (f : Nat → Nat → Int) : (tc n f).size = 50 := by simp [tc, tl]
theorem tc_zero (n : Int) (f : Nat → Nat → Int) : (tc n f)[0]? = some (.int .i64 n) := by simp [tc, tl]
theorem tc_at (n : Int) (f : Nat → Nat → Int) {i j : Nat} (hi : i < 7) (hj : j < 7) : (tc n f)[1 + i * 7 + j]? = some (.int .i64 (f i j)) := by
  have e : 1 + i * 7 + j = (i * 7 + j) + 1 := by omega
  rw [e]
  simp only [tc, tl, List.getElem?_toArray, List.getElem?_cons_succ, List.getElem?_map]
  rw [List.getElem?_range (by omega)]
  simp only [Option.map_some]
  rw [show (i * 7 + j) / 7 = i from by omega, show (i * 7 + j) % 7 = j from by omega]
theorem tc_congr {n : Int} {f f' : Nat → Nat → Int} (h : ∀ i j, i < 7 → j < 7 → f i j = f' i j) : tc n f = tc n f' := by
  unfold tc tl
  congr 2
  refine List.map_congr_left fun k hk => ?_
  rw [List.mem_range] at hk
  rw [h (k / 7) (k % 7) (by omega) (by omega)]
theorem tc_set (n : Int) (f : Nat → Nat → Int) {i j : Nat} (hi : i < 7) (hj : j < 7) (x : Int) : (tc n f).setIfInBounds (1 + i * 7 + j) (.int .i64 x) = tc n (upd f i j x) := by
  apply Array.ext_getElem?
  intro k
  rw [Array.getElem?_setIfInBounds]
  by_cases e : 1 + i * 7 + j = k
  · subst e
    rw [if_pos rfl, if_pos (by rw [tc_size]; omega), tc_at n _ hi hj]
    simp [upd]
  · rw [if_neg e]
    by_cases hk : k < 50
    · by_cases h0 : k = 0
      · subst h0; rw [tc_zero, tc_zero]
      · obtain ⟨a, b, ha, hb, rfl⟩ : ∃ a b, a < 7 ∧ b < 7 ∧ k = 1 + a * 7 + b := ⟨(k - 1) / 7, (k - 1) % 7, by omega, by omega, by omega⟩
        rw [tc_at n f ha hb, tc_at n _ ha hb]
        unfold upd
        rw [if_neg (fun h => e (by rw [h.1, h.2]))]
    · rw [Array.getElem?_eq_none (by rw [tc_size]; omega), Array.getElem?_eq_none (by rw [tc_size]; omega)]

end Go.Proofs.YtgdijjfipicodaaDoor

namespace Go.Proofs.YtgdijjfipicodaaDoor
open Go.RowKit

section
variable {P : Program}

theorem wpList_allocT {ops : Array Oper} {rest : List Oper} {o : Oper} {a : Act} {w : World} {Q : Exit → Act → World → Prop} (hg : o.guard = none) (t : TypeId) (ho : o.op = .alloc t) (z : Array Value) (n : Nat)
    (hz : (P.info? t).map (fun i => (i.zero, i.size)) = some (some (.agg z), n))
    (h : wpList P ops Q rest (a.put o.dst (.pointer (some ⟨w.heap.size, 0, none⟩))) (w.alloc (.cells z t))) : wpList P ops Q (o :: rest) a w := by
  refine wpList_plain hg fun K hK => ?_
  unfold Oper.wp execOp
  simp only [ho, Instr.alloc, Sem.run_bind, (zero_of_info hz).1, Result.andThen_ok, newVar, newRow, run_newObj_alloc, Sem.run_pure, Value.cells]
  exact hK _ _ h

theorem wpList_boxT {ops : Array Oper} {rest : List Oper} {o : Oper} {a : Act} {w : World} {Q : Exit → Act → World → Prop} (hg : o.guard = none) (t : TypeId) (x : Operand) (ho : o.op = .box t x)
    (cells : Array Value) (hx : a.eval x = .agg cells)
    (h : wpList P ops Q rest (a.put o.dst (.pointer (some ⟨w.heap.size, 0, none⟩))) (w.alloc (.cells cells t))) : wpList P ops Q (o :: rest) a w := by
  refine wpList_plain hg fun K hK => ?_
  unfold Oper.wp execOp
  simp only [ho, hx, Sem.run_bind, Instr.box, newVar, newRow, run_newObj_alloc, Sem.run_pure, Result.andThen_ok, Value.cells]
  exact hK _ _ h

theorem wpList_buildT1 {ops : Array Oper} {rest : List Oper} {o : Oper} {a : Act} {w : World} {Q : Exit → Act → World → Prop} (hg : o.guard = none) (t : TypeId) (i : Nat) (x : Operand) (ho : o.op = .build t #[(i, x)])
    (v : Value) (hv : a.eval x = v) (cells : Array Value) (hb : P.built t [(i, v)] = some cells)
    (h : wpList P ops Q rest (a.put o.dst (.agg cells)) w) : wpList P ops Q (o :: rest) a w := by
  subst hv
  have e : ((#[(i, x)] : Array (Nat × Operand)).map fun (i, x) => (i, a.eval x)).toList = [(i, a.eval x)] := by simp
  refine wpList_build hg t _ ho (by rw [e, hb]; rfl) ?_
  rw [e, hb]
  exact h

theorem wpList_buildT0 {ops : Array Oper} {rest : List Oper} {o : Oper} {a : Act} {w : World} {Q : Exit → Act → World → Prop} (hg : o.guard = none) (t : TypeId) (ho : o.op = .build t #[])
    (cells : Array Value) (hb : P.built t [] = some cells)
    (h : wpList P ops Q rest (a.put o.dst (.agg cells)) w) : wpList P ops Q (o :: rest) a w := by
  have e : ((#[] : Array (Nat × Operand)).map fun (i, x) => (i, a.eval x)).toList = [] := by simp
  refine wpList_build hg t _ ho (by rw [e, hb]; rfl) ?_
  rw [e, hb]
  exact h

/-- a store into the variable that was made last -/
theorem wpList_storeT {ops : Array Oper} {rest : List Oper} {o : Oper} {a : Act} {w : World} {Q : Exit → Act → World → Prop} (hgd : o.guard = none) (ty : TypeId) (x y : Operand) (ho : o.op = .store ty x y)
    (cells old : Array Value) (g : Nat) (hgs : w.heap.size = g) (hx : a.eval x = .pointer (some ⟨g, 0, none⟩)) (hy : a.eval y = .agg cells)
    (hi : (P.info? ty).map (·.size) = some cells.size) (hold : old.size = cells.size) (h1 : cells.all (·.oneCell') = true)
    (h : wpList P ops Q rest (a.put o.dst undef) (w.alloc (.cells cells ty))) : wpList P ops Q (o :: rest) a (w.alloc (.cells old ty)) := by
  subst hgs
  refine wpList_store_row hgd ty x y ho w.heap.size cells hx hy ty old (heap_alloc_new w _) hi hold h1 ?_
  rw [World.setRow_alloc_new]
  exact h

/-- .. into the variable at block g -/
theorem wpList_storeG {ops : Array Oper} {rest : List Oper} {o : Oper} {a : Act} {w : World} {Q : Exit → Act → World → Prop} (hgd : o.guard = none) (ty : TypeId) (x y : Operand) (ho : o.op = .store ty x y)
    (g : Nat) (cells old : Array Value) (hx : a.eval x = .pointer (some ⟨g, 0, none⟩)) (hy : a.eval y = .agg cells)
    (hg : w.heap[g]? = some (.cells old ty (0, 0)))
    (hi : (P.info? ty).map (·.size) = some cells.size) (hold : old.size = cells.size) (h1 : cells.all (·.oneCell') = true)
    (h : wpList P ops Q rest (a.put o.dst undef) (w.setRow g cells)) : wpList P ops Q (o :: rest) a w :=
  wpList_store_row hgd ty x y ho g cells hx hy ty old hg hi hold h1 h

theorem wpList_loadG {ops : Array Oper} {rest : List Oper} {o : Oper} {a : Act} {w : World} {Q : Exit → Act → World → Prop} (hgd : o.guard = none) (ty : TypeId) (x : Operand) (ho : o.op = .load ty x)
    (g : Nat) (hx : a.eval x = .pointer (some ⟨g, 0, none⟩)) (cs : Array Value) (d : TypeDesc) (hg : w.heap[g]? = some (.cells cs ty (0, 0)))
    (hu : P.underlying ty = some d) (hd : (match d with | .struct _ | .array _ _ => true | _ => false) = true) (hi : (P.info? ty).map (·.size) = some cs.size)
    (h : wpList P ops Q rest (a.put o.dst (.agg cs)) w) : wpList P ops Q (o :: rest) a w :=
  wpList_load_row hgd ty x ho g hx ty cs (0, 0) d hg hu hd hi h

/-- results: a variable and a temporary; two variables and a temporary -/
theorem results_cell_one {fn : Func} {p : Tmp} {ty : TypeId} (h : fn.results = #[.cell p ty]) (tmps : Array Value) (w : World) (g : Nat) (cs : Array Value)
    (hp : tmps.getD p undef = .pointer (some ⟨g, 0, none⟩)) (hl : (loadVar ty ⟨g, 0, none⟩).run P w = .ok (.agg cs) w) :
    (results fn tmps).run P w = .ok (.agg cs) w := by
  have hp' : tmps[p]?.getD undef = .pointer (some ⟨g, 0, none⟩) := by simpa using hp
  simp [results, h, hp', asAddr, hl]
theorem results_cell_two {fn : Func} {p q : Tmp} {ty : TypeId} (h : fn.results = #[.cell p ty, .tmp q]) (tmps : Array Value) (w : World) (g : Nat) (cs : Array Value)
    (hp : tmps.getD p undef = .pointer (some ⟨g, 0, none⟩)) (hl : (loadVar ty ⟨g, 0, none⟩).run P w = .ok (.agg cs) w) :
    (results fn tmps).run P w = .ok (.tuple #[.agg cs, tmps.getD q undef]) w := by
  have hp' : tmps[p]?.getD undef = .pointer (some ⟨g, 0, none⟩) := by simpa using hp
  simp [results, h, hp', asAddr, hl]
theorem results_cell_three {fn : Func} {p p2 q : Tmp} {ty : TypeId} (h : fn.results = #[.cell p ty, .cell p2 ty, .tmp q]) (tmps : Array Value) (w : World) (g g2 : Nat) (cs cs2 : Array Value)
    (hp : tmps.getD p undef = .pointer (some ⟨g, 0, none⟩)) (hl : (loadVar ty ⟨g, 0, none⟩).run P w = .ok (.agg cs) w)
    (hp2 : tmps.getD p2 undef = .pointer (some ⟨g2, 0, none⟩)) (hl2 : (loadVar ty ⟨g2, 0, none⟩).run P w = .ok (.agg cs2) w) :
    (results fn tmps).run P w = .ok (.tuple #[.agg cs, .agg cs2, tmps.getD q undef]) w := by
  have hp' : tmps[p]?.getD undef = .pointer (some ⟨g, 0, none⟩) := by simpa using hp
  have hp2' : tmps[p2]?.getD undef = .pointer (some ⟨g2, 0, none⟩) := by simpa using hp2
  simp [results, h, hp', hp2', asAddr, hl, hl2]
end

def z0 : Nat → Nat → Int := fun _ _ => 0
theorem tc_one (n : Int) (f : Nat → Nat → Int) : (tc n f).all (·.oneCell') = true := by
  rw [Array.all_eq_true_iff_forall_mem]
  intro v hv
  simp only [tc, tl, List.mem_toArray, List.mem_cons, List.mem_map] at hv
  rcases hv with rfl | ⟨k, _, rfl⟩ <;> rfl
theorem tc_same (n k : Int) (f g : Nat → Nat → Int) : (tc n f).size = (tc k g).size := by rw [tc_size, tc_size]

theorem two_below (w : World) (o o2 : Obj) : Below w.heap.size w ((w.alloc o).alloc o2) := ((Below.refl _ w).alloc (Nat.le_refl _) o).alloc (by simp) o2
theorem below_setRowT {B g : Nat} {w0 w : World} (hb : Below B w0 w) (hBg : B ≤ g) (cs : Array Value) : Below B w0 (w.setRow g cs) :=
  hb.trans ⟨rfl, rfl, rfl, by simp [World.setRow], fun k hk => Go.setRow_other w g k cs (by omega)⟩
end Go.Proofs.YtgdijjfipicodaaDoor

namespace Go.Proofs.YtgdijjfipicodaaDoor
open Go.RowKit

/-- the first k of eight slices, nil behind them -/
def arF (vs : List Value) (k : Nat) : List Value := (List.range 8).map fun i => if i < k then vs.getD i undef else .slice none 0 0
theorem arF_len (vs : List Value) (k : Nat) : (arF vs k).length = 8 := by simp [arF]
theorem arF_at (vs : List Value) (k : Nat) {i : Nat} (h : i < 8) : (arF vs k)[i]? = some (if i < k then vs.getD i undef else .slice none 0 0) := by simp [arF, h]
theorem arF_set (vs : List Value) {k : Nat} (h : k < 8) : (arF vs k).set k (vs.getD k undef) = arF vs (k + 1) := by
  refine List.ext_getElem? fun i => ?_
  rw [List.getElem?_set]
  by_cases hi : i < 8
  · rw [arF_at vs k hi, arF_at vs (k + 1) hi, arF_len]
    by_cases e : k = i
    · subst e; simp [h]
    · rw [if_neg e]
      by_cases e2 : i < k
      · rw [if_pos e2, if_pos (by omega)]
      · rw [if_neg e2, if_neg (by omega)]
  · rw [List.getElem?_eq_none (by rw [arF_len]; omega), List.getElem?_eq_none (by rw [arF_len]; omega)]
    split <;> simp_all
/-- an array of eight slices as a variable -/
def arA (vs : List Value) (k : Nat) : Array Value := (arF vs k).toArray
def ArAt (w : World) (g : Nat) (cs : Array Value) : Prop := w.heap[g]? = some (.cells cs 75 (0, 0))
theorem ArAt.lt {w : World} {g : Nat} {a : Array Value} (h : ArAt w g a) : g < w.heap.size := lt_of_block h
theorem ArAt.below {w w' : World} {g : Nat} {a : Array Value} (h : ArAt w g a) (hb : Below w.heap.size w w') : ArAt w' g a := by
  unfold ArAt
  rw [hb.block g h.lt]
  exact h
theorem ArAt.cell {w : World} {g : Nat} {vs : List Value} {k i : Nat} (h : ArAt w g (arA vs k)) (hi : i < 8) : w.cell? ⟨g, i, none⟩ = some (if i < k then vs.getD i undef else .slice none 0 0) := by
  rw [cell_of_row w g i _ _ _ h]
  simp only [arA, List.getElem?_toArray]
  exact arF_at vs k hi
theorem ArAt.put {w : World} {g : Nat} {vs : List Value} {k : Nat} (h : ArAt w g (arA vs k)) (hk : k < 8) : ArAt (w.setCell ⟨g, k, none⟩ (vs.getD k undef)) g (arA vs (k + 1)) := by
  unfold ArAt
  rw [heap_setCell_same w g k _ _ _ h]
  have e : (arA vs k).setIfInBounds k (vs.getD k undef) = arA vs (k + 1) := by
    unfold arA
    rw [List.setIfInBounds_toArray, arF_set vs hk]
  rw [e]
theorem ArAt.only {S : Nat → Prop} {w w' : World} {g : Nat} {a : Array Value} (h : ArAt w g a) (ho : OnlyW S w w') (hS : ¬S g) : ArAt w' g a := by
  unfold ArAt
  rw [ho.block g hS]
  exact h
theorem Tryd.info_im : (Tryd.prog.info? 75).map (fun i => (i.zero, i.size)) = some (some (.agg (arA [] 0)), 8) := by kernel_rfl
theorem Tryd.size_im (vs : List Value) (k : Nat) : (Tryd.prog.info? 75).map (·.size) = some (arA vs k).size := by
  rw [show (arA vs k).size = 8 from by simp [arA, arF_len]]
  exact (zero_of_info Tryd.info_im).2
theorem Tryd.size_tab : (Tryd.prog.info? 22).map (·.size) = some 1 := by kernel_rfl
theorem arA_zero (vs : List Value) : arA vs 0 = arA [] 0 := rfl
theorem arA_same (vs us : List Value) (k l : Nat) : (arA vs k).size = (arA us l).size := by simp [arA, arF_len]
theorem arA_one {vs : List Value} {k : Nat} (h : ∀ i, i < 8 → ∃ a n c, vs.getD i undef = .slice a n c) : (arA vs k).all (·.oneCell') = true := by
  rw [Array.all_eq_true_iff_forall_mem]
  intro v hv
  simp only [arA, arF, List.mem_toArray, List.mem_map, List.mem_range] at hv
  obtain ⟨i, hi, rfl⟩ := hv
  split
  · obtain ⟨a, n, c, e⟩ := h i hi
    rw [e]
    rfl
  · rfl
theorem onlyW_setRow (w : World) (g : Nat) (cs : Array Value) : OnlyW (fun b => b = g) w (w.setRow g cs) :=
  ⟨rfl, rfl, rfl, by simp [World.setRow], fun k hk => Go.setRow_other w g k cs (fun e => hk e)⟩
section
variable {P : Program}
/-- a slice of an array of slices -/
theorem wpList_indexSl {ops : Array Oper} {rest : List Oper} {o : Oper} {a : Act} {w : World} {Q : Exit → Act → World → Prop} (hg : o.guard = none) (t : TypeId) (x y : Operand) (ho : o.op = .index t x y)
    (cs : Array Value) (hx : a.eval x = .agg cs) (k N : Nat) (hy : a.eval y = .int .i64 (k : Int)) (e e2 : TypeId) (hu : P.underlying t = some (.array N e)) (hk : k < N)
    (he : P.underlying e = some (.slice e2)) (hs : (P.info? e).map (·.size) = some 1) (v : Value) (hv : cs[k]? = some v)
    (h : wpList P ops Q rest (a.put o.dst v) w) : wpList P ops Q (o :: rest) a w := by
  refine wpList_plain hg fun K hK => ?_
  cases hq : P.info? e with
  | none => simp [hq] at hs
  | some ie =>
    have hie : ie.size = 1 := by simpa [hq] using hs
    have hrun : (Instr.index t (.agg cs) (.int .i64 (k : Int))).run P w = .ok v w := by
      simp [Instr.index, Sem.run_bind, run_underlying hu, asIntOf, hk, part, isAgg, run_underlying he, sizeOf, typeInfo, hq, hie, go_sem, hv]
    unfold Oper.wp execOp
    simp only [ho, hx, hy, Sem.run_bind, hrun, Result.andThen_ok, Sem.run_pure]
    exact hK _ _ h
end

set_option maxRecDepth 100000 in
set_option maxHeartbeats 1600000 in
theorem symClosure_any (ao a1 : Option Addr) (c c1 i P : Nat) (m : List (List Int)) (w : World) (hsq : square m) (hm : MatAt w ao m) (h1 : MatAt w a1 (im m i)) (hc : w.cell? ⟨P, 0, none⟩ = some (.slice ao m.length c)) :
    Calls Tryd.prog 80 #[.slice a1 m.length c1, .pointer (some ⟨P, 0, none⟩)] w fun e w' => e = .returned (.bool (im m i == m)) ∧ Q w w' := by
  have C := equalTables_any a1 ao c1 c (im m i) m w (by
    have hl := sq_im hsq i
    have hn := hsq.2.1
    exact ⟨by rw [hl.1]; omega, fun j hj => by rw [hl.1] at hj; rw [hl.2 j hj]; omega⟩) hsq.small h1 hm
  rw [(sq_im hsq i).1] at C
  obtain ⟨b, hb⟩ : ∃ b, b = (im m i == m) := ⟨_, rfl⟩
  obtain ⟨n, hn⟩ : ∃ n, n = m.length := ⟨_, rfl⟩
  rw [← hb] at C ⊢
  rw [← hn] at C hc ⊢
  have C := Lib.hid C
  clear hsq hm h1 hb hn
  go_enter Tryd.func80, Tryd.ntmps80
  go_wp2_with fail
  refine C.out.mono ?_
  rintro e w2 ⟨rfl, hq⟩
  have Hq := Lib.hid hq
  clear hq
  go_wp2
  go_ret
  exact ⟨rfl, Hq.out⟩

set_option maxRecDepth 100000 in
set_option maxHeartbeats 3200000 in
theorem imagesOf_any (ao : Option Addr) (c : Nat) (m : List (List Int)) (w : World) (hsq : square m) (hm : MatAt w ao m) :
    Calls Tryd.prog 78 #[.slice ao m.length c] w fun e w' => ∃ vs, e = .returned (.agg (arA vs 8)) ∧ (∀ i, i < 8 → OwnM w' w.heap.size (vs.getD i undef) (im m i)) ∧ Below w.heap.size w w' := by
  obtain ⟨n, hn⟩ : ∃ n, n = m.length := ⟨_, rfl⟩
  have HN := Lib.hid hn
  have hn6 : n ≤ 6 := by rw [hn]; exact hsq.2.1
  have Hsq := Lib.hid hsq
  have Hm := Lib.hid hm
  have CI := Lib.hid (fun w' (h : MatAt w' ao m) => images_any ao c m w' hsq h)
  rw [← hn] at CI ⊢
  clear hsq hm hn
  go_enter Tryd.func78, Tryd.ntmps78
  go_wp2_with (refine wpList_allocT rfl 75 rfl _ _ Tryd.info_im ?_)
  generalize hW : World.alloc (World.alloc w _) _ = w1
  obtain ⟨P, hP⟩ : ∃ P, P = w.heap.size := ⟨_, rfl⟩
  obtain ⟨R, hR⟩ : ∃ R, R = w.heap.size + 1 := ⟨_, rfl⟩
  have HA1 := Lib.hid (show ArAt w1 P (arA [] 0) from by rw [← hW, hP]; exact heap_alloc2_old w _ _)
  have HA2 := Lib.hid (show ArAt w1 R (arA [] 0) from by rw [← hW, hR]; exact heap_alloc2_new w _ _)
  have HB1 := Lib.hid (show Below w.heap.size w w1 from by rw [← hW]; exact ((Below.refl _ w).alloc (Nat.le_refl _) _).alloc (by simp) _)
  have HZ := Lib.hid (show w.heap.size ≤ P ∧ P < R ∧ R < w1.heap.size from by rw [← hW, hP, hR]; simp)
  rw [← hR, ← hP]
  clear hW hP hR
  refine (CI.out w1 (Hm.out.below HB1.out)).mono ?_
  rintro e w2 ⟨g, cap, vs, rfl, hcap, hG, hb2⟩
  have HG := Lib.hid hG
  have HB2 := Lib.hid (HB1.out.trans (hb2.mono HB1.out.size))
  have HA1' := Lib.hid (HA1.out.below hb2)
  have HA2' := Lib.hid (show ArAt w2 R (arA vs 0) from HA2.out.below hb2)
  have hgR := Lib.hid (show w1.heap.size ≤ g from by
    obtain ⟨g', cap', e', _, _, hh⟩ := hG.isAt (by omega)
    simp only [Value.slice.injEq, Option.some.injEq, Addr.mk.injEq] at e'
    rw [e'.1.1]
    exact hh)
  clear hG hb2 HA1 HA2 CI
  go_wp2
  go_loopw [9] (fun x wr => ∃ k : Nat, k ≤ 8 ∧ x = .int .i64 k ∧ ArAt wr R (arA vs k) ∧ OnlyW (fun b => b = R) w2 wr) (fun x _ => 8 - (intOf x).toNat)
  case atStart => exact ⟨0, Nat.zero_le _, rfl, HA2'.out, OnlyW.refl _ _⟩
  case round =>
    obtain ⟨k, hk, rfl, ha, ho⟩ := hrel
    have Ha := Lib.hid ha
    have Ho := Lib.hid ho
    clear ha ho
    by_cases hlt : k < 8
    · have hcell : wr.cell? ⟨g, k, none⟩ = some (vs.getD k undef) := by
        rw [show wr.cell? ⟨g, k, none⟩ = w2.cell? ⟨g, k, none⟩ from by
          have hb := Ho.out.block g (by have := hgR.out; have := HZ.out; omega)
          simp only [World.cell?, hb]]
        exact HG.out.cellAt k hlt
      have hd := Ha.out.cell hlt
      rw [if_neg (by omega)] at hd
      have hf := frozen_of_row wr R k _ _ Ha.out
      have Hput := Lib.hid (Ha.out.put hlt)
      have Hput2 := Lib.hid (Ho.out.setCell (p := ⟨R, k, none⟩) rfl (vs.getD k undef))
      obtain ⟨ua, uc, hu, _⟩ := (HG.out.each k hlt).read
      obtain ⟨ul, hul⟩ : ∃ ul, ul = (im m k).length := ⟨_, rfl⟩
      rw [← hul] at hu
      rw [hu] at hcell Hput Hput2
      clear hu hul
      go_wp2
      go_roundw
      case rel => exact ⟨k + 1, by omega, by go_num, Hput.out, Hput2.out⟩
      case measure => simp [intOf]; omega
    · obtain rfl : k = 8 := by omega
      have Hr := Lib.hid (HA1'.out.only Ho.out (by have := HZ.out; omega))
      have Hown := Lib.hid (show ∀ i, i < 8 → OwnM wr w1.heap.size (vs.getD i undef) (im m i) from fun i hi => by
        obtain ⟨us, h⟩ := HG.out.each i hi
        exact ⟨us, h.only Ho.out (fun b hb => by have := HZ.out; omega)⟩)
      have Hsl := Lib.hid (show ∀ i, i < 8 → ∃ a n c, vs.getD i undef = .slice a n c from fun i hi => by
        obtain ⟨a, c, e, _⟩ := (HG.out.each i hi).read
        exact ⟨a, _, c, e⟩)
      have HBr := Lib.hid (HB2.out.trans (Ho.out.below (fun b hb => by have := HZ.out; omega)))
      clear HG Ho HA1' HA2'
      go_wp2_with (first | (refine wpList_loadG rfl 75 _ rfl R rfl _ _ Ha.out Tryd.underlying75 rfl (Tryd.size_im _ _) ?_) | (refine wpList_storeG rfl 75 _ _ rfl _ (arA vs 8) _ rfl rfl Hr.out (Tryd.size_im _ _) (arA_same _ _ _ _) (arA_one Hsl.out) ?_))
      have hout : (wr.setRow P (arA vs 8)).heap[P]? = some (.cells (arA vs 8) 75 (0, 0)) := setRow_heap wr P _ _ _ _ Hr.out
      refine bodyPost_ret (v := .agg (arA vs 8)) ?_ rfl ⟨vs, rfl, fun i hi => ?_, below_setRowT HBr.out HZ.out.1 (arA vs 8)⟩
      · exact results_cell_one rfl _ _ P _ rfl (run_loadVar_row _ _ _ _ _ _ _ hout Tryd.underlying75 rfl (Tryd.size_im vs 8))
      · obtain ⟨us, h⟩ := Hown.out i hi
        have h2 := h.only (onlyW_setRow wr P (arA vs 8)) (fun b hb => by have := HZ.out; omega)
        exact OwnM.base ⟨us, h2⟩ (by have := HZ.out; omega)
theorem arA_get (vs : List Value) {k : Nat} (h : k < 8) : (arA vs 8)[k]? = some (vs.getD k undef) := by
  simp only [arA, List.getElem?_toArray]
  rw [arF_at vs 8 h, if_pos h]
theorem smLk_yesI {m : List (List Int)} {k : Nat} (h : im m k = m) : smLk m (k + 1) = smLk m k ++ [(k : Int)] := by simp [smLk, h]
theorem smLk_noI {m : List (List Int)} {k : Nat} (h : ¬im m k = m) : smLk m (k + 1) = smLk m k := by simp [smLk, h]

set_option maxRecDepth 100000 in
set_option maxHeartbeats 3200000 in
theorem where_any (ao : Option Addr) (c P : Nat) (m : List (List Int)) (vs : List Value) (w : World) (hsq : square m) (hm : MatAt w ao m) (hc : w.cell? ⟨P, 0, none⟩ = some (.slice ao m.length c)) (hv : ∀ i, i < 8 → ∃ a d, vs.getD i undef = .slice a m.length d ∧ MatAt w a (im m i)) :
    Calls Tryd.prog 79 #[.agg (arA vs 8), .func (.func 80) #[] #[.pointer (some ⟨P, 0, none⟩)]] w fun e w' => ∃ v, e = .returned v ∧ OwnI w' w.heap.size v (smLk m 8) ∧ Below w.heap.size w w' := by
  have CC := Lib.hid (fun i a1 c1 w' (h0 : MatAt w' ao m) (h1 : MatAt w' a1 (im m i)) (h2 : w'.cell? ⟨P, 0, none⟩ = some (.slice ao m.length c)) => symClosure_any ao a1 c c1 i P m w' hsq h0 h1 h2)
  obtain ⟨n, hn⟩ : ∃ n, n = m.length := ⟨_, rfl⟩
  rw [← hn] at CC hc hv
  have hn6 : n ≤ 6 := by rw [hn]; exact hsq.2.1
  have Hm := Lib.hid hm
  have Hc := Lib.hid hc
  have Hv := Lib.hid hv
  have HA := Lib.hid (show ArAt (w.alloc (.cells (arA vs 8) 75)) w.heap.size (arA vs 8) from heap_alloc_new w _)
  have HB := Lib.hid (show Below w.heap.size w (w.alloc (.cells (arA vs 8) 75)) from (Below.refl _ w).alloc (Nat.le_refl _) _)
  clear hm hc hv hsq hn
  go_enter Tryd.func79, Tryd.ntmps79
  go_wp2_with (first | (refine wpList_boxT rfl 75 _ rfl _ rfl ?_) | (refine wpList_loadG rfl 75 _ rfl w.heap.size rfl _ _ HA.out Tryd.underlying75 rfl (Tryd.size_im _ _) ?_))
  go_loopw [5, 9] (fun out x wr => ∃ k : Nat, k ≤ 8 ∧ x = .int .i64 k ∧ OwnI wr w.heap.size out (smLk m k) ∧ Below w.heap.size w wr) (fun _ x _ => 8 - (intOf x).toNat)
  case atStart => exact ⟨0, Nat.zero_le _, rfl, OwnI.nil _ _, HB.out⟩
  case round =>
    obtain ⟨k, hk, rfl, hown, hbr⟩ := hrel
    have Hown := Lib.hid hown
    have Hbr := Lib.hid hbr
    clear hown hbr HA HB
    by_cases hlt : k < 8
    · obtain ⟨a1, d1, hv1, hm1⟩ := Hv.out k hlt
      have hget := arA_get vs hlt
      rw [hv1] at hget
      have C1 := CC.out k a1 d1 wr (Hm.out.below Hbr.out) (hm1.below Hbr.out) (cell_below Hc.out Hbr.out)
      have Hget := Lib.hid hget
      have hkr : ((k : Nat) : Int) < 8 := by omega
      clear hm1 hv1 hget
      by_cases he : im m k = m
      · have hb : (im m k == m) = true := by simpa using he
        have HS := Lib.hid (smLk_yesI he)
        rw [hb] at C1
        have C1 := Lib.hid C1
        clear hb he
        go_wp2_with (refine wpList_indexSl rfl 75 _ _ rfl _ rfl k 8 rfl _ _ Tryd.underlying75 hlt Tryd.underlying22 Tryd.size_tab _ Hget.out ?_)
        refine C1.out.mono ?_
        rintro e w2 ⟨rfl, hq⟩
        have Ho2 := Lib.hid (Hown.out.below (hq.below _))
        have HB2 := Lib.hid (Hbr.out.trans ((hq.below _).mono Hbr.out.size))
        have hln := Lib.hid (show (smLk m k).length < 1048576 by have := smLk_len m k; omega)
        clear hq C1 Hown Hbr
        go_wp2_with (at_builtin; refine wpList_numT rfl _ _ rfl w.heap.size _ (smLk m k) (k : Int) Ho2.out rfl rfl HB2.out.size hln.out ?_)
        intro v3 w3 hv3 hb3
        rw [← HS.out] at hv3
        have HV3 := Lib.hid hv3
        have HB3 := Lib.hid (HB2.out.trans hb3)
        clear hv3 hb3 Ho2 HB2
        go_wp2
        go_roundw
        case rel => exact ⟨k + 1, by omega, by go_num, HV3.out, HB3.out⟩
        case measure => simp [intOf]; omega
      · have hb : (im m k == m) = false := by simpa using he
        have HS := Lib.hid (smLk_noI he)
        rw [hb] at C1
        have C1 := Lib.hid C1
        clear hb he
        go_wp2_with (refine wpList_indexSl rfl 75 _ _ rfl _ rfl k 8 rfl _ _ Tryd.underlying75 hlt Tryd.underlying22 Tryd.size_tab _ Hget.out ?_)
        refine C1.out.mono ?_
        rintro e w2 ⟨rfl, hq⟩
        have Ho2 := Lib.hid (Hown.out.below (hq.below _))
        have HB2 := Lib.hid (Hbr.out.trans ((hq.below _).mono Hbr.out.size))
        clear hq C1 Hown Hbr
        go_wp2
        go_roundw
        case rel => exact ⟨k + 1, by omega, by go_num, by rw [HS.out]; exact Ho2.out, HB2.out⟩
        case measure => simp [intOf]; omega
    · obtain rfl : k = 8 := by omega
      go_wp2
      go_ret
      exact ⟨_, rfl, Hown.out, Hbr.out⟩

set_option maxRecDepth 100000 in
set_option maxHeartbeats 1600000 in
theorem symmetriesOf_any (ao : Option Addr) (c : Nat) (m : List (List Int)) (w : World) (hsq : square m) (hm : MatAt w ao m) :
    Calls Tryd.prog 54 #[.slice ao m.length c] w fun e w' => ∃ v, e = .returned v ∧ OwnI w' w.heap.size v (smLk m 8) ∧ Below w.heap.size w w' := by
  have CI := fun w' (h : MatAt w' ao m) => imagesOf_any ao c m w' hsq h
  have CW := Lib.hid (fun P vs w' (h0 : MatAt w' ao m) (h1 : w'.cell? ⟨P, 0, none⟩ = some (.slice ao m.length c)) (h2 : ∀ i, i < 8 → ∃ a d, vs.getD i undef = .slice a m.length d ∧ MatAt w' a (im m i)) => where_any ao c P m vs w' hsq h0 h1 h2)
  have HL := Lib.hid (fun i => (sq_im hsq i).1)
  obtain ⟨n, hn⟩ : ∃ n, n = m.length := ⟨_, rfl⟩
  rw [← hn] at CI CW HL ⊢
  have CI := Lib.hid CI
  have Hm := Lib.hid hm
  obtain ⟨w1, hw1⟩ : ∃ w1, w1 = w.alloc (.cells #[.slice ao n c] 22) := ⟨_, rfl⟩
  have Hc1 := Lib.hid (show w1.cell? ⟨w.heap.size, 0, none⟩ = some (.slice ao n c) from by rw [hw1, cell_of_row _ _ 0 _ _ _ (heap_alloc_new w _)]; rfl)
  have HB1 := Lib.hid (show Below w.heap.size w w1 from by rw [hw1]; exact (Below.refl _ w).alloc (Nat.le_refl _) _)
  have Hw1 := Lib.hid hw1
  clear hsq hm hn hw1
  go_enter Tryd.func54, Tryd.ntmps54
  go_wp2_with fail
  rw [← Hw1.out]
  refine (CI.out w1 (Hm.out.below HB1.out)).mono ?_
  rintro e w2 ⟨vs, rfl, hv, hb2⟩
  have HB2 := Lib.hid (HB1.out.trans (hb2.mono HB1.out.size))
  have CW2 := Lib.hid (CW.out w.heap.size vs w2 (Hm.out.below HB2.out) (cell_below Hc1.out hb2) (fun i hi => by
    obtain ⟨a, d, e, _, _, hmm⟩ := (hv i hi).read
    exact ⟨a, d, by rw [e, HL.out i], hmm⟩))
  clear hv hb2 CI CW
  go_wp2_with fail
  refine CW2.out.mono ?_
  rintro e w3 ⟨v, rfl, ho, hb3⟩
  have Ho := Lib.hid (ho.base HB2.out.size)
  have HB3 := Lib.hid (HB2.out.trans (hb3.mono HB2.out.size))
  clear ho hb3 CW2
  go_wp2
  go_ret
  exact ⟨_, rfl, Ho.out, HB3.out⟩
end Go.Proofs.YtgdijjfipicodaaDoor

