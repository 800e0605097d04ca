/- Parts of proofs: contracts and plain facts. Conditions: as each says. -/
import Derived.Test.YtmkldodkpijfjaaK03
import Derived.Deep.WholeRow
namespace Go.Proofs.Ytmkldodkpijfjaa

theorem ite_iff {p q : Prop} [Decidable p] [Decidable q] {x y : Int} (h : p ↔ q) : (if p then x else y) = if q then x else y := by
  by_cases hp : p
  · rw [if_pos hp, if_pos (h.1 hp)]
  · rw [if_neg hp, if_neg (fun hq => hp (h.2 hq))]

/-- the height where the corner sum is c -/
def hOf (c : Nat → Nat → Int) (i j : Nat) : Int := (i : Int) + (j : Int) - 2 * c i j
/-- the numbers that corner sums leave -/
def dC (c : Nat → Nat → Int) (i j : Nat) : Int := c (i + 1) (j + 1) - c i (j + 1) - c (i + 1) j + c i j
/-- the table of heights, the table of numbers -/
def htT (n : Nat) (c : Nat → Nat → Int) : List (List Int) := tab (n + 1) (n + 1) (hOf c)
def unC (n : Nat) (c : Nat → Nat → Int) : List (List Int) := tab n n (dC c)
def ht (m : List (List Int)) : List (List Int) := htT m.length (S2 m)

/-- corner sums of a sign matrix, told by their neighbours -/
structure Crn (n : Nat) (c : Nat → Nat → Int) : Prop where
  top : ∀ j, j ≤ n → c 0 j = 0
  left : ∀ i, i ≤ n → c i 0 = 0
  right : ∀ i, i ≤ n → c i n = i
  bottom : ∀ j, j ≤ n → c n j = j
  across : ∀ i j, i ≤ n → j < n → c i j ≤ c i (j + 1) ∧ c i (j + 1) ≤ c i j + 1
  down : ∀ i j, i < n → j ≤ n → c i j ≤ c (i + 1) j ∧ c (i + 1) j ≤ c i j + 1

theorem Crn.le_i {n : Nat} {c : Nat → Nat → Int} (h : Crn n c) {i j : Nat} (hi : i ≤ n) (hj : j ≤ n) : 0 ≤ c i j ∧ c i j ≤ i := by
  induction i with
  | zero => rw [h.top j hj]; omega
  | succ i ih =>
    have := ih (by omega)
    have := h.down i j (by omega) hj
    omega
theorem Crn.le_j {n : Nat} {c : Nat → Nat → Int} (h : Crn n c) {i j : Nat} (hi : i ≤ n) (hj : j ≤ n) : c i j ≤ j := by
  induction j with
  | zero => rw [h.left i hi]; omega
  | succ j ih =>
    have := ih (by omega)
    have := h.across i j hi (by omega)
    omega
theorem Crn.ge {n : Nat} {c : Nat → Nat → Int} (h : Crn n c) {i j : Nat} (hi : i ≤ n) (hj : j ≤ n) : (i : Int) + j - n ≤ c i j := by
  obtain ⟨k, rfl⟩ : ∃ k, n = j + k := ⟨n - j, by omega⟩
  clear hj
  induction k generalizing j with
  | zero => have := h.right i hi; simp only [Nat.add_zero] at this; rw [this]; omega
  | succ k ih =>
    have h2 := ih (j := j + 1) (by rw [show j + 1 + k = j + (k + 1) from by omega]; exact h) (by omega)
    have := h.across i j hi (by omega)
    omega

/-- heights are in 0..n -/
theorem Crn.hbound {n : Nat} {c : Nat → Nat → Int} (h : Crn n c) {i j : Nat} (hi : i ≤ n) (hj : j ≤ n) : 0 ≤ hOf c i j ∧ hOf c i j ≤ n := by
  have h1 := h.le_i hi hj
  have h2 := h.le_j hi hj
  have h3 := h.ge hi hj
  unfold hOf
  omega

theorem good_crn {m : List (List Int)} (h : good m) : Crn m.length (S2 m) := by
  have rowS : ∀ i j, S2 m (i + 1) j = S2 m i j + sumK (gr m i) j := fun i j => by rw [S2_succ, sumK_sumF]
  have colS : ∀ i j, i ≤ m.length → j < m.length → S2 m i (j + 1) = S2 m i j + sumK (gr (tr m) j) i := fun i j hi hj => by
    rw [S2_cols hi (show j + 1 ≤ m.length by omega), S2_cols hi (show j ≤ m.length by omega)]
    rfl
  have rowOk : ∀ i j, i < m.length → j ≤ m.length → 0 ≤ sumK (gr m i) j ∧ sumK (gr m i) j ≤ 1 := fun i j hi hj => (h.2.1 i hi).1 j (by rw [h.1.2.2 i hi]; exact hj)
  have colOk : ∀ i j, i < m.length → j ≤ m.length → 0 ≤ sumK (gr (tr m) i) j ∧ sumK (gr (tr m) i) j ≤ 1 := fun i j hi hj => (h.2.2 i (by rw [tr_len]; exact hi)).1 j (by rw [tr_row hi]; exact hj)
  refine ⟨fun j _ => rfl, fun i _ => S2_zero_col m i, fun i hi => ?_, fun j hj => ?_, fun i j hi hj => ?_, fun i j hi hj => ?_⟩
  · induction i with
    | zero => rfl
    | succ i ih =>
      rw [rowS, ih (by omega)]
      have := (h.2.1 i (by omega)).2
      rw [h.1.2.2 i (by omega)] at this
      omega
  · induction j with
    | zero => exact S2_zero_col m _
    | succ j ih =>
      rw [colS _ j (Nat.le_refl _) (by omega), ih (by omega)]
      have := (h.2.2 j (by rw [tr_len]; omega)).2
      rw [tr_row (by omega)] at this
      omega
  · rw [colS i j hi hj]
    have := colOk j i hj hi
    omega
  · rw [rowS i j]
    have := rowOk i j hi hj
    omega

theorem unC_len (n : Nat) (c : Nat → Nat → Int) : (unC n c).length = n := tab_len _ _ _
theorem htT_len (n : Nat) (c : Nat → Nat → Int) : (htT n c).length = n + 1 := tab_len _ _ _
theorem gi_htT {n : Nat} {c : Nat → Nat → Int} {i j : Nat} (hi : i ≤ n) (hj : j ≤ n) : gi (gr (htT n c) i) j = hOf c i j := gi_tab (by omega) (by omega)
theorem gi_unC {n : Nat} {c : Nat → Nat → Int} {i j : Nat} (hi : i < n) (hj : j < n) : gi (gr (unC n c) i) j = dC c i j := gi_tab hi hj
theorem htT_small {n : Nat} (c : Nat → Nat → Int) (h : n ≤ 6) : Small (htT n c) := ⟨by rw [htT_len]; omega, fun i hi => by rw [htT_len] at hi; unfold htT; rw [tab_row hi]; omega⟩
theorem unC_small {n : Nat} (c : Nat → Nat → Int) (h : n ≤ 6) : Small (unC n c) := ⟨by rw [unC_len]; omega, fun i hi => by rw [unC_len] at hi; unfold unC; rw [tab_row hi]; omega⟩

theorem unC_S2 {m : List (List Int)} (h : square m) : unC m.length (S2 m) = m := by
  refine (eq_tab rfl h.2.2 fun i j hi hj => ?_).symm
  have := S2_step m i j
  unfold dC
  omega

/-- the numbers by heights -/
theorem dC_h (c : Nat → Nat → Int) (i j : Nat) : hOf c i (j + 1) - hOf c i j + hOf c (i + 1) j - hOf c (i + 1) (j + 1) = 2 * dC c i j := by
  unfold hOf dC
  omega

/-- corner sums of the table with given ones -/
theorem S2_unC {n : Nat} {c : Nat → Nat → Int} (h0 : ∀ j, j ≤ n → c 0 j = 0) (h1 : ∀ i, i ≤ n → c i 0 = 0) : ∀ i j, i ≤ n → j ≤ n → S2 (unC n c) i j = c i j := by
  intro i
  induction i with
  | zero => intro j _ hj; rw [h0 j hj]; rfl
  | succ i ih =>
    intro j hi
    induction j with
    | zero => intro _; rw [h1 _ hi]; exact S2_zero_col _ _
    | succ j ihj =>
      intro hj
      rw [S2_step, ih (j + 1) (by omega) hj, ihj (by omega), ih j (by omega) (by omega), gi_unC (by omega) (by omega)]
      unfold dC
      omega

theorem unC_square {n : Nat} (c : Nat → Nat → Int) (h1 : 1 ≤ n) (h6 : n ≤ 6) : square (unC n c) := ⟨by rw [unC_len]; exact h1, by rw [unC_len]; exact h6, fun i hi => by rw [unC_len] at hi ⊢; exact tab_row hi⟩

/-- they are those of a sign matrix -/
theorem crn_good {n : Nat} {c : Nat → Nat → Int} (h : Crn n c) (h1 : 1 ≤ n) (h6 : n ≤ 6) : good (unC n c) := by
  have hS := S2_unC h.top h.left
  have hsq := unC_square c h1 h6
  have rowS : ∀ i j, S2 (unC n c) (i + 1) j = S2 (unC n c) i j + sumK (gr (unC n c) i) j := fun i j => by rw [S2_succ, sumK_sumF]
  have colS : ∀ i j, i ≤ n → j < n → S2 (unC n c) i (j + 1) = S2 (unC n c) i j + sumK (gr (tr (unC n c)) j) i := fun i j hi hj => by
    rw [S2_cols (by rw [unC_len]; exact hi) (by rw [unC_len]; omega), S2_cols (by rw [unC_len]; exact hi) (by rw [unC_len]; omega)]
    rfl
  have rK : ∀ i j, i < n → j ≤ n → sumK (gr (unC n c) i) j = c (i + 1) j - c i j := fun i j hi hj => by
    have := rowS i j
    rw [hS (i + 1) j (by omega) hj, hS i j (by omega) hj] at this
    omega
  have cK : ∀ i j, i ≤ n → j < n → sumK (gr (tr (unC n c)) j) i = c i (j + 1) - c i j := fun i j hi hj => by
    have := colS i j hi hj
    rw [hS i (j + 1) hi (by omega), hS i j hi (by omega)] at this
    omega
  refine ⟨hsq, fun i hi => ?_, fun j hj => ?_⟩
  · have hl := hsq.2.2 i hi
    rw [unC_len] at hi hl
    unfold lineOk
    rw [hl]
    refine ⟨fun k hk => ?_, ?_⟩
    · rw [rK i k hi hk]; have := h.down i k hi hk; omega
    · rw [rK i n hi (Nat.le_refl _), h.right i (by omega), h.right (i + 1) (by omega)]; omega
  · rw [tr_len, unC_len] at hj
    have hl : (gr (tr (unC n c)) j).length = n := by rw [tr_row (by rw [unC_len]; exact hj), unC_len]
    unfold lineOk
    rw [hl]
    refine ⟨fun k hk => ?_, ?_⟩
    · rw [cK k j hk hj]; have := h.across k j hk hj; omega
    · rw [cK n j (Nat.le_refl _) hj, h.bottom j (by omega), h.bottom (j + 1) (by omega)]; omega

theorem hOf_lt {a b : Nat → Nat → Int} {i j : Nat} : hOf a i j < hOf b i j ↔ b i j < a i j := by unfold hOf; omega
theorem hOf_eq {a b : Nat → Nat → Int} {i j : Nat} : hOf a i j = hOf b i j ↔ a i j = b i j := by unfold hOf; omega
theorem htT_congr {n : Nat} {a b : Nat → Nat → Int} (h : ∀ i j, i ≤ n → j ≤ n → a i j = b i j) : htT n a = htT n b := by
  refine eq_tab (htT_len _ _) (fun i hi => tab_row hi) fun i j hi hj => ?_
  rw [gi_htT (by omega) (by omega), hOf_eq]
  exact h i j (by omega) (by omega)
theorem htT_inj {n : Nat} {a b : Nat → Nat → Int} (h : htT n a = htT n b) : ∀ i j, i ≤ n → j ≤ n → a i j = b i j := by
  intro i j hi hj
  rw [← hOf_eq, ← gi_htT hi hj, ← gi_htT hi hj, h]
theorem unC_congr {n : Nat} {a b : Nat → Nat → Int} (h : ∀ i j, i ≤ n → j ≤ n → a i j = b i j) : unC n a = unC n b := by
  refine eq_tab (unC_len _ _) (fun i hi => tab_row hi) fun i j hi hj => ?_
  rw [gi_unC hi hj]
  unfold dC
  rw [h _ _ (by omega) (by omega), h _ _ (by omega) (by omega), h _ _ (by omega) (by omega), h _ _ (by omega) (by omega)]

/-- the greater and the lesser corner sums: the meet's and the join's -/
def maxC (a b : Nat → Nat → Int) (i j : Nat) : Int := max (a i j) (b i j)
def minC2 (a b : Nat → Nat → Int) (i j : Nat) : Int := min (a i j) (b i j)
theorem Crn.max {n : Nat} {a b : Nat → Nat → Int} (h : Crn n a) (k : Crn n b) : Crn n (maxC a b) := by
  unfold maxC
  refine ⟨fun j hj => ?_, fun i hi => ?_, fun i hi => ?_, fun j hj => ?_, fun i j hi hj => ?_, fun i j hi hj => ?_⟩
  · rw [h.top j hj, k.top j hj]; rfl
  · rw [h.left i hi, k.left i hi]; rfl
  · rw [h.right i hi, k.right i hi]; omega
  · rw [h.bottom j hj, k.bottom j hj]; omega
  · have := h.across i j hi hj; have := k.across i j hi hj; omega
  · have := h.down i j hi hj; have := k.down i j hi hj; omega
theorem Crn.min {n : Nat} {a b : Nat → Nat → Int} (h : Crn n a) (k : Crn n b) : Crn n (minC2 a b) := by
  unfold minC2
  refine ⟨fun j hj => ?_, fun i hi => ?_, fun i hi => ?_, fun j hj => ?_, fun i j hi hj => ?_, fun i j hi hj => ?_⟩
  · rw [h.top j hj, k.top j hj]; rfl
  · rw [h.left i hi, k.left i hi]; rfl
  · rw [h.right i hi, k.right i hi]; omega
  · rw [h.bottom j hj, k.bottom j hj]; omega
  · have := h.across i j hi hj; have := k.across i j hi hj; omega
  · have := h.down i j hi hj; have := k.down i j hi hj; omega

/-- flips: what the height of a cell may be changed by -/
def up1 (h : Nat → Nat → Int) (i j : Nat) : Prop := h (i - 1) j = h i j + 1 ∧ h i (j - 1) = h i j + 1 ∧ h i (j + 1) = h i j + 1 ∧ h (i + 1) j = h i j + 1
def down1 (h : Nat → Nat → Int) (i j : Nat) : Prop := h (i - 1) j = h i j - 1 ∧ h i (j - 1) = h i j - 1 ∧ h i (j + 1) = h i j - 1 ∧ h (i + 1) j = h i j - 1
instance (h : Nat → Nat → Int) (i j : Nat) : Decidable (up1 h i j) := by unfold up1; infer_instance
instance (h : Nat → Nat → Int) (i j : Nat) : Decidable (down1 h i j) := by unfold down1; infer_instance
def way (h : Nat → Nat → Int) (i j : Nat) : Int := if up1 h i j then 1 else if down1 h i j then -1 else 0
def setC (c : Nat → Nat → Int) (i j : Nat) (x : Int) : Nat → Nat → Int := fun a b => if a = i ∧ b = j then x else c a b

theorem hOf_setC (c : Nat → Nat → Int) (i j : Nat) (x : Int) (a b : Nat) : hOf (setC c i j x) a b = if a = i ∧ b = j then (i : Int) + j - 2 * x else hOf c a b := by
  unfold hOf setC
  split
  · next h => rw [h.1, h.2]
  · rfl

theorem Crn.flip {n : Nat} {c : Nat → Nat → Int} (h : Crn n c) {i j : Nat} (hi : 0 < i) (hi2 : i < n) (hj : 0 < j) (hj2 : j < n) (hw : way (hOf c) i j ≠ 0) : Crn n (setC c i j (c i j - way (hOf c) i j)) := by
  obtain ⟨i, rfl⟩ : ∃ k, i = k + 1 := ⟨i - 1, by omega⟩
  obtain ⟨j, rfl⟩ : ∃ k, j = k + 1 := ⟨j - 1, by omega⟩
  have key : (way (hOf c) (i + 1) (j + 1) = 1 ∧ c i (j + 1) = c (i + 1) (j + 1) - 1 ∧ c (i + 1) j = c (i + 1) (j + 1) - 1 ∧ c (i + 1) (j + 1 + 1) = c (i + 1) (j + 1) ∧ c (i + 1 + 1) (j + 1) = c (i + 1) (j + 1)) ∨
      (way (hOf c) (i + 1) (j + 1) = -1 ∧ c i (j + 1) = c (i + 1) (j + 1) ∧ c (i + 1) j = c (i + 1) (j + 1) ∧ c (i + 1) (j + 1 + 1) = c (i + 1) (j + 1) + 1 ∧ c (i + 1 + 1) (j + 1) = c (i + 1) (j + 1) + 1) := by
    unfold way at hw ⊢
    by_cases h1 : up1 (hOf c) (i + 1) (j + 1)
    · rw [if_pos h1]
      unfold up1 hOf at h1
      simp only [Nat.add_sub_cancel] at h1
      refine .inl ⟨rfl, ?_⟩
      omega
    · rw [if_neg h1] at hw ⊢
      by_cases h2 : down1 (hOf c) (i + 1) (j + 1)
      · rw [if_pos h2]
        unfold down1 hOf at h2
        simp only [Nat.add_sub_cancel] at h2
        refine .inr ⟨rfl, ?_⟩
        omega
      · rw [if_neg h2] at hw
        exact absurd rfl hw
  have hs : ∀ a b, setC c (i + 1) (j + 1) (c (i + 1) (j + 1) - way (hOf c) (i + 1) (j + 1)) a b = if a = i + 1 ∧ b = j + 1 then c (i + 1) (j + 1) - way (hOf c) (i + 1) (j + 1) else c a b := fun _ _ => rfl
  refine ⟨fun b hb => ?_, fun a ha => ?_, fun a ha => ?_, fun b hb => ?_, fun a b ha hb => ?_, fun a b ha hb => ?_⟩
  · rw [hs, if_neg (by omega)]; exact h.top b hb
  · rw [hs, if_neg (by omega)]; exact h.left a ha
  · rw [hs, if_neg (by omega)]; exact h.right a ha
  · rw [hs, if_neg (by omega)]; exact h.bottom b hb
  · have h0 := h.across a b ha hb
    rw [hs, hs]
    by_cases e1 : a = i + 1
    · subst e1
      by_cases e2 : b = j + 1
      · subst e2
        rw [if_pos ⟨rfl, rfl⟩, if_neg (by omega)]
        omega
      · by_cases e3 : b = j
        · subst e3
          rw [if_neg (by omega), if_pos ⟨rfl, rfl⟩]
          omega
        · rw [if_neg (by omega), if_neg (by omega)]; exact h0
    · rw [if_neg (by omega), if_neg (by omega)]; exact h0
  · have h0 := h.down a b ha hb
    rw [hs, hs]
    by_cases e1 : b = j + 1
    · subst e1
      by_cases e2 : a = i + 1
      · subst e2
        rw [if_pos ⟨rfl, rfl⟩, if_neg (by omega)]
        omega
      · by_cases e3 : a = i
        · subst e3
          rw [if_neg (by omega), if_pos ⟨rfl, rfl⟩]
          omega
        · rw [if_neg (by omega), if_neg (by omega)]; exact h0
    · rw [if_neg (by omega), if_neg (by omega)]; exact h0
end Go.Proofs.Ytmkldodkpijfjaa

namespace Go.Proofs.Ytmkldodkpijfjaa
open Go.RowKit

theorem cs_square {m : List (List Int)} (h : square m) : square (cs m) := ⟨by rw [cs_len]; exact h.1, by rw [cs_len]; exact h.2.1, fun i hi => by rw [cs_len] at hi ⊢; exact tab_row hi⟩
theorem atC_cs {m : List (List Int)} {i j : Nat} (hi : i ≤ m.length) (hj : j ≤ m.length) : atC (cs m) ((i : Int) - 1) ((j : Int) - 1) = S2 m i j := by
  unfold atC
  by_cases h1 : i = 0
  · subst h1; rw [if_pos (by omega)]; rfl
  · rw [if_neg (by omega)]
    by_cases h2 : j = 0
    · subst h2; rw [if_pos (by omega), S2_zero_col]
    · rw [if_neg (by omega), show ((i : Int) - 1).toNat = i - 1 from by omega, show ((j : Int) - 1).toNat = j - 1 from by omega]
      unfold cs
      rw [gi_tab (by omega) (by omega), show i - 1 + 1 = i from by omega, show j - 1 + 1 = j from by omega]

/-- the first t numbers of a row given by a function -/
def rowF (g : Nat → Int) (t : Nat) : List Int := (List.range t).map g
theorem rowF_len (g : Nat → Int) (t : Nat) : (rowF g t).length = t := by simp [rowF]
theorem rowF_succ (g : Nat → Int) (t : Nat) : rowF g (t + 1) = rowF g t ++ [g t] := by simp [rowF, List.range_succ]
theorem rowF_tab {n c : Nat} {f : Nat → Nat → Int} {k : Nat} (h : k < n) : rowF (fun j => f k j) c = gr (tab n c f) k := by rw [gr_tab h]; rfl

set_option maxRecDepth 100000 in
set_option maxHeartbeats 1600000 in
theorem heOf_any (ao : Option Addr) (c : Nat) (m : List (List Int)) (w : World) (hg : good m) (hm : MatAt w ao m) :
    Calls Try.prog 72 #[.slice ao m.length c] w fun e w' => ∃ v, e = .returned v ∧ OwnM w' w.heap.size v (ht m) ∧ Below w.heap.size w w' := by
  obtain ⟨i0, hi, hz0, hz1, hz2⟩ := info_parts Try.info_int
  obtain ⟨j0, hj, hy0, hy1, hy2⟩ := info_parts Try.info_ints
  have hn := hg.1.2.1
  have hn1 := hg.1.1
  have hmx : m.length ≤ 9223372036854775807 := by omega
  have Hg := Lib.hid hg
  have Hm := Lib.hid hm
  clear hg hm
  go_enter Try.func72, Try.ntmps72
  go_wp2_with fail
  refine (sgCorners_any ao c m w Hg.out Hm.out).mono ?_
  rintro e w1 ⟨v, rfl, hv, hb⟩
  obtain ⟨ca, cc, rfl, _, _, hcm⟩ := hv.read
  rw [cs_len]
  have HC := Lib.hid hcm
  have Hb := Lib.hid hb
  have hB0 := hb.size
  clear hv hcm hb
  go_wp2
  go_loopw [4, 5] (fun out i wr => ∃ (k : Nat) (vs : List Value), k ≤ m.length + 1 ∧ i = .int .i64 k ∧ OwnP wr w1.heap.size out k (ht m) k vs ∧ Below w1.heap.size w1 wr) (fun _ i _ => m.length + 1 - (intOf i).toNat)
  case atStart => exact ⟨0, [], Nat.zero_le _, rfl, ⟨World.ownsRow_nil _ _ _ _, fun i hi => absurd hi (by omega), fun i j _ hj => absurd hj (by omega)⟩, Below.refl _ _⟩
  case round =>
    obtain ⟨k, vs, hk, rfl, hout, hbr⟩ := hrel
    obtain ⟨wo, rfl⟩ : ∃ wo : World, wo = wr := ⟨_, rfl⟩
    by_cases hlt : k < m.length + 1
    · have hle : (k : Int) ≤ (m.length : Int) := by omega
      have Hout := Lib.hid hout
      have Hbr := Lib.hid hbr
      have hB := hbr.size
      clear hout hbr
      go_wp2
      go_loopw [6, 7] (fun row i wr => ∃ t : Nat, t ≤ m.length + 1 ∧ i = .int .i64 t ∧ OwnI wr wo.heap.size row (rowF (fun j => hOf (S2 m) k j) t) ∧ Below wo.heap.size wo wr) (fun _ i _ => m.length + 1 - (intOf i).toNat)
      case atStart => exact ⟨0, Nat.zero_le _, by go_num, OwnI.nil _ _, Below.refl _ _⟩
      case round =>
        obtain ⟨t, ht, rfl, hrow, hbi⟩ := hrel
        by_cases htl : t < m.length + 1
        · have htle : (t : Int) ≤ (m.length : Int) := by omega
          have hB2 := hbi.size
          have hcall := sgAt_any ca cc (cs m) ((k : Int) - 1) ((t : Int) - 1) wr (cs_square Hg.out.1) (by rw [cs_len]; omega) (by rw [cs_len]; omega) ((HC.out.below Hbr.out).below (hbi.mono (by omega)))
          rw [atC_cs (by omega) (by omega), cs_len] at hcall
          have hsb := S2_bound Hg.out (show k ≤ m.length by omega) (show t ≤ m.length by omega)
          have hval : hOf (S2 m) k t = (k : Int) + t - 2 * S2 m k t := rfl
          generalize hs : S2 m k t = s at hcall hsb hval
          have Hcall := Lib.hid hcall
          have Hval := Lib.hid hval
          have Hbi := Lib.hid hbi
          have Hrow := Lib.hid hrow
          clear hbi hrow hcall hval hs
          go_wp2_with fail
          refine Hcall.out.mono ?_
          rintro e w2 ⟨rfl, rfl⟩
          go_wp2_with (at_builtin; refine wpList_append_own _ rfl _ _ 38 rfl wo.heap.size 3 i0 (.int .i64 0) 1 8 Try.underlying38 hi hz0 hz1 hz2 rfl (by decide) _ _ _ rfl (World.ownsRow.alloc Hrow.out _) ⟨w2.heap.size, 0, none⟩ 1 1 [.int .i64 ((k : Int) + t - 2 * s)] rfl rfl ?c1 ?c2 ?c3 ?c4 ?c5 ?_)
          case c1 => exact cell_one_new _ _ _
          case c2 => intro u hu; simp at hu; subst hu; rfl
          case c3 => unfold maxLen; rw [rowF_len]; omega
          case c4 => rw [rowF_len]; omega
          case c5 => simp; omega
          intro v' w3 hown' hgrow _
          obtain ⟨hr2, hb2⟩ := Hrow.out.snoc hB2 hown' hgrow
          rw [← Hval.out, ← rowF_succ (fun j => hOf (S2 m) k j)] at hr2
          have Hr2 := Lib.hid hr2
          have Hb2 := Lib.hid hb2
          clear hown' hgrow hr2 hb2
          go_wp2
          go_roundw
          case rel => exact ⟨t + 1, by omega, by go_num, Hr2.out, Hbi.out.trans Hb2.out⟩
          case measure => simp [intOf]; omega
        · obtain rfl : t = m.length + 1 := by omega
          rw [rowF_tab (n := m.length + 1) hlt] at hrow
          have hrow2 : OwnI wr wo.heap.size u6 (gr (Go.Proofs.Ytmkldodkpijfjaa.ht m) k) := hrow
          obtain ⟨rr, rc, hr, _, _, _⟩ := hrow2.read
          have Hrow := Lib.hid hrow2
          have hB2 := hbi.size
          have Hout2 := Lib.hid (Hout.out.below hbi)
          have Hbi := Lib.hid hbi
          have hfr := Lib.hid (Hout.out.fresh hrow2 (Nat.le_refl _))
          clear hrow hrow2 hbi
          subst hr
          go_wp2_with (at_builtin; refine wpList_append_own _ rfl _ _ 22 rfl w1.heap.size 38 j0 (.slice none 0 0) 1 24 Try.underlying22 hj hy0 hy1 hy2 rfl (by decide) _ _ _ rfl (World.ownsRow.alloc Hout2.out.top _) ⟨wr.heap.size, 0, none⟩ 1 1 [.slice rr (gr (Go.Proofs.Ytmkldodkpijfjaa.ht m) k).length rc] rfl rfl ?d1 ?d2 ?d3 ?d4 ?d5 ?_)
          case d1 => exact cell_one_new _ _ _
          case d2 => intro u hu; simp at hu; subst hu; rfl
          case d3 => unfold maxLen; omega
          case d4 => omega
          case d5 => simp; omega
          intro v' w3 hown' hgrow _
          have hput := Hout2.out.snoc (show w1.heap.size ≤ wr.heap.size by omega) (Hrow.out.base hB) hfr.out hown' hgrow
          have Hput := Lib.hid hput
          clear hput hown' hgrow
          go_wp2
          go_roundw
          case rel => exact ⟨k + 1, _, by omega, by go_num, Hput.out.1, (Hbr.out.trans (Hbi.out.mono hB)).trans Hput.out.2⟩
          case measure => simp [intOf]; omega
    · obtain rfl : k = m.length + 1 := by omega
      have hfin : OwnM wo w.heap.size u4 (ht m) := OwnM.base ⟨vs, by unfold ht; rw [htT_len]; exact hout⟩ hB0
      have Hfin := Lib.hid hfin
      have Hbr := Lib.hid hbr
      clear hout hbr hfin
      go_wp2
      go_ret
      exact ⟨_, rfl, Hfin.out, Hb.out.trans (Hbr.out.mono hB0)⟩

/-- the corner sums that heights tell -/
def hcT (n : Nat) (c : Nat → Nat → Int) : List (List Int) := tab n n fun i j => c (i + 1) (j + 1)
theorem hcT_len (n : Nat) (c : Nat → Nat → Int) : (hcT n c).length = n := tab_len _ _ _
theorem hcT_square {n : Nat} (c : Nat → Nat → Int) (h1 : 1 ≤ n) (h6 : n ≤ 6) : square (hcT n c) := ⟨by rw [hcT_len]; exact h1, by rw [hcT_len]; exact h6, fun i hi => by rw [hcT_len] at hi ⊢; exact tab_row hi⟩
theorem atC_hcT {n : Nat} {c : Nat → Nat → Int} (h0 : ∀ j, j ≤ n → c 0 j = 0) (h1 : ∀ i, i ≤ n → c i 0 = 0) {i j : Nat} (hi : i ≤ n) (hj : j ≤ n) : atC (hcT n c) ((i : Int) - 1) ((j : Int) - 1) = c i j := by
  unfold atC
  by_cases e1 : i = 0
  · subst e1; rw [if_pos (by omega), h0 j hj]
  · rw [if_neg (by omega)]
    by_cases e2 : j = 0
    · subst e2; rw [if_pos (by omega), h1 i hi]
    · rw [if_neg (by omega), show ((i : Int) - 1).toNat = i - 1 from by omega, show ((j : Int) - 1).toNat = j - 1 from by omega]
      unfold hcT
      rw [gi_tab (by omega) (by omega), show i - 1 + 1 = i from by omega, show j - 1 + 1 = j from by omega]
theorem dm_hcT {n : Nat} {c : Nat → Nat → Int} (h0 : ∀ j, j ≤ n → c 0 j = 0) (h1 : ∀ i, i ≤ n → c i 0 = 0) : dm (hcT n c) = unC n c := by
  refine eq_tab (by rw [dm_len, hcT_len]) (fun i hi => by unfold dm; rw [tab_row (by rw [hcT_len]; exact hi), hcT_len]) fun i j hi hj => ?_
  unfold dm
  rw [gi_tab (by rw [hcT_len]; exact hi) (by rw [hcT_len]; exact hj)]
  unfold df dC
  have a1 := atC_hcT h0 h1 (show i + 1 ≤ n by omega) (show j + 1 ≤ n by omega)
  have a2 := atC_hcT h0 h1 (show i ≤ n by omega) (show j + 1 ≤ n by omega)
  have a3 := atC_hcT h0 h1 (show i + 1 ≤ n by omega) (show j ≤ n by omega)
  have a4 := atC_hcT h0 h1 (show i ≤ n by omega) (show j ≤ n by omega)
  rw [show ((i + 1 : Nat) : Int) - 1 = i from by omega] at a1 a3
  rw [show ((j + 1 : Nat) : Int) - 1 = j from by omega] at a1 a2
  rw [a1, a2, a3, a4]

theorem gi_hcT {n : Nat} {c : Nat → Nat → Int} {i j : Nat} (hi : i < n) (hj : j < n) : gi (gr (hcT n c) i) j = c (i + 1) (j + 1) := gi_tab hi hj

/-- the corner sums that any table tells, as the model reads it -/
def qOf (H : List (List Int)) (i j : Nat) : Int := ((i : Int) + j + 2 - gi (gr H (i + 1)) (j + 1)).tdiv 2
def qT (n : Nat) (H : List (List Int)) : List (List Int) := tab n n (qOf H)
theorem qT_len (n : Nat) (H : List (List Int)) : (qT n H).length = n := tab_len _ _ _
theorem qT_htT (n : Nat) (c : Nat → Nat → Int) : qT n (htT n c) = hcT n c := by
  refine eq_tab (qT_len _ _) (fun i hi => tab_row hi) fun i j hi hj => ?_
  rw [show gi (gr (qT n (htT n c)) i) j = qOf (htT n c) i j from gi_tab hi hj]
  unfold qOf
  rw [gi_htT (by omega) (by omega)]
  unfold hOf
  rw [show (i : Int) + j + 2 - (((i + 1 : Nat) : Int) + ((j + 1 : Nat) : Int) - 2 * c (i + 1) (j + 1)) = c (i + 1) (j + 1) * 2 from by omega]
  exact Int.mul_tdiv_cancel _ (by decide)
theorem tdiv2_bound {x : Int} (h : -110 ≤ x ∧ x ≤ 120) : -100 ≤ x.tdiv 2 ∧ x.tdiv 2 ≤ 100 := by
  have := Int.mul_tdiv_add_tmod x 2
  have h1 := Int.tmod_lt_of_pos x (show (0 : Int) < 2 by decide)
  have h2 := Int.lt_tmod_of_pos x (show (0 : Int) < 2 by decide)
  omega

set_option maxRecDepth 100000 in
set_option maxHeartbeats 1600000 in
theorem heFromW_any (ao : Option Addr) (cp n : Nat) (H : List (List Int)) (w : World) (hl : H.length = n + 1) (hr : ∀ i, i < n + 1 → (gr H i).length = n + 1) (hw : ∀ i j, i < n + 1 → j < n + 1 → -90 ≤ gi (gr H i) j ∧ gi (gr H i) j ≤ 90)
    (hn1 : 1 ≤ n) (hn : n ≤ 6) (hm : MatAt w ao H) :
    Calls Try.prog 70 #[.slice ao (n + 1) cp] w fun e w' => ∃ v, e = .returned v ∧ OwnM w' w.heap.size v (dm (qT n H)) ∧ Below w.heap.size w w' := by
  have hmx : n + 1 ≤ 9223372036854775807 := by omega
  have hwn : IntKind.i64.wrap (((n + 1 : Nat) : Int) - 1) = n := by rw [w64 (by omega)]; omega
  have Hl := Lib.hid hl
  have Hr := Lib.hid hr
  have Hw := Lib.hid hw
  have Hm := Lib.hid hm
  clear hl hr hw hm
  go_enter Try.func70, Try.ntmps70
  go_wp2_with fail
  refine (sgZero_any n w (by omega)).mono ?_
  rintro e w1 ⟨v, rfl, hv, hb⟩
  obtain ⟨oa, oc, vs, rfl, hp, hoc1, hoc2⟩ := hv.open
  rw [tab_len] at hp hoc1 ⊢
  obtain ⟨og, rfl, _⟩ : ∃ g, oa = some ⟨g, 0, none⟩ ∧ w.heap.size ≤ g := by
    rcases hp.top.2 with ⟨h0, h1⟩ | ⟨g, cap, cur, hv2, hg2, _⟩
    · exact absurd h1 (by omega)
    · simp only [Value.slice.injEq] at hv2
      exact ⟨g, hv2.1, hg2⟩
  have Hv := Lib.hid hp
  have Hb := Lib.hid hb
  clear hv hp hb
  go_wp2
  go_loopw [14] (fun i wr => ∃ (k : Nat) (f : Nat → Nat → Int), k ≤ n ∧ i = .int .i64 k ∧ OwnP wr w.heap.size (.slice (some ⟨og, 0, none⟩) n oc) n (tab n n f) n vs ∧
      (∀ a b, a < k → b < n → f a b = qOf H a b) ∧ Below w.heap.size w wr) (fun i _ => n - (intOf i).toNat)
  case atStart => exact ⟨0, _, Nat.zero_le _, rfl, Hv.out, fun a b ha _ => absurd ha (by omega), Hb.out⟩
  case round =>
    obtain ⟨k, f, hk, rfl, hown, heq, hbr⟩ := hrel
    obtain ⟨wo, rfl⟩ : ∃ wo : World, wo = wr := ⟨_, rfl⟩
    clear Hv Hb
    have Hown := Lib.hid hown
    have Heq := Lib.hid heq
    have Hbr := Lib.hid hbr
    clear hown heq hbr
    by_cases hlt : k < n
    · go_wp2
      go_loopw [19] (fun i wr => ∃ (t : Nat) (f : Nat → Nat → Int), t ≤ n ∧ i = .int .i64 t ∧ OwnP wr w.heap.size (.slice (some ⟨og, 0, none⟩) n oc) n (tab n n f) n vs ∧
          (∀ a b, a < k → b < n → f a b = qOf H a b) ∧ (∀ b, b < t → f k b = qOf H k b) ∧ Below w.heap.size w wr) (fun i _ => n - (intOf i).toNat)
      case atStart => exact ⟨0, f, Nat.zero_le _, rfl, Hown.out, Heq.out, fun a ha => absurd ha (by omega), Hbr.out⟩
      case round =>
        obtain ⟨t, f, ht, rfl, hown, heq, hcol, hbi⟩ := hrel
        clear Hown Heq Hbr
        by_cases htl : t < n
        · have hd := hown.cellAt k hlt
          obtain ⟨g, cap, hvs, hd2, hf2, hg, hst⟩ := hown.at2 hlt htl
          rw [hvs] at hd
          obtain ⟨b1, o1, r1, d1, e1, hc1, hr1, _, _⟩ := (Hm.out.below hbi) (k + 1) (by rw [Hl.out]; omega)
          have hrl := Hr.out (k + 1) (by omega)
          rw [hrl] at hc1
          obtain ⟨b2, o2, e2, hc2⟩ := hr1 (t + 1) (by rw [hrl]; omega)
          have hwx := Hw.out (k + 1) (t + 1) (by omega) (by omega)
          have hq : qOf H k t = ((k : Int) + t + 2 - gi (gr H (k + 1)) (t + 1)).tdiv 2 := rfl
          generalize gi (gr H (k + 1)) (t + 1) = x at hc2 hwx hq
          subst e1 e2
          have hqb := tdiv2_bound (x := (k : Int) + t + 2 - x) (by omega)
          have hlt3 : k + 1 < n + 1 := by omega
          have htl3 : t + 1 < n + 1 := by omega
          have Hst := Lib.hid (hst (((k : Int) + t + 2 - x).tdiv 2))
          have Heq := Lib.hid heq
          have Hcol := Lib.hid hcol
          have Hq := Lib.hid hq
          have Hbs := Lib.hid (hbi.setCell (p := ⟨g, t, none⟩) hg (.int .i64 (((k : Int) + t + 2 - x).tdiv 2)))
          clear hown heq hcol hbi hst hvs hg hr1 hrl hq
          go_wp2
          go_region
          all_goals
            go_wp2
            go_roundw
            case rel =>
              refine ⟨t + 1, _, by omega, by go_num, Hst.out.drew, fun a b ha hb => ?_, fun b hb => ?_, Hbs.out.drew⟩
              · rw [if_neg (fun h => by omega)]
                exact Heq.out a b ha hb
              · by_cases e : b = t
                · subst e; rw [if_pos ⟨rfl, rfl⟩, Hq.out]
                · rw [if_neg (fun h => by omega)]
                  exact Hcol.out b (by omega)
            case measure => simp [intOf]; omega
        · obtain rfl : t = n := by omega
          have Hown := Lib.hid hown
          have Heq := Lib.hid heq
          have Hcol := Lib.hid hcol
          have Hbi := Lib.hid hbi
          clear hown heq hcol hbi
          go_wp2
          go_roundw
          case rel =>
            refine ⟨k + 1, f, by omega, by go_num, Hown.out, fun a b ha hb => ?_, Hbi.out⟩
            by_cases e : a = k
            · subst e; exact Hcol.out b hb
            · exact Heq.out a b (by omega) hb
          case measure => simp [intOf]; omega
    · obtain rfl : k = n := by omega
      have heq := Heq.out
      have e : qT k H = tab k k f := eq_tab (qT_len k H) (fun i hi => tab_row hi) (fun i j hi hj => by unfold qT; rw [gi_tab hi hj, heq i j hi hj])
      have hfin : OwnM wo w.heap.size (.slice (some ⟨og, 0, none⟩) k oc) (qT k H) := ⟨vs, by rw [qT_len, e]; exact Hown.out⟩
      have hB := Hbr.out.size
      have hcall := sgFromW_any (some ⟨og, 0, none⟩) oc (qT k H) wo ⟨by rw [qT_len]; exact hn1, by rw [qT_len]; exact hn, fun i hi => by rw [qT_len] at hi ⊢; exact tab_row hi⟩ (fun i j hi hj => by
        rw [qT_len] at hi hj
        rw [show gi (gr (qT k H) i) j = qOf H i j from gi_tab hi hj]
        have := Hw.out (i + 1) (j + 1) (by omega) (by omega)
        exact tdiv2_bound (by omega)) ((show OwnP wo w.heap.size (.slice (some ⟨og, 0, none⟩) k oc) k (qT k H) k vs from by rw [e]; exact Hown.out).at (qT_len k H))
      rw [qT_len] at hcall
      have Hcall := Lib.hid hcall
      clear heq e hfin hcall
      go_wp2_with fail
      refine Hcall.out.mono ?_
      rintro e w5 ⟨v, rfl, hv, hb⟩
      have Hv := Lib.hid (hv.base hB)
      have Hb5 := Lib.hid (Hbr.out.trans (hb.mono hB))
      clear hv hb
      go_wp2
      go_ret
      exact ⟨v, rfl, Hv.out, Hb5.out⟩

theorem heFrom_any (ao : Option Addr) (cp n : Nat) (c : Nat → Nat → Int) (w : World) (hc : Crn n c) (hn1 : 1 ≤ n) (hn : n ≤ 6) (hm : MatAt w ao (htT n c)) :
    Calls Try.prog 70 #[.slice ao (n + 1) cp] w fun e w' => ∃ v, e = .returned v ∧ OwnM w' w.heap.size v (unC n c) ∧ Below w.heap.size w w' := by
  have h := heFromW_any ao cp n (htT n c) w (htT_len n c) (fun i hi => tab_row hi) (fun i j hi hj => by
    rw [gi_htT (by omega) (by omega)]
    have := hc.hbound (show i ≤ n by omega) (show j ≤ n by omega)
    omega) hn1 hn hm
  rw [qT_htT, dm_hcT hc.top hc.left] at h
  exact h
end Go.Proofs.Ytmkldodkpijfjaa

namespace Go.Proofs.Ytmkldodkpijfjaa
open Go.RowKit

theorem l1Most_any (a b : Int) (w : World) : Calls Try.prog 66 #[.int .i64 a, .int .i64 b] w fun e w' => e = .returned (.int .i64 (max a b)) ∧ w' = w := by
  by_cases h : b < a
  · have hm : max a b = a := by omega
    rw [hm]
    have hd : decide (b < a) = true := by simpa using h
    clear hm
    go_enter Try.func66, Try.ntmps66
    go_wp2
    go_ret
    exact ⟨rfl, rfl⟩
  · have hm : max a b = b := by omega
    rw [hm]
    have hd : decide (b < a) = false := by simpa using h
    clear hm
    go_enter Try.func66, Try.ntmps66
    go_wp2
    go_ret
    exact ⟨rfl, rfl⟩


theorem l1Abs_any (a : Int) (w : World) (h1 : -9223372036854775807 ≤ a) (h2 : a ≤ 9223372036854775807) : Calls Try.prog 54 #[.int .i64 a] w fun e w' => e = .returned (.int .i64 (max a (-a))) ∧ w' = w := by
  have hc := l1Most_any a (-a) w
  have HC := Lib.hid hc
  clear hc
  go_enter Try.func54, Try.ntmps54
  go_wp2_with fail
  refine HC.out.mono ?_
  rintro e w2 ⟨rfl, rfl⟩
  go_wp2
  go_ret
  exact ⟨rfl, rfl⟩

set_option maxRecDepth 100000 in
set_option maxHeartbeats 400000 in
theorem l1Same_any (a1 a2 : Option Addr) (c1 c2 : Nat) (xs ys : List Int) (w : World) (hn : xs.length ≤ 1048576) (hn2 : ys.length ≤ 1048576) (h1 : IntsAt w a1 xs) (h2 : IntsAt w a2 ys) :
    Calls Try.prog 60 #[.slice a1 xs.length c1, .slice a2 ys.length c2] w fun e w' => e = .returned (.bool (xs == ys)) ∧ Q w w' := by
  have hm1 : xs.length ≤ 9223372036854775807 := by omega
  have hm2 : ys.length ≤ 9223372036854775807 := by omega
  have H1 := Lib.hid h1
  have H2 := Lib.hid h2
  clear h1 h2
  by_cases hl : ys.length = xs.length
  · have Hl := Lib.hid hl
    have hb : ((xs.length : Int) != (ys.length : Int)) = false := by simp; omega
    go_enter Try.func60, Try.ntmps60
    go_wp2
    go_loopw [13] (fun i wr => ∃ k : Nat, k ≤ xs.length ∧ i = .int .i64 k ∧ (∀ j, j < k → gi xs j = gi ys j) ∧ Q w wr) (fun i _ => xs.length - (intOf i).toNat)
    case atStart => exact ⟨0, Nat.zero_le _, rfl, fun j hj => absurd hj (by omega), Q.refl _⟩
    case round =>
      obtain ⟨k, hk, rfl, hr, hbr⟩ := hrel
      by_cases hlt : k < xs.length
      · obtain ⟨b1, o1, rfl, hc1⟩ := H1.out.below (hbr.below _) k hlt
        obtain ⟨b2, o2, rfl, hc2⟩ := H2.out.below (hbr.below _) k (by omega)
        have Hr := Lib.hid hr
        have Hbr := Lib.hid hbr
        by_cases e : gi xs k = gi ys k
        · have He := Lib.hid e
          rw [← e] at hc2
          obtain ⟨x, hx⟩ : ∃ x, x = gi xs k := ⟨_, rfl⟩
          rw [← hx] at hc1 hc2
          clear hx e hr hbr
          go_wp2
          go_quiet (fail)
          go_wp2
          go_roundw
          case rel => exact ⟨k + 1, by omega, by go_num, fun j hj => by
            by_cases ej : j = k
            · subst ej; exact He.out
            · exact Hr.out j (by omega), Hbr.out.drewN _⟩
          case measure => simp [intOf]; omega
        · have Hs := Lib.hid (show (xs == ys) = false by
            rw [beq_eq_false_iff_ne]
            intro h
            exact e (by rw [h]))
          have hne : (gi xs k != gi ys k) = true := by simpa using e
          obtain ⟨x, hx⟩ : ∃ x, x = gi xs k := ⟨_, rfl⟩
          obtain ⟨y, hy⟩ : ∃ y, y = gi ys k := ⟨_, rfl⟩
          rw [← hx] at hc1 hne
          rw [← hy] at hc2 hne
          clear hx hy e hr hbr
          go_wp2
          go_quiet (fail)
          go_wp2
          go_ret
          exact ⟨by rw [Hs.out]; rfl, Hbr.out.drewN _⟩
      · obtain rfl : k = xs.length := by omega
        have Hs := Lib.hid (show (xs == ys) = true by
          rw [beq_iff_eq]
          exact ext_gi Hl.out.symm hr)
        have Hbr := Lib.hid hbr
        clear hr hbr
        go_wp2
        go_ret
        exact ⟨by rw [Hs.out]; rfl, Hbr.out⟩
  · have Hs := Lib.hid (show (xs == ys) = false by
      rw [beq_eq_false_iff_ne]
      intro h
      exact hl (by rw [h]))
    have hb : ((xs.length : Int) != (ys.length : Int)) = true := by simp; omega
    go_enter Try.func60, Try.ntmps60
    go_wp2
    go_ret
    exact ⟨by rw [Hs.out]; rfl, Q.refl _⟩

end Go.Proofs.Ytmkldodkpijfjaa

namespace Go.Proofs.Ytmkldodkpijfjaa
open Go.RowKit

/-- N rows of N numbers that are not far from 0 -/
structure Tab (N : Nat) (H : List (List Int)) : Prop where
  len : H.length = N
  row : ∀ i, i < N → (gr H i).length = N
  num : ∀ i j, i < N → j < N → -90 ≤ gi (gr H i) j ∧ gi (gr H i) j ≤ 90
theorem htT_tab {n : Nat} {c : Nat → Nat → Int} (h : Crn n c) (hn : n ≤ 6) : Tab (n + 1) (htT n c) := ⟨htT_len n c, fun i hi => tab_row hi, fun i j hi hj => by
  rw [gi_htT (by omega) (by omega)]
  have := h.hbound (show i ≤ n by omega) (show j ≤ n by omega)
  omega⟩
theorem Tab.small {N : Nat} {H : List (List Int)} (h : Tab N H) (hN : N ≤ 7) : Small H := ⟨by rw [h.len]; omega, fun i hi => by rw [h.row i (by rw [h.len] at hi; exact hi)]; omega⟩

def pairOk (m k : List (List Int)) : Prop := good m ∧ good k ∧ m.length = k.length

/-- the sum of the differences, without their signs -/
def apartF (A B : List (List Int)) (i j : Nat) : Int := max (gi (gr A i) j - gi (gr B i) j) (-(gi (gr A i) j - gi (gr B i) j))
theorem apart_bound {N : Nat} {A B : List (List Int)} (hA : Tab N A) (hB : Tab N B) {i j : Nat} (hi : i < N) (hj : j < N) : 0 ≤ apartF A B i j ∧ apartF A B i j ≤ 180 := by
  have h1 := hA.num i j hi hj
  have h2 := hB.num i j hi hj
  unfold apartF
  omega
theorem sum_bound {f : Nat → Int} {K : Int} (hK : 0 ≤ K) : ∀ {k : Nat}, (∀ i, i < k → 0 ≤ f i ∧ f i ≤ K) → 0 ≤ sumF f k ∧ sumF f k ≤ k * K
  | 0, _ => by simp [sumF]
  | k + 1, h => by
    have h1 := sum_bound hK (k := k) (fun i hi => h i (by omega))
    have h2 := h k (by omega)
    simp only [sumF]
    have e : ((k + 1 : Nat) : Int) * K = k * K + K := by
      rw [show ((k + 1 : Nat) : Int) = (k : Int) + 1 from by omega, Int.add_mul, Int.one_mul]
    omega

set_option maxRecDepth 100000 in
set_option maxHeartbeats 1600000 in
theorem heSame_any (ao bo : Option Addr) (c d : Nat) (A B : List (List Int)) (w : World) (hA : Small A) (hB : Small B) (hm : MatAt w ao A) (hk : MatAt w bo B) :
    Calls Try.prog 47 #[.slice ao A.length c, .slice bo B.length d] w fun e w' => Ans (A = B) e ∧ Below w.heap.size w w' := by
  have ha1 := hA.1
  have hb1 := hB.1
  have HA := Lib.hid hA
  have HBB := Lib.hid hB
  have Hm := Lib.hid hm
  have Hk := Lib.hid hk
  clear hA hB hm hk
  by_cases hl : A.length = B.length
  · have hl2 : ((A.length : Int) != (B.length : Int)) = false := by simp; omega
    have Hl := Lib.hid hl
    clear hl
    go_enter Try.func47, Try.ntmps47
    go_wp2
    go_loopw [14] (fun i wr => ∃ k : Nat, k ≤ A.length ∧ i = .int .i64 k ∧ (∀ j, j < k → gr A j = gr B j) ∧ Below w.heap.size w wr) (fun i _ => A.length - (intOf i).toNat)
    case atStart => exact ⟨0, Nat.zero_le _, rfl, fun j hj => absurd hj (by omega), Below.refl _ _⟩
    case round =>
      obtain ⟨k, hk, rfl, hdone, hbr⟩ := hrel
      have Hd := Lib.hid hdone
      have Hbr := Lib.hid hbr
      have HZ := hbr.size
      clear hdone hbr
      by_cases hlt : k < A.length
      · have hlt2 : k < B.length := by rw [← Hl.out]; exact hlt
        obtain ⟨b1, o1, r1, d1, e1, hc1, hx1, _, _⟩ := (Hm.out.below Hbr.out) k hlt
        obtain ⟨b2, o2, r2, d2, e2, hc2, hx2, _, _⟩ := (Hk.out.below Hbr.out) k hlt2
        subst e1 e2
        have hcall := l1Same_any r1 r2 d1 d2 (gr A k) (gr B k) wr (HA.out.2 k hlt) (HBB.out.2 k hlt2) hx1 hx2
        have HC := Lib.hid hcall
        have hla := HA.out.2 k hlt
        have hlb := HBB.out.2 k hlt2
        clear hcall hx1 hx2
        by_cases hs : gr A k = gr B k
        · have e0 : (gr A k == gr B k) = true := by simp [hs]
          rw [e0] at HC
          have Hs := Lib.hid hs
          clear hs e0
          go_wp2_with fail
          refine HC.out.mono ?_
          rintro e w2 ⟨rfl, hq⟩
          have Hb2 := Lib.hid (Hbr.out.trans ((hq.below _).mono HZ))
          clear hq
          go_wp2
          go_roundw
          case rel =>
            refine ⟨k + 1, by omega, by go_num, fun j hj => ?_, Hb2.out⟩
            by_cases e : j = k
            · subst e; exact Hs.out
            · exact Hd.out j (by omega)
          case measure => simp [intOf]; omega
        · have e0 : (gr A k == gr B k) = false := by simp [hs]
          rw [e0] at HC
          have Hs := Lib.hid hs
          clear hs e0
          go_wp2_with fail
          refine HC.out.mono ?_
          rintro e w2 ⟨rfl, hq⟩
          have Hb2 := Lib.hid (Hbr.out.trans ((hq.below _).mono HZ))
          clear hq
          go_wp2
          go_ret
          exact ⟨Ans.no fun h => Hs.out (by rw [h]), Hb2.out⟩
      · obtain rfl : k = A.length := by omega
        go_wp2
        go_ret
        exact ⟨Ans.yes (ext_gr Hl.out Hd.out), Hbr.out⟩
  · have hl2 : ((A.length : Int) != (B.length : Int)) = true := by simp; omega
    go_enter Try.func47, Try.ntmps47
    go_wp2
    go_ret
    exact ⟨Ans.no fun h => hl (by rw [h]), Below.refl _ _⟩
end Go.Proofs.Ytmkldodkpijfjaa

namespace Go.Proofs.Ytmkldodkpijfjaa
open Go.RowKit

def mixF (low : Bool) (A B : List (List Int)) (i j : Nat) : Int := if low then min (gi (gr A i) j) (gi (gr B i) j) else max (gi (gr A i) j) (gi (gr B i) j)

end Go.Proofs.Ytmkldodkpijfjaa

namespace Go.Proofs.Ytmkldodkpijfjaa
open Go.RowKit

/-- the number of rows, then the heights, row by row -/
def tl (n : Int) (f : Nat → Nat → Int) : List Value := .int .i64 n :: (List.range 49).map fun k => .int .i64 (f (k / 7) (k % 7))
def tc (n : Int) (f : Nat → Nat → Int) : Array Value := (tl n f).toArray
def TerrAt (w : World) (g : Nat) (n : Int) (f : Nat → Nat → Int) : Prop := w.heap[g]? = some (.cells (tc n f) 47 (0, 0))
/-- heights, 0 behind them -/
def pad (n : Nat) (h : Nat → Nat → Int) (i j : Nat) : Int := if i ≤ n ∧ j ≤ n then h i j else 0
def upd (f : Nat → Nat → Int) (i j : Nat) (x : Int) : Nat → Nat → Int := fun a b => if a = i ∧ b = j then x else f a b

theorem tc_size (n : Int) (f : Nat → Nat → Int) : (tc n f).size = 50 := by simp [tc, tl]
theorem tc_zero (n : Int) (f : Nat → Nat → Int) : (tc n f)[0]? = some (.int .i64 n) := by simp [tc, tl]
theorem tc_at (n : Int) (f : Nat → Nat → Int) {i j : Nat} (hi : i < 7) (hj : j < 7) : (tc n f)[1 + i * 7 + j]? = some (.int .i64 (f i j)) := by
  have e : 1 + i * 7 + j = (i * 7 + j) + 1 := by omega
  rw [e]
  simp only [tc, tl, List.getElem?_toArray, List.getElem?_cons_succ, List.getElem?_map]
  rw [List.getElem?_range (by omega)]
  simp only [Option.map_some]
  rw [show (i * 7 + j) / 7 = i from by omega, show (i * 7 + j) % 7 = j from by omega]
theorem tc_congr {n : Int} {f f' : Nat → Nat → Int} (h : ∀ i j, i < 7 → j < 7 → f i j = f' i j) : tc n f = tc n f' := by
  unfold tc tl
  congr 2
  refine List.map_congr_left fun k hk => ?_
  rw [List.mem_range] at hk
  rw [h (k / 7) (k % 7) (by omega) (by omega)]
theorem tc_set (n : Int) (f : Nat → Nat → Int) {i j : Nat} (hi : i < 7) (hj : j < 7) (x : Int) : (tc n f).setIfInBounds (1 + i * 7 + j) (.int .i64 x) = tc n (upd f i j x) := by
  apply Array.ext_getElem?
  intro k
  rw [Array.getElem?_setIfInBounds]
  by_cases e : 1 + i * 7 + j = k
  · subst e
    rw [if_pos rfl, if_pos (by rw [tc_size]; omega), tc_at n _ hi hj]
    simp [upd]
  · rw [if_neg e]
    by_cases hk : k < 50
    · by_cases h0 : k = 0
      · subst h0; rw [tc_zero, tc_zero]
      · obtain ⟨a, b, ha, hb, rfl⟩ : ∃ a b, a < 7 ∧ b < 7 ∧ k = 1 + a * 7 + b := ⟨(k - 1) / 7, (k - 1) % 7, by omega, by omega, by omega⟩
        rw [tc_at n f ha hb, tc_at n _ ha hb]
        unfold upd
        rw [if_neg (fun h => e (by rw [h.1, h.2]))]
    · rw [Array.getElem?_eq_none (by rw [tc_size]; omega), Array.getElem?_eq_none (by rw [tc_size]; omega)]

theorem TerrAt.head {w : World} {g : Nat} {n : Int} {f : Nat → Nat → Int} (h : TerrAt w g n f) : w.cell? ⟨g, 0, none⟩ = some (.int .i64 n) := by
  rw [cell_of_row w g 0 _ _ _ h, tc_zero]
theorem TerrAt.cell {w : World} {g : Nat} {n : Int} {f : Nat → Nat → Int} (h : TerrAt w g n f) {i j : Nat} (hi : i < 7) (hj : j < 7) : w.cell? ⟨g, 1 + i * 7 + j, none⟩ = some (.int .i64 (f i j)) := by
  rw [cell_of_row w g _ _ _ _ h, tc_at n f hi hj]
theorem TerrAt.frozen {w : World} {g : Nat} {n : Int} {f : Nat → Nat → Int} (h : TerrAt w g n f) (k : Nat) : w.frozen? ⟨g, k, none⟩ = false := frozen_of_row w g k _ _ h
theorem TerrAt.store {w : World} {g : Nat} {n : Int} {f : Nat → Nat → Int} (h : TerrAt w g n f) {i j : Nat} (hi : i < 7) (hj : j < 7) (x : Int) : TerrAt (w.setCell ⟨g, 1 + i * 7 + j, none⟩ (.int .i64 x)) g n (upd f i j x) := by
  unfold TerrAt
  rw [heap_setCell_same w g _ _ _ _ h, tc_set n f hi hj]
theorem TerrAt.lt {w : World} {g : Nat} {n : Int} {f : Nat → Nat → Int} (h : TerrAt w g n f) : g < w.heap.size := lt_of_block h
theorem TerrAt.below {w w' : World} {g : Nat} {n : Int} {f : Nat → Nat → Int} (h : TerrAt w g n f) (hb : Below w.heap.size w w') : TerrAt w' g n f := by
  unfold TerrAt
  rw [hb.block g h.lt]
  exact h
theorem TerrAt.other {w : World} {g : Nat} {n : Int} {f : Nat → Nat → Int} (h : TerrAt w g n f) {a : Addr} (ha : g ≠ a.block) (v : Value) : TerrAt (w.setCell a v) g n f := by
  unfold TerrAt
  rw [heap_setCell_other w a g v ha]
  exact h
theorem TerrAt.congr {w : World} {g : Nat} {n : Int} {f f' : Nat → Nat → Int} (h : TerrAt w g n f) (e : ∀ i j, i < 7 → j < 7 → f i j = f' i j) : TerrAt w g n f' := by
  unfold TerrAt
  rw [← tc_congr e]
  exact h
theorem TerrAt.new (w : World) (n : Int) (f : Nat → Nat → Int) : TerrAt (w.alloc (.cells (tc n f) 47)) w.heap.size n f := heap_alloc_new w _
theorem TerrAt.alloc {w : World} {g : Nat} {n : Int} {f : Nat → Nat → Int} (h : TerrAt w g n f) (o : Obj) : TerrAt (w.alloc o) g n f := by
  unfold TerrAt
  rw [heap_alloc_old w o h.lt]
  exact h
end Go.Proofs.Ytmkldodkpijfjaa

