/- Parts of proofs: contracts and plain facts. Conditions: as each says. -/
import Derived.Test.YtgdijjfipicodaaK08
import Derived.Deep.WholeRow
import Derived.Deep.MidRow
namespace Go.Proofs.Ytgdijjfipicodaa

theorem ite_iff {p q : Prop} [Decidable p] [Decidable q] {x y : Int} (h : p ↔ q) : (if p then x else y) = if q then x else y := by
  by_cases hp : p
  · rw [if_pos hp, if_pos (h.1 hp)]
  · rw [if_neg hp, if_neg (fun hq => hp (h.2 hq))]

/-- the height where the corner sum is c -/
def hOf (c : Nat → Nat → Int) (i j : Nat) : Int := (i : Int) + (j : Int) - 2 * c i j
/-- the numbers that corner sums leave -/
def dC (c : Nat → Nat → Int) (i j : Nat) : Int := c (i + 1) (j + 1) - c i (j + 1) - c (i + 1) j + c i j
/-- the table of heights, the table of numbers -/
def htT (n : Nat) (c : Nat → Nat → Int) : List (List Int) := tab (n + 1) (n + 1) (hOf c)
def unC (n : Nat) (c : Nat → Nat → Int) : List (List Int) := tab n n (dC c)
def ht (m : List (List Int)) : List (List Int) := htT m.length (S2 m)

/-- corner sums of a sign matrix, told by their neighbours -/
structure Crn (n : Nat) (c : Nat → Nat → Int) : Prop where
  top : ∀ j, j ≤ n → c 0 j = 0
  left : ∀ i, i ≤ n → c i 0 = 0
  right : ∀ i, i ≤ n → c i n = i
  bottom : ∀ j, j ≤ n → c n j = j
  across : ∀ i j, i ≤ n → j < n → c i j ≤ c i (j + 1) ∧ c i (j + 1) ≤ c i j + 1
  down : ∀ i j, i < n → j ≤ n → c i j ≤ c (i + 1) j ∧ c (i + 1) j ≤ c i j + 1

theorem Crn.le_i {n : Nat} {c : Nat → Nat → Int} (h : Crn n c) {i j : Nat} (hi : i ≤ n) (hj : j ≤ n) : 0 ≤ c i j ∧ c i j ≤ i := by
  induction i with
  | zero => rw [h.top j hj]; omega
  | succ i ih =>
    have := ih (by omega)
    have := h.down i j (by omega) hj
    omega
theorem Crn.le_j {n : Nat} {c : Nat → Nat → Int} (h : Crn n c) {i j : Nat} (hi : i ≤ n) (hj : j ≤ n) : c i j ≤ j := by
  induction j with
  | zero => rw [h.left i hi]; omega
  | succ j ih =>
    have := ih (by omega)
    have := h.across i j hi (by omega)
    omega
theorem Crn.ge {n : Nat} {c : Nat → Nat → Int} (h : Crn n c) {i j : Nat} (hi : i ≤ n) (hj : j ≤ n) : (i : Int) + j - n ≤ c i j := by
  obtain ⟨k, rfl⟩ : ∃ k, n = j + k := ⟨n - j, by omega⟩
  clear hj
  induction k generalizing j with
  | zero => have := h.right i hi; simp only [Nat.add_zero] at this; rw [this]; omega
  | succ k ih =>
    have h2 := ih (j := j + 1) (by rw [show j + 1 + k = j + (k + 1) from by omega]; exact h) (by omega)
    have := h.across i j hi (by omega)
    omega

/-- heights are in 0..n -/
theorem Crn.hbound {n : Nat} {c : Nat → Nat → Int} (h : Crn n c) {i j : Nat} (hi : i ≤ n) (hj : j ≤ n) : 0 ≤ hOf c i j ∧ hOf c i j ≤ n := by
  have h1 := h.le_i hi hj
  have h2 := h.le_j hi hj
  have h3 := h.ge hi hj
  unfold hOf
  omega

theorem good_crn {m : List (List Int)} (h : good m) : Crn m.length (S2 m) := by
  have rowS : ∀ i j, S2 m (i + 1) j = S2 m i j + sumK (gr m i) j := fun i j => by rw [S2_succ, sumK_sumF]
  have colS : ∀ i j, i ≤ m.length → j < m.length → S2 m i (j + 1) = S2 m i j + sumK (gr (tr m) j) i := fun i j hi hj => by
    rw [S2_cols hi (show j + 1 ≤ m.length by omega), S2_cols hi (show j ≤ m.length by omega)]
    rfl
  have rowOk : ∀ i j, i < m.length → j ≤ m.length → 0 ≤ sumK (gr m i) j ∧ sumK (gr m i) j ≤ 1 := fun i j hi hj => (h.2.1 i hi).1 j (by rw [h.1.2.2 i hi]; exact hj)
  have colOk : ∀ i j, i < m.length → j ≤ m.length → 0 ≤ sumK (gr (tr m) i) j ∧ sumK (gr (tr m) i) j ≤ 1 := fun i j hi hj => (h.2.2 i (by rw [tr_len]; exact hi)).1 j (by rw [tr_row hi]; exact hj)
  refine ⟨fun j _ => rfl, fun i _ => S2_zero_col m i, fun i hi => ?_, fun j hj => ?_, fun i j hi hj => ?_, fun i j hi hj => ?_⟩
  · induction i with
    | zero => rfl
    | succ i ih =>
      rw [rowS, ih (by omega)]
      have := (h.2.1 i (by omega)).2
      rw [h.1.2.2 i (by omega)] at this
      omega
  · induction j with
    | zero => exact S2_zero_col m _
    | succ j ih =>
      rw [colS _ j (Nat.le_refl _) (by omega), ih (by omega)]
      have := (h.2.2 j (by rw [tr_len]; omega)).2
      rw [tr_row (by omega)] at this
      omega
  · rw [colS i j hi hj]
    have := colOk j i hj hi
    omega
  · rw [rowS i j]
    have := rowOk i j hi hj
    omega

theorem unC_len (n : Nat) (c : Nat → Nat → Int) : (unC n c).length = n := tab_len _ _ _
theorem htT_len (n : Nat) (c : Nat → Nat → Int) : (htT n c).length = n + 1 := tab_len _ _ _
theorem gi_htT {n : Nat} {c : Nat → Nat → Int} {i j : Nat} (hi : i ≤ n) (hj : j ≤ n) : gi (gr (htT n c) i) j = hOf c i j := gi_tab (by omega) (by omega)
theorem gi_unC {n : Nat} {c : Nat → Nat → Int} {i j : Nat} (hi : i < n) (hj : j < n) : gi (gr (unC n c) i) j = dC c i j := gi_tab hi hj
theorem htT_small {n : Nat} (c : Nat → Nat → Int) (h : n ≤ 6) : Small (htT n c) := ⟨by rw [htT_len]; omega, fun i hi => by rw [htT_len] at hi; unfold htT; rw [tab_row hi]; omega⟩
theorem unC_small {n : Nat} (c : Nat → Nat → Int) (h : n ≤ 6) : Small (unC n c) := ⟨by rw [unC_len]; omega, fun i hi => by rw [unC_len] at hi; unfold unC; rw [tab_row hi]; omega⟩

theorem unC_S2 {m : List (List Int)} (h : square m) : unC m.length (S2 m) = m := by
  refine (eq_tab rfl h.2.2 fun i j hi hj => ?_).symm
  have := S2_step m i j
  unfold dC
  omega

/-- the numbers by heights -/
theorem dC_h (c : Nat → Nat → Int) (i j : Nat) : hOf c i (j + 1) - hOf c i j + hOf c (i + 1) j - hOf c (i + 1) (j + 1) = 2 * dC c i j := by
  unfold hOf dC
  omega

/-- corner sums of the table with given ones -/
theorem S2_unC {n : Nat} {c : Nat → Nat → Int} (h0 : ∀ j, j ≤ n → c 0 j = 0) (h1 : ∀ i, i ≤ n → c i 0 = 0) : ∀ i j, i ≤ n → j ≤ n → S2 (unC n c) i j = c i j := by
  intro i
  induction i with
  | zero => intro j _ hj; rw [h0 j hj]; rfl
  | succ i ih =>
    intro j hi
    induction j with
    | zero => intro _; rw [h1 _ hi]; exact S2_zero_col _ _
    | succ j ihj =>
      intro hj
      rw [S2_step, ih (j + 1) (by omega) hj, ihj (by omega), ih j (by omega) (by omega), gi_unC (by omega) (by omega)]
      unfold dC
      omega

theorem unC_square {n : Nat} (c : Nat → Nat → Int) (h1 : 1 ≤ n) (h6 : n ≤ 6) : square (unC n c) := ⟨by rw [unC_len]; exact h1, by rw [unC_len]; exact h6, fun i hi => by rw [unC_len] at hi ⊢; exact tab_row hi⟩

/-- they are those of a sign matrix -/
theorem crn_good {n : Nat} {c : Nat → Nat → Int} (h : Crn n c) (h1 : 1 ≤ n) (h6 : n ≤ 6) : good (unC n c) := by
  have hS := S2_unC h.top h.left
  have hsq := unC_square c h1 h6
  have rowS : ∀ i j, S2 (unC n c) (i + 1) j = S2 (unC n c) i j + sumK (gr (unC n c) i) j := fun i j => by rw [S2_succ, sumK_sumF]
  have colS : ∀ i j, i ≤ n → j < n → S2 (unC n c) i (j + 1) = S2 (unC n c) i j + sumK (gr (tr (unC n c)) j) i := fun i j hi hj => by
    rw [S2_cols (by rw [unC_len]; exact hi) (by rw [unC_len]; omega), S2_cols (by rw [unC_len]; exact hi) (by rw [unC_len]; omega)]
    rfl
  have rK : ∀ i j, i < n → j ≤ n → sumK (gr (unC n c) i) j = c (i + 1) j - c i j := fun i j hi hj => by
    have := rowS i j
    rw [hS (i + 1) j (by omega) hj, hS i j (by omega) hj] at this
    omega
  have cK : ∀ i j, i ≤ n → j < n → sumK (gr (tr (unC n c)) j) i = c i (j + 1) - c i j := fun i j hi hj => by
    have := colS i j hi hj
    rw [hS i (j + 1) hi (by omega), hS i j hi (by omega)] at this
    omega
  refine ⟨hsq, fun i hi => ?_, fun j hj => ?_⟩
  · have hl := hsq.2.2 i hi
    rw [unC_len] at hi hl
    unfold lineOk
    rw [hl]
    refine ⟨fun k hk => ?_, ?_⟩
    · rw [rK i k hi hk]; have := h.down i k hi hk; omega
    · rw [rK i n hi (Nat.le_refl _), h.right i (by omega), h.right (i + 1) (by omega)]; omega
  · rw [tr_len, unC_len] at hj
    have hl : (gr (tr (unC n c)) j).length = n := by rw [tr_row (by rw [unC_len]; exact hj), unC_len]
    unfold lineOk
    rw [hl]
    refine ⟨fun k hk => ?_, ?_⟩
    · rw [cK k j hk hj]; have := h.across k j hk hj; omega
    · rw [cK n j (Nat.le_refl _) hj, h.bottom j (by omega), h.bottom (j + 1) (by omega)]; omega

theorem hOf_lt {a b : Nat → Nat → Int} {i j : Nat} : hOf a i j < hOf b i j ↔ b i j < a i j := by unfold hOf; omega
theorem hOf_eq {a b : Nat → Nat → Int} {i j : Nat} : hOf a i j = hOf b i j ↔ a i j = b i j := by unfold hOf; omega
theorem htT_congr {n : Nat} {a b : Nat → Nat → Int} (h : ∀ i j, i ≤ n → j ≤ n → a i j = b i j) : htT n a = htT n b := by
  refine eq_tab (htT_len _ _) (fun i hi => tab_row hi) fun i j hi hj => ?_
  rw [gi_htT (by omega) (by omega), hOf_eq]
  exact h i j (by omega) (by omega)
theorem htT_inj {n : Nat} {a b : Nat → Nat → Int} (h : htT n a = htT n b) : ∀ i j, i ≤ n → j ≤ n → a i j = b i j := by
  intro i j hi hj
  rw [← hOf_eq, ← gi_htT hi hj, ← gi_htT hi hj, h]
theorem unC_congr {n : Nat} {a b : Nat → Nat → Int} (h : ∀ i j, i ≤ n → j ≤ n → a i j = b i j) : unC n a = unC n b := by
  refine eq_tab (unC_len _ _) (fun i hi => tab_row hi) fun i j hi hj => ?_
  rw [gi_unC hi hj]
  unfold dC
  rw [h _ _ (by omega) (by omega), h _ _ (by omega) (by omega), h _ _ (by omega) (by omega), h _ _ (by omega) (by omega)]

/-- the greater and the lesser corner sums: the meet's and the join's -/
def maxC (a b : Nat → Nat → Int) (i j : Nat) : Int := max (a i j) (b i j)
def minC2 (a b : Nat → Nat → Int) (i j : Nat) : Int := min (a i j) (b i j)
theorem Crn.max {n : Nat} {a b : Nat → Nat → Int} (h : Crn n a) (k : Crn n b) : Crn n (maxC a b) := by
  unfold maxC
  refine ⟨fun j hj => ?_, fun i hi => ?_, fun i hi => ?_, fun j hj => ?_, fun i j hi hj => ?_, fun i j hi hj => ?_⟩
  · rw [h.top j hj, k.top j hj]; rfl
  · rw [h.left i hi, k.left i hi]; rfl
  · rw [h.right i hi, k.right i hi]; omega
  · rw [h.bottom j hj, k.bottom j hj]; omega
  · have := h.across i j hi hj; have := k.across i j hi hj; omega
  · have := h.down i j hi hj; have := k.down i j hi hj; omega
theorem Crn.min {n : Nat} {a b : Nat → Nat → Int} (h : Crn n a) (k : Crn n b) : Crn n (minC2 a b) := by
  unfold minC2
  refine ⟨fun j hj => ?_, fun i hi => ?_, fun i hi => ?_, fun j hj => ?_, fun i j hi hj => ?_, fun i j hi hj => ?_⟩
  · rw [h.top j hj, k.top j hj]; rfl
  · rw [h.left i hi, k.left i hi]; rfl
  · rw [h.right i hi, k.right i hi]; omega
  · rw [h.bottom j hj, k.bottom j hj]; omega
  · have := h.across i j hi hj; have := k.across i j hi hj; omega
  · have := h.down i j hi hj; have := k.down i j hi hj; omega

/-- flips: what the height of a cell may be changed by -/
def up1 (h : Nat → Nat → Int) (i j : Nat) : Prop := h (i - 1) j = h i j + 1 ∧ h i (j - 1) = h i j + 1 ∧ h i (j + 1) = h i j + 1 ∧ h (i + 1) j = h i j + 1
def down1 (h : Nat → Nat → Int) (i j : Nat) : Prop := h (i - 1) j = h i j - 1 ∧ h i (j - 1) = h i j - 1 ∧ h i (j + 1) = h i j - 1 ∧ h (i + 1) j = h i j - 1
instance (h : Nat → Nat → Int) (i j : Nat) : Decidable (up1 h i j) := by unfold up1; infer_instance
instance (h : Nat → Nat → Int) (i j : Nat) : Decidable (down1 h i j) := by unfold down1; infer_instance
def way (h : Nat → Nat → Int) (i j : Nat) : Int := if up1 h i j then 1 else if down1 h i j then -1 else 0
def setC (c : Nat → Nat → Int) (i j : Nat) (x : Int) : Nat → Nat → Int := fun a b => if a = i ∧ b = j then x else c a b

theorem hOf_setC (c : Nat → Nat → Int) (i j : Nat) (x : Int) (a b : Nat) : hOf (setC c i j x) a b = if a = i ∧ b = j then (i : Int) + j - 2 * x else hOf c a b := by
  unfold hOf setC
  split
  · next h => rw [h.1, h.2]
  · rfl

theorem Crn.flip {n : Nat} {c : Nat → Nat → Int} (h : Crn n c) {i j : Nat} (hi : 0 < i) (hi2 : i < n) (hj : 0 < j) (hj2 : j < n) (hw : way (hOf c) i j ≠ 0) : Crn n (setC c i j (c i j - way (hOf c) i j)) := by
  obtain ⟨i, rfl⟩ : ∃ k, i = k + 1 := ⟨i - 1, by omega⟩
  obtain ⟨j, rfl⟩ : ∃ k, j = k + 1 := ⟨j - 1, by omega⟩
  have key : (way (hOf c) (i + 1) (j + 1) = 1 ∧ c i (j + 1) = c (i + 1) (j + 1) - 1 ∧ c (i + 1) j = c (i + 1) (j + 1) - 1 ∧ c (i + 1) (j + 1 + 1) = c (i + 1) (j + 1) ∧ c (i + 1 + 1) (j + 1) = c (i + 1) (j + 1)) ∨
      (way (hOf c) (i + 1) (j + 1) = -1 ∧ c i (j + 1) = c (i + 1) (j + 1) ∧ c (i + 1) j = c (i + 1) (j + 1) ∧ c (i + 1) (j + 1 + 1) = c (i + 1) (j + 1) + 1 ∧ c (i + 1 + 1) (j + 1) = c (i + 1) (j + 1) + 1) := by
    unfold way at hw ⊢
    by_cases h1 : up1 (hOf c) (i + 1) (j + 1)
    · rw [if_pos h1]
      unfold up1 hOf at h1
      simp only [Nat.add_sub_cancel] at h1
      refine .inl ⟨rfl, ?_⟩
      omega
    · rw [if_neg h1] at hw ⊢
      by_cases h2 : down1 (hOf c) (i + 1) (j + 1)
      · rw [if_pos h2]
        unfold down1 hOf at h2
        simp only [Nat.add_sub_cancel] at h2
        refine .inr ⟨rfl, ?_⟩
        omega
      · rw [if_neg h2] at hw
        exact absurd rfl hw
  have hs : ∀ a b, setC c (i + 1) (j + 1) (c (i + 1) (j + 1) - way (hOf c) (i + 1) (j + 1)) a b = if a = i + 1 ∧ b = j + 1 then c (i + 1) (j + 1) - way (hOf c) (i + 1) (j + 1) else c a b := fun _ _ => rfl
  refine ⟨fun b hb => ?_, fun a ha => ?_, fun a ha => ?_, fun b hb => ?_, fun a b ha hb => ?_, fun a b ha hb => ?_⟩
  · rw [hs, if_neg (by omega)]; exact h.top b hb
  · rw [hs, if_neg (by omega)]; exact h.left a ha
  · rw [hs, if_neg (by omega)]; exact h.right a ha
  · rw [hs, if_neg (by omega)]; exact h.bottom b hb
  · have h0 := h.across a b ha hb
    rw [hs, hs]
    by_cases e1 : a = i + 1
    · subst e1
      by_cases e2 : b = j + 1
      · subst e2
        rw [if_pos ⟨rfl, rfl⟩, if_neg (by omega)]
        omega
      · by_cases e3 : b = j
        · subst e3
          rw [if_neg (by omega), if_pos ⟨rfl, rfl⟩]
          omega
        · rw [if_neg (by omega), if_neg (by omega)]; exact h0
    · rw [if_neg (by omega), if_neg (by omega)]; exact h0
  · have h0 := h.down a b ha hb
    rw [hs, hs]
    by_cases e1 : b = j + 1
    · subst e1
      by_cases e2 : a = i + 1
      · subst e2
        rw [if_pos ⟨rfl, rfl⟩, if_neg (by omega)]
        omega
      · by_cases e3 : a = i
        · subst e3
          rw [if_neg (by omega), if_pos ⟨rfl, rfl⟩]
          omega
        · rw [if_neg (by omega), if_neg (by omega)]; exact h0
    · rw [if_neg (by omega), if_neg (by omega)]; exact h0
end Go.Proofs.Ytgdijjfipicodaa

namespace Go.Proofs.Ytgdijjfipicodaa
open Go.RowKit

/-- the number of rows, then the heights, row by row -/
def tl (n : Int) (f : Nat → Nat → Int) : List Value := .int .i64 n :: (List.range 49).map fun k => .int .i64 (f (k / 7) (k % 7))
def tc (n : Int) (f : Nat → Nat → Int) : Array Value := (tl n f).toArray
/-- heights, 0 behind them -/
def pad (n : Nat) (h : Nat → Nat → Int) (i j : Nat) : Int := if i ≤ n ∧ j ≤ n then h i j else 0
def upd (f : Nat → Nat → Int) (i j : Nat) (x : Int) : Nat → Nat → Int := fun a b => if a = i ∧ b = j then x else f a b

theorem tc_size (n : Int) (f : Nat → Nat → Int) : (tc n f).size = 50 := by simp [tc, tl]
theorem tc_zero (n : Int) (f : Nat → Nat → Int) : (tc n f)[0]? = some (.int .i64 n) := by simp [tc, tl]
theorem tc_at (n : Int) (f : Nat → Nat → Int) {i j : Nat} (hi : i < 7) (hj : j < 7) : (tc n f)[1 + i * 7 + j]? = some (.int .i64 (f i j)) := by
  have e : 1 + i * 7 + j = (i * 7 + j) + 1 := by omega
  rw [e]
  simp only [tc, tl, List.getElem?_toArray, List.getElem?_cons_succ, List.getElem?_map]
  rw [List.getElem?_range (by omega)]
  simp only [Option.map_some]
  rw [show (i * 7 + j) / 7 = i from by omega, show (i * 7 + j) % 7 = j from by omega]
theorem tc_congr {n : Int} {f f' : Nat → Nat → Int} (h : ∀ i j, i < 7 → j < 7 → f i j = f' i j) : tc n f = tc n f' := by
  unfold tc tl
  congr 2
  refine List.map_congr_left fun k hk => ?_
  rw [List.mem_range] at hk
  rw [h (k / 7) (k % 7) (by omega) (by omega)]
theorem tc_set (n : Int) (f : Nat → Nat → Int) {i j : Nat} (hi : i < 7) (hj : j < 7) (x : Int) : (tc n f).setIfInBounds (1 + i * 7 + j) (.int .i64 x) = tc n (upd f i j x) := by
  apply Array.ext_getElem?
  intro k
  rw [Array.getElem?_setIfInBounds]
  by_cases e : 1 + i * 7 + j = k
  · subst e
    rw [if_pos rfl, if_pos (by rw [tc_size]; omega), tc_at n _ hi hj]
    simp [upd]
  · rw [if_neg e]
    by_cases hk : k < 50
    · by_cases h0 : k = 0
      · subst h0; rw [tc_zero, tc_zero]
      · obtain ⟨a, b, ha, hb, rfl⟩ : ∃ a b, a < 7 ∧ b < 7 ∧ k = 1 + a * 7 + b := ⟨(k - 1) / 7, (k - 1) % 7, by omega, by omega, by omega⟩
        rw [tc_at n f ha hb, tc_at n _ ha hb]
        unfold upd
        rw [if_neg (fun h => e (by rw [h.1, h.2]))]
    · rw [Array.getElem?_eq_none (by rw [tc_size]; omega), Array.getElem?_eq_none (by rw [tc_size]; omega)]

end Go.Proofs.Ytgdijjfipicodaa

namespace Go.Proofs.Ytgdijjfipicodaa
open Go.RowKit

section
variable {P : Program}

theorem wpList_allocT {ops : Array Oper} {rest : List Oper} {o : Oper} {a : Act} {w : World} {Q : Exit → Act → World → Prop} (hg : o.guard = none) (t : TypeId) (ho : o.op = .alloc t) (z : Array Value) (n : Nat)
    (hz : (P.info? t).map (fun i => (i.zero, i.size)) = some (some (.agg z), n))
    (h : wpList P ops Q rest (a.put o.dst (.pointer (some ⟨w.heap.size, 0, none⟩))) (w.alloc (.cells z t))) : wpList P ops Q (o :: rest) a w := by
  refine wpList_plain hg fun K hK => ?_
  unfold Oper.wp execOp
  simp only [ho, Instr.alloc, Sem.run_bind, (zero_of_info hz).1, Result.andThen_ok, newVar, newRow, run_newObj_alloc, Sem.run_pure, Value.cells]
  exact hK _ _ h

theorem wpList_boxT {ops : Array Oper} {rest : List Oper} {o : Oper} {a : Act} {w : World} {Q : Exit → Act → World → Prop} (hg : o.guard = none) (t : TypeId) (x : Operand) (ho : o.op = .box t x)
    (cells : Array Value) (hx : a.eval x = .agg cells)
    (h : wpList P ops Q rest (a.put o.dst (.pointer (some ⟨w.heap.size, 0, none⟩))) (w.alloc (.cells cells t))) : wpList P ops Q (o :: rest) a w := by
  refine wpList_plain hg fun K hK => ?_
  unfold Oper.wp execOp
  simp only [ho, hx, Sem.run_bind, Instr.box, newVar, newRow, run_newObj_alloc, Sem.run_pure, Result.andThen_ok, Value.cells]
  exact hK _ _ h

theorem wpList_buildT1 {ops : Array Oper} {rest : List Oper} {o : Oper} {a : Act} {w : World} {Q : Exit → Act → World → Prop} (hg : o.guard = none) (t : TypeId) (i : Nat) (x : Operand) (ho : o.op = .build t #[(i, x)])
    (v : Value) (hv : a.eval x = v) (cells : Array Value) (hb : P.built t [(i, v)] = some cells)
    (h : wpList P ops Q rest (a.put o.dst (.agg cells)) w) : wpList P ops Q (o :: rest) a w := by
  subst hv
  have e : ((#[(i, x)] : Array (Nat × Operand)).map fun (i, x) => (i, a.eval x)).toList = [(i, a.eval x)] := by simp
  refine wpList_build hg t _ ho (by rw [e, hb]; rfl) ?_
  rw [e, hb]
  exact h

theorem wpList_buildT0 {ops : Array Oper} {rest : List Oper} {o : Oper} {a : Act} {w : World} {Q : Exit → Act → World → Prop} (hg : o.guard = none) (t : TypeId) (ho : o.op = .build t #[])
    (cells : Array Value) (hb : P.built t [] = some cells)
    (h : wpList P ops Q rest (a.put o.dst (.agg cells)) w) : wpList P ops Q (o :: rest) a w := by
  have e : ((#[] : Array (Nat × Operand)).map fun (i, x) => (i, a.eval x)).toList = [] := by simp
  refine wpList_build hg t _ ho (by rw [e, hb]; rfl) ?_
  rw [e, hb]
  exact h

/-- a store into the variable that was made last -/
theorem wpList_storeT {ops : Array Oper} {rest : List Oper} {o : Oper} {a : Act} {w : World} {Q : Exit → Act → World → Prop} (hgd : o.guard = none) (ty : TypeId) (x y : Operand) (ho : o.op = .store ty x y)
    (cells old : Array Value) (g : Nat) (hgs : w.heap.size = g) (hx : a.eval x = .pointer (some ⟨g, 0, none⟩)) (hy : a.eval y = .agg cells)
    (hi : (P.info? ty).map (·.size) = some cells.size) (hold : old.size = cells.size) (h1 : cells.all (·.oneCell') = true)
    (h : wpList P ops Q rest (a.put o.dst undef) (w.alloc (.cells cells ty))) : wpList P ops Q (o :: rest) a (w.alloc (.cells old ty)) := by
  subst hgs
  refine wpList_store_row hgd ty x y ho w.heap.size cells hx hy ty old (heap_alloc_new w _) hi hold h1 ?_
  rw [World.setRow_alloc_new]
  exact h

/-- .. into the variable at block g -/
theorem wpList_storeG {ops : Array Oper} {rest : List Oper} {o : Oper} {a : Act} {w : World} {Q : Exit → Act → World → Prop} (hgd : o.guard = none) (ty : TypeId) (x y : Operand) (ho : o.op = .store ty x y)
    (g : Nat) (cells old : Array Value) (hx : a.eval x = .pointer (some ⟨g, 0, none⟩)) (hy : a.eval y = .agg cells)
    (hg : w.heap[g]? = some (.cells old ty (0, 0)))
    (hi : (P.info? ty).map (·.size) = some cells.size) (hold : old.size = cells.size) (h1 : cells.all (·.oneCell') = true)
    (h : wpList P ops Q rest (a.put o.dst undef) (w.setRow g cells)) : wpList P ops Q (o :: rest) a w :=
  wpList_store_row hgd ty x y ho g cells hx hy ty old hg hi hold h1 h

theorem wpList_loadG {ops : Array Oper} {rest : List Oper} {o : Oper} {a : Act} {w : World} {Q : Exit → Act → World → Prop} (hgd : o.guard = none) (ty : TypeId) (x : Operand) (ho : o.op = .load ty x)
    (g : Nat) (hx : a.eval x = .pointer (some ⟨g, 0, none⟩)) (cs : Array Value) (d : TypeDesc) (hg : w.heap[g]? = some (.cells cs ty (0, 0)))
    (hu : P.underlying ty = some d) (hd : (match d with | .struct _ | .array _ _ => true | _ => false) = true) (hi : (P.info? ty).map (·.size) = some cs.size)
    (h : wpList P ops Q rest (a.put o.dst (.agg cs)) w) : wpList P ops Q (o :: rest) a w :=
  wpList_load_row hgd ty x ho g hx ty cs (0, 0) d hg hu hd hi h

/-- results: a variable and a temporary; two variables and a temporary -/
theorem results_cell_one {fn : Func} {p : Tmp} {ty : TypeId} (h : fn.results = #[.cell p ty]) (tmps : Array Value) (w : World) (g : Nat) (cs : Array Value)
    (hp : tmps.getD p undef = .pointer (some ⟨g, 0, none⟩)) (hl : (loadVar ty ⟨g, 0, none⟩).run P w = .ok (.agg cs) w) :
    (results fn tmps).run P w = .ok (.agg cs) w := by
  have hp' : tmps[p]?.getD undef = .pointer (some ⟨g, 0, none⟩) := by simpa using hp
  simp [results, h, hp', asAddr, hl]
theorem results_cell_two {fn : Func} {p q : Tmp} {ty : TypeId} (h : fn.results = #[.cell p ty, .tmp q]) (tmps : Array Value) (w : World) (g : Nat) (cs : Array Value)
    (hp : tmps.getD p undef = .pointer (some ⟨g, 0, none⟩)) (hl : (loadVar ty ⟨g, 0, none⟩).run P w = .ok (.agg cs) w) :
    (results fn tmps).run P w = .ok (.tuple #[.agg cs, tmps.getD q undef]) w := by
  have hp' : tmps[p]?.getD undef = .pointer (some ⟨g, 0, none⟩) := by simpa using hp
  simp [results, h, hp', asAddr, hl]
theorem results_cell_three {fn : Func} {p p2 q : Tmp} {ty : TypeId} (h : fn.results = #[.cell p ty, .cell p2 ty, .tmp q]) (tmps : Array Value) (w : World) (g g2 : Nat) (cs cs2 : Array Value)
    (hp : tmps.getD p undef = .pointer (some ⟨g, 0, none⟩)) (hl : (loadVar ty ⟨g, 0, none⟩).run P w = .ok (.agg cs) w)
    (hp2 : tmps.getD p2 undef = .pointer (some ⟨g2, 0, none⟩)) (hl2 : (loadVar ty ⟨g2, 0, none⟩).run P w = .ok (.agg cs2) w) :
    (results fn tmps).run P w = .ok (.tuple #[.agg cs, .agg cs2, tmps.getD q undef]) w := by
  have hp' : tmps[p]?.getD undef = .pointer (some ⟨g, 0, none⟩) := by simpa using hp
  have hp2' : tmps[p2]?.getD undef = .pointer (some ⟨g2, 0, none⟩) := by simpa using hp2
  simp [results, h, hp', hp2', asAddr, hl, hl2]
end

def z0 : Nat → Nat → Int := fun _ _ => 0
theorem tc_one (n : Int) (f : Nat → Nat → Int) : (tc n f).all (·.oneCell') = true := by
  rw [Array.all_eq_true_iff_forall_mem]
  intro v hv
  simp only [tc, tl, List.mem_toArray, List.mem_cons, List.mem_map] at hv
  rcases hv with rfl | ⟨k, _, rfl⟩ <;> rfl
theorem tc_same (n k : Int) (f g : Nat → Nat → Int) : (tc n f).size = (tc k g).size := by rw [tc_size, tc_size]

theorem two_below (w : World) (o o2 : Obj) : Below w.heap.size w ((w.alloc o).alloc o2) := ((Below.refl _ w).alloc (Nat.le_refl _) o).alloc (by simp) o2
theorem below_setRowT {B g : Nat} {w0 w : World} (hb : Below B w0 w) (hBg : B ≤ g) (cs : Array Value) : Below B w0 (w.setRow g cs) :=
  hb.trans ⟨rfl, rfl, rfl, by simp [World.setRow], fun k hk => Go.setRow_other w g k cs (by omega)⟩
end Go.Proofs.Ytgdijjfipicodaa

namespace Go.Proofs.Ytgdijjfipicodaa
open Go.RowKit

/-- a ratio as a struct of two numbers; a variable with one -/
def rtA (a : Nat × Nat) : Array Value := #[.int .i64 (a.1 : Int), .int .i64 (a.2 : Int)]
def RtAt (w : World) (g : Nat) (a : Nat × Nat) : Prop := w.heap[g]? = some (.cells (rtA a) 52 (0, 0))
theorem RtAt.c0 {w : World} {g : Nat} {a : Nat × Nat} (h : RtAt w g a) : w.cell? ⟨g, 0, none⟩ = some (.int .i64 (a.1 : Int)) := by rw [cell_of_row w g 0 _ _ _ h]; rfl
theorem RtAt.c1 {w : World} {g : Nat} {a : Nat × Nat} (h : RtAt w g a) : w.cell? ⟨g, 1, none⟩ = some (.int .i64 (a.2 : Int)) := by rw [cell_of_row w g 1 _ _ _ h]; rfl
theorem RtAt.lt {w : World} {g : Nat} {a : Nat × Nat} (h : RtAt w g a) : g < w.heap.size := lt_of_block h
theorem RtAt.below {w w' : World} {g : Nat} {a : Nat × Nat} (h : RtAt w g a) (hb : Below w.heap.size w w') : RtAt w' g a := by
  unfold RtAt
  rw [hb.block g h.lt]
  exact h
theorem RtAt.alloc {w : World} {g : Nat} {a : Nat × Nat} (h : RtAt w g a) (o : Obj) : RtAt (w.alloc o) g a := by
  unfold RtAt
  rw [heap_alloc_old w o h.lt]
  exact h
theorem RtAt.new (w : World) (a : Nat × Nat) : RtAt (w.alloc (.cells (rtA a) 52)) w.heap.size a := heap_alloc_new w _
theorem RtAt.setRow {w : World} {g : Nat} {a : Nat × Nat} (h : RtAt w g a) (b : Nat × Nat) : RtAt (w.setRow g (rtA b)) g b := setRow_heap w g _ _ _ _ h
theorem RtAt.setRow_other {w : World} {g g' : Nat} {a : Nat × Nat} (h : RtAt w g a) (hg : g ≠ g') (cs : Array Value) : RtAt (w.setRow g' cs) g a := by
  unfold RtAt
  rw [Go.setRow_other w g' g cs hg]
  exact h
theorem RtAt.only {S : Nat → Prop} {w w' : World} {g : Nat} {a : Nat × Nat} (h : RtAt w g a) (ho : OnlyW S w w') (hS : ¬S g) : RtAt w' g a := by
  unfold RtAt
  rw [ho.block g hS]
  exact h
theorem RtAt.put {w : World} {g : Nat} {a : Nat × Nat} (h : RtAt w g a) (x y : Nat) : RtAt ((w.setCell ⟨g, 0, none⟩ (.int .i64 (x : Int))).setCell ⟨g, 1, none⟩ (.int .i64 (y : Int))) g (x, y) := by
  have h1 := heap_setCell_same w g 0 _ _ (.int .i64 (x : Int)) h
  unfold RtAt
  rw [heap_setCell_same _ g 1 _ _ (.int .i64 (y : Int)) h1]
  rfl
theorem RtAt.putOther {w : World} {g g' : Nat} {a : Nat × Nat} (h : RtAt w g a) (hg : g ≠ g') (u v : Value) : RtAt ((w.setCell ⟨g', 0, none⟩ u).setCell ⟨g', 1, none⟩ v) g a := by
  unfold RtAt
  rw [heap_setCell_other _ ⟨g', 1, none⟩ g v hg, heap_setCell_other _ ⟨g', 0, none⟩ g u hg]
  exact h
theorem Try.info_rt : (Try.prog.info? 52).map (fun i => (i.zero, i.size)) = some (some (.agg (rtA (0, 0))), 2) := by kernel_rfl
theorem Try.size_rt (a : Nat × Nat) : (Try.prog.info? 52).map (·.size) = some (rtA a).size := (zero_of_info Try.info_rt).2
theorem rt_one (a : Nat × Nat) : (rtA a).all (·.oneCell') = true := by simp [rtA, Value.oneCell']
theorem rt_same (a b : Nat × Nat) : (rtA a).size = (rtA b).size := rfl
theorem Try.load_rt {w : World} {g : Nat} {a : Nat × Nat} (h : RtAt w g a) : (loadVar 52 ⟨g, 0, none⟩).run Try.prog w = .ok (.agg (rtA a)) w := run_loadVar_row _ _ _ _ _ _ _ h Try.underlying52 rfl (Try.size_rt a)
theorem Try.built_rt (x y : Int) : Try.prog.built 52 [(0, .int .i64 x), (1, .int .i64 y)] = some #[.int .i64 x, .int .i64 y] := by kernel_rfl
theorem Try.built_rt0 : Try.prog.built 52 [] = some (rtA (0, 0)) := by kernel_rfl
theorem rtwo_bot (w : World) (o : Obj) (a : Nat × Nat) : RtAt ((w.alloc (.cells (rtA a) 52)).alloc o) w.heap.size a := heap_alloc2_old w _ _
theorem rtwo_top (w : World) (o : Obj) (a : Nat × Nat) : RtAt ((w.alloc o).alloc (.cells (rtA a) 52)) (w.heap.size + 1) a := heap_alloc2_new w _ _

theorem wpList_buildRn {P : Program} {ops : Array Oper} {rest : List Oper} {o : Oper} {a : Act} {w : World} {Q : Exit → Act → World → Prop} (hg : o.guard = none) (t : TypeId) (xs : Array (Nat × Operand)) (ho : o.op = .build t xs)
    (vs : List (Nat × Value)) (hv : (xs.map fun (i, x) => (i, a.eval x)).toList = vs) (cells : Array Value) (hb : P.built t vs = some cells)
    (h : wpList P ops Q rest (a.put o.dst (.agg cells)) w) : wpList P ops Q (o :: rest) a w := by
  refine wpList_build hg t _ ho (by rw [hv, hb]; rfl) ?_
  rw [hv, hb]
  exact h

set_option maxRecDepth 100000 in
set_option maxHeartbeats 1600000 in
theorem commonDivisor_any (a b : Nat) (w : World) (ha : a ≤ 4000000000000000000) (hb : b ≤ 4000000000000000000) :
    Calls Try.prog 82 #[.int .i64 (a : Int), .int .i64 (b : Int)] w fun e w' => e = .returned (.int .i64 (Nat.gcd a b : Nat)) ∧ Q w w' := by
  go_enter Try.func82, Try.ntmps82
  go_wp2
  go_loopw [0, 1] (fun u v wr => ∃ x y : Nat, u = .int .i64 x ∧ v = .int .i64 y ∧ x ≤ 4000000000000000000 ∧ y ≤ 4000000000000000000 ∧ Nat.gcd x y = Nat.gcd a b ∧ Q w wr) (fun _ v _ => (intOf v).toNat)
  case atStart => exact ⟨a, b, rfl, rfl, ha, hb, rfl, Q.refl _⟩
  case round =>
    obtain ⟨x, y, rfl, rfl, hx, hy, hg, hq⟩ := hrel
    have Hq := Lib.hid hq
    have Hg := Lib.hid hg
    clear hq hg
    by_cases h0 : y = 0
    · subst h0
      have Hg2 := Lib.hid (show x = Nat.gcd a b by rw [← Hg.out, Nat.gcd_zero_right])
      go_wp2
      go_ret
      exact ⟨by rw [← Hg2.out]; rfl, Hq.out⟩
    · have hlt := Nat.mod_lt x (show y > 0 by omega)
      have hyy : ((y : Int) != 0) = true := by simp [h0]
      have hy0 : ((y : Int) == 0) = false := by simp [h0]
      have hm : (x : Int) % (y : Int) = ((x % y : Nat) : Int) := by rw [Int.natCast_emod]
      have Hg2 := Lib.hid (show Nat.gcd y (x % y) = Nat.gcd a b by rw [Nat.gcd_comm y, ← Nat.gcd_rec, Nat.gcd_comm]; exact Hg.out)
      obtain ⟨r, hr⟩ : ∃ r, r = x % y := ⟨_, rfl⟩
      rw [← hr] at hm hlt Hg2
      have hry : r ≤ 4000000000000000000 := by omega
      clear hr h0
      go_wp2
      go_quiet (fail)
      go_wp2
      go_roundw
      case rel => exact ⟨y, r, rfl, by rw [hm], hy, hry, Hg2.out, Hq.out.drewN _⟩
      case measure => simp [intOf]; omega

set_option maxRecDepth 100000 in
set_option maxHeartbeats 1600000 in
theorem ratioOf_any (p q : Nat) (w : World) (hq0 : 0 < q) (hp : p ≤ 4000000000000000000) (hq : q ≤ 4000000000000000000) :
    Calls Try.prog 47 #[.int .i64 (p : Int), .int .i64 (q : Int)] w fun e w' => e = .returned (.agg (rtA (nrm p q))) ∧ Below w.heap.size w w' := by
  have hg0 := (nrm_parts (p := p) hq0).1
  have hgl : Nat.gcd p q ≤ q := Nat.gcd_le_right _ hq0
  have C := Lib.hid (fun w => commonDivisor_any p q w hp hq)
  have H1 := Lib.hid (show (p : Int) / (Nat.gcd p q : Nat) = ((nrm p q).1 : Int) from by unfold nrm; rw [Int.natCast_ediv])
  have H2 := Lib.hid (show (q : Int) / (Nat.gcd p q : Nat) = ((nrm p q).2 : Int) from by unfold nrm; rw [Int.natCast_ediv])
  have hl := nrm_le p q
  obtain ⟨g, hg⟩ : ∃ g, g = Nat.gcd p q := ⟨_, rfl⟩
  rw [← hg] at hg0 hgl C H1 H2
  obtain ⟨r, hr⟩ : ∃ r, r = nrm p q := ⟨_, rfl⟩
  rw [← hr] at H1 H2 hl ⊢
  obtain ⟨r1, r2⟩ := r
  simp only at H1 H2 hl
  clear hg hr
  have hgz : ¬ g = 0 := by omega
  have hw1 : IntKind.i64.wrap (r1 : Int) = (r1 : Int) := w64 (by omega)
  have hw2 : IntKind.i64.wrap (r2 : Int) = (r2 : Int) := w64 (by omega)
  go_enter Try.func47, Try.ntmps47
  go_upto_region 1 with (refine wpList_allocT rfl 52 rfl _ _ Try.info_rt ?_)
  generalize hW : World.alloc w _ = w1
  have HR1 := Lib.hid (show RtAt w1 w.heap.size (0, 0) by rw [← hW]; exact RtAt.new w (0, 0))
  have HB1 := Lib.hid (show Below w.heap.size w w1 by rw [← hW]; exact (Below.refl _ w).alloc (Nat.le_refl _) _)
  clear hW
  go_wp2_with fail
  refine (C.out _).mono ?_
  rintro e w2 ⟨rfl, hq2⟩
  have HR := Lib.hid (HR1.out.below (hq2.below _))
  have HB := Lib.hid (HB1.out.trans (hq2.below w.heap.size))
  have h1 := H1.out
  have h2 := H2.out
  clear hq2 C HR1 HB1
  go_wp2
  refine wp_region_still_tail 6 (by kernel_rfl) (by kernel_rfl) ?_
  simp only [List.take_succ_cons, List.take_zero, List.drop_succ_cons, List.drop_zero]
  repeat still_step
  refine wpStill_nil ?_
  change wpList _ _ _ _ _ w2.drew
  have HR3 := Lib.hid (show RtAt w2.drew w.heap.size (0, 0) from HR.out)
  go_wp2_with (first | (refine wpList_buildRn rfl 52 _ rfl [(0, .int .i64 (r1 : Int)), (1, .int .i64 (r2 : Int))] rfl (rtA (r1, r2)) (Try.built_rt _ _) ?_) | (refine wpList_storeG rfl 52 _ _ rfl _ (rtA (r1, r2)) _ rfl rfl HR3.out (Try.size_rt _) (rt_same _ _) (rt_one _) ?_))
  have HR2 := Lib.hid (HR3.out.setRow (r1, r2))
  have HB2 := Lib.hid (below_setRowT (below_drewN HB.out 1) (Nat.le_refl _) (rtA (r1, r2)))
  refine bodyPost_ret (v := .agg (rtA (r1, r2))) ?_ rfl ⟨rfl, HB2.out⟩
  exact results_cell_one rfl _ _ w.heap.size _ rfl (Try.load_rt HR2.out)
end Go.Proofs.Ytgdijjfipicodaa

namespace Go.Proofs.Ytgdijjfipicodaa
open Go.RowKit

theorem rt3_0 (w : World) (a b c : Nat × Nat) : RtAt (((w.alloc (.cells (rtA a) 52)).alloc (.cells (rtA b) 52)).alloc (.cells (rtA c) 52)) w.heap.size a := (rtwo_bot w _ _).alloc _
theorem rt3_1 (w : World) (a b c : Nat × Nat) : RtAt (((w.alloc (.cells (rtA a) 52)).alloc (.cells (rtA b) 52)).alloc (.cells (rtA c) 52)) (w.heap.size + 1) b := (rtwo_top w _ _).alloc _
theorem rt3_2 (w : World) (a b c : Nat × Nat) : RtAt (((w.alloc (.cells (rtA a) 52)).alloc (.cells (rtA b) 52)).alloc (.cells (rtA c) 52)) (w.heap.size + 2) c := by
  have := RtAt.new ((w.alloc (.cells (rtA a) 52)).alloc (.cells (rtA b) 52)) c
  simpa using this
theorem rt3_below (w : World) (o1 o2 o3 : Obj) : Below w.heap.size w (((w.alloc o1).alloc o2).alloc o3) := (((Below.refl _ w).alloc (Nat.le_refl _) o1).alloc (by simp) o2).alloc (by simp; omega) o3
theorem wrapN {n : Nat} (h : n ≤ 4000000000000000000) : IntKind.i64.wrap (n : Int) = (n : Int) := w64 (by omega)

set_option maxRecDepth 100000 in
set_option maxHeartbeats 1600000 in
theorem whole_any (x : Nat) (w : World) : Calls Try.prog 46 #[.int .i64 (x : Int)] w fun e w' => e = .returned (.agg (rtA (x, 1))) ∧ Below w.heap.size w w' := by
  go_enter Try.func46, Try.ntmps46
  go_upto_region 1 with (refine wpList_allocT rfl 52 rfl _ _ Try.info_rt ?_)
  generalize hW : World.alloc w _ = w1
  have HR := Lib.hid (show RtAt w1 w.heap.size (0, 0) by rw [← hW]; exact RtAt.new w (0, 0))
  have HB := Lib.hid (show Below w.heap.size w w1 by rw [← hW]; exact (Below.refl _ w).alloc (Nat.le_refl _) _)
  clear hW
  go_wp2_with (refine wpList_storeG rfl 52 _ _ rfl _ (rtA (x, 1)) _ rfl rfl HR.out (Try.size_rt _) (rt_same _ _) (rt_one _) ?_)
  have HR2 := Lib.hid (HR.out.setRow (x, 1))
  have HB2 := Lib.hid (below_setRowT HB.out (Nat.le_refl _) (rtA (x, 1)))
  refine bodyPost_ret (v := .agg (rtA (x, 1))) ?_ rfl ⟨rfl, HB2.out⟩
  exact results_cell_one rfl _ _ w.heap.size _ rfl (Try.load_rt HR2.out)

set_option maxRecDepth 100000 in
set_option maxHeartbeats 1600000 in
theorem times_any (a b : Nat × Nat) (w : World) (hq0 : 0 < a.2 * b.2) (hp : a.1 * b.1 ≤ 4000000000000000000) (hq : a.2 * b.2 ≤ 4000000000000000000) :
    Calls Try.prog 83 #[.agg (rtA a), .agg (rtA b)] w fun e w' => e = .returned (.agg (rtA (tm a b))) ∧ Below w.heap.size w w' := by
  have C := Lib.hid (fun w => ratioOf_any (a.1 * b.1) (a.2 * b.2) w hq0 hp hq)
  have HV := Lib.hid (show tm a b = nrm (a.1 * b.1) (a.2 * b.2) from rfl)
  obtain ⟨a1, a2⟩ := a
  obtain ⟨b1, b2⟩ := b
  simp only at hq0 hp hq
  obtain ⟨Y, hY⟩ : ∃ Y, Y = a2 * b2 := ⟨_, rfl⟩
  obtain ⟨X, hX⟩ : ∃ X, X = a1 * b1 := ⟨_, rfl⟩
  have e1 : (a1 : Int) * (b1 : Int) = (X : Int) := by rw [hX, Int.natCast_mul]
  have e2 : (a2 : Int) * (b2 : Int) = (Y : Int) := by rw [hY, Int.natCast_mul]
  simp only at HV C
  rw [← hX, ← hY] at HV C
  rw [← hX] at hp
  rw [← hY] at hq hq0
  have w1 := wrapN hp
  have w2 := wrapN hq
  clear hX hY
  go_enter Try.func83, Try.ntmps83
  go_upto_region 1 with (first | (refine wpList_boxT rfl 52 _ rfl _ rfl ?_) | (refine wpList_allocT rfl 52 rfl _ _ Try.info_rt ?_))
  generalize hW : World.alloc (World.alloc (World.alloc w _) _) _ = w1
  have h1 : RtAt w1 w.heap.size (a1, a2) := by rw [← hW]; exact rt3_0 w _ _ _
  have h2 : RtAt w1 (w.heap.size + 1) (b1, b2) := by rw [← hW]; exact rt3_1 w _ _ _
  have h3 : RtAt w1 (w.heap.size + 2) (0, 0) := by rw [← hW]; exact rt3_2 w _ _ _
  have hB : Below w.heap.size w w1 := by rw [← hW]; exact rt3_below w _ _ _
  clear hW
  have p1 : w1.cell? ⟨w.heap.size, 0, none⟩ = some (.int .i64 (a1 : Int)) := h1.c0
  have p2 : w1.cell? ⟨w.heap.size, 1, none⟩ = some (.int .i64 (a2 : Int)) := h1.c1
  have p3 : w1.cell? ⟨w.heap.size + 1, 0, none⟩ = some (.int .i64 (b1 : Int)) := h2.c0
  have p4 : w1.cell? ⟨w.heap.size + 1, 1, none⟩ = some (.int .i64 (b2 : Int)) := h2.c1
  have H3 := Lib.hid h3
  have HB := Lib.hid hB
  clear h1 h2 h3 hB
  go_wp2_with fail
  refine (C.out _).mono ?_
  rintro e w2 ⟨rfl, hb⟩
  have HR := Lib.hid (H3.out.below hb)
  have HB2 := Lib.hid (HB.out.trans (hb.mono HB.out.size))
  clear hb p1 p2 p3 p4 H3 HB
  go_wp2_with (refine wpList_storeG rfl 52 _ _ rfl _ (rtA (nrm X Y)) _ rfl rfl HR.out (Try.size_rt _) (rt_same _ _) (rt_one _) ?_)
  have HR2 := Lib.hid (HR.out.setRow (nrm X Y))
  have HB3 := Lib.hid (below_setRowT HB2.out (show w.heap.size ≤ w.heap.size + 2 by omega) (rtA (nrm X Y)))
  refine bodyPost_ret (v := .agg (rtA (nrm X Y))) ?_ rfl ⟨by rw [HV.out], HB3.out⟩
  exact results_cell_one rfl _ _ (w.heap.size + 2) _ rfl (Try.load_rt HR2.out)

set_option maxRecDepth 100000 in
set_option maxHeartbeats 1600000 in
theorem over_any (a b : Nat × Nat) (w : World) (hq0 : 0 < a.2 * b.1) (hp : a.1 * b.2 ≤ 4000000000000000000) (hq : a.2 * b.1 ≤ 4000000000000000000) :
    Calls Try.prog 122 #[.agg (rtA a), .agg (rtA b)] w fun e w' => e = .returned (.agg (rtA (ov a b))) ∧ Below w.heap.size w w' := by
  have C := Lib.hid (fun w => ratioOf_any (a.1 * b.2) (a.2 * b.1) w hq0 hp hq)
  have HV := Lib.hid (show ov a b = nrm (a.1 * b.2) (a.2 * b.1) from rfl)
  obtain ⟨a1, a2⟩ := a
  obtain ⟨b1, b2⟩ := b
  simp only at hq0 hp hq
  obtain ⟨Y, hY⟩ : ∃ Y, Y = a2 * b1 := ⟨_, rfl⟩
  obtain ⟨X, hX⟩ : ∃ X, X = a1 * b2 := ⟨_, rfl⟩
  have e1 : (a1 : Int) * (b2 : Int) = (X : Int) := by rw [hX, Int.natCast_mul]
  have e2 : (a2 : Int) * (b1 : Int) = (Y : Int) := by rw [hY, Int.natCast_mul]
  simp only at HV C
  rw [← hX, ← hY] at HV C
  rw [← hX] at hp
  rw [← hY] at hq hq0
  have w1 := wrapN hp
  have w2 := wrapN hq
  clear hX hY
  go_enter Try.func122, Try.ntmps122
  go_upto_region 1 with (first | (refine wpList_boxT rfl 52 _ rfl _ rfl ?_) | (refine wpList_allocT rfl 52 rfl _ _ Try.info_rt ?_))
  generalize hW : World.alloc (World.alloc (World.alloc w _) _) _ = w1
  have h1 : RtAt w1 w.heap.size (a1, a2) := by rw [← hW]; exact rt3_0 w _ _ _
  have h2 : RtAt w1 (w.heap.size + 1) (b1, b2) := by rw [← hW]; exact rt3_1 w _ _ _
  have h3 : RtAt w1 (w.heap.size + 2) (0, 0) := by rw [← hW]; exact rt3_2 w _ _ _
  have hB : Below w.heap.size w w1 := by rw [← hW]; exact rt3_below w _ _ _
  clear hW
  have p1 : w1.cell? ⟨w.heap.size, 0, none⟩ = some (.int .i64 (a1 : Int)) := h1.c0
  have p2 : w1.cell? ⟨w.heap.size, 1, none⟩ = some (.int .i64 (a2 : Int)) := h1.c1
  have p3 : w1.cell? ⟨w.heap.size + 1, 0, none⟩ = some (.int .i64 (b1 : Int)) := h2.c0
  have p4 : w1.cell? ⟨w.heap.size + 1, 1, none⟩ = some (.int .i64 (b2 : Int)) := h2.c1
  have H3 := Lib.hid h3
  have HB := Lib.hid hB
  clear h1 h2 h3 hB
  go_wp2_with fail
  refine (C.out _).mono ?_
  rintro e w2 ⟨rfl, hb⟩
  have HR := Lib.hid (H3.out.below hb)
  have HB2 := Lib.hid (HB.out.trans (hb.mono HB.out.size))
  clear hb p1 p2 p3 p4 H3 HB
  go_wp2_with (refine wpList_storeG rfl 52 _ _ rfl _ (rtA (nrm X Y)) _ rfl rfl HR.out (Try.size_rt _) (rt_same _ _) (rt_one _) ?_)
  have HR2 := Lib.hid (HR.out.setRow (nrm X Y))
  have HB3 := Lib.hid (below_setRowT HB2.out (show w.heap.size ≤ w.heap.size + 2 by omega) (rtA (nrm X Y)))
  refine bodyPost_ret (v := .agg (rtA (nrm X Y))) ?_ rfl ⟨by rw [HV.out], HB3.out⟩
  exact results_cell_one rfl _ _ (w.heap.size + 2) _ rfl (Try.load_rt HR2.out)

set_option maxRecDepth 100000 in
set_option maxHeartbeats 1600000 in
theorem plus_any (a b : Nat × Nat) (w : World) (hq0 : 0 < a.2 * b.2) (hp : a.1 * b.2 + b.1 * a.2 ≤ 4000000000000000000) (hq : a.2 * b.2 ≤ 4000000000000000000) :
    Calls Try.prog 121 #[.agg (rtA a), .agg (rtA b)] w fun e w' => e = .returned (.agg (rtA (pl a b))) ∧ Below w.heap.size w w' := by
  have C := Lib.hid (fun w => ratioOf_any (a.1 * b.2 + b.1 * a.2) (a.2 * b.2) w hq0 hp hq)
  have HV := Lib.hid (show pl a b = nrm (a.1 * b.2 + b.1 * a.2) (a.2 * b.2) from rfl)
  obtain ⟨a1, a2⟩ := a
  obtain ⟨b1, b2⟩ := b
  simp only at hq0 hp hq
  obtain ⟨Y, hY⟩ : ∃ Y, Y = a2 * b2 := ⟨_, rfl⟩
  obtain ⟨X, hX⟩ : ∃ X, X = a1 * b2 + b1 * a2 := ⟨_, rfl⟩
  obtain ⟨U, hU⟩ : ∃ U, U = a1 * b2 := ⟨_, rfl⟩
  obtain ⟨V, hV⟩ : ∃ V, V = b1 * a2 := ⟨_, rfl⟩
  have e1 : (a1 : Int) * (b2 : Int) = (U : Int) := by rw [hU, Int.natCast_mul]
  have e3 : (b1 : Int) * (a2 : Int) = (V : Int) := by rw [hV, Int.natCast_mul]
  have e2 : (a2 : Int) * (b2 : Int) = (Y : Int) := by rw [hY, Int.natCast_mul]
  simp only at HV C
  rw [← hX, ← hY] at HV C
  rw [← hU, ← hV] at hX
  have e4 : (U : Int) + (V : Int) = (X : Int) := by rw [hX]; omega
  rw [← hU, ← hV, ← hX] at hp
  rw [← hY] at hq hq0
  have w1 := wrapN hp
  have w2 := wrapN hq
  have w3 := wrapN (show U ≤ 4000000000000000000 by omega)
  have w4 := wrapN (show V ≤ 4000000000000000000 by omega)
  clear hX hY hU hV
  go_enter Try.func121, Try.ntmps121
  go_upto_region 1 with (first | (refine wpList_boxT rfl 52 _ rfl _ rfl ?_) | (refine wpList_allocT rfl 52 rfl _ _ Try.info_rt ?_))
  generalize hW : World.alloc (World.alloc (World.alloc w _) _) _ = w1
  have h1 : RtAt w1 w.heap.size (a1, a2) := by rw [← hW]; exact rt3_0 w _ _ _
  have h2 : RtAt w1 (w.heap.size + 1) (b1, b2) := by rw [← hW]; exact rt3_1 w _ _ _
  have h3 : RtAt w1 (w.heap.size + 2) (0, 0) := by rw [← hW]; exact rt3_2 w _ _ _
  have hB : Below w.heap.size w w1 := by rw [← hW]; exact rt3_below w _ _ _
  clear hW
  have p1 : w1.cell? ⟨w.heap.size, 0, none⟩ = some (.int .i64 (a1 : Int)) := h1.c0
  have p2 : w1.cell? ⟨w.heap.size, 1, none⟩ = some (.int .i64 (a2 : Int)) := h1.c1
  have p3 : w1.cell? ⟨w.heap.size + 1, 0, none⟩ = some (.int .i64 (b1 : Int)) := h2.c0
  have p4 : w1.cell? ⟨w.heap.size + 1, 1, none⟩ = some (.int .i64 (b2 : Int)) := h2.c1
  have H3 := Lib.hid h3
  have HB := Lib.hid hB
  clear h1 h2 h3 hB
  go_wp2_with fail
  refine (C.out _).mono ?_
  rintro e w2 ⟨rfl, hb⟩
  have HR := Lib.hid (H3.out.below hb)
  have HB2 := Lib.hid (HB.out.trans (hb.mono HB.out.size))
  clear hb p1 p2 p3 p4 H3 HB
  go_wp2_with (refine wpList_storeG rfl 52 _ _ rfl _ (rtA (nrm X Y)) _ rfl rfl HR.out (Try.size_rt _) (rt_same _ _) (rt_one _) ?_)
  have HR2 := Lib.hid (HR.out.setRow (nrm X Y))
  have HB3 := Lib.hid (below_setRowT HB2.out (show w.heap.size ≤ w.heap.size + 2 by omega) (rtA (nrm X Y)))
  refine bodyPost_ret (v := .agg (rtA (nrm X Y))) ?_ rfl ⟨by rw [HV.out], HB3.out⟩
  exact results_cell_one rfl _ _ (w.heap.size + 2) _ rfl (Try.load_rt HR2.out)

end Go.Proofs.Ytgdijjfipicodaa

namespace Go.Proofs.Ytgdijjfipicodaa
open Go.RowKit

/-- the sum of the products of the first k numbers -/
def dotK (row v : List Int) : Nat → Int
  | 0 => 0
  | k + 1 => dotK row v k + gi row k * gi v k
/-- the image of a vector: its first k numbers, all -/
def appK (m : List (List Int)) (v : List Int) (k : Nat) : List Int := (List.range k).map fun a => dotK (gr m a) v v.length
theorem appK_len (m : List (List Int)) (v : List Int) (k : Nat) : (appK m v k).length = k := by simp [appK]
theorem appK_succ (m : List (List Int)) (v : List Int) (k : Nat) : appK m v (k + 1) = appK m v k ++ [dotK (gr m k) v v.length] := by simp [appK, List.range_succ]
theorem appK_at {m : List (List Int)} {v : List Int} {k a : Nat} (h : a < k) : gi (appK m v k) a = dotK (gr m a) v v.length := gi_row h
/-- a square table of small numbers -/
def tabOk (m : List (List Int)) : Prop := (1 ≤ m.length ∧ m.length ≤ 14) ∧ ∀ i, i < m.length → (gr m i).length = m.length ∧ allIn (gr m i) 0 100
def vecOk (m : List (List Int)) (v : List Int) : Prop := v.length = m.length ∧ allIn v 0 1000000
def applyOk (m : List (List Int)) (v : List Int) : Prop := tabOk m ∧ vecOk m v
theorem mul_bd {x y : Int} (h1 : 0 ≤ x ∧ x ≤ 100) (h2 : 0 ≤ y ∧ y ≤ 1000000) : 0 ≤ x * y ∧ x * y ≤ 100000000 :=
  ⟨Int.mul_nonneg h1.1 h2.1, Int.le_trans (Int.mul_le_mul_of_nonneg_right h1.2 h2.1) (Int.le_trans (Int.mul_le_mul_of_nonneg_left h2.2 (by omega)) (by omega))⟩
theorem dotK_bd {row v : List Int} (h1 : allIn row 0 100) (h2 : allIn v 0 1000000) : ∀ k : Nat, k ≤ row.length → k ≤ v.length → 0 ≤ dotK row v k ∧ dotK row v k ≤ (k : Int) * 100000000
  | 0, _, _ => by simp [dotK]
  | k + 1, ha, hb => by
    have := dotK_bd h1 h2 k (by omega) (by omega)
    have := mul_bd (h1 k (by omega)) (h2 k (by omega))
    unfold dotK
    omega

/-- as many small numbers as there are patterns -/
def fixIn (n : Int) (v : List Int) : Prop := (1 ≤ n ∧ n ≤ 4) ∧ v.length = catN n.toNat ∧ allIn v 0 1000000
/-- the sum of all operators makes each number 2 n times greater -/
def isFix (n : Nat) (v : List Int) : Prop := ∀ a, a < v.length → gi (appK (sumT (patP 6 n)) v v.length) a = 2 * (n : Int) * gi v a
theorem sumT_len (l : List (List Int)) : (sumT l).length = l.length := tab_len _ _ _
theorem sumT_ok {n : Nat} (h1 : 1 ≤ n) (h4 : n ≤ 4) {v : List Int} (hl : v.length = (patP 6 n).length) (hv : allIn v 0 1000000) : applyOk (sumT (patP 6 n)) v := by
  have h14 : (patP 6 n).length ≤ 14 := catN_le n (by omega)
  have hp : 1 ≤ (patP 6 n).length := catN_pos n (by omega)
  refine ⟨⟨by rw [sumT_len]; omega, fun i hi => ?_⟩, by rw [sumT_len]; exact hl, hv⟩
  rw [sumT_at h1 (by omega)] at hi ⊢
  rw [tab_len] at hi ⊢
  refine ⟨tab_row hi, fun j hj => ?_⟩
  rw [tab_row hi] at hj
  rw [gi_tab hi hj]
  have := sumN_in (patP 6 n) (2 * n) i j
  omega
theorem mul2_bd {n : Nat} {y : Int} (h4 : n ≤ 4) (h2 : 0 ≤ y ∧ y ≤ 1000000) : 0 ≤ 2 * (n : Int) * y ∧ 2 * (n : Int) * y ≤ 8000000 := by
  have h := mul_bd (x := 2 * (n : Int)) (y := y) (by omega) h2
  refine ⟨h.1, ?_⟩
  have := Int.mul_le_mul_of_nonneg_right (a := 2 * (n : Int)) (b := 8) (c := y) (by omega) h2.1
  omega

end Go.Proofs.Ytgdijjfipicodaa

namespace Go.Proofs.Ytgdijjfipicodaa
open Go.RowKit

def pM : Int := 1000000007
/-- the first t rows are told by F, the others stay -/
def mixR (F : Nat → List Int) (L : List (List Int)) (t : Nat) : List (List Int) := (List.range L.length).map fun r => if r < t then F r else gr L r
/-- the first b numbers are told by F, the others stay -/
def mixL (F : Nat → Int) (row : List Int) (b : Nat) : List Int := (List.range row.length).map fun c => if c < b then F c else gi row c
theorem mixR_len (F : Nat → List Int) (L : List (List Int)) (t : Nat) : (mixR F L t).length = L.length := by simp [mixR]
theorem mixL_len (F : Nat → Int) (row : List Int) (b : Nat) : (mixL F row b).length = row.length := by simp [mixL]
theorem gr_mixR {F : Nat → List Int} {L : List (List Int)} {t r : Nat} (h : r < L.length) : gr (mixR F L t) r = if r < t then F r else gr L r := by
  rw [gr_lt (by rw [mixR_len]; exact h)]
  simp [mixR]
theorem gi_mixL {F : Nat → Int} {row : List Int} {b c : Nat} (h : c < row.length) : gi (mixL F row b) c = if c < b then F c else gi row c := gi_row h
theorem gr_set {L : List (List Int)} {i j : Nat} {x : List Int} (h : i < L.length) : gr (L.set i x) j = if j = i then x else gr L j := by
  simp only [gr, List.getD, List.getElem?_set]
  by_cases e : i = j
  · subst e; simp [h]
  · rw [if_neg e, if_neg (fun h => e h.symm)]
theorem mixR_zero (F : Nat → List Int) (L : List (List Int)) : mixR F L 0 = L := ext_gr (mixR_len _ _ _) fun r hr => by
  rw [mixR_len] at hr
  rw [gr_mixR hr, if_neg (by omega)]
theorem mixL_zero (F : Nat → Int) (row : List Int) : mixL F row 0 = row := ext_gi (mixL_len _ _ _) fun r hr => by
  rw [mixL_len] at hr
  rw [gi_mixL hr, if_neg (by omega)]
theorem mixR_step {F : Nat → List Int} {L : List (List Int)} {t : Nat} (h : t < L.length) : (mixR F L t).set t (F t) = mixR F L (t + 1) := by
  refine ext_gr (by rw [List.length_set, mixR_len, mixR_len]) fun r hr => ?_
  rw [List.length_set, mixR_len] at hr
  rw [gr_set (by rw [mixR_len]; exact h), gr_mixR hr, gr_mixR hr]
  by_cases e : r = t
  · subst e; rw [if_pos rfl, if_pos (Nat.lt_succ_self r)]
  · rw [if_neg e]
    by_cases e2 : r < t
    · rw [if_pos e2, if_pos (show r < t + 1 by omega)]
    · rw [if_neg e2, if_neg (show ¬r < t + 1 by omega)]
theorem mixL_step {F : Nat → Int} {row : List Int} {b : Nat} (h : b < row.length) : (mixL F row b).set b (F b) = mixL F row (b + 1) := by
  refine ext_gi (by rw [List.length_set, mixL_len, mixL_len]) fun r hr => ?_
  rw [List.length_set, mixL_len] at hr
  rw [gi_set (by rw [mixL_len]; exact h), gi_mixL hr, gi_mixL hr]
  by_cases e : r = b
  · subst e; rw [if_pos rfl, if_pos (Nat.lt_succ_self r)]
  · rw [if_neg e]
    by_cases e2 : r < b
    · rw [if_pos e2, if_pos (show r < b + 1 by omega)]
    · rw [if_neg e2, if_neg (show ¬r < b + 1 by omega)]

/-- 2 n taken off the numbers of the diagonal -/
def dgF (L : List (List Int)) (c : Int) (a : Nat) : List Int := (gr L a).set a ((gi (gr L a) a - c + pM) % pM)
/-- the power -/
def powF : Nat → Nat → Int → Int → Int
  | 0, _, out, _ => out
  | f + 1, k, out, x => if k = 0 then out else powF f (k / 2) (if k % 2 = 1 then out * x % pM else out) (x * x % pM)
def invF (x : Int) : Int := powF 31 1000000005 1 x
/-- the row of the pivot -/
def pivF (L : List (List Int)) (k : Nat) : Nat → Nat → Nat
  | 0, a => a
  | f + 1, a => if gi (gr L a) k = 0 then pivF L k f (a + 1) else a
def swpL (L : List (List Int)) (i j : Nat) : List (List Int) := (L.set i (gr L j)).set j (gr L i)
def nmF (row : List Int) (y : Int) (c : Nat) : Int := gi row c * y % pM
def elF (row piv : List Int) (x : Int) (c : Nat) : Int := (gi row c + (pM - x) * gi piv c) % pM
def elR (L : List (List Int)) (k a : Nat) : List Int := if a = k then gr L a else mixL (elF (gr L a) (gr L k) (gi (gr L a) k)) (gr L a) L.length
/-- one column -/
def colS (L : List (List Int)) (k : Nat) : List (List Int) := swpL L k (pivF L k L.length k)
def colN (L : List (List Int)) (k : Nat) : List (List Int) := L.set k (mixL (nmF (gr L k) (invF (gi (gr L k) k))) (gr L k) L.length)
def colE (L : List (List Int)) (k : Nat) : List (List Int) := mixR (elR L k) L L.length
def colK (L : List (List Int)) (k : Nat) : List (List Int) := colE (colN (colS L k) k) k
/-- .. the first k columns, with the look whether there is a pivot -/
def solK (L : List (List Int)) : Nat → List (List Int) × Bool
  | 0 => (L, true)
  | k + 1 => (colK (solK L k).1 k, (solK L k).2 && (decide (pivF (solK L k).1 k (solK L k).1.length k < (solK L k).1.length) && decide (gi (gr (solK L k).1 (pivF (solK L k).1 k (solK L k).1.length k)) k ≠ 0)))
def outF (L : List (List Int)) (N : Nat) (k : Nat) : Int := (pM - gi (gr L k) (N - 1)) % pM
def outL (L : List (List Int)) (N : Nat) : List Int := (List.range (N - 1)).map (outF L N) ++ [1]
def sysL (n : Nat) : List (List Int) := mixR (dgF (sumT (patP 6 n)) (2 * n)) (sumT (patP 6 n)) (catN n)
def sol : Nat → List Int
  | 1 => [1]
  | 2 => [1, 1]
  | 3 => [2, 1, 1, 2, 1]
  | 4 => [7, 3, 3, 3, 1, 3, 1, 3, 1, 7, 3, 3, 3, 1]
  | _ => []
set_option maxRecDepth 100000 in
theorem sol_all : ∀ n, n < 5 → n = 0 ∨ ((solK (sysL n) (catN n - 1)).2 && outL (solK (sysL n) (catN n - 1)).1 (catN n) == sol n) = true := by decide +kernel
end Go.Proofs.Ytgdijjfipicodaa

