/- Parts of proofs: contracts and plain facts. Conditions: as each says. -/
import Derived.Test.YtnhkclnloiiihaaDoorK06
import Derived.Deep.WholeRow
import Derived.Deep.MidRow
import Derived.Laws.OwnMore
import Derived.Maps.AppendAt
namespace Go.Proofs.YtnhkclnloiiihaaDoor

theorem ite_iff {p q : Prop} [Decidable p] [Decidable q] {x y : Int} (h : p ↔ q) : (if p then x else y) = if q then x else y := by
  by_cases hp : p
  · rw [if_pos hp, if_pos (h.1 hp)]
  · rw [if_neg hp, if_neg (fun hq => hp (h.2 hq))]

/-- the height where the corner sum is c -/
def hOf (c : Nat → Nat → Int) (i j : Nat) : Int := (i : Int) + (j : Int) - 2 * c i j
/-- the numbers that corner sums leave -/
def dC (c : Nat → Nat → Int) (i j : Nat) : Int := c (i + 1) (j + 1) - c i (j + 1) - c (i + 1) j + c i j
/-- the table of heights, the table of numbers -/
def htT (n : Nat) (c : Nat → Nat → Int) : List (List Int) := tab (n + 1) (n + 1) (hOf c)
def unC (n : Nat) (c : Nat → Nat → Int) : List (List Int) := tab n n (dC c)
def ht (m : List (List Int)) : List (List Int) := htT m.length (S2 m)

/-- corner sums of a sign matrix, told by their neighbours -/
structure Crn (n : Nat) (c : Nat → Nat → Int) : Prop where
  top : ∀ j, j ≤ n → c 0 j = 0
  left : ∀ i, i ≤ n → c i 0 = 0
  right : ∀ i, i ≤ n → c i n = i
  bottom : ∀ j, j ≤ n → c n j = j
  across : ∀ i j, i ≤ n → j < n → c i j ≤ c i (j + 1) ∧ c i (j + 1) ≤ c i j + 1
  down : ∀ i j, i < n → j ≤ n → c i j ≤ c (i + 1) j ∧ c (i + 1) j ≤ c i j + 1

theorem Crn.le_i {n : Nat} {c : Nat → Nat → Int} (h : Crn n c) {i j : Nat} (hi : i ≤ n) (hj : j ≤ n) : 0 ≤ c i j ∧ c i j ≤ i := by
  induction i with
  | zero => rw [h.top j hj]; omega
  | succ i ih =>
    have := ih (by omega)
    have := h.down i j (by omega) hj
    omega
theorem Crn.le_j {n : Nat} {c : Nat → Nat → Int} (h : Crn n c) {i j : Nat} (hi : i ≤ n) (hj : j ≤ n) : c i j ≤ j := by
  induction j with
  | zero => rw [h.left i hi]; omega
  | succ j ih =>
    have := ih (by omega)
    have := h.across i j hi (by omega)
    omega
theorem Crn.ge {n : Nat} {c : Nat → Nat → Int} (h : Crn n c) {i j : Nat} (hi : i ≤ n) (hj : j ≤ n) : (i : Int) + j - n ≤ c i j := by
  obtain ⟨k, rfl⟩ : ∃ k, n = j + k := ⟨n - j, by omega⟩
  clear hj
  induction k generalizing j with
  | zero => have := h.right i hi; simp only [Nat.add_zero] at this; rw [this]; omega
  | succ k ih =>
    have h2 := ih (j := j + 1) (by rw [show j + 1 + k = j + (k + 1) from by omega]; exact h) (by omega)
    have := h.across i j hi (by omega)
    omega

/-- heights are in 0..n -/
theorem Crn.hbound {n : Nat} {c : Nat → Nat → Int} (h : Crn n c) {i j : Nat} (hi : i ≤ n) (hj : j ≤ n) : 0 ≤ hOf c i j ∧ hOf c i j ≤ n := by
  have h1 := h.le_i hi hj
  have h2 := h.le_j hi hj
  have h3 := h.ge hi hj
  unfold hOf
  omega

theorem good_crn {m : List (List Int)} (h : good m) : Crn m.length (S2 m) := by
  have rowS : ∀ i j, S2 m (i + 1) j = S2 m i j + sumK (gr m i) j := fun i j => by rw [S2_succ, sumK_sumF]
  have colS : ∀ i j, i ≤ m.length → j < m.length → S2 m i (j + 1) = S2 m i j + sumK (gr (tr m) j) i := fun i j hi hj => by
    rw [S2_cols hi (show j + 1 ≤ m.length by omega), S2_cols hi (show j ≤ m.length by omega)]
    rfl
  have rowOk : ∀ i j, i < m.length → j ≤ m.length → 0 ≤ sumK (gr m i) j ∧ sumK (gr m i) j ≤ 1 := fun i j hi hj => (h.2.1 i hi).1 j (by rw [h.1.2.2 i hi]; exact hj)
  have colOk : ∀ i j, i < m.length → j ≤ m.length → 0 ≤ sumK (gr (tr m) i) j ∧ sumK (gr (tr m) i) j ≤ 1 := fun i j hi hj => (h.2.2 i (by rw [tr_len]; exact hi)).1 j (by rw [tr_row hi]; exact hj)
  refine ⟨fun j _ => rfl, fun i _ => S2_zero_col m i, fun i hi => ?_, fun j hj => ?_, fun i j hi hj => ?_, fun i j hi hj => ?_⟩
  · induction i with
    | zero => rfl
    | succ i ih =>
      rw [rowS, ih (by omega)]
      have := (h.2.1 i (by omega)).2
      rw [h.1.2.2 i (by omega)] at this
      omega
  · induction j with
    | zero => exact S2_zero_col m _
    | succ j ih =>
      rw [colS _ j (Nat.le_refl _) (by omega), ih (by omega)]
      have := (h.2.2 j (by rw [tr_len]; omega)).2
      rw [tr_row (by omega)] at this
      omega
  · rw [colS i j hi hj]
    have := colOk j i hj hi
    omega
  · rw [rowS i j]
    have := rowOk i j hi hj
    omega

theorem unC_len (n : Nat) (c : Nat → Nat → Int) : (unC n c).length = n := tab_len _ _ _
theorem htT_len (n : Nat) (c : Nat → Nat → Int) : (htT n c).length = n + 1 := tab_len _ _ _
theorem gi_htT {n : Nat} {c : Nat → Nat → Int} {i j : Nat} (hi : i ≤ n) (hj : j ≤ n) : gi (gr (htT n c) i) j = hOf c i j := gi_tab (by omega) (by omega)
theorem gi_unC {n : Nat} {c : Nat → Nat → Int} {i j : Nat} (hi : i < n) (hj : j < n) : gi (gr (unC n c) i) j = dC c i j := gi_tab hi hj
theorem htT_small {n : Nat} (c : Nat → Nat → Int) (h : n ≤ 6) : Small (htT n c) := ⟨by rw [htT_len]; omega, fun i hi => by rw [htT_len] at hi; unfold htT; rw [tab_row hi]; omega⟩
theorem unC_small {n : Nat} (c : Nat → Nat → Int) (h : n ≤ 6) : Small (unC n c) := ⟨by rw [unC_len]; omega, fun i hi => by rw [unC_len] at hi; unfold unC; rw [tab_row hi]; omega⟩

theorem unC_S2 {m : List (List Int)} (h : square m) : unC m.length (S2 m) = m := by
  refine (eq_tab rfl h.2.2 fun i j hi hj => ?_).symm
  have := S2_step m i j
  unfold dC
  omega

/-- the numbers by heights -/
theorem dC_h (c : Nat → Nat → Int) (i j : Nat) : hOf c i (j + 1) - hOf c i j + hOf c (i + 1) j - hOf c (i + 1) (j + 1) = 2 * dC c i j := by
  unfold hOf dC
  omega

/-- corner sums of the table with given ones -/
theorem S2_unC {n : Nat} {c : Nat → Nat → Int} (h0 : ∀ j, j ≤ n → c 0 j = 0) (h1 : ∀ i, i ≤ n → c i 0 = 0) : ∀ i j, i ≤ n → j ≤ n → S2 (unC n c) i j = c i j := by
  intro i
  induction i with
  | zero => intro j _ hj; rw [h0 j hj]; rfl
  | succ i ih =>
    intro j hi
    induction j with
    | zero => intro _; rw [h1 _ hi]; exact S2_zero_col _ _
    | succ j ihj =>
      intro hj
      rw [S2_step, ih (j + 1) (by omega) hj, ihj (by omega), ih j (by omega) (by omega), gi_unC (by omega) (by omega)]
      unfold dC
      omega

theorem unC_square {n : Nat} (c : Nat → Nat → Int) (h1 : 1 ≤ n) (h6 : n ≤ 6) : square (unC n c) := ⟨by rw [unC_len]; exact h1, by rw [unC_len]; exact h6, fun i hi => by rw [unC_len] at hi ⊢; exact tab_row hi⟩

/-- they are those of a sign matrix -/
theorem crn_good {n : Nat} {c : Nat → Nat → Int} (h : Crn n c) (h1 : 1 ≤ n) (h6 : n ≤ 6) : good (unC n c) := by
  have hS := S2_unC h.top h.left
  have hsq := unC_square c h1 h6
  have rowS : ∀ i j, S2 (unC n c) (i + 1) j = S2 (unC n c) i j + sumK (gr (unC n c) i) j := fun i j => by rw [S2_succ, sumK_sumF]
  have colS : ∀ i j, i ≤ n → j < n → S2 (unC n c) i (j + 1) = S2 (unC n c) i j + sumK (gr (tr (unC n c)) j) i := fun i j hi hj => by
    rw [S2_cols (by rw [unC_len]; exact hi) (by rw [unC_len]; omega), S2_cols (by rw [unC_len]; exact hi) (by rw [unC_len]; omega)]
    rfl
  have rK : ∀ i j, i < n → j ≤ n → sumK (gr (unC n c) i) j = c (i + 1) j - c i j := fun i j hi hj => by
    have := rowS i j
    rw [hS (i + 1) j (by omega) hj, hS i j (by omega) hj] at this
    omega
  have cK : ∀ i j, i ≤ n → j < n → sumK (gr (tr (unC n c)) j) i = c i (j + 1) - c i j := fun i j hi hj => by
    have := colS i j hi hj
    rw [hS i (j + 1) hi (by omega), hS i j hi (by omega)] at this
    omega
  refine ⟨hsq, fun i hi => ?_, fun j hj => ?_⟩
  · have hl := hsq.2.2 i hi
    rw [unC_len] at hi hl
    unfold lineOk
    rw [hl]
    refine ⟨fun k hk => ?_, ?_⟩
    · rw [rK i k hi hk]; have := h.down i k hi hk; omega
    · rw [rK i n hi (Nat.le_refl _), h.right i (by omega), h.right (i + 1) (by omega)]; omega
  · rw [tr_len, unC_len] at hj
    have hl : (gr (tr (unC n c)) j).length = n := by rw [tr_row (by rw [unC_len]; exact hj), unC_len]
    unfold lineOk
    rw [hl]
    refine ⟨fun k hk => ?_, ?_⟩
    · rw [cK k j hk hj]; have := h.across k j hk hj; omega
    · rw [cK n j (Nat.le_refl _) hj, h.bottom j (by omega), h.bottom (j + 1) (by omega)]; omega

theorem hOf_lt {a b : Nat → Nat → Int} {i j : Nat} : hOf a i j < hOf b i j ↔ b i j < a i j := by unfold hOf; omega
theorem hOf_eq {a b : Nat → Nat → Int} {i j : Nat} : hOf a i j = hOf b i j ↔ a i j = b i j := by unfold hOf; omega
theorem htT_congr {n : Nat} {a b : Nat → Nat → Int} (h : ∀ i j, i ≤ n → j ≤ n → a i j = b i j) : htT n a = htT n b := by
  refine eq_tab (htT_len _ _) (fun i hi => tab_row hi) fun i j hi hj => ?_
  rw [gi_htT (by omega) (by omega), hOf_eq]
  exact h i j (by omega) (by omega)
theorem htT_inj {n : Nat} {a b : Nat → Nat → Int} (h : htT n a = htT n b) : ∀ i j, i ≤ n → j ≤ n → a i j = b i j := by
  intro i j hi hj
  rw [← hOf_eq, ← gi_htT hi hj, ← gi_htT hi hj, h]
theorem unC_congr {n : Nat} {a b : Nat → Nat → Int} (h : ∀ i j, i ≤ n → j ≤ n → a i j = b i j) : unC n a = unC n b := by
  refine eq_tab (unC_len _ _) (fun i hi => tab_row hi) fun i j hi hj => ?_
  rw [gi_unC hi hj]
  unfold dC
  rw [h _ _ (by omega) (by omega), h _ _ (by omega) (by omega), h _ _ (by omega) (by omega), h _ _ (by omega) (by omega)]

/-- the greater and the lesser corner sums: the meet's and the join's -/
def maxC (a b : Nat → Nat → Int) (i j : Nat) : Int := max (a i j) (b i j)
def minC2 (a b : Nat → Nat → Int) (i j : Nat) : Int := min (a i j) (b i j)
theorem Crn.max {n : Nat} {a b : Nat → Nat → Int} (h : Crn n a) (k : Crn n b) : Crn n (maxC a b) := by
  unfold maxC
  refine ⟨fun j hj => ?_, fun i hi => ?_, fun i hi => ?_, fun j hj => ?_, fun i j hi hj => ?_, fun i j hi hj => ?_⟩
  · rw [h.top j hj, k.top j hj]; rfl
  · rw [h.left i hi, k.left i hi]; rfl
  · rw [h.right i hi, k.right i hi]; omega
  · rw [h.bottom j hj, k.bottom j hj]; omega
  · have := h.across i j hi hj; have := k.across i j hi hj; omega
  · have := h.down i j hi hj; have := k.down i j hi hj; omega
theorem Crn.min {n : Nat} {a b : Nat → Nat → Int} (h : Crn n a) (k : Crn n b) : Crn n (minC2 a b) := by
  unfold minC2
  refine ⟨fun j hj => ?_, fun i hi => ?_, fun i hi => ?_, fun j hj => ?_, fun i j hi hj => ?_, fun i j hi hj => ?_⟩
  · rw [h.top j hj, k.top j hj]; rfl
  · rw [h.left i hi, k.left i hi]; rfl
  · rw [h.right i hi, k.right i hi]; omega
  · rw [h.bottom j hj, k.bottom j hj]; omega
  · have := h.across i j hi hj; have := k.across i j hi hj; omega
  · have := h.down i j hi hj; have := k.down i j hi hj; omega

/-- flips: what the height of a cell may be changed by -/
def up1 (h : Nat → Nat → Int) (i j : Nat) : Prop := h (i - 1) j = h i j + 1 ∧ h i (j - 1) = h i j + 1 ∧ h i (j + 1) = h i j + 1 ∧ h (i + 1) j = h i j + 1
def down1 (h : Nat → Nat → Int) (i j : Nat) : Prop := h (i - 1) j = h i j - 1 ∧ h i (j - 1) = h i j - 1 ∧ h i (j + 1) = h i j - 1 ∧ h (i + 1) j = h i j - 1
instance (h : Nat → Nat → Int) (i j : Nat) : Decidable (up1 h i j) := by unfold up1; infer_instance
instance (h : Nat → Nat → Int) (i j : Nat) : Decidable (down1 h i j) := by unfold down1; infer_instance
def way (h : Nat → Nat → Int) (i j : Nat) : Int := if up1 h i j then 1 else if down1 h i j then -1 else 0
def setC (c : Nat → Nat → Int) (i j : Nat) (x : Int) : Nat → Nat → Int := fun a b => if a = i ∧ b = j then x else c a b

theorem hOf_setC (c : Nat → Nat → Int) (i j : Nat) (x : Int) (a b : Nat) : hOf (setC c i j x) a b = if a = i ∧ b = j then (i : Int) + j - 2 * x else hOf c a b := by
  unfold hOf setC
  split
  · next h => rw [h.1, h.2]
  · rfl

theorem Crn.flip {n : Nat} {c : Nat → Nat → Int} (h : Crn n c) {i j : Nat} (hi : 0 < i) (hi2 : i < n) (hj : 0 < j) (hj2 : j < n) (hw : way (hOf c) i j ≠ 0) : Crn n (setC c i j (c i j - way (hOf c) i j)) := by
  obtain ⟨i, rfl⟩ : ∃ k, i = k + 1 := ⟨i - 1, by omega⟩
  obtain ⟨j, rfl⟩ : ∃ k, j = k + 1 := ⟨j - 1, by omega⟩
  have key : (way (hOf c) (i + 1) (j + 1) = 1 ∧ c i (j + 1) = c (i + 1) (j + 1) - 1 ∧ c (i + 1) j = c (i + 1) (j + 1) - 1 ∧ c (i + 1) (j + 1 + 1) = c (i + 1) (j + 1) ∧ c (i + 1 + 1) (j + 1) = c (i + 1) (j + 1)) ∨
      (way (hOf c) (i + 1) (j + 1) = -1 ∧ c i (j + 1) = c (i + 1) (j + 1) ∧ c (i + 1) j = c (i + 1) (j + 1) ∧ c (i + 1) (j + 1 + 1) = c (i + 1) (j + 1) + 1 ∧ c (i + 1 + 1) (j + 1) = c (i + 1) (j + 1) + 1) := by
    unfold way at hw ⊢
    by_cases h1 : up1 (hOf c) (i + 1) (j + 1)
    · rw [if_pos h1]
      unfold up1 hOf at h1
      simp only [Nat.add_sub_cancel] at h1
      refine .inl ⟨rfl, ?_⟩
      omega
    · rw [if_neg h1] at hw ⊢
      by_cases h2 : down1 (hOf c) (i + 1) (j + 1)
      · rw [if_pos h2]
        unfold down1 hOf at h2
        simp only [Nat.add_sub_cancel] at h2
        refine .inr ⟨rfl, ?_⟩
        omega
      · rw [if_neg h2] at hw
        exact absurd rfl hw
  have hs : ∀ a b, setC c (i + 1) (j + 1) (c (i + 1) (j + 1) - way (hOf c) (i + 1) (j + 1)) a b = if a = i + 1 ∧ b = j + 1 then c (i + 1) (j + 1) - way (hOf c) (i + 1) (j + 1) else c a b := fun _ _ => rfl
  refine ⟨fun b hb => ?_, fun a ha => ?_, fun a ha => ?_, fun b hb => ?_, fun a b ha hb => ?_, fun a b ha hb => ?_⟩
  · rw [hs, if_neg (by omega)]; exact h.top b hb
  · rw [hs, if_neg (by omega)]; exact h.left a ha
  · rw [hs, if_neg (by omega)]; exact h.right a ha
  · rw [hs, if_neg (by omega)]; exact h.bottom b hb
  · have h0 := h.across a b ha hb
    rw [hs, hs]
    by_cases e1 : a = i + 1
    · subst e1
      by_cases e2 : b = j + 1
      · subst e2
        rw [if_pos ⟨rfl, rfl⟩, if_neg (by omega)]
        omega
      · by_cases e3 : b = j
        · subst e3
          rw [if_neg (by omega), if_pos ⟨rfl, rfl⟩]
          omega
        · rw [if_neg (by omega), if_neg (by omega)]; exact h0
    · rw [if_neg (by omega), if_neg (by omega)]; exact h0
  · have h0 := h.down a b ha hb
    rw [hs, hs]
    by_cases e1 : b = j + 1
    · subst e1
      by_cases e2 : a = i + 1
      · subst e2
        rw [if_pos ⟨rfl, rfl⟩, if_neg (by omega)]
        omega
      · by_cases e3 : a = i
        · subst e3
          rw [if_neg (by omega), if_pos ⟨rfl, rfl⟩]
          omega
        · rw [if_neg (by omega), if_neg (by omega)]; exact h0
    · rw [if_neg (by omega), if_neg (by omega)]; exact h0
end Go.Proofs.YtnhkclnloiiihaaDoor

namespace Go.Proofs.YtnhkclnloiiihaaDoor
open Go.RowKit

/-- the number of rows, then the heights, row by row -/
def tl (n : Int) (f : Nat → Nat → Int) : List Value := .int .i64 n :: (List.range 49).map fun k => .int .i64 (f (k / 7) (k % 7))
def tc (n : Int) (f : Nat → Nat → Int) : Array Value := (tl n f).toArray
/-- heights, 0 behind them -/
def pad (n : Nat) (h : Nat → Nat → Int) (i j : Nat) : Int := if i ≤ n ∧ j ≤ n then h i j else 0
def upd (f : Nat → Nat → Int) (i j : Nat) (x : Int) : Nat → Nat → Int := fun a b => if a = i ∧ b = j then x else f a b

theorem tc_size (n : Int) (f : Nat → Nat → Int) : (tc n f).size = 50 := by simp [tc, tl]
theorem tc_zero (n : Int) (f : Nat → Nat → Int) : (tc n f)[0]? = some (.int .i64 n) := by simp [tc, tl]
theorem tc_at (n : Int) (f : Nat → Nat → Int) {i j : Nat} (hi : i < 7) (hj : j < 7) : (tc n f)[1 + i * 7 + j]? = some (.int .i64 (f i j)) := by
  have e : 1 + i * 7 + j = (i * 7 + j) + 1 := by omega
  rw [e]
  simp only [tc, tl, List.getElem?_toArray, List.getElem?_cons_succ, List.getElem?_map]
  rw [List.getElem?_range (by omega)]
  simp only [Option.map_some]
  rw [show (i * 7 + j) / 7 = i from by omega, show (i * 7 + j) % 7 = j from by omega]
theorem tc_congr {n : Int} {f f' : Nat → Nat → Int} (h : ∀ i j, i < 7 → j < 7 → f i j = f' i j) : tc n f = tc n f' := by
  unfold tc tl
  congr 2
  refine List.map_congr_left fun k hk => ?_
  rw [List.mem_range] at hk
  rw [h (k / 7) (k % 7) (by omega) (by omega)]
theorem tc_set (n : Int) (f : Nat → Nat → Int) {i j : Nat} (hi : i < 7) (hj : j < 7) (x : Int) : (tc n f).setIfInBounds (1 + i * 7 + j) (.int .i64 x) = tc n (upd f i j x) := by
  apply Array.ext_getElem?
  intro k
  rw [Array.getElem?_setIfInBounds]
  by_cases e : 1 + i * 7 + j = k
  · subst e
    rw [if_pos rfl, if_pos (by rw [tc_size]; omega), tc_at n _ hi hj]
    simp [upd]
  · rw [if_neg e]
    by_cases hk : k < 50
    · by_cases h0 : k = 0
      · subst h0; rw [tc_zero, tc_zero]
      · obtain ⟨a, b, ha, hb, rfl⟩ : ∃ a b, a < 7 ∧ b < 7 ∧ k = 1 + a * 7 + b := ⟨(k - 1) / 7, (k - 1) % 7, by omega, by omega, by omega⟩
        rw [tc_at n f ha hb, tc_at n _ ha hb]
        unfold upd
        rw [if_neg (fun h => e (by rw [h.1, h.2]))]
    · rw [Array.getElem?_eq_none (by rw [tc_size]; omega), Array.getElem?_eq_none (by rw [tc_size]; omega)]

end Go.Proofs.YtnhkclnloiiihaaDoor

namespace Go.Proofs.YtnhkclnloiiihaaDoor
open Go.RowKit

section
variable {P : Program}

theorem wpList_allocT {ops : Array Oper} {rest : List Oper} {o : Oper} {a : Act} {w : World} {Q : Exit → Act → World → Prop} (hg : o.guard = none) (t : TypeId) (ho : o.op = .alloc t) (z : Array Value) (n : Nat)
    (hz : (P.info? t).map (fun i => (i.zero, i.size)) = some (some (.agg z), n))
    (h : wpList P ops Q rest (a.put o.dst (.pointer (some ⟨w.heap.size, 0, none⟩))) (w.alloc (.cells z t))) : wpList P ops Q (o :: rest) a w := by
  refine wpList_plain hg fun K hK => ?_
  unfold Oper.wp execOp
  simp only [ho, Instr.alloc, Sem.run_bind, (zero_of_info hz).1, Result.andThen_ok, newVar, newRow, run_newObj_alloc, Sem.run_pure, Value.cells]
  exact hK _ _ h

theorem wpList_boxT {ops : Array Oper} {rest : List Oper} {o : Oper} {a : Act} {w : World} {Q : Exit → Act → World → Prop} (hg : o.guard = none) (t : TypeId) (x : Operand) (ho : o.op = .box t x)
    (cells : Array Value) (hx : a.eval x = .agg cells)
    (h : wpList P ops Q rest (a.put o.dst (.pointer (some ⟨w.heap.size, 0, none⟩))) (w.alloc (.cells cells t))) : wpList P ops Q (o :: rest) a w := by
  refine wpList_plain hg fun K hK => ?_
  unfold Oper.wp execOp
  simp only [ho, hx, Sem.run_bind, Instr.box, newVar, newRow, run_newObj_alloc, Sem.run_pure, Result.andThen_ok, Value.cells]
  exact hK _ _ h

theorem wpList_buildT1 {ops : Array Oper} {rest : List Oper} {o : Oper} {a : Act} {w : World} {Q : Exit → Act → World → Prop} (hg : o.guard = none) (t : TypeId) (i : Nat) (x : Operand) (ho : o.op = .build t #[(i, x)])
    (v : Value) (hv : a.eval x = v) (cells : Array Value) (hb : P.built t [(i, v)] = some cells)
    (h : wpList P ops Q rest (a.put o.dst (.agg cells)) w) : wpList P ops Q (o :: rest) a w := by
  subst hv
  have e : ((#[(i, x)] : Array (Nat × Operand)).map fun (i, x) => (i, a.eval x)).toList = [(i, a.eval x)] := by simp
  refine wpList_build hg t _ ho (by rw [e, hb]; rfl) ?_
  rw [e, hb]
  exact h

theorem wpList_buildT0 {ops : Array Oper} {rest : List Oper} {o : Oper} {a : Act} {w : World} {Q : Exit → Act → World → Prop} (hg : o.guard = none) (t : TypeId) (ho : o.op = .build t #[])
    (cells : Array Value) (hb : P.built t [] = some cells)
    (h : wpList P ops Q rest (a.put o.dst (.agg cells)) w) : wpList P ops Q (o :: rest) a w := by
  have e : ((#[] : Array (Nat × Operand)).map fun (i, x) => (i, a.eval x)).toList = [] := by simp
  refine wpList_build hg t _ ho (by rw [e, hb]; rfl) ?_
  rw [e, hb]
  exact h

/-- a store into the variable that was made last -/
theorem wpList_storeT {ops : Array Oper} {rest : List Oper} {o : Oper} {a : Act} {w : World} {Q : Exit → Act → World → Prop} (hgd : o.guard = none) (ty : TypeId) (x y : Operand) (ho : o.op = .store ty x y)
    (cells old : Array Value) (g : Nat) (hgs : w.heap.size = g) (hx : a.eval x = .pointer (some ⟨g, 0, none⟩)) (hy : a.eval y = .agg cells)
    (hi : (P.info? ty).map (·.size) = some cells.size) (hold : old.size = cells.size) (h1 : cells.all (·.oneCell') = true)
    (h : wpList P ops Q rest (a.put o.dst undef) (w.alloc (.cells cells ty))) : wpList P ops Q (o :: rest) a (w.alloc (.cells old ty)) := by
  subst hgs
  refine wpList_store_row hgd ty x y ho w.heap.size cells hx hy ty old (heap_alloc_new w _) hi hold h1 ?_
  rw [World.setRow_alloc_new]
  exact h

/-- .. into the variable at block g -/
theorem wpList_storeG {ops : Array Oper} {rest : List Oper} {o : Oper} {a : Act} {w : World} {Q : Exit → Act → World → Prop} (hgd : o.guard = none) (ty : TypeId) (x y : Operand) (ho : o.op = .store ty x y)
    (g : Nat) (cells old : Array Value) (hx : a.eval x = .pointer (some ⟨g, 0, none⟩)) (hy : a.eval y = .agg cells)
    (hg : w.heap[g]? = some (.cells old ty (0, 0)))
    (hi : (P.info? ty).map (·.size) = some cells.size) (hold : old.size = cells.size) (h1 : cells.all (·.oneCell') = true)
    (h : wpList P ops Q rest (a.put o.dst undef) (w.setRow g cells)) : wpList P ops Q (o :: rest) a w :=
  wpList_store_row hgd ty x y ho g cells hx hy ty old hg hi hold h1 h

theorem wpList_loadG {ops : Array Oper} {rest : List Oper} {o : Oper} {a : Act} {w : World} {Q : Exit → Act → World → Prop} (hgd : o.guard = none) (ty : TypeId) (x : Operand) (ho : o.op = .load ty x)
    (g : Nat) (hx : a.eval x = .pointer (some ⟨g, 0, none⟩)) (cs : Array Value) (d : TypeDesc) (hg : w.heap[g]? = some (.cells cs ty (0, 0)))
    (hu : P.underlying ty = some d) (hd : (match d with | .struct _ | .array _ _ => true | _ => false) = true) (hi : (P.info? ty).map (·.size) = some cs.size)
    (h : wpList P ops Q rest (a.put o.dst (.agg cs)) w) : wpList P ops Q (o :: rest) a w :=
  wpList_load_row hgd ty x ho g hx ty cs (0, 0) d hg hu hd hi h

/-- results: a variable and a temporary; two variables and a temporary -/
theorem results_cell_one {fn : Func} {p : Tmp} {ty : TypeId} (h : fn.results = #[.cell p ty]) (tmps : Array Value) (w : World) (g : Nat) (cs : Array Value)
    (hp : tmps.getD p undef = .pointer (some ⟨g, 0, none⟩)) (hl : (loadVar ty ⟨g, 0, none⟩).run P w = .ok (.agg cs) w) :
    (results fn tmps).run P w = .ok (.agg cs) w := by
  have hp' : tmps[p]?.getD undef = .pointer (some ⟨g, 0, none⟩) := by simpa using hp
  simp [results, h, hp', asAddr, hl]
theorem results_cell_two {fn : Func} {p q : Tmp} {ty : TypeId} (h : fn.results = #[.cell p ty, .tmp q]) (tmps : Array Value) (w : World) (g : Nat) (cs : Array Value)
    (hp : tmps.getD p undef = .pointer (some ⟨g, 0, none⟩)) (hl : (loadVar ty ⟨g, 0, none⟩).run P w = .ok (.agg cs) w) :
    (results fn tmps).run P w = .ok (.tuple #[.agg cs, tmps.getD q undef]) w := by
  have hp' : tmps[p]?.getD undef = .pointer (some ⟨g, 0, none⟩) := by simpa using hp
  simp [results, h, hp', asAddr, hl]
theorem results_cell_three {fn : Func} {p p2 q : Tmp} {ty : TypeId} (h : fn.results = #[.cell p ty, .cell p2 ty, .tmp q]) (tmps : Array Value) (w : World) (g g2 : Nat) (cs cs2 : Array Value)
    (hp : tmps.getD p undef = .pointer (some ⟨g, 0, none⟩)) (hl : (loadVar ty ⟨g, 0, none⟩).run P w = .ok (.agg cs) w)
    (hp2 : tmps.getD p2 undef = .pointer (some ⟨g2, 0, none⟩)) (hl2 : (loadVar ty ⟨g2, 0, none⟩).run P w = .ok (.agg cs2) w) :
    (results fn tmps).run P w = .ok (.tuple #[.agg cs, .agg cs2, tmps.getD q undef]) w := by
  have hp' : tmps[p]?.getD undef = .pointer (some ⟨g, 0, none⟩) := by simpa using hp
  have hp2' : tmps[p2]?.getD undef = .pointer (some ⟨g2, 0, none⟩) := by simpa using hp2
  simp [results, h, hp', hp2', asAddr, hl, hl2]
end

def z0 : Nat → Nat → Int := fun _ _ => 0
theorem tc_one (n : Int) (f : Nat → Nat → Int) : (tc n f).all (·.oneCell') = true := by
  rw [Array.all_eq_true_iff_forall_mem]
  intro v hv
  simp only [tc, tl, List.mem_toArray, List.mem_cons, List.mem_map] at hv
  rcases hv with rfl | ⟨k, _, rfl⟩ <;> rfl
theorem tc_same (n k : Int) (f g : Nat → Nat → Int) : (tc n f).size = (tc k g).size := by rw [tc_size, tc_size]

theorem two_below (w : World) (o o2 : Obj) : Below w.heap.size w ((w.alloc o).alloc o2) := ((Below.refl _ w).alloc (Nat.le_refl _) o).alloc (by simp) o2
theorem below_setRowT {B g : Nat} {w0 w : World} (hb : Below B w0 w) (hBg : B ≤ g) (cs : Array Value) : Below B w0 (w.setRow g cs) :=
  hb.trans ⟨rfl, rfl, rfl, by simp [World.setRow], fun k hk => Go.setRow_other w g k cs (by omega)⟩
end Go.Proofs.YtnhkclnloiiihaaDoor

namespace Go.Proofs.YtnhkclnloiiihaaDoor
open Go.RowKit

theorem OwnP.more {w : World} {B : Nat} {v : Value} {M : List (List Int)} {r : List Int} {vs : List Value} (h : OwnP w B v M.length M M.length vs) : OwnP w B v M.length (M ++ [r]) M.length vs :=
  ⟨h.top, fun i hi => by rw [gr_lt (by simp; omega), List.getElem_append_left hi, ← gr_lt hi]; exact h.rows i hi, h.apart⟩
theorem gr_last (M : List (List Int)) (r : List Int) : gr (M ++ [r]) M.length = r := by
  rw [gr_lt (by simp)]
  simp
end Go.Proofs.YtnhkclnloiiihaaDoor

namespace Go.Proofs.YtnhkclnloiiihaaDoor
open Go.RowKit

/-- the blocks from lo up to hi are as they were -/
def Same (lo hi : Nat) (w w' : World) : Prop := ∀ g, lo ≤ g → g < hi → w'.heap[g]? = w.heap[g]?
theorem Same.refl (lo hi : Nat) (w : World) : Same lo hi w w := fun _ _ _ => rfl
theorem Same.trans {lo hi : Nat} {a b c : World} (h : Same lo hi a b) (k : Same lo hi b c) : Same lo hi a c := fun g h1 h2 => (k g h1 h2).trans (h g h1 h2)
theorem Same.of_below {lo hi B : Nat} {w w' : World} (h : Below B w w') (hB : hi ≤ B) : Same lo hi w w' := fun g _ h2 => h.block g (by omega)
theorem Same.of_grown {lo hi : Nat} {w w' : World} {row : Option Nat} (h : w.grownBy w' row) (hs : hi ≤ w.heap.size) (hr : ∀ g, row = some g → g < lo ∨ hi ≤ g) : Same lo hi w w' :=
  fun g h1 h2 => h.block g (by omega) (fun e => by have := hr g e.symm; omega)
theorem ownsRow_same {w w' : World} {B : Nat} {e : TypeId} {v : Value} {n : Nat} {xs : List Value} (h : w.ownsRow B e 1 v n xs) (hs : Same B w.heap.size w w') : w'.ownsRow B e 1 v n xs := by
  refine ⟨h.1, ?_⟩
  rcases h.2 with h0 | ⟨g, cap, cur, rfl, hg, hh, r⟩
  · exact .inl h0
  · exact .inr ⟨g, cap, cur, rfl, hg, by rw [hs g hg (lt_of_block hh)]; exact hh, r⟩
theorem OwnP.same {w w' : World} {B n k : Nat} {v : Value} {m : List (List Int)} {vs : List Value} (h : OwnP w B v n m k vs) (hs : Same B w.heap.size w w') : OwnP w' B v n m k vs :=
  ⟨ownsRow_same h.top hs, fun i hi => ownsRow_same (h.rows i hi) hs, h.apart⟩
/-- a row of an owned table: where its slice lies, and that it is owned -/
theorem OwnP.rowAt {w : World} {B n c : Nat} {ao : Option Addr} {m : List (List Int)} {vs : List Value} (h : OwnP w B (.slice ao n c) n m n vs) {i : Nat} (hi : i < n) :
    ∃ b o r d, ao = some ⟨b, o, none⟩ ∧ w.cell? ⟨b, o + i, none⟩ = some (.slice r (gr m i).length d) ∧ vs.getD i undef = .slice r (gr m i).length d ∧ OwnI w B (.slice r (gr m i).length d) (gr m i) ∧ (gr m i).length ≤ d ∧ d ≤ 9223372036854775807 := by
  obtain ⟨ao', c', hv, _, _, hcells⟩ := ownsRow_read h.top
  obtain ⟨rfl, -, rfl⟩ := (Value.slice.injEq _ _ _ _ _ _).mp hv
  obtain ⟨b, o, e, hc⟩ := hcells i hi
  have hrow := h.rows i hi
  obtain ⟨r, d, hr, h1, h2, _⟩ := hrow.read
  rw [hr] at hc hrow
  exact ⟨b, o, r, d, e, hc, hr, hrow, h1, h2⟩
theorem OwnI.same_at {w w' : World} {B n c : Nat} {ao : Option Addr} {xs : List Int} (h : OwnI w B (.slice ao n c) xs) (hs : Same B w.heap.size w w') : IntsAt w' ao xs := own_at (ownsRow_same h hs)
end Go.Proofs.YtnhkclnloiiihaaDoor

namespace Go.Proofs.YtnhkclnloiiihaaDoor
open Go.RowKit

/-- a ratio as a struct of two numbers; a variable with one -/
def rtA (a : Nat × Nat) : Array Value := #[.int .i64 (a.1 : Int), .int .i64 (a.2 : Int)]
theorem rt_one (a : Nat × Nat) : (rtA a).all (·.oneCell') = true := by simp [rtA, Value.oneCell']
theorem rt_same (a b : Nat × Nat) : (rtA a).size = (rtA b).size := rfl
theorem wpList_buildRn {P : Program} {ops : Array Oper} {rest : List Oper} {o : Oper} {a : Act} {w : World} {Q : Exit → Act → World → Prop} (hg : o.guard = none) (t : TypeId) (xs : Array (Nat × Operand)) (ho : o.op = .build t xs)
    (vs : List (Nat × Value)) (hv : (xs.map fun (i, x) => (i, a.eval x)).toList = vs) (cells : Array Value) (hb : P.built t vs = some cells)
    (h : wpList P ops Q rest (a.put o.dst (.agg cells)) w) : wpList P ops Q (o :: rest) a w := by
  refine wpList_build hg t _ ho (by rw [hv, hb]; rfl) ?_
  rw [hv, hb]
  exact h

end Go.Proofs.YtnhkclnloiiihaaDoor

namespace Go.Proofs.YtnhkclnloiiihaaDoor
open Go.RowKit

theorem rt3_below (w : World) (o1 o2 o3 : Obj) : Below w.heap.size w (((w.alloc o1).alloc o2).alloc o3) := (((Below.refl _ w).alloc (Nat.le_refl _) o1).alloc (by simp) o2).alloc (by simp; omega) o3
theorem wrapN {n : Nat} (h : n ≤ 4000000000000000000) : IntKind.i64.wrap (n : Int) = (n : Int) := w64 (by omega)

end Go.Proofs.YtnhkclnloiiihaaDoor

namespace Go.Proofs.YtnhkclnloiiihaaDoor
open Go.RowKit

theorem OwnP.setElse {w : World} {B n k : Nat} {v : Value} {m : List (List Int)} {vs : List Value} (h : OwnP w B v n m k vs) {a : Addr} (ht : v.ownBlock ≠ some a.block) (hr : ∀ i, i < k → (vs.getD i undef).ownBlock ≠ some a.block) (u : Value) : OwnP (w.setCell a u) B v n m k vs :=
  ⟨Go.ownsRow_setCell_other h.top ht u, fun i hi => (h.rows i hi).setOther (hr i hi) u, h.apart⟩

set_option maxRecDepth 100000 in
set_option maxHeartbeats 800000 in
theorem kindOf_any (v b a : Int) (w : World) (hb : 0 ≤ b ∧ b ≤ 1) (ha : 0 ≤ a ∧ a ≤ 1) :
    Calls Tryd.prog 147 #[.int .i64 v, .int .i64 b, .int .i64 a] w fun e w' => e = .returned (.int .i64 (kdV v b a)) ∧ w' = w := by
  unfold kdV
  by_cases h1 : v = 1
  · rw [if_pos h1]
    have hd : (v == 1) = true := by simpa using h1
    clear h1
    go_enter Tryd.func147, Tryd.ntmps147
    go_wp2
    go_ret
    exact ⟨rfl, rfl⟩
  · rw [if_neg h1]
    have hd : (v == 1) = false := by simpa using h1
    by_cases h2 : v = -1
    · rw [if_pos h2]
      have hd2 : (v == -1) = true := by simpa using h2
      clear h1 h2
      go_enter Tryd.func147, Tryd.ntmps147
      go_wp2
      go_ret
      exact ⟨rfl, rfl⟩
    · rw [if_neg h2]
      have hd2 : (v == -1) = false := by simpa using h2
      clear h1 h2
      go_enter Tryd.func147, Tryd.ntmps147
      go_wp2
      go_ret
      exact ⟨rfl, rfl⟩

set_option maxRecDepth 100000 in
set_option maxHeartbeats 3200000 in
theorem kindsOf_any (ao : Option Addr) (c : Nat) (m : List (List Int)) (w : World) (hg : good m) (hm : MatAt w ao m) :
    Calls Tryd.prog 115 #[.slice ao m.length c] w fun e w' => ∃ v, e = .returned v ∧ OwnM w' w.heap.size v (kinds m) ∧ Below w.heap.size w w' := by
  obtain ⟨i0, hi, hz0, hz1, hz2⟩ := info_parts Tryd.info_int
  have hn := hg.1.2.1
  have hmx : m.length ≤ 9223372036854775807 := by omega
  have Hg := Lib.hid hg
  have Hm := Lib.hid hm
  clear hg hm
  go_enter Tryd.func115, Tryd.ntmps115
  go_wp2_with fail
  refine (newGrid_any m.length w (by omega)).mono ?_
  rintro e w1 ⟨vs, rfl, hv, hb⟩
  have hvlt : ∀ i, i < m.length → ∀ g, (vs.getD i undef).ownBlock = some g → g < w1.heap.size := fun i hi g hg => ((hv.rows i hi).lt g hg).2
  have htop : w.heap.size < w1.heap.size := by
    obtain ⟨cur, hcur⟩ := ownsRow_block hv.top
    exact lt_of_block hcur
  have Hv := Lib.hid hv
  have Hb := Lib.hid hb
  have Hvlt := Lib.hid hvlt
  have HB := Lib.hid hb.size
  clear hv hb hvlt
  go_wp2_with (at_make; refine wpList_make_full _ rfl _ _ 28 rfl w1.heap.size 3 i0 (.int .i64 0) 1 Tryd.underlying28 hi hz0 hz1 _ _ _ _ m.length rfl rfl rfl rfl ?c1 ?c2 ?c3 ?_)
  case c1 => rw [hz2]; omega
  case c2 => unfold maxLen; omega
  case c3 => simp
  intro w2 hown hgr
  have hb2 : Below w1.heap.size w1 w2 := (Below.refl _ _).grown hgr (Nat.le_refl _) (fun _ h => by cases h)
  have hsum := OwnI.made hown
  rw [← colMid_zero m] at hsum
  have Hsum := Lib.hid hsum
  have Hv2 := Lib.hid (Hv.out.below hb2)
  have Hb2 := Lib.hid (Hb.out.trans (hb2.mono HB.out))
  obtain ⟨H, hH⟩ : ∃ H, H = w1.heap.size := ⟨_, rfl⟩
  rw [← hH] at Hsum Hvlt htop ⊢
  clear hown hgr hb2 hsum Hb Hv HB hH
  go_wp2
  go_loopw [18] (fun i wr => ∃ (k : Nat) (f : Nat → Nat → Int), k ≤ m.length ∧ i = .int .i64 k ∧ OwnI wr H (.slice (some ⟨H, 0, none⟩) m.length m.length) (colMid m k 0) ∧ OwnP wr w.heap.size (.slice (some ⟨w.heap.size, 0, none⟩) m.length m.length) m.length (tab m.length m.length f) m.length vs ∧
      (∀ a b, a < k → b < m.length → f a b = kd m a b) ∧ Below w.heap.size w wr) (fun i _ => m.length - (intOf i).toNat)
  case atStart => exact ⟨0, _, Nat.zero_le _, rfl, Hsum.out, Hv2.out, fun a b ha _ => absurd ha (by omega), Hb2.out⟩
  case round =>
    obtain ⟨k, f, hk, rfl, hsum, hown, heq, hbr⟩ := hrel
    obtain ⟨wo, rfl⟩ : ∃ wo : World, wo = wr := ⟨_, rfl⟩
    clear Hsum Hv2 Hb2
    by_cases hlt : k < m.length
    · obtain ⟨b1, o1, r1, d1, e0, hc0, hx1, _, _⟩ := Hm.out k hlt
      have hrl : (gr m k).length = m.length := Hg.out.1.2.2 k hlt
      rw [hrl] at hc0
      have hc1 := cell_below hc0 hbr
      subst e0
      have Hrow := Lib.hid hx1
      have Hown := Lib.hid hown
      have Heq := Lib.hid heq
      have Hbr := Lib.hid hbr
      have Hsum := Lib.hid hsum
      clear hown heq hbr hx1 hrl hc0 hsum
      go_wp2
      go_loopw [7, 25] (fun before i wr => ∃ (t : Nat) (f : Nat → Nat → Int), t ≤ m.length ∧ i = .int .i64 t ∧ before = .int .i64 (sumK (gr m k) t) ∧ OwnI wr H (.slice (some ⟨H, 0, none⟩) m.length m.length) (colMid m k t) ∧ OwnP wr w.heap.size (.slice (some ⟨w.heap.size, 0, none⟩) m.length m.length) m.length (tab m.length m.length f) m.length vs ∧
          (∀ a b, a < k → b < m.length → f a b = kd m a b) ∧ (∀ b, b < t → f k b = kd m k b) ∧ Below w.heap.size w wr) (fun _ i _ => m.length - (intOf i).toNat)
      case atStart => exact ⟨0, f, Nat.zero_le _, rfl, rfl, Hsum.out, Hown.out, Heq.out, fun a ha => absurd ha (by omega), Hbr.out⟩
      case round =>
        obtain ⟨t, f, ht, rfl, rfl, hsum, hown, heq, hcol, hbi⟩ := hrel
        clear Hown Heq Hbr Hsum
        by_cases htl : t < m.length
        · obtain ⟨b2, o2, e2, hc2⟩ := Hrow.out.below hbi t (by rw [Hg.out.1.2.2 k hlt]; exact htl)
          have hd := hown.cellAt k hlt
          obtain ⟨g, cap, hvs, hd2, hf2, hg, hst⟩ := hown.at2 hlt htl
          have hgH : g < H := Hvlt.out k hlt g (by rw [hvs]; rfl)
          rw [hvs] at hd
          have hcs := hsum.cellAt t htl
          rw [gi_colMid htl, if_neg (by omega)] at hcs
          have h1 := rowS_01 Hg.out hlt (k := t) (by omega)
          have h1' := rowS_01 Hg.out hlt (k := t + 1) (by omega)
          have h2 := colS_01 Hg.out htl (k := k) (by omega)
          have h2' := colS_01 Hg.out htl (k := k + 1) (by omega)
          have s1 : sumK (gr m k) (t + 1) = sumK (gr m k) t + gi (gr m k) t := rfl
          have s2 : colS m t (k + 1) = colS m t k + gi (gr m k) t := rfl
          rw [s1] at h1'
          rw [s2] at h2'
          have hkd : kd m k t = kdV (gi (gr m k) t) (sumK (gr m k) t) (colS m t k) := rfl
          have hset : (colMid m k t).set t (colS m t k + gi (gr m k) t) = colMid m k (t + 1) := colMid_set htl
          generalize gi (gr m k) t = x at hc2 hkd h1' h2' s1 hset
          generalize sumK (gr m k) t = y at h1 h1' s1 hkd ⊢
          obtain ⟨z, hz⟩ : ∃ z, z = colS m t k := ⟨_, rfl⟩
          rw [← hz] at hcs h2 h2' hkd hset
          have C := Lib.hid (kindOf_any x y z · h1 h2)
          obtain ⟨q, hq⟩ : ∃ q, q = kdV x y z := ⟨_, rfl⟩
          rw [← hq] at hkd C
          have Hkd := Lib.hid hkd
          have HstG := Lib.hid (hst q)
          have hsum1 : OwnI (wr.setCell ⟨g, t, none⟩ (.int .i64 q)).drew H (.slice (some ⟨H, 0, none⟩) m.length m.length) (colMid m k t) := (hsum.setOther (a := ⟨g, t, none⟩) (fun e => by have := (hsum.lt _ e).1; simp at this; omega) (.int .i64 q)).drew
          have hst2 := hsum1.store t (z + x)
          rw [hset] at hst2
          have hcs2 := hsum1.cellAt t htl
          rw [gi_colMid htl, if_neg (by omega), ← hz] at hcs2
          have Hst2 := Lib.hid hst2
          have HG2 := Lib.hid ((HstG.out.drew).setElse (a := ⟨H, t, none⟩) (by intro e; simp [Value.ownBlock] at e; omega) (fun i hi e => by have := Hvlt.out i hi _ e; simp at this) (.int .i64 (z + x)))
          have Hbs := Lib.hid (((hbi.setCell (p := ⟨g, t, none⟩) hg (.int .i64 q)).drew).setCell (p := ⟨H, t, none⟩) (Nat.le_of_lt htop) (.int .i64 (z + x)))
          have Heq := Lib.hid heq
          have Hcol := Lib.hid hcol
          have Hvs := Lib.hid hvs
          have hf3 := hsum1.frozenAt t
          have hdD := cellD hd
          have hd2D := cellD hd2
          have hcsD := cellD hcs
          have hc2D := cellD hc2
          subst e2
          clear hown heq hcol hbi hst hvs hg hgH hq hsum hsum1 hst2 s2 hset hkd hz
          go_upto_region 10 with (fail)
          refine wp_region_still_tail 12 (by kernel_rfl) (by kernel_rfl) ?_
          simp only [List.take_succ_cons, List.take_zero, List.drop_succ_cons, List.drop_zero]
          repeat still_step
          still_call (C.out _)
          repeat still_step
          refine wpStill_nil ?_
          change wpList _ _ _ _ _ wr.drew
          clear hdD hd2D hcsD hc2D hd hcs hc2
          go_wp2
          go_roundw
          case rel =>
            refine ⟨t + 1, _, by omega, by go_num, by rw [s1], Hst2.out, HG2.out, fun a b ha hb => ?_, fun b hb => ?_, Hbs.out⟩
            · rw [if_neg (fun h => by omega)]
              exact Heq.out a b ha hb
            · by_cases e : b = t
              · subst e; rw [if_pos ⟨rfl, rfl⟩]; exact Hkd.out.symm
              · rw [if_neg (fun h => by omega)]
                exact Hcol.out b (by omega)
          case measure => simp [intOf]; omega
        · obtain rfl : t = m.length := by omega
          rw [colMid_next] at hsum
          have Hown := Lib.hid hown
          have Heq := Lib.hid heq
          have Hcol := Lib.hid hcol
          have Hbi := Lib.hid hbi
          have Hsum := Lib.hid hsum
          clear hown heq hcol hbi hsum
          go_wp2
          go_roundw
          case rel =>
            refine ⟨k + 1, f, by omega, by go_num, Hsum.out, Hown.out, fun a b ha hb => ?_, Hbi.out⟩
            by_cases e : a = k
            · subst e; exact Hcol.out b hb
            · exact Heq.out a b (by omega) hb
          case measure => simp [intOf]; omega
    · obtain rfl : k = m.length := by omega
      have e : kinds m = tab m.length m.length f := (eq_tab (kinds_len m) (fun i hi => tab_row hi) (fun i j hi hj => by rw [gi_kinds hi hj, heq i j hi hj]))
      have hfin : OwnM wo w.heap.size (.slice (some ⟨w.heap.size, 0, none⟩) m.length m.length) (kinds m) := ⟨vs, by rw [kinds_len, e]; exact hown⟩
      have Hfin := Lib.hid hfin
      have Hbr := Lib.hid hbr
      clear hown heq e hfin hbr hsum
      go_wp2
      go_ret
      exact ⟨_, rfl, Hfin.out, Hbr.out⟩
end Go.Proofs.YtnhkclnloiiihaaDoor

namespace Go.Proofs.YtnhkclnloiiihaaDoor
open Go.RowKit

/-- the answer of a function that hands back a list of numbers and whether there is one -/
def LRes (p : Prop) (r : List Int) (w : World) (B : Nat) (e : Ending) : Prop :=
  ∃ v b r', e = .returned (.tuple #[v, .bool b]) ∧ OwnI w B v r' ∧ ((p ∧ b = true ∧ r' = r) ∨ (¬p ∧ b = false ∧ r' = []))
theorem LRes.yes {p : Prop} {r : List Int} {w : World} {B : Nat} {v : Value} (h : p) (ho : OwnI w B v r) : LRes p r w B (.returned (.tuple #[v, .bool true])) := ⟨v, true, r, rfl, ho, .inl ⟨h, rfl, rfl⟩⟩
theorem LRes.no {p : Prop} {r : List Int} {w : World} {B : Nat} (h : ¬p) : LRes p r w B (.returned (.tuple #[.slice none 0 0, .bool false])) := ⟨_, false, [], rfl, OwnI.nil _ _, .inr ⟨h, rfl, rfl⟩⟩

theorem lres_same {p : Prop} {r ra rb : List Int} {a b : Bool} (h : (p ∧ a = true ∧ ra = r) ∨ (¬p ∧ a = false ∧ ra = [])) (k : (p ∧ b = true ∧ rb = r) ∨ (¬p ∧ b = false ∧ rb = [])) : b = a ∧ rb = ra := by
  rcases k with ⟨h1, h2, h3⟩ | ⟨h1, h2, h3⟩ <;> rcases h with ⟨k1, k2, k3⟩ | ⟨k1, k2, k3⟩
  · exact ⟨h2.trans k2.symm, h3.trans k3.symm⟩
  · exact absurd h1 k1
  · exact absurd k1 h1
  · exact ⟨h2.trans k2.symm, h3.trans k3.symm⟩
end Go.Proofs.YtnhkclnloiiihaaDoor

namespace Go.Proofs.YtnhkclnloiiihaaDoor
open Go.RowKit

/-- six numbers in an array -/
def kcL (f : Nat → Int) : List Value := (List.range 6).map fun k => .int .i64 (f k)
def kc (f : Nat → Int) : Array Value := (kcL f).toArray
def KcAt (w : World) (g : Nat) (f : Nat → Int) : Prop := w.heap[g]? = some (.cells (kc f) 50 (0, 0))
theorem kc_size (f : Nat → Int) : (kc f).size = 6 := by simp [kc, kcL]
theorem kc_at (f : Nat → Int) {k : Nat} (hk : k < 6) : (kc f)[k]? = some (.int .i64 (f k)) := by
  simp only [kc, kcL, List.getElem?_toArray, List.getElem?_map]
  rw [List.getElem?_range hk]
  rfl
theorem kc_congr {f g : Nat → Int} (h : ∀ k, k < 6 → f k = g k) : kc f = kc g := by
  unfold kc kcL
  congr 1
  refine List.map_congr_left fun k hk => ?_
  rw [List.mem_range] at hk
  rw [h k hk]
theorem kc_set (f : Nat → Int) {k : Nat} (hk : k < 6) (x : Int) : (kc f).setIfInBounds k (.int .i64 x) = kc (fun q => if q = k then x else f q) := by
  apply Array.ext_getElem?
  intro j
  rw [Array.getElem?_setIfInBounds]
  by_cases e : k = j
  · subst e
    rw [if_pos rfl, if_pos (by rw [kc_size]; exact hk), kc_at _ hk, if_pos rfl]
  · rw [if_neg e]
    by_cases hj : j < 6
    · rw [kc_at _ hj, kc_at _ hj, if_neg (fun h => e h.symm)]
    · rw [Array.getElem?_eq_none (by rw [kc_size]; omega), Array.getElem?_eq_none (by rw [kc_size]; omega)]
theorem KcAt.cell {w : World} {g : Nat} {f : Nat → Int} (h : KcAt w g f) {k : Nat} (hk : k < 6) : w.cell? ⟨g, k, none⟩ = some (.int .i64 (f k)) := by
  rw [cell_of_row w g _ _ _ _ h, kc_at f hk]
theorem KcAt.frozen {w : World} {g : Nat} {f : Nat → Int} (h : KcAt w g f) (k : Nat) : w.frozen? ⟨g, k, none⟩ = false := frozen_of_row w g k _ _ h
theorem KcAt.store {w : World} {g : Nat} {f : Nat → Int} (h : KcAt w g f) {k : Nat} (hk : k < 6) (x : Int) : KcAt (w.setCell ⟨g, k, none⟩ (.int .i64 x)) g (fun q => if q = k then x else f q) := by
  unfold KcAt
  rw [heap_setCell_same w g _ _ _ _ h, kc_set f hk]
theorem KcAt.lt {w : World} {g : Nat} {f : Nat → Int} (h : KcAt w g f) : g < w.heap.size := lt_of_block h
theorem KcAt.below {w w' : World} {g : Nat} {f : Nat → Int} (h : KcAt w g f) (hb : Below w.heap.size w w') : KcAt w' g f := by
  unfold KcAt
  rw [hb.block g h.lt]
  exact h
theorem KcAt.other {w : World} {g : Nat} {f : Nat → Int} (h : KcAt w g f) {a : Addr} (ha : g ≠ a.block) (v : Value) : KcAt (w.setCell a v) g f := by
  unfold KcAt
  rw [heap_setCell_other w a g v ha]
  exact h
theorem KcAt.congr {w : World} {g : Nat} {f f' : Nat → Int} (h : KcAt w g f) (e : ∀ k, k < 6 → f k = f' k) : KcAt w g f' := by
  unfold KcAt
  rw [← kc_congr e]
  exact h
theorem KcAt.new (w : World) (f : Nat → Int) : KcAt (w.alloc (.cells (kc f) 50)) w.heap.size f := heap_alloc_new w _
theorem KcAt.alloc {w : World} {g : Nat} {f : Nat → Int} (h : KcAt w g f) (o : Obj) : KcAt (w.alloc o) g f := by
  unfold KcAt
  rw [heap_alloc_old w o h.lt]
  exact h
theorem KcAt.setRow {w : World} {g : Nat} {f : Nat → Int} (h : KcAt w g f) (f' : Nat → Int) : KcAt (w.setRow g (kc f')) g f' := setRow_heap w g _ _ _ _ h
theorem Tryd.info_kc : (Tryd.prog.info? 50).map (fun i => (i.zero, i.size)) = some (some (.agg (kc fun _ => 0)), 6) := by kernel_rfl
theorem Tryd.size_kc (f : Nat → Int) : (Tryd.prog.info? 50).map (·.size) = some (kc f).size := by rw [kc_size]; exact (zero_of_info Tryd.info_kc).2
theorem kc_one (f : Nat → Int) : (kc f).all (·.oneCell') = true := by
  rw [Array.all_eq_true]
  intro i hi
  have hi6 : i < 6 := by rw [kc_size] at hi; exact hi
  have := kc_at f hi6
  rw [Array.getElem?_eq_getElem hi] at this
  rw [Option.some.inj this]
  rfl
theorem kc_same (f g : Nat → Int) : (kc f).size = (kc g).size := by rw [kc_size, kc_size]
theorem Tryd.load_kc {w : World} {g : Nat} {f : Nat → Int} (h : KcAt w g f) : (loadVar 50 ⟨g, 0, none⟩).run Tryd.prog w = .ok (.agg (kc f)) w := run_loadVar_row _ _ _ _ _ _ _ h Tryd.underlying50 rfl (Tryd.size_kc f)

set_option maxRecDepth 100000 in
set_option maxHeartbeats 3200000 in
theorem countsOfKinds_any (ao : Option Addr) (c : Nat) (m : List (List Int)) (w : World) (hg : good m) (hm : MatAt w ao m) :
    Calls Tryd.prog 59 #[.slice ao m.length c] w fun e w' => e = .returned (.agg (kc fun q => cntK m q)) ∧ Below w.heap.size w w' := by
  have hn := hg.1.2.1
  have hmx : m.length ≤ 9223372036854775807 := by omega
  have Hg := Lib.hid hg
  have Hm := Lib.hid hm
  clear hg hm
  go_enter Tryd.func59, Tryd.ntmps59
  go_upto_region 2 with (refine wpList_allocT rfl 50 rfl _ _ Tryd.info_kc ?_)
  generalize hW : World.alloc (World.alloc w _) _ = w1
  have hR : KcAt w1 w.heap.size (fun _ => 0) := by rw [← hW]; exact (KcAt.new w _).alloc _
  have hC : KcAt w1 (w.heap.size + 1) (fun _ => 0) := by
    rw [← hW]
    have := KcAt.new (w.alloc (.cells (kc fun _ => 0) 50)) (fun _ => 0)
    simpa using this
  have hB : Below w.heap.size w w1 := by rw [← hW]; exact ((Below.refl _ w).alloc (Nat.le_refl _) _).alloc (by simp) _
  have hsz : w.heap.size + 2 ≤ w1.heap.size := by have := hC.lt; omega
  clear hW
  have HR := Lib.hid hR
  have HC := Lib.hid hC
  have HB := Lib.hid hB
  clear hR hC hB
  go_wp2_with fail
  refine (kindsOf_any ao c m w1 Hg.out (Hm.out.below HB.out)).mono ?_
  rintro e w2 ⟨v, rfl, hv, hb⟩
  obtain ⟨ka, kcap, vsK, rfl, hp, hk1, hk2⟩ := hv.open
  rw [kinds_len] at hp hk1 ⊢
  have HP := Lib.hid hp
  have HR2 := Lib.hid (HR.out.below hb)
  have HC2 := Lib.hid (HC.out.below hb)
  have HB2 := Lib.hid (HB.out.trans (hb.mono (by omega)))
  have hsz2 : w.heap.size + 2 ≤ w2.heap.size := by have := hb.size; omega
  clear hv hb hp HR HC HB
  go_wp2
  go_loopw [11] (fun i wr => ∃ k : Nat, k ≤ m.length ∧ i = .int .i64 k ∧ KcAt wr (w.heap.size + 1) (fun q => cntP m q k 0) ∧ OnlyW (fun g => g = w.heap.size + 1) w2 wr) (fun i _ => m.length - (intOf i).toNat)
  case atStart => exact ⟨0, Nat.zero_le _, rfl, HC2.out.congr (fun k _ => (cntP_zero m k).symm), OnlyW.refl _ _⟩
  case round =>
    obtain ⟨k, hk, rfl, hc, ho⟩ := hrel
    have Hc := Lib.hid hc
    have Ho := Lib.hid ho
    clear hc ho HC2
    by_cases hlt : k < m.length
    · obtain ⟨b1, o1, r1, d1, e0, hc0, hv0, _, _, _⟩ := (HP.out.only Ho.out (fun g e => by have := e; omega)).rowAt hlt
      have hrow2 := HP.out.rows k hlt
      rw [hv0] at hrow2
      rw [kinds_row hlt] at hc0 hrow2
      subst e0
      have Hrow := Lib.hid hrow2
      clear hv0 hrow2
      go_wp2
      go_loopw [17] (fun i wr => ∃ t : Nat, t ≤ m.length ∧ i = .int .i64 t ∧ KcAt wr (w.heap.size + 1) (fun q => cntP m q k t) ∧ OnlyW (fun g => g = w.heap.size + 1) w2 wr) (fun i _ => m.length - (intOf i).toNat)
      case atStart => exact ⟨0, Nat.zero_le _, rfl, Hc.out, Ho.out⟩
      case round =>
        obtain ⟨t, ht, rfl, hc, ho⟩ := hrel
        clear Hc Ho
        by_cases htl : t < m.length
        · obtain ⟨b2, o2, e2, hc2⟩ := own_at (ownsRow_only Hrow.out ho (fun g hg e => by have := (Hrow.out.lt g hg).1; have := e; omega)) t (by rw [kinds_row hlt]; exact htl)
          rw [gi_kinds hlt htl] at hc2
          have hr := kd_range Hg.out hlt htl
          obtain ⟨q, hq⟩ : ∃ q : Nat, kd m k t = (q : Int) := ⟨(kd m k t).toNat, by omega⟩
          have hq6 : q < 6 := by omega
          have hbd := cntP_bd (m := m) q hn (k := k) (t := t) (by omega) (by omega)
          have hcq := hc.cell hq6
          have hfq := hc.frozen q
          have hst := hc.store hq6 (cntP m q k t + 1)
          have hst2 := hst.congr (f' := fun q => cntP m q k (t + 1)) (fun j hj => by
            show (if j = q then cntP m q k t + 1 else cntP m j k t) = cntP m j k (t + 1)
            rw [cntP_step, hq]
            unfold ind
            by_cases e : j = q
            · subst e; rw [if_pos rfl, if_pos rfl]
            · rw [if_neg e, if_neg (by omega)]; omega)
          have Hos := Lib.hid (ho.setCell (p := ⟨w.heap.size + 1, q, none⟩) rfl (.int .i64 (cntP m q k t + 1)))
          rw [hq] at hc2
          obtain ⟨x, hx⟩ : ∃ x, x = cntP m q k t := ⟨_, rfl⟩
          rw [← hx] at hcq hbd hst2 Hos
          have Hst := Lib.hid hst2
          subst e2
          clear hst hst2 hx hq hr hc ho
          go_wp2
          go_roundw
          case rel => exact ⟨t + 1, by omega, by go_num, Hst.out, Hos.out⟩
          case measure => simp [intOf]; omega
        · obtain rfl : t = m.length := by omega
          have Hc := Lib.hid (hc.congr (fun q _ => cntP_row m q k))
          have Ho := Lib.hid ho
          clear hc ho
          go_wp2
          go_roundw
          case rel => exact ⟨k + 1, by omega, by go_num, Hc.out, Ho.out⟩
          case measure => simp [intOf]; omega
    · obtain rfl : k = m.length := by omega
      have HC := Lib.hid (Hc.out.congr (f' := fun q => cntK m q) (fun q _ => cntP_end m q))
      have HRr := Lib.hid (show KcAt wr w.heap.size (fun _ => 0) from by
        have h := HR2.out
        unfold KcAt at h ⊢
        rw [Ho.out.block w.heap.size (fun e => by have := e; omega)]
        exact h)
      have HB := Lib.hid (HB2.out.trans (Ho.out.below (B := w.heap.size) (fun g e => by have := e; omega)))
      clear Hc HR2 HP
      go_wp2_with (first | (refine wpList_loadG rfl 50 _ rfl _ rfl _ _ HC.out Tryd.underlying50 rfl (Tryd.size_kc _) ?_) | (refine wpList_storeG rfl 50 _ _ rfl _ _ _ rfl rfl HRr.out (Tryd.size_kc _) (kc_same _ _) (kc_one _) ?_))
      have HR3 := Lib.hid (HRr.out.setRow (fun q => cntK m q))
      have HB3 := Lib.hid (below_setRowT HB.out (Nat.le_refl _) (kc fun q => cntK m q))
      refine bodyPost_ret (v := .agg (kc fun q => cntK m q)) ?_ rfl ⟨rfl, HB3.out⟩
      exact results_cell_one rfl _ _ w.heap.size _ rfl (Tryd.load_kc HR3.out)
end Go.Proofs.YtnhkclnloiiihaaDoor

