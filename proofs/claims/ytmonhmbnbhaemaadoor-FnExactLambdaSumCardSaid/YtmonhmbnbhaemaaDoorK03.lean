/- Parts of proofs: contracts and plain facts. Conditions: as each says. -/
import Derived.Test.YtmonhmbnbhaemaaDoorK02
import Derived.Deep.WholeRow
import Derived.Deep.MidRow
import Derived.Laws.OwnMore
import Derived.Maps.AppendAt
namespace Go.Proofs.YtmonhmbnbhaemaaDoor

theorem ite_iff {p q : Prop} [Decidable p] [Decidable q] {x y : Int} (h : p ↔ q) : (if p then x else y) = if q then x else y := by
  by_cases hp : p
  · rw [if_pos hp, if_pos (h.1 hp)]
  · rw [if_neg hp, if_neg (fun hq => hp (h.2 hq))]

/-- the height where the corner sum is c -/
def hOf (c : Nat → Nat → Int) (i j : Nat) : Int := (i : Int) + (j : Int) - 2 * c i j
/-- the numbers that corner sums leave -/
def dC (c : Nat → Nat → Int) (i j : Nat) : Int := c (i + 1) (j + 1) - c i (j + 1) - c (i + 1) j + c i j
/-- the table of heights, the table of numbers -/
def htT (n : Nat) (c : Nat → Nat → Int) : List (List Int) := tab (n + 1) (n + 1) (hOf c)
def unC (n : Nat) (c : Nat → Nat → Int) : List (List Int) := tab n n (dC c)
def ht (m : List (List Int)) : List (List Int) := htT m.length (S2 m)

/-- corner sums of a sign matrix, told by their neighbours -/
structure Crn (n : Nat) (c : Nat → Nat → Int) : Prop where
  top : ∀ j, j ≤ n → c 0 j = 0
  left : ∀ i, i ≤ n → c i 0 = 0
  right : ∀ i, i ≤ n → c i n = i
  bottom : ∀ j, j ≤ n → c n j = j
  across : ∀ i j, i ≤ n → j < n → c i j ≤ c i (j + 1) ∧ c i (j + 1) ≤ c i j + 1
  down : ∀ i j, i < n → j ≤ n → c i j ≤ c (i + 1) j ∧ c (i + 1) j ≤ c i j + 1

theorem Crn.le_i {n : Nat} {c : Nat → Nat → Int} (h : Crn n c) {i j : Nat} (hi : i ≤ n) (hj : j ≤ n) : 0 ≤ c i j ∧ c i j ≤ i := by
  induction i with
  | zero => rw [h.top j hj]; omega
  | succ i ih =>
    have := ih (by omega)
    have := h.down i j (by omega) hj
    omega
theorem Crn.le_j {n : Nat} {c : Nat → Nat → Int} (h : Crn n c) {i j : Nat} (hi : i ≤ n) (hj : j ≤ n) : c i j ≤ j := by
  induction j with
  | zero => rw [h.left i hi]; omega
  | succ j ih =>
    have := ih (by omega)
    have := h.across i j hi (by omega)
    omega
theorem Crn.ge {n : Nat} {c : Nat → Nat → Int} (h : Crn n c) {i j : Nat} (hi : i ≤ n) (hj : j ≤ n) : (i : Int) + j - n ≤ c i j := by
  obtain ⟨k, rfl⟩ : ∃ k, n = j + k := ⟨n - j, by omega⟩
  clear hj
  induction k generalizing j with
  | zero => have := h.right i hi; simp only [Nat.add_zero] at this; rw [this]; omega
  | succ k ih =>
    have h2 := ih (j := j + 1) (by rw [show j + 1 + k = j + (k + 1) from by omega]; exact h) (by omega)
    have := h.across i j hi (by omega)
    omega

/-- heights are in 0..n -/
theorem Crn.hbound {n : Nat} {c : Nat → Nat → Int} (h : Crn n c) {i j : Nat} (hi : i ≤ n) (hj : j ≤ n) : 0 ≤ hOf c i j ∧ hOf c i j ≤ n := by
  have h1 := h.le_i hi hj
  have h2 := h.le_j hi hj
  have h3 := h.ge hi hj
  unfold hOf
  omega

theorem good_crn {m : List (List Int)} (h : good m) : Crn m.length (S2 m) := by
  have rowS : ∀ i j, S2 m (i + 1) j = S2 m i j + sumK (gr m i) j := fun i j => by rw [S2_succ, sumK_sumF]
  have colS : ∀ i j, i ≤ m.length → j < m.length → S2 m i (j + 1) = S2 m i j + sumK (gr (tr m) j) i := fun i j hi hj => by
    rw [S2_cols hi (show j + 1 ≤ m.length by omega), S2_cols hi (show j ≤ m.length by omega)]
    rfl
  have rowOk : ∀ i j, i < m.length → j ≤ m.length → 0 ≤ sumK (gr m i) j ∧ sumK (gr m i) j ≤ 1 := fun i j hi hj => (h.2.1 i hi).1 j (by rw [h.1.2.2 i hi]; exact hj)
  have colOk : ∀ i j, i < m.length → j ≤ m.length → 0 ≤ sumK (gr (tr m) i) j ∧ sumK (gr (tr m) i) j ≤ 1 := fun i j hi hj => (h.2.2 i (by rw [tr_len]; exact hi)).1 j (by rw [tr_row hi]; exact hj)
  refine ⟨fun j _ => rfl, fun i _ => S2_zero_col m i, fun i hi => ?_, fun j hj => ?_, fun i j hi hj => ?_, fun i j hi hj => ?_⟩
  · induction i with
    | zero => rfl
    | succ i ih =>
      rw [rowS, ih (by omega)]
      have := (h.2.1 i (by omega)).2
      rw [h.1.2.2 i (by omega)] at this
      omega
  · induction j with
    | zero => exact S2_zero_col m _
    | succ j ih =>
      rw [colS _ j (Nat.le_refl _) (by omega), ih (by omega)]
      have := (h.2.2 j (by rw [tr_len]; omega)).2
      rw [tr_row (by omega)] at this
      omega
  · rw [colS i j hi hj]
    have := colOk j i hj hi
    omega
  · rw [rowS i j]
    have := rowOk i j hi hj
    omega

theorem unC_len (n : Nat) (c : Nat → Nat → Int) : (unC n c).length = n := tab_len _ _ _
theorem htT_len (n : Nat) (c : Nat → Nat → Int) : (htT n c).length = n + 1 := tab_len _ _ _
theorem gi_htT {n : Nat} {c : Nat → Nat → Int} {i j : Nat} (hi : i ≤ n) (hj : j ≤ n) : gi (gr (htT n c) i) j = hOf c i j := gi_tab (by omega) (by omega)
theorem gi_unC {n : Nat} {c : Nat → Nat → Int} {i j : Nat} (hi : i < n) (hj : j < n) : gi (gr (unC n c) i) j = dC c i j := gi_tab hi hj
theorem htT_small {n : Nat} (c : Nat → Nat → Int) (h : n ≤ 6) : Small (htT n c) := ⟨by rw [htT_len]; omega, fun i hi => by rw [htT_len] at hi; unfold htT; rw [tab_row hi]; omega⟩
theorem unC_small {n : Nat} (c : Nat → Nat → Int) (h : n ≤ 6) : Small (unC n c) := ⟨by rw [unC_len]; omega, fun i hi => by rw [unC_len] at hi; unfold unC; rw [tab_row hi]; omega⟩

theorem unC_S2 {m : List (List Int)} (h : square m) : unC m.length (S2 m) = m := by
  refine (eq_tab rfl h.2.2 fun i j hi hj => ?_).symm
  have := S2_step m i j
  unfold dC
  omega

/-- the numbers by heights -/
theorem dC_h (c : Nat → Nat → Int) (i j : Nat) : hOf c i (j + 1) - hOf c i j + hOf c (i + 1) j - hOf c (i + 1) (j + 1) = 2 * dC c i j := by
  unfold hOf dC
  omega

/-- corner sums of the table with given ones -/
theorem S2_unC {n : Nat} {c : Nat → Nat → Int} (h0 : ∀ j, j ≤ n → c 0 j = 0) (h1 : ∀ i, i ≤ n → c i 0 = 0) : ∀ i j, i ≤ n → j ≤ n → S2 (unC n c) i j = c i j := by
  intro i
  induction i with
  | zero => intro j _ hj; rw [h0 j hj]; rfl
  | succ i ih =>
    intro j hi
    induction j with
    | zero => intro _; rw [h1 _ hi]; exact S2_zero_col _ _
    | succ j ihj =>
      intro hj
      rw [S2_step, ih (j + 1) (by omega) hj, ihj (by omega), ih j (by omega) (by omega), gi_unC (by omega) (by omega)]
      unfold dC
      omega

theorem unC_square {n : Nat} (c : Nat → Nat → Int) (h1 : 1 ≤ n) (h6 : n ≤ 6) : square (unC n c) := ⟨by rw [unC_len]; exact h1, by rw [unC_len]; exact h6, fun i hi => by rw [unC_len] at hi ⊢; exact tab_row hi⟩

/-- they are those of a sign matrix -/
theorem crn_good {n : Nat} {c : Nat → Nat → Int} (h : Crn n c) (h1 : 1 ≤ n) (h6 : n ≤ 6) : good (unC n c) := by
  have hS := S2_unC h.top h.left
  have hsq := unC_square c h1 h6
  have rowS : ∀ i j, S2 (unC n c) (i + 1) j = S2 (unC n c) i j + sumK (gr (unC n c) i) j := fun i j => by rw [S2_succ, sumK_sumF]
  have colS : ∀ i j, i ≤ n → j < n → S2 (unC n c) i (j + 1) = S2 (unC n c) i j + sumK (gr (tr (unC n c)) j) i := fun i j hi hj => by
    rw [S2_cols (by rw [unC_len]; exact hi) (by rw [unC_len]; omega), S2_cols (by rw [unC_len]; exact hi) (by rw [unC_len]; omega)]
    rfl
  have rK : ∀ i j, i < n → j ≤ n → sumK (gr (unC n c) i) j = c (i + 1) j - c i j := fun i j hi hj => by
    have := rowS i j
    rw [hS (i + 1) j (by omega) hj, hS i j (by omega) hj] at this
    omega
  have cK : ∀ i j, i ≤ n → j < n → sumK (gr (tr (unC n c)) j) i = c i (j + 1) - c i j := fun i j hi hj => by
    have := colS i j hi hj
    rw [hS i (j + 1) hi (by omega), hS i j hi (by omega)] at this
    omega
  refine ⟨hsq, fun i hi => ?_, fun j hj => ?_⟩
  · have hl := hsq.2.2 i hi
    rw [unC_len] at hi hl
    unfold lineOk
    rw [hl]
    refine ⟨fun k hk => ?_, ?_⟩
    · rw [rK i k hi hk]; have := h.down i k hi hk; omega
    · rw [rK i n hi (Nat.le_refl _), h.right i (by omega), h.right (i + 1) (by omega)]; omega
  · rw [tr_len, unC_len] at hj
    have hl : (gr (tr (unC n c)) j).length = n := by rw [tr_row (by rw [unC_len]; exact hj), unC_len]
    unfold lineOk
    rw [hl]
    refine ⟨fun k hk => ?_, ?_⟩
    · rw [cK k j hk hj]; have := h.across k j hk hj; omega
    · rw [cK n j (Nat.le_refl _) hj, h.bottom j (by omega), h.bottom (j + 1) (by omega)]; omega

theorem hOf_lt {a b : Nat → Nat → Int} {i j : Nat} : hOf a i j < hOf b i j ↔ b i j < a i j := by unfold hOf; omega
theorem hOf_eq {a b : Nat → Nat → Int} {i j : Nat} : hOf a i j = hOf b i j ↔ a i j = b i j := by unfold hOf; omega
theorem htT_congr {n : Nat} {a b : Nat → Nat → Int} (h : ∀ i j, i ≤ n → j ≤ n → a i j = b i j) : htT n a = htT n b := by
  refine eq_tab (htT_len _ _) (fun i hi => tab_row hi) fun i j hi hj => ?_
  rw [gi_htT (by omega) (by omega), hOf_eq]
  exact h i j (by omega) (by omega)
theorem htT_inj {n : Nat} {a b : Nat → Nat → Int} (h : htT n a = htT n b) : ∀ i j, i ≤ n → j ≤ n → a i j = b i j := by
  intro i j hi hj
  rw [← hOf_eq, ← gi_htT hi hj, ← gi_htT hi hj, h]
theorem unC_congr {n : Nat} {a b : Nat → Nat → Int} (h : ∀ i j, i ≤ n → j ≤ n → a i j = b i j) : unC n a = unC n b := by
  refine eq_tab (unC_len _ _) (fun i hi => tab_row hi) fun i j hi hj => ?_
  rw [gi_unC hi hj]
  unfold dC
  rw [h _ _ (by omega) (by omega), h _ _ (by omega) (by omega), h _ _ (by omega) (by omega), h _ _ (by omega) (by omega)]

/-- the greater and the lesser corner sums: the meet's and the join's -/
def maxC (a b : Nat → Nat → Int) (i j : Nat) : Int := max (a i j) (b i j)
def minC2 (a b : Nat → Nat → Int) (i j : Nat) : Int := min (a i j) (b i j)
theorem Crn.max {n : Nat} {a b : Nat → Nat → Int} (h : Crn n a) (k : Crn n b) : Crn n (maxC a b) := by
  unfold maxC
  refine ⟨fun j hj => ?_, fun i hi => ?_, fun i hi => ?_, fun j hj => ?_, fun i j hi hj => ?_, fun i j hi hj => ?_⟩
  · rw [h.top j hj, k.top j hj]; rfl
  · rw [h.left i hi, k.left i hi]; rfl
  · rw [h.right i hi, k.right i hi]; omega
  · rw [h.bottom j hj, k.bottom j hj]; omega
  · have := h.across i j hi hj; have := k.across i j hi hj; omega
  · have := h.down i j hi hj; have := k.down i j hi hj; omega
theorem Crn.min {n : Nat} {a b : Nat → Nat → Int} (h : Crn n a) (k : Crn n b) : Crn n (minC2 a b) := by
  unfold minC2
  refine ⟨fun j hj => ?_, fun i hi => ?_, fun i hi => ?_, fun j hj => ?_, fun i j hi hj => ?_, fun i j hi hj => ?_⟩
  · rw [h.top j hj, k.top j hj]; rfl
  · rw [h.left i hi, k.left i hi]; rfl
  · rw [h.right i hi, k.right i hi]; omega
  · rw [h.bottom j hj, k.bottom j hj]; omega
  · have := h.across i j hi hj; have := k.across i j hi hj; omega
  · have := h.down i j hi hj; have := k.down i j hi hj; omega

/-- flips: what the height of a cell may be changed by -/
def up1 (h : Nat → Nat → Int) (i j : Nat) : Prop := h (i - 1) j = h i j + 1 ∧ h i (j - 1) = h i j + 1 ∧ h i (j + 1) = h i j + 1 ∧ h (i + 1) j = h i j + 1
def down1 (h : Nat → Nat → Int) (i j : Nat) : Prop := h (i - 1) j = h i j - 1 ∧ h i (j - 1) = h i j - 1 ∧ h i (j + 1) = h i j - 1 ∧ h (i + 1) j = h i j - 1
instance (h : Nat → Nat → Int) (i j : Nat) : Decidable (up1 h i j) := by unfold up1; infer_instance
instance (h : Nat → Nat → Int) (i j : Nat) : Decidable (down1 h i j) := by unfold down1; infer_instance
def way (h : Nat → Nat → Int) (i j : Nat) : Int := if up1 h i j then 1 else if down1 h i j then -1 else 0
def setC (c : Nat → Nat → Int) (i j : Nat) (x : Int) : Nat → Nat → Int := fun a b => if a = i ∧ b = j then x else c a b

theorem hOf_setC (c : Nat → Nat → Int) (i j : Nat) (x : Int) (a b : Nat) : hOf (setC c i j x) a b = if a = i ∧ b = j then (i : Int) + j - 2 * x else hOf c a b := by
  unfold hOf setC
  split
  · next h => rw [h.1, h.2]
  · rfl

theorem Crn.flip {n : Nat} {c : Nat → Nat → Int} (h : Crn n c) {i j : Nat} (hi : 0 < i) (hi2 : i < n) (hj : 0 < j) (hj2 : j < n) (hw : way (hOf c) i j ≠ 0) : Crn n (setC c i j (c i j - way (hOf c) i j)) := by
  obtain ⟨i, rfl⟩ : ∃ k, i = k + 1 := ⟨i - 1, by omega⟩
  obtain ⟨j, rfl⟩ : ∃ k, j = k + 1 := ⟨j - 1, by omega⟩
  have key : (way (hOf c) (i + 1) (j + 1) = 1 ∧ c i (j + 1) = c (i + 1) (j + 1) - 1 ∧ c (i + 1) j = c (i + 1) (j + 1) - 1 ∧ c (i + 1) (j + 1 + 1) = c (i + 1) (j + 1) ∧ c (i + 1 + 1) (j + 1) = c (i + 1) (j + 1)) ∨
      (way (hOf c) (i + 1) (j + 1) = -1 ∧ c i (j + 1) = c (i + 1) (j + 1) ∧ c (i + 1) j = c (i + 1) (j + 1) ∧ c (i + 1) (j + 1 + 1) = c (i + 1) (j + 1) + 1 ∧ c (i + 1 + 1) (j + 1) = c (i + 1) (j + 1) + 1) := by
    unfold way at hw ⊢
    by_cases h1 : up1 (hOf c) (i + 1) (j + 1)
    · rw [if_pos h1]
      unfold up1 hOf at h1
      simp only [Nat.add_sub_cancel] at h1
      refine .inl ⟨rfl, ?_⟩
      omega
    · rw [if_neg h1] at hw ⊢
      by_cases h2 : down1 (hOf c) (i + 1) (j + 1)
      · rw [if_pos h2]
        unfold down1 hOf at h2
        simp only [Nat.add_sub_cancel] at h2
        refine .inr ⟨rfl, ?_⟩
        omega
      · rw [if_neg h2] at hw
        exact absurd rfl hw
  have hs : ∀ a b, setC c (i + 1) (j + 1) (c (i + 1) (j + 1) - way (hOf c) (i + 1) (j + 1)) a b = if a = i + 1 ∧ b = j + 1 then c (i + 1) (j + 1) - way (hOf c) (i + 1) (j + 1) else c a b := fun _ _ => rfl
  refine ⟨fun b hb => ?_, fun a ha => ?_, fun a ha => ?_, fun b hb => ?_, fun a b ha hb => ?_, fun a b ha hb => ?_⟩
  · rw [hs, if_neg (by omega)]; exact h.top b hb
  · rw [hs, if_neg (by omega)]; exact h.left a ha
  · rw [hs, if_neg (by omega)]; exact h.right a ha
  · rw [hs, if_neg (by omega)]; exact h.bottom b hb
  · have h0 := h.across a b ha hb
    rw [hs, hs]
    by_cases e1 : a = i + 1
    · subst e1
      by_cases e2 : b = j + 1
      · subst e2
        rw [if_pos ⟨rfl, rfl⟩, if_neg (by omega)]
        omega
      · by_cases e3 : b = j
        · subst e3
          rw [if_neg (by omega), if_pos ⟨rfl, rfl⟩]
          omega
        · rw [if_neg (by omega), if_neg (by omega)]; exact h0
    · rw [if_neg (by omega), if_neg (by omega)]; exact h0
  · have h0 := h.down a b ha hb
    rw [hs, hs]
    by_cases e1 : b = j + 1
    · subst e1
      by_cases e2 : a = i + 1
      · subst e2
        rw [if_pos ⟨rfl, rfl⟩, if_neg (by omega)]
        omega
      · by_cases e3 : a = i
        · subst e3
          rw [if_neg (by omega), if_pos ⟨rfl, rfl⟩]
          omega
        · rw [if_neg (by omega), if_neg (by omega)]; exact h0
    · rw [if_neg (by omega), if_neg (by omega)]; exact h0
end Go.Proofs.YtmonhmbnbhaemaaDoor

namespace Go.Proofs.YtmonhmbnbhaemaaDoor
open Go.RowKit

/-- the number of rows, then the heights, row by row -/
def tl (n : Int) (f : Nat → Nat → Int) : List Value := .int .i64 n :: (List.range 49).map fun k => .int .i64 (f (k / 7) (k % 7))
def tc (n : Int) (f : Nat → Nat → Int) : Array Value := (tl n f).toArray
/-- heights, 0 behind them -/
def pad (n : Nat) (h : Nat → Nat → Int) (i j : Nat) : Int := if i ≤ n ∧ j ≤ n then h i j else 0
def upd (f : Nat → Nat → Int) (i j : Nat) (x : Int) : Nat → Nat → Int := fun a b => if a = i ∧ b = j then x else f a b

theorem tc_size (n : Int) (f : Nat → Nat → Int) : (tc n f).size = 50 := by simp [tc, tl]
theorem tc_zero (n : Int) (f : Nat → Nat → Int) : (tc n f)[0]? = some (.int .i64 n) := by simp [tc, tl]
theorem tc_at (n : Int) (f : Nat → Nat → Int) {i j : Nat} (hi : i < 7) (hj : j < 7) : (tc n f)[1 + i * 7 + j]? = some (.int .i64 (f i j)) := by
  have e : 1 + i * 7 + j = (i * 7 + j) + 1 := by omega
  rw [e]
  simp only [tc, tl, List.getElem?_toArray, List.getElem?_cons_succ, List.getElem?_map]
  rw [List.getElem?_range (by omega)]
  simp only [Option.map_some]
  rw [show (i * 7 + j) / 7 = i from by omega, show (i * 7 + j) % 7 = j from by omega]
theorem tc_congr {n : Int} {f f' : Nat → Nat → Int} (h : ∀ i j, i < 7 → j < 7 → f i j = f' i j) : tc n f = tc n f' := by
  unfold tc tl
  congr 2
  refine List.map_congr_left fun k hk => ?_
  rw [List.mem_range] at hk
  rw [h (k / 7) (k % 7) (by omega) (by omega)]
theorem tc_set (n : Int) (f : Nat → Nat → Int) {i j : Nat} (hi : i < 7) (hj : j < 7) (x : Int) : (tc n f).setIfInBounds (1 + i * 7 + j) (.int .i64 x) = tc n (upd f i j x) := by
  apply Array.ext_getElem?
  intro k
  rw [Array.getElem?_setIfInBounds]
  by_cases e : 1 + i * 7 + j = k
  · subst e
    rw [if_pos rfl, if_pos (by rw [tc_size]; omega), tc_at n _ hi hj]
    simp [upd]
  · rw [if_neg e]
    by_cases hk : k < 50
    · by_cases h0 : k = 0
      · subst h0; rw [tc_zero, tc_zero]
      · obtain ⟨a, b, ha, hb, rfl⟩ : ∃ a b, a < 7 ∧ b < 7 ∧ k = 1 + a * 7 + b := ⟨(k - 1) / 7, (k - 1) % 7, by omega, by omega, by omega⟩
        rw [tc_at n f ha hb, tc_at n _ ha hb]
        unfold upd
        rw [if_neg (fun h => e (by rw [h.1, h.2]))]
    · rw [Array.getElem?_eq_none (by rw [tc_size]; omega), Array.getElem?_eq_none (by rw [tc_size]; omega)]

end Go.Proofs.YtmonhmbnbhaemaaDoor

namespace Go.Proofs.YtmonhmbnbhaemaaDoor
open Go.RowKit

section
variable {P : Program}

theorem wpList_allocT {ops : Array Oper} {rest : List Oper} {o : Oper} {a : Act} {w : World} {Q : Exit → Act → World → Prop} (hg : o.guard = none) (t : TypeId) (ho : o.op = .alloc t) (z : Array Value) (n : Nat)
    (hz : (P.info? t).map (fun i => (i.zero, i.size)) = some (some (.agg z), n))
    (h : wpList P ops Q rest (a.put o.dst (.pointer (some ⟨w.heap.size, 0, none⟩))) (w.alloc (.cells z t))) : wpList P ops Q (o :: rest) a w := by
  refine wpList_plain hg fun K hK => ?_
  unfold Oper.wp execOp
  simp only [ho, Instr.alloc, Sem.run_bind, (zero_of_info hz).1, Result.andThen_ok, newVar, newRow, run_newObj_alloc, Sem.run_pure, Value.cells]
  exact hK _ _ h

theorem wpList_boxT {ops : Array Oper} {rest : List Oper} {o : Oper} {a : Act} {w : World} {Q : Exit → Act → World → Prop} (hg : o.guard = none) (t : TypeId) (x : Operand) (ho : o.op = .box t x)
    (cells : Array Value) (hx : a.eval x = .agg cells)
    (h : wpList P ops Q rest (a.put o.dst (.pointer (some ⟨w.heap.size, 0, none⟩))) (w.alloc (.cells cells t))) : wpList P ops Q (o :: rest) a w := by
  refine wpList_plain hg fun K hK => ?_
  unfold Oper.wp execOp
  simp only [ho, hx, Sem.run_bind, Instr.box, newVar, newRow, run_newObj_alloc, Sem.run_pure, Result.andThen_ok, Value.cells]
  exact hK _ _ h

theorem wpList_buildT1 {ops : Array Oper} {rest : List Oper} {o : Oper} {a : Act} {w : World} {Q : Exit → Act → World → Prop} (hg : o.guard = none) (t : TypeId) (i : Nat) (x : Operand) (ho : o.op = .build t #[(i, x)])
    (v : Value) (hv : a.eval x = v) (cells : Array Value) (hb : P.built t [(i, v)] = some cells)
    (h : wpList P ops Q rest (a.put o.dst (.agg cells)) w) : wpList P ops Q (o :: rest) a w := by
  subst hv
  have e : ((#[(i, x)] : Array (Nat × Operand)).map fun (i, x) => (i, a.eval x)).toList = [(i, a.eval x)] := by simp
  refine wpList_build hg t _ ho (by rw [e, hb]; rfl) ?_
  rw [e, hb]
  exact h

theorem wpList_buildT0 {ops : Array Oper} {rest : List Oper} {o : Oper} {a : Act} {w : World} {Q : Exit → Act → World → Prop} (hg : o.guard = none) (t : TypeId) (ho : o.op = .build t #[])
    (cells : Array Value) (hb : P.built t [] = some cells)
    (h : wpList P ops Q rest (a.put o.dst (.agg cells)) w) : wpList P ops Q (o :: rest) a w := by
  have e : ((#[] : Array (Nat × Operand)).map fun (i, x) => (i, a.eval x)).toList = [] := by simp
  refine wpList_build hg t _ ho (by rw [e, hb]; rfl) ?_
  rw [e, hb]
  exact h

/-- a store into the variable that was made last -/
theorem wpList_storeT {ops : Array Oper} {rest : List Oper} {o : Oper} {a : Act} {w : World} {Q : Exit → Act → World → Prop} (hgd : o.guard = none) (ty : TypeId) (x y : Operand) (ho : o.op = .store ty x y)
    (cells old : Array Value) (g : Nat) (hgs : w.heap.size = g) (hx : a.eval x = .pointer (some ⟨g, 0, none⟩)) (hy : a.eval y = .agg cells)
    (hi : (P.info? ty).map (·.size) = some cells.size) (hold : old.size = cells.size) (h1 : cells.all (·.oneCell') = true)
    (h : wpList P ops Q rest (a.put o.dst undef) (w.alloc (.cells cells ty))) : wpList P ops Q (o :: rest) a (w.alloc (.cells old ty)) := by
  subst hgs
  refine wpList_store_row hgd ty x y ho w.heap.size cells hx hy ty old (heap_alloc_new w _) hi hold h1 ?_
  rw [World.setRow_alloc_new]
  exact h

/-- .. into the variable at block g -/
theorem wpList_storeG {ops : Array Oper} {rest : List Oper} {o : Oper} {a : Act} {w : World} {Q : Exit → Act → World → Prop} (hgd : o.guard = none) (ty : TypeId) (x y : Operand) (ho : o.op = .store ty x y)
    (g : Nat) (cells old : Array Value) (hx : a.eval x = .pointer (some ⟨g, 0, none⟩)) (hy : a.eval y = .agg cells)
    (hg : w.heap[g]? = some (.cells old ty (0, 0)))
    (hi : (P.info? ty).map (·.size) = some cells.size) (hold : old.size = cells.size) (h1 : cells.all (·.oneCell') = true)
    (h : wpList P ops Q rest (a.put o.dst undef) (w.setRow g cells)) : wpList P ops Q (o :: rest) a w :=
  wpList_store_row hgd ty x y ho g cells hx hy ty old hg hi hold h1 h

theorem wpList_loadG {ops : Array Oper} {rest : List Oper} {o : Oper} {a : Act} {w : World} {Q : Exit → Act → World → Prop} (hgd : o.guard = none) (ty : TypeId) (x : Operand) (ho : o.op = .load ty x)
    (g : Nat) (hx : a.eval x = .pointer (some ⟨g, 0, none⟩)) (cs : Array Value) (d : TypeDesc) (hg : w.heap[g]? = some (.cells cs ty (0, 0)))
    (hu : P.underlying ty = some d) (hd : (match d with | .struct _ | .array _ _ => true | _ => false) = true) (hi : (P.info? ty).map (·.size) = some cs.size)
    (h : wpList P ops Q rest (a.put o.dst (.agg cs)) w) : wpList P ops Q (o :: rest) a w :=
  wpList_load_row hgd ty x ho g hx ty cs (0, 0) d hg hu hd hi h

/-- results: a variable and a temporary; two variables and a temporary -/
theorem results_cell_one {fn : Func} {p : Tmp} {ty : TypeId} (h : fn.results = #[.cell p ty]) (tmps : Array Value) (w : World) (g : Nat) (cs : Array Value)
    (hp : tmps.getD p undef = .pointer (some ⟨g, 0, none⟩)) (hl : (loadVar ty ⟨g, 0, none⟩).run P w = .ok (.agg cs) w) :
    (results fn tmps).run P w = .ok (.agg cs) w := by
  have hp' : tmps[p]?.getD undef = .pointer (some ⟨g, 0, none⟩) := by simpa using hp
  simp [results, h, hp', asAddr, hl]
theorem results_cell_two {fn : Func} {p q : Tmp} {ty : TypeId} (h : fn.results = #[.cell p ty, .tmp q]) (tmps : Array Value) (w : World) (g : Nat) (cs : Array Value)
    (hp : tmps.getD p undef = .pointer (some ⟨g, 0, none⟩)) (hl : (loadVar ty ⟨g, 0, none⟩).run P w = .ok (.agg cs) w) :
    (results fn tmps).run P w = .ok (.tuple #[.agg cs, tmps.getD q undef]) w := by
  have hp' : tmps[p]?.getD undef = .pointer (some ⟨g, 0, none⟩) := by simpa using hp
  simp [results, h, hp', asAddr, hl]
theorem results_cell_three {fn : Func} {p p2 q : Tmp} {ty : TypeId} (h : fn.results = #[.cell p ty, .cell p2 ty, .tmp q]) (tmps : Array Value) (w : World) (g g2 : Nat) (cs cs2 : Array Value)
    (hp : tmps.getD p undef = .pointer (some ⟨g, 0, none⟩)) (hl : (loadVar ty ⟨g, 0, none⟩).run P w = .ok (.agg cs) w)
    (hp2 : tmps.getD p2 undef = .pointer (some ⟨g2, 0, none⟩)) (hl2 : (loadVar ty ⟨g2, 0, none⟩).run P w = .ok (.agg cs2) w) :
    (results fn tmps).run P w = .ok (.tuple #[.agg cs, .agg cs2, tmps.getD q undef]) w := by
  have hp' : tmps[p]?.getD undef = .pointer (some ⟨g, 0, none⟩) := by simpa using hp
  have hp2' : tmps[p2]?.getD undef = .pointer (some ⟨g2, 0, none⟩) := by simpa using hp2
  simp [results, h, hp', hp2', asAddr, hl, hl2]
end

def z0 : Nat → Nat → Int := fun _ _ => 0
theorem tc_one (n : Int) (f : Nat → Nat → Int) : (tc n f).all (·.oneCell') = true := by
  rw [Array.all_eq_true_iff_forall_mem]
  intro v hv
  simp only [tc, tl, List.mem_toArray, List.mem_cons, List.mem_map] at hv
  rcases hv with rfl | ⟨k, _, rfl⟩ <;> rfl
theorem tc_same (n k : Int) (f g : Nat → Nat → Int) : (tc n f).size = (tc k g).size := by rw [tc_size, tc_size]

theorem two_below (w : World) (o o2 : Obj) : Below w.heap.size w ((w.alloc o).alloc o2) := ((Below.refl _ w).alloc (Nat.le_refl _) o).alloc (by simp) o2
theorem below_setRowT {B g : Nat} {w0 w : World} (hb : Below B w0 w) (hBg : B ≤ g) (cs : Array Value) : Below B w0 (w.setRow g cs) :=
  hb.trans ⟨rfl, rfl, rfl, by simp [World.setRow], fun k hk => Go.setRow_other w g k cs (by omega)⟩
end Go.Proofs.YtmonhmbnbhaemaaDoor

namespace Go.Proofs.YtmonhmbnbhaemaaDoor
open Go.RowKit

theorem OwnP.more {w : World} {B : Nat} {v : Value} {M : List (List Int)} {r : List Int} {vs : List Value} (h : OwnP w B v M.length M M.length vs) : OwnP w B v M.length (M ++ [r]) M.length vs :=
  ⟨h.top, fun i hi => by rw [gr_lt (by simp; omega), List.getElem_append_left hi, ← gr_lt hi]; exact h.rows i hi, h.apart⟩
theorem gr_last (M : List (List Int)) (r : List Int) : gr (M ++ [r]) M.length = r := by
  rw [gr_lt (by simp)]
  simp
end Go.Proofs.YtmonhmbnbhaemaaDoor

namespace Go.Proofs.YtmonhmbnbhaemaaDoor
open Go.RowKit

/-- the blocks from lo up to hi are as they were -/
def Same (lo hi : Nat) (w w' : World) : Prop := ∀ g, lo ≤ g → g < hi → w'.heap[g]? = w.heap[g]?
theorem Same.refl (lo hi : Nat) (w : World) : Same lo hi w w := fun _ _ _ => rfl
theorem Same.trans {lo hi : Nat} {a b c : World} (h : Same lo hi a b) (k : Same lo hi b c) : Same lo hi a c := fun g h1 h2 => (k g h1 h2).trans (h g h1 h2)
theorem Same.of_below {lo hi B : Nat} {w w' : World} (h : Below B w w') (hB : hi ≤ B) : Same lo hi w w' := fun g _ h2 => h.block g (by omega)
theorem Same.of_grown {lo hi : Nat} {w w' : World} {row : Option Nat} (h : w.grownBy w' row) (hs : hi ≤ w.heap.size) (hr : ∀ g, row = some g → g < lo ∨ hi ≤ g) : Same lo hi w w' :=
  fun g h1 h2 => h.block g (by omega) (fun e => by have := hr g e.symm; omega)
theorem ownsRow_same {w w' : World} {B : Nat} {e : TypeId} {v : Value} {n : Nat} {xs : List Value} (h : w.ownsRow B e 1 v n xs) (hs : Same B w.heap.size w w') : w'.ownsRow B e 1 v n xs := by
  refine ⟨h.1, ?_⟩
  rcases h.2 with h0 | ⟨g, cap, cur, rfl, hg, hh, r⟩
  · exact .inl h0
  · exact .inr ⟨g, cap, cur, rfl, hg, by rw [hs g hg (lt_of_block hh)]; exact hh, r⟩
theorem OwnP.same {w w' : World} {B n k : Nat} {v : Value} {m : List (List Int)} {vs : List Value} (h : OwnP w B v n m k vs) (hs : Same B w.heap.size w w') : OwnP w' B v n m k vs :=
  ⟨ownsRow_same h.top hs, fun i hi => ownsRow_same (h.rows i hi) hs, h.apart⟩
/-- a row of an owned table: where its slice lies, and that it is owned -/
theorem OwnP.rowAt {w : World} {B n c : Nat} {ao : Option Addr} {m : List (List Int)} {vs : List Value} (h : OwnP w B (.slice ao n c) n m n vs) {i : Nat} (hi : i < n) :
    ∃ b o r d, ao = some ⟨b, o, none⟩ ∧ w.cell? ⟨b, o + i, none⟩ = some (.slice r (gr m i).length d) ∧ vs.getD i undef = .slice r (gr m i).length d ∧ OwnI w B (.slice r (gr m i).length d) (gr m i) ∧ (gr m i).length ≤ d ∧ d ≤ 9223372036854775807 := by
  obtain ⟨ao', c', hv, _, _, hcells⟩ := ownsRow_read h.top
  obtain ⟨rfl, -, rfl⟩ := (Value.slice.injEq _ _ _ _ _ _).mp hv
  obtain ⟨b, o, e, hc⟩ := hcells i hi
  have hrow := h.rows i hi
  obtain ⟨r, d, hr, h1, h2, _⟩ := hrow.read
  rw [hr] at hc hrow
  exact ⟨b, o, r, d, e, hc, hr, hrow, h1, h2⟩
theorem OwnI.same_at {w w' : World} {B n c : Nat} {ao : Option Addr} {xs : List Int} (h : OwnI w B (.slice ao n c) xs) (hs : Same B w.heap.size w w') : IntsAt w' ao xs := own_at (ownsRow_same h hs)
end Go.Proofs.YtmonhmbnbhaemaaDoor

namespace Go.Proofs.YtmonhmbnbhaemaaDoor
open Go.RowKit

/-- a ratio as a struct of two numbers; a variable with one -/
def rtA (a : Nat × Nat) : Array Value := #[.int .i64 (a.1 : Int), .int .i64 (a.2 : Int)]
def RtAt (w : World) (g : Nat) (a : Nat × Nat) : Prop := w.heap[g]? = some (.cells (rtA a) 25 (0, 0))
theorem RtAt.c0 {w : World} {g : Nat} {a : Nat × Nat} (h : RtAt w g a) : w.cell? ⟨g, 0, none⟩ = some (.int .i64 (a.1 : Int)) := by rw [cell_of_row w g 0 _ _ _ h]; rfl
theorem RtAt.c1 {w : World} {g : Nat} {a : Nat × Nat} (h : RtAt w g a) : w.cell? ⟨g, 1, none⟩ = some (.int .i64 (a.2 : Int)) := by rw [cell_of_row w g 1 _ _ _ h]; rfl
theorem RtAt.lt {w : World} {g : Nat} {a : Nat × Nat} (h : RtAt w g a) : g < w.heap.size := lt_of_block h
theorem RtAt.below {w w' : World} {g : Nat} {a : Nat × Nat} (h : RtAt w g a) (hb : Below w.heap.size w w') : RtAt w' g a := by
  unfold RtAt
  rw [hb.block g h.lt]
  exact h
theorem RtAt.alloc {w : World} {g : Nat} {a : Nat × Nat} (h : RtAt w g a) (o : Obj) : RtAt (w.alloc o) g a := by
  unfold RtAt
  rw [heap_alloc_old w o h.lt]
  exact h
theorem RtAt.new (w : World) (a : Nat × Nat) : RtAt (w.alloc (.cells (rtA a) 25)) w.heap.size a := heap_alloc_new w _
theorem RtAt.setRow {w : World} {g : Nat} {a : Nat × Nat} (h : RtAt w g a) (b : Nat × Nat) : RtAt (w.setRow g (rtA b)) g b := setRow_heap w g _ _ _ _ h
theorem RtAt.setRow_other {w : World} {g g' : Nat} {a : Nat × Nat} (h : RtAt w g a) (hg : g ≠ g') (cs : Array Value) : RtAt (w.setRow g' cs) g a := by
  unfold RtAt
  rw [Go.setRow_other w g' g cs hg]
  exact h
theorem RtAt.only {S : Nat → Prop} {w w' : World} {g : Nat} {a : Nat × Nat} (h : RtAt w g a) (ho : OnlyW S w w') (hS : ¬S g) : RtAt w' g a := by
  unfold RtAt
  rw [ho.block g hS]
  exact h
theorem RtAt.put {w : World} {g : Nat} {a : Nat × Nat} (h : RtAt w g a) (x y : Nat) : RtAt ((w.setCell ⟨g, 0, none⟩ (.int .i64 (x : Int))).setCell ⟨g, 1, none⟩ (.int .i64 (y : Int))) g (x, y) := by
  have h1 := heap_setCell_same w g 0 _ _ (.int .i64 (x : Int)) h
  unfold RtAt
  rw [heap_setCell_same _ g 1 _ _ (.int .i64 (y : Int)) h1]
  rfl
theorem RtAt.putOther {w : World} {g g' : Nat} {a : Nat × Nat} (h : RtAt w g a) (hg : g ≠ g') (u v : Value) : RtAt ((w.setCell ⟨g', 0, none⟩ u).setCell ⟨g', 1, none⟩ v) g a := by
  unfold RtAt
  rw [heap_setCell_other _ ⟨g', 1, none⟩ g v hg, heap_setCell_other _ ⟨g', 0, none⟩ g u hg]
  exact h
theorem Tryd.info_rt : (Tryd.prog.info? 25).map (fun i => (i.zero, i.size)) = some (some (.agg (rtA (0, 0))), 2) := by kernel_rfl
theorem Tryd.size_rt (a : Nat × Nat) : (Tryd.prog.info? 25).map (·.size) = some (rtA a).size := (zero_of_info Tryd.info_rt).2
theorem rt_one (a : Nat × Nat) : (rtA a).all (·.oneCell') = true := by simp [rtA, Value.oneCell']
theorem rt_same (a b : Nat × Nat) : (rtA a).size = (rtA b).size := rfl
theorem Tryd.load_rt {w : World} {g : Nat} {a : Nat × Nat} (h : RtAt w g a) : (loadVar 25 ⟨g, 0, none⟩).run Tryd.prog w = .ok (.agg (rtA a)) w := run_loadVar_row _ _ _ _ _ _ _ h Tryd.underlying25 rfl (Tryd.size_rt a)
theorem Tryd.built_rt (x y : Int) : Tryd.prog.built 25 [(0, .int .i64 x), (1, .int .i64 y)] = some #[.int .i64 x, .int .i64 y] := by kernel_rfl
theorem Tryd.built_rt0 : Tryd.prog.built 25 [] = some (rtA (0, 0)) := by kernel_rfl
theorem rtwo_bot (w : World) (o : Obj) (a : Nat × Nat) : RtAt ((w.alloc (.cells (rtA a) 25)).alloc o) w.heap.size a := heap_alloc2_old w _ _
theorem rtwo_top (w : World) (o : Obj) (a : Nat × Nat) : RtAt ((w.alloc o).alloc (.cells (rtA a) 25)) (w.heap.size + 1) a := heap_alloc2_new w _ _

theorem wpList_buildRn {P : Program} {ops : Array Oper} {rest : List Oper} {o : Oper} {a : Act} {w : World} {Q : Exit → Act → World → Prop} (hg : o.guard = none) (t : TypeId) (xs : Array (Nat × Operand)) (ho : o.op = .build t xs)
    (vs : List (Nat × Value)) (hv : (xs.map fun (i, x) => (i, a.eval x)).toList = vs) (cells : Array Value) (hb : P.built t vs = some cells)
    (h : wpList P ops Q rest (a.put o.dst (.agg cells)) w) : wpList P ops Q (o :: rest) a w := by
  refine wpList_build hg t _ ho (by rw [hv, hb]; rfl) ?_
  rw [hv, hb]
  exact h

set_option maxRecDepth 100000 in
set_option maxHeartbeats 1600000 in
theorem commonDivisor_any (a b : Nat) (w : World) (ha : a ≤ 4000000000000000000) (hb : b ≤ 4000000000000000000) :
    Calls Tryd.prog 57 #[.int .i64 (a : Int), .int .i64 (b : Int)] w fun e w' => e = .returned (.int .i64 (Nat.gcd a b : Nat)) ∧ Q w w' := by
  go_enter Tryd.func57, Tryd.ntmps57
  go_wp2
  go_loopw [0, 1] (fun u v wr => ∃ x y : Nat, u = .int .i64 x ∧ v = .int .i64 y ∧ x ≤ 4000000000000000000 ∧ y ≤ 4000000000000000000 ∧ Nat.gcd x y = Nat.gcd a b ∧ Q w wr) (fun _ v _ => (intOf v).toNat)
  case atStart => exact ⟨a, b, rfl, rfl, ha, hb, rfl, Q.refl _⟩
  case round =>
    obtain ⟨x, y, rfl, rfl, hx, hy, hg, hq⟩ := hrel
    have Hq := Lib.hid hq
    have Hg := Lib.hid hg
    clear hq hg
    by_cases h0 : y = 0
    · subst h0
      have Hg2 := Lib.hid (show x = Nat.gcd a b by rw [← Hg.out, Nat.gcd_zero_right])
      go_wp2
      go_ret
      exact ⟨by rw [← Hg2.out]; rfl, Hq.out⟩
    · have hlt := Nat.mod_lt x (show y > 0 by omega)
      have hyy : ((y : Int) != 0) = true := by simp [h0]
      have hy0 : ((y : Int) == 0) = false := by simp [h0]
      have hm : (x : Int) % (y : Int) = ((x % y : Nat) : Int) := by rw [Int.natCast_emod]
      have Hg2 := Lib.hid (show Nat.gcd y (x % y) = Nat.gcd a b by rw [Nat.gcd_comm y, ← Nat.gcd_rec, Nat.gcd_comm]; exact Hg.out)
      obtain ⟨r, hr⟩ : ∃ r, r = x % y := ⟨_, rfl⟩
      rw [← hr] at hm hlt Hg2
      have hry : r ≤ 4000000000000000000 := by omega
      clear hr h0
      go_wp2
      go_quiet (fail)
      go_wp2
      go_roundw
      case rel => exact ⟨y, r, rfl, by rw [hm], hy, hry, Hg2.out, Hq.out.drewN _⟩
      case measure => simp [intOf]; omega

set_option maxRecDepth 100000 in
set_option maxHeartbeats 1600000 in
theorem ratioOf_any (p q : Nat) (w : World) (hq0 : 0 < q) (hp : p ≤ 4000000000000000000) (hq : q ≤ 4000000000000000000) :
    Calls Tryd.prog 44 #[.int .i64 (p : Int), .int .i64 (q : Int)] w fun e w' => e = .returned (.agg (rtA (nrm p q))) ∧ Below w.heap.size w w' := by
  have hg0 := (nrm_parts (p := p) hq0).1
  have hgl : Nat.gcd p q ≤ q := Nat.gcd_le_right _ hq0
  have C := Lib.hid (fun w => commonDivisor_any p q w hp hq)
  have H1 := Lib.hid (show (p : Int) / (Nat.gcd p q : Nat) = ((nrm p q).1 : Int) from by unfold nrm; rw [Int.natCast_ediv])
  have H2 := Lib.hid (show (q : Int) / (Nat.gcd p q : Nat) = ((nrm p q).2 : Int) from by unfold nrm; rw [Int.natCast_ediv])
  have hl := nrm_le p q
  obtain ⟨g, hg⟩ : ∃ g, g = Nat.gcd p q := ⟨_, rfl⟩
  rw [← hg] at hg0 hgl C H1 H2
  obtain ⟨r, hr⟩ : ∃ r, r = nrm p q := ⟨_, rfl⟩
  rw [← hr] at H1 H2 hl ⊢
  obtain ⟨r1, r2⟩ := r
  simp only at H1 H2 hl
  clear hg hr
  have hgz : ¬ g = 0 := by omega
  have hw1 : IntKind.i64.wrap (r1 : Int) = (r1 : Int) := w64 (by omega)
  have hw2 : IntKind.i64.wrap (r2 : Int) = (r2 : Int) := w64 (by omega)
  go_enter Tryd.func44, Tryd.ntmps44
  go_upto_region 1 with (refine wpList_allocT rfl 25 rfl _ _ Tryd.info_rt ?_)
  generalize hW : World.alloc w _ = w1
  have HR1 := Lib.hid (show RtAt w1 w.heap.size (0, 0) by rw [← hW]; exact RtAt.new w (0, 0))
  have HB1 := Lib.hid (show Below w.heap.size w w1 by rw [← hW]; exact (Below.refl _ w).alloc (Nat.le_refl _) _)
  clear hW
  go_wp2_with fail
  refine (C.out _).mono ?_
  rintro e w2 ⟨rfl, hq2⟩
  have HR := Lib.hid (HR1.out.below (hq2.below _))
  have HB := Lib.hid (HB1.out.trans (hq2.below w.heap.size))
  have h1 := H1.out
  have h2 := H2.out
  clear hq2 C HR1 HB1
  go_wp2
  refine wp_region_still_tail 6 (by kernel_rfl) (by kernel_rfl) ?_
  simp only [List.take_succ_cons, List.take_zero, List.drop_succ_cons, List.drop_zero]
  repeat still_step
  refine wpStill_nil ?_
  change wpList _ _ _ _ _ w2.drew
  have HR3 := Lib.hid (show RtAt w2.drew w.heap.size (0, 0) from HR.out)
  go_wp2_with (first | (refine wpList_buildRn rfl 25 _ rfl [(0, .int .i64 (r1 : Int)), (1, .int .i64 (r2 : Int))] rfl (rtA (r1, r2)) (Tryd.built_rt _ _) ?_) | (refine wpList_storeG rfl 25 _ _ rfl _ (rtA (r1, r2)) _ rfl rfl HR3.out (Tryd.size_rt _) (rt_same _ _) (rt_one _) ?_))
  have HR2 := Lib.hid (HR3.out.setRow (r1, r2))
  have HB2 := Lib.hid (below_setRowT (below_drewN HB.out 1) (Nat.le_refl _) (rtA (r1, r2)))
  refine bodyPost_ret (v := .agg (rtA (r1, r2))) ?_ rfl ⟨rfl, HB2.out⟩
  exact results_cell_one rfl _ _ w.heap.size _ rfl (Tryd.load_rt HR2.out)
end Go.Proofs.YtmonhmbnbhaemaaDoor

namespace Go.Proofs.YtmonhmbnbhaemaaDoor
open Go.RowKit

theorem rt3_0 (w : World) (a b c : Nat × Nat) : RtAt (((w.alloc (.cells (rtA a) 25)).alloc (.cells (rtA b) 25)).alloc (.cells (rtA c) 25)) w.heap.size a := (rtwo_bot w _ _).alloc _
theorem rt3_1 (w : World) (a b c : Nat × Nat) : RtAt (((w.alloc (.cells (rtA a) 25)).alloc (.cells (rtA b) 25)).alloc (.cells (rtA c) 25)) (w.heap.size + 1) b := (rtwo_top w _ _).alloc _
theorem rt3_2 (w : World) (a b c : Nat × Nat) : RtAt (((w.alloc (.cells (rtA a) 25)).alloc (.cells (rtA b) 25)).alloc (.cells (rtA c) 25)) (w.heap.size + 2) c := by
  have := RtAt.new ((w.alloc (.cells (rtA a) 25)).alloc (.cells (rtA b) 25)) c
  simpa using this
theorem rt3_below (w : World) (o1 o2 o3 : Obj) : Below w.heap.size w (((w.alloc o1).alloc o2).alloc o3) := (((Below.refl _ w).alloc (Nat.le_refl _) o1).alloc (by simp) o2).alloc (by simp; omega) o3
theorem wrapN {n : Nat} (h : n ≤ 4000000000000000000) : IntKind.i64.wrap (n : Int) = (n : Int) := w64 (by omega)

set_option maxRecDepth 100000 in
set_option maxHeartbeats 1600000 in
theorem whole_any (x : Nat) (w : World) : Calls Tryd.prog 24 #[.int .i64 (x : Int)] w fun e w' => e = .returned (.agg (rtA (x, 1))) ∧ Below w.heap.size w w' := by
  go_enter Tryd.func24, Tryd.ntmps24
  go_upto_region 1 with (refine wpList_allocT rfl 25 rfl _ _ Tryd.info_rt ?_)
  generalize hW : World.alloc w _ = w1
  have HR := Lib.hid (show RtAt w1 w.heap.size (0, 0) by rw [← hW]; exact RtAt.new w (0, 0))
  have HB := Lib.hid (show Below w.heap.size w w1 by rw [← hW]; exact (Below.refl _ w).alloc (Nat.le_refl _) _)
  clear hW
  go_wp2_with (refine wpList_storeG rfl 25 _ _ rfl _ (rtA (x, 1)) _ rfl rfl HR.out (Tryd.size_rt _) (rt_same _ _) (rt_one _) ?_)
  have HR2 := Lib.hid (HR.out.setRow (x, 1))
  have HB2 := Lib.hid (below_setRowT HB.out (Nat.le_refl _) (rtA (x, 1)))
  refine bodyPost_ret (v := .agg (rtA (x, 1))) ?_ rfl ⟨rfl, HB2.out⟩
  exact results_cell_one rfl _ _ w.heap.size _ rfl (Tryd.load_rt HR2.out)

set_option maxRecDepth 100000 in
set_option maxHeartbeats 1600000 in
theorem times_any (a b : Nat × Nat) (w : World) (hq0 : 0 < a.2 * b.2) (hp : a.1 * b.1 ≤ 4000000000000000000) (hq : a.2 * b.2 ≤ 4000000000000000000) :
    Calls Tryd.prog 27 #[.agg (rtA a), .agg (rtA b)] w fun e w' => e = .returned (.agg (rtA (tm a b))) ∧ Below w.heap.size w w' := by
  have C := Lib.hid (fun w => ratioOf_any (a.1 * b.1) (a.2 * b.2) w hq0 hp hq)
  have HV := Lib.hid (show tm a b = nrm (a.1 * b.1) (a.2 * b.2) from rfl)
  obtain ⟨a1, a2⟩ := a
  obtain ⟨b1, b2⟩ := b
  simp only at hq0 hp hq
  obtain ⟨Y, hY⟩ : ∃ Y, Y = a2 * b2 := ⟨_, rfl⟩
  obtain ⟨X, hX⟩ : ∃ X, X = a1 * b1 := ⟨_, rfl⟩
  have e1 : (a1 : Int) * (b1 : Int) = (X : Int) := by rw [hX, Int.natCast_mul]
  have e2 : (a2 : Int) * (b2 : Int) = (Y : Int) := by rw [hY, Int.natCast_mul]
  simp only at HV C
  rw [← hX, ← hY] at HV C
  rw [← hX] at hp
  rw [← hY] at hq hq0
  have w1 := wrapN hp
  have w2 := wrapN hq
  clear hX hY
  go_enter Tryd.func27, Tryd.ntmps27
  go_upto_region 1 with (first | (refine wpList_boxT rfl 25 _ rfl _ rfl ?_) | (refine wpList_allocT rfl 25 rfl _ _ Tryd.info_rt ?_))
  generalize hW : World.alloc (World.alloc (World.alloc w _) _) _ = w1
  have h1 : RtAt w1 w.heap.size (a1, a2) := by rw [← hW]; exact rt3_0 w _ _ _
  have h2 : RtAt w1 (w.heap.size + 1) (b1, b2) := by rw [← hW]; exact rt3_1 w _ _ _
  have h3 : RtAt w1 (w.heap.size + 2) (0, 0) := by rw [← hW]; exact rt3_2 w _ _ _
  have hB : Below w.heap.size w w1 := by rw [← hW]; exact rt3_below w _ _ _
  clear hW
  have p1 : w1.cell? ⟨w.heap.size, 0, none⟩ = some (.int .i64 (a1 : Int)) := h1.c0
  have p2 : w1.cell? ⟨w.heap.size, 1, none⟩ = some (.int .i64 (a2 : Int)) := h1.c1
  have p3 : w1.cell? ⟨w.heap.size + 1, 0, none⟩ = some (.int .i64 (b1 : Int)) := h2.c0
  have p4 : w1.cell? ⟨w.heap.size + 1, 1, none⟩ = some (.int .i64 (b2 : Int)) := h2.c1
  have H3 := Lib.hid h3
  have HB := Lib.hid hB
  clear h1 h2 h3 hB
  go_wp2_with fail
  refine (C.out _).mono ?_
  rintro e w2 ⟨rfl, hb⟩
  have HR := Lib.hid (H3.out.below hb)
  have HB2 := Lib.hid (HB.out.trans (hb.mono HB.out.size))
  clear hb p1 p2 p3 p4 H3 HB
  go_wp2_with (refine wpList_storeG rfl 25 _ _ rfl _ (rtA (nrm X Y)) _ rfl rfl HR.out (Tryd.size_rt _) (rt_same _ _) (rt_one _) ?_)
  have HR2 := Lib.hid (HR.out.setRow (nrm X Y))
  have HB3 := Lib.hid (below_setRowT HB2.out (show w.heap.size ≤ w.heap.size + 2 by omega) (rtA (nrm X Y)))
  refine bodyPost_ret (v := .agg (rtA (nrm X Y))) ?_ rfl ⟨by rw [HV.out], HB3.out⟩
  exact results_cell_one rfl _ _ (w.heap.size + 2) _ rfl (Tryd.load_rt HR2.out)

set_option maxRecDepth 100000 in
set_option maxHeartbeats 1600000 in
theorem over_any (a b : Nat × Nat) (w : World) (hq0 : 0 < a.2 * b.1) (hp : a.1 * b.2 ≤ 4000000000000000000) (hq : a.2 * b.1 ≤ 4000000000000000000) :
    Calls Tryd.prog 45 #[.agg (rtA a), .agg (rtA b)] w fun e w' => e = .returned (.agg (rtA (ov a b))) ∧ Below w.heap.size w w' := by
  have C := Lib.hid (fun w => ratioOf_any (a.1 * b.2) (a.2 * b.1) w hq0 hp hq)
  have HV := Lib.hid (show ov a b = nrm (a.1 * b.2) (a.2 * b.1) from rfl)
  obtain ⟨a1, a2⟩ := a
  obtain ⟨b1, b2⟩ := b
  simp only at hq0 hp hq
  obtain ⟨Y, hY⟩ : ∃ Y, Y = a2 * b1 := ⟨_, rfl⟩
  obtain ⟨X, hX⟩ : ∃ X, X = a1 * b2 := ⟨_, rfl⟩
  have e1 : (a1 : Int) * (b2 : Int) = (X : Int) := by rw [hX, Int.natCast_mul]
  have e2 : (a2 : Int) * (b1 : Int) = (Y : Int) := by rw [hY, Int.natCast_mul]
  simp only at HV C
  rw [← hX, ← hY] at HV C
  rw [← hX] at hp
  rw [← hY] at hq hq0
  have w1 := wrapN hp
  have w2 := wrapN hq
  clear hX hY
  go_enter Tryd.func45, Tryd.ntmps45
  go_upto_region 1 with (first | (refine wpList_boxT rfl 25 _ rfl _ rfl ?_) | (refine wpList_allocT rfl 25 rfl _ _ Tryd.info_rt ?_))
  generalize hW : World.alloc (World.alloc (World.alloc w _) _) _ = w1
  have h1 : RtAt w1 w.heap.size (a1, a2) := by rw [← hW]; exact rt3_0 w _ _ _
  have h2 : RtAt w1 (w.heap.size + 1) (b1, b2) := by rw [← hW]; exact rt3_1 w _ _ _
  have h3 : RtAt w1 (w.heap.size + 2) (0, 0) := by rw [← hW]; exact rt3_2 w _ _ _
  have hB : Below w.heap.size w w1 := by rw [← hW]; exact rt3_below w _ _ _
  clear hW
  have p1 : w1.cell? ⟨w.heap.size, 0, none⟩ = some (.int .i64 (a1 : Int)) := h1.c0
  have p2 : w1.cell? ⟨w.heap.size, 1, none⟩ = some (.int .i64 (a2 : Int)) := h1.c1
  have p3 : w1.cell? ⟨w.heap.size + 1, 0, none⟩ = some (.int .i64 (b1 : Int)) := h2.c0
  have p4 : w1.cell? ⟨w.heap.size + 1, 1, none⟩ = some (.int .i64 (b2 : Int)) := h2.c1
  have H3 := Lib.hid h3
  have HB := Lib.hid hB
  clear h1 h2 h3 hB
  go_wp2_with fail
  refine (C.out _).mono ?_
  rintro e w2 ⟨rfl, hb⟩
  have HR := Lib.hid (H3.out.below hb)
  have HB2 := Lib.hid (HB.out.trans (hb.mono HB.out.size))
  clear hb p1 p2 p3 p4 H3 HB
  go_wp2_with (refine wpList_storeG rfl 25 _ _ rfl _ (rtA (nrm X Y)) _ rfl rfl HR.out (Tryd.size_rt _) (rt_same _ _) (rt_one _) ?_)
  have HR2 := Lib.hid (HR.out.setRow (nrm X Y))
  have HB3 := Lib.hid (below_setRowT HB2.out (show w.heap.size ≤ w.heap.size + 2 by omega) (rtA (nrm X Y)))
  refine bodyPost_ret (v := .agg (rtA (nrm X Y))) ?_ rfl ⟨by rw [HV.out], HB3.out⟩
  exact results_cell_one rfl _ _ (w.heap.size + 2) _ rfl (Tryd.load_rt HR2.out)

set_option maxRecDepth 100000 in
set_option maxHeartbeats 1600000 in
theorem plus_any (a b : Nat × Nat) (w : World) (hq0 : 0 < a.2 * b.2) (hp : a.1 * b.2 + b.1 * a.2 ≤ 4000000000000000000) (hq : a.2 * b.2 ≤ 4000000000000000000) :
    Calls Tryd.prog 26 #[.agg (rtA a), .agg (rtA b)] w fun e w' => e = .returned (.agg (rtA (pl a b))) ∧ Below w.heap.size w w' := by
  have C := Lib.hid (fun w => ratioOf_any (a.1 * b.2 + b.1 * a.2) (a.2 * b.2) w hq0 hp hq)
  have HV := Lib.hid (show pl a b = nrm (a.1 * b.2 + b.1 * a.2) (a.2 * b.2) from rfl)
  obtain ⟨a1, a2⟩ := a
  obtain ⟨b1, b2⟩ := b
  simp only at hq0 hp hq
  obtain ⟨Y, hY⟩ : ∃ Y, Y = a2 * b2 := ⟨_, rfl⟩
  obtain ⟨X, hX⟩ : ∃ X, X = a1 * b2 + b1 * a2 := ⟨_, rfl⟩
  obtain ⟨U, hU⟩ : ∃ U, U = a1 * b2 := ⟨_, rfl⟩
  obtain ⟨V, hV⟩ : ∃ V, V = b1 * a2 := ⟨_, rfl⟩
  have e1 : (a1 : Int) * (b2 : Int) = (U : Int) := by rw [hU, Int.natCast_mul]
  have e3 : (b1 : Int) * (a2 : Int) = (V : Int) := by rw [hV, Int.natCast_mul]
  have e2 : (a2 : Int) * (b2 : Int) = (Y : Int) := by rw [hY, Int.natCast_mul]
  simp only at HV C
  rw [← hX, ← hY] at HV C
  rw [← hU, ← hV] at hX
  have e4 : (U : Int) + (V : Int) = (X : Int) := by rw [hX]; omega
  rw [← hU, ← hV, ← hX] at hp
  rw [← hY] at hq hq0
  have w1 := wrapN hp
  have w2 := wrapN hq
  have w3 := wrapN (show U ≤ 4000000000000000000 by omega)
  have w4 := wrapN (show V ≤ 4000000000000000000 by omega)
  clear hX hY hU hV
  go_enter Tryd.func26, Tryd.ntmps26
  go_upto_region 1 with (first | (refine wpList_boxT rfl 25 _ rfl _ rfl ?_) | (refine wpList_allocT rfl 25 rfl _ _ Tryd.info_rt ?_))
  generalize hW : World.alloc (World.alloc (World.alloc w _) _) _ = w1
  have h1 : RtAt w1 w.heap.size (a1, a2) := by rw [← hW]; exact rt3_0 w _ _ _
  have h2 : RtAt w1 (w.heap.size + 1) (b1, b2) := by rw [← hW]; exact rt3_1 w _ _ _
  have h3 : RtAt w1 (w.heap.size + 2) (0, 0) := by rw [← hW]; exact rt3_2 w _ _ _
  have hB : Below w.heap.size w w1 := by rw [← hW]; exact rt3_below w _ _ _
  clear hW
  have p1 : w1.cell? ⟨w.heap.size, 0, none⟩ = some (.int .i64 (a1 : Int)) := h1.c0
  have p2 : w1.cell? ⟨w.heap.size, 1, none⟩ = some (.int .i64 (a2 : Int)) := h1.c1
  have p3 : w1.cell? ⟨w.heap.size + 1, 0, none⟩ = some (.int .i64 (b1 : Int)) := h2.c0
  have p4 : w1.cell? ⟨w.heap.size + 1, 1, none⟩ = some (.int .i64 (b2 : Int)) := h2.c1
  have H3 := Lib.hid h3
  have HB := Lib.hid hB
  clear h1 h2 h3 hB
  go_wp2_with fail
  refine (C.out _).mono ?_
  rintro e w2 ⟨rfl, hb⟩
  have HR := Lib.hid (H3.out.below hb)
  have HB2 := Lib.hid (HB.out.trans (hb.mono HB.out.size))
  clear hb p1 p2 p3 p4 H3 HB
  go_wp2_with (refine wpList_storeG rfl 25 _ _ rfl _ (rtA (nrm X Y)) _ rfl rfl HR.out (Tryd.size_rt _) (rt_same _ _) (rt_one _) ?_)
  have HR2 := Lib.hid (HR.out.setRow (nrm X Y))
  have HB3 := Lib.hid (below_setRowT HB2.out (show w.heap.size ≤ w.heap.size + 2 by omega) (rtA (nrm X Y)))
  refine bodyPost_ret (v := .agg (rtA (nrm X Y))) ?_ rfl ⟨by rw [HV.out], HB3.out⟩
  exact results_cell_one rfl _ _ (w.heap.size + 2) _ rfl (Tryd.load_rt HR2.out)

end Go.Proofs.YtmonhmbnbhaemaaDoor

