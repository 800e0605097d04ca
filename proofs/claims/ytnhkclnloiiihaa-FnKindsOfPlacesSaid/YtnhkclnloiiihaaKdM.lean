/- How the counts of the kinds of a sign matrix's places, its inversions and its numbers -1 hang together. No conditions. -/
import Derived.Test.YtnhkclnloiiihaaWeM
import Derived.Test.YtnhkclnloiiihaaInv
namespace Go.Proofs.Ytnhkclnloiiihaa
open Go.RowKit

theorem place_kinds {v b a : Int} (hb : 0 ≤ b ∧ b ≤ 1) (ha : 0 ≤ a ∧ a ≤ 1) (hb2 : 0 ≤ b + v ∧ b + v ≤ 1) (ha2 : 0 ≤ a + v ∧ a + v ≤ 1) :
    a = ind (kdV v b a) 1 + ind (kdV v b a) 3 + ind (kdV v b a) 5 ∧ b = ind (kdV v b a) 2 + ind (kdV v b a) 3 + ind (kdV v b a) 5 ∧
      a * b = ind (kdV v b a) 3 + ind (kdV v b a) 5 ∧ v = ind (kdV v b a) 4 - ind (kdV v b a) 5 ∧ (if v < 0 then (1 : Int) else 0) = ind (kdV v b a) 5 := by
  obtain rfl | rfl : b = 0 ∨ b = 1 := by omega
  all_goals obtain rfl | rfl : a = 0 ∨ a = 1 := by omega
  all_goals obtain rfl | rfl | rfl : v = -1 ∨ v = 0 ∨ v = 1 := by omega
  all_goals first | decide | omega

theorem sumF_triangle (F : Nat → Nat → Int) : ∀ n, sumF (fun i => sumF (fun k => F i (i + 1 + k)) (n - (i + 1))) n = sumF (fun k => sumF (fun i => F i k) k) n
  | 0 => rfl
  | n + 1 => by
    have ih := sumF_triangle F n
    show sumF (fun i => sumF (fun k => F i (i + 1 + k)) (n + 1 - (i + 1))) n + sumF (fun k => F n (n + 1 + k)) (n + 1 - (n + 1)) = sumF (fun k => sumF (fun i => F i k) k) n + sumF (fun i => F i n) n
    rw [show n + 1 - (n + 1) = 0 from by omega, ← ih, sumF_plus]
    show _ + 0 = _
    rw [Int.add_zero]
    refine sumF_congr fun i hi => ?_
    rw [show n + 1 - (i + 1) = (n - (i + 1)) + 1 from by omega]
    show sumF (fun k => F i (i + 1 + k)) (n - (i + 1)) + F i (i + 1 + (n - (i + 1))) = _
    rw [show i + 1 + (n - (i + 1)) = n from by omega]

theorem sumF_gi (xs : List Int) : ∀ k, sumF (fun j => gi xs j) k = sumK xs k
  | 0 => rfl
  | k + 1 => by show sumF (fun j => gi xs j) k + gi xs k = sumK xs k + gi xs k; rw [sumF_gi xs k]
theorem colS_sumF (m : List (List Int)) (j : Nat) : ∀ k, colS m j k = sumF (fun i => gi (gr m i) j) k
  | 0 => rfl
  | k + 1 => by show colS m j k + _ = sumF _ k + _; rw [colS_sumF m j k]

theorem col_total {m : List (List Int)} (h : good m) : ∀ i, i ≤ m.length → sumF (fun j => colS m j i) m.length = i
  | 0, _ => by rw [show (fun j => colS m j 0) = fun _ => (0 : Int) from rfl, sumF_zero]; rfl
  | i + 1, hi => by
    have ih := col_total h i (by omega)
    rw [show (fun j => colS m j (i + 1)) = fun j => colS m j i + gi (gr m i) j from rfl, sumF_add, ih, sumF_gi]
    have h1 := (h.2.1 i (by omega)).2
    rw [h.1.2.2 i (by omega)] at h1
    omega
theorem row_total {m : List (List Int)} (h : good m) : ∀ j, j ≤ m.length → sumF (fun i => sumK (gr m i) j) m.length = j
  | 0, _ => by rw [show (fun i => sumK (gr m i) 0) = fun _ => (0 : Int) from rfl, sumF_zero]; rfl
  | j + 1, hj => by
    have ih := row_total h j (by omega)
    rw [show (fun i => sumK (gr m i) (j + 1)) = fun i => sumK (gr m i) j + gi (gr m i) j from rfl, sumF_add, ih, ← colS_sumF, colS_tr (by omega) _ (Nat.le_refl _)]
    have h1 := (h.2.2 j (by rw [tr_len]; omega)).2
    rw [tr_row (by omega)] at h1
    omega
theorem sum_below : ∀ n : Nat, 2 * sumF (fun i => (i : Int)) n = (n : Int) * ((n : Int) - 1)
  | 0 => rfl
  | n + 1 => by
    have ih := sum_below n
    show 2 * (sumF (fun i => (i : Int)) n + (n : Int)) = _
    rw [Int.mul_add, ih, show ((n + 1 : Nat) : Int) = (n : Int) + 1 from by omega, Int.mul_sub, Int.mul_one, show ((n : Int) + 1) * ((n : Int) + 1 - 1) = (n : Int) * n + n from by rw [show (n : Int) + 1 - 1 = n from by omega, Int.add_mul, Int.one_mul]]
    omega
theorem q3_sum (m : List (List Int)) (i k : Nat) : q3 m i k m.length = sumF (fun j => gi (gr m i) j * sumK (gr m k) j) m.length := by
  unfold q3 q4
  refine sumF_congr fun j _ => ?_
  rw [sumF_mul, sumF_gi]
theorem inv_sum (m : List (List Int)) : inv m = sumF (fun k => sumF (fun j => colS m j k * sumK (gr m k) j) m.length) m.length := by
  unfold inv q1 q2
  rw [sumF_triangle (fun i k => q3 m i k m.length)]
  refine sumF_congr fun k _ => ?_
  rw [show sumF (fun i => q3 m i k m.length) k = sumF (fun i => sumF (fun j => gi (gr m i) j * sumK (gr m k) j) m.length) k from sumF_congr fun i _ => q3_sum m i k, sumF_swap]
  refine sumF_congr fun j _ => ?_
  rw [show (fun i => gi (gr m i) j * sumK (gr m k) j) = fun i => sumK (gr m k) j * gi (gr m i) j from funext fun i => Int.mul_comm _ _, sumF_mul, ← colS_sumF, Int.mul_comm]

theorem place_facts {m : List (List Int)} (h : good m) {i j : Nat} (hi : i < m.length) (hj : j < m.length) :
    colS m j i = ind (kd m i j) 1 + ind (kd m i j) 3 + ind (kd m i j) 5 ∧ sumK (gr m i) j = ind (kd m i j) 2 + ind (kd m i j) 3 + ind (kd m i j) 5 ∧
      colS m j i * sumK (gr m i) j = ind (kd m i j) 3 + ind (kd m i j) 5 ∧ gi (gr m i) j = ind (kd m i j) 4 - ind (kd m i j) 5 ∧ (if gi (gr m i) j < 0 then (1 : Int) else 0) = ind (kd m i j) 5 := by
  have h1 := rowS_01 h hi (k := j) (by omega)
  have h2 := colS_01 h hj (k := i) (by omega)
  have h3 := rowS_01 h hi (k := j + 1) (by omega)
  have h4 := colS_01 h hj (k := i + 1) (by omega)
  exact place_kinds h1 h2 h3 h4

theorem cnt_sum2 (m : List (List Int)) (a b : Int) : cntK m a + cntK m b = sumF (fun i => sumF (fun j => ind (kd m i j) a + ind (kd m i j) b) m.length) m.length := by
  unfold cntK
  rw [sumF_plus]
  exact sumF_congr fun i _ => sumF_plus _ _ _
theorem cnt_sum3 (m : List (List Int)) (a b c : Int) : cntK m a + cntK m b + cntK m c = sumF (fun i => sumF (fun j => ind (kd m i j) a + ind (kd m i j) b + ind (kd m i j) c) m.length) m.length := by
  rw [cnt_sum2]
  unfold cntK
  rw [sumF_plus]
  exact sumF_congr fun i _ => sumF_plus _ _ _
theorem cnt_above {m : List (List Int)} (h : good m) : 2 * (cntK m 1 + cntK m 3 + cntK m 5) = (m.length : Int) * ((m.length : Int) - 1) := by
  rw [cnt_sum3, ← sum_below]
  congr 1
  refine sumF_congr fun i hi => ?_
  rw [← col_total h i (by omega)]
  exact sumF_congr fun j hj => (place_facts h hi hj).1.symm
theorem cnt_before {m : List (List Int)} (h : good m) : 2 * (cntK m 2 + cntK m 3 + cntK m 5) = (m.length : Int) * ((m.length : Int) - 1) := by
  rw [cnt_sum3, ← sum_below, sumF_swap]
  congr 1
  refine sumF_congr fun j hj => ?_
  rw [← row_total h j (by omega)]
  exact sumF_congr fun i hi => (place_facts h hi hj).2.1.symm
theorem cnt_inv {m : List (List Int)} (h : good m) : cntK m 3 + cntK m 5 = inv m := by
  rw [cnt_sum2, inv_sum]
  exact sumF_congr fun i hi => sumF_congr fun j hj => (place_facts h hi hj).2.2.1.symm
theorem cnt_ones {m : List (List Int)} (h : good m) : cntK m 4 - cntK m 5 = m.length := by
  have e : cntK m 4 = cntK m 5 + sumF (fun i => sumF (fun j => gi (gr m i) j) m.length) m.length := by
    unfold cntK
    rw [sumF_plus]
    refine sumF_congr fun i hi => ?_
    rw [sumF_plus]
    refine sumF_congr fun j hj => ?_
    have := (place_facts h hi hj).2.2.2.1
    omega
  have e2 : sumF (fun i => sumF (fun j => gi (gr m i) j) m.length) m.length = m.length := by
    rw [sumF_congr (g := fun _ => (1 : Int)) fun i hi => by
      rw [sumF_gi]
      have h1 := (h.2.1 i hi).2
      rwa [h.1.2.2 i hi] at h1, sumF_const, Int.mul_one]
  omega
theorem cnt_minus {m : List (List Int)} (h : good m) : cntK m 5 = mcount m := by
  unfold cntK mcount sum2
  exact sumF_congr fun i hi => sumF_congr fun j hj => (place_facts h hi hj).2.2.2.2.symm
/-- how all counts hang together -/
theorem kind_facts {m : List (List Int)} (h : good m) : cntK m 0 = cntK m 3 ∧ cntK m 1 = cntK m 2 ∧ cntK m 0 = inv m - mcount m ∧ cntK m 5 = mcount m ∧ cntK m 4 = m.length + mcount m ∧
    2 * cntK m 1 = (m.length : Int) * ((m.length : Int) - 1) - 2 * inv m ∧ cntK m 0 + cntK m 1 + cntK m 2 + cntK m 3 + cntK m 4 + cntK m 5 = m.length * m.length := by
  have h1 := cnt_above h
  have h2 := cnt_before h
  have h3 := cnt_inv h
  have h4 := cnt_ones h
  have h5 := cnt_minus h
  have h6 := cnt_total h
  rw [Int.mul_sub, Int.mul_one] at h1 h2 ⊢
  obtain ⟨N, hN⟩ : ∃ N, N = (m.length : Int) * m.length := ⟨_, rfl⟩
  rw [← hN] at h1 h2 h6 ⊢
  omega
end Go.Proofs.Ytnhkclnloiiihaa
