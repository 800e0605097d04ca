/- Mirrored, transposed and turned sign matrices: that they are sign matrices, their corner sums, inversions and numbers -1. No conditions. -/
import Derived.Test.YtnhkclnloiiihaaKdM
import Derived.Test.YtnhkclnloiiihaaHtM
namespace Go.Proofs.Ytnhkclnloiiihaa
open Go.RowKit

theorem sumF_rev (f : Nat → Int) : ∀ n, sumF (fun j => f (n - 1 - j)) n = sumF f n
  | 0 => rfl
  | n + 1 => by
    have e : ∀ k, k ≤ n → sumF (fun j => f (n + 1 - 1 - j)) k + sumF f (n + 1 - k) = sumF f (n + 1) := by
      intro k
      induction k with
      | zero => intro _; show 0 + sumF f (n + 1) = _; omega
      | succ k ih =>
        intro hk
        have h := ih (by omega)
        show sumF (fun j => f (n + 1 - 1 - j)) k + f (n + 1 - 1 - k) + sumF f (n + 1 - (k + 1)) = _
        rw [show n + 1 - k = (n + 1 - (k + 1)) + 1 from by omega] at h
        have h2 : sumF f (n + 1 - (k + 1) + 1) = sumF f (n + 1 - (k + 1)) + f (n + 1 - (k + 1)) := rfl
        rw [show n + 1 - 1 - k = n + 1 - (k + 1) from by omega]
        omega
    have h := e n (Nat.le_refl _)
    show sumF (fun j => f (n + 1 - 1 - j)) n + f (n + 1 - 1 - n) = sumF f (n + 1)
    rw [show n + 1 - n = 0 + 1 from by omega] at h
    have h2 : sumF f (0 + 1) = f 0 := by show 0 + f 0 = f 0; omega
    rw [show n + 1 - 1 - n = 0 from by omega]
    omega

theorem row_sumK {m : List (List Int)} (h : good m) {i : Nat} (hi : i < m.length) : sumK (gr m i) m.length = 1 := by
  have h1 := (h.2.1 i hi).2
  rwa [h.1.2.2 i hi] at h1
theorem col_sum {m : List (List Int)} (h : good m) {j : Nat} (hj : j < m.length) : colS m j m.length = 1 := by
  rw [colS_tr hj _ (Nat.le_refl _)]
  have h1 := (h.2.2 j (by rw [tr_len]; exact hj)).2
  rwa [tr_row hj] at h1
theorem sumK_mir {m : List (List Int)} (h : good m) {i : Nat} (hi : i < m.length) : ∀ j, j ≤ m.length → sumK (gr (mir m) i) j = 1 - sumK (gr m i) (m.length - j)
  | 0, _ => by rw [Nat.sub_zero, row_sumK h hi]; rfl
  | j + 1, hj => by
    have ih := sumK_mir h hi j (by omega)
    show sumK (gr (mir m) i) j + gi (gr (mir m) i) j = _
    rw [ih, gi_mir hi (by omega), show m.length - j = (m.length - (j + 1)) + 1 from by omega, show m.length - 1 - j = m.length - (j + 1) from by omega]
    show 1 - (sumK (gr m i) (m.length - (j + 1)) + gi (gr m i) (m.length - (j + 1))) + _ = _
    omega
theorem colS_mir {m : List (List Int)} {j : Nat} (hj : j < m.length) : ∀ k, k ≤ m.length → colS (mir m) j k = colS m (m.length - 1 - j) k
  | 0, _ => rfl
  | k + 1, hk => by
    show colS (mir m) j k + gi (gr (mir m) k) j = colS m _ k + gi (gr m k) _
    rw [colS_mir hj k (by omega), gi_mir (by omega) hj]
theorem S2_mir {m : List (List Int)} (h : good m) : ∀ i j, i ≤ m.length → j ≤ m.length → S2 (mir m) i j = i - S2 m i (m.length - j)
  | 0, j, _, _ => by show (0 : Int) = ((0 : Nat) : Int) - 0; omega
  | i + 1, j, hi, hj => by
    rw [S2_succ, S2_succ, S2_mir h i j (by omega) hj, sumF_gi, sumF_gi, sumK_mir h (by omega) j hj]
    omega
theorem crn_mir {m : List (List Int)} (h : good m) : Crn m.length (S2 (mir m)) := by
  have c := good_crn h
  have e := S2_mir h
  refine ⟨fun j hj => ?_, fun i hi => ?_, fun i hi => ?_, fun j hj => ?_, fun i j hi hj => ?_, fun i j hi hj => ?_⟩
  · rw [e 0 j (by omega) hj, c.top _ (by omega)]; omega
  · rw [e i 0 hi (by omega), Nat.sub_zero, c.right i hi]; omega
  · rw [e i _ hi (Nat.le_refl _), Nat.sub_self, c.left i hi]; omega
  · rw [e _ j (Nat.le_refl _) hj, c.bottom _ (by omega)]; omega
  · rw [e i j hi (by omega), e i (j + 1) hi (by omega)]
    have := c.across i (m.length - (j + 1)) hi (by omega)
    rw [show m.length - (j + 1) + 1 = m.length - j from by omega] at this
    omega
  · rw [e i j (by omega) hj, e (i + 1) j (by omega) hj]
    have := c.down i (m.length - j) hi (by omega)
    omega
theorem good_mir {m : List (List Int)} (h : good m) : good (mir m) := by
  have e := unC_S2 h.1.mir
  rw [mir_len] at e
  rw [← e]
  exact crn_good (crn_mir h) h.1.1 h.1.2.1
theorem good_tr {m : List (List Int)} (h : good m) : good (tr m) := ⟨h.1.tr, h.2.2, by rw [tr_tr h.1]; exact h.2.1⟩
theorem good_cw {m : List (List Int)} (h : good m) : good (cw m) := good_mir (good_tr h)
theorem mir_mir {m : List (List Int)} (h : square m) : mir (mir m) = m := by
  refine ext_gr (by rw [mir_len, mir_len]) fun i hi => ?_
  rw [mir_len, mir_len] at hi
  refine ext_gi (by rw [mir_row (by rw [mir_len]; exact hi), mir_len, h.2.2 i hi]) fun j hj => ?_
  rw [mir_row (by rw [mir_len]; exact hi), mir_len] at hj
  rw [gi_mir (by rw [mir_len]; exact hi) (by rw [mir_len]; exact hj), mir_len, gi_mir hi (by omega)]
  congr 1
  omega

theorem mcount_mir (m : List (List Int)) : mcount (mir m) = mcount m := by
  unfold mcount sum2
  rw [mir_len]
  refine sumF_congr fun i hi => ?_
  rw [← sumF_rev (fun j => isNeg (gi (gr m i) j))]
  exact sumF_congr fun j hj => by rw [gi_mir hi hj]
theorem mcount_tr (m : List (List Int)) : mcount (tr m) = mcount m := by
  unfold mcount sum2
  rw [tr_len, sumF_swap]
  exact sumF_congr fun i hi => sumF_congr fun j hj => by rw [gi_tr hj hi]
theorem mcount_cw (m : List (List Int)) : mcount (cw m) = mcount m := by unfold cw; rw [mcount_mir, mcount_tr]

theorem inv_tr {m : List (List Int)} (h : good m) : inv (tr m) = inv m := by
  rw [inv_sum, inv_sum, tr_len, sumF_swap]
  refine sumF_congr fun j hj => sumF_congr fun k hk => ?_
  have e1 : colS (tr m) j k = sumK (gr m j) k := by
    rw [colS_tr (by rw [tr_len]; exact hj) k (by rw [tr_len]; omega), tr_tr h.1]
  rw [e1, ← colS_tr hk j (by omega), Int.mul_comm]
theorem inv_mir {m : List (List Int)} (h : good m) : 2 * inv (mir m) = (m.length : Int) * ((m.length : Int) - 1) - 2 * inv m + 2 * mcount m := by
  have e : inv (mir m) = sumF (fun k => sumF (fun j => colS m j k) m.length + (-1) * sumF (fun j => colS m j k * sumK (gr m k) j) m.length + sumF (fun j => isNeg (gi (gr m k) j)) m.length) m.length := by
    rw [inv_sum, mir_len]
    refine sumF_congr fun k hk => ?_
    rw [sumF_congr (g := fun j => (fun t => colS m t k * (1 - sumK (gr m k) (t + 1))) (m.length - 1 - j)) fun j hj => by
      show _ = colS m (m.length - 1 - j) k * (1 - sumK (gr m k) (m.length - 1 - j + 1))
      rw [colS_mir hj k (by omega), sumK_mir h hk j (by omega), show m.length - 1 - j + 1 = m.length - j from by omega], sumF_rev (fun t => colS m t k * (1 - sumK (gr m k) (t + 1))), ← sumF_mul, sumF_plus, sumF_plus]
    refine sumF_congr fun j hj => ?_
    have h1 := rowS_01 h hk (k := j) (by omega)
    have h2 := colS_01 h hj (k := k) (by omega)
    have h3 := rowS_01 h hk (k := j + 1) (by omega)
    have h4 := colS_01 h hj (k := k + 1) (by omega)
    have e5 : sumK (gr m k) (j + 1) = sumK (gr m k) j + gi (gr m k) j := rfl
    have e6 : colS m j (k + 1) = colS m j k + gi (gr m k) j := rfl
    rw [e5] at h3 ⊢
    rw [e6] at h4
    unfold isNeg
    generalize sumK (gr m k) j = b at *
    generalize colS m j k = a at *
    generalize gi (gr m k) j = v at *
    obtain rfl | rfl : b = 0 ∨ b = 1 := by omega
    all_goals obtain rfl | rfl : a = 0 ∨ a = 1 := by omega
    all_goals obtain rfl | rfl | rfl : v = -1 ∨ v = 0 ∨ v = 1 := by omega
    all_goals first | decide | omega
  have e7 : sumF (fun k => sumF (fun j => colS m j k) m.length) m.length = sumF (fun i => (i : Int)) m.length := sumF_congr fun k hk => col_total h k (by omega)
  rw [sumF_add, sumF_add, sumF_mul, ← inv_sum, e7] at e
  have h2 := sum_below m.length
  have h3 : sumF (fun k => sumF (fun j => isNeg (gi (gr m k) j)) m.length) m.length = mcount m := rfl
  rw [h3] at e
  rw [e]
  omega
end Go.Proofs.Ytnhkclnloiiihaa
