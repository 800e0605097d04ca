/- Contracts: the sign matrix of a placing, by the model and by the program. -/
import Derived.Test.YtgdijjfipicodaaDiff
namespace Go.Proofs.Ytgdijjfipicodaa
open Go.RowKit

/-- the table with 1 in row i at column p[i] -/
def pm (p : List Int) : List (List Int) := tab p.length p.length fun i j => if gi p i = j then 1 else 0
theorem pm_len (p : List Int) : (pm p).length = p.length := tab_len _ _ _
theorem gi_pm {p : List Int} {i j : Nat} (hi : i < p.length) (hj : j < p.length) : gi (gr (pm p) i) j = if gi p i = j then 1 else 0 := gi_tab hi hj
def isPerm (p : List Int) : Prop := 1 ≤ p.length ∧ p.length ≤ 6 ∧ allIn p 0 (p.length - 1) ∧ ∀ i j, i < j → j < p.length → gi p i ≠ gi p j

theorem pm_square {p : List Int} (h1 : 1 ≤ p.length) (h2 : p.length ≤ 6) : square (pm p) := ⟨by rw [pm_len]; exact h1, by rw [pm_len]; exact h2, fun i hi => by rw [pm_len] at hi ⊢; exact tab_row hi⟩

theorem one_sum {x : Int} {f : Nat → Int} (hf : ∀ j, f j = if x = j then 1 else 0) (k : Nat) : sumF f k = if 0 ≤ x ∧ x < k then 1 else 0 := by
  induction k with
  | zero => rw [if_neg (by omega)]; rfl
  | succ k ih =>
    simp only [sumF]
    rw [ih, hf k]
    by_cases h1 : x = k
    · rw [if_neg (by omega), if_pos h1, if_pos (by omega)]; rfl
    · rw [if_neg h1]
      by_cases h2 : 0 ≤ x ∧ x < k
      · rw [if_pos h2, if_pos (by omega)]; rfl
      · rw [if_neg h2, if_neg (by omega)]; rfl

theorem pm_rowsum {p : List Int} {i k : Nat} (hi : i < p.length) (hk : k ≤ p.length) : sumK (gr (pm p) i) k = if 0 ≤ gi p i ∧ gi p i < k then 1 else 0 := by
  rw [sumK_sumF, sumF_congr (g := fun j => if gi p i = j then 1 else 0) (fun j hj => gi_pm hi (by omega))]
  exact one_sum (fun _ => rfl) k

theorem pm_colsum {p : List Int} {j k : Nat} (hj : j < p.length) (hk : k ≤ p.length) (hd : ∀ i i', i < i' → i' < p.length → gi p i ≠ gi p i') :
    0 ≤ sumK (gr (tr (pm p)) j) k ∧ sumK (gr (tr (pm p)) j) k ≤ 1 ∧ (1 ≤ sumK (gr (tr (pm p)) j) k → ∃ i, i < k ∧ gi p i = j) := by
  induction k with
  | zero => simp [sumK]
  | succ k ih =>
    obtain ⟨h1, h2, h3⟩ := ih (by omega)
    have e : gi (gr (tr (pm p)) j) k = if gi p k = j then 1 else 0 := by rw [gi_tr (by rw [pm_len]; exact hj) (by rw [pm_len]; omega), gi_pm (by omega) hj]
    simp only [sumK]
    rw [e]
    by_cases hp : gi p k = j
    · rw [if_pos hp]
      have : ¬ 1 ≤ sumK (gr (tr (pm p)) j) k := fun h => by
        obtain ⟨i, hi, hij⟩ := h3 h
        exact hd i k hi (by omega) (hij.trans hp.symm)
      exact ⟨by omega, by omega, fun _ => ⟨k, by omega, hp⟩⟩
    · rw [if_neg hp]
      refine ⟨by omega, by omega, fun h => ?_⟩
      obtain ⟨i, hi, hij⟩ := h3 (by omega)
      exact ⟨i, by omega, hij⟩

theorem all_one {f : Nat → Int} : ∀ {k : Nat}, (∀ i, i < k → f i ≤ 1) → sumF f k = k → ∀ i, i < k → f i = 1
  | 0, _, _ => fun i hi => absurd hi (by omega)
  | k + 1, h, he => by
    have h0 : sumF f k ≤ k := by
      have : ∀ t, t ≤ k → sumF f t ≤ t := by
        intro t
        induction t with
        | zero => simp [sumF]
        | succ t ih => intro ht; have := ih (by omega); have := h t (by omega); simp only [sumF]; omega
      exact this k (Nat.le_refl _)
    have h1 := h k (by omega)
    simp only [sumF] at he
    intro i hi
    by_cases e : i = k
    · subst e; omega
    · exact all_one (k := k) (fun i hi => h i (by omega)) (by omega) i (by omega)

theorem pm_good {p : List Int} (h : isPerm p) : good (pm p) := by
  obtain ⟨h1, h2, h3, h4⟩ := h
  have hrow : rowsOk (pm p) := by
    intro i hi
    rw [pm_len] at hi
    have hl : (gr (pm p) i).length = p.length := tab_row hi
    refine ⟨fun k hk => ?_, ?_⟩
    · rw [hl] at hk
      rw [pm_rowsum hi hk]
      split <;> omega
    · rw [hl, pm_rowsum hi (Nat.le_refl _), if_pos]
      have := h3 i hi
      omega
  have hcol : ∀ j, j < p.length → sumK (gr (tr (pm p)) j) p.length = 1 := by
    refine all_one (f := fun j => sumK (gr (tr (pm p)) j) p.length) (fun j hj => (pm_colsum hj (Nat.le_refl _) h4).2.1) ?_
    have e1 := S2_cols (m := pm p) (a := p.length) (b := p.length) (by rw [pm_len]; exact Nat.le_refl _) (by rw [pm_len]; exact Nat.le_refl _)
    rw [← e1]
    show sumF (fun i => sumF (fun j => gi (gr (pm p) i) j) p.length) p.length = p.length
    rw [sumF_congr (g := fun _ => 1) (fun i hi => by
      have := (hrow i (by rw [pm_len]; exact hi)).2
      rw [show (gr (pm p) i).length = p.length from tab_row hi, sumK_sumF] at this
      exact this)]
    have : ∀ k : Nat, sumF (fun _ => (1 : Int)) k = k := by
      intro k
      induction k with
      | zero => rfl
      | succ k ih => simp only [sumF]; omega
    exact this _
  refine ⟨pm_square h1 h2, hrow, fun j hj => ?_⟩
  rw [tr_len, pm_len] at hj
  have hl : (gr (tr (pm p)) j).length = p.length := by rw [tr_row (by rw [pm_len]; exact hj), pm_len]
  refine ⟨fun k hk => ?_, by rw [hl]; exact hcol j hj⟩
  rw [hl] at hk
  have := pm_colsum hj hk h4
  omega

theorem perm_of_good {p : List Int} (hin : allIn p 0 (p.length - 1)) (hg : good (pm p)) : isPerm p := by
  have h1 := hg.1.1
  have h2 := hg.1.2.1
  rw [pm_len] at h1 h2
  refine ⟨h1, h2, hin, fun i i' hii hi' he => ?_⟩
  have hp := hin i' hi'
  obtain ⟨j, hj⟩ := Int.eq_ofNat_of_zero_le hp.1
  have hjl : j < p.length := by omega
  have hc := hg.2.2 j (by rw [tr_len, pm_len]; exact hjl)
  have hl : (gr (tr (pm p)) j).length = p.length := by rw [tr_row (by rw [pm_len]; exact hjl), pm_len]
  have g1 : gi (gr (tr (pm p)) j) i = 1 := by rw [gi_tr (by rw [pm_len]; exact hjl) (by rw [pm_len]; omega), gi_pm (by omega) hjl, if_pos (by rw [he]; exact hj)]
  have g2 : gi (gr (tr (pm p)) j) i' = 1 := by rw [gi_tr (by rw [pm_len]; exact hjl) (by rw [pm_len]; omega), gi_pm (by omega) hjl, if_pos hj]
  have pos : ∀ k, k < p.length → 0 ≤ gi (gr (tr (pm p)) j) k := fun k hk => by
    rw [gi_tr (by rw [pm_len]; exact hjl) (by rw [pm_len]; omega), gi_pm hk hjl]
    split <;> omega
  have mono : ∀ a b, a ≤ b → b ≤ p.length → sumK (gr (tr (pm p)) j) a ≤ sumK (gr (tr (pm p)) j) b := by
    intro a b hab
    induction b with
    | zero => intro _; obtain rfl : a = 0 := by omega
              exact Int.le_refl _
    | succ b ih =>
      intro hb
      by_cases e : a = b + 1
      · subst e; exact Int.le_refl _
      · have := ih (by omega) (by omega)
        have := pos b (by omega)
        simp only [sumK]
        omega
  have a1 := (hc.1 i (by omega)).1
  have a2 := (hc.1 (i' + 1) (by omega)).2
  have a3 := mono (i + 1) i' (by omega) (by omega)
  simp only [sumK] at a2 a3
  omega

/-- the numbers are told apart as far as k -/
def has (xs : List Int) (x : Int) : Prop := ∃ j, j < xs.length ∧ gi xs j = x

theorem pm_small {p : List Int} (h : isPerm p) : Small (pm p) := (pm_good h).1.small
end Go.Proofs.Ytgdijjfipicodaa
