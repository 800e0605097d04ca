/- Contracts: how many inversions, by the model's four loops and by the program's blocks. -/
import Derived.Test.YtgdijjfipicodaaPlac
namespace Go.Proofs.Ytgdijjfipicodaa
open Go.RowKit

def q4 (m : List (List Int)) (i k j t : Nat) : Int := sumF (fun l => gi (gr m i) j * gi (gr m k) l) t
def q3 (m : List (List Int)) (i k t : Nat) : Int := sumF (fun j => q4 m i k j j) t
def q2 (m : List (List Int)) (i t : Nat) : Int := sumF (fun k => q3 m i (i + 1 + k) m.length) t
def q1 (m : List (List Int)) (t : Nat) : Int := sumF (fun i => q2 m i (m.length - (i + 1))) t
def inv (m : List (List Int)) : Int := q1 m m.length

theorem unit_mul {x y : Int} {B : Int} (hx : -1 ≤ x ∧ x ≤ 1) (hy : -B ≤ y ∧ y ≤ B) : -B ≤ x * y ∧ x * y ≤ B := by
  have : x = -1 ∨ x = 0 ∨ x = 1 := by omega
  rcases this with rfl | rfl | rfl
  · rw [Int.neg_one_mul]; omega
  · rw [Int.zero_mul]; omega
  · rw [Int.one_mul]; exact hy

theorem q4_b {m : List (List Int)} (h : good m) {i k j t : Nat} (hi : i < m.length) (hk : k < m.length) (hj : j < m.length) (ht : t ≤ m.length) : -6 ≤ q4 m i k j t ∧ q4 m i k j t ≤ 6 := by
  have hn := h.1.2.1
  have := sumF_bound (f := fun l => gi (gr m i) j * gi (gr m k) l) (B := 1) (k := t) (fun l hl => unit_mul (good_entry h hi hj) (good_entry h hk (by omega)))
  unfold q4
  omega
theorem q3_b {m : List (List Int)} (h : good m) {i k t : Nat} (hi : i < m.length) (hk : k < m.length) (ht : t ≤ m.length) : -36 ≤ q3 m i k t ∧ q3 m i k t ≤ 36 := by
  have hn := h.1.2.1
  have := sumF_bound (f := fun j => q4 m i k j j) (B := 6) (k := t) (fun j hj => q4_b h hi hk (by omega) (by omega))
  unfold q3
  omega
theorem q2_b {m : List (List Int)} (h : good m) {i t : Nat} (hi : i < m.length) (ht : i + 1 + t ≤ m.length) : -216 ≤ q2 m i t ∧ q2 m i t ≤ 216 := by
  have hn := h.1.2.1
  have := sumF_bound (f := fun k => q3 m i (i + 1 + k) m.length) (B := 36) (k := t) (fun k hk => q3_b h hi (by omega) (Nat.le_refl _))
  unfold q2
  omega
theorem q1_b {m : List (List Int)} (h : good m) {t : Nat} (ht : t ≤ m.length) : -1296 ≤ q1 m t ∧ q1 m t ≤ 1296 := by
  have hn := h.1.2.1
  have := sumF_bound (f := fun i => q2 m i (m.length - (i + 1))) (B := 216) (k := t) (fun i hi => q2_b h (by omega) (by omega))
  unfold q1
  omega

theorem sumF_mul (c : Int) (f : Nat → Int) (k : Nat) : sumF (fun i => c * f i) k = c * sumF f k := by
  induction k with
  | zero => simp [sumF]
  | succ k ih => simp only [sumF]; rw [ih, Int.mul_add]
theorem sumF_swap (f : Nat → Nat → Int) (p q : Nat) : sumF (fun a => sumF (fun b => f a b) q) p = sumF (fun b => sumF (fun a => f a b) p) q := by
  induction p with
  | zero => show (0 : Int) = sumF (fun _ => 0) q; rw [sumF_zero]
  | succ p ih => show sumF (fun a => sumF (fun b => f a b) q) p + sumF (fun b => f p b) q = _; rw [ih, ← sumF_add]; rfl

/-- the program's sums -/
def u2 (m : List (List Int)) (i t : Nat) : Int := sumF (fun j => gi (gr m i) j * bsum (m.drop (i + 1)) j) t
def u1 (m : List (List Int)) (t : Nat) : Int := sumF (fun i => u2 m i m.length) t

theorem u2_q2 {m : List (List Int)} {i : Nat} : u2 m i m.length = q2 m i (m.length - (i + 1)) := by
  unfold u2 q2 q3 q4
  rw [sumF_swap]
  refine sumF_congr fun j _ => ?_
  rw [show sumF (fun a => sumF (fun l => gi (gr m i) j * gi (gr m (i + 1 + a)) l) j) (m.length - (i + 1)) = sumF (fun a => gi (gr m i) j * sumF (fun l => gi (gr m (i + 1 + a)) l) j) (m.length - (i + 1)) from
    sumF_congr fun a _ => sumF_mul _ _ _, sumF_mul]
  congr 1
  unfold bsum
  rw [List.length_drop]
  exact sumF_congr fun a _ => by rw [gr_drop]
theorem u1_inv (m : List (List Int)) : u1 m m.length = inv m := sumF_congr fun _ _ => u2_q2

theorem bs_b {m : List (List Int)} (h : good m) {i j : Nat} (hj : j ≤ m.length) : -36 ≤ bsum (m.drop i) j ∧ bsum (m.drop i) j ≤ 36 := block_bound ((h.tame hj).drop i) (Nat.le_refl _)
theorem u2_b {m : List (List Int)} (h : good m) {i t : Nat} (hi : i < m.length) (ht : t ≤ m.length) : -216 ≤ u2 m i t ∧ u2 m i t ≤ 216 := by
  have hn := h.1.2.1
  have := sumF_bound (f := fun j => gi (gr m i) j * bsum (m.drop (i + 1)) j) (B := 36) (k := t) (fun j hj => unit_mul (good_entry h hi (by omega)) (bs_b h (by omega)))
  unfold u2
  omega
theorem u1_b {m : List (List Int)} (h : good m) {t : Nat} (ht : t ≤ m.length) : -1296 ≤ u1 m t ∧ u1 m t ≤ 1296 := by
  have hn := h.1.2.1
  have := sumF_bound (f := fun i => u2 m i m.length) (B := 216) (k := t) (fun i hi => u2_b h (by omega) (Nat.le_refl _))
  unfold u1
  omega

end Go.Proofs.Ytgdijjfipicodaa
