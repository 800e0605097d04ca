/- Mathematics: sums over the parts of rows, nested and flat, and their bounds. No condition. -/
import Derived.Test.YtgdijjfipicodaaDpM
import Derived.Test.YtgdijjfipicodaaSums
namespace Go.Proofs.Ytgdijjfipicodaa

/-- the sum over the numbers of a row, of what f tells of a place and a number; over some rows -/
def sumR (f : Nat → Int → Int) (row : List Int) : Int := sumF (fun i => f i (gi row i)) row.length
def sumT (f : Nat → Int → Int) (rows : List (List Int)) (k : Nat) : Int := sumF (fun j => sumR f (gr rows j)) k

def fOne (_ : Nat) (_ : Int) : Int := 1
def fSpec (i : Nat) (x : Int) : Int := if x ≤ i then 1 else 0
def fEq (n : Int) (_ : Nat) (x : Int) : Int := if x = n then 1 else 0
def fId (_ : Nat) (x : Int) : Int := x

theorem sumR_one (row : List Int) : sumR fOne row = row.length := by
  unfold sumR fOne
  generalize row.length = n
  induction n with
  | zero => rfl
  | succ n ih => simp only [sumF]; rw [ih]; omega

theorem gi_app_left {a b : List Int} {i : Nat} (h : i < a.length) : gi (a ++ b) i = gi a i := by simp [gi, List.getD, List.getElem?_append_left h]
theorem gi_app_right {a b : List Int} {i : Nat} : gi (a ++ b) (a.length + i) = gi b i := by simp [gi, List.getD, List.getElem?_append_right]
theorem sumF_app (F : Nat → Int) (a b : Nat) : sumF F (a + b) = sumF F a + sumF (fun i => F (a + i)) b := by
  induction b with
  | zero => simp [sumF]
  | succ b ih => rw [← Nat.add_assoc]; simp only [sumF]; rw [ih]; omega

/-- numbers without their places: sums over rows put together -/
theorem sumR_app (f : Int → Int) (a b : List Int) : sumR (fun _ => f) (a ++ b) = sumR (fun _ => f) a + sumR (fun _ => f) b := by
  unfold sumR
  rw [List.length_append, sumF_app]
  congr 1
  · exact sumF_congr fun i hi => by rw [gi_app_left hi]
  · exact sumF_congr fun i hi => by rw [gi_app_right]
theorem take_flat {rows : List (List Int)} {k : Nat} (h : k < rows.length) : (rows.take (k + 1)).flatten = (rows.take k).flatten ++ gr rows k := by
  rw [List.take_succ_eq_append_getElem h, List.flatten_append, gr_lt h]
  simp
theorem sumR_flat (f : Int → Int) (rows : List (List Int)) : ∀ k, k ≤ rows.length → sumR (fun _ => f) (rows.take k).flatten = sumT (fun _ => f) rows k
  | 0, _ => by simp [sumR, sumT, sumF]
  | k + 1, h => by
    rw [take_flat (by omega), sumR_app, sumR_flat f rows k (by omega)]
    rfl
theorem sumR_flatten (f : Int → Int) (rows : List (List Int)) : sumR (fun _ => f) rows.flatten = sumT (fun _ => f) rows rows.length := by
  have := sumR_flat f rows rows.length (Nat.le_refl _)
  rwa [List.take_length] at this
theorem flat_len {rows : List (List Int)} {B : Nat} (h : ∀ i, i < rows.length → (gr rows i).length ≤ B) : ∀ k, k ≤ rows.length → (rows.take k).flatten.length ≤ k * B
  | 0, _ => by simp
  | k + 1, hk => by
    rw [take_flat (by omega), List.length_append, Nat.succ_mul]
    have := flat_len h k (by omega)
    have := h k (by omega)
    omega

/-- each number tells 0 to B -/
theorem sumR_part_bd {f : Nat → Int → Int} {row : List Int} {B : Int} (h : ∀ i, i < row.length → 0 ≤ f i (gi row i) ∧ f i (gi row i) ≤ B) : ∀ k, k ≤ row.length → 0 ≤ sumF (fun i => f i (gi row i)) k ∧ sumF (fun i => f i (gi row i)) k ≤ k * B
  | 0, _ => by simp [sumF]
  | k + 1, hk => by
    have ih := sumR_part_bd h k (by omega)
    have := h k (by omega)
    simp only [sumF]
    have e : ((k + 1 : Nat) : Int) * B = k * B + B := by rw [show ((k + 1 : Nat) : Int) = (k : Int) + 1 from by omega, Int.add_mul, Int.one_mul]
    omega
theorem sumT_bd {f : Nat → Int → Int} {rows : List (List Int)} {B : Int} (h : ∀ j, j < rows.length → 0 ≤ sumR f (gr rows j) ∧ sumR f (gr rows j) ≤ B) : ∀ k, k ≤ rows.length → 0 ≤ sumT f rows k ∧ sumT f rows k ≤ k * B
  | 0, _ => by simp [sumT, sumF]
  | k + 1, hk => by
    have ih := sumT_bd h k (by omega)
    have := h k (by omega)
    unfold sumT at ih ⊢
    simp only [sumF]
    have e : ((k + 1 : Nat) : Int) * B = k * B + B := by rw [show ((k + 1 : Nat) : Int) = (k : Int) + 1 from by omega, Int.add_mul, Int.one_mul]
    omega
theorem sumT_step (f : Nat → Int → Int) (rows : List (List Int)) (k : Nat) : sumT f rows (k + 1) = sumT f rows k + sumR f (gr rows k) := rfl

/-- what is told of the parts of partitions for 6 is 0 to 6 -/
def Tells (f : Nat → Int → Int) : Prop := ∀ i x, 1 ≤ x → x ≤ 6 → 0 ≤ f i x ∧ f i x ≤ 6
theorem tells_one : Tells fOne := fun _ _ _ _ => by unfold fOne; omega
theorem tells_spec : Tells fSpec := fun i x _ _ => by unfold fSpec; by_cases h : x ≤ (i : Int) <;> simp [h]
theorem tells_eq (n : Int) : Tells (fEq n) := fun i x _ _ => by unfold fEq; by_cases h : x = n <;> simp [h]
theorem tells_id : Tells fId := fun _ x _ _ => by unfold fId; omega
theorem DpGood.row_bd {f : Nat → Int → Int} (hf : Tells f) {rows : List (List Int)} (h : DpGood rows 6) {j : Nat} (hj : j < rows.length) : ∀ k, k ≤ (gr rows j).length → 0 ≤ sumF (fun i => f i (gi (gr rows j) i)) k ∧ sumF (fun i => f i (gi (gr rows j) i)) k ≤ 30 := by
  intro k hk
  have h1 := sumR_part_bd (f := f) (row := gr rows j) (B := 6) (fun i hi => hf i _ ((h.2 j hj).1.2.2.1 i hi).1 (by have := ((h.2 j hj).1.2.2.1 i hi).2; omega)) k hk
  have := (h.bounds (by omega)).2 j hj
  omega
theorem DpGood.sum_bd {f : Nat → Int → Int} (hf : Tells f) {rows : List (List Int)} (h : DpGood rows 6) : ∀ k, k ≤ rows.length → 0 ≤ sumT f rows k ∧ sumT f rows k ≤ 150 := by
  intro k hk
  have h1 := sumT_bd (f := f) (rows := rows) (B := 30) (fun j hj => h.row_bd hf hj _ (Nat.le_refl _)) k hk
  have := (h.bounds (by omega)).1
  omega
end Go.Proofs.Ytgdijjfipicodaa
