/- The ends of the drawn edges outwards, in order: side, row and column of each; how the model lists them, side by side. No conditions. -/
import Derived.Test.YteakdbmdokleoaaMath1
namespace Go.Proofs.Yteakdbmdokleoaa

/-- the end t of n rows: its side, and its point's row and column -/
def endAt (n t : Nat) : Nat × Nat × Nat :=
  if (2 * t + 1) / n = 0 then (0, 0, (2 * t + 1) % n)
  else if (2 * t + 1) / n = 1 then (1, (2 * t + 1) % n, n - 1)
  else if (2 * t + 1) / n = 2 then (2, n - 1, n - 1 - (2 * t + 1) % n)
  else (3, n - 1 - (2 * t + 1) % n, 0)
def endsL (n : Nat) : List (Nat × Nat × Nat) := (List.range (2 * n)).map (endAt n)
def endRow (e : Nat × Nat × Nat) : List Int := [(e.1 : Int), (e.2.1 : Int), (e.2.2 : Int)]
def endsM (n : Nat) : List (List Int) := (endsL n).map endRow

def seg1 (t : Nat) : List (List Int) := (List.range t).map fun i : Nat => [0, 0, 2 * (i : Int) + 1]
def seg2 (n t : Nat) : List (List Int) := (List.range t).flatMap fun i : Nat => if (n + i) % 2 = 1 then [[1, (i : Int), (n : Int) - 1]] else []
def seg3 (n t : Nat) : List (List Int) := (List.range t).flatMap fun i : Nat => if (n + (n - 1 - i)) % 2 = 0 then [[2, (n : Int) - 1, ((n - 1 - i : Nat) : Int)]] else []
def seg4 (n t : Nat) : List (List Int) := (List.range t).flatMap fun i : Nat => if (n - 1 - i) % 2 = 0 then [[3, ((n - 1 - i : Nat) : Int), 0]] else []
theorem segs_ends : ∀ n, n < 7 → 1 ≤ n → seg1 (n / 2) ++ seg2 n n ++ seg3 n n ++ seg4 n n = endsM n := by decide +kernel
theorem seg1_succ (t : Nat) : seg1 (t + 1) = seg1 t ++ [[0, 0, 2 * (t : Int) + 1]] := by simp [seg1, List.range_succ]
theorem seg2_yes {n t : Nat} (h : (n + t) % 2 = 1) : seg2 n (t + 1) = seg2 n t ++ [[1, (t : Int), (n : Int) - 1]] := by simp [seg2, List.range_succ, h]
theorem seg2_no {n t : Nat} (h : (n + t) % 2 ≠ 1) : seg2 n (t + 1) = seg2 n t := by simp [seg2, List.range_succ, h]
theorem seg3_yes {n t : Nat} (h : (n + (n - 1 - t)) % 2 = 0) : seg3 n (t + 1) = seg3 n t ++ [[2, (n : Int) - 1, ((n - 1 - t : Nat) : Int)]] := by simp [seg3, List.range_succ, h]
theorem seg3_no {n t : Nat} (h : (n + (n - 1 - t)) % 2 ≠ 0) : seg3 n (t + 1) = seg3 n t := by simp [seg3, List.range_succ, h]
theorem seg4_yes {n t : Nat} (h : (n - 1 - t) % 2 = 0) : seg4 n (t + 1) = seg4 n t ++ [[3, ((n - 1 - t : Nat) : Int), 0]] := by simp [seg4, List.range_succ, h]
theorem seg4_no {n t : Nat} (h : (n - 1 - t) % 2 ≠ 0) : seg4 n (t + 1) = seg4 n t := by simp [seg4, List.range_succ, h]
theorem flat_len {α : Type} (t : Nat) (f : Nat → List α) (h : ∀ i, (f i).length ≤ 1) : ((List.range t).flatMap f).length ≤ t := by
  induction t with
  | zero => simp
  | succ t ih => rw [List.range_succ, List.flatMap_append, List.length_append, List.flatMap_cons, List.flatMap_nil, List.append_nil]; have := h t; omega
theorem seg1_len (t : Nat) : (seg1 t).length = t := by simp [seg1]
theorem seg2_len (n t : Nat) : (seg2 n t).length ≤ t := flat_len t _ fun i => by split <;> simp
theorem seg3_len (n t : Nat) : (seg3 n t).length ≤ t := flat_len t _ fun i => by split <;> simp
theorem seg4_len (n t : Nat) : (seg4 n t).length ≤ t := flat_len t _ fun i => by split <;> simp
theorem endsL_len (n : Nat) : (endsL n).length = 2 * n := by simp [endsL]
theorem endsM_len (n : Nat) : (endsM n).length = 2 * n := by simp [endsM, endsL_len]
theorem ends_in : ∀ n, n < 7 → 1 ≤ n → ∀ t, t < 2 * n → (endAt n t).1 < 4 ∧ (endAt n t).2.1 < n ∧ (endAt n t).2.2 < n := by decide +kernel
/-- the same list, number by number, as the program reckons it: k = 2 t + 1, by k / n and k % n -/
theorem endAt_div : ∀ n, n < 7 → 1 ≤ n → ∀ t, t < 2 * n → (2 * t + 1) / n < 4 := by decide +kernel
end Go.Proofs.Yteakdbmdokleoaa
