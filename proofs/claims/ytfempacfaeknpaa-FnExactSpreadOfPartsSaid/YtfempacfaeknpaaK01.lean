/- Parts of proofs: contracts and plain facts. Conditions: as each says. -/
import Derived.Test.YtfempacfaeknpaaK00
namespace Go.Proofs.Ytfempacfaeknpaa

instance (row : List Int) (n : Nat) : Decidable (DpRow row n) := by unfold DpRow; exact inferInstance
instance (row above : List Int) : Decidable (DpBel row above) := by unfold DpBel; exact inferInstance

/-- what one more part adds, by the program: all rows that go on b with the part p + 1 -/
def longStep (l : List Int) (go : List Int → List (List Int)) (b : List Int) (p : Nat) : List (List Int) :=
  if Allow l (b ++ [(p : Int) + 1]) then (b ++ [(p : Int) + 1]) :: go (b ++ [(p : Int) + 1]) else []
def longTo (l : List Int) (go : List Int → List (List Int)) (b : List Int) (k : Nat) : List (List Int) := (List.range k).flatMap (longStep l go b)
def longL (l : List Int) : Nat → List Int → List (List Int)
  | 0, _ => []
  | f + 1, b => longTo l (longL l f) b (gi l b.length).toNat
def rowsL (l : List Int) : List (List Int) := longL l l.length []
theorem longTo_succ (l : List Int) (go : List Int → List (List Int)) (b : List Int) (k : Nat) : longTo l go b (k + 1) = longTo l go b k ++ longStep l go b k := by
  simp [longTo, List.range_succ]

/-- all rows of parts up to n that go on a row, by the model -/
def mostD (n : Nat) (row : List Int) : Int := if row.length = 0 then (n : Int) else gi row (row.length - 1)
def selfD (n : Nat) (row : List Int) : List (List Int) := if DpRow row n then [row] else []
def rowsTo (go : List Int → List (List Int)) (row : List Int) (k : Nat) : List (List Int) := (List.range k).flatMap fun (x : Nat) => go (row ++ [(x : Int) + 1])
def rowsD (n : Nat) : Nat → List Int → List (List Int)
  | 0, row => selfD n row
  | f + 1, row => selfD n row ++ rowsTo (rowsD n f) row (mostD n row).toNat
theorem rowsTo_succ (go : List Int → List (List Int)) (row : List Int) (k : Nat) : rowsTo go row (k + 1) = rowsTo go row k ++ go (row ++ [(k : Int) + 1]) := by
  simp [rowsTo, List.range_succ]
/-- those that can stand below the last of some rows; all if there is none -/
def belD (rows : List (List Int)) (row : List Int) : Bool := decide (rows.length = 0) || decide (DpBel row (gr rows (rows.length - 1)))
def nextD (n : Nat) (rows : List (List Int)) : List (List Int) := (rowsD n (n - 1) []).filter (belD rows)

theorem first_rows : ∀ n : Nat, n < 7 → n = 0 ∨ nextD n [] = rowsL (lim1 n) := by decide +kernel

/-- rows of numbers 1 to 6 -/
def words : Nat → List (List Int)
  | 0 => [[]]
  | f + 1 => [] :: (words f).flatMap fun r => (List.range 6).map fun (x : Nat) => ((x : Int) + 1) :: r
theorem words_mem : ∀ (f : Nat) (r : List Int), r.length ≤ f → (∀ x, x ∈ r → 1 ≤ x ∧ x ≤ 6) → r ∈ words f
  | 0, r, h, _ => by
    have : r = [] := List.length_eq_zero_iff.1 (by omega)
    subst this; simp [words]
  | f + 1, [], _, _ => by simp [words]
  | f + 1, x :: r, h, hx => by
    have ih := words_mem f r (by simpa using h) (fun y hy => hx y (List.mem_cons_of_mem _ hy))
    have h1 := hx x (List.mem_cons_self ..)
    simp only [words, List.mem_cons, reduceCtorEq, List.mem_flatMap, List.mem_map, List.mem_range, false_or]
    exact ⟨r, ih, (x - 1).toNat, by omega, by congr 1; omega⟩
theorem DpRow.word {row : List Int} (h : DpRow row 6) : row ∈ words 5 := by
  refine words_mem 5 row (by have := h.2.1; omega) fun x hx => ?_
  obtain ⟨i, hi, rfl⟩ := List.mem_iff_getElem.1 hx
  have := h.2.2.1 i hi
  rw [gi_lt hi] at this
  exact this
def rows6 : List (List Int) := (words 5).filter fun r => decide (DpRow r 6)
theorem rows6_below : (rows6.all fun r => decide ((rowsD 6 5 []).filter (belD [r]) = rowsL (limB r))) = true := by decide +kernel
theorem rows_below {row : List Int} (h : DpRow row 6) : nextD 6 [row] = rowsL (limB row) := by
  have h1 := List.all_eq_true.1 rows6_below row (by unfold rows6; simp [h.word, h])
  exact of_decide_eq_true h1
end Go.Proofs.Ytfempacfaeknpaa

