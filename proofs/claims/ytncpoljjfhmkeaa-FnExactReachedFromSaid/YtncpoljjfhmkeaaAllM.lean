/- All patterns of up to 6 lines: the program's list and the model's, which counts from an offset. No conditions. -/
import Derived.Test.YtncpoljjfhmkeaaMath1
namespace Go.Proofs.Ytncpoljjfhmkeaa

/-- a line around a pattern, and another pattern behind it -/
def encl (a b : List Int) : List Int := ((a.length + 1 : Nat) : Int) :: a.map (fun x => 1 + x) ++ 0 :: b.map (fun x => ((a.length + 1 : Nat) : Int) + 1 + x)
/-- all patterns of n lines: the first number is fuel -/
def patP : Nat → Nat → List (List Int)
  | _, 0 => [[]]
  | 0, _ + 1 => []
  | f + 1, n + 1 => (List.range (n + 1)).flatMap fun k => (patP f k).flatMap fun a => (patP f (n - k)).map fun b => encl a b
/-- the same as lists of numbers from an offset on -/
def patO : Nat → Nat → Nat → List (List Int)
  | _, 0, _ => [[]]
  | 0, _ + 1, _ => []
  | f + 1, n + 1, o => (List.range (n + 1)).flatMap fun k => (patO f k (o + 1)).flatMap fun a => (patO f (n - k) (o + 2 * k + 2)).map fun b => ((o + 2 * k + 1 : Nat) : Int) :: a ++ (o : Int) :: b

theorem pat_same : ∀ n, n < 7 → patO 6 n 0 = patP 6 n := by decide +kernel

def rowsIn (m : List (List Int)) (l : Nat) (hi : Int) : Bool := m.all fun r => r.length == l && r.all fun x => decide (0 ≤ x) && decide (x ≤ hi)
theorem patP_ok : ∀ f, f < 7 → ∀ n, n < f + 1 → rowsIn (patP f n) (2 * n) 12 = true ∧ (patP f n).length ≤ 132 := by decide +kernel
theorem patO_ok : ∀ f, f < 7 → ∀ n, n < f + 1 → ∀ o, o < 13 → rowsIn (patO f n o) (2 * n) 40 = true ∧ (patO f n o).length ≤ 132 := by decide +kernel
theorem rowsIn_at {m : List (List Int)} {l : Nat} {hi : Int} (h : rowsIn m l hi = true) {i : Nat} (hi' : i < m.length) : (gr m i).length = l ∧ ∀ j, j < l → 0 ≤ gi (gr m i) j ∧ gi (gr m i) j ≤ hi := by
  unfold rowsIn at h
  rw [List.all_eq_true] at h
  have h1 := h _ (gr_mem hi')
  simp only [Bool.and_eq_true, beq_iff_eq, List.all_eq_true, decide_eq_true_eq] at h1
  exact ⟨h1.1, fun j hj => h1.2 _ (gi_mem (by rw [h1.1]; exact hj))⟩
theorem encl_len (a b : List Int) : (encl a b).length = a.length + b.length + 2 := by simp [encl]; omega
/-- the lists up to the line with k inside, and of that up to the pattern s inside, and of that up to t behind -/
def partP (f n k s t : Nat) : List (List Int) :=
  ((List.range k).flatMap fun k => (patP f k).flatMap fun a => (patP f (n - k)).map fun b => encl a b) ++
  ((List.range s).flatMap fun i => (patP f (n - k)).map fun b => encl (gr (patP f k) i) b) ++
  ((List.range t).map fun j => encl (gr (patP f k) s) (gr (patP f (n - k)) j))
theorem partP_zero (f n k : Nat) : partP f n k 0 0 = (List.range k).flatMap fun k => (patP f k).flatMap fun a => (patP f (n - k)).map fun b => encl a b := by simp [partP]
theorem partP_t (f n k s t : Nat) : partP f n k s (t + 1) = partP f n k s t ++ [encl (gr (patP f k) s) (gr (patP f (n - k)) t)] := by simp [partP, List.range_succ]
theorem range_gr {α : Type} (g : List Int → α) (m : List (List Int)) : (List.range m.length).map (fun i => g (gr m i)) = m.map g := by
  apply List.ext_getElem?
  intro i
  rw [List.getElem?_map, List.getElem?_map]
  by_cases h : i < m.length
  · rw [List.getElem?_range h, Option.map_some, List.getElem?_eq_getElem h, Option.map_some, gr_lt h]
  · rw [List.getElem?_eq_none (by simpa using h), List.getElem?_eq_none (by simpa using h)]; rfl
theorem partP_s (f n k s : Nat) : partP f n k s (patP f (n - k)).length = partP f n k (s + 1) 0 := by
  unfold partP
  rw [range_gr (fun b => encl (gr (patP f k) s) b)]
  simp [List.range_succ]
theorem partP_k (f n k : Nat) : partP f n k (patP f k).length 0 = partP f n (k + 1) 0 0 := by
  rw [partP_zero, List.range_succ, List.flatMap_append]
  unfold partP
  have := range_gr (fun a => (patP f (n - k)).map fun b => encl a b) (patP f k)
  rw [List.flatMap_def (l := List.range (patP f k).length), this]
  simp [List.flatMap_def]
theorem partP_end (f n : Nat) : partP f n (n + 1) 0 0 = patP (f + 1) (n + 1) := by rw [partP_zero]; rfl
theorem flat_le {α β : Type} (g : α → List β) (B : Nat) : ∀ l : List α, (∀ x, x ∈ l → (g x).length ≤ B) → (l.flatMap g).length ≤ l.length * B
  | [], _ => by simp
  | a :: l, h => by
    have h1 := flat_le g B l (fun x hx => h x (by simp [hx]))
    have h2 := h a (by simp)
    rw [List.flatMap_cons, List.length_append, List.length_cons, Nat.add_mul]
    omega
theorem partP_len {f n k s t : Nat} (hf : f < 7) (hn : n ≤ f) (hk : k ≤ n) (hs : s ≤ 132) (ht : t ≤ 132) : (partP f n k s t).length ≤ 200000 := by
  have hp : ∀ d, d ≤ f → (patP f d).length ≤ 132 := fun d hd => (patP_ok f hf d (by omega)).2
  unfold partP
  rw [List.length_append, List.length_append]
  have h1 := flat_le (fun k => (patP f k).flatMap fun a => (patP f (n - k)).map fun b => encl a b) (132 * 132) (List.range k) (fun x hx => by
    have hx' : x < k := by simpa using hx
    have h2 := flat_le (fun a => (patP f (n - x)).map fun b => encl a b) 132 (patP f x) (fun a _ => by rw [List.length_map]; exact hp _ (by omega))
    have h3 := hp x (by omega)
    exact Nat.le_trans h2 (Nat.mul_le_mul_right _ h3))
  have h2 := flat_le (fun i => (patP f (n - k)).map fun b => encl (gr (patP f k) i) b) 132 (List.range s) (fun x _ => by rw [List.length_map]; exact hp _ (by omega))
  rw [List.length_range] at h1 h2
  rw [List.length_map, List.length_range]
  have h3 : k * (132 * 132) ≤ 6 * (132 * 132) := Nat.mul_le_mul_right _ (by omega)
  have h4 : s * 132 ≤ 132 * 132 := Nat.mul_le_mul_right _ hs
  omega
theorem rowsIn_small {m : List (List Int)} {l : Nat} {hi : Int} (h : rowsIn m l hi = true) (h1 : m.length ≤ 1048576) (h2 : l ≤ 1048576) : ∀ i, i < m.length → (gr m i).length ≤ 1048576 := fun i hi' => by rw [(rowsIn_at h hi').1]; exact h2
end Go.Proofs.Ytncpoljjfhmkeaa
