/- Rows behind a row, and the ways on: plain facts. No conditions. -/
import Derived.Test.YtcifcombbdblgaaDoorFromTM
namespace Go.Proofs.YtcifcombbdblgaaDoor
/-- the rows behind: rem is what is left of the row, L the number of the row before, p the last number chosen -/
def bh (n : Int) : List Int → Int → Int → List (List Int)
  | [], L, p => (rng (max L (p + 1)) (n - 1)).map fun x => [x]
  | a :: r, L, p => (rng (max L (p + 1)) a).flatMap fun x => (bh n r a x).map fun ys => x :: ys
def behind (n : Int) (row : List Int) : List (List Int) := bh n row 0 (-1)
theorem bh_mem {n : Int} {row : List Int} {L p : Int} (hL : 0 ≤ L) (hr : ∀ x ∈ row, 0 ≤ x ∧ x < n) {ys : List Int} (h : ys ∈ bh n row L p) : Up (p :: ys) ∧ (∀ y ∈ ys, 0 ≤ y ∧ y < n) ∧ ys.length = row.length + 1 := by
  induction row generalizing L p ys with
  | nil =>
    simp only [bh, List.mem_map, mem_rng] at h
    obtain ⟨x, hx, rfl⟩ := h
    refine ⟨⟨by omega, trivial⟩, fun y hy => ?_, rfl⟩
    simp at hy; subst hy
    omega
  | cons a r ih =>
    simp only [bh, List.mem_flatMap, List.mem_map, mem_rng] at h
    obtain ⟨x, hx, zs, hz, rfl⟩ := h
    have ha := hr a (by simp)
    obtain ⟨h1, h2, h3⟩ := ih ha.1 (fun y hy => hr y (by simp [hy])) hz
    refine ⟨⟨by omega, h1⟩, fun y hy => ?_, by simp [h3]⟩
    rcases List.mem_cons.1 hy with rfl | hy
    · omega
    · exact h2 y hy
/-- rows of columns of a matrix with n rows -/
def ColsN (n : Nat) (row : List Int) : Prop := Up row ∧ ∀ x ∈ row, 0 ≤ x ∧ x < n
theorem ColsN.rise {n : Nat} {row : List Int} (h : ColsN n row) (hn : n ≤ 16) : Rise row := ⟨h.1, fun x hx => by have := h.2 x hx; omega⟩
theorem behind_mem {n : Nat} {row : List Int} (h : ColsN n row) {ys : List Int} (hy : ys ∈ behind n row) : ColsN n ys ∧ ys.length = row.length + 1 := by
  obtain ⟨h1, h2, h3⟩ := bh_mem (by omega) h.2 hy
  exact ⟨⟨h1.tail, h2⟩, h3⟩
theorem bh_len {n : Nat} (hn : n ≤ 6) {row : List Int} (hr : ∀ x ∈ row, 0 ≤ x ∧ x < n) {L p : Int} (hL : 0 ≤ L) : (bh n row L p).length ≤ 6 ^ (row.length + 1) := by
  have rl : ∀ a b : Int, 0 ≤ a → b ≤ 5 → (rng a b).length ≤ 6 := fun a b ha hb => by unfold rng; simp; omega
  induction row generalizing L p with
  | nil =>
    simp only [bh, List.length_map]
    exact Nat.le_trans (rl _ _ (by omega) (by omega)) (by simp)
  | cons a r ih =>
    simp only [bh]
    have ha := hr a (by simp)
    refine Nat.le_trans (flatMap_le (k := 6 ^ (r.length + 1)) (rl _ _ (by omega) (by omega)) (fun x _ => ?_)) (by simp [Nat.pow_succ, Nat.mul_comm])
    rw [List.length_map]
    exact ih (fun y hy => hr y (by simp [hy])) ha.1
theorem behind_len {n : Nat} (hn : n ≤ 6) {row : List Int} (h : ColsN n row) (hl : row.length ≤ 6) : (behind n row).length ≤ 1048576 := by
  have h1 := bh_len hn h.2 (L := 0) (p := -1) (by omega)
  have h2 : 6 ^ (row.length + 1) ≤ 6 ^ 7 := Nat.pow_le_pow_right (by omega) (by omega)
  unfold behind
  omega
theorem ColsN.len {n : Nat} {row : List Int} (h : ColsN n row) : row.length ≤ n := by
  have lo : ∀ k, k < row.length → (k : Int) ≤ gi row k := by
    intro k
    induction k with
    | zero => intro hk; exact (h.2 _ (gi_mem hk)).1
    | succ k ih =>
      intro hk
      have a := ih (by omega)
      have b := (up_iff _).1 h.1 (k + 1) hk (by omega)
      rw [show k + 1 - 1 = k from rfl] at b
      omega
  by_cases h0 : row.length = 0
  · omega
  · have := lo (row.length - 1) (by omega)
    have := (h.2 _ (gi_mem (show row.length - 1 < row.length by omega))).2
    omega

/-- ways on to all n columns -/
def waysBN (n : Nat) : Nat → List Int → Int
  | 0, _ => 1
  | d + 1, row => sumL (behind n row) (waysBN n d)
def waysB (n : Nat) (row : List Int) : Int := waysBN n (n - row.length) row
theorem waysB_full {n : Nat} {row : List Int} (h : row.length = n) : waysB n row = 1 := by unfold waysB; rw [h, Nat.sub_self]; rfl
theorem waysB_more {n : Nat} {row : List Int} (hc : ColsN n row) (h : row.length < n) : waysB n row = sumL (behind n row) (waysB n) := by
  unfold waysB
  obtain ⟨d, hd⟩ : ∃ d, n - row.length = d + 1 := ⟨n - row.length - 1, by omega⟩
  rw [hd, waysBN]
  refine sumL_congr fun ys hy => ?_
  have := (behind_mem hc hy).2
  rw [show n - ys.length = d from by omega]

/-- of the rows that go on 'first', those whose next number is below v -/
def bhPart (n : Int) (row first : List Int) (lo v : Int) : List (List Int) :=
  match row.drop first.length with
  | [] => (rng lo (v - 1)).map fun x => first ++ [x]
  | a :: r => (rng lo (v - 1)).flatMap fun x => (bh n r a x).map fun ys => (first ++ [x]) ++ ys
/-- .. whose next number is v -/
def bhNext (n : Int) (row first : List Int) (v : Int) : List (List Int) :=
  match row.drop first.length with
  | [] => [first ++ [v]]
  | a :: r => (bh n r a v).map fun ys => (first ++ [v]) ++ ys
theorem bhPart_start (n : Int) (row first : List Int) (lo : Int) : bhPart n row first lo lo = [] := by
  unfold bhPart
  rw [rng_nil (by omega)]
  split <;> rfl
theorem bhPart_step {n : Int} {row first : List Int} {lo v : Int} (h : lo ≤ v) : bhPart n row first lo (v + 1) = bhPart n row first lo v ++ bhNext n row first v := by
  unfold bhPart bhNext
  rw [show v + 1 - 1 = v from by omega, rng_snoc h]
  split <;> simp
end Go.Proofs.YtcifcombbdblgaaDoor
