/- The mathematics of the two formulas: their factors, the products in lowest terms, the model's products. No program here. -/
import Derived.Test.YtgdijjfipicodaaRatM
import Derived.Test.YtgdijjfipicodaaCnt
namespace Go.Proofs.Ytgdijjfipicodaa

/-- the factors of the half turns' formula: behind i rounds; within round i, behind t of the lesser ones -/
def htB (n i : Nat) (l : List (Nat × Nat)) : Nat → List (Nat × Nat)
  | 0 => l ++ [nrm (3 * i - 1) (3 * i - 2)]
  | t + 1 => htB n i l t ++ [nrm (n + i + (i + t) - 1) (2 * i + (i + t) - 1)]
def htA (n : Nat) : Nat → List (Nat × Nat)
  | 0 => [(cI n, 1)]
  | i + 1 => htB n (i + 1) (htA n i) (n - i)
/-- .. of the mirrors' formula -/
def mfA : Nat → List (Nat × Nat)
  | 0 => []
  | i + 1 => mfA i ++ [nrm (ch (6 * (i + 1) - 2) (2 * (i + 1) - 1)) (2 * ch (4 * (i + 1) - 2) (2 * (i + 1) - 1))]
def prodQ (l : List (Nat × Nat)) : Nat × Nat := l.foldl tm (1, 1)
/-- no product on the way is too great -/
def okP (l : List (Nat × Nat)) : Bool := (List.range l.length).all fun k =>
  let a := prodQ (l.take k); let b := l.getD k (0, 0)
  decide (0 < a.2 * b.2) && decide (a.1 * b.1 ≤ 4000000000000000000) && decide (a.2 * b.2 ≤ 4000000000000000000)
theorem htA_ok : ∀ n, n < 7 → okP (htA n n) = true := by decide +kernel
theorem mfA_ok : ∀ n, n < 6 → okP (mfA n) = true := by decide +kernel
theorem okP_at {l : List (Nat × Nat)} (h : okP l = true) {k : Nat} (hk : k < l.length) :
    0 < (prodQ (l.take k)).2 * (l.getD k (0, 0)).2 ∧ (prodQ (l.take k)).1 * (l.getD k (0, 0)).1 ≤ 4000000000000000000 ∧ (prodQ (l.take k)).2 * (l.getD k (0, 0)).2 ≤ 4000000000000000000 := by
  have := List.all_eq_true.1 h k (List.mem_range.2 hk)
  simp only [Bool.and_eq_true, decide_eq_true_eq] at this
  exact ⟨this.1.1, this.1.2, this.2⟩
theorem prodQ_take {l : List (Nat × Nat)} {k : Nat} (hk : k < l.length) : prodQ (l.take (k + 1)) = tm (prodQ (l.take k)) (l.getD k (0, 0)) := by
  have e : l.take (k + 1) = l.take k ++ [l.getD k (0, 0)] := by
    rw [List.take_succ_eq_append_getElem hk, List.getD, List.getElem?_eq_getElem hk]
    rfl
  unfold prodQ
  rw [e, List.foldl_append]
  rfl
theorem prodQ_all (l : List (Nat × Nat)) : prodQ (l.take l.length) = prodQ l := by rw [List.take_length]
def htV (n : Nat) : Nat := (prodQ (htA n n)).1
def mfV (n : Nat) : Nat := (prodQ (mfA n)).1

/-- the model's product -/
def stpF (r : Nat × Nat) (p q : Nat) : Nat × Nat :=
  (r.1 / Nat.gcd r.1 (q / Nat.gcd p q) * (p / Nat.gcd p q / Nat.gcd (p / Nat.gcd p q) r.2), r.2 / Nat.gcd (p / Nat.gcd p q) r.2 * (q / Nat.gcd p q / Nat.gcd r.1 (q / Nat.gcd p q)))
def okF (r : Nat × Nat) : Bool := decide (1 ≤ r.1) && decide (r.1 ≤ 1000000000000000000) && decide (1 ≤ r.2) && decide (r.2 ≤ 1000000000000000000)
theorem okF_b {r : Nat × Nat} (h : okF r = true) : 1 ≤ r.1 ∧ r.1 ≤ 1000000000000000000 ∧ 1 ≤ r.2 ∧ r.2 ≤ 1000000000000000000 := by
  unfold okF at h
  simp only [Bool.and_eq_true, decide_eq_true_eq] at h
  omega
def hsB (n i : Nat) (r : Nat × Nat) : Nat → Nat × Nat
  | 0 => stpF r (3 * i - 1) (3 * i - 2)
  | t + 1 => stpF (hsB n i r t) (n + i + (i + t) - 1) (2 * i + (i + t) - 1)
def hsA (n : Nat) : Nat → Nat × Nat
  | 0 => (cI n, 1)
  | i + 1 => hsB n (i + 1) (hsA n i) (n - i)
theorem hsA_ok : ∀ n, n < 7 → ∀ i, i ≤ n → okF (hsA n i) = true := by decide +kernel
theorem hsB_ok : ∀ n, n < 7 → ∀ i, i < n → ∀ t, t ≤ n - i → okF (hsB n (i + 1) (hsA n i) t) = true := by decide +kernel
theorem hsA_val : ∀ n, n < 7 → (hsA n n).1 = htV n := by decide +kernel

/-- the mirrors' one: within round i, behind the factors up to k -/
def msK (i : Nat) (r : Nat × Nat) : Nat → Nat × Nat
  | 0 => stpF r 1 2
  | k + 1 =>
    let a := stpF (msK i r k) (k + 2) 1
    let b := if k + 2 ≤ 2 * i - 1 then stpF a (k + 2) 1 else a
    let c := if k + 2 ≤ 4 * i - 1 then stpF b 1 (k + 2) else b
    if k + 2 ≤ 4 * i - 2 then stpF c 1 (k + 2) else c
def msA : Nat → Nat × Nat
  | 0 => (1, 1)
  | i + 1 => msK (i + 1) (msA i) (6 * (i + 1) - 3)
def msB (m k : Nat) : Bool :=
  let r := msK m (msA (m - 1)) k
  let a := stpF r (k + 2) 1
  let b := if k + 2 ≤ 2 * m - 1 then stpF a (k + 2) 1 else a
  let c := if k + 2 ≤ 4 * m - 1 then stpF b 1 (k + 2) else b
  okF r && okF a && okF b && okF c
theorem msA_ok : ∀ i, i < 6 → okF (msA i) = true := by decide +kernel
theorem msB_ok : ∀ m, m < 6 → 1 ≤ m → ∀ k, k ≤ 6 * m - 3 → msB m k = true := by decide +kernel
theorem msB_is {m k : Nat} (h : msB m k = true) : okF (msK m (msA (m - 1)) k) = true ∧ okF (stpF (msK m (msA (m - 1)) k) (k + 2) 1) = true ∧
    okF (if k + 2 ≤ 2 * m - 1 then stpF (stpF (msK m (msA (m - 1)) k) (k + 2) 1) (k + 2) 1 else stpF (msK m (msA (m - 1)) k) (k + 2) 1) = true ∧
    okF (if k + 2 ≤ 4 * m - 1 then stpF (if k + 2 ≤ 2 * m - 1 then stpF (stpF (msK m (msA (m - 1)) k) (k + 2) 1) (k + 2) 1 else stpF (msK m (msA (m - 1)) k) (k + 2) 1) 1 (k + 2) else (if k + 2 ≤ 2 * m - 1 then stpF (stpF (msK m (msA (m - 1)) k) (k + 2) 1) (k + 2) 1 else stpF (msK m (msA (m - 1)) k) (k + 2) 1)) = true := by
  unfold msB at h
  simp only [Bool.and_eq_true] at h
  exact ⟨h.1.1.1, h.1.1.2, h.1.2, h.2⟩
theorem msK_succ (m : Nat) (r : Nat × Nat) (k : Nat) : msK m r (k + 1) = if k + 2 ≤ 4 * m - 2 then stpF (if k + 2 ≤ 4 * m - 1 then stpF (if k + 2 ≤ 2 * m - 1 then stpF (stpF (msK m r k) (k + 2) 1) (k + 2) 1 else stpF (msK m r k) (k + 2) 1) 1 (k + 2) else (if k + 2 ≤ 2 * m - 1 then stpF (stpF (msK m r k) (k + 2) 1) (k + 2) 1 else stpF (msK m r k) (k + 2) 1)) 1 (k + 2)
    else (if k + 2 ≤ 4 * m - 1 then stpF (if k + 2 ≤ 2 * m - 1 then stpF (stpF (msK m r k) (k + 2) 1) (k + 2) 1 else stpF (msK m r k) (k + 2) 1) 1 (k + 2) else (if k + 2 ≤ 2 * m - 1 then stpF (stpF (msK m r k) (k + 2) 1) (k + 2) 1 else stpF (msK m r k) (k + 2) 1)) := rfl
theorem msA_val : ∀ n, n < 6 → (msA n).1 = mfV n := by decide +kernel
end Go.Proofs.Ytgdijjfipicodaa
