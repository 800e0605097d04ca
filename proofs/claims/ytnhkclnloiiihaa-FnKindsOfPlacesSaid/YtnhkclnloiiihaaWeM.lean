/- Kinds of places of a sign matrix, how many there are of each, and powers. No conditions. -/
import Derived.Test.YtnhkclnloiiihaaSums
import Derived.Test.YtnhkclnloiiihaaSpecC
namespace Go.Proofs.Ytnhkclnloiiihaa
open Go.RowKit

/-- the sum of the first k numbers of a column -/
def colS (m : List (List Int)) (j : Nat) : Nat → Int
  | 0 => 0
  | k + 1 => colS m j k + gi (gr m k) j
theorem colS_tr {m : List (List Int)} {j : Nat} (hj : j < m.length) : ∀ k, k ≤ m.length → colS m j k = sumK (gr (tr m) j) k
  | 0, _ => rfl
  | k + 1, hk => by simp only [colS, sumK]; rw [colS_tr hj k (by omega), gi_tr hj (by omega)]
theorem colS_01 {m : List (List Int)} (h : good m) {j k : Nat} (hj : j < m.length) (hk : k ≤ m.length) : 0 ≤ colS m j k ∧ colS m j k ≤ 1 := by
  rw [colS_tr hj k hk]
  exact (h.2.2 j (by rw [tr_len]; exact hj)).1 k (by rw [tr_row hj]; exact hk)
theorem rowS_01 {m : List (List Int)} (h : good m) {i k : Nat} (hi : i < m.length) (hk : k ≤ m.length) : 0 ≤ sumK (gr m i) k ∧ sumK (gr m i) k ≤ 1 :=
  (h.2.1 i hi).1 k (by rw [h.1.2.2 i hi]; exact hk)

/-- the kind of a place by its number and the sums before and above it -/
def kdV (v before above : Int) : Int := if v = 1 then 4 else if v = -1 then 5 else 2 * before + above
def kd (m : List (List Int)) (i j : Nat) : Int := kdV (gi (gr m i) j) (sumK (gr m i) j) (colS m j i)
def kinds (m : List (List Int)) : List (List Int) := tab m.length m.length (kd m)
theorem kinds_len (m : List (List Int)) : (kinds m).length = m.length := tab_len _ _ _
theorem kinds_row {m : List (List Int)} {i : Nat} (h : i < m.length) : (gr (kinds m) i).length = m.length := tab_row h
theorem gi_kinds {m : List (List Int)} {i j : Nat} (hi : i < m.length) (hj : j < m.length) : gi (gr (kinds m) i) j = kd m i j := gi_tab hi hj
theorem kdV_range {v b a : Int} (hb : 0 ≤ b ∧ b ≤ 1) (ha : 0 ≤ a ∧ a ≤ 1) : 0 ≤ kdV v b a ∧ kdV v b a ≤ 5 := by
  unfold kdV
  split
  · omega
  · split <;> omega
theorem kd_range {m : List (List Int)} (h : good m) {i j : Nat} (hi : i < m.length) (hj : j < m.length) : 0 ≤ kd m i j ∧ kd m i j ≤ 5 :=
  kdV_range (rowS_01 h hi (by omega)) (colS_01 h hj (by omega))
theorem kinds_square {m : List (List Int)} (h : square m) : square (kinds m) :=
  ⟨by rw [kinds_len]; exact h.1, by rw [kinds_len]; exact h.2.1, fun i hi => by rw [kinds_len] at hi ⊢; exact kinds_row hi⟩

/-- the sums of the columns in the middle of row k -/
def colMid (m : List (List Int)) (k t : Nat) : List Int := (List.range m.length).map fun j => colS m j (if j < t then k + 1 else k)
theorem colMid_len (m : List (List Int)) (k t : Nat) : (colMid m k t).length = m.length := by simp [colMid]
theorem gi_colMid {m : List (List Int)} {k t j : Nat} (hj : j < m.length) : gi (colMid m k t) j = colS m j (if j < t then k + 1 else k) := gi_row hj
theorem colMid_set {m : List (List Int)} {k t : Nat} (ht : t < m.length) : (colMid m k t).set t (colS m t k + gi (gr m k) t) = colMid m k (t + 1) := by
  refine ext_gi (by rw [List.length_set, colMid_len, colMid_len]) fun j hj => ?_
  rw [List.length_set, colMid_len] at hj
  rw [gi_set (by rw [colMid_len]; exact ht), gi_colMid hj, gi_colMid hj]
  by_cases e : j = t
  · subst e; rw [if_pos rfl, if_pos (by omega), colS]
  · rw [if_neg e]
    have : (j < t + 1) = (j < t) := propext (by omega)
    simp only [this]
theorem colMid_next (m : List (List Int)) (k : Nat) : colMid m k m.length = colMid m (k + 1) 0 := by
  refine ext_gi (by rw [colMid_len, colMid_len]) fun j hj => ?_
  rw [colMid_len] at hj
  rw [gi_colMid hj, gi_colMid hj, if_pos hj, if_neg (by omega)]
theorem colMid_zero (m : List (List Int)) : colMid m 0 0 = List.replicate m.length 0 := by
  refine ext_gi (by rw [colMid_len, List.length_replicate]) fun j hj => ?_
  rw [colMid_len] at hj
  rw [gi_colMid hj, if_neg (by omega), gi_lt (by simpa using hj)]
  simp [colS]

/-- how many places of the kind q there are in the first k rows and t places more -/
def ind (x q : Int) : Int := if x = q then 1 else 0
def cntP (m : List (List Int)) (q : Int) (k t : Nat) : Int := sumF (fun a => sumF (fun b => ind (kd m a b) q) m.length) k + sumF (fun b => ind (kd m k b) q) t
def cntK (m : List (List Int)) (q : Int) : Int := sumF (fun a => sumF (fun b => ind (kd m a b) q) m.length) m.length
theorem ind_01 (x q : Int) : 0 ≤ ind x q ∧ ind x q ≤ 1 := by unfold ind; split <;> omega
theorem cntP_zero (m : List (List Int)) (q : Int) : cntP m q 0 0 = 0 := rfl
theorem cntP_step (m : List (List Int)) (q : Int) (k t : Nat) : cntP m q k (t + 1) = cntP m q k t + ind (kd m k t) q := by unfold cntP; simp only [sumF]; omega
theorem cntP_row (m : List (List Int)) (q : Int) (k : Nat) : cntP m q k m.length = cntP m q (k + 1) 0 := by unfold cntP; simp only [sumF]; omega
theorem cntP_end (m : List (List Int)) (q : Int) : cntP m q m.length 0 = cntK m q := by unfold cntP cntK; simp only [sumF]; omega
theorem sumF_01 {f : Nat → Int} : ∀ {k : Nat}, (∀ i, i < k → 0 ≤ f i ∧ f i ≤ 1) → 0 ≤ sumF f k ∧ sumF f k ≤ k
  | 0, _ => by simp [sumF]
  | k + 1, h => by
    have h1 := sumF_01 (k := k) (fun i hi => h i (by omega))
    have h2 := h k (by omega)
    simp only [sumF]
    omega
theorem cnt_rows {m : List (List Int)} (q : Int) (hm : m.length ≤ 6) : ∀ {k : Nat}, k ≤ 6 → 0 ≤ sumF (fun a => sumF (fun b => ind (kd m a b) q) m.length) k ∧ sumF (fun a => sumF (fun b => ind (kd m a b) q) m.length) k ≤ 6 * k
  | 0, _ => by simp [sumF]
  | k + 1, h => by
    have h1 := cnt_rows (m := m) q hm (k := k) (by omega)
    have h2 := sumF_01 (f := fun b => ind (kd m k b) q) (k := m.length) (fun i _ => ind_01 _ _)
    simp only [sumF]
    omega
theorem cntP_bd {m : List (List Int)} (q : Int) (hm : m.length ≤ 6) {k t : Nat} (hk : k ≤ 6) (ht : t ≤ 6) : 0 ≤ cntP m q k t ∧ cntP m q k t ≤ 42 := by
  have h1 := cnt_rows (m := m) q hm hk
  have h2 := sumF_01 (f := fun b => ind (kd m k b) q) (k := t) (fun i _ => ind_01 _ _)
  unfold cntP
  omega
theorem cntK_bd {m : List (List Int)} (q : Int) (hm : m.length ≤ 6) : 0 ≤ cntK m q ∧ cntK m q ≤ 36 := by
  have := cnt_rows (m := m) q hm hm
  unfold cntK
  omega
/-- the six counts -/
def cntL (f : Int → Int) : List Int := [f 0, f 1, f 2, f 3, f 4, f 5]
theorem cntL_gi (f : Int → Int) {k : Nat} (h : k < 6) : gi (cntL f) k = f k := by
  match k, h with
  | 0, _ => rfl
  | 1, _ => rfl
  | 2, _ => rfl
  | 3, _ => rfl
  | 4, _ => rfl
  | 5, _ => rfl
theorem cntL_len (f : Int → Int) : (cntL f).length = 6 := rfl
theorem cntL_ext {f g : Int → Int} (h : ∀ k : Nat, k < 6 → f k = g k) : cntL f = cntL g :=
  ext_gi rfl fun j hj => by rw [cntL_gi f hj, cntL_gi g hj]; exact h j hj
theorem cntL_set (f g : Int → Int) (k : Nat) (hk : k < 6) (h1 : g k = f k + 1) (h2 : ∀ j : Nat, j < 6 → j ≠ k → g j = f j) : (cntL f).set k (f k + 1) = cntL g := by
  refine ext_gi (by rw [List.length_set, cntL_len, cntL_len]) fun j hj => ?_
  rw [List.length_set, cntL_len] at hj
  rw [gi_set (by rw [cntL_len]; exact hk), cntL_gi g hj]
  by_cases e : j = k
  · subst e; rw [if_pos rfl, h1]
  · rw [if_neg e, cntL_gi f hj, h2 j hj e]

/-- the sign of a kind; the matrix that kinds tell -/
def sgK (x : Int) : Int := if x = 4 then 1 else if x = 5 then -1 else 0
def fkM (t : List (List Int)) : List (List Int) := tab t.length t.length fun i j => sgK (gi (gr t i) j)
theorem fkM_len (t : List (List Int)) : (fkM t).length = t.length := tab_len _ _ _
theorem fkM_square {t : List (List Int)} (h : square t) : square (fkM t) := ⟨by rw [fkM_len]; exact h.1, by rw [fkM_len]; exact h.2.1, fun i hi => by rw [fkM_len] at hi ⊢; exact tab_row hi⟩
theorem fkM_wf {t : List (List Int)} : WfM (fkM t) := fun i hi j hj => by
  rw [fkM_len] at hi
  unfold fkM at hj ⊢
  rw [tab_row hi] at hj
  rw [gi_tab hi hj]
  unfold sgK
  split
  · omega
  · split <;> omega
/-- kinds of a sign matrix -/
def isKinds (t : List (List Int)) : Prop := square t ∧ good (fkM t) ∧ kinds (fkM t) = t

/-- powers -/
def pw (x : Int) : Nat → Int
  | 0 => 1
  | k + 1 => pw x k * x
theorem pw_zero (x : Int) : pw x 0 = 1 := rfl
theorem pw_succ (x : Int) (k : Nat) : pw x (k + 1) = pw x k * x := rfl
theorem pw_add (x : Int) (a b : Nat) : pw x (a + b) = pw x a * pw x b := by
  induction b with
  | zero => simp [pw]
  | succ b ih => rw [Nat.add_succ, pw, pw, ih, Int.mul_assoc]
theorem pw_one (k : Nat) : pw 1 k = 1 := by
  induction k with
  | zero => rfl
  | succ k ih => rw [pw, ih]; rfl
theorem pw_nonneg {x : Int} (h : 0 ≤ x) (k : Nat) : 0 ≤ pw x k := by
  induction k with
  | zero => simp [pw]
  | succ k ih => rw [pw]; exact Int.mul_nonneg ih h
theorem sumF_const (x : Int) (k : Nat) : sumF (fun _ => x) k = k * x := by
  induction k with
  | zero => simp [sumF]
  | succ k ih => simp only [sumF]; rw [ih, show ((k + 1 : Nat) : Int) = (k : Int) + 1 from by omega, Int.add_mul, Int.one_mul]
theorem sumF_plus (f g : Nat → Int) (k : Nat) : sumF f k + sumF g k = sumF (fun i => f i + g i) k := by
  induction k with
  | zero => rfl
  | succ k ih => simp only [sumF]; omega
theorem ind_total {x : Int} (h : 0 ≤ x ∧ x ≤ 5) : ind x 0 + ind x 1 + ind x 2 + ind x 3 + ind x 4 + ind x 5 = 1 := by
  obtain ⟨k, hk⟩ : ∃ k : Nat, x = (k : Int) := ⟨x.toNat, by omega⟩
  subst hk
  obtain rfl | rfl | rfl | rfl | rfl | rfl : k = 0 ∨ k = 1 ∨ k = 2 ∨ k = 3 ∨ k = 4 ∨ k = 5 := by omega
  all_goals decide
/-- the counts of all kinds together -/
theorem cnt_total {m : List (List Int)} (h : good m) : cntK m 0 + cntK m 1 + cntK m 2 + cntK m 3 + cntK m 4 + cntK m 5 = m.length * m.length := by
  unfold cntK
  rw [sumF_plus, sumF_plus, sumF_plus, sumF_plus, sumF_plus, ← sumF_const]
  refine sumF_congr fun i hi => ?_
  rw [sumF_plus, sumF_plus, sumF_plus, sumF_plus, sumF_plus]
  rw [sumF_congr (g := fun _ => 1) fun j hj => ind_total (kd_range h hi hj), sumF_const]
  omega
/-- the count of a kind as a natural number -/
def cN (m : List (List Int)) (q : Nat) : Nat := (cntK m q).toNat
theorem cN_eq {m : List (List Int)} (hm : m.length ≤ 6) (q : Nat) : cntK m q = (cN m q : Int) := by
  have := (cntK_bd (m := m) q hm).1
  unfold cN
  omega
theorem cN_total {m : List (List Int)} (h : good m) : cN m 0 + cN m 1 + cN m 2 + cN m 3 + cN m 4 + cN m 5 = m.length * m.length := by
  have h1 := cnt_total h
  have h2 := cN_eq h.1.2.1
  have e0 : cntK m 0 = (cN m 0 : Int) := h2 0
  have e1 : cntK m 1 = (cN m 1 : Int) := h2 1
  have e2 : cntK m 2 = (cN m 2 : Int) := h2 2
  have e3 : cntK m 3 = (cN m 3 : Int) := h2 3
  have e4 : cntK m 4 = (cN m 4 : Int) := h2 4
  have e5 : cntK m 5 = (cN m 5 : Int) := h2 5
  rw [e0, e1, e2, e3, e4, e5] at h1
  have h3 : ((cN m 0 + cN m 1 + cN m 2 + cN m 3 + cN m 4 + cN m 5 : Nat) : Int) = ((m.length * m.length : Nat) : Int) := by
    rw [Int.natCast_mul]
    omega
  exact Int.ofNat.inj h3
theorem sq_le {n : Nat} (h : n ≤ 4) : n * n ≤ 16 := Nat.mul_le_mul h h
/-- the product of powers -/
def prodW (wt : Nat → Int) (c : Nat → Nat) : Nat → Int
  | 0 => 1
  | k + 1 => prodW wt c k * pw (wt k) (c k)
def sumC (c : Nat → Nat) : Nat → Nat
  | 0 => 0
  | k + 1 => sumC c k + c k
theorem sumC_mono {c : Nat → Nat} {k l : Nat} (h : k ≤ l) : sumC c k ≤ sumC c l := by
  induction l with
  | zero => obtain rfl : k = 0 := by omega
            exact Nat.le_refl _
  | succ l ih =>
    by_cases e : k = l + 1
    · subst e; exact Nat.le_refl _
    · have := ih (by omega)
      simp only [sumC]
      omega
theorem pw_le {x : Int} (h : 0 ≤ x ∧ x ≤ 10) : ∀ k, 0 ≤ pw x k ∧ pw x k ≤ pw 10 k
  | 0 => by simp [pw]
  | k + 1 => by
    have ih := pw_le h k
    rw [pw, pw]
    exact ⟨Int.mul_nonneg ih.1 h.1, Int.mul_le_mul ih.2 h.2 h.1 (Int.le_trans ih.1 ih.2)⟩
theorem pw_ten : ∀ {k l : Nat}, k ≤ l → pw 10 k ≤ pw 10 l := by
  intro k l h
  induction l with
  | zero => obtain rfl : k = 0 := by omega
            exact Int.le_refl _
  | succ l ih =>
    by_cases e : k = l + 1
    · subst e; exact Int.le_refl _
    · have := ih (by omega)
      have h2 := pw_nonneg (x := 10) (by decide) l
      rw [pw]
      omega
theorem pw_16 : pw 10 16 = 10000000000000000 := by decide +kernel
theorem pw_small {x : Int} (h : 0 ≤ x ∧ x ≤ 10) {k : Nat} (hk : k ≤ 16) : 0 ≤ pw x k ∧ pw x k ≤ 10000000000000000 := by
  have h1 := pw_le h k
  have h2 := pw_ten hk
  rw [pw_16] at h2
  omega
theorem prodW_le {wt : Nat → Int} {c : Nat → Nat} : ∀ {k : Nat}, (∀ q, q < k → 0 ≤ wt q ∧ wt q ≤ 10) → 0 ≤ prodW wt c k ∧ prodW wt c k ≤ pw 10 (sumC c k)
  | 0, _ => by simp [prodW, sumC, pw]
  | k + 1, h => by
    have ih := prodW_le (c := c) (k := k) (fun q hq => h q (by omega))
    have h1 := pw_le (h k (by omega)) (c k)
    rw [prodW, sumC, pw_add]
    exact ⟨Int.mul_nonneg ih.1 h1.1, Int.mul_le_mul ih.2 h1.2 h1.1 (Int.le_trans ih.1 ih.2)⟩
theorem prodW_small {wt : Nat → Int} {c : Nat → Nat} (h : ∀ q, q < 6 → 0 ≤ wt q ∧ wt q ≤ 10) (hc : sumC c 6 ≤ 16) {k : Nat} (hk : k ≤ 6) : 0 ≤ prodW wt c k ∧ prodW wt c k ≤ 10000000000000000 := by
  have h1 := prodW_le (wt := wt) (c := c) (k := k) (fun q hq => h q (by omega))
  have h2 := pw_ten (Nat.le_trans (sumC_mono (c := c) hk) hc)
  rw [pw_16] at h2
  omega
theorem sumC_cN {m : List (List Int)} (h : good m) (h4 : m.length ≤ 4) : sumC (cN m) 6 ≤ 16 := by
  have h1 := cN_total h
  have h2 := sq_le h4
  simp only [sumC]
  omega
end Go.Proofs.Ytnhkclnloiiihaa
