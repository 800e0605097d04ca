/- Parts of proofs: contracts and plain facts. Conditions: as each says. -/
import Derived.Test.YtmkldodkpijfjaaDoorK05
import Derived.Deep.WholeRow
import Derived.Deep.MidRow
import Derived.Laws.OwnMore
namespace Go.Proofs.YtmkldodkpijfjaaDoor
open Go.RowKit

/-- the sum of the first k numbers of a column -/
def colS (m : List (List Int)) (j : Nat) : Nat → Int
  | 0 => 0
  | k + 1 => colS m j k + gi (gr m k) j
theorem colS_tr {m : List (List Int)} {j : Nat} (hj : j < m.length) : ∀ k, k ≤ m.length → colS m j k = sumK (gr (tr m) j) k
  | 0, _ => rfl
  | k + 1, hk => by simp only [colS, sumK]; rw [colS_tr hj k (by omega), gi_tr hj (by omega)]
theorem colS_01 {m : List (List Int)} (h : good m) {j k : Nat} (hj : j < m.length) (hk : k ≤ m.length) : 0 ≤ colS m j k ∧ colS m j k ≤ 1 := by
  rw [colS_tr hj k hk]
  exact (h.2.2 j (by rw [tr_len]; exact hj)).1 k (by rw [tr_row hj]; exact hk)
theorem rowS_01 {m : List (List Int)} (h : good m) {i k : Nat} (hi : i < m.length) (hk : k ≤ m.length) : 0 ≤ sumK (gr m i) k ∧ sumK (gr m i) k ≤ 1 :=
  (h.2.1 i hi).1 k (by rw [h.1.2.2 i hi]; exact hk)

/-- the kind of a place by its number and the sums before and above it -/
def kdV (v before above : Int) : Int := if v = 1 then 4 else if v = -1 then 5 else 2 * before + above
def kd (m : List (List Int)) (i j : Nat) : Int := kdV (gi (gr m i) j) (sumK (gr m i) j) (colS m j i)
def kinds (m : List (List Int)) : List (List Int) := tab m.length m.length (kd m)
theorem kinds_len (m : List (List Int)) : (kinds m).length = m.length := tab_len _ _ _
theorem kinds_row {m : List (List Int)} {i : Nat} (h : i < m.length) : (gr (kinds m) i).length = m.length := tab_row h
theorem gi_kinds {m : List (List Int)} {i j : Nat} (hi : i < m.length) (hj : j < m.length) : gi (gr (kinds m) i) j = kd m i j := gi_tab hi hj
theorem kdV_range {v b a : Int} (hb : 0 ≤ b ∧ b ≤ 1) (ha : 0 ≤ a ∧ a ≤ 1) : 0 ≤ kdV v b a ∧ kdV v b a ≤ 5 := by
  unfold kdV
  split
  · omega
  · split <;> omega
theorem kd_range {m : List (List Int)} (h : good m) {i j : Nat} (hi : i < m.length) (hj : j < m.length) : 0 ≤ kd m i j ∧ kd m i j ≤ 5 :=
  kdV_range (rowS_01 h hi (by omega)) (colS_01 h hj (by omega))
theorem kinds_square {m : List (List Int)} (h : square m) : square (kinds m) :=
  ⟨by rw [kinds_len]; exact h.1, by rw [kinds_len]; exact h.2.1, fun i hi => by rw [kinds_len] at hi ⊢; exact kinds_row hi⟩

/-- the sums of the columns in the middle of row k -/
def colMid (m : List (List Int)) (k t : Nat) : List Int := (List.range m.length).map fun j => colS m j (if j < t then k + 1 else k)
theorem colMid_len (m : List (List Int)) (k t : Nat) : (colMid m k t).length = m.length := by simp [colMid]
theorem gi_colMid {m : List (List Int)} {k t j : Nat} (hj : j < m.length) : gi (colMid m k t) j = colS m j (if j < t then k + 1 else k) := gi_row hj
theorem colMid_set {m : List (List Int)} {k t : Nat} (ht : t < m.length) : (colMid m k t).set t (colS m t k + gi (gr m k) t) = colMid m k (t + 1) := by
  refine ext_gi (by rw [List.length_set, colMid_len, colMid_len]) fun j hj => ?_
  rw [List.length_set, colMid_len] at hj
  rw [gi_set (by rw [colMid_len]; exact ht), gi_colMid hj, gi_colMid hj]
  by_cases e : j = t
  · subst e; rw [if_pos rfl, if_pos (by omega), colS]
  · rw [if_neg e]
    have : (j < t + 1) = (j < t) := propext (by omega)
    simp only [this]
theorem colMid_next (m : List (List Int)) (k : Nat) : colMid m k m.length = colMid m (k + 1) 0 := by
  refine ext_gi (by rw [colMid_len, colMid_len]) fun j hj => ?_
  rw [colMid_len] at hj
  rw [gi_colMid hj, gi_colMid hj, if_pos hj, if_neg (by omega)]
theorem colMid_zero (m : List (List Int)) : colMid m 0 0 = List.replicate m.length 0 := by
  refine ext_gi (by rw [colMid_len, List.length_replicate]) fun j hj => ?_
  rw [colMid_len] at hj
  rw [gi_colMid hj, if_neg (by omega), gi_lt (by simpa using hj)]
  simp [colS]

/-- how many places of the kind q there are in the first k rows and t places more -/
def ind (x q : Int) : Int := if x = q then 1 else 0
def cntP (m : List (List Int)) (q : Int) (k t : Nat) : Int := sumF (fun a => sumF (fun b => ind (kd m a b) q) m.length) k + sumF (fun b => ind (kd m k b) q) t
def cntK (m : List (List Int)) (q : Int) : Int := sumF (fun a => sumF (fun b => ind (kd m a b) q) m.length) m.length
theorem ind_01 (x q : Int) : 0 ≤ ind x q ∧ ind x q ≤ 1 := by unfold ind; split <;> omega
theorem cntP_zero (m : List (List Int)) (q : Int) : cntP m q 0 0 = 0 := rfl
theorem cntP_step (m : List (List Int)) (q : Int) (k t : Nat) : cntP m q k (t + 1) = cntP m q k t + ind (kd m k t) q := by unfold cntP; simp only [sumF]; omega
theorem cntP_row (m : List (List Int)) (q : Int) (k : Nat) : cntP m q k m.length = cntP m q (k + 1) 0 := by unfold cntP; simp only [sumF]; omega
theorem cntP_end (m : List (List Int)) (q : Int) : cntP m q m.length 0 = cntK m q := by unfold cntP cntK; simp only [sumF]; omega
theorem sumF_01 {f : Nat → Int} : ∀ {k : Nat}, (∀ i, i < k → 0 ≤ f i ∧ f i ≤ 1) → 0 ≤ sumF f k ∧ sumF f k ≤ k
  | 0, _ => by simp [sumF]
  | k + 1, h => by
    have h1 := sumF_01 (k := k) (fun i hi => h i (by omega))
    have h2 := h k (by omega)
    simp only [sumF]
    omega
theorem cnt_rows {m : List (List Int)} (q : Int) (hm : m.length ≤ 6) : ∀ {k : Nat}, k ≤ 6 → 0 ≤ sumF (fun a => sumF (fun b => ind (kd m a b) q) m.length) k ∧ sumF (fun a => sumF (fun b => ind (kd m a b) q) m.length) k ≤ 6 * k
  | 0, _ => by simp [sumF]
  | k + 1, h => by
    have h1 := cnt_rows (m := m) q hm (k := k) (by omega)
    have h2 := sumF_01 (f := fun b => ind (kd m k b) q) (k := m.length) (fun i _ => ind_01 _ _)
    simp only [sumF]
    omega
theorem cntP_bd {m : List (List Int)} (q : Int) (hm : m.length ≤ 6) {k t : Nat} (hk : k ≤ 6) (ht : t ≤ 6) : 0 ≤ cntP m q k t ∧ cntP m q k t ≤ 42 := by
  have h1 := cnt_rows (m := m) q hm hk
  have h2 := sumF_01 (f := fun b => ind (kd m k b) q) (k := t) (fun i _ => ind_01 _ _)
  unfold cntP
  omega
theorem cntK_bd {m : List (List Int)} (q : Int) (hm : m.length ≤ 6) : 0 ≤ cntK m q ∧ cntK m q ≤ 36 := by
  have := cnt_rows (m := m) q hm hm
  unfold cntK
  omega
/-- the six counts -/
def cntL (f : Int → Int) : List Int := [f 0, f 1, f 2, f 3, f 4, f 5]
theorem cntL_gi (f : Int → Int) {k : Nat} (h : k < 6) : gi (cntL f) k = f k := by
  match k, h with
  | 0, _ => rfl
  | 1, _ => rfl
  | 2, _ => rfl
  | 3, _ => rfl
  | 4, _ => rfl
  | 5, _ => rfl
theorem cntL_len (f : Int → Int) : (cntL f).length = 6 := rfl
theorem cntL_ext {f g : Int → Int} (h : ∀ k : Nat, k < 6 → f k = g k) : cntL f = cntL g :=
  ext_gi rfl fun j hj => by rw [cntL_gi f hj, cntL_gi g hj]; exact h j hj
theorem cntL_set (f g : Int → Int) (k : Nat) (hk : k < 6) (h1 : g k = f k + 1) (h2 : ∀ j : Nat, j < 6 → j ≠ k → g j = f j) : (cntL f).set k (f k + 1) = cntL g := by
  refine ext_gi (by rw [List.length_set, cntL_len, cntL_len]) fun j hj => ?_
  rw [List.length_set, cntL_len] at hj
  rw [gi_set (by rw [cntL_len]; exact hk), cntL_gi g hj]
  by_cases e : j = k
  · subst e; rw [if_pos rfl, h1]
  · rw [if_neg e, cntL_gi f hj, h2 j hj e]

/-- the sign of a kind; the matrix that kinds tell -/
def sgK (x : Int) : Int := if x = 4 then 1 else if x = 5 then -1 else 0
def fkM (t : List (List Int)) : List (List Int) := tab t.length t.length fun i j => sgK (gi (gr t i) j)
theorem fkM_len (t : List (List Int)) : (fkM t).length = t.length := tab_len _ _ _
theorem fkM_square {t : List (List Int)} (h : square t) : square (fkM t) := ⟨by rw [fkM_len]; exact h.1, by rw [fkM_len]; exact h.2.1, fun i hi => by rw [fkM_len] at hi ⊢; exact tab_row hi⟩
theorem fkM_wf {t : List (List Int)} : WfM (fkM t) := fun i hi j hj => by
  rw [fkM_len] at hi
  unfold fkM at hj ⊢
  rw [tab_row hi] at hj
  rw [gi_tab hi hj]
  unfold sgK
  split
  · omega
  · split <;> omega
/-- kinds of a sign matrix -/
def isKinds (t : List (List Int)) : Prop := square t ∧ good (fkM t) ∧ kinds (fkM t) = t

/-- powers -/
def pw (x : Int) : Nat → Int
  | 0 => 1
  | k + 1 => pw x k * x
theorem pw_zero (x : Int) : pw x 0 = 1 := rfl
theorem pw_succ (x : Int) (k : Nat) : pw x (k + 1) = pw x k * x := rfl
theorem pw_add (x : Int) (a b : Nat) : pw x (a + b) = pw x a * pw x b := by
  induction b with
  | zero => simp [pw]
  | succ b ih => rw [Nat.add_succ, pw, pw, ih, Int.mul_assoc]
theorem pw_one (k : Nat) : pw 1 k = 1 := by
  induction k with
  | zero => rfl
  | succ k ih => rw [pw, ih]; rfl
theorem pw_nonneg {x : Int} (h : 0 ≤ x) (k : Nat) : 0 ≤ pw x k := by
  induction k with
  | zero => simp [pw]
  | succ k ih => rw [pw]; exact Int.mul_nonneg ih h
theorem sumF_const (x : Int) (k : Nat) : sumF (fun _ => x) k = k * x := by
  induction k with
  | zero => simp [sumF]
  | succ k ih => simp only [sumF]; rw [ih, show ((k + 1 : Nat) : Int) = (k : Int) + 1 from by omega, Int.add_mul, Int.one_mul]
theorem sumF_plus (f g : Nat → Int) (k : Nat) : sumF f k + sumF g k = sumF (fun i => f i + g i) k := by
  induction k with
  | zero => rfl
  | succ k ih => simp only [sumF]; omega
theorem ind_total {x : Int} (h : 0 ≤ x ∧ x ≤ 5) : ind x 0 + ind x 1 + ind x 2 + ind x 3 + ind x 4 + ind x 5 = 1 := by
  obtain ⟨k, hk⟩ : ∃ k : Nat, x = (k : Int) := ⟨x.toNat, by omega⟩
  subst hk
  obtain rfl | rfl | rfl | rfl | rfl | rfl : k = 0 ∨ k = 1 ∨ k = 2 ∨ k = 3 ∨ k = 4 ∨ k = 5 := by omega
  all_goals decide
/-- the counts of all kinds together -/
theorem cnt_total {m : List (List Int)} (h : good m) : cntK m 0 + cntK m 1 + cntK m 2 + cntK m 3 + cntK m 4 + cntK m 5 = m.length * m.length := by
  unfold cntK
  rw [sumF_plus, sumF_plus, sumF_plus, sumF_plus, sumF_plus, ← sumF_const]
  refine sumF_congr fun i hi => ?_
  rw [sumF_plus, sumF_plus, sumF_plus, sumF_plus, sumF_plus]
  rw [sumF_congr (g := fun _ => 1) fun j hj => ind_total (kd_range h hi hj), sumF_const]
  omega
/-- the count of a kind as a natural number -/
def cN (m : List (List Int)) (q : Nat) : Nat := (cntK m q).toNat
theorem cN_eq {m : List (List Int)} (hm : m.length ≤ 6) (q : Nat) : cntK m q = (cN m q : Int) := by
  have := (cntK_bd (m := m) q hm).1
  unfold cN
  omega
theorem cN_total {m : List (List Int)} (h : good m) : cN m 0 + cN m 1 + cN m 2 + cN m 3 + cN m 4 + cN m 5 = m.length * m.length := by
  have h1 := cnt_total h
  have h2 := cN_eq h.1.2.1
  have e0 : cntK m 0 = (cN m 0 : Int) := h2 0
  have e1 : cntK m 1 = (cN m 1 : Int) := h2 1
  have e2 : cntK m 2 = (cN m 2 : Int) := h2 2
  have e3 : cntK m 3 = (cN m 3 : Int) := h2 3
  have e4 : cntK m 4 = (cN m 4 : Int) := h2 4
  have e5 : cntK m 5 = (cN m 5 : Int) := h2 5
  rw [e0, e1, e2, e3, e4, e5] at h1
  have h3 : ((cN m 0 + cN m 1 + cN m 2 + cN m 3 + cN m 4 + cN m 5 : Nat) : Int) = ((m.length * m.length : Nat) : Int) := by
    rw [Int.natCast_mul]
    omega
  exact Int.ofNat.inj h3
theorem sq_le {n : Nat} (h : n ≤ 4) : n * n ≤ 16 := Nat.mul_le_mul h h
/-- the product of powers -/
def prodW (wt : Nat → Int) (c : Nat → Nat) : Nat → Int
  | 0 => 1
  | k + 1 => prodW wt c k * pw (wt k) (c k)
def sumC (c : Nat → Nat) : Nat → Nat
  | 0 => 0
  | k + 1 => sumC c k + c k
theorem sumC_mono {c : Nat → Nat} {k l : Nat} (h : k ≤ l) : sumC c k ≤ sumC c l := by
  induction l with
  | zero => obtain rfl : k = 0 := by omega
            exact Nat.le_refl _
  | succ l ih =>
    by_cases e : k = l + 1
    · subst e; exact Nat.le_refl _
    · have := ih (by omega)
      simp only [sumC]
      omega
theorem pw_le {x : Int} (h : 0 ≤ x ∧ x ≤ 10) : ∀ k, 0 ≤ pw x k ∧ pw x k ≤ pw 10 k
  | 0 => by simp [pw]
  | k + 1 => by
    have ih := pw_le h k
    rw [pw, pw]
    exact ⟨Int.mul_nonneg ih.1 h.1, Int.mul_le_mul ih.2 h.2 h.1 (Int.le_trans ih.1 ih.2)⟩
theorem pw_ten : ∀ {k l : Nat}, k ≤ l → pw 10 k ≤ pw 10 l := by
  intro k l h
  induction l with
  | zero => obtain rfl : k = 0 := by omega
            exact Int.le_refl _
  | succ l ih =>
    by_cases e : k = l + 1
    · subst e; exact Int.le_refl _
    · have := ih (by omega)
      have h2 := pw_nonneg (x := 10) (by decide) l
      rw [pw]
      omega
theorem pw_16 : pw 10 16 = 10000000000000000 := by decide +kernel
theorem pw_small {x : Int} (h : 0 ≤ x ∧ x ≤ 10) {k : Nat} (hk : k ≤ 16) : 0 ≤ pw x k ∧ pw x k ≤ 10000000000000000 := by
  have h1 := pw_le h k
  have h2 := pw_ten hk
  rw [pw_16] at h2
  omega
theorem prodW_le {wt : Nat → Int} {c : Nat → Nat} : ∀ {k : Nat}, (∀ q, q < k → 0 ≤ wt q ∧ wt q ≤ 10) → 0 ≤ prodW wt c k ∧ prodW wt c k ≤ pw 10 (sumC c k)
  | 0, _ => by simp [prodW, sumC, pw]
  | k + 1, h => by
    have ih := prodW_le (c := c) (k := k) (fun q hq => h q (by omega))
    have h1 := pw_le (h k (by omega)) (c k)
    rw [prodW, sumC, pw_add]
    exact ⟨Int.mul_nonneg ih.1 h1.1, Int.mul_le_mul ih.2 h1.2 h1.1 (Int.le_trans ih.1 ih.2)⟩
theorem prodW_small {wt : Nat → Int} {c : Nat → Nat} (h : ∀ q, q < 6 → 0 ≤ wt q ∧ wt q ≤ 10) (hc : sumC c 6 ≤ 16) {k : Nat} (hk : k ≤ 6) : 0 ≤ prodW wt c k ∧ prodW wt c k ≤ 10000000000000000 := by
  have h1 := prodW_le (wt := wt) (c := c) (k := k) (fun q hq => h q (by omega))
  have h2 := pw_ten (Nat.le_trans (sumC_mono (c := c) hk) hc)
  rw [pw_16] at h2
  omega
theorem sumC_cN {m : List (List Int)} (h : good m) (h4 : m.length ≤ 4) : sumC (cN m) 6 ≤ 16 := by
  have h1 := cN_total h
  have h2 := sq_le h4
  simp only [sumC]
  omega
end Go.Proofs.YtmkldodkpijfjaaDoor

namespace Go.Proofs.YtmkldodkpijfjaaDoor
open Go.RowKit

/-- 1 more at k, in a list that is made longer if need be -/
def addAt (L : List Int) (k : Nat) : List Int := (L ++ List.replicate (k + 1 - L.length) 0).set k (gi L k + 1)
def padTo (L : List Int) (t : Nat) : List Int := L ++ List.replicate t 0
theorem padTo_len (L : List Int) (t : Nat) : (padTo L t).length = L.length + t := by simp [padTo]
theorem padTo_zero (L : List Int) : padTo L 0 = L := by simp [padTo]
theorem padTo_succ (L : List Int) (t : Nat) : padTo L (t + 1) = padTo L t ++ [0] := by
  unfold padTo
  rw [List.replicate_succ', List.append_assoc]
theorem gi_padTo (L : List Int) (t k : Nat) : gi (padTo L t) k = gi L k := by
  unfold padTo gi
  by_cases h : k < L.length
  · simp [List.getD, List.getElem?_append_left h]
  · have h1 : L.length ≤ k := by omega
    simp only [List.getD]
    rw [List.getElem?_append_right h1, List.getElem?_eq_none h1]
    by_cases h2 : k - L.length < t
    · rw [List.getElem?_replicate, if_pos h2]; rfl
    · rw [List.getElem?_eq_none (by simp; omega)]
theorem addAt_of {L : List Int} {k t : Nat} (h : L.length + t = max L.length (k + 1)) : (padTo L t).set k (gi L k + 1) = addAt L k := by
  unfold addAt
  rw [show k + 1 - L.length = t by omega]
  rfl
def fMin (m : List (List Int)) : Nat := (mcount m).toNat
def invW (m : List (List Int)) : Int := cntK m 0 + cntK m 5
def fInv (m : List (List Int)) : Nat := (invW m).toNat
def tabW (f : List (List Int) → Nat) (ts : List (List (List Int))) : List Int := ts.foldl (fun L m => addAt L (f m)) []
theorem tabW_step (f : List (List Int) → Nat) (ts : List (List (List Int))) {k : Nat} (h : k < ts.length) : tabW f (ts.take (k + 1)) = addAt (tabW f (ts.take k)) (f (ts.getD k [])) := by
  unfold tabW
  rw [List.take_add_one, List.foldl_append, List.getElem?_eq_getElem h]
  simp [List.getD, h]
def okA (L : List Int) : Bool := decide (L.length ≤ 100) && L.all fun x => decide (0 ≤ x) && decide (x ≤ 100)
theorem okA_at {L : List Int} (h : okA L = true) : L.length ≤ 100 ∧ ∀ k, 0 ≤ gi L k ∧ gi L k ≤ 100 := by
  unfold okA at h
  simp only [Bool.and_eq_true, decide_eq_true_eq, List.all_eq_true] at h
  refine ⟨h.1, fun k => ?_⟩
  by_cases hk : k < L.length
  · have := h.2 _ (gi_mem hk)
    exact this
  · unfold gi
    rw [List.getD, List.getElem?_eq_none (by omega)]
    simp
theorem tab_ok : ∀ n, n < 5 → ∀ k, k < (allW n).length + 1 → okA (tabW fMin ((allW n).take k)) = true ∧ okA (tabW fInv ((allW n).take k)) = true := by decide +kernel
theorem tab_okF {n : Int} (h : 1 ≤ n ∧ n ≤ 4) : okA (tabW fMin (allW n.toNat)) = true ∧ okA (tabW fInv (allW n.toNat)) = true := by
  have := tab_ok n.toNat (by omega) (allW n.toNat).length (by omega)
  rwa [List.take_length] at this
theorem okA_small {p : Prop} (_ : p) (L : List Int) (h : okA L = true) : L.length ≤ 1048576 := by
  have := (okA_at h).1
  omega
theorem f_ok : ∀ n, n < 5 → ∀ m, m ∈ allW n → (mcount m = (fMin m : Int) ∧ fMin m < 100) ∧ invW m = (fInv m : Int) ∧ fInv m < 100 := by decide +kernel
end Go.Proofs.YtmkldodkpijfjaaDoor

namespace Go.Proofs.YtmkldodkpijfjaaDoor
open Go.RowKit

/-- a ratio without a common divisor -/
def nrm (p q : Nat) : Nat × Nat := (p / Nat.gcd p q, q / Nat.gcd p q)
def Cop (a : Nat × Nat) : Prop := Nat.gcd a.1 a.2 = 1 ∧ 0 < a.2
theorem nrm_mul {k : Nat} (hk : 0 < k) (p q : Nat) : nrm (k * p) (k * q) = nrm p q := by
  unfold nrm
  rw [Nat.gcd_mul_left, Nat.mul_div_mul_left _ _ hk, Nat.mul_div_mul_left _ _ hk]
theorem nrm_id {a : Nat × Nat} (h : Cop a) : nrm a.1 a.2 = a := by
  unfold nrm
  rw [h.1, Nat.div_one, Nat.div_one]
theorem nrm_parts {p q : Nat} (hq : 0 < q) : 0 < Nat.gcd p q ∧ p = Nat.gcd p q * (nrm p q).1 ∧ q = Nat.gcd p q * (nrm p q).2 ∧ Cop (nrm p q) := by
  have hg : 0 < Nat.gcd p q := Nat.gcd_pos_of_pos_right _ hq
  have h1 : p = Nat.gcd p q * (p / Nat.gcd p q) := (Nat.mul_div_cancel' (Nat.gcd_dvd_left p q)).symm
  have h2 : q = Nat.gcd p q * (q / Nat.gcd p q) := (Nat.mul_div_cancel' (Nat.gcd_dvd_right p q)).symm
  refine ⟨hg, h1, h2, ?_, ?_⟩
  · show Nat.gcd (p / Nat.gcd p q) (q / Nat.gcd p q) = 1
    have h3 : Nat.gcd (Nat.gcd p q * (p / Nat.gcd p q)) (Nat.gcd p q * (q / Nat.gcd p q)) = Nat.gcd p q := by rw [← h1, ← h2]
    rw [Nat.gcd_mul_left] at h3
    exact Nat.eq_of_mul_eq_mul_left hg (by rw [h3, Nat.mul_one])
  · show 0 < q / Nat.gcd p q
    rcases Nat.eq_zero_or_pos (q / Nat.gcd p q) with h | h
    · rw [h, Nat.mul_zero] at h2; omega
    · exact h
theorem nrm_cop {p q : Nat} (hq : 0 < q) : Cop (nrm p q) := (nrm_parts hq).2.2.2
theorem nrm_le (p q : Nat) : (nrm p q).1 ≤ p ∧ (nrm p q).2 ≤ q := ⟨Nat.div_le_self _ _, Nat.div_le_self _ _⟩
theorem nrm_times {p q : Nat} (hq : 0 < q) (x y : Nat) : nrm ((nrm p q).1 * x) ((nrm p q).2 * y) = nrm (p * x) (q * y) := by
  obtain ⟨hg, h1, h2, _⟩ := nrm_parts (p := p) hq
  obtain ⟨g, hgg⟩ : ∃ g, g = Nat.gcd p q := ⟨_, rfl⟩
  obtain ⟨a, ha⟩ : ∃ a, a = nrm p q := ⟨_, rfl⟩
  rw [← hgg] at hg h1 h2
  rw [← ha] at h1 h2 ⊢
  rw [h1, h2, Nat.mul_assoc, Nat.mul_assoc, nrm_mul hg]
/-- products, sums, one divided by another -/
def tm (a b : Nat × Nat) : Nat × Nat := nrm (a.1 * b.1) (a.2 * b.2)
def pl (a b : Nat × Nat) : Nat × Nat := nrm (a.1 * b.2 + b.1 * a.2) (a.2 * b.2)
def ov (a b : Nat × Nat) : Nat × Nat := nrm (a.1 * b.2) (a.2 * b.1)
theorem tm_cop {a b : Nat × Nat} (ha : Cop a) (hb : Cop b) : Cop (tm a b) := nrm_cop (Nat.mul_pos ha.2 hb.2)
theorem pl_cop {a b : Nat × Nat} (ha : Cop a) (hb : Cop b) : Cop (pl a b) := nrm_cop (Nat.mul_pos ha.2 hb.2)
theorem ov_cop {a b : Nat × Nat} (ha : Cop a) (hb : 0 < b.1) : Cop (ov a b) := nrm_cop (Nat.mul_pos ha.2 hb)
theorem cop_swap {b : Nat × Nat} (h : Cop b) (hb : 0 < b.1) : Cop (b.2, b.1) := ⟨by rw [Nat.gcd_comm]; exact h.1, hb⟩
theorem cop_one (x : Nat) : Cop (x, 1) := ⟨Nat.gcd_one_right x, Nat.one_pos⟩
theorem gcd_of_dvd {a b p s : Nat} (h : Nat.gcd a b = 1) (hp : p ∣ a) (hs : s ∣ b) : Nat.gcd p s = 1 := by
  have : Nat.gcd p s ∣ Nat.gcd a b := Nat.dvd_gcd (Nat.dvd_trans (Nat.gcd_dvd_left _ _) hp) (Nat.dvd_trans (Nat.gcd_dvd_right _ _) hs)
  rw [h] at this
  exact Nat.dvd_one.1 this
/-- a product made of two ratios across -/
theorem tm_cross {a b : Nat × Nat} (ha : Cop a) (hb : Cop b) : ((nrm a.1 b.2).1 * (nrm b.1 a.2).1, (nrm a.1 b.2).2 * (nrm b.1 a.2).2) = tm a b := by
  obtain ⟨g1, p1, q1, c1⟩ := nrm_parts (p := a.1) hb.2
  obtain ⟨g2, p2, q2, c2⟩ := nrm_parts (p := b.1) ha.2
  obtain ⟨G, hG⟩ : ∃ G, G = Nat.gcd a.1 b.2 := ⟨_, rfl⟩
  obtain ⟨H, hH⟩ : ∃ H, H = Nat.gcd b.1 a.2 := ⟨_, rfl⟩
  obtain ⟨⟨p, q⟩, hx⟩ : ∃ x, x = nrm a.1 b.2 := ⟨_, rfl⟩
  obtain ⟨⟨r, s⟩, hy⟩ : ∃ y, y = nrm b.1 a.2 := ⟨_, rfl⟩
  rw [← hG] at g1 p1 q1
  rw [← hH] at g2 p2 q2
  rw [← hx] at p1 q1 c1 ⊢
  rw [← hy] at p2 q2 c2 ⊢
  simp only at p1 q1 p2 q2 ⊢
  have k1 : Nat.gcd p s = 1 := gcd_of_dvd ha.1 ⟨G, by rw [p1, Nat.mul_comm]⟩ ⟨H, by rw [q2, Nat.mul_comm]⟩
  have k2 : Nat.gcd r q = 1 := gcd_of_dvd hb.1 ⟨H, by rw [p2, Nat.mul_comm]⟩ ⟨G, by rw [q1, Nat.mul_comm]⟩
  have k3 : Nat.gcd p q = 1 := c1.1
  have k4 : Nat.gcd r s = 1 := c2.1
  have hc : Nat.gcd (p * r) (q * s) = 1 := by
    have e1 : Nat.Coprime p (q * s) := Nat.Coprime.mul_right k3 k1
    have e2 : Nat.Coprime r (q * s) := Nat.Coprime.mul_right k2 k4
    exact Nat.Coprime.mul_left e1 e2
  have hpos : 0 < q * s := Nat.mul_pos c1.2 c2.2
  have e : tm a b = nrm (p * r) (q * s) := by
    unfold tm
    rw [p1, q1, p2, q2, show G * p * (H * r) = (G * H) * (p * r) from by simp [Nat.mul_left_comm, Nat.mul_comm], show H * s * (G * q) = (G * H) * (q * s) from by simp [Nat.mul_left_comm, Nat.mul_comm], nrm_mul (Nat.mul_pos g1 g2)]
  rw [e]
  exact (nrm_id (a := (p * r, q * s)) ⟨hc, hpos⟩).symm
theorem tm_whole {p q : Nat} (hq : 0 < q) (x : Nat) : tm (nrm p q) (x, 1) = nrm (p * x) q := by
  unfold tm
  simp only
  rw [nrm_times hq x 1, Nat.mul_one]
theorem ov_whole {p q : Nat} (hq : 0 < q) (x : Nat) : ov (nrm p q) (x, 1) = nrm p (q * x) := by
  unfold ov
  simp only
  rw [nrm_times hq 1 x, Nat.mul_one]
end Go.Proofs.YtmkldodkpijfjaaDoor

namespace Go.Proofs.YtmkldodkpijfjaaDoor
open Go.RowKit

/-- a table: 1 to 4 rows of as many numbers in 1..4 -/
def isTab (t : List (List Int)) : Prop := (1 ≤ t.length ∧ t.length ≤ 4) ∧ ∀ i, i < t.length → (gr t i).length = t.length ∧ allIn (gr t i) 1 4
/-- a number of a table as a natural one -/
def eN (t : List (List Int)) (i j : Nat) : Nat := (gi (gr t i) j).toNat
theorem eN_eq {t : List (List Int)} (h : isTab t) {i j : Nat} (hi : i < t.length) (hj : j < t.length) : gi (gr t i) j = (eN t i j : Int) ∧ 1 ≤ eN t i j ∧ eN t i j ≤ 4 := by
  obtain ⟨h1, h2⟩ := h.2 i hi
  have := h2 j (by omega)
  unfold eN
  omega
/-- the product of the numbers where the matrix has s, in the first j places of row k -/
def accN (s : Int) (m t : List (List Int)) (k : Nat) : Nat → Nat
  | 0 => 1
  | j + 1 => accN s m t k j * (if gi (gr m k) j = s then eN t k j else 1)
def accR (s : Int) (m t : List (List Int)) : Nat → Nat
  | 0 => 1
  | k + 1 => accR s m t k * accN s m t k m.length
def prd (s : Int) (m t : List (List Int)) (k j : Nat) : Nat := accR s m t k * accN s m t k j
theorem prd_zero (s : Int) (m t : List (List Int)) : prd s m t 0 0 = 1 := rfl
theorem prd_yes {s : Int} {m t : List (List Int)} {k j : Nat} (h : gi (gr m k) j = s) : prd s m t k (j + 1) = prd s m t k j * eN t k j := by
  unfold prd; rw [accN, if_pos h, Nat.mul_assoc]
theorem prd_no {s : Int} {m t : List (List Int)} {k j : Nat} (h : gi (gr m k) j ≠ s) : prd s m t k (j + 1) = prd s m t k j := by
  unfold prd; rw [accN, if_neg h, Nat.mul_one]
theorem prd_row (s : Int) (m t : List (List Int)) (k : Nat) : prd s m t k m.length = prd s m t (k + 1) 0 := by
  unfold prd; rw [accR, accN, Nat.mul_one]
theorem prd_end (s : Int) (m t : List (List Int)) : prd s m t m.length 0 = accR s m t m.length := by unfold prd; rw [accN, Nat.mul_one]
theorem accN_bd {s : Int} {m t : List (List Int)} (h : isTab t) {k : Nat} (hk : k < t.length) : ∀ {j : Nat}, j ≤ t.length → 1 ≤ accN s m t k j ∧ accN s m t k j ≤ 4 ^ j
  | 0, _ => by simp [accN]
  | j + 1, hj => by
    have ih := accN_bd (s := s) (m := m) h hk (j := j) (by omega)
    have he := (eN_eq h hk (show j < t.length by omega)).2
    rw [accN, Nat.pow_succ]
    split
    · exact ⟨Nat.mul_le_mul ih.1 he.1, Nat.mul_le_mul ih.2 he.2⟩
    · exact ⟨by omega, Nat.mul_le_mul ih.2 (by omega)⟩
theorem accR_bd {s : Int} {m t : List (List Int)} (h : isTab t) (hm : m.length = t.length) : ∀ {k : Nat}, k ≤ t.length → 1 ≤ accR s m t k ∧ accR s m t k ≤ 256 ^ k
  | 0, _ => by simp [accR]
  | k + 1, hk => by
    have ih := accR_bd (s := s) h hm (k := k) (by omega)
    have h2 := accN_bd (s := s) (m := m) h (show k < t.length by omega) (j := t.length) (Nat.le_refl _)
    have h3 : 4 ^ t.length ≤ 256 := Nat.le_trans (Nat.pow_le_pow_right (by omega) h.1.2) (by decide)
    rw [accR, hm, Nat.pow_succ]
    exact ⟨Nat.mul_le_mul ih.1 h2.1, Nat.mul_le_mul ih.2 (Nat.le_trans h2.2 h3)⟩
theorem prd_bd {s : Int} {m t : List (List Int)} (h : isTab t) (hm : m.length = t.length) {k j : Nat} (hk : k < t.length) (hj : j ≤ t.length) : 1 ≤ prd s m t k j ∧ prd s m t k j ≤ 1099511627776 := by
  have h1 := accR_bd (s := s) h hm (k := k) (by omega)
  have h2 := accN_bd (s := s) (m := m) h hk hj
  have h3 : 4 ^ j ≤ 256 := Nat.le_trans (Nat.pow_le_pow_right (by omega) (show j ≤ 4 by have := h.1.2; omega)) (by decide)
  have h4 : 256 ^ k ≤ 4294967296 := Nat.le_trans (Nat.pow_le_pow_right (by omega) (show k ≤ 4 by have := h.1.2; omega)) (by decide)
  unfold prd
  exact ⟨Nat.mul_le_mul h1.1 h2.1, Nat.le_trans (Nat.mul_le_mul (Nat.le_trans h1.2 h4) (Nat.le_trans h2.2 h3)) (by decide)⟩
theorem accR_small {s : Int} {m t : List (List Int)} (h : isTab t) (hm : m.length = t.length) : 1 ≤ accR s m t m.length ∧ accR s m t m.length ≤ 4294967296 := by
  have h1 := accR_bd (s := s) h hm (k := m.length) (by omega)
  exact ⟨h1.1, Nat.le_trans h1.2 (Nat.le_trans (Nat.pow_le_pow_right (by omega) (show m.length ≤ 4 by have := h.1.2; omega)) (by decide))⟩
/-- the ratio of both products -/
def pwR (m t : List (List Int)) : Nat × Nat := nrm (accR 1 m t m.length) (accR (-1) m t m.length)
def okPw (m t : List (List Int)) : Prop := (good m ∧ isTab t) ∧ m.length = t.length
end Go.Proofs.YtmkldodkpijfjaaDoor

namespace Go.Proofs.YtmkldodkpijfjaaDoor

theorem ite_iff {p q : Prop} [Decidable p] [Decidable q] {x y : Int} (h : p ↔ q) : (if p then x else y) = if q then x else y := by
  by_cases hp : p
  · rw [if_pos hp, if_pos (h.1 hp)]
  · rw [if_neg hp, if_neg (fun hq => hp (h.2 hq))]

/-- the height where the corner sum is c -/
def hOf (c : Nat → Nat → Int) (i j : Nat) : Int := (i : Int) + (j : Int) - 2 * c i j
/-- the numbers that corner sums leave -/
def dC (c : Nat → Nat → Int) (i j : Nat) : Int := c (i + 1) (j + 1) - c i (j + 1) - c (i + 1) j + c i j
/-- the table of heights, the table of numbers -/
def htT (n : Nat) (c : Nat → Nat → Int) : List (List Int) := tab (n + 1) (n + 1) (hOf c)
def unC (n : Nat) (c : Nat → Nat → Int) : List (List Int) := tab n n (dC c)
def ht (m : List (List Int)) : List (List Int) := htT m.length (S2 m)

/-- corner sums of a sign matrix, told by their neighbours -/
structure Crn (n : Nat) (c : Nat → Nat → Int) : Prop where
  top : ∀ j, j ≤ n → c 0 j = 0
  left : ∀ i, i ≤ n → c i 0 = 0
  right : ∀ i, i ≤ n → c i n = i
  bottom : ∀ j, j ≤ n → c n j = j
  across : ∀ i j, i ≤ n → j < n → c i j ≤ c i (j + 1) ∧ c i (j + 1) ≤ c i j + 1
  down : ∀ i j, i < n → j ≤ n → c i j ≤ c (i + 1) j ∧ c (i + 1) j ≤ c i j + 1

theorem Crn.le_i {n : Nat} {c : Nat → Nat → Int} (h : Crn n c) {i j : Nat} (hi : i ≤ n) (hj : j ≤ n) : 0 ≤ c i j ∧ c i j ≤ i := by
  induction i with
  | zero => rw [h.top j hj]; omega
  | succ i ih =>
    have := ih (by omega)
    have := h.down i j (by omega) hj
    omega
theorem Crn.le_j {n : Nat} {c : Nat → Nat → Int} (h : Crn n c) {i j : Nat} (hi : i ≤ n) (hj : j ≤ n) : c i j ≤ j := by
  induction j with
  | zero => rw [h.left i hi]; omega
  | succ j ih =>
    have := ih (by omega)
    have := h.across i j hi (by omega)
    omega
theorem Crn.ge {n : Nat} {c : Nat → Nat → Int} (h : Crn n c) {i j : Nat} (hi : i ≤ n) (hj : j ≤ n) : (i : Int) + j - n ≤ c i j := by
  obtain ⟨k, rfl⟩ : ∃ k, n = j + k := ⟨n - j, by omega⟩
  clear hj
  induction k generalizing j with
  | zero => have := h.right i hi; simp only [Nat.add_zero] at this; rw [this]; omega
  | succ k ih =>
    have h2 := ih (j := j + 1) (by rw [show j + 1 + k = j + (k + 1) from by omega]; exact h) (by omega)
    have := h.across i j hi (by omega)
    omega

/-- heights are in 0..n -/
theorem Crn.hbound {n : Nat} {c : Nat → Nat → Int} (h : Crn n c) {i j : Nat} (hi : i ≤ n) (hj : j ≤ n) : 0 ≤ hOf c i j ∧ hOf c i j ≤ n := by
  have h1 := h.le_i hi hj
  have h2 := h.le_j hi hj
  have h3 := h.ge hi hj
  unfold hOf
  omega

theorem good_crn {m : List (List Int)} (h : good m) : Crn m.length (S2 m) := by
  have rowS : ∀ i j, S2 m (i + 1) j = S2 m i j + sumK (gr m i) j := fun i j => by rw [S2_succ, sumK_sumF]
  have colS : ∀ i j, i ≤ m.length → j < m.length → S2 m i (j + 1) = S2 m i j + sumK (gr (tr m) j) i := fun i j hi hj => by
    rw [S2_cols hi (show j + 1 ≤ m.length by omega), S2_cols hi (show j ≤ m.length by omega)]
    rfl
  have rowOk : ∀ i j, i < m.length → j ≤ m.length → 0 ≤ sumK (gr m i) j ∧ sumK (gr m i) j ≤ 1 := fun i j hi hj => (h.2.1 i hi).1 j (by rw [h.1.2.2 i hi]; exact hj)
  have colOk : ∀ i j, i < m.length → j ≤ m.length → 0 ≤ sumK (gr (tr m) i) j ∧ sumK (gr (tr m) i) j ≤ 1 := fun i j hi hj => (h.2.2 i (by rw [tr_len]; exact hi)).1 j (by rw [tr_row hi]; exact hj)
  refine ⟨fun j _ => rfl, fun i _ => S2_zero_col m i, fun i hi => ?_, fun j hj => ?_, fun i j hi hj => ?_, fun i j hi hj => ?_⟩
  · induction i with
    | zero => rfl
    | succ i ih =>
      rw [rowS, ih (by omega)]
      have := (h.2.1 i (by omega)).2
      rw [h.1.2.2 i (by omega)] at this
      omega
  · induction j with
    | zero => exact S2_zero_col m _
    | succ j ih =>
      rw [colS _ j (Nat.le_refl _) (by omega), ih (by omega)]
      have := (h.2.2 j (by rw [tr_len]; omega)).2
      rw [tr_row (by omega)] at this
      omega
  · rw [colS i j hi hj]
    have := colOk j i hj hi
    omega
  · rw [rowS i j]
    have := rowOk i j hi hj
    omega

theorem unC_len (n : Nat) (c : Nat → Nat → Int) : (unC n c).length = n := tab_len _ _ _
theorem htT_len (n : Nat) (c : Nat → Nat → Int) : (htT n c).length = n + 1 := tab_len _ _ _
theorem gi_htT {n : Nat} {c : Nat → Nat → Int} {i j : Nat} (hi : i ≤ n) (hj : j ≤ n) : gi (gr (htT n c) i) j = hOf c i j := gi_tab (by omega) (by omega)
theorem gi_unC {n : Nat} {c : Nat → Nat → Int} {i j : Nat} (hi : i < n) (hj : j < n) : gi (gr (unC n c) i) j = dC c i j := gi_tab hi hj
theorem htT_small {n : Nat} (c : Nat → Nat → Int) (h : n ≤ 6) : Small (htT n c) := ⟨by rw [htT_len]; omega, fun i hi => by rw [htT_len] at hi; unfold htT; rw [tab_row hi]; omega⟩
theorem unC_small {n : Nat} (c : Nat → Nat → Int) (h : n ≤ 6) : Small (unC n c) := ⟨by rw [unC_len]; omega, fun i hi => by rw [unC_len] at hi; unfold unC; rw [tab_row hi]; omega⟩

theorem unC_S2 {m : List (List Int)} (h : square m) : unC m.length (S2 m) = m := by
  refine (eq_tab rfl h.2.2 fun i j hi hj => ?_).symm
  have := S2_step m i j
  unfold dC
  omega

/-- the numbers by heights -/
theorem dC_h (c : Nat → Nat → Int) (i j : Nat) : hOf c i (j + 1) - hOf c i j + hOf c (i + 1) j - hOf c (i + 1) (j + 1) = 2 * dC c i j := by
  unfold hOf dC
  omega

/-- corner sums of the table with given ones -/
theorem S2_unC {n : Nat} {c : Nat → Nat → Int} (h0 : ∀ j, j ≤ n → c 0 j = 0) (h1 : ∀ i, i ≤ n → c i 0 = 0) : ∀ i j, i ≤ n → j ≤ n → S2 (unC n c) i j = c i j := by
  intro i
  induction i with
  | zero => intro j _ hj; rw [h0 j hj]; rfl
  | succ i ih =>
    intro j hi
    induction j with
    | zero => intro _; rw [h1 _ hi]; exact S2_zero_col _ _
    | succ j ihj =>
      intro hj
      rw [S2_step, ih (j + 1) (by omega) hj, ihj (by omega), ih j (by omega) (by omega), gi_unC (by omega) (by omega)]
      unfold dC
      omega

theorem unC_square {n : Nat} (c : Nat → Nat → Int) (h1 : 1 ≤ n) (h6 : n ≤ 6) : square (unC n c) := ⟨by rw [unC_len]; exact h1, by rw [unC_len]; exact h6, fun i hi => by rw [unC_len] at hi ⊢; exact tab_row hi⟩

/-- they are those of a sign matrix -/
theorem crn_good {n : Nat} {c : Nat → Nat → Int} (h : Crn n c) (h1 : 1 ≤ n) (h6 : n ≤ 6) : good (unC n c) := by
  have hS := S2_unC h.top h.left
  have hsq := unC_square c h1 h6
  have rowS : ∀ i j, S2 (unC n c) (i + 1) j = S2 (unC n c) i j + sumK (gr (unC n c) i) j := fun i j => by rw [S2_succ, sumK_sumF]
  have colS : ∀ i j, i ≤ n → j < n → S2 (unC n c) i (j + 1) = S2 (unC n c) i j + sumK (gr (tr (unC n c)) j) i := fun i j hi hj => by
    rw [S2_cols (by rw [unC_len]; exact hi) (by rw [unC_len]; omega), S2_cols (by rw [unC_len]; exact hi) (by rw [unC_len]; omega)]
    rfl
  have rK : ∀ i j, i < n → j ≤ n → sumK (gr (unC n c) i) j = c (i + 1) j - c i j := fun i j hi hj => by
    have := rowS i j
    rw [hS (i + 1) j (by omega) hj, hS i j (by omega) hj] at this
    omega
  have cK : ∀ i j, i ≤ n → j < n → sumK (gr (tr (unC n c)) j) i = c i (j + 1) - c i j := fun i j hi hj => by
    have := colS i j hi hj
    rw [hS i (j + 1) hi (by omega), hS i j hi (by omega)] at this
    omega
  refine ⟨hsq, fun i hi => ?_, fun j hj => ?_⟩
  · have hl := hsq.2.2 i hi
    rw [unC_len] at hi hl
    unfold lineOk
    rw [hl]
    refine ⟨fun k hk => ?_, ?_⟩
    · rw [rK i k hi hk]; have := h.down i k hi hk; omega
    · rw [rK i n hi (Nat.le_refl _), h.right i (by omega), h.right (i + 1) (by omega)]; omega
  · rw [tr_len, unC_len] at hj
    have hl : (gr (tr (unC n c)) j).length = n := by rw [tr_row (by rw [unC_len]; exact hj), unC_len]
    unfold lineOk
    rw [hl]
    refine ⟨fun k hk => ?_, ?_⟩
    · rw [cK k j hk hj]; have := h.across k j hk hj; omega
    · rw [cK n j (Nat.le_refl _) hj, h.bottom j (by omega), h.bottom (j + 1) (by omega)]; omega

theorem hOf_lt {a b : Nat → Nat → Int} {i j : Nat} : hOf a i j < hOf b i j ↔ b i j < a i j := by unfold hOf; omega
theorem hOf_eq {a b : Nat → Nat → Int} {i j : Nat} : hOf a i j = hOf b i j ↔ a i j = b i j := by unfold hOf; omega
theorem htT_congr {n : Nat} {a b : Nat → Nat → Int} (h : ∀ i j, i ≤ n → j ≤ n → a i j = b i j) : htT n a = htT n b := by
  refine eq_tab (htT_len _ _) (fun i hi => tab_row hi) fun i j hi hj => ?_
  rw [gi_htT (by omega) (by omega), hOf_eq]
  exact h i j (by omega) (by omega)
theorem htT_inj {n : Nat} {a b : Nat → Nat → Int} (h : htT n a = htT n b) : ∀ i j, i ≤ n → j ≤ n → a i j = b i j := by
  intro i j hi hj
  rw [← hOf_eq, ← gi_htT hi hj, ← gi_htT hi hj, h]
theorem unC_congr {n : Nat} {a b : Nat → Nat → Int} (h : ∀ i j, i ≤ n → j ≤ n → a i j = b i j) : unC n a = unC n b := by
  refine eq_tab (unC_len _ _) (fun i hi => tab_row hi) fun i j hi hj => ?_
  rw [gi_unC hi hj]
  unfold dC
  rw [h _ _ (by omega) (by omega), h _ _ (by omega) (by omega), h _ _ (by omega) (by omega), h _ _ (by omega) (by omega)]

/-- the greater and the lesser corner sums: the meet's and the join's -/
def maxC (a b : Nat → Nat → Int) (i j : Nat) : Int := max (a i j) (b i j)
def minC2 (a b : Nat → Nat → Int) (i j : Nat) : Int := min (a i j) (b i j)
theorem Crn.max {n : Nat} {a b : Nat → Nat → Int} (h : Crn n a) (k : Crn n b) : Crn n (maxC a b) := by
  unfold maxC
  refine ⟨fun j hj => ?_, fun i hi => ?_, fun i hi => ?_, fun j hj => ?_, fun i j hi hj => ?_, fun i j hi hj => ?_⟩
  · rw [h.top j hj, k.top j hj]; rfl
  · rw [h.left i hi, k.left i hi]; rfl
  · rw [h.right i hi, k.right i hi]; omega
  · rw [h.bottom j hj, k.bottom j hj]; omega
  · have := h.across i j hi hj; have := k.across i j hi hj; omega
  · have := h.down i j hi hj; have := k.down i j hi hj; omega
theorem Crn.min {n : Nat} {a b : Nat → Nat → Int} (h : Crn n a) (k : Crn n b) : Crn n (minC2 a b) := by
  unfold minC2
  refine ⟨fun j hj => ?_, fun i hi => ?_, fun i hi => ?_, fun j hj => ?_, fun i j hi hj => ?_, fun i j hi hj => ?_⟩
  · rw [h.top j hj, k.top j hj]; rfl
  · rw [h.left i hi, k.left i hi]; rfl
  · rw [h.right i hi, k.right i hi]; omega
  · rw [h.bottom j hj, k.bottom j hj]; omega
  · have := h.across i j hi hj; have := k.across i j hi hj; omega
  · have := h.down i j hi hj; have := k.down i j hi hj; omega

/-- flips: what the height of a cell may be changed by -/
def up1 (h : Nat → Nat → Int) (i j : Nat) : Prop := h (i - 1) j = h i j + 1 ∧ h i (j - 1) = h i j + 1 ∧ h i (j + 1) = h i j + 1 ∧ h (i + 1) j = h i j + 1
def down1 (h : Nat → Nat → Int) (i j : Nat) : Prop := h (i - 1) j = h i j - 1 ∧ h i (j - 1) = h i j - 1 ∧ h i (j + 1) = h i j - 1 ∧ h (i + 1) j = h i j - 1
instance (h : Nat → Nat → Int) (i j : Nat) : Decidable (up1 h i j) := by unfold up1; infer_instance
instance (h : Nat → Nat → Int) (i j : Nat) : Decidable (down1 h i j) := by unfold down1; infer_instance
def way (h : Nat → Nat → Int) (i j : Nat) : Int := if up1 h i j then 1 else if down1 h i j then -1 else 0
def setC (c : Nat → Nat → Int) (i j : Nat) (x : Int) : Nat → Nat → Int := fun a b => if a = i ∧ b = j then x else c a b

theorem hOf_setC (c : Nat → Nat → Int) (i j : Nat) (x : Int) (a b : Nat) : hOf (setC c i j x) a b = if a = i ∧ b = j then (i : Int) + j - 2 * x else hOf c a b := by
  unfold hOf setC
  split
  · next h => rw [h.1, h.2]
  · rfl

theorem Crn.flip {n : Nat} {c : Nat → Nat → Int} (h : Crn n c) {i j : Nat} (hi : 0 < i) (hi2 : i < n) (hj : 0 < j) (hj2 : j < n) (hw : way (hOf c) i j ≠ 0) : Crn n (setC c i j (c i j - way (hOf c) i j)) := by
  obtain ⟨i, rfl⟩ : ∃ k, i = k + 1 := ⟨i - 1, by omega⟩
  obtain ⟨j, rfl⟩ : ∃ k, j = k + 1 := ⟨j - 1, by omega⟩
  have key : (way (hOf c) (i + 1) (j + 1) = 1 ∧ c i (j + 1) = c (i + 1) (j + 1) - 1 ∧ c (i + 1) j = c (i + 1) (j + 1) - 1 ∧ c (i + 1) (j + 1 + 1) = c (i + 1) (j + 1) ∧ c (i + 1 + 1) (j + 1) = c (i + 1) (j + 1)) ∨
      (way (hOf c) (i + 1) (j + 1) = -1 ∧ c i (j + 1) = c (i + 1) (j + 1) ∧ c (i + 1) j = c (i + 1) (j + 1) ∧ c (i + 1) (j + 1 + 1) = c (i + 1) (j + 1) + 1 ∧ c (i + 1 + 1) (j + 1) = c (i + 1) (j + 1) + 1) := by
    unfold way at hw ⊢
    by_cases h1 : up1 (hOf c) (i + 1) (j + 1)
    · rw [if_pos h1]
      unfold up1 hOf at h1
      simp only [Nat.add_sub_cancel] at h1
      refine .inl ⟨rfl, ?_⟩
      omega
    · rw [if_neg h1] at hw ⊢
      by_cases h2 : down1 (hOf c) (i + 1) (j + 1)
      · rw [if_pos h2]
        unfold down1 hOf at h2
        simp only [Nat.add_sub_cancel] at h2
        refine .inr ⟨rfl, ?_⟩
        omega
      · rw [if_neg h2] at hw
        exact absurd rfl hw
  have hs : ∀ a b, setC c (i + 1) (j + 1) (c (i + 1) (j + 1) - way (hOf c) (i + 1) (j + 1)) a b = if a = i + 1 ∧ b = j + 1 then c (i + 1) (j + 1) - way (hOf c) (i + 1) (j + 1) else c a b := fun _ _ => rfl
  refine ⟨fun b hb => ?_, fun a ha => ?_, fun a ha => ?_, fun b hb => ?_, fun a b ha hb => ?_, fun a b ha hb => ?_⟩
  · rw [hs, if_neg (by omega)]; exact h.top b hb
  · rw [hs, if_neg (by omega)]; exact h.left a ha
  · rw [hs, if_neg (by omega)]; exact h.right a ha
  · rw [hs, if_neg (by omega)]; exact h.bottom b hb
  · have h0 := h.across a b ha hb
    rw [hs, hs]
    by_cases e1 : a = i + 1
    · subst e1
      by_cases e2 : b = j + 1
      · subst e2
        rw [if_pos ⟨rfl, rfl⟩, if_neg (by omega)]
        omega
      · by_cases e3 : b = j
        · subst e3
          rw [if_neg (by omega), if_pos ⟨rfl, rfl⟩]
          omega
        · rw [if_neg (by omega), if_neg (by omega)]; exact h0
    · rw [if_neg (by omega), if_neg (by omega)]; exact h0
  · have h0 := h.down a b ha hb
    rw [hs, hs]
    by_cases e1 : b = j + 1
    · subst e1
      by_cases e2 : a = i + 1
      · subst e2
        rw [if_pos ⟨rfl, rfl⟩, if_neg (by omega)]
        omega
      · by_cases e3 : a = i
        · subst e3
          rw [if_neg (by omega), if_pos ⟨rfl, rfl⟩]
          omega
        · rw [if_neg (by omega), if_neg (by omega)]; exact h0
    · rw [if_neg (by omega), if_neg (by omega)]; exact h0
end Go.Proofs.YtmkldodkpijfjaaDoor

namespace Go.Proofs.YtmkldodkpijfjaaDoor
open Go.RowKit

/-- the number of rows, then the heights, row by row -/
def tl (n : Int) (f : Nat → Nat → Int) : List Value := .int .i64 n :: (List.range 49).map fun k => .int .i64 (f (k / 7) (k % 7))
def tc (n : Int) (f : Nat → Nat → Int) : Array Value := (tl n f).toArray
/-- heights, 0 behind them -/
def pad (n : Nat) (h : Nat → Nat → Int) (i j : Nat) : Int := if i ≤ n ∧ j ≤ n then h i j else 0
def upd (f : Nat → Nat → Int) (i j : Nat) (x : Int) : Nat → Nat → Int := fun a b => if a = i ∧ b = j then x else f a b

theorem tc_size (n : Int) (f : Nat → Nat → Int) : (tc n f).size = 50 := by simp [tc, tl]
theorem tc_zero (n : Int) (f : Nat → Nat → Int) : (tc n f)[0]? = some (.int .i64 n) := by simp [tc, tl]
theorem tc_at (n : Int) (f : Nat → Nat → Int) {i j : Nat} (hi : i < 7) (hj : j < 7) : (tc n f)[1 + i * 7 + j]? = some (.int .i64 (f i j)) := by
  have e : 1 + i * 7 + j = (i * 7 + j) + 1 := by omega
  rw [e]
  simp only [tc, tl, List.getElem?_toArray, List.getElem?_cons_succ, List.getElem?_map]
  rw [List.getElem?_range (by omega)]
  simp only [Option.map_some]
  rw [show (i * 7 + j) / 7 = i from by omega, show (i * 7 + j) % 7 = j from by omega]
theorem tc_congr {n : Int} {f f' : Nat → Nat → Int} (h : ∀ i j, i < 7 → j < 7 → f i j = f' i j) : tc n f = tc n f' := by
  unfold tc tl
  congr 2
  refine List.map_congr_left fun k hk => ?_
  rw [List.mem_range] at hk
  rw [h (k / 7) (k % 7) (by omega) (by omega)]
theorem tc_set (n : Int) (f : Nat → Nat → Int) {i j : Nat} (hi : i < 7) (hj : j < 7) (x : Int) : (tc n f).setIfInBounds (1 + i * 7 + j) (.int .i64 x) = tc n (upd f i j x) := by
  apply Array.ext_getElem?
  intro k
  rw [Array.getElem?_setIfInBounds]
  by_cases e : 1 + i * 7 + j = k
  · subst e
    rw [if_pos rfl, if_pos (by rw [tc_size]; omega), tc_at n _ hi hj]
    simp [upd]
  · rw [if_neg e]
    by_cases hk : k < 50
    · by_cases h0 : k = 0
      · subst h0; rw [tc_zero, tc_zero]
      · obtain ⟨a, b, ha, hb, rfl⟩ : ∃ a b, a < 7 ∧ b < 7 ∧ k = 1 + a * 7 + b := ⟨(k - 1) / 7, (k - 1) % 7, by omega, by omega, by omega⟩
        rw [tc_at n f ha hb, tc_at n _ ha hb]
        unfold upd
        rw [if_neg (fun h => e (by rw [h.1, h.2]))]
    · rw [Array.getElem?_eq_none (by rw [tc_size]; omega), Array.getElem?_eq_none (by rw [tc_size]; omega)]

end Go.Proofs.YtmkldodkpijfjaaDoor

namespace Go.Proofs.YtmkldodkpijfjaaDoor
open Go.RowKit

section
variable {P : Program}

theorem wpList_allocT {ops : Array Oper} {rest : List Oper} {o : Oper} {a : Act} {w : World} {Q : Exit → Act → World → Prop} (hg : o.guard = none) (t : TypeId) (ho : o.op = .alloc t) (z : Array Value) (n : Nat)
    (hz : (P.info? t).map (fun i => (i.zero, i.size)) = some (some (.agg z), n))
    (h : wpList P ops Q rest (a.put o.dst (.pointer (some ⟨w.heap.size, 0, none⟩))) (w.alloc (.cells z t))) : wpList P ops Q (o :: rest) a w := by
  refine wpList_plain hg fun K hK => ?_
  unfold Oper.wp execOp
  simp only [ho, Instr.alloc, Sem.run_bind, (zero_of_info hz).1, Result.andThen_ok, newVar, newRow, run_newObj_alloc, Sem.run_pure, Value.cells]
  exact hK _ _ h

theorem wpList_boxT {ops : Array Oper} {rest : List Oper} {o : Oper} {a : Act} {w : World} {Q : Exit → Act → World → Prop} (hg : o.guard = none) (t : TypeId) (x : Operand) (ho : o.op = .box t x)
    (cells : Array Value) (hx : a.eval x = .agg cells)
    (h : wpList P ops Q rest (a.put o.dst (.pointer (some ⟨w.heap.size, 0, none⟩))) (w.alloc (.cells cells t))) : wpList P ops Q (o :: rest) a w := by
  refine wpList_plain hg fun K hK => ?_
  unfold Oper.wp execOp
  simp only [ho, hx, Sem.run_bind, Instr.box, newVar, newRow, run_newObj_alloc, Sem.run_pure, Result.andThen_ok, Value.cells]
  exact hK _ _ h

theorem wpList_buildT1 {ops : Array Oper} {rest : List Oper} {o : Oper} {a : Act} {w : World} {Q : Exit → Act → World → Prop} (hg : o.guard = none) (t : TypeId) (i : Nat) (x : Operand) (ho : o.op = .build t #[(i, x)])
    (v : Value) (hv : a.eval x = v) (cells : Array Value) (hb : P.built t [(i, v)] = some cells)
    (h : wpList P ops Q rest (a.put o.dst (.agg cells)) w) : wpList P ops Q (o :: rest) a w := by
  subst hv
  have e : ((#[(i, x)] : Array (Nat × Operand)).map fun (i, x) => (i, a.eval x)).toList = [(i, a.eval x)] := by simp
  refine wpList_build hg t _ ho (by rw [e, hb]; rfl) ?_
  rw [e, hb]
  exact h

theorem wpList_buildT0 {ops : Array Oper} {rest : List Oper} {o : Oper} {a : Act} {w : World} {Q : Exit → Act → World → Prop} (hg : o.guard = none) (t : TypeId) (ho : o.op = .build t #[])
    (cells : Array Value) (hb : P.built t [] = some cells)
    (h : wpList P ops Q rest (a.put o.dst (.agg cells)) w) : wpList P ops Q (o :: rest) a w := by
  have e : ((#[] : Array (Nat × Operand)).map fun (i, x) => (i, a.eval x)).toList = [] := by simp
  refine wpList_build hg t _ ho (by rw [e, hb]; rfl) ?_
  rw [e, hb]
  exact h

/-- a store into the variable that was made last -/
theorem wpList_storeT {ops : Array Oper} {rest : List Oper} {o : Oper} {a : Act} {w : World} {Q : Exit → Act → World → Prop} (hgd : o.guard = none) (ty : TypeId) (x y : Operand) (ho : o.op = .store ty x y)
    (cells old : Array Value) (g : Nat) (hgs : w.heap.size = g) (hx : a.eval x = .pointer (some ⟨g, 0, none⟩)) (hy : a.eval y = .agg cells)
    (hi : (P.info? ty).map (·.size) = some cells.size) (hold : old.size = cells.size) (h1 : cells.all (·.oneCell') = true)
    (h : wpList P ops Q rest (a.put o.dst undef) (w.alloc (.cells cells ty))) : wpList P ops Q (o :: rest) a (w.alloc (.cells old ty)) := by
  subst hgs
  refine wpList_store_row hgd ty x y ho w.heap.size cells hx hy ty old (heap_alloc_new w _) hi hold h1 ?_
  rw [World.setRow_alloc_new]
  exact h

/-- .. into the variable at block g -/
theorem wpList_storeG {ops : Array Oper} {rest : List Oper} {o : Oper} {a : Act} {w : World} {Q : Exit → Act → World → Prop} (hgd : o.guard = none) (ty : TypeId) (x y : Operand) (ho : o.op = .store ty x y)
    (g : Nat) (cells old : Array Value) (hx : a.eval x = .pointer (some ⟨g, 0, none⟩)) (hy : a.eval y = .agg cells)
    (hg : w.heap[g]? = some (.cells old ty (0, 0)))
    (hi : (P.info? ty).map (·.size) = some cells.size) (hold : old.size = cells.size) (h1 : cells.all (·.oneCell') = true)
    (h : wpList P ops Q rest (a.put o.dst undef) (w.setRow g cells)) : wpList P ops Q (o :: rest) a w :=
  wpList_store_row hgd ty x y ho g cells hx hy ty old hg hi hold h1 h

theorem wpList_loadG {ops : Array Oper} {rest : List Oper} {o : Oper} {a : Act} {w : World} {Q : Exit → Act → World → Prop} (hgd : o.guard = none) (ty : TypeId) (x : Operand) (ho : o.op = .load ty x)
    (g : Nat) (hx : a.eval x = .pointer (some ⟨g, 0, none⟩)) (cs : Array Value) (d : TypeDesc) (hg : w.heap[g]? = some (.cells cs ty (0, 0)))
    (hu : P.underlying ty = some d) (hd : (match d with | .struct _ | .array _ _ => true | _ => false) = true) (hi : (P.info? ty).map (·.size) = some cs.size)
    (h : wpList P ops Q rest (a.put o.dst (.agg cs)) w) : wpList P ops Q (o :: rest) a w :=
  wpList_load_row hgd ty x ho g hx ty cs (0, 0) d hg hu hd hi h

/-- results: a variable and a temporary; two variables and a temporary -/
theorem results_cell_one {fn : Func} {p : Tmp} {ty : TypeId} (h : fn.results = #[.cell p ty]) (tmps : Array Value) (w : World) (g : Nat) (cs : Array Value)
    (hp : tmps.getD p undef = .pointer (some ⟨g, 0, none⟩)) (hl : (loadVar ty ⟨g, 0, none⟩).run P w = .ok (.agg cs) w) :
    (results fn tmps).run P w = .ok (.agg cs) w := by
  have hp' : tmps[p]?.getD undef = .pointer (some ⟨g, 0, none⟩) := by simpa using hp
  simp [results, h, hp', asAddr, hl]
theorem results_cell_two {fn : Func} {p q : Tmp} {ty : TypeId} (h : fn.results = #[.cell p ty, .tmp q]) (tmps : Array Value) (w : World) (g : Nat) (cs : Array Value)
    (hp : tmps.getD p undef = .pointer (some ⟨g, 0, none⟩)) (hl : (loadVar ty ⟨g, 0, none⟩).run P w = .ok (.agg cs) w) :
    (results fn tmps).run P w = .ok (.tuple #[.agg cs, tmps.getD q undef]) w := by
  have hp' : tmps[p]?.getD undef = .pointer (some ⟨g, 0, none⟩) := by simpa using hp
  simp [results, h, hp', asAddr, hl]
theorem results_cell_three {fn : Func} {p p2 q : Tmp} {ty : TypeId} (h : fn.results = #[.cell p ty, .cell p2 ty, .tmp q]) (tmps : Array Value) (w : World) (g g2 : Nat) (cs cs2 : Array Value)
    (hp : tmps.getD p undef = .pointer (some ⟨g, 0, none⟩)) (hl : (loadVar ty ⟨g, 0, none⟩).run P w = .ok (.agg cs) w)
    (hp2 : tmps.getD p2 undef = .pointer (some ⟨g2, 0, none⟩)) (hl2 : (loadVar ty ⟨g2, 0, none⟩).run P w = .ok (.agg cs2) w) :
    (results fn tmps).run P w = .ok (.tuple #[.agg cs, .agg cs2, tmps.getD q undef]) w := by
  have hp' : tmps[p]?.getD undef = .pointer (some ⟨g, 0, none⟩) := by simpa using hp
  have hp2' : tmps[p2]?.getD undef = .pointer (some ⟨g2, 0, none⟩) := by simpa using hp2
  simp [results, h, hp', hp2', asAddr, hl, hl2]
end

def z0 : Nat → Nat → Int := fun _ _ => 0
theorem tc_one (n : Int) (f : Nat → Nat → Int) : (tc n f).all (·.oneCell') = true := by
  rw [Array.all_eq_true_iff_forall_mem]
  intro v hv
  simp only [tc, tl, List.mem_toArray, List.mem_cons, List.mem_map] at hv
  rcases hv with rfl | ⟨k, _, rfl⟩ <;> rfl
theorem tc_same (n k : Int) (f g : Nat → Nat → Int) : (tc n f).size = (tc k g).size := by rw [tc_size, tc_size]

theorem two_below (w : World) (o o2 : Obj) : Below w.heap.size w ((w.alloc o).alloc o2) := ((Below.refl _ w).alloc (Nat.le_refl _) o).alloc (by simp) o2
theorem below_setRowT {B g : Nat} {w0 w : World} (hb : Below B w0 w) (hBg : B ≤ g) (cs : Array Value) : Below B w0 (w.setRow g cs) :=
  hb.trans ⟨rfl, rfl, rfl, by simp [World.setRow], fun k hk => Go.setRow_other w g k cs (by omega)⟩
end Go.Proofs.YtmkldodkpijfjaaDoor

namespace Go.Proofs.YtmkldodkpijfjaaDoor
open Go.RowKit

theorem OwnP.more {w : World} {B : Nat} {v : Value} {M : List (List Int)} {r : List Int} {vs : List Value} (h : OwnP w B v M.length M M.length vs) : OwnP w B v M.length (M ++ [r]) M.length vs :=
  ⟨h.top, fun i hi => by rw [gr_lt (by simp; omega), List.getElem_append_left hi, ← gr_lt hi]; exact h.rows i hi, h.apart⟩
theorem gr_last (M : List (List Int)) (r : List Int) : gr (M ++ [r]) M.length = r := by
  rw [gr_lt (by simp)]
  simp
end Go.Proofs.YtmkldodkpijfjaaDoor

