/- Parts of proofs: contracts and plain facts. Conditions: as each says. -/
import Derived.Test.YtmkldodkpijfjaaDoorK03
import Derived.Laws.AppendOwnNone
import Derived.Maps.AppendAt
import Derived.StillTailTactics
import Derived.Deep.Cut
namespace Go.Proofs.YtmkldodkpijfjaaDoor
open Go.RowKit

/-- the sum of the first k numbers of a column -/
def colS (m : List (List Int)) (j : Nat) : Nat → Int
  | 0 => 0
  | k + 1 => colS m j k + gi (gr m k) j
theorem colS_tr {m : List (List Int)} {j : Nat} (hj : j < m.length) : ∀ k, k ≤ m.length → colS m j k = sumK (gr (tr m) j) k
  | 0, _ => rfl
  | k + 1, hk => by simp only [colS, sumK]; rw [colS_tr hj k (by omega), gi_tr hj (by omega)]
theorem colS_01 {m : List (List Int)} (h : good m) {j k : Nat} (hj : j < m.length) (hk : k ≤ m.length) : 0 ≤ colS m j k ∧ colS m j k ≤ 1 := by
  rw [colS_tr hj k hk]
  exact (h.2.2 j (by rw [tr_len]; exact hj)).1 k (by rw [tr_row hj]; exact hk)
theorem rowS_01 {m : List (List Int)} (h : good m) {i k : Nat} (hi : i < m.length) (hk : k ≤ m.length) : 0 ≤ sumK (gr m i) k ∧ sumK (gr m i) k ≤ 1 :=
  (h.2.1 i hi).1 k (by rw [h.1.2.2 i hi]; exact hk)

/-- the kind of a place by its number and the sums before and above it -/
def kdV (v before above : Int) : Int := if v = 1 then 4 else if v = -1 then 5 else 2 * before + above
def kd (m : List (List Int)) (i j : Nat) : Int := kdV (gi (gr m i) j) (sumK (gr m i) j) (colS m j i)
def kinds (m : List (List Int)) : List (List Int) := tab m.length m.length (kd m)
theorem kinds_len (m : List (List Int)) : (kinds m).length = m.length := tab_len _ _ _
theorem kinds_row {m : List (List Int)} {i : Nat} (h : i < m.length) : (gr (kinds m) i).length = m.length := tab_row h
theorem gi_kinds {m : List (List Int)} {i j : Nat} (hi : i < m.length) (hj : j < m.length) : gi (gr (kinds m) i) j = kd m i j := gi_tab hi hj
theorem kdV_range {v b a : Int} (hb : 0 ≤ b ∧ b ≤ 1) (ha : 0 ≤ a ∧ a ≤ 1) : 0 ≤ kdV v b a ∧ kdV v b a ≤ 5 := by
  unfold kdV
  split
  · omega
  · split <;> omega
theorem kd_range {m : List (List Int)} (h : good m) {i j : Nat} (hi : i < m.length) (hj : j < m.length) : 0 ≤ kd m i j ∧ kd m i j ≤ 5 :=
  kdV_range (rowS_01 h hi (by omega)) (colS_01 h hj (by omega))
theorem kinds_square {m : List (List Int)} (h : square m) : square (kinds m) :=
  ⟨by rw [kinds_len]; exact h.1, by rw [kinds_len]; exact h.2.1, fun i hi => by rw [kinds_len] at hi ⊢; exact kinds_row hi⟩

/-- the sums of the columns in the middle of row k -/
def colMid (m : List (List Int)) (k t : Nat) : List Int := (List.range m.length).map fun j => colS m j (if j < t then k + 1 else k)
theorem colMid_len (m : List (List Int)) (k t : Nat) : (colMid m k t).length = m.length := by simp [colMid]
theorem gi_colMid {m : List (List Int)} {k t j : Nat} (hj : j < m.length) : gi (colMid m k t) j = colS m j (if j < t then k + 1 else k) := gi_row hj
theorem colMid_set {m : List (List Int)} {k t : Nat} (ht : t < m.length) : (colMid m k t).set t (colS m t k + gi (gr m k) t) = colMid m k (t + 1) := by
  refine ext_gi (by rw [List.length_set, colMid_len, colMid_len]) fun j hj => ?_
  rw [List.length_set, colMid_len] at hj
  rw [gi_set (by rw [colMid_len]; exact ht), gi_colMid hj, gi_colMid hj]
  by_cases e : j = t
  · subst e; rw [if_pos rfl, if_pos (by omega), colS]
  · rw [if_neg e]
    have : (j < t + 1) = (j < t) := propext (by omega)
    simp only [this]
theorem colMid_next (m : List (List Int)) (k : Nat) : colMid m k m.length = colMid m (k + 1) 0 := by
  refine ext_gi (by rw [colMid_len, colMid_len]) fun j hj => ?_
  rw [colMid_len] at hj
  rw [gi_colMid hj, gi_colMid hj, if_pos hj, if_neg (by omega)]
theorem colMid_zero (m : List (List Int)) : colMid m 0 0 = List.replicate m.length 0 := by
  refine ext_gi (by rw [colMid_len, List.length_replicate]) fun j hj => ?_
  rw [colMid_len] at hj
  rw [gi_colMid hj, if_neg (by omega), gi_lt (by simpa using hj)]
  simp [colS]

/-- how many places of the kind q there are in the first k rows and t places more -/
def ind (x q : Int) : Int := if x = q then 1 else 0
def cntP (m : List (List Int)) (q : Int) (k t : Nat) : Int := sumF (fun a => sumF (fun b => ind (kd m a b) q) m.length) k + sumF (fun b => ind (kd m k b) q) t
def cntK (m : List (List Int)) (q : Int) : Int := sumF (fun a => sumF (fun b => ind (kd m a b) q) m.length) m.length
theorem ind_01 (x q : Int) : 0 ≤ ind x q ∧ ind x q ≤ 1 := by unfold ind; split <;> omega
theorem cntP_zero (m : List (List Int)) (q : Int) : cntP m q 0 0 = 0 := rfl
theorem cntP_step (m : List (List Int)) (q : Int) (k t : Nat) : cntP m q k (t + 1) = cntP m q k t + ind (kd m k t) q := by unfold cntP; simp only [sumF]; omega
theorem cntP_row (m : List (List Int)) (q : Int) (k : Nat) : cntP m q k m.length = cntP m q (k + 1) 0 := by unfold cntP; simp only [sumF]; omega
theorem cntP_end (m : List (List Int)) (q : Int) : cntP m q m.length 0 = cntK m q := by unfold cntP cntK; simp only [sumF]; omega
theorem sumF_01 {f : Nat → Int} : ∀ {k : Nat}, (∀ i, i < k → 0 ≤ f i ∧ f i ≤ 1) → 0 ≤ sumF f k ∧ sumF f k ≤ k
  | 0, _ => by simp [sumF]
  | k + 1, h => by
    have h1 := sumF_01 (k := k) (fun i hi => h i (by omega))
    have h2 := h k (by omega)
    simp only [sumF]
    omega
theorem cnt_rows {m : List (List Int)} (q : Int) (hm : m.length ≤ 6) : ∀ {k : Nat}, k ≤ 6 → 0 ≤ sumF (fun a => sumF (fun b => ind (kd m a b) q) m.length) k ∧ sumF (fun a => sumF (fun b => ind (kd m a b) q) m.length) k ≤ 6 * k
  | 0, _ => by simp [sumF]
  | k + 1, h => by
    have h1 := cnt_rows (m := m) q hm (k := k) (by omega)
    have h2 := sumF_01 (f := fun b => ind (kd m k b) q) (k := m.length) (fun i _ => ind_01 _ _)
    simp only [sumF]
    omega
theorem cntP_bd {m : List (List Int)} (q : Int) (hm : m.length ≤ 6) {k t : Nat} (hk : k ≤ 6) (ht : t ≤ 6) : 0 ≤ cntP m q k t ∧ cntP m q k t ≤ 42 := by
  have h1 := cnt_rows (m := m) q hm hk
  have h2 := sumF_01 (f := fun b => ind (kd m k b) q) (k := t) (fun i _ => ind_01 _ _)
  unfold cntP
  omega
theorem cntK_bd {m : List (List Int)} (q : Int) (hm : m.length ≤ 6) : 0 ≤ cntK m q ∧ cntK m q ≤ 36 := by
  have := cnt_rows (m := m) q hm hm
  unfold cntK
  omega
/-- the six counts -/
def cntL (f : Int → Int) : List Int := [f 0, f 1, f 2, f 3, f 4, f 5]
theorem cntL_gi (f : Int → Int) {k : Nat} (h : k < 6) : gi (cntL f) k = f k := by
  match k, h with
  | 0, _ => rfl
  | 1, _ => rfl
  | 2, _ => rfl
  | 3, _ => rfl
  | 4, _ => rfl
  | 5, _ => rfl
theorem cntL_len (f : Int → Int) : (cntL f).length = 6 := rfl
theorem cntL_ext {f g : Int → Int} (h : ∀ k : Nat, k < 6 → f k = g k) : cntL f = cntL g :=
  ext_gi rfl fun j hj => by rw [cntL_gi f hj, cntL_gi g hj]; exact h j hj
theorem cntL_set (f g : Int → Int) (k : Nat) (hk : k < 6) (h1 : g k = f k + 1) (h2 : ∀ j : Nat, j < 6 → j ≠ k → g j = f j) : (cntL f).set k (f k + 1) = cntL g := by
  refine ext_gi (by rw [List.length_set, cntL_len, cntL_len]) fun j hj => ?_
  rw [List.length_set, cntL_len] at hj
  rw [gi_set (by rw [cntL_len]; exact hk), cntL_gi g hj]
  by_cases e : j = k
  · subst e; rw [if_pos rfl, h1]
  · rw [if_neg e, cntL_gi f hj, h2 j hj e]

/-- the sign of a kind; the matrix that kinds tell -/
def sgK (x : Int) : Int := if x = 4 then 1 else if x = 5 then -1 else 0
def fkM (t : List (List Int)) : List (List Int) := tab t.length t.length fun i j => sgK (gi (gr t i) j)
theorem fkM_len (t : List (List Int)) : (fkM t).length = t.length := tab_len _ _ _
theorem fkM_square {t : List (List Int)} (h : square t) : square (fkM t) := ⟨by rw [fkM_len]; exact h.1, by rw [fkM_len]; exact h.2.1, fun i hi => by rw [fkM_len] at hi ⊢; exact tab_row hi⟩
theorem fkM_wf {t : List (List Int)} : WfM (fkM t) := fun i hi j hj => by
  rw [fkM_len] at hi
  unfold fkM at hj ⊢
  rw [tab_row hi] at hj
  rw [gi_tab hi hj]
  unfold sgK
  split
  · omega
  · split <;> omega
/-- kinds of a sign matrix -/
def isKinds (t : List (List Int)) : Prop := square t ∧ good (fkM t) ∧ kinds (fkM t) = t

/-- powers -/
def pw (x : Int) : Nat → Int
  | 0 => 1
  | k + 1 => pw x k * x
theorem pw_zero (x : Int) : pw x 0 = 1 := rfl
theorem pw_succ (x : Int) (k : Nat) : pw x (k + 1) = pw x k * x := rfl
theorem pw_add (x : Int) (a b : Nat) : pw x (a + b) = pw x a * pw x b := by
  induction b with
  | zero => simp [pw]
  | succ b ih => rw [Nat.add_succ, pw, pw, ih, Int.mul_assoc]
theorem pw_one (k : Nat) : pw 1 k = 1 := by
  induction k with
  | zero => rfl
  | succ k ih => rw [pw, ih]; rfl
theorem pw_nonneg {x : Int} (h : 0 ≤ x) (k : Nat) : 0 ≤ pw x k := by
  induction k with
  | zero => simp [pw]
  | succ k ih => rw [pw]; exact Int.mul_nonneg ih h
theorem sumF_const (x : Int) (k : Nat) : sumF (fun _ => x) k = k * x := by
  induction k with
  | zero => simp [sumF]
  | succ k ih => simp only [sumF]; rw [ih, show ((k + 1 : Nat) : Int) = (k : Int) + 1 from by omega, Int.add_mul, Int.one_mul]
theorem sumF_plus (f g : Nat → Int) (k : Nat) : sumF f k + sumF g k = sumF (fun i => f i + g i) k := by
  induction k with
  | zero => rfl
  | succ k ih => simp only [sumF]; omega
theorem ind_total {x : Int} (h : 0 ≤ x ∧ x ≤ 5) : ind x 0 + ind x 1 + ind x 2 + ind x 3 + ind x 4 + ind x 5 = 1 := by
  obtain ⟨k, hk⟩ : ∃ k : Nat, x = (k : Int) := ⟨x.toNat, by omega⟩
  subst hk
  obtain rfl | rfl | rfl | rfl | rfl | rfl : k = 0 ∨ k = 1 ∨ k = 2 ∨ k = 3 ∨ k = 4 ∨ k = 5 := by omega
  all_goals decide
/-- the counts of all kinds together -/
theorem cnt_total {m : List (List Int)} (h : good m) : cntK m 0 + cntK m 1 + cntK m 2 + cntK m 3 + cntK m 4 + cntK m 5 = m.length * m.length := by
  unfold cntK
  rw [sumF_plus, sumF_plus, sumF_plus, sumF_plus, sumF_plus, ← sumF_const]
  refine sumF_congr fun i hi => ?_
  rw [sumF_plus, sumF_plus, sumF_plus, sumF_plus, sumF_plus]
  rw [sumF_congr (g := fun _ => 1) fun j hj => ind_total (kd_range h hi hj), sumF_const]
  omega
/-- the count of a kind as a natural number -/
def cN (m : List (List Int)) (q : Nat) : Nat := (cntK m q).toNat
theorem cN_eq {m : List (List Int)} (hm : m.length ≤ 6) (q : Nat) : cntK m q = (cN m q : Int) := by
  have := (cntK_bd (m := m) q hm).1
  unfold cN
  omega
theorem cN_total {m : List (List Int)} (h : good m) : cN m 0 + cN m 1 + cN m 2 + cN m 3 + cN m 4 + cN m 5 = m.length * m.length := by
  have h1 := cnt_total h
  have h2 := cN_eq h.1.2.1
  have e0 : cntK m 0 = (cN m 0 : Int) := h2 0
  have e1 : cntK m 1 = (cN m 1 : Int) := h2 1
  have e2 : cntK m 2 = (cN m 2 : Int) := h2 2
  have e3 : cntK m 3 = (cN m 3 : Int) := h2 3
  have e4 : cntK m 4 = (cN m 4 : Int) := h2 4
  have e5 : cntK m 5 = (cN m 5 : Int) := h2 5
  rw [e0, e1, e2, e3, e4, e5] at h1
  have h3 : ((cN m 0 + cN m 1 + cN m 2 + cN m 3 + cN m 4 + cN m 5 : Nat) : Int) = ((m.length * m.length : Nat) : Int) := by
    rw [Int.natCast_mul]
    omega
  exact Int.ofNat.inj h3
theorem sq_le {n : Nat} (h : n ≤ 4) : n * n ≤ 16 := Nat.mul_le_mul h h
/-- the product of powers -/
def prodW (wt : Nat → Int) (c : Nat → Nat) : Nat → Int
  | 0 => 1
  | k + 1 => prodW wt c k * pw (wt k) (c k)
def sumC (c : Nat → Nat) : Nat → Nat
  | 0 => 0
  | k + 1 => sumC c k + c k
theorem sumC_mono {c : Nat → Nat} {k l : Nat} (h : k ≤ l) : sumC c k ≤ sumC c l := by
  induction l with
  | zero => obtain rfl : k = 0 := by omega
            exact Nat.le_refl _
  | succ l ih =>
    by_cases e : k = l + 1
    · subst e; exact Nat.le_refl _
    · have := ih (by omega)
      simp only [sumC]
      omega
theorem pw_le {x : Int} (h : 0 ≤ x ∧ x ≤ 10) : ∀ k, 0 ≤ pw x k ∧ pw x k ≤ pw 10 k
  | 0 => by simp [pw]
  | k + 1 => by
    have ih := pw_le h k
    rw [pw, pw]
    exact ⟨Int.mul_nonneg ih.1 h.1, Int.mul_le_mul ih.2 h.2 h.1 (Int.le_trans ih.1 ih.2)⟩
theorem pw_ten : ∀ {k l : Nat}, k ≤ l → pw 10 k ≤ pw 10 l := by
  intro k l h
  induction l with
  | zero => obtain rfl : k = 0 := by omega
            exact Int.le_refl _
  | succ l ih =>
    by_cases e : k = l + 1
    · subst e; exact Int.le_refl _
    · have := ih (by omega)
      have h2 := pw_nonneg (x := 10) (by decide) l
      rw [pw]
      omega
theorem pw_16 : pw 10 16 = 10000000000000000 := by decide +kernel
theorem pw_small {x : Int} (h : 0 ≤ x ∧ x ≤ 10) {k : Nat} (hk : k ≤ 16) : 0 ≤ pw x k ∧ pw x k ≤ 10000000000000000 := by
  have h1 := pw_le h k
  have h2 := pw_ten hk
  rw [pw_16] at h2
  omega
theorem prodW_le {wt : Nat → Int} {c : Nat → Nat} : ∀ {k : Nat}, (∀ q, q < k → 0 ≤ wt q ∧ wt q ≤ 10) → 0 ≤ prodW wt c k ∧ prodW wt c k ≤ pw 10 (sumC c k)
  | 0, _ => by simp [prodW, sumC, pw]
  | k + 1, h => by
    have ih := prodW_le (c := c) (k := k) (fun q hq => h q (by omega))
    have h1 := pw_le (h k (by omega)) (c k)
    rw [prodW, sumC, pw_add]
    exact ⟨Int.mul_nonneg ih.1 h1.1, Int.mul_le_mul ih.2 h1.2 h1.1 (Int.le_trans ih.1 ih.2)⟩
theorem prodW_small {wt : Nat → Int} {c : Nat → Nat} (h : ∀ q, q < 6 → 0 ≤ wt q ∧ wt q ≤ 10) (hc : sumC c 6 ≤ 16) {k : Nat} (hk : k ≤ 6) : 0 ≤ prodW wt c k ∧ prodW wt c k ≤ 10000000000000000 := by
  have h1 := prodW_le (wt := wt) (c := c) (k := k) (fun q hq => h q (by omega))
  have h2 := pw_ten (Nat.le_trans (sumC_mono (c := c) hk) hc)
  rw [pw_16] at h2
  omega
theorem sumC_cN {m : List (List Int)} (h : good m) (h4 : m.length ≤ 4) : sumC (cN m) 6 ≤ 16 := by
  have h1 := cN_total h
  have h2 := sq_le h4
  simp only [sumC]
  omega
end Go.Proofs.YtmkldodkpijfjaaDoor

namespace Go.Proofs.YtmkldodkpijfjaaDoor
open Go.RowKit

/-- 1 more at k, in a list that is made longer if need be -/
def addAt (L : List Int) (k : Nat) : List Int := (L ++ List.replicate (k + 1 - L.length) 0).set k (gi L k + 1)
def padTo (L : List Int) (t : Nat) : List Int := L ++ List.replicate t 0
theorem padTo_len (L : List Int) (t : Nat) : (padTo L t).length = L.length + t := by simp [padTo]
theorem padTo_zero (L : List Int) : padTo L 0 = L := by simp [padTo]
theorem padTo_succ (L : List Int) (t : Nat) : padTo L (t + 1) = padTo L t ++ [0] := by
  unfold padTo
  rw [List.replicate_succ', List.append_assoc]
theorem gi_padTo (L : List Int) (t k : Nat) : gi (padTo L t) k = gi L k := by
  unfold padTo gi
  by_cases h : k < L.length
  · simp [List.getD, List.getElem?_append_left h]
  · have h1 : L.length ≤ k := by omega
    simp only [List.getD]
    rw [List.getElem?_append_right h1, List.getElem?_eq_none h1]
    by_cases h2 : k - L.length < t
    · rw [List.getElem?_replicate, if_pos h2]; rfl
    · rw [List.getElem?_eq_none (by simp; omega)]
theorem addAt_of {L : List Int} {k t : Nat} (h : L.length + t = max L.length (k + 1)) : (padTo L t).set k (gi L k + 1) = addAt L k := by
  unfold addAt
  rw [show k + 1 - L.length = t by omega]
  rfl
def fMin (m : List (List Int)) : Nat := (mcount m).toNat
def invW (m : List (List Int)) : Int := cntK m 0 + cntK m 5
def fInv (m : List (List Int)) : Nat := (invW m).toNat
def tabW (f : List (List Int) → Nat) (ts : List (List (List Int))) : List Int := ts.foldl (fun L m => addAt L (f m)) []
theorem tabW_step (f : List (List Int) → Nat) (ts : List (List (List Int))) {k : Nat} (h : k < ts.length) : tabW f (ts.take (k + 1)) = addAt (tabW f (ts.take k)) (f (ts.getD k [])) := by
  unfold tabW
  rw [List.take_add_one, List.foldl_append, List.getElem?_eq_getElem h]
  simp [List.getD, h]
def okA (L : List Int) : Bool := decide (L.length ≤ 100) && L.all fun x => decide (0 ≤ x) && decide (x ≤ 100)
theorem okA_at {L : List Int} (h : okA L = true) : L.length ≤ 100 ∧ ∀ k, 0 ≤ gi L k ∧ gi L k ≤ 100 := by
  unfold okA at h
  simp only [Bool.and_eq_true, decide_eq_true_eq, List.all_eq_true] at h
  refine ⟨h.1, fun k => ?_⟩
  by_cases hk : k < L.length
  · have := h.2 _ (gi_mem hk)
    exact this
  · unfold gi
    rw [List.getD, List.getElem?_eq_none (by omega)]
    simp
theorem tab_ok : ∀ n, n < 5 → ∀ k, k < (allW n).length + 1 → okA (tabW fMin ((allW n).take k)) = true ∧ okA (tabW fInv ((allW n).take k)) = true := by decide +kernel
theorem tab_okF {n : Int} (h : 1 ≤ n ∧ n ≤ 4) : okA (tabW fMin (allW n.toNat)) = true ∧ okA (tabW fInv (allW n.toNat)) = true := by
  have := tab_ok n.toNat (by omega) (allW n.toNat).length (by omega)
  rwa [List.take_length] at this
theorem okA_small {p : Prop} (_ : p) (L : List Int) (h : okA L = true) : L.length ≤ 1048576 := by
  have := (okA_at h).1
  omega
theorem f_ok : ∀ n, n < 5 → ∀ m, m ∈ allW n → (mcount m = (fMin m : Int) ∧ fMin m < 100) ∧ invW m = (fInv m : Int) ∧ fInv m < 100 := by decide +kernel
end Go.Proofs.YtmkldodkpijfjaaDoor

namespace Go.Proofs.YtmkldodkpijfjaaDoor
open Go.RowKit

def jR (n : Nat) : Nat := (tabW fInv (allW n)).length
def jC (n : Nat) : Nat := (tabW fMin (allW n)).length
/-- how many of the first t matrices have p inversions and k minus ones -/
def jF (A : List (List (List Int))) (t p k : Nat) : Int := sumF (fun i => if fInv (A.getD i []) = p ∧ fMin (A.getD i []) = k then 1 else 0) t
theorem jF_zero (A : List (List (List Int))) (p k : Nat) : jF A 0 p k = 0 := rfl
theorem jF_step (A : List (List (List Int))) (t p k : Nat) : jF A (t + 1) p k = if p = fInv (A.getD t []) ∧ k = fMin (A.getD t []) then jF A t (fInv (A.getD t [])) (fMin (A.getD t [])) + 1 else jF A t p k := by
  unfold jF
  simp only [sumF]
  by_cases e : p = fInv (A.getD t []) ∧ k = fMin (A.getD t [])
  · rw [if_pos e, e.1, e.2, if_pos ⟨rfl, rfl⟩]
  · rw [if_neg e, if_neg (fun h => e ⟨h.1.symm, h.2.symm⟩)]
    omega
theorem jF_bd (A : List (List (List Int))) (t p k : Nat) : 0 ≤ jF A t p k ∧ jF A t p k ≤ t := sumF_01 fun i _ => by split <;> omega
def joint (n : Nat) : List (List Int) := tab (jR n) (jC n) (jF (allW n) (allW n).length)
theorem j_ok : ∀ n, n < 5 → ∀ m, m ∈ allW n → fInv m < jR n ∧ fMin m < jC n ∧ cN m 5 = fMin m ∧ cN m 0 + cN m 5 = fInv m := by decide +kernel
theorem j_size : ∀ n, n < 5 → n = 0 ∨ (jR n = n * (n - 1) / 2 + 1 ∧ jR n ≤ 100 ∧ jC n ≤ 100 ∧ 1 ≤ jC n) := by decide +kernel
theorem joint_small {n : Int} (h : 1 ≤ n ∧ n ≤ 4) : Small (joint n.toNat) := by
  have hs := (j_size n.toNat (by omega)).resolve_left (by omega)
  refine ⟨by unfold joint; rw [tab_len]; omega, fun i hi => ?_⟩
  unfold joint at hi ⊢
  rw [tab_len] at hi
  rw [tab_row hi]
  omega
end Go.Proofs.YtmkldodkpijfjaaDoor

namespace Go.Proofs.YtmkldodkpijfjaaDoor
open Go.RowKit

theorem Tryd.info_intssW : (Tryd.prog.info? 28).map (fun i => (i.zero, i.size, i.bytes)) = some (some (.slice none 0 0), 1, 24) := by kernel_rfl
/-- the table at an index -/
def gt (ts : List (List (List Int))) (i : Nat) : List (List Int) := ts.getD i []
theorem gt_lt {ts : List (List (List Int))} {i : Nat} (h : i < ts.length) : gt ts i = ts[i] := by simp [gt, List.getD, h]
theorem gt_mem {ts : List (List (List Int))} {i : Nat} (h : i < ts.length) : gt ts i ∈ ts := by rw [gt_lt h]; exact List.getElem_mem _
theorem gt_app_left {a b : List (List (List Int))} {i : Nat} (h : i < a.length) : gt (a ++ b) i = gt a i := by
  rw [gt_lt (by simp; omega), gt_lt h, List.getElem_append_left h]
theorem gt_app_right {a b : List (List (List Int))} {i : Nat} (h : i < b.length) : gt (a ++ b) (a.length + i) = gt b i := by
  rw [gt_lt (by simp; omega), gt_lt h, List.getElem_append_right (by omega)]
  simp
theorem gr_app_left {a b : List (List Int)} {i : Nat} (h : i < a.length) : gr (a ++ b) i = gr a i := by
  rw [gr_lt (by simp; omega), gr_lt h, List.getElem_append_left h]
theorem gr_app_right {a b : List (List Int)} {i : Nat} (h : i < b.length) : gr (a ++ b) (a.length + i) = gr b i := by
  rw [gr_lt (by simp; omega), gr_lt h, List.getElem_append_right (by omega)]
  simp
theorem getD_left {a b : List Value} {i : Nat} (h : i < a.length) : (a ++ b).getD i undef = a.getD i undef := by
  simp only [List.getD]; rw [List.getElem?_append_left h]
theorem getD_right {a b : List Value} {i : Nat} (h : a.length ≤ i) : (a ++ b).getD i undef = b.getD (i - a.length) undef := by
  simp only [List.getD]; rw [List.getElem?_append_right h]

theorem row_apart {w : World} {B B' n n' : Nat} {e e' : TypeId} {x v : Value} {xs ys : List Value} (h : w.ownsRow B e 1 x n xs) (k : w.ownsRow B' e' 1 v n' ys) (hne : e ≠ e') : ∀ g, x.ownBlock = some g → v.ownBlock ≠ some g := by
  intro g hg hv
  rcases h.2 with ⟨rfl, _⟩ | ⟨g1, cap1, cur1, rfl, _, h1, _⟩
  · simp [Value.ownBlock] at hg
  rcases k.2 with ⟨rfl, _⟩ | ⟨g2, cap2, cur2, rfl, _, h2, _⟩
  · simp [Value.ownBlock] at hv
  simp only [Value.ownBlock, Option.some.injEq] at hg hv
  subst hg hv
  rw [h1] at h2
  simp only [Option.some.injEq, Obj.cells.injEq] at h2
  exact hne h2.2.1
/-- what a slice of other elements than the one that grows owns is kept -/
theorem row_kept {w w1 : World} {B B' n n' : Nat} {e e' : TypeId} {x v : Value} {xs ys : List Value} (h : w.ownsRow B e 1 x n xs) (k : w.ownsRow B' e' 1 v n' ys) (hne : e ≠ e') (hg : w.grownBy w1 v.ownBlock) : w1.ownsRow B e 1 x n xs := by
  refine World.ownsRow.kept h hg ?_
  cases hb : x.ownBlock with
  | none => exact .inl rfl
  | some g => exact .inr (fun e' => row_apart h k hne g hb e'.symm)

/-- a slice of rows, each owned -/
structure OwnR (w : World) (B : Nat) (v : Value) (m : List (List Int)) (vs : List Value) : Prop where
  top : w.ownsRow B 22 1 v m.length vs
  rows : ∀ i, i < m.length → OwnI w B (vs.getD i undef) (gr m i)
theorem OwnR.below {w w' : World} {B : Nat} {v : Value} {m : List (List Int)} {vs : List Value} (h : OwnR w B v m vs) (hb : Below w.heap.size w w') : OwnR w' B v m vs := ⟨ownsRow_below h.top hb, fun i hi => (h.rows i hi).below hb⟩
theorem OwnR.base {w : World} {B B' : Nat} {v : Value} {m : List (List Int)} {vs : List Value} (h : OwnR w B v m vs) (hB : B' ≤ B) : OwnR w B' v m vs := ⟨ownsRow_base h.top hB, fun i hi => (h.rows i hi).base hB⟩
theorem OwnR.nil (w : World) (B : Nat) : OwnR w B (.slice none 0 0) [] [] := ⟨World.ownsRow_nil _ _ _ _, fun i hi => absurd hi (by simp)⟩
theorem OwnR.len {w : World} {B : Nat} {v : Value} {m : List (List Int)} {vs : List Value} (h : OwnR w B v m vs) : vs.length = m.length := by simpa using h.top.1
theorem OwnR.read {w : World} {B : Nat} {v : Value} {m : List (List Int)} {vs : List Value} (h : OwnR w B v m vs) : ∃ ao c, v = .slice ao m.length c ∧ m.length ≤ c ∧ c ≤ 9223372036854775807 ∧ MatAt w ao m := by
  obtain ⟨ao, c, hv, h1, h2, hc⟩ := ownsRow_read h.top
  refine ⟨ao, c, hv, h1, h2, fun i hi => ?_⟩
  obtain ⟨b, o, e, hcell⟩ := hc i hi
  obtain ⟨r, c', hr, h3, h4, hx⟩ := (h.rows i hi).read
  exact ⟨b, o, r, c', e, by rw [hcell, hr], hx, h3, h4⟩
theorem OwnP.toR {w : World} {B : Nat} {v : Value} {m : List (List Int)} {vs : List Value} (h : OwnP w B v m.length m m.length vs) : OwnR w B v m vs := ⟨h.top, h.rows⟩
theorem OwnR.kept {w w1 : World} {B B' n' : Nat} {x v : Value} {m : List (List Int)} {vs ys : List Value} {e' : TypeId} (h : OwnR w B x m vs) (k : w.ownsRow B' e' 1 v n' ys) (h1 : 22 ≠ e') (h2 : 3 ≠ e') (hg : w.grownBy w1 v.ownBlock) : OwnR w1 B x m vs :=
  ⟨row_kept h.top k h1 hg, fun i hi => row_kept (h.rows i hi) k h2 hg⟩
/-- rows put behind -/
theorem OwnR.join {w w1 : World} {B : Nat} {v v' : Value} {m k : List (List Int)} {vs us : List Value} (h : OwnR w B v m vs) (_hl : us.length = k.length) (hk : ∀ i, i < k.length → OwnI w B (us.getD i undef) (gr k i))
    (h1 : w1.ownsRow B 22 1 v' (m.length + k.length) (vs ++ us)) (hg : w.grownBy w1 v.ownBlock) : OwnR w1 B v' (m ++ k) (vs ++ us) := by
  refine ⟨by rw [List.length_append]; exact h1, fun i hi => ?_⟩
  rw [List.length_append] at hi
  have hvl := h.len
  by_cases hi2 : i < m.length
  · rw [getD_left (by omega), gr_app_left hi2]
    exact row_kept (h.rows i hi2) h.top (by decide) hg
  · obtain ⟨j, rfl⟩ : ∃ j, i = m.length + j := ⟨i - m.length, by omega⟩
    rw [getD_right (by omega), hvl, show m.length + j - m.length = j from by omega, gr_app_right (by omega)]
    exact row_kept (hk j (by omega)) h.top (by decide) hg
theorem OwnR.cells {w : World} {B n c : Nat} {ad : Addr} {m : List (List Int)} {vs : List Value} (h : OwnR w B (.slice (some ad) n c) m vs) : (∀ j u, vs[j]? = some u → w.cell? (ad.add j) = some u) ∧ (∀ u ∈ vs, u.oneCell' = true) := by
  have hl := h.len
  obtain ⟨ao, c', e, _, _, hc⟩ := ownsRow_read h.top
  cases e
  refine ⟨fun j u hj => ?_, fun u hu => ?_⟩
  · have hjl : j < vs.length := (List.getElem?_eq_some_iff.1 hj).1
    obtain ⟨b3, o3, e3, hc3⟩ := hc j (by omega)
    cases e3
    rw [Addr.add_lit, hc3, List.getD, hj]
    rfl
  · obtain ⟨i, hi, rfl⟩ := List.mem_iff_getElem.1 hu
    have := (h.rows i (by omega)).read
    rw [List.getD, List.getElem?_eq_getElem hi] at this
    obtain ⟨_, _, e, _⟩ := this
    rw [show vs[i] = (some vs[i]).getD undef from rfl, e]
    rfl

/-- a list of such tables -/
structure OwnRL (w : World) (B : Nat) (v : Value) (ts : List (List (List Int))) (vs : List Value) : Prop where
  top : w.ownsRow B 28 1 v ts.length vs
  each : ∀ i, i < ts.length → ∃ us, OwnR w B (vs.getD i undef) (gt ts i) us
theorem OwnRL.below {w w' : World} {B : Nat} {v : Value} {ts : List (List (List Int))} {vs : List Value} (h : OwnRL w B v ts vs) (hb : Below w.heap.size w w') : OwnRL w' B v ts vs := ⟨ownsRow_below h.top hb, fun i hi => ⟨_, (h.each i hi).choose_spec.below hb⟩⟩
theorem OwnRL.base {w : World} {B B' : Nat} {v : Value} {ts : List (List (List Int))} {vs : List Value} (h : OwnRL w B v ts vs) (hB : B' ≤ B) : OwnRL w B' v ts vs := ⟨ownsRow_base h.top hB, fun i hi => ⟨_, (h.each i hi).choose_spec.base hB⟩⟩
theorem OwnRL.nil (w : World) (B : Nat) : OwnRL w B (.slice none 0 0) [] [] := ⟨World.ownsRow_nil _ _ _ _, fun i hi => absurd hi (by simp)⟩
theorem OwnRL.len {w : World} {B : Nat} {v : Value} {ts : List (List (List Int))} {vs : List Value} (h : OwnRL w B v ts vs) : vs.length = ts.length := by simpa using h.top.1
theorem OwnRL.head {w : World} {B : Nat} {v : Value} {ts : List (List (List Int))} {vs : List Value} (h : OwnRL w B v ts vs) : ∃ ao c, v = .slice ao ts.length c ∧ ts.length ≤ c ∧ c ≤ 9223372036854775807 := by
  obtain ⟨ao, c, e, h1, h2, _⟩ := ownsRow_read h.top
  exact ⟨ao, c, e, h1, h2⟩
/-- tables put behind -/
theorem OwnRL.join {w w1 : World} {B : Nat} {v v' : Value} {ts ks : List (List (List Int))} {vs us : List Value} (h : OwnRL w B v ts vs) (_hl : us.length = ks.length) (hk : ∀ i, i < ks.length → ∃ xs, OwnR w B (us.getD i undef) (gt ks i) xs)
    (h1 : w1.ownsRow B 28 1 v' (ts.length + ks.length) (vs ++ us)) (hg : w.grownBy w1 v.ownBlock) : OwnRL w1 B v' (ts ++ ks) (vs ++ us) := by
  refine ⟨by rw [List.length_append]; exact h1, fun i hi => ?_⟩
  rw [List.length_append] at hi
  have hvl := h.len
  by_cases hi2 : i < ts.length
  · rw [getD_left (by omega), gt_app_left hi2]
    obtain ⟨xs, hx⟩ := h.each i hi2
    exact ⟨xs, hx.kept h.top (by decide) (by decide) hg⟩
  · obtain ⟨j, rfl⟩ : ∃ j, i = ts.length + j := ⟨i - ts.length, by omega⟩
    rw [getD_right (by omega), hvl, show ts.length + j - ts.length = j from by omega, gt_app_right (by omega)]
    obtain ⟨xs, hx⟩ := hk j (by omega)
    exact ⟨xs, hx.kept h.top (by decide) (by decide) hg⟩
theorem OwnRL.cells {w : World} {B n c : Nat} {ad : Addr} {ts : List (List (List Int))} {vs : List Value} (h : OwnRL w B (.slice (some ad) n c) ts vs) : (∀ j u, vs[j]? = some u → w.cell? (ad.add j) = some u) ∧ (∀ u ∈ vs, u.oneCell' = true) := by
  have hl := h.len
  obtain ⟨ao, c', e, _, _, hc⟩ := ownsRow_read h.top
  cases e
  refine ⟨fun j u hj => ?_, fun u hu => ?_⟩
  · have hjl : j < vs.length := (List.getElem?_eq_some_iff.1 hj).1
    obtain ⟨b3, o3, e3, hc3⟩ := hc j (by omega)
    cases e3
    rw [Addr.add_lit, hc3, List.getD, hj]
    rfl
  · obtain ⟨i, hi, rfl⟩ := List.mem_iff_getElem.1 hu
    obtain ⟨_, hx⟩ := h.each i (by omega)
    have := hx.read
    rw [List.getD, List.getElem?_eq_getElem hi] at this
    obtain ⟨_, _, e, _⟩ := this
    rw [show vs[i] = (some vs[i]).getD undef from rfl, e]
    rfl
/-- reading one of the tables -/
theorem OwnRL.at {w : World} {B n c : Nat} {ao : Option Addr} {ts : List (List (List Int))} {vs : List Value} (h : OwnRL w B (.slice ao n c) ts vs) {i : Nat} (hi : i < ts.length) :
    ∃ b o r d, ao = some ⟨b, o, none⟩ ∧ w.cell? ⟨b, o + i, none⟩ = some (.slice r (gt ts i).length d) ∧ MatAt w r (gt ts i) ∧ (gt ts i).length ≤ d ∧ d ≤ 9223372036854775807 := by
  obtain ⟨ao', c', e, _, _, hc⟩ := ownsRow_read h.top
  cases e
  obtain ⟨b, o, e, hcell⟩ := hc i hi
  obtain ⟨us, hx⟩ := h.each i hi
  obtain ⟨r, d, hr, h3, h4, hm⟩ := hx.read
  exact ⟨b, o, r, d, e, by rw [hcell, hr], hm, h3, h4⟩
end Go.Proofs.YtmkldodkpijfjaaDoor

namespace Go.Proofs.YtmkldodkpijfjaaDoor
open Go.RowKit

theorem ownsRow_raise {w : World} {B B' : Nat} {e : TypeId} {v : Value} {n : Nat} {xs : List Value} (h : w.ownsRow B e 1 v n xs) (hb : ∀ g, v.ownBlock = some g → B' ≤ g) : w.ownsRow B' e 1 v n xs := by
  refine ⟨h.1, ?_⟩
  rcases h.2 with h0 | ⟨g, cap, cur, rfl, hg, r⟩
  · exact .inl h0
  · exact .inr ⟨g, cap, cur, rfl, hb g rfl, r⟩
theorem wSmall {x : Int} (h : -1000 ≤ x ∧ x ≤ 1000) : IntKind.i64.wrap x = x := by
  rw [IntKind.wrap_i64]
  omega
theorem wSmall64 {x : Int} (h : -1000 ≤ x ∧ x ≤ 1000) : wrap64 x = x := by
  unfold wrap64
  omega
theorem OwnI.none_cap {w : World} {B n c : Nat} {ao : Option Addr} {xs : List Int} (h : OwnI w B (.slice ao n c) xs) : ao = none → c = 0 := by
  intro e
  rcases h.2 with ⟨h0, _⟩ | ⟨g, cap, cur, hv, _⟩
  · simp only [Value.slice.injEq] at h0; exact h0.2.2
  · simp only [Value.slice.injEq] at hv; rw [e] at hv; simp at hv

set_option maxRecDepth 100000 in
set_option maxHeartbeats 6400000 in
theorem weRows_any (sums : List Int) (h01 : bits01 sums) (hn : sums.length ≤ 5) (a1 : Option Addr) (c1 : Nat) : ∀ (d : Nat) (row : List Int) (sum : Int) (a2 : Option Addr) (c2 B : Nat) (w : World), row.length + d = sums.length → 0 ≤ sum ∧ sum ≤ 1 → B ≤ w.heap.size → IntsAt w a1 sums → OwnI w B (.slice a2 row.length c2) row →
    Calls Tryd.prog 102 #[.slice a1 sums.length c1, .slice a2 row.length c2, .int .i64 sum] w fun e w' => ∃ v vs, e = .returned v ∧ OwnR w' B v (rowsW sums d row sum) vs ∧ (∀ g, v.ownBlock = some g → w.heap.size ≤ g) ∧ Below w.heap.size w w' := by
  intro d
  induction d with
  | zero =>
    intro row sum a2 c2 B w hd hs hB h1 h2
    have hl : ((row.length : Int) == (sums.length : Int)) = true := by simp; omega
    have hx1 : row.length ≤ 9223372036854775807 := by omega
    have hx2 : sums.length ≤ 9223372036854775807 := by omega
    have hb1 : Below w.heap.size w (w.alloc (.cells #[.slice a2 row.length c2] 22)) := (Below.refl _ _).alloc (Nat.le_refl _) _
    have hres : OwnR (w.alloc (.cells #[.slice a2 row.length c2] 22)) B (.slice (some ⟨w.heap.size, 0, none⟩) 1 1) [row] [.slice a2 row.length c2] :=
      ⟨ownsRow_built w [.slice a2 row.length c2] hB (by simp), fun i hi => by obtain rfl : i = 0 := (by simpa using hi); exact h2.below hb1⟩
    have Hres := Lib.hid hres
    have Hb := Lib.hid hb1
    obtain ⟨r, hr⟩ : ∃ r, r = row.length := ⟨_, rfl⟩
    rw [← hr] at hl hx1 Hb Hres ⊢
    clear h1 h2 hd hb1 hres hr
    by_cases e1 : sum = 1
    · have hb : (sum == 1) = true := by simpa using e1
      have HV := Lib.hid (show rowsW sums 0 row sum = [row] by unfold rowsW; rw [if_pos e1])
      clear e1
      go_enter Tryd.func102, Tryd.ntmps102
      go_wp2
      go_ret
      exact ⟨_, _, rfl, by rw [HV.out]; exact Hres.out, fun g hg => by simp [Value.ownBlock] at hg; omega, Hb.out⟩
    · have hb : (sum == 1) = false := by simpa using e1
      have HV := Lib.hid (show rowsW sums 0 row sum = [] by unfold rowsW; rw [if_neg e1])
      clear e1
      go_enter Tryd.func102, Tryd.ntmps102
      go_wp2
      go_ret
      exact ⟨_, _, rfl, by rw [HV.out]; exact OwnR.nil _ _, fun g hg => by simp [Value.ownBlock] at hg, Below.refl _ _⟩
  | succ d ih =>
    intro row sum a2 c2 B w hd hs hB h1 h2
    have hl : ((row.length : Int) == (sums.length : Int)) = false := by simp; omega
    have hx1 : row.length ≤ 9223372036854775807 := by omega
    have hx2 : sums.length ≤ 9223372036854775807 := by omega
    have hlt : row.length < sums.length := by omega
    obtain ⟨j0, hj, hy0, hy1, hy2⟩ := info_parts Tryd.info_ints
    obtain ⟨i0, hi, hz0, hz1, hz2⟩ := info_parts Tryd.info_int
    obtain ⟨b0, o0, e0, hc0⟩ := h1 row.length hlt
    subst e0
    have hs01 := h01 row.length hlt
    obtain ⟨s, hsv⟩ : ∃ s, s = gi sums row.length := ⟨_, rfl⟩
    rw [← hsv] at hc0 hs01
    have Hd := Lib.hid hd
    have H1 := Lib.hid h1
    have H2 := Lib.hid h2
    have Hih := Lib.hid ih
    have Hsv := Lib.hid hsv
    have Hok := Lib.hid (show ∀ x : Int, okX sums row sum x ↔ (0 ≤ sum + x ∧ sum + x ≤ 1) ∧ 0 ≤ s + x ∧ s + x ≤ 1 from fun x => by unfold okX; rw [← hsv])
    have HBl := Lib.hid hB
    clear h1 h2 ih hd hsv
    go_enter Tryd.func102, Tryd.ntmps102
    go_wp2
    go_loopw [7, 8] (fun out i wr => ∃ (k : Nat) (x : Int) (vs : List Value), k ≤ 3 ∧ i = .int .i64 x ∧ x = (k : Int) - 1 ∧ OwnR wr B out (rowsP sums d row sum k) vs ∧ (∀ g, out.ownBlock = some g → w.heap.size ≤ g) ∧ Below w.heap.size w wr) (fun _ i _ => (2 - intOf i).toNat)
    case atStart => exact ⟨0, -1, [], by omega, rfl, rfl, OwnR.nil _ _, fun g hg => by simp [Value.ownBlock] at hg, Below.refl _ _⟩
    case round =>
      obtain ⟨k, x, vs, hk, rfl, hxk, hown, htop, hbr⟩ := hrel
      have hc0' := cell_below hc0 hbr
      have Hown := Lib.hid hown
      have Htop := Lib.hid htop
      have Hbr := Lib.hid hbr
      have HB := Lib.hid hbr.size
      have Hxk := Lib.hid hxk
      have hxb : -1 ≤ x ∧ x ≤ 2 := by omega
      clear hown htop hbr
      by_cases hk3 : k < 3
      · have hx1' : x ≤ 1 := by omega
        have hdx : decide (x ≤ 1) = true := by simpa using hx1'
        obtain ⟨u, hu⟩ : ∃ u, u = sum + x := ⟨_, rfl⟩
        obtain ⟨v, hv⟩ : ∃ v, v = s + x := ⟨_, rfl⟩
        obtain ⟨x', hx'⟩ : ∃ x', x' = x + 1 := ⟨_, rfl⟩
        have Hx' := Lib.hid hx'
        have hw1 : wrap64 (sum + x) = u := by rw [hu]; exact wSmall64 (by omega)
        have hw2 : wrap64 (s + x) = v := by rw [hv]; exact wSmall64 (by omega)
        have hw3 : wrap64 (x + 1) = x' := by rw [hx']; exact wSmall64 (by omega)
        have Hw3 := Lib.hid hw3
        have Hokx := Lib.hid (Hok.out x)
        rw [← hu, ← hv] at Hokx
        have Hu := Lib.hid hu
        clear hxk hu hv hx' hk hxb
        by_cases h1 : 0 ≤ u ∧ u ≤ 1
        · have H1in := Lib.hid h1
          clear h1
          go_wp2_with fail
          refine (l1In_any _ _ _ wr).mono ?_
          rintro e w2 ⟨ha, rfl⟩
          obtain rfl := ha.is H1in.out
          clear ha
          by_cases h2 : 0 ≤ v ∧ v ≤ 1
          · have H2in := Lib.hid h2
            clear h2
            have HP := Lib.hid (rowsP_yes (d := d) (k := k) (by rw [← Hxk.out]; exact Hokx.out.2 ⟨H1in.out, H2in.out⟩))
            rw [← Hxk.out, ← Hu.out] at HP
            go_wp2_with fail
            refine (l1In_any _ _ _ wr).mono ?_
            rintro e w2 ⟨ha, rfl⟩
            obtain rfl := ha.is H2in.out
            clear ha
            have Hl1 := Lib.hid (l1Own_any a2 c2 row wr (by omega) H2.out.none_cap (own_at (H2.out.below Hbr.out)))
            go_wp2_with fail
            refine Hl1.out.mono ?_
            rintro e w2 ⟨f1, rfl, hf1, hb2⟩
            obtain ⟨fa, fc, hff, _, _, _⟩ := hf1.read
            obtain ⟨fl, hfl⟩ : ∃ fl, fl = row.length := ⟨_, rfl⟩
            rw [← hfl] at hff
            subst hff
            have HF1 := Lib.hid hf1
            have Hb2 := Lib.hid hb2
            have HB2 := Lib.hid hb2.size
            have Hfl := Lib.hid hfl
            have hflb : fl ≤ 6 := by omega
            clear hf1 hb2 hfl Hl1
            go_wp2_with (at_builtin; refine wpList_append_own _ rfl _ _ 22 rfl wr.heap.size 3 i0 (.int .i64 0) 1 8 Tryd.underlying22 hi hz0 hz1 hz2 rfl (by decide) _ fl _ rfl (by have := World.ownsRow.alloc HF1.out (.cells #[.int .i64 x] 3); rw [← Hfl.out] at this; exact this) ⟨w2.heap.size, 0, none⟩ 1 1 [.int .i64 x] rfl rfl ?e1 ?e2 ?e3 ?e4 ?e5 ?_)
            case e1 => exact cell_one_new _ _ _
            case e2 => intro u hu; simp at hu; subst hu; rfl
            case e3 => unfold maxLen; omega
            case e4 => omega
            case e5 => have := HB2.out; simp; omega
            intro v' w3 hown' hgrow _
            rw [Hfl.out] at hown'
            have hput := HF1.out.snoc HB2.out hown' hgrow
            obtain ⟨ga, gc, hgg, hgc, hgc2, hgr⟩ := hput.1.read
            have h13 := Hb2.out.trans hput.2
            have hlen1 : (row ++ [x]).length = row.length + 1 := by simp
            have hor : OwnI w3 B (.slice ga (row ++ [x]).length gc) (row ++ [x]) := by rw [← hgg]; exact hput.1.base (Nat.le_trans HBl.out HB.out)
            have hrec := Hih.out (row ++ [x]) u ga gc B w3 (by have := Hd.out; rw [hlen1]; omega) H1in.out (Nat.le_trans HBl.out (Nat.le_trans HB.out h13.size)) ((H1.out.below Hbr.out).below h13) hor
            rw [hlen1] at hrec hgg
            obtain ⟨fl1, hfl1⟩ : ∃ fl1, fl1 = row.length + 1 := ⟨_, rfl⟩
            rw [← hfl1] at hgg hrec
            subst hgg
            have Hrec := Lib.hid hrec
            have Hput := Lib.hid h13
            clear hown' hgrow hput hgc hgc2 hgr hor hrec hfl1 h13 hlen1 HF1 Hb2 HB2 Hfl hflb
            go_wp2_with fail
            refine Hrec.out.mono ?_
            rintro e w4 ⟨sub, us, rfl, hsub, hst, hb4⟩
            obtain ⟨M, hM⟩ : ∃ M, M = rowsW sums d (row ++ [x]) u := ⟨_, rfl⟩
            obtain ⟨P0, hP0⟩ : ∃ P0, P0 = rowsP sums d row sum k := ⟨_, rfl⟩
            have hMl : M.length ≤ 1000000 := by rw [hM]; exact Nat.le_trans (rowsW_le _ _ _ _) (Nat.le_trans (Nat.pow_le_pow_right (by omega) (show d ≤ 5 by have := Hd.out; omega)) (by decide))
            have hPl : P0.length ≤ 1000000 := by rw [hP0]; exact Nat.le_trans (rowsP_le _ _ _ _ (by omega)) (Nat.le_trans (Nat.pow_le_pow_right (by omega) (show d + 1 ≤ 5 by have := Hd.out; omega)) (by decide))
            rw [← hM] at hsub HP
            rw [← hP0] at Hown HP
            obtain ⟨sa, sc, rfl, hs1, hs2, _⟩ := hsub.read
            have hb34 := Hput.out.trans (hb4.mono Hput.out.size)
            have Hown4 := Lib.hid (Hown.out.below hb34)
            have Hb4 := Lib.hid (Hbr.out.trans (hb34.mono HB.out))
            have HB4 := Lib.hid Hb4.out.size
            have Hsub := Lib.hid hsub
            obtain ⟨oa, oc, hoo, _, _, _⟩ := ownsRow_read Hown4.out.top
            obtain ⟨Ml, hMl2⟩ : ∃ Ml, Ml = M.length := ⟨_, rfl⟩
            obtain ⟨Pl, hPl2⟩ : ∃ Pl, Pl = P0.length := ⟨_, rfl⟩
            rw [← hPl2] at hoo hPl
            rw [← hMl2] at hMl hs1
            have HMl := Lib.hid hMl2
            have HPl := Lib.hid hPl2
            clear hsub hst hb4 hM hP0 hPl2 hb34 Hrec Hput
            subst hoo
            have Htop4 := Lib.hid (ownsRow_raise Hown4.out.top Htop.out)
            cases sa with
            | none =>
              have hM0 : M = [] := by
                rcases Hsub.out.top.2 with ⟨h1, h2⟩ | ⟨g, cap, cur, h1, _⟩
                · exact List.eq_nil_of_length_eq_zero h2
                · simp at h1
              have hsc : sc = 0 := by
                rcases Hsub.out.top.2 with ⟨h1, h2⟩ | ⟨g, cap, cur, h1, _⟩
                · simp at h1; exact h1.2
                · simp at h1
              subst hM0 hsc
              obtain rfl : Ml = 0 := by rw [hMl2]; rfl
              clear hs1 hs2 hMl hMl2 HMl
              go_wp2_with (at_builtin; refine wpList_append_own_none rfl _ _ 28 rfl w.heap.size 22 j0 1 Tryd.underlying28 hj _ _ _ rfl (by have := Htop4.out; rw [← HPl.out] at this; exact this) rfl ?_)
              go_wp2
              go_roundw
              case rel => exact ⟨k + 1, x', vs, by omega, by rw [Hw3.out], by have := Hxk.out; have := Hx'.out; omega, by rw [HP.out, List.append_nil]; exact Hown4.out, Htop.out, Hb4.out⟩
              case measure => simp [intOf]; have := Hx'.out; omega
            | some ad =>
              have Hcl := Lib.hid Hsub.out.cells
              have Hus := Lib.hid Hsub.out.len
              rw [← hMl2]
              clear hMl2 hs1 hs2
              go_wp2_with (at_builtin; refine wpList_append_own _ rfl _ _ 28 rfl w.heap.size 22 j0 (.slice none 0 0) 1 24 Tryd.underlying28 hj hy0 hy1 hy2 rfl (by decide) _ Pl vs rfl (by have := Htop4.out; rw [← HPl.out] at this; exact this) ad Ml sc us rfl ?f1 ?f2 ?f3 ?f4 ?f5 ?f6 ?_)
              case f1 => rw [Hus.out, HMl.out]; omega
              case f2 => exact Hcl.out.1
              case f3 => exact Hcl.out.2
              case f4 => unfold maxLen; omega
              case f5 => omega
              case f6 => exact HB4.out
              intro v'' w5 hown5 hgrow5 _
              have hjoin := Hown4.out.join (k := M) Hus.out Hsub.out.rows (by have := ownsRow_base hown5 HBl.out; rw [HPl.out, HMl.out] at this; exact this) hgrow5
              have hb5 : Below w.heap.size w4 w5 := Below.grown (Below.refl _ _) hgrow5 HB4.out (fun k hk => Htop.out k hk)
              have htop5 : ∀ g, v''.ownBlock = some g → w.heap.size ≤ g := fun g hg => (World.ownsRow.lt hown5 g hg).1
              have Hjoin := Lib.hid hjoin
              have Hb5 := Lib.hid (Hb4.out.trans hb5)
              have Htop5 := Lib.hid htop5
              clear hown5 hgrow5 hjoin hb5 htop5
              go_wp2
              go_roundw
              case rel => exact ⟨k + 1, x', _, by omega, by rw [Hw3.out], by have := Hxk.out; have := Hx'.out; omega, by rw [HP.out]; exact Hjoin.out, Htop5.out, Hb5.out⟩
              case measure => simp [intOf]; have := Hx'.out; omega
          · have H2in := Lib.hid h2
            clear h2
            have HP := Lib.hid (rowsP_no (d := d) (k := k) (fun h => by rw [← Hxk.out] at h; exact H2in.out (Hokx.out.1 h).2))
            go_wp2_with fail
            refine (l1In_any _ _ _ wr).mono ?_
            rintro e w2 ⟨ha, rfl⟩
            obtain rfl := ha.isnt H2in.out
            clear ha
            go_wp2
            go_roundw
            case rel => exact ⟨k + 1, x', vs, by omega, by rw [Hw3.out], by have := Hxk.out; have := Hx'.out; omega, by rw [HP.out]; exact Hown.out, Htop.out, Hbr.out⟩
            case measure => simp [intOf]; have := Hx'.out; omega
        · have H1in := Lib.hid h1
          clear h1
          have HP := Lib.hid (rowsP_no (d := d) (k := k) (fun h => by rw [← Hxk.out] at h; exact H1in.out (Hokx.out.1 h).1))
          go_wp2_with fail
          refine (l1In_any _ _ _ wr).mono ?_
          rintro e w2 ⟨ha, rfl⟩
          obtain rfl := ha.isnt H1in.out
          clear ha
          go_wp2
          go_roundw
          case rel => exact ⟨k + 1, x', vs, by omega, by rw [Hw3.out], by have := Hxk.out; have := Hx'.out; omega, by rw [HP.out]; exact Hown.out, Htop.out, Hbr.out⟩
          case measure => simp [intOf]; have := Hx'.out; omega
      · obtain rfl : k = 3 := by omega
        have hx2' : x = 2 := by omega
        subst hx2'
        clear hxk Hxk
        go_wp2
        go_ret
        exact ⟨_, vs, rfl, by rw [← rowsP_end]; exact Hown.out, Htop.out, Hbr.out⟩
end Go.Proofs.YtmkldodkpijfjaaDoor

namespace Go.Proofs.YtmkldodkpijfjaaDoor
open Go.RowKit

/-- the sum of the numbers in the first a rows and b columns -/
def S2 (m : List (List Int)) (a b : Nat) : Int := sumF (fun i => sumF (fun j => gi (gr m i) j) b) a
/-- corner sums -/
def cs (m : List (List Int)) : List (List Int) := tab m.length m.length fun i j => S2 m (i + 1) (j + 1)
theorem cs_len (m : List (List Int)) : (cs m).length = m.length := tab_len _ _ _
theorem S2_succ (m : List (List Int)) (a b : Nat) : S2 m (a + 1) b = S2 m a b + sumF (fun j => gi (gr m a) j) b := rfl
theorem bsum_take {m : List (List Int)} {a b : Nat} (ha : a ≤ m.length) : bsum (m.take a) b = S2 m a b := by
  unfold bsum S2
  rw [show (m.take a).length = a from by rw [List.length_take]; omega]
  exact sumF_congr fun i hi => by rw [gr_take hi]

theorem good.tame {m : List (List Int)} (h : good m) {cols : Nat} (hc : cols ≤ m.length) : Tame m cols := by
  have hn := h.1.2.1
  have h1 := h.1.1
  refine ⟨hn, by omega, fun i hi => ?_⟩
  have hl := h.1.2.2 i hi
  refine ⟨by omega, by omega, by omega, fun j hj => good_entry h hi (by omega)⟩
theorem Tame.take {m : List (List Int)} {cols : Nat} (h : Tame m cols) (k : Nat) : Tame (m.take k) cols := by
  refine ⟨by rw [List.length_take]; have := h.1; omega, h.2.1, fun i hi => ?_⟩
  rw [List.length_take] at hi
  rw [gr_take (by omega)]
  exact h.2.2 i (by omega)
theorem Tame.drop {m : List (List Int)} {cols : Nat} (h : Tame m cols) (k : Nat) : Tame (m.drop k) cols := by
  refine ⟨by rw [List.length_drop]; have := h.1; omega, h.2.1, fun i hi => ?_⟩
  rw [List.length_drop] at hi
  rw [gr_drop]
  exact h.2.2 (k + i) (by omega)

theorem S2_bound {m : List (List Int)} (h : good m) {a b : Nat} (ha : a ≤ m.length) (hb : b ≤ m.length) : -36 ≤ S2 m a b ∧ S2 m a b ≤ 36 := block_bound (h.tame hb) ha

end Go.Proofs.YtmkldodkpijfjaaDoor

namespace Go.Proofs.YtmkldodkpijfjaaDoor
open Go.RowKit

theorem OwnP.drewN {w : World} {B n k : Nat} {v : Value} {m : List (List Int)} {vs : List Value} (h : OwnP w B v n m k vs) (q : Nat) : OwnP (w.drewN q) B v n m k vs := ⟨h.top, h.rows, h.apart⟩
theorem OwnP.drew {w : World} {B n k : Nat} {v : Value} {m : List (List Int)} {vs : List Value} (h : OwnP w B v n m k vs) : OwnP w.drew B v n m k vs := ⟨h.top, h.rows, h.apart⟩

theorem rowsum_bound {m : List (List Int)} (h : good m) {a b : Nat} (ha : a < m.length) (hb : b ≤ m.length) : -6 ≤ sumF (fun j => gi (gr m a) j) b ∧ sumF (fun j => gi (gr m a) j) b ≤ 6 :=
  row_bound (f := fun j => gi (gr m a) j) (n := m.length) h.1.2.1 (fun _ hj => good_entry h ha hj) hb

theorem cs_small {m : List (List Int)} (h : square m) : Small (cs m) := ⟨by rw [cs_len]; have := h.2.1; omega, fun i hi => by rw [cs_len] at hi; unfold cs; rw [tab_row hi]; have := h.2.1; omega⟩
end Go.Proofs.YtmkldodkpijfjaaDoor

namespace Go.Proofs.YtmkldodkpijfjaaDoor
open Go.RowKit

/-- a number of a table, 0 beside it -/
def atC (c : List (List Int)) (i j : Int) : Int := if i < 0 then 0 else if j < 0 then 0 else gi (gr c i.toNat) j.toNat
theorem atC_nat (c : List (List Int)) (i j : Nat) : atC c (i : Int) (j : Int) = gi (gr c i) j := by
  unfold atC
  rw [if_neg (by omega), if_neg (by omega), Int.toNat_natCast, Int.toNat_natCast]

theorem cellD {w : World} {a : Addr} {v : Value} (h : w.cell? a = some v) : ({ w with drawn := w.drawn + 1 } : World).cell? a = some v := h
theorem MatAt.drewD {w : World} {ao : Option Addr} {m : List (List Int)} (h : MatAt w ao m) : MatAt { w with drawn := w.drawn + 1 } ao m := h

/-- the numbers of a table are in 0..n -/
def inRange (c : List (List Int)) : Prop := ∀ i j, i < c.length → j < c.length → 0 ≤ gi (gr c i) j ∧ gi (gr c i) j ≤ c.length

/-- differences of corner sums -/
def df (c : List (List Int)) (i j : Nat) : Int := atC c i j - atC c ((i : Int) - 1) j - atC c i ((j : Int) - 1) + atC c ((i : Int) - 1) ((j : Int) - 1)
def dm (c : List (List Int)) : List (List Int) := tab c.length c.length (df c)
theorem dm_len (c : List (List Int)) : (dm c).length = c.length := tab_len _ _ _

theorem atC_range {c : List (List Int)} (h : inRange c) {i j : Int} (hi : -1 ≤ i ∧ i < c.length) (hj : -1 ≤ j ∧ j < c.length) : 0 ≤ atC c i j ∧ atC c i j ≤ c.length := by
  unfold atC
  split
  · omega
  · split
    · omega
    · exact h i.toNat j.toNat (by omega) (by omega)

theorem w64 {n : Int} (h : -9223372036854775808 ≤ n ∧ n ≤ 9223372036854775807) : IntKind.i64.wrap n = n := by
  exact IntWalk.i64_in n h

/-- .. or not far from it -/
def inWide (c : List (List Int)) : Prop := ∀ i j, i < c.length → j < c.length → -100 ≤ gi (gr c i) j ∧ gi (gr c i) j ≤ 100
theorem atC_wide {c : List (List Int)} (h : inWide c) {i j : Int} (hi : -1 ≤ i ∧ i < c.length) (hj : -1 ≤ j ∧ j < c.length) : -100 ≤ atC c i j ∧ atC c i j ≤ 100 := by
  unfold atC
  split
  · omega
  · split
    · omega
    · exact h i.toNat j.toNat (by omega) (by omega)

end Go.Proofs.YtmkldodkpijfjaaDoor

