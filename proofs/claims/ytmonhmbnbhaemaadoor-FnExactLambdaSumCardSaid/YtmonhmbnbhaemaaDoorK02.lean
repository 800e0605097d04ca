/- Parts of proofs: contracts and plain facts. Conditions: as each says. -/
import Derived.Test.YtmonhmbnbhaemaaDoorK01
namespace Go.Proofs.YtmonhmbnbhaemaaDoor
open Go.RowKit

def okX (sums row : List Int) (sum x : Int) : Prop := (0 ≤ sum + x ∧ sum + x ≤ 1) ∧ 0 ≤ gi sums row.length + x ∧ gi sums row.length + x ≤ 1
instance (sums row : List Int) (sum x : Int) : Decidable (okX sums row sum x) := by unfold okX; infer_instance
/-- the rows that go on a row: d numbers more -/
def rowsW (sums : List Int) : Nat → List Int → Int → List (List Int)
  | 0, row, sum => if sum = 1 then [row] else []
  | d + 1, row, sum => (List.range 3).flatMap fun k : Nat => if okX sums row sum ((k : Int) - 1) then rowsW sums d (row ++ [(k : Int) - 1]) (sum + ((k : Int) - 1)) else []
/-- .. up to the k-th number -/
def rowsP (sums : List Int) (d : Nat) (row : List Int) (sum : Int) (k : Nat) : List (List Int) :=
  (List.range k).flatMap fun k : Nat => if okX sums row sum ((k : Int) - 1) then rowsW sums d (row ++ [(k : Int) - 1]) (sum + ((k : Int) - 1)) else []
theorem rowsP_zero (sums : List Int) (d : Nat) (row : List Int) (sum : Int) : rowsP sums d row sum 0 = [] := rfl
theorem rowsP_yes {sums : List Int} {d : Nat} {row : List Int} {sum : Int} {k : Nat} (h : okX sums row sum ((k : Int) - 1)) : rowsP sums d row sum (k + 1) = rowsP sums d row sum k ++ rowsW sums d (row ++ [(k : Int) - 1]) (sum + ((k : Int) - 1)) := by
  unfold rowsP
  rw [List.range_succ, List.flatMap_append]
  simp [h]
theorem rowsP_no {sums : List Int} {d : Nat} {row : List Int} {sum : Int} {k : Nat} (h : ¬okX sums row sum ((k : Int) - 1)) : rowsP sums d row sum (k + 1) = rowsP sums d row sum k := by
  unfold rowsP
  rw [List.range_succ, List.flatMap_append]
  simp [h]
theorem rowsP_end (sums : List Int) (d : Nat) (row : List Int) (sum : Int) : rowsP sums d row sum 3 = rowsW sums (d + 1) row sum := rfl
theorem flatL_len {α β : Type} (g : α → List β) (B : Nat) : ∀ l : List α, (∀ x, x ∈ l → (g x).length ≤ B) → (l.flatMap g).length ≤ l.length * B
  | [], _ => by simp
  | a :: l, h => by
    have h1 := flatL_len g B l (fun x hx => h x (by simp [hx]))
    have h2 := h a (by simp)
    rw [List.flatMap_cons, List.length_append, List.length_cons, Nat.add_mul]
    omega
theorem rowsW_le (sums : List Int) : ∀ (d : Nat) (row : List Int) (sum : Int), (rowsW sums d row sum).length ≤ 3 ^ d
  | 0, row, sum => by unfold rowsW; split <;> simp
  | d + 1, row, sum => by
    rw [Nat.pow_succ, Nat.mul_comm]
    refine Nat.le_trans (flatL_len _ (3 ^ d) _ fun k _ => ?_) (by simp)
    split
    · exact rowsW_le sums d _ _
    · simp
theorem rowsP_le (sums : List Int) (d : Nat) (row : List Int) (sum : Int) {k : Nat} (hk : k ≤ 3) : (rowsP sums d row sum k).length ≤ 3 ^ (d + 1) := by
  rw [Nat.pow_succ, Nat.mul_comm]
  refine Nat.le_trans (flatL_len _ (3 ^ d) _ fun k _ => ?_) (by rw [List.length_range]; exact Nat.mul_le_mul_right _ hk)
  split
  · exact rowsW_le sums d _ _
  · simp
theorem rowsW_mem (sums : List Int) : ∀ (d : Nat) (row : List Int) (sum : Int) (r : List Int), r ∈ rowsW sums d row sum →
    r.length = row.length + d ∧ (∀ j, j < row.length → gi r j = gi row j) ∧ ∀ j, row.length ≤ j → j < row.length + d → -1 ≤ gi r j ∧ gi r j ≤ 1 ∧ 0 ≤ gi sums j + gi r j ∧ gi sums j + gi r j ≤ 1
  | 0, row, sum, r, h => by
    unfold rowsW at h
    split at h
    · simp only [List.mem_singleton] at h
      subst h
      exact ⟨rfl, fun _ _ => rfl, fun j h1 h2 => absurd h1 (by omega)⟩
    · simp at h
  | d + 1, row, sum, r, h => by
    unfold rowsW at h
    rw [List.mem_flatMap] at h
    obtain ⟨k, hk, h⟩ := h
    have hk3 : k < 3 := by simpa using hk
    split at h
    · next hok =>
      obtain ⟨h1, h2, h3⟩ := rowsW_mem sums d _ _ r h
      rw [List.length_append] at h1 h2 h3
      simp only [List.length_cons, List.length_nil] at h1 h2 h3
      have hlast : gi r row.length = (k : Int) - 1 := by
        rw [h2 row.length (by omega)]
        simp [gi, List.getD]
      refine ⟨by omega, fun j hj => ?_, fun j hj1 hj2 => ?_⟩
      · rw [h2 j (by omega)]
        simp [gi, List.getD, List.getElem?_append_left hj]
      · by_cases e : j = row.length
        · subst e
          rw [hlast]
          have := hok.2
          exact ⟨by omega, by omega, this.1, this.2⟩
        · exact h3 j (by omega) (by omega)
    · simp at h

def addL (sums row : List Int) : List Int := (List.range sums.length).map fun j => gi sums j + gi row j
theorem addL_len (sums row : List Int) : (addL sums row).length = sums.length := by simp [addL]
theorem gi_addL {sums row : List Int} {j : Nat} (h : j < sums.length) : gi (addL sums row) j = gi sums j + gi row j := gi_row h
/-- the first t sums added to -/
def addP (sums row : List Int) (t : Nat) : List Int := (List.range sums.length).map fun j => gi sums j + (if j < t then gi row j else 0)
theorem addP_len (sums row : List Int) (t : Nat) : (addP sums row t).length = sums.length := by simp [addP]
theorem gi_addP {sums row : List Int} {t j : Nat} (h : j < sums.length) : gi (addP sums row t) j = gi sums j + (if j < t then gi row j else 0) := gi_row h
theorem addP_zero (sums row : List Int) : addP sums row 0 = sums := ext_gi (addP_len _ _ _) fun j hj => by
  rw [addP_len] at hj
  rw [gi_addP hj, if_neg (by omega)]
  omega
theorem addP_end (sums row : List Int) : addP sums row sums.length = addL sums row := ext_gi (by rw [addP_len, addL_len]) fun j hj => by
  rw [addP_len] at hj
  rw [gi_addP hj, gi_addL hj, if_pos hj]
theorem addP_set {sums row : List Int} {t : Nat} (ht : t < sums.length) : (addP sums row t).set t (gi sums t + gi row t) = addP sums row (t + 1) := by
  refine ext_gi (by rw [List.length_set, addP_len, addP_len]) fun j hj => ?_
  rw [List.length_set, addP_len] at hj
  rw [gi_set (by rw [addP_len]; exact ht), gi_addP (t := t) hj, gi_addP (t := t + 1) hj]
  by_cases e : j = t
  · subst e; rw [if_pos rfl, if_pos (by omega)]
  · rw [if_neg e]
    have : (j < t + 1) = (j < t) := propext (by omega)
    simp only [this]

/-- sums of columns that are 0 or 1 -/
def bits01 (sums : List Int) : Prop := ∀ j, j < sums.length → 0 ≤ gi sums j ∧ gi sums j ≤ 1
theorem bits01.add {sums : List Int} {r : List Int} (hr : r ∈ rowsW sums sums.length [] 0) : bits01 (addL sums r) := fun j hj => by
  rw [addL_len] at hj
  obtain ⟨_, _, h3⟩ := rowsW_mem sums sums.length [] 0 r hr
  have := h3 j (by simp) (by simpa using hj)
  rw [gi_addL hj]
  exact ⟨this.2.2.1, this.2.2.2⟩
def allOne (sums : List Int) : Bool := sums.all fun x => decide (x = 1)
theorem allOne_iff {sums : List Int} : allOne sums = true ↔ ∀ j, j < sums.length → gi sums j = 1 := by
  unfold allOne
  rw [List.all_eq_true]
  constructor
  · intro h j hj
    exact of_decide_eq_true (h _ (gi_mem hj))
  · intro h x hx
    obtain ⟨i, hi, rfl⟩ := List.mem_iff_getElem.1 hx
    have := h i hi
    rw [gi_lt hi] at this
    exact decide_eq_true this
/-- the matrices that go on some rows: d rows more -/
def goW : Nat → List (List Int) → List Int → List (List (List Int))
  | 0, rows, sums => if allOne sums = true then [rows] else []
  | d + 1, rows, sums => (rowsW sums sums.length [] 0).flatMap fun row => goW d (rows ++ [row]) (addL sums row)
/-- .. up to the k-th row -/
def goP (d : Nat) (rows : List (List Int)) (sums : List Int) (k : Nat) : List (List (List Int)) := ((rowsW sums sums.length [] 0).take k).flatMap fun row => goW d (rows ++ [row]) (addL sums row)
theorem goP_zero (d : Nat) (rows : List (List Int)) (sums : List Int) : goP d rows sums 0 = [] := by simp [goP]
theorem goP_step {d : Nat} {rows : List (List Int)} {sums : List Int} {k : Nat} (h : k < (rowsW sums sums.length [] 0).length) :
    goP d rows sums (k + 1) = goP d rows sums k ++ goW d (rows ++ [gr (rowsW sums sums.length [] 0) k]) (addL sums (gr (rowsW sums sums.length [] 0) k)) := by
  unfold goP
  rw [List.take_add_one, List.flatMap_append, List.getElem?_eq_getElem h, gr_lt h]
  simp
theorem goP_end (d : Nat) (rows : List (List Int)) (sums : List Int) : goP d rows sums (rowsW sums sums.length [] 0).length = goW (d + 1) rows sums := by
  unfold goP
  rw [List.take_length]
  rfl
theorem goW_le : ∀ (d : Nat) (rows : List (List Int)) (sums : List Int), sums.length ≤ 5 → (goW d rows sums).length ≤ 243 ^ d
  | 0, rows, sums, _ => by unfold goW; split <;> simp
  | d + 1, rows, sums, h => by
    unfold goW
    rw [Nat.pow_succ, Nat.mul_comm]
    refine Nat.le_trans (flatL_len _ (243 ^ d) _ fun r _ => goW_le d _ _ (by rw [addL_len]; exact h)) (Nat.mul_le_mul_right _ ?_)
    refine Nat.le_trans (rowsW_le _ _ _ _) (Nat.le_trans (Nat.pow_le_pow_right (by omega) h) (by decide))
theorem goP_le (d : Nat) (rows : List (List Int)) (sums : List Int) (k : Nat) (h : sums.length ≤ 5) : (goP d rows sums k).length ≤ 243 ^ (d + 1) := by
  unfold goP
  rw [Nat.pow_succ, Nat.mul_comm]
  refine Nat.le_trans (flatL_len _ (243 ^ d) _ fun r _ => goW_le d _ _ (by rw [addL_len]; exact h)) (Nat.mul_le_mul_right _ ?_)
  rw [List.length_take]
  refine Nat.le_trans (Nat.min_le_right _ _) (Nat.le_trans (rowsW_le _ _ _ _) (Nat.le_trans (Nat.pow_le_pow_right (by omega) h) (by decide)))
/-- all sign matrices with n rows, in order -/
def allW (n : Nat) : List (List (List Int)) := goW n [] (List.replicate n 0)
instance (xs : List Int) : Decidable (lineOk xs) := by unfold lineOk; infer_instance
instance (m : List (List Int)) : Decidable (rowsOk m) := by unfold rowsOk; infer_instance
instance (m : List (List Int)) : Decidable (square m) := by unfold square; infer_instance
instance (m : List (List Int)) : Decidable (good m) := by unfold good; infer_instance
theorem allW_good : ∀ n, n < 5 → ∀ m, m ∈ allW n → n = 0 ∨ (m.length = n ∧ good m) := by decide +kernel
theorem allW_len : ∀ n, n < 5 → (allW n).length ≤ 42 := by decide +kernel
end Go.Proofs.YtmonhmbnbhaemaaDoor

namespace Go.Proofs.YtmonhmbnbhaemaaDoor
open Go.RowKit

/-- the sum of the first k numbers of a column -/
def colS (m : List (List Int)) (j : Nat) : Nat → Int
  | 0 => 0
  | k + 1 => colS m j k + gi (gr m k) j
theorem colS_tr {m : List (List Int)} {j : Nat} (hj : j < m.length) : ∀ k, k ≤ m.length → colS m j k = sumK (gr (tr m) j) k
  | 0, _ => rfl
  | k + 1, hk => by simp only [colS, sumK]; rw [colS_tr hj k (by omega), gi_tr hj (by omega)]
theorem colS_01 {m : List (List Int)} (h : good m) {j k : Nat} (hj : j < m.length) (hk : k ≤ m.length) : 0 ≤ colS m j k ∧ colS m j k ≤ 1 := by
  rw [colS_tr hj k hk]
  exact (h.2.2 j (by rw [tr_len]; exact hj)).1 k (by rw [tr_row hj]; exact hk)
theorem rowS_01 {m : List (List Int)} (h : good m) {i k : Nat} (hi : i < m.length) (hk : k ≤ m.length) : 0 ≤ sumK (gr m i) k ∧ sumK (gr m i) k ≤ 1 :=
  (h.2.1 i hi).1 k (by rw [h.1.2.2 i hi]; exact hk)

/-- the kind of a place by its number and the sums before and above it -/
def kdV (v before above : Int) : Int := if v = 1 then 4 else if v = -1 then 5 else 2 * before + above
def kd (m : List (List Int)) (i j : Nat) : Int := kdV (gi (gr m i) j) (sumK (gr m i) j) (colS m j i)
def kinds (m : List (List Int)) : List (List Int) := tab m.length m.length (kd m)
theorem kinds_len (m : List (List Int)) : (kinds m).length = m.length := tab_len _ _ _
theorem kinds_row {m : List (List Int)} {i : Nat} (h : i < m.length) : (gr (kinds m) i).length = m.length := tab_row h
theorem gi_kinds {m : List (List Int)} {i j : Nat} (hi : i < m.length) (hj : j < m.length) : gi (gr (kinds m) i) j = kd m i j := gi_tab hi hj
theorem kdV_range {v b a : Int} (hb : 0 ≤ b ∧ b ≤ 1) (ha : 0 ≤ a ∧ a ≤ 1) : 0 ≤ kdV v b a ∧ kdV v b a ≤ 5 := by
  unfold kdV
  split
  · omega
  · split <;> omega
theorem kd_range {m : List (List Int)} (h : good m) {i j : Nat} (hi : i < m.length) (hj : j < m.length) : 0 ≤ kd m i j ∧ kd m i j ≤ 5 :=
  kdV_range (rowS_01 h hi (by omega)) (colS_01 h hj (by omega))
theorem kinds_square {m : List (List Int)} (h : square m) : square (kinds m) :=
  ⟨by rw [kinds_len]; exact h.1, by rw [kinds_len]; exact h.2.1, fun i hi => by rw [kinds_len] at hi ⊢; exact kinds_row hi⟩

/-- the sums of the columns in the middle of row k -/
def colMid (m : List (List Int)) (k t : Nat) : List Int := (List.range m.length).map fun j => colS m j (if j < t then k + 1 else k)
theorem colMid_len (m : List (List Int)) (k t : Nat) : (colMid m k t).length = m.length := by simp [colMid]
theorem gi_colMid {m : List (List Int)} {k t j : Nat} (hj : j < m.length) : gi (colMid m k t) j = colS m j (if j < t then k + 1 else k) := gi_row hj
theorem colMid_set {m : List (List Int)} {k t : Nat} (ht : t < m.length) : (colMid m k t).set t (colS m t k + gi (gr m k) t) = colMid m k (t + 1) := by
  refine ext_gi (by rw [List.length_set, colMid_len, colMid_len]) fun j hj => ?_
  rw [List.length_set, colMid_len] at hj
  rw [gi_set (by rw [colMid_len]; exact ht), gi_colMid hj, gi_colMid hj]
  by_cases e : j = t
  · subst e; rw [if_pos rfl, if_pos (by omega), colS]
  · rw [if_neg e]
    have : (j < t + 1) = (j < t) := propext (by omega)
    simp only [this]
theorem colMid_next (m : List (List Int)) (k : Nat) : colMid m k m.length = colMid m (k + 1) 0 := by
  refine ext_gi (by rw [colMid_len, colMid_len]) fun j hj => ?_
  rw [colMid_len] at hj
  rw [gi_colMid hj, gi_colMid hj, if_pos hj, if_neg (by omega)]
theorem colMid_zero (m : List (List Int)) : colMid m 0 0 = List.replicate m.length 0 := by
  refine ext_gi (by rw [colMid_len, List.length_replicate]) fun j hj => ?_
  rw [colMid_len] at hj
  rw [gi_colMid hj, if_neg (by omega), gi_lt (by simpa using hj)]
  simp [colS]

/-- how many places of the kind q there are in the first k rows and t places more -/
def ind (x q : Int) : Int := if x = q then 1 else 0
def cntP (m : List (List Int)) (q : Int) (k t : Nat) : Int := sumF (fun a => sumF (fun b => ind (kd m a b) q) m.length) k + sumF (fun b => ind (kd m k b) q) t
def cntK (m : List (List Int)) (q : Int) : Int := sumF (fun a => sumF (fun b => ind (kd m a b) q) m.length) m.length
theorem ind_01 (x q : Int) : 0 ≤ ind x q ∧ ind x q ≤ 1 := by unfold ind; split <;> omega
theorem cntP_zero (m : List (List Int)) (q : Int) : cntP m q 0 0 = 0 := rfl
theorem cntP_step (m : List (List Int)) (q : Int) (k t : Nat) : cntP m q k (t + 1) = cntP m q k t + ind (kd m k t) q := by unfold cntP; simp only [sumF]; omega
theorem cntP_row (m : List (List Int)) (q : Int) (k : Nat) : cntP m q k m.length = cntP m q (k + 1) 0 := by unfold cntP; simp only [sumF]; omega
theorem cntP_end (m : List (List Int)) (q : Int) : cntP m q m.length 0 = cntK m q := by unfold cntP cntK; simp only [sumF]; omega
theorem sumF_01 {f : Nat → Int} : ∀ {k : Nat}, (∀ i, i < k → 0 ≤ f i ∧ f i ≤ 1) → 0 ≤ sumF f k ∧ sumF f k ≤ k
  | 0, _ => by simp [sumF]
  | k + 1, h => by
    have h1 := sumF_01 (k := k) (fun i hi => h i (by omega))
    have h2 := h k (by omega)
    simp only [sumF]
    omega
theorem cnt_rows {m : List (List Int)} (q : Int) (hm : m.length ≤ 6) : ∀ {k : Nat}, k ≤ 6 → 0 ≤ sumF (fun a => sumF (fun b => ind (kd m a b) q) m.length) k ∧ sumF (fun a => sumF (fun b => ind (kd m a b) q) m.length) k ≤ 6 * k
  | 0, _ => by simp [sumF]
  | k + 1, h => by
    have h1 := cnt_rows (m := m) q hm (k := k) (by omega)
    have h2 := sumF_01 (f := fun b => ind (kd m k b) q) (k := m.length) (fun i _ => ind_01 _ _)
    simp only [sumF]
    omega
theorem cntP_bd {m : List (List Int)} (q : Int) (hm : m.length ≤ 6) {k t : Nat} (hk : k ≤ 6) (ht : t ≤ 6) : 0 ≤ cntP m q k t ∧ cntP m q k t ≤ 42 := by
  have h1 := cnt_rows (m := m) q hm hk
  have h2 := sumF_01 (f := fun b => ind (kd m k b) q) (k := t) (fun i _ => ind_01 _ _)
  unfold cntP
  omega
theorem cntK_bd {m : List (List Int)} (q : Int) (hm : m.length ≤ 6) : 0 ≤ cntK m q ∧ cntK m q ≤ 36 := by
  have := cnt_rows (m := m) q hm hm
  unfold cntK
  omega
/-- the six counts -/
def cntL (f : Int → Int) : List Int := [f 0, f 1, f 2, f 3, f 4, f 5]
theorem cntL_gi (f : Int → Int) {k : Nat} (h : k < 6) : gi (cntL f) k = f k := by
  match k, h with
  | 0, _ => rfl
  | 1, _ => rfl
  | 2, _ => rfl
  | 3, _ => rfl
  | 4, _ => rfl
  | 5, _ => rfl
theorem cntL_len (f : Int → Int) : (cntL f).length = 6 := rfl
theorem cntL_ext {f g : Int → Int} (h : ∀ k : Nat, k < 6 → f k = g k) : cntL f = cntL g :=
  ext_gi rfl fun j hj => by rw [cntL_gi f hj, cntL_gi g hj]; exact h j hj
theorem cntL_set (f g : Int → Int) (k : Nat) (hk : k < 6) (h1 : g k = f k + 1) (h2 : ∀ j : Nat, j < 6 → j ≠ k → g j = f j) : (cntL f).set k (f k + 1) = cntL g := by
  refine ext_gi (by rw [List.length_set, cntL_len, cntL_len]) fun j hj => ?_
  rw [List.length_set, cntL_len] at hj
  rw [gi_set (by rw [cntL_len]; exact hk), cntL_gi g hj]
  by_cases e : j = k
  · subst e; rw [if_pos rfl, h1]
  · rw [if_neg e, cntL_gi f hj, h2 j hj e]

/-- the sign of a kind; the matrix that kinds tell -/
def sgK (x : Int) : Int := if x = 4 then 1 else if x = 5 then -1 else 0
def fkM (t : List (List Int)) : List (List Int) := tab t.length t.length fun i j => sgK (gi (gr t i) j)
theorem fkM_len (t : List (List Int)) : (fkM t).length = t.length := tab_len _ _ _
theorem fkM_square {t : List (List Int)} (h : square t) : square (fkM t) := ⟨by rw [fkM_len]; exact h.1, by rw [fkM_len]; exact h.2.1, fun i hi => by rw [fkM_len] at hi ⊢; exact tab_row hi⟩
theorem fkM_wf {t : List (List Int)} : WfM (fkM t) := fun i hi j hj => by
  rw [fkM_len] at hi
  unfold fkM at hj ⊢
  rw [tab_row hi] at hj
  rw [gi_tab hi hj]
  unfold sgK
  split
  · omega
  · split <;> omega
/-- kinds of a sign matrix -/
def isKinds (t : List (List Int)) : Prop := square t ∧ good (fkM t) ∧ kinds (fkM t) = t

/-- powers -/
def pw (x : Int) : Nat → Int
  | 0 => 1
  | k + 1 => pw x k * x
theorem pw_zero (x : Int) : pw x 0 = 1 := rfl
theorem pw_succ (x : Int) (k : Nat) : pw x (k + 1) = pw x k * x := rfl
theorem pw_add (x : Int) (a b : Nat) : pw x (a + b) = pw x a * pw x b := by
  induction b with
  | zero => simp [pw]
  | succ b ih => rw [Nat.add_succ, pw, pw, ih, Int.mul_assoc]
theorem pw_one (k : Nat) : pw 1 k = 1 := by
  induction k with
  | zero => rfl
  | succ k ih => rw [pw, ih]; rfl
theorem pw_nonneg {x : Int} (h : 0 ≤ x) (k : Nat) : 0 ≤ pw x k := by
  induction k with
  | zero => simp [pw]
  | succ k ih => rw [pw]; exact Int.mul_nonneg ih h
theorem sumF_const (x : Int) (k : Nat) : sumF (fun _ => x) k = k * x := by
  induction k with
  | zero => simp [sumF]
  | succ k ih => simp only [sumF]; rw [ih, show ((k + 1 : Nat) : Int) = (k : Int) + 1 from by omega, Int.add_mul, Int.one_mul]
theorem sumF_plus (f g : Nat → Int) (k : Nat) : sumF f k + sumF g k = sumF (fun i => f i + g i) k := by
  induction k with
  | zero => rfl
  | succ k ih => simp only [sumF]; omega
theorem ind_total {x : Int} (h : 0 ≤ x ∧ x ≤ 5) : ind x 0 + ind x 1 + ind x 2 + ind x 3 + ind x 4 + ind x 5 = 1 := by
  obtain ⟨k, hk⟩ : ∃ k : Nat, x = (k : Int) := ⟨x.toNat, by omega⟩
  subst hk
  obtain rfl | rfl | rfl | rfl | rfl | rfl : k = 0 ∨ k = 1 ∨ k = 2 ∨ k = 3 ∨ k = 4 ∨ k = 5 := by omega
  all_goals decide
/-- the counts of all kinds together -/
theorem cnt_total {m : List (List Int)} (h : good m) : cntK m 0 + cntK m 1 + cntK m 2 + cntK m 3 + cntK m 4 + cntK m 5 = m.length * m.length := by
  unfold cntK
  rw [sumF_plus, sumF_plus, sumF_plus, sumF_plus, sumF_plus, ← sumF_const]
  refine sumF_congr fun i hi => ?_
  rw [sumF_plus, sumF_plus, sumF_plus, sumF_plus, sumF_plus]
  rw [sumF_congr (g := fun _ => 1) fun j hj => ind_total (kd_range h hi hj), sumF_const]
  omega
/-- the count of a kind as a natural number -/
def cN (m : List (List Int)) (q : Nat) : Nat := (cntK m q).toNat
theorem cN_eq {m : List (List Int)} (hm : m.length ≤ 6) (q : Nat) : cntK m q = (cN m q : Int) := by
  have := (cntK_bd (m := m) q hm).1
  unfold cN
  omega
theorem cN_total {m : List (List Int)} (h : good m) : cN m 0 + cN m 1 + cN m 2 + cN m 3 + cN m 4 + cN m 5 = m.length * m.length := by
  have h1 := cnt_total h
  have h2 := cN_eq h.1.2.1
  have e0 : cntK m 0 = (cN m 0 : Int) := h2 0
  have e1 : cntK m 1 = (cN m 1 : Int) := h2 1
  have e2 : cntK m 2 = (cN m 2 : Int) := h2 2
  have e3 : cntK m 3 = (cN m 3 : Int) := h2 3
  have e4 : cntK m 4 = (cN m 4 : Int) := h2 4
  have e5 : cntK m 5 = (cN m 5 : Int) := h2 5
  rw [e0, e1, e2, e3, e4, e5] at h1
  have h3 : ((cN m 0 + cN m 1 + cN m 2 + cN m 3 + cN m 4 + cN m 5 : Nat) : Int) = ((m.length * m.length : Nat) : Int) := by
    rw [Int.natCast_mul]
    omega
  exact Int.ofNat.inj h3
theorem sq_le {n : Nat} (h : n ≤ 4) : n * n ≤ 16 := Nat.mul_le_mul h h
/-- the product of powers -/
def prodW (wt : Nat → Int) (c : Nat → Nat) : Nat → Int
  | 0 => 1
  | k + 1 => prodW wt c k * pw (wt k) (c k)
def sumC (c : Nat → Nat) : Nat → Nat
  | 0 => 0
  | k + 1 => sumC c k + c k
theorem sumC_mono {c : Nat → Nat} {k l : Nat} (h : k ≤ l) : sumC c k ≤ sumC c l := by
  induction l with
  | zero => obtain rfl : k = 0 := by omega
            exact Nat.le_refl _
  | succ l ih =>
    by_cases e : k = l + 1
    · subst e; exact Nat.le_refl _
    · have := ih (by omega)
      simp only [sumC]
      omega
theorem pw_le {x : Int} (h : 0 ≤ x ∧ x ≤ 10) : ∀ k, 0 ≤ pw x k ∧ pw x k ≤ pw 10 k
  | 0 => by simp [pw]
  | k + 1 => by
    have ih := pw_le h k
    rw [pw, pw]
    exact ⟨Int.mul_nonneg ih.1 h.1, Int.mul_le_mul ih.2 h.2 h.1 (Int.le_trans ih.1 ih.2)⟩
theorem pw_ten : ∀ {k l : Nat}, k ≤ l → pw 10 k ≤ pw 10 l := by
  intro k l h
  induction l with
  | zero => obtain rfl : k = 0 := by omega
            exact Int.le_refl _
  | succ l ih =>
    by_cases e : k = l + 1
    · subst e; exact Int.le_refl _
    · have := ih (by omega)
      have h2 := pw_nonneg (x := 10) (by decide) l
      rw [pw]
      omega
theorem pw_16 : pw 10 16 = 10000000000000000 := by decide +kernel
theorem pw_small {x : Int} (h : 0 ≤ x ∧ x ≤ 10) {k : Nat} (hk : k ≤ 16) : 0 ≤ pw x k ∧ pw x k ≤ 10000000000000000 := by
  have h1 := pw_le h k
  have h2 := pw_ten hk
  rw [pw_16] at h2
  omega
theorem prodW_le {wt : Nat → Int} {c : Nat → Nat} : ∀ {k : Nat}, (∀ q, q < k → 0 ≤ wt q ∧ wt q ≤ 10) → 0 ≤ prodW wt c k ∧ prodW wt c k ≤ pw 10 (sumC c k)
  | 0, _ => by simp [prodW, sumC, pw]
  | k + 1, h => by
    have ih := prodW_le (c := c) (k := k) (fun q hq => h q (by omega))
    have h1 := pw_le (h k (by omega)) (c k)
    rw [prodW, sumC, pw_add]
    exact ⟨Int.mul_nonneg ih.1 h1.1, Int.mul_le_mul ih.2 h1.2 h1.1 (Int.le_trans ih.1 ih.2)⟩
theorem prodW_small {wt : Nat → Int} {c : Nat → Nat} (h : ∀ q, q < 6 → 0 ≤ wt q ∧ wt q ≤ 10) (hc : sumC c 6 ≤ 16) {k : Nat} (hk : k ≤ 6) : 0 ≤ prodW wt c k ∧ prodW wt c k ≤ 10000000000000000 := by
  have h1 := prodW_le (wt := wt) (c := c) (k := k) (fun q hq => h q (by omega))
  have h2 := pw_ten (Nat.le_trans (sumC_mono (c := c) hk) hc)
  rw [pw_16] at h2
  omega
theorem sumC_cN {m : List (List Int)} (h : good m) (h4 : m.length ≤ 4) : sumC (cN m) 6 ≤ 16 := by
  have h1 := cN_total h
  have h2 := sq_le h4
  simp only [sumC]
  omega
end Go.Proofs.YtmonhmbnbhaemaaDoor

namespace Go.Proofs.YtmonhmbnbhaemaaDoor
open Go.RowKit

/-- 1 more at k, in a list that is made longer if need be -/
def addAt (L : List Int) (k : Nat) : List Int := (L ++ List.replicate (k + 1 - L.length) 0).set k (gi L k + 1)
def padTo (L : List Int) (t : Nat) : List Int := L ++ List.replicate t 0
theorem padTo_len (L : List Int) (t : Nat) : (padTo L t).length = L.length + t := by simp [padTo]
theorem padTo_zero (L : List Int) : padTo L 0 = L := by simp [padTo]
theorem padTo_succ (L : List Int) (t : Nat) : padTo L (t + 1) = padTo L t ++ [0] := by
  unfold padTo
  rw [List.replicate_succ', List.append_assoc]
theorem gi_padTo (L : List Int) (t k : Nat) : gi (padTo L t) k = gi L k := by
  unfold padTo gi
  by_cases h : k < L.length
  · simp [List.getD, List.getElem?_append_left h]
  · have h1 : L.length ≤ k := by omega
    simp only [List.getD]
    rw [List.getElem?_append_right h1, List.getElem?_eq_none h1]
    by_cases h2 : k - L.length < t
    · rw [List.getElem?_replicate, if_pos h2]; rfl
    · rw [List.getElem?_eq_none (by simp; omega)]
theorem addAt_of {L : List Int} {k t : Nat} (h : L.length + t = max L.length (k + 1)) : (padTo L t).set k (gi L k + 1) = addAt L k := by
  unfold addAt
  rw [show k + 1 - L.length = t by omega]
  rfl
def fMin (m : List (List Int)) : Nat := (mcount m).toNat
def invW (m : List (List Int)) : Int := cntK m 0 + cntK m 5
def fInv (m : List (List Int)) : Nat := (invW m).toNat
def tabW (f : List (List Int) → Nat) (ts : List (List (List Int))) : List Int := ts.foldl (fun L m => addAt L (f m)) []
theorem tabW_step (f : List (List Int) → Nat) (ts : List (List (List Int))) {k : Nat} (h : k < ts.length) : tabW f (ts.take (k + 1)) = addAt (tabW f (ts.take k)) (f (ts.getD k [])) := by
  unfold tabW
  rw [List.take_add_one, List.foldl_append, List.getElem?_eq_getElem h]
  simp [List.getD, h]
def okA (L : List Int) : Bool := decide (L.length ≤ 100) && L.all fun x => decide (0 ≤ x) && decide (x ≤ 100)
theorem okA_at {L : List Int} (h : okA L = true) : L.length ≤ 100 ∧ ∀ k, 0 ≤ gi L k ∧ gi L k ≤ 100 := by
  unfold okA at h
  simp only [Bool.and_eq_true, decide_eq_true_eq, List.all_eq_true] at h
  refine ⟨h.1, fun k => ?_⟩
  by_cases hk : k < L.length
  · have := h.2 _ (gi_mem hk)
    exact this
  · unfold gi
    rw [List.getD, List.getElem?_eq_none (by omega)]
    simp
theorem tab_ok : ∀ n, n < 5 → ∀ k, k < (allW n).length + 1 → okA (tabW fMin ((allW n).take k)) = true ∧ okA (tabW fInv ((allW n).take k)) = true := by decide +kernel
theorem tab_okF {n : Int} (h : 1 ≤ n ∧ n ≤ 4) : okA (tabW fMin (allW n.toNat)) = true ∧ okA (tabW fInv (allW n.toNat)) = true := by
  have := tab_ok n.toNat (by omega) (allW n.toNat).length (by omega)
  rwa [List.take_length] at this
theorem okA_small {p : Prop} (_ : p) (L : List Int) (h : okA L = true) : L.length ≤ 1048576 := by
  have := (okA_at h).1
  omega
theorem f_ok : ∀ n, n < 5 → ∀ m, m ∈ allW n → (mcount m = (fMin m : Int) ∧ fMin m < 100) ∧ invW m = (fInv m : Int) ∧ fInv m < 100 := by decide +kernel
end Go.Proofs.YtmonhmbnbhaemaaDoor

namespace Go.Proofs.YtmonhmbnbhaemaaDoor
open Go.RowKit

theorem Tryd.info_intssW : (Tryd.prog.info? 22).map (fun i => (i.zero, i.size, i.bytes)) = some (some (.slice none 0 0), 1, 24) := by kernel_rfl
/-- the table at an index -/
def gt (ts : List (List (List Int))) (i : Nat) : List (List Int) := ts.getD i []
theorem gt_lt {ts : List (List (List Int))} {i : Nat} (h : i < ts.length) : gt ts i = ts[i] := by simp [gt, List.getD, h]
theorem gt_mem {ts : List (List (List Int))} {i : Nat} (h : i < ts.length) : gt ts i ∈ ts := by rw [gt_lt h]; exact List.getElem_mem _
theorem gt_app_left {a b : List (List (List Int))} {i : Nat} (h : i < a.length) : gt (a ++ b) i = gt a i := by
  rw [gt_lt (by simp; omega), gt_lt h, List.getElem_append_left h]
theorem gt_app_right {a b : List (List (List Int))} {i : Nat} (h : i < b.length) : gt (a ++ b) (a.length + i) = gt b i := by
  rw [gt_lt (by simp; omega), gt_lt h, List.getElem_append_right (by omega)]
  simp
theorem gr_app_left {a b : List (List Int)} {i : Nat} (h : i < a.length) : gr (a ++ b) i = gr a i := by
  rw [gr_lt (by simp; omega), gr_lt h, List.getElem_append_left h]
theorem gr_app_right {a b : List (List Int)} {i : Nat} (h : i < b.length) : gr (a ++ b) (a.length + i) = gr b i := by
  rw [gr_lt (by simp; omega), gr_lt h, List.getElem_append_right (by omega)]
  simp
theorem getD_left {a b : List Value} {i : Nat} (h : i < a.length) : (a ++ b).getD i undef = a.getD i undef := by
  simp only [List.getD]; rw [List.getElem?_append_left h]
theorem getD_right {a b : List Value} {i : Nat} (h : a.length ≤ i) : (a ++ b).getD i undef = b.getD (i - a.length) undef := by
  simp only [List.getD]; rw [List.getElem?_append_right h]

theorem row_apart {w : World} {B B' n n' : Nat} {e e' : TypeId} {x v : Value} {xs ys : List Value} (h : w.ownsRow B e 1 x n xs) (k : w.ownsRow B' e' 1 v n' ys) (hne : e ≠ e') : ∀ g, x.ownBlock = some g → v.ownBlock ≠ some g := by
  intro g hg hv
  rcases h.2 with ⟨rfl, _⟩ | ⟨g1, cap1, cur1, rfl, _, h1, _⟩
  · simp [Value.ownBlock] at hg
  rcases k.2 with ⟨rfl, _⟩ | ⟨g2, cap2, cur2, rfl, _, h2, _⟩
  · simp [Value.ownBlock] at hv
  simp only [Value.ownBlock, Option.some.injEq] at hg hv
  subst hg hv
  rw [h1] at h2
  simp only [Option.some.injEq, Obj.cells.injEq] at h2
  exact hne h2.2.1
/-- what a slice of other elements than the one that grows owns is kept -/
theorem row_kept {w w1 : World} {B B' n n' : Nat} {e e' : TypeId} {x v : Value} {xs ys : List Value} (h : w.ownsRow B e 1 x n xs) (k : w.ownsRow B' e' 1 v n' ys) (hne : e ≠ e') (hg : w.grownBy w1 v.ownBlock) : w1.ownsRow B e 1 x n xs := by
  refine World.ownsRow.kept h hg ?_
  cases hb : x.ownBlock with
  | none => exact .inl rfl
  | some g => exact .inr (fun e' => row_apart h k hne g hb e'.symm)

/-- a slice of rows, each owned -/
structure OwnR (w : World) (B : Nat) (v : Value) (m : List (List Int)) (vs : List Value) : Prop where
  top : w.ownsRow B 33 1 v m.length vs
  rows : ∀ i, i < m.length → OwnI w B (vs.getD i undef) (gr m i)
theorem OwnR.below {w w' : World} {B : Nat} {v : Value} {m : List (List Int)} {vs : List Value} (h : OwnR w B v m vs) (hb : Below w.heap.size w w') : OwnR w' B v m vs := ⟨ownsRow_below h.top hb, fun i hi => (h.rows i hi).below hb⟩
theorem OwnR.base {w : World} {B B' : Nat} {v : Value} {m : List (List Int)} {vs : List Value} (h : OwnR w B v m vs) (hB : B' ≤ B) : OwnR w B' v m vs := ⟨ownsRow_base h.top hB, fun i hi => (h.rows i hi).base hB⟩
theorem OwnR.nil (w : World) (B : Nat) : OwnR w B (.slice none 0 0) [] [] := ⟨World.ownsRow_nil _ _ _ _, fun i hi => absurd hi (by simp)⟩
theorem OwnR.len {w : World} {B : Nat} {v : Value} {m : List (List Int)} {vs : List Value} (h : OwnR w B v m vs) : vs.length = m.length := by simpa using h.top.1
theorem OwnR.read {w : World} {B : Nat} {v : Value} {m : List (List Int)} {vs : List Value} (h : OwnR w B v m vs) : ∃ ao c, v = .slice ao m.length c ∧ m.length ≤ c ∧ c ≤ 9223372036854775807 ∧ MatAt w ao m := by
  obtain ⟨ao, c, hv, h1, h2, hc⟩ := ownsRow_read h.top
  refine ⟨ao, c, hv, h1, h2, fun i hi => ?_⟩
  obtain ⟨b, o, e, hcell⟩ := hc i hi
  obtain ⟨r, c', hr, h3, h4, hx⟩ := (h.rows i hi).read
  exact ⟨b, o, r, c', e, by rw [hcell, hr], hx, h3, h4⟩
theorem OwnP.toR {w : World} {B : Nat} {v : Value} {m : List (List Int)} {vs : List Value} (h : OwnP w B v m.length m m.length vs) : OwnR w B v m vs := ⟨h.top, h.rows⟩
theorem OwnR.kept {w w1 : World} {B B' n' : Nat} {x v : Value} {m : List (List Int)} {vs ys : List Value} {e' : TypeId} (h : OwnR w B x m vs) (k : w.ownsRow B' e' 1 v n' ys) (h1 : 33 ≠ e') (h2 : 3 ≠ e') (hg : w.grownBy w1 v.ownBlock) : OwnR w1 B x m vs :=
  ⟨row_kept h.top k h1 hg, fun i hi => row_kept (h.rows i hi) k h2 hg⟩
/-- rows put behind -/
theorem OwnR.join {w w1 : World} {B : Nat} {v v' : Value} {m k : List (List Int)} {vs us : List Value} (h : OwnR w B v m vs) (hl : us.length = k.length) (hk : ∀ i, i < k.length → OwnI w B (us.getD i undef) (gr k i))
    (h1 : w1.ownsRow B 33 1 v' (m.length + k.length) (vs ++ us)) (hg : w.grownBy w1 v.ownBlock) : OwnR w1 B v' (m ++ k) (vs ++ us) := by
  refine ⟨by rw [List.length_append]; exact h1, fun i hi => ?_⟩
  rw [List.length_append] at hi
  have hvl := h.len
  by_cases hi2 : i < m.length
  · rw [getD_left (by omega), gr_app_left hi2]
    exact row_kept (h.rows i hi2) h.top (by decide) hg
  · obtain ⟨j, rfl⟩ : ∃ j, i = m.length + j := ⟨i - m.length, by omega⟩
    rw [getD_right (by omega), hvl, show m.length + j - m.length = j from by omega, gr_app_right (by omega)]
    exact row_kept (hk j (by omega)) h.top (by decide) hg
theorem OwnR.cells {w : World} {B n c : Nat} {ad : Addr} {m : List (List Int)} {vs : List Value} (h : OwnR w B (.slice (some ad) n c) m vs) : (∀ j u, vs[j]? = some u → w.cell? (ad.add j) = some u) ∧ (∀ u ∈ vs, u.oneCell' = true) := by
  have hl := h.len
  obtain ⟨ao, c', e, _, _, hc⟩ := ownsRow_read h.top
  cases e
  refine ⟨fun j u hj => ?_, fun u hu => ?_⟩
  · have hjl : j < vs.length := (List.getElem?_eq_some_iff.1 hj).1
    obtain ⟨b3, o3, e3, hc3⟩ := hc j (by omega)
    cases e3
    rw [Addr.add_lit, hc3, List.getD, hj]
    rfl
  · obtain ⟨i, hi, rfl⟩ := List.mem_iff_getElem.1 hu
    have := (h.rows i (by omega)).read
    rw [List.getD, List.getElem?_eq_getElem hi] at this
    obtain ⟨_, _, e, _⟩ := this
    rw [show vs[i] = (some vs[i]).getD undef from rfl, e]
    rfl

/-- a list of such tables -/
structure OwnRL (w : World) (B : Nat) (v : Value) (ts : List (List (List Int))) (vs : List Value) : Prop where
  top : w.ownsRow B 22 1 v ts.length vs
  each : ∀ i, i < ts.length → ∃ us, OwnR w B (vs.getD i undef) (gt ts i) us
theorem OwnRL.below {w w' : World} {B : Nat} {v : Value} {ts : List (List (List Int))} {vs : List Value} (h : OwnRL w B v ts vs) (hb : Below w.heap.size w w') : OwnRL w' B v ts vs := ⟨ownsRow_below h.top hb, fun i hi => ⟨_, (h.each i hi).choose_spec.below hb⟩⟩
theorem OwnRL.base {w : World} {B B' : Nat} {v : Value} {ts : List (List (List Int))} {vs : List Value} (h : OwnRL w B v ts vs) (hB : B' ≤ B) : OwnRL w B' v ts vs := ⟨ownsRow_base h.top hB, fun i hi => ⟨_, (h.each i hi).choose_spec.base hB⟩⟩
theorem OwnRL.nil (w : World) (B : Nat) : OwnRL w B (.slice none 0 0) [] [] := ⟨World.ownsRow_nil _ _ _ _, fun i hi => absurd hi (by simp)⟩
theorem OwnRL.len {w : World} {B : Nat} {v : Value} {ts : List (List (List Int))} {vs : List Value} (h : OwnRL w B v ts vs) : vs.length = ts.length := by simpa using h.top.1
theorem OwnRL.head {w : World} {B : Nat} {v : Value} {ts : List (List (List Int))} {vs : List Value} (h : OwnRL w B v ts vs) : ∃ ao c, v = .slice ao ts.length c ∧ ts.length ≤ c ∧ c ≤ 9223372036854775807 := by
  obtain ⟨ao, c, e, h1, h2, _⟩ := ownsRow_read h.top
  exact ⟨ao, c, e, h1, h2⟩
/-- tables put behind -/
theorem OwnRL.join {w w1 : World} {B : Nat} {v v' : Value} {ts ks : List (List (List Int))} {vs us : List Value} (h : OwnRL w B v ts vs) (hl : us.length = ks.length) (hk : ∀ i, i < ks.length → ∃ xs, OwnR w B (us.getD i undef) (gt ks i) xs)
    (h1 : w1.ownsRow B 22 1 v' (ts.length + ks.length) (vs ++ us)) (hg : w.grownBy w1 v.ownBlock) : OwnRL w1 B v' (ts ++ ks) (vs ++ us) := by
  refine ⟨by rw [List.length_append]; exact h1, fun i hi => ?_⟩
  rw [List.length_append] at hi
  have hvl := h.len
  by_cases hi2 : i < ts.length
  · rw [getD_left (by omega), gt_app_left hi2]
    obtain ⟨xs, hx⟩ := h.each i hi2
    exact ⟨xs, hx.kept h.top (by decide) (by decide) hg⟩
  · obtain ⟨j, rfl⟩ : ∃ j, i = ts.length + j := ⟨i - ts.length, by omega⟩
    rw [getD_right (by omega), hvl, show ts.length + j - ts.length = j from by omega, gt_app_right (by omega)]
    obtain ⟨xs, hx⟩ := hk j (by omega)
    exact ⟨xs, hx.kept h.top (by decide) (by decide) hg⟩
theorem OwnRL.cells {w : World} {B n c : Nat} {ad : Addr} {ts : List (List (List Int))} {vs : List Value} (h : OwnRL w B (.slice (some ad) n c) ts vs) : (∀ j u, vs[j]? = some u → w.cell? (ad.add j) = some u) ∧ (∀ u ∈ vs, u.oneCell' = true) := by
  have hl := h.len
  obtain ⟨ao, c', e, _, _, hc⟩ := ownsRow_read h.top
  cases e
  refine ⟨fun j u hj => ?_, fun u hu => ?_⟩
  · have hjl : j < vs.length := (List.getElem?_eq_some_iff.1 hj).1
    obtain ⟨b3, o3, e3, hc3⟩ := hc j (by omega)
    cases e3
    rw [Addr.add_lit, hc3, List.getD, hj]
    rfl
  · obtain ⟨i, hi, rfl⟩ := List.mem_iff_getElem.1 hu
    obtain ⟨_, hx⟩ := h.each i (by omega)
    have := hx.read
    rw [List.getD, List.getElem?_eq_getElem hi] at this
    obtain ⟨_, _, e, _⟩ := this
    rw [show vs[i] = (some vs[i]).getD undef from rfl, e]
    rfl
/-- reading one of the tables -/
theorem OwnRL.at {w : World} {B n c : Nat} {ao : Option Addr} {ts : List (List (List Int))} {vs : List Value} (h : OwnRL w B (.slice ao n c) ts vs) {i : Nat} (hi : i < ts.length) :
    ∃ b o r d, ao = some ⟨b, o, none⟩ ∧ w.cell? ⟨b, o + i, none⟩ = some (.slice r (gt ts i).length d) ∧ MatAt w r (gt ts i) ∧ (gt ts i).length ≤ d ∧ d ≤ 9223372036854775807 := by
  obtain ⟨ao', c', e, _, _, hc⟩ := ownsRow_read h.top
  cases e
  obtain ⟨b, o, e, hcell⟩ := hc i hi
  obtain ⟨us, hx⟩ := h.each i hi
  obtain ⟨r, d, hr, h3, h4, hm⟩ := hx.read
  exact ⟨b, o, r, d, e, by rw [hcell, hr], hm, h3, h4⟩
end Go.Proofs.YtmonhmbnbhaemaaDoor

namespace Go.Proofs.YtmonhmbnbhaemaaDoor
open Go.RowKit

/-- how many of the first j places of row k hold s; of the first k rows -/
def cntS (s : Int) (m : List (List Int)) (k : Nat) : Nat → Nat
  | 0 => 0
  | j + 1 => cntS s m k j + if gi (gr m k) j = s then 1 else 0
def cntT (s : Int) (m : List (List Int)) : Nat → Nat
  | 0 => 0
  | k + 1 => cntT s m k + cntS s m k m.length
theorem dvd_twelve {e : Nat} (h : 1 ≤ e ∧ e ≤ 4) : e ∣ 12 := by
  have : e = 1 ∨ e = 2 ∨ e = 3 ∨ e = 4 := by omega
  rcases this with rfl | rfl | rfl | rfl <;> decide
theorem accN_four {s : Int} {m t : List (List Int)} (h : isTab t) {k : Nat} (hk : k < t.length) : ∀ {j : Nat}, j ≤ t.length → accN s m t k j ≤ 4 ^ cntS s m k j ∧ accN s m t k j ∣ 12 ^ cntS s m k j
  | 0, _ => by simp [accN, cntS]
  | j + 1, hj => by
    have ih := accN_four (s := s) (m := m) h hk (j := j) (by omega)
    have he := (eN_eq h hk (show j < t.length by omega)).2
    rw [accN, cntS]
    by_cases e : gi (gr m k) j = s
    · rw [if_pos e, if_pos e, Nat.pow_succ, Nat.pow_succ]
      exact ⟨Nat.mul_le_mul ih.1 he.2, Nat.mul_dvd_mul ih.2 (dvd_twelve he)⟩
    · rw [if_neg e, if_neg e, Nat.mul_one, Nat.add_zero]
      exact ih
theorem accR_four {s : Int} {m t : List (List Int)} (h : isTab t) (hm : m.length = t.length) : ∀ {k : Nat}, k ≤ t.length → accR s m t k ≤ 4 ^ cntT s m k ∧ accR s m t k ∣ 12 ^ cntT s m k
  | 0, _ => by simp [accR, cntT]
  | k + 1, hk => by
    have ih := accR_four (s := s) h hm (k := k) (by omega)
    have h2 := accN_four (s := s) (m := m) h (show k < t.length by omega) (j := m.length) (by omega)
    rw [accR, cntT, Nat.pow_add, Nat.pow_add]
    exact ⟨Nat.mul_le_mul ih.1 h2.1, Nat.mul_dvd_mul ih.2 h2.2⟩
theorem c_ok : ∀ n, n < 5 → ∀ m, m ∈ allW n → cntT 1 m m.length ≤ 6 ∧ cntT (-1) m m.length ≤ 2 ∧ cN m 0 + cN m 5 ≤ 6 := by decide +kernel

/-- what a matrix is worth by its kinds 0 and 5 -/
def lamV (lam : Nat) (m : List (List Int)) : Nat := lam ^ cN m 0 * (1 + lam) ^ cN m 5
theorem lamV_le {lam : Nat} {m : List (List Int)} (h : lam ≤ 3) (hc : cN m 0 + cN m 5 ≤ 6) : lamV lam m ≤ 4096 := by
  have h1 : lam ^ cN m 0 ≤ 4 ^ cN m 0 := Nat.pow_le_pow_left (by omega) _
  have h2 : (1 + lam) ^ cN m 5 ≤ 4 ^ cN m 5 := Nat.pow_le_pow_left (by omega) _
  have h3 : 4 ^ (cN m 0 + cN m 5) ≤ 4 ^ 6 := Nat.pow_le_pow_right (by omega) hc
  rw [Nat.pow_add] at h3
  exact Nat.le_trans (Nat.mul_le_mul h1 h2) (Nat.le_trans h3 (by decide))
theorem pw_nat (x : Nat) : ∀ k, pw (x : Int) k = ((x ^ k : Nat) : Int)
  | 0 => rfl
  | k + 1 => by rw [pw_succ, pw_nat x k, Nat.pow_succ]; simp
theorem lamV_eq (lam : Nat) (m : List (List Int)) : pw (lam : Int) (cN m 0) * pw (1 + (lam : Int)) (cN m 5) = (lamV lam m : Int) := by
  rw [show (1 : Int) + (lam : Int) = ((1 + lam : Nat) : Int) by omega, pw_nat, pw_nat]
  unfold lamV
  simp

theorem pl_add {S X D e : Nat} (hD : 0 < D) (he : 144 = D * e) : pl (nrm S 144) (nrm X D) = nrm (S + X * e) 144 := by
  obtain ⟨g1, p1, q1, c1⟩ := nrm_parts (p := S) (q := 144) (by omega)
  obtain ⟨g2, p2, q2, c2⟩ := nrm_parts (p := X) hD
  obtain ⟨g, hg⟩ : ∃ g, g = Nat.gcd S 144 := ⟨_, rfl⟩
  obtain ⟨h, hh⟩ : ∃ h, h = Nat.gcd X D := ⟨_, rfl⟩
  obtain ⟨⟨a, b⟩, hx⟩ : ∃ x, x = nrm S 144 := ⟨_, rfl⟩
  obtain ⟨⟨c, d⟩, hy⟩ : ∃ y, y = nrm X D := ⟨_, rfl⟩
  rw [← hg] at g1 p1 q1
  rw [← hh] at g2 p2 q2
  rw [← hx] at p1 q1 ⊢
  rw [← hy] at p2 q2 ⊢
  simp only at p1 q1 p2 q2
  have he0 : 0 < e := by rcases Nat.eq_zero_or_pos e with h0 | h0; · rw [h0] at he; omega
                         · exact h0
  have hk : 0 < g * (h * e) := Nat.mul_pos g1 (Nat.mul_pos g2 he0)
  have hde : h * d * e = 144 := by rw [← q2]; exact he.symm
  have e1 : g * (h * e) * (a * d + c * b) = 144 * (S + X * e) := by
    have t1 : g * (h * e) * (a * d) = 144 * S := by
      rw [show g * (h * e) * (a * d) = (h * d * e) * (g * a) by simp [Nat.mul_assoc, Nat.mul_left_comm, Nat.mul_comm], hde, ← p1]
    have t2 : g * (h * e) * (c * b) = 144 * (X * e) := by
      rw [show g * (h * e) * (c * b) = (g * b) * ((h * c) * e) by simp [Nat.mul_assoc, Nat.mul_left_comm, Nat.mul_comm], ← q1, ← p2]
    rw [Nat.mul_add, Nat.mul_add, t1, t2]
  have e2 : g * (h * e) * (b * d) = 144 * 144 := by
    rw [show g * (h * e) * (b * d) = (g * b) * (h * d * e) by simp [Nat.mul_assoc, Nat.mul_left_comm, Nat.mul_comm], hde, ← q1]
  unfold pl
  simp only
  rw [← nrm_mul hk (a * d + c * b) (b * d), e1, e2, nrm_mul (by omega)]
theorem tm_left {p q : Nat} (hq : 0 < q) (x : Nat) : tm (x, 1) (nrm p q) = nrm (x * p) q := by
  have h := tm_whole (p := p) hq x
  rw [Nat.mul_comm x p, ← h]
  unfold tm
  simp only
  rw [Nat.mul_comm x, Nat.one_mul, Nat.mul_one]

/-- the sum over the first k matrices -/
def lamR (lam : Nat) (t : List (List Int)) (A : List (List (List Int))) : Nat → Nat × Nat
  | 0 => (0, 1)
  | k + 1 => pl (lamR lam t A k) (tm (lamV lam (gt A k), 1) (pwR (gt A k) t))
def lamOk (m t : List (List Int)) : Prop := m.length = t.length ∧ cntT 1 m m.length ≤ 6 ∧ cntT (-1) m m.length ≤ 2 ∧ cN m 0 + cN m 5 ≤ 6
theorem allW_lamOk {t : List (List Int)} (h : isTab t) : ∀ m, m ∈ allW t.length → good m ∧ lamOk m t := fun m hm => by
  have h1 := h.1
  obtain ⟨a, b⟩ := (allW_good t.length (by omega) m hm).resolve_left (by omega)
  exact ⟨b, a, c_ok t.length (by omega) m hm⟩
/-- the two products of one matrix -/
theorem lam_one {m t : List (List Int)} (h : isTab t) (ho : lamOk m t) : accR 1 m t m.length ≤ 4096 ∧ ∃ e, 144 = accR (-1) m t m.length * e ∧ 0 < accR (-1) m t m.length ∧ accR (-1) m t m.length ≤ 144 ∧ e ≤ 144 := by
  obtain ⟨hm, c1, c2, _⟩ := ho
  have h1 := (accR_four (s := 1) h hm (k := m.length) (by omega)).1
  have h2 := (accR_four (s := -1) h hm (k := m.length) (by omega)).2
  have h3 := (accR_small (s := -1) h hm).1
  have h4 : 4 ^ cntT 1 m m.length ≤ 4 ^ 6 := Nat.pow_le_pow_right (by omega) c1
  have h5 : (12 : Nat) ^ cntT (-1) m m.length ∣ 12 ^ 2 := Nat.pow_dvd_pow 12 c2
  obtain ⟨e, he⟩ := Nat.dvd_trans h2 h5
  obtain ⟨D, hD⟩ : ∃ D, D = accR (-1) m t m.length := ⟨_, rfl⟩
  rw [← hD] at he h3 ⊢
  have he2 : 144 = D * e := he
  refine ⟨Nat.le_trans h1 (Nat.le_trans h4 (by decide)), e, he2, h3, ?_, ?_⟩
  · exact Nat.le_of_dvd (by omega) ⟨e, he2⟩
  · exact Nat.le_of_dvd (by omega) ⟨D, by rw [he2, Nat.mul_comm]⟩
theorem lam_inv {lam : Nat} {t : List (List Int)} {A : List (List (List Int))} (h : isTab t) (hl : lam ≤ 3) (hA : ∀ m, m ∈ A → lamOk m t) : ∀ k, k ≤ A.length → ∃ S, lamR lam t A k = nrm S 144 ∧ S ≤ k * 2415919104
  | 0, _ => ⟨0, by simp [lamR, nrm], Nat.zero_le _⟩
  | k + 1, hk => by
    obtain ⟨S, hS, hb⟩ := lam_inv h hl hA k (by omega)
    have ho := hA _ (gt_mem (show k < A.length by omega))
    obtain ⟨hN, e, he, hD, _, he4⟩ := lam_one h ho
    have hv := lamV_le hl ho.2.2.2
    rw [lamR, hS]
    unfold pwR
    rw [tm_left hD, pl_add hD he]
    refine ⟨_, rfl, ?_⟩
    have h1 := Nat.mul_le_mul (Nat.mul_le_mul hv hN) he4
    rw [show 4096 * 4096 * 144 = 2415919104 from rfl] at h1
    omega
/-- what is added, and what it is added to -/
theorem lam_step {lam : Nat} {t : List (List Int)} {A : List (List (List Int))} (h : isTab t) (hl : lam ≤ 3) (hA : ∀ m, m ∈ A → lamOk m t) (hn : A.length ≤ 42) {k : Nat} (hk : k < A.length) :
    (Cop (lamR lam t A k) ∧ (lamR lam t A k).1 ≤ 101468602368 ∧ (lamR lam t A k).2 ≤ 144) ∧ (Cop (pwR (gt A k) t) ∧ (pwR (gt A k) t).1 ≤ 4096 ∧ (pwR (gt A k) t).2 ≤ 144) ∧ lamV lam (gt A k) ≤ 4096
      ∧ (Cop (tm (lamV lam (gt A k), 1) (pwR (gt A k) t)) ∧ (tm (lamV lam (gt A k), 1) (pwR (gt A k) t)).1 ≤ 16777216 ∧ (tm (lamV lam (gt A k), 1) (pwR (gt A k) t)).2 ≤ 144) := by
  obtain ⟨S, hS, hb⟩ := lam_inv h hl hA k (by omega)
  have ho := hA _ (gt_mem hk)
  obtain ⟨hN, e, he, hD, hD4, _⟩ := lam_one h ho
  have hv := lamV_le hl ho.2.2.2
  have hb2 := Nat.mul_le_mul (show k ≤ 42 by omega) (Nat.le_refl 2415919104)
  rw [hS]
  have l1 := nrm_le S 144
  have l2 := nrm_le (accR 1 (gt A k) t (gt A k).length) (accR (-1) (gt A k) t (gt A k).length)
  have l3 := nrm_le (lamV lam (gt A k) * accR 1 (gt A k) t (gt A k).length) (accR (-1) (gt A k) t (gt A k).length)
  have l4 := Nat.mul_le_mul hv hN
  refine ⟨⟨nrm_cop (by omega), by omega, l1.2⟩, ⟨nrm_cop hD, Nat.le_trans l2.1 hN, Nat.le_trans l2.2 hD4⟩, hv, ?_⟩
  unfold pwR
  rw [tm_left hD]
  exact ⟨nrm_cop hD, Nat.le_trans l3.1 l4, Nat.le_trans l3.2 hD4⟩
end Go.Proofs.YtmonhmbnbhaemaaDoor

