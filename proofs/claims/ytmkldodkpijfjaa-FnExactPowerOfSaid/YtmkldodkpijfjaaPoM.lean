/- Products of the numbers of a table by a matrix; tables. No conditions. -/
import Derived.Test.YtmkldodkpijfjaaRatM
import Derived.Test.YtmkldodkpijfjaaDiff
namespace Go.Proofs.Ytmkldodkpijfjaa
open Go.RowKit

/-- a table: 1 to 4 rows of as many numbers in 1..4 -/
def isTab (t : List (List Int)) : Prop := (1 ≤ t.length ∧ t.length ≤ 4) ∧ ∀ i, i < t.length → (gr t i).length = t.length ∧ allIn (gr t i) 1 4
/-- a number of a table as a natural one -/
def eN (t : List (List Int)) (i j : Nat) : Nat := (gi (gr t i) j).toNat
theorem eN_eq {t : List (List Int)} (h : isTab t) {i j : Nat} (hi : i < t.length) (hj : j < t.length) : gi (gr t i) j = (eN t i j : Int) ∧ 1 ≤ eN t i j ∧ eN t i j ≤ 4 := by
  obtain ⟨h1, h2⟩ := h.2 i hi
  have := h2 j (by omega)
  unfold eN
  omega
/-- the product of the numbers where the matrix has s, in the first j places of row k -/
def accN (s : Int) (m t : List (List Int)) (k : Nat) : Nat → Nat
  | 0 => 1
  | j + 1 => accN s m t k j * (if gi (gr m k) j = s then eN t k j else 1)
def accR (s : Int) (m t : List (List Int)) : Nat → Nat
  | 0 => 1
  | k + 1 => accR s m t k * accN s m t k m.length
def prd (s : Int) (m t : List (List Int)) (k j : Nat) : Nat := accR s m t k * accN s m t k j
theorem prd_zero (s : Int) (m t : List (List Int)) : prd s m t 0 0 = 1 := rfl
theorem prd_yes {s : Int} {m t : List (List Int)} {k j : Nat} (h : gi (gr m k) j = s) : prd s m t k (j + 1) = prd s m t k j * eN t k j := by
  unfold prd; rw [accN, if_pos h, Nat.mul_assoc]
theorem prd_no {s : Int} {m t : List (List Int)} {k j : Nat} (h : gi (gr m k) j ≠ s) : prd s m t k (j + 1) = prd s m t k j := by
  unfold prd; rw [accN, if_neg h, Nat.mul_one]
theorem prd_row (s : Int) (m t : List (List Int)) (k : Nat) : prd s m t k m.length = prd s m t (k + 1) 0 := by
  unfold prd; rw [accR, accN, Nat.mul_one]
theorem prd_end (s : Int) (m t : List (List Int)) : prd s m t m.length 0 = accR s m t m.length := by unfold prd; rw [accN, Nat.mul_one]
theorem accN_bd {s : Int} {m t : List (List Int)} (h : isTab t) {k : Nat} (hk : k < t.length) : ∀ {j : Nat}, j ≤ t.length → 1 ≤ accN s m t k j ∧ accN s m t k j ≤ 4 ^ j
  | 0, _ => by simp [accN]
  | j + 1, hj => by
    have ih := accN_bd (s := s) (m := m) h hk (j := j) (by omega)
    have he := (eN_eq h hk (show j < t.length by omega)).2
    rw [accN, Nat.pow_succ]
    split
    · exact ⟨Nat.mul_le_mul ih.1 he.1, Nat.mul_le_mul ih.2 he.2⟩
    · exact ⟨by omega, Nat.mul_le_mul ih.2 (by omega)⟩
theorem accR_bd {s : Int} {m t : List (List Int)} (h : isTab t) (hm : m.length = t.length) : ∀ {k : Nat}, k ≤ t.length → 1 ≤ accR s m t k ∧ accR s m t k ≤ 256 ^ k
  | 0, _ => by simp [accR]
  | k + 1, hk => by
    have ih := accR_bd (s := s) h hm (k := k) (by omega)
    have h2 := accN_bd (s := s) (m := m) h (show k < t.length by omega) (j := t.length) (Nat.le_refl _)
    have h3 : 4 ^ t.length ≤ 256 := Nat.le_trans (Nat.pow_le_pow_right (by omega) h.1.2) (by decide)
    rw [accR, hm, Nat.pow_succ]
    exact ⟨Nat.mul_le_mul ih.1 h2.1, Nat.mul_le_mul ih.2 (Nat.le_trans h2.2 h3)⟩
theorem prd_bd {s : Int} {m t : List (List Int)} (h : isTab t) (hm : m.length = t.length) {k j : Nat} (hk : k < t.length) (hj : j ≤ t.length) : 1 ≤ prd s m t k j ∧ prd s m t k j ≤ 1099511627776 := by
  have h1 := accR_bd (s := s) h hm (k := k) (by omega)
  have h2 := accN_bd (s := s) (m := m) h hk hj
  have h3 : 4 ^ j ≤ 256 := Nat.le_trans (Nat.pow_le_pow_right (by omega) (show j ≤ 4 by have := h.1.2; omega)) (by decide)
  have h4 : 256 ^ k ≤ 4294967296 := Nat.le_trans (Nat.pow_le_pow_right (by omega) (show k ≤ 4 by have := h.1.2; omega)) (by decide)
  unfold prd
  exact ⟨Nat.mul_le_mul h1.1 h2.1, Nat.le_trans (Nat.mul_le_mul (Nat.le_trans h1.2 h4) (Nat.le_trans h2.2 h3)) (by decide)⟩
theorem accR_small {s : Int} {m t : List (List Int)} (h : isTab t) (hm : m.length = t.length) : 1 ≤ accR s m t m.length ∧ accR s m t m.length ≤ 4294967296 := by
  have h1 := accR_bd (s := s) h hm (k := m.length) (by omega)
  exact ⟨h1.1, Nat.le_trans h1.2 (Nat.le_trans (Nat.pow_le_pow_right (by omega) (show m.length ≤ 4 by have := h.1.2; omega)) (by decide))⟩
/-- the ratio of both products -/
def pwR (m t : List (List Int)) : Nat × Nat := nrm (accR 1 m t m.length) (accR (-1) m t m.length)
def okPw (m t : List (List Int)) : Prop := (good m ∧ isTab t) ∧ m.length = t.length
end Go.Proofs.Ytmkldodkpijfjaa
