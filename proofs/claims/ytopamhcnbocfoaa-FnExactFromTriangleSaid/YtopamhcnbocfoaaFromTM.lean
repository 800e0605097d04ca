/- Sign matrices of triangles: plain facts. No conditions. -/
import Derived.Test.YtopamhcnbocfoaaMask
namespace Go.Proofs.Ytopamhcnbocfoaa
/-- how many of the first k numbers are j -/
def occ (xs : List Int) (j : Int) : Nat → Int
  | 0 => 0
  | k + 1 => occ xs j k + (if gi xs k = j then 1 else 0)
theorem occ_bd (xs : List Int) (j : Int) : ∀ k, 0 ≤ occ xs j k ∧ occ xs j k ≤ k
  | 0 => by simp [occ]
  | k + 1 => by have := occ_bd xs j k; simp only [occ]; split <;> omega
/-- all numbers of a triangle are at most the last one of its last row -/
theorem tri_le {t : List (List Int)} (h : isTri t) : ∀ d i, i + d + 1 = t.length → ∀ k, k ≤ i → gi (gr t i) k ≤ gi (gr t (t.length - 1)) (t.length - 1)
  | 0, i, hi, k, hk => by
    have hl := (h.2.2 i (by omega)).1
    have hr := ((isRowP_iff _).1 (h.2.2 i (by omega)).2.1).2.2
    rw [show t.length - 1 = i from by omega]
    rcases Nat.lt_or_ge k i with hki | hki
    · have hup := (up_iff _).1 hr.1
      have mono : ∀ d k, k + d < (gr t i).length → gi (gr t i) k ≤ gi (gr t i) (k + d) := by
        intro d
        induction d with
        | zero => intro k _; exact Int.le_refl _
        | succ d ih =>
          intro k hkd
          have h1 := ih k (by omega)
          have h2 := hup (k + (d + 1)) hkd (by omega)
          rw [show k + (d + 1) - 1 = k + d from by omega] at h2
          omega
      have := mono (i - k) k (by omega)
      rwa [show k + (i - k) = i from by omega] at this
    · rw [show k = i from by omega]; exact Int.le_refl _
  | d + 1, i, hi, k, hk => by
    have h1 := (h.2.2 (i + 1) (by omega)).2.2 (by omega)
    have hl := (h.2.2 i (by omega)).1
    have h2 := (h1 k (by rw [show i + 1 - 1 = i from rfl]; omega)).2
    rw [show i + 1 - 1 = i from rfl] at h2
    have h3 := tri_le h d (i + 1) (by omega) (k + 1) (by omega)
    omega
/-- 0, 1, .., n - 1 -/
def iota (n : Nat) : List Int := rng 0 ((n : Int) - 1)
theorem iota_len (n : Nat) : (iota n).length = n := by unfold iota rng; simp
theorem gi_iota {n i : Nat} (h : i < n) : gi (iota n) i = i := by
  rw [gi_lt (by rw [iota_len]; exact h)]
  simp [iota, rng]
theorem up_iota (n : Nat) : Up (iota n) := by
  rw [up_iff]
  intro k hk h0
  rw [iota_len] at hk
  rw [gi_iota hk, gi_iota (by omega)]
  omega
theorem mem_iota {n : Nat} {x : Int} : x ∈ iota n ↔ 0 ≤ x ∧ x < n := by unfold iota; rw [mem_rng]; omega
theorem mask_iota (n : Nat) : mask (iota n) = 2 ^ n - 1 := by
  apply Nat.eq_of_testBit_eq
  intro i
  rw [testBit_mask (fun x hx => (mem_iota.1 hx).1), Nat.testBit_two_pow_sub_one]
  congr 1
  rw [mem_iota]
  simp
/-- a row of n numbers is 0, 1, .. exactly if its last number is n - 1 -/
theorem row_full {xs : List Int} (h : isRowP xs) : mask xs = 2 ^ xs.length - 1 ↔ gi xs (xs.length - 1) = (xs.length : Int) - 1 := by
  obtain ⟨h1, h2, hu, hr⟩ := (isRowP_iff _).1 h
  rw [← mask_iota]
  constructor
  · intro hm
    have e := mask_inj hu (fun x hx => (hr x hx).1) (up_iota _) (fun x hx => (mem_iota.1 hx).1) hm
    generalize hn : xs.length = n at *
    rw [e, gi_iota (by omega)]
    omega
  · intro hl
    congr 1
    refine ext_gi (by rw [iota_len]) fun i hi => ?_
    rw [gi_iota hi]
    have hup := (up_iff _).1 hu
    have lo : ∀ k, k < xs.length → (k : Int) ≤ gi xs k := by
      intro k
      induction k with
      | zero => intro hk; exact (hr _ (gi_mem hk)).1
      | succ k ih =>
        intro hk
        have a := ih (by omega)
        have b := hup (k + 1) hk (by omega)
        rw [show k + 1 - 1 = k from rfl] at b
        omega
    have hi2 : ∀ d k, k + d + 1 = xs.length → gi xs k ≤ k := by
      intro d
      induction d with
      | zero => intro k hk; rw [show xs.length - 1 = k from by omega] at hl; omega
      | succ d ih =>
        intro k hk
        have a := ih (k + 1) (by omega)
        have b := hup (k + 1) (by omega) (by omega)
        rw [show k + 1 - 1 = k from rfl] at b
        omega
    have := lo i hi
    have := hi2 (xs.length - 1 - i) i (by omega)
    omega
/-- the numbers of the sign matrix of a triangle -/
def signAt (t : List (List Int)) (i j : Nat) : Int := occ (gr t i) j (gr t i).length - (if 0 < i then occ (gr t (i - 1)) j (gr t (i - 1)).length else 0)
def fromT (t : List (List Int)) : List (List Int) := (List.range t.length).map fun i => (List.range t.length).map fun j => signAt t i j
/-- a triangle whose last row is that of sign matrices -/
def fullTri (t : List (List Int)) : Prop := isTri t ∧ gi (gr t (t.length - 1)) (t.length - 1) = (t.length : Int) - 1
theorem full_lt {t : List (List Int)} (h : fullTri t) {i k : Nat} (hi : i < t.length) (hk : k < (gr t i).length) : 0 ≤ gi (gr t i) k ∧ gi (gr t i) k < t.length := by
  have hl := (h.1.2.2 i hi).1
  have := tri_le h.1 (t.length - 1 - i) i (by omega) k (by omega)
  have := ((h.1.2.2 i hi).2.1.2.2 k hk).1.1
  have := h.2
  omega
end Go.Proofs.Ytopamhcnbocfoaa
