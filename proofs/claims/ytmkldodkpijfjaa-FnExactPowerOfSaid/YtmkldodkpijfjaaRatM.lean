/- Ratios without a common divisor. No conditions: plain facts on natural numbers. -/
import Derived.Test.YtmkldodkpijfjaaMath1
namespace Go.Proofs.Ytmkldodkpijfjaa
open Go.RowKit

/-- a ratio without a common divisor -/
def nrm (p q : Nat) : Nat × Nat := (p / Nat.gcd p q, q / Nat.gcd p q)
def Cop (a : Nat × Nat) : Prop := Nat.gcd a.1 a.2 = 1 ∧ 0 < a.2
theorem nrm_mul {k : Nat} (hk : 0 < k) (p q : Nat) : nrm (k * p) (k * q) = nrm p q := by
  unfold nrm
  rw [Nat.gcd_mul_left, Nat.mul_div_mul_left _ _ hk, Nat.mul_div_mul_left _ _ hk]
theorem nrm_id {a : Nat × Nat} (h : Cop a) : nrm a.1 a.2 = a := by
  unfold nrm
  rw [h.1, Nat.div_one, Nat.div_one]
theorem nrm_parts {p q : Nat} (hq : 0 < q) : 0 < Nat.gcd p q ∧ p = Nat.gcd p q * (nrm p q).1 ∧ q = Nat.gcd p q * (nrm p q).2 ∧ Cop (nrm p q) := by
  have hg : 0 < Nat.gcd p q := Nat.gcd_pos_of_pos_right _ hq
  have h1 : p = Nat.gcd p q * (p / Nat.gcd p q) := (Nat.mul_div_cancel' (Nat.gcd_dvd_left p q)).symm
  have h2 : q = Nat.gcd p q * (q / Nat.gcd p q) := (Nat.mul_div_cancel' (Nat.gcd_dvd_right p q)).symm
  refine ⟨hg, h1, h2, ?_, ?_⟩
  · show Nat.gcd (p / Nat.gcd p q) (q / Nat.gcd p q) = 1
    have h3 : Nat.gcd (Nat.gcd p q * (p / Nat.gcd p q)) (Nat.gcd p q * (q / Nat.gcd p q)) = Nat.gcd p q := by rw [← h1, ← h2]
    rw [Nat.gcd_mul_left] at h3
    exact Nat.eq_of_mul_eq_mul_left hg (by rw [h3, Nat.mul_one])
  · show 0 < q / Nat.gcd p q
    rcases Nat.eq_zero_or_pos (q / Nat.gcd p q) with h | h
    · rw [h, Nat.mul_zero] at h2; omega
    · exact h
theorem nrm_cop {p q : Nat} (hq : 0 < q) : Cop (nrm p q) := (nrm_parts hq).2.2.2
theorem nrm_le (p q : Nat) : (nrm p q).1 ≤ p ∧ (nrm p q).2 ≤ q := ⟨Nat.div_le_self _ _, Nat.div_le_self _ _⟩
theorem nrm_times {p q : Nat} (hq : 0 < q) (x y : Nat) : nrm ((nrm p q).1 * x) ((nrm p q).2 * y) = nrm (p * x) (q * y) := by
  obtain ⟨hg, h1, h2, _⟩ := nrm_parts (p := p) hq
  obtain ⟨g, hgg⟩ : ∃ g, g = Nat.gcd p q := ⟨_, rfl⟩
  obtain ⟨a, ha⟩ : ∃ a, a = nrm p q := ⟨_, rfl⟩
  rw [← hgg] at hg h1 h2
  rw [← ha] at h1 h2 ⊢
  rw [h1, h2, Nat.mul_assoc, Nat.mul_assoc, nrm_mul hg]
/-- products, sums, one divided by another -/
def tm (a b : Nat × Nat) : Nat × Nat := nrm (a.1 * b.1) (a.2 * b.2)
def pl (a b : Nat × Nat) : Nat × Nat := nrm (a.1 * b.2 + b.1 * a.2) (a.2 * b.2)
def ov (a b : Nat × Nat) : Nat × Nat := nrm (a.1 * b.2) (a.2 * b.1)
theorem tm_cop {a b : Nat × Nat} (ha : Cop a) (hb : Cop b) : Cop (tm a b) := nrm_cop (Nat.mul_pos ha.2 hb.2)
theorem pl_cop {a b : Nat × Nat} (ha : Cop a) (hb : Cop b) : Cop (pl a b) := nrm_cop (Nat.mul_pos ha.2 hb.2)
theorem ov_cop {a b : Nat × Nat} (ha : Cop a) (hb : 0 < b.1) : Cop (ov a b) := nrm_cop (Nat.mul_pos ha.2 hb)
theorem cop_swap {b : Nat × Nat} (h : Cop b) (hb : 0 < b.1) : Cop (b.2, b.1) := ⟨by rw [Nat.gcd_comm]; exact h.1, hb⟩
theorem cop_one (x : Nat) : Cop (x, 1) := ⟨Nat.gcd_one_right x, Nat.one_pos⟩
theorem gcd_of_dvd {a b p s : Nat} (h : Nat.gcd a b = 1) (hp : p ∣ a) (hs : s ∣ b) : Nat.gcd p s = 1 := by
  have : Nat.gcd p s ∣ Nat.gcd a b := Nat.dvd_gcd (Nat.dvd_trans (Nat.gcd_dvd_left _ _) hp) (Nat.dvd_trans (Nat.gcd_dvd_right _ _) hs)
  rw [h] at this
  exact Nat.dvd_one.1 this
/-- a product made of two ratios across -/
theorem tm_cross {a b : Nat × Nat} (ha : Cop a) (hb : Cop b) : ((nrm a.1 b.2).1 * (nrm b.1 a.2).1, (nrm a.1 b.2).2 * (nrm b.1 a.2).2) = tm a b := by
  obtain ⟨g1, p1, q1, c1⟩ := nrm_parts (p := a.1) hb.2
  obtain ⟨g2, p2, q2, c2⟩ := nrm_parts (p := b.1) ha.2
  obtain ⟨G, hG⟩ : ∃ G, G = Nat.gcd a.1 b.2 := ⟨_, rfl⟩
  obtain ⟨H, hH⟩ : ∃ H, H = Nat.gcd b.1 a.2 := ⟨_, rfl⟩
  obtain ⟨⟨p, q⟩, hx⟩ : ∃ x, x = nrm a.1 b.2 := ⟨_, rfl⟩
  obtain ⟨⟨r, s⟩, hy⟩ : ∃ y, y = nrm b.1 a.2 := ⟨_, rfl⟩
  rw [← hG] at g1 p1 q1
  rw [← hH] at g2 p2 q2
  rw [← hx] at p1 q1 c1 ⊢
  rw [← hy] at p2 q2 c2 ⊢
  simp only at p1 q1 p2 q2 ⊢
  have k1 : Nat.gcd p s = 1 := gcd_of_dvd ha.1 ⟨G, by rw [p1, Nat.mul_comm]⟩ ⟨H, by rw [q2, Nat.mul_comm]⟩
  have k2 : Nat.gcd r q = 1 := gcd_of_dvd hb.1 ⟨H, by rw [p2, Nat.mul_comm]⟩ ⟨G, by rw [q1, Nat.mul_comm]⟩
  have k3 : Nat.gcd p q = 1 := c1.1
  have k4 : Nat.gcd r s = 1 := c2.1
  have hc : Nat.gcd (p * r) (q * s) = 1 := by
    have e1 : Nat.Coprime p (q * s) := Nat.Coprime.mul_right k3 k1
    have e2 : Nat.Coprime r (q * s) := Nat.Coprime.mul_right k2 k4
    exact Nat.Coprime.mul_left e1 e2
  have hpos : 0 < q * s := Nat.mul_pos c1.2 c2.2
  have e : tm a b = nrm (p * r) (q * s) := by
    unfold tm
    rw [p1, q1, p2, q2, show G * p * (H * r) = (G * H) * (p * r) from by simp [Nat.mul_left_comm, Nat.mul_comm], show H * s * (G * q) = (G * H) * (q * s) from by simp [Nat.mul_left_comm, Nat.mul_comm], nrm_mul (Nat.mul_pos g1 g2)]
  rw [e]
  exact (nrm_id (a := (p * r, q * s)) ⟨hc, hpos⟩).symm
theorem tm_whole {p q : Nat} (hq : 0 < q) (x : Nat) : tm (nrm p q) (x, 1) = nrm (p * x) q := by
  unfold tm
  simp only
  rw [nrm_times hq x 1, Nat.mul_one]
theorem ov_whole {p q : Nat} (hq : 0 < q) (x : Nat) : ov (nrm p q) (x, 1) = nrm p (q * x) := by
  unfold ov
  simp only
  rw [nrm_times hq 1 x, Nat.mul_one]
end Go.Proofs.Ytmkldodkpijfjaa
