/- Patterns turned again and again, and their period. No conditions. -/
import Derived.Test.YtncpoljjfhmkeaaPatT
import Derived.Test.YtncpoljjfhmkeaaL1
import Derived.Test.YtncpoljjfhmkeaaScal
namespace Go.Proofs.Ytncpoljjfhmkeaa
open Go.RowKit

theorem even_cases {n : Nat} (h0 : n % 2 = 0) (h2 : 2 ≤ n) (h12 : n ≤ 12) : n = 2 ∨ n = 4 ∨ n = 6 ∨ n = 8 ∨ n = 10 ∨ n = 12 := by omega
/-- turned by b -/
def trn (p : List Int) (b : Int) : List Int := renP (turnF p.length b) p p.length
theorem trn_len (p : List Int) (b : Int) : (trn p b).length = p.length := renP_len _ _ _
theorem turnF_mod {n : Nat} (hn : n % 2 = 0) (h2 : 2 ≤ n) (h12 : n ≤ 12) (b x : Int) (hx : -1000 ≤ x + b) (hx2 : x + b ≤ 1000) : turnF n b x = (x + b) % n := by
  unfold turnF
  rcases even_cases hn h2 h12 with rfl | rfl | rfl | rfl | rfl | rfl <;> simp only [Int.tmod_eq_emod] <;> split <;> omega
theorem turnF_inj {n : Nat} (hn : n % 2 = 0) (h2 : 2 ≤ n) (h12 : n ≤ 12) {b : Int} (hb : 0 ≤ b ∧ b ≤ 100) {e e' : Nat} (he : e < n) (he' : e' < n) (h : turnF n b e = turnF n b e') : e = e' := by
  rw [turnF_mod hn h2 h12 _ _ (by omega) (by omega), turnF_mod hn h2 h12 _ _ (by omega) (by omega)] at h
  rcases even_cases hn h2 h12 with rfl | rfl | rfl | rfl | rfl | rfl <;> omega
theorem renP_at {p : List Int} (hp : isPat p) {b : Int} (hb : 0 ≤ b ∧ b ≤ 100) : ∀ k, k ≤ p.length → ∀ e, e < k → gi (renP (turnF p.length b) p k) (turnF p.length b (e : Int)).toNat = turnF p.length b (gi p e)
  | 0, _, e, he => absurd he (by omega)
  | k + 1, hk, e, he => by
    have hl := renP_len (turnF p.length b) p k
    have hf := turnF_in p.length b (k : Int) (by have := hp.lo; omega)
    have hf2 := turnF_in p.length b (e : Int) (by have := hp.lo; omega)
    show gi ((renP (turnF p.length b) p k).set (turnF p.length b (k : Int)).toNat (turnF p.length b (gi p k))) _ = _
    rw [gi_set (by omega)]
    by_cases h : e = k
    · subst h; rw [if_pos rfl]
    · rw [if_neg (fun h2 => h (turnF_inj hp.even hp.lo hp.hi hb (show e < p.length by omega) (show k < p.length by omega) (by omega)))]
      exact renP_at hp hb k (by omega) e (by omega)
/-- at the end e + b stands the other one and b -/
theorem trn_at {p : List Int} (hp : isPat p) {b : Int} (hb : 0 ≤ b ∧ b ≤ 100) {e : Nat} (he : e < p.length) : gi (trn p b) (((e : Int) + b) % p.length).toNat = (gi p e + b) % p.length := by
  have h := renP_at hp hb p.length (Nat.le_refl _) e he
  have hi := hp.inside e he
  have h12 := hp.hi
  rw [turnF_mod hp.even hp.lo hp.hi _ _ (by omega) (by omega), turnF_mod hp.even hp.lo hp.hi _ _ (by omega) (by omega)] at h
  exact h
/-- turned by 1, said of the ends -/
theorem trn_one {p : List Int} (hp : isPat p) {x : Nat} (hx : x < p.length) : gi (trn p 1) x = (gi p (if x = 0 then p.length - 1 else x - 1) + 1) % p.length := by
  have h2 := hp.lo
  have h := trn_at hp (b := 1) (by omega) (e := if x = 0 then p.length - 1 else x - 1) (by split <;> omega)
  rw [← h]
  congr 1
  by_cases e : x = 0
  · subst e
    rw [if_pos rfl, show ((p.length - 1 : Nat) : Int) + 1 = (p.length : Int) by omega, Int.emod_self]
    rfl
  · rw [if_neg e, Int.emod_eq_of_lt (by omega) (by omega)]
    omega
theorem one_step {p : List Int} (hp : isPat p) {y : Nat} (hy : y < p.length) : (gi p y + 1) % p.length = if gi p y = (p.length : Int) - 1 then 0 else gi p y + 1 := by
  have h := hp.inside y hy
  by_cases e : gi p y = (p.length : Int) - 1
  · rw [if_pos e, e, show (p.length : Int) - 1 + 1 = (p.length : Int) by omega, Int.emod_self]
  · rw [if_neg e, Int.emod_eq_of_lt (by omega) (by omega)]
theorem isPat.trn_one {p : List Int} (hp : isPat p) : isPat (trn p 1) := by
  have h2 := hp.lo
  have hl := trn_len p 1
  have G : ∀ x : Nat, x < p.length → ∃ y : Nat, y < p.length ∧ ((x = 0 ∧ y = p.length - 1) ∨ (x ≠ 0 ∧ y = x - 1)) ∧ ((gi p y = (p.length : Int) - 1 ∧ gi (trn p 1) x = 0) ∨ (gi p y ≠ (p.length : Int) - 1 ∧ gi (trn p 1) x = gi p y + 1)) := by
    intro x hx
    have h := Go.Proofs.Ytncpoljjfhmkeaa.trn_one hp hx
    by_cases e : x = 0
    · rw [if_pos e, one_step hp (by omega)] at h
      refine ⟨p.length - 1, by omega, .inl ⟨e, rfl⟩, ?_⟩
      split at h
      · next e2 => exact .inl ⟨e2, h⟩
      · next e2 => exact .inr ⟨e2, h⟩
    · rw [if_neg e, one_step hp (by omega)] at h
      refine ⟨x - 1, by omega, .inr ⟨e, rfl⟩, ?_⟩
      split at h
      · next e2 => exact .inl ⟨e2, h⟩
      · next e2 => exact .inr ⟨e2, h⟩
  have N : ∀ y : Nat, y < p.length → ∃ z : Nat, z < p.length ∧ gi p y = z ∧ z ≠ y ∧ gi p z = y := by
    intro y hy
    have h1 := hp.inside y hy
    have h3 := hp.other y hy
    exact ⟨(gi p y).toNat, by omega, by omega, by omega, h3.2⟩
  refine ⟨by rw [hl]; exact hp.even, by rw [hl]; exact h2, by rw [hl]; exact hp.hi, fun x hx => ?_, fun x hx => ?_, fun i hi j hj hji => ?_⟩
  · rw [hl] at hx ⊢
    obtain ⟨y, hy, _, h⟩ := G x hx
    have := hp.inside y hy
    omega
  · rw [hl] at hx
    obtain ⟨y, hy, hxy, h⟩ := G x hx
    obtain ⟨z, hz, hyz, hzy, hz2⟩ := N y hy
    obtain ⟨u, hu⟩ : ∃ u : Nat, gi (trn p 1) x = u := ⟨(gi (trn p 1) x).toNat, by omega⟩
    have hul : u < p.length := by omega
    obtain ⟨y2, hy2, hxy2, h3⟩ := G u hul
    obtain rfl : y2 = z := by omega
    rw [hu, Int.toNat_natCast]
    rw [hz2] at h3
    omega
  · rw [hl] at hi
    obtain ⟨a, ha, hia, h⟩ := G i hi
    obtain ⟨A, hA, haA, hne, hA2⟩ := N a ha
    have hjl : j < p.length := by omega
    obtain ⟨b, hb, hjb, h3⟩ := G j hjl
    obtain ⟨B, hB, hbB, hne2, hB2⟩ := N b hb
    by_cases e : i = 0
    · have ea : a = p.length - 1 := by omega
      have eb : b = j - 1 := by omega
      have hAl : A < p.length - 1 := by omega
      have hbA : b < A := by omega
      have hBn : B ≠ A := fun e2 => by rw [e2, hA2] at hB2; omega
      have hBa : B ≠ a := fun e2 => by rw [e2, haA] at hB2; omega
      have hBA : B < A := by
        rcases Nat.lt_or_ge B A with h4 | h4
        · exact h4
        · exfalso
          have h5 := hp.apart A hA B (by omega) (by omega)
          rw [hB2] at h5
          omega
      omega
    · have ea : a = i - 1 := by omega
      have eb : b = j - 1 := by omega
      have h5 := hp.apart a ha b (by omega) (by omega)
      omega

/-- turned once more -/
theorem trn_succ {p : List Int} (hp : isPat p) {k : Nat} (hk : k ≤ 90) (hq : isPat (trn p k)) : trn (trn p k) 1 = trn p ((k : Int) + 1) := by
  have hl : (trn p k).length = p.length := trn_len _ _
  have h2 := hp.lo
  refine ext_gi (by rw [trn_len, trn_len, trn_len]) fun x hx => ?_
  rw [trn_len, trn_len] at hx
  -- x is e + k + 1
  obtain ⟨e, he, hxe⟩ : ∃ e : Nat, e < p.length ∧ (((e : Int) + ((k : Int) + 1)) % p.length).toNat = x := by
    refine ⟨(((x : Int) - ((k : Int) + 1)) % p.length).toNat, ?_, ?_⟩ <;>
    · rcases even_cases hp.even hp.lo hp.hi with h | h | h | h | h | h <;> rw [h] at hx ⊢ <;> omega
  have h1 := trn_at hp (b := (k : Int) + 1) (by omega) he
  rw [hxe] at h1
  rw [h1]
  have hi := hp.inside e he
  have h3 := trn_at hp (b := (k : Int)) (by omega) he
  obtain ⟨y, hy, hye⟩ : ∃ y : Nat, y < p.length ∧ ((e : Int) + k) % p.length = y := by
    refine ⟨(((e : Int) + k) % p.length).toNat, ?_, ?_⟩ <;>
    · rcases even_cases hp.even hp.lo hp.hi with h | h | h | h | h | h <;> rw [h] at he ⊢ <;> omega
  rw [hye, Int.toNat_natCast] at h3
  have h4 := trn_at hq (b := 1) (by omega) (e := y) (by rw [hl]; exact hy)
  rw [hl, h3] at h4
  have ex : (((y : Int) + 1) % p.length).toNat = x := by
    rcases even_cases hp.even hp.lo hp.hi with h | h | h | h | h | h <;> rw [h] at hy hye hxe hx ⊢ <;> omega
  rw [ex] at h4
  rw [h4]
  rcases even_cases hp.even hp.lo hp.hi with h | h | h | h | h | h <;> rw [h] <;> omega
theorem trn_zero {p : List Int} (hp : isPat p) : trn p 0 = p := by
  refine ext_gi (trn_len _ _) fun x hx => ?_
  rw [trn_len] at hx
  have h := trn_at hp (b := 0) (by omega) hx
  have hi := hp.inside x hx
  rw [Int.add_zero, Int.add_zero, Int.emod_eq_of_lt (by omega) (by omega), Int.emod_eq_of_lt (by omega) (by omega), Int.toNat_natCast] at h
  exact h
theorem isPat.trn {p : List Int} (hp : isPat p) : ∀ k : Nat, k ≤ 90 → isPat (trn p k)
  | 0, _ => by rw [show ((0 : Nat) : Int) = 0 from rfl, trn_zero hp]; exact hp
  | k + 1, hk => by
    have h := isPat.trn hp k (by omega)
    have e := trn_succ hp (k := k) (by omega) h
    rw [Int.natCast_add, show ((1 : Nat) : Int) = 1 from rfl, ← e]
    exact h.trn_one
theorem trn_round {p : List Int} (hp : isPat p) : trn p p.length = p := by
  have h12 := hp.hi
  have h2 := hp.lo
  refine ext_gi (trn_len _ _) fun x hx => ?_
  rw [trn_len] at hx
  have h := trn_at hp (b := (p.length : Int)) (by omega) hx
  have hi := hp.inside x hx
  rw [Int.add_emod_right, Int.add_emod_right, Int.emod_eq_of_lt (by omega) (by omega), Int.emod_eq_of_lt (by omega) (by omega), Int.toNat_natCast] at h
  exact h
/-- the period -/
def perP (p : List Int) : Nat := (List.range 12).findIdx (fun j : Nat => trn p ((j : Int) + 1) == p) + 1
theorem per_has {p : List Int} (hp : isPat p) : (List.range 12).findIdx (fun j : Nat => trn p ((j : Int) + 1) == p) < (List.range 12).length := by
  refine List.findIdx_lt_length_of_exists ⟨p.length - 1, by simp; have := hp.lo; have := hp.hi; omega, ?_⟩
  have h2 := hp.lo
  rw [show ((p.length - 1 : Nat) : Int) + 1 = (p.length : Int) by omega, trn_round hp]
  simp
theorem perP_in {p : List Int} (hp : isPat p) : 1 ≤ perP p ∧ perP p ≤ 12 := by
  have := per_has hp
  unfold perP
  simp at this
  omega
theorem perP_is {p : List Int} (hp : isPat p) {k : Nat} (h1 : 1 ≤ k) (hk : k ≤ perP p) : (trn p k == p) = decide (k = perP p) := by
  have hl := per_has hp
  unfold perP at hk ⊢
  by_cases e : k = (List.range 12).findIdx (fun j : Nat => trn p ((j : Int) + 1) == p) + 1
  · rw [decide_eq_true e]
    have := List.findIdx_getElem (w := hl)
    rw [List.getElem_range] at this
    rw [e, Int.natCast_add]
    exact this
  · rw [decide_eq_false e]
    have := List.not_of_lt_findIdx (xs := List.range 12) (p := fun j : Nat => trn p ((j : Int) + 1) == p) (i := k - 1) (by omega)
    rw [List.getElem_range] at this
    rw [show ((k - 1 : Nat) : Int) + 1 = (k : Int) by omega] at this
    simpa using this
end Go.Proofs.Ytncpoljjfhmkeaa
