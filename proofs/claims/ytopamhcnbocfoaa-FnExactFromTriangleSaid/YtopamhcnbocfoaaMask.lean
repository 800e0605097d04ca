/- Sets of numbers as words of bits. No conditions. -/
import Derived.Test.YtopamhcnbocfoaaTriM
namespace Go.Proofs.Ytopamhcnbocfoaa
theorem mask_nil : mask [] = 0 := rfl
theorem testBit_mask {xs : List Int} (h : ∀ x ∈ xs, 0 ≤ x) (i : Nat) : (mask xs).testBit i = decide ((i : Int) ∈ xs) := by
  induction xs with
  | nil => simp [mask]
  | cons a r ih =>
    have ha := h a (by simp)
    rw [mask, Nat.testBit_or, Nat.testBit_two_pow, ih (fun x hx => h x (by simp [hx]))]
    by_cases e : a.toNat = i
    · have : (i : Int) = a := by omega
      simp [e, this]
    · have : ¬ (i : Int) = a := by omega
      simp [e, this]
theorem mask_append (xs ys : List Int) : mask (xs ++ ys) = mask xs ||| mask ys := by
  induction xs with
  | nil => simp [mask]
  | cons a r ih => rw [List.cons_append, mask, mask, ih, Nat.or_assoc]
theorem mask_snoc (xs : List Int) (v : Int) : mask (xs ++ [v]) = mask xs ||| 2 ^ v.toNat := by
  rw [mask_append]; simp [mask]
theorem mask_lt {xs : List Int} {n : Nat} (h : ∀ x ∈ xs, 0 ≤ x ∧ x < n) : mask xs < 2 ^ n := by
  induction xs with
  | nil => simp [mask, Nat.two_pow_pos]
  | cons a r ih =>
    rw [mask]
    have := h a (by simp)
    exact Nat.or_lt_two_pow (Nat.pow_lt_pow_right (by omega) (by omega)) (ih (fun x hx => h x (by simp [hx])))
theorem mask_lt16 {xs : List Int} (h : Rise xs) : mask xs < 65536 := mask_lt (n := 16) (fun x hx => by have := h.2 x hx; omega)
theorem lst_mem {xs : List Int} (h : xs ≠ []) : lst xs ∈ xs := by
  unfold lst
  rw [List.getLast?_eq_some_getLast h]
  exact List.getLast_mem h
theorem le_lst {xs : List Int} (h : Up xs) : ∀ x ∈ xs, x ≤ lst xs := by
  intro x hx
  have hne : xs ≠ [] := by intro e; subst e; cases hx
  have e := List.dropLast_concat_getLast hne
  have e2 : lst xs = xs.getLast hne := by unfold lst; rw [List.getLast?_eq_some_getLast hne]; rfl
  rw [← e] at h hx
  obtain ⟨_, _, h3⟩ := up_append h
  rcases List.mem_append.1 hx with hx | hx
  · have := h3 x hx _ (by simp : xs.getLast hne ∈ [xs.getLast hne]); omega
  · simp at hx; omega
theorem mask_test {xs : List Int} (h : Up xs) (h0 : ∀ x ∈ xs, 0 ≤ x) {v : Int} (hv : 0 ≤ v) : mask xs < 2 ^ v.toNat ↔ lst xs < v := by
  constructor
  · intro hm
    by_cases hne : xs = []
    · subst hne; simp [lst]; omega
    · have hl := lst_mem hne
      have h1 := h0 _ hl
      by_cases hc : lst xs < v
      · exact hc
      · exfalso
        have hb : (mask xs).testBit (lst xs).toNat = true := by
          rw [testBit_mask h0]; simp [Int.toNat_of_nonneg h1, hl]
        have := Nat.ge_two_pow_of_testBit hb
        have : 2 ^ v.toNat ≤ 2 ^ (lst xs).toNat := Nat.pow_le_pow_right (by omega) (by omega)
        omega
  · intro hl
    refine mask_lt fun x hx => ⟨h0 x hx, ?_⟩
    have := le_lst h x hx
    omega
theorem mask_inj {xs ys : List Int} (hx : Up xs) (hx0 : ∀ x ∈ xs, 0 ≤ x) (hy : Up ys) (hy0 : ∀ x ∈ ys, 0 ≤ x) (h : mask xs = mask ys) : xs = ys := by
  have hm : ∀ z : Int, z ∈ xs ↔ z ∈ ys := by
    intro z
    by_cases hz : 0 ≤ z
    · have h1 := testBit_mask hx0 z.toNat
      have h2 := testBit_mask hy0 z.toNat
      rw [h, h2, Int.toNat_of_nonneg hz] at h1
      simpa using h1.symm
    · exact ⟨fun k => absurd (hx0 z k) hz, fun k => absurd (hy0 z k) hz⟩
  clear h hx0 hy0
  induction xs generalizing ys with
  | nil =>
    cases ys with
    | nil => rfl
    | cons b s => exact absurd ((hm b).2 (by simp)) (by simp)
  | cons a r ih =>
    cases ys with
    | nil => exact absurd ((hm a).1 (by simp)) (by simp)
    | cons b s =>
      have l1 := Up.lt hx
      have l2 := Up.lt hy
      have e : a = b := by
        rcases List.mem_cons.1 ((hm a).1 (by simp)) with e | h1
        · exact e
        · rcases List.mem_cons.1 ((hm b).2 (by simp)) with e | h2
          · exact e.symm
          · have := l1 b h2; have := l2 a h1; omega
      subst e
      rw [ih hx.tail hy.tail (fun z => ?_)]
      constructor
      · intro hz
        rcases List.mem_cons.1 ((hm z).1 (by simp [hz])) with rfl | h1
        · exact absurd (l1 z hz) (by omega)
        · exact h1
      · intro hz
        rcases List.mem_cons.1 ((hm z).2 (by simp [hz])) with rfl | h1
        · exact absurd (l2 z hz) (by omega)
        · exact h1

/-- what lies beyond x is a multiple -/
theorem mask_beyond {r : List Int} {n : Nat} (h : ∀ y ∈ r, (n : Int) ≤ y) : ∃ q, mask r = 2 ^ n * q := by
  induction r with
  | nil => exact ⟨0, by simp [mask]⟩
  | cons a r ih =>
    obtain ⟨q, hq⟩ := ih (fun y hy => h y (by simp [hy]))
    have ha := h a (by simp)
    refine ⟨2 ^ (a.toNat - n) ||| q, ?_⟩
    rw [mask, hq]
    apply Nat.eq_of_testBit_eq
    intro i
    simp only [Nat.testBit_or, Nat.testBit_two_pow_mul, Nat.testBit_two_pow]
    by_cases hi : n ≤ i
    · simp [hi]; congr 1; simp; omega
    · simp [hi]; omega
theorem mask_head {x : Int} {r : List Int} (h : Up (x :: r)) (hx : 0 ≤ x) : ∃ q, mask r = 2 ^ (x.toNat + 1) * q ∧ mask (x :: r) = 2 ^ (x.toNat + 1) * q + 2 ^ x.toNat := by
  obtain ⟨q, hq⟩ := mask_beyond (r := r) (n := x.toNat + 1) (fun y hy => by have := Up.lt h y hy; omega)
  refine ⟨q, hq, ?_⟩
  rw [mask, hq]
  have : 2 ^ x.toNat < 2 ^ (x.toNat + 1) := Nat.pow_lt_pow_right (by omega) (by omega)
  rw [Nat.or_comm, ← Nat.two_pow_add_eq_or_of_lt this]
theorem mask_rest {x : Int} {r : List Int} (h : Up (x :: r)) (hx : 0 ≤ x) : mask (x :: r) &&& (mask (x :: r) - 1) = mask r := by
  obtain ⟨q, h1, h2⟩ := mask_head h hx
  have hp : 0 < 2 ^ x.toNat := Nat.two_pow_pos _
  have hlt : 2 ^ x.toNat < 2 ^ (x.toNat + 1) := Nat.pow_lt_pow_right (by omega) (by omega)
  rw [h2, h1, show 2 ^ (x.toNat + 1) * q + 2 ^ x.toNat - 1 = 2 ^ (x.toNat + 1) * q + (2 ^ x.toNat - 1) from by omega]
  apply Nat.eq_of_testBit_eq
  intro i
  rw [Nat.testBit_and, Nat.testBit_two_pow_mul_add _ hlt, Nat.testBit_two_pow_mul_add _ (by omega), Nat.testBit_two_pow_mul]
  by_cases hi : i < x.toNat + 1
  · simp only [hi, if_true, Nat.testBit_two_pow, Nat.testBit_two_pow_sub_one]
    by_cases e : x.toNat = i
    · subst e; simp; intro; omega
    · simp [e]; omega
  · simp [hi]; omega
theorem mask_low {x : Int} {r : List Int} (h : Up (x :: r)) (hx : 0 ≤ x) (hr : ∀ y ∈ x :: r, y ≤ 15) : mask (x :: r) &&& (18446744073709551616 - mask (x :: r)) = 2 ^ x.toNat := by
  obtain ⟨q, h1, h2⟩ := mask_head h hx
  have hx15 := hr x (by simp)
  have hm : mask (x :: r) < 2 ^ 16 := mask_lt (fun y hy => ⟨by rcases List.mem_cons.1 hy with rfl | hy; exact hx; have := Up.lt h y hy; omega, by have := hr y hy; omega⟩)
  have hlt : 2 ^ x.toNat < 2 ^ (x.toNat + 1) := Nat.pow_lt_pow_right (by omega) (by omega)
  have hq : q < 2 ^ (63 - x.toNat) := by
    have e : (2:Nat) ^ 64 = 2 ^ (x.toNat + 1) * 2 ^ (63 - x.toNat) := by rw [← Nat.pow_add]; congr 1; omega
    have : 2 ^ (x.toNat + 1) * q < 2 ^ (x.toNat + 1) * 2 ^ (63 - x.toNat) := by rw [← e]; omega
    exact Nat.lt_of_mul_lt_mul_left this
  have e2 : 18446744073709551616 - mask (x :: r) = 2 ^ (x.toNat + 1) * (2 ^ (63 - x.toNat) - (q + 1)) + 2 ^ x.toNat := by
    have e : (18446744073709551616:Nat) = 2 ^ (x.toNat + 1) * 2 ^ (63 - x.toNat) := by rw [← Nat.pow_add, show x.toNat + 1 + (63 - x.toNat) = 64 from by omega]
    rw [h2, Nat.mul_sub, ← e, Nat.mul_add]
    have : 2 ^ (x.toNat + 1) * (q + 1) ≤ 18446744073709551616 := by rw [e]; exact Nat.mul_le_mul_left _ (by omega)
    rw [Nat.mul_add] at this
    have e3 : 2 ^ (x.toNat + 1) = 2 ^ x.toNat + 2 ^ x.toNat := by rw [Nat.pow_succ]; omega
    omega
  rw [e2, h2]
  apply Nat.eq_of_testBit_eq
  intro i
  rw [Nat.testBit_and, Nat.testBit_two_pow_mul_add _ hlt, Nat.testBit_two_pow_mul_add _ hlt, Nat.testBit_two_pow]
  by_cases hi : i < x.toNat + 1
  · simp [hi]
  · simp only [hi, if_false, Nat.testBit_two_pow_sub_succ hq]
    have : ¬ x.toNat = i := by omega
    simp [this]
    intro a _; exact a
/-- the formula of the library for the number of ones -/
def pcF (x0 : Nat) : Nat :=
  let x1 := Nat.add (Nat.land (Nat.div x0 2) 6148914691236517205) (Nat.land x0 6148914691236517205)
  let x2 := Nat.add (Nat.land (Nat.div x1 4) 3689348814741910323) (Nat.land x1 3689348814741910323)
  let x3 := Nat.land (Nat.add (Nat.div x2 16) x2) 1085102592571150095
  let x4 := Nat.add x3 (Nat.div x3 256)
  let x5 := Nat.add x4 (Nat.div x4 65536)
  let x6 := Nat.add x5 (Nat.div x5 4294967296)
  Nat.land x6 127
/-- it is right at every set of up to 6 of the k first numbers, beside the set x of c others -/
def pcGo : Nat → Nat → Nat → Bool
  | 0, x, c => Nat.beq (pcF x) c
  | k + 1, x, c => (pcGo k x c).and (match Nat.beq c 6 with | true => true | false => pcGo k (Nat.add x (Nat.pow 2 k)) (Nat.succ c))
set_option maxRecDepth 100000 in
theorem pc_all : pcGo 16 0 0 = true := by decide +kernel
theorem pc_go {k x c : Nat} {xs : List Int} (h : pcGo k x c = true) (hu : Up xs) (hx : ∀ y ∈ xs, 0 ≤ y ∧ y < k) (hl : xs.length + c ≤ 6) : pcF (x + mask xs) = c + xs.length := by
  induction k generalizing x c xs with
  | zero =>
    have : xs = [] := by
      cases xs with
      | nil => rfl
      | cons a r => have := hx a (by simp); omega
    subst this
    have := Nat.eq_of_beq_eq_true h
    simpa [mask] using this
  | succ k ih =>
    simp only [pcGo, Bool.and] at h
    obtain ⟨h1, h2⟩ : pcGo k x c = true ∧ (match Nat.beq c 6 with | true => true | false => pcGo k (Nat.add x (Nat.pow 2 k)) (Nat.succ c)) = true := by
      revert h; cases pcGo k x c <;> simp
    by_cases hm : (k : Int) ∈ xs
    · have hne : xs ≠ [] := by intro e; subst e; cases hm
      have e := List.dropLast_concat_getLast hne
      generalize xs.dropLast = ys at e
      generalize xs.getLast hne = v at e
      subst e
      obtain ⟨u1, _, u3⟩ := up_append hu
      have hv : v = k := by
        rcases List.mem_append.1 hm with hm | hm
        · have := u3 _ hm v (by simp); have := hx v (by simp); omega
        · simp at hm; exact hm.symm
      subst hv
      have hc : Nat.beq c 6 = false := by
        cases hb : Nat.beq c 6
        · rfl
        · have := Nat.eq_of_beq_eq_true hb; simp at hl; omega
      rw [hc] at h2
      have hy : ∀ y ∈ ys, 0 ≤ y ∧ y < k := fun y hy => ⟨(hx y (by simp [hy])).1, by have := u3 y hy k (by simp); omega⟩
      have := ih h2 u1 hy (by simp at hl; omega)
      have em : mask (ys ++ [(k : Int)]) = 2 ^ k + mask ys := by
        rw [mask_snoc, Int.toNat_natCast, Nat.or_comm]
        have := Nat.two_pow_add_eq_or_of_lt (mask_lt hy) 1
        simpa using this.symm
      rw [em, ← Nat.add_assoc]
      refine Eq.trans this ?_
      simp; omega
    · exact ih h1 hu (fun y hy => ⟨(hx y hy).1, by have := (hx y hy).2; have : y ≠ k := fun e => hm (e ▸ hy); omega⟩) hl
theorem pc_mask {xs : List Int} (h : Rise xs) (hl : xs.length ≤ 6) : pcF (mask xs) = xs.length := by
  have := pc_go (x := 0) (c := 0) pc_all h.1 (fun y hy => by have := h.2 y hy; omega) hl
  simpa using this
end Go.Proofs.Ytopamhcnbocfoaa
