/- Contracts of the model and the program: how many minus ones, placings, the first column. Condition: the numbers fit an int. -/
import Derived.Test.YtmkldodkpijfjaaSums
namespace Go.Proofs.Ytmkldodkpijfjaa
open Go.RowKit

/-- the answer of a function that hands back a number and whether there is one -/
def IRes (p : Prop) (x : Int) (e : Ending) : Prop := ∃ y b, e = .returned (.tuple #[.int .i64 y, .bool b]) ∧ ((p ∧ b = true ∧ y = x) ∨ (¬p ∧ b = false ∧ y = 0))
theorem IRes.yes {p : Prop} {x : Int} (h : p) : IRes p x (.returned (.tuple #[.int .i64 x, .bool true])) := ⟨x, true, rfl, .inl ⟨h, rfl, rfl⟩⟩
theorem IRes.no {p : Prop} {x : Int} (h : ¬p) : IRes p x (.returned (.tuple #[.int .i64 0, .bool false])) := ⟨0, false, rfl, .inr ⟨h, rfl, rfl⟩⟩
theorem ires_same {p : Prop} {x y y' : Int} {b b' : Bool} (h : (p ∧ b = true ∧ y = x) ∨ (¬p ∧ b = false ∧ y = 0)) (h' : (p ∧ b' = true ∧ y' = x) ∨ (¬p ∧ b' = false ∧ y' = 0)) : b = b' ∧ y = y' := by
  rcases h with ⟨h1, rfl, rfl⟩ | ⟨h1, rfl, rfl⟩ <;> rcases h' with ⟨k1, rfl, rfl⟩ | ⟨k1, rfl, rfl⟩
  · exact ⟨rfl, rfl⟩
  · exact absurd h1 k1
  · exact absurd k1 h1
  · exact ⟨rfl, rfl⟩
/-- .. a bool and whether there is one -/
def BRes (p q : Prop) (e : Ending) : Prop := ∃ y b, e = .returned (.tuple #[.bool y, .bool b]) ∧ ((p ∧ b = true ∧ (y = true ↔ q)) ∨ (¬p ∧ b = false ∧ y = false))
theorem bres_same {p q : Prop} {y y' b b' : Bool} (h : (p ∧ b = true ∧ (y = true ↔ q)) ∨ (¬p ∧ b = false ∧ y = false)) (h' : (p ∧ b' = true ∧ (y' = true ↔ q)) ∨ (¬p ∧ b' = false ∧ y' = false)) : b = b' ∧ y = y' := by
  rcases h with ⟨h1, rfl, h2⟩ | ⟨h1, rfl, rfl⟩ <;> rcases h' with ⟨k1, rfl, k2⟩ | ⟨k1, rfl, rfl⟩
  · have := h2.trans k2.symm
    refine ⟨rfl, ?_⟩
    cases y <;> cases y' <;> simp_all
  · exact absurd h1 k1
  · exact absurd k1 h1
  · exact ⟨rfl, rfl⟩

/-- the first number that isn't 0 of a line whose signs alternate is 1 -/
theorem first_one {xs : List Int} (h : lineOk xs) : ∃ j, j < xs.length ∧ gi xs j = 1 ∧ ∀ i, i < j → gi xs i = 0 := by
  have key : ∀ k, k ≤ xs.length → (∃ j, j < k ∧ gi xs j = 1 ∧ ∀ i, i < j → gi xs i = 0) ∨ (sumK xs k = 0 ∧ ∀ i, i < k → gi xs i = 0) := by
    intro k
    induction k with
    | zero => exact fun _ => .inr ⟨rfl, fun i hi => absurd hi (by omega)⟩
    | succ k ih =>
      intro hk
      rcases ih (by omega) with ⟨j, hj, h1, h2⟩ | ⟨h1, h2⟩
      · exact .inl ⟨j, by omega, h1, h2⟩
      · have hb := h.1 (k + 1) hk
        simp only [sumK] at hb
        by_cases e : gi xs k = 0
        · refine .inr ⟨by simp only [sumK]; omega, fun i hi => ?_⟩
          by_cases e2 : i = k
          · subst e2; exact e
          · exact h2 i (by omega)
        · exact .inl ⟨k, by omega, by omega, h2⟩
  rcases key xs.length (Nat.le_refl _) with h1 | ⟨h1, _⟩
  · exact h1
  · have := h.2
    omega

/-- .. its index -/
def IsFirst (xs : List Int) (j : Nat) : Prop := j < xs.length ∧ gi xs j = 1 ∧ ∀ i, i < j → gi xs i = 0
theorem first_unique {xs : List Int} {j j' : Nat} (h : IsFirst xs j) (h' : IsFirst xs j') : j = j' := by
  rcases Nat.lt_trichotomy j j' with hl | hl | hl
  · have := h'.2.2 j hl; have := h.2.1; omega
  · exact hl
  · have := h.2.2 j' hl; have := h'.2.1; omega

/-- the answer of the first column's functions -/
def CRes (m : List (List Int)) (e : Ending) : Prop := (good m ∧ ∃ j, IsFirst (gr m 0) j ∧ e = .returned (.tuple #[.int .i64 (j : Int), .bool true])) ∨ (¬good m ∧ e = .returned (.tuple #[.int .i64 0, .bool false]))

/-- whatever both hand back is the same number -/
theorem cres_ires {m : List (List Int)} {e : Ending} (h : CRes m e) : ∀ j, IsFirst (gr m 0) j → IRes (good m) (j : Int) e := by
  intro j hj
  rcases h with ⟨hg, j', hj', rfl⟩ | ⟨hg, rfl⟩
  · obtain rfl := first_unique hj hj'
    exact IRes.yes hg
  · exact IRes.no hg

/-- the column of the first 1, where there is one -/
theorem cres_some (m : List (List Int)) : ∃ x : Int, ∀ e, CRes m e → IRes (good m) x e := by
  by_cases hg : good m
  · obtain ⟨j, hj⟩ := first_one (hg.2.1 0 (by have := hg.1.1; omega))
    exact ⟨j, fun e h => cres_ires h j hj⟩
  · refine ⟨0, fun e h => ?_⟩
    rcases h with ⟨h1, _⟩ | ⟨_, rfl⟩
    · exact absurd h1 hg
    · exact IRes.no hg
end Go.Proofs.Ytmkldodkpijfjaa
