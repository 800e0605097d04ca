/- The answer of a function that hands back a list of numbers and whether there is one. No conditions. -/
import Derived.Test.YtnhkclnloiiihaaBase
namespace Go.Proofs.Ytnhkclnloiiihaa
open Go.RowKit

/-- the answer of a function that hands back a list of numbers and whether there is one -/
def LRes (p : Prop) (r : List Int) (w : World) (B : Nat) (e : Ending) : Prop :=
  ∃ v b r', e = .returned (.tuple #[v, .bool b]) ∧ OwnI w B v r' ∧ ((p ∧ b = true ∧ r' = r) ∨ (¬p ∧ b = false ∧ r' = []))
theorem LRes.yes {p : Prop} {r : List Int} {w : World} {B : Nat} {v : Value} (h : p) (ho : OwnI w B v r) : LRes p r w B (.returned (.tuple #[v, .bool true])) := ⟨v, true, r, rfl, ho, .inl ⟨h, rfl, rfl⟩⟩
theorem LRes.no {p : Prop} {r : List Int} {w : World} {B : Nat} (h : ¬p) : LRes p r w B (.returned (.tuple #[.slice none 0 0, .bool false])) := ⟨_, false, [], rfl, OwnI.nil _ _, .inr ⟨h, rfl, rfl⟩⟩

theorem lres_same {p : Prop} {r ra rb : List Int} {a b : Bool} (h : (p ∧ a = true ∧ ra = r) ∨ (¬p ∧ a = false ∧ ra = [])) (k : (p ∧ b = true ∧ rb = r) ∨ (¬p ∧ b = false ∧ rb = [])) : b = a ∧ rb = ra := by
  rcases k with ⟨h1, h2, h3⟩ | ⟨h1, h2, h3⟩ <;> rcases h with ⟨k1, k2, k3⟩ | ⟨k1, k2, k3⟩
  · exact ⟨h2.trans k2.symm, h3.trans k3.symm⟩
  · exact absurd h1 k1
  · exact absurd k1 h1
  · exact ⟨h2.trans k2.symm, h3.trans k3.symm⟩
end Go.Proofs.Ytnhkclnloiiihaa
