/- Contracts of the program: a table turned and mirrored, and what is got by one of these functions handed over. Condition: the numbers fit an int. -/
import Derived.Test.YtmkldodkpijfjaaImplB
namespace Go.Proofs.Ytmkldodkpijfjaa
open Go.RowKit

/-- the rows backwards -/
def mir (m : List (List Int)) : List (List Int) := tab m.length m.length fun i j => gi (gr m i) (m.length - 1 - j)
theorem mir_len (m : List (List Int)) : (mir m).length = m.length := tab_len _ _ _
theorem mir_row {m : List (List Int)} {i : Nat} (h : i < m.length) : (gr (mir m) i).length = m.length := tab_row h
theorem gi_mir {m : List (List Int)} {i j : Nat} (hi : i < m.length) (hj : j < m.length) : gi (gr (mir m) i) j = gi (gr m i) (m.length - 1 - j) := gi_tab hi hj
theorem square.mir {m : List (List Int)} (h : square m) : square (mir m) := ⟨by rw [mir_len]; exact h.1, by rw [mir_len]; exact h.2.1, fun i hi => by rw [mir_len] at hi ⊢; exact mir_row hi⟩
/-- turned clockwise -/
def cw (m : List (List Int)) : List (List Int) := mir (tr m)
theorem cw_len (m : List (List Int)) : (cw m).length = m.length := by unfold cw; rw [mir_len, tr_len]
theorem cw_row {m : List (List Int)} {i : Nat} (h : i < m.length) : (gr (cw m) i).length = m.length := by unfold cw; rw [mir_row (by rw [tr_len]; exact h), tr_len]
theorem gi_cw {m : List (List Int)} {i j : Nat} (hi : i < m.length) (hj : j < m.length) : gi (gr (cw m) i) j = gi (gr m (m.length - 1 - j)) i := by
  unfold cw
  rw [gi_mir (by rw [tr_len]; exact hi) (by rw [tr_len]; exact hj), tr_len, gi_tr hi (by omega)]
theorem square.cw {m : List (List Int)} (h : square m) : square (cw m) := h.tr.mir

/-- the answer of a function that hands back a table and whether there is one -/
def MRes (p : Prop) (r : List (List Int)) (w : World) (B : Nat) (e : Ending) : Prop :=
  ∃ v b r', e = .returned (.tuple #[v, .bool b]) ∧ OwnM w B v r' ∧ ((p ∧ b = true ∧ r' = r) ∨ (¬p ∧ b = false ∧ r' = []))
theorem MRes.yes {p : Prop} {r : List (List Int)} {w : World} {B : Nat} {v : Value} (h : p) (ho : OwnM w B v r) : MRes p r w B (.returned (.tuple #[v, .bool true])) := ⟨v, true, r, rfl, ho, .inl ⟨h, rfl, rfl⟩⟩
theorem MRes.no {p : Prop} {r : List (List Int)} {w : World} {B : Nat} (h : ¬p) : MRes p r w B (.returned (.tuple #[.slice none 0 0, .bool false])) := ⟨_, false, [], rfl, OwnM.nil _ _, .inr ⟨h, rfl, rfl⟩⟩


end Go.Proofs.Ytmkldodkpijfjaa
