/- Which of the eight symmetries a matrix has; the kinds. No program here. -/
import Derived.Test.YtgdijjfipicodaaLeastM
namespace Go.Proofs.Ytgdijjfipicodaa

/-- the numbers, among the first k, of the symmetries that a matrix has -/
def smLk (m : List (List Int)) : Nat → List Int
  | 0 => []
  | k + 1 => if im m k = m then smLk m k ++ [(k : Int)] else smLk m k
theorem smLk_len (m : List (List Int)) : ∀ k, (smLk m k).length ≤ k
  | 0 => Nat.le_refl _
  | k + 1 => by
    have := smLk_len m k
    unfold smLk
    split
    · simp; omega
    · omega
theorem smLk_mem (m : List (List Int)) (x : Nat) : ∀ k, ((x : Int) ∈ smLk m k ↔ x < k ∧ im m x = m)
  | 0 => by simp [smLk]
  | k + 1 => by
    have ih := smLk_mem m x k
    unfold smLk
    split
    · next h =>
      rw [List.mem_append, ih, List.mem_singleton]
      constructor
      · rintro (⟨h1, h2⟩ | h1)
        · exact ⟨by omega, h2⟩
        · have : x = k := by omega
          subst this
          exact ⟨by omega, h⟩
      · rintro ⟨h1, h2⟩
        by_cases e : x = k
        · exact .inr (by omega)
        · exact .inl ⟨by omega, h2⟩
    · next h =>
      rw [ih]
      constructor
      · rintro ⟨h1, h2⟩
        exact ⟨by omega, h2⟩
      · rintro ⟨h1, h2⟩
        refine ⟨?_, h2⟩
        by_cases e : x = k
        · subst e; exact absurd h2 h
        · omega
theorem im_ltS {m : List (List Int)} {i : Nat} (h : i < 4) : im m i = cwN m i := by unfold im; rw [if_pos h]
theorem im_geS {m : List (List Int)} {i : Nat} (h : 4 ≤ i) : im m i = mir (cwN m (i - 4)) := by unfold im; rw [if_neg (by omega)]
theorem im_zero (m : List (List Int)) : im m 0 = m := by simp [im, cwN]
/-- a matrix is of a kind -/
def ofK (m : List (List Int)) (k : Nat) : Prop :=
  if k = 0 then im m 2 = m else if k = 1 then im m 1 = m else if k = 2 then im m 4 = m else if k = 3 then im m 5 = m else im m 4 = m ∧ im m 6 = m
instance (m : List (List Int)) (k : Nat) : Decidable (ofK m k) := by unfold ofK; infer_instance
/-- to transpose is to turn once and then to mirror -/
theorem im_five {m : List (List Int)} (h : square m) : im m 5 = tr m := by
  have e : im m 5 = mir (mir (tr m)) := by simp [im, cwN, cw]
  rw [e]
  refine ext_gr (by rw [mir_len, mir_len]) fun i hi => ?_
  rw [mir_len, mir_len, tr_len] at hi
  have h1 : (gr (mir (mir (tr m))) i).length = m.length := by rw [mir_row (by rw [mir_len, tr_len]; exact hi), mir_len, tr_len]
  refine ext_gi (by rw [h1, tr_row hi]) fun j hj => ?_
  rw [h1] at hj
  unfold mir
  rw [gi_tab (by rw [tab_len, tr_len]; exact hi) (by rw [tab_len, tr_len]; exact hj), tab_len, gi_tab (by rw [tr_len]; exact hi) (by rw [tr_len]; omega), tr_len, show m.length - 1 - (m.length - 1 - j) = j from by omega]
end Go.Proofs.Ytgdijjfipicodaa
