/- The mathematics of halves: the mirrored matrix with a left half, the matrix turned half with an upper half. No program here. -/
import Derived.Test.YtgdijjfipicodaaMath1
namespace Go.Proofs.Ytgdijjfipicodaa

/-- the matrix with a left half: the column in the middle has signs in turn -/
def lhF (rows : List (List Int)) (i j : Nat) : Int :=
  if j < rows.length / 2 then gi (gr rows i) j else if j = rows.length / 2 then 1 - ((i % 2 : Nat) : Int) * 2 else gi (gr rows i) (rows.length - 1 - j)
def lhM (rows : List (List Int)) : List (List Int) := tab rows.length rows.length (lhF rows)
/-- the rows can be a left half by their sizes -/
def lhP (rows : List (List Int)) : Prop := 1 ≤ rows.length ∧ rows.length ≤ 6 ∧ rows.length % 2 = 1 ∧ ∀ i, i < rows.length → (gr rows i).length = rows.length / 2
/-- as the model makes it: the number in the middle is told by the sum -/
def lsF (rows : List (List Int)) (i j : Nat) : Int :=
  if j < rows.length / 2 then gi (gr rows i) j else if j = rows.length / 2 then 1 - 2 * sumK (gr rows i) (rows.length / 2) else gi (gr rows i) (rows.length - 1 - j)
def lsM (rows : List (List Int)) : List (List Int) := tab rows.length rows.length (lsF rows)
def lsOk (rows : List (List Int)) : Prop := ∀ i, i < rows.length → ∀ j, j < rows.length / 2 → -1 ≤ gi (gr rows i) j ∧ gi (gr rows i) j ≤ 1

theorem lhM_len (rows : List (List Int)) : (lhM rows).length = rows.length := tab_len _ _ _
theorem lsM_len (rows : List (List Int)) : (lsM rows).length = rows.length := tab_len _ _ _

theorem line_step {xs : List Int} (h : lineOk xs) {j : Nat} (hj : j < xs.length) : -1 ≤ gi xs j ∧ gi xs j ≤ 1 := by
  have h1 := h.1 j (by omega)
  have h2 := h.1 (j + 1) (by omega)
  rw [sumK] at h2
  omega

/-- the sum of a mirrored row -/
theorem lh_sum {rows : List (List Int)} {f : Nat → Nat → Int} (h6 : rows.length ≤ 6) (hodd : rows.length % 2 = 1) {i : Nat} (hi : i < rows.length) (c : Int)
    (hf1 : ∀ j, j < rows.length / 2 → f i j = gi (gr rows i) j) (hf2 : f i (rows.length / 2) = c) (hf3 : ∀ j, rows.length / 2 < j → f i j = gi (gr rows i) (rows.length - 1 - j)) :
    sumK (gr (tab rows.length rows.length f) i) rows.length = 2 * sumK (gr rows i) (rows.length / 2) + c := by
  have hg : ∀ j, j < rows.length → gi (gr (tab rows.length rows.length f) i) j = f i j := fun j hj => gi_tab hi hj
  have hn : rows.length = 1 ∨ rows.length = 3 ∨ rows.length = 5 := by omega
  rcases hn with hn | hn | hn
  · rw [hn] at hf1 hf2 hf3 hg ⊢
    simp only [sumK, show (1 : Nat) / 2 = 0 from rfl] at hf2 ⊢
    rw [hg 0 (by omega), hf2]; omega
  · rw [hn] at hf1 hf2 hf3 hg ⊢
    simp only [sumK, show (3 : Nat) / 2 = 1 from rfl] at hf1 hf2 hf3 ⊢
    rw [hg 0 (by omega), hg 1 (by omega), hg 2 (by omega), hf1 0 (by omega), hf2, hf3 2 (by omega)]
    simp only [show (3 : Nat) - 1 - 2 = 0 from rfl]
    omega
  · rw [hn] at hf1 hf2 hf3 hg ⊢
    simp only [sumK, show (5 : Nat) / 2 = 2 from rfl] at hf1 hf2 hf3 ⊢
    rw [hg 0 (by omega), hg 1 (by omega), hg 2 (by omega), hg 3 (by omega), hg 4 (by omega), hf1 0 (by omega), hf1 1 (by omega), hf2, hf3 3 (by omega), hf3 4 (by omega)]
    simp only [show (5 : Nat) - 1 - 3 = 1 from rfl, show (5 : Nat) - 1 - 4 = 0 from rfl]
    omega

theorem lh_mid (rows : List (List Int)) (i : Nat) : lhF rows i (rows.length / 2) = 1 - ((i % 2 : Nat) : Int) * 2 := by
  unfold lhF
  rw [if_neg (by omega), if_pos rfl]
theorem ls_mid (rows : List (List Int)) (i : Nat) : lsF rows i (rows.length / 2) = 1 - 2 * sumK (gr rows i) (rows.length / 2) := by
  unfold lsF
  rw [if_neg (by omega), if_pos rfl]

/-- where the program makes a sign matrix, the model makes the same -/
theorem lh_good {rows : List (List Int)} (hp : lhP rows) (hg : good (lhM rows)) : lsOk rows ∧ lsM rows = lhM rows := by
  obtain ⟨h1, h6, hodd, hlen⟩ := hp
  have hrow : ∀ i, i < rows.length → lineOk (gr (lhM rows) i) := fun i hi => hg.2.1 i (by rw [lhM_len]; exact hi)
  refine ⟨fun i hi j hj => ?_, ?_⟩
  · have := line_step (hrow i hi) (j := j) (by unfold lhM; rw [tab_row hi]; omega)
    unfold lhM at this
    rw [gi_tab hi (by omega)] at this
    unfold lhF at this
    rw [if_pos hj] at this
    exact this
  · refine (eq_tab (tab_len _ _ _) (fun i hi => tab_row hi) fun i j hi hj => ?_)
    unfold lsM
    rw [gi_tab hi hj]
    have hs := (hrow i hi).2
    rw [show (gr (lhM rows) i).length = rows.length from by unfold lhM; exact tab_row hi] at hs
    have hs2 := lh_sum (f := lhF rows) h6 hodd hi _ (fun j hj => by unfold lhF; rw [if_pos hj]) (lh_mid rows i) (fun j hj => by unfold lhF; rw [if_neg (by omega), if_neg (by omega)])
    unfold lhM at hs
    rw [hs2] at hs
    unfold lsF lhF
    split
    · rfl
    · split
      · omega
      · rfl

/-- .. and the other way round -/
theorem ls_good {rows : List (List Int)} (hp : lhP rows) (hg : good (lsM rows)) : lsM rows = lhM rows := by
  obtain ⟨h1, h6, hodd, hlen⟩ := hp
  have hcol : lineOk (gr (tr (lsM rows)) (rows.length / 2)) := hg.2.2 _ (by rw [tr_len, lsM_len]; omega)
  have hval : ∀ i, i < rows.length → gi (gr (tr (lsM rows)) (rows.length / 2)) i = 1 - 2 * sumK (gr rows i) (rows.length / 2) := by
    intro i hi
    rw [gi_tr (by rw [lsM_len]; omega) (by rw [lsM_len]; exact hi)]
    unfold lsM
    rw [gi_tab hi (by omega), ls_mid]
  have hcl : (gr (tr (lsM rows)) (rows.length / 2)).length = rows.length := by rw [tr_row (by rw [lsM_len]; omega), lsM_len]
  have hpart : ∀ k, k ≤ rows.length → sumK (gr (tr (lsM rows)) (rows.length / 2)) k = ((k % 2 : Nat) : Int) := by
    intro k
    induction k with
    | zero => intro _; rfl
    | succ k ih =>
      intro hk
      have h2 := hcol.1 (k + 1) (by omega)
      rw [sumK, ih (by omega), hval k (by omega)] at h2 ⊢
      omega
  refine (eq_tab (tab_len _ _ _) (fun i hi => tab_row hi) fun i j hi hj => ?_)
  unfold lsM
  rw [gi_tab hi hj]
  have e1 := hpart i (by omega)
  have e2 := hpart (i + 1) (by omega)
  rw [sumK, e1, hval i hi] at e2
  unfold lsF lhF
  split
  · rfl
  · split
    · omega
    · rfl

/-- both sides succeed alike -/
theorem lh_iff (rows : List (List Int)) : (lhP rows ∧ good (lhM rows)) ↔ (lhP rows ∧ lsOk rows ∧ good (lsM rows)) :=
  ⟨fun h => ⟨h.1, (lh_good h.1 h.2).1, by rw [(lh_good h.1 h.2).2]; exact h.2⟩, fun h => ⟨h.1, by rw [← ls_good h.1 h.2.2]; exact h.2.2⟩⟩

/-- the matrix with an upper half -/
def uhF (rows : List (List Int)) (i j : Nat) : Int := if i < rows.length then gi (gr rows i) j else gi (gr rows (2 * rows.length - 1 - i)) (2 * rows.length - 1 - j)
def uhM (rows : List (List Int)) : List (List Int) := tab (2 * rows.length) (2 * rows.length) (uhF rows)
def uhP (rows : List (List Int)) : Prop := 1 ≤ rows.length ∧ rows.length ≤ 3 ∧ ∀ i, i < rows.length → (gr rows i).length = 2 * rows.length
/-- as the model makes it -/
def usM (rows : List (List Int)) : List (List Int) := rows ++ (rows.map List.reverse).reverse
theorem usM_len (rows : List (List Int)) : (usM rows).length = 2 * rows.length := by simp [usM]; omega
theorem usM_low {rows : List (List Int)} {i : Nat} (hi : i < rows.length) : gr (usM rows) i = gr rows i := by
  unfold usM gr
  rw [List.getD, List.getD, List.getElem?_append_left hi]
theorem gi_rev {xs : List Int} {j : Nat} (hj : j < xs.length) : gi xs.reverse j = gi xs (xs.length - 1 - j) := by
  rw [gi_lt (by simpa using hj), gi_lt (by omega), List.getElem_reverse]
theorem usM_high {rows : List (List Int)} {i : Nat} (hi : rows.length ≤ i) (hi2 : i < 2 * rows.length) : gr (usM rows) i = (gr rows (2 * rows.length - 1 - i)).reverse := by
  rw [gr_lt (by rw [usM_len]; exact hi2), gr_lt (by omega)]
  unfold usM
  rw [List.getElem_append_right hi, List.getElem_reverse, List.getElem_map]
  congr 2
  simp
  omega

theorem us_eq {rows : List (List Int)} (h : ∀ i, i < rows.length → (gr rows i).length = 2 * rows.length) : usM rows = uhM rows := by
  refine eq_tab (usM_len _) (fun i hi => ?_) fun i j hi hj => ?_
  · by_cases e : i < rows.length
    · rw [usM_low e, h i e]
    · rw [usM_high (by omega) hi, List.length_reverse, h _ (by omega)]
  · unfold uhF
    by_cases e : i < rows.length
    · rw [if_pos e, usM_low e]
    · rw [if_neg e, usM_high (by omega) hi, gi_rev (by rw [h _ (by omega)]; exact hj), h _ (by omega)]

theorem uh_iff (rows : List (List Int)) : (uhP rows ∧ good (uhM rows)) ↔ ((1 ≤ rows.length ∧ rows.length ≤ 3) ∧ good (usM rows)) := by
  constructor
  · rintro ⟨⟨h1, h3, hl⟩, hg⟩
    exact ⟨⟨h1, h3⟩, by rw [us_eq hl]; exact hg⟩
  · rintro ⟨⟨h1, h3⟩, hg⟩
    have hl : ∀ i, i < rows.length → (gr rows i).length = 2 * rows.length := by
      intro i hi
      have := hg.1.2.2 i (by rw [usM_len]; omega)
      rw [usM_low hi, usM_len] at this
      exact this
    exact ⟨⟨h1, h3, hl⟩, by rw [← us_eq hl]; exact hg⟩
end Go.Proofs.Ytgdijjfipicodaa
