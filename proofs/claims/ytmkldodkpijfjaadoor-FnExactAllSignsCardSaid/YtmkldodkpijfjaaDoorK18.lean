/- Parts of proofs: contracts and plain facts. Conditions: as each says. -/
import Derived.Test.YtmkldodkpijfjaaDoorK17
namespace Go.Proofs.YtmkldodkpijfjaaDoor
open Go.RowKit

def tabW (n : Nat) (s : List Int) : Int := potL (iterT (dnCh n) (n - s.length) [((s, 0), 1)]) (fun _ => 1)
def boundC (n : Nat) : Bool := ((subs (iota n)).all fun s => decide (0 ≤ tabW n s) && decide (tabW n s ≤ 100000)) && (tabW n [] == (cI n : Nat))
set_option maxRecDepth 1000000 in
theorem bound_ok : boundC 1 = true ∧ boundC 2 = true ∧ boundC 3 = true ∧ boundC 4 = true ∧ boundC 5 = true ∧ boundC 6 = true := by decide +kernel
theorem bound_all {n : Nat} (h1 : 1 ≤ n) (h6 : n ≤ 6) : boundC n = true := by
  obtain ⟨a, b, c, d, e, f⟩ := bound_ok
  rcases (by omega : n = 1 ∨ n = 2 ∨ n = 3 ∨ n = 4 ∨ n = 5 ∨ n = 6) with rfl | rfl | rfl | rfl | rfl | rfl
  · exact a
  · exact b
  · exact c
  · exact d
  · exact e
  · exact f
theorem waysB_tab (n : Nat) (s : List Int) : waysB n s = tabW n s := by unfold waysB tabW; rw [ways_tab0]
theorem waysB_bd {n : Nat} (h1 : 1 ≤ n) (h6 : n ≤ 6) {s : List Int} (hs : s.Sublist (iota n)) : 0 ≤ waysB n s ∧ waysB n s ≤ 100000 := by
  have h := bound_all h1 h6
  simp only [boundC, Bool.and_eq_true] at h
  have h2 := List.all_eq_true.1 h.1 s (mem_subs hs)
  simp only [Bool.and_eq_true, decide_eq_true_eq] at h2
  rw [waysB_tab]
  exact h2
theorem waysB_all {n : Nat} (h1 : 1 ≤ n) (h6 : n ≤ 6) : waysB n [] = (cI n : Nat) := by
  have h := bound_all h1 h6
  simp only [boundC, Bool.and_eq_true, beq_iff_eq] at h
  rw [waysB_tab]
  exact h.2
theorem wrap_ways {n : Nat} (h1 : 1 ≤ n) (h6 : n ≤ 6) {s : List Int} (hs : s.Sublist (iota n)) : wrap64 (waysB n s) = waysB n s := by
  have := waysB_bd h1 h6 hs
  unfold wrap64
  omega
/-- the row under which a rank falls, and the rank among its own -/
def chosenB (n : Nat) : List (List Int) → Int → List Int × Int
  | [], _ => ([], 0)
  | b :: bs, r => if r < wrap64 (waysB n b) then (b, r) else chosenB n bs (wrap64 (r - wrap64 (waysB n b)))
theorem chosenB_step {n : Nat} {bs : List (List Int)} {k : Nat} (h : k < bs.length) (r : Int) : chosenB n (bs.drop k) r = if r < wrap64 (waysB n (gr bs k)) then (gr bs k, r) else chosenB n (bs.drop (k + 1)) (wrap64 (r - wrap64 (waysB n (gr bs k)))) := by
  rw [List.drop_eq_getElem_cons h, chosenB, gr_lt h]
theorem chosenB_ok {n : Nat} (h1 : 1 ≤ n) (h6 : n ≤ 6) : ∀ (L : List (List Int)) (r : Int), (∀ y ∈ L, y.Sublist (iota n) ∧ y.length < n ∨ y = iota n) → 0 ≤ r → r < sumL L (waysB n) → r ≤ 1000000 →
    (chosenB n L r).1 ∈ L ∧ 0 ≤ (chosenB n L r).2 ∧ (chosenB n L r).2 < waysB n (chosenB n L r).1 ∧ ((∀ y ∈ L, y.length < n) → chosenF (L.map (compl n)) r = (compl n (chosenB n L r).1, (chosenB n L r).2))
  | [], r, _, h0, hr, _ => by simp [sumL] at hr; omega
  | y :: L, r, hL, h0, hr, hb => by
    have hy : y.Sublist (iota n) := by
      rcases hL y (by simp) with h | rfl
      · exact h.1
      · exact List.Sublist.refl _
    have hw := wrap_ways h1 h6 hy
    have hbd := waysB_bd h1 h6 hy
    by_cases e : r < waysB n y
    · have e1 : chosenB n (y :: L) r = (y, r) := by rw [chosenB, hw, if_pos e]
      rw [e1]
      refine ⟨by simp, h0, e, fun hlt => ?_⟩
      rw [List.map_cons, chosenF, ← ways_compl h1 h6 hy (hlt y (by simp)), hw, if_pos e]
    · have ew : wrap64 (r - waysB n y) = r - waysB n y := by unfold wrap64; omega
      have e1 : chosenB n (y :: L) r = chosenB n L (r - waysB n y) := by rw [chosenB, hw, if_neg e, ew]
      rw [sumL_cons] at hr
      obtain ⟨a, b, c, d⟩ := chosenB_ok h1 h6 L (r - waysB n y) (fun z hz => hL z (by simp [hz])) (by omega) (by omega) (by omega)
      rw [e1]
      refine ⟨by simp [a], b, c, fun hlt => ?_⟩
      rw [List.map_cons, chosenF, ← ways_compl h1 h6 hy (hlt y (by simp)), hw, if_neg e, ew]
      exact d (fun z hz => hlt z (by simp [hz]))
/-- the columns behind k rows, and the rank that is left -/
def atSt (n : Nat) (r : Int) : Nat → List Int × Int
  | 0 => ([], r)
  | k + 1 => chosenB n (nextL n (atSt n r k).1) (atSt n r k).2
theorem atSt_ok {n : Nat} (h1 : 1 ≤ n) (h6 : n ≤ 6) {r : Int} (h0 : 0 ≤ r) (hr : r < (cI n : Nat)) : ∀ k, k ≤ n → (atSt n r k).1.Sublist (iota n) ∧ ColsN n (atSt n r k).1 ∧ (atSt n r k).1.length = k ∧ 0 ≤ (atSt n r k).2 ∧ (atSt n r k).2 < waysB n (atSt n r k).1
  | 0, _ => ⟨List.nil_sublist _, ⟨trivial, fun x hx => by cases hx⟩, rfl, h0, by show r < waysB n []; rw [waysB_all h1 h6]; exact hr⟩
  | k + 1, hk => by
    obtain ⟨a, b, c, d, e⟩ := atSt_ok h1 h6 h0 hr k (by omega)
    have hsum : waysB n (atSt n r k).1 = sumL (nextL n (atSt n r k).1) (waysB n) := by
      rw [waysB_more b (by omega)]
      exact (sumL_perm (next_perm n _) _).symm
    have hbd := waysB_bd h1 h6 a
    obtain ⟨x, y, z, _⟩ := chosenB_ok h1 h6 (nextL n (atSt n r k).1) (atSt n r k).2 (fun y hy => by
      have := next_mem h1 h6 a hy
      rcases Nat.lt_or_eq_of_le (show y.length ≤ n by omega) with h | h
      · exact .inl ⟨this.1, h⟩
      · exact .inr (this.1.eq_of_length (by rw [iota_len, h]))) d (by rw [← hsum]; exact e) (by omega)
    have hm := next_mem h1 h6 a x
    exact ⟨hm.1, (next_cols b x).1, by show (chosenB n _ _).1.length = _; omega, y, z⟩
/-- where it is found, and what the program finds -/
theorem atSt_next {n : Nat} (h1 : 1 ≤ n) (h6 : n ≤ 6) {r : Int} (h0 : 0 ≤ r) (hr : r < (cI n : Nat)) {k : Nat} (hk : k < n) : (atSt n r (k + 1)).1 ∈ nextL n (atSt n r k).1 ∧
    (k + 1 < n → chosenF (above (compl n (atSt n r k).1)) (atSt n r k).2 = (compl n (atSt n r (k + 1)).1, (atSt n r (k + 1)).2)) := by
  obtain ⟨a, b, c, d, e⟩ := atSt_ok h1 h6 h0 hr k (by omega)
  have hsum : waysB n (atSt n r k).1 = sumL (nextL n (atSt n r k).1) (waysB n) := by
    rw [waysB_more b (by omega)]
    exact (sumL_perm (next_perm n _) _).symm
  have hbd := waysB_bd h1 h6 a
  obtain ⟨x, y, z, u⟩ := chosenB_ok h1 h6 (nextL n (atSt n r k).1) (atSt n r k).2 (fun y hy => by
    have := next_mem h1 h6 a hy
    rcases Nat.lt_or_eq_of_le (show y.length ≤ n by omega) with h | h
    · exact .inl ⟨this.1, h⟩
    · exact .inr (this.1.eq_of_length (by rw [iota_len, h]))) d (by rw [← hsum]; exact e) (by omega)
  refine ⟨x, fun hlt => ?_⟩
  rw [← chain_at h1 h6 a (by omega)]
  exact u (fun y hy => by have := next_mem h1 h6 a hy; omega)
/-- the first k rows of the matrix -/
def outM (n : Nat) (r : Int) (k : Nat) : List (List Int) := (List.range k).map fun i => stepF n (atSt n r i).1 (atSt n r (i + 1)).1
theorem outM_len (n : Nat) (r : Int) (k : Nat) : (outM n r k).length = k := by simp [outM]
theorem outM_succ (n : Nat) (r : Int) (k : Nat) : outM n r (k + 1) = outM n r k ++ [stepF n (atSt n r k).1 (atSt n r (k + 1)).1] := by simp [outM, List.range_succ]
theorem gr_outM {n : Nat} {r : Int} {k i : Nat} (h : i < k) : gr (outM n r k) i = stepF n (atSt n r i).1 (atSt n r (i + 1)).1 := by
  rw [gr_lt (by rw [outM_len]; exact h)]
  simp [outM]
theorem outM_small {n : Nat} (h6 : n ≤ 6) (r : Int) : Small (outM n r n) := ⟨by rw [outM_len]; omega, fun i hi => by
  rw [outM_len] at hi
  rw [gr_outM hi, stepF_len]
  omega⟩
/-- the rows of the program: what is left, k of them -/
def restM (n : Nat) (r : Int) (k : Nat) : List (List Int) := (List.range k).map fun i => compl n (atSt n r i).1
theorem restM_len (n : Nat) (r : Int) (k : Nat) : (restM n r k).length = k := by simp [restM]
theorem restM_succ (n : Nat) (r : Int) (k : Nat) : restM n r (k + 1) = restM n r k ++ [compl n (atSt n r k).1] := by simp [restM, List.range_succ]
theorem gr_restM {n : Nat} {r : Int} {k i : Nat} (h : i < k) : gr (restM n r k) i = compl n (atSt n r i).1 := by
  rw [gr_lt (by rw [restM_len]; exact h)]
  simp [restM]
/-- a row of signs from what is left before and behind -/
def stepC (n : Nat) : Bool := (subs (iota n)).all fun s => (subs (iota n)).all fun y => (List.range n).all fun j => gi (stepF n s y) j == occ (compl n s) j (compl n s).length - occ (compl n y) j (compl n y).length
set_option maxRecDepth 1000000 in
theorem stepC_ok : stepC 1 = true ∧ stepC 2 = true ∧ stepC 3 = true ∧ stepC 4 = true ∧ stepC 5 = true ∧ stepC 6 = true := by decide +kernel
theorem step_occ {n : Nat} (h1 : 1 ≤ n) (h6 : n ≤ 6) {s y : List Int} (hs : s.Sublist (iota n)) (hy : y.Sublist (iota n)) {j : Nat} (hj : j < n) : gi (stepF n s y) j = occ (compl n s) j (compl n s).length - occ (compl n y) j (compl n y).length := by
  have h : stepC n = true := by
    obtain ⟨a, b, c, d, e, f⟩ := stepC_ok
    rcases (by omega : n = 1 ∨ n = 2 ∨ n = 3 ∨ n = 4 ∨ n = 5 ∨ n = 6) with rfl | rfl | rfl | rfl | rfl | rfl
    · exact a
    · exact b
    · exact c
    · exact d
    · exact e
    · exact f
  have h2 := List.all_eq_true.1 (List.all_eq_true.1 (List.all_eq_true.1 h s (mem_subs hs)) y (mem_subs hy)) j (List.mem_range.2 hj)
  simpa using h2
theorem compl_full (n : Nat) : compl n (iota n) = [] := by
  unfold compl
  rw [List.filter_eq_nil_iff]
  intro x hx
  simpa using hx
theorem row_extI {a b : List Int} (hl : a.length = b.length) (h : ∀ j, j < a.length → gi a j = gi b j) : a = b := List.ext_getElem hl fun j h1 h2 => by
  have := h j h1
  rwa [gi_lt h1, gi_lt h2] at this
theorem mat_extI {a b : List (List Int)} (hl : a.length = b.length) (h : ∀ j, j < a.length → gr a j = gr b j) : a = b := List.ext_getElem hl fun j h1 h2 => by
  have := h j h1
  rwa [gr_lt h1, gr_lt h2] at this
/-- both matrices are the same -/
theorem rest_out {n : Nat} (h1 : 1 ≤ n) (h6 : n ≤ 6) {r : Int} (h0 : 0 ≤ r) (hr : r < (cI n : Nat)) : flipT (restM n r n).reverse = outM n r n := by
  have hl : (restM n r n).reverse.length = n := by rw [List.length_reverse, restM_len]
  have hg : ∀ i, i < n → gr (restM n r n).reverse i = compl n (atSt n r (n - 1 - i)).1 := fun i hi => by
    rw [gr_reverse (by rw [restM_len]; exact hi), restM_len, gr_restM (by omega)]
  refine mat_extI (by unfold flipT; rw [List.length_reverse, fromTab_len, hl, outM_len]) fun i hi => ?_
  have hi' : i < n := by unfold flipT at hi; rw [List.length_reverse, fromTab_len, hl] at hi; exact hi
  have e1 : gr (flipT (restM n r n).reverse) i = gr (fromTab (restM n r n).reverse) (n - 1 - i) := by
    unfold flipT
    rw [gr_reverse (by rw [fromTab_len, hl]; exact hi'), fromTab_len, hl]
  rw [e1, gr_outM hi']
  have hrow : (gr (fromTab (restM n r n).reverse) (n - 1 - i)).length = n := by
    unfold fromTab
    rw [tab_row (by rw [hl]; omega), hl]
  refine row_extI (by rw [hrow, stepF_len]) fun j hj => ?_
  rw [hrow] at hj
  obtain ⟨a, _, c, _, _⟩ := atSt_ok h1 h6 h0 hr i (by omega)
  obtain ⟨a2, _, c2, _, _⟩ := atSt_ok h1 h6 h0 hr (i + 1) (by omega)
  rw [step_occ h1 h6 a a2 hj]
  unfold fromTab
  rw [gi_tab (by rw [hl]; omega) (by rw [hl]; exact hj)]
  unfold signAt
  rw [hg _ (by omega), show n - 1 - (n - 1 - i) = i from by omega]
  by_cases hp : 0 < n - 1 - i
  · rw [if_pos hp, hg _ (by omega), show n - 1 - (n - 1 - i - 1) = i + 1 from by omega]
  · rw [if_neg hp]
    have e : (atSt n r (i + 1)).1 = iota n := a2.eq_of_length (by rw [c2, iota_len]; omega)
    rw [e, compl_full]
    simp [occ]
end Go.Proofs.YtmkldodkpijfjaaDoor

