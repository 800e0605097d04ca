/- Laws: tables that a call owns, of rows apart; numbers, rows and tables appended. No condition but lengths. -/
import Derived.Test.YtgdijjfipicodaaDpG
import Derived.Test.YtgdijjfipicodaaSame
namespace Go.Proofs.Ytgdijjfipicodaa
open Go.RowKit

theorem gr_appl {m k : List (List Int)} {i : Nat} (h : i < m.length) : gr (m ++ k) i = gr m i := by
  rw [gr_lt (by simp; omega), gr_lt h, List.getElem_append_left h]
theorem gr_appr {m k : List (List Int)} {i : Nat} (h : i < k.length) : gr (m ++ k) (m.length + i) = gr k i := by
  rw [gr_lt (by simp; omega), gr_lt h, List.getElem_append_right (by omega)]
  simp

/-- a table that a call owns, its rows apart -/
def OwnT (w : World) (B : Nat) (v : Value) (m : List (List Int)) (vs : List Value) : Prop := OwnP w B v m.length m m.length vs
theorem OwnT.below {w w' : World} {B : Nat} {v : Value} {m : List (List Int)} {vs : List Value} (h : OwnT w B v m vs) (hb : Below w.heap.size w w') : OwnT w' B v m vs := OwnP.below h hb
theorem OwnT.base {w : World} {B B' : Nat} {v : Value} {m : List (List Int)} {vs : List Value} (h : OwnT w B v m vs) (hB : B' ≤ B) : OwnT w B' v m vs := OwnP.base h hB
theorem OwnT.nil (w : World) (B : Nat) : OwnT w B (.slice none 0 0) [] [] := ⟨World.ownsRow_nil _ _ _ _, fun i hi => absurd hi (by simp), fun i j _ hj => absurd hj (by simp)⟩
theorem OwnT.toM {w : World} {B : Nat} {v : Value} {m : List (List Int)} {vs : List Value} (h : OwnT w B v m vs) : OwnM w B v m := ⟨vs, h⟩
theorem OwnT.read {w : World} {B : Nat} {v : Value} {m : List (List Int)} {vs : List Value} (h : OwnT w B v m vs) : ∃ ao c, v = .slice ao m.length c ∧ m.length ≤ c ∧ c ≤ 9223372036854775807 ∧ MatAt w ao m := h.toM.read
theorem OwnT.len {w : World} {B : Nat} {v : Value} {m : List (List Int)} {vs : List Value} (h : OwnT w B v m vs) : vs.length = m.length := by simpa using h.top.1
/-- the rows' blocks -/
theorem OwnT.old {w : World} {B : Nat} {v : Value} {m : List (List Int)} {vs : List Value} (h : OwnT w B v m vs) : ∀ i, i < m.length → ∀ g, (vs.getD i undef).ownBlock = some g → B ≤ g ∧ g < w.heap.size := fun i hi g hg => (h.rows i hi).lt g hg
theorem OwnI.kept_tab {w w1 : World} {B B' n : Nat} {x u : Value} {ys : List Int} {vs : List Value} (hx : OwnI w B x ys) (ht : w.ownsRow B' 24 1 u n vs) (hg : w.grownBy w1 u.ownBlock) : OwnI w1 B x ys := by
  refine World.ownsRow.kept hx hg ?_
  cases hb : x.ownBlock with
  | none => exact .inl rfl
  | some g => exact .inr (fun e => hx.ne_row ht g hb e.symm)
theorem OwnT.cells {w : World} {B n : Nat} {ad : Addr} {m : List (List Int)} {vs : List Value} {c : Nat} (h : OwnT w B (.slice (some ad) n c) m vs) : (∀ j u, vs[j]? = some u → w.cell? (ad.add j) = some u) ∧ (∀ u ∈ vs, u.oneCell' = true) := by
  have hl := h.len
  obtain ⟨ao, c', e, _, _, hc⟩ := ownsRow_read h.top
  cases e
  refine ⟨fun j u hj => ?_, fun u hu => ?_⟩
  · have hjl : j < vs.length := (List.getElem?_eq_some_iff.1 hj).1
    obtain ⟨b3, o3, e3, hc3⟩ := hc j (by omega)
    cases e3
    rw [Addr.add_lit, hc3, List.getD, hj]
    rfl
  · obtain ⟨i, hi, rfl⟩ := List.mem_iff_getElem.1 hu
    have := (h.rows i (by omega)).read
    rw [List.getD, List.getElem?_eq_getElem hi] at this
    obtain ⟨_, _, e, _⟩ := this
    rw [show vs[i] = (some vs[i]).getD undef from rfl, e]
    rfl
/-- a table behind which the rows of another one, younger, have been put -/
theorem OwnT.join {w w1 : World} {B B' : Nat} {v v' u : Value} {m k : List (List Int)} {vs us : List Value} (h : OwnT w B v m vs) (hk : OwnT w B' u k us) (hBB : B ≤ B')
    (hold : ∀ i, i < m.length → ∀ g, (vs.getD i undef).ownBlock = some g → g < B')
    (h1 : w1.ownsRow B 24 1 v' (m.length + k.length) (vs ++ us)) (kept : ∀ (x : Value) (ys : List Int), OwnI w B x ys → OwnI w1 B x ys) : OwnT w1 B v' (m ++ k) (vs ++ us) := by
  have hl := h.len
  have hl2 := hk.len
  have gl : ∀ i, i < m.length → (vs ++ us).getD i undef = vs.getD i undef := fun i hi => by
    simp only [List.getD]; rw [List.getElem?_append_left (by omega)]
  have grr : ∀ i, m.length ≤ i → (vs ++ us).getD i undef = us.getD (i - m.length) undef := fun i hi => by
    simp only [List.getD]; rw [List.getElem?_append_right (by omega), hl]
  refine ⟨by rw [List.length_append]; exact h1, fun i hi => ?_, fun i j hij hj g hg => ?_⟩
  · rw [List.length_append] at hi
    by_cases hi2 : i < m.length
    · rw [gl i hi2, gr_appl hi2]
      exact kept _ _ (h.rows i hi2)
    · rw [grr i (by omega), show i = m.length + (i - m.length) from by omega, gr_appr (by omega), show m.length + (i - m.length) - m.length = i - m.length from by omega]
      exact kept _ _ ((hk.rows (i - m.length) (by omega)).base hBB)
  · rw [List.length_append] at hj
    by_cases hj2 : j < m.length
    · rw [gl i (by omega)] at hg
      rw [gl j hj2]
      exact h.apart i j hij hj2 g hg
    · rw [grr j (by omega)]
      by_cases hi2 : i < m.length
      · rw [gl i hi2] at hg
        intro hg2
        have a := hold i hi2 g hg
        have b := ((hk.rows (j - m.length) (by omega)).lt g hg2).1
        omega
      · rw [grr i (by omega)] at hg
        exact hk.apart (i - m.length) (j - m.length) (by omega) (by omega) g hg

/-- a number is appended to a row -/
theorem wpList_numT {w : World} {ops : Array Oper} {rest : List Oper} {o : Oper} {a : Act} {Q : Exit → Act → World → Prop} (hgd : o.guard = none) (s x : Operand)
    (ho : o.op = .call { callee := .builtin .append, args := #[s, x], argTypes := #[24, 24] })
    (B : Nat) (v : Value) (xs : List Int) (y : Int) (h : OwnI w B v xs) (hs : a.eval s = v) (hx : a.eval x = .slice (some ⟨w.heap.size, 0, none⟩) 1 1) (hB : B ≤ w.heap.size) (hl : xs.length < 1048576)
    (K : ∀ v' w1, OwnI w1 B v' (xs ++ [y]) → Below B w w1 → wpList Try.prog ops Q rest (a.put o.dst v') w1) : wpList Try.prog ops Q (o :: rest) a (w.alloc (.cells #[.int .i64 y] 3)) := by
  obtain ⟨i0, hi, hz0, hz1, hz2⟩ := info_parts Try.info_int
  refine wpList_append_own _ hgd s x 24 ho B 3 i0 (.int .i64 0) 1 8 Try.underlying24 hi hz0 hz1 hz2 rfl (by decide) v xs.length _ hs (World.ownsRow.alloc h _) ⟨w.heap.size, 0, none⟩ 1 1 [.int .i64 y] hx rfl ?_ ?_ (by unfold maxLen; omega) (by omega) (by simp; omega) ?_
  · exact cell_one_new _ _ _
  · intro u hu; simp at hu; subst hu; rfl
  · intro v' w1 h1 h2 _
    have := h.snoc hB h1 h2
    exact K v' w1 this.1 this.2

/-- a row is appended to a table -/
theorem wpList_rowT {w : World} {ops : Array Oper} {rest : List Oper} {o : Oper} {a : Act} {Q : Exit → Act → World → Prop} (hgd : o.guard = none) (s x : Operand)
    (ho : o.op = .call { callee := .builtin .append, args := #[s, x], argTypes := #[22, 22] })
    (B : Nat) (v u : Value) (m : List (List Int)) (vs : List Value) (row : List Int) (h : OwnT w B v m vs) (hu : OwnI w B u row) (hs : a.eval s = v) (hx : a.eval x = .slice (some ⟨w.heap.size, 0, none⟩) 1 1)
    (hne : ∀ j, j < m.length → ∀ g, (vs.getD j undef).ownBlock = some g → u.ownBlock ≠ some g) (hB : B ≤ w.heap.size) (hl : m.length < 1048576)
    (K : ∀ v' w1, OwnT w1 B v' (m ++ [row]) (vs ++ [u]) → OwnI w1 B u row → Below B w w1 → wpList Try.prog ops Q rest (a.put o.dst v') w1) : wpList Try.prog ops Q (o :: rest) a (w.alloc (.cells #[u] 24)) := by
  obtain ⟨j0, hj, hy0, hy1, hy2⟩ := info_parts Try.info_ints
  refine wpList_append_own _ hgd s x 22 ho B 24 j0 (.slice none 0 0) 1 24 Try.underlying22 hj hy0 hy1 hy2 rfl (by decide) v m.length _ hs (World.ownsRow.alloc h.top _) ⟨w.heap.size, 0, none⟩ 1 1 [u] hx rfl ?_ ?_ (by unfold maxLen; omega) (by omega) (by simp; omega) ?_
  · exact cell_one_new _ _ _
  · intro z hz; simp at hz; subst hz; obtain ⟨_, _, e, _⟩ := hu.read; rw [e]; rfl
  · intro v' w1 h1 h2 _
    have ho : OwnT (w.alloc (.cells #[u] 24)) B v m vs := OwnP.below h ((Below.refl _ _).alloc (Nat.le_refl _) _)
    have hu2 : OwnI (w.alloc (.cells #[u] 24)) B u row := hu.below ((Below.refl _ _).alloc (Nat.le_refl _) _)
    have hkept : ∀ (x : Value) (ys : List Int), OwnI w B x ys → OwnI w1 B x ys := fun x ys hx => (hx.below ((Below.refl _ _).alloc (Nat.le_refl _) (.cells #[u] 24))).kept_tab ho.top h2
    refine K v' w1 ?_ (hkept _ _ hu) (Below.grown ((Below.refl B w).alloc hB _) h2 (by simp; omega) (fun k hk => (World.ownsRow.lt h.top k hk).1))
    have hlv := h.len
    have gl : ∀ i, i < m.length → (vs ++ [u]).getD i undef = vs.getD i undef := fun i hi => by
      simp only [List.getD]; rw [List.getElem?_append_left (by omega)]
    have gu : (vs ++ [u]).getD m.length undef = u := by
      simp only [List.getD]; rw [List.getElem?_append_right (by omega), hlv]; simp
    refine ⟨by rw [List.length_append]; exact h1, fun i hi => ?_, fun i j hij hj g hg => ?_⟩
    · rw [List.length_append, List.length_singleton] at hi
      by_cases hi2 : i < m.length
      · rw [gl i hi2, gr_appl hi2]
        exact hkept _ _ (h.rows i hi2)
      · obtain rfl : i = m.length := by omega
        have e : gr (m ++ [row]) m.length = row := by
          have := gr_appr (m := m) (k := [row]) (i := 0) (by simp)
          rw [Nat.add_zero] at this
          exact this
        rw [gu, e]
        exact hkept _ _ hu
    · rw [List.length_append, List.length_singleton] at hj
      rw [gl i (by omega)] at hg
      by_cases hj2 : j < m.length
      · rw [gl j hj2]
        exact h.apart i j hij hj2 g hg
      · obtain rfl : j = m.length := by omega
        rw [gu]
        exact hne i (by omega) g hg

/-- the rows of a younger table are appended to a table -/
theorem wpList_rowsT {w : World} {ops : Array Oper} {rest : List Oper} {o : Oper} {a : Act} {Q : Exit → Act → World → Prop} (hgd : o.guard = none) (s x : Operand)
    (ho : o.op = .call { callee := .builtin .append, args := #[s, x], argTypes := #[22, 22] })
    (B B' : Nat) (v u : Value) (m k : List (List Int)) (vs us : List Value) (h : OwnT w B v m vs) (hk : OwnT w B' u k us) (hs : a.eval s = v) (hx : a.eval x = u) (hBB : B ≤ B') (hold : ∀ i, i < m.length → ∀ g, (vs.getD i undef).ownBlock = some g → g < B')
    (hB : B ≤ w.heap.size) (hl : m.length + k.length ≤ 1048576)
    (K : ∀ v' w1, OwnT w1 B v' (m ++ k) (vs ++ us) → Below B w w1 → wpList Try.prog ops Q rest (a.put o.dst v') w1) : wpList Try.prog ops Q (o :: rest) a w := by
  obtain ⟨j0, hj, hy0, hy1, hy2⟩ := info_parts Try.info_ints
  obtain ⟨sa, sc, rfl, _, _, _⟩ := hk.read
  cases sa with
  | none =>
    have hM0 : k = [] ∧ sc = 0 := by
      rcases hk.top.2 with ⟨h1, h2⟩ | ⟨g, cap, cur, h1, _⟩
      · simp at h1; exact ⟨List.eq_nil_of_length_eq_zero h2, h1.2⟩
      · simp at h1
    obtain ⟨rfl, rfl⟩ := hM0
    have hus : us = [] := List.eq_nil_of_length_eq_zero hk.len
    subst hus
    refine wpList_append_own_none hgd s x 22 ho B 24 j0 1 Try.underlying22 hj v m.length vs hs h.top hx ?_
    exact K v w (by rw [List.append_nil, List.append_nil]; exact h) (Below.refl _ _)
  | some ad =>
    have hcl := hk.cells
    refine wpList_append_own _ hgd s x 22 ho B 24 j0 (.slice none 0 0) 1 24 Try.underlying22 hj hy0 hy1 hy2 rfl (by decide) v m.length vs hs h.top ad k.length sc us hx (by rw [hk.len]; omega) hcl.1 hcl.2 (by unfold maxLen; omega) (by omega) hB ?_
    intro v' w1 h1 h2 _
    exact K v' w1 (h.join hk hBB hold h1 (fun x ys hx => hx.kept_tab h.top h2)) (Below.grown (Below.refl _ _) h2 hB (fun k hk => (World.ownsRow.lt h.top k hk).1))
end Go.Proofs.Ytgdijjfipicodaa
