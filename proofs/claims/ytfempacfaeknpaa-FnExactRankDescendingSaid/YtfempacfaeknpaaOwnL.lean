/- Laws: lists of tables that a call owns, all rows of all tables apart. No condition but lengths. -/
import Derived.Test.YtfempacfaeknpaaOwnT
import Derived.Test.YtfempacfaeknpaaOwnW
import Derived.Maps.AppendAt
namespace Go.Proofs.Ytfempacfaeknpaa
open Go.RowKit

theorem OwnT.keptG {w w1 : World} {B B' n' : Nat} {x v : Value} {m : List (List Int)} {vs ys : List Value} {e' : TypeId} (h : OwnT w B x m vs) (k : w.ownsRow B' e' 1 v n' ys) (h1 : 42 ≠ e') (h2 : 3 ≠ e') (hg : w.grownBy w1 v.ownBlock) : OwnT w1 B x m vs :=
  ⟨row_kept h.top k h1 hg, fun i hi => row_kept (h.rows i hi) k h2 hg, h.apart⟩
/-- the slice values of the rows of table i -/
def ug (uss : List (List Value)) (i : Nat) : List Value := uss.getD i []
theorem ug_left {a b : List (List Value)} {i : Nat} (h : i < a.length) : ug (a ++ b) i = ug a i := by
  simp only [ug, List.getD]; rw [List.getElem?_append_left h]
theorem ug_right {a b : List (List Value)} {i : Nat} (h : a.length ≤ i) : ug (a ++ b) i = ug b (i - a.length) := by
  simp only [ug, List.getD]; rw [List.getElem?_append_right h]
/-- the rows of two tables share no block -/
def Apart2 (us vs : List Value) : Prop := ∀ a b, a < us.length → b < vs.length → ∀ g, (us.getD a undef).ownBlock = some g → (vs.getD b undef).ownBlock ≠ some g
structure OwnL (w : World) (B : Nat) (v : Value) (ts : List (List (List Int))) (vs : List Value) (uss : List (List Value)) : Prop where
  top : w.ownsRow B 22 1 v ts.length vs
  num : uss.length = ts.length
  each : ∀ i, i < ts.length → OwnT w B (vs.getD i undef) (gt ts i) (ug uss i)
  apart : ∀ i j, i < j → j < ts.length → Apart2 (ug uss i) (ug uss j)
theorem OwnL.below {w w' : World} {B : Nat} {v : Value} {ts : List (List (List Int))} {vs : List Value} {uss : List (List Value)} (h : OwnL w B v ts vs uss) (hb : Below w.heap.size w w') : OwnL w' B v ts vs uss := ⟨ownsRow_below h.top hb, h.num, fun i hi => (h.each i hi).below hb, h.apart⟩
theorem OwnL.base {w : World} {B B' : Nat} {v : Value} {ts : List (List (List Int))} {vs : List Value} {uss : List (List Value)} (h : OwnL w B v ts vs uss) (hB : B' ≤ B) : OwnL w B' v ts vs uss := ⟨ownsRow_base h.top hB, h.num, fun i hi => (h.each i hi).base hB, h.apart⟩
theorem OwnL.toW {w : World} {B : Nat} {v : Value} {ts : List (List (List Int))} {vs : List Value} {uss : List (List Value)} (h : OwnL w B v ts vs uss) : OwnW w B v ts vs := ⟨h.top, fun i hi => ⟨_, (h.each i hi).toV.base (Nat.zero_le _)⟩⟩
theorem OwnL.len {w : World} {B : Nat} {v : Value} {ts : List (List (List Int))} {vs : List Value} {uss : List (List Value)} (h : OwnL w B v ts vs uss) : vs.length = ts.length := by simpa using h.top.1
theorem OwnL.head {w : World} {B : Nat} {v : Value} {ts : List (List (List Int))} {vs : List Value} {uss : List (List Value)} (h : OwnL w B v ts vs uss) : ∃ ao c, v = .slice ao ts.length c ∧ ts.length ≤ c ∧ c ≤ 9223372036854775807 := h.toW.head
/-- the blocks of rows -/
theorem OwnL.old {w : World} {B : Nat} {v : Value} {ts : List (List (List Int))} {vs : List Value} {uss : List (List Value)} (h : OwnL w B v ts vs uss) {i : Nat} (hi : i < ts.length) {a : Nat} (ha : a < (ug uss i).length) {g : Nat} (hg : ((ug uss i).getD a undef).ownBlock = some g) : B ≤ g ∧ g < w.heap.size :=
  (h.each i hi).old a (by rw [← (h.each i hi).len]; exact ha) g hg
/-- a list that is written out, of a table without rows -/
theorem OwnL.one0 (w : World) : OwnL (w.alloc (.cells #[.slice none 0 0] 22)) w.heap.size (.slice (some ⟨w.heap.size, 0, none⟩) 1 1) [[]] [.slice none 0 0] [[]] := by
  refine ⟨⟨by simp, .inr ⟨w.heap.size, 1, _, rfl, Nat.le_refl _, heap_alloc_new w _, Nat.le_refl _, by decide, rfl, rfl⟩⟩, rfl, fun i hi => ?_, fun i j hij hj => ?_⟩
  · obtain rfl : i = 0 := by simp at hi; omega
    exact OwnT.nil _ _
  · simp at hj; omega

/-- a table, written out in a list of one, is appended to a list -/
theorem wpList_tabL {w : World} {ops : Array Oper} {rest : List Oper} {o : Oper} {a : Act} {Q : Exit → Act → World → Prop} (hgd : o.guard = none) (s x : Operand)
    (ho : o.op = .call { callee := .builtin .append, args := #[s, x], argTypes := #[29, 29] })
    (B : Nat) (v u : Value) (m : List (List (List Int))) (vs : List Value) (uss : List (List Value)) (t : List (List Int)) (us : List Value) (h : OwnL w B v m vs uss) (hu : OwnT w B u t us) (hs : a.eval s = v) (hx : a.eval x = .slice (some ⟨w.heap.size, 0, none⟩) 1 1)
    (hne : ∀ i, i < m.length → Apart2 (ug uss i) us) (hB : B ≤ w.heap.size) (hl : m.length < 5860000000000)
    (K : ∀ v' w1, OwnL w1 B v' (m ++ [t]) (vs ++ [u]) (uss ++ [us]) → (w.alloc (.cells #[u] 22)).grownBy w1 v.ownBlock → Below B w w1 → (v'.ownBlock = v.ownBlock ∨ v'.ownBlock = some (w.heap.size + 1)) → wpList Try.prog ops Q rest (a.put o.dst v') w1) : wpList Try.prog ops Q (o :: rest) a (w.alloc (.cells #[u] 22)) := by
  obtain ⟨j0, hj, hy0, hy1, hy2⟩ := info_parts Try.info_intssW
  refine wpList_append_own_at _ hgd s x 29 ho B 22 j0 (.slice none 0 0) 1 24 Try.underlying29 hj hy0 hy1 hy2 rfl (by decide) v m.length _ hs (World.ownsRow.alloc h.top _) ⟨w.heap.size, 0, none⟩ 1 1 [u] hx rfl ?_ ?_ (by unfold maxLen; omega) (by omega) (by simp; omega) ?_
  · exact cell_one_new _ _ _
  · intro z hz; simp at hz; subst hz; obtain ⟨_, _, e, _⟩ := hu.read; rw [e]; rfl
  · intro v' w1 h1 h2 _ h5
    have h5' : v'.ownBlock = v.ownBlock ∨ v'.ownBlock = some (w.heap.size + 1) := by simpa using h5
    have hb : Below w.heap.size w (w.alloc (.cells #[u] 22)) := (Below.refl _ _).alloc (Nat.le_refl _) _
    have ho := h.below hb
    have hu2 := hu.below hb
    refine K v' w1 ⟨by rw [List.length_append]; exact h1, by simp [h.num], fun i hi => ?_, fun i j hij hj => ?_⟩ h2 (Below.grown ((Below.refl B w).alloc hB _) h2 (by simp; omega) (fun k hk => (World.ownsRow.lt h.top k hk).1)) h5'
    · rw [List.length_append, List.length_singleton] at hi
      by_cases hi2 : i < m.length
      · rw [getD_left (by rw [h.len]; exact hi2), gt_app_left hi2, ug_left (by rw [h.num]; exact hi2)]
        exact (ho.each i hi2).keptG ho.top (by decide) (by decide) h2
      · obtain rfl : i = m.length := by omega
        rw [getD_right (by rw [h.len]; exact Nat.le_refl _), h.len, Nat.sub_self, ug_right (by rw [h.num]; exact Nat.le_refl _), h.num, Nat.sub_self]
        have e : gt (m ++ [t]) m.length = t := by
          have := gt_app_right (a := m) (b := [t]) (i := 0) (by simp)
          rw [Nat.add_zero] at this
          exact this
        rw [e]
        exact hu2.keptG ho.top (by decide) (by decide) h2
    · rw [List.length_append, List.length_singleton] at hj
      rw [ug_left (by rw [h.num]; omega)]
      by_cases hj2 : j < m.length
      · rw [ug_left (by rw [h.num]; exact hj2)]
        exact h.apart i j hij hj2
      · obtain rfl : j = m.length := by omega
        rw [ug_right (by rw [h.num]; exact Nat.le_refl _), h.num, Nat.sub_self]
        exact hne i (by omega)

/-- reading one of the tables -/
theorem OwnL.at {w : World} {B n c : Nat} {ao : Option Addr} {ts : List (List (List Int))} {vs : List Value} {uss : List (List Value)} (h : OwnL w B (.slice ao n c) ts vs uss) {i : Nat} (hi : i < ts.length) :
    ∃ b o r d, ao = some ⟨b, o, none⟩ ∧ w.cell? ⟨b, o + i, none⟩ = some (.slice r (gt ts i).length d) ∧ vs.getD i undef = .slice r (gt ts i).length d ∧ (gt ts i).length ≤ d ∧ d ≤ 9223372036854775807 ∧ MatAt w r (gt ts i) := by
  obtain ⟨ao', c', e, _, _, hc⟩ := ownsRow_read h.top
  cases e
  obtain ⟨b, o, e, hcell⟩ := hc i hi
  obtain ⟨r, d, hr, h3, h4, hm⟩ := (h.each i hi).read
  exact ⟨b, o, r, d, e, by rw [hcell, hr], hr, h3, h4, hm⟩
/-- a table of one row, written out -/
theorem OwnT.one {w : World} {B : Nat} {u : Value} {row : List Int} (h : OwnI w B u row) (hB : B ≤ w.heap.size) : OwnT (w.alloc (.cells #[u] 42)) B (.slice (some ⟨w.heap.size, 0, none⟩) 1 1) [row] [u] := by
  refine ⟨⟨by simp, .inr ⟨w.heap.size, 1, _, rfl, hB, heap_alloc_new w _, Nat.le_refl _, by decide, rfl, rfl⟩⟩, fun i hi => ?_, fun i j hij hj => ?_⟩
  · obtain rfl : i = 0 := by simp at hi; omega
    exact h.below ((Below.refl _ _).alloc (Nat.le_refl _) _)
  · simp at hj; omega
/-- the rows of a table apart are put behind a table -/
theorem OwnT.join2 {w w1 : World} {B B' : Nat} {v v' u : Value} {m k : List (List Int)} {vs us : List Value} (h : OwnT w B v m vs) (hk : OwnT w B' u k us) (hBB : B ≤ B')
    (hap : Apart2 vs us)
    (h1 : w1.ownsRow B 42 1 v' (m.length + k.length) (vs ++ us)) (kept : ∀ (x : Value) (ys : List Int), OwnI w B x ys → OwnI w1 B x ys) : OwnT w1 B v' (m ++ k) (vs ++ us) := by
  have hl := h.len
  have hl2 := hk.len
  have gl : ∀ i, i < m.length → (vs ++ us).getD i undef = vs.getD i undef := fun i hi => by
    simp only [List.getD]; rw [List.getElem?_append_left (by omega)]
  have grr : ∀ i, m.length ≤ i → (vs ++ us).getD i undef = us.getD (i - m.length) undef := fun i hi => by
    simp only [List.getD]; rw [List.getElem?_append_right (by omega), hl]
  refine ⟨by rw [List.length_append]; exact h1, fun i hi => ?_, fun i j hij hj g hg => ?_⟩
  · rw [List.length_append] at hi
    by_cases hi2 : i < m.length
    · rw [gl i hi2, gr_appl hi2]
      exact kept _ _ (h.rows i hi2)
    · rw [grr i (by omega), show i = m.length + (i - m.length) from by omega, gr_appr (by omega), show m.length + (i - m.length) - m.length = i - m.length from by omega]
      exact kept _ _ ((hk.rows (i - m.length) (by omega)).base hBB)
  · rw [List.length_append] at hj
    by_cases hj2 : j < m.length
    · rw [gl i (by omega)] at hg
      rw [gl j hj2]
      exact h.apart i j hij hj2 g hg
    · rw [grr j (by omega)]
      by_cases hi2 : i < m.length
      · rw [gl i hi2] at hg
        exact hap i (j - m.length) (by omega) (by omega) g hg
      · rw [grr i (by omega)] at hg
        exact hk.apart (i - m.length) (j - m.length) (by omega) (by omega) g hg
/-- the rows of a table apart are appended to a table -/
theorem wpList_rowsL {w : World} {ops : Array Oper} {rest : List Oper} {o : Oper} {a : Act} {Q : Exit → Act → World → Prop} (hgd : o.guard = none) (s x : Operand)
    (ho : o.op = .call { callee := .builtin .append, args := #[s, x], argTypes := #[22, 22] })
    (B B' : Nat) (v u : Value) (m k : List (List Int)) (vs us : List Value) (h : OwnT w B v m vs) (hk : OwnT w B' u k us) (hs : a.eval s = v) (hx : a.eval x = u) (hBB : B ≤ B') (hap : Apart2 vs us)
    (hB : B ≤ w.heap.size) (hl : m.length + k.length ≤ 1048576)
    (K : ∀ v' w1, OwnT w1 B v' (m ++ k) (vs ++ us) → w.grownBy w1 v.ownBlock → wpList Try.prog ops Q rest (a.put o.dst v') w1) : wpList Try.prog ops Q (o :: rest) a w := by
  obtain ⟨j0, hj, hy0, hy1, hy2⟩ := info_parts Try.info_ints
  obtain ⟨sa, sc, rfl, _, _, _⟩ := hk.read
  cases sa with
  | none =>
    have hM0 : k = [] ∧ sc = 0 := by
      rcases hk.top.2 with ⟨h1, h2⟩ | ⟨g, cap, cur, h1, _⟩
      · simp at h1; exact ⟨List.eq_nil_of_length_eq_zero h2, h1.2⟩
      · simp at h1
    obtain ⟨rfl, rfl⟩ := hM0
    have hus : us = [] := List.eq_nil_of_length_eq_zero hk.len
    subst hus
    refine wpList_append_own_none hgd s x 22 ho B 42 j0 1 Try.underlying22 hj v m.length vs hs h.top hx ?_
    exact K v w (by rw [List.append_nil, List.append_nil]; exact h) (World.grownBy.refl _ _)
  | some ad =>
    have hcl := hk.cells
    refine wpList_append_own _ hgd s x 22 ho B 42 j0 (.slice none 0 0) 1 24 Try.underlying22 hj hy0 hy1 hy2 rfl (by decide) v m.length vs hs h.top ad k.length sc us hx (by rw [hk.len]; omega) hcl.1 hcl.2 (by unfold maxLen; omega) (by omega) hB ?_
    intro v' w1 h1 h2 _
    exact K v' w1 (h.join2 hk hBB hap h1 (fun x ys hx => hx.kept_tab h.top h2)) h2
/-- .. kept where another list grows -/
theorem OwnL.keptS {w w1 : World} {B B' n' : Nat} {x v : Value} {ts : List (List (List Int))} {vs ys : List Value} {uss : List (List Value)} (h : OwnL w B x ts vs uss) (k : w.ownsRow B' 22 1 v n' ys) (hne : ∀ g, v.ownBlock = some g → x.ownBlock ≠ some g) (hg : w.grownBy w1 v.ownBlock) : OwnL w1 B x ts vs uss := by
  refine ⟨World.ownsRow.kept h.top hg ?_, h.num, fun i hi => (h.each i hi).keptG k (by decide) (by decide) hg, h.apart⟩
  cases hb : x.ownBlock with
  | none => exact .inl rfl
  | some g => exact .inr (fun e => hne g e.symm hb)
/-- rows of tables from place t of another list on -/
def Cross (uss wss : List (List Value)) (t : Nat) : Prop := ∀ i j, i < uss.length → t ≤ j → j < wss.length → Apart2 (ug uss i) (ug wss j)
end Go.Proofs.Ytfempacfaeknpaa
