/- Laws: tables that a call owns whose rows are only read. No condition but lengths. -/
import Derived.Test.YtgdijjfipicodaaOwnT
namespace Go.Proofs.Ytgdijjfipicodaa
open Go.RowKit

theorem OwnI.nil_of {w : World} {B n c : Nat} {ao : Option Addr} {xs : List Int} (h : OwnI w B (.slice ao n c) xs) : ao = none → c = 0 ∧ xs = [] := by
  rintro rfl
  rcases h.2 with ⟨h0, h1⟩ | ⟨g, cap, cur, hv, _⟩
  · simp only [Value.slice.injEq] at h0
    exact ⟨h0.2.2, List.eq_nil_of_length_eq_zero h1⟩
  · simp at hv
/-- a slice that reads as a table -/
def ReadsT (w : World) (v : Value) (m : List (List Int)) : Prop := ∃ ao c, v = .slice ao m.length c ∧ m.length ≤ c ∧ c ≤ 9223372036854775807 ∧ MatAt w ao m
theorem ReadsT.read {w : World} {v : Value} {m : List (List Int)} (h : ReadsT w v m) : ∃ ao c, v = .slice ao m.length c ∧ m.length ≤ c ∧ c ≤ 9223372036854775807 ∧ MatAt w ao m := h
theorem OwnT.reads {w : World} {B : Nat} {v : Value} {m : List (List Int)} {vs : List Value} (h : OwnT w B v m vs) : ReadsT w v m := h.read
theorem ReadsT.nil (w : World) : ReadsT w (.slice none 0 0) [] := ⟨none, 0, rfl, Nat.le_refl _, by omega, MatAt.nil _ _⟩
/-- ([][]int, bool), the table only read -/
def VRes (p : Prop) (r : List (List Int)) (w : World) (e : Ending) : Prop :=
  ∃ v b r', e = .returned (.tuple #[v, .bool b]) ∧ ReadsT w v r' ∧ ((p ∧ b = true ∧ r' = r) ∨ (¬p ∧ b = false ∧ r' = []))
theorem VRes.yes {p : Prop} {r : List (List Int)} {w : World} {v : Value} (h : p) (ho : ReadsT w v r) : VRes p r w (.returned (.tuple #[v, .bool true])) := ⟨v, true, r, rfl, ho, .inl ⟨h, rfl, rfl⟩⟩
theorem VRes.no {p : Prop} {r : List (List Int)} {w : World} (h : ¬p) : VRes p r w (.returned (.tuple #[.slice none 0 0, .bool false])) := ⟨_, false, [], rfl, ReadsT.nil _, .inr ⟨h, rfl, rfl⟩⟩

/-- the slice is the call's own, its rows are any that someone owns -/
structure OwnV (w : World) (B : Nat) (v : Value) (m : List (List Int)) (vs : List Value) : Prop where
  top : w.ownsRow B 24 1 v m.length vs
  rows : ∀ i, i < m.length → OwnI w 0 (vs.getD i undef) (gr m i)
theorem OwnV.below {w w' : World} {B : Nat} {v : Value} {m : List (List Int)} {vs : List Value} (h : OwnV w B v m vs) (hb : Below w.heap.size w w') : OwnV w' B v m vs := ⟨ownsRow_below h.top hb, fun i hi => (h.rows i hi).below hb⟩
theorem OwnV.base {w : World} {B B' : Nat} {v : Value} {m : List (List Int)} {vs : List Value} (h : OwnV w B v m vs) (hB : B' ≤ B) : OwnV w B' v m vs := ⟨ownsRow_base h.top hB, h.rows⟩
theorem OwnV.nil (w : World) (B : Nat) : OwnV w B (.slice none 0 0) [] [] := ⟨World.ownsRow_nil _ _ _ _, fun i hi => absurd hi (by simp)⟩
theorem OwnV.len {w : World} {B : Nat} {v : Value} {m : List (List Int)} {vs : List Value} (h : OwnV w B v m vs) : vs.length = m.length := by simpa using h.top.1
theorem OwnT.toV {w : World} {B : Nat} {v : Value} {m : List (List Int)} {vs : List Value} (h : OwnT w B v m vs) : OwnV w B v m vs := ⟨h.top, fun i hi => (h.rows i hi).base (Nat.zero_le _)⟩
theorem OwnV.rowAt {w : World} {B n c : Nat} {ao : Option Addr} {m : List (List Int)} {vs : List Value} (h : OwnV w B (.slice ao n c) m vs) {i : Nat} (hi : i < m.length) :
    ∃ b o r d, ao = some ⟨b, o, none⟩ ∧ w.cell? ⟨b, o + i, none⟩ = some (.slice r (gr m i).length d) ∧ vs.getD i undef = .slice r (gr m i).length d ∧ IntsAt w r (gr m i) ∧ (gr m i).length ≤ d ∧ d ≤ 9223372036854775807 := by
  obtain ⟨ao', c', e, _, _, hc⟩ := ownsRow_read h.top
  cases e
  obtain ⟨b, o, e, hcell⟩ := hc i hi
  cases e
  obtain ⟨r, d, e2, h1, h2, h3⟩ := (h.rows i hi).read
  exact ⟨b, o, r, d, rfl, by rw [hcell, e2], e2, h3, h1, h2⟩
theorem OwnV.read {w : World} {B : Nat} {v : Value} {m : List (List Int)} {vs : List Value} (h : OwnV w B v m vs) : ReadsT w v m := by
  obtain ⟨ao, c, rfl, h1, h2, _⟩ := ownsRow_read h.top
  refine ⟨ao, c, rfl, h1, h2, fun i hi => ?_⟩
  obtain ⟨b, o, r, d, e, hc, _, hi2, h3, h4⟩ := h.rowAt hi
  exact ⟨b, o, r, d, e, hc, hi2, h3, h4⟩
theorem OwnV.cells {w : World} {B n : Nat} {ad : Addr} {m : List (List Int)} {vs : List Value} {c : Nat} (h : OwnV w B (.slice (some ad) n c) m vs) : (∀ j u, vs[j]? = some u → w.cell? (ad.add j) = some u) ∧ (∀ u ∈ vs, u.oneCell' = true) := by
  have hl := h.len
  obtain ⟨ao, c', e, _, _, hc⟩ := ownsRow_read h.top
  cases e
  refine ⟨fun j u hj => ?_, fun u hu => ?_⟩
  · have hjl : j < vs.length := (List.getElem?_eq_some_iff.1 hj).1
    obtain ⟨b3, o3, e3, hc3⟩ := hc j (by omega)
    cases e3
    rw [Addr.add_lit, hc3, List.getD, hj]
    rfl
  · obtain ⟨i, hi, rfl⟩ := List.mem_iff_getElem.1 hu
    have := (h.rows i (by omega)).read
    rw [List.getD, List.getElem?_eq_getElem hi] at this
    obtain ⟨_, _, e, _⟩ := this
    rw [show vs[i] = (some vs[i]).getD undef from rfl, e]
    rfl
theorem OwnV.join {w w1 : World} {B B' : Nat} {v v' u : Value} {m k : List (List Int)} {vs us : List Value} (h : OwnV w B v m vs) (hl2 : us.length = k.length) (hk : ∀ i, i < k.length → OwnI w B' (us.getD i undef) (gr k i))
    (h1 : w1.ownsRow B 24 1 v' (m.length + k.length) (vs ++ us)) (kept : ∀ (x : Value) (ys : List Int), OwnI w 0 x ys → OwnI w1 0 x ys) : OwnV w1 B v' (m ++ k) (vs ++ us) := by
  have hl := h.len
  refine ⟨by rw [List.length_append]; exact h1, fun i hi => ?_⟩
  rw [List.length_append] at hi
  by_cases hi2 : i < m.length
  · have e : (vs ++ us).getD i undef = vs.getD i undef := by simp only [List.getD]; rw [List.getElem?_append_left (by omega)]
    rw [e, gr_appl hi2]
    exact kept _ _ (h.rows i hi2)
  · have e : (vs ++ us).getD i undef = us.getD (i - m.length) undef := by simp only [List.getD]; rw [List.getElem?_append_right (by omega), hl]
    rw [e, show i = m.length + (i - m.length) from by omega, gr_appr (by omega), show m.length + (i - m.length) - m.length = i - m.length from by omega]
    exact kept _ _ ((hk (i - m.length) (by omega)).base (Nat.zero_le _))

/-- a row is appended to a table -/
theorem wpList_rowV {w : World} {ops : Array Oper} {rest : List Oper} {o : Oper} {a : Act} {Q : Exit → Act → World → Prop} (hgd : o.guard = none) (s x : Operand)
    (ho : o.op = .call { callee := .builtin .append, args := #[s, x], argTypes := #[22, 22] })
    (B B' : Nat) (v u : Value) (m : List (List Int)) (vs : List Value) (row : List Int) (h : OwnV w B v m vs) (hu : OwnI w B' u row) (hs : a.eval s = v) (hx : a.eval x = .slice (some ⟨w.heap.size, 0, none⟩) 1 1)
    (hB : B ≤ w.heap.size) (hl : m.length < 1048576)
    (K : ∀ v' w1, OwnV w1 B v' (m ++ [row]) (vs ++ [u]) → Below B w w1 → wpList Try.prog ops Q rest (a.put o.dst v') w1) : wpList Try.prog ops Q (o :: rest) a (w.alloc (.cells #[u] 24)) := by
  obtain ⟨j0, hj, hy0, hy1, hy2⟩ := info_parts Try.info_ints
  refine wpList_append_own _ hgd s x 22 ho B 24 j0 (.slice none 0 0) 1 24 Try.underlying22 hj hy0 hy1 hy2 rfl (by decide) v m.length _ hs (World.ownsRow.alloc h.top _) ⟨w.heap.size, 0, none⟩ 1 1 [u] hx rfl ?_ ?_ (by unfold maxLen; omega) (by omega) (by simp; omega) ?_
  · exact cell_one_new _ _ _
  · intro z hz; simp at hz; subst hz; obtain ⟨_, _, e, _⟩ := hu.read; rw [e]; rfl
  · intro v' w1 h1 h2 _
    have ho : OwnV (w.alloc (.cells #[u] 24)) B v m vs := h.below ((Below.refl _ _).alloc (Nat.le_refl _) _)
    refine K v' w1 ?_ (Below.grown ((Below.refl B w).alloc hB _) h2 (by simp; omega) (fun k hk => (World.ownsRow.lt h.top k hk).1))
    refine h.join (B' := B') (u := u) (by simp) (fun i hi => ?_) h1 (fun x ys hx => (hx.below ((Below.refl _ _).alloc (Nat.le_refl _) (.cells #[u] 24))).kept_tab ho.top h2)
    obtain rfl : i = 0 := by simp at hi; omega
    exact hu

/-- the rows of another table are appended to a table -/
theorem wpList_rowsV {w : World} {ops : Array Oper} {rest : List Oper} {o : Oper} {a : Act} {Q : Exit → Act → World → Prop} (hgd : o.guard = none) (s x : Operand)
    (ho : o.op = .call { callee := .builtin .append, args := #[s, x], argTypes := #[22, 22] })
    (B B' : Nat) (v u : Value) (m k : List (List Int)) (vs us : List Value) (h : OwnV w B v m vs) (hk : OwnV w B' u k us) (hs : a.eval s = v) (hx : a.eval x = u)
    (hB : B ≤ w.heap.size) (hl : m.length + k.length ≤ 1048576)
    (K : ∀ v' w1, OwnV w1 B v' (m ++ k) (vs ++ us) → Below B w w1 → wpList Try.prog ops Q rest (a.put o.dst v') w1) : wpList Try.prog ops Q (o :: rest) a w := by
  obtain ⟨j0, hj, hy0, hy1, hy2⟩ := info_parts Try.info_ints
  obtain ⟨sa, sc, rfl, _, _, _⟩ := hk.read
  cases sa with
  | none =>
    have hM0 : k = [] ∧ sc = 0 := by
      rcases hk.top.2 with ⟨h1, h2⟩ | ⟨g, cap, cur, h1, _⟩
      · simp at h1; exact ⟨List.eq_nil_of_length_eq_zero h2, h1.2⟩
      · simp at h1
    obtain ⟨rfl, rfl⟩ := hM0
    have hus : us = [] := List.eq_nil_of_length_eq_zero hk.len
    subst hus
    refine wpList_append_own_none hgd s x 22 ho B 24 j0 1 Try.underlying22 hj v m.length vs hs h.top hx ?_
    exact K v w (by rw [List.append_nil, List.append_nil]; exact h) (Below.refl _ _)
  | some ad =>
    have hcl := hk.cells
    refine wpList_append_own _ hgd s x 22 ho B 24 j0 (.slice none 0 0) 1 24 Try.underlying22 hj hy0 hy1 hy2 rfl (by decide) v m.length vs hs h.top ad k.length sc us hx (by rw [hk.len]; omega) hcl.1 hcl.2 (by unfold maxLen; omega) (by omega) hB ?_
    intro v' w1 h1 h2 _
    exact K v' w1 (h.join (u := .slice (some ad) k.length sc) hk.len hk.rows h1 (fun x ys hx => hx.kept_tab h.top h2)) (Below.grown (Below.refl _ _) h2 hB (fun k hk => (World.ownsRow.lt h.top k hk).1))
end Go.Proofs.Ytgdijjfipicodaa
