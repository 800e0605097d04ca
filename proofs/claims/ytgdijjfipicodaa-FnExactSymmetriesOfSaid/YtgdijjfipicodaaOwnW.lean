/- Laws: lists of tables that a call owns, the tables only read. No condition but lengths. -/
import Derived.Test.YtgdijjfipicodaaOwnV
import Derived.Test.YtgdijjfipicodaaOwnR
namespace Go.Proofs.Ytgdijjfipicodaa
open Go.RowKit

theorem OwnV.kept {w w1 : World} {B B' n' : Nat} {x v : Value} {m : List (List Int)} {vs ys : List Value} {e' : TypeId} (h : OwnV w B x m vs) (k : w.ownsRow B' e' 1 v n' ys) (h1 : 24 ≠ e') (h2 : 3 ≠ e') (hg : w.grownBy w1 v.ownBlock) : OwnV w1 B x m vs :=
  ⟨row_kept h.top k h1 hg, fun i hi => row_kept (h.rows i hi) k h2 hg⟩
/-- the list is the call's own, its tables are any that someone owns -/
structure OwnW (w : World) (B : Nat) (v : Value) (ts : List (List (List Int))) (vs : List Value) : Prop where
  top : w.ownsRow B 22 1 v ts.length vs
  each : ∀ i, i < ts.length → ∃ us, OwnV w 0 (vs.getD i undef) (gt ts i) us
theorem OwnW.below {w w' : World} {B : Nat} {v : Value} {ts : List (List (List Int))} {vs : List Value} (h : OwnW w B v ts vs) (hb : Below w.heap.size w w') : OwnW w' B v ts vs := ⟨ownsRow_below h.top hb, fun i hi => ⟨_, (h.each i hi).choose_spec.below hb⟩⟩
theorem OwnW.base {w : World} {B B' : Nat} {v : Value} {ts : List (List (List Int))} {vs : List Value} (h : OwnW w B v ts vs) (hB : B' ≤ B) : OwnW w B' v ts vs := ⟨ownsRow_base h.top hB, h.each⟩
theorem OwnW.nil (w : World) (B : Nat) : OwnW w B (.slice none 0 0) [] [] := ⟨World.ownsRow_nil _ _ _ _, fun i hi => absurd hi (by simp)⟩
theorem OwnW.len {w : World} {B : Nat} {v : Value} {ts : List (List (List Int))} {vs : List Value} (h : OwnW w B v ts vs) : vs.length = ts.length := by simpa using h.top.1
theorem OwnW.head {w : World} {B : Nat} {v : Value} {ts : List (List (List Int))} {vs : List Value} (h : OwnW w B v ts vs) : ∃ ao c, v = .slice ao ts.length c ∧ ts.length ≤ c ∧ c ≤ 9223372036854775807 := by
  obtain ⟨ao, c, e, h1, h2, _⟩ := ownsRow_read h.top
  exact ⟨ao, c, e, h1, h2⟩
/-- tables put behind -/
theorem OwnW.join {w w1 : World} {B : Nat} {v v' : Value} {ts ks : List (List (List Int))} {vs us : List Value} (h : OwnW w B v ts vs) (hl : us.length = ks.length) (hk : ∀ i, i < ks.length → ∃ xs, OwnV w 0 (us.getD i undef) (gt ks i) xs)
    (h1 : w1.ownsRow B 22 1 v' (ts.length + ks.length) (vs ++ us)) (hg : w.grownBy w1 v.ownBlock) : OwnW w1 B v' (ts ++ ks) (vs ++ us) := by
  refine ⟨by rw [List.length_append]; exact h1, fun i hi => ?_⟩
  rw [List.length_append] at hi
  have hvl := h.len
  by_cases hi2 : i < ts.length
  · rw [getD_left (by omega), gt_app_left hi2]
    obtain ⟨xs, hx⟩ := h.each i hi2
    exact ⟨xs, hx.kept h.top (by decide) (by decide) hg⟩
  · obtain ⟨j, rfl⟩ : ∃ j, i = ts.length + j := ⟨i - ts.length, by omega⟩
    rw [getD_right (by omega), hvl, show ts.length + j - ts.length = j from by omega, gt_app_right (by omega)]
    obtain ⟨xs, hx⟩ := hk j (by omega)
    exact ⟨xs, hx.kept h.top (by decide) (by decide) hg⟩
theorem OwnW.cells {w : World} {B n c : Nat} {ad : Addr} {ts : List (List (List Int))} {vs : List Value} (h : OwnW w B (.slice (some ad) n c) ts vs) : (∀ j u, vs[j]? = some u → w.cell? (ad.add j) = some u) ∧ (∀ u ∈ vs, u.oneCell' = true) := by
  have hl := h.len
  obtain ⟨ao, c', e, _, _, hc⟩ := ownsRow_read h.top
  cases e
  refine ⟨fun j u hj => ?_, fun u hu => ?_⟩
  · have hjl : j < vs.length := (List.getElem?_eq_some_iff.1 hj).1
    obtain ⟨b3, o3, e3, hc3⟩ := hc j (by omega)
    cases e3
    rw [Addr.add_lit, hc3, List.getD, hj]
    rfl
  · obtain ⟨i, hi, rfl⟩ := List.mem_iff_getElem.1 hu
    obtain ⟨_, hx⟩ := h.each i (by omega)
    have := hx.read
    rw [List.getD, List.getElem?_eq_getElem hi] at this
    obtain ⟨_, _, e, _⟩ := this
    rw [show vs[i] = (some vs[i]).getD undef from rfl, e]
    rfl
/-- reading one of the tables -/
theorem OwnW.at {w : World} {B n c : Nat} {ao : Option Addr} {ts : List (List (List Int))} {vs : List Value} (h : OwnW w B (.slice ao n c) ts vs) {i : Nat} (hi : i < ts.length) :
    ∃ b o r d, ao = some ⟨b, o, none⟩ ∧ w.cell? ⟨b, o + i, none⟩ = some (.slice r (gt ts i).length d) ∧ MatAt w r (gt ts i) ∧ (gt ts i).length ≤ d ∧ d ≤ 9223372036854775807 := by
  obtain ⟨ao', c', e, _, _, hc⟩ := ownsRow_read h.top
  cases e
  obtain ⟨b, o, e, hcell⟩ := hc i hi
  obtain ⟨us, hx⟩ := h.each i hi
  obtain ⟨r, d, hr, h3, h4, hm⟩ := hx.read
  exact ⟨b, o, r, d, e, by rw [hcell, hr], hm, h3, h4⟩
/-- a list that is written out, of one table -/
theorem OwnW.one {w : World} {B B' : Nat} {u : Value} {m : List (List Int)} {us : List Value} (h : OwnV w B' u m us) (hB : B ≤ w.heap.size) : OwnW (w.alloc (.cells #[u] 22)) B (.slice (some ⟨w.heap.size, 0, none⟩) 1 1) [m] [u] ∧ Below B w (w.alloc (.cells #[u] 22)) := by
  have hb : Below w.heap.size w (w.alloc (.cells #[u] 22)) := (Below.refl _ _).alloc (Nat.le_refl _) _
  refine ⟨⟨⟨by simp, .inr ⟨w.heap.size, 1, _, rfl, hB, heap_alloc_new w _, Nat.le_refl _, by decide, rfl, rfl⟩⟩, fun i hi => ?_⟩, (Below.refl _ _).alloc hB _⟩
  obtain rfl : i = 0 := by simp at hi; omega
  exact ⟨us, (h.below hb).base (Nat.zero_le _)⟩

/-- the tables of another list are appended to a list -/
theorem wpList_tabsW {w : World} {ops : Array Oper} {rest : List Oper} {o : Oper} {a : Act} {Q : Exit → Act → World → Prop} (hgd : o.guard = none) (s x : Operand)
    (ho : o.op = .call { callee := .builtin .append, args := #[s, x], argTypes := #[35, 35] })
    (B B' : Nat) (v u : Value) (m k : List (List (List Int))) (vs us : List Value) (h : OwnW w B v m vs) (hk : OwnW w B' u k us) (hs : a.eval s = v) (hx : a.eval x = u)
    (hB : B ≤ w.heap.size) (hl : m.length + k.length ≤ 5860000000000)
    (K : ∀ v' w1, OwnW w1 B v' (m ++ k) (vs ++ us) → w.grownBy w1 v.ownBlock → Below B w w1 → wpList Try.prog ops Q rest (a.put o.dst v') w1) : wpList Try.prog ops Q (o :: rest) a w := by
  obtain ⟨j0, hj, hy0, hy1, hy2⟩ := info_parts Try.info_intssW
  obtain ⟨sa, sc, rfl, _, _⟩ := hk.head
  cases sa with
  | none =>
    have hM0 : k = [] ∧ sc = 0 := by
      rcases hk.top.2 with ⟨h1, h2⟩ | ⟨g, cap, cur, h1, _⟩
      · simp at h1; exact ⟨List.eq_nil_of_length_eq_zero h2, h1.2⟩
      · simp at h1
    obtain ⟨rfl, rfl⟩ := hM0
    have hus : us = [] := List.eq_nil_of_length_eq_zero hk.len
    subst hus
    refine wpList_append_own_none hgd s x 35 ho B 22 j0 1 Try.underlying35 hj v m.length vs hs h.top hx ?_
    exact K v w (by rw [List.append_nil, List.append_nil]; exact h) (World.grownBy.refl _ _) (Below.refl _ _)
  | some ad =>
    have hcl := hk.cells
    refine wpList_append_own _ hgd s x 35 ho B 22 j0 (.slice none 0 0) 1 24 Try.underlying35 hj hy0 hy1 hy2 rfl (by decide) v m.length vs hs h.top ad k.length sc us hx (by rw [hk.len]; omega) hcl.1 hcl.2 (by unfold maxLen; omega) (by omega) hB ?_
    intro v' w1 h1 h2 _
    exact K v' w1 (h.join hk.len hk.each h1 h2) h2 (Below.grown (Below.refl _ _) h2 hB (fun k hk => (World.ownsRow.lt h.top k hk).1))
end Go.Proofs.Ytgdijjfipicodaa
