/- Parts of proofs: contracts and plain facts. Conditions: as each says. -/
import Derived.Test.YtgdijjfipicodaaDoorK10
import Derived.Maps.AppendAt
import Derived.Lib.SliceRun
namespace Go.Proofs.YtgdijjfipicodaaDoor
open Go.RowKit

theorem OwnT.keptG {w w1 : World} {B B' n' : Nat} {x v : Value} {m : List (List Int)} {vs ys : List Value} {e' : TypeId} (h : OwnT w B x m vs) (k : w.ownsRow B' e' 1 v n' ys) (h1 : 42 ≠ e') (h2 : 3 ≠ e') (hg : w.grownBy w1 v.ownBlock) : OwnT w1 B x m vs :=
  ⟨row_kept h.top k h1 hg, fun i hi => row_kept (h.rows i hi) k h2 hg, h.apart⟩
/-- the slice values of the rows of table i -/
def ug (uss : List (List Value)) (i : Nat) : List Value := uss.getD i []
theorem ug_left {a b : List (List Value)} {i : Nat} (h : i < a.length) : ug (a ++ b) i = ug a i := by
  simp only [ug, List.getD]; rw [List.getElem?_append_left h]
theorem ug_right {a b : List (List Value)} {i : Nat} (h : a.length ≤ i) : ug (a ++ b) i = ug b (i - a.length) := by
  simp only [ug, List.getD]; rw [List.getElem?_append_right h]
/-- the rows of two tables share no block -/
def Apart2 (us vs : List Value) : Prop := ∀ a b, a < us.length → b < vs.length → ∀ g, (us.getD a undef).ownBlock = some g → (vs.getD b undef).ownBlock ≠ some g
structure OwnL (w : World) (B : Nat) (v : Value) (ts : List (List (List Int))) (vs : List Value) (uss : List (List Value)) : Prop where
  top : w.ownsRow B 22 1 v ts.length vs
  num : uss.length = ts.length
  each : ∀ i, i < ts.length → OwnT w B (vs.getD i undef) (gt ts i) (ug uss i)
  apart : ∀ i j, i < j → j < ts.length → Apart2 (ug uss i) (ug uss j)
theorem OwnL.below {w w' : World} {B : Nat} {v : Value} {ts : List (List (List Int))} {vs : List Value} {uss : List (List Value)} (h : OwnL w B v ts vs uss) (hb : Below w.heap.size w w') : OwnL w' B v ts vs uss := ⟨ownsRow_below h.top hb, h.num, fun i hi => (h.each i hi).below hb, h.apart⟩
theorem OwnL.base {w : World} {B B' : Nat} {v : Value} {ts : List (List (List Int))} {vs : List Value} {uss : List (List Value)} (h : OwnL w B v ts vs uss) (hB : B' ≤ B) : OwnL w B' v ts vs uss := ⟨ownsRow_base h.top hB, h.num, fun i hi => (h.each i hi).base hB, h.apart⟩
theorem OwnL.toW {w : World} {B : Nat} {v : Value} {ts : List (List (List Int))} {vs : List Value} {uss : List (List Value)} (h : OwnL w B v ts vs uss) : OwnW w B v ts vs := ⟨h.top, fun i hi => ⟨_, (h.each i hi).toV.base (Nat.zero_le _)⟩⟩
theorem OwnL.len {w : World} {B : Nat} {v : Value} {ts : List (List (List Int))} {vs : List Value} {uss : List (List Value)} (h : OwnL w B v ts vs uss) : vs.length = ts.length := by simpa using h.top.1
theorem OwnL.head {w : World} {B : Nat} {v : Value} {ts : List (List (List Int))} {vs : List Value} {uss : List (List Value)} (h : OwnL w B v ts vs uss) : ∃ ao c, v = .slice ao ts.length c ∧ ts.length ≤ c ∧ c ≤ 9223372036854775807 := h.toW.head
/-- the blocks of rows -/
theorem OwnL.old {w : World} {B : Nat} {v : Value} {ts : List (List (List Int))} {vs : List Value} {uss : List (List Value)} (h : OwnL w B v ts vs uss) {i : Nat} (hi : i < ts.length) {a : Nat} (ha : a < (ug uss i).length) {g : Nat} (hg : ((ug uss i).getD a undef).ownBlock = some g) : B ≤ g ∧ g < w.heap.size :=
  (h.each i hi).old a (by rw [← (h.each i hi).len]; exact ha) g hg
/-- a list that is written out, of a table without rows -/
theorem OwnL.one0 (w : World) : OwnL (w.alloc (.cells #[.slice none 0 0] 22)) w.heap.size (.slice (some ⟨w.heap.size, 0, none⟩) 1 1) [[]] [.slice none 0 0] [[]] := by
  refine ⟨⟨by simp, .inr ⟨w.heap.size, 1, _, rfl, Nat.le_refl _, heap_alloc_new w _, Nat.le_refl _, by decide, rfl, rfl⟩⟩, rfl, fun i hi => ?_, fun i j hij hj => ?_⟩
  · obtain rfl : i = 0 := by simp at hi; omega
    exact OwnT.nil _ _
  · simp at hj; omega

/-- a table, written out in a list of one, is appended to a list -/
theorem wpList_tabL {w : World} {ops : Array Oper} {rest : List Oper} {o : Oper} {a : Act} {Q : Exit → Act → World → Prop} (hgd : o.guard = none) (s x : Operand)
    (ho : o.op = .call { callee := .builtin .append, args := #[s, x], argTypes := #[29, 29] })
    (B : Nat) (v u : Value) (m : List (List (List Int))) (vs : List Value) (uss : List (List Value)) (t : List (List Int)) (us : List Value) (h : OwnL w B v m vs uss) (hu : OwnT w B u t us) (hs : a.eval s = v) (hx : a.eval x = .slice (some ⟨w.heap.size, 0, none⟩) 1 1)
    (hne : ∀ i, i < m.length → Apart2 (ug uss i) us) (hB : B ≤ w.heap.size) (hl : m.length < 5860000000000)
    (K : ∀ v' w1, OwnL w1 B v' (m ++ [t]) (vs ++ [u]) (uss ++ [us]) → (w.alloc (.cells #[u] 22)).grownBy w1 v.ownBlock → Below B w w1 → (v'.ownBlock = v.ownBlock ∨ v'.ownBlock = some (w.heap.size + 1)) → wpList Tryd.prog ops Q rest (a.put o.dst v') w1) : wpList Tryd.prog ops Q (o :: rest) a (w.alloc (.cells #[u] 22)) := by
  obtain ⟨j0, hj, hy0, hy1, hy2⟩ := info_parts Tryd.info_intssW
  refine wpList_append_own_at _ hgd s x 29 ho B 22 j0 (.slice none 0 0) 1 24 Tryd.underlying29 hj hy0 hy1 hy2 rfl (by decide) v m.length _ hs (World.ownsRow.alloc h.top _) ⟨w.heap.size, 0, none⟩ 1 1 [u] hx rfl ?_ ?_ (by unfold maxLen; omega) (by omega) (by simp; omega) ?_
  · exact cell_one_new _ _ _
  · intro z hz; simp at hz; subst hz; obtain ⟨_, _, e, _⟩ := hu.read; rw [e]; rfl
  · intro v' w1 h1 h2 _ h5
    have h5' : v'.ownBlock = v.ownBlock ∨ v'.ownBlock = some (w.heap.size + 1) := by simpa using h5
    have hb : Below w.heap.size w (w.alloc (.cells #[u] 22)) := (Below.refl _ _).alloc (Nat.le_refl _) _
    have ho := h.below hb
    have hu2 := hu.below hb
    refine K v' w1 ⟨by rw [List.length_append]; exact h1, by simp [h.num], fun i hi => ?_, fun i j hij hj => ?_⟩ h2 (Below.grown ((Below.refl B w).alloc hB _) h2 (by simp; omega) (fun k hk => (World.ownsRow.lt h.top k hk).1)) h5'
    · rw [List.length_append, List.length_singleton] at hi
      by_cases hi2 : i < m.length
      · rw [getD_left (by rw [h.len]; exact hi2), gt_app_left hi2, ug_left (by rw [h.num]; exact hi2)]
        exact (ho.each i hi2).keptG ho.top (by decide) (by decide) h2
      · obtain rfl : i = m.length := by omega
        rw [getD_right (by rw [h.len]; exact Nat.le_refl _), h.len, Nat.sub_self, ug_right (by rw [h.num]; exact Nat.le_refl _), h.num, Nat.sub_self]
        have e : gt (m ++ [t]) m.length = t := by
          have := gt_app_right (a := m) (b := [t]) (i := 0) (by simp)
          rw [Nat.add_zero] at this
          exact this
        rw [e]
        exact hu2.keptG ho.top (by decide) (by decide) h2
    · rw [List.length_append, List.length_singleton] at hj
      rw [ug_left (by rw [h.num]; omega)]
      by_cases hj2 : j < m.length
      · rw [ug_left (by rw [h.num]; exact hj2)]
        exact h.apart i j hij hj2
      · obtain rfl : j = m.length := by omega
        rw [ug_right (by rw [h.num]; exact Nat.le_refl _), h.num, Nat.sub_self]
        exact hne i (by omega)

/-- reading one of the tables -/
theorem OwnL.at {w : World} {B n c : Nat} {ao : Option Addr} {ts : List (List (List Int))} {vs : List Value} {uss : List (List Value)} (h : OwnL w B (.slice ao n c) ts vs uss) {i : Nat} (hi : i < ts.length) :
    ∃ b o r d, ao = some ⟨b, o, none⟩ ∧ w.cell? ⟨b, o + i, none⟩ = some (.slice r (gt ts i).length d) ∧ vs.getD i undef = .slice r (gt ts i).length d ∧ (gt ts i).length ≤ d ∧ d ≤ 9223372036854775807 ∧ MatAt w r (gt ts i) := by
  obtain ⟨ao', c', e, _, _, hc⟩ := ownsRow_read h.top
  cases e
  obtain ⟨b, o, e, hcell⟩ := hc i hi
  obtain ⟨r, d, hr, h3, h4, hm⟩ := (h.each i hi).read
  exact ⟨b, o, r, d, e, by rw [hcell, hr], hr, h3, h4, hm⟩
/-- a table of one row, written out -/
theorem OwnT.one {w : World} {B : Nat} {u : Value} {row : List Int} (h : OwnI w B u row) (hB : B ≤ w.heap.size) : OwnT (w.alloc (.cells #[u] 42)) B (.slice (some ⟨w.heap.size, 0, none⟩) 1 1) [row] [u] := by
  refine ⟨⟨by simp, .inr ⟨w.heap.size, 1, _, rfl, hB, heap_alloc_new w _, Nat.le_refl _, by decide, rfl, rfl⟩⟩, fun i hi => ?_, fun i j hij hj => ?_⟩
  · obtain rfl : i = 0 := by simp at hi; omega
    exact h.below ((Below.refl _ _).alloc (Nat.le_refl _) _)
  · simp at hj; omega
/-- the rows of a table apart are put behind a table -/
theorem OwnT.join2 {w w1 : World} {B B' : Nat} {v v' u : Value} {m k : List (List Int)} {vs us : List Value} (h : OwnT w B v m vs) (hk : OwnT w B' u k us) (hBB : B ≤ B')
    (hap : Apart2 vs us)
    (h1 : w1.ownsRow B 42 1 v' (m.length + k.length) (vs ++ us)) (kept : ∀ (x : Value) (ys : List Int), OwnI w B x ys → OwnI w1 B x ys) : OwnT w1 B v' (m ++ k) (vs ++ us) := by
  have hl := h.len
  have hl2 := hk.len
  have gl : ∀ i, i < m.length → (vs ++ us).getD i undef = vs.getD i undef := fun i hi => by
    simp only [List.getD]; rw [List.getElem?_append_left (by omega)]
  have grr : ∀ i, m.length ≤ i → (vs ++ us).getD i undef = us.getD (i - m.length) undef := fun i hi => by
    simp only [List.getD]; rw [List.getElem?_append_right (by omega), hl]
  refine ⟨by rw [List.length_append]; exact h1, fun i hi => ?_, fun i j hij hj g hg => ?_⟩
  · rw [List.length_append] at hi
    by_cases hi2 : i < m.length
    · rw [gl i hi2, gr_appl hi2]
      exact kept _ _ (h.rows i hi2)
    · rw [grr i (by omega), show i = m.length + (i - m.length) from by omega, gr_appr (by omega), show m.length + (i - m.length) - m.length = i - m.length from by omega]
      exact kept _ _ ((hk.rows (i - m.length) (by omega)).base hBB)
  · rw [List.length_append] at hj
    by_cases hj2 : j < m.length
    · rw [gl i (by omega)] at hg
      rw [gl j hj2]
      exact h.apart i j hij hj2 g hg
    · rw [grr j (by omega)]
      by_cases hi2 : i < m.length
      · rw [gl i hi2] at hg
        exact hap i (j - m.length) (by omega) (by omega) g hg
      · rw [grr i (by omega)] at hg
        exact hk.apart (i - m.length) (j - m.length) (by omega) (by omega) g hg
/-- the rows of a table apart are appended to a table -/
theorem wpList_rowsL {w : World} {ops : Array Oper} {rest : List Oper} {o : Oper} {a : Act} {Q : Exit → Act → World → Prop} (hgd : o.guard = none) (s x : Operand)
    (ho : o.op = .call { callee := .builtin .append, args := #[s, x], argTypes := #[22, 22] })
    (B B' : Nat) (v u : Value) (m k : List (List Int)) (vs us : List Value) (h : OwnT w B v m vs) (hk : OwnT w B' u k us) (hs : a.eval s = v) (hx : a.eval x = u) (hBB : B ≤ B') (hap : Apart2 vs us)
    (hB : B ≤ w.heap.size) (hl : m.length + k.length ≤ 1048576)
    (K : ∀ v' w1, OwnT w1 B v' (m ++ k) (vs ++ us) → w.grownBy w1 v.ownBlock → wpList Tryd.prog ops Q rest (a.put o.dst v') w1) : wpList Tryd.prog ops Q (o :: rest) a w := by
  obtain ⟨j0, hj, hy0, hy1, hy2⟩ := info_parts Tryd.info_ints
  obtain ⟨sa, sc, rfl, _, _, _⟩ := hk.read
  cases sa with
  | none =>
    have hM0 : k = [] ∧ sc = 0 := by
      rcases hk.top.2 with ⟨h1, h2⟩ | ⟨g, cap, cur, h1, _⟩
      · simp at h1; exact ⟨List.eq_nil_of_length_eq_zero h2, h1.2⟩
      · simp at h1
    obtain ⟨rfl, rfl⟩ := hM0
    have hus : us = [] := List.eq_nil_of_length_eq_zero hk.len
    subst hus
    refine wpList_append_own_none hgd s x 22 ho B 42 j0 1 Tryd.underlying22 hj v m.length vs hs h.top hx ?_
    exact K v w (by rw [List.append_nil, List.append_nil]; exact h) (World.grownBy.refl _ _)
  | some ad =>
    have hcl := hk.cells
    refine wpList_append_own _ hgd s x 22 ho B 42 j0 (.slice none 0 0) 1 24 Tryd.underlying22 hj hy0 hy1 hy2 rfl (by decide) v m.length vs hs h.top ad k.length sc us hx (by rw [hk.len]; omega) hcl.1 hcl.2 (by unfold maxLen; omega) (by omega) hB ?_
    intro v' w1 h1 h2 _
    exact K v' w1 (h.join2 hk hBB hap h1 (fun x ys hx => hx.kept_tab h.top h2)) h2
/-- .. kept where another list grows -/
theorem OwnL.keptS {w w1 : World} {B B' n' : Nat} {x v : Value} {ts : List (List (List Int))} {vs ys : List Value} {uss : List (List Value)} (h : OwnL w B x ts vs uss) (k : w.ownsRow B' 22 1 v n' ys) (hne : ∀ g, v.ownBlock = some g → x.ownBlock ≠ some g) (hg : w.grownBy w1 v.ownBlock) : OwnL w1 B x ts vs uss := by
  refine ⟨World.ownsRow.kept h.top hg ?_, h.num, fun i hi => (h.each i hi).keptG k (by decide) (by decide) hg, h.apart⟩
  cases hb : x.ownBlock with
  | none => exact .inl rfl
  | some g => exact .inr (fun e => hne g e.symm hb)
/-- rows of tables from place t of another list on -/
def Cross (uss wss : List (List Value)) (t : Nat) : Prop := ∀ i j, i < uss.length → t ≤ j → j < wss.length → Apart2 (ug uss i) (ug wss j)
end Go.Proofs.YtgdijjfipicodaaDoor

namespace Go.Proofs.YtgdijjfipicodaaDoor
open Go.RowKit

theorem OwnT.setOther {w : World} {B B' n' : Nat} {x v : Value} {m : List (List Int)} {vs ys : List Value} {e' : TypeId} {g i : Nat} (h : OwnT w B x m vs) (k : w.ownsRow B' e' 1 v n' ys) (hv : v.ownBlock = some g) (h1 : 42 ≠ e') (h2 : 3 ≠ e') (u : Value) : OwnT (w.setCell ⟨g, i, none⟩ u) B x m vs :=
  ⟨Go.ownsRow_setCell_other h.top (fun e => row_apart h.top k h1 g e hv) u, fun j hj => Go.ownsRow_setCell_other (h.rows j hj) (fun e => row_apart (h.rows j hj) k h2 g e hv) u, h.apart⟩
/-- a table upside down has its rows apart if the table had -/
theorem OwnT.turned {w : World} {B : Nat} {v : Value} {m : List (List Int)} {svs : List Value} (h : OwnR w B v m svs.reverse) (hl : svs.length = svs.length) (hap : ∀ a b, a < b → b < svs.length → ∀ g, (svs.getD a undef).ownBlock = some g → (svs.getD b undef).ownBlock ≠ some g) : OwnT w B v m svs.reverse := by
  have hlen := h.len
  rw [List.length_reverse] at hlen
  refine ⟨h.top, h.rows, fun i j hij hj g hg hg2 => ?_⟩
  simp only [List.getD] at hg hg2
  rw [List.getElem?_reverse (by omega)] at hg
  rw [List.getElem?_reverse (by omega)] at hg2
  exact hap (svs.length - 1 - j) (svs.length - 1 - i) (by omega) (by omega) g hg2 hg
/-- a list of tables of which the first k have all rows apart -/
structure AsUp (w : World) (B : Nat) (v : Value) (ts : List (List (List Int))) (k : Nat) (vs : List Value) (uss : List (List Value)) : Prop where
  list : OwnRL w B v ts vs
  num : uss.length = k
  le : k ≤ ts.length
  each : ∀ i, i < k → OwnT w B (vs.getD i undef) (gt ts i) (ug uss i)
  apart : ∀ i j, i < j → j < k → Apart2 (ug uss i) (ug uss j)
theorem AsUp.start {w : World} {B : Nat} {v : Value} {ts : List (List (List Int))} {vs : List Value} (h : OwnRL w B v ts vs) : AsUp w B v ts 0 vs [] := ⟨h, rfl, Nat.zero_le _, fun i hi => absurd hi (by omega), fun i j _ hj => absurd hj (by omega)⟩
theorem AsUp.below {w w' : World} {B k : Nat} {v : Value} {ts : List (List (List Int))} {vs : List Value} {uss : List (List Value)} (h : AsUp w B v ts k vs uss) (hb : Below w.heap.size w w') : AsUp w' B v ts k vs uss := ⟨h.list.below hb, h.num, h.le, fun i hi => (h.each i hi).below hb, h.apart⟩
theorem AsUp.old {w : World} {B k : Nat} {v : Value} {ts : List (List (List Int))} {vs : List Value} {uss : List (List Value)} (h : AsUp w B v ts k vs uss) {i p g : Nat} (hi : i < k) (hp : p < (ug uss i).length) (hg : ((ug uss i).getD p undef).ownBlock = some g) : g < w.heap.size :=
  ((h.each i hi).old p (by rw [← (h.each i hi).len]; exact hp) g hg).2
theorem AsUp.finish {w : World} {B k : Nat} {v : Value} {ts : List (List (List Int))} {vs : List Value} {uss : List (List Value)} (h : AsUp w B v ts k vs uss) (hk : ts.length = k) : OwnL w B v ts vs uss :=
  ⟨h.list.top, by rw [h.num, hk], fun i hi => h.each i (by omega), fun i j hij hj => h.apart i j hij (by omega)⟩
theorem AsUp.set {w : World} {B g n c k i : Nat} {ts : List (List (List Int))} {vs zs : List Value} {uss : List (List Value)} {v : Value} {M : List (List Int)} (h : AsUp w B (.slice (some ⟨g, 0, none⟩) n c) ts k vs uss) (hik : i = k) (hi : i < ts.length) (hv : OwnT w B v M zs)
    (hap : ∀ a, a < k → Apart2 (ug uss a) zs) : AsUp (w.setCell ⟨g, i, none⟩ v) B (.slice (some ⟨g, 0, none⟩) n c) (ts.set i M) (i + 1) (vs.set i v) (uss ++ [zs]) := by
  subst hik
  have hl := h.list.len
  have hn := h.num
  refine ⟨h.list.set hi ⟨hv.top, hv.rows⟩, by simp [hn], by rw [List.length_set]; omega, fun j hj => ?_, fun a b hab hb => ?_⟩
  · by_cases e : j = i
    · subst e
      have e1 : (vs.set j v).getD j undef = v := by simp [List.getD, hl, hi]
      have e2 : gt (ts.set j M) j = M := by unfold gt; simp [List.getD, hi]
      rw [e1, e2, ug_right (by omega), hn, Nat.sub_self]
      exact hv.setOther h.list.top rfl (by decide) (by decide) v
    · have e1 : (vs.set i v).getD j undef = vs.getD j undef := by simp only [List.getD]; rw [List.getElem?_set_ne (fun h => e h.symm)]
      have e2 : gt (ts.set i M) j = gt ts j := by unfold gt; simp only [List.getD]; rw [List.getElem?_set_ne (fun h => e h.symm)]
      rw [e1, e2, ug_left (by omega)]
      exact (h.each j (by omega)).setOther h.list.top rfl (by decide) (by decide) v
  · rw [ug_left (by omega)]
    by_cases e : b = i
    · subst e
      rw [ug_right (by omega), hn, Nat.sub_self]
      exact hap a (by omega)
    · rw [ug_left (by omega)]
      exact h.apart a b hab (by omega)

set_option maxRecDepth 100000 in
set_option maxHeartbeats 3200000 in
theorem allSignsL_any (n : Nat) (w : World) (h1 : 1 ≤ n) (h5 : n ≤ 5) (hD : Dj w) :
    Calls Tryd.prog 53 #[.int .i64 (n : Int)] w fun e w' => ∃ v, e = .returned v ∧ OwnLM w' w.heap.size v (allI n) ∧ Below w.heap.size w w' := by
  have hcols := tris_cols n (by omega)
  have C := Lib.hid (triangles_any (n - 1) (fullR n) w (by omega) (fullR_rise (by omega)) (by rw [fullR_len]; omega) hD)
  rw [fullR_ok n (by omega)] at C
  have hTl := trisD_le (n - 1) (fullR n) (fullR_rise (by omega)) (by rw [fullR_len]; omega)
  have hTb := trB_le (n - 1) (by omega)
  obtain ⟨T, hT⟩ : ∃ T, T = trisD (n - 1) (fullR n) := ⟨_, rfl⟩
  rw [← hT] at hcols C hTl
  have HV := Lib.hid (show allI n = T.map flipT by rw [hT]; rfl)
  have Hcols := Lib.hid (show ∀ t, t ∈ T → t.length = n ∧ colsOk t from fun t ht => (hcols t ht).resolve_left (by omega))
  have hTn : T.length ≤ 1099511627776 := Nat.le_trans hTl hTb
  obtain ⟨q, hq⟩ : ∃ q : Int, q = ((2 ^ n - 1 : Nat) : Int) := ⟨_, rfl⟩
  have CA := Lib.hid (allColumns_any n w (by omega))
  rw [← hq] at C CA
  clear hcols hT hTl hTb hD hq
  go_enter Tryd.func53, Tryd.ntmps53
  go_wp2_with fail
  refine CA.out.mono ?_
  rintro e w1 ⟨rfl, rfl⟩
  go_wp2_with fail
  refine C.out.mono ?_
  rintro e w2 ⟨v, vs, rfl, hv, _, hb⟩
  obtain ⟨ta, tc, rfl, ht1, ht2⟩ := hv.head
  have Hv := Lib.hid hv
  have Hb := Lib.hid hb
  clear hv hb C CA
  go_wp2
  go_loopw [11] (fun i wr => ∃ (k : Nat) (vs : List Value) (uss : List (List Value)), k ≤ T.length ∧ i = .int .i64 k ∧ AsUp wr w.heap.size (.slice ta T.length tc) (mixT T k) k vs uss ∧ Below w.heap.size w wr) (fun i _ => T.length - (intOf i).toNat)
  case atStart => exact ⟨0, vs, [], Nat.zero_le _, rfl, by rw [mixT_zero]; exact AsUp.start Hv.out, Hb.out⟩
  case round =>
    obtain ⟨k, vs, uss, hk, rfl, hup, hbr⟩ := hrel
    have Hup := Lib.hid hup
    have hown := hup.list
    clear hup
    clear Hv Hb
    have Hown := Lib.hid hown
    have Hbr := Lib.hid hbr
    have HBr := Lib.hid hbr.size
    by_cases hlt : k < T.length
    · obtain ⟨g, rfl, hg1, hg2⟩ := hown.isAt (by rw [mixT_len]; omega)
      obtain ⟨b1, o1, r1, d1, e1, hc1, hm1, _, _⟩ := hown.at (i := k) (by rw [mixT_len]; exact hlt)
      cases e1
      rw [Nat.zero_add] at hc1
      rw [mixT_at hlt] at hc1 hm1
      obtain ⟨hl1, hco⟩ := Hcols.out _ (gt_mem hlt)
      have CS := Lib.hid (signsOf_any r1 d1 (gt T k) wr hco hm1)
      have Hset := Lib.hid (show (mixT T k).set k (flipT (gt T k)) = mixT T (k + 1) from mixT_set hlt)
      have Hfl := Lib.hid (show (fromTab (gt T k)).length = n by rw [fromTab_len]; exact hl1)
      rw [hl1] at hc1 CS
      clear hown hbr hm1 hl1 hco
      go_wp2_with fail
      refine CS.out.mono ?_
      rintro e w3 ⟨v3, rfl, hv3, hb3⟩
      obtain ⟨sa, scp, svs, rfl, hsp, _, _⟩ := hv3.open
      have CU := Lib.hid (upsideDownR_any w.heap.size sa scp (fromTab (gt T k)) svs w3 (by rw [Hfl.out]; omega) (by rw [Hfl.out]; omega) (Nat.le_trans HBr.out hb3.size) (hsp.toR.base HBr.out))
      rw [Hfl.out] at CU ⊢
      have Hb3 := Lib.hid hb3
      have Hsp := Lib.hid hsp
      clear hv3 hb3 hsp CS
      go_wp2_with fail
      refine CU.out.mono ?_
      rintro e w4 ⟨v4, rfl, hv4, hb4⟩
      have hb34 := Hb3.out.trans (hb4.mono Hb3.out.size)
      have hown4 := Hown.out.below hb34
      have hfr : w4.frozen? ⟨g, k, none⟩ = false := by
        have h := hown4.top
        rw [mixT_len] at h
        exact World.ownsRow.frozenAt h k
      have hcell : w4.cell? ⟨g, k, none⟩ = some (.slice r1 n d1) := cell_below hc1 hb34
      have hT4 : OwnT w4 w.heap.size v4 (flipT (gt T k)) svs.reverse := OwnT.turned hv4 (by have h1 := Hsp.out.top.1; simp at h1; rw [h1]) (fun a b hab hb => Hsp.out.apart a b hab (by have h1 := Hsp.out.top.1; simp at h1; omega))
      have hset := (Hup.out.below hb34).set (i := k) rfl (by rw [mixT_len]; exact hlt) hT4 (fun a ha => fun p q hp hq g2 hg2 hg3 => by
        have hlt2 := Hup.out.old ha hp hg2
        have hq2 : q < svs.length := by rw [List.length_reverse] at hq; exact hq
        rw [List.getD, List.getElem?_reverse hq2] at hg3
        have h1 := Hsp.out.top.1
        simp at h1
        have hge := (Hsp.out.rows (svs.length - 1 - q) (by omega)).lt g2 hg3
        omega)
      rw [Hset.out] at hset
      have Hs := Lib.hid hset
      have Hbs := Lib.hid ((Hbr.out.trans (hb34.mono HBr.out)).setCell (p := ⟨g, k, none⟩) hg1 v4)
      obtain ⟨va, vc, hvv, _, _, _⟩ := hv4.read
      rw [List.length_reverse, Hfl.out] at hvv
      subst hvv
      clear hv4 hb4 hb34 hown4 hset CU hc1
      go_wp2
      go_roundw
      case rel => exact ⟨k + 1, _, _, by omega, by go_num, Hs.out, Hbs.out⟩
      case measure => simp [intOf]; omega
    · obtain rfl : k = T.length := by omega
      have HF := Lib.hid (show OwnLM wr w.heap.size (.slice ta T.length tc) (allI n) from ⟨vs, uss, by
        have h1 := Hup.out
        rw [mixT_end, ← HV.out] at h1
        exact h1.finish (by rw [HV.out, List.length_map])⟩)
      clear hown hbr Hup
      go_wp2
      go_ret
      exact ⟨_, rfl, HF.out, Hbr.out⟩
end Go.Proofs.YtgdijjfipicodaaDoor

namespace Go.Proofs.YtgdijjfipicodaaDoor
open Go.RowKit

/-- a list of tables that a call owns, told table by table -/
structure OwnZ (w : World) (B : Nat) (v : Value) (Z : List (List (List Int) × Value × List Value)) : Prop where
  top : w.ownsRow B 22 1 v Z.length (Z.map (·.2.1))
  each : ∀ z, z ∈ Z → OwnT w B z.2.1 z.1 z.2.2
  apart : Z.Pairwise (fun a b => Apart2 a.2.2 b.2.2)
theorem OwnZ.below {w w' : World} {B : Nat} {v : Value} {Z : List (List (List Int) × Value × List Value)} (h : OwnZ w B v Z) (hb : Below w.heap.size w w') : OwnZ w' B v Z := ⟨ownsRow_below h.top hb, fun z hz => (h.each z hz).below hb, h.apart⟩
theorem OwnL.toZ {w : World} {B : Nat} {v : Value} {ts : List (List (List Int))} {vs : List Value} {uss : List (List Value)} (h : OwnL w B v ts vs uss) : ∃ Z : List (List (List Int) × Value × List Value), OwnZ w B v Z ∧ Z.map (·.1) = ts := by
  have hl := h.len
  have e2 : ((List.range ts.length).map (fun i => ((gt ts i, vs.getD i undef, ug uss i) : (List (List Int) × Value × List Value)))).map (·.2.1) = vs := by
    apply List.ext_getElem
    · simp [hl]
    · intro i h1 h2
      simp [List.getD, h2]
  have e1 : ((List.range ts.length).map (fun i => ((gt ts i, vs.getD i undef, ug uss i) : (List (List Int) × Value × List Value)))).map (·.1) = ts := by
    apply List.ext_getElem
    · simp
    · intro i h1 h2
      simp [gt_lt h2]
  refine ⟨(List.range ts.length).map (fun i => ((gt ts i, vs.getD i undef, ug uss i) : (List (List Int) × Value × List Value))), ⟨?_, fun z hz => ?_, ?_⟩, e1⟩
  · rw [e2, List.length_map, List.length_range]
    exact h.top
  · obtain ⟨i, hi, rfl⟩ := List.mem_map.1 hz
    exact h.each i (List.mem_range.1 hi)
  · rw [List.pairwise_map]
    refine List.Pairwise.imp_of_mem (fun ha hb hab => ?_) List.pairwise_lt_range
    exact h.apart _ _ hab (List.mem_range.1 hb)
theorem OwnZ.toL {w : World} {B : Nat} {v : Value} {Z : List (List (List Int) × Value × List Value)} (h : OwnZ w B v Z) : OwnLM w B v (Z.map (·.1)) := by
  refine ⟨Z.map (·.2.1), Z.map (·.2.2), by rw [List.length_map]; exact h.top, by simp, fun i hi => ?_, fun i j hij hj => ?_⟩
  · rw [List.length_map] at hi
    have hz := h.each _ (List.getElem_mem hi)
    have a1 : (Z.map (·.2.1)).getD i undef = Z[i].2.1 := by simp [List.getD, hi]
    have a2 : gt (Z.map (·.1)) i = Z[i].1 := by rw [gt_lt (by simpa using hi)]; simp
    have a3 : ug (Z.map (·.2.2)) i = Z[i].2.2 := by simp [ug, List.getD, hi]
    rw [a1, a2, a3]
    exact hz
  · rw [List.length_map] at hj
    have hp := List.pairwise_iff_getElem.1 h.apart i j (by omega) hj hij
    have a3 : ∀ t, (ht : t < Z.length) → ug (Z.map (·.2.2)) t = Z[t].2.2 := fun t ht => by simp [ug, List.getD, ht]
    rw [a3 i (by omega), a3 j hj]
    exact hp
theorem pick_at {Z : List (List (List Int) × Value × List Value)} {i : Nat} (hi : i < Z.length) : ∃ z, z ∈ Z ∧ Z[i]? = some z ∧ Z.take (i + 1) = Z.take i ++ [z] :=
  ⟨Z[i], List.getElem_mem hi, List.getElem?_eq_getElem hi, List.take_succ_eq_append_getElem hi⟩
/-- reading one of the tables -/
theorem OwnZ.at {w : World} {B n c : Nat} {ao : Option Addr} {Z : List (List (List Int) × Value × List Value)} (h : OwnZ w B (.slice ao n c) Z) {i : Nat} {z : List (List Int) × Value × List Value} (hi : i < Z.length) (hz : Z[i]? = some z) :
    ∃ b o r d, ao = some ⟨b, o, none⟩ ∧ w.cell? ⟨b, o + i, none⟩ = some (.slice r z.1.length d) ∧ z.2.1 = .slice r z.1.length d ∧ MatAt w r z.1 := by
  obtain ⟨ao', c', e, _, _, hc⟩ := ownsRow_read h.top
  cases e
  obtain ⟨b, o, e, hcell⟩ := hc i hi
  obtain ⟨r, d, hr, _, _, hm⟩ := (h.each z (List.mem_of_getElem? hz)).read
  have a1 : (Z.map (·.2.1)).getD i undef = z.2.1 := by rw [List.getD, List.getElem?_map, hz]; rfl
  exact ⟨b, o, r, d, e, by rw [hcell, a1, hr], hr, hm⟩
theorem OwnZ.base {w : World} {B B' : Nat} {v : Value} {Z : List (List (List Int) × Value × List Value)} (h : OwnZ w B v Z) (hB : B' ≤ B) : OwnZ w B' v Z := ⟨ownsRow_base h.top hB, fun z hz => (h.each z hz).base hB, h.apart⟩

theorem ownsRow_cut {w : World} {B : Nat} {e : TypeId} {g n c i : Nat} {xs : List Value} (h : w.ownsRow B e 1 (.slice (some ⟨g, 0, none⟩) n c) n xs) (hi : i ≤ n) : w.ownsRow B e 1 (.slice (some ⟨g, 0, none⟩) i c) i (xs.take i) := by
  have hl : xs.length = n := by simpa using h.1
  refine ⟨by simp; omega, ?_⟩
  rcases h.2 with ⟨h0, _⟩ | ⟨g', cap, cur, hv, hg, hh, hn, hm, hs, ht⟩
  · simp at h0
  · simp only [Value.slice.injEq, Option.some.injEq, Addr.mk.injEq, and_true, true_and] at hv
    obtain ⟨rfl, rfl⟩ := hv
    refine .inr ⟨g, c, cur, rfl, hg, hh, by omega, hm, hs, ?_⟩
    rw [← ht, Nat.mul_one, Nat.mul_one, List.take_take, Nat.min_eq_left hi]
theorem ownsRow_setCells {B : Nat} {e : TypeId} {g n c : Nat} : ∀ (zs : List Value) (o : Nat) {w : World} {xs : List Value}, w.ownsRow B e 1 (.slice (some ⟨g, 0, none⟩) n c) n xs → ∃ ys, (w.setCells g o zs).ownsRow B e 1 (.slice (some ⟨g, 0, none⟩) n c) n ys ∧ ys.take o = xs.take o
  | [], _, _, xs, h => ⟨xs, h, rfl⟩
  | z :: zs, o, w, xs, h => by
    obtain ⟨ys, h1, h2⟩ := ownsRow_setCells zs (o + 1) (World.ownsRow.stored h o z).1
    refine ⟨ys, h1, ?_⟩
    have h3 := congrArg (List.take o) h2
    rw [List.take_take, List.take_take, Nat.min_eq_left (by omega), List.take_set_of_le (Nat.le_refl _)] at h3
    exact h3
theorem OwnT.setCells {B B' : Nat} {x : Value} {m : List (List Int)} {vs : List Value} {g n c : Nat} : ∀ (zs : List Value) (o : Nat) {w : World} {xs : List Value}, OwnT w B x m vs → w.ownsRow B' 22 1 (.slice (some ⟨g, 0, none⟩) n c) n xs → OwnT (w.setCells g o zs) B x m vs
  | [], _, _, _, h, _ => h
  | z :: zs, o, _, _, h, k => OwnT.setCells zs (o + 1) (h.setOther k rfl (by decide) (by decide) z) (World.ownsRow.stored k o z).1
theorem below_setCellsT {B b : Nat} {a : World} (hb : B ≤ b) : ∀ (vs : List Value) (o : Nat) {w : World}, Below B a w → Below B a (w.setCells b o vs)
  | [], _, _, h => h
  | v :: r, o, _, h => below_setCellsT hb r (o + 1) (h.setCell (p := ⟨b, o, none⟩) hb v)

def NoneZ (del : List (List Int) → Bool) (L : List (List (List Int) × Value × List Value)) : Prop := ∀ z ∈ L, del z.1 = false
def keepZ (del : List (List Int) → Bool) (L : List (List (List Int) × Value × List Value)) : List (List (List Int) × Value × List Value) := L.filter (fun z => !del z.1)
theorem keepZ_all {del : List (List Int) → Bool} {L : List (List (List Int) × Value × List Value)} (h : NoneZ del L) : keepZ del L = L := by
  unfold keepZ
  rw [List.filter_eq_self]
  intro z hz
  rw [h z hz]
  rfl
theorem keepZ_snoc {del : List (List Int) → Bool} {Z : List (List (List Int) × Value × List Value)} {t : Nat} {z : List (List Int) × Value × List Value} (h : Z.take (t + 1) = Z.take t ++ [z]) : keepZ del (Z.take (t + 1)) = if del z.1 then keepZ del (Z.take t) else keepZ del (Z.take t) ++ [z] := by
  unfold keepZ
  rw [h, List.filter_append]
  cases e : del z.1 <;> simp [e]
theorem keepZ_len (del : List (List Int) → Bool) (L : List (List (List Int) × Value × List Value)) : (keepZ del L).length ≤ L.length := List.length_filter_le _ _
/-- the first that is struck -/
def FoundZ (del : List (List Int) → Bool) (Z : List (List (List Int) × Value × List Value)) (e : Ending) : Prop :=
  (e = .returned (.int .i64 (-1)) ∧ NoneZ del Z) ∨ ∃ (t : Nat) (z : List (List Int) × Value × List Value), t < Z.length ∧ e = .returned (.int .i64 (t : Int)) ∧ del z.1 = true ∧ Z.take (t + 1) = Z.take t ++ [z] ∧ NoneZ del (Z.take t)
/-- the closure's answers, as long as nothing below block B has changed -/
def PredZ (B P : Nat) (del : List (List Int) → Bool) (Z : List (List (List Int) × Value × List Value)) (w : World) : Prop :=
  ∀ w', Below B w w' → ∀ z ∈ Z, ∀ a c, MatAt w' a z.1 → Calls Tryd.prog 72 #[.slice a z.1.length c, .pointer (some ⟨P, 0, none⟩)] w' fun e w2 => e = .returned (.bool (del z.1)) ∧ Below w'.heap.size w' w2

set_option maxRecDepth 100000 in
set_option maxHeartbeats 1600000 in
theorem indexZ_any (B P : Nat) (del : List (List Int) → Bool) (Z : List (List (List Int) × Value × List Value)) (ao : Option Addr) (n c : Nat) (w : World) (hB : B ≤ w.heap.size) (hn : Z.length = n) (hn2 : n ≤ 1048576) (hZ : OwnZ w B (.slice ao n c) Z) (hp : PredZ B P del Z w) :
    Calls Tryd.prog 91 #[.slice ao n c, .func (.func 72) #[] #[.pointer (some ⟨P, 0, none⟩)]] w fun e w' => FoundZ del Z e ∧ Below w.heap.size w w' := by
  have hmx : n ≤ 9223372036854775807 := by omega
  have Hn := Lib.hid hn
  have HZ := Lib.hid hZ
  have Hp := Lib.hid hp
  have HB := Lib.hid hB
  clear hn hZ hp hB
  go_enter Tryd.func91, Tryd.ntmps91
  go_wp2
  go_loopw [8] (fun i wr => ∃ t : Nat, t ≤ n ∧ i = .int .i64 t ∧ NoneZ del (Z.take t) ∧ Below w.heap.size w wr) (fun i _ => n - (intOf i).toNat)
  case atStart => exact ⟨0, Nat.zero_le _, rfl, (fun z hz => by simp at hz), Below.refl _ _⟩
  case round =>
    obtain ⟨t, ht, rfl, hno, hbr⟩ := hrel
    have Hno := Lib.hid hno
    have Hbr := Lib.hid hbr
    clear hno hbr
    by_cases hlt : t < n
    · have hlt' : t < Z.length := by rw [Hn.out]; exact hlt
      obtain ⟨z, hzm, hzi, hsn⟩ := pick_at hlt'
      obtain ⟨b, o, r, d, rfl, hcell, _, hm⟩ := (HZ.out.below Hbr.out).at hlt' hzi
      have CC := Hp.out wr (Hbr.out.mono HB.out) z hzm r d hm
      have Hsn := Lib.hid hsn
      have Hlt' := Lib.hid hlt'
      obtain ⟨q, hq⟩ : ∃ q, q = del z.1 := ⟨_, rfl⟩
      rw [← hq] at CC
      have Hq := Lib.hid hq
      obtain ⟨u, hu⟩ : ∃ u, u = z.1.length := ⟨_, rfl⟩
      rw [← hu] at CC hcell
      have CC := Lib.hid CC
      clear hm hzm hzi hsn hq hu hlt'
      go_wp2_with fail
      refine CC.out.mono ?_
      rintro e w2 ⟨rfl, hb2⟩
      have Hb2 := Lib.hid (Hbr.out.trans (hb2.mono Hbr.out.size))
      clear hb2 CC hcell
      cases q
      · go_wp2
        go_roundw
        case rel => exact ⟨t + 1, by omega, by go_num, (fun y hy => by
          rw [Hsn.out] at hy
          rcases List.mem_append.1 hy with h | h
          · exact Hno.out y h
          · rw [List.mem_singleton.1 h]; exact Hq.out.symm), Hb2.out⟩
        case measure => simp [intOf]; omega
      · go_wp2
        go_ret
        exact ⟨.inr ⟨t, z, Hlt'.out, rfl, Hq.out.symm, Hsn.out, Hno.out⟩, Hb2.out⟩
    · obtain rfl : t = n := by omega
      have Hall := Lib.hid (show NoneZ del Z from by have := Hno.out; rw [← Hn.out, List.take_length] at this; exact this)
      clear Hno
      go_wp2
      go_ret
      exact ⟨.inl ⟨rfl, Hall.out⟩, Hbr.out⟩

/-- the list's slices as they are while those that are struck are left out -/
structure DelZ (del : List (List Int) → Bool) (Z : List (List (List Int) × Value × List Value)) (n t : Nat) (L : List (List (List Int) × Value × List Value)) (us : List Value) : Prop where
  ht : t ≤ n
  hL : L = keepZ del (Z.take t)
  hlt : L.length < t
  hul : us.length = n
  hut : us.take L.length = L.map (·.2.1)
  huu : ∀ u, t ≤ u → us[u]? = (Z.map (·.2.1))[u]?

set_option maxRecDepth 100000 in
set_option maxHeartbeats 3200000 in
theorem deleteZ_any (B P : Nat) (del : List (List Int) → Bool) (Z : List (List (List Int) × Value × List Value)) (v : Value) (w : World) (hB : B ≤ w.heap.size) (hn2 : Z.length ≤ 1048576) (hZ : OwnZ w B v Z) (hp : PredZ B P del Z w) :
    Calls Tryd.prog 71 #[v, .func (.func 72) #[] #[.pointer (some ⟨P, 0, none⟩)]] w fun e w' => ∃ v', e = .returned v' ∧ OwnZ w' B v' (keepZ del Z) ∧ Below B w w' := by
  obtain ⟨ao, c, rfl, hc1, hc2, _⟩ := ownsRow_read hZ.top
  obtain ⟨n, hn⟩ : ∃ n, n = Z.length := ⟨_, rfl⟩
  rw [← hn] at hn2 hc1
  have hZ' : OwnZ w B (.slice ao n c) Z := by rw [hn]; exact hZ
  rw [← hn]
  have hidx := indexZ_any B P del Z ao n c w hB hn.symm hn2 hZ' hp
  have hmx : n ≤ 9223372036854775807 := by omega
  have Hn := Lib.hid hn
  have HZ := Lib.hid hZ'
  have Hp := Lib.hid hp
  have HB := Lib.hid hB
  have Hidx := Lib.hid hidx
  clear hn hZ hZ' hp hB hidx
  go_enter Tryd.func71, Tryd.ntmps71
  go_wp2_with fail
  refine Hidx.out.mono ?_
  rintro e w1 ⟨hf, hb1⟩
  have Hb1 := Lib.hid hb1
  rcases hf with ⟨rfl, hall⟩ | ⟨t0, z0, ht0, rfl, hdel, hs0, hno⟩
  · have HF := Lib.hid (show OwnZ w1 B (.slice ao n c) (keepZ del Z) from by rw [keepZ_all hall]; exact HZ.out.below hb1)
    clear hall hb1
    go_wp2
    go_ret
    exact ⟨_, rfl, HF.out, Hb1.out.mono HB.out⟩
  · have ht0' : t0 < n := by rw [Hn.out]; exact ht0
    obtain ⟨g, hg, hBg⟩ : ∃ g, ao = some ⟨g, 0, none⟩ ∧ B ≤ g := by
      rcases HZ.out.top.2 with ⟨h0, h1⟩ | ⟨g, cap, cur, hv, hgb, _⟩
      · omega
      · simp only [Value.slice.injEq] at hv
        exact ⟨g, hv.1, hgb⟩
    subst hg
    have HBg := Lib.hid hBg
    have hne1 : ((t0 : Int) == -1) = false := beq_eq_false_iff_ne.2 (by omega)
    have Hk0 := Lib.hid (show keepZ del (Z.take (t0 + 1)) = Z.take t0 from by rw [keepZ_snoc hs0, hdel, if_pos rfl, keepZ_all hno])
    have Htop := Lib.hid (show w1.ownsRow B 22 1 (.slice (some ⟨g, 0, none⟩) n c) n (Z.map (·.2.1)) from by rw [Hn.out]; rw [Hn.out] at HZ; exact (HZ.out.below hb1).top)
    have Heach := Lib.hid (HZ.out.below hb1).each
    have Ht0 := Lib.hid ht0
    have Hap := Lib.hid HZ.out.apart
    have HBw := Lib.hid (Hb1.out.mono HB.out)
    have HB1 := Lib.hid (Nat.le_trans HB.out hb1.size)
    clear hb1 ht0 hdel hs0 hno hBg Hidx HZ
    go_wp2
    clear hne1
    go_loopw [5, 6, 7] (fun i j _ wr => ∃ (t : Nat) (L : List (List (List Int) × Value × List Value)) (us : List Value), j = .int .i64 t ∧ i = .int .i64 (L.length : Int) ∧ DelZ del Z n t L us ∧ wr.ownsRow B 22 1 (.slice (some ⟨g, 0, none⟩) n c) n us ∧ (∀ z, z ∈ Z → OwnT wr B z.2.1 z.1 z.2.2) ∧ B ≤ wr.heap.size ∧ Below B w wr) (fun _ j _ _ => n - (intOf j).toNat)
    case atStart => exact ⟨t0 + 1, Z.take t0, Z.map (·.2.1), by go_num, by rw [List.length_take, Nat.min_eq_left (by have := Ht0.out; omega)], ⟨by omega, Hk0.out.symm, by rw [List.length_take]; omega, by rw [List.length_map, Hn.out], by rw [List.length_take, Nat.min_eq_left (by have := Ht0.out; omega), List.map_take], fun u _ => rfl⟩, Htop.out, Heach.out, HB1.out, HBw.out⟩
    case round =>
      obtain ⟨t, L, us, rfl, rfl, ⟨ht, hL, hLt, hul, hut, huu⟩, htop, heach, hBr, hbr⟩ := hrel
      clear Htop Heach HB1 HBw
      obtain ⟨i, hi⟩ : ∃ i, i = L.length := ⟨_, rfl⟩
      rw [← hi] at hLt hut ⊢
      have Hi := Lib.hid hi
      have HL := Lib.hid hL
      have Hul := Lib.hid hul
      have Hut := Lib.hid hut
      have Huu := Lib.hid huu
      have Htop := Lib.hid htop
      have Heach := Lib.hid heach
      have Hbr := Lib.hid hbr
      have HBr := Lib.hid hBr
      clear hi hL hul hut huu htop heach hbr hBr
      by_cases hlt : t < n
      · have hlt' : t < Z.length := by rw [← Hn.out]; exact hlt
        obtain ⟨z, hzm, hzi, hts⟩ := pick_at hlt'
        obtain ⟨r, d, hr, _, _, hm⟩ := (Heach.out z hzm).read
        have hcell : wr.cell? ⟨g, t, none⟩ = some (.slice r z.1.length d) := by
          have h1 := World.ownsRow.cellAt Htop.out t (by omega)
          rw [h1, Huu.out t (Nat.le_refl _), List.getElem?_map, hzi]
          simp [hr]
        have CC := Hp.out wr Hbr.out z hzm r d hm
        have hsn := keepZ_snoc (del := del) hts
        rw [← HL.out] at hsn
        have Hzv := Lib.hid hr
        obtain ⟨q, hq⟩ : ∃ q, q = del z.1 := ⟨_, rfl⟩
        rw [← hq] at CC hsn
        obtain ⟨u, hu⟩ : ∃ u, u = z.1.length := ⟨_, rfl⟩
        rw [← hu] at CC hcell Hzv
        have CC := Lib.hid CC
        have Hsn := Lib.hid hsn
        clear hm hzm hzi hts hq hu hlt' hr hsn
        go_wp2_with fail
        refine CC.out.mono ?_
        rintro e w2 ⟨rfl, hb2⟩
        have Htop2 := Lib.hid (ownsRow_below Htop.out hb2)
        have Heach2 := Lib.hid (fun y hy => (Heach.out y hy).below hb2)
        have Hbr2 := Lib.hid (Hbr.out.trans (hb2.mono HBr.out))
        have HBr2 := Lib.hid (Nat.le_trans HBr.out hb2.size)
        clear hb2 CC hcell
        cases q
        · have hc2' : w2.cell? ⟨g, i, none⟩ = us[i]? := World.ownsRow.cellAt Htop2.out i (by omega)
          rw [List.getElem?_eq_getElem (by rw [Hul.out]; omega)] at hc2'
          have hf := World.ownsRow.frozenAt Htop2.out i
          have hit : i < n := by omega
          have Hset := Lib.hid (World.ownsRow.stored Htop2.out i (.slice r u d)).1
          have HeS := Lib.hid (fun y hy => (Heach2.out y hy).setOther Htop2.out (i := i) rfl (by decide) (by decide) (.slice r u d))
          have HbS := Lib.hid (Hbr2.out.setCell (p := ⟨g, i, none⟩) HBg.out (.slice r u d))
          have Hsn2 := Lib.hid (show keepZ del (Z.take (t + 1)) = L ++ [z] from by have := Hsn.out; simpa using this)
          obtain ⟨x, hx⟩ : ∃ x, x = us[i]'(by rw [Hul.out]; omega) := ⟨_, rfl⟩
          rw [← hx] at hc2'
          clear hx
          go_wp2
          go_roundw
          case rel =>
            refine ⟨t + 1, L ++ [z], us.set i (.slice r u d), by go_num, by rw [List.length_append, ← Hi.out]; go_num, ⟨by omega, Hsn2.out.symm, by rw [List.length_append, ← Hi.out]; simp; omega, by rw [List.length_set]; exact Hul.out, ?_, fun y hy => ?_⟩, Hset.out, HeS.out, by simpa using HBr2.out, HbS.out⟩
            · rw [List.length_append, ← Hi.out]
              show (us.set i (.slice r u d)).take (i + 1) = (L ++ [z]).map (·.2.1)
              rw [List.take_add_one, List.take_set_of_le (Nat.le_refl _), Hut.out, List.getElem?_set_self (by rw [Hul.out]; omega), List.map_append, ← Hzv.out]
              rfl
            · rw [List.getElem?_set_ne (by omega)]
              exact Huu.out y (by omega)
          case measure => simp [intOf]; omega
        · have Hsn2 := Lib.hid (show keepZ del (Z.take (t + 1)) = L from by have := Hsn.out; simpa using this)
          go_wp2
          go_roundw
          case rel => exact ⟨t + 1, L, us, by go_num, by rw [Hi.out], ⟨by omega, Hsn2.out.symm, by rw [← Hi.out]; omega, Hul.out, by rw [← Hi.out]; exact Hut.out, fun y hy => Huu.out y (by omega)⟩, Htop2.out, Heach2.out, HBr2.out, Hbr2.out⟩
          case measure => simp [intOf]; omega
      · obtain rfl : t = n := by omega
        have hfin : L = keepZ del Z := by have := HL.out; rw [Hn.out, List.take_length] at this; exact this
        have Hfin := Lib.hid hfin
        have hvs : ∀ ty, (Builtin.clear_ #[29] ty #[.slice (some ⟨g, i, none⟩) (t - i) (c - i)]).run Tryd.prog wr = .ok (.tuple #[]) (wr.setCells g i (List.replicate (t - i) (.slice none 0 0))) := fun ty =>
          Lib.run_clear_slice wr 29 22 ty (.slice none 0 0) Tryd.underlying29 (fun w => by kernel_rfl) rfl rfl g i (t - i) (c - i) (by omega) (fun j hj => by
            rw [World.ownsRow.cellAt Htop.out (i + j) (by omega), List.getElem?_eq_getElem (by rw [Hul.out]; omega)]
            rfl) (fun j hj => World.ownsRow.frozenAt Htop.out (i + j))
        obtain ⟨ys, hy1, hy2⟩ := ownsRow_setCells (List.replicate (t - i) (.slice none 0 0)) i Htop.out
        have HF := Lib.hid (show OwnZ (wr.setCells g i (List.replicate (t - i) (.slice none 0 0))) B (.slice (some ⟨g, 0, none⟩) i c) (keepZ del Z) from by
          refine ⟨?_, fun z hz => ?_, ?_⟩
          · rw [← Hfin.out, ← Hi.out, ← Hut.out, ← hy2]
            exact ownsRow_cut hy1 (by omega)
          · exact (Heach.out z (List.mem_filter.1 hz).1).setCells _ i Htop.out
          · exact Hap.out.filter _)
        have HbF := Lib.hid (below_setCellsT HBg.out (List.replicate (t - i) (.slice none 0 0)) i Hbr.out)
        have hm1 : (i : Int) ≤ t := by omega
        have hm2 : (i : Int) ≤ c := by omega
        have hne : ¬ c = i := by omega
        clear hfin hy1 hy2
        go_wp2
        go_ret
        exact ⟨_, rfl, HF.out, HbF.out⟩
end Go.Proofs.YtgdijjfipicodaaDoor

