/- Parts of proofs: contracts and plain facts. Conditions: as each says. -/
import Derived.Test.YtjkpokpidpampaaDoorK21
import Derived.Maps.AppendAt
namespace Go.Proofs.YtjkpokpidpampaaDoor
open Go.RowKit

theorem gr_appl {m k : List (List Int)} {i : Nat} (h : i < m.length) : gr (m ++ k) i = gr m i := by
  rw [gr_lt (by simp; omega), gr_lt h, List.getElem_append_left h]
theorem gr_appr {m k : List (List Int)} {i : Nat} (h : i < k.length) : gr (m ++ k) (m.length + i) = gr k i := by
  rw [gr_lt (by simp; omega), gr_lt h, List.getElem_append_right (by omega)]
  simp

/-- a table that a call owns, its rows apart -/
def OwnT (w : World) (B : Nat) (v : Value) (m : List (List Int)) (vs : List Value) : Prop := OwnP w B v m.length m m.length vs
theorem OwnT.below {w w' : World} {B : Nat} {v : Value} {m : List (List Int)} {vs : List Value} (h : OwnT w B v m vs) (hb : Below w.heap.size w w') : OwnT w' B v m vs := OwnP.below h hb
theorem OwnT.base {w : World} {B B' : Nat} {v : Value} {m : List (List Int)} {vs : List Value} (h : OwnT w B v m vs) (hB : B' ≤ B) : OwnT w B' v m vs := OwnP.base h hB
theorem OwnT.nil (w : World) (B : Nat) : OwnT w B (.slice none 0 0) [] [] := ⟨World.ownsRow_nil _ _ _ _, fun i hi => absurd hi (by simp), fun i j _ hj => absurd hj (by simp)⟩
theorem OwnT.toM {w : World} {B : Nat} {v : Value} {m : List (List Int)} {vs : List Value} (h : OwnT w B v m vs) : OwnM w B v m := ⟨vs, h⟩
theorem OwnT.read {w : World} {B : Nat} {v : Value} {m : List (List Int)} {vs : List Value} (h : OwnT w B v m vs) : ∃ ao c, v = .slice ao m.length c ∧ m.length ≤ c ∧ c ≤ 9223372036854775807 ∧ MatAt w ao m := h.toM.read
theorem OwnT.len {w : World} {B : Nat} {v : Value} {m : List (List Int)} {vs : List Value} (h : OwnT w B v m vs) : vs.length = m.length := by simpa using h.top.1
/-- the rows' blocks -/
theorem OwnT.old {w : World} {B : Nat} {v : Value} {m : List (List Int)} {vs : List Value} (h : OwnT w B v m vs) : ∀ i, i < m.length → ∀ g, (vs.getD i undef).ownBlock = some g → B ≤ g ∧ g < w.heap.size := fun i hi g hg => (h.rows i hi).lt g hg
theorem OwnI.kept_tab {w w1 : World} {B B' n : Nat} {x u : Value} {ys : List Int} {vs : List Value} (hx : OwnI w B x ys) (ht : w.ownsRow B' 28 1 u n vs) (hg : w.grownBy w1 u.ownBlock) : OwnI w1 B x ys := by
  refine World.ownsRow.kept hx hg ?_
  cases hb : x.ownBlock with
  | none => exact .inl rfl
  | some g => exact .inr (fun e => hx.ne_row ht g hb e.symm)
theorem OwnT.cells {w : World} {B n : Nat} {ad : Addr} {m : List (List Int)} {vs : List Value} {c : Nat} (h : OwnT w B (.slice (some ad) n c) m vs) : (∀ j u, vs[j]? = some u → w.cell? (ad.add j) = some u) ∧ (∀ u ∈ vs, u.oneCell' = true) := by
  have hl := h.len
  obtain ⟨ao, c', e, _, _, hc⟩ := ownsRow_read h.top
  cases e
  refine ⟨fun j u hj => ?_, fun u hu => ?_⟩
  · have hjl : j < vs.length := (List.getElem?_eq_some_iff.1 hj).1
    obtain ⟨b3, o3, e3, hc3⟩ := hc j (by omega)
    cases e3
    rw [Addr.add_lit, hc3, List.getD, hj]
    rfl
  · obtain ⟨i, hi, rfl⟩ := List.mem_iff_getElem.1 hu
    have := (h.rows i (by omega)).read
    rw [List.getD, List.getElem?_eq_getElem hi] at this
    obtain ⟨_, _, e, _⟩ := this
    rw [show vs[i] = (some vs[i]).getD undef from rfl, e]
    rfl
/-- a table behind which the rows of another one, younger, have been put -/
theorem OwnT.join {w w1 : World} {B B' : Nat} {v v' u : Value} {m k : List (List Int)} {vs us : List Value} (h : OwnT w B v m vs) (hk : OwnT w B' u k us) (hBB : B ≤ B')
    (hold : ∀ i, i < m.length → ∀ g, (vs.getD i undef).ownBlock = some g → g < B')
    (h1 : w1.ownsRow B 28 1 v' (m.length + k.length) (vs ++ us)) (kept : ∀ (x : Value) (ys : List Int), OwnI w B x ys → OwnI w1 B x ys) : OwnT w1 B v' (m ++ k) (vs ++ us) := by
  have hl := h.len
  have hl2 := hk.len
  have gl : ∀ i, i < m.length → (vs ++ us).getD i undef = vs.getD i undef := fun i hi => by
    simp only [List.getD]; rw [List.getElem?_append_left (by omega)]
  have grr : ∀ i, m.length ≤ i → (vs ++ us).getD i undef = us.getD (i - m.length) undef := fun i hi => by
    simp only [List.getD]; rw [List.getElem?_append_right (by omega), hl]
  refine ⟨by rw [List.length_append]; exact h1, fun i hi => ?_, fun i j hij hj g hg => ?_⟩
  · rw [List.length_append] at hi
    by_cases hi2 : i < m.length
    · rw [gl i hi2, gr_appl hi2]
      exact kept _ _ (h.rows i hi2)
    · rw [grr i (by omega), show i = m.length + (i - m.length) from by omega, gr_appr (by omega), show m.length + (i - m.length) - m.length = i - m.length from by omega]
      exact kept _ _ ((hk.rows (i - m.length) (by omega)).base hBB)
  · rw [List.length_append] at hj
    by_cases hj2 : j < m.length
    · rw [gl i (by omega)] at hg
      rw [gl j hj2]
      exact h.apart i j hij hj2 g hg
    · rw [grr j (by omega)]
      by_cases hi2 : i < m.length
      · rw [gl i hi2] at hg
        intro hg2
        have a := hold i hi2 g hg
        have b := ((hk.rows (j - m.length) (by omega)).lt g hg2).1
        omega
      · rw [grr i (by omega)] at hg
        exact hk.apart (i - m.length) (j - m.length) (by omega) (by omega) g hg

/-- a number is appended to a row -/
theorem wpList_numT {w : World} {ops : Array Oper} {rest : List Oper} {o : Oper} {a : Act} {Q : Exit → Act → World → Prop} (hgd : o.guard = none) (s x : Operand)
    (ho : o.op = .call { callee := .builtin .append, args := #[s, x], argTypes := #[28, 28] })
    (B : Nat) (v : Value) (xs : List Int) (y : Int) (h : OwnI w B v xs) (hs : a.eval s = v) (hx : a.eval x = .slice (some ⟨w.heap.size, 0, none⟩) 1 1) (hB : B ≤ w.heap.size) (hl : xs.length < 1048576)
    (K : ∀ v' w1, OwnI w1 B v' (xs ++ [y]) → Below B w w1 → wpList Tryd.prog ops Q rest (a.put o.dst v') w1) : wpList Tryd.prog ops Q (o :: rest) a (w.alloc (.cells #[.int .i64 y] 3)) := by
  obtain ⟨i0, hi, hz0, hz1, hz2⟩ := info_parts Tryd.info_int
  refine wpList_append_own _ hgd s x 28 ho B 3 i0 (.int .i64 0) 1 8 Tryd.underlying28 hi hz0 hz1 hz2 rfl (by decide) v xs.length _ hs (World.ownsRow.alloc h _) ⟨w.heap.size, 0, none⟩ 1 1 [.int .i64 y] hx rfl ?_ ?_ (by unfold maxLen; omega) (by omega) (by simp; omega) ?_
  · exact cell_one_new _ _ _
  · intro u hu; simp at hu; subst hu; rfl
  · intro v' w1 h1 h2 _
    have := h.snoc hB h1 h2
    exact K v' w1 this.1 this.2

/-- a row is appended to a table -/
theorem wpList_rowT {w : World} {ops : Array Oper} {rest : List Oper} {o : Oper} {a : Act} {Q : Exit → Act → World → Prop} (hgd : o.guard = none) (s x : Operand)
    (ho : o.op = .call { callee := .builtin .append, args := #[s, x], argTypes := #[22, 22] })
    (B : Nat) (v u : Value) (m : List (List Int)) (vs : List Value) (row : List Int) (h : OwnT w B v m vs) (hu : OwnI w B u row) (hs : a.eval s = v) (hx : a.eval x = .slice (some ⟨w.heap.size, 0, none⟩) 1 1)
    (hne : ∀ j, j < m.length → ∀ g, (vs.getD j undef).ownBlock = some g → u.ownBlock ≠ some g) (hB : B ≤ w.heap.size) (hl : m.length < 1048576)
    (K : ∀ v' w1, OwnT w1 B v' (m ++ [row]) (vs ++ [u]) → OwnI w1 B u row → Below B w w1 → wpList Tryd.prog ops Q rest (a.put o.dst v') w1) : wpList Tryd.prog ops Q (o :: rest) a (w.alloc (.cells #[u] 28)) := by
  obtain ⟨j0, hj, hy0, hy1, hy2⟩ := info_parts Tryd.info_ints
  refine wpList_append_own _ hgd s x 22 ho B 28 j0 (.slice none 0 0) 1 24 Tryd.underlying22 hj hy0 hy1 hy2 rfl (by decide) v m.length _ hs (World.ownsRow.alloc h.top _) ⟨w.heap.size, 0, none⟩ 1 1 [u] hx rfl ?_ ?_ (by unfold maxLen; omega) (by omega) (by simp; omega) ?_
  · exact cell_one_new _ _ _
  · intro z hz; simp at hz; subst hz; obtain ⟨_, _, e, _⟩ := hu.read; rw [e]; rfl
  · intro v' w1 h1 h2 _
    have ho : OwnT (w.alloc (.cells #[u] 28)) B v m vs := OwnP.below h ((Below.refl _ _).alloc (Nat.le_refl _) _)
    have hu2 : OwnI (w.alloc (.cells #[u] 28)) B u row := hu.below ((Below.refl _ _).alloc (Nat.le_refl _) _)
    have hkept : ∀ (x : Value) (ys : List Int), OwnI w B x ys → OwnI w1 B x ys := fun x ys hx => (hx.below ((Below.refl _ _).alloc (Nat.le_refl _) (.cells #[u] 28))).kept_tab ho.top h2
    refine K v' w1 ?_ (hkept _ _ hu) (Below.grown ((Below.refl B w).alloc hB _) h2 (by simp; omega) (fun k hk => (World.ownsRow.lt h.top k hk).1))
    have hlv := h.len
    have gl : ∀ i, i < m.length → (vs ++ [u]).getD i undef = vs.getD i undef := fun i hi => by
      simp only [List.getD]; rw [List.getElem?_append_left (by omega)]
    have gu : (vs ++ [u]).getD m.length undef = u := by
      simp only [List.getD]; rw [List.getElem?_append_right (by omega), hlv]; simp
    refine ⟨by rw [List.length_append]; exact h1, fun i hi => ?_, fun i j hij hj g hg => ?_⟩
    · rw [List.length_append, List.length_singleton] at hi
      by_cases hi2 : i < m.length
      · rw [gl i hi2, gr_appl hi2]
        exact hkept _ _ (h.rows i hi2)
      · obtain rfl : i = m.length := by omega
        have e : gr (m ++ [row]) m.length = row := by
          have := gr_appr (m := m) (k := [row]) (i := 0) (by simp)
          rw [Nat.add_zero] at this
          exact this
        rw [gu, e]
        exact hkept _ _ hu
    · rw [List.length_append, List.length_singleton] at hj
      rw [gl i (by omega)] at hg
      by_cases hj2 : j < m.length
      · rw [gl j hj2]
        exact h.apart i j hij hj2 g hg
      · obtain rfl : j = m.length := by omega
        rw [gu]
        exact hne i (by omega) g hg

/-- the rows of a younger table are appended to a table -/
theorem wpList_rowsT {w : World} {ops : Array Oper} {rest : List Oper} {o : Oper} {a : Act} {Q : Exit → Act → World → Prop} (hgd : o.guard = none) (s x : Operand)
    (ho : o.op = .call { callee := .builtin .append, args := #[s, x], argTypes := #[22, 22] })
    (B B' : Nat) (v u : Value) (m k : List (List Int)) (vs us : List Value) (h : OwnT w B v m vs) (hk : OwnT w B' u k us) (hs : a.eval s = v) (hx : a.eval x = u) (hBB : B ≤ B') (hold : ∀ i, i < m.length → ∀ g, (vs.getD i undef).ownBlock = some g → g < B')
    (hB : B ≤ w.heap.size) (hl : m.length + k.length ≤ 1048576)
    (K : ∀ v' w1, OwnT w1 B v' (m ++ k) (vs ++ us) → Below B w w1 → wpList Tryd.prog ops Q rest (a.put o.dst v') w1) : wpList Tryd.prog ops Q (o :: rest) a w := by
  obtain ⟨j0, hj, hy0, hy1, hy2⟩ := info_parts Tryd.info_ints
  obtain ⟨sa, sc, rfl, _, _, _⟩ := hk.read
  cases sa with
  | none =>
    have hM0 : k = [] ∧ sc = 0 := by
      rcases hk.top.2 with ⟨h1, h2⟩ | ⟨g, cap, cur, h1, _⟩
      · simp at h1; exact ⟨List.eq_nil_of_length_eq_zero h2, h1.2⟩
      · simp at h1
    obtain ⟨rfl, rfl⟩ := hM0
    have hus : us = [] := List.eq_nil_of_length_eq_zero hk.len
    subst hus
    refine wpList_append_own_none hgd s x 22 ho B 28 j0 1 Tryd.underlying22 hj v m.length vs hs h.top hx ?_
    exact K v w (by rw [List.append_nil, List.append_nil]; exact h) (Below.refl _ _)
  | some ad =>
    have hcl := hk.cells
    refine wpList_append_own _ hgd s x 22 ho B 28 j0 (.slice none 0 0) 1 24 Tryd.underlying22 hj hy0 hy1 hy2 rfl (by decide) v m.length vs hs h.top ad k.length sc us hx (by rw [hk.len]; omega) hcl.1 hcl.2 (by unfold maxLen; omega) (by omega) hB ?_
    intro v' w1 h1 h2 _
    exact K v' w1 (h.join hk hBB hold h1 (fun x ys hx => hx.kept_tab h.top h2)) (Below.grown (Below.refl _ _) h2 hB (fun k hk => (World.ownsRow.lt h.top k hk).1))
end Go.Proofs.YtjkpokpidpampaaDoor

namespace Go.Proofs.YtjkpokpidpampaaDoor
open Go.RowKit

theorem OwnI.nil_of {w : World} {B n c : Nat} {ao : Option Addr} {xs : List Int} (h : OwnI w B (.slice ao n c) xs) : ao = none → c = 0 ∧ xs = [] := by
  rintro rfl
  rcases h.2 with ⟨h0, h1⟩ | ⟨g, cap, cur, hv, _⟩
  · simp only [Value.slice.injEq] at h0
    exact ⟨h0.2.2, List.eq_nil_of_length_eq_zero h1⟩
  · simp at hv
/-- a slice that reads as a table -/
def ReadsT (w : World) (v : Value) (m : List (List Int)) : Prop := ∃ ao c, v = .slice ao m.length c ∧ m.length ≤ c ∧ c ≤ 9223372036854775807 ∧ MatAt w ao m
theorem ReadsT.read {w : World} {v : Value} {m : List (List Int)} (h : ReadsT w v m) : ∃ ao c, v = .slice ao m.length c ∧ m.length ≤ c ∧ c ≤ 9223372036854775807 ∧ MatAt w ao m := h
theorem OwnT.reads {w : World} {B : Nat} {v : Value} {m : List (List Int)} {vs : List Value} (h : OwnT w B v m vs) : ReadsT w v m := h.read
theorem ReadsT.nil (w : World) : ReadsT w (.slice none 0 0) [] := ⟨none, 0, rfl, Nat.le_refl _, by omega, MatAt.nil _ _⟩
/-- ([][]int, bool), the table only read -/
def VRes (p : Prop) (r : List (List Int)) (w : World) (e : Ending) : Prop :=
  ∃ v b r', e = .returned (.tuple #[v, .bool b]) ∧ ReadsT w v r' ∧ ((p ∧ b = true ∧ r' = r) ∨ (¬p ∧ b = false ∧ r' = []))
theorem VRes.yes {p : Prop} {r : List (List Int)} {w : World} {v : Value} (h : p) (ho : ReadsT w v r) : VRes p r w (.returned (.tuple #[v, .bool true])) := ⟨v, true, r, rfl, ho, .inl ⟨h, rfl, rfl⟩⟩
theorem VRes.no {p : Prop} {r : List (List Int)} {w : World} (h : ¬p) : VRes p r w (.returned (.tuple #[.slice none 0 0, .bool false])) := ⟨_, false, [], rfl, ReadsT.nil _, .inr ⟨h, rfl, rfl⟩⟩

/-- the slice is the call's own, its rows are any that someone owns -/
structure OwnV (w : World) (B : Nat) (v : Value) (m : List (List Int)) (vs : List Value) : Prop where
  top : w.ownsRow B 28 1 v m.length vs
  rows : ∀ i, i < m.length → OwnI w 0 (vs.getD i undef) (gr m i)
theorem OwnV.below {w w' : World} {B : Nat} {v : Value} {m : List (List Int)} {vs : List Value} (h : OwnV w B v m vs) (hb : Below w.heap.size w w') : OwnV w' B v m vs := ⟨ownsRow_below h.top hb, fun i hi => (h.rows i hi).below hb⟩
theorem OwnV.base {w : World} {B B' : Nat} {v : Value} {m : List (List Int)} {vs : List Value} (h : OwnV w B v m vs) (hB : B' ≤ B) : OwnV w B' v m vs := ⟨ownsRow_base h.top hB, h.rows⟩
theorem OwnV.nil (w : World) (B : Nat) : OwnV w B (.slice none 0 0) [] [] := ⟨World.ownsRow_nil _ _ _ _, fun i hi => absurd hi (by simp)⟩
theorem OwnV.len {w : World} {B : Nat} {v : Value} {m : List (List Int)} {vs : List Value} (h : OwnV w B v m vs) : vs.length = m.length := by simpa using h.top.1
theorem OwnT.toV {w : World} {B : Nat} {v : Value} {m : List (List Int)} {vs : List Value} (h : OwnT w B v m vs) : OwnV w B v m vs := ⟨h.top, fun i hi => (h.rows i hi).base (Nat.zero_le _)⟩
theorem OwnV.rowAt {w : World} {B n c : Nat} {ao : Option Addr} {m : List (List Int)} {vs : List Value} (h : OwnV w B (.slice ao n c) m vs) {i : Nat} (hi : i < m.length) :
    ∃ b o r d, ao = some ⟨b, o, none⟩ ∧ w.cell? ⟨b, o + i, none⟩ = some (.slice r (gr m i).length d) ∧ vs.getD i undef = .slice r (gr m i).length d ∧ IntsAt w r (gr m i) ∧ (gr m i).length ≤ d ∧ d ≤ 9223372036854775807 := by
  obtain ⟨ao', c', e, _, _, hc⟩ := ownsRow_read h.top
  cases e
  obtain ⟨b, o, e, hcell⟩ := hc i hi
  cases e
  obtain ⟨r, d, e2, h1, h2, h3⟩ := (h.rows i hi).read
  exact ⟨b, o, r, d, rfl, by rw [hcell, e2], e2, h3, h1, h2⟩
theorem OwnV.read {w : World} {B : Nat} {v : Value} {m : List (List Int)} {vs : List Value} (h : OwnV w B v m vs) : ReadsT w v m := by
  obtain ⟨ao, c, rfl, h1, h2, _⟩ := ownsRow_read h.top
  refine ⟨ao, c, rfl, h1, h2, fun i hi => ?_⟩
  obtain ⟨b, o, r, d, e, hc, _, hi2, h3, h4⟩ := h.rowAt hi
  exact ⟨b, o, r, d, e, hc, hi2, h3, h4⟩
theorem OwnV.cells {w : World} {B n : Nat} {ad : Addr} {m : List (List Int)} {vs : List Value} {c : Nat} (h : OwnV w B (.slice (some ad) n c) m vs) : (∀ j u, vs[j]? = some u → w.cell? (ad.add j) = some u) ∧ (∀ u ∈ vs, u.oneCell' = true) := by
  have hl := h.len
  obtain ⟨ao, c', e, _, _, hc⟩ := ownsRow_read h.top
  cases e
  refine ⟨fun j u hj => ?_, fun u hu => ?_⟩
  · have hjl : j < vs.length := (List.getElem?_eq_some_iff.1 hj).1
    obtain ⟨b3, o3, e3, hc3⟩ := hc j (by omega)
    cases e3
    rw [Addr.add_lit, hc3, List.getD, hj]
    rfl
  · obtain ⟨i, hi, rfl⟩ := List.mem_iff_getElem.1 hu
    have := (h.rows i (by omega)).read
    rw [List.getD, List.getElem?_eq_getElem hi] at this
    obtain ⟨_, _, e, _⟩ := this
    rw [show vs[i] = (some vs[i]).getD undef from rfl, e]
    rfl
theorem OwnV.join {w w1 : World} {B B' : Nat} {v v' _u : Value} {m k : List (List Int)} {vs us : List Value} (h : OwnV w B v m vs) (_hl2 : us.length = k.length) (hk : ∀ i, i < k.length → OwnI w B' (us.getD i undef) (gr k i))
    (h1 : w1.ownsRow B 28 1 v' (m.length + k.length) (vs ++ us)) (kept : ∀ (x : Value) (ys : List Int), OwnI w 0 x ys → OwnI w1 0 x ys) : OwnV w1 B v' (m ++ k) (vs ++ us) := by
  have hl := h.len
  refine ⟨by rw [List.length_append]; exact h1, fun i hi => ?_⟩
  rw [List.length_append] at hi
  by_cases hi2 : i < m.length
  · have e : (vs ++ us).getD i undef = vs.getD i undef := by simp only [List.getD]; rw [List.getElem?_append_left (by omega)]
    rw [e, gr_appl hi2]
    exact kept _ _ (h.rows i hi2)
  · have e : (vs ++ us).getD i undef = us.getD (i - m.length) undef := by simp only [List.getD]; rw [List.getElem?_append_right (by omega), hl]
    rw [e, show i = m.length + (i - m.length) from by omega, gr_appr (by omega), show m.length + (i - m.length) - m.length = i - m.length from by omega]
    exact kept _ _ ((hk (i - m.length) (by omega)).base (Nat.zero_le _))

/-- a row is appended to a table -/
theorem wpList_rowV {w : World} {ops : Array Oper} {rest : List Oper} {o : Oper} {a : Act} {Q : Exit → Act → World → Prop} (hgd : o.guard = none) (s x : Operand)
    (ho : o.op = .call { callee := .builtin .append, args := #[s, x], argTypes := #[22, 22] })
    (B B' : Nat) (v u : Value) (m : List (List Int)) (vs : List Value) (row : List Int) (h : OwnV w B v m vs) (hu : OwnI w B' u row) (hs : a.eval s = v) (hx : a.eval x = .slice (some ⟨w.heap.size, 0, none⟩) 1 1)
    (hB : B ≤ w.heap.size) (hl : m.length < 1048576)
    (K : ∀ v' w1, OwnV w1 B v' (m ++ [row]) (vs ++ [u]) → Below B w w1 → wpList Tryd.prog ops Q rest (a.put o.dst v') w1) : wpList Tryd.prog ops Q (o :: rest) a (w.alloc (.cells #[u] 28)) := by
  obtain ⟨j0, hj, hy0, hy1, hy2⟩ := info_parts Tryd.info_ints
  refine wpList_append_own _ hgd s x 22 ho B 28 j0 (.slice none 0 0) 1 24 Tryd.underlying22 hj hy0 hy1 hy2 rfl (by decide) v m.length _ hs (World.ownsRow.alloc h.top _) ⟨w.heap.size, 0, none⟩ 1 1 [u] hx rfl ?_ ?_ (by unfold maxLen; omega) (by omega) (by simp; omega) ?_
  · exact cell_one_new _ _ _
  · intro z hz; simp at hz; subst hz; obtain ⟨_, _, e, _⟩ := hu.read; rw [e]; rfl
  · intro v' w1 h1 h2 _
    have ho : OwnV (w.alloc (.cells #[u] 28)) B v m vs := h.below ((Below.refl _ _).alloc (Nat.le_refl _) _)
    refine K v' w1 ?_ (Below.grown ((Below.refl B w).alloc hB _) h2 (by simp; omega) (fun k hk => (World.ownsRow.lt h.top k hk).1))
    refine h.join (B' := B') (_u := u) (by simp) (fun i hi => ?_) h1 (fun x ys hx => (hx.below ((Below.refl _ _).alloc (Nat.le_refl _) (.cells #[u] 28))).kept_tab ho.top h2)
    obtain rfl : i = 0 := by simp at hi; omega
    exact hu

/-- the rows of another table are appended to a table -/
theorem wpList_rowsV {w : World} {ops : Array Oper} {rest : List Oper} {o : Oper} {a : Act} {Q : Exit → Act → World → Prop} (hgd : o.guard = none) (s x : Operand)
    (ho : o.op = .call { callee := .builtin .append, args := #[s, x], argTypes := #[22, 22] })
    (B B' : Nat) (v u : Value) (m k : List (List Int)) (vs us : List Value) (h : OwnV w B v m vs) (hk : OwnV w B' u k us) (hs : a.eval s = v) (hx : a.eval x = u)
    (hB : B ≤ w.heap.size) (hl : m.length + k.length ≤ 1048576)
    (K : ∀ v' w1, OwnV w1 B v' (m ++ k) (vs ++ us) → Below B w w1 → wpList Tryd.prog ops Q rest (a.put o.dst v') w1) : wpList Tryd.prog ops Q (o :: rest) a w := by
  obtain ⟨j0, hj, hy0, hy1, hy2⟩ := info_parts Tryd.info_ints
  obtain ⟨sa, sc, rfl, _, _, _⟩ := hk.read
  cases sa with
  | none =>
    have hM0 : k = [] ∧ sc = 0 := by
      rcases hk.top.2 with ⟨h1, h2⟩ | ⟨g, cap, cur, h1, _⟩
      · simp at h1; exact ⟨List.eq_nil_of_length_eq_zero h2, h1.2⟩
      · simp at h1
    obtain ⟨rfl, rfl⟩ := hM0
    have hus : us = [] := List.eq_nil_of_length_eq_zero hk.len
    subst hus
    refine wpList_append_own_none hgd s x 22 ho B 28 j0 1 Tryd.underlying22 hj v m.length vs hs h.top hx ?_
    exact K v w (by rw [List.append_nil, List.append_nil]; exact h) (Below.refl _ _)
  | some ad =>
    have hcl := hk.cells
    refine wpList_append_own _ hgd s x 22 ho B 28 j0 (.slice none 0 0) 1 24 Tryd.underlying22 hj hy0 hy1 hy2 rfl (by decide) v m.length vs hs h.top ad k.length sc us hx (by rw [hk.len]; omega) hcl.1 hcl.2 (by unfold maxLen; omega) (by omega) hB ?_
    intro v' w1 h1 h2 _
    exact K v' w1 (h.join (_u := .slice (some ad) k.length sc) hk.len hk.rows h1 (fun x ys hx => hx.kept_tab h.top h2)) (Below.grown (Below.refl _ _) h2 hB (fun k hk => (World.ownsRow.lt h.top k hk).1))
end Go.Proofs.YtjkpokpidpampaaDoor

namespace Go.Proofs.YtjkpokpidpampaaDoor
open Go.RowKit

theorem OwnV.kept {w w1 : World} {B B' n' : Nat} {x v : Value} {m : List (List Int)} {vs ys : List Value} {e' : TypeId} (h : OwnV w B x m vs) (k : w.ownsRow B' e' 1 v n' ys) (h1 : 28 ≠ e') (h2 : 3 ≠ e') (hg : w.grownBy w1 v.ownBlock) : OwnV w1 B x m vs :=
  ⟨row_kept h.top k h1 hg, fun i hi => row_kept (h.rows i hi) k h2 hg⟩
/-- the list is the call's own, its tables are any that someone owns -/
structure OwnW (w : World) (B : Nat) (v : Value) (ts : List (List (List Int))) (vs : List Value) : Prop where
  top : w.ownsRow B 22 1 v ts.length vs
  each : ∀ i, i < ts.length → ∃ us, OwnV w 0 (vs.getD i undef) (gt ts i) us
theorem OwnW.below {w w' : World} {B : Nat} {v : Value} {ts : List (List (List Int))} {vs : List Value} (h : OwnW w B v ts vs) (hb : Below w.heap.size w w') : OwnW w' B v ts vs := ⟨ownsRow_below h.top hb, fun i hi => ⟨_, (h.each i hi).choose_spec.below hb⟩⟩
theorem OwnW.base {w : World} {B B' : Nat} {v : Value} {ts : List (List (List Int))} {vs : List Value} (h : OwnW w B v ts vs) (hB : B' ≤ B) : OwnW w B' v ts vs := ⟨ownsRow_base h.top hB, h.each⟩
theorem OwnW.nil (w : World) (B : Nat) : OwnW w B (.slice none 0 0) [] [] := ⟨World.ownsRow_nil _ _ _ _, fun i hi => absurd hi (by simp)⟩
theorem OwnW.len {w : World} {B : Nat} {v : Value} {ts : List (List (List Int))} {vs : List Value} (h : OwnW w B v ts vs) : vs.length = ts.length := by simpa using h.top.1
theorem OwnW.head {w : World} {B : Nat} {v : Value} {ts : List (List (List Int))} {vs : List Value} (h : OwnW w B v ts vs) : ∃ ao c, v = .slice ao ts.length c ∧ ts.length ≤ c ∧ c ≤ 9223372036854775807 := by
  obtain ⟨ao, c, e, h1, h2, _⟩ := ownsRow_read h.top
  exact ⟨ao, c, e, h1, h2⟩
/-- tables put behind -/
theorem OwnW.join {w w1 : World} {B : Nat} {v v' : Value} {ts ks : List (List (List Int))} {vs us : List Value} (h : OwnW w B v ts vs) (_hl : us.length = ks.length) (hk : ∀ i, i < ks.length → ∃ xs, OwnV w 0 (us.getD i undef) (gt ks i) xs)
    (h1 : w1.ownsRow B 22 1 v' (ts.length + ks.length) (vs ++ us)) (hg : w.grownBy w1 v.ownBlock) : OwnW w1 B v' (ts ++ ks) (vs ++ us) := by
  refine ⟨by rw [List.length_append]; exact h1, fun i hi => ?_⟩
  rw [List.length_append] at hi
  have hvl := h.len
  by_cases hi2 : i < ts.length
  · rw [getD_left (by omega), gt_app_left hi2]
    obtain ⟨xs, hx⟩ := h.each i hi2
    exact ⟨xs, hx.kept h.top (by decide) (by decide) hg⟩
  · obtain ⟨j, rfl⟩ : ∃ j, i = ts.length + j := ⟨i - ts.length, by omega⟩
    rw [getD_right (by omega), hvl, show ts.length + j - ts.length = j from by omega, gt_app_right (by omega)]
    obtain ⟨xs, hx⟩ := hk j (by omega)
    exact ⟨xs, hx.kept h.top (by decide) (by decide) hg⟩
theorem OwnW.cells {w : World} {B n c : Nat} {ad : Addr} {ts : List (List (List Int))} {vs : List Value} (h : OwnW w B (.slice (some ad) n c) ts vs) : (∀ j u, vs[j]? = some u → w.cell? (ad.add j) = some u) ∧ (∀ u ∈ vs, u.oneCell' = true) := by
  have hl := h.len
  obtain ⟨ao, c', e, _, _, hc⟩ := ownsRow_read h.top
  cases e
  refine ⟨fun j u hj => ?_, fun u hu => ?_⟩
  · have hjl : j < vs.length := (List.getElem?_eq_some_iff.1 hj).1
    obtain ⟨b3, o3, e3, hc3⟩ := hc j (by omega)
    cases e3
    rw [Addr.add_lit, hc3, List.getD, hj]
    rfl
  · obtain ⟨i, hi, rfl⟩ := List.mem_iff_getElem.1 hu
    obtain ⟨_, hx⟩ := h.each i (by omega)
    have := hx.read
    rw [List.getD, List.getElem?_eq_getElem hi] at this
    obtain ⟨_, _, e, _⟩ := this
    rw [show vs[i] = (some vs[i]).getD undef from rfl, e]
    rfl
/-- reading one of the tables -/
theorem OwnW.at {w : World} {B n c : Nat} {ao : Option Addr} {ts : List (List (List Int))} {vs : List Value} (h : OwnW w B (.slice ao n c) ts vs) {i : Nat} (hi : i < ts.length) :
    ∃ b o r d, ao = some ⟨b, o, none⟩ ∧ w.cell? ⟨b, o + i, none⟩ = some (.slice r (gt ts i).length d) ∧ MatAt w r (gt ts i) ∧ (gt ts i).length ≤ d ∧ d ≤ 9223372036854775807 := by
  obtain ⟨ao', c', e, _, _, hc⟩ := ownsRow_read h.top
  cases e
  obtain ⟨b, o, e, hcell⟩ := hc i hi
  obtain ⟨us, hx⟩ := h.each i hi
  obtain ⟨r, d, hr, h3, h4, hm⟩ := hx.read
  exact ⟨b, o, r, d, e, by rw [hcell, hr], hm, h3, h4⟩
/-- a list that is written out, of one table -/
theorem OwnW.one {w : World} {B B' : Nat} {u : Value} {m : List (List Int)} {us : List Value} (h : OwnV w B' u m us) (hB : B ≤ w.heap.size) : OwnW (w.alloc (.cells #[u] 22)) B (.slice (some ⟨w.heap.size, 0, none⟩) 1 1) [m] [u] ∧ Below B w (w.alloc (.cells #[u] 22)) := by
  have hb : Below w.heap.size w (w.alloc (.cells #[u] 22)) := (Below.refl _ _).alloc (Nat.le_refl _) _
  refine ⟨⟨⟨by simp, .inr ⟨w.heap.size, 1, _, rfl, hB, heap_alloc_new w _, Nat.le_refl _, by decide, rfl, rfl⟩⟩, fun i hi => ?_⟩, (Below.refl _ _).alloc hB _⟩
  obtain rfl : i = 0 := by simp at hi; omega
  exact ⟨us, (h.below hb).base (Nat.zero_le _)⟩

/-- the tables of another list are appended to a list -/
theorem wpList_tabsW {w : World} {ops : Array Oper} {rest : List Oper} {o : Oper} {a : Act} {Q : Exit → Act → World → Prop} (hgd : o.guard = none) (s x : Operand)
    (ho : o.op = .call { callee := .builtin .append, args := #[s, x], argTypes := #[36, 36] })
    (B B' : Nat) (v u : Value) (m k : List (List (List Int))) (vs us : List Value) (h : OwnW w B v m vs) (hk : OwnW w B' u k us) (hs : a.eval s = v) (hx : a.eval x = u)
    (hB : B ≤ w.heap.size) (hl : m.length + k.length ≤ 5860000000000)
    (K : ∀ v' w1, OwnW w1 B v' (m ++ k) (vs ++ us) → w.grownBy w1 v.ownBlock → Below B w w1 → wpList Tryd.prog ops Q rest (a.put o.dst v') w1) : wpList Tryd.prog ops Q (o :: rest) a w := by
  obtain ⟨j0, hj, hy0, hy1, hy2⟩ := info_parts Tryd.info_intssW
  obtain ⟨sa, sc, rfl, _, _⟩ := hk.head
  cases sa with
  | none =>
    have hM0 : k = [] ∧ sc = 0 := by
      rcases hk.top.2 with ⟨h1, h2⟩ | ⟨g, cap, cur, h1, _⟩
      · simp at h1; exact ⟨List.eq_nil_of_length_eq_zero h2, h1.2⟩
      · simp at h1
    obtain ⟨rfl, rfl⟩ := hM0
    have hus : us = [] := List.eq_nil_of_length_eq_zero hk.len
    subst hus
    refine wpList_append_own_none hgd s x 36 ho B 22 j0 1 Tryd.underlying36 hj v m.length vs hs h.top hx ?_
    exact K v w (by rw [List.append_nil, List.append_nil]; exact h) (World.grownBy.refl _ _) (Below.refl _ _)
  | some ad =>
    have hcl := hk.cells
    refine wpList_append_own _ hgd s x 36 ho B 22 j0 (.slice none 0 0) 1 24 Tryd.underlying36 hj hy0 hy1 hy2 rfl (by decide) v m.length vs hs h.top ad k.length sc us hx (by rw [hk.len]; omega) hcl.1 hcl.2 (by unfold maxLen; omega) (by omega) hB ?_
    intro v' w1 h1 h2 _
    exact K v' w1 (h.join hk.len hk.each h1 h2) h2 (Below.grown (Below.refl _ _) h2 hB (fun k hk => (World.ownsRow.lt h.top k hk).1))
end Go.Proofs.YtjkpokpidpampaaDoor

namespace Go.Proofs.YtjkpokpidpampaaDoor
open Go.RowKit

theorem OwnT.keptG {w w1 : World} {B B' n' : Nat} {x v : Value} {m : List (List Int)} {vs ys : List Value} {e' : TypeId} (h : OwnT w B x m vs) (k : w.ownsRow B' e' 1 v n' ys) (h1 : 28 ≠ e') (h2 : 3 ≠ e') (hg : w.grownBy w1 v.ownBlock) : OwnT w1 B x m vs :=
  ⟨row_kept h.top k h1 hg, fun i hi => row_kept (h.rows i hi) k h2 hg, h.apart⟩
/-- the slice values of the rows of table i -/
def ug (uss : List (List Value)) (i : Nat) : List Value := uss.getD i []
theorem ug_left {a b : List (List Value)} {i : Nat} (h : i < a.length) : ug (a ++ b) i = ug a i := by
  simp only [ug, List.getD]; rw [List.getElem?_append_left h]
theorem ug_right {a b : List (List Value)} {i : Nat} (h : a.length ≤ i) : ug (a ++ b) i = ug b (i - a.length) := by
  simp only [ug, List.getD]; rw [List.getElem?_append_right h]
/-- the rows of two tables share no block -/
def Apart2 (us vs : List Value) : Prop := ∀ a b, a < us.length → b < vs.length → ∀ g, (us.getD a undef).ownBlock = some g → (vs.getD b undef).ownBlock ≠ some g
structure OwnL (w : World) (B : Nat) (v : Value) (ts : List (List (List Int))) (vs : List Value) (uss : List (List Value)) : Prop where
  top : w.ownsRow B 22 1 v ts.length vs
  num : uss.length = ts.length
  each : ∀ i, i < ts.length → OwnT w B (vs.getD i undef) (gt ts i) (ug uss i)
  apart : ∀ i j, i < j → j < ts.length → Apart2 (ug uss i) (ug uss j)
theorem OwnL.below {w w' : World} {B : Nat} {v : Value} {ts : List (List (List Int))} {vs : List Value} {uss : List (List Value)} (h : OwnL w B v ts vs uss) (hb : Below w.heap.size w w') : OwnL w' B v ts vs uss := ⟨ownsRow_below h.top hb, h.num, fun i hi => (h.each i hi).below hb, h.apart⟩
theorem OwnL.base {w : World} {B B' : Nat} {v : Value} {ts : List (List (List Int))} {vs : List Value} {uss : List (List Value)} (h : OwnL w B v ts vs uss) (hB : B' ≤ B) : OwnL w B' v ts vs uss := ⟨ownsRow_base h.top hB, h.num, fun i hi => (h.each i hi).base hB, h.apart⟩
theorem OwnL.toW {w : World} {B : Nat} {v : Value} {ts : List (List (List Int))} {vs : List Value} {uss : List (List Value)} (h : OwnL w B v ts vs uss) : OwnW w B v ts vs := ⟨h.top, fun i hi => ⟨_, (h.each i hi).toV.base (Nat.zero_le _)⟩⟩
theorem OwnL.len {w : World} {B : Nat} {v : Value} {ts : List (List (List Int))} {vs : List Value} {uss : List (List Value)} (h : OwnL w B v ts vs uss) : vs.length = ts.length := by simpa using h.top.1
theorem OwnL.head {w : World} {B : Nat} {v : Value} {ts : List (List (List Int))} {vs : List Value} {uss : List (List Value)} (h : OwnL w B v ts vs uss) : ∃ ao c, v = .slice ao ts.length c ∧ ts.length ≤ c ∧ c ≤ 9223372036854775807 := h.toW.head
/-- the blocks of rows -/
theorem OwnL.old {w : World} {B : Nat} {v : Value} {ts : List (List (List Int))} {vs : List Value} {uss : List (List Value)} (h : OwnL w B v ts vs uss) {i : Nat} (hi : i < ts.length) {a : Nat} (ha : a < (ug uss i).length) {g : Nat} (hg : ((ug uss i).getD a undef).ownBlock = some g) : B ≤ g ∧ g < w.heap.size :=
  (h.each i hi).old a (by rw [← (h.each i hi).len]; exact ha) g hg
/-- a list that is written out, of a table without rows -/
theorem OwnL.one0 (w : World) : OwnL (w.alloc (.cells #[.slice none 0 0] 22)) w.heap.size (.slice (some ⟨w.heap.size, 0, none⟩) 1 1) [[]] [.slice none 0 0] [[]] := by
  refine ⟨⟨by simp, .inr ⟨w.heap.size, 1, _, rfl, Nat.le_refl _, heap_alloc_new w _, Nat.le_refl _, by decide, rfl, rfl⟩⟩, rfl, fun i hi => ?_, fun i j hij hj => ?_⟩
  · obtain rfl : i = 0 := by simp at hi; omega
    exact OwnT.nil _ _
  · simp at hj; omega

/-- a table, written out in a list of one, is appended to a list -/
theorem wpList_tabL {w : World} {ops : Array Oper} {rest : List Oper} {o : Oper} {a : Act} {Q : Exit → Act → World → Prop} (hgd : o.guard = none) (s x : Operand)
    (ho : o.op = .call { callee := .builtin .append, args := #[s, x], argTypes := #[36, 36] })
    (B : Nat) (v u : Value) (m : List (List (List Int))) (vs : List Value) (uss : List (List Value)) (t : List (List Int)) (us : List Value) (h : OwnL w B v m vs uss) (hu : OwnT w B u t us) (hs : a.eval s = v) (hx : a.eval x = .slice (some ⟨w.heap.size, 0, none⟩) 1 1)
    (hne : ∀ i, i < m.length → Apart2 (ug uss i) us) (hB : B ≤ w.heap.size) (hl : m.length < 5860000000000)
    (K : ∀ v' w1, OwnL w1 B v' (m ++ [t]) (vs ++ [u]) (uss ++ [us]) → (w.alloc (.cells #[u] 22)).grownBy w1 v.ownBlock → Below B w w1 → (v'.ownBlock = v.ownBlock ∨ v'.ownBlock = some (w.heap.size + 1)) → wpList Tryd.prog ops Q rest (a.put o.dst v') w1) : wpList Tryd.prog ops Q (o :: rest) a (w.alloc (.cells #[u] 22)) := by
  obtain ⟨j0, hj, hy0, hy1, hy2⟩ := info_parts Tryd.info_intssW
  refine wpList_append_own_at _ hgd s x 36 ho B 22 j0 (.slice none 0 0) 1 24 Tryd.underlying36 hj hy0 hy1 hy2 rfl (by decide) v m.length _ hs (World.ownsRow.alloc h.top _) ⟨w.heap.size, 0, none⟩ 1 1 [u] hx rfl ?_ ?_ (by unfold maxLen; omega) (by omega) (by simp; omega) ?_
  · exact cell_one_new _ _ _
  · intro z hz; simp at hz; subst hz; obtain ⟨_, _, e, _⟩ := hu.read; rw [e]; rfl
  · intro v' w1 h1 h2 _ h5
    have h5' : v'.ownBlock = v.ownBlock ∨ v'.ownBlock = some (w.heap.size + 1) := by simpa using h5
    have hb : Below w.heap.size w (w.alloc (.cells #[u] 22)) := (Below.refl _ _).alloc (Nat.le_refl _) _
    have ho := h.below hb
    have hu2 := hu.below hb
    refine K v' w1 ⟨by rw [List.length_append]; exact h1, by simp [h.num], fun i hi => ?_, fun i j hij hj => ?_⟩ h2 (Below.grown ((Below.refl B w).alloc hB _) h2 (by simp; omega) (fun k hk => (World.ownsRow.lt h.top k hk).1)) h5'
    · rw [List.length_append, List.length_singleton] at hi
      by_cases hi2 : i < m.length
      · rw [getD_left (by rw [h.len]; exact hi2), gt_app_left hi2, ug_left (by rw [h.num]; exact hi2)]
        exact (ho.each i hi2).keptG ho.top (by decide) (by decide) h2
      · obtain rfl : i = m.length := by omega
        rw [getD_right (by rw [h.len]; exact Nat.le_refl _), h.len, Nat.sub_self, ug_right (by rw [h.num]; exact Nat.le_refl _), h.num, Nat.sub_self]
        have e : gt (m ++ [t]) m.length = t := by
          have := gt_app_right (a := m) (b := [t]) (i := 0) (by simp)
          rw [Nat.add_zero] at this
          exact this
        rw [e]
        exact hu2.keptG ho.top (by decide) (by decide) h2
    · rw [List.length_append, List.length_singleton] at hj
      rw [ug_left (by rw [h.num]; omega)]
      by_cases hj2 : j < m.length
      · rw [ug_left (by rw [h.num]; exact hj2)]
        exact h.apart i j hij hj2
      · obtain rfl : j = m.length := by omega
        rw [ug_right (by rw [h.num]; exact Nat.le_refl _), h.num, Nat.sub_self]
        exact hne i (by omega)

/-- reading one of the tables -/
theorem OwnL.at {w : World} {B n c : Nat} {ao : Option Addr} {ts : List (List (List Int))} {vs : List Value} {uss : List (List Value)} (h : OwnL w B (.slice ao n c) ts vs uss) {i : Nat} (hi : i < ts.length) :
    ∃ b o r d, ao = some ⟨b, o, none⟩ ∧ w.cell? ⟨b, o + i, none⟩ = some (.slice r (gt ts i).length d) ∧ vs.getD i undef = .slice r (gt ts i).length d ∧ (gt ts i).length ≤ d ∧ d ≤ 9223372036854775807 ∧ MatAt w r (gt ts i) := by
  obtain ⟨ao', c', e, _, _, hc⟩ := ownsRow_read h.top
  cases e
  obtain ⟨b, o, e, hcell⟩ := hc i hi
  obtain ⟨r, d, hr, h3, h4, hm⟩ := (h.each i hi).read
  exact ⟨b, o, r, d, e, by rw [hcell, hr], hr, h3, h4, hm⟩
/-- a table of one row, written out -/
theorem OwnT.one {w : World} {B : Nat} {u : Value} {row : List Int} (h : OwnI w B u row) (hB : B ≤ w.heap.size) : OwnT (w.alloc (.cells #[u] 28)) B (.slice (some ⟨w.heap.size, 0, none⟩) 1 1) [row] [u] := by
  refine ⟨⟨by simp, .inr ⟨w.heap.size, 1, _, rfl, hB, heap_alloc_new w _, Nat.le_refl _, by decide, rfl, rfl⟩⟩, fun i hi => ?_, fun i j hij hj => ?_⟩
  · obtain rfl : i = 0 := by simp at hi; omega
    exact h.below ((Below.refl _ _).alloc (Nat.le_refl _) _)
  · simp at hj; omega
/-- the rows of a table apart are put behind a table -/
theorem OwnT.join2 {w w1 : World} {B B' : Nat} {v v' u : Value} {m k : List (List Int)} {vs us : List Value} (h : OwnT w B v m vs) (hk : OwnT w B' u k us) (hBB : B ≤ B')
    (hap : Apart2 vs us)
    (h1 : w1.ownsRow B 28 1 v' (m.length + k.length) (vs ++ us)) (kept : ∀ (x : Value) (ys : List Int), OwnI w B x ys → OwnI w1 B x ys) : OwnT w1 B v' (m ++ k) (vs ++ us) := by
  have hl := h.len
  have hl2 := hk.len
  have gl : ∀ i, i < m.length → (vs ++ us).getD i undef = vs.getD i undef := fun i hi => by
    simp only [List.getD]; rw [List.getElem?_append_left (by omega)]
  have grr : ∀ i, m.length ≤ i → (vs ++ us).getD i undef = us.getD (i - m.length) undef := fun i hi => by
    simp only [List.getD]; rw [List.getElem?_append_right (by omega), hl]
  refine ⟨by rw [List.length_append]; exact h1, fun i hi => ?_, fun i j hij hj g hg => ?_⟩
  · rw [List.length_append] at hi
    by_cases hi2 : i < m.length
    · rw [gl i hi2, gr_appl hi2]
      exact kept _ _ (h.rows i hi2)
    · rw [grr i (by omega), show i = m.length + (i - m.length) from by omega, gr_appr (by omega), show m.length + (i - m.length) - m.length = i - m.length from by omega]
      exact kept _ _ ((hk.rows (i - m.length) (by omega)).base hBB)
  · rw [List.length_append] at hj
    by_cases hj2 : j < m.length
    · rw [gl i (by omega)] at hg
      rw [gl j hj2]
      exact h.apart i j hij hj2 g hg
    · rw [grr j (by omega)]
      by_cases hi2 : i < m.length
      · rw [gl i hi2] at hg
        exact hap i (j - m.length) (by omega) (by omega) g hg
      · rw [grr i (by omega)] at hg
        exact hk.apart (i - m.length) (j - m.length) (by omega) (by omega) g hg
/-- the rows of a table apart are appended to a table -/
theorem wpList_rowsL {w : World} {ops : Array Oper} {rest : List Oper} {o : Oper} {a : Act} {Q : Exit → Act → World → Prop} (hgd : o.guard = none) (s x : Operand)
    (ho : o.op = .call { callee := .builtin .append, args := #[s, x], argTypes := #[22, 22] })
    (B B' : Nat) (v u : Value) (m k : List (List Int)) (vs us : List Value) (h : OwnT w B v m vs) (hk : OwnT w B' u k us) (hs : a.eval s = v) (hx : a.eval x = u) (hBB : B ≤ B') (hap : Apart2 vs us)
    (hB : B ≤ w.heap.size) (hl : m.length + k.length ≤ 1048576)
    (K : ∀ v' w1, OwnT w1 B v' (m ++ k) (vs ++ us) → w.grownBy w1 v.ownBlock → wpList Tryd.prog ops Q rest (a.put o.dst v') w1) : wpList Tryd.prog ops Q (o :: rest) a w := by
  obtain ⟨j0, hj, hy0, hy1, hy2⟩ := info_parts Tryd.info_ints
  obtain ⟨sa, sc, rfl, _, _, _⟩ := hk.read
  cases sa with
  | none =>
    have hM0 : k = [] ∧ sc = 0 := by
      rcases hk.top.2 with ⟨h1, h2⟩ | ⟨g, cap, cur, h1, _⟩
      · simp at h1; exact ⟨List.eq_nil_of_length_eq_zero h2, h1.2⟩
      · simp at h1
    obtain ⟨rfl, rfl⟩ := hM0
    have hus : us = [] := List.eq_nil_of_length_eq_zero hk.len
    subst hus
    refine wpList_append_own_none hgd s x 22 ho B 28 j0 1 Tryd.underlying22 hj v m.length vs hs h.top hx ?_
    exact K v w (by rw [List.append_nil, List.append_nil]; exact h) (World.grownBy.refl _ _)
  | some ad =>
    have hcl := hk.cells
    refine wpList_append_own _ hgd s x 22 ho B 28 j0 (.slice none 0 0) 1 24 Tryd.underlying22 hj hy0 hy1 hy2 rfl (by decide) v m.length vs hs h.top ad k.length sc us hx (by rw [hk.len]; omega) hcl.1 hcl.2 (by unfold maxLen; omega) (by omega) hB ?_
    intro v' w1 h1 h2 _
    exact K v' w1 (h.join2 hk hBB hap h1 (fun x ys hx => hx.kept_tab h.top h2)) h2
/-- .. kept where another list grows -/
theorem OwnL.keptS {w w1 : World} {B B' n' : Nat} {x v : Value} {ts : List (List (List Int))} {vs ys : List Value} {uss : List (List Value)} (h : OwnL w B x ts vs uss) (k : w.ownsRow B' 22 1 v n' ys) (hne : ∀ g, v.ownBlock = some g → x.ownBlock ≠ some g) (hg : w.grownBy w1 v.ownBlock) : OwnL w1 B x ts vs uss := by
  refine ⟨World.ownsRow.kept h.top hg ?_, h.num, fun i hi => (h.each i hi).keptG k (by decide) (by decide) hg, h.apart⟩
  cases hb : x.ownBlock with
  | none => exact .inl rfl
  | some g => exact .inr (fun e => hne g e.symm hb)
/-- rows of tables from place t of another list on -/
def Cross (uss wss : List (List Value)) (t : Nat) : Prop := ∀ i j, i < uss.length → t ≤ j → j < wss.length → Apart2 (ug uss i) (ug wss j)
end Go.Proofs.YtjkpokpidpampaaDoor

namespace Go.Proofs.YtjkpokpidpampaaDoor
open Go.RowKit

-- markIntSS
/-- a list of tables, read -/
def ListAt (w : World) (ao : Option Addr) (ts : List (List (List Int))) : Prop := ∀ i, i < ts.length → ∃ b o r d, ao = some ⟨b, o, none⟩ ∧ w.cell? ⟨b, o + i, none⟩ = some (.slice r (gt ts i).length d) ∧ MatAt w r (gt ts i) ∧ (gt ts i).length ≤ d ∧ d ≤ 9223372036854775807
theorem ListAt.below {w w' : World} {ao : Option Addr} {ts : List (List (List Int))} (h : ListAt w ao ts) (hb : Below w.heap.size w w') : ListAt w' ao ts := fun i hi => by
  obtain ⟨b, o, r, d, e, hc, hm, h1, h2⟩ := h i hi
  exact ⟨b, o, r, d, e, cell_below hc hb, hm.below hb, h1, h2⟩
theorem OwnW.lists {w : World} {B n c : Nat} {ao : Option Addr} {ts : List (List (List Int))} {vs : List Value} (h : OwnW w B (.slice ao n c) ts vs) : ListAt w ao ts := fun i hi => by
  obtain ⟨b, o, r, d, e, hc, hm, h1, h2⟩ := h.at hi
  exact ⟨b, o, r, d, e, hc, hm, h1, h2⟩
theorem OwnL.lists {w : World} {B n c : Nat} {ao : Option Addr} {ts : List (List (List Int))} {vs : List Value} {uss : List (List Value)} (h : OwnL w B (.slice ao n c) ts vs uss) : ListAt w ao ts := h.toW.lists
def Small3 (ts : List (List (List Int))) : Prop := ts.length ≤ 10000 ∧ ∀ i, i < ts.length → Small (gt ts i) ∧ tot (gt ts i) (gt ts i).length ≤ 1000
def totL (ts : List (List (List Int))) : Nat → Nat
  | 0 => 0
  | k + 1 => totL ts k + tot (gt ts k) (gt ts k).length
theorem totL_le {ts : List (List (List Int))} (hs : Small3 ts) : ∀ k, k ≤ ts.length → totL ts k ≤ k * 1000
  | 0, _ => by simp [totL]
  | k + 1, h => by
    have h1 := totL_le hs k (by omega)
    have h2 := (hs.2 k (by omega)).2
    simp only [totL]
    omega
theorem totL_big {ts : List (List (List Int))} (hs : Small3 ts) {k : Nat} (h : k ≤ ts.length) : totL ts k ≤ 10000000 := by
  have h1 := totL_le hs k h
  have h2 := hs.1
  omega
def markL (q : Int) (ts : List (List (List Int))) : List (List (List Int)) := (List.range ts.length).map fun i => markM (q + (totL ts i : Int)) (gt ts i)
theorem markL_len (q : Int) (ts : List (List (List Int))) : (markL q ts).length = ts.length := by simp [markL]
theorem gt_markL {q : Int} {ts : List (List (List Int))} {i : Nat} (h : i < ts.length) : gt (markL q ts) i = markM (q + (totL ts i : Int)) (gt ts i) := by
  rw [gt_lt (by rw [markL_len]; exact h)]
  simp [markL]

/-- a table is kept where the rows of another one are marked -/
theorem OwnT.onlyRows {w w' : World} {B B' : Nat} {x y : Value} {m m' : List (List Int)} {us us' : List Value} (h : OwnT w B x m us) (k : OwnT w B' y m' us') (hap : Apart2 us us') (ho : OnlyW (fun g => ∃ i, i < m'.length ∧ (us'.getD i undef).ownBlock = some g) w w') : OwnT w' B x m us := by
  refine ⟨ownsRow_only h.top ho (fun g hg hs => ?_), fun i hi => ownsRow_only (h.rows i hi) ho (fun g hg hs => ?_), h.apart⟩
  · obtain ⟨i, hi, e⟩ := hs
    exact row_apart h.top (k.rows i hi) (by decide) g hg e
  · obtain ⟨j, hj, e⟩ := hs
    exact hap i j (by rw [h.len]; exact hi) (by rw [k.len]; exact hj) g hg e
theorem Apart2.symm {us vs : List Value} (h : Apart2 us vs) : Apart2 vs us := fun a b ha hb g hg1 hg2 => h b a hb ha g hg2 hg1
/-- the blocks of all rows of a list -/
def RowsOf (ts : List (List (List Int))) (uss : List (List Value)) (g : Nat) : Prop := ∃ i a, i < ts.length ∧ a < (gt ts i).length ∧ ((ug uss i).getD a undef).ownBlock = some g

theorem OwnL.span {w : World} {B : Nat} {v : Value} {ts : List (List (List Int))} {vs : List Value} {uss : List (List Value)} (h : OwnL w B v ts vs uss) {g : Nat} (hg : RowsOf ts uss g) : B ≤ g ∧ g < w.heap.size := by
  obtain ⟨i, a, hi, ha, e⟩ := hg
  exact h.old hi (by rw [(h.each i hi).len]; exact ha) e

/-- a list of tables of the call's own, all rows apart -/
def OwnLM (w : World) (B : Nat) (v : Value) (ts : List (List (List Int))) : Prop := ∃ vs uss, OwnL w B v ts vs uss
theorem OwnLM.open {w : World} {B : Nat} {v : Value} {ts : List (List (List Int))} (h : OwnLM w B v ts) : ∃ ao c vs uss, v = .slice ao ts.length c ∧ OwnL w B (.slice ao ts.length c) ts vs uss := by
  obtain ⟨vs, uss, h⟩ := h
  obtain ⟨ao, c, rfl, _, _⟩ := h.head
  exact ⟨ao, c, vs, uss, rfl, h⟩
theorem OwnLM.read {w : World} {B : Nat} {v : Value} {ts : List (List (List Int))} (h : OwnLM w B v ts) : ∃ ao c, v = .slice ao ts.length c ∧ ListAt w ao ts := by
  obtain ⟨ao, c, vs, uss, rfl, h2⟩ := h.open
  exact ⟨ao, c, rfl, h2.lists⟩
/-- ([][][]int, bool) -/
def TRes (p : Prop) (r : List (List (List Int))) (w : World) (B : Nat) (e : Ending) : Prop :=
  ∃ v b r', e = .returned (.tuple #[v, .bool b]) ∧ OwnLM w B v r' ∧ ((p ∧ b = true ∧ r' = r) ∨ (¬p ∧ b = false ∧ r' = []))
theorem OwnL.nil (w : World) (B : Nat) : OwnL w B (.slice none 0 0) [] [] [] := ⟨World.ownsRow_nil _ _ _ _, rfl, fun i hi => absurd hi (by simp), fun i j _ hj => absurd hj (by simp)⟩
theorem TRes.yes {p : Prop} {r : List (List (List Int))} {w : World} {B : Nat} {v : Value} (h : p) (ho : OwnLM w B v r) : TRes p r w B (.returned (.tuple #[v, .bool true])) := ⟨v, true, r, rfl, ho, .inl ⟨h, rfl, rfl⟩⟩
theorem TRes.no {p : Prop} {r : List (List (List Int))} {w : World} {B : Nat} (h : ¬p) : TRes p r w B (.returned (.tuple #[.slice none 0 0, .bool false])) := ⟨_, false, [], rfl, ⟨[], [], OwnL.nil _ _⟩, .inr ⟨h, rfl, rfl⟩⟩
/-- .., the list only read -/
def ReadsL (w : World) (v : Value) (ts : List (List (List Int))) : Prop := ∃ ao c, v = .slice ao ts.length c ∧ ListAt w ao ts
theorem ReadsL.read {w : World} {v : Value} {ts : List (List (List Int))} (h : ReadsL w v ts) : ∃ ao c, v = .slice ao ts.length c ∧ ListAt w ao ts := h
theorem OwnW.reads {w : World} {B : Nat} {v : Value} {ts : List (List (List Int))} {vs : List Value} (h : OwnW w B v ts vs) : ReadsL w v ts := by
  obtain ⟨ao, c, rfl, _, _⟩ := h.head
  exact ⟨ao, c, rfl, h.lists⟩
def TVRes (p : Prop) (r : List (List (List Int))) (w : World) (e : Ending) : Prop :=
  ∃ v b r', e = .returned (.tuple #[v, .bool b]) ∧ ReadsL w v r' ∧ ((p ∧ b = true ∧ r' = r) ∨ (¬p ∧ b = false ∧ r' = []))
theorem TVRes.yes {p : Prop} {r : List (List (List Int))} {w : World} {v : Value} (h : p) (ho : ReadsL w v r) : TVRes p r w (.returned (.tuple #[v, .bool true])) := ⟨v, true, r, rfl, ho, .inl ⟨h, rfl, rfl⟩⟩
theorem TVRes.no {p : Prop} {r : List (List (List Int))} {w : World} (h : ¬p) : TVRes p r w (.returned (.tuple #[.slice none 0 0, .bool false])) := ⟨_, false, [], rfl, (OwnW.nil w 0).reads, .inr ⟨h, rfl, rfl⟩⟩
theorem tres_same {p : Prop} {r q : List (List (List Int))} {b : Bool} (h : (p ∧ b = true ∧ q = r) ∨ (¬p ∧ b = false ∧ q = [])) :
    ∀ b' q', ((p ∧ b' = true ∧ q' = r) ∨ (¬p ∧ b' = false ∧ q' = [])) → b = b' ∧ q = q' := by
  intro b' q' k
  rcases h with ⟨h1, h2, h3⟩ | ⟨h1, h2, h3⟩ <;> rcases k with ⟨k1, k2, k3⟩ | ⟨k1, k2, k3⟩
  · exact ⟨h2.trans k2.symm, h3.trans k3.symm⟩
  · exact absurd h1 k1
  · exact absurd k1 h1
  · exact ⟨h2.trans k2.symm, h3.trans k3.symm⟩
end Go.Proofs.YtjkpokpidpampaaDoor

namespace Go.Proofs.YtjkpokpidpampaaDoor
open Go.RowKit

theorem OwnT.setOther {w : World} {B B' n' : Nat} {x v : Value} {m : List (List Int)} {vs ys : List Value} {e' : TypeId} {g i : Nat} (h : OwnT w B x m vs) (k : w.ownsRow B' e' 1 v n' ys) (hv : v.ownBlock = some g) (h1 : 28 ≠ e') (h2 : 3 ≠ e') (u : Value) : OwnT (w.setCell ⟨g, i, none⟩ u) B x m vs :=
  ⟨Go.ownsRow_setCell_other h.top (fun e => row_apart h.top k h1 g e hv) u, fun j hj => Go.ownsRow_setCell_other (h.rows j hj) (fun e => row_apart (h.rows j hj) k h2 g e hv) u, h.apart⟩
/-- a table upside down has its rows apart if the table had -/
theorem OwnT.turned {w : World} {B : Nat} {v : Value} {m : List (List Int)} {svs : List Value} (h : OwnR w B v m svs.reverse) (hl : svs.length = svs.length) (hap : ∀ a b, a < b → b < svs.length → ∀ g, (svs.getD a undef).ownBlock = some g → (svs.getD b undef).ownBlock ≠ some g) : OwnT w B v m svs.reverse := by
  have hlen := h.len
  rw [List.length_reverse] at hlen
  refine ⟨h.top, h.rows, fun i j hij hj g hg hg2 => ?_⟩
  simp only [List.getD] at hg hg2
  rw [List.getElem?_reverse (by omega)] at hg
  rw [List.getElem?_reverse (by omega)] at hg2
  exact hap (svs.length - 1 - j) (svs.length - 1 - i) (by omega) (by omega) g hg2 hg
/-- a list of tables of which the first k have all rows apart -/
structure AsUp (w : World) (B : Nat) (v : Value) (ts : List (List (List Int))) (k : Nat) (vs : List Value) (uss : List (List Value)) : Prop where
  list : OwnRL w B v ts vs
  num : uss.length = k
  le : k ≤ ts.length
  each : ∀ i, i < k → OwnT w B (vs.getD i undef) (gt ts i) (ug uss i)
  apart : ∀ i j, i < j → j < k → Apart2 (ug uss i) (ug uss j)
theorem AsUp.start {w : World} {B : Nat} {v : Value} {ts : List (List (List Int))} {vs : List Value} (h : OwnRL w B v ts vs) : AsUp w B v ts 0 vs [] := ⟨h, rfl, Nat.zero_le _, fun i hi => absurd hi (by omega), fun i j _ hj => absurd hj (by omega)⟩
theorem AsUp.below {w w' : World} {B k : Nat} {v : Value} {ts : List (List (List Int))} {vs : List Value} {uss : List (List Value)} (h : AsUp w B v ts k vs uss) (hb : Below w.heap.size w w') : AsUp w' B v ts k vs uss := ⟨h.list.below hb, h.num, h.le, fun i hi => (h.each i hi).below hb, h.apart⟩
theorem AsUp.old {w : World} {B k : Nat} {v : Value} {ts : List (List (List Int))} {vs : List Value} {uss : List (List Value)} (h : AsUp w B v ts k vs uss) {i p g : Nat} (hi : i < k) (hp : p < (ug uss i).length) (hg : ((ug uss i).getD p undef).ownBlock = some g) : g < w.heap.size :=
  ((h.each i hi).old p (by rw [← (h.each i hi).len]; exact hp) g hg).2
theorem AsUp.finish {w : World} {B k : Nat} {v : Value} {ts : List (List (List Int))} {vs : List Value} {uss : List (List Value)} (h : AsUp w B v ts k vs uss) (hk : ts.length = k) : OwnL w B v ts vs uss :=
  ⟨h.list.top, by rw [h.num, hk], fun i hi => h.each i (by omega), fun i j hij hj => h.apart i j hij (by omega)⟩
theorem AsUp.set {w : World} {B g n c k i : Nat} {ts : List (List (List Int))} {vs zs : List Value} {uss : List (List Value)} {v : Value} {M : List (List Int)} (h : AsUp w B (.slice (some ⟨g, 0, none⟩) n c) ts k vs uss) (hik : i = k) (hi : i < ts.length) (hv : OwnT w B v M zs)
    (hap : ∀ a, a < k → Apart2 (ug uss a) zs) : AsUp (w.setCell ⟨g, i, none⟩ v) B (.slice (some ⟨g, 0, none⟩) n c) (ts.set i M) (i + 1) (vs.set i v) (uss ++ [zs]) := by
  subst hik
  have hl := h.list.len
  have hn := h.num
  refine ⟨h.list.set hi ⟨hv.top, hv.rows⟩, by simp [hn], by rw [List.length_set]; omega, fun j hj => ?_, fun a b hab hb => ?_⟩
  · by_cases e : j = i
    · subst e
      have e1 : (vs.set j v).getD j undef = v := by simp [List.getD, hl, hi]
      have e2 : gt (ts.set j M) j = M := by unfold gt; simp [List.getD, hi]
      rw [e1, e2, ug_right (by omega), hn, Nat.sub_self]
      exact hv.setOther h.list.top rfl (by decide) (by decide) v
    · have e1 : (vs.set i v).getD j undef = vs.getD j undef := by simp only [List.getD]; rw [List.getElem?_set_ne (fun h => e h.symm)]
      have e2 : gt (ts.set i M) j = gt ts j := by unfold gt; simp only [List.getD]; rw [List.getElem?_set_ne (fun h => e h.symm)]
      rw [e1, e2, ug_left (by omega)]
      exact (h.each j (by omega)).setOther h.list.top rfl (by decide) (by decide) v
  · rw [ug_left (by omega)]
    by_cases e : b = i
    · subst e
      rw [ug_right (by omega), hn, Nat.sub_self]
      exact hap a (by omega)
    · rw [ug_left (by omega)]
      exact h.apart a b hab (by omega)

set_option maxRecDepth 100000 in
set_option maxHeartbeats 3200000 in
theorem allSignsL_any (n : Nat) (w : World) (h1 : 1 ≤ n) (h5 : n ≤ 5) (hD : Dj w) :
    Calls Tryd.prog 38 #[.int .i64 (n : Int)] w fun e w' => ∃ v, e = .returned v ∧ OwnLM w' w.heap.size v (allI n) ∧ Below w.heap.size w w' := by
  have hcols := tris_cols n (by omega)
  have C := Lib.hid (triangles_any (n - 1) (fullR n) w (by omega) (fullR_rise (by omega)) (by rw [fullR_len]; omega) hD)
  rw [fullR_ok n (by omega)] at C
  have hTl := trisD_le (n - 1) (fullR n) (fullR_rise (by omega)) (by rw [fullR_len]; omega)
  have hTb := trB_le (n - 1) (by omega)
  obtain ⟨T, hT⟩ : ∃ T, T = trisD (n - 1) (fullR n) := ⟨_, rfl⟩
  rw [← hT] at hcols C hTl
  have HV := Lib.hid (show allI n = T.map flipT by rw [hT]; rfl)
  have Hcols := Lib.hid (show ∀ t, t ∈ T → t.length = n ∧ colsOk t from fun t ht => (hcols t ht).resolve_left (by omega))
  have hTn : T.length ≤ 1099511627776 := Nat.le_trans hTl hTb
  obtain ⟨q, hq⟩ : ∃ q : Int, q = ((2 ^ n - 1 : Nat) : Int) := ⟨_, rfl⟩
  have CA := Lib.hid (allColumns_any n w (by omega))
  rw [← hq] at C CA
  clear hcols hT hTl hTb hD hq
  go_enter Tryd.func38, Tryd.ntmps38
  go_wp2_with fail
  refine CA.out.mono ?_
  rintro e w1 ⟨rfl, rfl⟩
  go_wp2_with fail
  refine C.out.mono ?_
  rintro e w2 ⟨v, vs, rfl, hv, _, hb⟩
  obtain ⟨ta, tc, rfl, ht1, ht2⟩ := hv.head
  have Hv := Lib.hid hv
  have Hb := Lib.hid hb
  clear hv hb C CA
  go_wp2
  go_loopw [11] (fun i wr => ∃ (k : Nat) (vs : List Value) (uss : List (List Value)), k ≤ T.length ∧ i = .int .i64 k ∧ AsUp wr w.heap.size (.slice ta T.length tc) (mixT T k) k vs uss ∧ Below w.heap.size w wr) (fun i _ => T.length - (intOf i).toNat)
  case atStart => exact ⟨0, vs, [], Nat.zero_le _, rfl, by rw [mixT_zero]; exact AsUp.start Hv.out, Hb.out⟩
  case round =>
    obtain ⟨k, vs, uss, hk, rfl, hup, hbr⟩ := hrel
    have Hup := Lib.hid hup
    have hown := hup.list
    clear hup
    clear Hv Hb
    have Hown := Lib.hid hown
    have Hbr := Lib.hid hbr
    have HBr := Lib.hid hbr.size
    by_cases hlt : k < T.length
    · obtain ⟨g, rfl, hg1, hg2⟩ := hown.isAt (by rw [mixT_len]; omega)
      obtain ⟨b1, o1, r1, d1, e1, hc1, hm1, _, _⟩ := hown.at (i := k) (by rw [mixT_len]; exact hlt)
      cases e1
      rw [Nat.zero_add] at hc1
      rw [mixT_at hlt] at hc1 hm1
      obtain ⟨hl1, hco⟩ := Hcols.out _ (gt_mem hlt)
      have CS := Lib.hid (signsOf_any r1 d1 (gt T k) wr hco hm1)
      have Hset := Lib.hid (show (mixT T k).set k (flipT (gt T k)) = mixT T (k + 1) from mixT_set hlt)
      have Hfl := Lib.hid (show (fromTab (gt T k)).length = n by rw [fromTab_len]; exact hl1)
      rw [hl1] at hc1 CS
      clear hown hbr hm1 hl1 hco
      go_wp2_with fail
      refine CS.out.mono ?_
      rintro e w3 ⟨v3, rfl, hv3, hb3⟩
      obtain ⟨sa, scp, svs, rfl, hsp, _, _⟩ := hv3.open
      have CU := Lib.hid (upsideDownR_any w.heap.size sa scp (fromTab (gt T k)) svs w3 (by rw [Hfl.out]; omega) (by rw [Hfl.out]; omega) (Nat.le_trans HBr.out hb3.size) (hsp.toR.base HBr.out))
      rw [Hfl.out] at CU ⊢
      have Hb3 := Lib.hid hb3
      have Hsp := Lib.hid hsp
      clear hv3 hb3 hsp CS
      go_wp2_with fail
      refine CU.out.mono ?_
      rintro e w4 ⟨v4, rfl, hv4, hb4⟩
      have hb34 := Hb3.out.trans (hb4.mono Hb3.out.size)
      have hown4 := Hown.out.below hb34
      have hfr : w4.frozen? ⟨g, k, none⟩ = false := by
        have h := hown4.top
        rw [mixT_len] at h
        exact World.ownsRow.frozenAt h k
      have hcell : w4.cell? ⟨g, k, none⟩ = some (.slice r1 n d1) := cell_below hc1 hb34
      have hT4 : OwnT w4 w.heap.size v4 (flipT (gt T k)) svs.reverse := OwnT.turned hv4 (by have h1 := Hsp.out.top.1; simp at h1; rw [h1]) (fun a b hab hb => Hsp.out.apart a b hab (by have h1 := Hsp.out.top.1; simp at h1; omega))
      have hset := (Hup.out.below hb34).set (i := k) rfl (by rw [mixT_len]; exact hlt) hT4 (fun a ha => fun p q hp hq g2 hg2 hg3 => by
        have hlt2 := Hup.out.old ha hp hg2
        have hq2 : q < svs.length := by rw [List.length_reverse] at hq; exact hq
        rw [List.getD, List.getElem?_reverse hq2] at hg3
        have h1 := Hsp.out.top.1
        simp at h1
        have hge := (Hsp.out.rows (svs.length - 1 - q) (by omega)).lt g2 hg3
        omega)
      rw [Hset.out] at hset
      have Hs := Lib.hid hset
      have Hbs := Lib.hid ((Hbr.out.trans (hb34.mono HBr.out)).setCell (p := ⟨g, k, none⟩) hg1 v4)
      obtain ⟨va, vc, hvv, _, _, _⟩ := hv4.read
      rw [List.length_reverse, Hfl.out] at hvv
      subst hvv
      clear hv4 hb4 hb34 hown4 hset CU hc1
      go_wp2
      go_roundw
      case rel => exact ⟨k + 1, _, _, by omega, by go_num, Hs.out, Hbs.out⟩
      case measure => simp [intOf]; omega
    · obtain rfl : k = T.length := by omega
      have HF := Lib.hid (show OwnLM wr w.heap.size (.slice ta T.length tc) (allI n) from ⟨vs, uss, by
        have h1 := Hup.out
        rw [mixT_end, ← HV.out] at h1
        exact h1.finish (by rw [HV.out, List.length_map])⟩)
      clear hown hbr Hup
      go_wp2
      go_ret
      exact ⟨_, rfl, HF.out, Hbr.out⟩
end Go.Proofs.YtjkpokpidpampaaDoor

