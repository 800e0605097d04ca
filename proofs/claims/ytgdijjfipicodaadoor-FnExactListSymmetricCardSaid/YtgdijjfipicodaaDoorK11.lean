/- Parts of proofs: contracts and plain facts. Conditions: as each says. -/
import Derived.Test.YtgdijjfipicodaaDoorK10
import Derived.Maps.AppendAt
namespace Go.Proofs.YtgdijjfipicodaaDoor
open Go.RowKit

theorem OwnT.keptG {w w1 : World} {B B' n' : Nat} {x v : Value} {m : List (List Int)} {vs ys : List Value} {e' : TypeId} (h : OwnT w B x m vs) (k : w.ownsRow B' e' 1 v n' ys) (h1 : 42 ≠ e') (h2 : 3 ≠ e') (hg : w.grownBy w1 v.ownBlock) : OwnT w1 B x m vs :=
  ⟨row_kept h.top k h1 hg, fun i hi => row_kept (h.rows i hi) k h2 hg, h.apart⟩
/-- the slice values of the rows of table i -/
def ug (uss : List (List Value)) (i : Nat) : List Value := uss.getD i []
theorem ug_left {a b : List (List Value)} {i : Nat} (h : i < a.length) : ug (a ++ b) i = ug a i := by
  simp only [ug, List.getD]; rw [List.getElem?_append_left h]
theorem ug_right {a b : List (List Value)} {i : Nat} (h : a.length ≤ i) : ug (a ++ b) i = ug b (i - a.length) := by
  simp only [ug, List.getD]; rw [List.getElem?_append_right h]
/-- the rows of two tables share no block -/
def Apart2 (us vs : List Value) : Prop := ∀ a b, a < us.length → b < vs.length → ∀ g, (us.getD a undef).ownBlock = some g → (vs.getD b undef).ownBlock ≠ some g
structure OwnL (w : World) (B : Nat) (v : Value) (ts : List (List (List Int))) (vs : List Value) (uss : List (List Value)) : Prop where
  top : w.ownsRow B 22 1 v ts.length vs
  num : uss.length = ts.length
  each : ∀ i, i < ts.length → OwnT w B (vs.getD i undef) (gt ts i) (ug uss i)
  apart : ∀ i j, i < j → j < ts.length → Apart2 (ug uss i) (ug uss j)
theorem OwnL.below {w w' : World} {B : Nat} {v : Value} {ts : List (List (List Int))} {vs : List Value} {uss : List (List Value)} (h : OwnL w B v ts vs uss) (hb : Below w.heap.size w w') : OwnL w' B v ts vs uss := ⟨ownsRow_below h.top hb, h.num, fun i hi => (h.each i hi).below hb, h.apart⟩
theorem OwnL.base {w : World} {B B' : Nat} {v : Value} {ts : List (List (List Int))} {vs : List Value} {uss : List (List Value)} (h : OwnL w B v ts vs uss) (hB : B' ≤ B) : OwnL w B' v ts vs uss := ⟨ownsRow_base h.top hB, h.num, fun i hi => (h.each i hi).base hB, h.apart⟩
theorem OwnL.toW {w : World} {B : Nat} {v : Value} {ts : List (List (List Int))} {vs : List Value} {uss : List (List Value)} (h : OwnL w B v ts vs uss) : OwnW w B v ts vs := ⟨h.top, fun i hi => ⟨_, (h.each i hi).toV.base (Nat.zero_le _)⟩⟩
theorem OwnL.len {w : World} {B : Nat} {v : Value} {ts : List (List (List Int))} {vs : List Value} {uss : List (List Value)} (h : OwnL w B v ts vs uss) : vs.length = ts.length := by simpa using h.top.1
theorem OwnL.head {w : World} {B : Nat} {v : Value} {ts : List (List (List Int))} {vs : List Value} {uss : List (List Value)} (h : OwnL w B v ts vs uss) : ∃ ao c, v = .slice ao ts.length c ∧ ts.length ≤ c ∧ c ≤ 9223372036854775807 := h.toW.head
/-- the blocks of rows -/
theorem OwnL.old {w : World} {B : Nat} {v : Value} {ts : List (List (List Int))} {vs : List Value} {uss : List (List Value)} (h : OwnL w B v ts vs uss) {i : Nat} (hi : i < ts.length) {a : Nat} (ha : a < (ug uss i).length) {g : Nat} (hg : ((ug uss i).getD a undef).ownBlock = some g) : B ≤ g ∧ g < w.heap.size :=
  (h.each i hi).old a (by rw [← (h.each i hi).len]; exact ha) g hg
/-- a list that is written out, of a table without rows -/
theorem OwnL.one0 (w : World) : OwnL (w.alloc (.cells #[.slice none 0 0] 22)) w.heap.size (.slice (some ⟨w.heap.size, 0, none⟩) 1 1) [[]] [.slice none 0 0] [[]] := by
  refine ⟨⟨by simp, .inr ⟨w.heap.size, 1, _, rfl, Nat.le_refl _, heap_alloc_new w _, Nat.le_refl _, by decide, rfl, rfl⟩⟩, rfl, fun i hi => ?_, fun i j hij hj => ?_⟩
  · obtain rfl : i = 0 := by simp at hi; omega
    exact OwnT.nil _ _
  · simp at hj; omega

/-- a table, written out in a list of one, is appended to a list -/
theorem wpList_tabL {w : World} {ops : Array Oper} {rest : List Oper} {o : Oper} {a : Act} {Q : Exit → Act → World → Prop} (hgd : o.guard = none) (s x : Operand)
    (ho : o.op = .call { callee := .builtin .append, args := #[s, x], argTypes := #[29, 29] })
    (B : Nat) (v u : Value) (m : List (List (List Int))) (vs : List Value) (uss : List (List Value)) (t : List (List Int)) (us : List Value) (h : OwnL w B v m vs uss) (hu : OwnT w B u t us) (hs : a.eval s = v) (hx : a.eval x = .slice (some ⟨w.heap.size, 0, none⟩) 1 1)
    (hne : ∀ i, i < m.length → Apart2 (ug uss i) us) (hB : B ≤ w.heap.size) (hl : m.length < 5860000000000)
    (K : ∀ v' w1, OwnL w1 B v' (m ++ [t]) (vs ++ [u]) (uss ++ [us]) → (w.alloc (.cells #[u] 22)).grownBy w1 v.ownBlock → Below B w w1 → (v'.ownBlock = v.ownBlock ∨ v'.ownBlock = some (w.heap.size + 1)) → wpList Tryd.prog ops Q rest (a.put o.dst v') w1) : wpList Tryd.prog ops Q (o :: rest) a (w.alloc (.cells #[u] 22)) := by
  obtain ⟨j0, hj, hy0, hy1, hy2⟩ := info_parts Tryd.info_intssW
  refine wpList_append_own_at _ hgd s x 29 ho B 22 j0 (.slice none 0 0) 1 24 Tryd.underlying29 hj hy0 hy1 hy2 rfl (by decide) v m.length _ hs (World.ownsRow.alloc h.top _) ⟨w.heap.size, 0, none⟩ 1 1 [u] hx rfl ?_ ?_ (by unfold maxLen; omega) (by omega) (by simp; omega) ?_
  · exact cell_one_new _ _ _
  · intro z hz; simp at hz; subst hz; obtain ⟨_, _, e, _⟩ := hu.read; rw [e]; rfl
  · intro v' w1 h1 h2 _ h5
    have h5' : v'.ownBlock = v.ownBlock ∨ v'.ownBlock = some (w.heap.size + 1) := by simpa using h5
    have hb : Below w.heap.size w (w.alloc (.cells #[u] 22)) := (Below.refl _ _).alloc (Nat.le_refl _) _
    have ho := h.below hb
    have hu2 := hu.below hb
    refine K v' w1 ⟨by rw [List.length_append]; exact h1, by simp [h.num], fun i hi => ?_, fun i j hij hj => ?_⟩ h2 (Below.grown ((Below.refl B w).alloc hB _) h2 (by simp; omega) (fun k hk => (World.ownsRow.lt h.top k hk).1)) h5'
    · rw [List.length_append, List.length_singleton] at hi
      by_cases hi2 : i < m.length
      · rw [getD_left (by rw [h.len]; exact hi2), gt_app_left hi2, ug_left (by rw [h.num]; exact hi2)]
        exact (ho.each i hi2).keptG ho.top (by decide) (by decide) h2
      · obtain rfl : i = m.length := by omega
        rw [getD_right (by rw [h.len]; exact Nat.le_refl _), h.len, Nat.sub_self, ug_right (by rw [h.num]; exact Nat.le_refl _), h.num, Nat.sub_self]
        have e : gt (m ++ [t]) m.length = t := by
          have := gt_app_right (a := m) (b := [t]) (i := 0) (by simp)
          rw [Nat.add_zero] at this
          exact this
        rw [e]
        exact hu2.keptG ho.top (by decide) (by decide) h2
    · rw [List.length_append, List.length_singleton] at hj
      rw [ug_left (by rw [h.num]; omega)]
      by_cases hj2 : j < m.length
      · rw [ug_left (by rw [h.num]; exact hj2)]
        exact h.apart i j hij hj2
      · obtain rfl : j = m.length := by omega
        rw [ug_right (by rw [h.num]; exact Nat.le_refl _), h.num, Nat.sub_self]
        exact hne i (by omega)

/-- reading one of the tables -/
theorem OwnL.at {w : World} {B n c : Nat} {ao : Option Addr} {ts : List (List (List Int))} {vs : List Value} {uss : List (List Value)} (h : OwnL w B (.slice ao n c) ts vs uss) {i : Nat} (hi : i < ts.length) :
    ∃ b o r d, ao = some ⟨b, o, none⟩ ∧ w.cell? ⟨b, o + i, none⟩ = some (.slice r (gt ts i).length d) ∧ vs.getD i undef = .slice r (gt ts i).length d ∧ (gt ts i).length ≤ d ∧ d ≤ 9223372036854775807 ∧ MatAt w r (gt ts i) := by
  obtain ⟨ao', c', e, _, _, hc⟩ := ownsRow_read h.top
  cases e
  obtain ⟨b, o, e, hcell⟩ := hc i hi
  obtain ⟨r, d, hr, h3, h4, hm⟩ := (h.each i hi).read
  exact ⟨b, o, r, d, e, by rw [hcell, hr], hr, h3, h4, hm⟩
/-- a table of one row, written out -/
theorem OwnT.one {w : World} {B : Nat} {u : Value} {row : List Int} (h : OwnI w B u row) (hB : B ≤ w.heap.size) : OwnT (w.alloc (.cells #[u] 42)) B (.slice (some ⟨w.heap.size, 0, none⟩) 1 1) [row] [u] := by
  refine ⟨⟨by simp, .inr ⟨w.heap.size, 1, _, rfl, hB, heap_alloc_new w _, Nat.le_refl _, by decide, rfl, rfl⟩⟩, fun i hi => ?_, fun i j hij hj => ?_⟩
  · obtain rfl : i = 0 := by simp at hi; omega
    exact h.below ((Below.refl _ _).alloc (Nat.le_refl _) _)
  · simp at hj; omega
/-- the rows of a table apart are put behind a table -/
theorem OwnT.join2 {w w1 : World} {B B' : Nat} {v v' u : Value} {m k : List (List Int)} {vs us : List Value} (h : OwnT w B v m vs) (hk : OwnT w B' u k us) (hBB : B ≤ B')
    (hap : Apart2 vs us)
    (h1 : w1.ownsRow B 42 1 v' (m.length + k.length) (vs ++ us)) (kept : ∀ (x : Value) (ys : List Int), OwnI w B x ys → OwnI w1 B x ys) : OwnT w1 B v' (m ++ k) (vs ++ us) := by
  have hl := h.len
  have hl2 := hk.len
  have gl : ∀ i, i < m.length → (vs ++ us).getD i undef = vs.getD i undef := fun i hi => by
    simp only [List.getD]; rw [List.getElem?_append_left (by omega)]
  have grr : ∀ i, m.length ≤ i → (vs ++ us).getD i undef = us.getD (i - m.length) undef := fun i hi => by
    simp only [List.getD]; rw [List.getElem?_append_right (by omega), hl]
  refine ⟨by rw [List.length_append]; exact h1, fun i hi => ?_, fun i j hij hj g hg => ?_⟩
  · rw [List.length_append] at hi
    by_cases hi2 : i < m.length
    · rw [gl i hi2, gr_appl hi2]
      exact kept _ _ (h.rows i hi2)
    · rw [grr i (by omega), show i = m.length + (i - m.length) from by omega, gr_appr (by omega), show m.length + (i - m.length) - m.length = i - m.length from by omega]
      exact kept _ _ ((hk.rows (i - m.length) (by omega)).base hBB)
  · rw [List.length_append] at hj
    by_cases hj2 : j < m.length
    · rw [gl i (by omega)] at hg
      rw [gl j hj2]
      exact h.apart i j hij hj2 g hg
    · rw [grr j (by omega)]
      by_cases hi2 : i < m.length
      · rw [gl i hi2] at hg
        exact hap i (j - m.length) (by omega) (by omega) g hg
      · rw [grr i (by omega)] at hg
        exact hk.apart (i - m.length) (j - m.length) (by omega) (by omega) g hg
/-- the rows of a table apart are appended to a table -/
theorem wpList_rowsL {w : World} {ops : Array Oper} {rest : List Oper} {o : Oper} {a : Act} {Q : Exit → Act → World → Prop} (hgd : o.guard = none) (s x : Operand)
    (ho : o.op = .call { callee := .builtin .append, args := #[s, x], argTypes := #[22, 22] })
    (B B' : Nat) (v u : Value) (m k : List (List Int)) (vs us : List Value) (h : OwnT w B v m vs) (hk : OwnT w B' u k us) (hs : a.eval s = v) (hx : a.eval x = u) (hBB : B ≤ B') (hap : Apart2 vs us)
    (hB : B ≤ w.heap.size) (hl : m.length + k.length ≤ 1048576)
    (K : ∀ v' w1, OwnT w1 B v' (m ++ k) (vs ++ us) → w.grownBy w1 v.ownBlock → wpList Tryd.prog ops Q rest (a.put o.dst v') w1) : wpList Tryd.prog ops Q (o :: rest) a w := by
  obtain ⟨j0, hj, hy0, hy1, hy2⟩ := info_parts Tryd.info_ints
  obtain ⟨sa, sc, rfl, _, _, _⟩ := hk.read
  cases sa with
  | none =>
    have hM0 : k = [] ∧ sc = 0 := by
      rcases hk.top.2 with ⟨h1, h2⟩ | ⟨g, cap, cur, h1, _⟩
      · simp at h1; exact ⟨List.eq_nil_of_length_eq_zero h2, h1.2⟩
      · simp at h1
    obtain ⟨rfl, rfl⟩ := hM0
    have hus : us = [] := List.eq_nil_of_length_eq_zero hk.len
    subst hus
    refine wpList_append_own_none hgd s x 22 ho B 42 j0 1 Tryd.underlying22 hj v m.length vs hs h.top hx ?_
    exact K v w (by rw [List.append_nil, List.append_nil]; exact h) (World.grownBy.refl _ _)
  | some ad =>
    have hcl := hk.cells
    refine wpList_append_own _ hgd s x 22 ho B 42 j0 (.slice none 0 0) 1 24 Tryd.underlying22 hj hy0 hy1 hy2 rfl (by decide) v m.length vs hs h.top ad k.length sc us hx (by rw [hk.len]; omega) hcl.1 hcl.2 (by unfold maxLen; omega) (by omega) hB ?_
    intro v' w1 h1 h2 _
    exact K v' w1 (h.join2 hk hBB hap h1 (fun x ys hx => hx.kept_tab h.top h2)) h2
/-- .. kept where another list grows -/
theorem OwnL.keptS {w w1 : World} {B B' n' : Nat} {x v : Value} {ts : List (List (List Int))} {vs ys : List Value} {uss : List (List Value)} (h : OwnL w B x ts vs uss) (k : w.ownsRow B' 22 1 v n' ys) (hne : ∀ g, v.ownBlock = some g → x.ownBlock ≠ some g) (hg : w.grownBy w1 v.ownBlock) : OwnL w1 B x ts vs uss := by
  refine ⟨World.ownsRow.kept h.top hg ?_, h.num, fun i hi => (h.each i hi).keptG k (by decide) (by decide) hg, h.apart⟩
  cases hb : x.ownBlock with
  | none => exact .inl rfl
  | some g => exact .inr (fun e => hne g e.symm hb)
/-- rows of tables from place t of another list on -/
def Cross (uss wss : List (List Value)) (t : Nat) : Prop := ∀ i j, i < uss.length → t ≤ j → j < wss.length → Apart2 (ug uss i) (ug wss j)
end Go.Proofs.YtgdijjfipicodaaDoor

namespace Go.Proofs.YtgdijjfipicodaaDoor
open Go.RowKit

-- markIntSS
set_option maxRecDepth 100000 in
set_option maxHeartbeats 400000 in
theorem markIntSS_any2 (B : Nat) (ao : Option Addr) (c : Nat) (q : Int) (m : List (List Int)) (vs : List Value) (w : World) (hs : Small m) (hq0 : 0 ≤ q) (hq1 : q ≤ 500000000000) (hx : OwnP w B (.slice ao m.length c) m.length m m.length vs) :
    Calls Tryd.prog 27 #[.slice ao m.length c, .int .i64 q] w fun e w' => e = .returned (.int .i64 (q + tot m m.length)) ∧ OwnP w' B (.slice ao m.length c) m.length (markM q m) m.length vs ∧
      OnlyW (fun g => ∃ i, i < m.length ∧ (vs.getD i undef).ownBlock = some g) w w' := by
  have hn := hs.1
  have hmx : m.length ≤ 9223372036854775807 := by omega
  go_enter Tryd.func27, Tryd.ntmps27
  go_wp2
  go_loopw [1, 5] (fun kk i wr => ∃ k : Nat, k ≤ m.length ∧ i = .int .i64 k ∧ kk = .int .i64 (q + tot m k) ∧ wr.ownsRow B 42 1 (.slice ao m.length c) m.length vs ∧
      (∀ i, i < k → OwnI wr B (vs.getD i undef) (gr (markM q m) i)) ∧ (∀ i, k ≤ i → i < m.length → OwnI wr B (vs.getD i undef) (gr m i)) ∧ OnlyW (fun g => ∃ i, i < m.length ∧ (vs.getD i undef).ownBlock = some g) w wr)
    (fun _ i _ => m.length - (intOf i).toNat)
  case atStart => exact ⟨0, Nat.zero_le _, rfl, by simp [tot], hx.top, fun i hi => absurd hi (by omega), fun i _ hi => hx.rows i hi, OnlyW.refl _ _⟩
  case round =>
    obtain ⟨k, hk, rfl, rfl, htop, hlo, hhi, hbr⟩ := hrel
    by_cases hlt : k < m.length
    · obtain ⟨ao', c', hv', _, _, hcells⟩ := ownsRow_read htop
      obtain ⟨rfl, -, rfl⟩ := (Value.slice.injEq _ _ _ _ _ _).mp hv'
      obtain ⟨b, o, rfl, hc⟩ := hcells k hlt
      have hrow := hhi k (Nat.le_refl _) hlt
      obtain ⟨r, d, hr, h3, h4, _⟩ := hrow.read
      have Hr := Lib.hid hr
      rw [hr] at hc hrow
      have h2 := hs.2 k hlt
      have h5 := tot_big hs hk
      have Hs := Lib.hid hs
      have Hx := Lib.hid hx
      have Htop := Lib.hid htop
      have Hlo := Lib.hid hlo
      have Hhi := Lib.hid hhi
      have Hrow := Lib.hid hrow
      clear hs hx htop hlo hhi hr hcells hv' hrow
      go_wp2_with fail
      refine (markIntS_any B r d (gr m k).length _ _ wr h2 (by omega) (by omega) Hrow.out).mono ?_
      rintro e w2 ⟨rfl, hv, hb2⟩
      have e1 : q + (tot m k : Int) + ((gr m k).length : Int) = q + (tot m (k + 1) : Int) := by simp only [tot]; omega
      have h6 := tot_big Hs.out (show k + 1 ≤ m.length by omega)
      rw [e1]
      rw [← Hr.out] at hv hb2
      have Hv := Lib.hid hv
      have Hb2 := Lib.hid hb2
      clear e1 hv hb2
      go_wp2
      go_roundw
      case rel =>
        have hb2 := Hb2.out
        refine ⟨k + 1, by omega, by go_num, rfl, ?_, fun i hi => ?_, fun i hi1 hi2 => ?_, hbr.trans (hb2.mono (fun g hg => ⟨k, hlt, hg⟩))⟩
        · exact ownsRow_only Htop.out hb2 (fun g hg hg' => (Hhi.out k (Nat.le_refl _) hlt).ne_row Htop.out g hg' hg)
        · by_cases e : i = k
          · subst e
            rw [gr_markM hlt]
            exact Hv.out
          · exact ownsRow_only (Hlo.out i (by omega)) hb2 (fun g hg hg' => Hx.out.apart i k (by omega) hlt g hg hg')
        · exact ownsRow_only (Hhi.out i (by omega) hi2) hb2 (fun g hg hg' => Hx.out.apart k i (by omega) hi2 g hg' hg)
      case measure => simp [intOf]; omega
    · obtain rfl : k = m.length := by omega
      go_wp2
      go_ret
      exact ⟨rfl, ⟨htop, hlo, hx.apart⟩, hbr⟩


/-- a list of tables, read -/
def ListAt (w : World) (ao : Option Addr) (ts : List (List (List Int))) : Prop := ∀ i, i < ts.length → ∃ b o r d, ao = some ⟨b, o, none⟩ ∧ w.cell? ⟨b, o + i, none⟩ = some (.slice r (gt ts i).length d) ∧ MatAt w r (gt ts i) ∧ (gt ts i).length ≤ d ∧ d ≤ 9223372036854775807
theorem ListAt.below {w w' : World} {ao : Option Addr} {ts : List (List (List Int))} (h : ListAt w ao ts) (hb : Below w.heap.size w w') : ListAt w' ao ts := fun i hi => by
  obtain ⟨b, o, r, d, e, hc, hm, h1, h2⟩ := h i hi
  exact ⟨b, o, r, d, e, cell_below hc hb, hm.below hb, h1, h2⟩
theorem OwnW.lists {w : World} {B n c : Nat} {ao : Option Addr} {ts : List (List (List Int))} {vs : List Value} (h : OwnW w B (.slice ao n c) ts vs) : ListAt w ao ts := fun i hi => by
  obtain ⟨b, o, r, d, e, hc, hm, h1, h2⟩ := h.at hi
  exact ⟨b, o, r, d, e, hc, hm, h1, h2⟩
theorem OwnL.lists {w : World} {B n c : Nat} {ao : Option Addr} {ts : List (List (List Int))} {vs : List Value} {uss : List (List Value)} (h : OwnL w B (.slice ao n c) ts vs uss) : ListAt w ao ts := h.toW.lists
def Small3 (ts : List (List (List Int))) : Prop := ts.length ≤ 10000 ∧ ∀ i, i < ts.length → Small (gt ts i) ∧ tot (gt ts i) (gt ts i).length ≤ 1000
def totL (ts : List (List (List Int))) : Nat → Nat
  | 0 => 0
  | k + 1 => totL ts k + tot (gt ts k) (gt ts k).length
theorem totL_le {ts : List (List (List Int))} (hs : Small3 ts) : ∀ k, k ≤ ts.length → totL ts k ≤ k * 1000
  | 0, _ => by simp [totL]
  | k + 1, h => by
    have h1 := totL_le hs k (by omega)
    have h2 := (hs.2 k (by omega)).2
    simp only [totL]
    omega
theorem totL_big {ts : List (List (List Int))} (hs : Small3 ts) {k : Nat} (h : k ≤ ts.length) : totL ts k ≤ 10000000 := by
  have h1 := totL_le hs k h
  have h2 := hs.1
  omega
def markL (q : Int) (ts : List (List (List Int))) : List (List (List Int)) := (List.range ts.length).map fun i => markM (q + (totL ts i : Int)) (gt ts i)
theorem markL_len (q : Int) (ts : List (List (List Int))) : (markL q ts).length = ts.length := by simp [markL]
theorem gt_markL {q : Int} {ts : List (List (List Int))} {i : Nat} (h : i < ts.length) : gt (markL q ts) i = markM (q + (totL ts i : Int)) (gt ts i) := by
  rw [gt_lt (by rw [markL_len]; exact h)]
  simp [markL]

set_option maxRecDepth 100000 in
set_option maxHeartbeats 400000 in
theorem eqIntSSS_same (a1 a2 : Option Addr) (c1 c2 : Nat) (ts : List (List (List Int))) (w : World) (hs : Small3 ts) (h1 : ListAt w a1 ts) (h2 : ListAt w a2 ts) :
    Calls Tryd.prog 18 #[.slice a1 ts.length c1, .slice a2 ts.length c2] w fun e w' => e = .returned (.bool true) ∧ Q w w' := by
  obtain ⟨hn, hrow⟩ := hs
  have hmx : ts.length ≤ 9223372036854775807 := by omega
  have H1 := Lib.hid h1
  have H2 := Lib.hid h2
  have Hr := Lib.hid hrow
  clear h1 h2 hrow
  go_enter Tryd.func18, Tryd.ntmps18
  go_wp2
  go_loopw [5] (fun i wr => ∃ k : Nat, k ≤ ts.length ∧ i = .int .i64 k ∧ Q w wr) (fun i _ => ts.length - (intOf i).toNat)
  case atStart => exact ⟨0, Nat.zero_le _, rfl, Q.refl _⟩
  case round =>
    obtain ⟨k, hk, rfl, hbr⟩ := hrel
    by_cases hlt : k < ts.length
    · obtain ⟨b1, o1, r1, d1, rfl, hc1, hx1, _, _⟩ := H1.out.below (hbr.below _) k hlt
      obtain ⟨b2, o2, r2, d2, rfl, hc2, hx2, _, _⟩ := H2.out.below (hbr.below _) k hlt
      have hrk := (Hr.out k hlt).1
      have Hx1 := Lib.hid hx1
      have Hx2 := Lib.hid hx2
      have Hrk := Lib.hid hrk
      have hl0 : (gt ts k).length ≤ 9223372036854775807 := by have := hrk.1; omega
      have CE := Lib.hid (fun w h1 h2 => eqIntSS_same r1 r2 d1 d2 (gt ts k) w Hrk.out h1 h2)
      obtain ⟨G, hG⟩ : ∃ G, G = gt ts k := ⟨_, rfl⟩
      rw [← hG] at hc1 hc2 Hx1 Hx2 hl0 CE
      clear hx1 hx2 hrk Hrk hG
      go_wp2
      go_quiet ((go_at_call 15; exact Calls.quiet_of (CE.out _ Hx1.out Hx2.out)))
      go_wp2
      go_roundw
      case rel => exact ⟨k + 1, by omega, by go_num, hbr.drewN _⟩
      case measure => simp [intOf]; omega
    · go_wp2
      go_ret
      exact ⟨rfl, hbr⟩

set_option maxRecDepth 100000 in
set_option maxHeartbeats 400000 in
theorem heldIntSSS_yes (ao : Option Addr) (c : Nat) (ts : List (List (List Int))) (q : Int) (w : World) (hs : Small3 ts) (hq0 : 0 ≤ q) (hq1 : q ≤ 10) (hx : ListAt w ao (markL q ts)) :
    Calls Tryd.prog 20 #[.slice ao ts.length c, .int .i64 q] w fun e w' => e = .returned (.int .i64 (q + totL ts ts.length)) ∧ Q w w' := by
  have hn := hs.1
  have hmx : ts.length ≤ 9223372036854775807 := by omega
  have Hs := Lib.hid hs
  have Hx := Lib.hid hx
  clear hx hs
  go_enter Tryd.func20, Tryd.ntmps20
  go_wp2
  go_loopw [1, 5] (fun kk i wr => ∃ k : Nat, k ≤ ts.length ∧ i = .int .i64 k ∧ kk = .int .i64 (q + totL ts k) ∧ Q w wr) (fun _ i _ => ts.length - (intOf i).toNat)
  case atStart => exact ⟨0, Nat.zero_le _, rfl, by simp [totL], Q.refl _⟩
  case round =>
    obtain ⟨k, hk, rfl, rfl, hbr⟩ := hrel
    by_cases hlt : k < ts.length
    · obtain ⟨b1, o1, r1, d1, rfl, hc1, hr1, _, _⟩ := Hx.out.below (hbr.below _) k (by rw [markL_len]; exact hlt)
      rw [gt_markL hlt, markM_len] at hc1
      rw [gt_markL hlt] at hr1
      have h2 := (Hs.out.2 k hlt).1
      have h22 := (Hs.out.2 k hlt).2
      have h3 := totL_big Hs.out hk
      have CH := Lib.hid (heldIntSS_yes r1 d1 (gt ts k) (q + (totL ts k : Int)) wr h2 (by omega) (by omega) hr1)
      have e1 : q + (totL ts k : Int) + (tot (gt ts k) (gt ts k).length : Int) = q + (totL ts (k + 1) : Int) := by simp only [totL]; omega
      rw [e1] at CH
      have h4 := totL_big Hs.out (show k + 1 ≤ ts.length by omega)
      have hl0 : (gt ts k).length ≤ 9223372036854775807 := by have := h2.1; omega
      obtain ⟨G, hG⟩ : ∃ G, G = gt ts k := ⟨_, rfl⟩
      rw [← hG] at hc1 CH hl0
      clear hr1 h2 h22 e1 hG
      go_wp2_with fail
      refine CH.out.mono ?_
      rintro e w2 ⟨rfl, hb2⟩
      go_wp2
      go_roundw
      case rel => exact ⟨k + 1, by omega, by go_num, rfl, hbr.trans hb2⟩
      case measure => simp [intOf]; omega
    · obtain rfl : k = ts.length := by omega
      go_wp2
      go_ret
      exact ⟨rfl, hbr⟩

/-- a table is kept where the rows of another one are marked -/
theorem OwnT.onlyRows {w w' : World} {B B' : Nat} {x y : Value} {m m' : List (List Int)} {us us' : List Value} (h : OwnT w B x m us) (k : OwnT w B' y m' us') (hap : Apart2 us us') (ho : OnlyW (fun g => ∃ i, i < m'.length ∧ (us'.getD i undef).ownBlock = some g) w w') : OwnT w' B x m us := by
  refine ⟨ownsRow_only h.top ho (fun g hg hs => ?_), fun i hi => ownsRow_only (h.rows i hi) ho (fun g hg hs => ?_), h.apart⟩
  · obtain ⟨i, hi, e⟩ := hs
    exact row_apart h.top (k.rows i hi) (by decide) g hg e
  · obtain ⟨j, hj, e⟩ := hs
    exact hap i j (by rw [h.len]; exact hi) (by rw [k.len]; exact hj) g hg e
theorem Apart2.symm {us vs : List Value} (h : Apart2 us vs) : Apart2 vs us := fun a b ha hb g hg1 hg2 => h b a hb ha g hg2 hg1
/-- the blocks of all rows of a list -/
def RowsOf (ts : List (List (List Int))) (uss : List (List Value)) (g : Nat) : Prop := ∃ i a, i < ts.length ∧ a < (gt ts i).length ∧ ((ug uss i).getD a undef).ownBlock = some g

set_option maxRecDepth 100000 in
set_option maxHeartbeats 800000 in
theorem markIntSSS_any (B : Nat) (ao : Option Addr) (c : Nat) (q : Int) (ts : List (List (List Int))) (vs : List Value) (uss : List (List Value)) (w : World) (hs : Small3 ts) (hq0 : 0 ≤ q) (hq1 : q ≤ 10) (hx : OwnL w B (.slice ao ts.length c) ts vs uss) :
    Calls Tryd.prog 19 #[.slice ao ts.length c, .int .i64 q] w fun e w' => e = .returned (.int .i64 (q + totL ts ts.length)) ∧ OwnL w' B (.slice ao ts.length c) (markL q ts) vs uss ∧ OnlyW (RowsOf ts uss) w w' := by
  have hn := hs.1
  have hmx : ts.length ≤ 9223372036854775807 := by omega
  have Hs := Lib.hid hs
  have Hx := Lib.hid hx
  clear hs hx
  go_enter Tryd.func19, Tryd.ntmps19
  go_wp2
  go_loopw [1, 5] (fun kk i wr => ∃ k : Nat, k ≤ ts.length ∧ i = .int .i64 k ∧ kk = .int .i64 (q + totL ts k) ∧ wr.ownsRow B 22 1 (.slice ao ts.length c) ts.length vs ∧
      (∀ i, i < k → OwnT wr B (vs.getD i undef) (gt (markL q ts) i) (ug uss i)) ∧ (∀ i, k ≤ i → i < ts.length → OwnT wr B (vs.getD i undef) (gt ts i) (ug uss i)) ∧ OnlyW (RowsOf ts uss) w wr)
    (fun _ i _ => ts.length - (intOf i).toNat)
  case atStart => exact ⟨0, Nat.zero_le _, rfl, by simp [totL], Hx.out.top, fun i hi => absurd hi (by omega), fun i _ hi => Hx.out.each i hi, OnlyW.refl _ _⟩
  case round =>
    obtain ⟨k, hk, rfl, rfl, htop, hlo, hhi, hbr⟩ := hrel
    have Htop := Lib.hid htop
    have Hlo := Lib.hid hlo
    have Hhi := Lib.hid hhi
    have Hbr := Lib.hid hbr
    clear htop hlo hhi hbr
    by_cases hlt : k < ts.length
    · obtain ⟨ao', c', hv', _, _, hcells⟩ := ownsRow_read Htop.out
      obtain ⟨rfl, -, rfl⟩ := (Value.slice.injEq _ _ _ _ _ _).mp hv'
      obtain ⟨b, o, rfl, hc⟩ := hcells k hlt
      have hrow := Hhi.out k (Nat.le_refl _) hlt
      obtain ⟨r, d, hr, h3, h4, _⟩ := hrow.read
      have Hr := Lib.hid hr
      have Hrow := Lib.hid hrow
      rw [hr] at hc
      have h2 := (Hs.out.2 k hlt).1
      have h5 := totL_big Hs.out hk
      have CM := Lib.hid (markIntSS_any2 B r d (q + (totL ts k : Int)) (gt ts k) (ug uss k) wr h2 (by omega) (by omega) (by rw [hr] at hrow; exact hrow))
      have e1 : q + (totL ts k : Int) + (tot (gt ts k) (gt ts k).length : Int) = q + (totL ts (k + 1) : Int) := by simp only [totL]; omega
      rw [e1] at CM
      have h6 := totL_big Hs.out (show k + 1 ≤ ts.length by omega)
      have hl0 : (gt ts k).length ≤ 9223372036854775807 := by have := h2.1; omega
      have HG := Lib.hid (gt_markL (q := q) hlt)
      obtain ⟨G, hG⟩ : ∃ G, G = gt ts k := ⟨_, rfl⟩
      rw [← hG] at hc CM hl0 h3 HG
      have HGk := Lib.hid hG
      clear hrow hr hcells hv' e1 h2 hG
      go_wp2_with fail
      refine CM.out.mono ?_
      rintro e w2 ⟨rfl, hv, hb2⟩
      have Hv := Lib.hid hv
      have Hb2 := Lib.hid hb2
      clear hv hb2 CM
      go_wp2
      go_roundw
      case rel =>
        have hb2 := Hb2.out
        have hrk := Hrow.out
        rw [← HGk.out] at hrk
        refine ⟨k + 1, by omega, by go_num, rfl, ?_, fun i hi => ?_, fun i hi1 hi2 => ?_, Hbr.out.trans (hb2.mono (fun g hg => ?_))⟩
        · refine ownsRow_only Htop.out hb2 (fun g hg hg' => ?_)
          obtain ⟨i, hi, e⟩ := hg'
          exact row_apart Htop.out (hrk.rows i hi) (by decide) g hg e
        · by_cases e : i = k
          · subst e
            rw [HG.out, Hr.out, ← HGk.out]
            show OwnP _ _ _ _ _ _ _
            have := Hv.out
            rw [← markM_len (q + (totL ts i : Int)) G] at this
            rw [markM_len] at this ⊢
            exact this
          · exact (Hlo.out i (by omega)).onlyRows hrk (Hx.out.apart i k (by omega) hlt) hb2
        · exact (Hhi.out i (by omega) hi2).onlyRows hrk (Hx.out.apart k i (by omega) hi2).symm hb2
        · obtain ⟨i, hi, e⟩ := hg
          exact ⟨k, i, hlt, by rw [← HGk.out]; exact hi, e⟩
      case measure => simp [intOf]; omega
    · obtain rfl : k = ts.length := by omega
      have HF := Lib.hid (show OwnL wr B (.slice ao ts.length c) (markL q ts) vs uss from ⟨by rw [markL_len]; exact Htop.out, by rw [markL_len]; exact Hx.out.num, fun i hi => Hlo.out i (by rw [markL_len] at hi; exact hi), fun i j hij hj => Hx.out.apart i j hij (by rw [markL_len] at hj; exact hj)⟩)
      go_wp2
      go_ret
      exact ⟨rfl, HF.out, Hbr.out⟩
theorem OwnL.span {w : World} {B : Nat} {v : Value} {ts : List (List (List Int))} {vs : List Value} {uss : List (List Value)} (h : OwnL w B v ts vs uss) {g : Nat} (hg : RowsOf ts uss g) : B ≤ g ∧ g < w.heap.size := by
  obtain ⟨i, a, hi, ha, e⟩ := hg
  exact h.old hi (by rw [(h.each i hi).len]; exact ha) e

/-- a list of tables of the call's own, all rows apart -/
def OwnLM (w : World) (B : Nat) (v : Value) (ts : List (List (List Int))) : Prop := ∃ vs uss, OwnL w B v ts vs uss
theorem OwnLM.open {w : World} {B : Nat} {v : Value} {ts : List (List (List Int))} (h : OwnLM w B v ts) : ∃ ao c vs uss, v = .slice ao ts.length c ∧ OwnL w B (.slice ao ts.length c) ts vs uss := by
  obtain ⟨vs, uss, h⟩ := h
  obtain ⟨ao, c, rfl, _, _⟩ := h.head
  exact ⟨ao, c, vs, uss, rfl, h⟩
theorem OwnLM.read {w : World} {B : Nat} {v : Value} {ts : List (List (List Int))} (h : OwnLM w B v ts) : ∃ ao c, v = .slice ao ts.length c ∧ ListAt w ao ts := by
  obtain ⟨ao, c, vs, uss, rfl, h2⟩ := h.open
  exact ⟨ao, c, rfl, h2.lists⟩
/-- ([][][]int, bool) -/
def TRes (p : Prop) (r : List (List (List Int))) (w : World) (B : Nat) (e : Ending) : Prop :=
  ∃ v b r', e = .returned (.tuple #[v, .bool b]) ∧ OwnLM w B v r' ∧ ((p ∧ b = true ∧ r' = r) ∨ (¬p ∧ b = false ∧ r' = []))
theorem OwnL.nil (w : World) (B : Nat) : OwnL w B (.slice none 0 0) [] [] [] := ⟨World.ownsRow_nil _ _ _ _, rfl, fun i hi => absurd hi (by simp), fun i j _ hj => absurd hj (by simp)⟩
theorem TRes.yes {p : Prop} {r : List (List (List Int))} {w : World} {B : Nat} {v : Value} (h : p) (ho : OwnLM w B v r) : TRes p r w B (.returned (.tuple #[v, .bool true])) := ⟨v, true, r, rfl, ho, .inl ⟨h, rfl, rfl⟩⟩
theorem TRes.no {p : Prop} {r : List (List (List Int))} {w : World} {B : Nat} (h : ¬p) : TRes p r w B (.returned (.tuple #[.slice none 0 0, .bool false])) := ⟨_, false, [], rfl, ⟨[], [], OwnL.nil _ _⟩, .inr ⟨h, rfl, rfl⟩⟩
/-- .., the list only read -/
def ReadsL (w : World) (v : Value) (ts : List (List (List Int))) : Prop := ∃ ao c, v = .slice ao ts.length c ∧ ListAt w ao ts
theorem ReadsL.read {w : World} {v : Value} {ts : List (List (List Int))} (h : ReadsL w v ts) : ∃ ao c, v = .slice ao ts.length c ∧ ListAt w ao ts := h
theorem OwnW.reads {w : World} {B : Nat} {v : Value} {ts : List (List (List Int))} {vs : List Value} (h : OwnW w B v ts vs) : ReadsL w v ts := by
  obtain ⟨ao, c, rfl, _, _⟩ := h.head
  exact ⟨ao, c, rfl, h.lists⟩
def TVRes (p : Prop) (r : List (List (List Int))) (w : World) (e : Ending) : Prop :=
  ∃ v b r', e = .returned (.tuple #[v, .bool b]) ∧ ReadsL w v r' ∧ ((p ∧ b = true ∧ r' = r) ∨ (¬p ∧ b = false ∧ r' = []))
theorem TVRes.yes {p : Prop} {r : List (List (List Int))} {w : World} {v : Value} (h : p) (ho : ReadsL w v r) : TVRes p r w (.returned (.tuple #[v, .bool true])) := ⟨v, true, r, rfl, ho, .inl ⟨h, rfl, rfl⟩⟩
theorem TVRes.no {p : Prop} {r : List (List (List Int))} {w : World} (h : ¬p) : TVRes p r w (.returned (.tuple #[.slice none 0 0, .bool false])) := ⟨_, false, [], rfl, (OwnW.nil w 0).reads, .inr ⟨h, rfl, rfl⟩⟩
theorem tres_same {p : Prop} {r q : List (List (List Int))} {b : Bool} (h : (p ∧ b = true ∧ q = r) ∨ (¬p ∧ b = false ∧ q = [])) :
    ∀ b' q', ((p ∧ b' = true ∧ q' = r) ∨ (¬p ∧ b' = false ∧ q' = [])) → b = b' ∧ q = q' := by
  intro b' q' k
  rcases h with ⟨h1, h2, h3⟩ | ⟨h1, h2, h3⟩ <;> rcases k with ⟨k1, k2, k3⟩ | ⟨k1, k2, k3⟩
  · exact ⟨h2.trans k2.symm, h3.trans k3.symm⟩
  · exact absurd h1 k1
  · exact absurd k1 h1
  · exact ⟨h2.trans k2.symm, h3.trans k3.symm⟩
end Go.Proofs.YtgdijjfipicodaaDoor

namespace Go.Proofs.YtgdijjfipicodaaDoor
open Go.RowKit

theorem OwnT.setOther {w : World} {B B' n' : Nat} {x v : Value} {m : List (List Int)} {vs ys : List Value} {e' : TypeId} {g i : Nat} (h : OwnT w B x m vs) (k : w.ownsRow B' e' 1 v n' ys) (hv : v.ownBlock = some g) (h1 : 42 ≠ e') (h2 : 3 ≠ e') (u : Value) : OwnT (w.setCell ⟨g, i, none⟩ u) B x m vs :=
  ⟨Go.ownsRow_setCell_other h.top (fun e => row_apart h.top k h1 g e hv) u, fun j hj => Go.ownsRow_setCell_other (h.rows j hj) (fun e => row_apart (h.rows j hj) k h2 g e hv) u, h.apart⟩
/-- a table upside down has its rows apart if the table had -/
theorem OwnT.turned {w : World} {B : Nat} {v : Value} {m : List (List Int)} {svs : List Value} (h : OwnR w B v m svs.reverse) (hl : svs.length = svs.length) (hap : ∀ a b, a < b → b < svs.length → ∀ g, (svs.getD a undef).ownBlock = some g → (svs.getD b undef).ownBlock ≠ some g) : OwnT w B v m svs.reverse := by
  have hlen := h.len
  rw [List.length_reverse] at hlen
  refine ⟨h.top, h.rows, fun i j hij hj g hg hg2 => ?_⟩
  simp only [List.getD] at hg hg2
  rw [List.getElem?_reverse (by omega)] at hg
  rw [List.getElem?_reverse (by omega)] at hg2
  exact hap (svs.length - 1 - j) (svs.length - 1 - i) (by omega) (by omega) g hg2 hg
/-- a list of tables of which the first k have all rows apart -/
structure AsUp (w : World) (B : Nat) (v : Value) (ts : List (List (List Int))) (k : Nat) (vs : List Value) (uss : List (List Value)) : Prop where
  list : OwnRL w B v ts vs
  num : uss.length = k
  le : k ≤ ts.length
  each : ∀ i, i < k → OwnT w B (vs.getD i undef) (gt ts i) (ug uss i)
  apart : ∀ i j, i < j → j < k → Apart2 (ug uss i) (ug uss j)
theorem AsUp.start {w : World} {B : Nat} {v : Value} {ts : List (List (List Int))} {vs : List Value} (h : OwnRL w B v ts vs) : AsUp w B v ts 0 vs [] := ⟨h, rfl, Nat.zero_le _, fun i hi => absurd hi (by omega), fun i j _ hj => absurd hj (by omega)⟩
theorem AsUp.below {w w' : World} {B k : Nat} {v : Value} {ts : List (List (List Int))} {vs : List Value} {uss : List (List Value)} (h : AsUp w B v ts k vs uss) (hb : Below w.heap.size w w') : AsUp w' B v ts k vs uss := ⟨h.list.below hb, h.num, h.le, fun i hi => (h.each i hi).below hb, h.apart⟩
theorem AsUp.old {w : World} {B k : Nat} {v : Value} {ts : List (List (List Int))} {vs : List Value} {uss : List (List Value)} (h : AsUp w B v ts k vs uss) {i p g : Nat} (hi : i < k) (hp : p < (ug uss i).length) (hg : ((ug uss i).getD p undef).ownBlock = some g) : g < w.heap.size :=
  ((h.each i hi).old p (by rw [← (h.each i hi).len]; exact hp) g hg).2
theorem AsUp.finish {w : World} {B k : Nat} {v : Value} {ts : List (List (List Int))} {vs : List Value} {uss : List (List Value)} (h : AsUp w B v ts k vs uss) (hk : ts.length = k) : OwnL w B v ts vs uss :=
  ⟨h.list.top, by rw [h.num, hk], fun i hi => h.each i (by omega), fun i j hij hj => h.apart i j hij (by omega)⟩
theorem AsUp.set {w : World} {B g n c k i : Nat} {ts : List (List (List Int))} {vs zs : List Value} {uss : List (List Value)} {v : Value} {M : List (List Int)} (h : AsUp w B (.slice (some ⟨g, 0, none⟩) n c) ts k vs uss) (hik : i = k) (hi : i < ts.length) (hv : OwnT w B v M zs)
    (hap : ∀ a, a < k → Apart2 (ug uss a) zs) : AsUp (w.setCell ⟨g, i, none⟩ v) B (.slice (some ⟨g, 0, none⟩) n c) (ts.set i M) (i + 1) (vs.set i v) (uss ++ [zs]) := by
  subst hik
  have hl := h.list.len
  have hn := h.num
  refine ⟨h.list.set hi ⟨hv.top, hv.rows⟩, by simp [hn], by rw [List.length_set]; omega, fun j hj => ?_, fun a b hab hb => ?_⟩
  · by_cases e : j = i
    · subst e
      have e1 : (vs.set j v).getD j undef = v := by simp [List.getD, hl, hi]
      have e2 : gt (ts.set j M) j = M := by unfold gt; simp [List.getD, hi]
      rw [e1, e2, ug_right (by omega), hn, Nat.sub_self]
      exact hv.setOther h.list.top rfl (by decide) (by decide) v
    · have e1 : (vs.set i v).getD j undef = vs.getD j undef := by simp only [List.getD]; rw [List.getElem?_set_ne (fun h => e h.symm)]
      have e2 : gt (ts.set i M) j = gt ts j := by unfold gt; simp only [List.getD]; rw [List.getElem?_set_ne (fun h => e h.symm)]
      rw [e1, e2, ug_left (by omega)]
      exact (h.each j (by omega)).setOther h.list.top rfl (by decide) (by decide) v
  · rw [ug_left (by omega)]
    by_cases e : b = i
    · subst e
      rw [ug_right (by omega), hn, Nat.sub_self]
      exact hap a (by omega)
    · rw [ug_left (by omega)]
      exact h.apart a b hab (by omega)

set_option maxRecDepth 100000 in
set_option maxHeartbeats 3200000 in
theorem allSignsL_any (n : Nat) (w : World) (h1 : 1 ≤ n) (h5 : n ≤ 5) (hD : Dj w) :
    Calls Tryd.prog 53 #[.int .i64 (n : Int)] w fun e w' => ∃ v, e = .returned v ∧ OwnLM w' w.heap.size v (allI n) ∧ Below w.heap.size w w' := by
  have hcols := tris_cols n (by omega)
  have C := Lib.hid (triangles_any (n - 1) (fullR n) w (by omega) (fullR_rise (by omega)) (by rw [fullR_len]; omega) hD)
  rw [fullR_ok n (by omega)] at C
  have hTl := trisD_le (n - 1) (fullR n) (fullR_rise (by omega)) (by rw [fullR_len]; omega)
  have hTb := trB_le (n - 1) (by omega)
  obtain ⟨T, hT⟩ : ∃ T, T = trisD (n - 1) (fullR n) := ⟨_, rfl⟩
  rw [← hT] at hcols C hTl
  have HV := Lib.hid (show allI n = T.map flipT by rw [hT]; rfl)
  have Hcols := Lib.hid (show ∀ t, t ∈ T → t.length = n ∧ colsOk t from fun t ht => (hcols t ht).resolve_left (by omega))
  have hTn : T.length ≤ 1099511627776 := Nat.le_trans hTl hTb
  obtain ⟨q, hq⟩ : ∃ q : Int, q = ((2 ^ n - 1 : Nat) : Int) := ⟨_, rfl⟩
  have CA := Lib.hid (allColumns_any n w (by omega))
  rw [← hq] at C CA
  clear hcols hT hTl hTb hD hq
  go_enter Tryd.func53, Tryd.ntmps53
  go_wp2_with fail
  refine CA.out.mono ?_
  rintro e w1 ⟨rfl, rfl⟩
  go_wp2_with fail
  refine C.out.mono ?_
  rintro e w2 ⟨v, vs, rfl, hv, _, hb⟩
  obtain ⟨ta, tc, rfl, ht1, ht2⟩ := hv.head
  have Hv := Lib.hid hv
  have Hb := Lib.hid hb
  clear hv hb C CA
  go_wp2
  go_loopw [11] (fun i wr => ∃ (k : Nat) (vs : List Value) (uss : List (List Value)), k ≤ T.length ∧ i = .int .i64 k ∧ AsUp wr w.heap.size (.slice ta T.length tc) (mixT T k) k vs uss ∧ Below w.heap.size w wr) (fun i _ => T.length - (intOf i).toNat)
  case atStart => exact ⟨0, vs, [], Nat.zero_le _, rfl, by rw [mixT_zero]; exact AsUp.start Hv.out, Hb.out⟩
  case round =>
    obtain ⟨k, vs, uss, hk, rfl, hup, hbr⟩ := hrel
    have Hup := Lib.hid hup
    have hown := hup.list
    clear hup
    clear Hv Hb
    have Hown := Lib.hid hown
    have Hbr := Lib.hid hbr
    have HBr := Lib.hid hbr.size
    by_cases hlt : k < T.length
    · obtain ⟨g, rfl, hg1, hg2⟩ := hown.isAt (by rw [mixT_len]; omega)
      obtain ⟨b1, o1, r1, d1, e1, hc1, hm1, _, _⟩ := hown.at (i := k) (by rw [mixT_len]; exact hlt)
      cases e1
      rw [Nat.zero_add] at hc1
      rw [mixT_at hlt] at hc1 hm1
      obtain ⟨hl1, hco⟩ := Hcols.out _ (gt_mem hlt)
      have CS := Lib.hid (signsOf_any r1 d1 (gt T k) wr hco hm1)
      have Hset := Lib.hid (show (mixT T k).set k (flipT (gt T k)) = mixT T (k + 1) from mixT_set hlt)
      have Hfl := Lib.hid (show (fromTab (gt T k)).length = n by rw [fromTab_len]; exact hl1)
      rw [hl1] at hc1 CS
      clear hown hbr hm1 hl1 hco
      go_wp2_with fail
      refine CS.out.mono ?_
      rintro e w3 ⟨v3, rfl, hv3, hb3⟩
      obtain ⟨sa, scp, svs, rfl, hsp, _, _⟩ := hv3.open
      have CU := Lib.hid (upsideDownR_any w.heap.size sa scp (fromTab (gt T k)) svs w3 (by rw [Hfl.out]; omega) (by rw [Hfl.out]; omega) (Nat.le_trans HBr.out hb3.size) (hsp.toR.base HBr.out))
      rw [Hfl.out] at CU ⊢
      have Hb3 := Lib.hid hb3
      have Hsp := Lib.hid hsp
      clear hv3 hb3 hsp CS
      go_wp2_with fail
      refine CU.out.mono ?_
      rintro e w4 ⟨v4, rfl, hv4, hb4⟩
      have hb34 := Hb3.out.trans (hb4.mono Hb3.out.size)
      have hown4 := Hown.out.below hb34
      have hfr : w4.frozen? ⟨g, k, none⟩ = false := by
        have h := hown4.top
        rw [mixT_len] at h
        exact World.ownsRow.frozenAt h k
      have hcell : w4.cell? ⟨g, k, none⟩ = some (.slice r1 n d1) := cell_below hc1 hb34
      have hT4 : OwnT w4 w.heap.size v4 (flipT (gt T k)) svs.reverse := OwnT.turned hv4 (by have h1 := Hsp.out.top.1; simp at h1; rw [h1]) (fun a b hab hb => Hsp.out.apart a b hab (by have h1 := Hsp.out.top.1; simp at h1; omega))
      have hset := (Hup.out.below hb34).set (i := k) rfl (by rw [mixT_len]; exact hlt) hT4 (fun a ha => fun p q hp hq g2 hg2 hg3 => by
        have hlt2 := Hup.out.old ha hp hg2
        have hq2 : q < svs.length := by rw [List.length_reverse] at hq; exact hq
        rw [List.getD, List.getElem?_reverse hq2] at hg3
        have h1 := Hsp.out.top.1
        simp at h1
        have hge := (Hsp.out.rows (svs.length - 1 - q) (by omega)).lt g2 hg3
        omega)
      rw [Hset.out] at hset
      have Hs := Lib.hid hset
      have Hbs := Lib.hid ((Hbr.out.trans (hb34.mono HBr.out)).setCell (p := ⟨g, k, none⟩) hg1 v4)
      obtain ⟨va, vc, hvv, _, _, _⟩ := hv4.read
      rw [List.length_reverse, Hfl.out] at hvv
      subst hvv
      clear hv4 hb4 hb34 hown4 hset CU hc1
      go_wp2
      go_roundw
      case rel => exact ⟨k + 1, _, _, by omega, by go_num, Hs.out, Hbs.out⟩
      case measure => simp [intOf]; omega
    · obtain rfl : k = T.length := by omega
      have HF := Lib.hid (show OwnLM wr w.heap.size (.slice ta T.length tc) (allI n) from ⟨vs, uss, by
        have h1 := Hup.out
        rw [mixT_end, ← HV.out] at h1
        exact h1.finish (by rw [HV.out, List.length_map])⟩)
      clear hown hbr Hup
      go_wp2
      go_ret
      exact ⟨_, rfl, HF.out, Hbr.out⟩
end Go.Proofs.YtgdijjfipicodaaDoor

