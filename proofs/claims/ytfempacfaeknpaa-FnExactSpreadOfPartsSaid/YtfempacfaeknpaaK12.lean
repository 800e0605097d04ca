/- Parts of proofs: contracts and plain facts. Conditions: as each says. -/
import Derived.Test.YtfempacfaeknpaaK11
import Derived.Maps.AppendAt
namespace Go.Proofs.Ytfempacfaeknpaa
open Go.RowKit

theorem OwnT.keptG {w w1 : World} {B B' n' : Nat} {x v : Value} {m : List (List Int)} {vs ys : List Value} {e' : TypeId} (h : OwnT w B x m vs) (k : w.ownsRow B' e' 1 v n' ys) (h1 : 42 ≠ e') (h2 : 3 ≠ e') (hg : w.grownBy w1 v.ownBlock) : OwnT w1 B x m vs :=
  ⟨row_kept h.top k h1 hg, fun i hi => row_kept (h.rows i hi) k h2 hg, h.apart⟩
/-- the slice values of the rows of table i -/
def ug (uss : List (List Value)) (i : Nat) : List Value := uss.getD i []
theorem ug_left {a b : List (List Value)} {i : Nat} (h : i < a.length) : ug (a ++ b) i = ug a i := by
  simp only [ug, List.getD]; rw [List.getElem?_append_left h]
theorem ug_right {a b : List (List Value)} {i : Nat} (h : a.length ≤ i) : ug (a ++ b) i = ug b (i - a.length) := by
  simp only [ug, List.getD]; rw [List.getElem?_append_right h]
/-- the rows of two tables share no block -/
def Apart2 (us vs : List Value) : Prop := ∀ a b, a < us.length → b < vs.length → ∀ g, (us.getD a undef).ownBlock = some g → (vs.getD b undef).ownBlock ≠ some g
structure OwnL (w : World) (B : Nat) (v : Value) (ts : List (List (List Int))) (vs : List Value) (uss : List (List Value)) : Prop where
  top : w.ownsRow B 22 1 v ts.length vs
  num : uss.length = ts.length
  each : ∀ i, i < ts.length → OwnT w B (vs.getD i undef) (gt ts i) (ug uss i)
  apart : ∀ i j, i < j → j < ts.length → Apart2 (ug uss i) (ug uss j)
theorem OwnL.below {w w' : World} {B : Nat} {v : Value} {ts : List (List (List Int))} {vs : List Value} {uss : List (List Value)} (h : OwnL w B v ts vs uss) (hb : Below w.heap.size w w') : OwnL w' B v ts vs uss := ⟨ownsRow_below h.top hb, h.num, fun i hi => (h.each i hi).below hb, h.apart⟩
theorem OwnL.base {w : World} {B B' : Nat} {v : Value} {ts : List (List (List Int))} {vs : List Value} {uss : List (List Value)} (h : OwnL w B v ts vs uss) (hB : B' ≤ B) : OwnL w B' v ts vs uss := ⟨ownsRow_base h.top hB, h.num, fun i hi => (h.each i hi).base hB, h.apart⟩
theorem OwnL.toW {w : World} {B : Nat} {v : Value} {ts : List (List (List Int))} {vs : List Value} {uss : List (List Value)} (h : OwnL w B v ts vs uss) : OwnW w B v ts vs := ⟨h.top, fun i hi => ⟨_, (h.each i hi).toV.base (Nat.zero_le _)⟩⟩
theorem OwnL.len {w : World} {B : Nat} {v : Value} {ts : List (List (List Int))} {vs : List Value} {uss : List (List Value)} (h : OwnL w B v ts vs uss) : vs.length = ts.length := by simpa using h.top.1
theorem OwnL.head {w : World} {B : Nat} {v : Value} {ts : List (List (List Int))} {vs : List Value} {uss : List (List Value)} (h : OwnL w B v ts vs uss) : ∃ ao c, v = .slice ao ts.length c ∧ ts.length ≤ c ∧ c ≤ 9223372036854775807 := h.toW.head
/-- the blocks of rows -/
theorem OwnL.old {w : World} {B : Nat} {v : Value} {ts : List (List (List Int))} {vs : List Value} {uss : List (List Value)} (h : OwnL w B v ts vs uss) {i : Nat} (hi : i < ts.length) {a : Nat} (ha : a < (ug uss i).length) {g : Nat} (hg : ((ug uss i).getD a undef).ownBlock = some g) : B ≤ g ∧ g < w.heap.size :=
  (h.each i hi).old a (by rw [← (h.each i hi).len]; exact ha) g hg
/-- a list that is written out, of a table without rows -/
theorem OwnL.one0 (w : World) : OwnL (w.alloc (.cells #[.slice none 0 0] 22)) w.heap.size (.slice (some ⟨w.heap.size, 0, none⟩) 1 1) [[]] [.slice none 0 0] [[]] := by
  refine ⟨⟨by simp, .inr ⟨w.heap.size, 1, _, rfl, Nat.le_refl _, heap_alloc_new w _, Nat.le_refl _, by decide, rfl, rfl⟩⟩, rfl, fun i hi => ?_, fun i j hij hj => ?_⟩
  · obtain rfl : i = 0 := by simp at hi; omega
    exact OwnT.nil _ _
  · simp at hj; omega

/-- a table, written out in a list of one, is appended to a list -/
theorem wpList_tabL {w : World} {ops : Array Oper} {rest : List Oper} {o : Oper} {a : Act} {Q : Exit → Act → World → Prop} (hgd : o.guard = none) (s x : Operand)
    (ho : o.op = .call { callee := .builtin .append, args := #[s, x], argTypes := #[29, 29] })
    (B : Nat) (v u : Value) (m : List (List (List Int))) (vs : List Value) (uss : List (List Value)) (t : List (List Int)) (us : List Value) (h : OwnL w B v m vs uss) (hu : OwnT w B u t us) (hs : a.eval s = v) (hx : a.eval x = .slice (some ⟨w.heap.size, 0, none⟩) 1 1)
    (hne : ∀ i, i < m.length → Apart2 (ug uss i) us) (hB : B ≤ w.heap.size) (hl : m.length < 5860000000000)
    (K : ∀ v' w1, OwnL w1 B v' (m ++ [t]) (vs ++ [u]) (uss ++ [us]) → (w.alloc (.cells #[u] 22)).grownBy w1 v.ownBlock → Below B w w1 → (v'.ownBlock = v.ownBlock ∨ v'.ownBlock = some (w.heap.size + 1)) → wpList Try.prog ops Q rest (a.put o.dst v') w1) : wpList Try.prog ops Q (o :: rest) a (w.alloc (.cells #[u] 22)) := by
  obtain ⟨j0, hj, hy0, hy1, hy2⟩ := info_parts Try.info_intssW
  refine wpList_append_own_at _ hgd s x 29 ho B 22 j0 (.slice none 0 0) 1 24 Try.underlying29 hj hy0 hy1 hy2 rfl (by decide) v m.length _ hs (World.ownsRow.alloc h.top _) ⟨w.heap.size, 0, none⟩ 1 1 [u] hx rfl ?_ ?_ (by unfold maxLen; omega) (by omega) (by simp; omega) ?_
  · exact cell_one_new _ _ _
  · intro z hz; simp at hz; subst hz; obtain ⟨_, _, e, _⟩ := hu.read; rw [e]; rfl
  · intro v' w1 h1 h2 _ h5
    have h5' : v'.ownBlock = v.ownBlock ∨ v'.ownBlock = some (w.heap.size + 1) := by simpa using h5
    have hb : Below w.heap.size w (w.alloc (.cells #[u] 22)) := (Below.refl _ _).alloc (Nat.le_refl _) _
    have ho := h.below hb
    have hu2 := hu.below hb
    refine K v' w1 ⟨by rw [List.length_append]; exact h1, by simp [h.num], fun i hi => ?_, fun i j hij hj => ?_⟩ h2 (Below.grown ((Below.refl B w).alloc hB _) h2 (by simp; omega) (fun k hk => (World.ownsRow.lt h.top k hk).1)) h5'
    · rw [List.length_append, List.length_singleton] at hi
      by_cases hi2 : i < m.length
      · rw [getD_left (by rw [h.len]; exact hi2), gt_app_left hi2, ug_left (by rw [h.num]; exact hi2)]
        exact (ho.each i hi2).keptG ho.top (by decide) (by decide) h2
      · obtain rfl : i = m.length := by omega
        rw [getD_right (by rw [h.len]; exact Nat.le_refl _), h.len, Nat.sub_self, ug_right (by rw [h.num]; exact Nat.le_refl _), h.num, Nat.sub_self]
        have e : gt (m ++ [t]) m.length = t := by
          have := gt_app_right (a := m) (b := [t]) (i := 0) (by simp)
          rw [Nat.add_zero] at this
          exact this
        rw [e]
        exact hu2.keptG ho.top (by decide) (by decide) h2
    · rw [List.length_append, List.length_singleton] at hj
      rw [ug_left (by rw [h.num]; omega)]
      by_cases hj2 : j < m.length
      · rw [ug_left (by rw [h.num]; exact hj2)]
        exact h.apart i j hij hj2
      · obtain rfl : j = m.length := by omega
        rw [ug_right (by rw [h.num]; exact Nat.le_refl _), h.num, Nat.sub_self]
        exact hne i (by omega)

/-- reading one of the tables -/
theorem OwnL.at {w : World} {B n c : Nat} {ao : Option Addr} {ts : List (List (List Int))} {vs : List Value} {uss : List (List Value)} (h : OwnL w B (.slice ao n c) ts vs uss) {i : Nat} (hi : i < ts.length) :
    ∃ b o r d, ao = some ⟨b, o, none⟩ ∧ w.cell? ⟨b, o + i, none⟩ = some (.slice r (gt ts i).length d) ∧ vs.getD i undef = .slice r (gt ts i).length d ∧ (gt ts i).length ≤ d ∧ d ≤ 9223372036854775807 ∧ MatAt w r (gt ts i) := by
  obtain ⟨ao', c', e, _, _, hc⟩ := ownsRow_read h.top
  cases e
  obtain ⟨b, o, e, hcell⟩ := hc i hi
  obtain ⟨r, d, hr, h3, h4, hm⟩ := (h.each i hi).read
  exact ⟨b, o, r, d, e, by rw [hcell, hr], hr, h3, h4, hm⟩
/-- a table of one row, written out -/
theorem OwnT.one {w : World} {B : Nat} {u : Value} {row : List Int} (h : OwnI w B u row) (hB : B ≤ w.heap.size) : OwnT (w.alloc (.cells #[u] 42)) B (.slice (some ⟨w.heap.size, 0, none⟩) 1 1) [row] [u] := by
  refine ⟨⟨by simp, .inr ⟨w.heap.size, 1, _, rfl, hB, heap_alloc_new w _, Nat.le_refl _, by decide, rfl, rfl⟩⟩, fun i hi => ?_, fun i j hij hj => ?_⟩
  · obtain rfl : i = 0 := by simp at hi; omega
    exact h.below ((Below.refl _ _).alloc (Nat.le_refl _) _)
  · simp at hj; omega
/-- the rows of a table apart are put behind a table -/
theorem OwnT.join2 {w w1 : World} {B B' : Nat} {v v' u : Value} {m k : List (List Int)} {vs us : List Value} (h : OwnT w B v m vs) (hk : OwnT w B' u k us) (hBB : B ≤ B')
    (hap : Apart2 vs us)
    (h1 : w1.ownsRow B 42 1 v' (m.length + k.length) (vs ++ us)) (kept : ∀ (x : Value) (ys : List Int), OwnI w B x ys → OwnI w1 B x ys) : OwnT w1 B v' (m ++ k) (vs ++ us) := by
  have hl := h.len
  have hl2 := hk.len
  have gl : ∀ i, i < m.length → (vs ++ us).getD i undef = vs.getD i undef := fun i hi => by
    simp only [List.getD]; rw [List.getElem?_append_left (by omega)]
  have grr : ∀ i, m.length ≤ i → (vs ++ us).getD i undef = us.getD (i - m.length) undef := fun i hi => by
    simp only [List.getD]; rw [List.getElem?_append_right (by omega), hl]
  refine ⟨by rw [List.length_append]; exact h1, fun i hi => ?_, fun i j hij hj g hg => ?_⟩
  · rw [List.length_append] at hi
    by_cases hi2 : i < m.length
    · rw [gl i hi2, gr_appl hi2]
      exact kept _ _ (h.rows i hi2)
    · rw [grr i (by omega), show i = m.length + (i - m.length) from by omega, gr_appr (by omega), show m.length + (i - m.length) - m.length = i - m.length from by omega]
      exact kept _ _ ((hk.rows (i - m.length) (by omega)).base hBB)
  · rw [List.length_append] at hj
    by_cases hj2 : j < m.length
    · rw [gl i (by omega)] at hg
      rw [gl j hj2]
      exact h.apart i j hij hj2 g hg
    · rw [grr j (by omega)]
      by_cases hi2 : i < m.length
      · rw [gl i hi2] at hg
        exact hap i (j - m.length) (by omega) (by omega) g hg
      · rw [grr i (by omega)] at hg
        exact hk.apart (i - m.length) (j - m.length) (by omega) (by omega) g hg
/-- the rows of a table apart are appended to a table -/
theorem wpList_rowsL {w : World} {ops : Array Oper} {rest : List Oper} {o : Oper} {a : Act} {Q : Exit → Act → World → Prop} (hgd : o.guard = none) (s x : Operand)
    (ho : o.op = .call { callee := .builtin .append, args := #[s, x], argTypes := #[22, 22] })
    (B B' : Nat) (v u : Value) (m k : List (List Int)) (vs us : List Value) (h : OwnT w B v m vs) (hk : OwnT w B' u k us) (hs : a.eval s = v) (hx : a.eval x = u) (hBB : B ≤ B') (hap : Apart2 vs us)
    (hB : B ≤ w.heap.size) (hl : m.length + k.length ≤ 1048576)
    (K : ∀ v' w1, OwnT w1 B v' (m ++ k) (vs ++ us) → w.grownBy w1 v.ownBlock → wpList Try.prog ops Q rest (a.put o.dst v') w1) : wpList Try.prog ops Q (o :: rest) a w := by
  obtain ⟨j0, hj, hy0, hy1, hy2⟩ := info_parts Try.info_ints
  obtain ⟨sa, sc, rfl, _, _, _⟩ := hk.read
  cases sa with
  | none =>
    have hM0 : k = [] ∧ sc = 0 := by
      rcases hk.top.2 with ⟨h1, h2⟩ | ⟨g, cap, cur, h1, _⟩
      · simp at h1; exact ⟨List.eq_nil_of_length_eq_zero h2, h1.2⟩
      · simp at h1
    obtain ⟨rfl, rfl⟩ := hM0
    have hus : us = [] := List.eq_nil_of_length_eq_zero hk.len
    subst hus
    refine wpList_append_own_none hgd s x 22 ho B 42 j0 1 Try.underlying22 hj v m.length vs hs h.top hx ?_
    exact K v w (by rw [List.append_nil, List.append_nil]; exact h) (World.grownBy.refl _ _)
  | some ad =>
    have hcl := hk.cells
    refine wpList_append_own _ hgd s x 22 ho B 42 j0 (.slice none 0 0) 1 24 Try.underlying22 hj hy0 hy1 hy2 rfl (by decide) v m.length vs hs h.top ad k.length sc us hx (by rw [hk.len]; omega) hcl.1 hcl.2 (by unfold maxLen; omega) (by omega) hB ?_
    intro v' w1 h1 h2 _
    exact K v' w1 (h.join2 hk hBB hap h1 (fun x ys hx => hx.kept_tab h.top h2)) h2
/-- .. kept where another list grows -/
theorem OwnL.keptS {w w1 : World} {B B' n' : Nat} {x v : Value} {ts : List (List (List Int))} {vs ys : List Value} {uss : List (List Value)} (h : OwnL w B x ts vs uss) (k : w.ownsRow B' 22 1 v n' ys) (hne : ∀ g, v.ownBlock = some g → x.ownBlock ≠ some g) (hg : w.grownBy w1 v.ownBlock) : OwnL w1 B x ts vs uss := by
  refine ⟨World.ownsRow.kept h.top hg ?_, h.num, fun i hi => (h.each i hi).keptG k (by decide) (by decide) hg, h.apart⟩
  cases hb : x.ownBlock with
  | none => exact .inl rfl
  | some g => exact .inr (fun e => hne g e.symm hb)
/-- rows of tables from place t of another list on -/
def Cross (uss wss : List (List Value)) (t : Nat) : Prop := ∀ i j, i < uss.length → t ≤ j → j < wss.length → Apart2 (ug uss i) (ug wss j)
end Go.Proofs.Ytfempacfaeknpaa

namespace Go.Proofs.Ytfempacfaeknpaa
open Go.RowKit

theorem planesL_len : ∀ f l, (planesL f l).length = countL f l
  | 0, l => rfl
  | f + 1, l => by
    show (([] : List (List Int)) :: (rowsL l).flatMap fun row => (planesL f (limB row)).map fun p => row :: p).length = 1 + ((rowsL l).map fun row => countL f (limB row)).sum
    rw [List.length_cons, List.length_flatMap]
    have e : (rowsL l).map (fun row => ((planesL f (limB row)).map fun p => row :: p).length) = (rowsL l).map fun row => countL f (limB row) := List.map_congr_left fun row _ => by rw [List.length_map, planesL_len f]
    rw [e]
    omega
/-- a partition's rows are few -/
theorem planesL_rows : ∀ f l p, p ∈ planesL f l → p.length ≤ f
  | 0, l, p, h => by simp [planesL] at h; subst h; simp
  | f + 1, l, p, h => by
    unfold planesL at h
    rcases List.mem_cons.1 h with rfl | h
    · simp
    · obtain ⟨row, _, h2⟩ := List.mem_flatMap.1 h
      obtain ⟨q, hq, rfl⟩ := List.mem_map.1 h2
      have := planesL_rows f _ q hq
      simp only [List.length_cons]
      omega
def planesTo (f : Nat) (R : List (List Int)) (k : Nat) : List (List (List Int)) := [] :: (R.take k).flatMap fun row => (planesL f (limB row)).map fun p => row :: p
theorem planesTo_succ {f : Nat} {R : List (List Int)} {k : Nat} (h : k < R.length) : planesTo f R (k + 1) = planesTo f R k ++ (planesL f (limB (gr R k))).map fun p => gr R k :: p := by
  unfold planesTo
  rw [List.take_succ_eq_append_getElem h, gr_lt h, List.flatMap_append]
  simp only [List.flatMap_cons, List.flatMap_nil, List.append_nil, List.cons_append]
theorem planesTo_all (f : Nat) (l : List Int) : planesTo f (rowsL l) (rowsL l).length = planesL (f + 1) l := by
  unfold planesTo
  rw [List.take_length]
  rfl
theorem planesTo_mono {f : Nat} {R : List (List Int)} {k : Nat} (h : k ≤ R.length) : (planesTo f R k).length ≤ (planesTo f R R.length).length := by
  have : ∀ d, k + d ≤ R.length → (planesTo f R k).length ≤ (planesTo f R (k + d)).length := by
    intro d
    induction d with
    | zero => intro _; exact Nat.le_refl _
    | succ d ih =>
      intro hd
      have h1 := ih (by omega)
      have h2 := congrArg List.length (planesTo_succ (f := f) (R := R) (k := k + d) (by omega))
      rw [List.length_append] at h2
      show _ ≤ (planesTo f R (k + d + 1)).length
      omega
  have h2 := this (R.length - k) (by omega)
  rwa [show k + (R.length - k) = R.length by omega] at h2
def innerTo (P : List (List (List Int))) (row : List Int) (S : List (List (List Int))) (t : Nat) : List (List (List Int)) := P ++ (S.take t).map fun p => row :: p
theorem innerTo_succ {P S : List (List (List Int))} {row : List Int} {t : Nat} (h : t < S.length) : innerTo P row S (t + 1) = innerTo P row S t ++ [row :: gt S t] := by
  unfold innerTo
  rw [List.take_succ_eq_append_getElem h, gt_lt h, List.map_append, List.append_assoc]
  rfl
theorem innerTo_all (P S : List (List (List Int))) (row : List Int) : innerTo P row S S.length = P ++ S.map fun p => row :: p := by
  unfold innerTo
  rw [List.take_length]
theorem getD_cons_zero (x : Value) (xs : List Value) : (x :: xs).getD 0 undef = x := rfl
theorem getD_cons_succ (x : Value) (xs : List Value) (i : Nat) : (x :: xs).getD (i + 1) undef = xs.getD i undef := by simp [List.getD]

set_option maxRecDepth 100000 in
set_option maxHeartbeats 6400000 in
theorem planes_any : ∀ (f : Nat), f ≤ 4 → ∀ (l : List Int) (ao : Option Addr) (c : Nat) (w : World), (∀ i, gi l i ≤ 6) → l.length ≤ f → IntsAt w ao l →
    Calls Try.prog 70 #[.slice ao l.length c] w fun e w' => ∃ v vs uss, e = .returned v ∧ OwnL w' w.heap.size v (planesL (f + 1) l) vs uss ∧ Below w.heap.size w w' := by
  intro f
  induction f using Nat.strongRecOn with
  | _ f ih =>
    intro hf l ao c w h6 hl hx
    obtain ⟨w1, hw1⟩ : ∃ w1, w1 = w.alloc (.cells #[.slice none 0 0] 22) := ⟨_, rfl⟩
    have HO0 := Lib.hid (OwnL.one0 w)
    have hb0 : Below w.heap.size w w1 := by rw [hw1]; exact (Below.refl _ _).alloc (Nat.le_refl _) _
    rw [← hw1] at HO0
    have C := Lib.hid (rows_any l h6 (by omega) ao c w1 (hx.below hb0))
    have HB0 := Lib.hid hb0
    have Hal := Lib.hid (fun r (hr : r ∈ rowsL l) => rowsL_allow hr)
    have hCb := boundC_le hf
    have Hle := Lib.hid (show (planesL (f + 1) l).length ≤ 1000000000 by rw [planesL_len]; have := countL_le f l h6 hl (by omega); omega)
    have Hsm := Lib.hid (rowsL_small h6 (by omega))
    have IH := Lib.hid ih
    have HE := Lib.hid (planesTo_all f l)
    have HSub := Lib.hid (fun (row : List Int) (h : Allow l row) => show (planesL f (limB row)).length ≤ 1000000000 ∧ ∀ p, p ∈ planesL f (limB row) → p.length ≤ 4 from by
      have hsh := limB_short h
      refine ⟨?_, fun p hp => by have := planesL_rows _ _ p hp; omega⟩
      rw [planesL_len]
      have h2 := countL_le (f - 1) (limB row) (limB_le (by have := h.2.1; omega)) (by omega) (by omega)
      have h3 := boundC_le (f := f - 1) (by omega)
      rw [show f - 1 + 1 = f by omega] at h2
      omega)
    obtain ⟨R, hR⟩ : ∃ R, R = rowsL l := ⟨_, rfl⟩
    rw [← hR] at C Hal Hsm HE
    obtain ⟨T, hT⟩ : ∃ T, T = planesL (f + 1) l := ⟨_, rfl⟩
    rw [← hT] at Hle HE ⊢
    have Hw1 := Lib.hid hw1
    have hRm : R.length ≤ 9223372036854775807 := by have := Hsm.out.1; omega
    have Hmono := Lib.hid (show ∀ k, k ≤ R.length → (planesTo f R k).length ≤ T.length from fun k hk => by
      rw [← HE.out]
      exact planesTo_mono hk)
    clear hx ih hR hT hw1 hb0
    go_enter Try.func70, Try.ntmps70
    go_wp2_with fail
    rw [← Hw1.out]
    refine C.out.mono ?_
    rintro e w2 ⟨v, rs, rfl, hv, hb⟩
    obtain ⟨ra, rc, hrv, _, _, _⟩ := hv.read
    subst hrv
    have HR := Lib.hid hv
    have HB := Lib.hid (HB0.out.trans (hb.mono HB0.out.size))
    have HO2 := Lib.hid (HO0.out.below hb)
    clear hv hb C Hw1 HO0
    go_wp2
    go_loopw [3, 12] (fun out i wr => ∃ (k : Nat) (vs : List Value) (uss : List (List Value)), k ≤ R.length ∧ i = .int .i64 k ∧ OwnL wr w.heap.size out (planesTo f R k) vs uss ∧ OwnT wr w1.heap.size (.slice ra R.length rc) R rs ∧ Below w.heap.size w wr) (fun _ i _ => R.length - (intOf i).toNat)
    case atStart => exact ⟨0, _, _, Nat.zero_le _, rfl, HO2.out, HR.out, HB.out⟩
    case round =>
      obtain ⟨k, vs, uss, hk, rfl, hown, hrr, hbr⟩ := hrel
      have Hown := Lib.hid hown
      have HRr := Lib.hid hrr
      have Hbr := Lib.hid hbr
      have HBr := Lib.hid hbr.size
      clear hown hrr hbr HO2 HR HB
      by_cases hlt : k < R.length
      · obtain ⟨b1, o1, r1, d1, e1, hc1, hr1, hi1, _, _⟩ := HRr.out.toV.rowAt hlt
        have ha := Hal.out _ (gr_mem hlt)
        have Hst := Lib.hid (planesTo_succ (f := f) hlt)
        have hm1 := Hmono.out (k + 1) (by omega)
        have hrl0 : (gr R k).length ≤ 5 := by have := ha.2.1; omega
        have hsub := HSub.out (gr R k) ha
        have hsh := limB_short ha
        have hg6 := limB_le (row := gr R k) (by omega)
        have hbd : ∀ j, j < (gr R k).length → 1 ≤ gi (gr R k) j ∧ gi (gr R k) j ≤ 9223372036854775807 := fun j hj => ⟨(ha.2.2.2 j hj).1, by have := (ha.2.2.2 j hj).2.1; have := h6 j; omega⟩
        have CL := Lib.hid (limitsBelow_any r1 d1 (gr R k) wr ha.1 (by omega) hbd hi1)
        have CC := Lib.hid (fun a c w hx => IH.out (f - 1) (by omega) (by omega) (limB (gr R k)) a c w hg6 (by omega) hx)
        rw [show f - 1 + 1 = f by omega] at CC
        have HiR := Lib.hid hi1
        obtain ⟨row, hrow⟩ : ∃ row, row = gr R k := ⟨_, rfl⟩
        rw [← hrow] at hc1 CL CC hrl0 Hst hsub HiR hr1
        have Hrv := Lib.hid hr1
        have HrR := Lib.hid hrow
        obtain ⟨L, hL⟩ : ∃ L, L = limB row := ⟨_, rfl⟩
        rw [← hL] at CL CC Hst hsub
        obtain ⟨S, hS⟩ : ∃ S, S = planesL f L := ⟨_, rfl⟩
        rw [← hS] at CC Hst hsub
        obtain ⟨P, hP⟩ : ∃ P, P = planesTo f R k := ⟨_, rfl⟩
        rw [← hP] at Hst Hown
        have Hsub := Lib.hid hsub
        have hSm : S.length ≤ 9223372036854775807 := by have := hsub.1; omega
        have Htot := Lib.hid (show P.length + S.length ≤ 1000000000 by
          have h1 := Hst.out
          have h2 := congrArg List.length h1
          rw [List.length_append, List.length_map] at h2
          have := Hle.out
          omega)
        have hrm : row.length ≤ 9223372036854775807 := by omega
        subst e1
        clear hr1 hi1 ha hm1 hsub hsh hg6 hbd hrow hL hS hP
        go_wp2_with fail
        refine CL.out.mono ?_
        rintro e w3 ⟨v, rfl, hv, hb3⟩
        obtain ⟨la, lc, rfl, _, _, hI⟩ := hv.read
        have HI := Lib.hid hI
        have HB3 := Lib.hid hb3
        clear hv hb3 hI CL
        go_wp2_with fail
        refine (CC.out la lc w3 HI.out).mono ?_
        rintro e w4 ⟨v, ws, wss, rfl, hv, hb4⟩
        obtain ⟨sa, sc, hsv, _, _⟩ := hv.head
        subst hsv
        have HS := Lib.hid hv
        have HB4 := Lib.hid (HB3.out.trans (hb4.mono HB3.out.size))
        have Hown4 := Lib.hid (Hown.out.below HB4.out)
        have HR4 := Lib.hid (HRr.out.below HB4.out)
        have Hi4 := Lib.hid (HiR.out.below HB4.out)
        have HBw4 := Lib.hid (Hbr.out.trans (HB4.out.mono HBr.out))
        have Hw3 := Lib.hid (show w.heap.size ≤ w3.heap.size from Nat.le_trans HBr.out HB3.out.size)
        have Hcr := Lib.hid (show Cross uss wss 0 from fun i j hi _ hj a b ha hb g hg1 hg2 => by
          have h1 := (Hown.out.old (i := i) (by rw [← Hown.out.num]; exact hi) ha hg1).2
          have h2 := (HS.out.old (i := j) (by rw [← HS.out.num]; exact hj) hb hg2).1
          have := HB3.out.size
          omega)
        have Hsep := Lib.hid (show ∀ v0, OwnL wr w.heap.size v0 P vs uss → ∀ g, v0.ownBlock = some g → (Value.slice sa S.length sc).ownBlock ≠ some g from fun v0 h0 g hg1 hg2 => by
          have h1 := (World.ownsRow.lt h0.top g hg1).2
          have h2 := (World.ownsRow.lt HS.out.top g hg2).1
          have := HB3.out.size
          omega)
        have Hsep := Lib.hid (Hsep.out _ Hown.out)
        clear hv hb4 CC HiR HRr Hown
        go_wp2
        go_loopw [3, 20] (fun out i wr => ∃ (t : Nat) (vs : List Value) (uss : List (List Value)), t ≤ S.length ∧ i = .int .i64 t ∧ OwnL wr w.heap.size out (innerTo P row S t) vs uss ∧ OwnT wr w1.heap.size (.slice (some ⟨b1, o1, none⟩) R.length rc) R rs ∧ OwnL wr w3.heap.size (.slice sa S.length sc) S ws wss ∧ IntsAt wr r1 row ∧ Cross uss wss t ∧ (∀ g, out.ownBlock = some g → (Value.slice sa S.length sc).ownBlock ≠ some g) ∧ Below w.heap.size w wr) (fun _ i _ => S.length - (intOf i).toNat)
        case atStart => exact ⟨0, vs, uss, Nat.zero_le _, rfl, by rw [show innerTo P row S 0 = P by simp [innerTo]]; exact Hown4.out, HR4.out, HS.out, Hi4.out, Hcr.out, Hsep.out, HBw4.out⟩
        case round =>
          obtain ⟨t, vs2, uss2, ht, rfl, hown, hrr, hss, hir, hcr, hsp, hbr⟩ := hrel
          have Hsp5 := Lib.hid hsp
          have Hown5 := Lib.hid hown
          have HR5 := Lib.hid hrr
          have HS5 := Lib.hid hss
          have Hi5 := Lib.hid hir
          have Hcr5 := Lib.hid hcr
          have HBw5 := Lib.hid hbr
          have HBz5 := Lib.hid hbr.size
          clear hown hrr hss hir hcr hbr hsp Hown4 HR4 HS Hi4 Hcr HBw4 Hsep
          by_cases htl : t < S.length
          · obtain ⟨b3, o3, r3, d3, e3, hc3, hv3, _, hd3, _⟩ := HS5.out.at htl
            have HT := HS5.out.each t htl
            rw [hv3] at HT
            have Hst2 := Lib.hid (innerTo_succ (P := P) (row := row) htl)
            have hl4 := Hsub.out.2 (gt S t) (gt_mem htl)
            have HcrT := Lib.hid (fun i hi => Hcr5.out i t hi (Nat.le_refl _) (by rw [HS5.out.num]; exact htl))
            obtain ⟨tb, htb⟩ : ∃ tb, tb = gt S t := ⟨_, rfl⟩
            rw [← htb] at hc3 HT Hst2 hl4
            obtain ⟨M, hM⟩ : ∃ M, M = innerTo P row S t := ⟨_, rfl⟩
            rw [← hM] at Hown5 Hst2
            have HT5 := Lib.hid HT
            have hM9 : M.length ≤ 1000000000 := by
              have := Htot.out
              rw [hM]
              unfold innerTo
              rw [List.length_append, List.length_map, List.length_take]
              omega
            subst e3
            clear hv3 HT htb hM
            go_wp2_with fail
            refine (sClone_any r1 d1 row wr (by omega) Hi5.out).mono ?_
            rintro e w5 ⟨cv, rfl, hv, hb5⟩
            obtain ⟨ca, cc, hcv, _, _, _⟩ := hv.read
            subst hcv
            have HV := Lib.hid hv
            have HB5 := Lib.hid hb5
            have H1 := Lib.hid (OwnT.one (B := w.heap.size) (hv.base HBz5.out) (Nat.le_trans HBz5.out hb5.size))
            obtain ⟨w6, hw6⟩ : ∃ w6, w6 = w5.alloc (.cells #[.slice ca row.length cc] 42) := ⟨_, rfl⟩
            have HB6 := Lib.hid (show Below wr.heap.size wr w6 by rw [hw6]; exact hb5.alloc hb5.size _)
            rw [← hw6] at H1
            have HT6 := Lib.hid (HT5.out.below HB6.out)
            have Hap := Lib.hid (show Apart2 [Value.slice ca row.length cc] (ug wss t) from fun a b ha hb g hg1 hg2 => by
              obtain rfl : a = 0 := by simp at ha; omega
              have h1 := (HV.out.lt g hg1).1
              have h2 := (HT5.out.old b (by rw [← HT5.out.len]; exact hb) g hg2).2
              omega)
            have Hw6 := Lib.hid hw6
            clear hv hb5
            subst hw6
            go_wp2_with (at_builtin; refine wpList_rowsL rfl _ _ rfl w.heap.size w3.heap.size _ _ [row] tb [.slice ca row.length cc] (ug wss t) H1.out HT6.out rfl rfl Hw3.out Hap.out (by have := HB6.out.size; have := HBz5.out; omega) (by simp; omega) ?_)
            intro v7 w7 hown7 hg7
            have hb7 : Below wr.heap.size wr w7 := Below.grown HB6.out hg7 HB6.out.size (fun g hg => by
              simp only [Value.ownBlock, Option.some.injEq] at hg
              have := HB5.out.size
              omega)
            obtain ⟨NT, hNT⟩ : ∃ NT, NT = row :: tb := ⟨_, rfl⟩
            have hown7' : OwnT w7 w.heap.size v7 NT (.slice ca row.length cc :: ug wss t) := by rw [hNT]; exact hown7
            rw [← hNT] at Hst2
            obtain ⟨na, nc, hnv, _, _, _⟩ := hown7'.read
            subst hnv
            have Hnew := Lib.hid hown7'
            have HB7 := Lib.hid hb7
            have Hown7 := Lib.hid (Hown5.out.below hb7)
            have HR7 := Lib.hid (HR5.out.below hb7)
            have HS7 := Lib.hid (HS5.out.below hb7)
            have Hi7 := Lib.hid (Hi5.out.below hb7)
            have HBw7 := Lib.hid (HBw5.out.trans (hb7.mono HBz5.out))
            have Hne := Lib.hid (show ∀ i, i < M.length → Apart2 (ug uss2 i) (.slice ca row.length cc :: ug wss t) from fun i hi a b ha hb g hg1 hg2 => by
              have hold := Hown5.out.old hi ha hg1
              cases b with
              | zero =>
                rw [getD_cons_zero] at hg2
                have := (HV.out.lt g hg2).1
                omega
              | succ b =>
                rw [getD_cons_succ] at hg2
                exact HcrT.out i (by rw [Hown5.out.num]; exact hi) a b ha (by simpa using hb) g hg1 hg2)
            have Hcr6 := Lib.hid (show Cross (uss2 ++ [.slice ca row.length cc :: ug wss t]) wss (t + 1) from fun i j hi hj1 hj2 => by
              rw [List.length_append, List.length_singleton] at hi
              by_cases hi2 : i < uss2.length
              · rw [ug_left hi2]
                exact Hcr5.out i j hi2 (by omega) hj2
              · obtain rfl : i = uss2.length := by omega
                rw [ug_right (Nat.le_refl _), Nat.sub_self]
                intro a b ha hb g hg1 hg2
                have hjS : j < S.length := by rw [← HS5.out.num]; exact hj2
                have hold := HS5.out.old hjS hb hg2
                cases a with
                | zero =>
                  have hg1' : (Value.slice ca row.length cc).ownBlock = some g := hg1
                  have := (HV.out.lt g hg1').1
                  omega
                | succ a =>
                  have hg1' : ((ug wss t).getD a undef).ownBlock = some g := by
                    have e : (ug [Value.slice ca row.length cc :: ug wss t] 0) = Value.slice ca row.length cc :: ug wss t := rfl
                    rw [e, getD_cons_succ] at hg1
                    exact hg1
                  exact HS5.out.apart t j (by omega) hjS a b (by simpa [ug] using ha) hb g hg1' hg2)
            clear hown7 hown7' hg7 hb7 hNT H1 HT6 Hap HB6 HT5 HV HB5 HcrT
            go_wp2_with (at_builtin; refine wpList_tabL rfl _ _ rfl w.heap.size _ _ M vs2 uss2 NT (.slice ca row.length cc :: ug wss t) Hown7.out Hnew.out rfl rfl Hne.out HBw7.out.size (by omega) ?_)
            intro v8 w8 hown8 hg8 hb8 hat8
            rw [← Hst2.out] at hown8
            have hba : Below w7.heap.size w7 (w7.alloc (.cells #[.slice na NT.length nc] 22)) := (Below.refl _ _).alloc (Nat.le_refl _) _
            have Hown8 := Lib.hid hown8
            have HR8 := Lib.hid ((HR7.out.below hba).keptG (Hown7.out.below hba).top (by decide) (by decide) hg8)
            have HS8 := Lib.hid ((HS7.out.below hba).keptS (Hown7.out.below hba).top Hsp5.out hg8)
            have Hi8 := Lib.hid (show IntsAt w8 r1 row from by
              have h1 := HR8.out.rows k hlt
              rw [Hrv.out, ← HrR.out] at h1
              exact own_at h1)
            have Hsp8 := Lib.hid (show ∀ g, v8.ownBlock = some g → (Value.slice (some ⟨b3, o3, none⟩) S.length sc).ownBlock ≠ some g from fun g hg1 hg2 => by
              rcases hat8 with e | e
              · rw [e] at hg1; exact Hsp5.out g hg1 hg2
              · rw [e] at hg1
                have h1 := (World.ownsRow.lt HS7.out.top g hg2).2
                simp only [Option.some.injEq] at hg1
                omega)
            have HB8 := Lib.hid (HBw7.out.trans hb8)
            clear hown8 hg8 hb8 hat8 hba Hown7 HR7 HS7 Hown5 HR5 HS5 Hsp5 Hcr5 Hnew Hne
            go_wp2
            go_roundw
            case rel => exact ⟨t + 1, _, _, by omega, by go_num, Hown8.out, HR8.out, HS8.out, Hi8.out, Hcr6.out, Hsp8.out, HB8.out⟩
            case measure => simp [intOf]; omega
          · obtain rfl : t = S.length := by omega
            have Hfin := Lib.hid (show OwnL wr w.heap.size _ (planesTo f R (k + 1)) vs2 uss2 from by rw [Hst.out, ← innerTo_all]; exact Hown5.out)
            clear Hown5
            go_wp2
            go_roundw
            case rel => exact ⟨k + 1, _, _, by omega, by go_num, Hfin.out, HR5.out, HBw5.out⟩
            case measure => simp [intOf]; omega
      · obtain rfl : k = R.length := by omega
        have HF := Lib.hid (show OwnL wr w.heap.size _ T vs uss from by rw [← HE.out]; exact Hown.out)
        clear Hown
        go_wp2
        go_ret
        exact ⟨_, vs, uss, rfl, HF.out, Hbr.out⟩
end Go.Proofs.Ytfempacfaeknpaa

