/- Parts of proofs: contracts and plain facts. Conditions: as each says. -/
import Derived.Test.YtfempacfaeknpaaK10
namespace Go.Proofs.Ytfempacfaeknpaa
open Go.RowKit

theorem OwnV.kept {w w1 : World} {B B' n' : Nat} {x v : Value} {m : List (List Int)} {vs ys : List Value} {e' : TypeId} (h : OwnV w B x m vs) (k : w.ownsRow B' e' 1 v n' ys) (h1 : 42 ≠ e') (h2 : 3 ≠ e') (hg : w.grownBy w1 v.ownBlock) : OwnV w1 B x m vs :=
  ⟨row_kept h.top k h1 hg, fun i hi => row_kept (h.rows i hi) k h2 hg⟩
/-- the list is the call's own, its tables are any that someone owns -/
structure OwnW (w : World) (B : Nat) (v : Value) (ts : List (List (List Int))) (vs : List Value) : Prop where
  top : w.ownsRow B 22 1 v ts.length vs
  each : ∀ i, i < ts.length → ∃ us, OwnV w 0 (vs.getD i undef) (gt ts i) us
theorem OwnW.below {w w' : World} {B : Nat} {v : Value} {ts : List (List (List Int))} {vs : List Value} (h : OwnW w B v ts vs) (hb : Below w.heap.size w w') : OwnW w' B v ts vs := ⟨ownsRow_below h.top hb, fun i hi => ⟨_, (h.each i hi).choose_spec.below hb⟩⟩
theorem OwnW.base {w : World} {B B' : Nat} {v : Value} {ts : List (List (List Int))} {vs : List Value} (h : OwnW w B v ts vs) (hB : B' ≤ B) : OwnW w B' v ts vs := ⟨ownsRow_base h.top hB, h.each⟩
theorem OwnW.nil (w : World) (B : Nat) : OwnW w B (.slice none 0 0) [] [] := ⟨World.ownsRow_nil _ _ _ _, fun i hi => absurd hi (by simp)⟩
theorem OwnW.len {w : World} {B : Nat} {v : Value} {ts : List (List (List Int))} {vs : List Value} (h : OwnW w B v ts vs) : vs.length = ts.length := by simpa using h.top.1
theorem OwnW.head {w : World} {B : Nat} {v : Value} {ts : List (List (List Int))} {vs : List Value} (h : OwnW w B v ts vs) : ∃ ao c, v = .slice ao ts.length c ∧ ts.length ≤ c ∧ c ≤ 9223372036854775807 := by
  obtain ⟨ao, c, e, h1, h2, _⟩ := ownsRow_read h.top
  exact ⟨ao, c, e, h1, h2⟩
/-- tables put behind -/
theorem OwnW.join {w w1 : World} {B : Nat} {v v' : Value} {ts ks : List (List (List Int))} {vs us : List Value} (h : OwnW w B v ts vs) (hl : us.length = ks.length) (hk : ∀ i, i < ks.length → ∃ xs, OwnV w 0 (us.getD i undef) (gt ks i) xs)
    (h1 : w1.ownsRow B 22 1 v' (ts.length + ks.length) (vs ++ us)) (hg : w.grownBy w1 v.ownBlock) : OwnW w1 B v' (ts ++ ks) (vs ++ us) := by
  refine ⟨by rw [List.length_append]; exact h1, fun i hi => ?_⟩
  rw [List.length_append] at hi
  have hvl := h.len
  by_cases hi2 : i < ts.length
  · rw [getD_left (by omega), gt_app_left hi2]
    obtain ⟨xs, hx⟩ := h.each i hi2
    exact ⟨xs, hx.kept h.top (by decide) (by decide) hg⟩
  · obtain ⟨j, rfl⟩ : ∃ j, i = ts.length + j := ⟨i - ts.length, by omega⟩
    rw [getD_right (by omega), hvl, show ts.length + j - ts.length = j from by omega, gt_app_right (by omega)]
    obtain ⟨xs, hx⟩ := hk j (by omega)
    exact ⟨xs, hx.kept h.top (by decide) (by decide) hg⟩
theorem OwnW.cells {w : World} {B n c : Nat} {ad : Addr} {ts : List (List (List Int))} {vs : List Value} (h : OwnW w B (.slice (some ad) n c) ts vs) : (∀ j u, vs[j]? = some u → w.cell? (ad.add j) = some u) ∧ (∀ u ∈ vs, u.oneCell' = true) := by
  have hl := h.len
  obtain ⟨ao, c', e, _, _, hc⟩ := ownsRow_read h.top
  cases e
  refine ⟨fun j u hj => ?_, fun u hu => ?_⟩
  · have hjl : j < vs.length := (List.getElem?_eq_some_iff.1 hj).1
    obtain ⟨b3, o3, e3, hc3⟩ := hc j (by omega)
    cases e3
    rw [Addr.add_lit, hc3, List.getD, hj]
    rfl
  · obtain ⟨i, hi, rfl⟩ := List.mem_iff_getElem.1 hu
    obtain ⟨_, hx⟩ := h.each i (by omega)
    have := hx.read
    rw [List.getD, List.getElem?_eq_getElem hi] at this
    obtain ⟨_, _, e, _⟩ := this
    rw [show vs[i] = (some vs[i]).getD undef from rfl, e]
    rfl
/-- reading one of the tables -/
theorem OwnW.at {w : World} {B n c : Nat} {ao : Option Addr} {ts : List (List (List Int))} {vs : List Value} (h : OwnW w B (.slice ao n c) ts vs) {i : Nat} (hi : i < ts.length) :
    ∃ b o r d, ao = some ⟨b, o, none⟩ ∧ w.cell? ⟨b, o + i, none⟩ = some (.slice r (gt ts i).length d) ∧ MatAt w r (gt ts i) ∧ (gt ts i).length ≤ d ∧ d ≤ 9223372036854775807 := by
  obtain ⟨ao', c', e, _, _, hc⟩ := ownsRow_read h.top
  cases e
  obtain ⟨b, o, e, hcell⟩ := hc i hi
  obtain ⟨us, hx⟩ := h.each i hi
  obtain ⟨r, d, hr, h3, h4, hm⟩ := hx.read
  exact ⟨b, o, r, d, e, by rw [hcell, hr], hm, h3, h4⟩
/-- a list that is written out, of one table -/
theorem OwnW.one {w : World} {B B' : Nat} {u : Value} {m : List (List Int)} {us : List Value} (h : OwnV w B' u m us) (hB : B ≤ w.heap.size) : OwnW (w.alloc (.cells #[u] 22)) B (.slice (some ⟨w.heap.size, 0, none⟩) 1 1) [m] [u] ∧ Below B w (w.alloc (.cells #[u] 22)) := by
  have hb : Below w.heap.size w (w.alloc (.cells #[u] 22)) := (Below.refl _ _).alloc (Nat.le_refl _) _
  refine ⟨⟨⟨by simp, .inr ⟨w.heap.size, 1, _, rfl, hB, heap_alloc_new w _, Nat.le_refl _, by decide, rfl, rfl⟩⟩, fun i hi => ?_⟩, (Below.refl _ _).alloc hB _⟩
  obtain rfl : i = 0 := by simp at hi; omega
  exact ⟨us, (h.below hb).base (Nat.zero_le _)⟩

/-- the tables of another list are appended to a list -/
theorem wpList_tabsW {w : World} {ops : Array Oper} {rest : List Oper} {o : Oper} {a : Act} {Q : Exit → Act → World → Prop} (hgd : o.guard = none) (s x : Operand)
    (ho : o.op = .call { callee := .builtin .append, args := #[s, x], argTypes := #[29, 29] })
    (B B' : Nat) (v u : Value) (m k : List (List (List Int))) (vs us : List Value) (h : OwnW w B v m vs) (hk : OwnW w B' u k us) (hs : a.eval s = v) (hx : a.eval x = u)
    (hB : B ≤ w.heap.size) (hl : m.length + k.length ≤ 5860000000000)
    (K : ∀ v' w1, OwnW w1 B v' (m ++ k) (vs ++ us) → w.grownBy w1 v.ownBlock → Below B w w1 → wpList Try.prog ops Q rest (a.put o.dst v') w1) : wpList Try.prog ops Q (o :: rest) a w := by
  obtain ⟨j0, hj, hy0, hy1, hy2⟩ := info_parts Try.info_intssW
  obtain ⟨sa, sc, rfl, _, _⟩ := hk.head
  cases sa with
  | none =>
    have hM0 : k = [] ∧ sc = 0 := by
      rcases hk.top.2 with ⟨h1, h2⟩ | ⟨g, cap, cur, h1, _⟩
      · simp at h1; exact ⟨List.eq_nil_of_length_eq_zero h2, h1.2⟩
      · simp at h1
    obtain ⟨rfl, rfl⟩ := hM0
    have hus : us = [] := List.eq_nil_of_length_eq_zero hk.len
    subst hus
    refine wpList_append_own_none hgd s x 29 ho B 22 j0 1 Try.underlying29 hj v m.length vs hs h.top hx ?_
    exact K v w (by rw [List.append_nil, List.append_nil]; exact h) (World.grownBy.refl _ _) (Below.refl _ _)
  | some ad =>
    have hcl := hk.cells
    refine wpList_append_own _ hgd s x 29 ho B 22 j0 (.slice none 0 0) 1 24 Try.underlying29 hj hy0 hy1 hy2 rfl (by decide) v m.length vs hs h.top ad k.length sc us hx (by rw [hk.len]; omega) hcl.1 hcl.2 (by unfold maxLen; omega) (by omega) hB ?_
    intro v' w1 h1 h2 _
    exact K v' w1 (h.join hk.len hk.each h1 h2) h2 (Below.grown (Below.refl _ _) h2 hB (fun k hk => (World.ownsRow.lt h.top k hk).1))
end Go.Proofs.Ytfempacfaeknpaa

namespace Go.Proofs.Ytfempacfaeknpaa
open Go.RowKit

/-- what is left of the lengths of rows -/
def Fuel (n f : Nat) (rows : List (List Int)) : Prop := (rows.length = 0 ∧ n ≤ f + 1) ∨ (rows.length ≠ 0 ∧ (gr rows (rows.length - 1)).length ≤ f + 1)
theorem gr_lastD (rows : List (List Int)) (r : List Int) : gr (rows ++ [r]) rows.length = r := by
  have := gr_appr (m := rows) (k := [r]) (i := 0) (by simp)
  rw [Nat.add_zero] at this
  exact this
theorem next_fuel {n f : Nat} {rows : List (List Int)} {r : List Int} (h : Fuel n f rows) (hr : r ∈ nextD n rows) : 1 ≤ f ∧ Fuel n (f - 1) (rows ++ [r]) ∧ 1 ≤ r.length ∧ r.length ≤ n := by
  unfold nextD at hr
  obtain ⟨h1, h2⟩ := List.mem_filter.1 hr
  have h3 := rowsD_row _ _ _ h1
  have h4 : r.length ≤ f := by
    rcases h with ⟨h0, hf⟩ | ⟨h0, hf⟩
    · have := h3.2.1; omega
    · unfold belD at h2
      simp only [decide_eq_false h0, Bool.false_or, decide_eq_true_eq] at h2
      have := h2.1; omega
  refine ⟨by have := h3.1; omega, .inr ⟨by simp, ?_⟩, h3.1, by have := h3.2.1; omega⟩
  rw [List.length_append, List.length_singleton, Nat.add_sub_cancel, gr_lastD]
  have := h3.1
  omega
theorem nextD_len {n : Nat} (h1 : 1 ≤ n) (hn : n ≤ 5) (rows : List (List Int)) : (nextD n rows).length ≤ 1555 := by
  unfold nextD
  have h2 := List.length_filter_le (belD rows) (rowsD n (n - 1) [])
  have h3 := rowsD_len (n := n) (by omega) (n - 1) [] (fun i hi => absurd hi (by simp))
  have h4 : boundD (n - 1) ≤ 1555 := by
    have : n = 1 ∨ n = 2 ∨ n = 3 ∨ n = 4 ∨ n = 5 := by omega
    rcases this with rfl | rfl | rfl | rfl | rfl <;> decide
  omega
def boundA : Nat → Nat
  | 0 => 1
  | f + 1 => 1 + 1555 * boundA f
theorem boundA_le {f : Nat} (h : f ≤ 4) : boundA f ≤ 5850691800000 ∧ (f ≤ 3 → boundA f ≤ 3762500000) := by
  have : f = 0 ∨ f = 1 ∨ f = 2 ∨ f = 3 ∨ f = 4 := by omega
  rcases this with rfl | rfl | rfl | rfl | rfl <;> refine ⟨by decide, fun _ => ?_⟩ <;> first | decide | omega
/-- the rows themselves, and what goes on the first k next ones -/
def allTo (n f : Nat) (rows : List (List Int)) (C : List (List Int)) (k : Nat) : List (List (List Int)) := rows :: (C.take k).flatMap fun row => allD n f (rows ++ [row])
theorem allTo_succ {n f : Nat} {rows C : List (List Int)} {k : Nat} (h : k < C.length) : allTo n f rows C (k + 1) = allTo n f rows C k ++ allD n f (rows ++ [gr C k]) := by
  unfold allTo
  rw [List.take_succ_eq_append_getElem h, gr_lt h, List.flatMap_append]
  simp only [List.flatMap_cons, List.flatMap_nil, List.append_nil, List.cons_append]
theorem allTo_all (n f : Nat) (rows : List (List Int)) : allTo n f rows (nextD n rows) (nextD n rows).length = allD n (f + 1) rows := by
  unfold allTo
  rw [List.take_length]
  rfl
theorem allD_len {n : Nat} (h1 : 1 ≤ n) (hn : n ≤ 5) : ∀ f rows, Fuel n f rows → (allD n (f + 1) rows).length ≤ boundA f ∧ ∀ k, k ≤ (nextD n rows).length → (allTo n f rows (nextD n rows) k).length ≤ 1 + k * boundA (f - 1) := by
  intro f
  induction f with
  | zero =>
    intro rows h
    have e : nextD n rows = [] := by
      cases hc : nextD n rows with
      | nil => rfl
      | cons r rs => have := (next_fuel h (r := r) (by rw [hc]; exact List.mem_cons_self ..)).1; omega
    refine ⟨?_, fun k hk => ?_⟩
    · show (allD n (0 + 1) rows).length ≤ 1
      rw [← allTo_all, e]
      simp [allTo]
    · rw [e] at hk ⊢
      simp [allTo]
  | succ f ih =>
    intro rows h
    have hpart : ∀ k, k ≤ (nextD n rows).length → (allTo n (f + 1) rows (nextD n rows) k).length ≤ 1 + k * boundA f := by
      intro k
      induction k with
      | zero => intro _; simp [allTo]
      | succ k ihk =>
        intro hk
        rw [allTo_succ (by omega), List.length_append, Nat.succ_mul]
        have h2 := ihk (by omega)
        have h3 := (ih _ (next_fuel h (gr_mem (show k < (nextD n rows).length by omega))).2.1).1
        omega
    refine ⟨?_, fun k hk => by rw [Nat.add_sub_cancel]; exact hpart k hk⟩
    rw [← allTo_all]
    have h2 := hpart _ (Nat.le_refl _)
    have h3 := nextD_len h1 hn rows
    have h4 : (nextD n rows).length * boundA f ≤ 1555 * boundA f := Nat.mul_le_mul_right _ h3
    show _ ≤ 1 + 1555 * boundA f
    omega
theorem OwnV.made0 (w : World) : OwnV (w.alloc (.cells #[] 42)) w.heap.size (.slice (some ⟨w.heap.size, 0, none⟩) 0 0) [] [] := ⟨World.ownsRow_made w #[] 0 (Nat.le_refl _) (Nat.zero_le _) rfl, fun i hi => absurd hi (by simp)⟩
theorem Small.snoc {rows : List (List Int)} {r : List Int} (h : Small rows) (h1 : rows.length < 1048576) (h2 : r.length ≤ 1048576) : Small (rows ++ [r]) := by
  refine ⟨by simp; omega, fun i hi => ?_⟩
  rw [List.length_append, List.length_singleton] at hi
  by_cases e : i < rows.length
  · rw [gr_appl e]; exact h.2 i e
  · obtain rfl : i = rows.length := by omega
    rw [gr_lastD]; exact h2

set_option maxRecDepth 100000 in
set_option maxHeartbeats 6400000 in
theorem dpAll_any (n : Nat) (h1 : 1 ≤ n) (hn : n ≤ 5) : ∀ (f : Nat) (ao : Option Addr) (c : Nat) (rows : List (List Int)) (us : List Value) (w : World), Fuel n f rows → rows.length + f ≤ 4 → Small rows → OwnV w 0 (.slice ao rows.length c) rows us →
    Calls Try.prog 66 #[.slice ao rows.length c, .int .i64 n] w fun e w' => ∃ v vs, e = .returned v ∧ OwnW w' w.heap.size v (allD n (f + 1) rows) vs ∧ Below w.heap.size w w' := by
  intro f
  induction f using Nat.strongRecOn with
  | _ f ih =>
    intro ao c rows us w hf hrl hs ho
    have hmx : rows.length ≤ 9223372036854775807 := by omega
    have Ho := Lib.hid ho
    have Hs := Lib.hid hs
    have Hf := Lib.hid hf
    have IH := Lib.hid ih
    have CN := Lib.hid (fun w h => dpNext_any n h1 (by omega) ao c rows w hs h)
    have Hlen := Lib.hid (allD_len h1 hn f rows hf).2
    have Hsub := Lib.hid (fun r (hr : r ∈ nextD n rows) => (allD_len h1 hn (f - 1) (rows ++ [r]) (next_fuel hf hr).2.1).1)
    have HNF := Lib.hid (fun r (hr : r ∈ nextD n rows) => next_fuel hf hr)
    have hcl := nextD_len h1 hn rows
    have HE := Lib.hid (allTo_all n f rows)
    obtain ⟨C, hC⟩ : ∃ C, C = nextD n rows := ⟨_, rfl⟩
    rw [← hC] at CN Hlen Hsub HNF hcl HE
    obtain ⟨R, hR⟩ : ∃ R, R = allD n (f + 1) rows := ⟨_, rfl⟩
    rw [← hR] at HE ⊢
    have hCm : C.length ≤ 9223372036854775807 := by omega
    have HO1 := Lib.hid (OwnW.one (w := w) ho (Nat.le_refl _))
    obtain ⟨w1, hw1⟩ : ∃ w1, w1 = w.alloc (.cells #[.slice ao rows.length c] 22) := ⟨_, rfl⟩
    rw [← hw1] at HO1
    have Hw1 := Lib.hid hw1
    clear ho hs hf ih hC hR hw1
    go_enter Try.func66, Try.ntmps66
    go_wp2_with fail
    rw [← Hw1.out]
    refine (CN.out w1 (by obtain ⟨_, _, e, _, _, h⟩ := (Ho.out.below HO1.out.2).read; cases e; exact h)).mono ?_
    rintro e w2 ⟨v, ns, rfl, hv, hb⟩
    obtain ⟨na, nc, hna, _, _, _⟩ := hv.read
    subst hna
    have HN := Lib.hid hv
    have HB := Lib.hid (HO1.out.2.trans (hb.mono HO1.out.2.size))
    have HO2 := Lib.hid (HO1.out.1.below hb)
    clear hv hb CN Hw1
    go_wp2
    go_loopw [5, 14] (fun out i wr => ∃ (k : Nat) (vs : List Value), k ≤ C.length ∧ i = .int .i64 k ∧ OwnW wr w.heap.size out (allTo n f rows C k) vs ∧ OwnV wr w1.heap.size (.slice na C.length nc) C ns ∧ Below w.heap.size w wr) (fun _ i _ => C.length - (intOf i).toNat)
    case atStart => exact ⟨0, _, Nat.zero_le _, rfl, HO2.out, HN.out, HB.out⟩
    case round =>
      obtain ⟨k, vs, hk, rfl, hown, hnr, hbr⟩ := hrel
      have Hown := Lib.hid hown
      have HNr := Lib.hid hnr
      have Hbr := Lib.hid hbr
      have HBr := Lib.hid hbr.size
      clear hown hnr hbr HO2 HN HB HO1
      by_cases hlt : k < C.length
      · obtain ⟨b1, o1, r1, d1, e1, hc1, hr1, hi1, _, _⟩ := HNr.out.rowAt hlt
        have Hu := Lib.hid (show OwnI wr 0 (.slice r1 (gr C k).length d1) (gr C k) by rw [← hr1]; exact HNr.out.rows k hlt)
        have hnf := HNF.out _ (gr_mem hlt)
        have Hnf := Lib.hid hnf
        have Hst := Lib.hid (allTo_succ (n := n) (f := f) (rows := rows) hlt)
        have hsub := Hsub.out _ (gr_mem hlt)
        have hpl := Hlen.out k (by omega)
        have hf1 := hnf.1
        have Hfit := Lib.hid (show (allTo n f rows C k).length + (allD n f (rows ++ [gr C k])).length ≤ 5860000000000 by
          rw [show f - 1 + 1 = f by omega] at hsub
          have hb3 := (boundA_le (f := f - 1) (by omega)).2 (by omega)
          have hb4 : k * boundA (f - 1) ≤ 1555 * boundA (f - 1) := Nat.mul_le_mul_right _ (by omega)
          omega)
        obtain ⟨row, hrow⟩ : ∃ row, row = gr C k := ⟨_, rfl⟩
        rw [← hrow] at hc1 Hu Hst Hnf Hfit hnf
        have hrl7 : row.length ≤ 6 := by omega
        have hrm : row.length ≤ 9223372036854775807 := by omega
        obtain ⟨M, hM⟩ : ∃ M, M = allTo n f rows C k := ⟨_, rfl⟩
        rw [← hM] at Hown Hst Hfit
        have HoR := Lib.hid (Ho.out.below Hbr.out)
        have H0 := Lib.hid (OwnV.made0 wr)
        have Hb0 := Lib.hid (show Below wr.heap.size wr (wr.alloc (.cells #[] 42)) from (Below.refl _ _).alloc (Nat.le_refl _) _)
        have HoR1 := Lib.hid (HoR.out.below Hb0.out)
        subst e1
        clear hr1 hi1 hnf hsub hpl hrow hM
        go_wp2_with (at_builtin; refine wpList_rowsV rfl _ _ rfl wr.heap.size 0 _ _ [] rows [] us H0.out HoR1.out rfl rfl Hb0.out.size (by simp; omega) ?_)
        intro v3 w3 hown3 hb3
        try rw [List.nil_append, List.nil_append] at hown3
        have Hown3 := Lib.hid hown3
        have HB3 := Lib.hid (Hb0.out.trans hb3)
        have Hu3 := Lib.hid (Hu.out.below HB3.out)
        clear hown3 hb3
        go_wp2_with (at_builtin; refine wpList_rowV rfl _ _ rfl wr.heap.size 0 _ (.slice r1 row.length d1) rows us row Hown3.out Hu3.out rfl rfl HB3.out.size (by omega) ?_)
        intro v4 w4 hown4 hb4
        have Hrow4 := Lib.hid (hown4.base (Nat.zero_le _))
        have HB4 := Lib.hid (HB3.out.trans hb4)
        obtain ⟨ra, rc, hrv, _, _, _⟩ := hown4.read
        obtain ⟨rows2, hr2⟩ : ∃ rows2, rows2 = rows ++ [row] := ⟨_, rfl⟩
        have hl2 : rows2.length = rows.length + 1 := by rw [hr2]; simp
        rw [← hr2] at Hrow4 hrv Hst Hfit
        subst hrv
        have CL := Lib.hid (IH.out (f - 1) (by omega) ra rc rows2 _ w4 (by rw [hr2]; exact Hnf.out.2.1) (by omega) (by rw [hr2]; exact Hs.out.snoc (by omega) (by omega)) Hrow4.out)
        rw [show f - 1 + 1 = f by omega] at CL
        have hl2m : rows2.length ≤ 9223372036854775807 := by omega
        clear hown4 hb4 hr2 hl2 Hown3 HB3 Hu3 HoR1 H0
        go_wp2_with fail
        refine CL.out.mono ?_
        rintro e w5 ⟨sv, ts, rfl, hsub, hb5⟩
        have HB5 := Lib.hid (HB4.out.trans (hb5.mono HB4.out.size))
        have Hown5 := Lib.hid (Hown.out.below HB5.out)
        have Hsub5 := Lib.hid hsub
        have HNr5 := Lib.hid (HNr.out.below HB5.out)
        have HBw5 := Lib.hid (Hbr.out.trans (HB5.out.mono HBr.out))
        obtain ⟨K, hK⟩ : ∃ K, K = allD n f rows2 := ⟨_, rfl⟩
        rw [← hK] at Hsub5 Hst Hfit
        obtain ⟨sa, sc, hsv, _, _⟩ := Hsub5.out.head
        subst hsv
        clear hsub hb5 hK CL
        go_wp2_with (at_builtin; refine wpList_tabsW rfl _ _ rfl w.heap.size w4.heap.size _ _ M K vs ts Hown5.out Hsub5.out rfl rfl HBw5.out.size Hfit.out ?_)
        intro v7 w7 hown7 hg7 hb7
        rw [← Hst.out] at hown7
        have Hown7 := Lib.hid hown7
        have HN7 := Lib.hid (HNr5.out.kept Hown5.out.top (by decide) (by decide) hg7)
        have HB7 := Lib.hid (HBw5.out.trans hb7)
        clear hown7 hg7 hb7
        go_wp2
        go_roundw
        case rel => exact ⟨k + 1, _, by omega, by go_num, Hown7.out, HN7.out, HB7.out⟩
        case measure => simp [intOf]; omega
      · obtain rfl : k = C.length := by omega
        have HF := Lib.hid (show OwnW wr w.heap.size _ R vs from by rw [← HE.out]; exact Hown.out)
        clear Hown
        go_wp2
        go_ret
        exact ⟨_, vs, rfl, HF.out, Hbr.out⟩
end Go.Proofs.Ytfempacfaeknpaa

namespace Go.Proofs.Ytfempacfaeknpaa
open Go.RowKit

def boundC : Nat → Nat
  | 0 => 1
  | f + 1 => 1 + boundL (f + 1) * boundC f
theorem boundC_le {f : Nat} (h : f ≤ 4) : boundC f ≤ 1000000000 := by
  have : f = 0 ∨ f = 1 ∨ f = 2 ∨ f = 3 ∨ f = 4 := by omega
  rcases this with rfl | rfl | rfl | rfl | rfl <;> decide
theorem boundL_mono {f g : Nat} (h : f ≤ g) : boundL f ≤ boundL g := by
  induction g with
  | zero => obtain rfl : f = 0 := by omega
            exact Nat.le_refl _
  | succ g ih =>
    by_cases e : f = g + 1
    · subst e; exact Nat.le_refl _
    · have := ih (by omega)
      show boundL f ≤ 6 * (1 + boundL g)
      omega
theorem sum_sumF (F : List Int → Nat) : ∀ R : List (List Int), (((R.map F).sum : Nat) : Int) = sumF (fun i => (F (gr R i) : Int)) R.length := by
  intro R
  have h : ∀ k, k ≤ R.length → ((((R.take k).map F).sum : Nat) : Int) = sumF (fun i => (F (gr R i) : Int)) k := by
    intro k
    induction k with
    | zero => intro _; simp [sumF]
    | succ k ih =>
      intro hk
      rw [List.take_succ_eq_append_getElem (by omega), List.map_append, List.sum_append]
      simp only [sumF, List.map_cons, List.map_nil, List.sum_cons, List.sum_nil, Nat.add_zero]
      rw [← ih (by omega), gr_lt (show k < R.length by omega)]
      omega
  have := h R.length (Nat.le_refl _)
  rwa [List.take_length] at this
/-- rows that limits allow shorten them -/
theorem limB_short {l row : List Int} (h : Allow l row) : (limB row).length + 1 ≤ l.length := by
  rw [limB_len]
  have := h.1
  have := h.2.1
  omega
theorem rowsL_allow {l row : List Int} (h : row ∈ rowsL l) : Allow l row := longL_allow l.length [] row h
theorem countL_le : ∀ f l, (∀ i, gi l i ≤ 6) → l.length ≤ f → l.length ≤ 5 → countL (f + 1) l ≤ boundC f
  | 0, l, h6, hl, _ => by
    have : l = [] := List.length_eq_zero_iff.1 (by omega)
    subst this
    decide
  | f + 1, l, h6, hl, h5 => by
    show 1 + ((rowsL l).map fun row => countL (f + 1) (limB row)).sum ≤ 1 + boundL (f + 1) * boundC f
    have h1 : ∀ R : List (List Int), (∀ r, r ∈ R → Allow l r) → (R.map fun row => countL (f + 1) (limB row)).sum ≤ R.length * boundC f := by
      intro R
      induction R with
      | nil => intro _; simp
      | cons r R ih =>
        intro h
        have h2 := ih (fun x hx => h x (List.mem_cons_of_mem _ hx))
        have h3 := h r (List.mem_cons_self ..)
        have h4 := countL_le f (limB r) (limB_le (by have := h3.2.1; omega)) (by have := limB_short h3; omega) (by have := limB_short h3; omega)
        simp only [List.map_cons, List.sum_cons, List.length_cons, Nat.succ_mul]
        omega
    have h2 := h1 (rowsL l) (fun r hr => rowsL_allow hr)
    have h3 : (rowsL l).length ≤ boundL (f + 1) := Nat.le_trans (longL_len h6 l.length []) (boundL_mono hl)
    have h4 : (rowsL l).length * boundC f ≤ boundL (f + 1) * boundC f := Nat.mul_le_mul_right _ h3
    omega

set_option maxRecDepth 100000 in
set_option maxHeartbeats 800000 in
theorem sumOfRows_count (F : Nat → Int) (ao : Option Addr) (c : Nat) (m : List (List Int)) (w : World) (hn : m.length ≤ 1048576)
    (hbd : ∀ k, k ≤ m.length → 0 ≤ sumF F k ∧ sumF F k ≤ 4000000000000000000) (hF : ∀ k, k < m.length → 0 ≤ F k ∧ F k ≤ 1000000000) (hx : MatAt w ao m)
    (H : ∀ i, i < m.length → ∀ r c w, IntsAt w r (gr m i) → Calls Try.prog 103 #[.slice r (gr m i).length c] w fun e w' => e = .returned (.int .i64 (F i)) ∧ Below w.heap.size w w') :
    Calls Try.prog 102 #[.slice ao m.length c, .func (.func 103) #[] #[]] w fun e w' => e = .returned (.int .i64 (sumF F m.length)) ∧ Below w.heap.size w w' := by
  have hmx : m.length ≤ 9223372036854775807 := by omega
  have Hx := Lib.hid hx
  have Hbd := Lib.hid hbd
  have HF := Lib.hid hF
  have HH := Lib.hid H
  clear hx hbd H hF
  go_enter Try.func102, Try.ntmps102
  go_wp2
  go_loopw [5, 10] (fun s i wr => ∃ k : Nat, k ≤ m.length ∧ i = .int .i64 k ∧ s = .int .i64 (sumF F k) ∧ Below w.heap.size w wr) (fun _ i _ => m.length - (intOf i).toNat)
  case atStart => exact ⟨0, Nat.zero_le _, rfl, rfl, Below.refl _ _⟩
  case round =>
    obtain ⟨k, hk, rfl, rfl, hbr⟩ := hrel
    have Hbr := Lib.hid hbr
    clear hbr
    by_cases hlt : k < m.length
    · obtain ⟨b1, o1, r1, d1, rfl, hc1, hr1, hd1, hd2⟩ := (Hx.out.below Hbr.out) k hlt
      have e1 : sumF F (k + 1) = sumF F k + F k := rfl
      have hb1 := Hbd.out k hk
      have hb2 := Hbd.out (k + 1) (by omega)
      rw [e1] at hb2
      have hh := HH.out k hlt r1 d1 wr hr1
      have E1 := Lib.hid e1
      clear e1
      obtain ⟨s, hs⟩ : ∃ s, s = sumF F k := ⟨_, rfl⟩
      obtain ⟨y, hy⟩ : ∃ y, y = F k := ⟨_, rfl⟩
      rw [← hs, ← hy] at hb2
      rw [← hs] at hb1 ⊢
      have HH2 := Lib.hid hh
      have Hs := Lib.hid hs
      have Hy := Lib.hid hy
      clear hh hs hy hr1
      go_wp2_with fail
      refine HH2.out.mono ?_
      rintro e w2 ⟨rfl, hb⟩
      rw [← Hy.out]
      have HB2 := Lib.hid (Hbr.out.trans (hb.mono Hbr.out.size))
      clear hb
      go_wp2
      go_roundw
      case rel => exact ⟨k + 1, by omega, by go_num, by rw [E1.out, ← Hs.out, ← Hy.out], HB2.out⟩
      case measure => simp [intOf]; omega
    · obtain rfl : k = m.length := by omega
      go_wp2
      go_ret
      exact ⟨rfl, Hbr.out⟩

set_option maxRecDepth 100000 in
set_option maxHeartbeats 1600000 in
theorem count_any : ∀ (f : Nat), f ≤ 4 → ∀ (l : List Int) (ao : Option Addr) (c : Nat) (w : World), (∀ i, gi l i ≤ 6) → l.length ≤ f → IntsAt w ao l →
    Calls Try.prog 71 #[.slice ao l.length c] w fun e w' => e = .returned (.int .i64 (countL (f + 1) l : Nat)) ∧ Below w.heap.size w w' := by
  intro f
  induction f using Nat.strongRecOn with
  | _ f ih =>
    intro hf l ao c w h6 hl hx
    have C := Lib.hid (rows_any l h6 (by omega) ao c w hx)
    have Hal := Lib.hid (fun r (hr : r ∈ rowsL l) => rowsL_allow hr)
    have Hle := Lib.hid (countL_le f l h6 hl (by omega))
    have Hsm := Lib.hid (rowsL_small h6 (by omega))
    have IH := Lib.hid ih
    have hCb := boundC_le hf
    have HE := Lib.hid (show ((countL (f + 1) l : Nat) : Int) = 1 + sumF (fun i => ((countL f (limB (gr (rowsL l) i)) : Nat) : Int)) (rowsL l).length by
      rw [← sum_sumF (fun row => countL f (limB row))]
      show ((1 + ((rowsL l).map fun row => countL f (limB row)).sum : Nat) : Int) = _
      omega)
    obtain ⟨R, hR⟩ : ∃ R, R = rowsL l := ⟨_, rfl⟩
    rw [← hR] at C Hal Hsm HE
    obtain ⟨T, hT⟩ : ∃ T, T = countL (f + 1) l := ⟨_, rfl⟩
    rw [← hT] at Hle HE ⊢
    clear hx ih hR hT
    go_enter Try.func71, Try.ntmps71
    go_wp2_with fail
    refine C.out.mono ?_
    rintro e w1 ⟨v, vs, rfl, hv, hb⟩
    obtain ⟨ra, rc, rfl, _, _, hm⟩ := hv.read
    have HB := Lib.hid hb
    have hnn : ∀ k, 0 ≤ sumF (fun i => ((countL f (limB (gr R i)) : Nat) : Int)) k := by
      intro k
      induction k with
      | zero => simp [sumF]
      | succ k ih => simp only [sumF]; omega
    have hmono : ∀ k, k ≤ R.length → sumF (fun i => ((countL f (limB (gr R i)) : Nat) : Int)) k ≤ sumF (fun i => ((countL f (limB (gr R i)) : Nat) : Int)) R.length := by
      intro k hk
      obtain ⟨d, hd⟩ : ∃ d, R.length = k + d := ⟨R.length - k, by omega⟩
      rw [hd, sumF_app]
      have : ∀ d, 0 ≤ sumF (fun i => ((countL f (limB (gr R (k + i))) : Nat) : Int)) d := by
        intro d
        induction d with
        | zero => simp [sumF]
        | succ d ih => simp only [sumF]; omega
      have := this d
      omega
    have htot : sumF (fun i => ((countL f (limB (gr R i)) : Nat) : Int)) R.length ≤ 1000000000 := by
      have h1 := HE.out
      have h2 := Hle.out
      omega
    have CS := Lib.hid (sumOfRows_count (fun i => ((countL f (limB (gr R i)) : Nat) : Int)) ra rc R w1 Hsm.out.1 (fun k hk => ⟨hnn k, by have := hmono k hk; omega⟩)
      (fun k hk => ⟨by omega, by
        have h1 := hmono (k + 1) (by omega)
        have h2 := hnn k
        simp only [sumF] at h1
        omega⟩) hm (fun i hi r c w hr => by
        have ha := Hal.out _ (gr_mem hi)
        have hsh := limB_short ha
        have hrl : (gr R i).length ≤ 1048576 := Hsm.out.2 i hi
        have hbd : ∀ j, j < (gr R i).length → 1 ≤ gi (gr R i) j ∧ gi (gr R i) j ≤ 9223372036854775807 := fun j hj => ⟨(ha.2.2.2 j hj).1, by have := (ha.2.2.2 j hj).2.1; have := h6 j; omega⟩
        have CL := Lib.hid (limitsBelow_any r c (gr R i) w ha.1 hrl hbd hr)
        have hg6 := limB_le (row := gr R i) (by have := ha.2.1; omega)
        have CC := Lib.hid (fun a c w hx => IH.out (f - 1) (by omega) (by omega) (limB (gr R i)) a c w hg6 (by omega) hx)
        rw [show f - 1 + 1 = f by omega] at CC
        obtain ⟨L, hL⟩ : ∃ L, L = limB (gr R i) := ⟨_, rfl⟩
        show Calls Try.prog _ _ _ fun e w' => e = .returned (.int .i64 (countL f (limB (gr R i)) : Nat)) ∧ Below w.heap.size w w'
        rw [← hL] at CL CC ⊢
        obtain ⟨T2, hT2⟩ : ∃ T2, T2 = countL f L := ⟨_, rfl⟩
        rw [← hT2] at CC ⊢
        have hrlm : (gr R i).length ≤ 9223372036854775807 := by omega
        obtain ⟨row, hrow⟩ : ∃ row, row = gr R i := ⟨_, rfl⟩
        rw [← hrow] at CL hrlm ⊢
        clear hnn hmono htot hm hv hb ha hsh hbd hg6 hr hL hT2 hrow hrl
        go_enter Try.func103, Try.ntmps103
        go_wp2_with fail
        refine CL.out.mono ?_
        rintro e w3 ⟨v, rfl, hv, hb⟩
        obtain ⟨la, lc, rfl, _, _, hI⟩ := hv.read
        have HI := Lib.hid hI
        have HB3 := Lib.hid hb
        clear hv hb hI
        go_wp2_with fail
        refine (CC.out la lc w3 HI.out).mono ?_
        rintro e w4 ⟨rfl, hb⟩
        have HB4 := Lib.hid (HB3.out.trans (hb.mono HB3.out.size))
        clear hb
        go_wp2
        go_ret
        exact ⟨rfl, HB4.out⟩))
    obtain ⟨S, hS⟩ : ∃ S, S = sumF (fun i => ((countL f (limB (gr R i)) : Nat) : Int)) R.length := ⟨_, rfl⟩
    have hS0 := hnn R.length
    rw [← hS] at CS HE htot hS0
    obtain ⟨Rl, hRl⟩ : ∃ Rl, Rl = R.length := ⟨_, rfl⟩
    rw [← hRl] at CS ⊢
    have hw : IntKind.i64.wrap (1 + S) = 1 + S := w64 (by omega)
    have hRm : Rl ≤ 9223372036854775807 := by have := Hsm.out.1; omega
    clear hnn hmono hS hv hb hm hRl
    go_wp2_with fail
    refine CS.out.mono ?_
    rintro e w2 ⟨rfl, hb⟩
    have HB2 := Lib.hid (HB.out.trans (hb.mono HB.out.size))
    clear hb
    go_wp2
    go_ret
    exact ⟨by rw [HE.out]; rfl, HB2.out⟩

set_option maxRecDepth 100000 in
set_option maxHeartbeats 1600000 in
theorem implCountDescending_any (n : Int) (w : World) (_hn : -9223372036854775808 ≤ n ∧ n ≤ 9223372036854775807) :
    Calls Try.prog 29 #[.int .i64 n] w fun e w' => IRes (1 ≤ n ∧ n ≤ 5) ((countL (n.toNat - 1) (lim1 n.toNat) : Nat) : Int) e ∧ Below w.heap.size w w' := by
  obtain ⟨w1, hw1⟩ : ∃ w1, w1 = w.alloc (.cells #[.int .i64 n] 3) := ⟨_, rfl⟩
  have C := Lib.hid (allIn_any 1 5 (some ⟨w.heap.size, 0, none⟩) 1 [n] w1 (by simp) (by rw [hw1]; exact ints_one w n))
  have HB := Lib.hid (show Below w.heap.size w w1 by rw [hw1]; exact (Below.refl _ _).alloc (Nat.le_refl _) _)
  have Hw1 := Lib.hid hw1
  clear hw1
  by_cases q : 1 ≤ n ∧ n ≤ 5
  · obtain ⟨k, rfl⟩ : ∃ k : Nat, n = (k : Int) := ⟨n.toNat, by omega⟩
    rw [Int.toNat_natCast]
    have Hq := Lib.hid q
    have C1 := Lib.hid (fun w => firstLimits_any k w (by omega) (by omega))
    have hcnt : countL (k - 1 + 1) (lim1 k) = countL (k - 1) (lim1 k) := by
      have : k = 1 ∨ k = 2 ∨ k = 3 ∨ k = 4 ∨ k = 5 := by omega
      rcases this with rfl | rfl | rfl | rfl | rfl <;> decide +kernel
    have CC := Lib.hid (fun a c w hx => count_any (k - 1) (by omega) (lim1 k) a c w (lim1_le (n := k) (by omega)) (by rw [lim1_len]; exact Nat.le_refl _) hx)
    rw [hcnt] at CC
    obtain ⟨T, hT⟩ : ∃ T, T = countL (k - 1) (lim1 k) := ⟨_, rfl⟩
    rw [← hT] at CC ⊢
    obtain ⟨L, hL⟩ : ∃ L, L = lim1 k := ⟨_, rfl⟩
    rw [← hL] at C1 CC
    have Hin := Lib.hid (allIn_one.2 q)
    clear q hL hT hcnt
    go_enter Try.func29, Try.ntmps29
    go_wp2_with fail
    rw [← Hw1.out]
    refine C.out.mono ?_
    rintro e w2 ⟨ha, rfl⟩
    obtain rfl := ha.is Hin.out
    clear ha
    go_wp2_with fail
    refine (C1.out w1).mono ?_
    rintro e w2 ⟨v, rfl, hv, hb⟩
    obtain ⟨la, lc, rfl, _, _, hI⟩ := hv.read
    have HI := Lib.hid hI
    have HB2 := Lib.hid (HB.out.trans (hb.mono HB.out.size))
    clear hv hb hI
    go_wp2_with fail
    refine (CC.out la lc w2 HI.out).mono ?_
    rintro e w3 ⟨rfl, hb⟩
    have HB3 := Lib.hid (HB2.out.trans (hb.mono HB2.out.size))
    clear hb
    go_wp2
    go_ret2
    exact ⟨IRes.yes Hq.out, HB3.out⟩
  · have Hq := Lib.hid q
    have Hin := Lib.hid (show ¬ allIn [n] 1 5 from fun h => q (allIn_one.1 h))
    clear q
    go_enter Try.func29, Try.ntmps29
    go_wp2_with fail
    rw [← Hw1.out]
    refine C.out.mono ?_
    rintro e w2 ⟨ha, rfl⟩
    obtain rfl := ha.isnt Hin.out
    clear ha
    go_wp2
    go_ret2
    exact ⟨IRes.no Hq.out, HB.out⟩

theorem fuel_nil {n : Nat} (h : 1 ≤ n) : Fuel n (n - 1) [] := .inl ⟨rfl, by omega⟩

set_option maxRecDepth 100000 in
set_option maxHeartbeats 1600000 in
theorem specCountDescending_any (n : Int) (w : World) (_hn : -9223372036854775808 ≤ n ∧ n ≤ 9223372036854775807) :
    Calls Try.prog 28 #[.int .i64 n] w fun e w' => IRes (1 ≤ n ∧ n ≤ 5) ((countL (n.toNat - 1) (lim1 n.toNat) : Nat) : Int) e ∧ Below w.heap.size w w' := by
  have C := Lib.hid (l1In_any n 1 5 w)
  by_cases q : 1 ≤ n ∧ n ≤ 5
  · obtain ⟨k, rfl⟩ : ∃ k : Nat, n = (k : Int) := ⟨n.toNat, by omega⟩
    rw [Int.toNat_natCast]
    have Hq := Lib.hid q
    have C1 := Lib.hid (dpAll_any k (by omega) (by omega) (k - 1) none 0 [] [] w (fuel_nil (by omega)) (by simp; omega) ⟨by simp, fun i hi => absurd hi (by simp)⟩ (OwnV.nil _ _))
    rw [show k - 1 + 1 = k by omega] at C1
    have hl := (count_all k (by omega)).resolve_left (by omega)
    have hb := (allD_len (n := k) (by omega) (by omega) (k - 1) [] (fuel_nil (by omega))).1
    rw [show k - 1 + 1 = k by omega] at hb
    have hb2 := (boundA_le (f := k - 1) (by omega)).1
    rw [← hl]
    obtain ⟨A, hA⟩ : ∃ A, A = allD k k [] := ⟨_, rfl⟩
    rw [← hA] at C1 hb ⊢
    have hAm : A.length ≤ 9223372036854775807 := by omega
    clear q hA hl hb hb2
    go_enter Try.func28, Try.ntmps28
    go_wp2_with fail
    refine C.out.mono ?_
    rintro e w1 ⟨ha, rfl⟩
    obtain rfl := ha.is Hq.out
    clear ha
    go_wp2_with fail
    refine C1.out.mono ?_
    rintro e w3 ⟨v, vs, rfl, hv, hb⟩
    obtain ⟨la, lc, rfl, _, _⟩ := hv.head
    have HB3 := Lib.hid hb
    clear hv hb
    go_wp2
    go_ret2
    exact ⟨IRes.yes Hq.out, HB3.out⟩
  · have Hq := Lib.hid q
    clear q
    go_enter Try.func28, Try.ntmps28
    go_wp2_with fail
    refine C.out.mono ?_
    rintro e w1 ⟨ha, rfl⟩
    obtain rfl := ha.isnt Hq.out
    clear ha
    go_wp2
    go_ret2
    exact ⟨IRes.no Hq.out, Below.refl _ _⟩
end Go.Proofs.Ytfempacfaeknpaa

