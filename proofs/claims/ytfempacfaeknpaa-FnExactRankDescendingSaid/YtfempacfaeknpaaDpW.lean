/- Contract: all descending plane partitions that go on rows, by the model. Conditions: n in 1 to 5. -/
import Derived.Test.YtfempacfaeknpaaDpP
import Derived.Test.YtfempacfaeknpaaDpQ
import Derived.Test.YtfempacfaeknpaaOwnW
namespace Go.Proofs.Ytfempacfaeknpaa
open Go.RowKit

/-- what is left of the lengths of rows -/
def Fuel (n f : Nat) (rows : List (List Int)) : Prop := (rows.length = 0 ∧ n ≤ f + 1) ∨ (rows.length ≠ 0 ∧ (gr rows (rows.length - 1)).length ≤ f + 1)
theorem gr_lastD (rows : List (List Int)) (r : List Int) : gr (rows ++ [r]) rows.length = r := by
  have := gr_appr (m := rows) (k := [r]) (i := 0) (by simp)
  rw [Nat.add_zero] at this
  exact this
theorem next_fuel {n f : Nat} {rows : List (List Int)} {r : List Int} (h : Fuel n f rows) (hr : r ∈ nextD n rows) : 1 ≤ f ∧ Fuel n (f - 1) (rows ++ [r]) ∧ 1 ≤ r.length ∧ r.length ≤ n := by
  unfold nextD at hr
  obtain ⟨h1, h2⟩ := List.mem_filter.1 hr
  have h3 := rowsD_row _ _ _ h1
  have h4 : r.length ≤ f := by
    rcases h with ⟨h0, hf⟩ | ⟨h0, hf⟩
    · have := h3.2.1; omega
    · unfold belD at h2
      simp only [decide_eq_false h0, Bool.false_or, decide_eq_true_eq] at h2
      have := h2.1; omega
  refine ⟨by have := h3.1; omega, .inr ⟨by simp, ?_⟩, h3.1, by have := h3.2.1; omega⟩
  rw [List.length_append, List.length_singleton, Nat.add_sub_cancel, gr_lastD]
  have := h3.1
  omega
theorem nextD_len {n : Nat} (h1 : 1 ≤ n) (hn : n ≤ 5) (rows : List (List Int)) : (nextD n rows).length ≤ 1555 := by
  unfold nextD
  have h2 := List.length_filter_le (belD rows) (rowsD n (n - 1) [])
  have h3 := rowsD_len (n := n) (by omega) (n - 1) [] (fun i hi => absurd hi (by simp))
  have h4 : boundD (n - 1) ≤ 1555 := by
    have : n = 1 ∨ n = 2 ∨ n = 3 ∨ n = 4 ∨ n = 5 := by omega
    rcases this with rfl | rfl | rfl | rfl | rfl <;> decide
  omega
def boundA : Nat → Nat
  | 0 => 1
  | f + 1 => 1 + 1555 * boundA f
theorem boundA_le {f : Nat} (h : f ≤ 4) : boundA f ≤ 5850691800000 ∧ (f ≤ 3 → boundA f ≤ 3762500000) := by
  have : f = 0 ∨ f = 1 ∨ f = 2 ∨ f = 3 ∨ f = 4 := by omega
  rcases this with rfl | rfl | rfl | rfl | rfl <;> refine ⟨by decide, fun _ => ?_⟩ <;> first | decide | omega
/-- the rows themselves, and what goes on the first k next ones -/
def allTo (n f : Nat) (rows : List (List Int)) (C : List (List Int)) (k : Nat) : List (List (List Int)) := rows :: (C.take k).flatMap fun row => allD n f (rows ++ [row])
theorem allTo_succ {n f : Nat} {rows C : List (List Int)} {k : Nat} (h : k < C.length) : allTo n f rows C (k + 1) = allTo n f rows C k ++ allD n f (rows ++ [gr C k]) := by
  unfold allTo
  rw [List.take_succ_eq_append_getElem h, gr_lt h, List.flatMap_append]
  simp only [List.flatMap_cons, List.flatMap_nil, List.append_nil, List.cons_append]
theorem allTo_all (n f : Nat) (rows : List (List Int)) : allTo n f rows (nextD n rows) (nextD n rows).length = allD n (f + 1) rows := by
  unfold allTo
  rw [List.take_length]
  rfl
theorem allD_len {n : Nat} (h1 : 1 ≤ n) (hn : n ≤ 5) : ∀ f rows, Fuel n f rows → (allD n (f + 1) rows).length ≤ boundA f ∧ ∀ k, k ≤ (nextD n rows).length → (allTo n f rows (nextD n rows) k).length ≤ 1 + k * boundA (f - 1) := by
  intro f
  induction f with
  | zero =>
    intro rows h
    have e : nextD n rows = [] := by
      cases hc : nextD n rows with
      | nil => rfl
      | cons r rs => have := (next_fuel h (r := r) (by rw [hc]; exact List.mem_cons_self ..)).1; omega
    refine ⟨?_, fun k hk => ?_⟩
    · show (allD n (0 + 1) rows).length ≤ 1
      rw [← allTo_all, e]
      simp [allTo]
    · rw [e] at hk ⊢
      simp [allTo]
  | succ f ih =>
    intro rows h
    have hpart : ∀ k, k ≤ (nextD n rows).length → (allTo n (f + 1) rows (nextD n rows) k).length ≤ 1 + k * boundA f := by
      intro k
      induction k with
      | zero => intro _; simp [allTo]
      | succ k ihk =>
        intro hk
        rw [allTo_succ (by omega), List.length_append, Nat.succ_mul]
        have h2 := ihk (by omega)
        have h3 := (ih _ (next_fuel h (gr_mem (show k < (nextD n rows).length by omega))).2.1).1
        omega
    refine ⟨?_, fun k hk => by rw [Nat.add_sub_cancel]; exact hpart k hk⟩
    rw [← allTo_all]
    have h2 := hpart _ (Nat.le_refl _)
    have h3 := nextD_len h1 hn rows
    have h4 : (nextD n rows).length * boundA f ≤ 1555 * boundA f := Nat.mul_le_mul_right _ h3
    show _ ≤ 1 + 1555 * boundA f
    omega
theorem OwnV.made0 (w : World) : OwnV (w.alloc (.cells #[] 42)) w.heap.size (.slice (some ⟨w.heap.size, 0, none⟩) 0 0) [] [] := ⟨World.ownsRow_made w #[] 0 (Nat.le_refl _) (Nat.zero_le _) rfl, fun i hi => absurd hi (by simp)⟩
theorem Small.snoc {rows : List (List Int)} {r : List Int} (h : Small rows) (h1 : rows.length < 1048576) (h2 : r.length ≤ 1048576) : Small (rows ++ [r]) := by
  refine ⟨by simp; omega, fun i hi => ?_⟩
  rw [List.length_append, List.length_singleton] at hi
  by_cases e : i < rows.length
  · rw [gr_appl e]; exact h.2 i e
  · obtain rfl : i = rows.length := by omega
    rw [gr_lastD]; exact h2

set_option maxRecDepth 100000 in
set_option maxHeartbeats 6400000 in
theorem dpAll_any (n : Nat) (h1 : 1 ≤ n) (hn : n ≤ 5) : ∀ (f : Nat) (ao : Option Addr) (c : Nat) (rows : List (List Int)) (us : List Value) (w : World), Fuel n f rows → rows.length + f ≤ 4 → Small rows → OwnV w 0 (.slice ao rows.length c) rows us →
    Calls Try.prog 66 #[.slice ao rows.length c, .int .i64 n] w fun e w' => ∃ v vs, e = .returned v ∧ OwnW w' w.heap.size v (allD n (f + 1) rows) vs ∧ Below w.heap.size w w' := by
  intro f
  induction f using Nat.strongRecOn with
  | _ f ih =>
    intro ao c rows us w hf hrl hs ho
    have hmx : rows.length ≤ 9223372036854775807 := by omega
    have Ho := Lib.hid ho
    have Hs := Lib.hid hs
    have Hf := Lib.hid hf
    have IH := Lib.hid ih
    have CN := Lib.hid (fun w h => dpNext_any n h1 (by omega) ao c rows w hs h)
    have Hlen := Lib.hid (allD_len h1 hn f rows hf).2
    have Hsub := Lib.hid (fun r (hr : r ∈ nextD n rows) => (allD_len h1 hn (f - 1) (rows ++ [r]) (next_fuel hf hr).2.1).1)
    have HNF := Lib.hid (fun r (hr : r ∈ nextD n rows) => next_fuel hf hr)
    have hcl := nextD_len h1 hn rows
    have HE := Lib.hid (allTo_all n f rows)
    obtain ⟨C, hC⟩ : ∃ C, C = nextD n rows := ⟨_, rfl⟩
    rw [← hC] at CN Hlen Hsub HNF hcl HE
    obtain ⟨R, hR⟩ : ∃ R, R = allD n (f + 1) rows := ⟨_, rfl⟩
    rw [← hR] at HE ⊢
    have hCm : C.length ≤ 9223372036854775807 := by omega
    have HO1 := Lib.hid (OwnW.one (w := w) ho (Nat.le_refl _))
    obtain ⟨w1, hw1⟩ : ∃ w1, w1 = w.alloc (.cells #[.slice ao rows.length c] 22) := ⟨_, rfl⟩
    rw [← hw1] at HO1
    have Hw1 := Lib.hid hw1
    clear ho hs hf ih hC hR hw1
    go_enter Try.func66, Try.ntmps66
    go_wp2_with fail
    rw [← Hw1.out]
    refine (CN.out w1 (by obtain ⟨_, _, e, _, _, h⟩ := (Ho.out.below HO1.out.2).read; cases e; exact h)).mono ?_
    rintro e w2 ⟨v, ns, rfl, hv, hb⟩
    obtain ⟨na, nc, hna, _, _, _⟩ := hv.read
    subst hna
    have HN := Lib.hid hv
    have HB := Lib.hid (HO1.out.2.trans (hb.mono HO1.out.2.size))
    have HO2 := Lib.hid (HO1.out.1.below hb)
    clear hv hb CN Hw1
    go_wp2
    go_loopw [5, 14] (fun out i wr => ∃ (k : Nat) (vs : List Value), k ≤ C.length ∧ i = .int .i64 k ∧ OwnW wr w.heap.size out (allTo n f rows C k) vs ∧ OwnV wr w1.heap.size (.slice na C.length nc) C ns ∧ Below w.heap.size w wr) (fun _ i _ => C.length - (intOf i).toNat)
    case atStart => exact ⟨0, _, Nat.zero_le _, rfl, HO2.out, HN.out, HB.out⟩
    case round =>
      obtain ⟨k, vs, hk, rfl, hown, hnr, hbr⟩ := hrel
      have Hown := Lib.hid hown
      have HNr := Lib.hid hnr
      have Hbr := Lib.hid hbr
      have HBr := Lib.hid hbr.size
      clear hown hnr hbr HO2 HN HB HO1
      by_cases hlt : k < C.length
      · obtain ⟨b1, o1, r1, d1, e1, hc1, hr1, hi1, _, _⟩ := HNr.out.rowAt hlt
        have Hu := Lib.hid (show OwnI wr 0 (.slice r1 (gr C k).length d1) (gr C k) by rw [← hr1]; exact HNr.out.rows k hlt)
        have hnf := HNF.out _ (gr_mem hlt)
        have Hnf := Lib.hid hnf
        have Hst := Lib.hid (allTo_succ (n := n) (f := f) (rows := rows) hlt)
        have hsub := Hsub.out _ (gr_mem hlt)
        have hpl := Hlen.out k (by omega)
        have hf1 := hnf.1
        have Hfit := Lib.hid (show (allTo n f rows C k).length + (allD n f (rows ++ [gr C k])).length ≤ 5860000000000 by
          rw [show f - 1 + 1 = f by omega] at hsub
          have hb3 := (boundA_le (f := f - 1) (by omega)).2 (by omega)
          have hb4 : k * boundA (f - 1) ≤ 1555 * boundA (f - 1) := Nat.mul_le_mul_right _ (by omega)
          omega)
        obtain ⟨row, hrow⟩ : ∃ row, row = gr C k := ⟨_, rfl⟩
        rw [← hrow] at hc1 Hu Hst Hnf Hfit hnf
        have hrl7 : row.length ≤ 6 := by omega
        have hrm : row.length ≤ 9223372036854775807 := by omega
        obtain ⟨M, hM⟩ : ∃ M, M = allTo n f rows C k := ⟨_, rfl⟩
        rw [← hM] at Hown Hst Hfit
        have HoR := Lib.hid (Ho.out.below Hbr.out)
        have H0 := Lib.hid (OwnV.made0 wr)
        have Hb0 := Lib.hid (show Below wr.heap.size wr (wr.alloc (.cells #[] 42)) from (Below.refl _ _).alloc (Nat.le_refl _) _)
        have HoR1 := Lib.hid (HoR.out.below Hb0.out)
        subst e1
        clear hr1 hi1 hnf hsub hpl hrow hM
        go_wp2_with (at_builtin; refine wpList_rowsV rfl _ _ rfl wr.heap.size 0 _ _ [] rows [] us H0.out HoR1.out rfl rfl Hb0.out.size (by simp; omega) ?_)
        intro v3 w3 hown3 hb3
        try rw [List.nil_append, List.nil_append] at hown3
        have Hown3 := Lib.hid hown3
        have HB3 := Lib.hid (Hb0.out.trans hb3)
        have Hu3 := Lib.hid (Hu.out.below HB3.out)
        clear hown3 hb3
        go_wp2_with (at_builtin; refine wpList_rowV rfl _ _ rfl wr.heap.size 0 _ (.slice r1 row.length d1) rows us row Hown3.out Hu3.out rfl rfl HB3.out.size (by omega) ?_)
        intro v4 w4 hown4 hb4
        have Hrow4 := Lib.hid (hown4.base (Nat.zero_le _))
        have HB4 := Lib.hid (HB3.out.trans hb4)
        obtain ⟨ra, rc, hrv, _, _, _⟩ := hown4.read
        obtain ⟨rows2, hr2⟩ : ∃ rows2, rows2 = rows ++ [row] := ⟨_, rfl⟩
        have hl2 : rows2.length = rows.length + 1 := by rw [hr2]; simp
        rw [← hr2] at Hrow4 hrv Hst Hfit
        subst hrv
        have CL := Lib.hid (IH.out (f - 1) (by omega) ra rc rows2 _ w4 (by rw [hr2]; exact Hnf.out.2.1) (by omega) (by rw [hr2]; exact Hs.out.snoc (by omega) (by omega)) Hrow4.out)
        rw [show f - 1 + 1 = f by omega] at CL
        have hl2m : rows2.length ≤ 9223372036854775807 := by omega
        clear hown4 hb4 hr2 hl2 Hown3 HB3 Hu3 HoR1 H0
        go_wp2_with fail
        refine CL.out.mono ?_
        rintro e w5 ⟨sv, ts, rfl, hsub, hb5⟩
        have HB5 := Lib.hid (HB4.out.trans (hb5.mono HB4.out.size))
        have Hown5 := Lib.hid (Hown.out.below HB5.out)
        have Hsub5 := Lib.hid hsub
        have HNr5 := Lib.hid (HNr.out.below HB5.out)
        have HBw5 := Lib.hid (Hbr.out.trans (HB5.out.mono HBr.out))
        obtain ⟨K, hK⟩ : ∃ K, K = allD n f rows2 := ⟨_, rfl⟩
        rw [← hK] at Hsub5 Hst Hfit
        obtain ⟨sa, sc, hsv, _, _⟩ := Hsub5.out.head
        subst hsv
        clear hsub hb5 hK CL
        go_wp2_with (at_builtin; refine wpList_tabsW rfl _ _ rfl w.heap.size w4.heap.size _ _ M K vs ts Hown5.out Hsub5.out rfl rfl HBw5.out.size Hfit.out ?_)
        intro v7 w7 hown7 hg7 hb7
        rw [← Hst.out] at hown7
        have Hown7 := Lib.hid hown7
        have HN7 := Lib.hid (HNr5.out.kept Hown5.out.top (by decide) (by decide) hg7)
        have HB7 := Lib.hid (HBw5.out.trans hb7)
        clear hown7 hg7 hb7
        go_wp2
        go_roundw
        case rel => exact ⟨k + 1, _, by omega, by go_num, Hown7.out, HN7.out, HB7.out⟩
        case measure => simp [intOf]; omega
      · obtain rfl : k = C.length := by omega
        have HF := Lib.hid (show OwnW wr w.heap.size _ R vs from by rw [← HE.out]; exact Hown.out)
        clear Hown
        go_wp2
        go_ret
        exact ⟨_, vs, rfl, HF.out, Hbr.out⟩
end Go.Proofs.Ytfempacfaeknpaa
