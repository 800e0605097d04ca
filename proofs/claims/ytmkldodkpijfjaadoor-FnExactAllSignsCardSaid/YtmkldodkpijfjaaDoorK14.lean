/- Parts of proofs: contracts and plain facts. Conditions: as each says. -/
import Derived.Test.YtmkldodkpijfjaaDoorK13
import Derived.Lib.SliceRun
namespace Go.Proofs.YtmkldodkpijfjaaDoor
open Go.RowKit

theorem gr_reverse {m : List (List Int)} {i : Nat} (h : i < m.length) : gr m.reverse i = gr m (m.length - 1 - i) := by
  rw [gr_lt (by rw [List.length_reverse]; exact h), gr_lt (by omega), List.getElem_reverse]
theorem colR_reverse (m : List (List Int)) (j : Nat) : ∀ k, k ≤ m.length → colR m.reverse j k + colR m j (m.length - k) = colR m j m.length
  | 0, _ => by simp [colR]
  | k + 1, h => by
    have ih := colR_reverse m j k (by omega)
    have e : m.length - k = (m.length - (k + 1)) + 1 := by omega
    rw [e, colR] at ih
    rw [colR, gr_reverse (by omega), show m.length - 1 - k = m.length - (k + 1) from by omega]
    omega
theorem colR_full {m : List (List Int)} (h : good m) {j : Nat} (hj : j < m.length) : colR m j m.length = 1 := by
  rw [colR_tr hj _ (Nat.le_refl _)]
  have h1 := (h.2.2 j (by rw [tr_len]; exact hj)).2
  rw [tr_row hj] at h1
  exact h1
/-- the rows of the triangle of a matrix upside down -/
theorem triRow_reverse {m : List (List Int)} (h : good m) {k : Nat} (hk : k ≤ m.length) : triRow m.reverse k = compl m.length (triRow m (m.length - k)) := by
  have hx : ∀ {x : Int}, x ∈ triRow m.reverse k ↔ x ∈ compl m.length (triRow m (m.length - k)) := by
    intro x
    unfold triRow compl
    rw [List.length_reverse, mem_colsF, List.mem_filter, mem_iota]
    constructor
    · rintro ⟨j, rfl, hj, hf⟩
      refine ⟨by omega, ?_⟩
      have h1 := colR_reverse m j k hk
      rw [colR_full h hj] at h1
      simp only [decide_eq_true_eq] at hf
      have hn : (j : Int) ∉ colsF m.length fun j => decide (colR m j (m.length - k) = 1) := by
        rw [mem_colsF]
        rintro ⟨i, e, _, hi⟩
        obtain rfl : j = i := by omega
        simp only [decide_eq_true_eq] at hi
        omega
      simp [hn]
    · rintro ⟨⟨h0, hn⟩, hc⟩
      refine ⟨x.toNat, by omega, by omega, ?_⟩
      have hj : x.toNat < m.length := by omega
      have h1 := colR_reverse m x.toNat k hk
      rw [colR_full h hj] at h1
      have h2 := colR_01 h hj (show m.length - k ≤ m.length by omega)
      have h3 : colR m x.toNat (m.length - k) ≠ 1 := by
        intro e
        have : x ∈ colsF m.length fun j => decide (colR m j (m.length - k) = 1) := mem_colsF.2 ⟨x.toNat, by omega, hj, by simpa using e⟩
        simp [this] at hc
      simp only [decide_eq_true_eq]
      omega
  have hu1 : Up (triRow m.reverse k) := colsF_up _ _
  have hu2 : Up (compl m.length (triRow m (m.length - k))) := (up_iota _).filter _
  refine mask_inj hu1 (fun y hy => ?_) hu2 (fun y hy => ?_) ?_
  · obtain ⟨j, rfl, _, _⟩ := mem_colsF.1 hy; omega
  · exact (mem_iota.1 (List.mem_filter.1 hy).1).1
  · apply Nat.eq_of_testBit_eq
    intro i
    rw [testBit_mask (fun y hy => by obtain ⟨j, rfl, _, _⟩ := mem_colsF.1 hy; omega), testBit_mask (xs := compl m.length (triRow m (m.length - k))) (fun y hy => (mem_iota.1 (List.mem_filter.1 hy).1).1)]
    exact decide_eq_decide.2 hx
end Go.Proofs.YtmkldodkpijfjaaDoor

namespace Go.Proofs.YtmkldodkpijfjaaDoor
open Go.RowKit

set_option maxRecDepth 100000 in
set_option maxHeartbeats 400000 in
theorem sCloneM_any (b o n c : Nat) (news : List Value) (w : World) (hn : n ≤ 1048576) (hl : news.length = n) (hc : ∀ j u, news[j]? = some u → w.cell? ⟨b, o + j, none⟩ = some u) (h1 : ∀ u ∈ news, u.oneCell' = true) :
    Calls Tryd.prog 92 #[.slice (some ⟨b, o, none⟩) n c] w fun e w' => ∃ v, e = .returned v ∧ w'.ownsRow w.heap.size 22 1 v n news ∧ Below w.heap.size w w' := by
  obtain ⟨j0, hj, hy0, hy1, hy2⟩ := info_parts Tryd.info_ints
  have Hc := Lib.hid hc
  have H1 := Lib.hid h1
  have Hl := Lib.hid hl
  clear hc h1 hl
  have q22 : ∀ (w : World) (a : Option Addr) (n c n' c' : Nat), (binOp .eql 28 (.slice a n c) (.slice none n' c')).run Tryd.prog w = .ok (.bool a.isNone) w := fun w a n c n' c' => Lib.run_eql_slice_nil w _ _ a n c n' c' Tryd.underlying28
  go_enter Tryd.func92, Tryd.ntmps92
  go_wp2_with (at_builtin; refine wpList_append_own _ rfl _ _ 28 rfl w.heap.size 22 j0 (.slice none 0 0) 1 24 Tryd.underlying28 hj hy0 hy1 hy2 rfl (by decide) _ _ _ rfl (World.ownsRow_made w #[] 0 (Nat.le_refl _) (Nat.zero_le _) rfl) ⟨b, o, none⟩ n c news rfl ?e1 ?e2 ?e3 ?e4 ?e5 ?e6 ?_)
  case e1 => rw [Hl.out]; omega
  case e2 =>
    intro j u hj
    rw [Addr.add_lit]
    exact Lib.cell?_alloc_some _ (Hc.out j u hj)
  case e3 => exact H1.out
  case e4 => unfold maxLen; omega
  case e5 => omega
  case e6 => simp
  intro v' w1 hown hgrow _
  have Hown := Lib.hid (show w1.ownsRow w.heap.size 22 1 v' n news by simpa using hown)
  have Hb := Lib.hid (((Below.refl w.heap.size w).alloc (Nat.le_refl _) _).grown hgrow (by simp) (by intro k hk; simp [Value.ownBlock] at hk; omega))
  clear hown hgrow
  go_wp2
  go_ret
  exact ⟨_, rfl, Hown.out, Hb.out⟩
end Go.Proofs.YtmkldodkpijfjaaDoor

namespace Go.Proofs.YtmkldodkpijfjaaDoor
open Go.RowKit

set_option maxRecDepth 100000 in
set_option maxHeartbeats 800000 in
theorem sReverseM_any (B g n c : Nat) (vs : List Value) (w : World) (hn : n ≤ 1048576) (hn1 : 1 ≤ n) (hB : B ≤ g) (hsl : ∀ t, t < n → ∃ r m d, vs.getD t undef = .slice r m d) (ho : w.ownsRow g 22 1 (.slice (some ⟨g, 0, none⟩) n c) n vs) :
    Calls Tryd.prog 93 #[.slice (some ⟨g, 0, none⟩) n c] w fun e w' => e = .returned (.tuple #[]) ∧ w'.ownsRow g 22 1 (.slice (some ⟨g, 0, none⟩) n c) n vs.reverse ∧ Below B w w' := by
  have hmx : n ≤ 9223372036854775807 := by omega
  have hvl : vs.length = n := by simpa using ho.1
  have Hsl := Lib.hid hsl
  have Ho := Lib.hid ho
  have Hvl := Lib.hid hvl
  clear ho hvl hsl
  go_enter Tryd.func93, Tryd.ntmps93
  go_wp2
  go_loopw [2, 3] (fun i j wr => ∃ (k l : Nat) (us : List Value), k + l + 1 = n ∧ k ≤ l + 1 ∧ i = .int .i64 k ∧ j = .int .i64 l ∧ wr.ownsRow g 22 1 (.slice (some ⟨g, 0, none⟩) n c) n us ∧ (∀ t, t < n → us.getD t undef = if t < k ∨ n - k ≤ t then vs.getD (n - 1 - t) undef else vs.getD t undef) ∧ Below B w wr) (fun i _ _ => n - (intOf i).toNat)
  case atStart => exact ⟨0, n - 1, vs, by omega, by omega, rfl, by go_num, Ho.out, fun t ht => by rw [if_neg (by omega)], Below.refl _ _⟩
  case round =>
    obtain ⟨k, l, us, hkl, hle, rfl, rfl, hown, hus, hbr⟩ := hrel
    by_cases hlt : k < l
    · have hul : us.length = n := by simpa using hown.1
      have hck := World.ownsRow.cellAt hown k (by omega)
      have hcl := World.ownsRow.cellAt hown l (by omega)
      have hfk := World.ownsRow.frozenAt hown k
      have hfl := World.ownsRow.frozenAt hown l
      obtain ⟨r1, m1, d1, e1⟩ := Hsl.out k (by omega)
      obtain ⟨r2, m2, d2, e2⟩ := Hsl.out l (by omega)
      have f1 : us[k]? = some (.slice r1 m1 d1) := by
        have := hus k (by omega)
        rw [if_neg (by omega), e1] at this
        simp only [List.getD, List.getElem?_eq_getElem (show k < us.length by omega), Option.getD_some] at this ⊢
        rw [this]
      have f2 : us[l]? = some (.slice r2 m2 d2) := by
        have := hus l (by omega)
        rw [if_neg (by omega), e2] at this
        simp only [List.getD, List.getElem?_eq_getElem (show l < us.length by omega), Option.getD_some] at this ⊢
        rw [this]
      rw [f1] at hck
      rw [f2] at hcl
      have hkn : k < n := by omega
      have hln : l < n := by omega
      have hne : k ≠ l := by omega
      have hne2 : l ≠ k := by omega
      have Hus := Lib.hid hus
      have Hown := Lib.hid hown
      have Hbr := Lib.hid hbr
      have Hf1 := Lib.hid (And.intro e1 e2)
      clear hus hown hbr f1 f2 e1 e2
      go_wp2_with fail
      go_region
      go_wp2
      go_roundw
      case rel =>
        have hz : (k : Int) < l := by omega
        refine ⟨k + 1, l - 1, (us.set k (.slice r2 m2 d2)).set l (.slice r1 m1 d1), by omega, by omega, by go_num, by rw [show ((l - 1 : Nat) : Int) = (l : Int) - 1 from by omega], ?_, ?_, ?_⟩
        · exact (World.ownsRow.stored (World.ownsRow.stored (ownsRow_below Hown.out ((Q.refl wr).drewN 1 |>.below _)) k _).1 l _).1
        · intro t ht
          obtain ⟨e1, e2⟩ := Hf1.out
          have hu := Hus.out t ht
          simp only [List.getD, List.getElem?_set, List.length_set] at hu e1 e2 ⊢
          by_cases ht1 : l = t
          · subst ht1
            rw [if_pos rfl, if_pos (by omega), if_pos (by omega), show n - 1 - l = k from by omega, e1]
            rfl
          · rw [if_neg ht1]
            by_cases ht2 : k = t
            · subst ht2
              rw [if_pos rfl, if_pos (by omega), if_pos (by omega), show n - 1 - k = l from by omega, e2]
              rfl
            · rw [if_neg ht2, hu]
              by_cases hc : t < k ∨ n - k ≤ t
              · rw [if_pos hc, if_pos (by omega)]
              · rw [if_neg hc, if_neg (by omega)]
        · exact ((Hbr.out.trans ((Q.refl wr).drewN 1 |>.below _)).setCell (p := ⟨g, k, none⟩) hB _).setCell (p := ⟨g, l, none⟩) hB _
      case measure => simp [intOf]; omega
    · have hfin : us = vs.reverse := by
        have hul : us.length = n := by simpa using hown.1
        apply List.ext_getElem (by rw [List.length_reverse, hul, Hvl.out])
        intro t h1 h2
        have hu := hus t (by omega)
        rw [List.getElem_reverse]
        have hvl := Hvl.out
        by_cases hc : t < k ∨ n - k ≤ t
        · rw [if_pos hc] at hu
          simp only [List.getD, List.getElem?_eq_getElem h1, List.getElem?_eq_getElem (show n - 1 - t < vs.length by omega), Option.getD_some] at hu
          rw [hu]
          congr 1
          omega
        · rw [if_neg hc] at hu
          simp only [List.getD, List.getElem?_eq_getElem h1, List.getElem?_eq_getElem (show t < vs.length by omega), Option.getD_some] at hu
          rw [hu]
          congr 1
          omega
      rw [hfin] at hown
      have Hown := Lib.hid hown
      have Hbr := Lib.hid hbr
      have hd : decide ((k : Int) < (l : Int)) = false := by simp; omega
      clear hown hus hbr hfin
      go_wp2
      (try simp only [Exit.inBlock, Exit.then]); refine bodyPost_end (results_none rfl _ _ _) rfl ?_
      exact ⟨rfl, Hown.out, Hbr.out⟩
end Go.Proofs.YtmkldodkpijfjaaDoor

namespace Go.Proofs.YtmkldodkpijfjaaDoor
open Go.RowKit

set_option maxRecDepth 100000 in
set_option maxHeartbeats 800000 in
theorem upsideDown_any (ao : Option Addr) (c : Nat) (m : List (List Int)) (w : World) (hn : m.length ≤ 1048576) (h1 : 1 ≤ m.length) (hm : MatAt w ao m) :
    Calls Tryd.prog 59 #[.slice ao m.length c] w fun e w' => ∃ v, e = .returned v ∧ (∃ g d, v = .slice (some ⟨g, 0, none⟩) m.length d ∧ w.heap.size ≤ g ∧ MatAt w' (some ⟨g, 0, none⟩) m.reverse) ∧ Below w.heap.size w w' := by
  have hmx : m.length ≤ 9223372036854775807 := by omega
  obtain ⟨b, o, rfl⟩ : ∃ b o, ao = some ⟨b, o, none⟩ := by
    obtain ⟨b, o, r, d, e, _⟩ := hm 0 (by omega)
    exact ⟨b, o, e⟩
  have hrow : ∀ i, i < m.length → ∃ r d, w.cell? ⟨b, o + i, none⟩ = some (.slice r (gr m i).length d) ∧ IntsAt w r (gr m i) ∧ (gr m i).length ≤ d ∧ d ≤ 9223372036854775807 := fun i hi => by
    obtain ⟨b', o', r, d, e, hc, hx⟩ := hm i hi
    cases e
    exact ⟨r, d, hc, hx⟩
  obtain ⟨vs, hvs⟩ : ∃ vs : List Value, vs = (List.range m.length).map fun i => (w.cell? ⟨b, o + i, none⟩).getD undef := ⟨_, rfl⟩
  have hvl : vs.length = m.length := by rw [hvs]; simp
  have hvg : ∀ i, i < m.length → w.cell? ⟨b, o + i, none⟩ = some (vs.getD i undef) := fun i hi => by
    obtain ⟨r, d, hc, _⟩ := hrow i hi
    rw [hvs]
    simp [List.getD, hi, hc]
  have hcells : ∀ j u, vs[j]? = some u → w.cell? ⟨b, o + j, none⟩ = some u := fun j u hj => by
    have hj2 : j < m.length := by have := (List.getElem?_eq_some_iff.1 hj).1; omega
    rw [hvg j hj2]
    simp [List.getD, hj]
  have hval : ∀ i, i < m.length → ∃ r d, vs.getD i undef = .slice r (gr m i).length d ∧ IntsAt w r (gr m i) ∧ (gr m i).length ≤ d ∧ d ≤ 9223372036854775807 := fun i hi => by
    obtain ⟨r, d, hc, hx⟩ := hrow i hi
    rw [hvg i hi] at hc
    exact ⟨r, d, Option.some.inj hc, hx⟩
  have hone : ∀ u ∈ vs, u.oneCell' = true := fun u hu => by
    obtain ⟨i, hi, e⟩ := List.getElem_of_mem hu
    obtain ⟨r, d, hc, _⟩ := hval i (by omega)
    simp only [List.getD, List.getElem?_eq_getElem hi, Option.getD_some] at hc
    rw [← e, hc]
    rfl
  have Hcl := Lib.hid (sCloneM_any b o m.length c vs w hn hvl hcells hone)
  have Hval := Lib.hid hval
  have Hvl := Lib.hid hvl
  clear hm hrow hvs hvg hcells hone hvl hval
  go_enter Tryd.func59, Tryd.ntmps59
  go_wp2_with fail
  refine Hcl.out.mono ?_
  rintro e w1 ⟨v, rfl, hown, hb1⟩
  obtain ⟨ao', d, e1, _, _, _⟩ := ownsRow_read hown
  subst e1
  obtain ⟨g, hg, hgB⟩ : ∃ g, ao' = some ⟨g, 0, none⟩ ∧ w.heap.size ≤ g := by
    rcases hown.2 with ⟨h0, _⟩ | ⟨g, cap, cur, hv, hb, _⟩
    · simp only [Value.slice.injEq] at h0; omega
    · simp only [Value.slice.injEq] at hv
      exact ⟨g, hv.1, hb⟩
  subst hg
  have Hrv := Lib.hid (sReverseM_any w.heap.size g m.length d vs w1 hn h1 hgB (fun t ht => by obtain ⟨r, d', e, _⟩ := Hval.out t ht; exact ⟨r, _, d', e⟩) (by
    rcases hown.2 with ⟨h0, _⟩ | ⟨g', cap, cur, hv, hb, h4⟩
    · simp only [Value.slice.injEq] at h0; omega
    · simp only [Value.slice.injEq, Option.some.injEq, Addr.mk.injEq] at hv
      obtain ⟨⟨rfl, _, _⟩, _⟩ := hv
      exact ⟨hown.1, .inr ⟨g, cap, cur, by simp only [Value.slice.injEq] at *; simp_all, Nat.le_refl _, h4⟩⟩))
  have Hb1 := Lib.hid hb1
  clear hown hb1
  go_wp2_with fail
  refine Hrv.out.mono ?_
  rintro e w2 ⟨rfl, hown, hb2⟩
  have Hfin := Lib.hid (show MatAt w2 (some ⟨g, 0, none⟩) m.reverse from fun i hi => by
    rw [List.length_reverse] at hi
    obtain ⟨r, d', e, hx, hk⟩ := Hval.out (m.length - 1 - i) (by omega)
    have hc := World.ownsRow.cellAt hown i (by omega)
    rw [gr_reverse hi]
    refine ⟨g, 0, r, d', rfl, ?_, hx.below (Hb1.out.trans hb2), hk⟩
    rw [Nat.zero_add, hc, List.getElem?_reverse (by rw [Hvl.out]; exact hi), Hvl.out, ← e]
    simp [List.getD, List.getElem?_eq_getElem (show m.length - 1 - i < vs.length by rw [Hvl.out]; omega)])
  have Hb2 := Lib.hid (Hb1.out.trans hb2)
  clear hown hb2
  go_wp2
  go_ret
  exact ⟨_, rfl, ⟨g, _, rfl, hgB, Hfin.out⟩, Hb2.out⟩
end Go.Proofs.YtmkldodkpijfjaaDoor

namespace Go.Proofs.YtmkldodkpijfjaaDoor
open Go.RowKit

def lenC (n : Nat) : Bool := (subs (iota n)).all fun s => (compl n s).length + s.length == n
set_option maxRecDepth 1000000 in
theorem len_ok : lenC 1 = true ∧ lenC 2 = true ∧ lenC 3 = true ∧ lenC 4 = true ∧ lenC 5 = true ∧ lenC 6 = true := by decide +kernel
theorem compl_len {n : Nat} (h1 : 1 ≤ n) (h6 : n ≤ 6) {s : List Int} (hs : s.Sublist (iota n)) : (compl n s).length + s.length = n := by
  have h : lenC n = true := by
    obtain ⟨a, b, c, d, e, f⟩ := len_ok
    rcases (by omega : n = 1 ∨ n = 2 ∨ n = 3 ∨ n = 4 ∨ n = 5 ∨ n = 6) with rfl | rfl | rfl | rfl | rfl | rfl
    · exact a
    · exact b
    · exact c
    · exact d
    · exact e
    · exact f
  have := List.all_eq_true.1 h s (mem_subs hs)
  simpa using this
theorem ways_compl {n : Nat} (h1 : 1 ≤ n) (h6 : n ≤ 6) {s : List Int} (hs : s.Sublist (iota n)) (hl : s.length < n) : waysB n s = ways (compl n s) := by
  have h := List.all_eq_true.1 (ways_all h1 h6) s (mem_subs hs)
  simp only [Bool.or_eq_true, decide_eq_true_eq, beq_iff_eq] at h
  have hc := compl_len h1 h6 hs
  rcases h with h | h
  · omega
  · have e1 : waysB n s = potL (iterT (dnCh n) (n - s.length) [((s, 0), 1)]) (fun _ => 1) := by unfold waysB; rw [ways_tab0]
    have e2 := climb_tab0 (fun _ _ => 0) (fun _ _ => 1) (n - s.length - 1) (compl n s)
    rw [climb_ways] at e2
    rw [e1, h, ← e2]
    unfold ways
    rw [show (compl n s).length = n - s.length from by omega]
end Go.Proofs.YtmkldodkpijfjaaDoor

namespace Go.Proofs.YtmkldodkpijfjaaDoor
open Go.RowKit

theorem good_reverse {m : List (List Int)} (h : good m) : good m.reverse := by
  obtain ⟨hs, hr, _⟩ := id h
  have hl : m.reverse.length = m.length := List.length_reverse
  refine ⟨⟨by rw [hl]; exact hs.1, by rw [hl]; exact hs.2.1, fun i hi => ?_⟩, fun i hi => ?_, fun j hj => ?_⟩
  · rw [hl] at hi ⊢
    rw [gr_reverse hi]
    exact hs.2.2 _ (by omega)
  · rw [hl] at hi
    rw [gr_reverse hi]
    exact hr _ (by omega)
  · rw [tr_len, hl] at hj
    have hj' : j < m.reverse.length := by rw [hl]; exact hj
    refine ⟨fun k hk => ?_, ?_⟩
    · rw [tr_row hj', hl] at hk
      rw [← colR_tr hj' k (by rw [hl]; exact hk)]
      have h1 := colR_reverse m j k hk
      rw [colR_full h hj] at h1
      have h2 := colR_01 h hj (show m.length - k ≤ m.length by omega)
      omega
    · rw [tr_row hj', ← colR_tr hj' _ (Nat.le_refl _), hl]
      have h1 := colR_reverse m j m.length (Nat.le_refl _)
      rw [colR_full h hj, Nat.sub_self] at h1
      simpa [colR] using h1
/-- the row n-1-k of the triangle upside down -/
theorem gr_triM_reverse {m : List (List Int)} (h : good m) {i : Nat} (hi : i < m.length) : gr (triM m.reverse) i = compl m.length (triRow m (m.length - (i + 1))) := by
  rw [gr_triM (by rw [List.length_reverse]; exact hi), triRow_reverse h (by omega)]
end Go.Proofs.YtmkldodkpijfjaaDoor

namespace Go.Proofs.YtmkldodkpijfjaaDoor
open Go.RowKit Go.Maps
open Go.WideMaps (KeyLaw)

set_option maxRecDepth 100000 in
set_option maxHeartbeats 6400000 in
theorem climb_noScore (sc : List Int → List Int → Int) (hf : Scores 96 sc) (R : List Pos) (hR : ∀ p ∈ R, vk p ∧ p.1.length ≤ 6) (hR2 : ∀ p ∈ stepR sc R, vk p) (hRl : (stepR sc R).length < 9223372036854775807)
    (hsc : ∀ p ∈ R, ∀ ys ∈ above p.1, -1000 ≤ sc p.1 ys ∧ sc p.1 ys ≤ 1000) (bn bx : Nat) (hne : bn ≠ bx) (L0 : List Ent) (hL0 : ∀ x ∈ L0, x.1 ∈ R) (w : World) (hn : MapW Tryd.prog 90 3 w bn L0) (hx : MapW Tryd.prog 90 3 w bx []) (hD : Dj w) (hG : 1 < bx) (hG2 : 1 < bn) :
    Calls Tryd.prog 108 #[.map (some bn), .map (some bx), .func (.func 96) #[] #[]] w fun e w' => e = .returned (.tuple #[]) ∧ ∃ Lx, MapW Tryd.prog 90 3 w' bn [] ∧ MapW Tryd.prog 90 3 w' bx Lx ∧ (∀ x ∈ Lx, x.1 ∈ stepR sc R) ∧
      (∀ φ, Cg (potL Lx φ) (potL L0 (psi sc φ))) ∧ ∀ B, B ≤ bn → B ≤ bx → B ≤ w.heap.size → Below B w w' := by
  obtain ⟨D0, hown0, hd0⟩ := hn
  have Hf := Lib.hid hf
  have HR := Lib.hid hR
  have HR2 := Lib.hid hR2
  have Hsc := Lib.hid hsc
  have HL0 := Lib.hid hL0
  have Hx := Lib.hid hx
  have HD := Lib.hid hD
  have Hd0 := Lib.hid hd0
  clear hf hR hR2 hsc hL0 hx hD hd0
  go_enter Tryd.func108, Tryd.ntmps108
  go_wp2_with (at_range; refine wpList_range_own _ rfl _ 87 rfl 90 3 S_st.K Tryd.underlying87 (plainElem Tryd.prog 3) bn L0.length D0 rfl hown0 ?_; intro w0 hrg0 hg0 hs0)
  go_frame
  go_loopw [12] (fun _ wr => ∃ (D : DataW Nat) (L Lx : List Ent) (left : Lit → Bool) (cnt : Nat), wr.ranges Tryd.prog 90 (plainElem Tryd.prog 3) bn w.heap.size L0.length D left cnt ∧ MapD Tryd.prog 90 D L ∧ (∀ p, vk p → Maps.has D (kl Tryd.prog 90 p) = left (kl Tryd.prog 90 p)) ∧
      (∀ x ∈ L, x.1 ∈ R) ∧ MapW Tryd.prog 90 3 wr bx Lx ∧ (∀ x ∈ Lx, x.1 ∈ stepR sc R) ∧ (∀ φ, Cg (potL Lx φ + potL L (psi sc φ)) (potL L0 (psi sc φ))) ∧ (∀ B, B ≤ bn → B ≤ bx → B ≤ w.heap.size → Below B w wr) ∧ w.heap.size ≤ wr.heap.size ∧ Dj wr) (fun _ wr => wr.rangeLeft bn w.heap.size)
  case atStart => exact ⟨D0, L0, [], _, _, hrg0, Hd0.out, fun _ _ => rfl, HL0.out, Hx.out.kept hg0 (by simp), (fun x hx => by cases hx), (fun φ => by simpa [potL, sumL] using Cg.refl _), (fun B _ _ hB => (Below.refl _ _).grown hg0 hB (fun _ h => by cases h)), by omega, HD.out.grown (hg0.but (some bx)) hG⟩
  case round =>
    obtain ⟨D, L, Lx, left, cnt, hrg, hmd, hleft, hLR, hmx, hLx, hpot, hfr, hsz, hDr⟩ := hrel
    go_wp2_with (at_next; refine wpList_next_ranges _ rfl _ rfl 90 S_st.K (plainElem Tryd.prog 3) (fun x : Value => x) (fun x : Int => .int .i64 x) (fun key _ _ => ⟨key, rfl⟩) (fun v y hv => by obtain ⟨c, e, _⟩ := plainElem_int_inv Tryd.underlying3 hv; exact ⟨c, e⟩) bn w.heap.size L0.length D left cnt rfl hrg ?_ ?_)
    · intro _ hl0
      have hL : L = [] := by
        cases L with
        | nil => rfl
        | cons x r =>
          have h1 := hmd.has S_st (hmd.ok x (by simp))
          rw [hleft _ (hmd.ok x (by simp)), hl0] at h1
          simp at h1
      subst hL
      have hown := hrg.owns
      have Hfin := Lib.hid (show MapW Tryd.prog 90 3 wr bn [] ∧ MapW Tryd.prog 90 3 wr bx Lx ∧ (∀ x ∈ Lx, x.1 ∈ stepR sc R) ∧ (∀ φ, Cg (potL Lx φ) (potL L0 (psi sc φ))) ∧ ∀ B, B ≤ bn → B ≤ bx → B ≤ w.heap.size → Below B w wr from
        ⟨MapW.of hown hmd, hmx, hLx, fun φ => by have := hpot φ; simpa [potL, sumL] using this, hfr⟩)
      clear hrg hmd hleft hLR hmx hLx hpot hfr hown hl0
      go_wp2
      go_end0
      exact ⟨rfl, Lx, Hfin.out⟩
    · intro key c kl1 y1 y2 w1 cnt1 hkey hlk hRv hat hrg1 hlt hg1 hs1 hen
      obtain ⟨x, hxL, hxk⟩ := hmd.key_of (Maps.has_true_of_atKey hat)
      obtain ⟨⟨xs, s⟩, cx⟩ := x
      have hvk := hmd.ok _ hxL
      simp only at hxk hvk
      have hkey2 : key = ky (xs, s) := S_st.K.inj hkey (by rw [← hxk]; exact kl_is S_st hvk)
      have hc : c = getC L (xs, s) := by
        obtain ⟨c', e1, e2, _⟩ := plainElem_int_inv Tryd.underlying3 hRv
        have h1 := hmd.atKey S_st hvk
        have e3 : y1 = .lit (.int .i64 c') := congrArg Prod.fst e2
        rw [hxk, hat, e3] at h1
        simp at h1 e1
        rw [e1, h1]
      subst hkey2
      subst hxk
      have Hlo := Lib.hid hrg.left_eq
      have Hlt := Lib.hid hlt
      have Hgr := Lib.hid hg1
      have hpR := hLR _ hxL
      simp only at hpR
      have h6 := (HR.out _ hpR).2
      have hrise := hvk.1
      have hxlt := hmx.lt
      have hbxw : bx < w.heap.size := (Hx.out).lt
      have hsz1 : w1.heap.size = wr.heap.size := hs1
      have Hsz1 := Lib.hid hsz1
      have Hrg1 := Lib.hid hrg1
      have Hmd := Lib.hid hmd
      have Hleft := Lib.hid hleft
      have HLR := Lib.hid hLR
      have HLx := Lib.hid hLx
      have Hpot := Lib.hid hpot
      have Hfr := Lib.hid hfr
      have Hvk := Lib.hid hvk
      have HpR := Lib.hid hpR
      have Hc := Lib.hid hc
      have HxL := Lib.hid hxL
      have hg1' : wr.grownBy w1 (some w.heap.size) := hg1
      have Hmx := Lib.hid (hmx.kept hg1 (by simp; omega))
      have hD1 : Dj w1 := hDr.grown hg1' (by omega)
      obtain ⟨w2, hw2⟩ : ∃ w2, w2 = w1.alloc (.cells #[.int .u64 (mask xs : Nat), .int .i64 s] 90) := ⟨_, rfl⟩
      have hset := setsAbove_any hrise h6 w2 (by rw [hw2]; exact hD1.next ((Below.refl _ _).alloc (Nat.le_refl _) _))
      obtain ⟨m, hm⟩ : ∃ m : Int, m = (mask xs : Nat) := ⟨_, rfl⟩
      have hky : ky (xs, s) = .agg #[.int .u64 m, .int .i64 s] := by rw [hm]; rfl
      rw [hky] at hen
      rw [← hm] at hset hw2
      have Hset := Lib.hid hset
      have Hm := Lib.hid hm
      have hD2 := Lib.hid (show Dj w2 by rw [hw2]; exact hD1.next ((Below.refl _ _).alloc (Nat.le_refl _) _))
      have Hg12 := Lib.hid (show w1.grownBy w2 none by rw [hw2]; exact World.grownBy_alloc _ _ _)
      have Hcell0 := Lib.hid (show w2.cell? ⟨w1.heap.size, 0, none⟩ = some (.int .u64 m) by rw [hw2]; exact cell_new _ _ _ 0)
      have Hcell1 := Lib.hid (show w2.cell? ⟨w1.heap.size, 1, none⟩ = some (.int .i64 s) by rw [hw2]; exact cell_new _ _ _ 1)
      have Hsz2 := Lib.hid (show w2.heap.size = w1.heap.size + 1 by rw [hw2]; simp)
      clear hset hat hRv hkey hlk hg1 hg1' hrg hrg1 hmd hleft hLR hmx hLx hpot hfr hvk hpR hc hxL hD1 hm hsz1 hs1 hlt
      rw [hky]
      clear hky
      go_wp2_with fail
      rw [← hw2]
      refine Hset.out.mono ?_
      rintro e w3 ⟨v, rfl, hv, hb3⟩
      obtain ⟨sa, sc', hsv, hsc1, hsc2, hsr⟩ := hv.read
      obtain ⟨A, hA⟩ : ∃ A, A = above xs := ⟨_, rfl⟩
      rw [← hA] at hsv hv hsr
      obtain ⟨al, hal⟩ : ∃ al, al = A.length := ⟨_, rfl⟩
      rw [← hal] at hsv
      subst hsv
      have hamx : al ≤ 9223372036854775807 := by
        rw [hal, hA]
        have h1 := above_len hrise
        have h2 : 16 ^ (xs.length - 1) ≤ 16 ^ 5 := Nat.pow_le_pow_right (by omega) (by omega)
        omega
      have hbw1 : w.heap.size ≤ w1.heap.size := by have := Hsz1.out; omega
      have Hg13 := Lib.hid (show w1.grownBy w3 none from Hg12.out.trans (grown_of_below hb3))
      have Hmx3 := Lib.hid (Hmx.out.kept Hg13.out (by simp))
      have Hcell0' := Lib.hid (cell_below Hcell0.out hb3)
      have Hcell1' := Lib.hid (cell_below Hcell1.out hb3)
      have HD3 := Lib.hid (hD2.out.next hb3)
      have Hv := Lib.hid hv
      have Hsr := Lib.hid hsr
      have HA := Lib.hid hA
      have Hal := Lib.hid hal
      have HB23 := Lib.hid hb3.size
      clear hv hsr hA hal hb3 Hcell0 Hcell1 hD2 hsc1 hsc2
      go_wp2
      go_loopw [21] (fun i wi => ∃ (t : Nat) (Ly : List Ent), t ≤ al ∧ i = .int .i64 t ∧ MapW Tryd.prog 90 3 wi bx Ly ∧ (∀ x ∈ Ly, x.1 ∈ stepR sc R) ∧ (∀ φ, Cg (potL Ly φ) (potL Lx φ + c * sumL (A.take t) (fun ys => φ (ys, s + sc xs ys)))) ∧ w3.grownBy wi (some bx)) (fun i _ => al - (intOf i).toNat)
      case atStart => exact ⟨0, Lx, Nat.zero_le _, rfl, Hmx3.out, HLx.out, fun φ => by simpa [sumL] using Cg.refl _, World.grownBy.refl _ _⟩
      case round =>
        obtain ⟨t, Ly, ht, rfl, hmy, hLy, hpy, hgi⟩ := hrel
        have Hgi := Lib.hid hgi
        have Hmy := Lib.hid hmy
        have HLy := Lib.hid hLy
        have Hpy := Lib.hid hpy
        by_cases htl : t < al
        · obtain ⟨sb, so, hse, hsc0⟩ := Hsr.out t (by rw [← Hal.out]; exact htl)
          have hsb : sb ≠ bx := fun e => by
            have := (World.ownsRow.lt Hv.out sb (by rw [hse]; rfl)).1
            have := Hsz2.out
            omega
          have hcs := hgi.cell hsc0 (by simpa using hsb)
          have hc0 := hgi.cell Hcell0'.out (by simp; omega)
          have hc1 := hgi.cell Hcell1'.out (by simp; omega)
          obtain ⟨ys, hys⟩ : ∃ ys, ys = gr A t := ⟨_, rfl⟩
          rw [← hys] at hcs
          have hysm : ys ∈ above xs := by rw [hys, ← HA.out]; exact gr_mem (by rw [← Hal.out]; exact htl)
          have hDi : Dj wr := HD3.out.grown hgi hG
          obtain ⟨my, hmyv⟩ : ∃ my : Int, my = (mask ys : Nat) := ⟨_, rfl⟩
          obtain ⟨q, hq⟩ : ∃ q, q = sc xs ys := ⟨_, rfl⟩
          have hqb := Hsc.out _ HpR.out ys hysm
          simp only at hqb
          rw [← hq] at hqb
          have hcall := Hf.out xs ys wr.drew hrise h6 hysm hDi
          rw [← hmyv, ← hq, ← Hm.out] at hcall
          have hcs' : wr.cell? ⟨sb, so + t, none⟩ = some (.int .u64 my) := by rw [hmyv]; exact hcs
          have hpos : (ys, s + q) ∈ stepR sc R := by rw [hq]; exact mem_stepR HpR.out hysm
          have hvy := HR2.out _ hpos
          have hLyl : Ly.length < 9223372036854775807 := by
            obtain ⟨Dy, _, hdy⟩ := Hmy.out
            exact Nat.lt_of_le_of_lt (nodup_len hdy.nd HLy.out) hRl
          obtain ⟨g, hgv⟩ : ∃ g, g = getC Ly (ys, s + q) := ⟨_, rfl⟩
          obtain ⟨v', hv'⟩ : ∃ v', v' = wrap64 (g + c) := ⟨_, rfl⟩
          have hfacts : ∀ w', Below wr.drew.heap.size wr.drew w' → w'.cell? ⟨w1.heap.size, 0, none⟩ = some (.int .u64 m) ∧ w'.cell? ⟨w1.heap.size, 1, none⟩ = some (.int .i64 s) ∧ ∃ (v0 : Value) (st : Int) (w5 w6 : World),
              (Instr.lookup 87 (.map (some bx)) (.agg #[.int .u64 my, .int .i64 (s + q)]) false).run Tryd.prog w' = .ok (.int .i64 g) w' ∧ (Instr.mapEntry 87 (.map (some bx)) (.agg #[.int .u64 my, .int .i64 (s + q)])).run Tryd.prog w' = .ok (.tuple #[v0, .int .i64 st]) w5 ∧ (Instr.lookup 87 (.map (some bx)) (.agg #[.int .u64 my, .int .i64 (s + q)]) false).run Tryd.prog w5 = .ok (.int .i64 g) w5 ∧
              (Instr.entryStore 87 (.map (some bx)) (.int .i64 st) (.int .i64 v')).run Tryd.prog w5 = .ok () w6 ∧ MapW Tryd.prog 90 3 w6 bx (((ys, s + q), v') :: strike Ly (ys, s + q)) ∧ wr.grownBy w6 (some bx) := by
            intro w' hb'
            have hgw : wr.grownBy w' none := grown_of_below ((below_drewN (Below.refl _ _) 1).trans hb')
            refine ⟨hgw.cell hc0 (by simp), hgw.cell hc1 (by simp), ?_⟩
            obtain ⟨v0, st, w5, w6, r1, r2, rl, r3, r4, r5, _⟩ := (Hmy.out.kept hgw (by simp)).add S_st Tryd.law_st Tryd.underlying87 zero_int hLyl hvy c
            have hky2 : ky (ys, s + q) = .agg #[.int .u64 my, .int .i64 (s + q)] := by rw [hmyv]; rfl
            rw [hky2, ← hgv] at r1
            rw [hky2] at r2
            rw [hky2, ← hgv] at rl
            rw [← hgv, ← hv'] at r3 r4
            exact ⟨v0, st, w5, w6, r1, r2, rl, r3, r4, (hgw.but (some bx)).trans r5⟩
          have hws : IntKind.i64.wrap (s + q) = s + q := i64_small (by have := Hvk.out.2; simp at this; omega) (by have := Hvk.out.2; simp at this; omega)
          have hwv : IntKind.i64.wrap (g + c) = v' := by rw [i64_wrap, hv']
          have Hfacts := Lib.hid hfacts
          have Hcall := Lib.hid hcall
          have Hnext := Lib.hid (show ∀ φ, Cg (potL (((ys, s + q), v') :: strike Ly (ys, s + q)) φ) (potL Lx φ + c * sumL (A.take (t + 1)) (fun ys => φ (ys, s + sc xs ys))) from fun φ => by
            obtain ⟨Dy, _, hdy⟩ := Hmy.out
            have h1 := potL_put hdy.nd (ys, s + q) c φ
            rw [← hgv, ← hv'] at h1
            refine h1.trans ?_
            have h2 := Hpy.out φ
            have e : sumL (A.take (t + 1)) (fun ys => φ (ys, s + sc xs ys)) = sumL (A.take t) (fun ys => φ (ys, s + sc xs ys)) + φ (ys, s + q) := by
              rw [List.take_succ_eq_append_getElem (by rw [← Hal.out]; exact htl), sumL_append, hys, gr_lt (by rw [← Hal.out]; exact htl)]
              simp [sumL, hq, hys, gr_lt (show t < A.length by rw [← Hal.out]; exact htl)]
            rw [e, Int.mul_add, ← Int.add_assoc]
            exact h2.add (Cg.refl _))
          have Hpos := Lib.hid hpos
          clear hgi hmy hLy hpy hsc0 hcs hysm hDi hmyv hq hqb hcall hpos hvy hLyl hgv hv' hfacts hys
          subst hse
          go_wp2
          go_region_with (go_at_call 96; refine Hcall.out.mono ?_; rintro e w' ⟨rfl, hb⟩; obtain ⟨hd0, hd1, v0, st, w5, w6, r1, r2, rl, r3, r4, r5⟩ := Hfacts.out w' hb)
          all_goals
            have Hr4 := Lib.hid r4
            have Hr5 := Lib.hid r5
            clear hb hd0 hd1 r1 r2 rl r3 r4 r5
            go_wp2
            go_roundw
            case rel =>
              refine ⟨t + 1, _, by omega, by go_num, Hr4.out, fun x hx => ?_, Hnext.out, Hgi.out.trans Hr5.out⟩
              rcases List.mem_cons.1 hx with rfl | hx
              · exact Hpos.out
              · exact HLy.out x (List.mem_filter.1 hx).1
            case measure => simp [intOf]; omega
        · obtain rfl : t = al := by omega
          have hpy2 : ∀ φ, Cg (potL Ly φ) (potL Lx φ + c * psi sc φ (xs, s)) := fun φ => by
            have := Hpy.out φ
            rw [Hal.out, List.take_length, HA.out] at this
            exact this
          have hrgr := Hrg1.out.kept (row := some bx) ((Hg13.out.but (some bx)).trans Hgi.out) (by simp; omega) (by simp; omega)
          have hc0 := Hgi.out.cell Hcell0'.out (by simp; omega)
          have hc1 := Hgi.out.cell Hcell1'.out (by simp; omega)
          have hnew := Lib.hid (show ∀ φ, Cg (potL Ly φ + potL (strike L (xs, s)) (psi sc φ)) (potL L0 (psi sc φ)) from fun φ => by
            have h1 := potL_strike Hmd.out.nd (xs, s) (psi sc φ)
            rw [← Hc.out] at h1
            have h2 := Hpot.out φ
            rw [h1] at h2
            refine Cg.trans ?_ h2
            have h3 := (hpy2 φ).add (Cg.refl (potL (strike L (xs, s)) (psi sc φ)))
            rw [Int.add_assoc] at h3
            exact h3)
          have hkeyp : keyOf Tryd.prog 90 (.agg #[.int .u64 m, .int .i64 s]) = some (kl Tryd.prog 90 (xs, s)) := by rw [Hm.out]; exact kl_is S_st Hvk.out
          have hdr := HD3.out.grown Hgi.out hG
          have Hrgr := Lib.hid hrgr
          have Hkeyp := Lib.hid hkeyp
          have Hdr := Lib.hid hdr
          have HBr := Lib.hid (show w3.heap.size ≤ wr.heap.size from Hgi.out.size)
          clear hpy2 hrgr hkeyp hdr
          go_wp2_with (at_delete; refine wpList_delete_ranges _ rfl _ _ 87 90 rfl 3 S_st.K Tryd.underlying87 (plainElem Tryd.prog 3) bn w.heap.size L0.length D _ cnt1 rfl Hrgr.out _ _ rfl Hkeyp.out ?_; intro w5 cnt2 hrg2 hle hturn; go_frame)
          rw [Maps.strike_twice] at hrg2
          have hg5 : wr.grownBy w5 (some bn) := hturn.grown
          have Hrel := Lib.hid (show ∃ (D' : DataW Nat) (L' Lx' : List Ent) (left' : Lit → Bool) (cnt' : Nat), w5.ranges Tryd.prog 90 (plainElem Tryd.prog 3) bn w.heap.size L0.length D' left' cnt' ∧ MapD Tryd.prog 90 D' L' ∧ (∀ p, vk p → Maps.has D' (kl Tryd.prog 90 p) = left' (kl Tryd.prog 90 p)) ∧
              (∀ x ∈ L', x.1 ∈ R) ∧ MapW Tryd.prog 90 3 w5 bx Lx' ∧ (∀ x ∈ Lx', x.1 ∈ stepR sc R) ∧ (∀ φ, Cg (potL Lx' φ + potL L' (psi sc φ)) (potL L0 (psi sc φ))) ∧ (∀ B, B ≤ bn → B ≤ bx → B ≤ w.heap.size → Below B w w5) ∧ w.heap.size ≤ w5.heap.size ∧ Dj w5 from by
            refine ⟨_, strike L (xs, s), Ly, _, cnt2, hrg2, Hmd.out.del S_st Hvk.out, fun p hp => ?_, fun x hx => HLR.out x (List.mem_filter.1 hx).1, Hmy.out.kept hg5 (by simp; omega), HLy.out, hnew.out, fun B h1 h2 h3 => ?_, ?_, Hdr.out.grown hg5 hG2⟩
            · by_cases e : p = (xs, s)
              · subst e
                rw [Maps.has_del_same, WideAt.sameKey_self (kl_key S_st hp)]
                simp
              · have hne2 : kl Tryd.prog 90 p ≠ kl Tryd.prog 90 (xs, s) := fun e2 => e (kl_inj S_st hp Hvk.out e2)
                rw [Maps.has_del_other hne2, Hleft.out p hp, Maps.sameKey_ne hne2]
                simp
            · have q1 := (Hfr.out B h1 h2 h3).grown Hgr.out (by omega) (fun k hk => by cases hk; exact h3)
              have q2 := q1.grown Hg13.out (by omega) (fun k hk => by cases hk)
              have q3 := q2.grown Hgi.out (by have := Hg13.out.size; omega) (fun k hk => by cases hk; exact h2)
              exact q3.grown hg5 (by have := Hg13.out.size; have := HBr.out; omega) (fun k hk => by cases hk; exact h1)
            · have := Hg13.out.size; have := HBr.out; have := hg5.size; omega)
          have hm2 := hrg2.left_eq
          have Hm2 := Lib.hid hm2
          clear hrg2 hturn hg5 hm2 hc0 hc1
          go_roundw
          case rel => exact Hrel.out
          case measure => rw [Hm2.out, Hlo.out]; have := Hlt.out; omega
end Go.Proofs.YtmkldodkpijfjaaDoor

namespace Go.Proofs.YtmkldodkpijfjaaDoor
open Go.RowKit Go.Maps
open Go.WideMaps (KeyLaw)


set_option maxRecDepth 100000 in
set_option maxHeartbeats 1600000 in
theorem climbed_noScore (sc : List Int → List Int → Int) (hf : Scores 96 sc) (hb : SmallSc sc) {xs : List Int} (hr : Rise xs) (h1 : 1 ≤ xs.length) (h6 : xs.length ≤ 6) (w : World) (hD : Dj w) :
    Calls Tryd.prog 95 #[.int .u64 (mask xs : Nat), .func (.func 96) #[] #[]] w fun e w' => ClimbsTo sc xs w e w' := by
  have hv0 : vk (xs, 0) := ⟨hr, by simp, by simp⟩
  obtain ⟨w1, hrun, hown1, hg1⟩ := (World.ownsMap_made (H := Nat) w Tryd.prog 90 (plainElem Tryd.prog 3)).update S_st.K Tryd.underlying87 (by unfold maxLen; omega) (kl_is S_st hv0) (plainElem_int Tryd.underlying3 (a := 1) (by decide))
  have hm1 : MapW Tryd.prog 90 3 w1 w.heap.size [((xs, 0), 1)] := MapW.of hown1 (by have := (MapD.empty (P := Tryd.prog) (k := 90)).put S_st hv0 1; simpa [strike] using this)
  have hb1 : Below w.heap.size w w1 := ((Below.refl _ w).alloc (Nat.le_refl _) _).grown hg1 (by simp) (fun k hk => by cases hk; exact Nat.le_refl _)
  have hs1 : w.heap.size + 1 ≤ w1.heap.size := by have := hg1.size; simp at this; exact this
  have hm2 : MapW Tryd.prog 90 3 (w1.alloc (.map #[] 0)) w1.heap.size [] := MapW.of (World.ownsMap_made w1 _ _ _) MapD.empty
  have hm1' : MapW Tryd.prog 90 3 (w1.alloc (.map #[] 0)) w.heap.size [((xs, 0), 1)] := hm1.kept (World.grownBy_alloc w1 _ none) (by simp)
  have hb2 : Below w.heap.size w (w1.alloc (.map #[] 0)) := hb1.alloc (by omega) _
  have hsz := size_any hr h6 (w1.alloc (.map #[] 0))
  have hGw := hD.lt
  have hky : ky (xs, 0) = .agg #[.int .u64 (mask xs : Nat), .int .i64 0] := rfl
  rw [hky] at hrun
  obtain ⟨m, hm⟩ : ∃ m : Int, m = (mask xs : Nat) := ⟨_, rfl⟩
  rw [← hm] at hrun hsz ⊢
  have hmm := @run_makeMap Tryd.prog
  have Hsz := Lib.hid hsz
  have Hstart := Lib.hid (And.intro hm1' (And.intro hm2 hb2))
  have Hb := Lib.hid hb
  have Hr := Lib.hid hr
  have Hf := Lib.hid hf
  have HD := Lib.hid hD
  have Hs1 := Lib.hid hs1
  clear hv0 hown1 hg1 hm1 hb1 hm2 hm1' hb2 hsz hm hky hb hr hf hD hs1
  go_enter Tryd.func95, Tryd.ntmps95
  go_wp2_with fail
  refine Hsz.out.mono ?_
  rintro e w2 ⟨rfl, rfl⟩
  go_wp2
  go_loopw [5, 6, 15] (fun now next i wr => ∃ (k bn bx : Nat) (L : List Ent), k + 1 ≤ xs.length ∧ i = .int .i64 (k : Int) ∧ now = .map (some bn) ∧ next = .map (some bx) ∧ bn ≠ bx ∧ w.heap.size ≤ bn ∧ w.heap.size ≤ bx ∧ MapW Tryd.prog 90 3 wr bn L ∧ MapW Tryd.prog 90 3 wr bx [] ∧
      (∀ x ∈ L, x.1 ∈ reach sc xs k) ∧ (∀ φ, Cg (potL L fun p => climbW sc φ (xs.length - 1 - k) p.1 p.2) (climbW sc φ (xs.length - 1) xs 0)) ∧ Below w.heap.size w wr ∧ w.heap.size ≤ wr.heap.size) (fun _ _ i _ => xs.length - (intOf i).toNat)
  case atStart => exact ⟨0, w.heap.size, w1.heap.size, _, h1, rfl, rfl, rfl, by have := Hs1.out; omega, Nat.le_refl _, by have := Hs1.out; omega, Hstart.out.1, Hstart.out.2.1, fun x hx => by simp at hx; subst hx; simp [reach], fun φ => by simpa [potL, sumL] using Cg.refl _, Hstart.out.2.2, by have := Hs1.out; simp; omega⟩
  case round =>
    obtain ⟨k, bn, bx, L, hk, rfl, rfl, rfl, hne, hbn, hbx, hmn, hmx, hkeys, hpot, hbr, hsr⟩ := hrel
    by_cases hlt : k + 1 < xs.length
    · have hlt' : (k : Int) < (xs.length : Int) - 1 := by omega
      have hcall := climb_noScore sc Hf.out (reach sc xs k) (fun p hp => reach_vk Hb.out Hr.out h6 hp) (fun p hp => (reach_vk Hb.out Hr.out h6 (j := k + 1) hp).1) (reach_short Hb.out Hr.out h6 (j := k + 1) (by omega))
        (fun p hp ys hy => by have := Hb.out p.1 ys (reach_vk Hb.out Hr.out h6 hp).1.1 (reach_vk Hb.out Hr.out h6 hp).2 hy; omega) bn bx hne L hkeys wr hmn hmx (HD.out.next hbr) (by omega) (by omega)
      have Hcall := Lib.hid hcall
      have Hpot := Lib.hid hpot
      have Hbr := Lib.hid hbr
      clear hcall hmn hmx hkeys hpot hbr
      go_wp2_with fail
      refine Hcall.out.mono ?_
      rintro e w3 ⟨rfl, Lx, hn3, hx3, hk3, hp3, hf3⟩
      have Hrel := Lib.hid (show ∃ (L : List Ent), MapW Tryd.prog 90 3 w3 bx L ∧ MapW Tryd.prog 90 3 w3 bn [] ∧ (∀ x ∈ L, x.1 ∈ reach sc xs (k + 1)) ∧ (∀ φ, Cg (potL L fun p => climbW sc φ (xs.length - 1 - (k + 1)) p.1 p.2) (climbW sc φ (xs.length - 1) xs 0)) ∧ Below w.heap.size w w3 ∧ w.heap.size ≤ w3.heap.size from by
        have hb3 := hf3 w.heap.size hbn hbx hsr
        refine ⟨Lx, hx3, hn3, hk3, fun φ => ?_, Hbr.out.trans hb3, Nat.le_trans hsr hb3.size⟩
        have h1 := hp3 (fun p => climbW sc φ (xs.length - 1 - (k + 1)) p.1 p.2)
        have h2 := Hpot.out φ
        rw [show xs.length - 1 - k = (xs.length - 1 - (k + 1)) + 1 from by omega] at h2
        exact h1.trans h2)
      clear hn3 hx3 hk3 hp3 hf3
      go_wp2
      go_roundw
      case rel =>
        obtain ⟨L', q1, q2, q3, q4, q5, q6⟩ := Hrel.out
        exact ⟨k + 1, bx, bn, L', hlt, by go_num, rfl, rfl, hne.symm, hbx, hbn, q1, q2, q3, q4, q5, q6⟩
      case measure => simp [intOf]; omega
    · obtain rfl : k = xs.length - 1 := by omega
      have hfin := Lib.hid (show ClimbsTo sc xs w (.returned (.map (some bn))) wr from ⟨bn, L, rfl, hmn, hbn, hkeys, fun φ => by have := hpot φ; rw [Nat.sub_self] at this; exact this, hbr⟩)
      have hlt' : ¬ (((xs.length - 1 : Nat) : Int) < (xs.length : Int) - 1) := by omega
      clear hmn hmx hkeys hpot hbr
      go_wp2
      go_ret
      exact hfin.out
end Go.Proofs.YtmkldodkpijfjaaDoor

namespace Go.Proofs.YtmkldodkpijfjaaDoor
open Go.RowKit Go.Maps

theorem noScore_any : Scores 96 (fun _ _ => 0) := by
  intro xs ys w _ _ _ _
  obtain ⟨a, ha⟩ : ∃ a : Int, a = (mask xs : Nat) := ⟨_, rfl⟩
  obtain ⟨b, hb⟩ : ∃ b : Int, b = (mask ys : Nat) := ⟨_, rfl⟩
  rw [← ha, ← hb]
  clear ha hb
  go_enter Tryd.func96, Tryd.ntmps96
  go_wp2
  go_ret
  exact ⟨rfl, Below.refl _ _⟩

set_option maxRecDepth 100000 in
set_option maxHeartbeats 1600000 in
theorem countUnder_any {xs : List Int} (hr : Rise xs) (h1 : 1 ≤ xs.length) (h6 : xs.length ≤ 6) (w : World) (hD : Dj w) :
    Calls Tryd.prog 62 #[.int .u64 (mask xs : Nat)] w fun e w' => e = .returned (.int .i64 (wrap64 (ways xs))) ∧ Below w.heap.size w w' := by
  have hcl := climbed_noScore _ noScore_any (fun _ _ _ _ _ => by simp) hr h1 h6 w hD
  obtain ⟨m, hm⟩ : ∃ m : Int, m = (mask xs : Nat) := ⟨_, rfl⟩
  rw [← hm] at hcl ⊢
  have Hcl := Lib.hid hcl
  clear hcl hm hD
  go_enter Tryd.func62, Tryd.ntmps62
  go_wp2_with fail
  refine Hcl.out.mono ?_
  rintro e w1 ⟨bm, L0, rfl, hmw, hbm, hkeys, hpot, hb1⟩
  obtain ⟨D, hown, hd⟩ := hmw
  have hways : Cg (sumL L0 fun x => x.2) (ways xs) := by
    have := hpot fun _ _ => 1
    rw [climb_ways] at this
    unfold ways
    simpa [potL] using this
  have Hways := Lib.hid hways
  have Hb1 := Lib.hid hb1
  have Hd := Lib.hid hd
  clear hkeys hpot hways hb1 hd
  go_wp2_with (at_range; refine wpList_range_own _ rfl _ 87 rfl 90 3 S_st.K Tryd.underlying87 (plainElem Tryd.prog 3) bm L0.length D rfl hown ?_; intro w0 hrg0 hg0 hs0)
  go_frame
  go_loopw [3, 9] (fun s _ wr => ∃ (L : List Ent) (left : Lit → Bool) (cnt : Nat) (S : Int), s = .int .i64 S ∧ wr.ranges Tryd.prog 90 (plainElem Tryd.prog 3) bm w1.heap.size L0.length D left cnt ∧ (∀ x ∈ L, x ∈ L0) ∧ (L.map (·.1)).Nodup ∧ (∀ x ∈ L0, left (kl Tryd.prog 90 x.1) = L.any fun y => y.1 == x.1) ∧ Cg (S + sumL L fun x => x.2) (sumL L0 fun x => x.2) ∧ (-9223372036854775808 ≤ S ∧ S ≤ 9223372036854775807) ∧ Below w1.heap.size w1 wr) (fun _ _ wr => wr.rangeLeft bm w1.heap.size)
  case atStart => exact ⟨L0, _, _, 0, rfl, hrg0, fun x hx => hx, Hd.out.nd, fun x hx => Hd.out.has S_st (Hd.out.ok x hx), by simpa using Cg.refl _, by omega, (Below.refl _ _).grown hg0 (Nat.le_refl _) (fun _ h => by cases h)⟩
  case round =>
    obtain ⟨L, left, cnt, S, rfl, hrg, hLs, hnd, hleft, hcg, hSw, hbr⟩ := hrel
    go_wp2_with (at_next; refine wpList_next_ranges _ rfl _ rfl 90 S_st.K (plainElem Tryd.prog 3) (fun x : Value => x) (fun x : Int => .int .i64 x) (fun key _ _ => ⟨key, rfl⟩) (fun v y hv => by obtain ⟨c, e, _⟩ := plainElem_int_inv Tryd.underlying3 hv; exact ⟨c, e⟩) bm w1.heap.size L0.length D left cnt rfl hrg ?_ ?_)
    · intro _ hl0
      have hL : L = [] := by
        cases L with
        | nil => rfl
        | cons x r =>
          have h1 := hleft x (hLs x (by simp))
          rw [hl0] at h1
          simp at h1
      subst hL
      have hS : S = wrap64 (ways xs) := by
        rw [show S = wrap64 S by unfold wrap64; omega]
        refine Cg.wrap ?_
        have : Cg S (sumL L0 fun x => x.2) := by simpa [sumL] using hcg
        exact this.trans Hways.out
      have HS := Lib.hid hS
      have Hbr := Lib.hid (Hb1.out.trans (hbr.mono Hb1.out.size))
      clear hrg hLs hnd hleft hcg hSw hbr hl0 hS
      go_wp2
      go_ret
      exact ⟨by rw [HS.out]; rfl, Hbr.out⟩
    · intro key c kl1 y1 y2 w2 cnt1 hkey hlk hRv hat hrg1 hlt hg1 hs1 hen
      obtain ⟨x, hxL0, hxk⟩ := Hd.out.key_of (Maps.has_true_of_atKey hat)
      subst hxk
      have hvk := Hd.out.ok x hxL0
      have hkey2 : key = ky x.1 := S_st.K.inj hkey (kl_is S_st hvk)
      have hc : c = x.2 := by
        obtain ⟨c', e1, e2, _⟩ := plainElem_int_inv Tryd.underlying3 hRv
        have h1 := Hd.out.atKey S_st hvk
        have e3 : y1 = .lit (.int .i64 c') := congrArg Prod.fst e2
        rw [hat, e3, getC_of_mem Hd.out.nd hxL0] at h1
        simp at h1 e1
        rw [e1, h1]
      have hxL : x ∈ L := by
        have h1 := hleft x hxL0
        rw [hlk] at h1
        obtain ⟨y, hy, hye⟩ := List.any_eq_true.1 h1.symm
        have : y = x := nodup_fst Hd.out.nd (hLs y hy) hxL0 (by simpa using hye)
        rw [← this]; exact hy
      subst hkey2
      obtain ⟨key, hkk⟩ : ∃ key, key = ky x.1 := ⟨_, rfl⟩
      rw [← hkk] at hen ⊢
      have hstep := potL_strike hnd x.1 (fun _ => 1)
      rw [getC_of_mem hnd hxL, ← hc] at hstep
      have hst2 : sumL L (fun x => x.2) = c + sumL (strike L x.1) (fun x => x.2) := by simpa [potL] using hstep
      have Hlo := Lib.hid hrg.left_eq
      have Hrel := Lib.hid (show ∃ (L : List Ent) (left : Lit → Bool) (cnt : Nat), w2.ranges Tryd.prog 90 (plainElem Tryd.prog 3) bm w1.heap.size L0.length D left cnt ∧ (∀ x ∈ L, x ∈ L0) ∧ (L.map (·.1)).Nodup ∧ (∀ x ∈ L0, left (kl Tryd.prog 90 x.1) = L.any fun y => y.1 == x.1) ∧ Cg (wrap64 (S + c) + sumL L fun x => x.2) (sumL L0 fun x => x.2) ∧ (-9223372036854775808 ≤ wrap64 (S + c) ∧ wrap64 (S + c) ≤ 9223372036854775807) ∧ Below w1.heap.size w1 w2 from by
        refine ⟨strike L x.1, _, cnt1, hrg1, fun y hy => hLs y (List.mem_filter.1 hy).1, (List.filter_sublist.map _).nodup hnd, fun y hy => ?_, ?_, ?_, hbr.grown hg1 (by have := hbr.size; omega) (fun k hk => by cases hk; exact Nat.le_refl _)⟩
        · show (left (kl Tryd.prog 90 y.1) && !(kl Tryd.prog 90 y.1).sameKey (kl Tryd.prog 90 x.1)) = _
          rw [hleft y hy, sameKey_kl S_st hvk (Hd.out.ok y hy), Bool.eq_iff_iff, Bool.and_eq_true, List.any_eq_true, List.any_eq_true]
          constructor
          · rintro ⟨⟨z, hz, hze⟩, hne⟩
            refine ⟨z, List.mem_filter.2 ⟨hz, ?_⟩, hze⟩
            have e : z.1 = y.1 := by simpa using hze
            rw [e]; exact hne
          · rintro ⟨z, hz, hze⟩
            obtain ⟨hz1, hz2⟩ := List.mem_filter.1 hz
            have e : z.1 = y.1 := by simpa using hze
            rw [e] at hz2
            exact ⟨⟨z, hz1, hze⟩, hz2⟩
        · rw [hst2] at hcg
          refine Cg.trans ?_ hcg
          rw [← Int.add_assoc]
          exact (wrap_cg _).add (Cg.refl _)
        · unfold wrap64; omega)
      have Hlt := Lib.hid hlt
      have Hl2 := Lib.hid hrg1.left_eq
      clear hrg hLs hnd hleft hcg hSw hbr hkey hlk hRv hat hrg1 hlt hg1 hs1 hvk hc hxL hkk hstep hst2 hxL0
      go_wp2
      go_roundw
      case rel =>
        obtain ⟨L', l', c', q⟩ := Hrel.out
        exact ⟨L', l', c', _, rfl, q⟩
      case measure =>
        rw [Hl2.out, Hlo.out]
        have := Hlt.out
        omega

end Go.Proofs.YtmkldodkpijfjaaDoor

namespace Go.Proofs.YtmkldodkpijfjaaDoor
open Go.RowKit

def chosenF : List (List Int) → Int → List Int × Int
  | [], _ => ([], 0)
  | b :: bs, r => if r < wrap64 (ways b) then (b, r) else chosenF bs (wrap64 (r - wrap64 (ways b)))
theorem chosenF_step {bs : List (List Int)} {k : Nat} (h : k < bs.length) (r : Int) : chosenF (bs.drop k) r = if r < wrap64 (ways (gr bs k)) then (gr bs k, r) else chosenF (bs.drop (k + 1)) (wrap64 (r - wrap64 (ways (gr bs k)))) := by
  rw [List.drop_eq_getElem_cons h, chosenF, gr_lt h]

set_option maxRecDepth 100000 in
set_option maxHeartbeats 800000 in
theorem chosen_any (ao : Option Addr) (c : Nat) (bs : List (List Int)) (r : Int) (w : World) (hn : bs.length ≤ 1048576) (hbs : ∀ b ∈ bs, Rise b ∧ 1 ≤ b.length ∧ b.length ≤ 6) (hs : SetsAt w ao bs) (hD : Dj w) :
    Calls Tryd.prog 68 #[.slice ao bs.length c, .int .i64 r] w fun e w' => e = .returned (.tuple #[.int .u64 (mask (chosenF bs r).1 : Nat), .int .i64 (chosenF bs r).2]) ∧ Below w.heap.size w w' := by
  have hmx : bs.length ≤ 9223372036854775807 := by omega
  have Hbs := Lib.hid hbs
  have Hs := Lib.hid hs
  have HD := Lib.hid hD
  clear hbs hs hD
  go_enter Tryd.func68, Tryd.ntmps68
  go_wp2
  go_loopw [1, 11] (fun q i wr => ∃ (k : Nat) (r' : Int), k ≤ bs.length ∧ i = .int .i64 k ∧ q = .int .i64 r' ∧ chosenF bs r = chosenF (bs.drop k) r' ∧ Below w.heap.size w wr) (fun _ i _ => bs.length - (intOf i).toNat)
  case atStart => exact ⟨0, r, Nat.zero_le _, rfl, rfl, rfl, Below.refl _ _⟩
  case round =>
    obtain ⟨k, r', hk, rfl, rfl, hr, hbr⟩ := hrel
    by_cases hlt : k < bs.length
    · obtain ⟨b0, o0, rfl, hc0⟩ := Hs.out.below hbr k hlt
      obtain ⟨g1, g2, g3⟩ := Hbs.out _ (gr_mem hlt)
      have hcall := countUnder_any g1 g2 g3 wr (HD.out.next hbr)
      have hst := chosenF_step hlt r'
      unfold sv at hc0
      obtain ⟨m, hm⟩ : ∃ m : Int, m = (mask (gr bs k) : Nat) := ⟨_, rfl⟩
      obtain ⟨u, hu⟩ : ∃ u, u = wrap64 (ways (gr bs k)) := ⟨_, rfl⟩
      rw [← hm, ← hu] at hcall
      rw [← hm] at hc0
      rw [← hu] at hst
      have Hcall := Lib.hid hcall
      have Hbr := Lib.hid hbr
      have Hm := Lib.hid hm
      by_cases hru : r' < u
      · rw [if_pos hru] at hst
        have Hst := Lib.hid (hr.trans hst)
        have hd : decide (r' < u) = true := by simpa using hru
        clear hr hbr hcall hst hm hu hru g1 g2 g3
        go_wp2_with fail
        refine Hcall.out.mono ?_
        rintro e w2 ⟨rfl, hb2⟩
        have Hb2 := Lib.hid (Hbr.out.trans (hb2.mono Hbr.out.size))
        clear hb2
        go_wp2
        go_ret2
        exact ⟨by rw [Hst.out, Hm.out]; rfl, Hb2.out⟩
      · rw [if_neg hru] at hst
        have Hst := Lib.hid (hr.trans hst)
        have hd : decide (r' < u) = false := by simpa using hru
        clear hr hbr hcall hst hm hu hru g1 g2 g3
        go_wp2_with fail
        refine Hcall.out.mono ?_
        rintro e w2 ⟨rfl, hb2⟩
        have Hb2 := Lib.hid (Hbr.out.trans (hb2.mono Hbr.out.size))
        clear hb2
        go_wp2
        go_roundw
        case rel => exact ⟨k + 1, _, by omega, by go_num, rfl, Hst.out, Hb2.out⟩
        case measure => simp [intOf]; omega
    · obtain rfl : k = bs.length := by omega
      have Hst := Lib.hid (show chosenF bs r = ([], 0) by rw [hr, List.drop_of_length_le (Nat.le_refl _)]; rfl)
      have Hbr := Lib.hid hbr
      clear hr hbr
      go_wp2
      go_ret2
      exact ⟨by rw [Hst.out]; rfl, Hbr.out⟩
end Go.Proofs.YtmkldodkpijfjaaDoor

