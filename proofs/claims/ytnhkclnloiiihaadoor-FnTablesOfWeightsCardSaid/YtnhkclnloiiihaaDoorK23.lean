/- Parts of proofs: contracts and plain facts. Conditions: as each says. -/
import Derived.Test.YtnhkclnloiiihaaDoorK22
import Derived.Lib.SliceRun
namespace Go.Proofs.YtnhkclnloiiihaaDoor
open Go.RowKit

theorem foldl_take {f : List Int → Int → List Int} {z : List Int} {xs : List Int} {k : Nat} (h : k < xs.length) : (xs.take (k + 1)).foldl f z = f ((xs.take k).foldl f z) (gi xs k) := by
  rw [take_succ_gi h, List.foldl_append]
  rfl
theorem bumps_len (d : Int) (xs : List Int) (z : List Int) : (xs.foldl (bump d) z).length = z.length := by
  induction xs generalizing z with
  | nil => rfl
  | cons a r ih => rw [List.foldl_cons, ih, bump_len]
theorem stepF_len (n : Nat) (xs ys : List Int) : (stepF n xs ys).length = n := by unfold stepF; rw [bumps_len, bumps_len, List.length_replicate]

end Go.Proofs.YtnhkclnloiiihaaDoor

namespace Go.Proofs.YtnhkclnloiiihaaDoor
open Go.RowKit

/-- the first number that differs is the lesser one -/
def rowLess : List Int → List Int → Bool
  | [], _ => false
  | a :: r, bs => if a = bs.headD 0 then rowLess r bs.tail else decide (a < bs.headD 0)
/-- a row put into its place -/
def putIn (n : Nat) (s : List Int) (L : List (List Int)) (y : List Int) : List (List Int) :=
  let t := stepF n s y
  let p := L.takeWhile fun z => rowLess (stepF n s z) t
  p ++ y :: L.drop p.length
def nextL (n : Nat) (s : List Int) : List (List Int) := (behind n s).foldl (putIn n s) []
/-- the columns that are not in s -/
def compl (n : Nat) (s : List Int) : List Int := (iota n).filter fun x => !s.contains x
def subs : List Int → List (List Int)
  | [] => [[]]
  | a :: r => (subs r).map (a :: ·) ++ subs r
theorem mem_subs {s l : List Int} (h : s.Sublist l) : s ∈ subs l := by
  induction h with
  | slnil => simp [subs]
  | cons a _ ih => simp [subs, ih]
  | cons_cons a _ ih => simp [subs, ih]
def chainC (n : Nat) : Bool := (subs (iota n)).all fun s => decide (n - 1 ≤ s.length) || ((nextL n s).map (compl n) == above (compl n s))
def waysC (n : Nat) : Bool := (subs (iota n)).all fun s => decide (n ≤ s.length) || (potL (iterT (dnCh n) (n - s.length) [((s, 0), 1)]) (fun _ => 1) == potL (iterT (upCh fun _ _ => 0) (n - s.length - 1) [((compl n s, 0), 1)]) (fun _ => 1))
set_option maxRecDepth 1000000 in
theorem chain_ok : chainC 1 = true ∧ chainC 2 = true ∧ chainC 3 = true ∧ chainC 4 = true ∧ chainC 5 = true := by decide +kernel
set_option maxRecDepth 1000000 in
theorem chain_ok6 : chainC 6 = true := by decide +kernel
set_option maxRecDepth 1000000 in
theorem ways_ok : waysC 1 = true ∧ waysC 2 = true ∧ waysC 3 = true ∧ waysC 4 = true ∧ waysC 5 = true ∧ waysC 6 = true := by decide +kernel
theorem chain_all {n : Nat} (h1 : 1 ≤ n) (h6 : n ≤ 6) : chainC n = true := by
  obtain ⟨a, b, c, d, e⟩ := chain_ok
  rcases (by omega : n = 1 ∨ n = 2 ∨ n = 3 ∨ n = 4 ∨ n = 5 ∨ n = 6) with rfl | rfl | rfl | rfl | rfl | rfl
  · exact a
  · exact b
  · exact c
  · exact d
  · exact e
  · exact chain_ok6
theorem ways_all {n : Nat} (h1 : 1 ≤ n) (h6 : n ≤ 6) : waysC n = true := by
  obtain ⟨a, b, c, d, e, f⟩ := ways_ok
  rcases (by omega : n = 1 ∨ n = 2 ∨ n = 3 ∨ n = 4 ∨ n = 5 ∨ n = 6) with rfl | rfl | rfl | rfl | rfl | rfl
  · exact a
  · exact b
  · exact c
  · exact d
  · exact e
  · exact f
theorem chain_at {n : Nat} (h1 : 1 ≤ n) (h6 : n ≤ 6) {s : List Int} (hs : s.Sublist (iota n)) (hl : s.length + 1 < n) : (nextL n s).map (compl n) = above (compl n s) := by
  have h := List.all_eq_true.1 (chain_all h1 h6) s (mem_subs hs)
  simp only [Bool.or_eq_true, decide_eq_true_eq, beq_iff_eq] at h
  rcases h with h | h
  · omega
  · exact h
end Go.Proofs.YtnhkclnloiiihaaDoor

namespace Go.Proofs.YtnhkclnloiiihaaDoor
open Go.RowKit

theorem gr_reverse {m : List (List Int)} {i : Nat} (h : i < m.length) : gr m.reverse i = gr m (m.length - 1 - i) := by
  rw [gr_lt (by rw [List.length_reverse]; exact h), gr_lt (by omega), List.getElem_reverse]
theorem colR_reverse (m : List (List Int)) (j : Nat) : ∀ k, k ≤ m.length → colR m.reverse j k + colR m j (m.length - k) = colR m j m.length
  | 0, _ => by simp [colR]
  | k + 1, h => by
    have ih := colR_reverse m j k (by omega)
    have e : m.length - k = (m.length - (k + 1)) + 1 := by omega
    rw [e, colR] at ih
    rw [colR, gr_reverse (by omega), show m.length - 1 - k = m.length - (k + 1) from by omega]
    omega
theorem colR_full {m : List (List Int)} (h : good m) {j : Nat} (hj : j < m.length) : colR m j m.length = 1 := by
  rw [colR_tr hj _ (Nat.le_refl _)]
  have h1 := (h.2.2 j (by rw [tr_len]; exact hj)).2
  rw [tr_row hj] at h1
  exact h1
/-- the rows of the triangle of a matrix upside down -/
theorem triRow_reverse {m : List (List Int)} (h : good m) {k : Nat} (hk : k ≤ m.length) : triRow m.reverse k = compl m.length (triRow m (m.length - k)) := by
  have hx : ∀ {x : Int}, x ∈ triRow m.reverse k ↔ x ∈ compl m.length (triRow m (m.length - k)) := by
    intro x
    unfold triRow compl
    rw [List.length_reverse, mem_colsF, List.mem_filter, mem_iota]
    constructor
    · rintro ⟨j, rfl, hj, hf⟩
      refine ⟨by omega, ?_⟩
      have h1 := colR_reverse m j k hk
      rw [colR_full h hj] at h1
      simp only [decide_eq_true_eq] at hf
      have hn : (j : Int) ∉ colsF m.length fun j => decide (colR m j (m.length - k) = 1) := by
        rw [mem_colsF]
        rintro ⟨i, e, _, hi⟩
        obtain rfl : j = i := by omega
        simp only [decide_eq_true_eq] at hi
        omega
      simp [hn]
    · rintro ⟨⟨h0, hn⟩, hc⟩
      refine ⟨x.toNat, by omega, by omega, ?_⟩
      have hj : x.toNat < m.length := by omega
      have h1 := colR_reverse m x.toNat k hk
      rw [colR_full h hj] at h1
      have h2 := colR_01 h hj (show m.length - k ≤ m.length by omega)
      have h3 : colR m x.toNat (m.length - k) ≠ 1 := by
        intro e
        have : x ∈ colsF m.length fun j => decide (colR m j (m.length - k) = 1) := mem_colsF.2 ⟨x.toNat, by omega, hj, by simpa using e⟩
        simp [this] at hc
      simp only [decide_eq_true_eq]
      omega
  have hu1 : Up (triRow m.reverse k) := colsF_up _ _
  have hu2 : Up (compl m.length (triRow m (m.length - k))) := (up_iota _).filter _
  refine mask_inj hu1 (fun y hy => ?_) hu2 (fun y hy => ?_) ?_
  · obtain ⟨j, rfl, _, _⟩ := mem_colsF.1 hy; omega
  · exact (mem_iota.1 (List.mem_filter.1 hy).1).1
  · apply Nat.eq_of_testBit_eq
    intro i
    rw [testBit_mask (fun y hy => by obtain ⟨j, rfl, _, _⟩ := mem_colsF.1 hy; omega), testBit_mask (xs := compl m.length (triRow m (m.length - k))) (fun y hy => (mem_iota.1 (List.mem_filter.1 hy).1).1)]
    exact decide_eq_decide.2 hx
end Go.Proofs.YtnhkclnloiiihaaDoor

namespace Go.Proofs.YtnhkclnloiiihaaDoor
open Go.RowKit

set_option maxRecDepth 100000 in
set_option maxHeartbeats 400000 in
theorem sCloneM_any (b o n c : Nat) (news : List Value) (w : World) (hn : n ≤ 1048576) (hl : news.length = n) (hc : ∀ j u, news[j]? = some u → w.cell? ⟨b, o + j, none⟩ = some u) (h1 : ∀ u ∈ news, u.oneCell' = true) :
    Calls Tryd.prog 145 #[.slice (some ⟨b, o, none⟩) n c] w fun e w' => ∃ v, e = .returned v ∧ w'.ownsRow w.heap.size 28 1 v n news ∧ Below w.heap.size w w' := by
  obtain ⟨j0, hj, hy0, hy1, hy2⟩ := info_parts Tryd.info_ints
  have Hc := Lib.hid hc
  have H1 := Lib.hid h1
  have Hl := Lib.hid hl
  clear hc h1 hl
  have q22 : ∀ (w : World) (a : Option Addr) (n c n' c' : Nat), (binOp .eql 25 (.slice a n c) (.slice none n' c')).run Tryd.prog w = .ok (.bool a.isNone) w := fun w a n c n' c' => Lib.run_eql_slice_nil w _ _ a n c n' c' Tryd.underlying25
  go_enter Tryd.func145, Tryd.ntmps145
  go_wp2_with (at_builtin; refine wpList_append_own _ rfl _ _ 25 rfl w.heap.size 28 j0 (.slice none 0 0) 1 24 Tryd.underlying25 hj hy0 hy1 hy2 rfl (by decide) _ _ _ rfl (World.ownsRow_made w #[] 0 (Nat.le_refl _) (Nat.zero_le _) rfl) ⟨b, o, none⟩ n c news rfl ?e1 ?e2 ?e3 ?e4 ?e5 ?e6 ?_)
  case e1 => rw [Hl.out]; omega
  case e2 =>
    intro j u hj
    rw [Addr.add_lit]
    exact Lib.cell?_alloc_some _ (Hc.out j u hj)
  case e3 => exact H1.out
  case e4 => unfold maxLen; omega
  case e5 => omega
  case e6 => simp
  intro v' w1 hown hgrow _
  have Hown := Lib.hid (show w1.ownsRow w.heap.size 28 1 v' n news by simpa using hown)
  have Hb := Lib.hid (((Below.refl w.heap.size w).alloc (Nat.le_refl _) _).grown hgrow (by simp) (by intro k hk; simp [Value.ownBlock] at hk; omega))
  clear hown hgrow
  go_wp2
  go_ret
  exact ⟨_, rfl, Hown.out, Hb.out⟩
end Go.Proofs.YtnhkclnloiiihaaDoor

namespace Go.Proofs.YtnhkclnloiiihaaDoor
open Go.RowKit

set_option maxRecDepth 100000 in
set_option maxHeartbeats 800000 in
theorem sReverseM_any (B g n c : Nat) (vs : List Value) (w : World) (hn : n ≤ 1048576) (hn1 : 1 ≤ n) (hB : B ≤ g) (hsl : ∀ t, t < n → ∃ r m d, vs.getD t undef = .slice r m d) (ho : w.ownsRow g 28 1 (.slice (some ⟨g, 0, none⟩) n c) n vs) :
    Calls Tryd.prog 146 #[.slice (some ⟨g, 0, none⟩) n c] w fun e w' => e = .returned (.tuple #[]) ∧ w'.ownsRow g 28 1 (.slice (some ⟨g, 0, none⟩) n c) n vs.reverse ∧ Below B w w' := by
  have hmx : n ≤ 9223372036854775807 := by omega
  have hvl : vs.length = n := by simpa using ho.1
  have Hsl := Lib.hid hsl
  have Ho := Lib.hid ho
  have Hvl := Lib.hid hvl
  clear ho hvl hsl
  go_enter Tryd.func146, Tryd.ntmps146
  go_wp2
  go_loopw [2, 3] (fun i j wr => ∃ (k l : Nat) (us : List Value), k + l + 1 = n ∧ k ≤ l + 1 ∧ i = .int .i64 k ∧ j = .int .i64 l ∧ wr.ownsRow g 28 1 (.slice (some ⟨g, 0, none⟩) n c) n us ∧ (∀ t, t < n → us.getD t undef = if t < k ∨ n - k ≤ t then vs.getD (n - 1 - t) undef else vs.getD t undef) ∧ Below B w wr) (fun i _ _ => n - (intOf i).toNat)
  case atStart => exact ⟨0, n - 1, vs, by omega, by omega, rfl, by go_num, Ho.out, fun t ht => by rw [if_neg (by omega)], Below.refl _ _⟩
  case round =>
    obtain ⟨k, l, us, hkl, hle, rfl, rfl, hown, hus, hbr⟩ := hrel
    by_cases hlt : k < l
    · have hul : us.length = n := by simpa using hown.1
      have hck := World.ownsRow.cellAt hown k (by omega)
      have hcl := World.ownsRow.cellAt hown l (by omega)
      have hfk := World.ownsRow.frozenAt hown k
      have hfl := World.ownsRow.frozenAt hown l
      obtain ⟨r1, m1, d1, e1⟩ := Hsl.out k (by omega)
      obtain ⟨r2, m2, d2, e2⟩ := Hsl.out l (by omega)
      have f1 : us[k]? = some (.slice r1 m1 d1) := by
        have := hus k (by omega)
        rw [if_neg (by omega), e1] at this
        simp only [List.getD, List.getElem?_eq_getElem (show k < us.length by omega), Option.getD_some] at this ⊢
        rw [this]
      have f2 : us[l]? = some (.slice r2 m2 d2) := by
        have := hus l (by omega)
        rw [if_neg (by omega), e2] at this
        simp only [List.getD, List.getElem?_eq_getElem (show l < us.length by omega), Option.getD_some] at this ⊢
        rw [this]
      rw [f1] at hck
      rw [f2] at hcl
      have hkn : k < n := by omega
      have hln : l < n := by omega
      have hne : k ≠ l := by omega
      have hne2 : l ≠ k := by omega
      have Hus := Lib.hid hus
      have Hown := Lib.hid hown
      have Hbr := Lib.hid hbr
      have Hf1 := Lib.hid (And.intro e1 e2)
      clear hus hown hbr f1 f2 e1 e2
      go_wp2_with fail
      go_region
      go_wp2
      go_roundw
      case rel =>
        have hz : (k : Int) < l := by omega
        refine ⟨k + 1, l - 1, (us.set k (.slice r2 m2 d2)).set l (.slice r1 m1 d1), by omega, by omega, by go_num, by rw [show ((l - 1 : Nat) : Int) = (l : Int) - 1 from by omega], ?_, ?_, ?_⟩
        · exact (World.ownsRow.stored (World.ownsRow.stored (ownsRow_below Hown.out ((Q.refl wr).drewN 1 |>.below _)) k _).1 l _).1
        · intro t ht
          obtain ⟨e1, e2⟩ := Hf1.out
          have hu := Hus.out t ht
          simp only [List.getD, List.getElem?_set, List.length_set] at hu e1 e2 ⊢
          by_cases ht1 : l = t
          · subst ht1
            rw [if_pos rfl, if_pos (by omega), if_pos (by omega), show n - 1 - l = k from by omega, e1]
            rfl
          · rw [if_neg ht1]
            by_cases ht2 : k = t
            · subst ht2
              rw [if_pos rfl, if_pos (by omega), if_pos (by omega), show n - 1 - k = l from by omega, e2]
              rfl
            · rw [if_neg ht2, hu]
              by_cases hc : t < k ∨ n - k ≤ t
              · rw [if_pos hc, if_pos (by omega)]
              · rw [if_neg hc, if_neg (by omega)]
        · exact ((Hbr.out.trans ((Q.refl wr).drewN 1 |>.below _)).setCell (p := ⟨g, k, none⟩) hB _).setCell (p := ⟨g, l, none⟩) hB _
      case measure => simp [intOf]; omega
    · have hfin : us = vs.reverse := by
        have hul : us.length = n := by simpa using hown.1
        apply List.ext_getElem (by rw [List.length_reverse, hul, Hvl.out])
        intro t h1 h2
        have hu := hus t (by omega)
        rw [List.getElem_reverse]
        have hvl := Hvl.out
        by_cases hc : t < k ∨ n - k ≤ t
        · rw [if_pos hc] at hu
          simp only [List.getD, List.getElem?_eq_getElem h1, List.getElem?_eq_getElem (show n - 1 - t < vs.length by omega), Option.getD_some] at hu
          rw [hu]
          congr 1
          omega
        · rw [if_neg hc] at hu
          simp only [List.getD, List.getElem?_eq_getElem h1, List.getElem?_eq_getElem (show t < vs.length by omega), Option.getD_some] at hu
          rw [hu]
          congr 1
          omega
      rw [hfin] at hown
      have Hown := Lib.hid hown
      have Hbr := Lib.hid hbr
      have hd : decide ((k : Int) < (l : Int)) = false := by simp; omega
      clear hown hus hbr hfin
      go_wp2
      (try simp only [Exit.inBlock, Exit.then]); refine bodyPost_end (results_none rfl _ _ _) rfl ?_
      exact ⟨rfl, Hown.out, Hbr.out⟩
end Go.Proofs.YtnhkclnloiiihaaDoor

namespace Go.Proofs.YtnhkclnloiiihaaDoor
open Go.RowKit

theorem OwnR.isAt {w : World} {B n c : Nat} {ao : Option Addr} {m : List (List Int)} {vs : List Value} (h : OwnR w B (.slice ao n c) m vs) (hn : 1 ≤ m.length) : ∃ g, ao = some ⟨g, 0, none⟩ ∧ B ≤ g ∧ g < w.heap.size := by
  rcases h.top.2 with ⟨h0, h1⟩ | ⟨g, cap, cur, hv, hg, hh, _⟩
  · omega
  · simp only [Value.slice.injEq] at hv
    obtain ⟨rfl, _⟩ := hv
    exact ⟨g, rfl, hg, lt_of_block hh⟩
theorem gr_rev {m : List (List Int)} {i : Nat} (h : i < m.length) : gr m.reverse i = gr m (m.length - 1 - i) := by
  rw [gr_lt (by simpa using h), gr_lt (by omega), List.getElem_reverse]

set_option maxRecDepth 100000 in
set_option maxHeartbeats 800000 in
theorem upsideDownR_any (B : Nat) (ao : Option Addr) (c : Nat) (m : List (List Int)) (vs : List Value) (w : World) (hn : m.length ≤ 1048576) (h1 : 1 ≤ m.length) (hB : B ≤ w.heap.size) (hm : OwnR w B (.slice ao m.length c) m vs) :
    Calls Tryd.prog 114 #[.slice ao m.length c] w fun e w' => ∃ v, e = .returned v ∧ OwnR w' B v m.reverse vs.reverse ∧ Below w.heap.size w w' := by
  have hmx : m.length ≤ 9223372036854775807 := by omega
  obtain ⟨b, rfl, _, _⟩ := hm.isAt h1
  have hcl := hm.cells
  have hlen := hm.len
  have Hm := Lib.hid hm
  have Hlen := Lib.hid hlen
  have Hcl := Lib.hid (sCloneM_any b 0 m.length c vs w hn hlen (fun j u hj => by have := hcl.1 j u hj; rw [Addr.add_lit] at this; exact this) hcl.2)
  have Hsl := Lib.hid (show ∀ t, t < m.length → ∃ r k d, vs.getD t undef = .slice r k d from fun t ht => by
    obtain ⟨r, d, e, _⟩ := (hm.rows t ht).read
    exact ⟨r, _, d, e⟩)
  have HB := Lib.hid hB
  clear hm hcl hlen
  go_enter Tryd.func114, Tryd.ntmps114
  go_wp2_with fail
  refine Hcl.out.mono ?_
  rintro e w1 ⟨v, rfl, hown, hb1⟩
  obtain ⟨ao', d, e1, _, _, _⟩ := ownsRow_read hown
  subst e1
  obtain ⟨g, hg, hgB⟩ : ∃ g, ao' = some ⟨g, 0, none⟩ ∧ w.heap.size ≤ g := by
    rcases hown.2 with ⟨h0, _⟩ | ⟨g, cap, cur, hv, hb, _⟩
    · simp only [Value.slice.injEq] at h0; omega
    · simp only [Value.slice.injEq] at hv
      exact ⟨g, hv.1, hb⟩
  subst hg
  have Hrv := Lib.hid (sReverseM_any w.heap.size g m.length d vs w1 hn h1 hgB Hsl.out (ownsRow_raise hown (fun k hk => by simp [Value.ownBlock] at hk; omega)))
  have Hb1 := Lib.hid hb1
  clear hown hb1
  go_wp2_with fail
  refine Hrv.out.mono ?_
  rintro e w2 ⟨rfl, hown, hb2⟩
  have Hb2 := Lib.hid (Hb1.out.trans hb2)
  have hfin : OwnR w2 B (.slice (some ⟨g, 0, none⟩) m.length d) m.reverse vs.reverse := by
    refine ⟨by rw [List.length_reverse]; exact ownsRow_base hown (Nat.le_trans HB.out hgB), fun i hi => ?_⟩
    rw [List.length_reverse] at hi
    rw [gr_rev hi]
    have := (Hm.out.rows (m.length - 1 - i) (by omega)).below Hb2.out
    simp only [List.getD] at this ⊢
    rw [List.getElem?_reverse (by rw [Hlen.out]; exact hi), Hlen.out]
    exact this
  have Hfin := Lib.hid hfin
  clear hown hb2 hfin
  go_wp2
  go_ret
  exact ⟨_, rfl, Hfin.out, Hb2.out⟩

theorem OwnR.setOther {w : World} {B B' n' : Nat} {x v : Value} {m : List (List Int)} {vs ys : List Value} {e' : TypeId} {g i : Nat} (h : OwnR w B x m vs) (k : w.ownsRow B' e' 1 v n' ys) (hv : v.ownBlock = some g) (h1 : 28 ≠ e') (h2 : 3 ≠ e') (u : Value) : OwnR (w.setCell ⟨g, i, none⟩ u) B x m vs :=
  ⟨Go.ownsRow_setCell_other h.top (fun e => row_apart h.top k h1 g e hv) u, fun j hj => Go.ownsRow_setCell_other (h.rows j hj) (fun e => row_apart (h.rows j hj) k h2 g e hv) u⟩
/-- a table is put in the place of another one -/
theorem OwnRL.set {w : World} {B g n c i : Nat} {ts : List (List (List Int))} {vs zs : List Value} {v : Value} {M : List (List Int)} (h : OwnRL w B (.slice (some ⟨g, 0, none⟩) n c) ts vs) (hi : i < ts.length) (hv : OwnR w B v M zs) :
    OwnRL (w.setCell ⟨g, i, none⟩ v) B (.slice (some ⟨g, 0, none⟩) n c) (ts.set i M) (vs.set i v) := by
  have hl := h.len
  have hn : ts.length = n := by
    obtain ⟨ao, c', e, _, _⟩ := h.head
    simp only [Value.slice.injEq] at e
    exact e.2.1.symm
  subst hn
  refine ⟨by rw [List.length_set]; exact (World.ownsRow.stored h.top i v).1, fun j hj => ?_⟩
  rw [List.length_set] at hj
  by_cases e : j = i
  · subst e
    refine ⟨zs, ?_⟩
    have e1 : (vs.set j v).getD j undef = v := by simp [List.getD, hl, hj]
    have e2 : gt (ts.set j M) j = M := by unfold gt; simp [List.getD, hj]
    rw [e1, e2]
    exact hv.setOther h.top rfl (by decide) (by decide) v
  · obtain ⟨us, hu⟩ := h.each j hj
    refine ⟨us, ?_⟩
    have e1 : (vs.set i v).getD j undef = vs.getD j undef := by simp only [List.getD]; rw [List.getElem?_set_ne (fun h => e h.symm)]
    have e2 : gt (ts.set i M) j = gt ts j := by unfold gt; simp only [List.getD]; rw [List.getElem?_set_ne (fun h => e h.symm)]
    rw [e1, e2]
    exact hu.setOther h.top rfl (by decide) (by decide) v
theorem OwnRL.isAt {w : World} {B n c : Nat} {ao : Option Addr} {ts : List (List (List Int))} {vs : List Value} (h : OwnRL w B (.slice ao n c) ts vs) (hn : 1 ≤ ts.length) : ∃ g, ao = some ⟨g, 0, none⟩ ∧ B ≤ g ∧ g < w.heap.size := by
  rcases h.top.2 with ⟨h0, h1⟩ | ⟨g, cap, cur, hv, hg, hh, _⟩
  · omega
  · simp only [Value.slice.injEq] at hv
    obtain ⟨rfl, _⟩ := hv
    exact ⟨g, rfl, hg, lt_of_block hh⟩

def flipT (t : List (List Int)) : List (List Int) := (fromTab t).reverse
/-- the first k tables turned into sign matrices -/
def mixT (T : List (List (List Int))) (k : Nat) : List (List (List Int)) := (T.take k).map flipT ++ T.drop k
theorem mixT_len (T : List (List (List Int))) (k : Nat) : (mixT T k).length = T.length := by simp [mixT]; omega
theorem mixT_zero (T : List (List (List Int))) : mixT T 0 = T := by simp [mixT]
theorem mixT_end (T : List (List (List Int))) : mixT T T.length = T.map flipT := by simp [mixT]
theorem mixT_at {T : List (List (List Int))} {k : Nat} (h : k < T.length) : gt (mixT T k) k = gt T k := by
  unfold mixT gt
  simp only [List.getD]
  rw [List.getElem?_append_right (by simp; omega), List.length_map, List.length_take, Nat.min_eq_left (by omega), Nat.sub_self, List.getElem?_drop, Nat.add_zero]
theorem mixT_set {T : List (List (List Int))} {k : Nat} (h : k < T.length) : (mixT T k).set k (flipT (gt T k)) = mixT T (k + 1) := by
  apply List.ext_getElem?
  intro i
  unfold mixT
  rw [List.getElem?_set]
  by_cases e : k = i
  · subst e
    rw [if_pos rfl, if_pos (by simp; omega), List.getElem?_append_left (by simp; omega), List.getElem?_map, List.getElem?_take_of_lt (by omega), gt_lt h, List.getElem?_eq_getElem h]
    rfl
  · rw [if_neg e]
    by_cases h2 : i < k
    · rw [List.getElem?_append_left (by simp; omega), List.getElem?_append_left (by simp; omega), List.getElem?_map, List.getElem?_map, List.getElem?_take_of_lt h2, List.getElem?_take_of_lt (by omega)]
    · rw [List.getElem?_append_right (by simp; omega), List.getElem?_append_right (by simp; omega)]
      simp only [List.length_map, List.length_take, List.getElem?_drop]
      rw [Nat.min_eq_left (by omega), Nat.min_eq_left (by omega)]
      congr 1
      omega

set_option maxRecDepth 100000 in
set_option maxHeartbeats 3200000 in
theorem allSigns_any (n : Nat) (w : World) (h1 : 1 ≤ n) (h5 : n ≤ 5) (hD : Dj w) :
    Calls Tryd.prog 58 #[.int .i64 (n : Int)] w fun e w' => ∃ v vs, e = .returned v ∧ OwnRL w' w.heap.size v (allI n) vs ∧ Below w.heap.size w w' := by
  have hcols := tris_cols n (by omega)
  have C := Lib.hid (triangles_any (n - 1) (fullR n) w (by omega) (fullR_rise (by omega)) (by rw [fullR_len]; omega) hD)
  rw [fullR_ok n (by omega)] at C
  have hTl := trisD_le (n - 1) (fullR n) (fullR_rise (by omega)) (by rw [fullR_len]; omega)
  have hTb := trB_le (n - 1) (by omega)
  obtain ⟨T, hT⟩ : ∃ T, T = trisD (n - 1) (fullR n) := ⟨_, rfl⟩
  rw [← hT] at hcols C hTl
  have HV := Lib.hid (show allI n = T.map flipT by rw [hT]; rfl)
  have Hcols := Lib.hid (show ∀ t, t ∈ T → t.length = n ∧ colsOk t from fun t ht => (hcols t ht).resolve_left (by omega))
  have hTn : T.length ≤ 1099511627776 := Nat.le_trans hTl hTb
  obtain ⟨q, hq⟩ : ∃ q : Int, q = ((2 ^ n - 1 : Nat) : Int) := ⟨_, rfl⟩
  have CA := Lib.hid (allColumns_any n w (by omega))
  rw [← hq] at C CA
  clear hcols hT hTl hTb hD hq
  go_enter Tryd.func58, Tryd.ntmps58
  go_wp2_with fail
  refine CA.out.mono ?_
  rintro e w1 ⟨rfl, rfl⟩
  go_wp2_with fail
  refine C.out.mono ?_
  rintro e w2 ⟨v, vs, rfl, hv, _, hb⟩
  obtain ⟨ta, tc, rfl, ht1, ht2⟩ := hv.head
  have Hv := Lib.hid hv
  have Hb := Lib.hid hb
  clear hv hb C CA
  go_wp2
  go_loopw [11] (fun i wr => ∃ (k : Nat) (vs : List Value), k ≤ T.length ∧ i = .int .i64 k ∧ OwnRL wr w.heap.size (.slice ta T.length tc) (mixT T k) vs ∧ Below w.heap.size w wr) (fun i _ => T.length - (intOf i).toNat)
  case atStart => exact ⟨0, vs, Nat.zero_le _, rfl, by rw [mixT_zero]; exact Hv.out, Hb.out⟩
  case round =>
    obtain ⟨k, vs, hk, rfl, hown, hbr⟩ := hrel
    clear Hv Hb
    have Hown := Lib.hid hown
    have Hbr := Lib.hid hbr
    have HBr := Lib.hid hbr.size
    by_cases hlt : k < T.length
    · obtain ⟨g, rfl, hg1, hg2⟩ := hown.isAt (by rw [mixT_len]; omega)
      obtain ⟨b1, o1, r1, d1, e1, hc1, hm1, _, _⟩ := hown.at (i := k) (by rw [mixT_len]; exact hlt)
      cases e1
      rw [Nat.zero_add] at hc1
      rw [mixT_at hlt] at hc1 hm1
      obtain ⟨hl1, hco⟩ := Hcols.out _ (gt_mem hlt)
      have CS := Lib.hid (signsOf_any r1 d1 (gt T k) wr hco hm1)
      have Hset := Lib.hid (show (mixT T k).set k (flipT (gt T k)) = mixT T (k + 1) from mixT_set hlt)
      have Hfl := Lib.hid (show (fromTab (gt T k)).length = n by rw [fromTab_len]; exact hl1)
      rw [hl1] at hc1 CS
      clear hown hbr hm1 hl1 hco
      go_wp2_with fail
      refine CS.out.mono ?_
      rintro e w3 ⟨v3, rfl, hv3, hb3⟩
      obtain ⟨sa, scp, svs, rfl, hsp, _, _⟩ := hv3.open
      have CU := Lib.hid (upsideDownR_any w.heap.size sa scp (fromTab (gt T k)) svs w3 (by rw [Hfl.out]; omega) (by rw [Hfl.out]; omega) (Nat.le_trans HBr.out hb3.size) (hsp.toR.base HBr.out))
      rw [Hfl.out] at CU ⊢
      have Hb3 := Lib.hid hb3
      clear hv3 hb3 hsp CS
      go_wp2_with fail
      refine CU.out.mono ?_
      rintro e w4 ⟨v4, rfl, hv4, hb4⟩
      have hb34 := Hb3.out.trans (hb4.mono Hb3.out.size)
      have hown4 := Hown.out.below hb34
      have hfr : w4.frozen? ⟨g, k, none⟩ = false := by
        have h := hown4.top
        rw [mixT_len] at h
        exact World.ownsRow.frozenAt h k
      have hcell : w4.cell? ⟨g, k, none⟩ = some (.slice r1 n d1) := cell_below hc1 hb34
      have hset := hown4.set (i := k) (by rw [mixT_len]; exact hlt) hv4
      rw [show (fromTab (gt T k)).reverse = flipT (gt T k) from rfl, Hset.out] at hset
      have Hs := Lib.hid hset
      have Hbs := Lib.hid ((Hbr.out.trans (hb34.mono HBr.out)).setCell (p := ⟨g, k, none⟩) hg1 v4)
      obtain ⟨va, vc, hvv, _, _, _⟩ := hv4.read
      rw [List.length_reverse, Hfl.out] at hvv
      subst hvv
      clear hv4 hb4 hb34 hown4 hset CU hc1
      go_wp2
      go_roundw
      case rel => exact ⟨k + 1, _, by omega, by go_num, Hs.out, Hbs.out⟩
      case measure => simp [intOf]; omega
    · obtain rfl : k = T.length := by omega
      rw [mixT_end, ← HV.out] at hown
      have Hown := Lib.hid hown
      clear hown hbr
      go_wp2
      go_ret
      exact ⟨_, vs, rfl, Hown.out, Hbr.out⟩
end Go.Proofs.YtnhkclnloiiihaaDoor

namespace Go.Proofs.YtnhkclnloiiihaaDoor
open Go.RowKit

/-- the sum of F over the first k tables; over all -/
def sumVk (F : List (List Int) → Int) (A : List (List (List Int))) (k : Nat) : Int := sumF (fun i => F (gt A i)) k
def sumV (F : List (List Int) → Int) (A : List (List (List Int))) : Int := sumVk F A A.length
theorem sumVk_bd {F : List (List Int) → Int} {A : List (List (List Int))} (h : ∀ m, m ∈ A → 0 ≤ F m ∧ F m ≤ 10000000000000000) : ∀ {k : Nat}, k ≤ A.length → 0 ≤ sumVk F A k ∧ sumVk F A k ≤ k * 10000000000000000
  | 0, _ => by simp [sumVk, sumF]
  | k + 1, hk => by
    have ih := sumVk_bd h (k := k) (by omega)
    have := h _ (gt_mem (show k < A.length by omega))
    unfold sumVk at ih ⊢
    simp only [sumF]
    omega
theorem sumVk_step (F : List (List Int) → Int) (A : List (List (List Int))) (k : Nat) : sumVk F A (k + 1) = sumVk F A k + F (gt A k) := rfl
theorem allI_eq {n : Nat} (h1 : 1 ≤ n) (h4 : n ≤ 4) : allI n = allW n := (allI_W n (by omega)).resolve_left (by omega)
theorem allW_ok {n : Nat} (h1 : 1 ≤ n) (h4 : n ≤ 4) : ∀ m, m ∈ allW n → m.length = n ∧ good m := fun m hm => (allW_good n (by omega) m hm).resolve_left (by omega)

def okSum (n a b c : Int) : Prop := (1 ≤ n ∧ n ≤ 4) ∧ isFac a b c
theorem sumV_congr {F G : List (List Int) → Int} {A : List (List (List Int))} (h : ∀ m, F m = G m) : sumV F A = sumV G A := by
  unfold sumV sumVk
  exact sumF_congr fun i _ => h _

end Go.Proofs.YtnhkclnloiiihaaDoor

namespace Go.Proofs.YtnhkclnloiiihaaDoor
open Go.RowKit

theorem j_valJ : ∀ n, n < 5 → n = 0 ∨ (jR n = n * (n - 1) / 2 + 1 ∧ jC n = (n - 1) * (n - 1) / 4 + 1) := by decide +kernel
theorem mostInvJ_any (N : Nat) (w : World) (h1 : 1 ≤ N) (h4 : N ≤ 4) :
    Calls Tryd.prog 111 #[.int .i64 (N : Int)] w fun e w' => e = .returned (.int .i64 ((N * (N - 1) / 2 : Nat) : Int)) ∧ w = w' := by
  obtain rfl | rfl | rfl | rfl : N = 1 ∨ N = 2 ∨ N = 3 ∨ N = 4 := by omega
  all_goals
    go_enter Tryd.func111, Tryd.ntmps111
    go_wp2
    go_ret
    exact ⟨rfl, rfl⟩
theorem mostMinJ_any (N : Nat) (w : World) (h1 : 1 ≤ N) (h4 : N ≤ 4) :
    Calls Tryd.prog 112 #[.int .i64 (N : Int)] w fun e w' => e = .returned (.int .i64 (((N - 1) * (N - 1) / 4 : Nat) : Int)) ∧ w = w' := by
  obtain rfl | rfl | rfl | rfl : N = 1 ∨ N = 2 ∨ N = 3 ∨ N = 4 := by omega
  all_goals
    go_enter Tryd.func112, Tryd.ntmps112
    go_wp2
    go_ret
    exact ⟨rfl, rfl⟩
theorem spreadTJ_any (N : Nat) (w : World) (h1 : 1 ≤ N) (h4 : N ≤ 4) :
    Calls Tryd.prog 57 #[.int .i64 (N : Int)] w fun e w' => ∃ vs, e = .returned (.slice (some ⟨w.heap.size, 0, none⟩) (jR N) (jR N)) ∧ OwnP w' w.heap.size (.slice (some ⟨w.heap.size, 0, none⟩) (jR N) (jR N)) (jR N) (tab (jR N) (jC N) fun _ _ => 0) (jR N) vs ∧ Below w.heap.size w w' := by
  obtain ⟨e1, e2⟩ := (j_valJ N (by omega)).resolve_left (by omega)
  obtain ⟨hs1, hs2, hs3, hs4⟩ := (j_size N (by omega)).resolve_left (by omega)
  have M1 := Lib.hid (mostInvJ_any N w h1 h4)
  have M2 := Lib.hid (fun w => mostMinJ_any N w h1 h4)
  obtain ⟨a, ha⟩ : ∃ a, a = N * (N - 1) / 2 := ⟨_, rfl⟩
  obtain ⟨b, hb⟩ : ∃ b, b = (N - 1) * (N - 1) / 4 := ⟨_, rfl⟩
  rw [← ha] at e1 M1
  rw [← hb] at e2 M2
  rw [e1] at hs2 ⊢
  rw [e2] at hs3 ⊢
  have C := Lib.hid (newTable_any (a + 1) (b + 1) w (by omega) (by omega))
  rw [Int.natCast_add, Int.natCast_add] at C
  have C1 := Lib.hid (show Calls Tryd.prog 110 #[.int .i64 ((a : Int) + 1), .int .i64 ((b : Int) + 1)] w _ from C.out)
  clear ha hb e1 e2 hs1 hs4 C
  go_enter Tryd.func57, Tryd.ntmps57
  go_wp2_with fail
  refine M1.out.mono ?_
  rintro e w1 ⟨rfl, rfl⟩
  go_wp2_with fail
  refine (M2.out _).mono ?_
  rintro e w2 ⟨rfl, rfl⟩
  go_wp2_with fail
  refine C1.out.mono ?_
  rintro e w3 ⟨vs, rfl, hv, hb⟩
  have Hv := Lib.hid (And.intro hv hb)
  clear hv hb
  go_wp2
  go_ret
  exact ⟨vs, rfl, Hv.out.1, Hv.out.2⟩

set_option maxRecDepth 100000 in
set_option maxHeartbeats 3200000 in
theorem implJointTable_any (n : Int) (w : World) (hz : -9223372036854775808 ≤ n ∧ n ≤ 9223372036854775807) (hD : Dj w) :
    Calls Tryd.prog 9 #[.int .i64 n] w fun e w' => MRes (1 ≤ n ∧ n ≤ 4) (joint n.toNat) w' w.heap.size e ∧ Below w.heap.size w w' := by
  have HD := Lib.hid hD
  have HZ := Lib.hid hz
  have C1 := Lib.hid (canBeWeighted_any n w)
  clear hD hz
  go_enter Tryd.func9, Tryd.ntmps9
  go_wp2_with fail
  refine C1.out.mono ?_
  rintro e w2 ⟨ha, hb⟩
  by_cases hn : 1 ≤ n ∧ n ≤ 4
  · obtain rfl := ha.is hn
    obtain ⟨N, rfl⟩ : ∃ N : Nat, n = (N : Int) := ⟨n.toNat, by omega⟩
    have hN1 : 1 ≤ N := by omega
    have hN4 : N ≤ 4 := by omega
    have HJ := Lib.hid (j_ok N (by omega))
    obtain ⟨hs1, hs2, hs3, hs4⟩ := (j_size N (by omega)).resolve_left (by omega)
    have CT := spreadTJ_any N w2 hN1 hN4
    have Hb2 := Lib.hid hb
    have HB2 := Lib.hid hb.size
    obtain ⟨R, hR⟩ : ∃ R, R = jR N := ⟨_, rfl⟩
    obtain ⟨C, hC⟩ : ∃ C, C = jC N := ⟨_, rfl⟩
    have Hjt := Lib.hid (show joint N = tab R C (jF (allW N) (allW N).length) by rw [hR, hC]; rfl)
    rw [← hR] at hs2 HJ CT
    rw [← hC] at hs3 hs4 HJ
    rw [← hC] at CT
    have CT := Lib.hid CT
    clear hb hn ha C1 hs1 hR hC
    go_wp2_with fail
    refine CT.out.mono ?_
    rintro e w3 ⟨vs, rfl, hv3, hb3⟩
    obtain ⟨G, hG⟩ : ∃ G, G = w2.heap.size := ⟨_, rfl⟩
    rw [← hG] at hv3 ⊢
    have Hr0 := Lib.hid (show ∀ i, i < R → ∀ g, (vs.getD i undef).ownBlock = some g → g < w3.heap.size from fun i hi g hg2 => ((hv3.rows i hi).lt g hg2).2)
    have Hv3 := Lib.hid (show OwnP w3 w.heap.size (.slice (some ⟨G, 0, none⟩) R R) R (tab R C fun _ _ => 0) R vs from hv3.base (by rw [hG]; exact HB2.out))
    have Hb3 := Lib.hid (Hb2.out.trans (hb3.mono HB2.out))
    have HB3 := Lib.hid Hb3.out.size
    have CA := Lib.hid (allSigns_any N w3 hN1 (by omega) (HD.out.next Hb3.out))
    rw [allI_eq hN1 hN4] at CA
    have hlen := allW_len N (by omega)
    have HA := Lib.hid (fun m hm => allW_ok hN1 hN4 m hm)
    obtain ⟨A, hA⟩ : ∃ A, A = allW N := ⟨_, rfl⟩
    rw [← hA] at CA hlen HA HJ Hjt
    clear hv3 hb3 hG hA Hb2 HB2
    go_wp2_with fail
    refine CA.out.mono ?_
    rintro e w4 ⟨v4, ts, rfl, hv4, hb4⟩
    obtain ⟨ta, tc, rfl, ht1, ht2⟩ := hv4.head
    have Hv4 := Lib.hid hv4
    have Ht := Lib.hid (Hv3.out.below hb4)
    have Hb4 := Lib.hid (Hb3.out.trans (hb4.mono HB3.out))
    have HB4 := Lib.hid Hb4.out.size
    have HB34 := Lib.hid hb4.size
    clear hv4 hb4 CA Hv3
    go_wp2
    go_loopw [17] (fun i wr => ∃ (t : Nat) (f : Nat → Nat → Int), t ≤ A.length ∧ i = .int .i64 t ∧ OwnP wr w.heap.size (.slice (some ⟨G, 0, none⟩) R R) R (tab R C f) R vs ∧ (∀ p k, p < R → k < C → f p k = jF A t p k) ∧ OwnRL wr w3.heap.size (.slice ta A.length tc) A ts ∧ Below w.heap.size w wr) (fun i _ => A.length - (intOf i).toNat)
    case atStart => exact ⟨0, _, Nat.zero_le _, rfl, Ht.out, fun _ _ _ _ => rfl, Hv4.out, Hb4.out⟩
    case round =>
      obtain ⟨t, f, htt, rfl, hown, heq, hlist, hbr⟩ := hrel
      have Hown := Lib.hid hown
      have Heq := Lib.hid heq
      have Hlist := Lib.hid hlist
      have Hbr := Lib.hid hbr
      have HBr := Lib.hid hbr.size
      clear hown heq hlist hbr Ht Hv4
      by_cases hlt : t < A.length
      · obtain ⟨b1, o1, r1, d1, e1, hc1, hm1, _, _⟩ := Hlist.out.at hlt
        obtain ⟨hml, hgd⟩ := HA.out _ (gt_mem hlt)
        obtain ⟨j1, j2, j3, j4⟩ := HJ.out _ (gt_mem hlt)
        have CC := Lib.hid (countsOfKinds_any r1 d1 (gt A t) wr hgd hm1)
        have q0 : cntK (gt A t) 0 = (cN (gt A t) 0 : Int) := cN_eq hgd.1.2.1 0
        have q5 : cntK (gt A t) 5 = (cN (gt A t) 5 : Int) := cN_eq hgd.1.2.1 5
        have hbd := jF_bd A t (fInv (gt A t)) (fMin (gt A t))
        have HS := Lib.hid (fun p k => (show jF A (t + 1) p k = if p = fInv (gt A t) ∧ k = fMin (gt A t) then jF A t (fInv (gt A t)) (fMin (gt A t)) + 1 else jF A t p k from jF_step A t p k))
        have hfv := Heq.out _ _ j1 j2
        rw [hml] at hc1 CC
        subst e1
        obtain ⟨M, hM⟩ : ∃ M, M = gt A t := ⟨_, rfl⟩
        rw [← hM] at j1 j2 j3 j4 CC q0 q5 hbd HS hfv
        obtain ⟨p, hp⟩ : ∃ p, p = fInv M := ⟨_, rfl⟩
        obtain ⟨k, hk⟩ : ∃ k, k = fMin M := ⟨_, rfl⟩
        obtain ⟨c0, hc0⟩ : ∃ c0, c0 = cN M 0 := ⟨_, rfl⟩
        rw [← hk] at j3
        rw [j3] at q5 j4
        rw [← hp, ← hc0] at j4
        rw [← hc0] at q0
        rw [← hp] at j1 hbd HS hfv
        rw [← hk] at j2 hbd HS hfv
        have hsum : (c0 : Int) + (k : Int) = (p : Int) := by omega
        have hpb : p ≤ 100 := by omega
        obtain ⟨y, hy⟩ : ∃ y, y = jF A t p k := ⟨_, rfl⟩
        rw [← hy] at hbd HS hfv
        have Hfv := Lib.hid hfv
        have HQ := Lib.hid (And.intro q0 q5)
        clear hm1 hgd hml hM hp hk hc0 q0 q5 j3 j4 hfv hy
        go_wp2_with fail
        refine CC.out.mono ?_
        rintro e w5 ⟨rfl, hb5⟩
        have Hown5 := Lib.hid (Hown.out.below hb5)
        have Hlist5 := Lib.hid (Hlist.out.below hb5)
        have Hb5 := Lib.hid (Hbr.out.trans (hb5.mono HBr.out))
        have HB5 := Lib.hid Hb5.out.size
        clear hb5 CC Hown Hlist hc1
        go_upto_region 8 with (first | (refine wpList_allocT rfl 50 rfl _ _ Tryd.info_kc ?_) | (refine wpList_storeT rfl 50 _ _ rfl _ (kc fun _ => 0) _ rfl rfl rfl (Tryd.size_kc _) (kc_same _ _) (kc_one _) ?_))
        have hbA : Below w5.heap.size w5 (w5.alloc (.cells (kc fun q => cntK M q) 50)) := (Below.refl _ _).alloc (Nat.le_refl _) _
        have hK := KcAt.new w5 (fun q => cntK M q)
        have hown6 := Hown5.out.below hbA
        have Hlist6 := Lib.hid (Hlist5.out.below hbA)
        have Hb6 := Lib.hid (Hb5.out.trans (hbA.mono HB5.out))
        obtain ⟨g6, hg6⟩ : ∃ g6, g6 = w5.heap.size := ⟨_, rfl⟩
        rw [← hg6] at hK ⊢
        generalize hW6 : w5.alloc (.cells (kc fun q => cntK M q) 50) = w6 at hbA hK hown6 Hlist6 Hb6 ⊢
        have k0 := hK.cell (k := 0) (by omega)
        have k5 := hK.cell (k := 5) (by omega)
        rw [show cntK M ((0 : Nat) : Int) = cntK M 0 from rfl, HQ.out.1] at k0
        rw [show cntK M ((5 : Nat) : Int) = cntK M 5 from rfl, HQ.out.2] at k5
        have hd := hown6.cellAt p j1
        obtain ⟨g, cap, hvs, hd2, hf2, hg, hst⟩ := hown6.at2 j1 j2
        rw [hvs] at hd
        rw [Hfv.out] at hd2
        have Hst := Lib.hid (hst (y + 1))
        have Hlst := Lib.hid (show OwnRL (w6.setCell ⟨g, k, none⟩ (.int .i64 (y + 1))) w3.heap.size (.slice (some ⟨b1, o1, none⟩) A.length tc) A ts from by
          have hgl : g < w3.heap.size := by
            have h := (Hr0.out p j1)
            rw [hvs] at h
            exact h g rfl
          exact ⟨Go.ownsRow_setCell_other (a := ⟨g, k, none⟩) Hlist6.out.top (fun e => by have := (World.ownsRow.lt Hlist6.out.top g e).1; omega) _, fun i hi => by
            obtain ⟨us, hu⟩ := Hlist6.out.each i hi
            exact ⟨us, ⟨Go.ownsRow_setCell_other (a := ⟨g, k, none⟩) hu.top (fun e => by have := (World.ownsRow.lt hu.top g e).1; omega) _, fun j hj => Go.ownsRow_setCell_other (a := ⟨g, k, none⟩) (hu.rows j hj) (fun e => by have := (OwnI.lt (hu.rows j hj) g e).1; omega) _⟩⟩⟩)
        have Hbs := Lib.hid (Hb6.out.setCell (p := ⟨g, k, none⟩) hg (.int .i64 (y + 1)))
        clear hbA hK hown6 hg6 hW6 hst hvs hg
        go_wp2
        go_roundw
        case rel =>
          refine ⟨t + 1, _, by omega, by go_num, Hst.out, fun a b ha hb => ?_, Hlst.out, Hbs.out⟩
          rw [HS.out]
          by_cases e : a = p ∧ b = k
          · rw [if_pos e, if_pos e]
          · rw [if_neg e, if_neg e]; exact Heq.out a b ha hb
        case measure => simp [intOf]; omega
      · obtain rfl : t = A.length := by omega
        have hfin : OwnM wr w.heap.size (.slice (some ⟨G, 0, none⟩) R R) (joint N) := by
          have e : joint N = tab R C f := by
            rw [Hjt.out]
            exact eq_tab (tab_len _ _ _) (fun i hi => tab_row hi) (fun i j hi hj => by rw [gi_tab hi hj, ← Heq.out i j hi hj])
          exact ⟨vs, by rw [e, tab_len]; exact Hown.out⟩
        have Hfin := Lib.hid hfin
        clear hfin
        go_wp2
        go_ret2
        exact ⟨MRes.yes ⟨by omega, by omega⟩ (by rw [Int.toNat_natCast]; exact Hfin.out), Hbr.out⟩
  · obtain rfl := ha.isnt hn
    have Hn := Lib.hid hn
    have Hb := Lib.hid hb
    clear ha hb hn C1
    go_wp2
    go_ret2
    exact ⟨MRes.no Hn.out, Hb.out⟩
end Go.Proofs.YtnhkclnloiiihaaDoor

namespace Go.Proofs.YtnhkclnloiiihaaDoor
open Go.RowKit

end Go.Proofs.YtnhkclnloiiihaaDoor

namespace Go.Proofs.YtnhkclnloiiihaaDoor
open Go.RowKit

theorem firstW_len (n : Nat) : (firstW n).length = n := by simp [firstW, firstB]
theorem firstW_take {N k : Nat} (h : k < N) : (firstW N).take (k + 1) = (firstW N).take k ++ [wrap64 (waysB N [(k : Int)])] := by
  rw [List.take_succ_eq_append_getElem (by rw [firstW_len]; exact h)]
  simp [firstW, firstB]

end Go.Proofs.YtnhkclnloiiihaaDoor

namespace Go.Proofs.YtnhkclnloiiihaaDoor
open Go.RowKit

def in5Minus (n : Int) : Prop := 1 ≤ n ∧ n ≤ 5
def listMinus (n : Nat) : List Int := trimF (countsF nextMinus n)
theorem listMinus_len {n : Int} (h : in5Minus n) : (listMinus n.toNat).length ≤ 1048576 := by
  unfold listMinus trimF
  rw [List.length_take]
  have : (countsF nextMinus n.toNat).length = n.toNat * n.toNat + 1 := by unfold countsF; rw [spreadF_len, List.length_replicate]
  unfold in5Minus at h
  have := Nat.mul_le_mul (show n.toNat ≤ 5 by omega) (show n.toNat ≤ 5 by omega)
  omega
theorem Minus_facts {N : Nat} (h1 : 1 ≤ N) (h5 : N ≤ 5) : sameC lostSc nextMinus N ((N - 1) * (N - 1) / 4) = true ∧ limC lostSc N ((N - 1) * (N - 1) / 4) = true := by
  obtain ⟨a, b, c, d, e⟩ := lost_same
  obtain ⟨a', b', c', d', e'⟩ := lost_ok
  rcases (by omega : N = 1 ∨ N = 2 ∨ N = 3 ∨ N = 4 ∨ N = 5) with rfl | rfl | rfl | rfl | rfl
  · exact ⟨a, a'⟩
  · exact ⟨b, b'⟩
  · exact ⟨c, c'⟩
  · exact ⟨d, d'⟩
  · exact ⟨e, e'⟩

theorem mostMinus5_any (N : Nat) (w : World) (_ : 1 ≤ N) (_ : N ≤ 5) :
    Calls Tryd.prog 112 #[.int .i64 (N : Int)] w fun e w' => e = .returned (.int .i64 (((N - 1) * (N - 1) / 4 : Nat) : Int)) ∧ w = w' := by
  obtain rfl | rfl | rfl | rfl | rfl : N = 1 ∨ N = 2 ∨ N = 3 ∨ N = 4 ∨ N = 5 := by omega
  all_goals
    go_enter Tryd.func112, Tryd.ntmps112
    go_wp2
    go_ret
    exact ⟨rfl, rfl⟩
set_option maxRecDepth 100000 in
set_option maxHeartbeats 800000 in
theorem implCountByMinus_any (n : Int) (w : World) (_ : -9223372036854775808 ≤ n ∧ n ≤ 9223372036854775807) (hD : Dj w) :
    Calls Tryd.prog 64 #[.int .i64 n] w fun e w' => LRes (in5Minus n) (listMinus n.toNat) w' w.heap.size e ∧ Below w.heap.size w w' := by
  by_cases h1 : 1 ≤ n
  · by_cases h5 : n ≤ 5
    · obtain ⟨N, rfl⟩ : ∃ N : Nat, n = (N : Int) := ⟨n.toNat, by omega⟩
      obtain ⟨hs, hl⟩ := Minus_facts (N := N) (by omega) (by omega)
      have hlim := limC_lim hl
      obtain ⟨G, hG⟩ : ∃ G : Nat, G = (N - 1) * (N - 1) / 4 := ⟨_, rfl⟩
      rw [← hG] at hs hlim
      have hG10 : G ≤ 10 := by
        rw [hG]
        rcases (by omega : N = 1 ∨ N = 2 ∨ N = 3 ∨ N = 4 ∨ N = 5) with rfl | rfl | rfl | rfl | rfl <;> decide
      have hc := byScore_lostColumns lostSc lostColumns_any lost_small N G (by omega) (by omega) (by omega) hlim w hD
      have hsame : scoreL lostSc N (G + 1) = listMinus N := by
        unfold sameC at hs
        simp only [Bool.and_eq_true] at hs
        rw [scoreT_is]
        have := hs.2
        simp at this
        exact this.symm
      rw [hsame] at hc
      have Hc := Lib.hid hc
      have hd5 : decide ((5 : Int) < (N : Int)) = false := by simp; omega
      have hmost := mostMinus5_any N w (by omega) (by omega)
      rw [← hG] at hmost
      have Hmost := Lib.hid hmost
      clear hmost
      clear hc hD hs hl hlim hsame hG
      go_enter Tryd.func64, Tryd.ntmps64
      go_wp2_with fail
      refine Hmost.out.mono ?_
      rintro e w2 ⟨rfl, rfl⟩
      go_wp2_with fail
      refine Hc.out.mono ?_
      rintro e w1 ⟨v, rfl, hv, hb⟩
      have Hv := Lib.hid hv
      have Hb := Lib.hid hb
      clear hv hb
      go_wp2
      go_ret2
      exact ⟨LRes.yes ⟨h1, h5⟩ (by rw [Int.toNat_natCast]; exact Hv.out), Hb.out⟩
    · have hd5 : decide ((5 : Int) < n) = true := by simp; omega
      go_enter Tryd.func64, Tryd.ntmps64
      go_wp2
      go_ret2
      exact ⟨LRes.no fun h => by have := h.2; omega, Below.refl _ _⟩
  · go_enter Tryd.func64, Tryd.ntmps64
    go_wp2
    go_ret2
    exact ⟨LRes.no fun h => by have := h.1; omega, Below.refl _ _⟩
end Go.Proofs.YtnhkclnloiiihaaDoor

namespace Go.Proofs.YtnhkclnloiiihaaDoor
open Go.RowKit

end Go.Proofs.YtnhkclnloiiihaaDoor

