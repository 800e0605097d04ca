/- Parts of proofs: contracts and plain facts. Conditions: as each says. -/
import Derived.Test.YtmonhmbnbhaemaaDoorK09
namespace Go.Proofs.YtmonhmbnbhaemaaDoor
open Go.RowKit

set_option maxRecDepth 100000 in
set_option maxHeartbeats 800000 in
theorem sReverseM_any (B g n c : Nat) (vs : List Value) (w : World) (hn : n ≤ 1048576) (hn1 : 1 ≤ n) (hB : B ≤ g) (hsl : ∀ t, t < n → ∃ r m d, vs.getD t undef = .slice r m d) (ho : w.ownsRow g 33 1 (.slice (some ⟨g, 0, none⟩) n c) n vs) :
    Calls Tryd.prog 55 #[.slice (some ⟨g, 0, none⟩) n c] w fun e w' => e = .returned (.tuple #[]) ∧ w'.ownsRow g 33 1 (.slice (some ⟨g, 0, none⟩) n c) n vs.reverse ∧ Below B w w' := by
  have hmx : n ≤ 9223372036854775807 := by omega
  have hvl : vs.length = n := by simpa using ho.1
  have Hsl := Lib.hid hsl
  have Ho := Lib.hid ho
  have Hvl := Lib.hid hvl
  clear ho hvl hsl
  go_enter Tryd.func55, Tryd.ntmps55
  go_wp2
  go_loopw [2, 3] (fun i j wr => ∃ (k l : Nat) (us : List Value), k + l + 1 = n ∧ k ≤ l + 1 ∧ i = .int .i64 k ∧ j = .int .i64 l ∧ wr.ownsRow g 33 1 (.slice (some ⟨g, 0, none⟩) n c) n us ∧ (∀ t, t < n → us.getD t undef = if t < k ∨ n - k ≤ t then vs.getD (n - 1 - t) undef else vs.getD t undef) ∧ Below B w wr) (fun i _ _ => n - (intOf i).toNat)
  case atStart => exact ⟨0, n - 1, vs, by omega, by omega, rfl, by go_num, Ho.out, fun t ht => by rw [if_neg (by omega)], Below.refl _ _⟩
  case round =>
    obtain ⟨k, l, us, hkl, hle, rfl, rfl, hown, hus, hbr⟩ := hrel
    by_cases hlt : k < l
    · have hul : us.length = n := by simpa using hown.1
      have hck := World.ownsRow.cellAt hown k (by omega)
      have hcl := World.ownsRow.cellAt hown l (by omega)
      have hfk := World.ownsRow.frozenAt hown k
      have hfl := World.ownsRow.frozenAt hown l
      obtain ⟨r1, m1, d1, e1⟩ := Hsl.out k (by omega)
      obtain ⟨r2, m2, d2, e2⟩ := Hsl.out l (by omega)
      have f1 : us[k]? = some (.slice r1 m1 d1) := by
        have := hus k (by omega)
        rw [if_neg (by omega), e1] at this
        simp only [List.getD, List.getElem?_eq_getElem (show k < us.length by omega), Option.getD_some] at this ⊢
        rw [this]
      have f2 : us[l]? = some (.slice r2 m2 d2) := by
        have := hus l (by omega)
        rw [if_neg (by omega), e2] at this
        simp only [List.getD, List.getElem?_eq_getElem (show l < us.length by omega), Option.getD_some] at this ⊢
        rw [this]
      rw [f1] at hck
      rw [f2] at hcl
      have hkn : k < n := by omega
      have hln : l < n := by omega
      have hne : k ≠ l := by omega
      have hne2 : l ≠ k := by omega
      have Hus := Lib.hid hus
      have Hown := Lib.hid hown
      have Hbr := Lib.hid hbr
      have Hf1 := Lib.hid (And.intro e1 e2)
      clear hus hown hbr f1 f2 e1 e2
      go_wp2_with fail
      go_region
      go_wp2
      go_roundw
      case rel =>
        have hz : (k : Int) < l := by omega
        refine ⟨k + 1, l - 1, (us.set k (.slice r2 m2 d2)).set l (.slice r1 m1 d1), by omega, by omega, by go_num, by rw [show ((l - 1 : Nat) : Int) = (l : Int) - 1 from by omega], ?_, ?_, ?_⟩
        · exact (World.ownsRow.stored (World.ownsRow.stored (ownsRow_below Hown.out ((Q.refl wr).drewN 1 |>.below _)) k _).1 l _).1
        · intro t ht
          obtain ⟨e1, e2⟩ := Hf1.out
          have hu := Hus.out t ht
          simp only [List.getD, List.getElem?_set, List.length_set] at hu e1 e2 ⊢
          by_cases ht1 : l = t
          · subst ht1
            rw [if_pos rfl, if_pos (by omega), if_pos (by omega), show n - 1 - l = k from by omega, e1]
            rfl
          · rw [if_neg ht1]
            by_cases ht2 : k = t
            · subst ht2
              rw [if_pos rfl, if_pos (by omega), if_pos (by omega), show n - 1 - k = l from by omega, e2]
              rfl
            · rw [if_neg ht2, hu]
              by_cases hc : t < k ∨ n - k ≤ t
              · rw [if_pos hc, if_pos (by omega)]
              · rw [if_neg hc, if_neg (by omega)]
        · exact ((Hbr.out.trans ((Q.refl wr).drewN 1 |>.below _)).setCell (p := ⟨g, k, none⟩) hB _).setCell (p := ⟨g, l, none⟩) hB _
      case measure => simp [intOf]; omega
    · have hfin : us = vs.reverse := by
        have hul : us.length = n := by simpa using hown.1
        apply List.ext_getElem (by rw [List.length_reverse, hul, Hvl.out])
        intro t h1 h2
        have hu := hus t (by omega)
        rw [List.getElem_reverse]
        have hvl := Hvl.out
        by_cases hc : t < k ∨ n - k ≤ t
        · rw [if_pos hc] at hu
          simp only [List.getD, List.getElem?_eq_getElem h1, List.getElem?_eq_getElem (show n - 1 - t < vs.length by omega), Option.getD_some] at hu
          rw [hu]
          congr 1
          omega
        · rw [if_neg hc] at hu
          simp only [List.getD, List.getElem?_eq_getElem h1, List.getElem?_eq_getElem (show t < vs.length by omega), Option.getD_some] at hu
          rw [hu]
          congr 1
          omega
      rw [hfin] at hown
      have Hown := Lib.hid hown
      have Hbr := Lib.hid hbr
      have hd : decide ((k : Int) < (l : Int)) = false := by simp; omega
      clear hown hus hbr hfin
      go_wp2
      (try simp only [Exit.inBlock, Exit.then]); refine bodyPost_end (results_none rfl _ _ _) rfl ?_
      exact ⟨rfl, Hown.out, Hbr.out⟩
end Go.Proofs.YtmonhmbnbhaemaaDoor

namespace Go.Proofs.YtmonhmbnbhaemaaDoor
open Go.RowKit

theorem OwnR.isAt {w : World} {B n c : Nat} {ao : Option Addr} {m : List (List Int)} {vs : List Value} (h : OwnR w B (.slice ao n c) m vs) (hn : 1 ≤ m.length) : ∃ g, ao = some ⟨g, 0, none⟩ ∧ B ≤ g ∧ g < w.heap.size := by
  rcases h.top.2 with ⟨h0, h1⟩ | ⟨g, cap, cur, hv, hg, hh, _⟩
  · omega
  · simp only [Value.slice.injEq] at hv
    obtain ⟨rfl, _⟩ := hv
    exact ⟨g, rfl, hg, lt_of_block hh⟩
theorem gr_rev {m : List (List Int)} {i : Nat} (h : i < m.length) : gr m.reverse i = gr m (m.length - 1 - i) := by
  rw [gr_lt (by simpa using h), gr_lt (by omega), List.getElem_reverse]

set_option maxRecDepth 100000 in
set_option maxHeartbeats 800000 in
theorem upsideDownR_any (B : Nat) (ao : Option Addr) (c : Nat) (m : List (List Int)) (vs : List Value) (w : World) (hn : m.length ≤ 1048576) (h1 : 1 ≤ m.length) (hB : B ≤ w.heap.size) (hm : OwnR w B (.slice ao m.length c) m vs) :
    Calls Tryd.prog 42 #[.slice ao m.length c] w fun e w' => ∃ v, e = .returned v ∧ OwnR w' B v m.reverse vs.reverse ∧ Below w.heap.size w w' := by
  have hmx : m.length ≤ 9223372036854775807 := by omega
  obtain ⟨b, rfl, _, _⟩ := hm.isAt h1
  have hcl := hm.cells
  have hlen := hm.len
  have Hm := Lib.hid hm
  have Hlen := Lib.hid hlen
  have Hcl := Lib.hid (sCloneM_any b 0 m.length c vs w hn hlen (fun j u hj => by have := hcl.1 j u hj; rw [Addr.add_lit] at this; exact this) hcl.2)
  have Hsl := Lib.hid (show ∀ t, t < m.length → ∃ r k d, vs.getD t undef = .slice r k d from fun t ht => by
    obtain ⟨r, d, e, _⟩ := (hm.rows t ht).read
    exact ⟨r, _, d, e⟩)
  have HB := Lib.hid hB
  clear hm hcl hlen
  go_enter Tryd.func42, Tryd.ntmps42
  go_wp2_with fail
  refine Hcl.out.mono ?_
  rintro e w1 ⟨v, rfl, hown, hb1⟩
  obtain ⟨ao', d, e1, _, _, _⟩ := ownsRow_read hown
  subst e1
  obtain ⟨g, hg, hgB⟩ : ∃ g, ao' = some ⟨g, 0, none⟩ ∧ w.heap.size ≤ g := by
    rcases hown.2 with ⟨h0, _⟩ | ⟨g, cap, cur, hv, hb, _⟩
    · simp only [Value.slice.injEq] at h0; omega
    · simp only [Value.slice.injEq] at hv
      exact ⟨g, hv.1, hb⟩
  subst hg
  have Hrv := Lib.hid (sReverseM_any w.heap.size g m.length d vs w1 hn h1 hgB Hsl.out (ownsRow_raise hown (fun k hk => by simp [Value.ownBlock] at hk; omega)))
  have Hb1 := Lib.hid hb1
  clear hown hb1
  go_wp2_with fail
  refine Hrv.out.mono ?_
  rintro e w2 ⟨rfl, hown, hb2⟩
  have Hb2 := Lib.hid (Hb1.out.trans hb2)
  have hfin : OwnR w2 B (.slice (some ⟨g, 0, none⟩) m.length d) m.reverse vs.reverse := by
    refine ⟨by rw [List.length_reverse]; exact ownsRow_base hown (Nat.le_trans HB.out hgB), fun i hi => ?_⟩
    rw [List.length_reverse] at hi
    rw [gr_rev hi]
    have := (Hm.out.rows (m.length - 1 - i) (by omega)).below Hb2.out
    simp only [List.getD] at this ⊢
    rw [List.getElem?_reverse (by rw [Hlen.out]; exact hi), Hlen.out]
    exact this
  have Hfin := Lib.hid hfin
  clear hown hb2 hfin
  go_wp2
  go_ret
  exact ⟨_, rfl, Hfin.out, Hb2.out⟩

theorem OwnR.setOther {w : World} {B B' n' : Nat} {x v : Value} {m : List (List Int)} {vs ys : List Value} {e' : TypeId} {g i : Nat} (h : OwnR w B x m vs) (k : w.ownsRow B' e' 1 v n' ys) (hv : v.ownBlock = some g) (h1 : 33 ≠ e') (h2 : 3 ≠ e') (u : Value) : OwnR (w.setCell ⟨g, i, none⟩ u) B x m vs :=
  ⟨Go.ownsRow_setCell_other h.top (fun e => row_apart h.top k h1 g e hv) u, fun j hj => Go.ownsRow_setCell_other (h.rows j hj) (fun e => row_apart (h.rows j hj) k h2 g e hv) u⟩
/-- a table is put in the place of another one -/
theorem OwnRL.set {w : World} {B g n c i : Nat} {ts : List (List (List Int))} {vs zs : List Value} {v : Value} {M : List (List Int)} (h : OwnRL w B (.slice (some ⟨g, 0, none⟩) n c) ts vs) (hi : i < ts.length) (hv : OwnR w B v M zs) :
    OwnRL (w.setCell ⟨g, i, none⟩ v) B (.slice (some ⟨g, 0, none⟩) n c) (ts.set i M) (vs.set i v) := by
  have hl := h.len
  have hn : ts.length = n := by
    obtain ⟨ao, c', e, _, _⟩ := h.head
    simp only [Value.slice.injEq] at e
    exact e.2.1.symm
  subst hn
  refine ⟨by rw [List.length_set]; exact (World.ownsRow.stored h.top i v).1, fun j hj => ?_⟩
  rw [List.length_set] at hj
  by_cases e : j = i
  · subst e
    refine ⟨zs, ?_⟩
    have e1 : (vs.set j v).getD j undef = v := by simp [List.getD, hl, hj]
    have e2 : gt (ts.set j M) j = M := by unfold gt; simp [List.getD, hj]
    rw [e1, e2]
    exact hv.setOther h.top rfl (by decide) (by decide) v
  · obtain ⟨us, hu⟩ := h.each j hj
    refine ⟨us, ?_⟩
    have e1 : (vs.set i v).getD j undef = vs.getD j undef := by simp only [List.getD]; rw [List.getElem?_set_ne (fun h => e h.symm)]
    have e2 : gt (ts.set i M) j = gt ts j := by unfold gt; simp only [List.getD]; rw [List.getElem?_set_ne (fun h => e h.symm)]
    rw [e1, e2]
    exact hu.setOther h.top rfl (by decide) (by decide) v
theorem OwnRL.isAt {w : World} {B n c : Nat} {ao : Option Addr} {ts : List (List (List Int))} {vs : List Value} (h : OwnRL w B (.slice ao n c) ts vs) (hn : 1 ≤ ts.length) : ∃ g, ao = some ⟨g, 0, none⟩ ∧ B ≤ g ∧ g < w.heap.size := by
  rcases h.top.2 with ⟨h0, h1⟩ | ⟨g, cap, cur, hv, hg, hh, _⟩
  · omega
  · simp only [Value.slice.injEq] at hv
    obtain ⟨rfl, _⟩ := hv
    exact ⟨g, rfl, hg, lt_of_block hh⟩

def flipT (t : List (List Int)) : List (List Int) := (fromTab t).reverse
/-- the first k tables turned into sign matrices -/
def mixT (T : List (List (List Int))) (k : Nat) : List (List (List Int)) := (T.take k).map flipT ++ T.drop k
theorem mixT_len (T : List (List (List Int))) (k : Nat) : (mixT T k).length = T.length := by simp [mixT]; omega
theorem mixT_zero (T : List (List (List Int))) : mixT T 0 = T := by simp [mixT]
theorem mixT_end (T : List (List (List Int))) : mixT T T.length = T.map flipT := by simp [mixT]
theorem mixT_at {T : List (List (List Int))} {k : Nat} (h : k < T.length) : gt (mixT T k) k = gt T k := by
  unfold mixT gt
  simp only [List.getD]
  rw [List.getElem?_append_right (by simp; omega), List.length_map, List.length_take, Nat.min_eq_left (by omega), Nat.sub_self, List.getElem?_drop, Nat.add_zero]
theorem mixT_set {T : List (List (List Int))} {k : Nat} (h : k < T.length) : (mixT T k).set k (flipT (gt T k)) = mixT T (k + 1) := by
  apply List.ext_getElem?
  intro i
  unfold mixT
  rw [List.getElem?_set]
  by_cases e : k = i
  · subst e
    rw [if_pos rfl, if_pos (by simp; omega), List.getElem?_append_left (by simp; omega), List.getElem?_map, List.getElem?_take_of_lt (by omega), gt_lt h, List.getElem?_eq_getElem h]
    rfl
  · rw [if_neg e]
    by_cases h2 : i < k
    · rw [List.getElem?_append_left (by simp; omega), List.getElem?_append_left (by simp; omega), List.getElem?_map, List.getElem?_map, List.getElem?_take_of_lt h2, List.getElem?_take_of_lt (by omega)]
    · rw [List.getElem?_append_right (by simp; omega), List.getElem?_append_right (by simp; omega)]
      simp only [List.length_map, List.length_take, List.getElem?_drop]
      rw [Nat.min_eq_left (by omega), Nat.min_eq_left (by omega)]
      congr 1
      omega

set_option maxRecDepth 100000 in
set_option maxHeartbeats 3200000 in
theorem allSigns_any (n : Nat) (w : World) (h1 : 1 ≤ n) (h5 : n ≤ 5) (hD : Dj w) :
    Calls Tryd.prog 25 #[.int .i64 (n : Int)] w fun e w' => ∃ v vs, e = .returned v ∧ OwnRL w' w.heap.size v (allI n) vs ∧ Below w.heap.size w w' := by
  have hcols := tris_cols n (by omega)
  have C := Lib.hid (triangles_any (n - 1) (fullR n) w (by omega) (fullR_rise (by omega)) (by rw [fullR_len]; omega) hD)
  rw [fullR_ok n (by omega)] at C
  have hTl := trisD_le (n - 1) (fullR n) (fullR_rise (by omega)) (by rw [fullR_len]; omega)
  have hTb := trB_le (n - 1) (by omega)
  obtain ⟨T, hT⟩ : ∃ T, T = trisD (n - 1) (fullR n) := ⟨_, rfl⟩
  rw [← hT] at hcols C hTl
  have HV := Lib.hid (show allI n = T.map flipT by rw [hT]; rfl)
  have Hcols := Lib.hid (show ∀ t, t ∈ T → t.length = n ∧ colsOk t from fun t ht => (hcols t ht).resolve_left (by omega))
  have hTn : T.length ≤ 1099511627776 := Nat.le_trans hTl hTb
  obtain ⟨q, hq⟩ : ∃ q : Int, q = ((2 ^ n - 1 : Nat) : Int) := ⟨_, rfl⟩
  have CA := Lib.hid (allColumns_any n w (by omega))
  rw [← hq] at C CA
  clear hcols hT hTl hTb hD hq
  go_enter Tryd.func25, Tryd.ntmps25
  go_wp2_with fail
  refine CA.out.mono ?_
  rintro e w1 ⟨rfl, rfl⟩
  go_wp2_with fail
  refine C.out.mono ?_
  rintro e w2 ⟨v, vs, rfl, hv, _, hb⟩
  obtain ⟨ta, tc, rfl, ht1, ht2⟩ := hv.head
  have Hv := Lib.hid hv
  have Hb := Lib.hid hb
  clear hv hb C CA
  go_wp2
  go_loopw [11] (fun i wr => ∃ (k : Nat) (vs : List Value), k ≤ T.length ∧ i = .int .i64 k ∧ OwnRL wr w.heap.size (.slice ta T.length tc) (mixT T k) vs ∧ Below w.heap.size w wr) (fun i _ => T.length - (intOf i).toNat)
  case atStart => exact ⟨0, vs, Nat.zero_le _, rfl, by rw [mixT_zero]; exact Hv.out, Hb.out⟩
  case round =>
    obtain ⟨k, vs, hk, rfl, hown, hbr⟩ := hrel
    clear Hv Hb
    have Hown := Lib.hid hown
    have Hbr := Lib.hid hbr
    have HBr := Lib.hid hbr.size
    by_cases hlt : k < T.length
    · obtain ⟨g, rfl, hg1, hg2⟩ := hown.isAt (by rw [mixT_len]; omega)
      obtain ⟨b1, o1, r1, d1, e1, hc1, hm1, _, _⟩ := hown.at (i := k) (by rw [mixT_len]; exact hlt)
      cases e1
      rw [Nat.zero_add] at hc1
      rw [mixT_at hlt] at hc1 hm1
      obtain ⟨hl1, hco⟩ := Hcols.out _ (gt_mem hlt)
      have CS := Lib.hid (signsOf_any r1 d1 (gt T k) wr hco hm1)
      have Hset := Lib.hid (show (mixT T k).set k (flipT (gt T k)) = mixT T (k + 1) from mixT_set hlt)
      have Hfl := Lib.hid (show (fromTab (gt T k)).length = n by rw [fromTab_len]; exact hl1)
      rw [hl1] at hc1 CS
      clear hown hbr hm1 hl1 hco
      go_wp2_with fail
      refine CS.out.mono ?_
      rintro e w3 ⟨v3, rfl, hv3, hb3⟩
      obtain ⟨sa, scp, svs, rfl, hsp, _, _⟩ := hv3.open
      have CU := Lib.hid (upsideDownR_any w.heap.size sa scp (fromTab (gt T k)) svs w3 (by rw [Hfl.out]; omega) (by rw [Hfl.out]; omega) (Nat.le_trans HBr.out hb3.size) (hsp.toR.base HBr.out))
      rw [Hfl.out] at CU ⊢
      have Hb3 := Lib.hid hb3
      clear hv3 hb3 hsp CS
      go_wp2_with fail
      refine CU.out.mono ?_
      rintro e w4 ⟨v4, rfl, hv4, hb4⟩
      have hb34 := Hb3.out.trans (hb4.mono Hb3.out.size)
      have hown4 := Hown.out.below hb34
      have hfr : w4.frozen? ⟨g, k, none⟩ = false := by
        have h := hown4.top
        rw [mixT_len] at h
        exact World.ownsRow.frozenAt h k
      have hcell : w4.cell? ⟨g, k, none⟩ = some (.slice r1 n d1) := cell_below hc1 hb34
      have hset := hown4.set (i := k) (by rw [mixT_len]; exact hlt) hv4
      rw [show (fromTab (gt T k)).reverse = flipT (gt T k) from rfl, Hset.out] at hset
      have Hs := Lib.hid hset
      have Hbs := Lib.hid ((Hbr.out.trans (hb34.mono HBr.out)).setCell (p := ⟨g, k, none⟩) hg1 v4)
      obtain ⟨va, vc, hvv, _, _, _⟩ := hv4.read
      rw [List.length_reverse, Hfl.out] at hvv
      subst hvv
      clear hv4 hb4 hb34 hown4 hset CU hc1
      go_wp2
      go_roundw
      case rel => exact ⟨k + 1, _, by omega, by go_num, Hs.out, Hbs.out⟩
      case measure => simp [intOf]; omega
    · obtain rfl : k = T.length := by omega
      rw [mixT_end, ← HV.out] at hown
      have Hown := Lib.hid hown
      clear hown hbr
      go_wp2
      go_ret
      exact ⟨_, vs, rfl, Hown.out, Hbr.out⟩
end Go.Proofs.YtmonhmbnbhaemaaDoor

namespace Go.Proofs.YtmonhmbnbhaemaaDoor
open Go.RowKit

/-- the sum of F over the first k tables; over all -/
def sumVk (F : List (List Int) → Int) (A : List (List (List Int))) (k : Nat) : Int := sumF (fun i => F (gt A i)) k
def sumV (F : List (List Int) → Int) (A : List (List (List Int))) : Int := sumVk F A A.length
theorem sumVk_bd {F : List (List Int) → Int} {A : List (List (List Int))} (h : ∀ m, m ∈ A → 0 ≤ F m ∧ F m ≤ 10000000000000000) : ∀ {k : Nat}, k ≤ A.length → 0 ≤ sumVk F A k ∧ sumVk F A k ≤ k * 10000000000000000
  | 0, _ => by simp [sumVk, sumF]
  | k + 1, hk => by
    have ih := sumVk_bd h (k := k) (by omega)
    have := h _ (gt_mem (show k < A.length by omega))
    unfold sumVk at ih ⊢
    simp only [sumF]
    omega
theorem sumVk_step (F : List (List Int) → Int) (A : List (List (List Int))) (k : Nat) : sumVk F A (k + 1) = sumVk F A k + F (gt A k) := rfl
theorem allI_eq {n : Nat} (h1 : 1 ≤ n) (h4 : n ≤ 4) : allI n = allW n := (allI_W n (by omega)).resolve_left (by omega)
theorem allW_ok {n : Nat} (h1 : 1 ≤ n) (h4 : n ≤ 4) : ∀ m, m ∈ allW n → m.length = n ∧ good m := fun m hm => (allW_good n (by omega) m hm).resolve_left (by omega)

def okSum (n a b c : Int) : Prop := (1 ≤ n ∧ n ≤ 4) ∧ isFac a b c
theorem sumV_congr {F G : List (List Int) → Int} {A : List (List (List Int))} (h : ∀ m, F m = G m) : sumV F A = sumV G A := by
  unfold sumV sumVk
  exact sumF_congr fun i _ => h _

end Go.Proofs.YtmonhmbnbhaemaaDoor

namespace Go.Proofs.YtmonhmbnbhaemaaDoor
open Go.RowKit

theorem allIn_two (a b lo hi : Int) : allIn [a, b] lo hi ↔ (lo ≤ a ∧ a ≤ hi) ∧ lo ≤ b ∧ b ≤ hi := by
  constructor
  · intro h; exact ⟨h 0 (by simp), h 1 (by simp)⟩
  · rintro ⟨h1, h2⟩ i hi
    have hi2 : i < 2 := by simpa using hi
    match i, hi2 with
    | 0, _ => exact h1
    | 1, _ => exact h2
/-- what the kinds are worth in free sums -/
def wtF (x y : Int) : Nat → Int
  | 0 => x
  | 1 => y
  | 2 => 1
  | 3 => 1
  | 4 => 1
  | _ => x + y
theorem kc_wtF (x y z : Int) (hz : z = x + y) : Tryd.prog.built 49 [(0, .int .i64 x), (1, .int .i64 y), (2, .int .i64 1), (3, .int .i64 1), (4, .int .i64 1), (5, .int .i64 z)] = some (kc (wtF x y)) := by
  subst hz
  kernel_rfl
def fVal (m : List (List Int)) (x y : Int) : Int := pw x (cN m 0) * pw y (cN m 1) * pw (x + y) (cN m 5)
theorem prodW_free (m : List (List Int)) (x y : Int) : prodW (wtF x y) (cN m) 6 = fVal m x y := by
  simp only [prodW, wtF, fVal, pw_one, Int.one_mul, Int.mul_one]
def is05 (x y : Int) : Prop := (0 ≤ x ∧ x ≤ 5) ∧ 0 ≤ y ∧ y ≤ 5
theorem wtF_le {x y : Int} (h : is05 x y) : ∀ q, q < 6 → 0 ≤ wtF x y q ∧ wtF x y q ≤ 10 := by
  intro q hq
  obtain ⟨h1, h2⟩ := h
  obtain rfl | rfl | rfl | rfl | rfl | rfl : q = 0 ∨ q = 1 ∨ q = 2 ∨ q = 3 ∨ q = 4 ∨ q = 5 := by omega
  all_goals simp only [wtF]; omega
def okFree (n x y : Int) : Prop := (1 ≤ n ∧ n ≤ 4) ∧ is05 x y

end Go.Proofs.YtmonhmbnbhaemaaDoor

