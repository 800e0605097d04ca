/- Contracts: row sets, by both sides. Conditions: a sign matrix where told; the table of math/bits for the program. -/
import Derived.Test.YtifnhlnbofkloaaDoorTriOf
import Derived.Test.YtifnhlnbofkloaaDoorSpecB
namespace Go.Proofs.YtifnhlnbofkloaaDoor
open Go.RowKit

set_option maxRecDepth 100000 in
set_option maxHeartbeats 1600000 in
theorem weSets_any (ao : Option Addr) (c : Nat) (m : List (List Int)) (w : World) (hg : good m) (hm : MatAt w ao m) :
    Calls Tryd.prog 48 #[.slice ao m.length c] w fun e w' => ∃ v, e = .returned v ∧ OwnM w' w.heap.size v (triM m) ∧ Below w.heap.size w w' := by
  obtain ⟨i0, hi, hz0, hz1, hz2⟩ := info_parts Tryd.info_int
  obtain ⟨j0, hj, hy0, hy1, hy2⟩ := info_parts Tryd.info_ints
  have hn := hg.1.2.1
  have hmx : m.length ≤ 9223372036854775807 := by omega
  have Hg := Lib.hid hg
  have Hm := Lib.hid hm
  clear hg hm
  go_enter Tryd.func48, Tryd.ntmps48
  go_wp2_with (at_make; refine wpList_make_full _ rfl _ _ 29 rfl w.heap.size 3 i0 (.int .i64 0) 1 Tryd.underlying29 hi hz0 hz1 _ _ _ _ m.length rfl rfl rfl rfl ?c1 ?c2 ?c3 ?_)
  case c1 => rw [hz2]; omega
  case c2 => unfold maxLen; omega
  case c3 => simp
  intro w1 hown hgr
  have hb1 : Below w.heap.size w w1 := (Below.refl _ _).grown hgr (Nat.le_refl _) (fun _ h => by cases h)
  have hsum := OwnI.made hown
  rw [← sumMid_zero m] at hsum
  have Hsum := Lib.hid hsum
  have Hb1 := Lib.hid hb1
  have HB1 := Lib.hid (show w.heap.size + 1 ≤ w1.heap.size from by have := (OwnI.lt hsum w.heap.size rfl).2; omega)
  clear hown hgr hb1 hsum
  go_wp2
  go_loopw [3, 15] (fun out i wr => ∃ (k : Nat) (vs : List Value), k ≤ m.length ∧ i = .int .i64 k ∧ OwnI wr w.heap.size (.slice (some ⟨w.heap.size, 0, none⟩) m.length m.length) (sumMid m k 0) ∧ OwnP wr (w.heap.size + 1) out k (triM m) k vs ∧ Below w.heap.size w wr ∧ w.heap.size + 1 ≤ wr.heap.size)
    (fun _ i _ => m.length - (intOf i).toNat)
  case atStart => exact ⟨0, [], Nat.zero_le _, rfl, Hsum.out, OwnP.nil0 _ _ _, Hb1.out, HB1.out⟩
  case round =>
    obtain ⟨k, vs, hk, rfl, hsum, hown, hbr, hsz⟩ := hrel
    clear Hsum Hb1 HB1
    by_cases hlt : k < m.length
    · obtain ⟨b1, o1, r1, d1, rfl, hc1, hx1, _, _⟩ := Hm.out k hlt
      have hrl : (gr m k).length = m.length := Hg.out.1.2.2 k hlt
      rw [hrl] at hc1
      have hc1' := cell_below hc1 hbr
      have Hrow := Lib.hid hx1
      have Hrl := Lib.hid hrl
      have Hown := Lib.hid hown
      have Hbr := Lib.hid hbr
      have Hsum := Lib.hid hsum
      have He := Lib.hid (triMid_end m k)
      obtain ⟨wo, hwo⟩ : ∃ wo : World, wo = wr := ⟨_, rfl⟩
      subst hwo
      clear hx1 hrl hown hbr hsum hc1
      go_wp2
      go_loopw [7, 21] (fun row i wr => ∃ t : Nat, t ≤ m.length ∧ i = .int .i64 t ∧ OwnI wr w.heap.size (.slice (some ⟨w.heap.size, 0, none⟩) m.length m.length) (sumMid m k t) ∧ OwnI wr wo.heap.size row (colsF t fun j => decide (colR m j (k + 1) = 1)) ∧ wo.grownBy wr (some w.heap.size))
        (fun _ i _ => m.length - (intOf i).toNat)
      case atStart => exact ⟨0, Nat.zero_le _, rfl, Hsum.out, OwnI.nil _ _, World.grownBy.refl _ _⟩
      case round =>
        obtain ⟨t, ht, rfl, hsum, hrow, hgb⟩ := hrel
        clear Hsum
        have hbt : Below w.heap.size w wr := Hbr.out.grown hgb (by omega) (fun k hk => by cases hk; exact Nat.le_refl _)
        by_cases htl : t < m.length
        · obtain ⟨b2, o2, rfl, hc2⟩ := Hrow.out.below hbt t (by rw [Hrl.out]; exact htl)
          have hcs := hsum.cellAt t htl
          rw [gi_sumMid htl, if_neg (by omega)] at hcs
          have hfs := hsum.frozenAt t
          have h01 := colR_01 Hg.out htl (show k ≤ m.length by omega)
          have h01' := colR_01 Hg.out htl (show k + 1 ≤ m.length by omega)
          have hst := hsum.store t (colR m t k + gi (gr m k) t)
          rw [sumMid_set htl] at hst
          rw [colR] at h01'
          have hsucc := colsF_succ t fun j => decide (colR m j (k + 1) = 1)
          have hrow1 : OwnI (wr.setCell ⟨w.heap.size, t, none⟩ (.int .i64 (colR m t k + gi (gr m k) t))) wo.heap.size _ (colsF t fun j => decide (colR m j (k + 1) = 1)) :=
            hrow.setOther (a := ⟨w.heap.size, t, none⟩) (fun e => by have := (hrow.lt _ e).1; simp at this; omega) _
          have hg1 : wo.grownBy (wr.setCell ⟨w.heap.size, t, none⟩ (.int .i64 (colR m t k + gi (gr m k) t))) (some w.heap.size) :=
            ⟨hgb.os, hgb.tape, hgb.output, by simpa [World.setCell] using hgb.size, fun b hb hne => (Below.heap_setCell _ _ _ _ (fun e => hne (by rw [e]))).trans (hgb.block b hb hne)⟩
          obtain ⟨x, hx⟩ : ∃ x, x = colR m t k := ⟨_, rfl⟩
          obtain ⟨y, hy⟩ : ∃ y, y = gi (gr m k) t := ⟨_, rfl⟩
          have hcsum : colR m t (k + 1) = x + y := by rw [hx, hy]; rfl
          rw [← hx] at hcs h01 h01' hst hrow1 hg1
          rw [← hy] at hc2 h01' hst hrow1 hg1
          have Hst := Lib.hid hst
          have Hrow1 := Lib.hid hrow1
          have Hg1 := Lib.hid hg1
          have Hsucc := Lib.hid hsucc
          have Hcsum := Lib.hid hcsum
          have HBs := Lib.hid (show wo.heap.size ≤ (wr.setCell ⟨w.heap.size, t, none⟩ (.int .i64 (x + y))).heap.size from hg1.size)
          clear hsum hrow hgb hbt hst hrow1 hg1 hsucc hx hy hcsum
          by_cases h1 : x + y = 1
          · have hb : (x + y == 1) = true := by simpa using h1
            have hif : (if (decide (colR m t (k + 1) = 1)) = true then [(t : Int)] else []) = [(t : Int)] := by rw [Hcsum.out]; simp [h1]
            rw [hif] at Hsucc
            obtain ⟨R, hR⟩ : ∃ R, R = colsF t fun j => decide (colR m j (k + 1) = 1) := ⟨_, rfl⟩
            have hRl : R.length ≤ 6 := by rw [hR]; exact Nat.le_trans (colsF_len _ _) (by omega)
            rw [← hR] at Hrow1 Hsucc
            have H1 := Lib.hid h1
            clear hif hR h1
            obtain ⟨ra, rc, hrr, _, _, _⟩ := Hrow1.out.read
            subst hrr
            go_wp2_with (at_builtin; refine wpList_append_own _ rfl _ _ 29 rfl wo.heap.size 3 i0 (.int .i64 0) 1 8 Tryd.underlying29 hi hz0 hz1 hz2 rfl (by decide) _ _ _ rfl (World.ownsRow.alloc Hrow1.out _) ⟨wr.heap.size, 0, none⟩ 1 1 [.int .i64 (t : Int)] rfl rfl ?e1 ?e2 ?e3 ?e4 ?e5 ?_)
            case e1 =>
              have hsz2 : (wr.setCell ⟨w.heap.size, t, none⟩ (.int .i64 (x + y))).heap.size = wr.heap.size := by simp [World.setCell]
              intro j u hj
              have := cell_one_new (wr.setCell ⟨w.heap.size, t, none⟩ (.int .i64 (x + y))) (.int .i64 (t : Int)) 3 j u hj
              rw [hsz2] at this
              exact this
            case e2 => intro u hu; simp at hu; subst hu; rfl
            case e3 => unfold maxLen; omega
            case e4 => omega
            case e5 => have := HBs.out; simp [World.setCell] at this ⊢; omega
            intro v' w3 hown' hgrow _
            have hput := Hrow1.out.snoc HBs.out hown' hgrow
            obtain ⟨ra', rc', hrr, _, _, _⟩ := hput.1.read
            have hR2 : (R ++ [(t : Int)]).length = R.length + 1 := by simp
            rw [hR2] at hrr
            subst hrr
            have hg2 : wo.grownBy w3 (some w.heap.size) := Hg1.out.andThen ((World.grownBy_alloc _ _ _).trans hgrow) (fun j hj => by
              have := (Hrow1.out.lt j hj).1
              exact .inl this)
            have hsum2 : OwnI w3 w.heap.size (.slice (some ⟨w.heap.size, 0, none⟩) m.length m.length) (sumMid m k (t + 1)) :=
              World.ownsRow.kept (World.ownsRow.alloc Hst.out _) hgrow (.inr (fun e => by have := (Hrow1.out.lt w.heap.size e.symm).1; omega))
            have Hput := Lib.hid hput.1
            have Hg2 := Lib.hid hg2
            have Hsum2 := Lib.hid hsum2
            clear hput hown' hgrow hg2 hsum2 hR2
            go_wp2
            go_roundw
            case rel => exact ⟨t + 1, by omega, by go_num, Hsum2.out, by rw [Hsucc.out]; exact Hput.out, Hg2.out⟩
            case measure => simp [intOf]; omega
          · have hb : (x + y == 1) = false := by simpa using h1
            have hif : (if (decide (colR m t (k + 1) = 1)) = true then [(t : Int)] else []) = [] := by rw [Hcsum.out]; simp [h1]
            rw [hif, List.append_nil] at Hsucc
            clear hif h1
            go_wp2
            go_roundw
            case rel => exact ⟨t + 1, by omega, by go_num, Hst.out, by rw [Hsucc.out]; exact Hrow1.out, Hg1.out⟩
            case measure => simp [intOf]; omega
        · obtain rfl : t = m.length := by omega
          obtain ⟨ra, rc, hrr, _, _, _⟩ := hrow.read
          obtain ⟨rn, hrn⟩ : ∃ rn, rn = (colsF m.length fun j => decide (colR m j (k + 1) = 1)).length := ⟨_, rfl⟩
          rw [← hrn] at hrr
          subst hrr
          have hrowk : OwnI wr (w.heap.size + 1) (.slice ra rn rc) (gr (triM m) k) := by rw [gr_triM hlt]; exact hrow.base (by omega)
          have hfr : ∀ j, j < k → ∀ g, (vs.getD j undef).ownBlock = some g → (Value.slice ra rn rc).ownBlock ≠ some g := fun j hj g hg hg' => by
            have h1 := (Hown.out.rows j hj).lt g hg
            have h2 := hrow.lt g hg'
            omega
          have Hown2 := Lib.hid (Hown.out.kept hgb (by omega))
          have Hrowk := Lib.hid hrowk
          have Hfr := Lib.hid hfr
          have Hgb := Lib.hid hgb
          have Hbt := Lib.hid (Hbr.out.grown hgb (by omega) (fun k hk => by cases hk; exact Nat.le_refl _))
          have Hsum := Lib.hid (show OwnI wr w.heap.size (.slice (some ⟨w.heap.size, 0, none⟩) m.length m.length) (sumMid m (k + 1) 0) by rw [← sumMid_next]; exact hsum)
          have HBs := Lib.hid (show w.heap.size + 1 ≤ wr.heap.size from Nat.le_trans hsz hgb.size)
          obtain ⟨oa, oc, hoo, _, _, _⟩ := ownsRow_read Hown2.out.top
          subst hoo
          clear hsum hrow hgb hrowk hfr hrn hc1'
          go_wp2_with (at_builtin; refine wpList_append_own _ rfl _ _ 22 rfl (w.heap.size + 1) 29 j0 (.slice none 0 0) 1 24 Tryd.underlying22 hj hy0 hy1 hy2 rfl (by decide) _ _ _ rfl (World.ownsRow.alloc Hown2.out.top _) ⟨wr.heap.size, 0, none⟩ 1 1 [.slice ra rn rc] rfl rfl ?f1 ?f2 ?f3 ?f4 ?f5 ?_)
          case f1 => exact cell_one_new _ _ _
          case f2 => intro u hu; simp at hu; subst hu; rfl
          case f3 => unfold maxLen; omega
          case f4 => omega
          case f5 => have := HBs.out; simp; omega
          intro v' w3 hown' hgrow _
          have hput := Hown2.out.snoc HBs.out Hrowk.out Hfr.out hown' hgrow
          have hsum3 : OwnI w3 w.heap.size (.slice (some ⟨w.heap.size, 0, none⟩) m.length m.length) (sumMid m (k + 1) 0) :=
            World.ownsRow.kept (World.ownsRow.alloc Hsum.out _) hgrow (.inr (fun e => by have := (World.ownsRow.lt Hown2.out.top w.heap.size e.symm).1; omega))
          have Hput := Lib.hid hput
          have Hsum3 := Lib.hid hsum3
          clear hput hown' hgrow hsum3
          go_wp2
          go_roundw
          case rel => exact ⟨k + 1, _, by omega, by go_num, Hsum3.out, Hput.out.1, Hbt.out.trans (Hput.out.2.mono (by omega)), Nat.le_trans HBs.out Hput.out.2.size⟩
          case measure => simp [intOf]; omega
    · obtain rfl : k = m.length := by omega
      go_wp2
      go_ret
      exact ⟨_, rfl, ⟨vs, by rw [triM_len]; exact hown.base (by omega)⟩, hbr⟩

set_option maxRecDepth 100000 in
set_option maxHeartbeats 800000 in
theorem specRowSets_any (ao : Option Addr) (c : Nat) (m : List (List Int)) (w : World) (hs : Small m) (hm : MatAt w ao m) :
    Calls Tryd.prog 14 #[.slice ao m.length c] w fun e w' => MRes (good m) (triM m) w' w.heap.size e ∧ Below w.heap.size w w' := by
  have Hs := Lib.hid hs
  have Hm := Lib.hid hm
  clear hs hm
  go_enter Tryd.func14, Tryd.ntmps14
  go_wp2_with fail
  refine (sgGood_any ao c m w Hs.out Hm.out).mono ?_
  rintro e w1 ⟨ha, hb⟩
  have Hb := Lib.hid hb
  have HB := Lib.hid hb.size
  clear hb
  by_cases hg : good m
  · have Hg := Lib.hid hg
    clear hg
    obtain rfl := ha.is Hg.out
    clear ha
    go_wp2_with fail
    refine (weSets_any ao c m w1 Hg.out (Hm.out.below Hb.out)).mono ?_
    rintro e w2 ⟨v, rfl, hv, hb2⟩
    have Hv := Lib.hid (hv.base HB.out)
    have Hb2 := Lib.hid (Hb.out.trans (hb2.mono HB.out))
    clear hv hb2
    go_wp2
    go_ret2
    exact ⟨MRes.yes Hg.out Hv.out, Hb2.out⟩
  · have Hg := Lib.hid hg
    clear hg
    obtain rfl := ha.isnt Hg.out
    clear ha
    go_wp2
    go_ret2
    exact ⟨MRes.no Hg.out, Hb.out⟩
set_option maxRecDepth 100000 in
set_option maxHeartbeats 800000 in
theorem implRowSets_any (ao : Option Addr) (c : Nat) (m : List (List Int)) (w : World) (hs : Small m) (hwf : WfM m) (hm : MatAt w ao m) (hD : Dj w) :
    Calls Tryd.prog 16 #[.slice ao m.length c] w fun e w' => MRes (good m) (triM m) w' w.heap.size e ∧ Below w.heap.size w w' := by
  have C := Lib.hid (implTriangleOf_any ao c m w hs hwf hm hD)
  clear hs hwf hm hD
  go_enter Tryd.func16, Tryd.ntmps16
  go_wp2_with fail
  refine C.out.mono ?_
  rintro e w1 ⟨⟨v, b, r, rfl, hv, hr⟩, hb⟩
  have Hv := Lib.hid hv
  have Hr := Lib.hid hr
  have Hb := Lib.hid hb
  clear hv hr hb
  go_wp2
  go_ret2
  exact ⟨⟨v, b, r, rfl, Hv.out, Hr.out⟩, Hb.out⟩
end Go.Proofs.YtifnhlnbofkloaaDoor
