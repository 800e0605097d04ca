/- Contracts: the kinds of places of a sign matrix, by the model. Condition: the matrix is a sign matrix. -/
import Derived.Test.YtnhkclnloiiihaaWeI
import Derived.Test.YtnhkclnloiiihaaSpecB
namespace Go.Proofs.Ytnhkclnloiiihaa
open Go.RowKit

theorem OwnP.nil1 (w : World) (B : Nat) (m : List (List Int)) : OwnP w B (.slice none 0 0) 0 m 0 [] := ⟨World.ownsRow_nil _ _ _ _, fun i hi => absurd hi (by omega), fun i j _ hj => absurd hj (by omega)⟩
/-- the first kinds of a row -/
def kindRow (m : List (List Int)) (k t : Nat) : List Int := (List.range t).map fun b => kd m k b
theorem kindRow_len (m : List (List Int)) (k t : Nat) : (kindRow m k t).length = t := by simp [kindRow]
theorem kindRow_succ (m : List (List Int)) (k t : Nat) : kindRow m k (t + 1) = kindRow m k t ++ [kd m k t] := by simp [kindRow, List.range_succ]
theorem kindRow_full {m : List (List Int)} {k : Nat} (hk : k < m.length) : kindRow m k m.length = gr (kinds m) k := by unfold kinds; rw [gr_tab hk]; rfl

/-- what stands apart from one block is kept where that block alone turns -/
theorem OwnP.kept1 {w w1 : World} {B n k g : Nat} {v : Value} {m : List (List Int)} {vs : List Value} (h : OwnP w B v n m k vs) (hg : w.grownBy w1 (some g)) (hB : g < B) : OwnP w1 B v n m k vs := by
  have ap : ∀ (e : TypeId) (u : Value) (n : Nat) (xs : List Value), w.ownsRow B e 1 u n xs → w1.ownsRow B e 1 u n xs := fun e u n xs hx => by
    refine World.ownsRow.kept hx hg ?_
    cases hb : u.ownBlock with
    | none => exact .inl rfl
    | some g' => exact .inr (fun e => by cases e; have := (World.ownsRow.lt hx g hb).1; omega)
  exact ⟨ap _ _ _ _ h.top, fun i hi => ap _ _ _ _ (h.rows i hi), h.apart⟩

set_option maxRecDepth 100000 in
set_option maxHeartbeats 1600000 in
theorem weKinds_any (ao : Option Addr) (c : Nat) (m : List (List Int)) (w : World) (hg : good m) (hm : MatAt w ao m) :
    Calls Try.prog 153 #[.slice ao m.length c] w fun e w' => ∃ v, e = .returned v ∧ OwnM w' w.heap.size v (kinds m) ∧ Below w.heap.size w w' := by
  obtain ⟨i0, hi, hz0, hz1, hz2⟩ := info_parts Try.info_int
  obtain ⟨j0, hj, hy0, hy1, hy2⟩ := info_parts Try.info_ints
  have hn := hg.1.2.1
  have hmx : m.length ≤ 9223372036854775807 := by omega
  have Hg := Lib.hid hg
  have Hm := Lib.hid hm
  clear hg hm
  go_enter Try.func153, Try.ntmps153
  go_wp2_with (at_make; refine wpList_make_full _ rfl _ _ 24 rfl w.heap.size 3 i0 (.int .i64 0) 1 Try.underlying24 hi hz0 hz1 _ _ _ _ m.length rfl rfl rfl rfl ?c1 ?c2 ?c3 ?_)
  case c1 => rw [hz2]; omega
  case c2 => unfold maxLen; omega
  case c3 => simp
  intro w1 hown hgr
  have hb1 : Below w.heap.size w w1 := (Below.refl _ _).grown hgr (Nat.le_refl _) (fun _ h => by cases h)
  have hsum := OwnI.made hown
  rw [← colMid_zero m] at hsum
  have Hsum := Lib.hid hsum
  have Hb1 := Lib.hid hb1
  have HB1 := Lib.hid (show w.heap.size + 1 ≤ w1.heap.size from by have := (OwnI.lt hsum w.heap.size rfl).2; omega)
  clear hown hgr hb1 hsum
  go_wp2
  go_loopw [3, 16] (fun out i wr => ∃ (k : Nat) (vs : List Value), k ≤ m.length ∧ i = .int .i64 k ∧ OwnI wr w.heap.size (.slice (some ⟨w.heap.size, 0, none⟩) m.length m.length) (colMid m k 0) ∧ OwnP wr (w.heap.size + 1) out k (kinds m) k vs ∧ Below w.heap.size w wr ∧ w.heap.size + 1 ≤ wr.heap.size)
    (fun _ i _ => m.length - (intOf i).toNat)
  case atStart => exact ⟨0, [], Nat.zero_le _, rfl, Hsum.out, OwnP.nil1 _ _ _, Hb1.out, HB1.out⟩
  case round =>
    obtain ⟨k, vs, hk, rfl, hsum, hown, hbr, hsz⟩ := hrel
    clear Hsum Hb1 HB1
    by_cases hlt : k < m.length
    · obtain ⟨b1, o1, r1, d1, rfl, hc1, hx1, _, _⟩ := Hm.out k hlt
      have hrl : (gr m k).length = m.length := Hg.out.1.2.2 k hlt
      rw [hrl] at hc1
      have hc1' := cell_below hc1 hbr
      have Hrow := Lib.hid hx1
      have Hrl := Lib.hid hrl
      have Hown := Lib.hid hown
      have Hbr := Lib.hid hbr
      have Hsum := Lib.hid hsum
      have HO := Lib.hid hsz
      obtain ⟨wo, hwo⟩ : ∃ wo : World, wo = wr := ⟨_, rfl⟩
      subst hwo
      clear hx1 hrl hown hbr hsum hc1
      go_wp2
      go_loopw [7, 8, 22] (fun row before i wr => ∃ t : Nat, t ≤ m.length ∧ i = .int .i64 t ∧ before = .int .i64 (sumK (gr m k) t) ∧ OwnI wr w.heap.size (.slice (some ⟨w.heap.size, 0, none⟩) m.length m.length) (colMid m k t) ∧ OwnI wr wo.heap.size row (kindRow m k t) ∧ wo.grownBy wr (some w.heap.size))
        (fun _ _ i _ => m.length - (intOf i).toNat)
      case atStart => exact ⟨0, Nat.zero_le _, rfl, rfl, Hsum.out, OwnI.nil _ _, World.grownBy.refl _ _⟩
      case round =>
        obtain ⟨t, ht, rfl, rfl, hsum, hrow, hgb⟩ := hrel
        clear Hsum
        have hbt : Below w.heap.size w wr := Hbr.out.grown hgb (by omega) (fun k hk => by cases hk; exact Nat.le_refl _)
        by_cases htl : t < m.length
        · obtain ⟨b2, o2, rfl, hc2⟩ := Hrow.out.below hbt t (by rw [Hrl.out]; exact htl)
          have hcs := hsum.cellAt t htl
          rw [gi_colMid htl, if_neg (by omega)] at hcs
          have hfs := hsum.frozenAt t
          have h1 := rowS_01 Hg.out hlt (k := t) (by omega)
          have h1' := rowS_01 Hg.out hlt (k := t + 1) (by omega)
          have h2 := colS_01 Hg.out htl (k := k) (by omega)
          have h2' := colS_01 Hg.out htl (k := k + 1) (by omega)
          have s1 : sumK (gr m k) (t + 1) = sumK (gr m k) t + gi (gr m k) t := rfl
          have s2 : colS m t (k + 1) = colS m t k + gi (gr m k) t := rfl
          rw [s1] at h1'
          rw [s2] at h2'
          have hkd : kd m k t = kdV (gi (gr m k) t) (sumK (gr m k) t) (colS m t k) := rfl
          have hset : (colMid m k t).set t (colS m t k + gi (gr m k) t) = colMid m k (t + 1) := colMid_set htl
          have hsucc := kindRow_succ m k t
          have hRl0 := kindRow_len m k t
          obtain ⟨R, hR⟩ : ∃ R, R = kindRow m k t := ⟨_, rfl⟩
          rw [← hR] at hrow hsucc hRl0
          obtain ⟨x, hx⟩ : ∃ x, x = gi (gr m k) t := ⟨_, rfl⟩
          obtain ⟨y, hy⟩ : ∃ y, y = sumK (gr m k) t := ⟨_, rfl⟩
          obtain ⟨z, hz⟩ : ∃ z, z = colS m t k := ⟨_, rfl⟩
          rw [← hx] at hc2 hkd h1' h2' s1 s2 hset
          rw [← hy] at h1 h1' s1 hkd ⊢
          rw [← hz] at hcs h2 h2' hkd hset s2
          obtain ⟨q, hq⟩ : ∃ q, q = kdV x y z := ⟨_, rfl⟩
          rw [← hq] at hkd
          rw [hkd] at hsucc
          have HBs := Lib.hid (show wo.heap.size ≤ wr.heap.size from hgb.size)
          have HWo := Lib.hid (show w.heap.size < wo.heap.size by have := HO.out; omega)
          have Hsucc := Lib.hid hsucc
          have S1 := Lib.hid s1
          have Hset := Lib.hid hset
          have Hz := Lib.hid hz
          have Hrow1 := Lib.hid hrow
          have Hgb := Lib.hid hgb
          have Hsum := Lib.hid hsum
          have hRl : R.length ≤ 6 := by omega
          obtain ⟨ra, rc, hrr, _, _, _⟩ := hrow.read
          subst hrr
          -- after a kind has been appended
          have hafter : ∀ v' w3, w3.ownsRow wo.heap.size 3 1 v' (R.length + 1) (R.map (Value.int .i64) ++ [.int .i64 q]) → (wr.alloc (.cells #[.int .i64 q] 3)).grownBy w3 (Value.slice ra R.length rc).ownBlock →
              OwnI w3 wo.heap.size v' (kindRow m k (t + 1)) ∧ wo.grownBy (w3.setCell ⟨w.heap.size, t, none⟩ (.int .i64 (z + x))) (some w.heap.size) ∧ OwnI w3 w.heap.size (.slice (some ⟨w.heap.size, 0, none⟩) m.length m.length) (colMid m k t) := by
            intro v' w3 hown' hgrow
            have hput := Hrow1.out.snoc HBs.out hown' hgrow
            have hg2 : wo.grownBy w3 (some w.heap.size) := Hgb.out.andThen ((World.grownBy_alloc _ _ _).trans hgrow) (fun j hj => by
              have := (Hrow1.out.lt j hj).1
              exact .inl this)
            refine ⟨by rw [Hsucc.out]; exact hput.1, ⟨hg2.os, hg2.tape, hg2.output, by simpa [World.setCell] using hg2.size, fun b hb hne => (Below.heap_setCell _ _ _ _ (fun e => hne (by rw [e]))).trans (hg2.block b hb hne)⟩, ?_⟩
            exact World.ownsRow.kept (World.ownsRow.alloc Hsum.out _) hgrow (.inr (fun e => by have := (Hrow1.out.lt w.heap.size e.symm).1; have := HWo.out; omega))
          have Hafter := Lib.hid hafter
          clear hafter
          have H1 := Lib.hid h1
          have H2 := Lib.hid h2
          clear hRl0 hsum hrow hgb hbt hsucc hx hy hz hR s1 s2 hset hkd h1 h2
          by_cases e1 : x = 1
          · have hb1 : (x == 1) = true := by simpa using e1
            have hq4 : q = 4 := by rw [hq]; unfold kdV; rw [if_pos e1]
            subst hq4
            have E1 := Lib.hid e1
            clear hq e1
            go_wp2_with (at_builtin; refine wpList_append_own _ rfl _ _ 24 rfl wo.heap.size 3 i0 (.int .i64 0) 1 8 Try.underlying24 hi hz0 hz1 hz2 rfl (by decide) _ _ _ rfl (World.ownsRow.alloc Hrow1.out _) ⟨wr.heap.size, 0, none⟩ 1 1 [.int .i64 4] rfl rfl ?e1 ?e2 ?e3 ?e4 ?e5 ?_)
            case e1 => exact cell_one_new _ _ _
            case e2 => intro u hu; simp at hu; subst hu; rfl
            case e3 => unfold maxLen; omega
            case e4 => omega
            case e5 => have := HBs.out; simp; omega
            intro v' w3 hown' hgrow _
            obtain ⟨hrow3, hg3, hsum3⟩ := Hafter.out v' w3 hown' hgrow
            obtain ⟨ra', rc', hrr, _, _, _⟩ := hrow3.read
            have hst := hsum3.store t (z + x)
            rw [Hset.out] at hst
            have hcs3 := hsum3.cellAt t htl
            rw [gi_colMid htl, if_neg (by omega), ← Hz.out] at hcs3
            have hfs3 := hsum3.frozenAt t
            have hrow4 : OwnI (w3.setCell ⟨w.heap.size, t, none⟩ (.int .i64 (z + x))) wo.heap.size _ (kindRow m k (t + 1)) := hrow3.setOther (a := ⟨w.heap.size, t, none⟩) (fun e => by have := (hrow3.lt w.heap.size e).1; have := HWo.out; omega) _
            rw [kindRow_len] at hrr
            subst hrr
            have Hst := Lib.hid hst
            have Hrow4 := Lib.hid hrow4
            have Hg3 := Lib.hid hg3
            clear hown' hgrow hrow3 hg3 hsum3 hst hrow4 hcs hfs Hafter
            go_wp2
            go_roundw
            case rel => exact ⟨t + 1, by omega, by go_num, by rw [S1.out], Hst.out, Hrow4.out, Hg3.out⟩
            case measure => simp [intOf]; omega
          · have hb1 : (x == 1) = false := by simpa using e1
            by_cases e2 : x = -1
            · have hb2 : (x == -1) = true := by simpa using e2
              have hq5 : q = 5 := by rw [hq]; unfold kdV; rw [if_neg e1, if_pos e2]
              subst hq5
              clear hq e1 e2
              go_wp2_with (at_builtin; refine wpList_append_own _ rfl _ _ 24 rfl wo.heap.size 3 i0 (.int .i64 0) 1 8 Try.underlying24 hi hz0 hz1 hz2 rfl (by decide) _ _ _ rfl (World.ownsRow.alloc Hrow1.out _) ⟨wr.heap.size, 0, none⟩ 1 1 [.int .i64 5] rfl rfl ?e1 ?e2 ?e3 ?e4 ?e5 ?_)
              case e1 => exact cell_one_new _ _ _
              case e2 => intro u hu; simp at hu; subst hu; rfl
              case e3 => unfold maxLen; omega
              case e4 => omega
              case e5 => have := HBs.out; simp; omega
              intro v' w3 hown' hgrow _
              obtain ⟨hrow3, hg3, hsum3⟩ := Hafter.out v' w3 hown' hgrow
              obtain ⟨ra', rc', hrr, _, _, _⟩ := hrow3.read
              have hst := hsum3.store t (z + x)
              rw [Hset.out] at hst
              have hcs3 := hsum3.cellAt t htl
              rw [gi_colMid htl, if_neg (by omega), ← Hz.out] at hcs3
              have hfs3 := hsum3.frozenAt t
              have hrow4 : OwnI (w3.setCell ⟨w.heap.size, t, none⟩ (.int .i64 (z + x))) wo.heap.size _ (kindRow m k (t + 1)) := hrow3.setOther (a := ⟨w.heap.size, t, none⟩) (fun e => by have := (hrow3.lt w.heap.size e).1; have := HWo.out; omega) _
              rw [kindRow_len] at hrr
              subst hrr
              have Hst := Lib.hid hst
              have Hrow4 := Lib.hid hrow4
              have Hg3 := Lib.hid hg3
              clear hown' hgrow hrow3 hg3 hsum3 hst hrow4 hcs hfs Hafter
              go_wp2
              go_roundw
              case rel => exact ⟨t + 1, by omega, by go_num, by rw [S1.out], Hst.out, Hrow4.out, Hg3.out⟩
              case measure => simp [intOf]; omega
            · have hb2 : (x == -1) = false := by simpa using e2
              have hqd : q = 2 * y + z := by rw [hq]; unfold kdV; rw [if_neg e1, if_neg e2]
              have hy01 : 0 ≤ y ∧ y ≤ 1 := H1.out
              have hz01 : 0 ≤ z ∧ z ≤ 1 := H2.out
              subst hqd
              clear hq e1 e2
              go_wp2_with (at_builtin; refine wpList_append_own _ rfl _ _ 24 rfl wo.heap.size 3 i0 (.int .i64 0) 1 8 Try.underlying24 hi hz0 hz1 hz2 rfl (by decide) _ _ _ rfl (World.ownsRow.alloc Hrow1.out _) ⟨wr.heap.size, 0, none⟩ 1 1 [.int .i64 (2 * y + z)] rfl rfl ?e1 ?e2 ?e3 ?e4 ?e5 ?_)
              case e1 => exact cell_one_new _ _ _
              case e2 => intro u hu; simp at hu; subst hu; rfl
              case e3 => unfold maxLen; omega
              case e4 => omega
              case e5 => have := HBs.out; simp; omega
              intro v' w3 hown' hgrow _
              obtain ⟨hrow3, hg3, hsum3⟩ := Hafter.out v' w3 hown' hgrow
              obtain ⟨ra', rc', hrr, _, _, _⟩ := hrow3.read
              have hst := hsum3.store t (z + x)
              rw [Hset.out] at hst
              have hcs3 := hsum3.cellAt t htl
              rw [gi_colMid htl, if_neg (by omega), ← Hz.out] at hcs3
              have hfs3 := hsum3.frozenAt t
              have hrow4 : OwnI (w3.setCell ⟨w.heap.size, t, none⟩ (.int .i64 (z + x))) wo.heap.size _ (kindRow m k (t + 1)) := hrow3.setOther (a := ⟨w.heap.size, t, none⟩) (fun e => by have := (hrow3.lt w.heap.size e).1; have := HWo.out; omega) _
              rw [kindRow_len] at hrr
              subst hrr
              have Hst := Lib.hid hst
              have Hrow4 := Lib.hid hrow4
              have Hg3 := Lib.hid hg3
              clear hown' hgrow hrow3 hg3 hsum3 hst hrow4 hcs hfs Hafter
              go_wp2
              go_roundw
              case rel => exact ⟨t + 1, by omega, by go_num, by rw [S1.out], Hst.out, Hrow4.out, Hg3.out⟩
              case measure => simp [intOf]; omega
        · obtain rfl : t = m.length := by omega
          obtain ⟨ra, rc, hrr, _, _, _⟩ := hrow.read
          obtain ⟨rn, hrn⟩ : ∃ rn, rn = (kindRow m k m.length).length := ⟨_, rfl⟩
          rw [← hrn] at hrr
          subst hrr
          have hrowk : OwnI wr (w.heap.size + 1) (.slice ra rn rc) (gr (kinds m) k) := by rw [← kindRow_full hlt]; exact hrow.base (by omega)
          have hfr : ∀ j, j < k → ∀ g, (vs.getD j undef).ownBlock = some g → (Value.slice ra rn rc).ownBlock ≠ some g := fun j hj g hg hg' => by
            have h1 := (Hown.out.rows j hj).lt g hg
            have h2 := hrow.lt g hg'
            omega
          have Hown2 := Lib.hid (Hown.out.kept1 hgb (by omega))
          have Hrowk := Lib.hid hrowk
          have Hfr := Lib.hid hfr
          have Hgb := Lib.hid hgb
          have Hbt := Lib.hid (Hbr.out.grown hgb (by omega) (fun k hk => by cases hk; exact Nat.le_refl _))
          have Hsum := Lib.hid (show OwnI wr w.heap.size (.slice (some ⟨w.heap.size, 0, none⟩) m.length m.length) (colMid m (k + 1) 0) by rw [← colMid_next]; exact hsum)
          have HBs := Lib.hid (show w.heap.size + 1 ≤ wr.heap.size from Nat.le_trans hsz hgb.size)
          obtain ⟨oa, oc, hoo, _, _, _⟩ := ownsRow_read Hown2.out.top
          subst hoo
          clear hsum hrow hgb hrowk hfr hrn hc1'
          go_wp2_with (at_builtin; refine wpList_append_own _ rfl _ _ 40 rfl (w.heap.size + 1) 24 j0 (.slice none 0 0) 1 24 Try.underlying40 hj hy0 hy1 hy2 rfl (by decide) _ _ _ rfl (World.ownsRow.alloc Hown2.out.top _) ⟨wr.heap.size, 0, none⟩ 1 1 [.slice ra rn rc] rfl rfl ?f1 ?f2 ?f3 ?f4 ?f5 ?_)
          case f1 => exact cell_one_new _ _ _
          case f2 => intro u hu; simp at hu; subst hu; rfl
          case f3 => unfold maxLen; omega
          case f4 => omega
          case f5 => have := HBs.out; simp; omega
          intro v' w3 hown' hgrow _
          have hput := Hown2.out.snoc HBs.out Hrowk.out Hfr.out hown' hgrow
          have hsum3 : OwnI w3 w.heap.size (.slice (some ⟨w.heap.size, 0, none⟩) m.length m.length) (colMid m (k + 1) 0) :=
            World.ownsRow.kept (World.ownsRow.alloc Hsum.out _) hgrow (.inr (fun e => by have := (World.ownsRow.lt Hown2.out.top w.heap.size e.symm).1; omega))
          have Hput := Lib.hid hput
          have Hsum3 := Lib.hid hsum3
          clear hput hown' hgrow hsum3
          go_wp2
          go_roundw
          case rel => exact ⟨k + 1, _, by omega, by go_num, Hsum3.out, Hput.out.1, Hbt.out.trans (Hput.out.2.mono (by omega)), Nat.le_trans HBs.out Hput.out.2.size⟩
          case measure => simp [intOf]; omega
    · obtain rfl : k = m.length := by omega
      go_wp2
      go_ret
      exact ⟨_, rfl, ⟨vs, by rw [kinds_len]; exact hown.base (by omega)⟩, hbr⟩

set_option maxRecDepth 100000 in
set_option maxHeartbeats 800000 in
theorem specKindsOf_any (ao : Option Addr) (c : Nat) (m : List (List Int)) (w : World) (hs : Small m) (hm : MatAt w ao m) :
    Calls Try.prog 69 #[.slice ao m.length c] w fun e w' => MRes (good m) (kinds m) w' w.heap.size e ∧ Below w.heap.size w w' := by
  have Hs := Lib.hid hs
  have Hm := Lib.hid hm
  clear hs hm
  go_enter Try.func69, Try.ntmps69
  go_wp2_with fail
  refine (sgGood_any ao c m w Hs.out Hm.out).mono ?_
  rintro e w1 ⟨ha, hb⟩
  have Hb := Lib.hid hb
  have HB := Lib.hid hb.size
  clear hb
  by_cases hg : good m
  · have Hg := Lib.hid hg
    clear hg
    obtain rfl := ha.is Hg.out
    clear ha
    go_wp2_with fail
    refine (weKinds_any ao c m w1 Hg.out (Hm.out.below Hb.out)).mono ?_
    rintro e w2 ⟨v, rfl, hv, hb2⟩
    have Hv := Lib.hid (hv.base HB.out)
    have Hb2 := Lib.hid (Hb.out.trans (hb2.mono HB.out))
    clear hv hb2
    go_wp2
    go_ret2
    exact ⟨MRes.yes Hg.out Hv.out, Hb2.out⟩
  · have Hg := Lib.hid hg
    clear hg
    obtain rfl := ha.isnt Hg.out
    clear ha
    go_wp2
    go_ret2
    exact ⟨MRes.no Hg.out, Hb.out⟩
end Go.Proofs.Ytnhkclnloiiihaa
