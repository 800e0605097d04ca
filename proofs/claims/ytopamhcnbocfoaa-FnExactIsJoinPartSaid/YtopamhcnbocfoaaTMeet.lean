/- Contracts of the program: meets and joins of terrains. No conditions but where the numbers lie. -/
import Derived.Test.YtopamhcnbocfoaaTRow
import Derived.Deep.RegionWith
namespace Go.Proofs.Ytopamhcnbocfoaa
open Go.RowKit

/-- numbers that are not far from 0 -/
def Near (f : Nat → Nat → Int) : Prop := ∀ i j, i < 7 → j < 7 → -90 ≤ f i j ∧ f i j ≤ 90

set_option maxRecDepth 100000 in
set_option maxHeartbeats 1600000 in
theorem meet_any (n n2 : Int) (p q : Nat → Nat → Int) (w : World) :
    Calls Try.prog 69 #[.agg (tc n p), .agg (tc n2 q)] w fun e w' => e = .returned (.agg (tc n (fun i j => min (p i j) (q i j)))) ∧ Below w.heap.size w w' := by
  go_enter Try.func69, Try.ntmps69
  go_upto_region 1 with (first | (refine wpList_allocT rfl 47 rfl _ _ Try.info_terr ?_) | (refine wpList_buildT1 rfl 47 0 _ rfl (.int .i64 _) rfl _ (Try.built_terr _) ?_) | (refine wpList_buildT0 rfl 47 rfl _ Try.built_terr0 ?_) | (refine wpList_boxT rfl 47 _ rfl _ rfl ?_) | (refine wpList_storeT rfl 47 _ _ rfl _ _ _ (by first | rfl | simp) rfl rfl (Try.size_terr _ _) (tc_same _ _ _ _) (tc_one _ _) ?_))
  generalize hW : World.alloc (World.alloc (World.alloc w _) _) _ = w1
  have hT : TerrAt w1 w.heap.size n p := by rw [← hW]; exact three_0 w _ _ _ _
  have hK : TerrAt w1 (w.heap.size + 1) n2 q := by rw [← hW]; exact three_1 w _ _ _ _
  have hR : TerrAt w1 (w.heap.size + 1 + 1) 0 z0 := by rw [← hW]; exact three_2 w _ _ _ _
  have hB : Below w.heap.size w w1 := by rw [← hW]; exact three_below w _ _ _
  clear hW
  have HT := Lib.hid hT
  have HK := Lib.hid hK
  have HR := Lib.hid hR
  have HB := Lib.hid hB
  clear hT hK hR hB
  go_wp2_with (refine wpList_load_mid rfl 45 _ rfl (w.heap.size + 1) 1 rfl (hl q) _ HK.out.range Try.underlying45 rfl (Try.size_rows q) ?_)
  go_loopw [11] (fun i wr => ∃ (k : Nat) (f : Nat → Nat → Int), k ≤ 7 ∧ i = .int .i64 k ∧ TerrAt wr w.heap.size n f ∧ TerrAt wr (w.heap.size + 1) n2 q ∧ TerrAt wr (w.heap.size + 1 + 1) 0 z0 ∧
      (∀ a b, a < 7 → b < 7 → f a b = if a < k then min (p a b) (q a b) else p a b) ∧ Below w.heap.size w wr) (fun i _ => 7 - (intOf i).toNat)
  case atStart => exact ⟨0, p, Nat.zero_le _, rfl, HT.out, HK.out, HR.out, fun a b _ _ => by rw [if_neg (by omega)], HB.out⟩
  case round =>
    obtain ⟨k, f, hk, rfl, hT, hK, hR, heq, hbr⟩ := hrel
    clear HT HK HR HB
    by_cases hlt : k < 7
    · have hlt2 : (k : Int) < 7 := by omega
      have HT := Lib.hid hT
      have HK := Lib.hid hK
      have HR := Lib.hid hR
      have HE := Lib.hid heq
      have HB := Lib.hid hbr
      clear hT hK hR heq hbr
      go_upto_region 4 with (first | (refine wpList_indexRow rfl 45 _ _ rfl _ rfl _ rfl _ _ Try.underlying45 (by assumption) Try.underlying43 Try.size_row ?_) | (refine wpList_allocT rfl 43 rfl _ _ Try.info_row ?_) | (refine wpList_storeT rfl 43 _ _ rfl _ _ _ (by first | rfl | simp) rfl rfl (Try.size_rowc _) (rc_same _ _) (rc_one _) ?_))
      generalize hW : World.alloc wr _ = w2
      have hb2 : Below wr.heap.size wr w2 := by rw [← hW]; exact (Below.refl _ _).alloc (Nat.le_refl _) _
      have hrow : RowAt w2 wr.heap.size (q k) := by rw [← hW]; exact RowAt.new _ _
      clear hW
      have HT2 := Lib.hid (HT.out.below hb2)
      have HK2 := Lib.hid (HK.out.below hb2)
      have HR2 := Lib.hid (HR.out.below hb2)
      have HB2 := Lib.hid (HB.out.trans (hb2.mono HB.out.size))
      have HW2 := Lib.hid hrow
      clear HT HK HR HB hb2 hrow
      go_wp2_with (refine wpList_loadG rfl 43 _ rfl _ rfl _ _ HW2.out Try.underlying43 rfl (Try.size_rowc _) ?_)
      go_loopw [16] (fun i wr => ∃ (t : Nat) (f : Nat → Nat → Int), t ≤ 7 ∧ i = .int .i64 t ∧ TerrAt wr w.heap.size n f ∧ TerrAt wr (w.heap.size + 1) n2 q ∧ TerrAt wr (w.heap.size + 1 + 1) 0 z0 ∧
          (∀ a b, a < 7 → b < 7 → f a b = if a < k ∨ (a = k ∧ b < t) then min (p a b) (q a b) else p a b) ∧ Below w.heap.size w wr) (fun i _ => 7 - (intOf i).toNat)
      case atStart => exact ⟨0, f, Nat.zero_le _, rfl, HT2.out, HK2.out, HR2.out, fun a b ha hb => by rw [HE.out a b ha hb]; exact ite_iff (by omega), HB2.out⟩
      case round =>
        obtain ⟨t, f2, ht, rfl, hT, hK, hR, heq, hbr⟩ := hrel
        clear HT2 HK2 HR2 HB2 HE
        by_cases htl : t < 7
        · have htl2 : (t : Int) < 7 := by omega
          have hc := hT.cell hlt htl
          have hf := hT.frozen (1 + k * 7 + t)
          have hv : f2 k t = p k t := by rw [heq k t hlt htl, if_neg (by omega)]
          rw [hv] at hc
          generalize hx : p k t = x at hc
          generalize hy : q k t = y
          have Hst := Lib.hid (hT.store hlt htl (min x y))
          have HK := Lib.hid (hK.other (a := ⟨w.heap.size, 1 + k * 7 + t, none⟩) (by simp <;> omega) (.int .i64 (min x y)))
          have HR := Lib.hid (hR.other (a := ⟨w.heap.size, 1 + k * 7 + t, none⟩) (by simp <;> omega) (.int .i64 (min x y)))
          have HB := Lib.hid (hbr.setCell (p := ⟨w.heap.size, 1 + k * 7 + t, none⟩) (Nat.le_refl _) (.int .i64 (min x y)))
          have HE := Lib.hid heq
          have Hx := Lib.hid hx
          have Hy := Lib.hid hy
          clear hT hK hR heq hbr hv hx
          go_wp2_with (refine wpList_indexNum rfl 43 _ _ rfl _ rfl _ rfl _ Try.underlying43 (by assumption) Try.underlying3 Try.size_num ?_)
          rw [← Hy.out]
          go_region
          all_goals
            go_wp2
            have e0 : (if y < x then y else x) = min x y := by split <;> omega
            rw [e0]
            go_roundw
            case rel =>
              refine ⟨t + 1, _, by omega, by go_num, Hst.out.drew, HK.out.drew, HR.out.drew, fun a b ha hb => ?_, HB.out.drew⟩
              unfold upd
              by_cases e : a = k ∧ b = t
              · rw [if_pos e, if_pos (by omega), ← Hx.out, ← Hy.out, e.1, e.2]
              · rw [if_neg e, HE.out a b ha hb]
                exact ite_iff (by omega)
            case measure => simp [intOf]; omega
        · obtain rfl : t = 7 := by omega
          have HT := Lib.hid hT
          have HK := Lib.hid hK
          have HR := Lib.hid hR
          have HE := Lib.hid heq
          have HB := Lib.hid hbr
          clear hT hK hR heq hbr
          go_wp2
          go_roundw
          case rel =>
            refine ⟨k + 1, _, by omega, by go_num, HT.out, HK.out, HR.out, fun a b ha hb => ?_, HB.out⟩
            rw [HE.out a b ha hb]
            exact ite_iff (by omega)
          case measure => simp [intOf]; omega
    · obtain rfl : k = 7 := by omega
      have HT := Lib.hid (hT.congr (f' := fun i j => min (p i j) (q i j)) fun a b ha hb => by rw [heq a b ha hb, if_pos ha])
      have HR := Lib.hid hR
      have HB := Lib.hid hbr
      clear hT hR heq hbr hK
      go_wp2_with (first | (refine wpList_loadG rfl 47 _ rfl _ rfl _ _ HT.out Try.underlying47 rfl (Try.size_terr _ _) ?_) | (refine wpList_storeG rfl 47 _ _ rfl _ _ _ rfl rfl HR.out (Try.size_terr _ _) (tc_same _ _ _ _) (tc_one _ _) ?_))
      have HR2 := Lib.hid (HR.out.setRow n (fun i j => min (p i j) (q i j)))
      have HB2 := Lib.hid (below_setRowT HB.out (show w.heap.size ≤ w.heap.size + 1 + 1 by omega) (tc n (fun i j => min (p i j) (q i j))))
      refine bodyPost_ret (v := .agg (tc n (fun i j => min (p i j) (q i j)))) ?_ rfl ⟨rfl, HB2.out⟩
      exact results_cell_one rfl _ _ (w.heap.size + 1 + 1) _ rfl (Try.load_terr HR2.out)

set_option maxRecDepth 100000 in
set_option maxHeartbeats 1600000 in
theorem join_any (n n2 : Int) (p q : Nat → Nat → Int) (w : World) :
    Calls Try.prog 70 #[.agg (tc n p), .agg (tc n2 q)] w fun e w' => e = .returned (.agg (tc n (fun i j => max (p i j) (q i j)))) ∧ Below w.heap.size w w' := by
  go_enter Try.func70, Try.ntmps70
  go_upto_region 1 with (first | (refine wpList_allocT rfl 47 rfl _ _ Try.info_terr ?_) | (refine wpList_buildT1 rfl 47 0 _ rfl (.int .i64 _) rfl _ (Try.built_terr _) ?_) | (refine wpList_buildT0 rfl 47 rfl _ Try.built_terr0 ?_) | (refine wpList_boxT rfl 47 _ rfl _ rfl ?_) | (refine wpList_storeT rfl 47 _ _ rfl _ _ _ (by first | rfl | simp) rfl rfl (Try.size_terr _ _) (tc_same _ _ _ _) (tc_one _ _) ?_))
  generalize hW : World.alloc (World.alloc (World.alloc w _) _) _ = w1
  have hT : TerrAt w1 w.heap.size n p := by rw [← hW]; exact three_0 w _ _ _ _
  have hK : TerrAt w1 (w.heap.size + 1) n2 q := by rw [← hW]; exact three_1 w _ _ _ _
  have hR : TerrAt w1 (w.heap.size + 1 + 1) 0 z0 := by rw [← hW]; exact three_2 w _ _ _ _
  have hB : Below w.heap.size w w1 := by rw [← hW]; exact three_below w _ _ _
  clear hW
  have HT := Lib.hid hT
  have HK := Lib.hid hK
  have HR := Lib.hid hR
  have HB := Lib.hid hB
  clear hT hK hR hB
  go_wp2_with (refine wpList_load_mid rfl 45 _ rfl (w.heap.size + 1) 1 rfl (hl q) _ HK.out.range Try.underlying45 rfl (Try.size_rows q) ?_)
  go_loopw [11] (fun i wr => ∃ (k : Nat) (f : Nat → Nat → Int), k ≤ 7 ∧ i = .int .i64 k ∧ TerrAt wr w.heap.size n f ∧ TerrAt wr (w.heap.size + 1) n2 q ∧ TerrAt wr (w.heap.size + 1 + 1) 0 z0 ∧
      (∀ a b, a < 7 → b < 7 → f a b = if a < k then max (p a b) (q a b) else p a b) ∧ Below w.heap.size w wr) (fun i _ => 7 - (intOf i).toNat)
  case atStart => exact ⟨0, p, Nat.zero_le _, rfl, HT.out, HK.out, HR.out, fun a b _ _ => by rw [if_neg (by omega)], HB.out⟩
  case round =>
    obtain ⟨k, f, hk, rfl, hT, hK, hR, heq, hbr⟩ := hrel
    clear HT HK HR HB
    by_cases hlt : k < 7
    · have hlt2 : (k : Int) < 7 := by omega
      have HT := Lib.hid hT
      have HK := Lib.hid hK
      have HR := Lib.hid hR
      have HE := Lib.hid heq
      have HB := Lib.hid hbr
      clear hT hK hR heq hbr
      go_upto_region 4 with (first | (refine wpList_indexRow rfl 45 _ _ rfl _ rfl _ rfl _ _ Try.underlying45 (by assumption) Try.underlying43 Try.size_row ?_) | (refine wpList_allocT rfl 43 rfl _ _ Try.info_row ?_) | (refine wpList_storeT rfl 43 _ _ rfl _ _ _ (by first | rfl | simp) rfl rfl (Try.size_rowc _) (rc_same _ _) (rc_one _) ?_))
      generalize hW : World.alloc wr _ = w2
      have hb2 : Below wr.heap.size wr w2 := by rw [← hW]; exact (Below.refl _ _).alloc (Nat.le_refl _) _
      have hrow : RowAt w2 wr.heap.size (q k) := by rw [← hW]; exact RowAt.new _ _
      clear hW
      have HT2 := Lib.hid (HT.out.below hb2)
      have HK2 := Lib.hid (HK.out.below hb2)
      have HR2 := Lib.hid (HR.out.below hb2)
      have HB2 := Lib.hid (HB.out.trans (hb2.mono HB.out.size))
      have HW2 := Lib.hid hrow
      clear HT HK HR HB hb2 hrow
      go_wp2_with (refine wpList_loadG rfl 43 _ rfl _ rfl _ _ HW2.out Try.underlying43 rfl (Try.size_rowc _) ?_)
      go_loopw [16] (fun i wr => ∃ (t : Nat) (f : Nat → Nat → Int), t ≤ 7 ∧ i = .int .i64 t ∧ TerrAt wr w.heap.size n f ∧ TerrAt wr (w.heap.size + 1) n2 q ∧ TerrAt wr (w.heap.size + 1 + 1) 0 z0 ∧
          (∀ a b, a < 7 → b < 7 → f a b = if a < k ∨ (a = k ∧ b < t) then max (p a b) (q a b) else p a b) ∧ Below w.heap.size w wr) (fun i _ => 7 - (intOf i).toNat)
      case atStart => exact ⟨0, f, Nat.zero_le _, rfl, HT2.out, HK2.out, HR2.out, fun a b ha hb => by rw [HE.out a b ha hb]; exact ite_iff (by omega), HB2.out⟩
      case round =>
        obtain ⟨t, f2, ht, rfl, hT, hK, hR, heq, hbr⟩ := hrel
        clear HT2 HK2 HR2 HB2 HE
        by_cases htl : t < 7
        · have htl2 : (t : Int) < 7 := by omega
          have hc := hT.cell hlt htl
          have hf := hT.frozen (1 + k * 7 + t)
          have hv : f2 k t = p k t := by rw [heq k t hlt htl, if_neg (by omega)]
          rw [hv] at hc
          generalize hx : p k t = x at hc
          generalize hy : q k t = y
          have Hst := Lib.hid (hT.store hlt htl (max x y))
          have HK := Lib.hid (hK.other (a := ⟨w.heap.size, 1 + k * 7 + t, none⟩) (by simp <;> omega) (.int .i64 (max x y)))
          have HR := Lib.hid (hR.other (a := ⟨w.heap.size, 1 + k * 7 + t, none⟩) (by simp <;> omega) (.int .i64 (max x y)))
          have HB := Lib.hid (hbr.setCell (p := ⟨w.heap.size, 1 + k * 7 + t, none⟩) (Nat.le_refl _) (.int .i64 (max x y)))
          have HE := Lib.hid heq
          have Hx := Lib.hid hx
          have Hy := Lib.hid hy
          clear hT hK hR heq hbr hv hx
          go_wp2_with (refine wpList_indexNum rfl 43 _ _ rfl _ rfl _ rfl _ Try.underlying43 (by assumption) Try.underlying3 Try.size_num ?_)
          rw [← Hy.out]
          go_region
          all_goals
            go_wp2
            have e0 : (if x < y then y else x) = max x y := by split <;> omega
            rw [e0]
            go_roundw
            case rel =>
              refine ⟨t + 1, _, by omega, by go_num, Hst.out.drew, HK.out.drew, HR.out.drew, fun a b ha hb => ?_, HB.out.drew⟩
              unfold upd
              by_cases e : a = k ∧ b = t
              · rw [if_pos e, if_pos (by omega), ← Hx.out, ← Hy.out, e.1, e.2]
              · rw [if_neg e, HE.out a b ha hb]
                exact ite_iff (by omega)
            case measure => simp [intOf]; omega
        · obtain rfl : t = 7 := by omega
          have HT := Lib.hid hT
          have HK := Lib.hid hK
          have HR := Lib.hid hR
          have HE := Lib.hid heq
          have HB := Lib.hid hbr
          clear hT hK hR heq hbr
          go_wp2
          go_roundw
          case rel =>
            refine ⟨k + 1, _, by omega, by go_num, HT.out, HK.out, HR.out, fun a b ha hb => ?_, HB.out⟩
            rw [HE.out a b ha hb]
            exact ite_iff (by omega)
          case measure => simp [intOf]; omega
    · obtain rfl : k = 7 := by omega
      have HT := Lib.hid (hT.congr (f' := fun i j => max (p i j) (q i j)) fun a b ha hb => by rw [heq a b ha hb, if_pos ha])
      have HR := Lib.hid hR
      have HB := Lib.hid hbr
      clear hT hR heq hbr hK
      go_wp2_with (first | (refine wpList_loadG rfl 47 _ rfl _ rfl _ _ HT.out Try.underlying47 rfl (Try.size_terr _ _) ?_) | (refine wpList_storeG rfl 47 _ _ rfl _ _ _ rfl rfl HR.out (Try.size_terr _ _) (tc_same _ _ _ _) (tc_one _ _) ?_))
      have HR2 := Lib.hid (HR.out.setRow n (fun i j => max (p i j) (q i j)))
      have HB2 := Lib.hid (below_setRowT HB.out (show w.heap.size ≤ w.heap.size + 1 + 1 by omega) (tc n (fun i j => max (p i j) (q i j))))
      refine bodyPost_ret (v := .agg (tc n (fun i j => max (p i j) (q i j)))) ?_ rfl ⟨rfl, HB2.out⟩
      exact results_cell_one rfl _ _ (w.heap.size + 1 + 1) _ rfl (Try.load_terr HR2.out)
end Go.Proofs.Ytopamhcnbocfoaa
