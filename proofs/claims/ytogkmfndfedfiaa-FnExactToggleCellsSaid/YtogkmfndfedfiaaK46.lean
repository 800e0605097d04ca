/- Parts of proofs: contracts and plain facts. Conditions: as each says. -/
import Derived.Test.YtogkmfndfedfiaaK45
namespace Go.Proofs.Ytogkmfndfedfiaa
open Go.RowKit

theorem two_of_len {r : List Int} (h : r.length = 2) : r = [gi r 0, gi r 1] := by
  match r, h with
  | [a, b], _ => rfl

set_option maxRecDepth 100000 in
set_option maxHeartbeats 1600000 in
theorem implFollowFlips_any (ao : Option Addr) (c : Nat) (m : List (List Int)) (bo : Option Addr) (d : Nat) (path : List (List Int)) (w : World) (hs : Small m) (hwf : WfM m) (hm : MatAt w ao m) (hc : m.length ≤ c) (hc2 : c ≤ 9223372036854775807)
    (hs2 : Small path) (hwf2 : WfM path) (hk : MatAt w bo path) (hd : path.length ≤ d) (hd2 : d ≤ 9223372036854775807) :
    Calls Try.prog 27 #[.slice ao m.length c, .slice bo path.length d] w fun e w' => MRes (frOk m path) (frM m path) w' w.heap.size e ∧ Below w.heap.size w w' := by
  have hpl := hs2.1
  have Hs := Lib.hid hs
  have Hm := Lib.hid hm
  have Hwf := Lib.hid hwf
  have Hk := Lib.hid hk
  clear hs hm hwf hk hs2 hwf2 hd hd2
  go_enter Try.func27, Try.ntmps27
  go_wp2_with fail
  refine (implIsSign_any ao c m w Hs.out Hwf.out Hm.out).mono ?_
  rintro e w1 ⟨ha, hb⟩
  have Hb := Lib.hid hb
  have HB := Lib.hid hb.size
  clear hb
  by_cases hg : good m
  · have Hg := Lib.hid hg
    have hn := hg.1.2.1
    have hn1 := hg.1.1
    clear hg
    obtain rfl := ha.is Hg.out
    clear ha
    by_cases hl : 200 < path.length
    · have hlt : (200 : Int) < (path.length : Int) := by omega
      have Hl := Lib.hid hl
      clear hl
      go_wp2
      go_ret2
      exact ⟨MRes.no (fun h => by have := h.2.1; have := Hl.out; omega), Hb.out⟩
    · have hlt : ¬ (200 : Int) < (path.length : Int) := by omega
      have Hl := Lib.hid hl
      clear hl
      go_wp2_with fail
      refine (terrainOf_any ao c m w1 Hg.out (Hm.out.below Hb.out) hc hc2).mono ?_
      rintro e w2 ⟨rfl, hb2⟩
      have Hb2 := Lib.hid (Hb.out.trans (hb2.mono HB.out))
      have HB2 := Lib.hid Hb2.out.size
      clear hb2 hlt
      go_upto_region 4 with (first
        | (refine wpList_allocT rfl 54 rfl _ _ Try.info_terr ?_)
        | (refine wpList_storeT rfl 54 _ _ rfl _ _ _ (by first | rfl | simp) rfl rfl (Try.size_terr _ _) (tc_same _ _ _ _) (tc_one _ _) ?_))
      generalize hW : World.alloc w2 _ = w3
      have hT : TerrAt w3 w2.heap.size m.length (pad m.length (hOf (S2 m))) := by rw [← hW]; exact TerrAt.new w2 _ _
      have hb3 : Below w2.heap.size w2 w3 := by rw [← hW]; exact (Below.refl _ _).alloc (Nat.le_refl _) _
      clear hW
      have HT := Lib.hid hT
      have Hb3 := Lib.hid (Hb2.out.trans (hb3.mono HB2.out))
      have HG := Lib.hid HB2.out
      generalize w2.heap.size = g6 at hT HT HG ⊢
      clear hT hb3 Hb2 HB2
      go_wp2
      go_loopw [23] (fun i wr => ∃ (k : Nat) (cc : Nat → Nat → Int), k ≤ path.length ∧ i = .int .i64 k ∧ runC m.length (S2 m) (path.take k) = some cc ∧ TerrAt wr g6 m.length (pad m.length (hOf cc)) ∧ Below w.heap.size w wr) (fun i _ => path.length - (intOf i).toNat)
      case atStart => exact ⟨0, S2 m, Nat.zero_le _, rfl, rfl, HT.out, Hb3.out⟩
      case round =>
        obtain ⟨k, cc, hk, rfl, hrun, hter, hbr⟩ := hrel
        have Hrun := Lib.hid hrun
        have Hcr := Lib.hid (runC_crn _ _ _ (good_crn Hg.out) hrun)
        have Hter := Lib.hid hter
        have Hbr := Lib.hid hbr
        have HZr := Lib.hid hbr.size
        clear hrun hter
        by_cases hlt : k < path.length
        · obtain ⟨b, o, r, rc, rfl, hrow, hr, _, _⟩ := (Hk.out.below hbr) k hlt
          obtain ⟨row, hrw⟩ : ∃ row, row = gr path k := ⟨_, rfl⟩
          rw [← hrw] at hrow hr
          have Hrw := Lib.hid hrw
          have Hr := Lib.hid hr
          clear hrw hr hbr
          by_cases hl2 : row.length = 2
          · obtain ⟨x, y, rfl⟩ : ∃ x y, row = [x, y] := ⟨_, _, two_of_len hl2⟩
            simp only [List.length_cons, List.length_nil, Nat.zero_add, Nat.reduceAdd] at hrow
            obtain ⟨ok, hok⟩ : ∃ ok, ok = okB m.length x y := ⟨_, rfl⟩
            have Hok := Lib.hid hok
            have hcall := cellAt_two m.length (pad m.length (hOf cc)) r rc x y wr Hr.out
            rw [← hok] at hcall
            have Hcall := Lib.hid hcall
            clear hl2 hok hcall
            go_wp2_with (refine wpList_loadG rfl 54 _ rfl g6 rfl _ _ Hter.out Try.underlying54 rfl (Try.size_terr _ _) ?_)
            refine Hcall.out.mono ?_
            rintro e w4 ⟨rfl, hb4⟩
            have Hter4 := Lib.hid (Hter.out.below hb4)
            have Hb4 := Lib.hid (Hbr.out.trans (hb4.mono HZr.out))
            have HZ4 := Lib.hid Hb4.out.size
            clear hb4 Hcall Hter Hbr hrow
            go_upto_region 8 with (first
              | (refine wpList_allocT rfl 59 rfl _ _ Try.info_cell ?_)
              | (refine wpList_storeT rfl 59 _ _ rfl (clI x y) (cl 0 0) w4.heap.size rfl rfl rfl (Try.size_clI x y) rfl (clI_one x y) ?_))
            generalize hW : World.alloc w4 _ = w5
            have hC : CellI w5 w4.heap.size x y := by rw [← hW]; exact heap_alloc_new w4 _
            have hb5 : Below w4.heap.size w4 w5 := by rw [← hW]; exact (Below.refl _ _).alloc (Nat.le_refl _) _
            clear hW
            have HC := Lib.hid hC
            have Hter5 := Lib.hid (Hter4.out.below hb5)
            have Hb5 := Lib.hid (Hb4.out.trans (hb5.mono HZ4.out))
            have HZ5 := Lib.hid Hb5.out.size
            generalize w4.heap.size = g9 at hC HC ⊢
            clear hC hb5 Hter4 Hb4
            cases ok
            · go_wp2
              go_ret2
              exact ⟨MRes.no (frOk_no (run_stop Hrun.out hlt (fun h => by have h2 := h.1; rw [← Hrw.out, okCell_okB rfl] at h2; have h3 : okB m.length x y = true := h2; rw [← Hok.out] at h3; cases h3))), Hb5.out⟩
            · obtain ⟨hx0, hx1, hy0, hy1⟩ := okB_true.1 Hok.out.symm
              obtain ⟨i, rfl⟩ : ∃ i : Nat, x = i := ⟨x.toNat, by omega⟩
              obtain ⟨j, rfl⟩ : ∃ j : Nat, y = j := ⟨y.toNat, by omega⟩
              have hinn : inn m.length (i, j) := ⟨by show 1 ≤ i; omega, by show i < m.length; omega, by show 1 ≤ j; omega, by show j < m.length; omega⟩
              have Hinn := Lib.hid hinn
              have hcall := flipped_any m.length (pad m.length (hOf cc)) i j w5 hn (by omega) (by omega) (by omega) (by omega) (Hcr.out.near hn)
              rw [tc_congr (fun a b _ _ => pad_tog cc hinn a b), show way (pad m.length (hOf cc)) i j = way (hOf cc) i j from way_pad cc hinn] at hcall
              obtain ⟨bb, hbb⟩ : ∃ bb, bb = (way (hOf cc) i j != 0) := ⟨_, rfl⟩
              rw [← hbb] at hcall
              have Hbb := Lib.hid hbb
              have Hcall := Lib.hid hcall
              clear hcall hbb hinn hx0 hx1 hy0 hy1
              go_wp2_with (first
                | (refine wpList_loadG rfl 54 _ rfl g6 rfl _ _ Hter5.out Try.underlying54 rfl (Try.size_terr _ _) ?_)
                | (refine wpList_loadG rfl 59 _ rfl g9 rfl _ _ HC.out Try.underlying59 rfl (Try.size_clI _ _) ?_))
              refine Hcall.out.mono ?_
              rintro e w6 ⟨rfl, hb6⟩
              have Hter6 := Lib.hid (Hter5.out.below hb6)
              have Hb6 := Lib.hid (Hb5.out.trans (hb6.mono HZ5.out))
              clear hb6 Hcall Hter5 Hb5
              have Hb7 := Lib.hid (below_setRowT Hb6.out HG.out (tc m.length (pad m.length (hOf (flipC cc i j)))))
              have Hter7 := Lib.hid (Hter6.out.setRow m.length (pad m.length (hOf (flipC cc i j))))
              cases bb
              · go_wp2_with (refine wpList_storeG rfl 54 _ _ rfl g6 (tc m.length (pad m.length (hOf (flipC cc i j)))) _ rfl rfl Hter6.out (Try.size_terr _ _) (tc_same _ _ _ _) (tc_one _ _) ?_)
                go_ret2
                exact ⟨MRes.no (frOk_no (run_stop Hrun.out hlt (fun h => by have h2 := h.2; rw [← Hrw.out] at h2; have h3 := Hbb.out; simp [gi] at h2; simp at h3; exact h2 h3))), Hb7.out⟩
              · have hstep : runC m.length (S2 m) (path.take (k + 1)) = some (flipC cc i j) := by
                  have h3 : way (hOf cc) i j ≠ 0 := by have := Hbb.out; simpa using this.symm
                  have h4 := run_step Hrun.out hlt (by rw [← Hrw.out, okCell_okB rfl]; exact Hok.out.symm) (by rw [← Hrw.out]; simpa [gi] using h3)
                  rw [← Hrw.out] at h4
                  simpa [gi] using h4
                have Hstep := Lib.hid hstep
                clear hstep
                go_wp2_with (refine wpList_storeG rfl 54 _ _ rfl g6 (tc m.length (pad m.length (hOf (flipC cc i j)))) _ rfl rfl Hter6.out (Try.size_terr _ _) (tc_same _ _ _ _) (tc_one _ _) ?_)
                go_roundw
                case rel => exact ⟨k + 1, _, by omega, by go_num, Hstep.out, Hter7.out, Hb7.out⟩
                case measure => simp [intOf]; omega
          · have Hl2 := Lib.hid hl2
            have Hcall := Lib.hid (cellAt_bad m.length (pad m.length (hOf cc)) r row.length rc wr hl2)
            clear hl2
            go_wp2_with (refine wpList_loadG rfl 54 _ rfl g6 rfl _ _ Hter.out Try.underlying54 rfl (Try.size_terr _ _) ?_)
            refine Hcall.out.mono ?_
            rintro e w4 ⟨rfl, hb4⟩
            have Hb4 := Lib.hid (Hbr.out.trans (hb4.mono HZr.out))
            have HZ4 := Lib.hid Hb4.out.size
            clear hb4 Hcall Hter Hbr hrow
            go_upto_region 8 with (first
              | (refine wpList_allocT rfl 59 rfl _ _ Try.info_cell ?_)
              | (refine wpList_storeT rfl 59 _ _ rfl (clI 0 0) (cl 0 0) w4.heap.size rfl rfl rfl (Try.size_clI 0 0) rfl (clI_one 0 0) ?_))
            generalize hW : World.alloc w4 _ = w5
            have hb5 : Below w4.heap.size w4 w5 := by rw [← hW]; exact (Below.refl _ _).alloc (Nat.le_refl _) _
            clear hW
            have Hb5 := Lib.hid (Hb4.out.trans (hb5.mono HZ4.out))
            clear hb5
            go_wp2
            go_ret2
            exact ⟨MRes.no (frOk_no (run_stop Hrun.out hlt (fun h => Hl2.out (by rw [Hrw.out]; exact h.1.1)))), Hb5.out⟩
        · obtain rfl : k = path.length := by omega
          have hrun2 : runC m.length (S2 m) path = some cc := by have := Hrun.out; rwa [List.take_length] at this
          have Hrun2 := Lib.hid hrun2
          have hcall := signs_any m.length (pad m.length (hOf cc)) wr hn1 hn (Hcr.out.near hn).fits
          rw [sgW_unC Hcr.out hn (fun i j hi hj => by unfold pad; rw [if_pos ⟨hi, hj⟩]), ← frM_some hrun2] at hcall
          have Hcall := Lib.hid hcall
          clear hrun2 hcall hbr
          go_wp2_with (refine wpList_loadG rfl 54 _ rfl g6 rfl _ _ Hter.out Try.underlying54 rfl (Try.size_terr _ _) ?_)
          refine Hcall.out.mono ?_
          rintro e w4 ⟨v, rfl, hv, hb4⟩
          have Hv := Lib.hid (hv.base HZr.out)
          have Hb4 := Lib.hid (Hbr.out.trans (hb4.mono HZr.out))
          clear hv hb4
          go_wp2
          go_ret2
          exact ⟨MRes.yes (frOk_yes Hg.out (by have := Hl.out; omega) Hrun2.out) Hv.out, Hb4.out⟩
  · have Hg := Lib.hid hg
    clear hg
    obtain rfl := ha.isnt Hg.out
    clear ha
    go_wp2
    go_ret2
    exact ⟨MRes.no (fun h => Hg.out h.1), Hb.out⟩

theorem ints_two (w : World) (x y : Int) (e : TypeId) : IntsAt (w.alloc (.cells #[.int .i64 x, .int .i64 y] e)) (some ⟨w.heap.size, 0, none⟩) [x, y] := fun k hk => by
  refine ⟨w.heap.size, 0, rfl, ?_⟩
  rw [Nat.zero_add, cell_of_row _ _ k _ _ _ (heap_alloc_new w _)]
  have : k = 0 ∨ k = 1 := by simp at hk; omega
  rcases this with rfl | rfl <;> rfl
theorem mat_one (w : World) (x y : Int) (e e2 : TypeId) : MatAt ((w.alloc (.cells #[.int .i64 x, .int .i64 y] e)).alloc (.cells #[.slice (some ⟨w.heap.size, 0, none⟩) 2 2] e2)) (some ⟨w.heap.size + 1, 0, none⟩) [[x, y]] := fun k hk => by
  obtain rfl : k = 0 := by simp at hk; omega
  refine ⟨w.heap.size + 1, 0, some ⟨w.heap.size, 0, none⟩, 2, rfl, ?_, ?_, by simp [gr], by omega⟩
  · have e : (w.alloc (.cells #[.int .i64 x, .int .i64 y] e)).heap.size = w.heap.size + 1 := by simp
    rw [← e, Nat.zero_add, cell_of_row _ _ 0 _ _ _ (heap_alloc_new _ _)]
    rfl
  · exact (ints_two w x y e).below ((Below.refl _ _).alloc (Nat.le_refl _) _)

set_option maxRecDepth 100000 in
set_option maxHeartbeats 1600000 in
theorem implFlipAt_any (ao : Option Addr) (c : Nat) (m : List (List Int)) (i j : Int) (w : World) (hs : Small m) (hwf : WfM m) (hm : MatAt w ao m) (hc : m.length ≤ c) (hc2 : c ≤ 9223372036854775807)
    (hi : -9223372036854775808 ≤ i ∧ i ≤ 9223372036854775807) (hj : -9223372036854775808 ≤ j ∧ j ≤ 9223372036854775807) :
    Calls Try.prog 20 #[.slice ao m.length c, .int .i64 i, .int .i64 j] w fun e w' => MRes (faOk m i j) (faM m i j) w' w.heap.size e ∧ Below w.heap.size w w' := by
  have hb : Below w.heap.size w ((w.alloc (.cells #[.int .i64 i, .int .i64 j] 3)).alloc (.cells #[.slice (some ⟨w.heap.size, 0, none⟩) 2 2] 41)) := two_below w _ _
  have hwf2 : WfM [[i, j]] := fun k hk => by
    obtain rfl : k = 0 := by simp at hk; omega
    intro k hk
    have : k = 0 ∨ k = 1 := by simp [gr] at hk; omega
    rcases this with rfl | rfl
    · exact hi
    · exact hj
  have Hcall := Lib.hid (implFollowFlips_any ao c m (some ⟨w.heap.size + 1, 0, none⟩) 1 [[i, j]] ((w.alloc (.cells #[.int .i64 i, .int .i64 j] 3)).alloc (.cells #[.slice (some ⟨w.heap.size, 0, none⟩) 2 2] 41)) hs hwf (hm.below hb) hc hc2
    ⟨by simp, fun k hk => by obtain rfl : k = 0 := by simp at hk; omega
                             simp [gr]⟩ hwf2 (mat_one w i j _ _) (by simp) (by omega))
  have Hb := Lib.hid hb
  clear hs hwf hm hb hwf2 hi hj
  go_enter Try.func20, Try.ntmps20
  go_wp2_with fail
  refine Hcall.out.mono ?_
  rintro e w2 ⟨⟨v, b, r, rfl, hv, hr⟩, hb2⟩
  have Hv := Lib.hid (hv.base Hb.out.size)
  have Hr := Lib.hid hr
  have Hb2 := Lib.hid (Hb.out.trans (hb2.mono Hb.out.size))
  clear hv hr hb2
  go_wp2
  go_ret2
  exact ⟨⟨v, b, r, rfl, Hv.out, Hr.out⟩, Hb2.out⟩
end Go.Proofs.Ytogkmfndfedfiaa

