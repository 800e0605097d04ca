/- Parts of proofs: contracts and plain facts. Conditions: as each says. -/
import Derived.Test.YtogkmfndfedfiaaK47
namespace Go.Proofs.Ytogkmfndfedfiaa
open Go.RowKit

set_option maxRecDepth 100000 in
set_option maxHeartbeats 3200000 in
theorem implToggleCells_any (ao : Option Addr) (c : Nat) (m : List (List Int)) (bo : Option Addr) (d : Nat) (cells : List (List Int)) (w : World) (hs : Small m) (hwf : WfM m) (hm : MatAt w ao m) (hc : m.length ≤ c) (hc2 : c ≤ 9223372036854775807)
    (hs2 : Small cells) (hwf2 : WfM cells) (hk : MatAt w bo cells) (hd : cells.length ≤ d) (hd2 : d ≤ 9223372036854775807) :
    Calls Try.prog 54 #[.slice ao m.length c, .slice bo cells.length d] w fun e w' => MRes (tcOk m cells) (tcM m cells) w' w.heap.size e ∧ Below w.heap.size w w' := by
  obtain ⟨c0, hci, hz0, hz1, hz2⟩ := info_parts Try.infob_cell
  have hpl := hs2.1
  have Hs := Lib.hid hs
  have Hm := Lib.hid hm
  have Hwf := Lib.hid hwf
  have Hk := Lib.hid hk
  clear hs hm hwf hk hs2 hwf2 hd hd2
  go_enter Try.func54, Try.ntmps54
  go_wp2_with fail
  refine (implIsSign_any ao c m w Hs.out Hwf.out Hm.out).mono ?_
  rintro e w1 ⟨ha, hb⟩
  have Hb := Lib.hid hb
  have HB := Lib.hid hb.size
  clear hb
  by_cases hg : good m
  · have Hg := Lib.hid hg
    have hn := hg.1.2.1
    have hn1 := hg.1.1
    have Hcr := Lib.hid (good_crn hg)
    clear hg
    obtain rfl := ha.is Hg.out
    clear ha
    by_cases hl : 200 < cells.length
    · have hlt : (200 : Int) < (cells.length : Int) := by omega
      have Hl := Lib.hid hl
      clear hl
      go_wp2
      go_ret2
      exact ⟨MRes.no (fun h => by have := h.2.1; have := Hl.out; omega), Hb.out⟩
    · have hlt : ¬ (200 : Int) < (cells.length : Int) := by omega
      have hl200 : cells.length ≤ 200 := by omega
      clear hl
      go_wp2_with fail
      refine (terrainOf_any ao c m w1 Hg.out (Hm.out.below Hb.out) hc hc2).mono ?_
      rintro e w2 ⟨rfl, hb2⟩
      have Hb2 := Lib.hid (Hb.out.trans (hb2.mono HB.out))
      have HB2 := Lib.hid Hb2.out.size
      obtain ⟨f, hf⟩ : ∃ f, f = pad m.length (hOf (S2 m)) := ⟨_, rfl⟩
      rw [← hf]
      have Hf := Lib.hid hf
      clear hb2 hlt hf
      go_upto_region 4 with (first
        | (refine wpList_allocT rfl 54 rfl _ _ Try.info_terr ?_)
        | (refine wpList_storeT rfl 54 _ _ rfl _ _ _ (by first | rfl | simp) rfl rfl (Try.size_terr _ _) (tc_same _ _ _ _) (tc_one _ _) ?_))
      generalize hW : World.alloc w2 _ = w3
      have hT : TerrAt w3 w2.heap.size m.length f := by rw [← hW]; exact TerrAt.new w2 _ _
      have hb3 : Below w2.heap.size w2 w3 := by rw [← hW]; exact (Below.refl _ _).alloc (Nat.le_refl _) _
      have hz3 : w3.heap.size = w2.heap.size + 1 := by rw [← hW]; simp
      clear hW
      have HT := Lib.hid hT
      have Hb3 := Lib.hid (Hb2.out.trans (hb3.mono HB2.out))
      have HB3 := Lib.hid Hb3.out.size
      have Hne := Lib.hid (show w2.heap.size < w3.heap.size by omega)
      generalize w2.heap.size = g6 at hT HT Hne ⊢
      clear hT hb3 hz3 Hb2 HB2
      obtain ⟨n, hnn⟩ : ∃ n, n = cells.length := ⟨_, rfl⟩
      rw [← hnn] at hl200 hpl ⊢
      have Hnn := Lib.hid hnn
      clear hnn
      go_wp2_with (at_make; refine wpList_make_full _ rfl _ _ 57 rfl w3.heap.size 59 c0 (.agg (cl 0 0)) 2 Try.underlying57 hci hz0 hz1 _ _ _ _ n rfl rfl rfl rfl ?c1 ?c2 ?c3 ?_)
      case c1 => rw [hz2]; omega
      case c2 => unfold maxLen; omega
      case c3 => simp
      intro w4 hown hgr
      have hb4 : Below w3.heap.size w3 w4 := (Below.refl _ _).grown hgr (Nat.le_refl _) (fun _ h => by cases h)
      rw [show (madeCells (cl 0 0) (n * 2)).toList = (List.replicate n ((0, 0) : Nat × Nat)).flatMap crow from made_cells n] at hown
      have hh : HoldsC w4 w3.heap.size (List.replicate n ((0, 0) : Nat × Nat)) := by
        by_cases e : n = 0
        · subst e; exact fun t ht => absurd ht (by simp)
        · have hoc : OwnC w4 w3.heap.size (.slice (some ⟨w3.heap.size, 0, none⟩) n n) (List.replicate n ((0, 0) : Nat × Nat)) := by
            unfold OwnC
            rw [List.length_replicate]
            exact hown
          obtain ⟨g, cap, e, _, _, hh⟩ := hoc.holds (by rw [List.length_replicate]; omega)
          simp only [Value.slice.injEq, Option.some.injEq, Addr.mk.injEq, and_true] at e
          obtain ⟨rfl, _, _⟩ := e
          exact hh
      have Hh := Lib.hid hh
      have HT4 := Lib.hid (HT.out.below hb4)
      have Hb4 := Lib.hid (Hb3.out.trans (hb4.mono HB3.out))
      have HG := Lib.hid HB3.out
      generalize w3.heap.size = g7 at Hh Hne HG hh ⊢
      clear hown hgr hb4 hh HB3 HT Hb3
      go_wp2
      go_loopw [27] (fun i wr => ∃ (t : Nat) (ds : List (Nat × Nat)), t ≤ n ∧ i = .int .i64 t ∧ AllOk m.length cells t ∧ PutOf cells t ds ∧ HoldsC wr g7 ds ∧ TerrAt wr g6 m.length f ∧ Below w.heap.size w wr) (fun i _ => n - (intOf i).toNat)
      case atStart => exact ⟨0, _, Nat.zero_le _, rfl, fun k hk => absurd hk (by omega), ⟨by rw [List.length_replicate, Hnn.out], by simp⟩, Hh.out, HT4.out, Hb4.out⟩
      case round =>
        obtain ⟨t, ds, ht, rfl, hall, hput, hhr, hter, hbr⟩ := hrel
        have Hall := Lib.hid hall
        have Hput := Lib.hid hput
        have Hhr := Lib.hid hhr
        have Hter := Lib.hid hter
        have Hbr := Lib.hid hbr
        have HZr := Lib.hid hbr.size
        clear hall hput hhr hter Hh HT4 Hb4
        by_cases hlt : t < n
        · have hlt' : t < cells.length := by rw [← Hnn.out]; exact hlt
          obtain ⟨b, o, r, rc, rfl, hrow, hr, _, _⟩ := (Hk.out.below hbr) t hlt'
          obtain ⟨row, hrw⟩ : ∃ row, row = gr cells t := ⟨_, rfl⟩
          rw [← hrw] at hrow hr
          have Hrw := Lib.hid hrw
          have Hr := Lib.hid hr
          clear hrw hr hbr
          by_cases hl2 : row.length = 2
          · obtain ⟨x, y, rfl⟩ : ∃ x y, row = [x, y] := ⟨_, _, two_of_len hl2⟩
            simp only [List.length_cons, List.length_nil, Nat.zero_add, Nat.reduceAdd] at hrow
            obtain ⟨ok, hok⟩ : ∃ ok, ok = okB m.length x y := ⟨_, rfl⟩
            have Hok := Lib.hid hok
            have hcall := cellAt_two m.length f r rc x y wr Hr.out
            rw [← hok] at hcall
            have Hcall := Lib.hid hcall
            clear hl2 hok hcall
            go_wp2_with (refine wpList_loadG rfl 54 _ rfl g6 rfl _ _ Hter.out Try.underlying54 rfl (Try.size_terr _ _) ?_)
            refine Hcall.out.mono ?_
            rintro e w5 ⟨rfl, hb5⟩
            have Hter5 := Lib.hid (Hter.out.below hb5)
            have Hh5 := Lib.hid (Hhr.out.below hb5)
            have Hb5 := Lib.hid (Hbr.out.trans (hb5.mono HZr.out))
            have HZ5 := Lib.hid Hb5.out.size
            clear hb5 Hcall Hter Hbr hrow Hhr
            go_upto_region 9 with (first
              | (refine wpList_allocT rfl 59 rfl _ _ Try.info_cell ?_)
              | (refine wpList_storeT rfl 59 _ _ rfl (clI x y) (cl 0 0) w5.heap.size rfl rfl rfl (Try.size_clI x y) rfl (clI_one x y) ?_))
            generalize hW : World.alloc w5 _ = w6
            have hC : CellI w6 w5.heap.size x y := by rw [← hW]; exact heap_alloc_new w5 _
            have hb6 : Below w5.heap.size w5 w6 := by rw [← hW]; exact (Below.refl _ _).alloc (Nat.le_refl _) _
            clear hW
            have HC := Lib.hid hC
            have Hter6 := Lib.hid (Hter5.out.below hb6)
            have Hh6 := Lib.hid (Hh5.out.below hb6)
            have Hb6 := Lib.hid (Hb5.out.trans (hb6.mono HZ5.out))
            generalize w5.heap.size = g10 at hC HC ⊢
            clear hC hb6 Hter5 Hb5 Hh5
            cases ok
            · go_wp2
              go_ret2
              exact ⟨MRes.no (fun h => by
                have h2 := h.2.2 t hlt'
                rw [← Hrw.out, okCell_okB rfl] at h2
                have h3 : okB m.length x y = true := h2
                rw [← Hok.out] at h3
                cases h3), Hb6.out⟩
            · have hokc : okCell m.length (gr cells t) := by rw [← Hrw.out, okCell_okB rfl]; exact Hok.out.symm
              have Hnext := Lib.hid (Hall.out.snoc hokc)
              obtain ⟨hx0, hx1, hy0, hy1⟩ := okB_true.1 Hok.out.symm
              obtain ⟨i, rfl⟩ : ∃ i : Nat, x = i := ⟨x.toNat, by omega⟩
              obtain ⟨j, rfl⟩ : ∃ j : Nat, y = j := ⟨y.toNat, by omega⟩
              have hpo : pairOf (gr cells t) = (i, j) := by rw [← Hrw.out]; simp [pairOf, gi]
              have hltd : t < ds.length := by rw [Hput.out.1]; exact hlt'
              have Hthere := Lib.hid (Hh6.out t hltd).2
              have Hh7 := Lib.hid (Hh6.out.put hltd (i, j))
              have Hput7 : Hid (PutOf cells (t + 1) (ds.set t (i, j))) := Lib.hid ⟨by rw [List.length_set]; exact Hput.out.1, by
                rw [pairs_snoc hlt', hpo, List.take_add_one, List.take_set_of_le (Nat.le_refl _), Hput.out.2, List.getElem?_set_self hltd]
                rfl⟩
              have Hb7 := Lib.hid (below_setC HG.out (crow (i, j)) (t * 2) Hb6.out)
              have Hter7 := Lib.hid (show TerrAt (w6.setCells g7 (t * 2) (crow (i, j))) g6 m.length f from by
                unfold TerrAt
                rw [(below_setC (B := g7) (Nat.le_refl g7) (crow (i, j)) (t * 2) (Below.refl g7 w6)).block g6 Hne.out]
                exact Hter6.out)
              clear hokc hx0 hx1 hy0 hy1 hpo hltd
              go_wp2_with (first
                | (refine wpList_loadG rfl 59 _ rfl g10 rfl (clI i j) _ HC.out Try.underlying59 rfl (Try.size_clI _ _) ?_)
                | (refine wpList_store_mid rfl 59 _ _ rfl g7 (t * 2) (crow (i, j)).toArray rfl rfl Hthere.out (Try.size_cell i j) (crow_one (i, j)) ?_))
              go_roundw
              case rel => exact ⟨t + 1, _, by omega, by go_num, Hnext.out, Hput7.out, Hh7.out, Hter7.out, Hb7.out⟩
              case measure => simp [intOf]; omega
          · have Hl2 := Lib.hid hl2
            have Hcall := Lib.hid (cellAt_bad m.length f r row.length rc wr hl2)
            clear hl2
            go_wp2_with (refine wpList_loadG rfl 54 _ rfl g6 rfl _ _ Hter.out Try.underlying54 rfl (Try.size_terr _ _) ?_)
            refine Hcall.out.mono ?_
            rintro e w5 ⟨rfl, hb5⟩
            have Hb5 := Lib.hid (Hbr.out.trans (hb5.mono HZr.out))
            have HZ5 := Lib.hid Hb5.out.size
            clear hb5 Hcall Hter Hbr hrow
            go_upto_region 9 with (first
              | (refine wpList_allocT rfl 59 rfl _ _ Try.info_cell ?_)
              | (refine wpList_storeT rfl 59 _ _ rfl (clI 0 0) (cl 0 0) w5.heap.size rfl rfl rfl (Try.size_clI 0 0) rfl (clI_one 0 0) ?_))
            generalize hW : World.alloc w5 _ = w6
            have hb6 : Below w5.heap.size w5 w6 := by rw [← hW]; exact (Below.refl _ _).alloc (Nat.le_refl _) _
            clear hW
            have Hb6 := Lib.hid (Hb5.out.trans (hb6.mono HZ5.out))
            clear hb6
            go_wp2
            go_ret2
            exact ⟨MRes.no (fun h => Hl2.out (by rw [Hrw.out]; exact (h.2.2 t hlt').1)), Hb6.out⟩
        · obtain rfl : t = n := by omega
          obtain ⟨ps, hps⟩ : ∃ ps, ps = cells.map pairOf := ⟨_, rfl⟩
          have hfull : cells.take t = cells := by rw [Hnn.out]; exact List.take_length
          have hcells : CellsAt wr (some ⟨g7, 0, none⟩) ps := by rw [hps, ← hfull]; exact Hhr.out.cells Hput.out.2
          have hlen : ps.length = t := by rw [hps, List.length_map, Hnn.out]
          have hinn : ∀ p ∈ ps, inn m.length p := by rw [hps, ← hfull]; exact Hall.out.inn
          have Htc := Lib.hid (show tcOk m cells from ⟨Hg.out, by rw [← Hnn.out]; exact hl200, by rw [← Hnn.out]; exact Hall.out⟩)
          have hsig : ∀ w', Calls Try.prog 73 #[.agg (tc m.length (pad m.length (hOf (togL (S2 m) ps))))] w' fun e w2 => ∃ v, e = .returned v ∧ OwnM w2 w'.heap.size v (tcM m cells) ∧ Below w'.heap.size w' w2 := fun w' => by
            unfold tcM
            rw [← hps]
            exact signs_tog m ps w' Hg.out hinn
          have hser := fun (so : Option Addr) (w' : World) (hst : StepsAt w' so (ps.map tgv)) => series_toggles m.length (S2 m) ps so t t w' hn Hcr.out hlen (by omega) hinn hst
          rw [← Hf.out] at hser
          have Hsig := Lib.hid hsig
          have Hser := Lib.hid hser
          have Hcells := Lib.hid (fun w' (h : Below wr.heap.size wr w') => hcells.below h)
          have Hlen := Lib.hid hlen
          clear hfull hcells hlen hinn hsig hser hps hbr
          go_upto_region 13 with fail
          refine wp_region_held_drew (S := fun w' => TerrAt w' g6 m.length f ∧ Below w.heap.size w w') (by kernel_rfl) ⟨Hter.out, below_drewN Hbr.out 1⟩ (fun hHeld => ?_)
          refine wpAnyH_take (i := 0) (oi := ⟨some 45, _, _, _, _, _⟩) (v := .slice (some ⟨g7, 0, none⟩) t t) rfl (by kernel_rfl) (by kernel_rfl) (by kernel_rfl) (fun _ _ _ h => h) (Or.inl ⟨by rfl, ?y1⟩) hHeld ?_
          case y1 => intro w hSw; go_simp
          simp only [Act.put, List.setIfInBounds_toArray, List.set_cons_zero, List.set_cons_succ]
          refine wpAnyH_take (i := 2) (oi := ⟨some 47, _, _, _, _, _⟩) (v := .agg (tl m.length f).toArray) rfl (by kernel_rfl) (by kernel_rfl) (by kernel_rfl) (fun _ _ _ h => h) (yieldsIf_load_mid (by rfl) _ _ rfl g6 0 rfl (tl m.length f) _ (fun w hw => hw.1.rangeT) Try.underlying54 rfl (Try.size_terrl m.length f)) hHeld ?_
          simp only [Act.put, List.setIfInBounds_toArray, List.set_cons_zero, List.set_cons_succ]
          refine wpAnyH_ready (rs := [1]) (by kernel_rfl) (by simp) (AllReadyH.cons (o := ⟨some 46, _, _, _, _, _⟩) rfl (fun KK hKK => ?_) AllReadyH.nil)
          rw [if_pos (by rfl)]
          have Hheld := Lib.hid hHeld
          clear hHeld
          go_wp2_with (go_at_call 101; refine (toggles_any ps (some ⟨g7, 0, none⟩) t t _ Hlen.out (by omega) (Hcells.out _ (below_drewN (Below.refl _ _) 1))).mono ?_; rintro e w5 ⟨so, rfl, hst, hb5⟩)
          refine hKK.out _ _ ⟨Hheld.out.1.below hb5, Hheld.out.2.trans (hb5.mono Hheld.out.2.size)⟩ (fun hHeld => ?_)
          clear Hheld hKK KK
          have Hst := Lib.hid hst
          have hmt := fun w' => method_series so t t w'
          clear hst hb5
          refine wpAnyH_ready (rs := [3]) (by kernel_rfl) (by simp) (AllReadyH.cons (o := ⟨some 48, _, _, _, _, _⟩) rfl (fun KK hKK => ?_) AllReadyH.nil)
          rw [if_pos (by rfl)]
          have Hheld := Lib.hid hHeld
          clear hHeld
          go_wp2_with (go_at_call 163; refine (Hser.out so _ Hst.out).mono ?_; rintro e w6 ⟨rfl, hb6⟩)
          refine hKK.out _ _ ⟨Hheld.out.1.below hb6, Hheld.out.2.trans (hb6.mono Hheld.out.2.size)⟩ (fun hHeld => ?_)
          clear Hheld hKK KK
          clear hb6
          refine wpAnyH_ready (rs := [4]) (by kernel_rfl) (by simp) (AllReadyH.cons (o := ⟨some 49, _, _, _, _, _⟩) rfl (fun KK hKK => ?_) AllReadyH.nil)
          rw [if_pos (by rfl)]
          have Hheld := Lib.hid hHeld
          clear hHeld
          go_wp2_with (go_at_call 73; refine (Hsig.out _).mono ?_; rintro e w7 ⟨v7, rfl, hv7, hb7⟩; have Hz6 := Lib.hid Hheld.out.2.size)
          refine hKK.out _ _ ⟨Hheld.out.1.below hb7, Hheld.out.2.trans (hb7.mono Hheld.out.2.size)⟩ (fun hHeld => ?_)
          clear Hheld hKK KK
          have Hv7 := Lib.hid (hv7.base Hz6.out)
          clear hv7 hb7
          refine wpAnyH_take (i := 5) (oi := ⟨some 4, _, _, _, _, _⟩) (v := v7) rfl (by kernel_rfl) (by kernel_rfl) (by kernel_rfl) (fun _ _ _ h => h) (Or.inl ⟨by rfl, ?y1⟩) hHeld ?_
          case y1 => intro w hSw; go_simp
          simp only [Act.put, List.setIfInBounds_toArray, List.set_cons_zero, List.set_cons_succ]
          refine wpAnyH_take (i := 6) (oi := ⟨some 5, _, _, _, _, _⟩) (v := .bool true) rfl (by kernel_rfl) (by kernel_rfl) (by kernel_rfl) (fun _ _ _ h => h) (Or.inl ⟨by rfl, ?y1⟩) hHeld ?_
          case y1 => intro w hSw; go_simp
          simp only [Act.put, List.setIfInBounds_toArray, List.set_cons_zero, List.set_cons_succ]
          refine wpAnyH_done (by kernel_rfl) ?_ _
          have Hfin := Lib.hid hHeld
          clear hHeld
          go_wp2
          go_ret2
          exact ⟨MRes.yes Htc.out Hv7.out, Hfin.out.2⟩
  · have Hg := Lib.hid hg
    clear hg
    obtain rfl := ha.isnt Hg.out
    clear ha
    go_wp2
    go_ret2
    exact ⟨MRes.no (fun h => Hg.out h.1), Hb.out⟩
end Go.Proofs.Ytogkmfndfedfiaa

