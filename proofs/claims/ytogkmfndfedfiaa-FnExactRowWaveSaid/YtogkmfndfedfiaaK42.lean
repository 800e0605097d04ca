/- Parts of proofs: contracts and plain facts. Conditions: as each says. -/
import Derived.Test.YtogkmfndfedfiaaK41
import Derived.Deep.RegionHeld
namespace Go.Proofs.Ytogkmfndfedfiaa
open Go.RowKit

set_option maxRecDepth 100000 in
set_option maxHeartbeats 3200000 in
theorem implRowWave_any (ao : Option Addr) (c : Nat) (m : List (List Int)) (w : World) (hs : Small m) (hwf : WfM m) (hm : MatAt w ao m) (hc : m.length ≤ c) (hc2 : c ≤ 9223372036854775807) :
    Calls Try.prog 52 #[.slice ao m.length c] w fun e w' => MRes (good m) (rwM m) w' w.heap.size e ∧ Below w.heap.size w w' := by
  have Hs := Lib.hid hs
  have Hm := Lib.hid hm
  have Hwf := Lib.hid hwf
  clear hs hm hwf
  go_enter Try.func52, Try.ntmps52
  go_wp2_with fail
  refine (implIsSign_any ao c m w Hs.out Hwf.out Hm.out).mono ?_
  rintro e w1 ⟨ha, hb⟩
  have Hb := Lib.hid hb
  have HB := Lib.hid hb.size
  clear hb
  by_cases hg : good m
  · have Hg := Lib.hid hg
    have hn := hg.1.2.1
    have hn1 := hg.1.1
    have Hcr := Lib.hid (good_crn hg)
    have hsig : ∀ w', Calls Try.prog 73 #[.agg (tc m.length (pad m.length (hOf (togL (S2 m) (allCells m.length m.length)))))] w' fun e w2 => ∃ v, e = .returned v ∧ OwnM w2 w'.heap.size v (rwM m) ∧ Below w'.heap.size w' w2 := fun w' => signs_tog m (allCells m.length m.length) w' hg allCells_inn
    have Hsig := Lib.hid hsig
    clear hg hsig
    obtain rfl := ha.is Hg.out
    clear ha
    go_wp2_with fail
    refine (terrainOf_any ao c m w1 Hg.out (Hm.out.below Hb.out) hc hc2).mono ?_
    rintro e w2 ⟨rfl, hb2⟩
    have Hb2 := Lib.hid (Hb.out.trans (hb2.mono HB.out))
    have HB2 := Lib.hid Hb2.out.size
    obtain ⟨f, hf⟩ : ∃ f, f = pad m.length (hOf (S2 m)) := ⟨_, rfl⟩
    rw [← hf]
    have hser := fun (so : Option Addr) (k : Nat) (w' : World) (hk : (allCells m.length m.length).length = k) (hst : StepsAt w' so ((allCells m.length m.length).map tgv)) => series_toggles m.length (S2 m) (allCells m.length m.length) so k k w' hn Hcr.out hk (by have := allCells_all hn; omega) allCells_inn hst
    rw [← hf] at hser
    have Hser := Lib.hid hser
    clear hb2 hf hser
    go_upto_region 4 with (first
      | (refine wpList_allocT rfl 54 rfl _ _ Try.info_terr ?_)
      | (refine wpList_storeT rfl 54 _ _ rfl _ _ _ (by first | rfl | simp) rfl rfl (Try.size_terr _ _) (tc_same _ _ _ _) (tc_one _ _) ?_))
    generalize hW : World.alloc w2 _ = w3
    have hT : TerrAt w3 w2.heap.size m.length f := by rw [← hW]; exact TerrAt.new w2 _ _
    have hb3 : Below w2.heap.size w2 w3 := by rw [← hW]; exact (Below.refl _ _).alloc (Nat.le_refl _) _
    clear hW
    have HT := Lib.hid hT
    have Hb3 := Lib.hid (Hb2.out.trans (hb3.mono HB2.out))
    generalize w2.heap.size = g6 at hT HT ⊢
    clear hT hb3
    obtain ⟨k, hk⟩ : ∃ k, k = (allCells m.length m.length).length := ⟨_, rfl⟩
    have Hk := Lib.hid hk
    have hk36 : k ≤ 36 := by rw [hk]; exact allCells_all hn
    clear hk
    refine wp_region_held_drew (S := fun w' => TerrAt w' g6 m.length f ∧ Below w.heap.size w w') (by kernel_rfl) ⟨HT.out, below_drewN Hb3.out 1⟩ (fun hHeld => ?_)
    refine wpAnyH_take (i := 0) (oi := ⟨some 10, _, _, _, _, _⟩) (v := .agg (tl m.length f).toArray) rfl (by kernel_rfl) (by kernel_rfl) (by kernel_rfl) (fun _ _ _ h => h) (yieldsIf_load_mid (by rfl) _ _ rfl g6 0 rfl (tl m.length f) _ (fun w hw => hw.1.rangeT) Try.underlying54 rfl (Try.size_terrl m.length f)) hHeld ?_
    simp only [Act.put, List.setIfInBounds_toArray, List.set_cons_zero, List.set_cons_succ]
    refine wpAnyH_take (i := 3) (oi := ⟨some 13, _, _, _, _, _⟩) (v := .agg (tl m.length f).toArray) rfl (by kernel_rfl) (by kernel_rfl) (by kernel_rfl) (fun _ _ _ h => h) (yieldsIf_load_mid (by rfl) _ _ rfl g6 0 rfl (tl m.length f) _ (fun w hw => hw.1.rangeT) Try.underlying54 rfl (Try.size_terrl m.length f)) hHeld ?_
    simp only [Act.put, List.setIfInBounds_toArray, List.set_cons_zero, List.set_cons_succ]
    refine wpAnyH_ready (rs := [1]) (by kernel_rfl) (by simp) (AllReadyH.cons (o := ⟨some 11, _, _, _, _, _⟩) rfl (fun KK hKK => ?_) AllReadyH.nil)
    rw [if_pos (by rfl)]
    have Hheld := Lib.hid hHeld
    clear hHeld
    go_wp2_with (go_at_call 102; refine (cells_any m.length f _ hn1 hn).mono ?_; rintro e w4 ⟨v4, rfl, hv4, hb4⟩)
    refine hKK.out _ _ ⟨Hheld.out.1.below hb4, Hheld.out.2.trans (hb4.mono Hheld.out.2.size)⟩ (fun hHeld => ?_)
    clear Hheld hKK KK
    obtain ⟨a4, c4, rfl, _, _, hx4⟩ := hv4.read
    rw [← Hk.out]
    have Hx4 := Lib.hid hx4
    clear hv4 hx4 hb4
    refine wpAnyH_ready (rs := [2]) (by kernel_rfl) (by simp) (AllReadyH.cons (o := ⟨some 12, _, _, _, _, _⟩) rfl (fun KK hKK => ?_) AllReadyH.nil)
    rw [if_pos (by rfl)]
    have Hheld := Lib.hid hHeld
    clear hHeld
    go_wp2_with (go_at_call 101; refine (toggles_any (allCells m.length m.length) a4 k c4 _ Hk.out.symm (by omega) Hx4.out).mono ?_; rintro e w5 ⟨so, rfl, hst, hb5⟩)
    refine hKK.out _ _ ⟨Hheld.out.1.below hb5, Hheld.out.2.trans (hb5.mono Hheld.out.2.size)⟩ (fun hHeld => ?_)
    clear Hheld hKK KK
    have Hst := Lib.hid hst
    have hmt := fun w' => method_series so k k w'
    clear hst hb5
    refine wpAnyH_ready (rs := [4]) (by kernel_rfl) (by simp) (AllReadyH.cons (o := ⟨some 14, _, _, _, _, _⟩) rfl (fun KK hKK => ?_) AllReadyH.nil)
    rw [if_pos (by rfl)]
    have Hheld := Lib.hid hHeld
    clear hHeld
    go_wp2_with (go_at_call 163; refine (Hser.out so k _ Hk.out.symm Hst.out).mono ?_; rintro e w6 ⟨rfl, hb6⟩)
    refine hKK.out _ _ ⟨Hheld.out.1.below hb6, Hheld.out.2.trans (hb6.mono Hheld.out.2.size)⟩ (fun hHeld => ?_)
    clear Hheld hKK KK
    clear hb6
    refine wpAnyH_ready (rs := [5]) (by kernel_rfl) (by simp) (AllReadyH.cons (o := ⟨some 15, _, _, _, _, _⟩) rfl (fun KK hKK => ?_) AllReadyH.nil)
    rw [if_pos (by rfl)]
    have Hheld := Lib.hid hHeld
    clear hHeld
    go_wp2_with (go_at_call 73; refine (Hsig.out _).mono ?_; rintro e w7 ⟨v7, rfl, hv7, hb7⟩; have Hz6 := Lib.hid Hheld.out.2.size)
    refine hKK.out _ _ ⟨Hheld.out.1.below hb7, Hheld.out.2.trans (hb7.mono Hheld.out.2.size)⟩ (fun hHeld => ?_)
    clear Hheld hKK KK
    have Hv7 := Lib.hid (hv7.base Hz6.out)
    clear hv7 hb7
    refine wpAnyH_take (i := 6) (oi := ⟨some 2, _, _, _, _, _⟩) (v := v7) rfl (by kernel_rfl) (by kernel_rfl) (by kernel_rfl) (fun _ _ _ h => h) (Or.inl ⟨by rfl, ?y1⟩) hHeld ?_
    case y1 => intro w hSw; go_simp
    simp only [Act.put, List.setIfInBounds_toArray, List.set_cons_zero, List.set_cons_succ]
    refine wpAnyH_take (i := 7) (oi := ⟨some 3, _, _, _, _, _⟩) (v := .bool true) rfl (by kernel_rfl) (by kernel_rfl) (by kernel_rfl) (fun _ _ _ h => h) (Or.inl ⟨by rfl, ?y1⟩) hHeld ?_
    case y1 => intro w hSw; go_simp
    simp only [Act.put, List.setIfInBounds_toArray, List.set_cons_zero, List.set_cons_succ]
    refine wpAnyH_done (by kernel_rfl) ?_ _
    have Hfin := Lib.hid hHeld
    clear hHeld
    go_wp2
    go_ret2
    exact ⟨MRes.yes Hg.out Hv7.out, Hfin.out.2⟩
  · have Hg := Lib.hid hg
    clear hg
    obtain rfl := ha.isnt Hg.out
    clear ha
    go_wp2
    go_ret2
    exact ⟨MRes.no Hg.out, Hb.out⟩
end Go.Proofs.Ytogkmfndfedfiaa

