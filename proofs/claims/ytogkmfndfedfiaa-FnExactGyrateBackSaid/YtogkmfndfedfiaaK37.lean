/- Parts of proofs: contracts and plain facts. Conditions: as each says. -/
import Derived.Test.YtogkmfndfedfiaaK36
namespace Go.Proofs.Ytogkmfndfedfiaa
open Go.RowKit

def stuckB (f : Nat → Nat → Int) (p : Nat × Nat) : Bool := way f p.1 p.2 == 0

theorem two_zero (x : Int) : (2 * x == 0) = (x == 0) := by
  by_cases h : x = 0
  · subst h; rfl
  · rw [beq_eq_false_iff_ne.2 h, beq_eq_false_iff_ne.2 (by omega)]

set_option maxRecDepth 100000 in
set_option maxHeartbeats 1600000 in
theorem flipClosure (gt n : Nat) (f : Nat → Nat → Int) (i j : Nat) (w : World) (hn : n ≤ 6) (hi1 : 1 ≤ i) (hi : i < n) (hj1 : 1 ≤ j) (hj : j < n) (hf : Near f) (ht : TerrAt w gt n f) :
    Calls Try.prog 92 #[.agg (cl i j), .pointer (some ⟨gt, 0, none⟩)] w fun e w' => e = .returned (.bool (stuckB f (i, j))) ∧ Below w.heap.size w w' := by
  have Hcall := Lib.hid (fun w' => stepAt_any n f i j w' hi1 (by omega) hj1 (by omega) hf)
  have Ht := Lib.hid ht
  obtain ⟨d, hd⟩ : ∃ d, d = stuckB f (i, j) := ⟨_, rfl⟩
  rw [← hd]
  have Hd := Lib.hid hd
  clear hf ht hi1 hi hj1 hj hd
  go_enter Try.func92, Try.ntmps92
  go_upto_region 1 with (refine wpList_boxT rfl 59 _ rfl _ rfl ?_)
  generalize hW : World.alloc w _ = w1
  have hC : CellAt w1 w.heap.size i j := by rw [← hW]; exact heap_alloc_new w _
  have hB : Below w.heap.size w w1 := by rw [← hW]; exact (Below.refl _ _).alloc (Nat.le_refl _) _
  clear hW
  have HC := Lib.hid hC
  have HB := Lib.hid hB
  have HT := Lib.hid (Ht.out.below hB)
  clear hC hB
  go_wp2_with (first
    | (refine wpList_loadG rfl 54 _ rfl gt rfl _ _ HT.out Try.underlying54 rfl (Try.size_terr _ _) ?_)
    | (refine wpList_loadG rfl 59 _ rfl w.heap.size rfl _ _ HC.out Try.underlying59 rfl (Try.size_cell _ _) ?_))
  refine (Hcall.out w1).mono ?_
  rintro e w2 ⟨rfl, hb2⟩
  have Hb2 := Lib.hid (HB.out.trans (hb2.mono HB.out.size))
  obtain ⟨x, hx⟩ : ∃ x, x = way f i j := ⟨_, rfl⟩
  rw [← hx]
  have Hx := Lib.hid hx
  clear hb2 hx
  have hq : (2 * x == 0) = d := by
    rw [Hd.out, two_zero, Hx.out]
    rfl
  clear Hd Hx
  go_wp2
  go_ret
  exact ⟨rfl, Hb2.out⟩

theorem stuck_filter {n : Nat} (c : Nat → Nat → Int) (col : Int) : (colL col (allCells n n)).filter (fun p => !stuckB (pad n (hOf c)) p) = fcS c col (allCells n n) := by
  unfold fcS
  refine List.filter_congr fun p hp => ?_
  unfold stuckB canB
  rw [way_pad c (allCells_inn p (colL_mem hp))]

theorem fcL_few {m : List (List Int)} (col : Int) (hn : m.length ≤ 6) : (fcL m col).length ≤ 36 := Nat.le_trans (fcS_len _ _ _) (allCells_all hn)
theorem fcL_small {m : List (List Int)} (col : Int) (hn : m.length ≤ 6) : Small (cellM (fcL m col)) := by
  refine ⟨by rw [cellM_len]; have := fcL_few (m := m) col hn; omega, fun i hi => ?_⟩
  rw [cellM_len] at hi
  rw [gr_cellM hi]
  simp

set_option maxRecDepth 100000 in
set_option maxHeartbeats 1600000 in
theorem implFlippedCells_any (ao : Option Addr) (c : Nat) (m : List (List Int)) (col : Int) (w : World) (hs : Small m) (hwf : WfM m) (hm : MatAt w ao m) (hc : m.length ≤ c) (hc2 : c ≤ 9223372036854775807) (hcol : -9223372036854775808 ≤ col ∧ col ≤ 9223372036854775807) :
    Calls Try.prog 46 #[.slice ao m.length c, .int .i64 col] w fun e w' => MRes (fcOk m col) (cellM (fcL m col)) w' w.heap.size e ∧ Below w.heap.size w w' := by
  have Hs := Lib.hid hs
  have Hm := Lib.hid hm
  have Hwf := Lib.hid hwf
  clear hs hm hwf hcol
  go_enter Try.func46, Try.ntmps46
  go_wp2_with fail
  refine (implIsSign_any ao c m w Hs.out Hwf.out Hm.out).mono ?_
  rintro e w1 ⟨ha, hb⟩
  have Hb := Lib.hid hb
  have HB := Lib.hid hb.size
  clear hb
  by_cases hg : good m
  · have Hg := Lib.hid hg
    have hn := hg.1.2.1
    have hn1 := hg.1.1
    clear hg
    obtain rfl := ha.is Hg.out
    clear ha
    go_wp2_with fail
    refine (isColour_any col w1).mono ?_
    rintro e w1' ⟨ha, rfl⟩
    by_cases h : 0 ≤ col ∧ col ≤ 1
    · obtain rfl := ha.is h
      have H := Lib.hid h
      clear ha h
      go_wp2_with fail
      refine (terrainOf_any ao c m w1' Hg.out (Hm.out.below Hb.out) hc hc2).mono ?_
      rintro e w2 ⟨rfl, hb2⟩
      have Hb2 := Lib.hid (Hb.out.trans (hb2.mono HB.out))
      have HB2 := Lib.hid Hb2.out.size
      obtain ⟨f, hf⟩ : ∃ f, f = pad m.length (hOf (S2 m)) := ⟨_, rfl⟩
      rw [← hf]
      have Hf := Lib.hid hf
      have Hnear := Lib.hid (show Near f by rw [hf]; exact (good_crn Hg.out).near hn)
      clear hb2 hf
      go_upto_region 4 with (first
        | (refine wpList_allocT rfl 54 rfl _ _ Try.info_terr ?_)
        | (refine wpList_storeT rfl 54 _ _ rfl _ _ _ (by first | rfl | simp) rfl rfl (Try.size_terr _ _) (tc_same _ _ _ _) (tc_one _ _) ?_))
      generalize hW : World.alloc w2 _ = w3
      have hT : TerrAt w3 w2.heap.size m.length f := by rw [← hW]; exact TerrAt.new w2 _ _
      have hb3 : Below w2.heap.size w2 w3 := by rw [← hW]; exact (Below.refl _ _).alloc (Nat.le_refl _) _
      have hz : w3.heap.size = w2.heap.size + 1 := by rw [← hW]; simp
      clear hW
      have HT := Lib.hid hT
      have Hz := Lib.hid hz
      have Hb3 := Lib.hid (Hb2.out.trans (hb3.mono HB2.out))
      have HB3 := Lib.hid Hb3.out.size
      clear hT hb3 hz
      go_wp2_with (refine wpList_loadG rfl 54 _ rfl w2.heap.size rfl _ _ HT.out Try.underlying54 rfl (Try.size_terr _ _) ?_)
      refine (coloured_any m.length f col w3 hn1 hn).mono ?_
      rintro e w4 ⟨v4, rfl, hk4, hb4⟩
      have hpred : PredFlip w3.heap.size w2.heap.size (stuckB f) (colL col (allCells m.length m.length)) w4 := fun w' hb p hp => by
        have hin := allCells_inn p (colL_mem hp)
        refine flipClosure w2.heap.size m.length f p.1 p.2 w' hn hin.1 hin.2.1 hin.2.2.1 hin.2.2.2 Hnear.out ?_
        have ht4 := HT.out.below hb4
        unfold TerrAt at ht4 ⊢
        rw [hb.block _ (by have := Hz.out; omega)]
        exact ht4
      have hk5 : OwnK w4 w3.heap.size v4 (colL col (allCells m.length m.length)) := by
        obtain ⟨a, c, e, h1, h2, h3, h4⟩ := hk4
        exact ⟨a, c, e, h1, h2, h3, fun g o e => by have := h4 g o e; omega⟩
      have hcall := deleteFlip w3.heap.size w2.heap.size (stuckB f) (colL col (allCells m.length m.length)) v4 w4 hb4.size (Nat.le_trans (colL_len _ _) (Nat.le_trans (allCells_all hn) (by omega))) hk5 hpred
      rw [Hf.out, stuck_filter] at hcall
      obtain ⟨a4, c4, rfl, _, _, _, _⟩ := hk4
      have Hcall := Lib.hid hcall
      have Hb4 := Lib.hid (Hb3.out.trans (hb4.mono HB3.out))
      clear hcall hpred hk5 hb4
      go_wp2_with fail
      refine Hcall.out.mono ?_
      rintro e w5 ⟨v5, rfl, hk5, hb5⟩
      have Hb5 := Lib.hid (Hb4.out.trans (hb5.mono HB3.out))
      have hx5 := hk5
      obtain ⟨a5, c5, rfl, _, _, _, _⟩ := hk5
      have hcall := cellLists_any a5 c5 (fcL m col) w5 (by have := fcL_few (m := m) col hn; omega) hx5.cells
      have Hcall2 := Lib.hid hcall
      clear hcall hx5 hb5 Hcall
      go_wp2_with fail
      refine Hcall2.out.mono ?_
      rintro e w6 ⟨u, rfl, hu, hb6⟩
      have Hu := Lib.hid (hu.base Hb5.out.size)
      have Hb6 := Lib.hid (Hb5.out.trans (hb6.mono Hb5.out.size))
      clear hu hb6
      go_wp2
      go_ret2
      exact ⟨MRes.yes ⟨Hg.out, H.out⟩ Hu.out, Hb6.out⟩
    · obtain rfl := ha.isnt h
      have H := Lib.hid h
      clear ha h
      go_wp2
      go_ret2
      exact ⟨MRes.no (fun h => H.out h.2), Hb.out⟩
  · have Hg := Lib.hid hg
    clear hg
    obtain rfl := ha.isnt Hg.out
    clear ha
    go_wp2
    go_ret2
    exact ⟨MRes.no (fun h => Hg.out h.1), Hb.out⟩
end Go.Proofs.Ytogkmfndfedfiaa

