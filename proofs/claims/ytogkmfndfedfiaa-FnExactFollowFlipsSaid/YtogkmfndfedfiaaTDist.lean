/- Contracts of the program: the distance of two terrains; the terrains of two matrices. Conditions: numbers not far from 0. -/
import Derived.Test.YtogkmfndfedfiaaTerrI
import Derived.Test.YtogkmfndfedfiaaTMeet
import Derived.Test.YtogkmfndfedfiaaHtP
import Derived.Deep.RegionHeld
namespace Go.Proofs.Ytogkmfndfedfiaa
open Go.RowKit

def dF (p q : Nat → Nat → Int) (i j : Nat) : Int := max (q i j - p i j) (p i j - q i j)
theorem dF_bound {p q : Nat → Nat → Int} (hp : Near p) (hq : Near q) {i j : Nat} (hi : i < 7) (hj : j < 7) : 0 ≤ dF p q i j ∧ dF p q i j ≤ 180 := by
  have h1 := hp i j hi hj
  have h2 := hq i j hi hj
  unfold dF
  omega

/-- what both terrains are, or none -/
def terr (m : List (List Int)) : Value := .agg (tc m.length (pad m.length (hOf (S2 m))))
def tz : Value := .agg (tc 0 z0)
def TwoT (m k : List (List Int)) (e : Ending) : Prop := (pairOk m k ∧ e = .returned (.tuple #[terr m, terr k, .bool true])) ∨ (¬ pairOk m k ∧ e = .returned (.tuple #[tz, tz, .bool false]))

set_option maxRecDepth 100000 in
set_option maxHeartbeats 1600000 in
theorem terrainsOf_any (ao bo : Option Addr) (c d : Nat) (m k : List (List Int)) (w : World) (hs : Small m) (hs2 : Small k) (hwf : WfM m) (hwf2 : WfM k) (hm : MatAt w ao m) (hk : MatAt w bo k) (hc : m.length ≤ c) (hc2 : c ≤ 9223372036854775807) (hd : k.length ≤ d) (hd2 : d ≤ 9223372036854775807) :
    Calls Try.prog 66 #[.slice ao m.length c, .slice bo k.length d] w fun e w' => TwoT m k e ∧ Below w.heap.size w w' := by
  have h1 := hs.1
  have h2 := hs2.1
  have Hs := Lib.hid hs
  have Hs2 := Lib.hid hs2
  have Hwf := Lib.hid hwf
  have Hwf2 := Lib.hid hwf2
  have Hm := Lib.hid hm
  have Hk := Lib.hid hk
  clear hs hs2 hwf hwf2 hm hk
  go_enter Try.func66, Try.ntmps66
  go_upto_region 1 with (first | (refine wpList_allocT rfl 54 rfl _ _ Try.info_terr ?_) | (refine wpList_buildT1 rfl 54 0 _ rfl (.int .i64 _) rfl _ (Try.built_terr _) ?_) | (refine wpList_buildT0 rfl 54 rfl _ Try.built_terr0 ?_) | (refine wpList_boxT rfl 54 _ rfl _ rfl ?_) | (refine wpList_storeT rfl 54 _ _ rfl _ _ _ (by first | rfl | simp) rfl rfl (Try.size_terr _ _) (tc_same _ _ _ _) (tc_one _ _) ?_))
  generalize hW : World.alloc (World.alloc w _) _ = w1
  have hA : TerrAt w1 w.heap.size 0 z0 := by rw [← hW]; exact two_bot w _ _ _
  have hB : TerrAt w1 (w.heap.size + 1) 0 z0 := by rw [← hW]; exact two_top w _ _ _
  have hb0 : Below w.heap.size w w1 := by rw [← hW]; exact two_below w _ _
  clear hW
  have HA := Lib.hid hA
  have HBB := Lib.hid hB
  have HB0 := Lib.hid hb0
  have HZ0 := Lib.hid hb0.size
  clear hA hB hb0
  go_wp2_with fail
  refine (implIsSign_any ao c m w1 Hs.out Hwf.out (Hm.out.below HB0.out)).mono ?_
  rintro e w2 ⟨ha, hb⟩
  have HA2 := Lib.hid (HA.out.below hb)
  have HBB2 := Lib.hid (HBB.out.below hb)
  have HB2 := Lib.hid (HB0.out.trans (hb.mono HZ0.out))
  clear hb HA HBB
  have HZ2 := Lib.hid HB2.out.size
  by_cases hg : good m
  · have Hg := Lib.hid hg
    clear hg
    obtain rfl := ha.is Hg.out
    clear ha
    go_wp2_with fail
    refine (implIsSign_any bo d k w2 Hs2.out Hwf2.out (Hk.out.below HB2.out)).mono ?_
    rintro e w3 ⟨ha, hb⟩
    have HA3 := Lib.hid (HA2.out.below hb)
    have HBB3 := Lib.hid (HBB2.out.below hb)
    have HB3 := Lib.hid (HB2.out.trans (hb.mono HZ2.out))
    clear hb HA2 HBB2
    have HZ3 := Lib.hid HB3.out.size
    by_cases hg : good k
    · have Hg2 := Lib.hid hg
      clear hg
      obtain rfl := ha.is Hg2.out
      clear ha
      by_cases hl : m.length = k.length
      · have hl2 : ((m.length : Int) != (k.length : Int)) = false := by simp; omega
        have Hl := Lib.hid hl
        clear hl
        have hcall := terrainOf_any ao c m w3 Hg.out (Hm.out.below HB3.out) hc hc2
        rw [show Value.agg (tc m.length (pad m.length (hOf (S2 m)))) = terr m from rfl] at hcall
        have Hcall := Lib.hid hcall
        clear hcall
        go_wp2_with fail
        refine Hcall.out.mono ?_
        rintro e w4 ⟨rfl, hb⟩
        have HA4 := Lib.hid (HA3.out.below hb)
        have HBB4 := Lib.hid (HBB3.out.below hb)
        have HB4 := Lib.hid (HB3.out.trans (hb.mono HZ3.out))
        clear hb HA3 HBB3
        have HZ4 := Lib.hid HB4.out.size
        have hcall := terrainOf_any bo d k w4 Hg2.out (Hk.out.below HB4.out) hd hd2
        rw [show Value.agg (tc k.length (pad k.length (hOf (S2 k)))) = terr k from rfl] at hcall
        have Hcall2 := Lib.hid hcall
        clear hcall
        go_wp2_with fail
        refine Hcall2.out.mono ?_
        rintro e w5 ⟨rfl, hb⟩
        have HA5 := Lib.hid (HA4.out.below hb)
        have HBB5 := Lib.hid (HBB4.out.below hb)
        have HB5 := Lib.hid (HB4.out.trans (hb.mono HZ4.out))
        have HBB6 := Lib.hid (HBB5.out.setRow_other (g' := w.heap.size) (by omega) (tc m.length (pad m.length (hOf (S2 m)))))
        clear hb HA4 HBB4
        go_wp2_with (first | (refine wpList_storeG rfl 54 _ _ rfl _ (tc m.length (pad m.length (hOf (S2 m)))) _ rfl rfl HA5.out (Try.size_terr _ _) (tc_same _ _ _ _) (tc_one _ _) ?_) | (refine wpList_storeG rfl 54 _ _ rfl _ (tc k.length (pad k.length (hOf (S2 k)))) _ rfl rfl HBB6.out (Try.size_terr _ _) (tc_same _ _ _ _) (tc_one _ _) ?_))
        have F1 := Lib.hid ((HA5.out.setRow m.length (pad m.length (hOf (S2 m)))).setRow_other (g' := w.heap.size + 1) (by omega) (tc k.length (pad k.length (hOf (S2 k)))))
        have F2 := Lib.hid (HBB6.out.setRow k.length (pad k.length (hOf (S2 k))))
        have F3 := Lib.hid (below_setRowT (below_setRowT HB5.out (Nat.le_refl _) (tc m.length (pad m.length (hOf (S2 m))))) (show w.heap.size ≤ w.heap.size + 1 by omega) (tc k.length (pad k.length (hOf (S2 k)))))
        refine bodyPost_ret (v := .tuple #[terr m, terr k, .bool true]) ?_ rfl ⟨.inl ⟨⟨Hg.out, Hg2.out, Hl.out⟩, rfl⟩, F3.out⟩
        exact results_cell_three (p := 4) (p2 := 5) (q := 6) rfl _ _ w.heap.size (w.heap.size + 1) _ _ rfl (Try.load_terr F1.out) rfl (Try.load_terr F2.out)
      · have hl2 : ((m.length : Int) != (k.length : Int)) = true := by simp; omega
        have Hl := Lib.hid hl
        clear hl
        have HBX := Lib.hid (HBB3.out.setRow_other (g' := w.heap.size) (by omega) (tc 0 z0))
        go_wp2_with (first | (refine wpList_buildT0 rfl 54 rfl _ Try.built_terr0 ?_) | (refine wpList_storeG rfl 54 _ _ rfl w.heap.size (tc 0 z0) _ rfl rfl HA3.out (Try.size_terr _ _) (tc_same _ _ _ _) (tc_one _ _) ?_) | (refine wpList_storeG rfl 54 _ _ rfl (w.heap.size + 1) (tc 0 z0) _ rfl rfl HBX.out (Try.size_terr _ _) (tc_same _ _ _ _) (tc_one _ _) ?_))
        have F1 := Lib.hid ((HA3.out.setRow 0 z0).setRow_other (g' := w.heap.size + 1) (by omega) (tc 0 z0))
        have F2 := Lib.hid (HBX.out.setRow 0 z0)
        have F3 := Lib.hid (below_setRowT (below_setRowT HB3.out (Nat.le_refl _) (tc 0 z0)) (show w.heap.size ≤ w.heap.size + 1 by omega) (tc 0 z0))
        refine bodyPost_ret (v := .tuple #[tz, tz, .bool false]) ?_ rfl ⟨.inr ⟨fun h => Hl.out h.2.2, rfl⟩, F3.out⟩
        exact results_cell_three (p := 4) (p2 := 5) (q := 6) rfl _ _ w.heap.size (w.heap.size + 1) _ _ rfl (Try.load_terr F1.out) rfl (Try.load_terr F2.out)
    · have Hg2 := Lib.hid hg
      clear hg
      obtain rfl := ha.isnt Hg2.out
      clear ha
      have HBX := Lib.hid (HBB3.out.setRow_other (g' := w.heap.size) (by omega) (tc 0 z0))
      go_wp2_with (first | (refine wpList_buildT0 rfl 54 rfl _ Try.built_terr0 ?_) | (refine wpList_storeG rfl 54 _ _ rfl w.heap.size (tc 0 z0) _ rfl rfl HA3.out (Try.size_terr _ _) (tc_same _ _ _ _) (tc_one _ _) ?_) | (refine wpList_storeG rfl 54 _ _ rfl (w.heap.size + 1) (tc 0 z0) _ rfl rfl HBX.out (Try.size_terr _ _) (tc_same _ _ _ _) (tc_one _ _) ?_))
      have F1 := Lib.hid ((HA3.out.setRow 0 z0).setRow_other (g' := w.heap.size + 1) (by omega) (tc 0 z0))
      have F2 := Lib.hid (HBX.out.setRow 0 z0)
      have F3 := Lib.hid (below_setRowT (below_setRowT HB3.out (Nat.le_refl _) (tc 0 z0)) (show w.heap.size ≤ w.heap.size + 1 by omega) (tc 0 z0))
      refine bodyPost_ret (v := .tuple #[tz, tz, .bool false]) ?_ rfl ⟨.inr ⟨fun h => Hg2.out h.2.1, rfl⟩, F3.out⟩
      exact results_cell_three (p := 4) (p2 := 5) (q := 6) rfl _ _ w.heap.size (w.heap.size + 1) _ _ rfl (Try.load_terr F1.out) rfl (Try.load_terr F2.out)
  · have Hg := Lib.hid hg
    clear hg
    obtain rfl := ha.isnt Hg.out
    clear ha
    have HBX := Lib.hid (HBB2.out.setRow_other (g' := w.heap.size) (by omega) (tc 0 z0))
    go_wp2_with (first | (refine wpList_buildT0 rfl 54 rfl _ Try.built_terr0 ?_) | (refine wpList_storeG rfl 54 _ _ rfl w.heap.size (tc 0 z0) _ rfl rfl HA2.out (Try.size_terr _ _) (tc_same _ _ _ _) (tc_one _ _) ?_) | (refine wpList_storeG rfl 54 _ _ rfl (w.heap.size + 1) (tc 0 z0) _ rfl rfl HBX.out (Try.size_terr _ _) (tc_same _ _ _ _) (tc_one _ _) ?_))
    have F1 := Lib.hid ((HA2.out.setRow 0 z0).setRow_other (g' := w.heap.size + 1) (by omega) (tc 0 z0))
    have F2 := Lib.hid (HBX.out.setRow 0 z0)
    have F3 := Lib.hid (below_setRowT (below_setRowT HB2.out (Nat.le_refl _) (tc 0 z0)) (show w.heap.size ≤ w.heap.size + 1 by omega) (tc 0 z0))
    refine bodyPost_ret (v := .tuple #[tz, tz, .bool false]) ?_ rfl ⟨.inr ⟨fun h => Hg.out h.1, rfl⟩, F3.out⟩
    exact results_cell_three (p := 4) (p2 := 5) (q := 6) rfl _ _ w.heap.size (w.heap.size + 1) _ _ rfl (Try.load_terr F1.out) rfl (Try.load_terr F2.out)
end Go.Proofs.Ytogkmfndfedfiaa
