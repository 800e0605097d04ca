/- Contracts of both sides: heights, below, meets, joins, ranks, distances. Condition: the numbers fit an int. -/
import Derived.Test.YtopamhcnbocfoaaHtF
namespace Go.Proofs.Ytopamhcnbocfoaa
open Go.RowKit

def belowP (m k : List (List Int)) : Prop := ∀ i j, i < m.length + 1 → j < m.length + 1 → gi (gr (ht m) i) j ≤ gi (gr (ht k) i) j
def distM (m k : List (List Int)) : Int := distC m.length (S2 m) (S2 k)

set_option maxRecDepth 100000 in
set_option maxHeartbeats 800000 in
theorem specHeightsOf_any (ao : Option Addr) (c : Nat) (m : List (List Int)) (w : World) (hs : Small m) (hm : MatAt w ao m) :
    Calls Try.prog 18 #[.slice ao m.length c] w fun e w' => MRes (good m) (ht m) w' w.heap.size e ∧ Below w.heap.size w w' := by
  have Hs := Lib.hid hs
  have Hm := Lib.hid hm
  clear hs hm
  go_enter Try.func18, Try.ntmps18
  go_wp2_with fail
  refine (sgGood_any ao c m w Hs.out Hm.out).mono ?_
  rintro e w1 ⟨ha, hb⟩
  have Hb := Lib.hid hb
  have HB := Lib.hid hb.size
  clear hb
  by_cases hg : good m
  · have Hg := Lib.hid hg
    clear hg
    obtain rfl := ha.is Hg.out
    clear ha
    go_wp2_with fail
    refine (heOf_any ao c m w1 Hg.out (Hm.out.below Hb.out)).mono ?_
    rintro e w2 ⟨v, rfl, hv, hb2⟩
    have Hv := Lib.hid (hv.base HB.out)
    have Hb2 := Lib.hid (Hb.out.trans (hb2.mono HB.out))
    clear hv hb2
    go_wp2
    go_ret2
    exact ⟨MRes.yes Hg.out Hv.out, Hb2.out⟩
  · have Hg := Lib.hid hg
    clear hg
    obtain rfl := ha.isnt Hg.out
    clear ha
    go_wp2
    go_ret2
    exact ⟨MRes.no Hg.out, Hb.out⟩

set_option maxRecDepth 100000 in
set_option maxHeartbeats 800000 in
theorem implHeightsOf_any (ao : Option Addr) (c : Nat) (m : List (List Int)) (w : World) (hs : Small m) (hwf : WfM m) (hm : MatAt w ao m) (hc : m.length ≤ c) (hc2 : c ≤ 9223372036854775807) :
    Calls Try.prog 20 #[.slice ao m.length c] w fun e w' => MRes (good m) (ht m) w' w.heap.size e ∧ Below w.heap.size w w' := by
  have Hs := Lib.hid hs
  have Hm := Lib.hid hm
  have Hwf := Lib.hid hwf
  clear hs hm hwf
  go_enter Try.func20, Try.ntmps20
  go_wp2_with fail
  refine (implIsSign_any ao c m w Hs.out Hwf.out Hm.out).mono ?_
  rintro e w1 ⟨ha, hb⟩
  have Hb := Lib.hid hb
  have HB := Lib.hid hb.size
  clear hb
  by_cases hg : good m
  · have Hg := Lib.hid hg
    clear hg
    obtain rfl := ha.is Hg.out
    clear ha
    go_wp2_with fail
    refine (terrainOf_any ao c m w1 Hg.out (Hm.out.below Hb.out) hc hc2).mono ?_
    rintro e w2 ⟨rfl, hb2⟩
    have Hb2 := Lib.hid (Hb.out.trans (hb2.mono HB.out))
    have HB2 := Lib.hid Hb2.out.size
    have hcall := tableOfHeights_any m.length (pad m.length (hOf (S2 m))) w2 Hg.out.1.2.1
    rw [tab_pad] at hcall
    have Hcall := Lib.hid hcall
    clear hb2 hcall
    go_wp2_with fail
    refine Hcall.out.mono ?_
    rintro e w3 ⟨v, rfl, hv, hb3⟩
    have Hv := Lib.hid (hv.base HB2.out)
    have Hb3 := Lib.hid (Hb2.out.trans (hb3.mono HB2.out))
    clear hv hb3
    go_wp2
    go_ret2
    exact ⟨MRes.yes Hg.out Hv.out, Hb3.out⟩
  · have Hg := Lib.hid hg
    clear hg
    obtain rfl := ha.isnt Hg.out
    clear ha
    go_wp2
    go_ret2
    exact ⟨MRes.no Hg.out, Hb.out⟩

set_option maxRecDepth 100000 in
set_option maxHeartbeats 1600000 in
theorem specIsBelow_any (ao : Option Addr) (c : Nat) (m : List (List Int)) (bo : Option Addr) (d : Nat) (k : List (List Int)) (w : World) (hs : Small m) (hm : MatAt w ao m) (hs2 : Small k) (hk : MatAt w bo k) :
    Calls Try.prog 28 #[.slice ao m.length c, .slice bo k.length d] w fun e w' => BRes (pairOk m k) (belowP m k) e ∧ Below w.heap.size w w' := by
  have Hs := Lib.hid hs
  have Hm := Lib.hid hm
  have Hs2 := Lib.hid hs2
  have Hk := Lib.hid hk
  clear hs hm hs2 hk
  go_enter Try.func28, Try.ntmps28
  go_wp2_with fail
  refine (hePair_any ao bo c d m k w Hs.out Hs2.out Hm.out Hk.out).mono ?_
  rintro e w1 ⟨ha, hb⟩
  have Hb := Lib.hid hb
  have HB := Lib.hid hb.size
  clear hb
  by_cases hp : pairOk m k
  · have Hp := Lib.hid hp
    have hn := hp.1.1.2.1
    clear hp
    obtain rfl := ha.is Hp.out
    clear ha
    go_wp2_with fail
    refine (heOf_any ao c m w1 Hp.out.1 (Hm.out.below Hb.out)).mono ?_
    rintro e w2 ⟨v, rfl, hv, hb2⟩
    obtain ⟨a1, c1, rfl, _, _, hm1⟩ := hv.read
    rw [ht_len]
    have HM1 := Lib.hid hm1
    have Hb2 := Lib.hid (Hb.out.trans (hb2.mono HB.out))
    have HB2 := Lib.hid Hb2.out.size
    clear hv hb2 hm1
    go_wp2_with fail
    refine (heOf_any bo d k w2 Hp.out.2.1 (Hk.out.below Hb2.out)).mono ?_
    rintro e w3 ⟨v, rfl, hv, hb3⟩
    obtain ⟨a2, c2, rfl, _, _, hm2⟩ := hv.read
    rw [ht_len2 Hp.out.2.2]
    have HM2 := Lib.hid hm2
    have Hb23 := Lib.hid hb3
    have Hb3 := Lib.hid (Hb2.out.trans (hb3.mono HB2.out))
    have HB3 := Lib.hid Hb3.out.size
    clear hv hb3 hm2
    go_wp2_with fail
    refine (heBelow_any (m.length + 1) a1 a2 c1 c2 (ht m) (ht k) w3 (by omega) (ht_tab Hp.out.1) (ht_tab2 Hp.out.2.1 Hp.out.2.2) (HM1.out.below Hb23.out) HM2.out).mono ?_
    rintro e w4 ⟨⟨b, rfl, hb4⟩, rfl⟩
    have Hb4 := Lib.hid hb4
    clear hb4
    go_wp2
    go_ret2
    exact ⟨⟨b, true, rfl, .inl ⟨Hp.out, rfl, Hb4.out⟩⟩, Hb3.out⟩
  · have Hp := Lib.hid hp
    clear hp
    obtain rfl := ha.isnt Hp.out
    clear ha
    go_wp2
    go_ret2
    exact ⟨⟨false, false, rfl, .inr ⟨Hp.out, rfl, rfl⟩⟩, Hb.out⟩

set_option maxRecDepth 100000 in
set_option maxHeartbeats 1600000 in
theorem implIsBelow_any (ao : Option Addr) (c : Nat) (m : List (List Int)) (bo : Option Addr) (d : Nat) (k : List (List Int)) (w : World) (hs : Small m) (hwf : WfM m) (hm : MatAt w ao m) (hc : m.length ≤ c) (hc2 : c ≤ 9223372036854775807)
    (hs2 : Small k) (hwf2 : WfM k) (hk : MatAt w bo k) (hd : k.length ≤ d) (hd2 : d ≤ 9223372036854775807) :
    Calls Try.prog 29 #[.slice ao m.length c, .slice bo k.length d] w fun e w' => BRes (pairOk m k) (belowP m k) e ∧ Below w.heap.size w w' := by
  have hcall := terrainsOf_any ao bo c d m k w hs hs2 hwf hwf2 hm hk hc hc2 hd hd2
  have Hcall := Lib.hid hcall
  clear hcall hs hm hs2 hk hwf hwf2 hc hc2 hd hd2
  go_enter Try.func29, Try.ntmps29
  go_wp2_with fail
  refine Hcall.out.mono ?_
  rintro e w2 ⟨ht, hb⟩
  have Hb := Lib.hid hb
  have HB := Lib.hid hb.size
  clear hb Hcall
  rcases ht with ⟨hp, rfl⟩ | ⟨hp, rfl⟩
  · have Hp := Lib.hid hp
    have Hn1 := Lib.hid ((good_crn hp.1).near hp.1.1.2.1)
    have Hn2 := Lib.hid ((good_crn hp.2.1).near hp.2.1.1.2.1)
    clear hp
    go_upto_region 2 with (first
      | (refine wpList_allocT rfl 47 rfl _ _ Try.info_terr ?_)
      | (refine wpList_storeG rfl 47 _ _ rfl w2.heap.size (tc m.length (pad m.length (hOf (S2 m)))) _ rfl rfl (two_bot w2 _ 0 z0) (Try.size_terr _ _) (tc_same _ _ _ _) (tc_one _ _) ?_)
      | (refine wpList_storeG rfl 47 _ _ rfl (w2.alloc (.cells (tc 0 z0) 47)).heap.size (tc k.length (pad k.length (hOf (S2 k)))) _ rfl rfl ((TerrAt.new (w2.alloc (.cells (tc 0 z0) 47)) 0 z0).setRow_other (g' := w2.heap.size) (by simp) _) (Try.size_terr _ _) (tc_same _ _ _ _) (tc_one _ _) ?_))
    generalize hW : World.alloc (World.alloc w2 _) _ = w3
    have hb3 : Below w2.heap.size w2 w3 := by rw [← hW]; exact two_below w2 _ _
    have hA3 : TerrAt w3 w2.heap.size 0 z0 := by rw [← hW]; exact two_bot w2 _ _ _
    have hB3 : TerrAt w3 (w2.heap.size + 1) 0 z0 := by rw [← hW]; exact two_top w2 _ _ _
    clear hW
    generalize hW : World.setRow (World.setRow w3 w2.heap.size (tc m.length (pad m.length (hOf (S2 m))))) (w2.heap.size + 1) (tc k.length (pad k.length (hOf (S2 k)))) = w4
    have hT1 : TerrAt w4 w2.heap.size m.length (pad m.length (hOf (S2 m))) := by rw [← hW]; exact (hA3.setRow _ _).setRow_other (by omega) _
    have hT2 : TerrAt w4 (w2.heap.size + 1) k.length (pad k.length (hOf (S2 k))) := by rw [← hW]; exact (hB3.setRow_other (by omega) _).setRow _ _
    have hb4 : Below w.heap.size w w4 := by rw [← hW]; exact below_setRowT (below_setRowT (Hb.out.trans (hb3.mono HB.out)) HB.out _) (show w.heap.size ≤ w2.heap.size + 1 by have := HB.out; omega) _
    clear hW hA3 hB3 hb3
    have HT1 := Lib.hid hT1
    have HT2 := Lib.hid hT2
    have Hb4 := Lib.hid hb4
    have HB4 := Lib.hid hb4.size
    clear hT1 hT2 hb4
    have hcall := isBelow_any m.length k.length (pad m.length (hOf (S2 m))) (pad k.length (hOf (S2 k))) w4 (Hn1.out.fits) (Hn2.out.fits)
    obtain ⟨b, hb⟩ : ∃ b, b = sameH (fun i j => min (pad m.length (hOf (S2 m)) i j) (pad k.length (hOf (S2 k)) i j)) (pad m.length (hOf (S2 m))) := ⟨_, rfl⟩
    rw [← hb] at hcall
    have hiff : b = true ↔ belowP m k := by
      rw [hb, ← Hp.out.2.2, below_same Hp.out.1.1.2.1]
      unfold belowP ht
      rw [← Hp.out.2.2]
    have Hcall := Lib.hid hcall
    have Hiff := Lib.hid hiff
    clear hcall hb hiff
    go_wp2_with (first | (refine wpList_loadG rfl 47 _ rfl w2.heap.size rfl _ _ HT1.out Try.underlying47 rfl (Try.size_terr _ _) ?_) | (refine wpList_loadG rfl 47 _ rfl (w2.heap.size + 1) rfl _ _ HT2.out Try.underlying47 rfl (Try.size_terr _ _) ?_))
    refine Hcall.out.mono ?_
    rintro e w5 ⟨rfl, hb5⟩
    have Hb5 := Lib.hid (Hb4.out.trans (hb5.mono HB4.out))
    clear hb5
    go_wp2
    go_ret2
    exact ⟨⟨b, true, rfl, .inl ⟨Hp.out, rfl, Hiff.out⟩⟩, Hb5.out⟩
  · have Hp := Lib.hid hp
    clear hp
    go_upto_region 2 with (first
      | (refine wpList_allocT rfl 47 rfl _ _ Try.info_terr ?_)
      | (refine wpList_storeG rfl 47 _ _ rfl w2.heap.size (tc 0 z0) _ rfl rfl (two_bot w2 _ 0 z0) (Try.size_terr _ _) (tc_same _ _ _ _) (tc_one _ _) ?_)
      | (refine wpList_storeG rfl 47 _ _ rfl (w2.alloc (.cells (tc 0 z0) 47)).heap.size (tc 0 z0) _ rfl rfl ((TerrAt.new (w2.alloc (.cells (tc 0 z0) 47)) 0 z0).setRow_other (g' := w2.heap.size) (by simp) _) (Try.size_terr _ _) (tc_same _ _ _ _) (tc_one _ _) ?_))
    generalize hW : World.alloc (World.alloc w2 _) _ = w3
    have hb3 : Below w2.heap.size w2 w3 := by rw [← hW]; exact two_below w2 _ _
    have hA3 : TerrAt w3 w2.heap.size 0 z0 := by rw [← hW]; exact two_bot w2 _ _ _
    have hB3 : TerrAt w3 (w2.heap.size + 1) 0 z0 := by rw [← hW]; exact two_top w2 _ _ _
    clear hW
    generalize hW : World.setRow (World.setRow w3 w2.heap.size (tc 0 z0)) (w2.heap.size + 1) (tc 0 z0) = w4
    have hb4 : Below w.heap.size w w4 := by rw [← hW]; exact below_setRowT (below_setRowT (Hb.out.trans (hb3.mono HB.out)) HB.out _) (show w.heap.size ≤ w2.heap.size + 1 by have := HB.out; omega) _
    clear hW hA3 hB3 hb3
    have Hb4 := Lib.hid hb4
    clear hb4
    go_wp2
    go_ret2
    exact ⟨⟨false, false, rfl, .inr ⟨Hp.out, rfl, rfl⟩⟩, Hb4.out⟩

set_option maxRecDepth 100000 in
set_option maxHeartbeats 1600000 in
theorem specFlipDistance_any (ao : Option Addr) (c : Nat) (m : List (List Int)) (bo : Option Addr) (d : Nat) (k : List (List Int)) (w : World) (hs : Small m) (hm : MatAt w ao m) (hs2 : Small k) (hk : MatAt w bo k) :
    Calls Try.prog 42 #[.slice ao m.length c, .slice bo k.length d] w fun e w' => IRes (pairOk m k) (distM m k) e ∧ Below w.heap.size w w' := by
  have Hs := Lib.hid hs
  have Hm := Lib.hid hm
  have Hs2 := Lib.hid hs2
  have Hk := Lib.hid hk
  clear hs hm hs2 hk
  go_enter Try.func42, Try.ntmps42
  go_wp2_with fail
  refine (hePair_any ao bo c d m k w Hs.out Hs2.out Hm.out Hk.out).mono ?_
  rintro e w1 ⟨ha, hb⟩
  have Hb := Lib.hid hb
  have HB := Lib.hid hb.size
  clear hb
  by_cases hp : pairOk m k
  · have Hp := Lib.hid hp
    have hn := hp.1.1.2.1
    clear hp
    obtain rfl := ha.is Hp.out
    clear ha
    go_wp2_with fail
    refine (heOf_any ao c m w1 Hp.out.1 (Hm.out.below Hb.out)).mono ?_
    rintro e w2 ⟨v, rfl, hv, hb2⟩
    obtain ⟨a1, c1, rfl, _, _, hm1⟩ := hv.read
    rw [ht_len]
    have HM1 := Lib.hid hm1
    have Hb2 := Lib.hid (Hb.out.trans (hb2.mono HB.out))
    have HB2 := Lib.hid Hb2.out.size
    clear hv hb2 hm1
    go_wp2_with fail
    refine (heOf_any bo d k w2 Hp.out.2.1 (Hk.out.below Hb2.out)).mono ?_
    rintro e w3 ⟨v, rfl, hv, hb3⟩
    obtain ⟨a2, c2, rfl, _, _, hm2⟩ := hv.read
    rw [ht_len2 Hp.out.2.2]
    have HM2 := Lib.hid hm2
    have Hb23 := Lib.hid hb3
    have Hb3 := Lib.hid (Hb2.out.trans (hb3.mono HB2.out))
    have HB3 := Lib.hid Hb3.out.size
    clear hv hb3 hm2
    have hcall := heApart_any (m.length + 1) a1 a2 c1 c2 (ht m) (ht k) w3 (by omega) (ht_tab Hp.out.1) (ht_tab2 Hp.out.2.1 Hp.out.2.2) (HM1.out.below Hb23.out) HM2.out
    rw [show (sumF (fun i => sumF (fun j => apartF (ht m) (ht k) i j) (m.length + 1)) (m.length + 1)) / 2 = distM m k from by
      unfold distM distC ht
      rw [← Hp.out.2.2]] at hcall
    obtain ⟨z, hz⟩ : ∃ z, z = distM m k := ⟨_, rfl⟩
    rw [← hz] at hcall
    have Hcall := Lib.hid hcall
    have Hz := Lib.hid hz
    clear hcall hz
    go_wp2_with fail
    refine Hcall.out.mono ?_
    rintro e w4 ⟨rfl, rfl⟩
    go_wp2
    go_ret2
    exact ⟨by rw [← Hz.out]; exact IRes.yes Hp.out, Hb3.out⟩
  · have Hp := Lib.hid hp
    clear hp
    obtain rfl := ha.isnt Hp.out
    clear ha
    go_wp2
    go_ret2
    exact ⟨IRes.no Hp.out, Hb.out⟩

set_option maxRecDepth 100000 in
set_option maxHeartbeats 1600000 in
theorem implFlipDistance_any (ao : Option Addr) (c : Nat) (m : List (List Int)) (bo : Option Addr) (d : Nat) (k : List (List Int)) (w : World) (hs : Small m) (hwf : WfM m) (hm : MatAt w ao m) (hc : m.length ≤ c) (hc2 : c ≤ 9223372036854775807)
    (hs2 : Small k) (hwf2 : WfM k) (hk : MatAt w bo k) (hd : k.length ≤ d) (hd2 : d ≤ 9223372036854775807) :
    Calls Try.prog 43 #[.slice ao m.length c, .slice bo k.length d] w fun e w' => IRes (pairOk m k) (distM m k) e ∧ Below w.heap.size w w' := by
  have hcall := terrainsOf_any ao bo c d m k w hs hs2 hwf hwf2 hm hk hc hc2 hd hd2
  have Hcall := Lib.hid hcall
  clear hcall hs hm hs2 hk hwf hwf2 hc hc2 hd hd2
  go_enter Try.func43, Try.ntmps43
  go_wp2_with fail
  refine Hcall.out.mono ?_
  rintro e w2 ⟨ht, hb⟩
  have Hb := Lib.hid hb
  have HB := Lib.hid hb.size
  clear hb Hcall
  rcases ht with ⟨hp, rfl⟩ | ⟨hp, rfl⟩
  · have Hp := Lib.hid hp
    have Hn1 := Lib.hid ((good_crn hp.1).near hp.1.1.2.1)
    have Hn2 := Lib.hid ((good_crn hp.2.1).near hp.2.1.1.2.1)
    clear hp
    go_upto_region 2 with (first
      | (refine wpList_allocT rfl 47 rfl _ _ Try.info_terr ?_)
      | (refine wpList_storeG rfl 47 _ _ rfl w2.heap.size (tc m.length (pad m.length (hOf (S2 m)))) _ rfl rfl (two_bot w2 _ 0 z0) (Try.size_terr _ _) (tc_same _ _ _ _) (tc_one _ _) ?_)
      | (refine wpList_storeG rfl 47 _ _ rfl (w2.alloc (.cells (tc 0 z0) 47)).heap.size (tc k.length (pad k.length (hOf (S2 k)))) _ rfl rfl ((TerrAt.new (w2.alloc (.cells (tc 0 z0) 47)) 0 z0).setRow_other (g' := w2.heap.size) (by simp) _) (Try.size_terr _ _) (tc_same _ _ _ _) (tc_one _ _) ?_))
    generalize hW : World.alloc (World.alloc w2 _) _ = w3
    have hb3 : Below w2.heap.size w2 w3 := by rw [← hW]; exact two_below w2 _ _
    have hA3 : TerrAt w3 w2.heap.size 0 z0 := by rw [← hW]; exact two_bot w2 _ _ _
    have hB3 : TerrAt w3 (w2.heap.size + 1) 0 z0 := by rw [← hW]; exact two_top w2 _ _ _
    clear hW
    generalize hW : World.setRow (World.setRow w3 w2.heap.size (tc m.length (pad m.length (hOf (S2 m))))) (w2.heap.size + 1) (tc k.length (pad k.length (hOf (S2 k)))) = w4
    have hT1 : TerrAt w4 w2.heap.size m.length (pad m.length (hOf (S2 m))) := by rw [← hW]; exact (hA3.setRow _ _).setRow_other (by omega) _
    have hT2 : TerrAt w4 (w2.heap.size + 1) k.length (pad k.length (hOf (S2 k))) := by rw [← hW]; exact (hB3.setRow_other (by omega) _).setRow _ _
    have hb4 : Below w.heap.size w w4 := by rw [← hW]; exact below_setRowT (below_setRowT (Hb.out.trans (hb3.mono HB.out)) HB.out _) (show w.heap.size ≤ w2.heap.size + 1 by have := HB.out; omega) _
    clear hW hA3 hB3 hb3
    have HT1 := Lib.hid hT1
    have HT2 := Lib.hid hT2
    have Hb4 := Lib.hid hb4
    have HB4 := Lib.hid hb4.size
    clear hT1 hT2 hb4
    have hcall := distance_any m.length k.length (pad m.length (hOf (S2 m))) (pad k.length (hOf (S2 k))) w4 Hn1.out Hn2.out
    rw [show (sumF (fun i => sumF (fun j => dF (pad m.length (hOf (S2 m))) (pad k.length (hOf (S2 k))) i j) 7) 7) / 2 = distM m k from by
      rw [← Hp.out.2.2]
      exact dF_dist Hp.out.1.1.2.1] at hcall
    obtain ⟨z, hz⟩ : ∃ z, z = distM m k := ⟨_, rfl⟩
    rw [← hz] at hcall
    have Hcall := Lib.hid hcall
    have Hz := Lib.hid hz
    clear hcall hz
    go_wp2_with (first | (refine wpList_loadG rfl 47 _ rfl w2.heap.size rfl _ _ HT1.out Try.underlying47 rfl (Try.size_terr _ _) ?_) | (refine wpList_loadG rfl 47 _ rfl (w2.heap.size + 1) rfl _ _ HT2.out Try.underlying47 rfl (Try.size_terr _ _) ?_))
    refine Hcall.out.mono ?_
    rintro e w5 ⟨rfl, hb5⟩
    have Hb5 := Lib.hid (Hb4.out.trans (hb5.mono HB4.out))
    clear hb5
    go_wp2
    go_ret2
    exact ⟨by rw [← Hz.out]; exact IRes.yes Hp.out, Hb5.out⟩
  · have Hp := Lib.hid hp
    clear hp
    go_upto_region 2 with (first
      | (refine wpList_allocT rfl 47 rfl _ _ Try.info_terr ?_)
      | (refine wpList_storeG rfl 47 _ _ rfl w2.heap.size (tc 0 z0) _ rfl rfl (two_bot w2 _ 0 z0) (Try.size_terr _ _) (tc_same _ _ _ _) (tc_one _ _) ?_)
      | (refine wpList_storeG rfl 47 _ _ rfl (w2.alloc (.cells (tc 0 z0) 47)).heap.size (tc 0 z0) _ rfl rfl ((TerrAt.new (w2.alloc (.cells (tc 0 z0) 47)) 0 z0).setRow_other (g' := w2.heap.size) (by simp) _) (Try.size_terr _ _) (tc_same _ _ _ _) (tc_one _ _) ?_))
    generalize hW : World.alloc (World.alloc w2 _) _ = w3
    have hb3 : Below w2.heap.size w2 w3 := by rw [← hW]; exact two_below w2 _ _
    have hA3 : TerrAt w3 w2.heap.size 0 z0 := by rw [← hW]; exact two_bot w2 _ _ _
    have hB3 : TerrAt w3 (w2.heap.size + 1) 0 z0 := by rw [← hW]; exact two_top w2 _ _ _
    clear hW
    generalize hW : World.setRow (World.setRow w3 w2.heap.size (tc 0 z0)) (w2.heap.size + 1) (tc 0 z0) = w4
    have hb4 : Below w.heap.size w w4 := by rw [← hW]; exact below_setRowT (below_setRowT (Hb.out.trans (hb3.mono HB.out)) HB.out _) (show w.heap.size ≤ w2.heap.size + 1 by have := HB.out; omega) _
    clear hW hA3 hB3 hb3
    have Hb4 := Lib.hid hb4
    clear hb4
    go_wp2
    go_ret2
    exact ⟨IRes.no Hp.out, Hb4.out⟩

set_option maxRecDepth 100000 in
set_option maxHeartbeats 1600000 in
theorem specMeetOf_any (ao : Option Addr) (c : Nat) (m : List (List Int)) (bo : Option Addr) (d : Nat) (k : List (List Int)) (w : World) (hs : Small m) (hm : MatAt w ao m) (hs2 : Small k) (hk : MatAt w bo k) :
    Calls Try.prog 30 #[.slice ao m.length c, .slice bo k.length d] w fun e w' => MRes (pairOk m k) (unC m.length (maxC (S2 m) (S2 k))) w' w.heap.size e ∧ Below w.heap.size w w' := by
  have Hs := Lib.hid hs
  have Hm := Lib.hid hm
  have Hs2 := Lib.hid hs2
  have Hk := Lib.hid hk
  clear hs hm hs2 hk
  go_enter Try.func30, Try.ntmps30
  go_wp2_with fail
  refine (hePair_any ao bo c d m k w Hs.out Hs2.out Hm.out Hk.out).mono ?_
  rintro e w1 ⟨ha, hb⟩
  have Hb := Lib.hid hb
  have HB := Lib.hid hb.size
  clear hb
  by_cases hp : pairOk m k
  · have Hp := Lib.hid hp
    have hn := hp.1.1.2.1
    clear hp
    obtain rfl := ha.is Hp.out
    clear ha
    go_wp2_with fail
    refine (heOf_any ao c m w1 Hp.out.1 (Hm.out.below Hb.out)).mono ?_
    rintro e w2 ⟨v, rfl, hv, hb2⟩
    obtain ⟨a1, c1, rfl, _, _, hm1⟩ := hv.read
    rw [ht_len]
    have HM1 := Lib.hid hm1
    have Hb2 := Lib.hid (Hb.out.trans (hb2.mono HB.out))
    have HB2 := Lib.hid Hb2.out.size
    clear hv hb2 hm1
    go_wp2_with fail
    refine (heOf_any bo d k w2 Hp.out.2.1 (Hk.out.below Hb2.out)).mono ?_
    rintro e w3 ⟨v, rfl, hv, hb3⟩
    obtain ⟨a2, c2, rfl, _, _, hm2⟩ := hv.read
    rw [ht_len2 Hp.out.2.2]
    have HM2 := Lib.hid hm2
    have Hb23 := Lib.hid hb3
    have Hb3 := Lib.hid (Hb2.out.trans (hb3.mono HB2.out))
    have HB3 := Lib.hid Hb3.out.size
    clear hv hb3 hm2
    have hcall := heMix_true (m.length + 1) a1 a2 c1 c2 (ht m) (ht k) w3 (by omega) (ht_tab Hp.out.1) (ht_tab2 Hp.out.2.1 Hp.out.2.2) (HM1.out.below Hb23.out) HM2.out
    rw [show tab (m.length + 1) (m.length + 1) (mixF true (ht m) (ht k)) = htT m.length (maxC (S2 m) (S2 k)) from by
      unfold ht
      rw [← Hp.out.2.2]
      exact mix_meet] at hcall
    have Hcall := Lib.hid hcall
    clear hcall
    go_wp2_with fail
    refine Hcall.out.mono ?_
    rintro e w4 ⟨v, rfl, hv, hb4⟩
    obtain ⟨a3, c3, rfl, _, _, hm3⟩ := hv.read
    have Hb4 := Lib.hid (Hb3.out.trans (hb4.mono HB3.out))
    have HB4 := Lib.hid Hb4.out.size
    have hcall := heFrom_any a3 c3 m.length (maxC (S2 m) (S2 k)) w4 ((good_crn Hp.out.1).max (by rw [Hp.out.2.2]; exact good_crn Hp.out.2.1)) Hp.out.1.1.1 hn hm3
    rw [htT_len]
    have Hcall2 := Lib.hid hcall
    clear hv hb4 hm3 hcall
    go_wp2_with fail
    refine Hcall2.out.mono ?_
    rintro e w5 ⟨v, rfl, hv, hb5⟩
    have Hv := Lib.hid (hv.base HB4.out)
    have Hb5 := Lib.hid (Hb4.out.trans (hb5.mono HB4.out))
    clear hv hb5
    go_wp2
    go_ret2
    exact ⟨MRes.yes Hp.out Hv.out, Hb5.out⟩
  · have Hp := Lib.hid hp
    clear hp
    obtain rfl := ha.isnt Hp.out
    clear ha
    go_wp2
    go_ret2
    exact ⟨MRes.no Hp.out, Hb.out⟩

set_option maxRecDepth 100000 in
set_option maxHeartbeats 1600000 in
theorem implMeetOf_any (ao : Option Addr) (c : Nat) (m : List (List Int)) (bo : Option Addr) (d : Nat) (k : List (List Int)) (w : World) (hs : Small m) (hwf : WfM m) (hm : MatAt w ao m) (hc : m.length ≤ c) (hc2 : c ≤ 9223372036854775807)
    (hs2 : Small k) (hwf2 : WfM k) (hk : MatAt w bo k) (hd : k.length ≤ d) (hd2 : d ≤ 9223372036854775807) :
    Calls Try.prog 31 #[.slice ao m.length c, .slice bo k.length d] w fun e w' => MRes (pairOk m k) (unC m.length (maxC (S2 m) (S2 k))) w' w.heap.size e ∧ Below w.heap.size w w' := by
  have hcall := terrainsOf_any ao bo c d m k w hs hs2 hwf hwf2 hm hk hc hc2 hd hd2
  have Hcall := Lib.hid hcall
  clear hcall hs hm hs2 hk hwf hwf2 hc hc2 hd hd2
  go_enter Try.func31, Try.ntmps31
  go_wp2_with fail
  refine Hcall.out.mono ?_
  rintro e w2 ⟨ht, hb⟩
  have Hb := Lib.hid hb
  have HB := Lib.hid hb.size
  clear hb Hcall
  rcases ht with ⟨hp, rfl⟩ | ⟨hp, rfl⟩
  · have Hp := Lib.hid hp
    have Hn1 := Lib.hid ((good_crn hp.1).near hp.1.1.2.1)
    have Hn2 := Lib.hid ((good_crn hp.2.1).near hp.2.1.1.2.1)
    clear hp
    go_upto_region 2 with (first
      | (refine wpList_allocT rfl 47 rfl _ _ Try.info_terr ?_)
      | (refine wpList_storeG rfl 47 _ _ rfl w2.heap.size (tc m.length (pad m.length (hOf (S2 m)))) _ rfl rfl (two_bot w2 _ 0 z0) (Try.size_terr _ _) (tc_same _ _ _ _) (tc_one _ _) ?_)
      | (refine wpList_storeG rfl 47 _ _ rfl (w2.alloc (.cells (tc 0 z0) 47)).heap.size (tc k.length (pad k.length (hOf (S2 k)))) _ rfl rfl ((TerrAt.new (w2.alloc (.cells (tc 0 z0) 47)) 0 z0).setRow_other (g' := w2.heap.size) (by simp) _) (Try.size_terr _ _) (tc_same _ _ _ _) (tc_one _ _) ?_))
    generalize hW : World.alloc (World.alloc w2 _) _ = w3
    have hb3 : Below w2.heap.size w2 w3 := by rw [← hW]; exact two_below w2 _ _
    have hA3 : TerrAt w3 w2.heap.size 0 z0 := by rw [← hW]; exact two_bot w2 _ _ _
    have hB3 : TerrAt w3 (w2.heap.size + 1) 0 z0 := by rw [← hW]; exact two_top w2 _ _ _
    clear hW
    generalize hW : World.setRow (World.setRow w3 w2.heap.size (tc m.length (pad m.length (hOf (S2 m))))) (w2.heap.size + 1) (tc k.length (pad k.length (hOf (S2 k)))) = w4
    have hT1 : TerrAt w4 w2.heap.size m.length (pad m.length (hOf (S2 m))) := by rw [← hW]; exact (hA3.setRow _ _).setRow_other (by omega) _
    have hT2 : TerrAt w4 (w2.heap.size + 1) k.length (pad k.length (hOf (S2 k))) := by rw [← hW]; exact (hB3.setRow_other (by omega) _).setRow _ _
    have hb4 : Below w.heap.size w w4 := by rw [← hW]; exact below_setRowT (below_setRowT (Hb.out.trans (hb3.mono HB.out)) HB.out _) (show w.heap.size ≤ w2.heap.size + 1 by have := HB.out; omega) _
    clear hW hA3 hB3 hb3
    have HT1 := Lib.hid hT1
    have HT2 := Lib.hid hT2
    have Hb4 := Lib.hid hb4
    have HB4 := Lib.hid hb4.size
    clear hT1 hT2 hb4
    have hcall := meet_any m.length k.length (pad m.length (hOf (S2 m))) (pad k.length (hOf (S2 k))) w4
    have Hcall := Lib.hid hcall
    clear hcall
    go_wp2_with (first | (refine wpList_loadG rfl 47 _ rfl w2.heap.size rfl _ _ HT1.out Try.underlying47 rfl (Try.size_terr _ _) ?_) | (refine wpList_loadG rfl 47 _ rfl (w2.heap.size + 1) rfl _ _ HT2.out Try.underlying47 rfl (Try.size_terr _ _) ?_))
    refine Hcall.out.mono ?_
    rintro e w5 ⟨rfl, hb5⟩
    have Hb5 := Lib.hid (Hb4.out.trans (hb5.mono HB4.out))
    have HB5 := Lib.hid Hb5.out.size
    have hcall := signs_any m.length (fun i j => min (pad m.length (hOf (S2 m)) i j) (pad k.length (hOf (S2 k)) i j)) w5 Hp.out.1.1.1 Hp.out.1.1.2.1 (fun i j hi hj => by
      have h1 := Hn1.out i j hi hj
      have h2 := Hn2.out i j hi hj
      show _ ≤ min (pad m.length (hOf (S2 m)) i j) (pad k.length (hOf (S2 k)) i j) ∧ min (pad m.length (hOf (S2 m)) i j) (pad k.length (hOf (S2 k)) i j) ≤ _
      omega)
    rw [sgW_unC (c := maxC (S2 m) (S2 k)) ((good_crn Hp.out.1).max (by rw [Hp.out.2.2]; exact good_crn Hp.out.2.1)) Hp.out.1.1.2.1 (fun i j hi hj => by
      show min (pad m.length (hOf (S2 m)) i j) (pad k.length (hOf (S2 k)) i j) = _
      rw [← Hp.out.2.2]
      unfold pad hOf maxC
      rw [if_pos ⟨hi, hj⟩, if_pos ⟨hi, hj⟩]
      omega)] at hcall
    have Hcall2 := Lib.hid hcall
    clear hb5 hcall
    go_wp2_with fail
    refine Hcall2.out.mono ?_
    rintro e w6 ⟨v, rfl, hv, hb6⟩
    have Hv := Lib.hid (hv.base HB5.out)
    have Hb6 := Lib.hid (Hb5.out.trans (hb6.mono HB5.out))
    clear hv hb6
    go_wp2
    go_ret2
    exact ⟨MRes.yes Hp.out Hv.out, Hb6.out⟩
  · have Hp := Lib.hid hp
    clear hp
    go_upto_region 2 with (first
      | (refine wpList_allocT rfl 47 rfl _ _ Try.info_terr ?_)
      | (refine wpList_storeG rfl 47 _ _ rfl w2.heap.size (tc 0 z0) _ rfl rfl (two_bot w2 _ 0 z0) (Try.size_terr _ _) (tc_same _ _ _ _) (tc_one _ _) ?_)
      | (refine wpList_storeG rfl 47 _ _ rfl (w2.alloc (.cells (tc 0 z0) 47)).heap.size (tc 0 z0) _ rfl rfl ((TerrAt.new (w2.alloc (.cells (tc 0 z0) 47)) 0 z0).setRow_other (g' := w2.heap.size) (by simp) _) (Try.size_terr _ _) (tc_same _ _ _ _) (tc_one _ _) ?_))
    generalize hW : World.alloc (World.alloc w2 _) _ = w3
    have hb3 : Below w2.heap.size w2 w3 := by rw [← hW]; exact two_below w2 _ _
    have hA3 : TerrAt w3 w2.heap.size 0 z0 := by rw [← hW]; exact two_bot w2 _ _ _
    have hB3 : TerrAt w3 (w2.heap.size + 1) 0 z0 := by rw [← hW]; exact two_top w2 _ _ _
    clear hW
    generalize hW : World.setRow (World.setRow w3 w2.heap.size (tc 0 z0)) (w2.heap.size + 1) (tc 0 z0) = w4
    have hb4 : Below w.heap.size w w4 := by rw [← hW]; exact below_setRowT (below_setRowT (Hb.out.trans (hb3.mono HB.out)) HB.out _) (show w.heap.size ≤ w2.heap.size + 1 by have := HB.out; omega) _
    clear hW hA3 hB3 hb3
    have Hb4 := Lib.hid hb4
    clear hb4
    go_wp2
    go_ret2
    exact ⟨MRes.no Hp.out, Hb4.out⟩

set_option maxRecDepth 100000 in
set_option maxHeartbeats 1600000 in
theorem specJoinOf_any (ao : Option Addr) (c : Nat) (m : List (List Int)) (bo : Option Addr) (d : Nat) (k : List (List Int)) (w : World) (hs : Small m) (hm : MatAt w ao m) (hs2 : Small k) (hk : MatAt w bo k) :
    Calls Try.prog 32 #[.slice ao m.length c, .slice bo k.length d] w fun e w' => MRes (pairOk m k) (unC m.length (minC2 (S2 m) (S2 k))) w' w.heap.size e ∧ Below w.heap.size w w' := by
  have Hs := Lib.hid hs
  have Hm := Lib.hid hm
  have Hs2 := Lib.hid hs2
  have Hk := Lib.hid hk
  clear hs hm hs2 hk
  go_enter Try.func32, Try.ntmps32
  go_wp2_with fail
  refine (hePair_any ao bo c d m k w Hs.out Hs2.out Hm.out Hk.out).mono ?_
  rintro e w1 ⟨ha, hb⟩
  have Hb := Lib.hid hb
  have HB := Lib.hid hb.size
  clear hb
  by_cases hp : pairOk m k
  · have Hp := Lib.hid hp
    have hn := hp.1.1.2.1
    clear hp
    obtain rfl := ha.is Hp.out
    clear ha
    go_wp2_with fail
    refine (heOf_any ao c m w1 Hp.out.1 (Hm.out.below Hb.out)).mono ?_
    rintro e w2 ⟨v, rfl, hv, hb2⟩
    obtain ⟨a1, c1, rfl, _, _, hm1⟩ := hv.read
    rw [ht_len]
    have HM1 := Lib.hid hm1
    have Hb2 := Lib.hid (Hb.out.trans (hb2.mono HB.out))
    have HB2 := Lib.hid Hb2.out.size
    clear hv hb2 hm1
    go_wp2_with fail
    refine (heOf_any bo d k w2 Hp.out.2.1 (Hk.out.below Hb2.out)).mono ?_
    rintro e w3 ⟨v, rfl, hv, hb3⟩
    obtain ⟨a2, c2, rfl, _, _, hm2⟩ := hv.read
    rw [ht_len2 Hp.out.2.2]
    have HM2 := Lib.hid hm2
    have Hb23 := Lib.hid hb3
    have Hb3 := Lib.hid (Hb2.out.trans (hb3.mono HB2.out))
    have HB3 := Lib.hid Hb3.out.size
    clear hv hb3 hm2
    have hcall := heMix_false (m.length + 1) a1 a2 c1 c2 (ht m) (ht k) w3 (by omega) (ht_tab Hp.out.1) (ht_tab2 Hp.out.2.1 Hp.out.2.2) (HM1.out.below Hb23.out) HM2.out
    rw [show tab (m.length + 1) (m.length + 1) (mixF false (ht m) (ht k)) = htT m.length (minC2 (S2 m) (S2 k)) from by
      unfold ht
      rw [← Hp.out.2.2]
      exact mix_join] at hcall
    have Hcall := Lib.hid hcall
    clear hcall
    go_wp2_with fail
    refine Hcall.out.mono ?_
    rintro e w4 ⟨v, rfl, hv, hb4⟩
    obtain ⟨a3, c3, rfl, _, _, hm3⟩ := hv.read
    have Hb4 := Lib.hid (Hb3.out.trans (hb4.mono HB3.out))
    have HB4 := Lib.hid Hb4.out.size
    have hcall := heFrom_any a3 c3 m.length (minC2 (S2 m) (S2 k)) w4 ((good_crn Hp.out.1).min (by rw [Hp.out.2.2]; exact good_crn Hp.out.2.1)) Hp.out.1.1.1 hn hm3
    rw [htT_len]
    have Hcall2 := Lib.hid hcall
    clear hv hb4 hm3 hcall
    go_wp2_with fail
    refine Hcall2.out.mono ?_
    rintro e w5 ⟨v, rfl, hv, hb5⟩
    have Hv := Lib.hid (hv.base HB4.out)
    have Hb5 := Lib.hid (Hb4.out.trans (hb5.mono HB4.out))
    clear hv hb5
    go_wp2
    go_ret2
    exact ⟨MRes.yes Hp.out Hv.out, Hb5.out⟩
  · have Hp := Lib.hid hp
    clear hp
    obtain rfl := ha.isnt Hp.out
    clear ha
    go_wp2
    go_ret2
    exact ⟨MRes.no Hp.out, Hb.out⟩

set_option maxRecDepth 100000 in
set_option maxHeartbeats 1600000 in
theorem implJoinOf_any (ao : Option Addr) (c : Nat) (m : List (List Int)) (bo : Option Addr) (d : Nat) (k : List (List Int)) (w : World) (hs : Small m) (hwf : WfM m) (hm : MatAt w ao m) (hc : m.length ≤ c) (hc2 : c ≤ 9223372036854775807)
    (hs2 : Small k) (hwf2 : WfM k) (hk : MatAt w bo k) (hd : k.length ≤ d) (hd2 : d ≤ 9223372036854775807) :
    Calls Try.prog 33 #[.slice ao m.length c, .slice bo k.length d] w fun e w' => MRes (pairOk m k) (unC m.length (minC2 (S2 m) (S2 k))) w' w.heap.size e ∧ Below w.heap.size w w' := by
  have hcall := terrainsOf_any ao bo c d m k w hs hs2 hwf hwf2 hm hk hc hc2 hd hd2
  have Hcall := Lib.hid hcall
  clear hcall hs hm hs2 hk hwf hwf2 hc hc2 hd hd2
  go_enter Try.func33, Try.ntmps33
  go_wp2_with fail
  refine Hcall.out.mono ?_
  rintro e w2 ⟨ht, hb⟩
  have Hb := Lib.hid hb
  have HB := Lib.hid hb.size
  clear hb Hcall
  rcases ht with ⟨hp, rfl⟩ | ⟨hp, rfl⟩
  · have Hp := Lib.hid hp
    have Hn1 := Lib.hid ((good_crn hp.1).near hp.1.1.2.1)
    have Hn2 := Lib.hid ((good_crn hp.2.1).near hp.2.1.1.2.1)
    clear hp
    go_upto_region 2 with (first
      | (refine wpList_allocT rfl 47 rfl _ _ Try.info_terr ?_)
      | (refine wpList_storeG rfl 47 _ _ rfl w2.heap.size (tc m.length (pad m.length (hOf (S2 m)))) _ rfl rfl (two_bot w2 _ 0 z0) (Try.size_terr _ _) (tc_same _ _ _ _) (tc_one _ _) ?_)
      | (refine wpList_storeG rfl 47 _ _ rfl (w2.alloc (.cells (tc 0 z0) 47)).heap.size (tc k.length (pad k.length (hOf (S2 k)))) _ rfl rfl ((TerrAt.new (w2.alloc (.cells (tc 0 z0) 47)) 0 z0).setRow_other (g' := w2.heap.size) (by simp) _) (Try.size_terr _ _) (tc_same _ _ _ _) (tc_one _ _) ?_))
    generalize hW : World.alloc (World.alloc w2 _) _ = w3
    have hb3 : Below w2.heap.size w2 w3 := by rw [← hW]; exact two_below w2 _ _
    have hA3 : TerrAt w3 w2.heap.size 0 z0 := by rw [← hW]; exact two_bot w2 _ _ _
    have hB3 : TerrAt w3 (w2.heap.size + 1) 0 z0 := by rw [← hW]; exact two_top w2 _ _ _
    clear hW
    generalize hW : World.setRow (World.setRow w3 w2.heap.size (tc m.length (pad m.length (hOf (S2 m))))) (w2.heap.size + 1) (tc k.length (pad k.length (hOf (S2 k)))) = w4
    have hT1 : TerrAt w4 w2.heap.size m.length (pad m.length (hOf (S2 m))) := by rw [← hW]; exact (hA3.setRow _ _).setRow_other (by omega) _
    have hT2 : TerrAt w4 (w2.heap.size + 1) k.length (pad k.length (hOf (S2 k))) := by rw [← hW]; exact (hB3.setRow_other (by omega) _).setRow _ _
    have hb4 : Below w.heap.size w w4 := by rw [← hW]; exact below_setRowT (below_setRowT (Hb.out.trans (hb3.mono HB.out)) HB.out _) (show w.heap.size ≤ w2.heap.size + 1 by have := HB.out; omega) _
    clear hW hA3 hB3 hb3
    have HT1 := Lib.hid hT1
    have HT2 := Lib.hid hT2
    have Hb4 := Lib.hid hb4
    have HB4 := Lib.hid hb4.size
    clear hT1 hT2 hb4
    have hcall := join_any m.length k.length (pad m.length (hOf (S2 m))) (pad k.length (hOf (S2 k))) w4
    have Hcall := Lib.hid hcall
    clear hcall
    go_wp2_with (first | (refine wpList_loadG rfl 47 _ rfl w2.heap.size rfl _ _ HT1.out Try.underlying47 rfl (Try.size_terr _ _) ?_) | (refine wpList_loadG rfl 47 _ rfl (w2.heap.size + 1) rfl _ _ HT2.out Try.underlying47 rfl (Try.size_terr _ _) ?_))
    refine Hcall.out.mono ?_
    rintro e w5 ⟨rfl, hb5⟩
    have Hb5 := Lib.hid (Hb4.out.trans (hb5.mono HB4.out))
    have HB5 := Lib.hid Hb5.out.size
    have hcall := signs_any m.length (fun i j => max (pad m.length (hOf (S2 m)) i j) (pad k.length (hOf (S2 k)) i j)) w5 Hp.out.1.1.1 Hp.out.1.1.2.1 (fun i j hi hj => by
      have h1 := Hn1.out i j hi hj
      have h2 := Hn2.out i j hi hj
      show _ ≤ max (pad m.length (hOf (S2 m)) i j) (pad k.length (hOf (S2 k)) i j) ∧ max (pad m.length (hOf (S2 m)) i j) (pad k.length (hOf (S2 k)) i j) ≤ _
      omega)
    rw [sgW_unC (c := minC2 (S2 m) (S2 k)) ((good_crn Hp.out.1).min (by rw [Hp.out.2.2]; exact good_crn Hp.out.2.1)) Hp.out.1.1.2.1 (fun i j hi hj => by
      show max (pad m.length (hOf (S2 m)) i j) (pad k.length (hOf (S2 k)) i j) = _
      rw [← Hp.out.2.2]
      unfold pad hOf minC2
      rw [if_pos ⟨hi, hj⟩, if_pos ⟨hi, hj⟩]
      omega)] at hcall
    have Hcall2 := Lib.hid hcall
    clear hb5 hcall
    go_wp2_with fail
    refine Hcall2.out.mono ?_
    rintro e w6 ⟨v, rfl, hv, hb6⟩
    have Hv := Lib.hid (hv.base HB5.out)
    have Hb6 := Lib.hid (Hb5.out.trans (hb6.mono HB5.out))
    clear hv hb6
    go_wp2
    go_ret2
    exact ⟨MRes.yes Hp.out Hv.out, Hb6.out⟩
  · have Hp := Lib.hid hp
    clear hp
    go_upto_region 2 with (first
      | (refine wpList_allocT rfl 47 rfl _ _ Try.info_terr ?_)
      | (refine wpList_storeG rfl 47 _ _ rfl w2.heap.size (tc 0 z0) _ rfl rfl (two_bot w2 _ 0 z0) (Try.size_terr _ _) (tc_same _ _ _ _) (tc_one _ _) ?_)
      | (refine wpList_storeG rfl 47 _ _ rfl (w2.alloc (.cells (tc 0 z0) 47)).heap.size (tc 0 z0) _ rfl rfl ((TerrAt.new (w2.alloc (.cells (tc 0 z0) 47)) 0 z0).setRow_other (g' := w2.heap.size) (by simp) _) (Try.size_terr _ _) (tc_same _ _ _ _) (tc_one _ _) ?_))
    generalize hW : World.alloc (World.alloc w2 _) _ = w3
    have hb3 : Below w2.heap.size w2 w3 := by rw [← hW]; exact two_below w2 _ _
    have hA3 : TerrAt w3 w2.heap.size 0 z0 := by rw [← hW]; exact two_bot w2 _ _ _
    have hB3 : TerrAt w3 (w2.heap.size + 1) 0 z0 := by rw [← hW]; exact two_top w2 _ _ _
    clear hW
    generalize hW : World.setRow (World.setRow w3 w2.heap.size (tc 0 z0)) (w2.heap.size + 1) (tc 0 z0) = w4
    have hb4 : Below w.heap.size w w4 := by rw [← hW]; exact below_setRowT (below_setRowT (Hb.out.trans (hb3.mono HB.out)) HB.out _) (show w.heap.size ≤ w2.heap.size + 1 by have := HB.out; omega) _
    clear hW hA3 hB3 hb3
    have Hb4 := Lib.hid hb4
    clear hb4
    go_wp2
    go_ret2
    exact ⟨MRes.no Hp.out, Hb4.out⟩
end Go.Proofs.Ytopamhcnbocfoaa
