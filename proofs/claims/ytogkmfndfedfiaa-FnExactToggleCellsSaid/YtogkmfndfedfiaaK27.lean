/- Parts of proofs: contracts and plain facts. Conditions: as each says. -/
import Derived.Test.YtogkmfndfedfiaaK26
import Derived.Deep.RegionWith
namespace Go.Proofs.Ytogkmfndfedfiaa
open Go.RowKit

/-- the signs behind toggles -/
theorem signs_tog (m : List (List Int)) (ps : List (Nat × Nat)) (w : World) (hg : good m) (hp : ∀ p ∈ ps, inn m.length p) :
    Calls Try.prog 73 #[.agg (tc m.length (pad m.length (hOf (togL (S2 m) ps))))] w fun e w' => ∃ v, e = .returned v ∧ OwnM w' w.heap.size v (gyM m ps) ∧ Below w.heap.size w w' := by
  have hcr := (good_crn hg).togL ps hp
  have hn := hg.1.2.1
  have h := signs_any m.length (pad m.length (hOf (togL (S2 m) ps))) w hg.1.1 hn (hcr.near hn).fits
  rwa [sgW_unC hcr hn (fun i j hi hj => by unfold pad; rw [if_pos ⟨hi, hj⟩])] at h

set_option maxRecDepth 100000 in
set_option maxHeartbeats 1600000 in
theorem behind_flip (ao : Option Addr) (c : Nat) (m : List (List Int)) (col : Int) (w : World) (hs : Small m) (hwf : WfM m) (hm : MatAt w ao m) (hc : m.length ≤ c) (hc2 : c ≤ 9223372036854775807) :
    Calls Try.prog 77 #[.slice ao m.length c, .iface 72 (.int .i64 col)] w fun e w' => MRes (good m) (gyC m [col]) w' w.heap.size e ∧ Below w.heap.size w w' := by
  have Hs := Lib.hid hs
  have Hm := Lib.hid hm
  have Hwf := Lib.hid hwf
  clear hs hm hwf
  go_enter Try.func77, Try.ntmps77
  go_wp2_with fail
  refine (implIsSign_any ao c m w Hs.out Hwf.out Hm.out).mono ?_
  rintro e w1 ⟨ha, hb⟩
  have Hb := Lib.hid hb
  have HB := Lib.hid hb.size
  have Hm1 := Lib.hid (fun (w' : World) (h : Below w1.heap.size w1 w') => (Hm.out.below hb).below h)
  clear hb
  by_cases hg : good m
  · have Hg := Lib.hid hg
    have hn := hg.1.2.1
    have hn1 := hg.1.1
    have Hcr := Lib.hid (good_crn hg)
    have hsig := fun w' => signs_tog m (colL col (allCells m.length m.length)) w' hg (fun p hp => allCells_inn p (colL_mem hp))
    rw [gyC_one] at hsig
    have Hsig := Lib.hid hsig
    clear hg hsig
    obtain rfl := ha.is Hg.out
    clear ha
    have hna := fun w' => ahead_flip col w'
    have hmt := fun w' => method_flip col w'
    go_upto_region 3 with fail
    go_region_with (first
      | (go_at_call 71; refine (terrainOf_any ao c m _ Hg.out (Hm1.out _ ?_) hc hc2).mono ?_; exact below_drewN (Below.refl _ _) 1; rintro e w2 ⟨rfl, hb2⟩; have Hb2 := Lib.hid ((below_drewN (Below.refl w1.heap.size w1) 1).trans hb2); clear hb2)
      | (go_at_call 161; refine (flipOf_any m.length (S2 m) col _ hn1 hn Hcr.out).mono ?_; rintro e w3 ⟨rfl, hb3⟩; have Hb3 := Lib.hid hb3; clear hb3)
      | (go_at_call 73; refine (Hsig.out _).mono ?_; rintro e w4 ⟨v, rfl, hv, hb4⟩; have Hv := Lib.hid hv; have Hb4 := Lib.hid hb4; clear hv hb4))
    all_goals
      have Hf2 := Lib.hid (Hb.out.trans (Hb2.out.mono HB.out))
      have Hf3 := Lib.hid (Hf2.out.trans (Hb3.out.mono Hf2.out.size))
      have Hf4 := Lib.hid (Hf3.out.trans (Hb4.out.mono Hf3.out.size))
      go_wp2
      go_ret2
      exact ⟨MRes.yes Hg.out (Hv.out.base Hf3.out.size), Hf4.out⟩
  · have Hg := Lib.hid hg
    clear hg
    obtain rfl := ha.isnt Hg.out
    clear ha
    go_wp2
    go_ret2
    exact ⟨MRes.no Hg.out, Hb.out⟩


/-- a series of flips, applied to a terrain -/
theorem series_flips (n : Nat) (c : Nat → Nat → Int) (cols : List Int) (ao : Option Addr) (cp : Nat) (w : World) (hn1 : 1 ≤ n) (hn : n ≤ 6) (hc : Crn n c) (hk2 : cols.length ≤ 4096) (hs : StepsAt w ao (cols.map fv)) :
    Calls Try.prog 163 #[.slice ao cols.length cp, .agg (tc n (pad n (hOf c)))] w fun e w' => e = .returned (.agg (tc n (pad n (hOf (togL c (colsL n cols)))))) ∧ Below w.heap.size w w' := by
  have h := seriesFlips n c (cols.map fun col => (.int .i64 col, colL col (allCells n n))) ao cols.length cp w hn hc (by simp) hk2
    (fun u hu p hp => by obtain ⟨col, _, rfl⟩ := List.mem_map.1 hu; exact allCells_inn p (colL_mem hp))
    (by rw [List.map_map]; exact hs)
    (fun u hu w' => by obtain ⟨col, _, rfl⟩ := List.mem_map.1 hu; exact method_flip col w')
    (fun u hu c' hc' w' _ => by obtain ⟨col, _, rfl⟩ := List.mem_map.1 hu; exact flipOf_any n c' col w' hn1 hn hc')
  rw [List.flatMap_map] at h
  exact h

set_option maxRecDepth 100000 in
set_option maxHeartbeats 1600000 in
theorem behind_flips (ao : Option Addr) (c : Nat) (m : List (List Int)) (so : Option Addr) (sc : Nat) (cols : List Int) (w : World) (hs : Small m) (hwf : WfM m) (hm : MatAt w ao m) (hc : m.length ≤ c) (hc2 : c ≤ 9223372036854775807) (hk2 : cols.length ≤ 4096) (hst : StepsAt w so (cols.map fv)) :
    Calls Try.prog 77 #[.slice ao m.length c, .iface 78 (.slice so cols.length sc)] w fun e w' => MRes (good m) (gyC m cols) w' w.heap.size e ∧ Below w.heap.size w w' := by
  have Hs := Lib.hid hs
  have Hm := Lib.hid hm
  have Hwf := Lib.hid hwf
  have Hst := Lib.hid hst
  clear hs hm hwf hst
  go_enter Try.func77, Try.ntmps77
  go_wp2_with fail
  refine (implIsSign_any ao c m w Hs.out Hwf.out Hm.out).mono ?_
  rintro e w1 ⟨ha, hb⟩
  have Hb := Lib.hid hb
  have HB := Lib.hid hb.size
  have Hm1 := Lib.hid (fun (w' : World) (h : Below w1.heap.size w1 w') => (Hm.out.below hb).below h)
  have Hst1 := Lib.hid (fun (w' : World) (h : Below w1.heap.size w1 w') => (Hst.out.below hb).below h)
  clear hb
  by_cases hg : good m
  · have Hg := Lib.hid hg
    have hn := hg.1.2.1
    have hn1 := hg.1.1
    have Hcr := Lib.hid (good_crn hg)
    have hsig : ∀ w', Calls Try.prog 73 #[.agg (tc m.length (pad m.length (hOf (togL (S2 m) (colsL m.length cols)))))] w' fun e w2 => ∃ v, e = .returned v ∧ OwnM w2 w'.heap.size v (gyC m cols) ∧ Below w'.heap.size w' w2 := fun w' => signs_tog m (colsL m.length cols) w' hg colsL_inn
    have Hsig := Lib.hid hsig
    clear hg hsig
    obtain rfl := ha.is Hg.out
    clear ha
    have hna := fun w' => ahead_series so cols.length sc w'
    have hmt := fun w' => method_series so cols.length sc w'
    go_upto_region 3 with fail
    go_region_with (first
      | (go_at_call 71; refine (terrainOf_any ao c m _ Hg.out (Hm1.out _ ?_) hc hc2).mono ?_; exact below_drewN (Below.refl _ _) 1; rintro e w2 ⟨rfl, hb2⟩; have Hb2 := Lib.hid ((below_drewN (Below.refl w1.heap.size w1) 1).trans hb2); clear hb2)
      | (go_at_call 163; refine (series_flips m.length (S2 m) cols so sc _ hn1 hn Hcr.out hk2 (Hst1.out _ Hb2.out)).mono ?_; rintro e w3 ⟨rfl, hb3⟩; have Hb3 := Lib.hid hb3; clear hb3)
      | (go_at_call 73; refine (Hsig.out _).mono ?_; rintro e w4 ⟨v, rfl, hv, hb4⟩; have Hv := Lib.hid hv; have Hb4 := Lib.hid hb4; clear hv hb4))
    all_goals
      have Hf2 := Lib.hid (Hb.out.trans (Hb2.out.mono HB.out))
      have Hf3 := Lib.hid (Hf2.out.trans (Hb3.out.mono Hf2.out.size))
      have Hf4 := Lib.hid (Hf3.out.trans (Hb4.out.mono Hf3.out.size))
      go_wp2
      go_ret2
      exact ⟨MRes.yes Hg.out (Hv.out.base Hf3.out.size), Hf4.out⟩
  · have Hg := Lib.hid hg
    clear hg
    obtain rfl := ha.isnt Hg.out
    clear ha
    go_wp2
    go_ret2
    exact ⟨MRes.no Hg.out, Hb.out⟩
end Go.Proofs.Ytogkmfndfedfiaa

