/- Contracts of both sides: the cells that can be flipped; whether just one can be flipped down. Condition: small tables. -/
import Derived.Test.YtopamhcnbocfoaaFlE
import Derived.Test.YtopamhcnbocfoaaFlT
import Derived.Test.YtopamhcnbocfoaaHtG
import Derived.Test.YtopamhcnbocfoaaScal
namespace Go.Proofs.Ytopamhcnbocfoaa
open Go.RowKit

/-- the cells where a flip adds 2 v -/
def flipsM (m : List (List Int)) (v : Int) : List (Nat × Nat) := flipsL (pad m.length (hOf (S2 m))) v (allCells m.length m.length)
theorem flipsM_ht {m : List (List Int)} (v : Int) : flipsL (fun a b => gi (gr (ht m) a) b) v (allCells m.length m.length) = flipsM m v := by
  refine flipsL_congr fun c hc => ?_
  have h := mem_allCells hc
  have key : ∀ i j, i ≤ m.length → j ≤ m.length → gi (gr (ht m) i) j = pad m.length (hOf (S2 m)) i j := fun i j hi hj => by
    unfold pad
    rw [if_pos ⟨hi, hj⟩]
    exact gi_htT hi hj
  exact way_congr (key _ _ (by omega) (by omega)) (key _ _ (by omega) (by omega)) (key _ _ (by omega) (by omega)) (key _ _ (by omega) (by omega)) (key _ _ (by omega) (by omega))
theorem flipsM_few {m : List (List Int)} (v : Int) (hn : m.length ≤ 6) : (flipsM m v).length ≤ 36 := Nat.le_trans (flipsL_len _ _ _) (allCells_all hn)
theorem flipsM_small {m : List (List Int)} (v : Int) (hn : m.length ≤ 6) : Small (cellM (flipsM m v)) := by
  refine ⟨by rw [cellM_len]; have := flipsM_few v hn; omega, fun i hi => ?_⟩
  rw [cellM_len] at hi
  rw [gr_cellM hi]
  simp

set_option maxRecDepth 100000 in
set_option maxHeartbeats 1600000 in
theorem specFlipsOf_any (ao : Option Addr) (c : Nat) (m : List (List Int)) (up : Bool) (w : World) (hs : Small m) (hm : MatAt w ao m) :
    Calls Try.prog 38 #[.slice ao m.length c, .bool up] w fun e w' => MRes (good m) (cellM (flipsM m (if up then 1 else -1))) w' w.heap.size e ∧ Below w.heap.size w w' := by
  have Hs := Lib.hid hs
  have Hm := Lib.hid hm
  clear hs hm
  cases up
  all_goals
    go_enter Try.func38, Try.ntmps38
    go_wp2_with fail
    refine (sgGood_any ao c m w Hs.out Hm.out).mono ?_
    rintro e w1 ⟨ha, hb⟩
    have Hb := Lib.hid hb
    have HB := Lib.hid hb.size
    clear hb
    by_cases hg : good m
    · have Hg := Lib.hid hg
      have hn := hg.1.2.1
      have hn1 := hg.1.1
      clear hg
      obtain rfl := ha.is Hg.out
      clear ha
      go_wp2_with fail
      refine (heOf_any ao c m w1 Hg.out (Hm.out.below Hb.out)).mono ?_
      rintro e w2 ⟨v, rfl, hv, hb2⟩
      obtain ⟨a1, c1, rfl, _, _, hm1⟩ := hv.read
      rw [ht_len]
      have hcall := fun v => heFlips_any (m.length + 1) m.length a1 c1 (ht m) v w2 rfl hn1 hn (ht_tab Hg.out) hm1
      simp only [flipsM_ht] at hcall
      have Hcall := Lib.hid hcall
      have Hb2 := Lib.hid (Hb.out.trans (hb2.mono HB.out))
      have HB2 := Lib.hid Hb2.out.size
      clear hv hb2 hm1 hcall
      go_wp2_with fail
      refine (Hcall.out _).mono ?_
      rintro e w3 ⟨u, rfl, hu, hb3⟩
      have Hu := Lib.hid (hu.base HB2.out)
      have Hb3 := Lib.hid (Hb2.out.trans (hb3.mono HB2.out))
      clear hu hb3
      go_wp2
      go_ret2
      exact ⟨MRes.yes Hg.out Hu.out, Hb3.out⟩
    · have Hg := Lib.hid hg
      clear hg
      obtain rfl := ha.isnt Hg.out
      clear ha
      go_wp2
      go_ret2
      exact ⟨MRes.no Hg.out, Hb.out⟩

set_option maxRecDepth 100000 in
set_option maxHeartbeats 1600000 in
theorem specIsJoinPart_any (ao : Option Addr) (c : Nat) (m : List (List Int)) (w : World) (hs : Small m) (hm : MatAt w ao m) :
    Calls Try.prog 44 #[.slice ao m.length c] w fun e w' => BRes (good m) ((flipsM m (-1)).length = 1) e ∧ Below w.heap.size w w' := by
  have Hs := Lib.hid hs
  have Hm := Lib.hid hm
  clear hs hm
  go_enter Try.func44, Try.ntmps44
  go_wp2_with fail
  refine (sgGood_any ao c m w Hs.out Hm.out).mono ?_
  rintro e w1 ⟨ha, hb⟩
  have Hb := Lib.hid hb
  have HB := Lib.hid hb.size
  clear hb
  by_cases hg : good m
  · have Hg := Lib.hid hg
    have hn := hg.1.2.1
    have hn1 := hg.1.1
    clear hg
    obtain rfl := ha.is Hg.out
    clear ha
    go_wp2_with fail
    refine (heOf_any ao c m w1 Hg.out (Hm.out.below Hb.out)).mono ?_
    rintro e w2 ⟨v, rfl, hv, hb2⟩
    obtain ⟨a1, c1, rfl, _, _, hm1⟩ := hv.read
    rw [ht_len]
    have hcall := heFlips_any (m.length + 1) m.length a1 c1 (ht m) (-1) w2 rfl hn1 hn (ht_tab Hg.out) hm1
    simp only [flipsM_ht] at hcall
    have Hcall := Lib.hid hcall
    have Hb2 := Lib.hid (Hb.out.trans (hb2.mono HB.out))
    have HB2 := Lib.hid Hb2.out.size
    clear hv hb2 hm1 hcall
    go_wp2_with fail
    refine Hcall.out.mono ?_
    rintro e w3 ⟨u, rfl, hu, hb3⟩
    obtain ⟨a2, c2, rfl, _, _, _⟩ := hu.read
    rw [cellM_len]
    have Hb3 := Lib.hid (Hb2.out.trans (hb3.mono HB2.out))
    obtain ⟨k, hk⟩ : ∃ k, k = (flipsM m (-1)).length := ⟨_, rfl⟩
    rw [← hk]
    have Hk := Lib.hid hk
    clear hu hb3 hk
    by_cases h1 : k = 1
    all_goals
      have Hk1 := Lib.hid h1
      first
        | (have hb : ((k : Int) == 1) = true := by simp; omega)
        | (have hb : ((k : Int) == 1) = false := by simp; omega)
      clear h1
      go_wp2
      go_ret2
      exact ⟨⟨_, true, rfl, .inl ⟨Hg.out, rfl, by rw [← Hk.out]; have := Hk1.out; simp [this]⟩⟩, Hb3.out⟩
  · have Hg := Lib.hid hg
    clear hg
    obtain rfl := ha.isnt Hg.out
    clear ha
    go_wp2
    go_ret2
    exact ⟨⟨_, _, rfl, .inr ⟨Hg.out, rfl, rfl⟩⟩, Hb.out⟩

set_option maxRecDepth 100000 in
set_option maxHeartbeats 1600000 in
theorem implFlipsOf_any (ao : Option Addr) (c : Nat) (m : List (List Int)) (up : Bool) (w : World) (hs : Small m) (hwf : WfM m) (hm : MatAt w ao m) (hc : m.length ≤ c) (hc2 : c ≤ 9223372036854775807) :
    Calls Try.prog 39 #[.slice ao m.length c, .bool up] w fun e w' => MRes (good m) (cellM (flipsM m (if up then 1 else -1))) w' w.heap.size e ∧ Below w.heap.size w w' := by
  have Hs := Lib.hid hs
  have Hm := Lib.hid hm
  have Hwf := Lib.hid hwf
  clear hs hm hwf
  cases up
  · go_enter Try.func39, Try.ntmps39
    go_wp2_with fail
    refine (implIsSign_any ao c m w Hs.out Hwf.out Hm.out).mono ?_
    rintro e w1 ⟨ha, hb⟩
    have Hb := Lib.hid hb
    have HB := Lib.hid hb.size
    clear hb
    by_cases hg : good m
    · have Hg := Lib.hid hg
      have hn := hg.1.2.1
      have hn1 := hg.1.1
      clear hg
      obtain rfl := ha.is Hg.out
      clear ha
      go_wp2_with fail
      refine (terrainOf_any ao c m w1 Hg.out (Hm.out.below Hb.out) hc hc2).mono ?_
      rintro e w2 ⟨rfl, hb2⟩
      have Hb2 := Lib.hid (Hb.out.trans (hb2.mono HB.out))
      have HB2 := Lib.hid Hb2.out.size
      have hcall := flips_any m.length (pad m.length (hOf (S2 m))) (-1) (-2) w2 hn1 hn ((good_crn Hg.out).near hn) (by omega) (by omega) (by omega)
      rw [show flipsL (pad m.length (hOf (S2 m))) (-1) (allCells m.length m.length) = flipsM m (-1) from rfl] at hcall
      have Hcall := Lib.hid hcall
      clear hb2 hcall
      go_wp2_with fail
      refine Hcall.out.mono ?_
      rintro e w3 ⟨u, rfl, hu, hb3⟩
      obtain ⟨a2, c2, rfl, _, _, hcells⟩ := hu.read
      have Hb3 := Lib.hid (Hb2.out.trans (hb3.mono HB2.out))
      have HB3 := Lib.hid Hb3.out.size
      have hcall2 := cellLists_any a2 c2 (flipsM m (-1)) w3 (by have := flipsM_few (m := m) (-1) hn; omega) hcells
      have Hcall2 := Lib.hid hcall2
      clear hu hb3 hcells hcall2
      go_wp2_with fail
      refine Hcall2.out.mono ?_
      rintro e w4 ⟨u, rfl, hu, hb4⟩
      have Hu := Lib.hid (hu.base HB3.out)
      have Hb4 := Lib.hid (Hb3.out.trans (hb4.mono HB3.out))
      clear hu hb4
      go_wp2
      go_ret2
      exact ⟨MRes.yes Hg.out Hu.out, Hb4.out⟩
    · have Hg := Lib.hid hg
      clear hg
      obtain rfl := ha.isnt Hg.out
      clear ha
      go_wp2
      go_ret2
      exact ⟨MRes.no Hg.out, Hb.out⟩
  · go_enter Try.func39, Try.ntmps39
    go_wp2_with fail
    refine (implIsSign_any ao c m w Hs.out Hwf.out Hm.out).mono ?_
    rintro e w1 ⟨ha, hb⟩
    have Hb := Lib.hid hb
    have HB := Lib.hid hb.size
    clear hb
    by_cases hg : good m
    · have Hg := Lib.hid hg
      have hn := hg.1.2.1
      have hn1 := hg.1.1
      clear hg
      obtain rfl := ha.is Hg.out
      clear ha
      go_wp2_with fail
      refine (terrainOf_any ao c m w1 Hg.out (Hm.out.below Hb.out) hc hc2).mono ?_
      rintro e w2 ⟨rfl, hb2⟩
      have Hb2 := Lib.hid (Hb.out.trans (hb2.mono HB.out))
      have HB2 := Lib.hid Hb2.out.size
      have hcall := flips_any m.length (pad m.length (hOf (S2 m))) (1) (2) w2 hn1 hn ((good_crn Hg.out).near hn) (by omega) (by omega) (by omega)
      rw [show flipsL (pad m.length (hOf (S2 m))) (1) (allCells m.length m.length) = flipsM m (1) from rfl] at hcall
      have Hcall := Lib.hid hcall
      clear hb2 hcall
      go_wp2_with fail
      refine Hcall.out.mono ?_
      rintro e w3 ⟨u, rfl, hu, hb3⟩
      obtain ⟨a2, c2, rfl, _, _, hcells⟩ := hu.read
      have Hb3 := Lib.hid (Hb2.out.trans (hb3.mono HB2.out))
      have HB3 := Lib.hid Hb3.out.size
      have hcall2 := cellLists_any a2 c2 (flipsM m (1)) w3 (by have := flipsM_few (m := m) (1) hn; omega) hcells
      have Hcall2 := Lib.hid hcall2
      clear hu hb3 hcells hcall2
      go_wp2_with fail
      refine Hcall2.out.mono ?_
      rintro e w4 ⟨u, rfl, hu, hb4⟩
      have Hu := Lib.hid (hu.base HB3.out)
      have Hb4 := Lib.hid (Hb3.out.trans (hb4.mono HB3.out))
      clear hu hb4
      go_wp2
      go_ret2
      exact ⟨MRes.yes Hg.out Hu.out, Hb4.out⟩
    · have Hg := Lib.hid hg
      clear hg
      obtain rfl := ha.isnt Hg.out
      clear ha
      go_wp2
      go_ret2
      exact ⟨MRes.no Hg.out, Hb.out⟩

set_option maxRecDepth 100000 in
set_option maxHeartbeats 1600000 in
theorem implIsJoinPart_any (ao : Option Addr) (c : Nat) (m : List (List Int)) (w : World) (hs : Small m) (hwf : WfM m) (hm : MatAt w ao m) (hc : m.length ≤ c) (hc2 : c ≤ 9223372036854775807) :
    Calls Try.prog 45 #[.slice ao m.length c] w fun e w' => BRes (good m) ((flipsM m (-1)).length = 1) e ∧ Below w.heap.size w w' := by
  have Hs := Lib.hid hs
  have Hm := Lib.hid hm
  have Hwf := Lib.hid hwf
  clear hs hm hwf
  go_enter Try.func45, Try.ntmps45
  go_wp2_with fail
  refine (implIsSign_any ao c m w Hs.out Hwf.out Hm.out).mono ?_
  rintro e w1 ⟨ha, hb⟩
  have Hb := Lib.hid hb
  have HB := Lib.hid hb.size
  clear hb
  by_cases hg : good m
  · have Hg := Lib.hid hg
    have hn := hg.1.2.1
    have hn1 := hg.1.1
    clear hg
    obtain rfl := ha.is Hg.out
    clear ha
    go_wp2_with fail
    refine (terrainOf_any ao c m w1 Hg.out (Hm.out.below Hb.out) hc hc2).mono ?_
    rintro e w2 ⟨rfl, hb2⟩
    have Hb2 := Lib.hid (Hb.out.trans (hb2.mono HB.out))
    have HB2 := Lib.hid Hb2.out.size
    have hcall := flips_any m.length (pad m.length (hOf (S2 m))) (-1) (-2) w2 hn1 hn ((good_crn Hg.out).near hn) (by omega) (by omega) (by omega)
    rw [show flipsL (pad m.length (hOf (S2 m))) (-1) (allCells m.length m.length) = flipsM m (-1) from rfl] at hcall
    have Hcall := Lib.hid hcall
    clear hb2 hcall
    go_wp2_with fail
    refine Hcall.out.mono ?_
    rintro e w3 ⟨u, rfl, hu, hb3⟩
    obtain ⟨a2, c2, rfl, _, _, hcells⟩ := hu.read
    have Hb3 := Lib.hid (Hb2.out.trans (hb3.mono HB2.out))
    have HB3 := Lib.hid Hb3.out.size
    obtain ⟨k, hk⟩ : ∃ k, k = (flipsM m (-1)).length := ⟨_, rfl⟩
    rw [← hk]
    have Hk := Lib.hid hk
    clear hu hb3 hk hcells
    by_cases h1 : k = 1
    all_goals
      have Hk1 := Lib.hid h1
      first
        | (have hb : ((k : Int) == 1) = true := by simp; omega)
        | (have hb : ((k : Int) == 1) = false := by simp; omega)
      clear h1
      go_wp2
      go_ret2
      exact ⟨⟨_, true, rfl, .inl ⟨Hg.out, rfl, by rw [← Hk.out]; have := Hk1.out; simp [this]⟩⟩, Hb3.out⟩
  · have Hg := Lib.hid hg
    clear hg
    obtain rfl := ha.isnt Hg.out
    clear ha
    go_wp2
    go_ret2
    exact ⟨⟨_, _, rfl, .inr ⟨Hg.out, rfl, rfl⟩⟩, Hb.out⟩
end Go.Proofs.Ytopamhcnbocfoaa
