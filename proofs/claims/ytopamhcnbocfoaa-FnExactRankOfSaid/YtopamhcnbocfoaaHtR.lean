/- Contracts of both sides: the rank of a matrix. Condition: the numbers fit an int. -/
import Derived.Test.YtopamhcnbocfoaaHtG
namespace Go.Proofs.Ytopamhcnbocfoaa
open Go.RowKit

def rankM (m : List (List Int)) : Int := distC m.length (S2 m) (S2 (idm m.length))

set_option maxRecDepth 100000 in
set_option maxHeartbeats 1600000 in
theorem specRankOf_any (ao : Option Addr) (c : Nat) (m : List (List Int)) (w : World) (hs : Small m) (hm : MatAt w ao m) :
    Calls Try.prog 40 #[.slice ao m.length c] w fun e w' => IRes (good m) (rankM m) e ∧ Below w.heap.size w w' := by
  have Hs := Lib.hid hs
  have Hm := Lib.hid hm
  clear hs hm
  go_enter Try.func40, Try.ntmps40
  go_wp2_with fail
  refine (sgGood_any ao c m w Hs.out Hm.out).mono ?_
  rintro e w1 ⟨ha, hb⟩
  have Hb := Lib.hid hb
  have HB := Lib.hid hb.size
  clear hb
  by_cases hg : good m
  · have Hg := Lib.hid hg
    have hn := hg.1.2.1
    have hn1 := hg.1.1
    clear hg
    obtain rfl := ha.is Hg.out
    clear ha
    go_wp2_with fail
    refine (heOf_any ao c m w1 Hg.out (Hm.out.below Hb.out)).mono ?_
    rintro e w2 ⟨v, rfl, hv, hb2⟩
    obtain ⟨a1, c1, rfl, _, _, hm1⟩ := hv.read
    rw [ht_len]
    have HM1 := Lib.hid hm1
    have Hb2 := Lib.hid (Hb.out.trans (hb2.mono HB.out))
    have HB2 := Lib.hid Hb2.out.size
    clear hv hb2 hm1
    go_wp2_with fail
    refine (heLeast_any m.length w2 hn1 hn).mono ?_
    rintro e w3 ⟨v, rfl, hv, hb3⟩
    obtain ⟨a2, c2, rfl, _, _, hm2⟩ := hv.read
    have hcall := heOf_any a2 c2 (idm m.length) w3 (idm_good hn1 hn) hm2
    have Hcall := Lib.hid hcall
    have HM3 := Lib.hid (HM1.out.below hb3)
    have Hb3 := Lib.hid (Hb2.out.trans (hb3.mono HB2.out))
    have HB3 := Lib.hid Hb3.out.size
    clear hv hb3 hm2 hcall HM1
    go_wp2_with fail
    refine Hcall.out.mono ?_
    rintro e w4 ⟨v, rfl, hv, hb4⟩
    obtain ⟨a3, c3, rfl, _, _, hm3⟩ := hv.read
    rw [ht_len2 (m := m) (by rw [idm_len])]
    have Hb4 := Lib.hid (Hb3.out.trans (hb4.mono HB3.out))
    have hcall := heApart_any (m.length + 1) a1 a3 c1 c3 (ht m) (ht (idm m.length)) w4 (by omega) (ht_tab Hg.out) (ht_tab2 (idm_good hn1 hn) (by rw [idm_len])) (HM3.out.below hb4) hm3
    rw [show (sumF (fun i => sumF (fun j => apartF (ht m) (ht (idm m.length)) i j) (m.length + 1)) (m.length + 1)) / 2 = rankM m from by
      unfold rankM distC ht
      rw [idm_len]] at hcall
    obtain ⟨z, hz⟩ : ∃ z, z = rankM m := ⟨_, rfl⟩
    rw [← hz] at hcall
    have Hcall2 := Lib.hid hcall
    have Hz := Lib.hid hz
    clear hcall hz hv hb4 hm3
    go_wp2_with fail
    refine Hcall2.out.mono ?_
    rintro e w5 ⟨rfl, rfl⟩
    go_wp2
    go_ret2
    exact ⟨by rw [← Hz.out]; exact IRes.yes Hg.out, Hb4.out⟩
  · have Hg := Lib.hid hg
    clear hg
    obtain rfl := ha.isnt Hg.out
    clear ha
    go_wp2
    go_ret2
    exact ⟨IRes.no Hg.out, Hb.out⟩

set_option maxRecDepth 100000 in
set_option maxHeartbeats 1600000 in
theorem implRankOf_any (ao : Option Addr) (c : Nat) (m : List (List Int)) (w : World) (hs : Small m) (hwf : WfM m) (hm : MatAt w ao m) (hc : m.length ≤ c) (hc2 : c ≤ 9223372036854775807) :
    Calls Try.prog 41 #[.slice ao m.length c] w fun e w' => IRes (good m) (rankM m) e ∧ Below w.heap.size w w' := by
  have Hs := Lib.hid hs
  have Hm := Lib.hid hm
  have Hwf := Lib.hid hwf
  clear hs hm hwf
  go_enter Try.func41, Try.ntmps41
  go_wp2_with fail
  refine (implIsSign_any ao c m w Hs.out Hwf.out Hm.out).mono ?_
  rintro e w1 ⟨ha, hb⟩
  have Hb := Lib.hid hb
  have HB := Lib.hid hb.size
  clear hb
  by_cases hg : good m
  · have Hg := Lib.hid hg
    have hn := hg.1.2.1
    have hn1 := hg.1.1
    clear hg
    obtain rfl := ha.is Hg.out
    clear ha
    go_wp2_with fail
    refine (implLeast_any m.length w1 hn1 hn).mono ?_
    rintro e w2 ⟨v, rfl, hv, hb2⟩
    obtain ⟨a2, c2, rfl, hca, hcb, hm2⟩ := hv.read
    have hcall := terrainOf_any a2 c2 (idm m.length) w2 (idm_good hn1 hn) hm2 hca hcb
    have Hcall := Lib.hid hcall
    have Hb2 := Lib.hid (Hb.out.trans (hb2.mono HB.out))
    have HB2 := Lib.hid Hb2.out.size
    clear hv hb2 hm2 hcall hca hcb
    go_wp2_with fail
    refine Hcall.out.mono ?_
    rintro e w3 ⟨rfl, hb3⟩
    rw [idm_len]
    have Hb3 := Lib.hid (Hb2.out.trans (hb3.mono HB2.out))
    have HB3 := Lib.hid Hb3.out.size
    clear hb3
    go_wp2_with fail
    refine (terrainOf_any ao c m w3 Hg.out (Hm.out.below Hb3.out) hc hc2).mono ?_
    rintro e w4 ⟨rfl, hb4⟩
    have Hb4 := Lib.hid (Hb3.out.trans (hb4.mono HB3.out))
    have HB4 := Lib.hid Hb4.out.size
    have hcall := distance_any m.length m.length (pad m.length (hOf (S2 (idm m.length)))) (pad m.length (hOf (S2 m))) w4 (by have := (good_crn (idm_good hn1 hn)).near (by rw [idm_len]; exact hn); rw [idm_len] at this; exact this) ((good_crn Hg.out).near hn)
    rw [show (sumF (fun i => sumF (fun j => dF (pad m.length (hOf (S2 (idm m.length)))) (pad m.length (hOf (S2 m))) i j) 7) 7) / 2 = rankM m from by
      rw [dF_dist hn, distC_comm]
      rfl] at hcall
    obtain ⟨z, hz⟩ : ∃ z, z = rankM m := ⟨_, rfl⟩
    rw [← hz] at hcall
    have Hcall2 := Lib.hid hcall
    have Hz := Lib.hid hz
    clear hcall hz hb4
    go_wp2_with fail
    refine Hcall2.out.mono ?_
    rintro e w5 ⟨rfl, hb5⟩
    have Hb5 := Lib.hid (Hb4.out.trans (hb5.mono HB4.out))
    clear hb5
    go_wp2
    go_ret2
    exact ⟨by rw [← Hz.out]; exact IRes.yes Hg.out, Hb5.out⟩
  · have Hg := Lib.hid hg
    clear hg
    obtain rfl := ha.isnt Hg.out
    clear ha
    go_wp2
    go_ret2
    exact ⟨IRes.no Hg.out, Hb.out⟩
end Go.Proofs.Ytopamhcnbocfoaa
