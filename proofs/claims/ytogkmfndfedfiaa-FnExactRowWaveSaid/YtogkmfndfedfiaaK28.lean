/- Parts of proofs: contracts and plain facts. Conditions: as each says. -/
import Derived.Test.YtogkmfndfedfiaaK27
namespace Go.Proofs.Ytogkmfndfedfiaa
open Go.RowKit

theorem isColour_any (col : Int) (w : World) : Calls Try.prog 76 #[.int .i64 col] w fun e w' => Ans (0 ≤ col ∧ col ≤ 1) e ∧ w' = w := by
  by_cases h0 : col = 0
  · subst h0
    go_enter Try.func76, Try.ntmps76
    go_wp2
    go_ret
    exact ⟨Ans.yes (by omega), rfl⟩
  · by_cases h1 : col = 1
    · subst h1
      go_enter Try.func76, Try.ntmps76
      go_wp2
      go_ret
      exact ⟨Ans.yes (by omega), rfl⟩
    · have e0 : (col == 0) = false := by simpa using h0
      have e1 : (col == 1) = false := by simpa using h1
      have hn : ¬ (0 ≤ col ∧ col ≤ 1) := by omega
      have Hn := Lib.hid hn
      clear h0 h1 hn
      go_enter Try.func76, Try.ntmps76
      go_wp2
      go_ret
      exact ⟨Ans.no Hn.out, rfl⟩

set_option maxRecDepth 100000 in
set_option maxHeartbeats 1600000 in
theorem implFlipColour_any (ao : Option Addr) (c : Nat) (m : List (List Int)) (col : Int) (w : World) (hs : Small m) (hwf : WfM m) (hm : MatAt w ao m) (hc : m.length ≤ c) (hc2 : c ≤ 9223372036854775807) (hcol : -9223372036854775808 ≤ col ∧ col ≤ 9223372036854775807) :
    Calls Try.prog 29 #[.slice ao m.length c, .int .i64 col] w fun e w' => MRes (fcOk m col) (gyC m [col]) w' w.heap.size e ∧ Below w.heap.size w w' := by
  have Hcall := Lib.hid (behind_flip ao c m col w hs hwf hm hc hc2)
  clear hs hwf hm hcol
  go_enter Try.func29, Try.ntmps29
  go_wp2_with fail
  refine (isColour_any col w).mono ?_
  rintro e w1 ⟨ha, rfl⟩
  by_cases h : 0 ≤ col ∧ col ≤ 1
  · obtain rfl := ha.is h
    have H := Lib.hid h
    clear ha h
    go_wp2_with fail
    refine Hcall.out.mono ?_
    rintro e w2 ⟨⟨v, b, r, rfl, hv, hr⟩, hb2⟩
    have Hv := Lib.hid hv
    have Hr := Lib.hid hr
    have Hb2 := Lib.hid hb2
    clear hv hr hb2
    go_wp2
    go_ret2
    exact ⟨⟨v, b, r, rfl, Hv.out, by
      rcases Hr.out with ⟨h1, h2, h3⟩ | ⟨h1, h2, h3⟩
      · exact .inl ⟨⟨h1, H.out⟩, h2, h3⟩
      · exact .inr ⟨fun h => h1 h.1, h2, h3⟩⟩, Hb2.out⟩
  · obtain rfl := ha.isnt h
    have H := Lib.hid h
    clear ha h
    go_wp2
    go_ret2
    exact ⟨MRes.no (fun h => H.out h.2), Below.refl _ _⟩

set_option maxRecDepth 100000 in
set_option maxHeartbeats 1600000 in
theorem implGyrateSigns_any (ao : Option Addr) (c : Nat) (m : List (List Int)) (w : World) (hs : Small m) (hwf : WfM m) (hm : MatAt w ao m) (hc : m.length ≤ c) (hc2 : c ≤ 9223372036854775807) :
    Calls Try.prog 31 #[.slice ao m.length c] w fun e w' => MRes (good m) (gyC m [0, 1]) w' w.heap.size e ∧ Below w.heap.size w w' := by
  have Hs := Lib.hid hs
  have Hwf := Lib.hid hwf
  have Hm := Lib.hid hm
  clear hs hwf hm
  go_enter Try.func31, Try.ntmps31
  go_wp2_with fail
  refine (gyration_any w).mono ?_
  rintro e w1 ⟨v, rfl, ⟨so, sc, rfl, hst, _⟩, hb1⟩
  have Hcall := Lib.hid (behind_flips ao c m so sc [0, 1] w1 Hs.out Hwf.out (Hm.out.below hb1) hc hc2 (by simp) hst)
  have Hb1 := Lib.hid hb1
  clear hb1 hst
  go_wp2_with fail
  refine Hcall.out.mono ?_
  rintro e w2 ⟨⟨v, b, r, rfl, hv, hr⟩, hb2⟩
  have Hv := Lib.hid (hv.base Hb1.out.size)
  have Hr := Lib.hid hr
  have Hb2 := Lib.hid (Hb1.out.trans (hb2.mono Hb1.out.size))
  clear hv hr hb2
  go_wp2
  go_ret2
  exact ⟨⟨v, b, r, rfl, Hv.out, Hr.out⟩, Hb2.out⟩

set_option maxRecDepth 100000 in
set_option maxHeartbeats 1600000 in
theorem implGyrateBack_any (ao : Option Addr) (c : Nat) (m : List (List Int)) (w : World) (hs : Small m) (hwf : WfM m) (hm : MatAt w ao m) (hc : m.length ≤ c) (hc2 : c ≤ 9223372036854775807) :
    Calls Try.prog 33 #[.slice ao m.length c] w fun e w' => MRes (good m) (gyC m [1, 0]) w' w.heap.size e ∧ Below w.heap.size w w' := by
  have Hs := Lib.hid hs
  have Hwf := Lib.hid hwf
  have Hm := Lib.hid hm
  clear hs hwf hm
  go_enter Try.func33, Try.ntmps33
  go_wp2_with fail
  refine (gyration_any w).mono ?_
  rintro e w1 ⟨v, rfl, ⟨so, sc, rfl, hst, _⟩, hb1⟩
  have Hst := Lib.hid hst
  have Hb1 := Lib.hid hb1
  clear hb1 hst
  go_wp2_with fail
  refine (backwards_flips [0, 1] so 2 sc w1 rfl (by omega) Hst.out).mono ?_
  rintro e w2 ⟨v, rfl, ⟨so2, sc2, rfl, hst, _⟩, hb2⟩
  have Hb2 := Lib.hid (Hb1.out.trans (hb2.mono Hb1.out.size))
  have Hcall := Lib.hid (behind_flips ao c m so2 sc2 [1, 0] w2 Hs.out Hwf.out (Hm.out.below Hb2.out) hc hc2 (by simp) hst)
  clear hb2 hst
  go_wp2_with fail
  refine Hcall.out.mono ?_
  rintro e w3 ⟨⟨v, b, r, rfl, hv, hr⟩, hb3⟩
  have Hv := Lib.hid (hv.base Hb2.out.size)
  have Hr := Lib.hid hr
  have Hb3 := Lib.hid (Hb2.out.trans (hb3.mono Hb2.out.size))
  clear hv hr hb3
  go_wp2
  go_ret2
  exact ⟨⟨v, b, r, rfl, Hv.out, Hr.out⟩, Hb3.out⟩
end Go.Proofs.Ytogkmfndfedfiaa

