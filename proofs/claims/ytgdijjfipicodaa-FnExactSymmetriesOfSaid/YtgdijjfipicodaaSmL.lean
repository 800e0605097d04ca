/- Contracts: which symmetries a matrix has, by the model and by the program. Condition: the numbers fit an int. -/
import Derived.Test.YtgdijjfipicodaaSmS
import Derived.Test.YtgdijjfipicodaaSmI
namespace Go.Proofs.Ytgdijjfipicodaa
open Go.RowKit

set_option maxRecDepth 100000 in
set_option maxHeartbeats 800000 in
theorem specSymmetriesOf_any (ao : Option Addr) (c : Nat) (m : List (List Int)) (w : World) (hs : Small m) (hm : MatAt w ao m) :
    Calls Try.prog 11 #[.slice ao m.length c] w fun e w' => LRes (good m) (smLk m 8) w' w.heap.size e ∧ Below w.heap.size w w' := by
  have Hm := Lib.hid hm
  have CG := Lib.hid (sgGood_any ao c m w hs hm)
  have CO := Lib.hid (fun w' (h : good m) (h2 : MatAt w' ao m) => smOwn_any ao c m w' h.1 h2)
  clear hm hs
  go_enter Try.func11, Try.ntmps11
  go_wp2_with fail
  refine CG.out.mono ?_
  rintro e w1 ⟨ha, hb⟩
  have Hb := Lib.hid hb
  have hB := hb.size
  clear hb
  by_cases hg : good m
  · obtain rfl := ha.is hg
    have Hg := Lib.hid hg
    have CO2 := Lib.hid (CO.out w1 hg (Hm.out.below Hb.out))
    clear ha hg CG CO
    go_wp2_with fail
    refine CO2.out.mono ?_
    rintro e w2 ⟨v, rfl, hv, hb2⟩
    have Hv := Lib.hid (hv.base hB)
    have HB2 := Lib.hid (Hb.out.trans (hb2.mono hB))
    clear hv hb2
    go_wp2
    go_ret2
    exact ⟨LRes.yes Hg.out Hv.out, HB2.out⟩
  · obtain rfl := ha.isnt hg
    have Hg := Lib.hid hg
    clear ha hg
    go_wp2
    go_ret2
    exact ⟨LRes.no Hg.out, Hb.out⟩

set_option maxRecDepth 100000 in
set_option maxHeartbeats 800000 in
theorem implSymmetriesOf_any (ao : Option Addr) (c : Nat) (m : List (List Int)) (w : World) (hs : Small m) (hwf : WfM m) (hm : MatAt w ao m) :
    Calls Try.prog 13 #[.slice ao m.length c] w fun e w' => LRes (good m) (smLk m 8) w' w.heap.size e ∧ Below w.heap.size w w' := by
  have Hm := Lib.hid hm
  have CG := Lib.hid (implIsSign_any ao c m w hs hwf hm)
  have CO := Lib.hid (fun w' (h : good m) (h2 : MatAt w' ao m) => symmetriesOf_any ao c m w' h.1 h2)
  clear hm hs hwf
  go_enter Try.func13, Try.ntmps13
  go_wp2_with fail
  refine CG.out.mono ?_
  rintro e w1 ⟨ha, hb⟩
  have Hb := Lib.hid hb
  have hB := hb.size
  clear hb
  by_cases hg : good m
  · obtain rfl := ha.is hg
    have Hg := Lib.hid hg
    have CO2 := Lib.hid (CO.out w1 hg (Hm.out.below Hb.out))
    clear ha hg CG CO
    go_wp2_with fail
    refine CO2.out.mono ?_
    rintro e w2 ⟨v, rfl, hv, hb2⟩
    have Hv := Lib.hid (hv.base hB)
    have HB2 := Lib.hid (Hb.out.trans (hb2.mono hB))
    clear hv hb2
    go_wp2
    go_ret2
    exact ⟨LRes.yes Hg.out Hv.out, HB2.out⟩
  · obtain rfl := ha.isnt hg
    have Hg := Lib.hid hg
    clear ha hg
    go_wp2
    go_ret2
    exact ⟨LRes.no Hg.out, Hb.out⟩
end Go.Proofs.Ytgdijjfipicodaa
