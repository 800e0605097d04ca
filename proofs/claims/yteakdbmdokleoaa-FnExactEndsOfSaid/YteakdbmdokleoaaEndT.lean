/- The ends as lists: both sides of EndsOf. Condition: the number fits an int. -/
import Derived.Test.YteakdbmdokleoaaEndI
import Derived.Test.YteakdbmdokleoaaEndS
namespace Go.Proofs.Yteakdbmdokleoaa
open Go.RowKit

theorem endsM_small {n : Int} (h : in6 n) : Small (endsM n.toNat) := by
  have h1 := h.1
  have h2 := h.2
  refine ⟨by rw [endsM_len]; omega, fun i hi => ?_⟩
  rw [endsM_len] at hi
  have e : gr (endsM n.toNat) i = endRow ((endsL n.toNat)[i]'(by rw [endsL_len]; exact hi)) := by
    rw [gr_lt (by rw [endsM_len]; exact hi)]
    simp [endsM]
  rw [e]
  simp [endRow]

set_option maxRecDepth 100000 in
set_option maxHeartbeats 800000 in
theorem specEndsOf_any (n : Int) (w : World) (_ : -9223372036854775808 ≤ n ∧ n ≤ 9223372036854775807) :
    Calls Try.prog 38 #[.int .i64 n] w fun e w' => MRes (in6 n) (endsM n.toNat) w' w.heap.size e ∧ Below w.heap.size w w' := by
  by_cases hg : in6 n
  · have h1 := hg.1
    have h6 := hg.2
    obtain ⟨m, rfl⟩ : ∃ m : Nat, n = m := ⟨n.toNat, by omega⟩
    have Hy := Lib.hid hg
    rw [Int.toNat_natCast]
    clear hg
    go_enter Try.func38, Try.ntmps38
    go_wp2_with fail
    refine (heSide6_any _ w).mono ?_
    rintro e w2 ⟨ha, rfl⟩
    obtain rfl := ha.is Hy.out
    clear ha
    go_wp2_with fail
    refine (loEnds_any m w (by omega) (by omega)).mono ?_
    rintro e w2 ⟨v, rfl, hv, hb⟩
    have Hv := Lib.hid hv
    have Hb := Lib.hid hb
    clear hv hb
    go_wp2
    go_ret2
    exact ⟨MRes.yes Hy.out Hv.out, Hb.out⟩
  · have Hg := Lib.hid hg
    clear hg
    go_enter Try.func38, Try.ntmps38
    go_wp2_with fail
    refine (heSide6_any _ w).mono ?_
    rintro e w2 ⟨ha, rfl⟩
    obtain rfl := ha.isnt Hg.out
    clear ha
    go_wp2
    go_ret2
    exact ⟨MRes.no Hg.out, Below.refl _ _⟩
end Go.Proofs.Yteakdbmdokleoaa
