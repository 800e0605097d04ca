/- Contracts: what limits allow, and the limits of the row below, by the program. Conditions: lengths up to 2^20. -/
import Derived.Test.YtgdijjfipicodaaDpM
import Derived.Test.YtgdijjfipicodaaPtn
import Derived.Test.YtgdijjfipicodaaDiff
import Derived.Test.YtgdijjfipicodaaOwn
namespace Go.Proofs.Ytgdijjfipicodaa
open Go.RowKit

set_option maxRecDepth 100000 in
set_option maxHeartbeats 800000 in
theorem allIn_any (lo hi : Int) (ao : Option Addr) (c : Nat) (xs : List Int) (w : World) (hn : xs.length ≤ 1048576) (hx : IntsAt w ao xs) :
    Calls Try.prog 44 #[.int .i64 lo, .int .i64 hi, .slice ao xs.length c] w fun e w' => Ans (allIn xs lo hi) e ∧ w = w' := by
  have hmx : xs.length ≤ 9223372036854775807 := by omega
  have Hx := Lib.hid hx
  clear hx
  go_enter Try.func44, Try.ntmps44
  go_wp2
  go_loop [11] (fun i => ∃ k : Nat, k ≤ xs.length ∧ i = .int .i64 k ∧ ∀ j, j < k → lo ≤ gi xs j ∧ gi xs j ≤ hi) (fun i => xs.length - (intOf i).toNat)
  case atStart => exact ⟨0, Nat.zero_le _, rfl, fun j hj => absurd hj (by omega)⟩
  case round =>
    obtain ⟨k, hk, rfl, hd⟩ := hrel
    have Hd := Lib.hid hd
    clear hd
    by_cases hlt : k < xs.length
    · obtain ⟨b1, o1, rfl, hc1⟩ := Hx.out k hlt
      by_cases h1 : gi xs k < lo
      · have d1 : decide (gi xs k < lo) = true := by simp [h1]
        have Hn := Lib.hid (show ¬ allIn xs lo hi from fun h => by have := (h k hlt).1; omega)
        clear h1
        go_wp2
        go_ret
        exact ⟨Ans.no Hn.out, rfl⟩
      · have d1 : decide (gi xs k < lo) = false := by simp; omega
        by_cases h2 : hi < gi xs k
        · have d2 : decide (hi < gi xs k) = true := by simp [h2]
          have Hn := Lib.hid (show ¬ allIn xs lo hi from fun h => by have := (h k hlt).2; omega)
          clear h1 h2
          go_wp2
          go_ret
          exact ⟨Ans.no Hn.out, rfl⟩
        · have d2 : decide (hi < gi xs k) = false := by simp; omega
          have Hin := Lib.hid (show lo ≤ gi xs k ∧ gi xs k ≤ hi by omega)
          clear h1 h2
          go_wp2
          go_round
          case rel =>
            refine ⟨k + 1, by omega, by go_num, fun j hj => ?_⟩
            by_cases e : j = k
            · subst e; exact Hin.out
            · exact Hd.out j (by omega)
          case measure => simp [intOf]; omega
    · obtain rfl : k = xs.length := by omega
      go_wp2
      go_ret
      exact ⟨Ans.yes Hd.out, rfl⟩

end Go.Proofs.Ytgdijjfipicodaa
