/- Contracts: the set of a row, and all columns. Condition: the row's numbers are in 0..15. -/
import Derived.Test.YtifnhlnbofkloaaDoorFromTM
import Derived.Laws.BitsAllLaws
namespace Go.Proofs.YtifnhlnbofkloaaDoor
open Go.RowKit

theorem take_succ_gi {xs : List Int} {k : Nat} (h : k < xs.length) : xs.take (k + 1) = xs.take k ++ [gi xs k] := by
  rw [gi_lt h, List.take_succ_eq_append_getElem h]

theorem shl_one {x : Int} (h0 : 0 ≤ x) (h1 : x ≤ 15) : IntKind.u64.wrap (2 ^ x.toNat) = ((2 ^ x.toNat : Nat) : Int) := by
  rw [IntKind.wrap_u64]
  have : 2 ^ x.toNat ≤ 2 ^ 15 := Nat.pow_le_pow_right (by omega) (by omega)
  rw [show ((2 : Int) ^ x.toNat) = ((2 ^ x.toNat : Nat) : Int) by simp]
  generalize 2 ^ x.toNat = q at this
  omega

theorem allColumns_any (n : Nat) (w : World) (hn : n ≤ 15) :
    Calls Tryd.prog 106 #[.int .i64 (n : Int)] w fun e w' => e = .returned (.int .u64 ((2 ^ n - 1 : Nat) : Int)) ∧ w = w' := by
  have e1 := shl_one (x := (n : Int)) (by omega) (by omega)
  rw [Int.toNat_natCast] at e1
  have E : IntKind.u64.wrap (IntKind.u64.wrap (2 ^ n) - 1) = ((2 ^ n - 1 : Nat) : Int) := by
    have h2 : 2 ^ n ≤ 2 ^ 15 := Nat.pow_le_pow_right (by omega) (by omega)
    have h3 : 0 < 2 ^ n := Nat.two_pow_pos n
    rw [e1, IntKind.wrap_u64, Int.emod_eq_of_lt (by omega) (by omega)]
    omega
  have E2 := Lib.hid E
  clear e1 E
  go_enter Tryd.func106, Tryd.ntmps106
  go_wp2
  go_ret
  exact ⟨by rw [← E2.out]; rfl, rfl⟩
end Go.Proofs.YtifnhlnbofkloaaDoor
