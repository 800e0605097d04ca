/- Contracts: the set of a row, and all columns. Condition: the row's numbers are in 0..15. -/
import Derived.Test.YtopamhcnbocfoaaFromTM
import Derived.Laws.BitsAllLaws
namespace Go.Proofs.Ytopamhcnbocfoaa
open Go.RowKit

theorem take_succ_gi {xs : List Int} {k : Nat} (h : k < xs.length) : xs.take (k + 1) = xs.take k ++ [gi xs k] := by
  rw [gi_lt h, List.take_succ_eq_append_getElem h]

theorem shl_one {x : Int} (h0 : 0 ≤ x) (h1 : x ≤ 15) : IntKind.u64.wrap (2 ^ x.toNat) = ((2 ^ x.toNat : Nat) : Int) := by
  rw [IntKind.wrap_u64]
  have : 2 ^ x.toNat ≤ 2 ^ 15 := Nat.pow_le_pow_right (by omega) (by omega)
  rw [show ((2 : Int) ^ x.toNat) = ((2 ^ x.toNat : Nat) : Int) by simp]
  generalize 2 ^ x.toNat = q at this
  omega

set_option maxRecDepth 100000 in
set_option maxHeartbeats 400000 in
theorem setOf_any (ao : Option Addr) (c : Nat) (xs : List Int) (w : World) (hn : xs.length ≤ 1048576) (hr : ∀ x ∈ xs, 0 ≤ x ∧ x ≤ 15) (hx : IntsAt w ao xs) :
    Calls Try.prog 85 #[.slice ao xs.length c] w fun e w' => e = .returned (.int .u64 (mask xs : Nat)) ∧ w = w' := by
  have hmx : xs.length ≤ 9223372036854775807 := by omega
  have Hx := Lib.hid hx
  have Hr := Lib.hid hr
  clear hx hr
  go_enter Try.func85, Try.ntmps85
  go_wp2
  go_loop [3, 8] (fun s i => ∃ k : Nat, k ≤ xs.length ∧ i = .int .i64 k ∧ s = .int .u64 (mask (xs.take k) : Nat)) (fun _ i => xs.length - (intOf i).toNat)
  case atStart => exact ⟨0, Nat.zero_le _, rfl, rfl⟩
  case round =>
    obtain ⟨k, hk, rfl, rfl⟩ := hrel
    by_cases hlt : k < xs.length
    · obtain ⟨b, o, rfl, hc⟩ := Hx.out k hlt
      have hb := Hr.out _ (gi_mem hlt)
      have h1 : mask (xs.take k) < 65536 := mask_lt (n := 16) (fun y hy => by have := Hr.out y (List.mem_of_mem_take hy); omega)
      have h2 : 2 ^ (gi xs k).toNat ≤ 2 ^ 15 := Nat.pow_le_pow_right (by omega) (by omega)
      have e1 := shl_one hb.1 hb.2
      have e2 : bits .or .u64 ((mask (xs.take k) : Nat) : Int) (IntKind.u64.wrap (2 ^ (gi xs k).toNat)) = ((mask (xs.take (k + 1)) : Nat) : Int) := by
        rw [e1, u64_or_nat _ _ (by omega) (by omega), take_succ_gi hlt, mask_snoc]
      have hb0 := hb.1
      obtain ⟨x, hxv⟩ : ∃ x, x = gi xs k := ⟨_, rfl⟩
      have hb15 := hb.2
      rw [← hxv] at hc e2 hb0 hb15
      obtain ⟨s, hs⟩ : ∃ s : Int, s = ((mask (xs.take k) : Nat) : Int) := ⟨_, rfl⟩
      rw [← hs] at e2 ⊢
      have E2 := Lib.hid e2
      clear hs hxv h1 h2 hb e1 e2
      go_wp2
      go_round
      case rel => exact ⟨k + 1, by omega, by go_num, by rw [E2.out]⟩
      case measure => simp [intOf]; omega
    · obtain rfl : k = xs.length := by omega
      rw [List.take_length]
      go_wp2
      go_ret
      exact ⟨rfl, rfl⟩

theorem allColumns_any (n : Nat) (w : World) (hn : n ≤ 15) :
    Calls Try.prog 86 #[.int .i64 (n : Int)] w fun e w' => e = .returned (.int .u64 ((2 ^ n - 1 : Nat) : Int)) ∧ w = w' := by
  have e1 := shl_one (x := (n : Int)) (by omega) (by omega)
  rw [Int.toNat_natCast] at e1
  have E : IntKind.u64.wrap (IntKind.u64.wrap (2 ^ n) - 1) = ((2 ^ n - 1 : Nat) : Int) := by
    have h2 : 2 ^ n ≤ 2 ^ 15 := Nat.pow_le_pow_right (by omega) (by omega)
    have h3 : 0 < 2 ^ n := Nat.two_pow_pos n
    rw [e1, IntKind.wrap_u64, Int.emod_eq_of_lt (by omega) (by omega)]
    omega
  have E2 := Lib.hid E
  clear e1 E
  go_enter Try.func86, Try.ntmps86
  go_wp2
  go_ret
  exact ⟨by rw [← E2.out]; rfl, rfl⟩
end Go.Proofs.Ytopamhcnbocfoaa
