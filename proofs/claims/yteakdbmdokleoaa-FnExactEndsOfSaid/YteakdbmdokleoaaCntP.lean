/- Contracts: how many patterns there are, by the model's quotients and by the program's choices; which sizes are allowed. Condition: the numbers fit an int. -/
import Derived.Test.YteakdbmdokleoaaCnt
namespace Go.Proofs.Yteakdbmdokleoaa
open Go.RowKit

def in6 (n : Int) : Prop := 1 ≤ n ∧ n ≤ 6
def catI : Nat → Nat
  | 0 => 1
  | k + 1 => catI k * 2 * (2 * k + 1) / (k + 2)
theorem cat_b : ∀ k, k < 7 → catI k ≤ 1000 := by decide +kernel
theorem cat_same : ∀ n, n < 7 → ch (2 * n) n / (n + 1) = catI n ∧ ch (2 * n) n ≤ 1000 := by decide +kernel

theorem heSide6_any (n : Int) (w : World) :
    Calls Try.prog 84 #[.int .i64 n] w fun e w' => Ans (in6 n) e ∧ w = w' := by
  go_enter Try.func84, Try.ntmps84
  go_wp2_with fail
  refine (l1In_any _ _ _ w).mono ?_
  rintro e w2 ⟨⟨b, rfl, hb⟩, rfl⟩
  have Hb := Lib.hid hb
  clear hb
  go_wp2
  go_ret
  exact ⟨⟨b, rfl, Hb.out⟩, rfl⟩

set_option maxRecDepth 100000 in
set_option maxHeartbeats 800000 in
theorem specCountPatterns_any (n : Int) (w : World) (_ : -9223372036854775808 ≤ n ∧ n ≤ 9223372036854775807) :
    Calls Try.prog 56 #[.int .i64 n] w fun e w' => IRes (in6 n) (catI n.toNat : Nat) e ∧ Below w.heap.size w w' := by
  by_cases hg : in6 n
  · obtain ⟨h1, h6⟩ := hg
    obtain ⟨m, rfl⟩ : ∃ m : Nat, n = m := ⟨n.toNat, by omega⟩
    have Hy := Lib.hid (show in6 (m : Int) from ⟨h1, h6⟩)
    go_enter Try.func56, Try.ntmps56
    go_wp2_with fail
    refine (heSide6_any _ w).mono ?_
    rintro e w2 ⟨ha, rfl⟩
    obtain rfl := ha.is Hy.out
    clear ha
    go_wp2
    go_loop [4, 5] (fun s i => ∃ t : Nat, t ≤ m ∧ i = .int .i64 t ∧ s = .int .i64 (catI t : Nat)) (fun _ i => m - (intOf i).toNat)
    case atStart => exact ⟨0, Nat.zero_le _, rfl, rfl⟩
    case round =>
      obtain ⟨t, ht, rfl, rfl⟩ := hrel
      by_cases hlt : t < m
      · have hb := cat_b t (by omega)
        have E1 := Lib.hid (show catI (t + 1) = catI t * 2 * (2 * t + 1) / (t + 2) from rfl)
        obtain ⟨s, hs⟩ : ∃ s, s = catI t := ⟨_, rfl⟩
        rw [← hs] at hb E1 ⊢
        obtain ⟨p, hp⟩ : ∃ p, p = s * 2 * (2 * t + 1) := ⟨_, rfl⟩
        have hp1 : (s : Int) * 2 * (2 * (t : Int) + 1) = (p : Int) := by rw [hp]; simp
        have hpb : p ≤ 30000 := by
          rw [hp]
          have : s * 2 * (2 * t + 1) ≤ 2000 * 13 := Nat.mul_le_mul (by omega) (by omega)
          omega
        obtain ⟨q, hq⟩ : ∃ q, q = p / (t + 2) := ⟨_, rfl⟩
        have hq1 : (p : Int) / ((t : Int) + 2) = (q : Int) := by rw [hq, Int.natCast_ediv]; rfl
        have hqb : q ≤ 30000 := by rw [hq]; exact Nat.le_trans (Nat.div_le_self _ _) hpb
        rw [← hp, ← hq] at E1
        clear hs hp hq
        go_wp2
        go_round
        case rel => exact ⟨t + 1, by omega, by go_num, by rw [E1.out]⟩
        case measure => simp [intOf]; omega
      · obtain rfl : t = m := by omega
        go_wp2
        go_ret2
        exact ⟨IRes.yes Hy.out, Below.refl _ _⟩
  · have Hg := Lib.hid hg
    clear hg
    go_enter Try.func56, Try.ntmps56
    go_wp2_with fail
    refine (heSide6_any _ w).mono ?_
    rintro e w2 ⟨ha, rfl⟩
    obtain rfl := ha.isnt Hg.out
    clear ha
    go_wp2
    go_ret2
    exact ⟨IRes.no Hg.out, Below.refl _ _⟩

set_option maxRecDepth 100000 in
set_option maxHeartbeats 800000 in
theorem implCountPatterns_any (n : Int) (w : World) (_ : -9223372036854775808 ≤ n ∧ n ≤ 9223372036854775807) :
    Calls Try.prog 57 #[.int .i64 n] w fun e w' => IRes (in6 n) (catI n.toNat : Nat) e ∧ Below w.heap.size w w' := by
  by_cases h1 : 1 ≤ n
  · by_cases h6 : n ≤ 6
    · obtain ⟨m, rfl⟩ : ∃ m : Nat, n = m := ⟨n.toNat, by omega⟩
      have Hy := Lib.hid (show in6 (m : Int) from ⟨h1, h6⟩)
      obtain ⟨hc, hb⟩ := cat_same m (by omega)
      have hcall := choicesOf_any m (2 * m) w (by omega) (by omega) (by omega)
      obtain ⟨p, hp⟩ : ∃ p, p = ch (2 * m) m := ⟨_, rfl⟩
      rw [← hp] at hc hb hcall
      have hq : (p : Int) / ((m : Int) + 1) = (catI m : Nat) := by rw [← hc, Int.natCast_ediv]; rfl
      rw [show ((2 * m : Nat) : Int) = 2 * (m : Int) from by simp] at hcall
      have Hcall := Lib.hid hcall
      obtain ⟨q, hqe⟩ : ∃ q, q = catI m := ⟨_, rfl⟩
      have hqb : q ≤ 1000 := by rw [hqe]; exact cat_b m (by omega)
      rw [← hqe] at hq
      have Hq := Lib.hid hqe
      clear hp hc hcall hqe
      go_enter Try.func57, Try.ntmps57
      go_wp2_with fail
      refine Hcall.out.mono ?_
      rintro e w2 ⟨rfl, rfl⟩
      go_wp2
      go_ret2
      exact ⟨⟨_, true, rfl, .inl ⟨Hy.out, rfl, by rw [Int.toNat_natCast, Hq.out]⟩⟩, Below.refl _ _⟩
    · go_enter Try.func57, Try.ntmps57
      go_wp2
      go_ret2
      exact ⟨IRes.no fun h => by have := h.2; omega, Below.refl _ _⟩
  · go_enter Try.func57, Try.ntmps57
    go_wp2
    go_ret2
    exact ⟨IRes.no fun h => by have := h.1; omega, Below.refl _ _⟩
end Go.Proofs.Yteakdbmdokleoaa
