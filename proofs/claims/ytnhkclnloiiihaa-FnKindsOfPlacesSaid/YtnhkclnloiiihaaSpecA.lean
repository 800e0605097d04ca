/- Contracts of the model's sign matrices. -/
import Derived.Test.YtnhkclnloiiihaaLawB
import Derived.Test.YtnhkclnloiiihaaMath1
namespace Go.Proofs.Ytnhkclnloiiihaa
open Go.RowKit

set_option maxRecDepth 100000 in
set_option maxHeartbeats 400000 in
theorem l1In_any (n lo hi : Int) (w : World) :
    Calls Try.prog 93 #[.int .i64 n, .int .i64 lo, .int .i64 hi] w fun e w' => Ans (lo ≤ n ∧ n ≤ hi) e ∧ w = w' := by
  by_cases h1 : lo ≤ n
  · by_cases h2 : n ≤ hi
    · go_enter Try.func93, Try.ntmps93
      go_wp2
      go_ret
      exact ⟨Ans.yes ⟨h1, h2⟩, rfl⟩
    · go_enter Try.func93, Try.ntmps93
      go_wp2
      go_ret
      exact ⟨Ans.no (fun h => by omega), rfl⟩
  · go_enter Try.func93, Try.ntmps93
    go_wp2
    go_ret
    exact ⟨Ans.no (fun h => by omega), rfl⟩

set_option maxRecDepth 100000 in
set_option maxHeartbeats 400000 in
theorem sgSquare_any (ao : Option Addr) (c : Nat) (m : List (List Int)) (w : World) (hs : Small m) (hm : MatAt w ao m) :
    Calls Try.prog 157 #[.slice ao m.length c] w fun e w' => Ans (square m) e ∧ w = w' := by
  have hn := hs.1
  have hrow := hs.2
  have hmx : m.length ≤ 9223372036854775807 := by omega
  by_cases h1 : 1 ≤ m.length ∧ m.length ≤ 6
  · go_enter Try.func157, Try.ntmps157
    go_wp2_with fail
    refine (l1In_any _ _ _ w).mono ?_
    rintro e w2 ⟨ha, rfl⟩
    obtain rfl := ha.is ⟨by omega, by omega⟩
    clear ha
    go_wp2
    go_loopw [11] (fun i wr => ∃ k : Nat, k ≤ m.length ∧ i = .int .i64 k ∧ (∀ j, j < k → (gr m j).length = m.length) ∧ w = wr) (fun i _ => m.length - (intOf i).toNat)
    case atStart => exact ⟨0, Nat.zero_le _, rfl, fun j hj => absurd hj (by omega), by trivial⟩
    case round =>
      obtain ⟨k, hk, rfl, heq, rfl⟩ := hrel
      by_cases hlt : k < m.length
      · obtain ⟨b1, o1, r1, d1, rfl, hc1, _, _, _⟩ := hm k hlt
        have hrk := hrow k hlt
        have Heq := Lib.hid heq
        clear hm hs hrow heq
        by_cases he : (gr m k).length = m.length
        · have hb : (((gr m k).length : Int) != (m.length : Int)) = false := by simp [he]
          have He := Lib.hid he
          clear he
          go_wp2
          go_roundw
          case rel =>
            refine ⟨k + 1, by omega, by go_num, fun j hj => ?_, by trivial⟩
            by_cases e : j = k
            · subst e; exact He.out
            · exact Heq.out j (by omega)
          case measure => simp [intOf]; omega
        · have hb : (((gr m k).length : Int) != (m.length : Int)) = true := by simp; omega
          go_wp2
          go_ret
          exact ⟨Ans.no fun h => he (h.2.2 k hlt), rfl⟩
      · obtain rfl : k = m.length := by omega
        go_wp2
        go_ret
        exact ⟨Ans.yes ⟨h1.1, h1.2, heq⟩, rfl⟩
  · go_enter Try.func157, Try.ntmps157
    go_wp2_with fail
    refine (l1In_any _ _ _ w).mono ?_
    rintro e w2 ⟨ha, rfl⟩
    obtain rfl := ha.isnt (fun h => h1 ⟨by omega, by omega⟩)
    clear ha
    go_wp2
    go_ret
    exact ⟨Ans.no fun h => h1 ⟨h.1, h.2.1⟩, rfl⟩

set_option maxRecDepth 100000 in
set_option maxHeartbeats 800000 in
theorem sgRows_any (ao : Option Addr) (c : Nat) (m : List (List Int)) (w : World) (hs : Small m) (hm : MatAt w ao m) :
    Calls Try.prog 187 #[.slice ao m.length c] w fun e w' => Ans (rowsOk m) e ∧ w = w' := by
  have hn := hs.1
  have hrow := hs.2
  have hmx : m.length ≤ 9223372036854775807 := by omega
  go_enter Try.func187, Try.ntmps187
  go_wp2
  go_loop [10] (fun i => ∃ k : Nat, k ≤ m.length ∧ i = .int .i64 k ∧ (∀ j, j < k → lineOk (gr m j))) (fun i => m.length - (intOf i).toNat)
  case atStart => exact ⟨0, Nat.zero_le _, rfl, fun j hj => absurd hj (by omega)⟩
  case round =>
    obtain ⟨k, hk, rfl, hdone⟩ := hrel
    by_cases hlt : k < m.length
    · obtain ⟨b1, o1, r1, d1, rfl, hc1, hx1, _, _⟩ := hm k hlt
      have hrk := hrow k hlt
      have hrx : (gr m k).length ≤ 9223372036854775807 := by omega
      have Hd := Lib.hid hdone
      clear hm hs hrow hdone
      go_wp2
      go_loop [5, 16] (fun s i => ∃ t : Nat, t ≤ (gr m k).length ∧ i = .int .i64 t ∧ s = .int .i64 (sumK (gr m k) t) ∧ (∀ u, u ≤ t → 0 ≤ sumK (gr m k) u ∧ sumK (gr m k) u ≤ 1)) (fun _ i => (gr m k).length - (intOf i).toNat)
      case atStart => exact ⟨0, Nat.zero_le _, rfl, rfl, fun u hu => by obtain rfl : u = 0 := by omega
                                                                        simp [sumK]⟩
      case round =>
        obtain ⟨t, ht, rfl, rfl, hsum⟩ := hrel
        have hs0 := (hsum t (Nat.le_refl _)).1
        have hs1 := (hsum t (Nat.le_refl _)).2
        have Hsum := Lib.hid hsum
        clear hsum
        by_cases htl : t < (gr m k).length
        · obtain ⟨b2, o2, rfl, hc2⟩ := hx1 t htl
          obtain ⟨x, hx⟩ : ∃ x, x = gi (gr m k) t := ⟨_, rfl⟩
          obtain ⟨s, hsm⟩ : ∃ s, s = sumK (gr m k) t := ⟨_, rfl⟩
          rw [← hx] at hc2
          rw [← hsm] at hs0 hs1 ⊢
          have Hx := Lib.hid hx
          have Hsm := Lib.hid hsm
          clear hx1 hx hsm
          by_cases hx : -1 ≤ x ∧ x ≤ 1
          · obtain ⟨hxa, hxb⟩ := hx
            go_wp2_with fail
            refine (l1In_any _ _ _ w).mono ?_
            rintro e w2 ⟨ha, rfl⟩
            obtain rfl := ha.is ⟨by omega, by omega⟩
            clear ha
            by_cases hsx : 0 ≤ s + x ∧ s + x ≤ 1
            · obtain ⟨hsa, hsb⟩ := hsx
              go_wp2_with fail
              refine (l1In_any _ _ _ w).mono ?_
              rintro e w2 ⟨ha, rfl⟩
              obtain rfl := ha.is ⟨by omega, by omega⟩
              clear ha
              go_wp2
              go_round
              case rel =>
                have e1 : s + x = sumK (gr m k) (t + 1) := by simp only [sumK]; rw [← Hx.out, ← Hsm.out]
                refine ⟨t + 1, by omega, by go_num, by rw [← e1], fun u hu => ?_⟩
                by_cases e : u = t + 1
                · subst e; rw [← e1]; exact ⟨hsa, hsb⟩
                · exact Hsum.out u (by omega)
              case measure => simp [intOf]; omega
            · go_wp2_with fail
              refine (l1In_any _ _ _ w).mono ?_
              rintro e w2 ⟨ha, rfl⟩
              obtain rfl := ha.isnt (fun h => hsx ⟨by omega, by omega⟩)
              clear ha
              go_wp2
              go_ret
              refine ⟨Ans.no fun h => ?_, rfl⟩
              have := (h k hlt).1 (t + 1) (by omega)
              simp only [sumK] at this
              rw [← Hx.out, ← Hsm.out] at this
              exact hsx this
          · go_wp2_with fail
            refine (l1In_any _ _ _ w).mono ?_
            rintro e w2 ⟨ha, rfl⟩
            obtain rfl := ha.isnt (fun h => hx ⟨by omega, by omega⟩)
            clear ha
            go_wp2
            go_ret
            refine ⟨Ans.no fun h => ?_, rfl⟩
            have := (h k hlt).1 (t + 1) (by omega)
            simp only [sumK] at this
            rw [← Hx.out, ← Hsm.out] at this
            omega
        · obtain rfl : t = (gr m k).length := by omega
          obtain ⟨s, hsm⟩ : ∃ s, s = sumK (gr m k) (gr m k).length := ⟨_, rfl⟩
          rw [← hsm] at hs0 hs1 ⊢
          have Hsm := Lib.hid hsm
          clear hx1 hsm
          by_cases he : s = 1
          · have hb : (s != 1) = false := by simp [he]
            have He := Lib.hid he
            clear he
            go_wp2
            go_round
            case rel =>
              refine ⟨k + 1, by omega, by go_num, fun j hj => ?_⟩
              by_cases e : j = k
              · subst e; exact ⟨Hsum.out, by rw [← Hsm.out]; exact He.out⟩
              · exact Hd.out j (by omega)
            case measure => simp [intOf]; omega
          · have hb : (s != 1) = true := by simp [he]
            go_wp2
            go_ret
            refine ⟨Ans.no fun h => ?_, rfl⟩
            have := (h k hlt).2
            rw [← Hsm.out] at this
            exact he this
    · obtain rfl : k = m.length := by omega
      go_wp2
      go_ret
      exact ⟨Ans.yes hdone, rfl⟩
end Go.Proofs.Ytnhkclnloiiihaa
