/- Contracts: what limits allow, and the limits of the row below, by the program. Conditions: lengths up to 2^20. -/
import Derived.Test.YtfempacfaeknpaaDoorDpM
import Derived.Test.YtfempacfaeknpaaDoorPtn
import Derived.Test.YtfempacfaeknpaaDoorDiff
import Derived.Test.YtfempacfaeknpaaDoorOwn
namespace Go.Proofs.YtfempacfaeknpaaDoor
open Go.RowKit

set_option maxRecDepth 100000 in
set_option maxHeartbeats 1600000 in
theorem allow_any (a1 a2 : Option Addr) (c1 c2 : Nat) (l row : List Int) (w : World) (hl : l.length ≤ 1048576) (hr : row.length ≤ 1048576) (h1 : IntsAt w a1 l) (h2 : IntsAt w a2 row) :
    Calls Tryd.prog 29 #[.slice a1 l.length c1, .slice a2 row.length c2] w fun e w' => Ans (Allow l row) e ∧ w = w' := by
  have hmx1 : l.length ≤ 9223372036854775807 := by omega
  have hmx2 : row.length ≤ 9223372036854775807 := by omega
  have H1 := Lib.hid h1
  have H2 := Lib.hid h2
  clear h1 h2
  by_cases q1 : row.length < 1
  · have d1 : decide ((row.length : Int) < 1) = true := by simp; omega
    have Hn := Lib.hid (show ¬ Allow l row from fun h => by have := h.1; omega)
    clear q1
    go_enter Tryd.func29, Tryd.ntmps29
    go_wp2
    go_ret
    exact ⟨Ans.no Hn.out, rfl⟩
  have d1 : decide ((row.length : Int) < 1) = false := by simp; omega
  by_cases q2 : l.length < row.length
  · have d2 : decide (l.length < row.length) = true := by simp; omega
    have Hn := Lib.hid (show ¬ Allow l row from fun h => by have := h.2.1; omega)
    clear q1 q2
    go_enter Tryd.func29, Tryd.ntmps29
    go_wp2
    go_ret
    exact ⟨Ans.no Hn.out, rfl⟩
  have d2 : decide (l.length < row.length) = false := by simp; omega
  have hpos : 0 < row.length := by omega
  obtain ⟨b2, o2, rfl, hc0⟩ := H2.out 0 hpos
  rw [Nat.add_zero] at hc0
  by_cases q3 : gi row 0 ≤ row.length
  · have d3 : decide (gi row 0 ≤ (row.length : Int)) = true := by simp; omega
    have Hn := Lib.hid (show ¬ Allow l row from fun h => by have := h.2.2.1; omega)
    clear q1 q2 q3
    go_enter Tryd.func29, Tryd.ntmps29
    go_wp2
    go_ret
    exact ⟨Ans.no Hn.out, rfl⟩
  have d3 : decide (gi row 0 ≤ (row.length : Int)) = false := by simp; omega
  have Hq := Lib.hid (show 1 ≤ row.length ∧ row.length ≤ l.length ∧ (row.length : Int) < gi row 0 by omega)
  clear q1 q2 q3
  go_enter Tryd.func29, Tryd.ntmps29
  go_wp2
  clear d1 d2 d3 hc0 hpos
  go_loop [27] (fun i => ∃ k : Nat, k ≤ row.length ∧ i = .int .i64 k ∧ ∀ j, j < k → 1 ≤ gi row j ∧ gi row j ≤ gi l j ∧ (0 < j → gi row j ≤ gi row (j - 1))) (fun i => row.length - (intOf i).toNat)
  case atStart => exact ⟨0, Nat.zero_le _, rfl, fun j hj => absurd hj (by omega)⟩
  case round =>
    obtain ⟨k, hk, rfl, hd⟩ := hrel
    have Hd := Lib.hid hd
    clear hd
    by_cases hlt : k < row.length
    · have hlt2 : k < l.length := by have := Hq.out; omega
      obtain ⟨b2', o2', e2, hck⟩ := H2.out k hlt
      simp only [Option.some.injEq, Addr.mk.injEq, and_true] at e2
      obtain ⟨rfl, rfl⟩ := e2
      obtain ⟨b1, o1, rfl, hlk⟩ := H1.out k hlt2
      have Hk := Lib.hid (show ∀ h : Allow l row, 1 ≤ gi row k ∧ gi row k ≤ gi l k ∧ (0 < k → gi row k ≤ gi row (k - 1)) from fun h => h.2.2.2 k hlt)
      by_cases q1 : gi row k < 1
      · have d1 : decide (gi row k < 1) = true := by simp; omega
        have Hn := Lib.hid (show ¬ Allow l row from fun h => by have := (Hk.out h).1; omega)
        clear q1 hlt2
        go_wp2
        go_ret
        exact ⟨Ans.no Hn.out, rfl⟩
      have d1 : decide (gi row k < 1) = false := by simp; omega
      by_cases q2 : gi l k < gi row k
      · have d2 : decide (gi l k < gi row k) = true := by simp; omega
        have Hn := Lib.hid (show ¬ Allow l row from fun h => by have := (Hk.out h).2.1; omega)
        clear q1 q2
        go_wp2
        go_ret
        exact ⟨Ans.no Hn.out, rfl⟩
      have d2 : decide (gi l k < gi row k) = false := by simp; omega
      by_cases q0 : 0 < k
      · obtain ⟨p, hp⟩ : ∃ p, p = k - 1 := ⟨_, rfl⟩
        rw [← hp] at Hk
        have hw : IntKind.i64.wrap ((k : Int) - 1) = (p : Int) := by rw [w64 (by omega)]; omega
        have hpl : p < row.length := by omega
        obtain ⟨b2', o2', e2, hcp⟩ := H2.out p hpl
        simp only [Option.some.injEq, Addr.mk.injEq, and_true] at e2
        obtain ⟨rfl, rfl⟩ := e2
        by_cases q3 : gi row p < gi row k
        · have d3 : decide (gi row p < gi row k) = true := by simp; omega
          have Hn := Lib.hid (show ¬ Allow l row from fun h => by have := (Hk.out h).2.2 q0; omega)
          clear q1 q2 q3 hp
          go_wp2
          go_ret
          exact ⟨Ans.no Hn.out, rfl⟩
        · have d3 : decide (gi row p < gi row k) = false := by simp; omega
          have Hin := Lib.hid (show 1 ≤ gi row k ∧ gi row k ≤ gi l k ∧ (0 < k → gi row k ≤ gi row (k - 1)) by rw [← hp]; exact ⟨by omega, by omega, fun _ => by omega⟩)
          clear q1 q2 q3 hp
          go_wp2
          go_round
          case rel =>
            refine ⟨k + 1, by omega, by go_num, fun j hj => ?_⟩
            by_cases e : j = k
            · subst e; exact Hin.out
            · exact Hd.out j (by omega)
          case measure => simp [intOf]; omega
      · have Hin := Lib.hid (show 1 ≤ gi row k ∧ gi row k ≤ gi l k ∧ (0 < k → gi row k ≤ gi row (k - 1)) from ⟨by omega, by omega, fun h => absurd h q0⟩)
        clear q1 q2
        go_wp2
        go_round
        case rel =>
          refine ⟨k + 1, by omega, by go_num, fun j hj => ?_⟩
          by_cases e : j = k
          · subst e; exact Hin.out
          · exact Hd.out j (by omega)
        case measure => simp [intOf]; omega
    · obtain rfl : k = row.length := by omega
      go_wp2
      go_ret
      exact ⟨Ans.yes ⟨Hq.out.1, Hq.out.2.1, Hq.out.2.2, Hd.out⟩, rfl⟩
end Go.Proofs.YtfempacfaeknpaaDoor
