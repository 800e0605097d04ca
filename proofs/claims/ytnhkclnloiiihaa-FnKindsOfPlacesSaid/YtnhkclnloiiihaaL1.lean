/- Contracts of the model's small helpers: the greater of two numbers, a number without its sign, whether two rows are the same. Conditions: as each says. -/
import Derived.Test.YtnhkclnloiiihaaSpecA
namespace Go.Proofs.Ytnhkclnloiiihaa
open Go.RowKit

theorem l1Most_any (a b : Int) (w : World) : Calls Try.prog 118 #[.int .i64 a, .int .i64 b] w fun e w' => e = .returned (.int .i64 (max a b)) ∧ w' = w := by
  by_cases h : b < a
  · have hm : max a b = a := by omega
    rw [hm]
    have hd : decide (b < a) = true := by simpa using h
    clear hm
    go_enter Try.func118, Try.ntmps118
    go_wp2
    go_ret
    exact ⟨rfl, rfl⟩
  · have hm : max a b = b := by omega
    rw [hm]
    have hd : decide (b < a) = false := by simpa using h
    clear hm
    go_enter Try.func118, Try.ntmps118
    go_wp2
    go_ret
    exact ⟨rfl, rfl⟩


set_option maxRecDepth 100000 in
set_option maxHeartbeats 400000 in
theorem l1Same_any (a1 a2 : Option Addr) (c1 c2 : Nat) (xs ys : List Int) (w : World) (hn : xs.length ≤ 1048576) (hn2 : ys.length ≤ 1048576) (h1 : IntsAt w a1 xs) (h2 : IntsAt w a2 ys) :
    Calls Try.prog 179 #[.slice a1 xs.length c1, .slice a2 ys.length c2] w fun e w' => e = .returned (.bool (xs == ys)) ∧ Q w w' := by
  have hm1 : xs.length ≤ 9223372036854775807 := by omega
  have hm2 : ys.length ≤ 9223372036854775807 := by omega
  have H1 := Lib.hid h1
  have H2 := Lib.hid h2
  clear h1 h2
  by_cases hl : ys.length = xs.length
  · have Hl := Lib.hid hl
    have hb : ((xs.length : Int) != (ys.length : Int)) = false := by simp; omega
    go_enter Try.func179, Try.ntmps179
    go_wp2
    go_loopw [13] (fun i wr => ∃ k : Nat, k ≤ xs.length ∧ i = .int .i64 k ∧ (∀ j, j < k → gi xs j = gi ys j) ∧ Q w wr) (fun i _ => xs.length - (intOf i).toNat)
    case atStart => exact ⟨0, Nat.zero_le _, rfl, fun j hj => absurd hj (by omega), Q.refl _⟩
    case round =>
      obtain ⟨k, hk, rfl, hr, hbr⟩ := hrel
      by_cases hlt : k < xs.length
      · obtain ⟨b1, o1, rfl, hc1⟩ := H1.out.below (hbr.below _) k hlt
        obtain ⟨b2, o2, rfl, hc2⟩ := H2.out.below (hbr.below _) k (by omega)
        have Hr := Lib.hid hr
        have Hbr := Lib.hid hbr
        by_cases e : gi xs k = gi ys k
        · have He := Lib.hid e
          rw [← e] at hc2
          obtain ⟨x, hx⟩ : ∃ x, x = gi xs k := ⟨_, rfl⟩
          rw [← hx] at hc1 hc2
          clear hx e hr hbr
          go_wp2
          go_quiet (fail)
          go_wp2
          go_roundw
          case rel => exact ⟨k + 1, by omega, by go_num, fun j hj => by
            by_cases ej : j = k
            · subst ej; exact He.out
            · exact Hr.out j (by omega), Hbr.out.drewN _⟩
          case measure => simp [intOf]; omega
        · have Hs := Lib.hid (show (xs == ys) = false by
            rw [beq_eq_false_iff_ne]
            intro h
            exact e (by rw [h]))
          have hne : (gi xs k != gi ys k) = true := by simpa using e
          obtain ⟨x, hx⟩ : ∃ x, x = gi xs k := ⟨_, rfl⟩
          obtain ⟨y, hy⟩ : ∃ y, y = gi ys k := ⟨_, rfl⟩
          rw [← hx] at hc1 hne
          rw [← hy] at hc2 hne
          clear hx hy e hr hbr
          go_wp2
          go_quiet (fail)
          go_wp2
          go_ret
          exact ⟨by rw [Hs.out]; rfl, Hbr.out.drewN _⟩
      · obtain rfl : k = xs.length := by omega
        have Hs := Lib.hid (show (xs == ys) = true by
          rw [beq_iff_eq]
          exact ext_gi Hl.out.symm hr)
        have Hbr := Lib.hid hbr
        clear hr hbr
        go_wp2
        go_ret
        exact ⟨by rw [Hs.out]; rfl, Hbr.out⟩
  · have Hs := Lib.hid (show (xs == ys) = false by
      rw [beq_eq_false_iff_ne]
      intro h
      exact hl (by rw [h]))
    have hb : ((xs.length : Int) != (ys.length : Int)) = true := by simp; omega
    go_enter Try.func179, Try.ntmps179
    go_wp2
    go_ret
    exact ⟨by rw [Hs.out]; rfl, Q.refl _⟩

end Go.Proofs.Ytnhkclnloiiihaa
