/- Contracts of the laws' helpers over tables: comparing. Conditions: small tables. -/
import Derived.Test.YtnhkclnloiiihaaLwH
namespace Go.Proofs.Ytnhkclnloiiihaa
open Go.RowKit

set_option maxRecDepth 100000 in
set_option maxHeartbeats 400000 in
theorem hRows_any (a1 a2 : Option Addr) (c1 c2 : Nat) (m n : List (List Int)) (w : World) (hs1 : Small m) (hs2 : Small n) (h1 : MatAt w a1 m) (h2 : MatAt w a2 n) :
    Calls Try.prog 38 #[.slice a1 m.length c1, .slice a2 n.length c2] w fun e w' => e = .returned (.bool (m == n)) ∧ Q w w' := by
  have hm1 : m.length ≤ 9223372036854775807 := by have := hs1.1; omega
  have hm2 : n.length ≤ 9223372036854775807 := by have := hs2.1; omega
  have H1 := Lib.hid h1
  have H2 := Lib.hid h2
  have S1 := Lib.hid hs1.2
  have S2' := Lib.hid hs2.2
  clear h1 h2 hs1 hs2
  by_cases hl : n.length = m.length
  · have Hl := Lib.hid hl
    have hb : ((m.length : Int) != (n.length : Int)) = false := by simp; omega
    clear hl
    go_enter Try.func38, Try.ntmps38
    go_wp2
    go_loopw [13] (fun i wr => ∃ k : Nat, k ≤ m.length ∧ i = .int .i64 k ∧ (∀ j, j < k → gr m j = gr n j) ∧ Q w wr) (fun i _ => m.length - (intOf i).toNat)
    case atStart => exact ⟨0, Nat.zero_le _, rfl, fun j hj => absurd hj (by omega), Q.refl _⟩
    case round =>
      obtain ⟨k, hk, rfl, hr, hbr⟩ := hrel
      by_cases hlt : k < m.length
      · obtain ⟨b1, o1, r1, d1, rfl, hc1, hx1, _, _⟩ := H1.out.below (hbr.below _) k hlt
        obtain ⟨b2, o2, r2, d2, rfl, hc2, hx2, _, _⟩ := H2.out.below (hbr.below _) k (by have := Hl.out; omega)
        have hltn : k < n.length := by have := Hl.out; omega
        have Hr := Lib.hid hr
        have Hbr := Lib.hid hbr
        have C := fun t : Nat => hSame_any r1 r2 d1 d2 (gr m k) (gr n k) (wr.drewN t) (S1.out k hlt) (S2'.out k (by have := Hl.out; omega)) (hx1.below (below_drewN (Below.refl _ _) t)) (hx2.below (below_drewN (Below.refl _ _) t))
        have hl1 := S1.out k hlt
        have hl2 := S2'.out k (by have := Hl.out; omega)
        obtain ⟨l1, e1⟩ : ∃ l, l = (gr m k).length := ⟨_, rfl⟩
        obtain ⟨l2, e2⟩ : ∃ l, l = (gr n k).length := ⟨_, rfl⟩
        rw [← e1] at hc1 hl1
        rw [← e2] at hc2 hl2
        rw [← e1, ← e2] at C
        clear hx1 hx2 hr hbr e1 e2
        by_cases e : gr m k = gr n k
        · have He := Lib.hid e
          have hb2 : (gr m k == gr n k) = true := by simpa using e
          rw [hb2] at C
          have C := Lib.hid C
          clear e hb2
          go_wp2
          go_quiet ((go_at_call 126; exact Calls.quiet_of (C.out _)))
          go_wp2
          go_roundw
          case rel => exact ⟨k + 1, by omega, by go_num, fun j hj => by
            by_cases ej : j = k
            · subst ej; exact He.out
            · exact Hr.out j (by omega), Hbr.out.drewN _⟩
          case measure => simp [intOf]; omega
        · have Hs := Lib.hid (show (m == n) = false by
            rw [beq_eq_false_iff_ne]
            intro h
            exact e (by rw [h]))
          have hb2 : (gr m k == gr n k) = false := by simpa using e
          rw [hb2] at C
          have C := Lib.hid C
          clear e hb2
          go_wp2
          go_quiet ((go_at_call 126; exact Calls.quiet_of (C.out _)))
          go_wp2
          go_ret
          exact ⟨by rw [Hs.out]; rfl, Hbr.out.drewN _⟩
      · obtain rfl : k = m.length := by omega
        have Hs := Lib.hid (show (m == n) = true by
          rw [beq_iff_eq]
          exact ext_gr Hl.out.symm hr)
        have Hbr := Lib.hid hbr
        clear hr hbr
        go_wp2
        go_ret
        exact ⟨by rw [Hs.out]; rfl, Hbr.out⟩
  · have Hs := Lib.hid (show (m == n) = false by
      rw [beq_eq_false_iff_ne]
      intro h
      exact hl (by rw [h]))
    have hb : ((m.length : Int) != (n.length : Int)) = true := by simp; omega
    go_enter Try.func38, Try.ntmps38
    go_wp2
    go_ret
    exact ⟨by rw [Hs.out]; rfl, Q.refl _⟩
end Go.Proofs.Ytnhkclnloiiihaa
