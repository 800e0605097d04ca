/- Contracts: equal tables, by the program and by the model. Condition: lengths up to 2^20. -/
import Derived.Test.YtnhkclnloiiihaaL1
namespace Go.Proofs.Ytnhkclnloiiihaa
open Go.RowKit

set_option maxRecDepth 100000 in
set_option maxHeartbeats 800000 in
theorem sEqualI_any (a1 a2 : Option Addr) (c1 c2 : Nat) (xs ys : List Int) (w : World) (hn : xs.length ≤ 1048576) (hn2 : ys.length ≤ 1048576) (h1 : IntsAt w a1 xs) (h2 : IntsAt w a2 ys) :
    Calls Try.prog 104 #[.slice a1 xs.length c1, .slice a2 ys.length c2] w fun e w' => e = .returned (.bool (xs == ys)) ∧ Q w w' := by
  have hm1 : xs.length ≤ 9223372036854775807 := by omega
  have hm2 : ys.length ≤ 9223372036854775807 := by omega
  have H1 := Lib.hid h1
  have H2 := Lib.hid h2
  clear h1 h2
  by_cases hl : ys.length = xs.length
  · have Hl := Lib.hid hl
    have hb : ((xs.length : Int) != (ys.length : Int)) = false := by simp; omega
    go_enter Try.func104, Try.ntmps104
    go_wp2
    go_loopw [13] (fun i wr => ∃ k : Nat, k ≤ xs.length ∧ i = .int .i64 k ∧ (∀ j, j < k → gi xs j = gi ys j) ∧ Q w wr) (fun i _ => xs.length - (intOf i).toNat)
    case atStart => exact ⟨0, Nat.zero_le _, rfl, fun j hj => absurd hj (by omega), Q.refl _⟩
    case round =>
      obtain ⟨k, hk, rfl, hr, hbr⟩ := hrel
      by_cases hlt : k < xs.length
      · obtain ⟨b1, o1, rfl, hc1⟩ := H1.out.below (hbr.below _) k hlt
        obtain ⟨b2, o2, rfl, hc2⟩ := H2.out.below (hbr.below _) k (by omega)
        have Hr := Lib.hid hr
        have Hbr := Lib.hid hbr
        by_cases e : gi xs k = gi ys k
        · have He := Lib.hid e
          rw [← e] at hc2
          obtain ⟨x, hx⟩ : ∃ x, x = gi xs k := ⟨_, rfl⟩
          rw [← hx] at hc1 hc2
          clear hx e hr hbr
          go_wp2
          go_quiet (fail)
          go_wp2
          go_roundw
          case rel => exact ⟨k + 1, by omega, by go_num, fun j hj => by
            by_cases ej : j = k
            · subst ej; exact He.out
            · exact Hr.out j (by omega), Hbr.out.drewN _⟩
          case measure => simp [intOf]; omega
        · have Hs := Lib.hid (show (xs == ys) = false by
            rw [beq_eq_false_iff_ne]
            intro h
            exact e (by rw [h]))
          have hne : (gi xs k != gi ys k) = true := by simpa using e
          obtain ⟨x, hx⟩ : ∃ x, x = gi xs k := ⟨_, rfl⟩
          obtain ⟨y, hy⟩ : ∃ y, y = gi ys k := ⟨_, rfl⟩
          rw [← hx] at hc1 hne
          rw [← hy] at hc2 hne
          clear hx hy e hr hbr
          go_wp2
          go_quiet (fail)
          go_wp2
          go_ret
          exact ⟨by rw [Hs.out]; rfl, Hbr.out.drewN _⟩
      · obtain rfl : k = xs.length := by omega
        have Hs := Lib.hid (show (xs == ys) = true by
          rw [beq_iff_eq]
          exact ext_gi Hl.out.symm hr)
        have Hbr := Lib.hid hbr
        clear hr hbr
        go_wp2
        go_ret
        exact ⟨by rw [Hs.out]; rfl, Hbr.out⟩
  · have Hs := Lib.hid (show (xs == ys) = false by
      rw [beq_eq_false_iff_ne]
      intro h
      exact hl (by rw [h]))
    have hb : ((xs.length : Int) != (ys.length : Int)) = true := by simp; omega
    go_enter Try.func104, Try.ntmps104
    go_wp2
    go_ret
    exact ⟨by rw [Hs.out]; rfl, Q.refl _⟩

set_option maxRecDepth 100000 in
set_option maxHeartbeats 800000 in
theorem sEqualFunc_any (a1 a2 : Option Addr) (c1 c2 : Nat) (m n : List (List Int)) (w : World) (hs1 : Small m) (hs2 : Small n) (h1 : MatAt w a1 m) (h2 : MatAt w a2 n) :
    Calls Try.prog 197 #[.slice a1 m.length c1, .slice a2 n.length c2, .func (.func 104) #[] #[]] w fun e w' => e = .returned (.bool (m == n)) ∧ Q w w' := by
  have hm1 : m.length ≤ 9223372036854775807 := by have := hs1.1; omega
  have hm2 : n.length ≤ 9223372036854775807 := by have := hs2.1; omega
  have H1 := Lib.hid h1
  have H2 := Lib.hid h2
  have S1 := Lib.hid hs1.2
  have S2' := Lib.hid hs2.2
  clear h1 h2 hs1 hs2
  by_cases hl : n.length = m.length
  · have Hl := Lib.hid hl
    have hb : ((m.length : Int) != (n.length : Int)) = false := by simp; omega
    clear hl
    go_enter Try.func197, Try.ntmps197
    go_wp2
    go_loopw [17] (fun i wr => ∃ k : Nat, k ≤ m.length ∧ i = .int .i64 k ∧ (∀ j, j < k → gr m j = gr n j) ∧ Q w wr) (fun i _ => m.length - (intOf i).toNat)
    case atStart => exact ⟨0, Nat.zero_le _, rfl, fun j hj => absurd hj (by omega), Q.refl _⟩
    case round =>
      obtain ⟨k, hk, rfl, hr, hbr⟩ := hrel
      by_cases hlt : k < m.length
      · obtain ⟨b1, o1, r1, d1, rfl, hc1, hx1, _, _⟩ := H1.out.below (hbr.below _) k hlt
        obtain ⟨b2, o2, r2, d2, rfl, hc2, hx2, _, _⟩ := H2.out.below (hbr.below _) k (by have := Hl.out; omega)
        have hltn : k < n.length := by have := Hl.out; omega
        have Hr := Lib.hid hr
        have Hbr := Lib.hid hbr
        have C := Lib.hid (sEqualI_any r1 r2 d1 d2 (gr m k) (gr n k) wr (S1.out k hlt) (S2'.out k (by have := Hl.out; omega)) hx1 hx2)
        have hl1 := S1.out k hlt
        have hl2 := S2'.out k (by have := Hl.out; omega)
        obtain ⟨l1, e1⟩ : ∃ l, l = (gr m k).length := ⟨_, rfl⟩
        obtain ⟨l2, e2⟩ : ∃ l, l = (gr n k).length := ⟨_, rfl⟩
        rw [← e1] at hc1 C hl1
        rw [← e2] at hc2 C hl2
        clear hx1 hx2 hr hbr e1 e2
        by_cases e : gr m k = gr n k
        · have He := Lib.hid e
          have hb2 : (gr m k == gr n k) = true := by simpa using e
          rw [hb2] at C
          clear e hb2
          go_wp2_with fail
          refine C.out.mono ?_
          rintro e w2 ⟨rfl, hq⟩
          have Hq := Lib.hid (Hbr.out.trans hq)
          clear hq hc1 hc2
          go_wp2
          go_roundw
          case rel => exact ⟨k + 1, by omega, by go_num, fun j hj => by
            by_cases ej : j = k
            · subst ej; exact He.out
            · exact Hr.out j (by omega), Hq.out⟩
          case measure => simp [intOf]; omega
        · have Hs := Lib.hid (show (m == n) = false by
            rw [beq_eq_false_iff_ne]
            intro h
            exact e (by rw [h]))
          have hb2 : (gr m k == gr n k) = false := by simpa using e
          rw [hb2] at C
          clear e hb2
          go_wp2_with fail
          refine C.out.mono ?_
          rintro e w2 ⟨rfl, hq⟩
          have Hq := Lib.hid (Hbr.out.trans hq)
          clear hq hc1 hc2
          go_wp2
          go_ret
          exact ⟨by rw [Hs.out]; rfl, Hq.out⟩
      · obtain rfl : k = m.length := by omega
        have Hs := Lib.hid (show (m == n) = true by
          rw [beq_iff_eq]
          exact ext_gr Hl.out.symm hr)
        have Hbr := Lib.hid hbr
        clear hr hbr
        go_wp2
        go_ret
        exact ⟨by rw [Hs.out]; rfl, Hbr.out⟩
  · have Hs := Lib.hid (show (m == n) = false by
      rw [beq_eq_false_iff_ne]
      intro h
      exact hl (by rw [h]))
    have hb : ((m.length : Int) != (n.length : Int)) = true := by simp; omega
    go_enter Try.func197, Try.ntmps197
    go_wp2
    go_ret
    exact ⟨by rw [Hs.out]; rfl, Q.refl _⟩

set_option maxRecDepth 100000 in
set_option maxHeartbeats 800000 in
theorem weSame_any (a1 a2 : Option Addr) (c1 c2 : Nat) (m n : List (List Int)) (w : World) (hs1 : Small m) (hs2 : Small n) (h1 : MatAt w a1 m) (h2 : MatAt w a2 n) :
    Calls Try.prog 158 #[.slice a1 m.length c1, .slice a2 n.length c2] w fun e w' => e = .returned (.bool (m == n)) ∧ Q w w' := by
  have hm1 : m.length ≤ 9223372036854775807 := by have := hs1.1; omega
  have hm2 : n.length ≤ 9223372036854775807 := by have := hs2.1; omega
  have H1 := Lib.hid h1
  have H2 := Lib.hid h2
  have S1 := Lib.hid hs1.2
  have S2' := Lib.hid hs2.2
  clear h1 h2 hs1 hs2
  by_cases hl : n.length = m.length
  · have Hl := Lib.hid hl
    have hb : ((m.length : Int) != (n.length : Int)) = false := by simp; omega
    clear hl
    go_enter Try.func158, Try.ntmps158
    go_wp2
    go_loopw [14] (fun i wr => ∃ k : Nat, k ≤ m.length ∧ i = .int .i64 k ∧ (∀ j, j < k → gr m j = gr n j) ∧ Q w wr) (fun i _ => m.length - (intOf i).toNat)
    case atStart => exact ⟨0, Nat.zero_le _, rfl, fun j hj => absurd hj (by omega), Q.refl _⟩
    case round =>
      obtain ⟨k, hk, rfl, hr, hbr⟩ := hrel
      by_cases hlt : k < m.length
      · obtain ⟨b1, o1, r1, d1, rfl, hc1, hx1, _, _⟩ := H1.out.below (hbr.below _) k hlt
        obtain ⟨b2, o2, r2, d2, rfl, hc2, hx2, _, _⟩ := H2.out.below (hbr.below _) k (by have := Hl.out; omega)
        have hltn : k < n.length := by have := Hl.out; omega
        have Hr := Lib.hid hr
        have Hbr := Lib.hid hbr
        have C := Lib.hid (l1Same_any r1 r2 d1 d2 (gr m k) (gr n k) wr (S1.out k hlt) (S2'.out k (by have := Hl.out; omega)) hx1 hx2)
        have hl1 := S1.out k hlt
        have hl2 := S2'.out k (by have := Hl.out; omega)
        obtain ⟨l1, e1⟩ : ∃ l, l = (gr m k).length := ⟨_, rfl⟩
        obtain ⟨l2, e2⟩ : ∃ l, l = (gr n k).length := ⟨_, rfl⟩
        rw [← e1] at hc1 C hl1
        rw [← e2] at hc2 C hl2
        clear hx1 hx2 hr hbr e1 e2
        by_cases e : gr m k = gr n k
        · have He := Lib.hid e
          have hb2 : (gr m k == gr n k) = true := by simpa using e
          rw [hb2] at C
          clear e hb2
          go_wp2_with fail
          refine C.out.mono ?_
          rintro e w2 ⟨rfl, hq⟩
          have Hq := Lib.hid (Hbr.out.trans hq)
          clear hq hc1 hc2
          go_wp2
          go_roundw
          case rel => exact ⟨k + 1, by omega, by go_num, fun j hj => by
            by_cases ej : j = k
            · subst ej; exact He.out
            · exact Hr.out j (by omega), Hq.out⟩
          case measure => simp [intOf]; omega
        · have Hs := Lib.hid (show (m == n) = false by
            rw [beq_eq_false_iff_ne]
            intro h
            exact e (by rw [h]))
          have hb2 : (gr m k == gr n k) = false := by simpa using e
          rw [hb2] at C
          clear e hb2
          go_wp2_with fail
          refine C.out.mono ?_
          rintro e w2 ⟨rfl, hq⟩
          have Hq := Lib.hid (Hbr.out.trans hq)
          clear hq hc1 hc2
          go_wp2
          go_ret
          exact ⟨by rw [Hs.out]; rfl, Hq.out⟩
      · obtain rfl : k = m.length := by omega
        have Hs := Lib.hid (show (m == n) = true by
          rw [beq_iff_eq]
          exact ext_gr Hl.out.symm hr)
        have Hbr := Lib.hid hbr
        clear hr hbr
        go_wp2
        go_ret
        exact ⟨by rw [Hs.out]; rfl, Hbr.out⟩
  · have Hs := Lib.hid (show (m == n) = false by
      rw [beq_eq_false_iff_ne]
      intro h
      exact hl (by rw [h]))
    have hb : ((m.length : Int) != (n.length : Int)) = true := by simp; omega
    go_enter Try.func158, Try.ntmps158
    go_wp2
    go_ret
    exact ⟨by rw [Hs.out]; rfl, Q.refl _⟩

set_option maxRecDepth 100000 in
set_option maxHeartbeats 800000 in
theorem equalTables_any (a1 a2 : Option Addr) (c1 c2 : Nat) (m n : List (List Int)) (w : World) (hs1 : Small m) (hs2 : Small n) (h1 : MatAt w a1 m) (h2 : MatAt w a2 n) :
    Calls Try.prog 156 #[.slice a1 m.length c1, .slice a2 n.length c2] w fun e w' => e = .returned (.bool (m == n)) ∧ Q w w' := by
  have C := Lib.hid (sEqualFunc_any a1 a2 c1 c2 m n w hs1 hs2 h1 h2)
  obtain ⟨b, hb⟩ : ∃ b, b = (m == n) := ⟨_, rfl⟩
  rw [← hb] at C ⊢
  clear hs1 hs2 h1 h2 hb
  go_enter Try.func156, Try.ntmps156
  go_wp2_with fail
  refine C.out.mono ?_
  rintro e w2 ⟨rfl, hq⟩
  have Hq := Lib.hid hq
  clear hq
  go_wp2
  go_ret
  exact ⟨rfl, Hq.out⟩
end Go.Proofs.Ytnhkclnloiiihaa
