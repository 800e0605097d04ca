/- Contracts: rows of parts, rows below, and descending plane partitions, by the model. Conditions: lengths up to 2^20; n in 1 to 6. -/
import Derived.Test.YtfempacfaeknpaaDoorDpM
import Derived.Test.YtfempacfaeknpaaDoorDiff
namespace Go.Proofs.YtfempacfaeknpaaDoor
open Go.RowKit

set_option maxRecDepth 100000 in
set_option maxHeartbeats 1600000 in
theorem dpRow_any (ao : Option Addr) (c : Nat) (row : List Int) (n : Nat) (w : World) (hn : n ≤ 6) (hr : row.length ≤ 1048576) (hx : IntsAt w ao row) :
    Calls Tryd.prog 20 #[.slice ao row.length c, .int .i64 n] w fun e w' => Ans (DpRow row n) e ∧ Q w w' := by
  have hmx : row.length ≤ 9223372036854775807 := by omega
  have Hx := Lib.hid hx
  clear hx
  by_cases q1 : row.length = 0
  · have d1 : ((row.length : Int) == 0) = true := by simp [q1]
    have Hn := Lib.hid (show ¬ DpRow row n from fun h => by have := h.1; omega)
    clear q1
    go_enter Tryd.func20, Tryd.ntmps20
    go_wp2
    go_ret
    exact ⟨Ans.no Hn.out, Q.refl _⟩
  have d1 : ((row.length : Int) == 0) = false := beq_eq_false_iff_ne.2 (by omega)
  by_cases q2 : n ≤ row.length
  · have d2 : decide (n ≤ row.length) = true := decide_eq_true q2
    have Hn := Lib.hid (show ¬ DpRow row n from fun h => by have := h.2.1; omega)
    clear q1
    go_enter Tryd.func20, Tryd.ntmps20
    go_wp2
    go_ret
    exact ⟨Ans.no Hn.out, Q.refl _⟩
  have d2 : decide (n ≤ row.length) = false := decide_eq_false q2
  have hpos : 0 < row.length := by omega
  have Hq := Lib.hid (And.intro q1 q2)
  clear q1 q2
  go_enter Tryd.func20, Tryd.ntmps20
  go_wp2_with fail
  refine (l1All_any ao c row 1 n w hr Hx.out).mono ?_
  rintro e w2 ⟨ha, rfl⟩
  by_cases q3 : allIn row 1 n
  · have Q3 := Lib.hid q3
    clear q3
    obtain rfl := ha.is Q3.out
    clear ha
    obtain ⟨b2, o2, rfl, hc0⟩ := Hx.out 0 hpos
    rw [Nat.add_zero] at hc0
    by_cases q4 : gi row 0 ≤ row.length
    · have d4 : decide (gi row 0 ≤ (row.length : Int)) = true := by simp; omega
      have Hn := Lib.hid (show ¬ DpRow row n from fun h => by have := h.2.2.2.1; omega)
      clear q4
      go_wp2
      go_ret
      exact ⟨Ans.no Hn.out, Q.refl _⟩
    have d4 : decide (gi row 0 ≤ (row.length : Int)) = false := by simp; omega
    have Q4 := Lib.hid q4
    clear q4
    go_wp2
    clear d4 d1 d2 hc0
    go_loopw [5] (fun i wr => ∃ k : Nat, 1 ≤ k ∧ k ≤ row.length ∧ i = .int .i64 k ∧ (∀ j, j < k → 1 ≤ j → gi row j ≤ gi row (j - 1)) ∧ Q w wr) (fun i _ => row.length - (intOf i).toNat)
    case atStart => exact ⟨1, Nat.le_refl _, by omega, rfl, fun j hj h1 => absurd hj (by omega), Q.refl _⟩
    case round =>
      obtain ⟨k, hk1, hk, rfl, hd, hq⟩ := hrel
      have Hd := Lib.hid hd
      have HQ := Lib.hid hq
      clear hd hq
      by_cases hlt : k < row.length
      · obtain ⟨p, hp⟩ : ∃ p, p = k - 1 := ⟨_, rfl⟩
        have hw : IntKind.i64.wrap ((k : Int) - 1) = (p : Int) := by rw [w64 (by omega)]; omega
        have hpl : p < row.length := by omega
        obtain ⟨b2', o2', e2, hck⟩ := (Hx.out.below (HQ.out.below _)) k hlt
        simp only [Option.some.injEq, Addr.mk.injEq, and_true] at e2
        obtain ⟨rfl, rfl⟩ := e2
        obtain ⟨b2', o2', e2, hcp⟩ := (Hx.out.below (HQ.out.below _)) p hpl
        simp only [Option.some.injEq, Addr.mk.injEq, and_true] at e2
        obtain ⟨rfl, rfl⟩ := e2
        have Hp := Lib.hid hp
        clear hp
        by_cases q3 : gi row p < gi row k
        · have d3 : decide (gi row p < gi row k) = true := by simp; omega
          have Hn := Lib.hid (show ¬ DpRow row n from fun h => by have := h.2.2.2.2 k hlt hk1; rw [← Hp.out] at this; omega)
          clear q3
          go_wp2
          go_quiet (fail)
          go_wp2
          go_ret
          exact ⟨Ans.no Hn.out, HQ.out.drewN _⟩
        · have d3 : decide (gi row p < gi row k) = false := by simp; omega
          have Hin := Lib.hid (show gi row k ≤ gi row (k - 1) by rw [← Hp.out]; omega)
          clear q3
          go_wp2
          go_quiet (fail)
          go_wp2
          go_roundw
          case rel =>
            refine ⟨k + 1, by omega, by omega, by go_num, fun j hj h1 => ?_, HQ.out.drewN _⟩
            by_cases e : j = k
            · subst e; exact Hin.out
            · exact Hd.out j (by omega) h1
          case measure => simp [intOf]; omega
      · obtain rfl : k = row.length := by omega
        have Hy := Lib.hid (show DpRow row n from ⟨by omega, by have := Hq.out.2; omega, Q3.out, by have := Q4.out; omega, Hd.out⟩)
        go_wp2
        go_ret
        exact ⟨Ans.yes Hy.out, HQ.out⟩
  · have Q3 := Lib.hid q3
    have Hn := Lib.hid (show ¬ DpRow row n from fun h => Q3.out h.2.2.1)
    clear q3
    obtain rfl := ha.isnt Q3.out
    clear ha
    go_wp2
    go_ret
    exact ⟨Ans.no Hn.out, Q.refl _⟩

set_option maxRecDepth 100000 in
set_option maxHeartbeats 1600000 in
theorem dpBelow_any (a1 a2 : Option Addr) (c1 c2 : Nat) (row above : List Int) (w : World) (h0 : 1 ≤ row.length) (hr : row.length ≤ 1048576) (ha : above.length ≤ 1048576) (h1 : IntsAt w a1 row) (h2 : IntsAt w a2 above) :
    Calls Tryd.prog 21 #[.slice a1 row.length c1, .slice a2 above.length c2] w fun e w' => Ans (DpBel row above) e ∧ w = w' := by
  have hmx : row.length ≤ 9223372036854775807 := by omega
  have hmx2 : above.length ≤ 9223372036854775807 := by omega
  have H1 := Lib.hid h1
  have H2 := Lib.hid h2
  clear h1 h2
  by_cases q2 : above.length ≤ row.length
  · have d2 : decide (above.length ≤ row.length) = true := by simp; omega
    have Hn := Lib.hid (show ¬ DpBel row above from fun h => by have := h.1; omega)
    go_enter Tryd.func21, Tryd.ntmps21
    go_wp2
    go_ret
    exact ⟨Ans.no Hn.out, rfl⟩
  have d2 : decide (above.length ≤ row.length) = false := by simp; omega
  have hpos : 0 < row.length := by omega
  obtain ⟨b2, o2, rfl, hc0⟩ := H1.out 0 hpos
  rw [Nat.add_zero] at hc0
  by_cases q4 : (above.length : Int) < gi row 0
  · have d4 : decide ((above.length : Int) < gi row 0) = true := by simp; omega
    have Hn := Lib.hid (show ¬ DpBel row above from fun h => by have := h.2.1; omega)
    clear q4
    go_enter Tryd.func21, Tryd.ntmps21
    go_wp2
    go_ret
    exact ⟨Ans.no Hn.out, rfl⟩
  have d4 : decide ((above.length : Int) < gi row 0) = false := by simp; omega
  have Q4 := Lib.hid (And.intro q2 q4)
  clear q4 q2
  go_enter Tryd.func21, Tryd.ntmps21
  go_wp2
  clear d4 d2 hc0
  go_loop [22] (fun i => ∃ k : Nat, k ≤ row.length ∧ i = .int .i64 k ∧ ∀ j, j < k → gi row j < gi above (j + 1)) (fun i => row.length - (intOf i).toNat)
  case atStart => exact ⟨0, Nat.zero_le _, rfl, fun j hj => absurd hj (by omega)⟩
  case round =>
    obtain ⟨k, hk, rfl, hd⟩ := hrel
    have Hd := Lib.hid hd
    clear hd
    by_cases hlt : k < row.length
    · obtain ⟨p, hp⟩ : ∃ p, p = k + 1 := ⟨_, rfl⟩
      have hw : IntKind.i64.wrap ((k : Int) + 1) = (p : Int) := by rw [w64 (by omega)]; omega
      have hpl : p < above.length := by have := Q4.out; omega
      obtain ⟨b2', o2', e2, hck⟩ := H1.out k hlt
      simp only [Option.some.injEq, Addr.mk.injEq, and_true] at e2
      obtain ⟨rfl, rfl⟩ := e2
      obtain ⟨b3, o3, rfl, hcp⟩ := H2.out p hpl
      have Hp := Lib.hid hp
      clear hp
      by_cases q3 : gi above p ≤ gi row k
      · have d3 : decide (gi above p ≤ gi row k) = true := by simp; omega
        have Hn := Lib.hid (show ¬ DpBel row above from fun h => by have := h.2.2 k hlt; rw [← Hp.out] at this; omega)
        clear q3
        go_wp2
        go_ret
        exact ⟨Ans.no Hn.out, rfl⟩
      · have d3 : decide (gi above p ≤ gi row k) = false := by simp; omega
        have Hin := Lib.hid (show gi row k < gi above (k + 1) by rw [← Hp.out]; omega)
        clear q3
        go_wp2
        go_round
        case rel =>
          refine ⟨p, by have := Hp.out; omega, rfl, fun j hj => ?_⟩
          by_cases e : j = k
          · subst e; exact Hin.out
          · exact Hd.out j (by have := Hp.out; omega)
        case measure => have := Hp.out; simp [intOf]; omega
    · obtain rfl : k = row.length := by omega
      have Hy := Lib.hid (show DpBel row above from ⟨by have := Q4.out; omega, by have := Q4.out; omega, Hd.out⟩)
      go_wp2
      go_ret
      exact ⟨Ans.yes Hy.out, rfl⟩

set_option maxRecDepth 100000 in
set_option maxHeartbeats 1600000 in
theorem dpGood_any (ao : Option Addr) (c : Nat) (rows : List (List Int)) (n : Nat) (w : World) (hn : n ≤ 6) (hs : Small rows) (hm : MatAt w ao rows) :
    Calls Tryd.prog 11 #[.slice ao rows.length c, .int .i64 n] w fun e w' => Ans (DpGood rows n) e ∧ Q w w' := by
  have hl := hs.1
  have hmx : rows.length ≤ 9223372036854775807 := by omega
  have Hm := Lib.hid hm
  have Hs := Lib.hid hs
  clear hm hs
  by_cases q2 : n < rows.length
  · have d2 : decide (n < rows.length) = true := by simp; omega
    have Hn := Lib.hid (show ¬ DpGood rows n from fun h => by have := h.1; omega)
    go_enter Tryd.func11, Tryd.ntmps11
    go_wp2
    go_ret
    exact ⟨Ans.no Hn.out, Q.refl _⟩
  have d2 : decide (n < rows.length) = false := by simp; omega
  have Q2 := Lib.hid q2
  clear q2
  go_enter Tryd.func11, Tryd.ntmps11
  go_wp2
  clear d2
  go_loopw [13] (fun i wr => ∃ k : Nat, k ≤ rows.length ∧ i = .int .i64 k ∧ (∀ j, j < k → DpRow (gr rows j) n ∧ (0 < j → DpBel (gr rows j) (gr rows (j - 1)))) ∧ Q w wr) (fun i _ => rows.length - (intOf i).toNat)
  case atStart => exact ⟨0, Nat.zero_le _, rfl, fun j hj => absurd hj (by omega), Q.refl _⟩
  case round =>
    obtain ⟨k, hk, rfl, hd, hq⟩ := hrel
    have Hd := Lib.hid hd
    have HQ := Lib.hid hq
    clear hd hq
    by_cases hlt : k < rows.length
    · obtain ⟨b1, o1, r1, d1, rfl, hc1, hr1, _, _⟩ := (Hm.out.below (HQ.out.below _)) k hlt
      have Hr1 := Lib.hid hr1
      have hlk := Hs.out.2 k hlt
      have Hk := Lib.hid (show ∀ h : DpGood rows n, DpRow (gr rows k) n ∧ (0 < k → DpBel (gr rows k) (gr rows (k - 1))) from fun h => h.2 k hlt)
      clear hr1
      go_wp2_with fail
      refine (dpRow_any r1 d1 (gr rows k) n wr hn hlk Hr1.out).mono ?_
      rintro e w2 ⟨ha, hq2⟩
      have HQ2 := Lib.hid (HQ.out.trans hq2)
      have Hr2 := Lib.hid (Hr1.out.below (hq2.below _))
      clear hq2 HQ Hr1 hc1
      by_cases q3 : DpRow (gr rows k) n
      · have Q3 := Lib.hid q3
        clear q3
        obtain rfl := ha.is Q3.out
        clear ha
        by_cases q0 : 0 < k
        · obtain ⟨p, hp⟩ : ∃ p, p = k - 1 := ⟨_, rfl⟩
          have hw : IntKind.i64.wrap ((k : Int) - 1) = (p : Int) := by rw [w64 (by omega)]; omega
          have hpl : p < rows.length := by omega
          obtain ⟨b1', o1', r3, d3, e2, hcp, hr3, _, _⟩ := (Hm.out.below (HQ2.out.below _)) p hpl
          simp only [Option.some.injEq, Addr.mk.injEq, and_true] at e2
          obtain ⟨rfl, rfl⟩ := e2
          have Hr3 := Lib.hid hr3
          have hlp := Hs.out.2 p hpl
          have Hp := Lib.hid hp
          clear hp hr3
          go_wp2_with fail
          refine (dpBelow_any r1 r3 d1 d3 (gr rows k) (gr rows p) w2 Q3.out.1 hlk hlp Hr2.out Hr3.out).mono ?_
          rintro e w3 ⟨ha, rfl⟩
          by_cases q4 : DpBel (gr rows k) (gr rows p)
          · have Q4 := Lib.hid q4
            clear q4
            obtain rfl := ha.is Q4.out
            clear ha
            go_wp2
            go_roundw
            case rel =>
              refine ⟨k + 1, by omega, by go_num, fun j hj => ?_, HQ2.out⟩
              by_cases e : j = k
              · subst e; exact ⟨Q3.out, fun _ => by rw [← Hp.out]; exact Q4.out⟩
              · exact Hd.out j (by omega)
            case measure => simp [intOf]; omega
          · have Q4 := Lib.hid q4
            have Hn := Lib.hid (show ¬ DpGood rows n from fun h => Q4.out (by have := (Hk.out h).2 q0; rw [← Hp.out] at this; exact this))
            clear q4
            obtain rfl := ha.isnt Q4.out
            clear ha
            go_wp2
            go_ret
            exact ⟨Ans.no Hn.out, HQ2.out⟩
        · go_wp2
          go_roundw
          case rel =>
            refine ⟨k + 1, by omega, by go_num, fun j hj => ?_, HQ2.out⟩
            by_cases e : j = k
            · subst e; exact ⟨Q3.out, fun h => absurd h q0⟩
            · exact Hd.out j (by omega)
          case measure => simp [intOf]; omega
      · have Q3 := Lib.hid q3
        have Hn := Lib.hid (show ¬ DpGood rows n from fun h => Q3.out (Hk.out h).1)
        clear q3
        obtain rfl := ha.isnt Q3.out
        clear ha
        go_wp2
        go_ret
        exact ⟨Ans.no Hn.out, HQ2.out⟩
    · obtain rfl : k = rows.length := by omega
      have Hy := Lib.hid (show DpGood rows n from ⟨by have := Q2.out; omega, Hd.out⟩)
      go_wp2
      go_ret
      exact ⟨Ans.yes Hy.out, HQ.out⟩
end Go.Proofs.YtfempacfaeknpaaDoor
