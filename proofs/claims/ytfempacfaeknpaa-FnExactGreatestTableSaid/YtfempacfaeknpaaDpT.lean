/- Contracts: whether rows are a descending plane partition, and numbers told of them, by the model. Conditions: lengths up to 2^20. -/
import Derived.Test.YtfempacfaeknpaaDpS
import Derived.Test.YtfempacfaeknpaaDpV
import Derived.Test.YtfempacfaeknpaaScal
namespace Go.Proofs.Ytfempacfaeknpaa
open Go.RowKit

set_option maxRecDepth 100000 in
set_option maxHeartbeats 800000 in
theorem dpParts_any (ao : Option Addr) (c : Nat) (rows : List (List Int)) (w : World) (hg : DpGood rows 6) (hm : MatAt w ao rows) :
    Calls Try.prog 77 #[.slice ao rows.length c] w fun e w' => e = .returned (.int .i64 (sumT fOne rows rows.length)) ∧ w = w' := by
  have hl := (hg.bounds (by omega)).1
  have hmx : rows.length ≤ 9223372036854775807 := by omega
  have Hm := Lib.hid hm
  have Hg := Lib.hid hg
  clear hm hg
  go_enter Try.func77, Try.ntmps77
  go_wp2
  go_loop [3, 8] (fun s i => ∃ k : Nat, k ≤ rows.length ∧ i = .int .i64 k ∧ s = .int .i64 (sumT fOne rows k)) (fun _ i => rows.length - (intOf i).toNat)
  case atStart => exact ⟨0, Nat.zero_le _, rfl, rfl⟩
  case round =>
    obtain ⟨k, hk, rfl, rfl⟩ := hrel
    by_cases hlt : k < rows.length
    · obtain ⟨b1, o1, r1, d1, rfl, hc1, hr1, _, _⟩ := Hm.out k hlt
      have hl1 : (gr rows k).length ≤ 6 := by have := (Hg.out.bounds (by omega)).2 k hlt; omega
      have hb1 := Hg.out.sum_bd tells_one k hk
      have E1 := Lib.hid (show sumT fOne rows (k + 1) = sumT fOne rows k + ((gr rows k).length : Int) by rw [sumT_step, sumR_one])
      obtain ⟨u, hu⟩ : ∃ u, u = sumT fOne rows k := ⟨_, rfl⟩
      obtain ⟨y, hy⟩ : ∃ y, y = (gr rows k).length := ⟨_, rfl⟩
      rw [← hu] at hb1 ⊢
      rw [← hy] at hc1 hl1
      rw [← hu, ← hy] at E1
      have hw : IntKind.i64.wrap (u + (y : Int)) = u + (y : Int) := w64 (by omega)
      have hy2 : y ≤ 9223372036854775807 := by omega
      clear hr1 hu hy
      go_wp2
      go_round
      case rel => exact ⟨k + 1, by omega, by go_num, by rw [E1.out]⟩
      case measure => simp [intOf]; omega
    · obtain rfl : k = rows.length := by omega
      go_wp2
      go_ret
      exact ⟨rfl, rfl⟩

set_option maxRecDepth 100000 in
set_option maxHeartbeats 1600000 in
theorem dpSpecial_any (ao : Option Addr) (c : Nat) (rows : List (List Int)) (w : World) (hg : DpGood rows 6) (hm : MatAt w ao rows) :
    Calls Try.prog 80 #[.slice ao rows.length c] w fun e w' => e = .returned (.int .i64 (sumT fSpec rows rows.length)) ∧ w = w' := by
  have hl := (hg.bounds (by omega)).1
  have hmx : rows.length ≤ 9223372036854775807 := by omega
  have Hm := Lib.hid hm
  have Hg := Lib.hid hg
  clear hm hg
  go_enter Try.func80, Try.ntmps80
  go_wp2
  go_loop [3, 10] (fun s i => ∃ k : Nat, k ≤ rows.length ∧ i = .int .i64 k ∧ s = .int .i64 (sumT fSpec rows k)) (fun _ i => rows.length - (intOf i).toNat)
  case atStart => exact ⟨0, Nat.zero_le _, rfl, rfl⟩
  case round =>
    obtain ⟨k, hk, rfl, rfl⟩ := hrel
    by_cases hlt : k < rows.length
    · obtain ⟨b1, o1, r1, d1, rfl, hc1, hr1, _, _⟩ := Hm.out k hlt
      have Hr1 := Lib.hid hr1
      have hl1 : (gr rows k).length ≤ 9223372036854775807 := by have := (Hg.out.bounds (by omega)).2 k hlt; omega
      have hb1 := Hg.out.sum_bd tells_spec k hk
      have E1 := Lib.hid (sumT_step fSpec rows k)
      have Hrb := Lib.hid (Hg.out.row_bd tells_spec hlt)
      obtain ⟨u, hu⟩ : ∃ u, u = sumT fSpec rows k := ⟨_, rfl⟩
      rw [← hu] at hb1 E1 ⊢
      obtain ⟨row, hrow⟩ : ∃ row, row = gr rows k := ⟨_, rfl⟩
      have Hin := Lib.hid (fun i hi => (Hg.out.2 k hlt).1.2.2.1 i hi)
      rw [← hrow] at hc1 Hr1 hl1 E1 Hrb Hin
      clear hr1 hu hrow
      go_wp2
      go_loop [3, 16] (fun s i => ∃ t : Nat, t ≤ row.length ∧ i = .int .i64 t ∧ s = .int .i64 (u + sumF (fun i => fSpec i (gi row i)) t)) (fun _ i => row.length - (intOf i).toNat)
      case atStart => exact ⟨0, Nat.zero_le _, rfl, by simp [sumF]⟩
      case round =>
        obtain ⟨t, ht, rfl, rfl⟩ := hrel
        by_cases htl : t < row.length
        · obtain ⟨b2, o2, rfl, hc2⟩ := Hr1.out t htl
          have hb2 := Hrb.out t ht
          have E2 := Lib.hid (show sumF (fun i => fSpec i (gi row i)) (t + 1) = sumF (fun i => fSpec i (gi row i)) t + fSpec t (gi row t) from rfl)
          have hx := Hin.out t htl
          obtain ⟨v, hv⟩ : ∃ v, v = sumF (fun i => fSpec i (gi row i)) t := ⟨_, rfl⟩
          rw [← hv] at hb2 E2 ⊢
          obtain ⟨x, hxx⟩ : ∃ x, x = gi row t := ⟨_, rfl⟩
          rw [← hxx] at hc2 hx E2
          clear hv hxx
          by_cases q : x ≤ (t : Int)
          · have d : decide (x ≤ (t : Int)) = true := decide_eq_true q
            have E3 := Lib.hid (show fSpec t x = 1 from if_pos q)
            clear q
            go_wp2
            go_round
            case rel => exact ⟨t + 1, by omega, by go_num, by rw [E2.out, E3.out]; go_num⟩
            case measure => simp [intOf]; omega
          · have d : decide (x ≤ (t : Int)) = false := decide_eq_false q
            have E3 := Lib.hid (show fSpec t x = 0 from if_neg q)
            clear q
            go_wp2
            go_round
            case rel => exact ⟨t + 1, by omega, by go_num, by rw [E2.out, E3.out]; rw [Int.add_zero]⟩
            case measure => simp [intOf]; omega
        · obtain rfl : t = row.length := by omega
          have E3 := Lib.hid (show u + sumF (fun i => fSpec i (gi row i)) row.length = sumT fSpec rows (k + 1) from E1.out.symm)
          go_wp2
          go_round
          case rel => exact ⟨k + 1, by omega, by go_num, by rw [E3.out]⟩
          case measure => simp [intOf]; omega
    · obtain rfl : k = rows.length := by omega
      go_wp2
      go_ret
      exact ⟨rfl, rfl⟩

set_option maxRecDepth 100000 in
set_option maxHeartbeats 1600000 in
theorem dpEqual_any (ao : Option Addr) (c : Nat) (rows : List (List Int)) (n : Int) (w : World) (hg : DpGood rows 6) (hm : MatAt w ao rows) :
    Calls Try.prog 82 #[.slice ao rows.length c, .int .i64 n] w fun e w' => e = .returned (.int .i64 (sumT (fEq n) rows rows.length)) ∧ w = w' := by
  have hl := (hg.bounds (by omega)).1
  have hmx : rows.length ≤ 9223372036854775807 := by omega
  have Hm := Lib.hid hm
  have Hg := Lib.hid hg
  clear hm hg
  go_enter Try.func82, Try.ntmps82
  go_wp2
  go_loop [5, 12] (fun s i => ∃ k : Nat, k ≤ rows.length ∧ i = .int .i64 k ∧ s = .int .i64 (sumT (fEq n) rows k)) (fun _ i => rows.length - (intOf i).toNat)
  case atStart => exact ⟨0, Nat.zero_le _, rfl, rfl⟩
  case round =>
    obtain ⟨k, hk, rfl, rfl⟩ := hrel
    by_cases hlt : k < rows.length
    · obtain ⟨b1, o1, r1, d1, rfl, hc1, hr1, _, _⟩ := Hm.out k hlt
      have Hr1 := Lib.hid hr1
      have hl1 : (gr rows k).length ≤ 9223372036854775807 := by have := (Hg.out.bounds (by omega)).2 k hlt; omega
      have hb1 := Hg.out.sum_bd (tells_eq n) k hk
      have E1 := Lib.hid (sumT_step (fEq n) rows k)
      have Hrb := Lib.hid (Hg.out.row_bd (tells_eq n) hlt)
      obtain ⟨u, hu⟩ : ∃ u, u = sumT (fEq n) rows k := ⟨_, rfl⟩
      rw [← hu] at hb1 E1 ⊢
      obtain ⟨row, hrow⟩ : ∃ row, row = gr rows k := ⟨_, rfl⟩
      have Hin := Lib.hid (fun i hi => (Hg.out.2 k hlt).1.2.2.1 i hi)
      rw [← hrow] at hc1 Hr1 hl1 E1 Hrb Hin
      clear hr1 hu hrow
      go_wp2
      go_loop [5, 18] (fun s i => ∃ t : Nat, t ≤ row.length ∧ i = .int .i64 t ∧ s = .int .i64 (u + sumF (fun i => (fEq n) i (gi row i)) t)) (fun _ i => row.length - (intOf i).toNat)
      case atStart => exact ⟨0, Nat.zero_le _, rfl, by simp [sumF]⟩
      case round =>
        obtain ⟨t, ht, rfl, rfl⟩ := hrel
        by_cases htl : t < row.length
        · obtain ⟨b2, o2, rfl, hc2⟩ := Hr1.out t htl
          have hb2 := Hrb.out t ht
          have E2 := Lib.hid (show sumF (fun i => (fEq n) i (gi row i)) (t + 1) = sumF (fun i => (fEq n) i (gi row i)) t + (fEq n) t (gi row t) from rfl)
          have hx := Hin.out t htl
          obtain ⟨v, hv⟩ : ∃ v, v = sumF (fun i => (fEq n) i (gi row i)) t := ⟨_, rfl⟩
          rw [← hv] at hb2 E2 ⊢
          obtain ⟨x, hxx⟩ : ∃ x, x = gi row t := ⟨_, rfl⟩
          rw [← hxx] at hc2 hx E2
          clear hv hxx
          by_cases q : x = n
          · have d : (x == n) = true := by simpa using q
            have E3 := Lib.hid (show (fEq n) t x = 1 from if_pos q)
            clear q
            go_wp2
            go_round
            case rel => exact ⟨t + 1, by omega, by go_num, by rw [E2.out, E3.out]; go_num⟩
            case measure => simp [intOf]; omega
          · have d : (x == n) = false := by simpa using q
            have E3 := Lib.hid (show (fEq n) t x = 0 from if_neg q)
            clear q
            go_wp2
            go_round
            case rel => exact ⟨t + 1, by omega, by go_num, by rw [E2.out, E3.out]; rw [Int.add_zero]⟩
            case measure => simp [intOf]; omega
        · obtain rfl : t = row.length := by omega
          have E3 := Lib.hid (show u + sumF (fun i => (fEq n) i (gi row i)) row.length = sumT (fEq n) rows (k + 1) from E1.out.symm)
          go_wp2
          go_round
          case rel => exact ⟨k + 1, by omega, by go_num, by rw [E3.out]⟩
          case measure => simp [intOf]; omega
    · obtain rfl : k = rows.length := by omega
      go_wp2
      go_ret
      exact ⟨rfl, rfl⟩

set_option maxRecDepth 100000 in
set_option maxHeartbeats 800000 in
theorem specPartsOf_any (ao : Option Addr) (c : Nat) (rows : List (List Int)) (w : World) (hs : Small rows) (hm : MatAt w ao rows) :
    Calls Try.prog 32 #[.slice ao rows.length c] w fun e w' => IRes (DpGood rows 6) (sumT fOne rows rows.length) e ∧ Below w.heap.size w w' := by
  have Hs := Lib.hid hs
  have Hm := Lib.hid hm
  clear hs hm
  go_enter Try.func32, Try.ntmps32
  go_wp2_with fail
  refine (dpGood_any ao c rows 6 w (by omega) Hs.out Hm.out).mono ?_
  rintro e w1 ⟨ha, hq⟩
  have Hq := Lib.hid (hq.below w.heap.size)
  have Hm1 := Lib.hid (Hm.out.below (hq.below _))
  clear hq
  by_cases q : DpGood rows 6
  · have Q1 := Lib.hid q
    obtain rfl := ha.is q
    clear q ha
    go_wp2_with fail
    refine (dpParts_any ao c rows w1 Q1.out Hm1.out).mono ?_
    rintro e w2 ⟨rfl, rfl⟩
    go_wp2
    go_ret2
    exact ⟨IRes.yes Q1.out, Hq.out⟩
  · have Q1 := Lib.hid q
    obtain rfl := ha.isnt q
    clear q ha
    go_wp2
    go_ret2
    exact ⟨IRes.no Q1.out, Hq.out⟩

set_option maxRecDepth 100000 in
set_option maxHeartbeats 800000 in
theorem specSpecialParts_any (ao : Option Addr) (c : Nat) (rows : List (List Int)) (w : World) (hs : Small rows) (hm : MatAt w ao rows) :
    Calls Try.prog 34 #[.slice ao rows.length c] w fun e w' => IRes (DpGood rows 6) (sumT fSpec rows rows.length) e ∧ Below w.heap.size w w' := by
  have Hs := Lib.hid hs
  have Hm := Lib.hid hm
  clear hs hm
  go_enter Try.func34, Try.ntmps34
  go_wp2_with fail
  refine (dpGood_any ao c rows 6 w (by omega) Hs.out Hm.out).mono ?_
  rintro e w1 ⟨ha, hq⟩
  have Hq := Lib.hid (hq.below w.heap.size)
  have Hm1 := Lib.hid (Hm.out.below (hq.below _))
  clear hq
  by_cases q : DpGood rows 6
  · have Q1 := Lib.hid q
    obtain rfl := ha.is q
    clear q ha
    go_wp2_with fail
    refine (dpSpecial_any ao c rows w1 Q1.out Hm1.out).mono ?_
    rintro e w2 ⟨rfl, rfl⟩
    go_wp2
    go_ret2
    exact ⟨IRes.yes Q1.out, Hq.out⟩
  · have Q1 := Lib.hid q
    obtain rfl := ha.isnt q
    clear q ha
    go_wp2
    go_ret2
    exact ⟨IRes.no Q1.out, Hq.out⟩

set_option maxRecDepth 100000 in
set_option maxHeartbeats 1600000 in
theorem specSumOfParts_any (ao : Option Addr) (c : Nat) (rows : List (List Int)) (w : World) (hs : Small rows) (hm : MatAt w ao rows) :
    Calls Try.prog 38 #[.slice ao rows.length c] w fun e w' => IRes (DpGood rows 6) (sumT fId rows rows.length) e ∧ Below w.heap.size w w' := by
  have Hs := Lib.hid hs
  have Hm := Lib.hid hm
  clear hs hm
  go_enter Try.func38, Try.ntmps38
  go_wp2_with fail
  refine (dpGood_any ao c rows 6 w (by omega) Hs.out Hm.out).mono ?_
  rintro e w1 ⟨ha, hq⟩
  have Hq := Lib.hid (hq.below w.heap.size)
  have Hm1 := Lib.hid (Hm.out.below (hq.below _))
  clear hq
  by_cases q : DpGood rows 6
  · have Hg := Lib.hid q
    obtain rfl := ha.is q
    clear q ha
    have hl := (Hg.out.bounds (by omega)).1
    have hmx : rows.length ≤ 9223372036854775807 := by omega
    go_wp2
    go_loop [4, 14] (fun s i => ∃ k : Nat, k ≤ rows.length ∧ i = .int .i64 k ∧ s = .int .i64 (sumT fId rows k)) (fun _ i => rows.length - (intOf i).toNat)
    case atStart => exact ⟨0, Nat.zero_le _, rfl, rfl⟩
    case round =>
      obtain ⟨k, hk, rfl, rfl⟩ := hrel
      by_cases hlt : k < rows.length
      · obtain ⟨b1, o1, r1, d1, rfl, hc1, hr1, _, _⟩ := Hm1.out k hlt
        have Hr1 := Lib.hid hr1
        have hl1 : (gr rows k).length ≤ 9223372036854775807 := by have := (Hg.out.bounds (by omega)).2 k hlt; omega
        have hb1 := Hg.out.sum_bd tells_id k hk
        have E1 := Lib.hid (sumT_step fId rows k)
        have Hrb := Lib.hid (Hg.out.row_bd tells_id hlt)
        obtain ⟨u, hu⟩ : ∃ u, u = sumT fId rows k := ⟨_, rfl⟩
        rw [← hu] at hb1 E1 ⊢
        obtain ⟨row, hrow⟩ : ∃ row, row = gr rows k := ⟨_, rfl⟩
        have Hin := Lib.hid (fun i hi => (Hg.out.2 k hlt).1.2.2.1 i hi)
        rw [← hrow] at hc1 Hr1 hl1 E1 Hrb Hin
        clear hr1 hu hrow
        go_wp2
        go_loop [4, 20] (fun s i => ∃ t : Nat, t ≤ row.length ∧ i = .int .i64 t ∧ s = .int .i64 (u + sumF (fun i => fId i (gi row i)) t)) (fun _ i => row.length - (intOf i).toNat)
        case atStart => exact ⟨0, Nat.zero_le _, rfl, by simp [sumF]⟩
        case round =>
          obtain ⟨t, ht, rfl, rfl⟩ := hrel
          by_cases htl : t < row.length
          · obtain ⟨b2, o2, rfl, hc2⟩ := Hr1.out t htl
            have hb2 := Hrb.out t ht
            have E2 := Lib.hid (show sumF (fun i => fId i (gi row i)) (t + 1) = sumF (fun i => fId i (gi row i)) t + fId t (gi row t) from rfl)
            have hx := Hin.out t htl
            obtain ⟨v, hv⟩ : ∃ v, v = sumF (fun i => fId i (gi row i)) t := ⟨_, rfl⟩
            rw [← hv] at hb2 E2 ⊢
            obtain ⟨x, hxx⟩ : ∃ x, x = gi row t := ⟨_, rfl⟩
            rw [← hxx] at hc2 hx E2
            clear hv hxx
            have hw : IntKind.i64.wrap (u + v + x) = u + v + x := w64 (by omega)
            have E3 := Lib.hid (show u + (v + fId t x) = u + v + x by show u + (v + x) = u + v + x; omega)
            go_wp2
            go_round
            case rel => exact ⟨t + 1, by omega, by go_num, by rw [E2.out, E3.out]⟩
            case measure => simp [intOf]; omega
          · obtain rfl : t = row.length := by omega
            have E3 := Lib.hid (show u + sumF (fun i => fId i (gi row i)) row.length = sumT fId rows (k + 1) from E1.out.symm)
            go_wp2
            go_round
            case rel => exact ⟨k + 1, by omega, by go_num, by rw [E3.out]⟩
            case measure => simp [intOf]; omega
      · obtain rfl : k = rows.length := by omega
        go_wp2
        go_ret2
        exact ⟨IRes.yes Hg.out, Hq.out⟩
  · have Q1 := Lib.hid q
    obtain rfl := ha.isnt q
    clear q ha
    go_wp2
    go_ret2
    exact ⟨IRes.no Q1.out, Hq.out⟩

set_option maxRecDepth 100000 in
set_option maxHeartbeats 1600000 in
theorem specPartsEqual_any (ao : Option Addr) (c : Nat) (rows : List (List Int)) (n : Int) (w : World) (hs : Small rows) (hm : MatAt w ao rows) (_hn : -9223372036854775808 ≤ n ∧ n ≤ 9223372036854775807) :
    Calls Try.prog 36 #[.slice ao rows.length c, .int .i64 n] w fun e w' => IRes (DpGood rows 6 ∧ 2 ≤ n ∧ n ≤ 6) (sumT (fEq n) rows rows.length) e ∧ Below w.heap.size w w' := by
  have Hs := Lib.hid hs
  have Hm := Lib.hid hm
  clear hs hm
  go_enter Try.func36, Try.ntmps36
  go_wp2_with fail
  refine (dpGood_any ao c rows 6 w (by omega) Hs.out Hm.out).mono ?_
  rintro e w1 ⟨ha, hq⟩
  have Hq := Lib.hid (hq.below w.heap.size)
  have Hm1 := Lib.hid (Hm.out.below (hq.below _))
  clear hq
  by_cases q : DpGood rows 6
  · have Hg := Lib.hid q
    obtain rfl := ha.is q
    clear q ha
    go_wp2_with fail
    refine (l1In_any n 2 6 w1).mono ?_
    rintro e w2 ⟨ha, rfl⟩
    by_cases q : 2 ≤ n ∧ n ≤ 6
    · have Q2 := Lib.hid q
      obtain rfl := ha.is q
      clear q ha
      go_wp2_with fail
      refine (dpEqual_any ao c rows n w1 Hg.out Hm1.out).mono ?_
      rintro e w2 ⟨rfl, rfl⟩
      go_wp2
      go_ret2
      exact ⟨IRes.yes ⟨Hg.out, Q2.out⟩, Hq.out⟩
    · have Q1 := Lib.hid (show ¬(DpGood rows 6 ∧ 2 ≤ n ∧ n ≤ 6) from fun h => q h.2)
      obtain rfl := ha.isnt q
      clear q ha
      go_wp2
      go_ret2
      exact ⟨IRes.no Q1.out, Hq.out⟩
  · have Q1 := Lib.hid (show ¬(DpGood rows 6 ∧ 2 ≤ n ∧ n ≤ 6) from fun h => q h.1)
    obtain rfl := ha.isnt q
    clear q ha
    go_wp2
    go_ret2
    exact ⟨IRes.no Q1.out, Hq.out⟩

set_option maxRecDepth 100000 in
set_option maxHeartbeats 800000 in
theorem specIsDescending_any (ao : Option Addr) (c : Nat) (rows : List (List Int)) (n : Int) (w : World) (hs : Small rows) (hm : MatAt w ao rows) (_hn : -9223372036854775808 ≤ n ∧ n ≤ 9223372036854775807) :
    Calls Try.prog 19 #[.slice ao rows.length c, .int .i64 n] w fun e w' => BRes (1 ≤ n ∧ n ≤ 6) (DpGood rows n.toNat) e ∧ Below w.heap.size w w' := by
  have Hs := Lib.hid hs
  have Hm := Lib.hid hm
  clear hs hm
  go_enter Try.func19, Try.ntmps19
  go_wp2_with fail
  refine (l1In_any n 1 6 w).mono ?_
  rintro e w2 ⟨ha, rfl⟩
  by_cases q : 1 ≤ n ∧ n ≤ 6
  · have Q2 := Lib.hid q
    obtain rfl := ha.is q
    obtain ⟨k, rfl⟩ : ∃ k : Nat, n = (k : Int) := ⟨n.toNat, by omega⟩
    have C := Lib.hid (dpGood_any ao c rows k w (by omega) Hs.out Hm.out)
    clear q ha
    go_wp2_with fail
    refine C.out.mono ?_
    rintro e w1 ⟨⟨b, rfl, hb⟩, hq⟩
    have Hq := Lib.hid (hq.below w.heap.size)
    have Hb := Lib.hid hb
    clear hq hb
    go_wp2
    go_ret2
    exact ⟨⟨b, true, rfl, .inl ⟨Q2.out, rfl, by rw [Int.toNat_natCast]; exact Hb.out⟩⟩, Hq.out⟩
  · have Q1 := Lib.hid q
    obtain rfl := ha.isnt q
    clear q ha
    go_wp2
    go_ret2
    exact ⟨⟨false, false, rfl, .inr ⟨Q1.out, rfl, rfl⟩⟩, Below.refl _ _⟩
end Go.Proofs.Ytfempacfaeknpaa
