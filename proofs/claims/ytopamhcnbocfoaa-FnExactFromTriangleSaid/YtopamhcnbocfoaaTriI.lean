/- Contracts: rows, triangles, by the program and by the model. Condition: small tables. -/
import Derived.Test.YtopamhcnbocfoaaSpecA
import Derived.Test.YtopamhcnbocfoaaTriM
namespace Go.Proofs.Ytopamhcnbocfoaa
open Go.RowKit

set_option maxRecDepth 100000 in
set_option maxHeartbeats 400000 in
theorem isRow_any (ao : Option Addr) (c : Nat) (xs : List Int) (w : World) (hn : xs.length ≤ 1048576) (hx : IntsAt w ao xs) :
    Calls Try.prog 109 #[.slice ao xs.length c] w fun e w' => Ans (isRowP xs) e ∧ w = w' := by
  have hmx : xs.length ≤ 9223372036854775807 := by omega
  by_cases h0 : 1 ≤ xs.length
  · by_cases h6 : xs.length ≤ 6
    · have hd6 : decide ((6 : Int) < (xs.length : Int)) = false := by simp; omega
      have Hx := Lib.hid hx
      clear hx
      go_enter Try.func109, Try.ntmps109
      go_wp2
      go_loop [15] (fun i => ∃ k : Nat, k ≤ xs.length ∧ i = .int .i64 k ∧ (∀ j, j < k → (0 ≤ gi xs j ∧ gi xs j ≤ 15) ∧ (0 < j → gi xs (j - 1) < gi xs j))) (fun i => xs.length - (intOf i).toNat)
      case atStart => exact ⟨0, Nat.zero_le _, rfl, fun j hj => absurd hj (by omega)⟩
      case round =>
        obtain ⟨k, hk, rfl, heq⟩ := hrel
        by_cases hlt : k < xs.length
        · obtain ⟨b, o, e0, hc⟩ := Hx.out k hlt
          have Heq := Lib.hid heq
          clear heq
          obtain ⟨x, hxv⟩ : ∃ x, x = gi xs k := ⟨_, rfl⟩
          rw [← hxv] at hc
          have Hxv := Lib.hid hxv
          clear hxv
          by_cases hneg : x < 0
          · subst e0
            go_wp2
            go_ret
            exact ⟨Ans.no fun h => by have := (h.2.2 k hlt).1.1; rw [← Hxv.out] at this; omega, rfl⟩
          · by_cases hbig : 15 < x
            · have hd : decide ((15 : Int) < x) = true := by simpa using hbig
              subst e0
              go_wp2
              go_ret
              exact ⟨Ans.no fun h => by have := (h.2.2 k hlt).1.2; rw [← Hxv.out] at this; omega, rfl⟩
            · have hd : decide ((15 : Int) < x) = false := by simpa using hbig
              by_cases hk0 : 0 < k
              · have hd0 : decide ((0 : Int) < (k : Int)) = true := by simp; omega
                obtain ⟨b', o', e0', hc'⟩ := Hx.out (k - 1) (by omega)
                rw [e0] at e0'
                cases e0'
                obtain ⟨y, hyv⟩ : ∃ y, y = gi xs (k - 1) := ⟨_, rfl⟩
                rw [← hyv] at hc'
                have Hyv := Lib.hid hyv
                clear hyv
                subst e0
                by_cases hle : x ≤ y
                · go_wp2
                  go_ret
                  exact ⟨Ans.no fun h => by have := (h.2.2 k hlt).2 hk0; rw [← Hxv.out, ← Hyv.out] at this; omega, rfl⟩
                · go_wp2
                  go_round
                  case rel =>
                    refine ⟨k + 1, by omega, by go_num, fun j hj => ?_⟩
                    by_cases e : j = k
                    · subst e; rw [← Hxv.out, ← Hyv.out]; exact ⟨⟨by omega, by omega⟩, fun _ => by omega⟩
                    · exact Heq.out j (by omega)
                  case measure => simp [intOf]; omega
              · have hd0 : decide ((0 : Int) < (k : Int)) = false := by simp; omega
                subst e0
                go_wp2
                go_round
                case rel =>
                  refine ⟨k + 1, by omega, by go_num, fun j hj => ?_⟩
                  obtain rfl : j = k := by omega
                  rw [← Hxv.out]
                  exact ⟨⟨by omega, by omega⟩, fun h => absurd h hk0⟩
                case measure => simp [intOf]; omega
        · obtain rfl : k = xs.length := by omega
          go_wp2
          go_ret
          exact ⟨Ans.yes ⟨h0, h6, heq⟩, rfl⟩
    · have hd6 : decide ((6 : Int) < (xs.length : Int)) = true := by simp; omega
      go_enter Try.func109, Try.ntmps109
      go_wp2
      go_ret
      exact ⟨Ans.no fun h => h6 h.2.1, rfl⟩
  · go_enter Try.func109, Try.ntmps109
    go_wp2
    go_ret
    exact ⟨Ans.no fun h => h0 h.1, rfl⟩

def risesP (lo hi : Int) (xs : List Int) : Prop := ∀ k, k < xs.length → (lo ≤ gi xs k ∧ gi xs k ≤ hi) ∧ (0 < k → gi xs (k - 1) < gi xs k)

set_option maxRecDepth 100000 in
set_option maxHeartbeats 400000 in
theorem l1Rising_any (ao : Option Addr) (c : Nat) (lo hi : Int) (xs : List Int) (w : World) (hn : xs.length ≤ 1048576) (hx : IntsAt w ao xs) :
    Calls Try.prog 107 #[.slice ao xs.length c, .int .i64 lo, .int .i64 hi] w fun e w' => Ans (risesP lo hi xs) e ∧ w = w' := by
  have hmx : xs.length ≤ 9223372036854775807 := by omega
  have Hx := Lib.hid hx
  clear hx
  go_enter Try.func107, Try.ntmps107
  go_wp2
  go_loop [11] (fun i => ∃ k : Nat, k ≤ xs.length ∧ i = .int .i64 k ∧ (∀ j, j < k → (lo ≤ gi xs j ∧ gi xs j ≤ hi) ∧ (0 < j → gi xs (j - 1) < gi xs j))) (fun i => xs.length - (intOf i).toNat)
  case atStart => exact ⟨0, Nat.zero_le _, rfl, fun j hj => absurd hj (by omega)⟩
  case round =>
    obtain ⟨k, hk, rfl, heq⟩ := hrel
    by_cases hlt : k < xs.length
    · obtain ⟨b, o, e0, hc⟩ := Hx.out k hlt
      have Heq := Lib.hid heq
      clear heq
      obtain ⟨x, hxv⟩ : ∃ x, x = gi xs k := ⟨_, rfl⟩
      rw [← hxv] at hc
      have Hxv := Lib.hid hxv
      clear hxv
      by_cases hin : lo ≤ x ∧ x ≤ hi
      · have Hin := Lib.hid hin
        by_cases hk0 : 0 < k
        · have hd0 : decide ((0 : Int) < (k : Int)) = true := by simp; omega
          obtain ⟨b', o', e0', hc'⟩ := Hx.out (k - 1) (by omega)
          rw [e0] at e0'
          cases e0'
          obtain ⟨y, hyv⟩ : ∃ y, y = gi xs (k - 1) := ⟨_, rfl⟩
          rw [← hyv] at hc'
          have Hyv := Lib.hid hyv
          clear hyv hin
          subst e0
          go_wp2_with fail
          refine (l1In_any _ _ _ w).mono ?_
          rintro e w2 ⟨ha, rfl⟩
          obtain rfl := ha.is Hin.out
          clear ha
          by_cases hle : x ≤ y
          · go_wp2
            go_ret
            exact ⟨Ans.no fun h => by have := (h k hlt).2 hk0; rw [← Hxv.out, ← Hyv.out] at this; omega, rfl⟩
          · go_wp2
            go_round
            case rel =>
              refine ⟨k + 1, by omega, by go_num, fun j hj => ?_⟩
              by_cases e : j = k
              · subst e; rw [← Hxv.out, ← Hyv.out]; exact ⟨Hin.out, fun _ => by omega⟩
              · exact Heq.out j (by omega)
            case measure => simp [intOf]; omega
        · have hd0 : decide ((0 : Int) < (k : Int)) = false := by simp; omega
          subst e0
          clear hin
          go_wp2_with fail
          refine (l1In_any _ _ _ w).mono ?_
          rintro e w2 ⟨ha, rfl⟩
          obtain rfl := ha.is Hin.out
          clear ha
          go_wp2
          go_round
          case rel =>
            refine ⟨k + 1, by omega, by go_num, fun j hj => ?_⟩
            obtain rfl : j = k := by omega
            rw [← Hxv.out]
            exact ⟨Hin.out, fun h => absurd h hk0⟩
          case measure => simp [intOf]; omega
      · have Hin := Lib.hid hin
        clear hin
        subst e0
        go_wp2_with fail
        refine (l1In_any _ _ _ w).mono ?_
        rintro e w2 ⟨ha, rfl⟩
        obtain rfl := ha.isnt Hin.out
        clear ha
        go_wp2
        go_ret
        exact ⟨Ans.no fun h => by have := (h k hlt).1; rw [← Hxv.out] at this; exact Hin.out this, rfl⟩
    · obtain rfl : k = xs.length := by omega
      go_wp2
      go_ret
      exact ⟨Ans.yes heq, rfl⟩

set_option maxRecDepth 100000 in
set_option maxHeartbeats 400000 in
theorem fitsUnder_any (a1 a2 : Option Addr) (c1 c2 : Nat) (row above : List Int) (w : World) (hn : row.length ≤ 1048576) (hl : row.length = above.length + 1) (h1 : IntsAt w a1 row) (h2 : IntsAt w a2 above) :
    Calls Try.prog 110 #[.slice a1 row.length c1, .slice a2 above.length c2] w fun e w' => Ans (fitsP row above) e ∧ w = w' := by
  have hmx : row.length ≤ 9223372036854775807 := by omega
  have hmx2 : above.length ≤ 9223372036854775807 := by omega
  have H1 := Lib.hid h1
  have H2 := Lib.hid h2
  clear h1 h2
  go_enter Try.func110, Try.ntmps110
  go_wp2
  go_loop [9] (fun i => ∃ k : Nat, k ≤ above.length ∧ i = .int .i64 k ∧ (∀ j, j < k → gi row j ≤ gi above j ∧ gi above j ≤ gi row (j + 1))) (fun i => above.length - (intOf i).toNat)
  case atStart => exact ⟨0, Nat.zero_le _, rfl, fun j hj => absurd hj (by omega)⟩
  case round =>
    obtain ⟨k, hk, rfl, heq⟩ := hrel
    by_cases hlt : k < above.length
    · obtain ⟨b, o, rfl, hc⟩ := H2.out k hlt
      obtain ⟨b', o', e0, hc1⟩ := H1.out k (by omega)
      obtain ⟨b'', o'', e0', hc2⟩ := H1.out (k + 1) (by omega)
      rw [e0] at e0'
      cases e0'
      subst e0
      have Heq := Lib.hid heq
      clear heq
      obtain ⟨x, hxv⟩ : ∃ x, x = gi above k := ⟨_, rfl⟩
      obtain ⟨y, hyv⟩ : ∃ y, y = gi row k := ⟨_, rfl⟩
      obtain ⟨z, hzv⟩ : ∃ z, z = gi row (k + 1) := ⟨_, rfl⟩
      rw [← hxv] at hc
      rw [← hyv] at hc1
      rw [← hzv] at hc2
      have Hxv := Lib.hid hxv
      have Hyv := Lib.hid hyv
      have Hzv := Lib.hid hzv
      clear hxv hyv hzv
      by_cases hA : x < y
      · go_wp2
        go_ret
        exact ⟨Ans.no fun h => by have := (h k hlt).1; rw [← Hxv.out, ← Hyv.out] at this; omega, rfl⟩
      · by_cases hB : z < x
        · go_wp2
          go_ret
          exact ⟨Ans.no fun h => by have := (h k hlt).2; rw [← Hxv.out, ← Hzv.out] at this; omega, rfl⟩
        · go_wp2
          go_round
          case rel =>
            refine ⟨k + 1, by omega, by go_num, fun j hj => ?_⟩
            by_cases e : j = k
            · subst e; rw [← Hxv.out, ← Hyv.out, ← Hzv.out]; exact ⟨by omega, by omega⟩
            · exact Heq.out j (by omega)
          case measure => simp [intOf]; omega
    · obtain rfl : k = above.length := by omega
      go_wp2
      go_ret
      exact ⟨Ans.yes heq, rfl⟩

set_option maxRecDepth 100000 in
set_option maxHeartbeats 400000 in
theorem trFits_any (a1 a2 : Option Addr) (c1 c2 : Nat) (row above : List Int) (w : World) (hn : row.length ≤ 1048576) (hl : row.length = above.length + 1) (h1 : IntsAt w a1 row) (h2 : IntsAt w a2 above) :
    Calls Try.prog 108 #[.slice a2 above.length c2, .slice a1 row.length c1] w fun e w' => Ans (fitsP row above) e ∧ w = w' := by
  have hmx : row.length ≤ 9223372036854775807 := by omega
  have hmx2 : above.length ≤ 9223372036854775807 := by omega
  have H1 := Lib.hid h1
  have H2 := Lib.hid h2
  clear h1 h2
  go_enter Try.func108, Try.ntmps108
  go_wp2
  go_loop [9] (fun i => ∃ k : Nat, k ≤ above.length ∧ i = .int .i64 k ∧ (∀ j, j < k → gi row j ≤ gi above j ∧ gi above j ≤ gi row (j + 1))) (fun i => above.length - (intOf i).toNat)
  case atStart => exact ⟨0, Nat.zero_le _, rfl, fun j hj => absurd hj (by omega)⟩
  case round =>
    obtain ⟨k, hk, rfl, heq⟩ := hrel
    by_cases hlt : k < above.length
    · obtain ⟨b, o, rfl, hc⟩ := H2.out k hlt
      obtain ⟨b', o', e0, hc1⟩ := H1.out k (by omega)
      obtain ⟨b'', o'', e0', hc2⟩ := H1.out (k + 1) (by omega)
      rw [e0] at e0'
      cases e0'
      subst e0
      have Heq := Lib.hid heq
      clear heq
      obtain ⟨x, hxv⟩ : ∃ x, x = gi above k := ⟨_, rfl⟩
      obtain ⟨y, hyv⟩ : ∃ y, y = gi row k := ⟨_, rfl⟩
      obtain ⟨z, hzv⟩ : ∃ z, z = gi row (k + 1) := ⟨_, rfl⟩
      rw [← hxv] at hc
      rw [← hyv] at hc1
      rw [← hzv] at hc2
      have Hxv := Lib.hid hxv
      have Hyv := Lib.hid hyv
      have Hzv := Lib.hid hzv
      clear hxv hyv hzv
      by_cases hA : x < y
      · go_wp2
        go_ret
        exact ⟨Ans.no fun h => by have := (h k hlt).1; rw [← Hxv.out, ← Hyv.out] at this; omega, rfl⟩
      · by_cases hB : z < x
        · go_wp2
          go_ret
          exact ⟨Ans.no fun h => by have := (h k hlt).2; rw [← Hxv.out, ← Hzv.out] at this; omega, rfl⟩
        · go_wp2
          go_round
          case rel =>
            refine ⟨k + 1, by omega, by go_num, fun j hj => ?_⟩
            by_cases e : j = k
            · subst e; rw [← Hxv.out, ← Hyv.out, ← Hzv.out]; exact ⟨by omega, by omega⟩
            · exact Heq.out j (by omega)
          case measure => simp [intOf]; omega
    · obtain rfl : k = above.length := by omega
      go_wp2
      go_ret
      exact ⟨Ans.yes heq, rfl⟩
end Go.Proofs.Ytopamhcnbocfoaa
