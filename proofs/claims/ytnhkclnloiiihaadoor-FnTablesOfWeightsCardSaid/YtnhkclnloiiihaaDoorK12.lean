/- Parts of proofs: contracts and plain facts. Conditions: as each says. -/
import Derived.Test.YtnhkclnloiiihaaDoorK11
namespace Go.Proofs.YtnhkclnloiiihaaDoor
open Go.RowKit

set_option maxRecDepth 100000 in
set_option maxHeartbeats 400000 in
theorem isRow_any (ao : Option Addr) (c : Nat) (xs : List Int) (w : World) (hn : xs.length ≤ 1048576) (hx : IntsAt w ao xs) :
    Calls Tryd.prog 69 #[.slice ao xs.length c] w fun e w' => Ans (isRowP xs) e ∧ w = w' := by
  have hmx : xs.length ≤ 9223372036854775807 := by omega
  by_cases h0 : 1 ≤ xs.length
  · by_cases h6 : xs.length ≤ 6
    · have hd6 : decide ((6 : Int) < (xs.length : Int)) = false := by simp; omega
      have Hx := Lib.hid hx
      clear hx
      go_enter Tryd.func69, Tryd.ntmps69
      go_wp2
      go_loop [15] (fun i => ∃ k : Nat, k ≤ xs.length ∧ i = .int .i64 k ∧ (∀ j, j < k → (0 ≤ gi xs j ∧ gi xs j ≤ 15) ∧ (0 < j → gi xs (j - 1) < gi xs j))) (fun i => xs.length - (intOf i).toNat)
      case atStart => exact ⟨0, Nat.zero_le _, rfl, fun j hj => absurd hj (by omega)⟩
      case round =>
        obtain ⟨k, hk, rfl, heq⟩ := hrel
        by_cases hlt : k < xs.length
        · obtain ⟨b, o, e0, hc⟩ := Hx.out k hlt
          have Heq := Lib.hid heq
          clear heq
          obtain ⟨x, hxv⟩ : ∃ x, x = gi xs k := ⟨_, rfl⟩
          rw [← hxv] at hc
          have Hxv := Lib.hid hxv
          clear hxv
          by_cases hneg : x < 0
          · subst e0
            go_wp2
            go_ret
            exact ⟨Ans.no fun h => by have := (h.2.2 k hlt).1.1; rw [← Hxv.out] at this; omega, rfl⟩
          · by_cases hbig : 15 < x
            · have hd : decide ((15 : Int) < x) = true := by simpa using hbig
              subst e0
              go_wp2
              go_ret
              exact ⟨Ans.no fun h => by have := (h.2.2 k hlt).1.2; rw [← Hxv.out] at this; omega, rfl⟩
            · have hd : decide ((15 : Int) < x) = false := by simpa using hbig
              by_cases hk0 : 0 < k
              · have hd0 : decide ((0 : Int) < (k : Int)) = true := by simp; omega
                obtain ⟨b', o', e0', hc'⟩ := Hx.out (k - 1) (by omega)
                rw [e0] at e0'
                cases e0'
                obtain ⟨y, hyv⟩ : ∃ y, y = gi xs (k - 1) := ⟨_, rfl⟩
                rw [← hyv] at hc'
                have Hyv := Lib.hid hyv
                clear hyv
                subst e0
                by_cases hle : x ≤ y
                · go_wp2
                  go_ret
                  exact ⟨Ans.no fun h => by have := (h.2.2 k hlt).2 hk0; rw [← Hxv.out, ← Hyv.out] at this; omega, rfl⟩
                · go_wp2
                  go_round
                  case rel =>
                    refine ⟨k + 1, by omega, by go_num, fun j hj => ?_⟩
                    by_cases e : j = k
                    · subst e; rw [← Hxv.out, ← Hyv.out]; exact ⟨⟨by omega, by omega⟩, fun _ => by omega⟩
                    · exact Heq.out j (by omega)
                  case measure => simp [intOf]; omega
              · have hd0 : decide ((0 : Int) < (k : Int)) = false := by simp; omega
                subst e0
                go_wp2
                go_round
                case rel =>
                  refine ⟨k + 1, by omega, by go_num, fun j hj => ?_⟩
                  obtain rfl : j = k := by omega
                  rw [← Hxv.out]
                  exact ⟨⟨by omega, by omega⟩, fun h => absurd h hk0⟩
                case measure => simp [intOf]; omega
        · obtain rfl : k = xs.length := by omega
          go_wp2
          go_ret
          exact ⟨Ans.yes ⟨h0, h6, heq⟩, rfl⟩
    · have hd6 : decide ((6 : Int) < (xs.length : Int)) = true := by simp; omega
      go_enter Tryd.func69, Tryd.ntmps69
      go_wp2
      go_ret
      exact ⟨Ans.no fun h => h6 h.2.1, rfl⟩
  · go_enter Tryd.func69, Tryd.ntmps69
    go_wp2
    go_ret
    exact ⟨Ans.no fun h => h0 h.1, rfl⟩

def risesP (lo hi : Int) (xs : List Int) : Prop := ∀ k, k < xs.length → (lo ≤ gi xs k ∧ gi xs k ≤ hi) ∧ (0 < k → gi xs (k - 1) < gi xs k)

set_option maxRecDepth 100000 in
set_option maxHeartbeats 400000 in
theorem l1Rising_any (ao : Option Addr) (c : Nat) (lo hi : Int) (xs : List Int) (w : World) (hn : xs.length ≤ 1048576) (hx : IntsAt w ao xs) :
    Calls Tryd.prog 124 #[.slice ao xs.length c, .int .i64 lo, .int .i64 hi] w fun e w' => Ans (risesP lo hi xs) e ∧ w = w' := by
  have hmx : xs.length ≤ 9223372036854775807 := by omega
  have Hx := Lib.hid hx
  clear hx
  go_enter Tryd.func124, Tryd.ntmps124
  go_wp2
  go_loop [11] (fun i => ∃ k : Nat, k ≤ xs.length ∧ i = .int .i64 k ∧ (∀ j, j < k → (lo ≤ gi xs j ∧ gi xs j ≤ hi) ∧ (0 < j → gi xs (j - 1) < gi xs j))) (fun i => xs.length - (intOf i).toNat)
  case atStart => exact ⟨0, Nat.zero_le _, rfl, fun j hj => absurd hj (by omega)⟩
  case round =>
    obtain ⟨k, hk, rfl, heq⟩ := hrel
    by_cases hlt : k < xs.length
    · obtain ⟨b, o, e0, hc⟩ := Hx.out k hlt
      have Heq := Lib.hid heq
      clear heq
      obtain ⟨x, hxv⟩ : ∃ x, x = gi xs k := ⟨_, rfl⟩
      rw [← hxv] at hc
      have Hxv := Lib.hid hxv
      clear hxv
      by_cases hin : lo ≤ x ∧ x ≤ hi
      · have Hin := Lib.hid hin
        by_cases hk0 : 0 < k
        · have hd0 : decide ((0 : Int) < (k : Int)) = true := by simp; omega
          obtain ⟨b', o', e0', hc'⟩ := Hx.out (k - 1) (by omega)
          rw [e0] at e0'
          cases e0'
          obtain ⟨y, hyv⟩ : ∃ y, y = gi xs (k - 1) := ⟨_, rfl⟩
          rw [← hyv] at hc'
          have Hyv := Lib.hid hyv
          clear hyv hin
          subst e0
          go_wp2_with fail
          refine (l1In_any _ _ _ w).mono ?_
          rintro e w2 ⟨ha, rfl⟩
          obtain rfl := ha.is Hin.out
          clear ha
          by_cases hle : x ≤ y
          · go_wp2
            go_ret
            exact ⟨Ans.no fun h => by have := (h k hlt).2 hk0; rw [← Hxv.out, ← Hyv.out] at this; omega, rfl⟩
          · go_wp2
            go_round
            case rel =>
              refine ⟨k + 1, by omega, by go_num, fun j hj => ?_⟩
              by_cases e : j = k
              · subst e; rw [← Hxv.out, ← Hyv.out]; exact ⟨Hin.out, fun _ => by omega⟩
              · exact Heq.out j (by omega)
            case measure => simp [intOf]; omega
        · have hd0 : decide ((0 : Int) < (k : Int)) = false := by simp; omega
          subst e0
          clear hin
          go_wp2_with fail
          refine (l1In_any _ _ _ w).mono ?_
          rintro e w2 ⟨ha, rfl⟩
          obtain rfl := ha.is Hin.out
          clear ha
          go_wp2
          go_round
          case rel =>
            refine ⟨k + 1, by omega, by go_num, fun j hj => ?_⟩
            obtain rfl : j = k := by omega
            rw [← Hxv.out]
            exact ⟨Hin.out, fun h => absurd h hk0⟩
          case measure => simp [intOf]; omega
      · have Hin := Lib.hid hin
        clear hin
        subst e0
        go_wp2_with fail
        refine (l1In_any _ _ _ w).mono ?_
        rintro e w2 ⟨ha, rfl⟩
        obtain rfl := ha.isnt Hin.out
        clear ha
        go_wp2
        go_ret
        exact ⟨Ans.no fun h => by have := (h k hlt).1; rw [← Hxv.out] at this; exact Hin.out this, rfl⟩
    · obtain rfl : k = xs.length := by omega
      go_wp2
      go_ret
      exact ⟨Ans.yes heq, rfl⟩

set_option maxRecDepth 100000 in
set_option maxHeartbeats 400000 in
theorem trRow_any (ao : Option Addr) (c : Nat) (xs : List Int) (w : World) (hn : xs.length ≤ 1048576) (hx : IntsAt w ao xs) :
    Calls Tryd.prog 72 #[.slice ao xs.length c] w fun e w' => Ans (isRowP xs) e ∧ w = w' := by
  have hmx : xs.length ≤ 9223372036854775807 := by omega
  have Hx := Lib.hid hx
  clear hx
  by_cases h1 : (1 : Int) ≤ xs.length ∧ (xs.length : Int) ≤ 6
  · have H1 := Lib.hid h1
    clear h1
    go_enter Tryd.func72, Tryd.ntmps72
    go_wp2_with fail
    refine (l1In_any _ _ _ w).mono ?_
    rintro e w2 ⟨ha, rfl⟩
    obtain rfl := ha.is H1.out
    clear ha
    go_wp2_with fail
    refine (l1Rising_any ao c 0 15 xs w hn Hx.out).mono ?_
    rintro e w2 ⟨⟨b, rfl, hp⟩, rfl⟩
    have Hp := Lib.hid hp
    clear hp
    go_wp2
    go_ret
    refine ⟨⟨_, rfl, Hp.out.trans ?_⟩, rfl⟩
    have := H1.out
    exact ⟨fun h => ⟨by omega, by omega, h⟩, fun h => h.2.2⟩
  · have H1 := Lib.hid h1
    clear h1
    go_enter Tryd.func72, Tryd.ntmps72
    go_wp2_with fail
    refine (l1In_any _ _ _ w).mono ?_
    rintro e w2 ⟨ha, rfl⟩
    obtain rfl := ha.isnt H1.out
    clear ha
    go_wp2
    go_ret
    exact ⟨Ans.no fun h => H1.out ⟨by have := h.1; omega, by have := h.2.1; omega⟩, rfl⟩

set_option maxRecDepth 100000 in
set_option maxHeartbeats 400000 in
theorem fitsUnder_any (a1 a2 : Option Addr) (c1 c2 : Nat) (row above : List Int) (w : World) (hn : row.length ≤ 1048576) (hl : row.length = above.length + 1) (h1 : IntsAt w a1 row) (h2 : IntsAt w a2 above) :
    Calls Tryd.prog 79 #[.slice a1 row.length c1, .slice a2 above.length c2] w fun e w' => Ans (fitsP row above) e ∧ w = w' := by
  have hmx : row.length ≤ 9223372036854775807 := by omega
  have hmx2 : above.length ≤ 9223372036854775807 := by omega
  have H1 := Lib.hid h1
  have H2 := Lib.hid h2
  clear h1 h2
  go_enter Tryd.func79, Tryd.ntmps79
  go_wp2
  go_loop [9] (fun i => ∃ k : Nat, k ≤ above.length ∧ i = .int .i64 k ∧ (∀ j, j < k → gi row j ≤ gi above j ∧ gi above j ≤ gi row (j + 1))) (fun i => above.length - (intOf i).toNat)
  case atStart => exact ⟨0, Nat.zero_le _, rfl, fun j hj => absurd hj (by omega)⟩
  case round =>
    obtain ⟨k, hk, rfl, heq⟩ := hrel
    by_cases hlt : k < above.length
    · obtain ⟨b, o, rfl, hc⟩ := H2.out k hlt
      obtain ⟨b', o', e0, hc1⟩ := H1.out k (by omega)
      obtain ⟨b'', o'', e0', hc2⟩ := H1.out (k + 1) (by omega)
      rw [e0] at e0'
      cases e0'
      subst e0
      have Heq := Lib.hid heq
      clear heq
      obtain ⟨x, hxv⟩ : ∃ x, x = gi above k := ⟨_, rfl⟩
      obtain ⟨y, hyv⟩ : ∃ y, y = gi row k := ⟨_, rfl⟩
      obtain ⟨z, hzv⟩ : ∃ z, z = gi row (k + 1) := ⟨_, rfl⟩
      rw [← hxv] at hc
      rw [← hyv] at hc1
      rw [← hzv] at hc2
      have Hxv := Lib.hid hxv
      have Hyv := Lib.hid hyv
      have Hzv := Lib.hid hzv
      clear hxv hyv hzv
      by_cases hA : x < y
      · go_wp2
        go_ret
        exact ⟨Ans.no fun h => by have := (h k hlt).1; rw [← Hxv.out, ← Hyv.out] at this; omega, rfl⟩
      · by_cases hB : z < x
        · go_wp2
          go_ret
          exact ⟨Ans.no fun h => by have := (h k hlt).2; rw [← Hxv.out, ← Hzv.out] at this; omega, rfl⟩
        · go_wp2
          go_round
          case rel =>
            refine ⟨k + 1, by omega, by go_num, fun j hj => ?_⟩
            by_cases e : j = k
            · subst e; rw [← Hxv.out, ← Hyv.out, ← Hzv.out]; exact ⟨by omega, by omega⟩
            · exact Heq.out j (by omega)
          case measure => simp [intOf]; omega
    · obtain rfl : k = above.length := by omega
      go_wp2
      go_ret
      exact ⟨Ans.yes heq, rfl⟩

set_option maxRecDepth 100000 in
set_option maxHeartbeats 400000 in
theorem trFits_any (a1 a2 : Option Addr) (c1 c2 : Nat) (row above : List Int) (w : World) (hn : row.length ≤ 1048576) (hl : row.length = above.length + 1) (h1 : IntsAt w a1 row) (h2 : IntsAt w a2 above) :
    Calls Tryd.prog 136 #[.slice a2 above.length c2, .slice a1 row.length c1] w fun e w' => Ans (fitsP row above) e ∧ w = w' := by
  have hmx : row.length ≤ 9223372036854775807 := by omega
  have hmx2 : above.length ≤ 9223372036854775807 := by omega
  have H1 := Lib.hid h1
  have H2 := Lib.hid h2
  clear h1 h2
  go_enter Tryd.func136, Tryd.ntmps136
  go_wp2
  go_loop [9] (fun i => ∃ k : Nat, k ≤ above.length ∧ i = .int .i64 k ∧ (∀ j, j < k → gi row j ≤ gi above j ∧ gi above j ≤ gi row (j + 1))) (fun i => above.length - (intOf i).toNat)
  case atStart => exact ⟨0, Nat.zero_le _, rfl, fun j hj => absurd hj (by omega)⟩
  case round =>
    obtain ⟨k, hk, rfl, heq⟩ := hrel
    by_cases hlt : k < above.length
    · obtain ⟨b, o, rfl, hc⟩ := H2.out k hlt
      obtain ⟨b', o', e0, hc1⟩ := H1.out k (by omega)
      obtain ⟨b'', o'', e0', hc2⟩ := H1.out (k + 1) (by omega)
      rw [e0] at e0'
      cases e0'
      subst e0
      have Heq := Lib.hid heq
      clear heq
      obtain ⟨x, hxv⟩ : ∃ x, x = gi above k := ⟨_, rfl⟩
      obtain ⟨y, hyv⟩ : ∃ y, y = gi row k := ⟨_, rfl⟩
      obtain ⟨z, hzv⟩ : ∃ z, z = gi row (k + 1) := ⟨_, rfl⟩
      rw [← hxv] at hc
      rw [← hyv] at hc1
      rw [← hzv] at hc2
      have Hxv := Lib.hid hxv
      have Hyv := Lib.hid hyv
      have Hzv := Lib.hid hzv
      clear hxv hyv hzv
      by_cases hA : x < y
      · go_wp2
        go_ret
        exact ⟨Ans.no fun h => by have := (h k hlt).1; rw [← Hxv.out, ← Hyv.out] at this; omega, rfl⟩
      · by_cases hB : z < x
        · go_wp2
          go_ret
          exact ⟨Ans.no fun h => by have := (h k hlt).2; rw [← Hxv.out, ← Hzv.out] at this; omega, rfl⟩
        · go_wp2
          go_round
          case rel =>
            refine ⟨k + 1, by omega, by go_num, fun j hj => ?_⟩
            by_cases e : j = k
            · subst e; rw [← Hxv.out, ← Hyv.out, ← Hzv.out]; exact ⟨by omega, by omega⟩
            · exact Heq.out j (by omega)
          case measure => simp [intOf]; omega
    · obtain rfl : k = above.length := by omega
      go_wp2
      go_ret
      exact ⟨Ans.yes heq, rfl⟩
end Go.Proofs.YtnhkclnloiiihaaDoor

namespace Go.Proofs.YtnhkclnloiiihaaDoor
open Go.RowKit

set_option maxRecDepth 100000 in
set_option maxHeartbeats 800000 in
theorem implIsTriangle_any (ao : Option Addr) (c : Nat) (m : List (List Int)) (w : World) (hs : Small m) (hm : MatAt w ao m) :
    Calls Tryd.prog 30 #[.slice ao m.length c] w fun e w' => Ans (isTri m) e ∧ w = w' := by
  have hn := hs.1
  have hmx : m.length ≤ 9223372036854775807 := by omega
  have Hrow := Lib.hid hs.2
  have Hm := Lib.hid hm
  clear hs hm
  by_cases h0 : 1 ≤ m.length
  · by_cases h6 : m.length ≤ 6
    · have hd6 : decide ((6 : Int) < (m.length : Int)) = false := by simp; omega
      go_enter Tryd.func30, Tryd.ntmps30
      go_wp2
      go_loop [15] (fun i => ∃ k : Nat, k ≤ m.length ∧ i = .int .i64 k ∧ (∀ j, j < k → (gr m j).length = j + 1 ∧ isRowP (gr m j) ∧ (0 < j → fitsP (gr m j) (gr m (j - 1))))) (fun i => m.length - (intOf i).toNat)
      case atStart => exact ⟨0, Nat.zero_le _, rfl, fun j hj => absurd hj (by omega)⟩
      case round =>
        obtain ⟨k, hk, rfl, heq⟩ := hrel
        have Heq := Lib.hid heq
        clear heq
        by_cases hlt : k < m.length
        · obtain ⟨b1, o1, r1, d1, e0, hc1, hx1, _, _⟩ := Hm.out k hlt
          have Hx1 := Lib.hid hx1
          clear hx1
          by_cases hL : (gr m k).length = k + 1
          · have hbL : (((gr m k).length : Int) != (k : Int) + 1) = false := by simp; omega
            have hrk : (gr m k).length ≤ 1048576 := by omega
            have HL := Lib.hid hL
            clear hL
            by_cases hrp : isRowP (gr m k)
            · have Hp := Lib.hid hrp
              clear hrp
              by_cases hk0 : 0 < k
              · have hd0 : decide ((0 : Int) < (k : Int)) = true := by simp; omega
                obtain ⟨b2, o2, r2, d2, e0', hc2, hx2, _, _⟩ := Hm.out (k - 1) (by omega)
                have HL2 := Lib.hid (show (gr m k).length = (gr m (k - 1)).length + 1 by have := (Heq.out (k - 1) (by omega)).1; have := HL.out; omega)
                have Hx2 := Lib.hid hx2
                clear hx2
                rw [e0] at e0'
                cases e0'
                subst e0
                by_cases hfp : fitsP (gr m k) (gr m (k - 1))
                · have Hf := Lib.hid hfp
                  clear hfp
                  go_wp2_with fail
                  refine (isRow_any r1 d1 (gr m k) w hrk Hx1.out).mono ?_
                  rintro e w2 ⟨ha, rfl⟩
                  obtain rfl := ha.is Hp.out
                  clear ha
                  go_wp2_with fail
                  refine (fitsUnder_any r1 r2 d1 d2 (gr m k) (gr m (k - 1)) w hrk HL2.out Hx1.out Hx2.out).mono ?_
                  rintro e w2 ⟨ha, rfl⟩
                  obtain rfl := ha.is Hf.out
                  clear ha
                  go_wp2
                  go_round
                  case rel =>
                    refine ⟨k + 1, by omega, by go_num, fun j hj => ?_⟩
                    by_cases e : j = k
                    · subst e; exact ⟨HL.out, Hp.out, fun _ => Hf.out⟩
                    · exact Heq.out j (by omega)
                  case measure => simp [intOf]; omega
                · have Hf := Lib.hid hfp
                  clear hfp
                  go_wp2_with fail
                  refine (isRow_any r1 d1 (gr m k) w hrk Hx1.out).mono ?_
                  rintro e w2 ⟨ha, rfl⟩
                  obtain rfl := ha.is Hp.out
                  clear ha
                  go_wp2_with fail
                  refine (fitsUnder_any r1 r2 d1 d2 (gr m k) (gr m (k - 1)) w hrk HL2.out Hx1.out Hx2.out).mono ?_
                  rintro e w2 ⟨ha, rfl⟩
                  obtain rfl := ha.isnt Hf.out
                  clear ha
                  go_wp2
                  go_ret
                  exact ⟨Ans.no fun h => Hf.out ((h.2.2 k hlt).2.2 hk0), rfl⟩
              · have hd0 : decide ((0 : Int) < (k : Int)) = false := by simp; omega
                subst e0
                go_wp2_with fail
                refine (isRow_any r1 d1 (gr m k) w hrk Hx1.out).mono ?_
                rintro e w2 ⟨ha, rfl⟩
                obtain rfl := ha.is Hp.out
                clear ha
                go_wp2
                go_round
                case rel =>
                  refine ⟨k + 1, by omega, by go_num, fun j hj => ?_⟩
                  obtain rfl : j = k := by omega
                  exact ⟨HL.out, Hp.out, fun h => absurd h hk0⟩
                case measure => simp [intOf]; omega
            · have Hp := Lib.hid hrp
              clear hrp
              subst e0
              go_wp2_with fail
              refine (isRow_any r1 d1 (gr m k) w hrk Hx1.out).mono ?_
              rintro e w2 ⟨ha, rfl⟩
              obtain rfl := ha.isnt Hp.out
              clear ha
              go_wp2
              go_ret
              exact ⟨Ans.no fun h => by have h2 := (h.2.2 k hlt).2.1; exact Hp.out h2, rfl⟩
          · have hrk := Hrow.out k hlt
            have hbL : (((gr m k).length : Int) != (k : Int) + 1) = true := by simp; omega
            subst e0
            go_wp2
            go_ret
            exact ⟨Ans.no fun h => hL (h.2.2 k hlt).1, rfl⟩
        · obtain rfl : k = m.length := by omega
          go_wp2
          go_ret
          exact ⟨Ans.yes ⟨h0, h6, Heq.out⟩, rfl⟩
    · have hd6 : decide ((6 : Int) < (m.length : Int)) = true := by simp; omega
      go_enter Tryd.func30, Tryd.ntmps30
      go_wp2
      go_ret
      exact ⟨Ans.no fun h => h6 h.2.1, rfl⟩
  · go_enter Tryd.func30, Tryd.ntmps30
    go_wp2
    go_ret
    exact ⟨Ans.no fun h => h0 h.1, rfl⟩

set_option maxRecDepth 100000 in
set_option maxHeartbeats 800000 in
theorem trGood_any (ao : Option Addr) (c : Nat) (m : List (List Int)) (w : World) (hs : Small m) (hm : MatAt w ao m) :
    Calls Tryd.prog 89 #[.slice ao m.length c] w fun e w' => Ans (isTri m) e ∧ w = w' := by
  have hn := hs.1
  have hmx : m.length ≤ 9223372036854775807 := by omega
  have Hrow := Lib.hid hs.2
  have Hm := Lib.hid hm
  clear hs hm
  by_cases h1 : (1 : Int) ≤ m.length ∧ (m.length : Int) ≤ 6
  · have h0 : 1 ≤ m.length := by omega
    have h6 : m.length ≤ 6 := by omega
    have H1 := Lib.hid h1
    clear h1
    go_enter Tryd.func89, Tryd.ntmps89
    go_wp2_with fail
    refine (l1In_any _ _ _ w).mono ?_
    rintro e w2 ⟨ha, rfl⟩
    obtain rfl := ha.is H1.out
    clear ha
    go_wp2
    go_loop [11] (fun i => ∃ k : Nat, k ≤ m.length ∧ i = .int .i64 k ∧ (∀ j, j < k → (gr m j).length = j + 1 ∧ isRowP (gr m j) ∧ (0 < j → fitsP (gr m j) (gr m (j - 1))))) (fun i => m.length - (intOf i).toNat)
    case atStart => exact ⟨0, Nat.zero_le _, rfl, fun j hj => absurd hj (by omega)⟩
    case round =>
      obtain ⟨k, hk, rfl, heq⟩ := hrel
      have Heq := Lib.hid heq
      clear heq
      by_cases hlt : k < m.length
      · obtain ⟨b1, o1, r1, d1, e0, hc1, hx1, _, _⟩ := Hm.out k hlt
        have Hx1 := Lib.hid hx1
        clear hx1
        by_cases hL : (gr m k).length = k + 1
        · have hbL : (((gr m k).length : Int) != (k : Int) + 1) = false := by simp; omega
          have hrk : (gr m k).length ≤ 1048576 := by omega
          have HL := Lib.hid hL
          clear hL
          by_cases hrp : risesP 0 15 (gr m k)
          · have Hp := Lib.hid hrp
            clear hrp
            by_cases hk0 : 0 < k
            · have hd0 : decide ((0 : Int) < (k : Int)) = true := by simp; omega
              obtain ⟨b2, o2, r2, d2, e0', hc2, hx2, _, _⟩ := Hm.out (k - 1) (by omega)
              have HL2 := Lib.hid (show (gr m k).length = (gr m (k - 1)).length + 1 by have := (Heq.out (k - 1) (by omega)).1; have := HL.out; omega)
              have Hx2 := Lib.hid hx2
              clear hx2
              rw [e0] at e0'
              cases e0'
              subst e0
              by_cases hfp : fitsP (gr m k) (gr m (k - 1))
              · have Hf := Lib.hid hfp
                clear hfp
                go_wp2_with fail
                refine (l1Rising_any r1 d1 0 15 (gr m k) w hrk Hx1.out).mono ?_
                rintro e w2 ⟨ha, rfl⟩
                obtain rfl := ha.is Hp.out
                clear ha
                go_wp2_with fail
                refine (trFits_any r1 r2 d1 d2 (gr m k) (gr m (k - 1)) w hrk HL2.out Hx1.out Hx2.out).mono ?_
                rintro e w2 ⟨ha, rfl⟩
                obtain rfl := ha.is Hf.out
                clear ha
                go_wp2
                go_round
                case rel =>
                  refine ⟨k + 1, by omega, by go_num, fun j hj => ?_⟩
                  by_cases e : j = k
                  · subst e; exact ⟨HL.out, ⟨by have := HL.out; omega, by have := HL.out; omega, Hp.out⟩, fun _ => Hf.out⟩
                  · exact Heq.out j (by omega)
                case measure => simp [intOf]; omega
              · have Hf := Lib.hid hfp
                clear hfp
                go_wp2_with fail
                refine (l1Rising_any r1 d1 0 15 (gr m k) w hrk Hx1.out).mono ?_
                rintro e w2 ⟨ha, rfl⟩
                obtain rfl := ha.is Hp.out
                clear ha
                go_wp2_with fail
                refine (trFits_any r1 r2 d1 d2 (gr m k) (gr m (k - 1)) w hrk HL2.out Hx1.out Hx2.out).mono ?_
                rintro e w2 ⟨ha, rfl⟩
                obtain rfl := ha.isnt Hf.out
                clear ha
                go_wp2
                go_ret
                exact ⟨Ans.no fun h => Hf.out ((h.2.2 k hlt).2.2 hk0), rfl⟩
            · have hd0 : decide ((0 : Int) < (k : Int)) = false := by simp; omega
              subst e0
              go_wp2_with fail
              refine (l1Rising_any r1 d1 0 15 (gr m k) w hrk Hx1.out).mono ?_
              rintro e w2 ⟨ha, rfl⟩
              obtain rfl := ha.is Hp.out
              clear ha
              go_wp2
              go_round
              case rel =>
                refine ⟨k + 1, by omega, by go_num, fun j hj => ?_⟩
                obtain rfl : j = k := by omega
                exact ⟨HL.out, ⟨by have := HL.out; omega, by have := HL.out; omega, Hp.out⟩, fun h => absurd h hk0⟩
              case measure => simp [intOf]; omega
          · have Hp := Lib.hid hrp
            clear hrp
            subst e0
            go_wp2_with fail
            refine (l1Rising_any r1 d1 0 15 (gr m k) w hrk Hx1.out).mono ?_
            rintro e w2 ⟨ha, rfl⟩
            obtain rfl := ha.isnt Hp.out
            clear ha
            go_wp2
            go_ret
            exact ⟨Ans.no fun h => by have h2 := (h.2.2 k hlt).2.1; exact Hp.out h2.2.2, rfl⟩
        · have hrk := Hrow.out k hlt
          have hbL : (((gr m k).length : Int) != (k : Int) + 1) = true := by simp; omega
          subst e0
          go_wp2
          go_ret
          exact ⟨Ans.no fun h => hL (h.2.2 k hlt).1, rfl⟩
      · obtain rfl : k = m.length := by omega
        go_wp2
        go_ret
        exact ⟨Ans.yes ⟨h0, h6, Heq.out⟩, rfl⟩
  · have H1 := Lib.hid h1
    clear h1
    go_enter Tryd.func89, Tryd.ntmps89
    go_wp2_with fail
    refine (l1In_any _ _ _ w).mono ?_
    rintro e w2 ⟨ha, rfl⟩
    obtain rfl := ha.isnt H1.out
    clear ha
    go_wp2
    go_ret
    exact ⟨Ans.no fun h => H1.out ⟨by have := h.1; omega, by have := h.2.1; omega⟩, rfl⟩

theorem implIsTriangle_law (ao : Option Addr) (c : Nat) (m : List (List Int)) (w : World) (hs : Small m) (_ : WfM m) (hm : MatAt w ao m) :
    Calls Tryd.prog 30 #[.slice ao m.length c] w fun e w' => Ans (isTri m) e ∧ Below w.heap.size w w' := by
  refine (implIsTriangle_any ao c m w hs hm).mono ?_
  rintro e w2 ⟨ha, rfl⟩
  exact ⟨ha, Below.refl _ _⟩

set_option maxRecDepth 100000 in
set_option maxHeartbeats 400000 in
theorem specIsTriangle_any (ao : Option Addr) (c : Nat) (m : List (List Int)) (w : World) (hs : Small m) (hm : MatAt w ao m) :
    Calls Tryd.prog 39 #[.slice ao m.length c] w fun e w' => Ans (isTri m) e ∧ Below w.heap.size w w' := by
  have Hs := Lib.hid hs
  have Hm := Lib.hid hm
  clear hs hm
  go_enter Tryd.func39, Tryd.ntmps39
  go_wp2_with fail
  refine (trGood_any ao c m w Hs.out Hm.out).mono ?_
  rintro e w2 ⟨⟨b, rfl, hp⟩, rfl⟩
  have Hp := Lib.hid hp
  clear hp
  go_wp2
  go_ret
  exact ⟨⟨_, rfl, Hp.out⟩, Below.refl _ _⟩
end Go.Proofs.YtnhkclnloiiihaaDoor

