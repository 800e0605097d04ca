/- Contracts: triangles, by the program and by the model. Condition: small tables. -/
import Derived.Test.YtopamhcnbocfoaaTriI
namespace Go.Proofs.Ytopamhcnbocfoaa
open Go.RowKit

set_option maxRecDepth 100000 in
set_option maxHeartbeats 800000 in
theorem implIsTriangle_any (ao : Option Addr) (c : Nat) (m : List (List Int)) (w : World) (hs : Small m) (hm : MatAt w ao m) :
    Calls Try.prog 84 #[.slice ao m.length c] w fun e w' => Ans (isTri m) e ∧ w = w' := by
  have hn := hs.1
  have hmx : m.length ≤ 9223372036854775807 := by omega
  have Hrow := Lib.hid hs.2
  have Hm := Lib.hid hm
  clear hs hm
  by_cases h0 : 1 ≤ m.length
  · by_cases h6 : m.length ≤ 6
    · have hd6 : decide ((6 : Int) < (m.length : Int)) = false := by simp; omega
      go_enter Try.func84, Try.ntmps84
      go_wp2
      go_loop [15] (fun i => ∃ k : Nat, k ≤ m.length ∧ i = .int .i64 k ∧ (∀ j, j < k → (gr m j).length = j + 1 ∧ isRowP (gr m j) ∧ (0 < j → fitsP (gr m j) (gr m (j - 1))))) (fun i => m.length - (intOf i).toNat)
      case atStart => exact ⟨0, Nat.zero_le _, rfl, fun j hj => absurd hj (by omega)⟩
      case round =>
        obtain ⟨k, hk, rfl, heq⟩ := hrel
        have Heq := Lib.hid heq
        clear heq
        by_cases hlt : k < m.length
        · obtain ⟨b1, o1, r1, d1, e0, hc1, hx1, _, _⟩ := Hm.out k hlt
          have Hx1 := Lib.hid hx1
          clear hx1
          by_cases hL : (gr m k).length = k + 1
          · have hbL : (((gr m k).length : Int) != (k : Int) + 1) = false := by simp; omega
            have hrk : (gr m k).length ≤ 1048576 := by omega
            have HL := Lib.hid hL
            clear hL
            by_cases hrp : isRowP (gr m k)
            · have Hp := Lib.hid hrp
              clear hrp
              by_cases hk0 : 0 < k
              · have hd0 : decide ((0 : Int) < (k : Int)) = true := by simp; omega
                obtain ⟨b2, o2, r2, d2, e0', hc2, hx2, _, _⟩ := Hm.out (k - 1) (by omega)
                have HL2 := Lib.hid (show (gr m k).length = (gr m (k - 1)).length + 1 by have := (Heq.out (k - 1) (by omega)).1; have := HL.out; omega)
                have Hx2 := Lib.hid hx2
                clear hx2
                rw [e0] at e0'
                cases e0'
                subst e0
                by_cases hfp : fitsP (gr m k) (gr m (k - 1))
                · have Hf := Lib.hid hfp
                  clear hfp
                  go_wp2_with fail
                  refine (isRow_any r1 d1 (gr m k) w hrk Hx1.out).mono ?_
                  rintro e w2 ⟨ha, rfl⟩
                  obtain rfl := ha.is Hp.out
                  clear ha
                  go_wp2_with fail
                  refine (fitsUnder_any r1 r2 d1 d2 (gr m k) (gr m (k - 1)) w hrk HL2.out Hx1.out Hx2.out).mono ?_
                  rintro e w2 ⟨ha, rfl⟩
                  obtain rfl := ha.is Hf.out
                  clear ha
                  go_wp2
                  go_round
                  case rel =>
                    refine ⟨k + 1, by omega, by go_num, fun j hj => ?_⟩
                    by_cases e : j = k
                    · subst e; exact ⟨HL.out, Hp.out, fun _ => Hf.out⟩
                    · exact Heq.out j (by omega)
                  case measure => simp [intOf]; omega
                · have Hf := Lib.hid hfp
                  clear hfp
                  go_wp2_with fail
                  refine (isRow_any r1 d1 (gr m k) w hrk Hx1.out).mono ?_
                  rintro e w2 ⟨ha, rfl⟩
                  obtain rfl := ha.is Hp.out
                  clear ha
                  go_wp2_with fail
                  refine (fitsUnder_any r1 r2 d1 d2 (gr m k) (gr m (k - 1)) w hrk HL2.out Hx1.out Hx2.out).mono ?_
                  rintro e w2 ⟨ha, rfl⟩
                  obtain rfl := ha.isnt Hf.out
                  clear ha
                  go_wp2
                  go_ret
                  exact ⟨Ans.no fun h => Hf.out ((h.2.2 k hlt).2.2 hk0), rfl⟩
              · have hd0 : decide ((0 : Int) < (k : Int)) = false := by simp; omega
                subst e0
                go_wp2_with fail
                refine (isRow_any r1 d1 (gr m k) w hrk Hx1.out).mono ?_
                rintro e w2 ⟨ha, rfl⟩
                obtain rfl := ha.is Hp.out
                clear ha
                go_wp2
                go_round
                case rel =>
                  refine ⟨k + 1, by omega, by go_num, fun j hj => ?_⟩
                  obtain rfl : j = k := by omega
                  exact ⟨HL.out, Hp.out, fun h => absurd h hk0⟩
                case measure => simp [intOf]; omega
            · have Hp := Lib.hid hrp
              clear hrp
              subst e0
              go_wp2_with fail
              refine (isRow_any r1 d1 (gr m k) w hrk Hx1.out).mono ?_
              rintro e w2 ⟨ha, rfl⟩
              obtain rfl := ha.isnt Hp.out
              clear ha
              go_wp2
              go_ret
              exact ⟨Ans.no fun h => by have h2 := (h.2.2 k hlt).2.1; exact Hp.out h2, rfl⟩
          · have hrk := Hrow.out k hlt
            have hbL : (((gr m k).length : Int) != (k : Int) + 1) = true := by simp; omega
            subst e0
            go_wp2
            go_ret
            exact ⟨Ans.no fun h => hL (h.2.2 k hlt).1, rfl⟩
        · obtain rfl : k = m.length := by omega
          go_wp2
          go_ret
          exact ⟨Ans.yes ⟨h0, h6, Heq.out⟩, rfl⟩
    · have hd6 : decide ((6 : Int) < (m.length : Int)) = true := by simp; omega
      go_enter Try.func84, Try.ntmps84
      go_wp2
      go_ret
      exact ⟨Ans.no fun h => h6 h.2.1, rfl⟩
  · go_enter Try.func84, Try.ntmps84
    go_wp2
    go_ret
    exact ⟨Ans.no fun h => h0 h.1, rfl⟩

set_option maxRecDepth 100000 in
set_option maxHeartbeats 800000 in
theorem trGood_any (ao : Option Addr) (c : Nat) (m : List (List Int)) (w : World) (hs : Small m) (hm : MatAt w ao m) :
    Calls Try.prog 82 #[.slice ao m.length c] w fun e w' => Ans (isTri m) e ∧ w = w' := by
  have hn := hs.1
  have hmx : m.length ≤ 9223372036854775807 := by omega
  have Hrow := Lib.hid hs.2
  have Hm := Lib.hid hm
  clear hs hm
  by_cases h1 : (1 : Int) ≤ m.length ∧ (m.length : Int) ≤ 6
  · have h0 : 1 ≤ m.length := by omega
    have h6 : m.length ≤ 6 := by omega
    have H1 := Lib.hid h1
    clear h1
    go_enter Try.func82, Try.ntmps82
    go_wp2_with fail
    refine (l1In_any _ _ _ w).mono ?_
    rintro e w2 ⟨ha, rfl⟩
    obtain rfl := ha.is H1.out
    clear ha
    go_wp2
    go_loop [11] (fun i => ∃ k : Nat, k ≤ m.length ∧ i = .int .i64 k ∧ (∀ j, j < k → (gr m j).length = j + 1 ∧ isRowP (gr m j) ∧ (0 < j → fitsP (gr m j) (gr m (j - 1))))) (fun i => m.length - (intOf i).toNat)
    case atStart => exact ⟨0, Nat.zero_le _, rfl, fun j hj => absurd hj (by omega)⟩
    case round =>
      obtain ⟨k, hk, rfl, heq⟩ := hrel
      have Heq := Lib.hid heq
      clear heq
      by_cases hlt : k < m.length
      · obtain ⟨b1, o1, r1, d1, e0, hc1, hx1, _, _⟩ := Hm.out k hlt
        have Hx1 := Lib.hid hx1
        clear hx1
        by_cases hL : (gr m k).length = k + 1
        · have hbL : (((gr m k).length : Int) != (k : Int) + 1) = false := by simp; omega
          have hrk : (gr m k).length ≤ 1048576 := by omega
          have HL := Lib.hid hL
          clear hL
          by_cases hrp : risesP 0 15 (gr m k)
          · have Hp := Lib.hid hrp
            clear hrp
            by_cases hk0 : 0 < k
            · have hd0 : decide ((0 : Int) < (k : Int)) = true := by simp; omega
              obtain ⟨b2, o2, r2, d2, e0', hc2, hx2, _, _⟩ := Hm.out (k - 1) (by omega)
              have HL2 := Lib.hid (show (gr m k).length = (gr m (k - 1)).length + 1 by have := (Heq.out (k - 1) (by omega)).1; have := HL.out; omega)
              have Hx2 := Lib.hid hx2
              clear hx2
              rw [e0] at e0'
              cases e0'
              subst e0
              by_cases hfp : fitsP (gr m k) (gr m (k - 1))
              · have Hf := Lib.hid hfp
                clear hfp
                go_wp2_with fail
                refine (l1Rising_any r1 d1 0 15 (gr m k) w hrk Hx1.out).mono ?_
                rintro e w2 ⟨ha, rfl⟩
                obtain rfl := ha.is Hp.out
                clear ha
                go_wp2_with fail
                refine (trFits_any r1 r2 d1 d2 (gr m k) (gr m (k - 1)) w hrk HL2.out Hx1.out Hx2.out).mono ?_
                rintro e w2 ⟨ha, rfl⟩
                obtain rfl := ha.is Hf.out
                clear ha
                go_wp2
                go_round
                case rel =>
                  refine ⟨k + 1, by omega, by go_num, fun j hj => ?_⟩
                  by_cases e : j = k
                  · subst e; exact ⟨HL.out, ⟨by have := HL.out; omega, by have := HL.out; omega, Hp.out⟩, fun _ => Hf.out⟩
                  · exact Heq.out j (by omega)
                case measure => simp [intOf]; omega
              · have Hf := Lib.hid hfp
                clear hfp
                go_wp2_with fail
                refine (l1Rising_any r1 d1 0 15 (gr m k) w hrk Hx1.out).mono ?_
                rintro e w2 ⟨ha, rfl⟩
                obtain rfl := ha.is Hp.out
                clear ha
                go_wp2_with fail
                refine (trFits_any r1 r2 d1 d2 (gr m k) (gr m (k - 1)) w hrk HL2.out Hx1.out Hx2.out).mono ?_
                rintro e w2 ⟨ha, rfl⟩
                obtain rfl := ha.isnt Hf.out
                clear ha
                go_wp2
                go_ret
                exact ⟨Ans.no fun h => Hf.out ((h.2.2 k hlt).2.2 hk0), rfl⟩
            · have hd0 : decide ((0 : Int) < (k : Int)) = false := by simp; omega
              subst e0
              go_wp2_with fail
              refine (l1Rising_any r1 d1 0 15 (gr m k) w hrk Hx1.out).mono ?_
              rintro e w2 ⟨ha, rfl⟩
              obtain rfl := ha.is Hp.out
              clear ha
              go_wp2
              go_round
              case rel =>
                refine ⟨k + 1, by omega, by go_num, fun j hj => ?_⟩
                obtain rfl : j = k := by omega
                exact ⟨HL.out, ⟨by have := HL.out; omega, by have := HL.out; omega, Hp.out⟩, fun h => absurd h hk0⟩
              case measure => simp [intOf]; omega
          · have Hp := Lib.hid hrp
            clear hrp
            subst e0
            go_wp2_with fail
            refine (l1Rising_any r1 d1 0 15 (gr m k) w hrk Hx1.out).mono ?_
            rintro e w2 ⟨ha, rfl⟩
            obtain rfl := ha.isnt Hp.out
            clear ha
            go_wp2
            go_ret
            exact ⟨Ans.no fun h => by have h2 := (h.2.2 k hlt).2.1; exact Hp.out h2.2.2, rfl⟩
        · have hrk := Hrow.out k hlt
          have hbL : (((gr m k).length : Int) != (k : Int) + 1) = true := by simp; omega
          subst e0
          go_wp2
          go_ret
          exact ⟨Ans.no fun h => hL (h.2.2 k hlt).1, rfl⟩
      · obtain rfl : k = m.length := by omega
        go_wp2
        go_ret
        exact ⟨Ans.yes ⟨h0, h6, Heq.out⟩, rfl⟩
  · have H1 := Lib.hid h1
    clear h1
    go_enter Try.func82, Try.ntmps82
    go_wp2_with fail
    refine (l1In_any _ _ _ w).mono ?_
    rintro e w2 ⟨ha, rfl⟩
    obtain rfl := ha.isnt H1.out
    clear ha
    go_wp2
    go_ret
    exact ⟨Ans.no fun h => H1.out ⟨by have := h.1; omega, by have := h.2.1; omega⟩, rfl⟩

theorem implIsTriangle_law (ao : Option Addr) (c : Nat) (m : List (List Int)) (w : World) (hs : Small m) (_ : WfM m) (hm : MatAt w ao m) :
    Calls Try.prog 84 #[.slice ao m.length c] w fun e w' => Ans (isTri m) e ∧ Below w.heap.size w w' := by
  refine (implIsTriangle_any ao c m w hs hm).mono ?_
  rintro e w2 ⟨ha, rfl⟩
  exact ⟨ha, Below.refl _ _⟩

end Go.Proofs.Ytopamhcnbocfoaa
