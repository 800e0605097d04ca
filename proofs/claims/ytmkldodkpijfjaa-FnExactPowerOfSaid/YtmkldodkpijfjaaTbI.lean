/- Contracts of the program: numbers in a range, square tables of such. Conditions: lengths up to 2^20, numbers of an int. -/
import Derived.Test.YtmkldodkpijfjaaImplB
import Derived.Test.YtmkldodkpijfjaaDiff
namespace Go.Proofs.Ytmkldodkpijfjaa
open Go.RowKit

theorem nums_new (w : World) (xs : List Int) : IntsAt (w.alloc (.cells (xs.map (Value.int .i64)).toArray 3)) (some ⟨w.heap.size, 0, none⟩) xs := fun i hi => ⟨w.heap.size, 0, rfl, by
  rw [Nat.zero_add, cell_new]
  simp [gi, List.getD, hi]⟩

set_option maxRecDepth 100000 in
set_option maxHeartbeats 800000 in
theorem numsIn_any (ao : Option Addr) (c : Nat) (xs : List Int) (lo hi : Int) (w : World) (hn : xs.length ≤ 1048576) (hx : IntsAt w ao xs) :
    Calls Try.prog 56 #[.int .i64 lo, .int .i64 hi, .slice ao xs.length c] w fun e w' => Ans (allIn xs lo hi) e ∧ w = w' := by
  have hmx : xs.length ≤ 9223372036854775807 := by omega
  have Hx := Lib.hid hx
  clear hx
  go_enter Try.func56, Try.ntmps56
  go_wp2
  go_loop [11] (fun i => ∃ k : Nat, k ≤ xs.length ∧ i = .int .i64 k ∧ ∀ j, j < k → lo ≤ gi xs j ∧ gi xs j ≤ hi) (fun i => xs.length - (intOf i).toNat)
  case atStart => exact ⟨0, Nat.zero_le _, rfl, fun j hj => absurd hj (by omega)⟩
  case round =>
    obtain ⟨k, hk, rfl, hd⟩ := hrel
    have Hd := Lib.hid hd
    clear hd
    by_cases hlt : k < xs.length
    · obtain ⟨b1, o1, rfl, hc1⟩ := Hx.out k hlt
      have Hno := Lib.hid (fun (h : ¬(lo ≤ gi xs k ∧ gi xs k ≤ hi)) (h2 : allIn xs lo hi) => h (h2 k hlt))
      have Hyes := Lib.hid (show (lo ≤ gi xs k ∧ gi xs k ≤ hi) → ∀ j, j < k + 1 → lo ≤ gi xs j ∧ gi xs j ≤ hi from fun h j hj => by
        by_cases e : j = k
        · subst e; exact h
        · exact Hd.out j (by omega))
      obtain ⟨x, hx⟩ : ∃ x, x = gi xs k := ⟨_, rfl⟩
      rw [← hx] at hc1 Hno Hyes
      clear hx
      by_cases h1 : x < lo
      · have hd1 : decide (x < lo) = true := by simpa using h1
        have H := Lib.hid (Hno.out (fun h => by omega))
        clear Hno Hyes h1
        go_wp2
        go_ret
        exact ⟨Ans.no H.out, rfl⟩
      · have hd1 : decide (x < lo) = false := by simpa using h1
        by_cases h2 : hi < x
        · have hd2 : decide (hi < x) = true := by simpa using h2
          have H := Lib.hid (Hno.out (fun h => by omega))
          clear Hno Hyes h1 h2
          go_wp2
          go_ret
          exact ⟨Ans.no H.out, rfl⟩
        · have hd2 : decide (hi < x) = false := by simpa using h2
          have H := Lib.hid (Hyes.out ⟨by omega, by omega⟩)
          clear Hno Hyes h1 h2
          go_wp2
          go_round
          case rel => exact ⟨k + 1, by omega, by go_num, H.out⟩
          case measure => simp [intOf]; omega
    · obtain rfl : k = xs.length := by omega
      go_wp2
      go_ret
      exact ⟨Ans.yes Hd.out, rfl⟩

theorem allIn_num (x lo hi : Int) : allIn [x] lo hi ↔ lo ≤ x ∧ x ≤ hi := by
  refine ⟨fun h => h 0 (by simp), fun h i hi => ?_⟩
  obtain rfl : i = 0 := by simpa using hi
  exact h

set_option maxRecDepth 100000 in
set_option maxHeartbeats 800000 in
theorem isTableOf_any (ao : Option Addr) (c R : Nat) (lo hi : Int) (m : List (List Int)) (w : World) (hs : Small m) (hm : MatAt w ao m) :
    Calls Try.prog 41 #[.slice ao m.length c, .int .i64 (R : Int), .int .i64 lo, .int .i64 hi] w fun e w' => Ans ((1 ≤ m.length ∧ m.length ≤ R) ∧ ∀ i, i < m.length → (gr m i).length = m.length ∧ allIn (gr m i) lo hi) e ∧ Below w.heap.size w w' := by
  have hml : m.length ≤ 9223372036854775807 := by have := hs.1; omega
  have Hs := Lib.hid hs
  have Hm := Lib.hid hm
  have HB0 := Lib.hid ((Below.refl w.heap.size w).alloc (Nat.le_refl _) (.cells ([(m.length : Int)].map (Value.int .i64)).toArray 3))
  have C1 := Lib.hid (numsIn_any (some ⟨w.heap.size, 0, none⟩) 1 [(m.length : Int)] 1 (R : Int) (w.alloc (.cells ([(m.length : Int)].map (Value.int .i64)).toArray 3)) (by simp) (nums_new w _))
  clear hs hm
  go_enter Try.func41, Try.ntmps41
  go_wp2_with fail
  refine C1.out.mono ?_
  rintro e w1 ⟨ha, rfl⟩
  by_cases h1 : 1 ≤ m.length ∧ m.length ≤ R
  · have H1 := Lib.hid h1
    obtain rfl := ha.is ((allIn_num _ _ _).2 (by omega))
    clear ha h1 C1
    go_wp2_with fail
    refine (hasSize_any ao c m.length m.length m _ Hs.out (Hm.out.below HB0.out) hml hml).mono ?_
    rintro e w2 ⟨ha, hb⟩
    have HB1 := Lib.hid (HB0.out.trans (hb.mono HB0.out.size))
    clear hb
    by_cases h2 : m.length = m.length ∧ wideAll m m.length
    · have H2 := Lib.hid h2.2
      obtain rfl := ha.is h2
      clear ha h2
      go_wp2
      go_loopw [28] (fun x wr => ∃ a : Nat, a ≤ m.length ∧ x = .int .i64 a ∧ (∀ i, i < a → allIn (gr m i) lo hi) ∧ Below w.heap.size w wr) (fun x _ => m.length - (intOf x).toNat)
      case atStart => exact ⟨0, Nat.zero_le _, rfl, fun i hi => absurd hi (by omega), HB1.out⟩
      case round =>
        obtain ⟨a, ha, rfl, hd, hbr⟩ := hrel
        have Hd := Lib.hid hd
        have Hbr := Lib.hid hbr
        clear hd hbr
        by_cases hal : a < m.length
        · obtain ⟨b1, o1, r1, d1, e1, hc1, hx1, _, _⟩ := Hm.out.below Hbr.out a hal
          have hrs := Hs.out.2 a hal
          have CA := Lib.hid (numsIn_any r1 d1 (gr m a) lo hi wr hrs hx1)
          have HN := Lib.hid (fun (h : ¬allIn (gr m a) lo hi) (h2 : (1 ≤ m.length ∧ m.length ≤ R) ∧ ∀ i, i < m.length → (gr m i).length = m.length ∧ allIn (gr m i) lo hi) => h (h2.2 a hal).2)
          have HY := Lib.hid (show allIn (gr m a) lo hi → ∀ i, i < a + 1 → allIn (gr m i) lo hi from fun h i hi => by
            by_cases e : i = a
            · rw [e]; exact h
            · exact Hd.out i (by omega))
          obtain ⟨G, hG⟩ : ∃ G, G = gr m a := ⟨_, rfl⟩
          rw [← hG] at hc1 CA hrs HN HY
          have hgl : G.length ≤ 9223372036854775807 := by omega
          subst e1
          clear hG hx1
          go_wp2_with fail
          refine CA.out.mono ?_
          rintro e w5 ⟨hA, rfl⟩
          by_cases hin : allIn G lo hi
          · obtain rfl := hA.is hin
            have HY2 := Lib.hid (HY.out hin)
            clear hA hin HN HY
            go_wp2
            go_roundw
            case rel => exact ⟨a + 1, by omega, by go_num, HY2.out, Hbr.out⟩
            case measure => simp [intOf]; omega
          · obtain rfl := hA.isnt hin
            have HN2 := Lib.hid (HN.out hin)
            clear hA hin HN HY
            go_wp2
            go_ret
            exact ⟨Ans.no HN2.out, Hbr.out⟩
        · obtain rfl : a = m.length := by omega
          have Hok := Lib.hid (show (1 ≤ m.length ∧ m.length ≤ R) ∧ ∀ i, i < m.length → (gr m i).length = m.length ∧ allIn (gr m i) lo hi from ⟨H1.out, fun i hi => ⟨H2.out i hi, Hd.out i hi⟩⟩)
          go_wp2
          go_ret
          exact ⟨Ans.yes Hok.out, Hbr.out⟩
    · have H2 := Lib.hid h2
      obtain rfl := ha.isnt h2
      clear ha h2
      go_wp2
      go_ret
      exact ⟨Ans.no fun h => H2.out (by first | exact ⟨rfl, fun i hi => (h.2 i hi).1⟩ | exact ⟨trivial, fun i hi => (h.2 i hi).1⟩), HB1.out⟩
  · have H1 := Lib.hid h1
    obtain rfl := ha.isnt (fun h => h1 (by have := (allIn_num _ _ _).1 h; omega))
    clear ha h1 C1
    go_wp2
    go_ret
    exact ⟨Ans.no fun h => H1.out h.1, HB0.out⟩
end Go.Proofs.Ytmkldodkpijfjaa
