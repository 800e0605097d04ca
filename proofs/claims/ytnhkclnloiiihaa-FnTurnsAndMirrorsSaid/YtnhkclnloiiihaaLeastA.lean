/- Contracts of what compares rows and tables. Conditions: tables of n rows of n numbers, n of at most 6. -/
import Derived.Test.YtnhkclnloiiihaaLeastM
import Derived.Test.YtnhkclnloiiihaaShelf
namespace Go.Proofs.Ytnhkclnloiiihaa
open Go.RowKit

/-- the answer of a comparison of two rows of n numbers -/
def RC (n : Nat) (x y : List Int) (e : Ending) : Prop :=
  (rless n x y ∧ e = .returned (.int .i64 (-1))) ∨ (x = y ∧ e = .returned (.int .i64 0)) ∨ (rless n y x ∧ e = .returned (.int .i64 1))
/-- .. of two tables -/
def MC (n : Nat) (a b : List (List Int)) (e : Ending) : Prop :=
  (mless n a b ∧ e = .returned (.int .i64 (-1))) ∨ (a = b ∧ e = .returned (.int .i64 0)) ∨ (mless n b a ∧ e = .returned (.int .i64 1))

set_option maxRecDepth 100000 in
set_option maxHeartbeats 1600000 in
theorem sCompare_any (ao bo : Option Addr) (c d : Nat) (xs ys : List Int) (w : World) (hn : xs.length ≤ 6) (hl : ys.length = xs.length) (hx : IntsAt w ao xs) (hy : IntsAt w bo ys) :
    Calls Try.prog 178 #[.slice ao xs.length c, .slice bo ys.length d] w fun e w' => RC xs.length xs ys e ∧ w = w' := by
  have hmx : xs.length ≤ 9223372036854775807 := by omega
  rw [hl]
  have Hx := Lib.hid hx
  have Hy := Lib.hid hy
  have Hl := Lib.hid hl
  clear hx hy hl
  go_enter Try.func178, Try.ntmps178
  go_wp2
  go_loop [11] (fun i => ∃ k : Nat, k ≤ xs.length ∧ i = .int .i64 k ∧ ∀ j, j < k → gi xs j = gi ys j) (fun i => xs.length - (intOf i).toNat)
  case atStart => exact ⟨0, Nat.zero_le _, rfl, fun j hj => absurd hj (by omega)⟩
  case round =>
    obtain ⟨k, hk, rfl, heq⟩ := hrel
    have Heq := Lib.hid heq
    clear heq
    by_cases hlt : k < xs.length
    · obtain ⟨b1, o1, rfl, hc1⟩ := Hx.out k hlt
      obtain ⟨b2, o2, rfl, hc2⟩ := Hy.out k (by rw [Hl.out]; exact hlt)
      have hcmp := Try.cmp_Compare_int (gi xs k) (gi ys k) w
      rcases Int.lt_trichotomy (gi xs k) (gi ys k) with h | h | h
      · have hr : rless xs.length xs ys := ⟨k, hlt, Heq.out, h⟩
        rw [show Lib.compareInt (gi xs k) (gi ys k) = -1 from by simp [Lib.compareInt, h]] at hcmp
        have Hr := Lib.hid hr
        have Hc := Lib.hid hcmp
        clear hr hcmp h
        go_wp2_with fail
        refine Hc.out.mono ?_
        rintro e w2 ⟨rfl, rfl⟩
        go_wp2
        go_ret
        exact ⟨.inl ⟨Hr.out, rfl⟩, rfl⟩
      · rw [show Lib.compareInt (gi xs k) (gi ys k) = 0 from by simp [Lib.compareInt, h]] at hcmp
        have Hh := Lib.hid h
        have Hc := Lib.hid hcmp
        clear hcmp h
        go_wp2_with fail
        refine Hc.out.mono ?_
        rintro e w2 ⟨rfl, rfl⟩
        go_wp2
        go_round
        case rel => exact ⟨k + 1, by omega, by go_num, fun j hj => by
          by_cases e : j = k
          · subst e; exact Hh.out
          · exact Heq.out j (by omega)⟩
        case measure => simp [intOf]; omega
      · have hr : rless xs.length ys xs := ⟨k, hlt, fun i hi => (Heq.out i hi).symm, h⟩
        rw [show Lib.compareInt (gi xs k) (gi ys k) = 1 from by simp [Lib.compareInt]; omega] at hcmp
        have Hr := Lib.hid hr
        have Hc := Lib.hid hcmp
        clear hr hcmp h
        go_wp2_with fail
        refine Hc.out.mono ?_
        rintro e w2 ⟨rfl, rfl⟩
        go_wp2
        go_ret
        exact ⟨.inr (.inr ⟨Hr.out, rfl⟩), rfl⟩
    · obtain rfl : k = xs.length := by omega
      have hz := Lib.hid (ext_gi Hl.out.symm Heq.out)
      go_wp2
      go_ret
      exact ⟨.inr (.inl ⟨hz.out, rfl⟩), rfl⟩

set_option maxRecDepth 100000 in
set_option maxHeartbeats 1600000 in
theorem sCompareFunc_any (ao bo : Option Addr) (c d n : Nat) (a b : List (List Int)) (w : World) (hn : n ≤ 6) (ha : sq n a) (hb : sq n b) (hx : MatAt w ao a) (hy : MatAt w bo b) :
    Calls Try.prog 195 #[.slice ao n c, .slice bo n d, .func (.func 178) #[] #[]] w fun e w' => MC n a b e ∧ w = w' := by
  have hmx : n ≤ 9223372036854775807 := by omega
  have Hx := Lib.hid hx
  have Hy := Lib.hid hy
  have Ha := Lib.hid ha
  have Hb := Lib.hid hb
  clear hx hy ha hb
  go_enter Try.func195, Try.ntmps195
  go_wp2
  go_loop [13] (fun i => ∃ k : Nat, k ≤ n ∧ i = .int .i64 k ∧ ∀ j, j < k → gr a j = gr b j) (fun i => n - (intOf i).toNat)
  case atStart => exact ⟨0, Nat.zero_le _, rfl, fun j hj => absurd hj (by omega)⟩
  case round =>
    obtain ⟨k, hk, rfl, heq⟩ := hrel
    have Heq := Lib.hid heq
    clear heq
    by_cases hlt : k < n
    · obtain ⟨b1, o1, r1, d1, rfl, hc1, hr1, _, _⟩ := Hx.out k (by rw [Ha.out.1]; exact hlt)
      obtain ⟨b2, o2, r2, d2, rfl, hc2, hr2, _, _⟩ := Hy.out k (by rw [Hb.out.1]; exact hlt)
      have hl1 := Ha.out.2 k hlt
      have hl2 := Hb.out.2 k hlt
      have hcmp := sCompare_any r1 r2 d1 d2 (gr a k) (gr b k) w (by omega) (by omega) hr1 hr2
      rw [hl1, hl2] at hcmp
      rw [hl1] at hc1
      rw [hl2] at hc2
      have Hc := Lib.hid hcmp
      clear hcmp hr1 hr2 hl1 hl2
      go_wp2_with fail
      refine Hc.out.mono ?_
      rintro e w2 ⟨hrc, rfl⟩
      rcases hrc with ⟨h, rfl⟩ | ⟨h, rfl⟩ | ⟨h, rfl⟩
      · have Hr := Lib.hid (show mless n a b from ⟨k, hlt, Heq.out, h⟩)
        clear h
        go_wp2
        go_ret
        exact ⟨.inl ⟨Hr.out, rfl⟩, rfl⟩
      · have Hh := Lib.hid h
        clear h
        go_wp2
        go_round
        case rel => exact ⟨k + 1, by omega, by go_num, fun j hj => by
          by_cases e : j = k
          · subst e; exact Hh.out
          · exact Heq.out j (by omega)⟩
        case measure => simp [intOf]; omega
      · have Hr := Lib.hid (show mless n b a from ⟨k, hlt, fun i hi => (Heq.out i hi).symm, h⟩)
        clear h
        go_wp2
        go_ret
        exact ⟨.inr (.inr ⟨Hr.out, rfl⟩), rfl⟩
    · obtain rfl : k = n := by omega
      have hz := Lib.hid (ext_gr (by rw [Ha.out.1, Hb.out.1]) (fun i hi => Heq.out i (by rw [Ha.out.1] at hi; exact hi)))
      go_wp2
      go_ret
      exact ⟨.inr (.inl ⟨hz.out, rfl⟩), rfl⟩

set_option maxRecDepth 100000 in
set_option maxHeartbeats 800000 in
theorem compareGrids_any (ao bo : Option Addr) (c d n : Nat) (a b : List (List Int)) (w : World) (hn : n ≤ 6) (ha : sq n a) (hb : sq n b) (hx : MatAt w ao a) (hy : MatAt w bo b) :
    Calls Try.prog 149 #[.slice ao n c, .slice bo n d] w fun e w' => MC n a b e ∧ w = w' := by
  have Hc := Lib.hid (sCompareFunc_any ao bo c d n a b w hn ha hb hx hy)
  clear hx hy ha hb
  go_enter Try.func149, Try.ntmps149
  go_wp2_with fail
  refine Hc.out.mono ?_
  rintro e w2 ⟨hrc, rfl⟩
  have Hr := Lib.hid hrc
  rcases hrc with ⟨h, rfl⟩ | ⟨h, rfl⟩ | ⟨h, rfl⟩
  all_goals
    clear h
    go_wp2
    go_ret
    exact ⟨Hr.out, rfl⟩

set_option maxRecDepth 100000 in
set_option maxHeartbeats 1600000 in
theorem sgLess_any (ao bo : Option Addr) (c d n : Nat) (a b : List (List Int)) (w : World) (hn : n ≤ 6) (ha : sq n a) (hb : sq n b) (hx : MatAt w ao a) (hy : MatAt w bo b) :
    Calls Try.prog 150 #[.slice ao n c, .slice bo n d] w fun e w' => Ans (mless n a b) e ∧ w = w' := by
  have hmx : n ≤ 9223372036854775807 := by omega
  have Hx := Lib.hid hx
  have Hy := Lib.hid hy
  have Ha := Lib.hid ha
  have Hb := Lib.hid hb
  clear hx hy ha hb
  go_enter Try.func150, Try.ntmps150
  go_wp2
  go_loop [11] (fun i => ∃ k : Nat, k ≤ n ∧ i = .int .i64 k ∧ ∀ j, j < k → gr a j = gr b j) (fun i => n - (intOf i).toNat)
  case atStart => exact ⟨0, Nat.zero_le _, rfl, fun j hj => absurd hj (by omega)⟩
  case round =>
    obtain ⟨k, hk, rfl, heq⟩ := hrel
    have Heq := Lib.hid heq
    clear heq
    by_cases hlt : k < n
    · obtain ⟨b1, o1, r1, d1, rfl, hc1, hr1, _, _⟩ := Hx.out k (by rw [Ha.out.1]; exact hlt)
      obtain ⟨b2, o2, r2, d2, rfl, hc2, hr2, _, _⟩ := Hy.out k (by rw [Hb.out.1]; exact hlt)
      have hl1 := Ha.out.2 k hlt
      have hl2 := Hb.out.2 k hlt
      rw [hl1] at hc1
      rw [hl2] at hc2
      have Hr1 := Lib.hid hr1
      have Hr2 := Lib.hid hr2
      have Hl1 := Lib.hid hl1
      have Hl2 := Lib.hid hl2
      clear hr1 hr2 hl1 hl2
      go_wp2
      go_loop [18] (fun i => ∃ t : Nat, t ≤ n ∧ i = .int .i64 t ∧ ∀ j, j < t → gi (gr a k) j = gi (gr b k) j) (fun i => n - (intOf i).toNat)
      case atStart => exact ⟨0, Nat.zero_le _, rfl, fun j hj => absurd hj (by omega)⟩
      case round =>
        obtain ⟨t, ht, rfl, heq2⟩ := hrel
        have Heq2 := Lib.hid heq2
        clear heq2
        by_cases htl : t < n
        · obtain ⟨b3, o3, rfl, hc3⟩ := Hr1.out t (by rw [Hl1.out]; exact htl)
          obtain ⟨b4, o4, rfl, hc4⟩ := Hr2.out t (by rw [Hl2.out]; exact htl)
          obtain ⟨x, hx⟩ : ∃ x, x = gi (gr a k) t := ⟨_, rfl⟩
          obtain ⟨y, hy⟩ : ∃ y, y = gi (gr b k) t := ⟨_, rfl⟩
          rw [← hx] at hc3
          rw [← hy] at hc4
          rcases Int.lt_trichotomy x y with h | h | h
          · have Hr := Lib.hid (show mless n a b from ⟨k, hlt, Heq.out, t, htl, Heq2.out, by rw [← hx, ← hy]; exact h⟩)
            have hne : ¬ x = y := by omega
            clear hx hy
            go_wp2
            go_ret
            exact ⟨Ans.yes Hr.out, rfl⟩
          · have Hh := Lib.hid (show gi (gr a k) t = gi (gr b k) t by rw [← hx, ← hy]; exact h)
            subst h
            clear hx hy
            go_wp2
            go_round
            case rel => exact ⟨t + 1, by omega, by go_num, fun j hj => by
              by_cases e : j = t
              · subst e; exact Hh.out
              · exact Heq2.out j (by omega)⟩
            case measure => simp [intOf]; omega
          · have Hr := Lib.hid (show mless n b a from ⟨k, hlt, fun i hi => (Heq.out i hi).symm, t, htl, fun i hi => (Heq2.out i hi).symm, by rw [← hx, ← hy]; exact h⟩)
            have hne : ¬ x = y := by omega
            have hnl : ¬ x < y := by omega
            clear hx hy
            go_wp2
            go_ret
            exact ⟨Ans.no (mless_asymm Hr.out), rfl⟩
        · obtain rfl : t = n := by omega
          have hz := Lib.hid (ext_gi (by rw [Hl1.out, Hl2.out]) (fun i hi => Heq2.out i (by rw [Hl1.out] at hi; exact hi)))
          go_wp2
          go_round
          case rel => exact ⟨k + 1, by omega, by go_num, fun j hj => by
            by_cases e : j = k
            · subst e; exact hz.out
            · exact Heq.out j (by omega)⟩
          case measure => simp [intOf]; omega
    · obtain rfl : k = n := by omega
      have hz := Lib.hid (ext_gr (by rw [Ha.out.1, Hb.out.1]) (fun i hi => Heq.out i (by rw [Ha.out.1] at hi; exact hi)))
      go_wp2
      go_ret
      exact ⟨Ans.no (by rw [hz.out]; exact mless_irrefl), rfl⟩
end Go.Proofs.Ytnhkclnloiiihaa
