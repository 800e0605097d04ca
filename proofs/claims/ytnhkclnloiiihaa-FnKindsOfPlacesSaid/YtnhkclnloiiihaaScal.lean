/- Contracts of the model and the program: how many minus ones, placings, the first column. Condition: the numbers fit an int. -/
import Derived.Test.YtnhkclnloiiihaaSums
namespace Go.Proofs.Ytnhkclnloiiihaa
open Go.RowKit

/-- the answer of a function that hands back a number and whether there is one -/
def IRes (p : Prop) (x : Int) (e : Ending) : Prop := ∃ y b, e = .returned (.tuple #[.int .i64 y, .bool b]) ∧ ((p ∧ b = true ∧ y = x) ∨ (¬p ∧ b = false ∧ y = 0))
theorem IRes.yes {p : Prop} {x : Int} (h : p) : IRes p x (.returned (.tuple #[.int .i64 x, .bool true])) := ⟨x, true, rfl, .inl ⟨h, rfl, rfl⟩⟩
theorem IRes.no {p : Prop} {x : Int} (h : ¬p) : IRes p x (.returned (.tuple #[.int .i64 0, .bool false])) := ⟨0, false, rfl, .inr ⟨h, rfl, rfl⟩⟩
theorem ires_same {p : Prop} {x y y' : Int} {b b' : Bool} (h : (p ∧ b = true ∧ y = x) ∨ (¬p ∧ b = false ∧ y = 0)) (h' : (p ∧ b' = true ∧ y' = x) ∨ (¬p ∧ b' = false ∧ y' = 0)) : b = b' ∧ y = y' := by
  rcases h with ⟨h1, rfl, rfl⟩ | ⟨h1, rfl, rfl⟩ <;> rcases h' with ⟨k1, rfl, rfl⟩ | ⟨k1, rfl, rfl⟩
  · exact ⟨rfl, rfl⟩
  · exact absurd h1 k1
  · exact absurd k1 h1
  · exact ⟨rfl, rfl⟩
/-- .. a bool and whether there is one -/
def BRes (p q : Prop) (e : Ending) : Prop := ∃ y b, e = .returned (.tuple #[.bool y, .bool b]) ∧ ((p ∧ b = true ∧ (y = true ↔ q)) ∨ (¬p ∧ b = false ∧ y = false))
theorem bres_same {p q : Prop} {y y' b b' : Bool} (h : (p ∧ b = true ∧ (y = true ↔ q)) ∨ (¬p ∧ b = false ∧ y = false)) (h' : (p ∧ b' = true ∧ (y' = true ↔ q)) ∨ (¬p ∧ b' = false ∧ y' = false)) : b = b' ∧ y = y' := by
  rcases h with ⟨h1, rfl, h2⟩ | ⟨h1, rfl, rfl⟩ <;> rcases h' with ⟨k1, rfl, k2⟩ | ⟨k1, rfl, rfl⟩
  · have := h2.trans k2.symm
    refine ⟨rfl, ?_⟩
    cases y <;> cases y' <;> simp_all
  · exact absurd h1 k1
  · exact absurd k1 h1
  · exact ⟨rfl, rfl⟩

/-- the first number that isn't 0 of a line whose signs alternate is 1 -/
theorem first_one {xs : List Int} (h : lineOk xs) : ∃ j, j < xs.length ∧ gi xs j = 1 ∧ ∀ i, i < j → gi xs i = 0 := by
  have key : ∀ k, k ≤ xs.length → (∃ j, j < k ∧ gi xs j = 1 ∧ ∀ i, i < j → gi xs i = 0) ∨ (sumK xs k = 0 ∧ ∀ i, i < k → gi xs i = 0) := by
    intro k
    induction k with
    | zero => exact fun _ => .inr ⟨rfl, fun i hi => absurd hi (by omega)⟩
    | succ k ih =>
      intro hk
      rcases ih (by omega) with ⟨j, hj, h1, h2⟩ | ⟨h1, h2⟩
      · exact .inl ⟨j, by omega, h1, h2⟩
      · have hb := h.1 (k + 1) hk
        simp only [sumK] at hb
        by_cases e : gi xs k = 0
        · refine .inr ⟨by simp only [sumK]; omega, fun i hi => ?_⟩
          by_cases e2 : i = k
          · subst e2; exact e
          · exact h2 i (by omega)
        · exact .inl ⟨k, by omega, by omega, h2⟩
  rcases key xs.length (Nat.le_refl _) with h1 | ⟨h1, _⟩
  · exact h1
  · have := h.2
    omega

/-- .. its index -/
def IsFirst (xs : List Int) (j : Nat) : Prop := j < xs.length ∧ gi xs j = 1 ∧ ∀ i, i < j → gi xs i = 0
theorem first_unique {xs : List Int} {j j' : Nat} (h : IsFirst xs j) (h' : IsFirst xs j') : j = j' := by
  rcases Nat.lt_trichotomy j j' with hl | hl | hl
  · have := h'.2.2 j hl; have := h.2.1; omega
  · exact hl
  · have := h.2.2 j' hl; have := h'.2.1; omega

/-- the answer of the first column's functions -/
def CRes (m : List (List Int)) (e : Ending) : Prop := (good m ∧ ∃ j, IsFirst (gr m 0) j ∧ e = .returned (.tuple #[.int .i64 (j : Int), .bool true])) ∨ (¬good m ∧ e = .returned (.tuple #[.int .i64 0, .bool false]))

set_option maxRecDepth 100000 in
set_option maxHeartbeats 800000 in
theorem sIndex_any (ao : Option Addr) (c : Nat) (xs : List Int) (j : Nat) (w : World) (hn : xs.length ≤ 1048576) (hf : IsFirst xs j) (hx : IntsAt w ao xs) :
    Calls Try.prog 151 #[.slice ao xs.length c, .int .i64 1] w fun e w' => e = .returned (.int .i64 (j : Int)) ∧ w = w' := by
  have hmx : xs.length ≤ 9223372036854775807 := by omega
  have Hx := Lib.hid hx
  have hj := hf.1
  have Hf := Lib.hid hf
  clear hx hf
  go_enter Try.func151, Try.ntmps151
  go_wp2
  go_loop [8] (fun i => ∃ k : Nat, k ≤ j ∧ i = .int .i64 k) (fun i => xs.length - (intOf i).toNat)
  case atStart => exact ⟨0, Nat.zero_le _, rfl⟩
  case round =>
    obtain ⟨k, hk, rfl⟩ := hrel
    have hlt : k < xs.length := by omega
    obtain ⟨b1, o1, rfl, hc1⟩ := Hx.out k hlt
    by_cases he : k = j
    · have h1 : gi xs k = 1 := by rw [he]; exact Hf.out.2.1
      rw [h1] at hc1
      subst he
      clear h1
      go_wp2
      go_ret
      exact ⟨rfl, rfl⟩
    · have h1 : gi xs k = 0 := Hf.out.2.2 k (by omega)
      rw [h1] at hc1
      clear h1
      go_wp2
      go_round
      case rel => exact ⟨k + 1, by omega, by go_num⟩
      case measure => simp [intOf]; omega

set_option maxRecDepth 100000 in
set_option maxHeartbeats 800000 in
theorem implMinusOnes_any (ao : Option Addr) (c : Nat) (m : List (List Int)) (w : World) (hs : Small m) (hwf : WfM m) (hm : MatAt w ao m) :
    Calls Try.prog 52 #[.slice ao m.length c] w fun e w' => IRes (good m) (mcount m) e ∧ Below w.heap.size w w' := by
  have Hs := Lib.hid hs
  have Hm := Lib.hid hm
  clear hs hm
  have Hwf := Lib.hid hwf
  clear hwf
  go_enter Try.func52, Try.ntmps52
  go_wp2_with fail
  refine (implIsSign_any ao c m w Hs.out Hwf.out Hm.out).mono ?_
  rintro e w1 ⟨ha, hb⟩
  have Hb := Lib.hid hb
  have Hm1 := Lib.hid (Hm.out.below hb)
  clear hb
  by_cases hg : good m
  · have Hg := Lib.hid hg
    clear hg
    obtain rfl := ha.is Hg.out
    clear ha
    go_wp2_with fail
    refine (minusOnes_any ao c m w1 Hg.out Hm1.out).mono ?_
    rintro e w2 ⟨rfl, rfl⟩
    go_wp2
    go_ret2
    exact ⟨IRes.yes Hg.out, Hb.out⟩
  · have Hg := Lib.hid hg
    clear hg
    obtain rfl := ha.isnt Hg.out
    clear ha
    go_wp2
    go_ret2
    exact ⟨IRes.no Hg.out, Hb.out⟩

set_option maxRecDepth 100000 in
set_option maxHeartbeats 800000 in
theorem specIsPlacing_any (ao : Option Addr) (c : Nat) (m : List (List Int)) (w : World) (hs : Small m) (hm : MatAt w ao m) :
    Calls Try.prog 51 #[.slice ao m.length c] w fun e w' => BRes (good m) (mcount m = 0) e ∧ Below w.heap.size w w' := by
  have Hs := Lib.hid hs
  have Hm := Lib.hid hm
  clear hs hm
  go_enter Try.func51, Try.ntmps51
  go_wp2_with fail
  refine (sgGood_any ao c m w Hs.out Hm.out).mono ?_
  rintro e w1 ⟨ha, hb⟩
  have Hb := Lib.hid hb
  have Hm1 := Lib.hid (Hm.out.below hb)
  clear hb
  by_cases hg : good m
  · have Hg := Lib.hid hg
    clear hg
    obtain rfl := ha.is Hg.out
    clear ha
    go_wp2_with fail
    refine (sgMinus_any ao c m w1 Hg.out.1 Hm1.out).mono ?_
    rintro e w2 ⟨rfl, rfl⟩
    by_cases h0 : mcount m = 0
    · have hb : (mcount m == 0) = true := by simp [h0]
      have H0 := Lib.hid h0
      clear h0
      go_wp2
      go_ret2
      exact ⟨⟨true, true, rfl, .inl ⟨Hg.out, rfl, fun _ => H0.out, fun _ => rfl⟩⟩, Hb.out⟩
    · have hb : (mcount m == 0) = false := by simp [h0]
      go_wp2
      go_ret2
      exact ⟨⟨false, true, rfl, .inl ⟨Hg.out, rfl, ⟨fun h => (by cases h), fun h => absurd h h0⟩⟩⟩, Hb.out⟩
  · have Hg := Lib.hid hg
    clear hg
    obtain rfl := ha.isnt Hg.out
    clear ha
    go_wp2
    go_ret2
    exact ⟨⟨false, false, rfl, .inr ⟨Hg.out, rfl, rfl⟩⟩, Hb.out⟩

set_option maxRecDepth 100000 in
set_option maxHeartbeats 800000 in
theorem implIsPlacing_any (ao : Option Addr) (c : Nat) (m : List (List Int)) (w : World) (hs : Small m) (hwf : WfM m) (hm : MatAt w ao m) :
    Calls Try.prog 48 #[.slice ao m.length c] w fun e w' => BRes (good m) (mcount m = 0) e ∧ Below w.heap.size w w' := by
  have Hs := Lib.hid hs
  have Hm := Lib.hid hm
  clear hs hm
  have Hwf := Lib.hid hwf
  clear hwf
  go_enter Try.func48, Try.ntmps48
  go_wp2_with fail
  refine (implIsSign_any ao c m w Hs.out Hwf.out Hm.out).mono ?_
  rintro e w1 ⟨ha, hb⟩
  have Hb := Lib.hid hb
  have Hm1 := Lib.hid (Hm.out.below hb)
  clear hb
  by_cases hg : good m
  · have Hg := Lib.hid hg
    clear hg
    obtain rfl := ha.is Hg.out
    clear ha
    go_wp2_with fail
    refine (minusOnes_any ao c m w1 Hg.out Hm1.out).mono ?_
    rintro e w2 ⟨rfl, rfl⟩
    by_cases h0 : mcount m = 0
    · have hb : (mcount m == 0) = true := by simp [h0]
      have H0 := Lib.hid h0
      clear h0
      go_wp2
      go_ret2
      exact ⟨⟨true, true, rfl, .inl ⟨Hg.out, rfl, fun _ => H0.out, fun _ => rfl⟩⟩, Hb.out⟩
    · have hb : (mcount m == 0) = false := by simp [h0]
      go_wp2
      go_ret2
      exact ⟨⟨false, true, rfl, .inl ⟨Hg.out, rfl, ⟨fun h => (by cases h), fun h => absurd h h0⟩⟩⟩, Hb.out⟩
  · have Hg := Lib.hid hg
    clear hg
    obtain rfl := ha.isnt Hg.out
    clear ha
    go_wp2
    go_ret2
    exact ⟨⟨false, false, rfl, .inr ⟨Hg.out, rfl, rfl⟩⟩, Hb.out⟩

set_option maxRecDepth 100000 in
set_option maxHeartbeats 800000 in
theorem specFirstColumn_any (ao : Option Addr) (c : Nat) (m : List (List Int)) (w : World) (hs : Small m) (hm : MatAt w ao m) :
    Calls Try.prog 66 #[.slice ao m.length c] w fun e w' => CRes m e ∧ Below w.heap.size w w' := by
  have Hs := Lib.hid hs
  have Hm := Lib.hid hm
  clear hs hm
  go_enter Try.func66, Try.ntmps66
  go_wp2_with fail
  refine (sgGood_any ao c m w Hs.out Hm.out).mono ?_
  rintro e w1 ⟨ha, hb⟩
  have Hb := Lib.hid hb
  have Hm1 := Lib.hid (Hm.out.below hb)
  clear hb
  by_cases hg : good m
  · have Hg := Lib.hid hg
    clear hg
    obtain rfl := ha.is Hg.out
    clear ha
    obtain ⟨j, hj⟩ := first_one (Hg.out.2.1 0 (by have := Hg.out.1.1; omega))
    have h0 : 0 < m.length := by have := Hg.out.1.1; omega
    have hn := Hg.out.1.2.1
    have hjl := hj.1
    have hrl : (gr m 0).length = m.length := Hg.out.1.2.2 0 h0
    rw [hrl] at hjl
    obtain ⟨b1, o1, r1, d1, rfl, hc1, hx1, _, _⟩ := Hm1.out 0 h0
    rw [hrl, Nat.add_zero] at hc1
    have Hrl := Lib.hid hrl
    have Hj := Lib.hid hj
    have Hx1 := Lib.hid hx1
    clear hrl hj hx1
    go_wp2
    go_loop [4] (fun i => ∃ k : Nat, k ≤ j ∧ i = .int .i64 k) (fun i => m.length - (intOf i).toNat)
    case atStart => exact ⟨0, Nat.zero_le _, rfl⟩
    case round =>
      obtain ⟨k, hk, rfl⟩ := hrel
      obtain ⟨b2, o2, rfl, hc2⟩ := Hx1.out k (by rw [Hrl.out]; omega)
      by_cases he : k = j
      · have h1 : gi (gr m 0) k = 1 := by rw [he]; exact Hj.out.2.1
        rw [h1] at hc2
        subst he
        clear h1
        go_wp2
        go_ret2
        exact ⟨.inl ⟨Hg.out, k, Hj.out, rfl⟩, Hb.out⟩
      · have h1 : gi (gr m 0) k = 0 := Hj.out.2.2 k (by omega)
        rw [h1] at hc2
        clear h1
        go_wp2
        go_round
        case rel => exact ⟨k + 1, by omega, by go_num⟩
        case measure => simp [intOf]; omega
  · have Hg := Lib.hid hg
    clear hg
    obtain rfl := ha.isnt Hg.out
    clear ha
    go_wp2
    go_ret2
    exact ⟨.inr ⟨Hg.out, rfl⟩, Hb.out⟩

set_option maxRecDepth 100000 in
set_option maxHeartbeats 800000 in
theorem implFirstColumn_any (ao : Option Addr) (c : Nat) (m : List (List Int)) (w : World) (hs : Small m) (hwf : WfM m) (hm : MatAt w ao m) :
    Calls Try.prog 65 #[.slice ao m.length c] w fun e w' => CRes m e ∧ Below w.heap.size w w' := by
  have Hs := Lib.hid hs
  have Hm := Lib.hid hm
  clear hs hm
  have Hwf := Lib.hid hwf
  clear hwf
  go_enter Try.func65, Try.ntmps65
  go_wp2_with fail
  refine (implIsSign_any ao c m w Hs.out Hwf.out Hm.out).mono ?_
  rintro e w1 ⟨ha, hb⟩
  have Hb := Lib.hid hb
  have Hm1 := Lib.hid (Hm.out.below hb)
  clear hb
  by_cases hg : good m
  · have Hg := Lib.hid hg
    clear hg
    obtain rfl := ha.is Hg.out
    clear ha
    obtain ⟨j, hj⟩ := first_one (Hg.out.2.1 0 (by have := Hg.out.1.1; omega))
    have h0 : 0 < m.length := by have := Hg.out.1.1; omega
    have hn := Hg.out.1.2.1
    have hrl : (gr m 0).length = m.length := Hg.out.1.2.2 0 h0
    obtain ⟨b1, o1, r1, d1, rfl, hc1, hx1, _, _⟩ := Hm1.out 0 h0
    rw [Nat.add_zero] at hc1
    have Hrl := Lib.hid hrl
    have Hj := Lib.hid hj
    have Hx1 := Lib.hid hx1
    clear hrl hj hx1
    go_wp2_with fail
    refine (sIndex_any r1 d1 (gr m 0) j w1 (by rw [Hrl.out]; omega) Hj.out Hx1.out).mono ?_
    rintro e w2 ⟨rfl, rfl⟩
    go_wp2
    go_ret2
    exact ⟨.inl ⟨Hg.out, j, Hj.out, rfl⟩, Hb.out⟩
  · have Hg := Lib.hid hg
    clear hg
    obtain rfl := ha.isnt Hg.out
    clear ha
    go_wp2
    go_ret2
    exact ⟨.inr ⟨Hg.out, rfl⟩, Hb.out⟩

/-- whatever both hand back is the same number -/
theorem cres_ires {m : List (List Int)} {e : Ending} (h : CRes m e) : ∀ j, IsFirst (gr m 0) j → IRes (good m) (j : Int) e := by
  intro j hj
  rcases h with ⟨hg, j', hj', rfl⟩ | ⟨hg, rfl⟩
  · obtain rfl := first_unique hj hj'
    exact IRes.yes hg
  · exact IRes.no hg

/-- the column of the first 1, where there is one -/
theorem cres_some (m : List (List Int)) : ∃ x : Int, ∀ e, CRes m e → IRes (good m) x e := by
  by_cases hg : good m
  · obtain ⟨j, hj⟩ := first_one (hg.2.1 0 (by have := hg.1.1; omega))
    exact ⟨j, fun e h => cres_ires h j hj⟩
  · refine ⟨0, fun e h => ?_⟩
    rcases h with ⟨h1, _⟩ | ⟨_, rfl⟩
    · exact absurd h1 hg
    · exact IRes.no hg
end Go.Proofs.Ytnhkclnloiiihaa
