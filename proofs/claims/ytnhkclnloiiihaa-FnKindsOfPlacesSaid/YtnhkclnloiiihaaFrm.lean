/- Contracts: a corner sum beside or inside a table; the table with given corner sums, by the model and by the program. -/
import Derived.Test.YtnhkclnloiiihaaCorn
namespace Go.Proofs.Ytnhkclnloiiihaa
open Go.RowKit

/-- a number of a table, 0 beside it -/
def atC (c : List (List Int)) (i j : Int) : Int := if i < 0 then 0 else if j < 0 then 0 else gi (gr c i.toNat) j.toNat
theorem atC_nat (c : List (List Int)) (i j : Nat) : atC c (i : Int) (j : Int) = gi (gr c i) j := by
  unfold atC
  rw [if_neg (by omega), if_neg (by omega), Int.toNat_natCast, Int.toNat_natCast]

theorem cellD {w : World} {a : Addr} {v : Value} (h : w.cell? a = some v) : ({ w with drawn := w.drawn + 1 } : World).cell? a = some v := h
theorem MatAt.drewD {w : World} {ao : Option Addr} {m : List (List Int)} (h : MatAt w ao m) : MatAt { w with drawn := w.drawn + 1 } ao m := h

set_option maxRecDepth 100000 in
set_option maxHeartbeats 800000 in
theorem sgAt_any (ao : Option Addr) (c : Nat) (m : List (List Int)) (i j : Int) (w : World) (hsq : square m) (hi : -1 ≤ i ∧ i < m.length) (hj : -1 ≤ j ∧ j < m.length) (hm : MatAt w ao m) :
    Calls Try.prog 190 #[.slice ao m.length c, .int .i64 i, .int .i64 j] w fun e w' => e = .returned (.int .i64 (atC m i j)) ∧ w' = w := by
  have hn := hsq.2.1
  obtain ⟨hi0, hi1⟩ := hi
  obtain ⟨hj0, hj1⟩ := hj
  by_cases h1 : i < 0
  · have e1 : atC m i j = 0 := if_pos h1
    rw [e1]
    clear e1 hm
    go_enter Try.func190, Try.ntmps190
    go_wp2
    go_ret
    exact ⟨rfl, rfl⟩
  · by_cases h2 : j < 0
    · have e1 : atC m i j = 0 := by unfold atC; rw [if_neg h1, if_pos h2]
      rw [e1]
      clear e1 hm
      go_enter Try.func190, Try.ntmps190
      go_wp2
      go_ret
      exact ⟨rfl, rfl⟩
    · obtain ⟨i, rfl⟩ := Int.eq_ofNat_of_zero_le (show 0 ≤ i by omega)
      obtain ⟨j, rfl⟩ := Int.eq_ofNat_of_zero_le (show 0 ≤ j by omega)
      rw [atC_nat]
      have hd : decide ((j : Int) < 0) = false := by simp
      obtain ⟨b, o, r, d, rfl, hc, hr, _, _⟩ := hm i (by omega)
      have hl := hsq.2.2 i (by omega)
      rw [hl] at hc
      obtain ⟨b2, o2, rfl, hc2⟩ := hr j (by rw [hl]; omega)
      clear hm hr hl hsq
      go_enter Try.func190, Try.ntmps190
      go_wp2
      go_ret
      exact ⟨rfl, rfl⟩

set_option maxRecDepth 100000 in
set_option maxHeartbeats 800000 in
theorem corner_any (ao : Option Addr) (c : Nat) (m : List (List Int)) (i j : Int) (w : World) (hsq : square m) (hi : -1 ≤ i ∧ i < m.length) (hj : -1 ≤ j ∧ j < m.length) (hm : MatAt w ao m) :
    Calls Try.prog 189 #[.slice ao m.length c, .int .i64 i, .int .i64 j] w fun e w' => e = .returned (.int .i64 (atC m i j)) ∧ w' = w := by
  have hn := hsq.2.1
  obtain ⟨hi0, hi1⟩ := hi
  obtain ⟨hj0, hj1⟩ := hj
  by_cases h1 : i < 0
  · have e1 : atC m i j = 0 := if_pos h1
    rw [e1]
    clear e1 hm
    go_enter Try.func189, Try.ntmps189
    go_wp2
    go_ret
    exact ⟨rfl, rfl⟩
  · by_cases h2 : j < 0
    · have e1 : atC m i j = 0 := by unfold atC; rw [if_neg h1, if_pos h2]
      rw [e1]
      clear e1 hm
      go_enter Try.func189, Try.ntmps189
      go_wp2
      go_ret
      exact ⟨rfl, rfl⟩
    · obtain ⟨i, rfl⟩ := Int.eq_ofNat_of_zero_le (show 0 ≤ i by omega)
      obtain ⟨j, rfl⟩ := Int.eq_ofNat_of_zero_le (show 0 ≤ j by omega)
      rw [atC_nat]
      have hd : decide ((j : Int) < 0) = false := by simp
      obtain ⟨b, o, r, d, rfl, hc, hr, _, _⟩ := hm i (by omega)
      have hl := hsq.2.2 i (by omega)
      rw [hl] at hc
      obtain ⟨b2, o2, rfl, hc2⟩ := hr j (by rw [hl]; omega)
      clear hm hr hl hsq
      go_enter Try.func189, Try.ntmps189
      go_wp2
      go_ret
      exact ⟨rfl, rfl⟩

/-- the numbers of a table are in 0..n -/
def inRange (c : List (List Int)) : Prop := ∀ i j, i < c.length → j < c.length → 0 ≤ gi (gr c i) j ∧ gi (gr c i) j ≤ c.length

/-- differences of corner sums -/
def df (c : List (List Int)) (i j : Nat) : Int := atC c i j - atC c ((i : Int) - 1) j - atC c i ((j : Int) - 1) + atC c ((i : Int) - 1) ((j : Int) - 1)
def dm (c : List (List Int)) : List (List Int) := tab c.length c.length (df c)
theorem dm_len (c : List (List Int)) : (dm c).length = c.length := tab_len _ _ _

theorem atC_range {c : List (List Int)} (h : inRange c) {i j : Int} (hi : -1 ≤ i ∧ i < c.length) (hj : -1 ≤ j ∧ j < c.length) : 0 ≤ atC c i j ∧ atC c i j ≤ c.length := by
  unfold atC
  split
  · omega
  · split
    · omega
    · exact h i.toNat j.toNat (by omega) (by omega)

theorem w64 {n : Int} (h : -9223372036854775808 ≤ n ∧ n ≤ 9223372036854775807) : IntKind.i64.wrap n = n := by
  exact IntWalk.i64_in n h

/-- .. or not far from it -/
def inWide (c : List (List Int)) : Prop := ∀ i j, i < c.length → j < c.length → -1000 ≤ gi (gr c i) j ∧ gi (gr c i) j ≤ 1000
theorem atC_wide {c : List (List Int)} (h : inWide c) {i j : Int} (hi : -1 ≤ i ∧ i < c.length) (hj : -1 ≤ j ∧ j < c.length) : -1000 ≤ atC c i j ∧ atC c i j ≤ 1000 := by
  unfold atC
  split
  · omega
  · split
    · omega
    · exact h i.toNat j.toNat (by omega) (by omega)

set_option maxRecDepth 100000 in
set_option maxHeartbeats 3200000 in
theorem sgFromW_any (ao : Option Addr) (c : Nat) (m : List (List Int)) (w : World) (hsq : square m) (hin : inWide m) (hm : MatAt w ao m) :
    Calls Try.prog 134 #[.slice ao m.length c] w fun e w' => ∃ v, e = .returned v ∧ OwnM w' w.heap.size v (dm m) ∧ Below w.heap.size w w' := by
  have hn := hsq.2.1
  have hmx : m.length ≤ 9223372036854775807 := by omega
  have Hsq := Lib.hid hsq
  have Hin := Lib.hid hin
  have Hm := Lib.hid hm
  clear hsq hin hm
  go_enter Try.func134, Try.ntmps134
  go_wp2_with fail
  refine (sgZero_any m.length w (by omega)).mono ?_
  rintro e w1 ⟨v, rfl, hv, hb⟩
  obtain ⟨oa, oc, vs, rfl, hp, _, _⟩ := hv.open
  rw [tab_len] at hp ⊢
  obtain ⟨og, rfl, _⟩ : ∃ g, oa = some ⟨g, 0, none⟩ ∧ w.heap.size ≤ g := by
    rcases hp.top.2 with ⟨h0, h1⟩ | ⟨g, cap, cur, hv2, hg2, _⟩
    · exact absurd h1 (by have := Hsq.out.1; omega)
    · simp only [Value.slice.injEq] at hv2
      exact ⟨g, hv2.1, hg2⟩
  have Hv := Lib.hid hp
  have Hb := Lib.hid hb
  clear hv hp hb
  go_wp2
  go_loopw [11] (fun i wr => ∃ (k : Nat) (f : Nat → Nat → Int), k ≤ m.length ∧ i = .int .i64 k ∧ OwnP wr w.heap.size (.slice (some ⟨og, 0, none⟩) m.length oc) m.length (tab m.length m.length f) m.length vs ∧
      (∀ a b, a < k → b < m.length → f a b = df m a b) ∧ Below w.heap.size w wr) (fun i _ => m.length - (intOf i).toNat)
  case atStart => exact ⟨0, _, Nat.zero_le _, rfl, Hv.out, fun a b ha _ => absurd ha (by omega), Hb.out⟩
  case round =>
    obtain ⟨k, f, hk, rfl, hown, heq, hbr⟩ := hrel
    obtain ⟨wo, rfl⟩ : ∃ wo : World, wo = wr := ⟨_, rfl⟩
    clear Hv Hb
    have Hown := Lib.hid hown
    have Heq := Lib.hid heq
    have Hbr := Lib.hid hbr
    clear hown heq hbr
    by_cases hlt : k < m.length
    · go_wp2
      go_loopw [16] (fun i wr => ∃ (t : Nat) (f : Nat → Nat → Int), t ≤ m.length ∧ i = .int .i64 t ∧ OwnP wr w.heap.size (.slice (some ⟨og, 0, none⟩) m.length oc) m.length (tab m.length m.length f) m.length vs ∧
          (∀ a b, a < k → b < m.length → f a b = df m a b) ∧ (∀ b, b < t → f k b = df m k b) ∧ Below w.heap.size w wr) (fun i _ => m.length - (intOf i).toNat)
      case atStart => exact ⟨0, f, Nat.zero_le _, rfl, Hown.out, Heq.out, fun a ha => absurd ha (by omega), Hbr.out⟩
      case round =>
        obtain ⟨t, f, ht, rfl, hown, heq, hcol, hbi⟩ := hrel
        clear Hown Heq Hbr
        by_cases htl : t < m.length
        · have hd := hown.cellAt k hlt
          obtain ⟨g, cap, hvs, hd2, hf2, hg, hst⟩ := hown.at2 hlt htl
          rw [hvs] at hd
          have hmr := (Hm.out.below hbi).drewD
          have c1 := sgAt_any ao c m k t _ Hsq.out (by omega) (by omega) hmr
          have c2 := sgAt_any ao c m ((k : Int) - 1) t _ Hsq.out (by omega) (by omega) hmr
          have c3 := sgAt_any ao c m k ((t : Int) - 1) _ Hsq.out (by omega) (by omega) hmr
          have c4 := sgAt_any ao c m ((k : Int) - 1) ((t : Int) - 1) _ Hsq.out (by omega) (by omega) hmr
          have r1 := atC_wide Hin.out (i := k) (j := t) (by omega) (by omega)
          have r2 := atC_wide Hin.out (i := (k : Int) - 1) (j := t) (by omega) (by omega)
          have r3 := atC_wide Hin.out (i := k) (j := (t : Int) - 1) (by omega) (by omega)
          have r4 := atC_wide Hin.out (i := (k : Int) - 1) (j := (t : Int) - 1) (by omega) (by omega)
          have hdf : df m k t = atC m k t - atC m ((k : Int) - 1) t - atC m k ((t : Int) - 1) + atC m ((k : Int) - 1) ((t : Int) - 1) := rfl
          generalize atC m k t = x1 at c1 r1 hdf
          generalize atC m ((k : Int) - 1) t = x2 at c2 r2 hdf
          generalize atC m k ((t : Int) - 1) = x3 at c3 r3 hdf
          generalize atC m ((k : Int) - 1) ((t : Int) - 1) = x4 at c4 r4 hdf
          have k1 : IntKind.i64.wrap ((k : Int) - 1) = (k : Int) - 1 := w64 (by omega)
          have k2 : IntKind.i64.wrap ((t : Int) - 1) = (t : Int) - 1 := w64 (by omega)
          have k3 : IntKind.i64.wrap (x1 - x2) = x1 - x2 := w64 (by omega)
          have k4 : IntKind.i64.wrap (x1 - x2 - x3) = x1 - x2 - x3 := w64 (by omega)
          have k5 : IntKind.i64.wrap (x1 - x2 - x3 + x4) = x1 - x2 - x3 + x4 := w64 (by omega)
          have C1 := Lib.hid c1
          have C2 := Lib.hid c2
          have C3 := Lib.hid c3
          have C4 := Lib.hid c4
          have Hdf := Lib.hid hdf
          have Hvs := Lib.hid hvs
          have Hst := Lib.hid (hst (x1 - x2 - x3 + x4))
          have Heq := Lib.hid heq
          have Hcol := Lib.hid hcol
          have Hbs := Lib.hid (hbi.setCell (p := ⟨g, t, none⟩) hg (.int .i64 (x1 - x2 - x3 + x4)))
          have hdD := cellD hd
          have hd2D := cellD hd2
          clear hown heq hcol hbi hst hvs hmr c1 c2 c3 c4 hdf hg
          go_upto_region 8 with (fail)
          refine wp_region_still_tail 29 (by kernel_rfl) (by kernel_rfl) ?_
          simp only [List.take_succ_cons, List.take_zero, List.drop_succ_cons, List.drop_zero]
          repeat still_step
          still_call C1.out
          repeat still_step
          still_call C2.out
          repeat still_step
          still_call C3.out
          repeat still_step
          still_call C4.out
          repeat still_step
          refine wpStill_nil ?_
          change wpList _ _ _ _ _ wr.drew
          clear k1 k2 k3 k4 k5 hdD hd2D
          go_wp2
          go_roundw
          case rel =>
            refine ⟨t + 1, _, by omega, by go_num, Hst.out.drew, fun a b ha hb => ?_, fun b hb => ?_, Hbs.out.drew⟩
            · rw [if_neg (fun h => by omega)]
              exact Heq.out a b ha hb
            · by_cases e : b = t
              · subst e; rw [if_pos ⟨rfl, rfl⟩]; exact Hdf.out.symm
              · rw [if_neg (fun h => by omega)]
                exact Hcol.out b (by omega)
          case measure => simp [intOf]; omega
        · obtain rfl : t = m.length := by omega
          have Hown := Lib.hid hown
          have Heq := Lib.hid heq
          have Hcol := Lib.hid hcol
          have Hbi := Lib.hid hbi
          clear hown heq hcol hbi
          go_wp2
          go_roundw
          case rel =>
            refine ⟨k + 1, f, by omega, by go_num, Hown.out, fun a b ha hb => ?_, Hbi.out⟩
            by_cases e : a = k
            · subst e; exact Hcol.out b hb
            · exact Heq.out a b (by omega) hb
          case measure => simp [intOf]; omega
    · obtain rfl : k = m.length := by omega
      have hown := Hown.out
      have heq := Heq.out
      have e : dm m = tab m.length m.length f := (eq_tab (dm_len m) (fun i hi => tab_row hi) (fun i j hi hj => by unfold dm; rw [gi_tab hi hj, heq i j hi hj]))
      have hfin : OwnM wo w.heap.size (.slice (some ⟨og, 0, none⟩) m.length oc) (dm m) := ⟨vs, by rw [dm_len, e]; exact hown⟩
      have Hfin := Lib.hid hfin
      clear hown heq e hfin
      go_wp2
      go_ret
      exact ⟨_, rfl, Hfin.out, Hbr.out⟩

theorem sgFrom_any (ao : Option Addr) (c : Nat) (m : List (List Int)) (w : World) (hsq : square m) (hin : inRange m) (hm : MatAt w ao m) :
    Calls Try.prog 134 #[.slice ao m.length c] w fun e w' => ∃ v, e = .returned v ∧ OwnM w' w.heap.size v (dm m) ∧ Below w.heap.size w w' :=
  sgFromW_any ao c m w hsq (fun i j hi hj => by have h1 := hin i j hi hj; have h2 := hsq.2.1; omega) hm
end Go.Proofs.Ytnhkclnloiiihaa
