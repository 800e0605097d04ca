/- Parts of proofs: contracts and plain facts. Conditions: as each says. -/
import Derived.Test.YtmkldodkpijfjaaK00
namespace Go.Proofs.Ytmkldodkpijfjaa
open Go.RowKit

-- eqIntS at equal lists
set_option maxRecDepth 100000 in
set_option maxHeartbeats 400000 in
theorem eqIntS_same (a1 a2 : Option Addr) (c1 c2 : Nat) (xs : List Int) (w : World) (hn : xs.length ≤ 1048576) (h1 : IntsAt w a1 xs) (h2 : IntsAt w a2 xs) :
    Calls Try.prog 25 #[.slice a1 xs.length c1, .slice a2 xs.length c2] w fun e w' => e = .returned (.bool true) ∧ Q w w' := by
  have hmx : xs.length ≤ 9223372036854775807 := by omega
  go_enter Try.func25, Try.ntmps25
  go_wp2
  go_loopw [5] (fun i wr => ∃ k : Nat, k ≤ xs.length ∧ i = .int .i64 k ∧ Q w wr) (fun i _ => xs.length - (intOf i).toNat)
  case atStart => exact ⟨0, Nat.zero_le _, rfl, Q.refl _⟩
  case round =>
    obtain ⟨k, hk, rfl, hbr⟩ := hrel
    by_cases hlt : k < xs.length
    · obtain ⟨b1, o1, rfl, hc1⟩ := h1.below (hbr.below _) k hlt
      obtain ⟨b2, o2, rfl, hc2⟩ := h2.below (hbr.below _) k hlt
      clear h1 h2
      go_wp2
      go_quiet (fail)
      go_wp2
      go_roundw
      case rel => exact ⟨k + 1, by omega, by go_num, hbr.drewN _⟩
      case measure => simp [intOf]; omega
    · go_wp2
      go_ret
      exact ⟨rfl, hbr⟩

-- eqIntSS at equal lists
set_option maxRecDepth 100000 in
set_option maxHeartbeats 400000 in
theorem eqIntSS_same (a1 a2 : Option Addr) (c1 c2 : Nat) (m : List (List Int)) (w : World) (hs : Small m) (h1 : MatAt w a1 m) (h2 : MatAt w a2 m) :
    Calls Try.prog 10 #[.slice a1 m.length c1, .slice a2 m.length c2] w fun e w' => e = .returned (.bool true) ∧ Q w w' := by
  obtain ⟨hn, hrow⟩ := hs
  have hmx : m.length ≤ 9223372036854775807 := by omega
  go_enter Try.func10, Try.ntmps10
  go_wp2
  go_loopw [5] (fun i wr => ∃ k : Nat, k ≤ m.length ∧ i = .int .i64 k ∧ Q w wr) (fun i _ => m.length - (intOf i).toNat)
  case atStart => exact ⟨0, Nat.zero_le _, rfl, Q.refl _⟩
  case round =>
    obtain ⟨k, hk, rfl, hbr⟩ := hrel
    by_cases hlt : k < m.length
    · obtain ⟨b1, o1, r1, d1, rfl, hc1, hx1, _, _⟩ := h1.below (hbr.below _) k hlt
      obtain ⟨b2, o2, r2, d2, rfl, hc2, hx2, _, _⟩ := h2.below (hbr.below _) k hlt
      have hrk := hrow k hlt
      have Hx1 := Lib.hid hx1
      have Hx2 := Lib.hid hx2
      clear h1 h2 hx1 hx2 hrow
      go_wp2
      go_quiet ((go_at_call 25; exact Calls.quiet_of (eqIntS_same _ _ _ _ _ _ hrk Hx1.out Hx2.out)))
      go_wp2
      go_roundw
      case rel => exact ⟨k + 1, by omega, by go_num, hbr.drewN _⟩
      case measure => simp [intOf]; omega
    · go_wp2
      go_ret
      exact ⟨rfl, hbr⟩

/-- the numbers k, k + 1, .., n of them -/
def marks (k : Int) (n : Nat) : List Int := (List.range n).map fun i : Nat => k + (i : Int)
theorem marks_len (k : Int) (n : Nat) : (marks k n).length = n := by simp [marks]
theorem gi_marks {k : Int} {n i : Nat} (h : i < n) : gi (marks k n) i = k + i := by
  rw [gi_lt (by rw [marks_len]; exact h)]
  simp [marks]

-- heldIntS where the marks hold
set_option maxRecDepth 100000 in
set_option maxHeartbeats 400000 in
theorem heldIntS_yes (ao : Option Addr) (c : Nat) (n : Nat) (q : Int) (w : World) (hn : n ≤ 1048576) (hq0 : 0 ≤ q) (hq1 : q ≤ 4000000000000) (hx : IntsAt w ao (marks q n)) :
    Calls Try.prog 51 #[.slice ao n c, .int .i64 q] w fun e w' => e = .returned (.int .i64 (q + n)) ∧ Q w w' := by
  have hmx : n ≤ 9223372036854775807 := by omega
  go_enter Try.func51, Try.ntmps51
  go_wp2
  go_loopw [1, 5] (fun kk i wr => ∃ k : Nat, k ≤ n ∧ i = .int .i64 k ∧ kk = .int .i64 (q + k) ∧ Q w wr) (fun _ i _ => n - (intOf i).toNat)
  case atStart => exact ⟨0, Nat.zero_le _, rfl, by simp, Q.refl _⟩
  case round =>
    obtain ⟨k, hk, rfl, rfl, hbr⟩ := hrel
    by_cases hlt : k < n
    · obtain ⟨b1, o1, rfl, hc1⟩ := hx.below (hbr.below _) k (by rw [marks_len]; exact hlt)
      rw [gi_marks hlt] at hc1
      clear hx
      have hb : (q + (k : Int) == q + (k : Int)) = true := by simp
      go_wp2
      go_roundw
      case rel => exact ⟨k + 1, by omega, by go_num, by go_num, hbr⟩
      case measure => simp [intOf]; omega
    · obtain rfl : k = n := by omega
      go_wp2
      go_ret
      exact ⟨rfl, hbr⟩

/-- how many numbers the first k rows hold -/
def tot (m : List (List Int)) : Nat → Nat
  | 0 => 0
  | k + 1 => tot m k + (gr m k).length
theorem tot_le {m : List (List Int)} (hs : Small m) : ∀ k, k ≤ m.length → tot m k ≤ k * 1048576
  | 0, _ => Nat.le_of_eq (by simp [tot])
  | k + 1, h => by
    have h1 := tot_le hs k (by omega)
    have h2 := hs.2 k (by omega)
    simp only [tot]
    omega
theorem tot_big {m : List (List Int)} (hs : Small m) {k : Nat} (h : k ≤ m.length) : tot m k ≤ 1099511627776 := by
  have h1 := tot_le hs k h
  have h2 := hs.1
  have : k * 1048576 ≤ 1048576 * 1048576 := Nat.mul_le_mul_right _ (by omega)
  omega

def markM (q : Int) (m : List (List Int)) : List (List Int) := (List.range m.length).map fun i => marks (q + (tot m i : Int)) (gr m i).length
theorem markM_len (q : Int) (m : List (List Int)) : (markM q m).length = m.length := by simp [markM]
theorem gr_markM {q : Int} {m : List (List Int)} {i : Nat} (h : i < m.length) : gr (markM q m) i = marks (q + (tot m i : Int)) (gr m i).length := by
  rw [gr_lt (by rw [markM_len]; exact h)]
  simp [markM]

-- heldIntSS where the marks hold
set_option maxRecDepth 100000 in
set_option maxHeartbeats 400000 in
theorem heldIntSS_yes (ao : Option Addr) (c : Nat) (m : List (List Int)) (q : Int) (w : World) (hs : Small m) (hq0 : 0 ≤ q) (hq1 : q ≤ 2000000000000) (hx : MatAt w ao (markM q m)) :
    Calls Try.prog 31 #[.slice ao m.length c, .int .i64 q] w fun e w' => e = .returned (.int .i64 (q + tot m m.length)) ∧ Q w w' := by
  have hn := hs.1
  have hmx : m.length ≤ 9223372036854775807 := by omega
  go_enter Try.func31, Try.ntmps31
  go_wp2
  go_loopw [1, 5] (fun kk i wr => ∃ k : Nat, k ≤ m.length ∧ i = .int .i64 k ∧ kk = .int .i64 (q + tot m k) ∧ Q w wr) (fun _ i _ => m.length - (intOf i).toNat)
  case atStart => exact ⟨0, Nat.zero_le _, rfl, by simp [tot], Q.refl _⟩
  case round =>
    obtain ⟨k, hk, rfl, rfl, hbr⟩ := hrel
    by_cases hlt : k < m.length
    · obtain ⟨b1, o1, r1, d1, rfl, hc1, hr1, _, _⟩ := hx.below (hbr.below _) k (by rw [markM_len]; exact hlt)
      rw [gr_markM hlt, marks_len] at hc1
      rw [gr_markM hlt] at hr1
      have h2 := hs.2 k hlt
      have h3 := tot_big hs hk
      have Hs := Lib.hid hs
      clear hx hs
      go_wp2_with fail
      refine (heldIntS_yes r1 d1 (gr m k).length _ wr h2 (by omega) (by omega) hr1).mono ?_
      rintro e w2 ⟨rfl, hb2⟩
      have e1 : q + (tot m k : Int) + ((gr m k).length : Int) = q + (tot m (k + 1) : Int) := by simp only [tot]; omega
      have h4 := tot_big Hs.out (show k + 1 ≤ m.length by omega)
      rw [e1]
      clear e1
      go_wp2
      go_roundw
      case rel => exact ⟨k + 1, by omega, by go_num, rfl, hbr.trans hb2⟩
      case measure => simp [intOf]; omega
    · obtain rfl : k = m.length := by omega
      go_wp2
      go_ret
      exact ⟨rfl, hbr⟩

-- markIntS
set_option maxRecDepth 100000 in
set_option maxHeartbeats 400000 in
theorem markIntS_any (B : Nat) (ao : Option Addr) (c n : Nat) (q : Int) (xs : List Int) (w : World) (hn : n ≤ 1048576) (hq0 : 0 ≤ q) (hq1 : q ≤ 2000000000000) (hx : OwnI w B (.slice ao n c) xs) :
    Calls Try.prog 30 #[.slice ao n c, .int .i64 q] w fun e w' => e = .returned (.int .i64 (q + n)) ∧ OwnI w' B (.slice ao n c) (marks q n) ∧ OnlyW (fun g => (Value.slice ao n c).ownBlock = some g) w w' := by
  have hmx : n ≤ 9223372036854775807 := by omega
  have hxl := hx.len
  go_enter Try.func30, Try.ntmps30
  go_wp2
  go_loopw [1, 5] (fun kk i wr => ∃ (k : Nat) (ys : List Int), k ≤ n ∧ i = .int .i64 k ∧ kk = .int .i64 (q + k) ∧ OwnI wr B (.slice ao n c) ys ∧ (∀ j, j < k → gi ys j = q + j) ∧ OnlyW (fun g => (Value.slice ao n c).ownBlock = some g) w wr)
    (fun _ i _ => n - (intOf i).toNat)
  case atStart => exact ⟨0, xs, Nat.zero_le _, rfl, by simp, hx, fun j hj => absurd hj (by omega), OnlyW.refl _ _⟩
  case round =>
    obtain ⟨k, ys, hk, rfl, rfl, hown, heq, hbr⟩ := hrel
    by_cases hlt : k < n
    · obtain ⟨g, rfl, _, _⟩ := hown.isAt (by omega)
      have hd := hown.cellAt k hlt
      have hf := hown.frozenAt k
      have Hst := Lib.hid (hown.store k (q + k))
      have Hl := Lib.hid hown.len
      have Heq := Lib.hid heq
      have Hbs := Lib.hid (hbr.setCell (p := ⟨g, k, none⟩) rfl (.int .i64 (q + k)))
      clear heq hown hbr hx hxl
      go_wp2
      go_roundw
      case rel =>
        refine ⟨k + 1, _, by omega, by go_num, by go_num, Hst.out, fun j hj => ?_, Hbs.out⟩
        rw [gi_set (by rw [Hl.out]; exact hlt)]
        split
        · next e => rw [e]
        · exact Heq.out j (by omega)
      case measure => simp [intOf]; omega
    · obtain rfl : k = n := by omega
      go_wp2
      go_ret
      obtain rfl : ys = marks q k := ext_gi (by rw [hown.len, marks_len]) (fun j hj => by rw [hown.len] at hj; rw [heq j hj, gi_marks hj])
      exact ⟨rfl, hown, hbr⟩

theorem tot_congr {m m' : List (List Int)} {k : Nat} (h : ∀ i, i < k → (gr m i).length = (gr m' i).length) : tot m k = tot m' k := by
  induction k with
  | zero => rfl
  | succ k ih => simp only [tot]; rw [ih (fun i hi => h i (by omega)), h k (by omega)]

-- markIntSS
set_option maxRecDepth 100000 in
set_option maxHeartbeats 400000 in
theorem markIntSS_any (B : Nat) (ao : Option Addr) (c : Nat) (q : Int) (m : List (List Int)) (vs : List Value) (w : World) (hs : Small m) (hq0 : 0 ≤ q) (hq1 : q ≤ 10) (hx : OwnP w B (.slice ao m.length c) m.length m m.length vs) :
    Calls Try.prog 14 #[.slice ao m.length c, .int .i64 q] w fun e w' => e = .returned (.int .i64 (q + tot m m.length)) ∧ OwnP w' B (.slice ao m.length c) m.length (markM q m) m.length vs ∧
      OnlyW (fun g => ∃ i, i < m.length ∧ (vs.getD i undef).ownBlock = some g) w w' := by
  have hn := hs.1
  have hmx : m.length ≤ 9223372036854775807 := by omega
  go_enter Try.func14, Try.ntmps14
  go_wp2
  go_loopw [1, 5] (fun kk i wr => ∃ k : Nat, k ≤ m.length ∧ i = .int .i64 k ∧ kk = .int .i64 (q + tot m k) ∧ wr.ownsRow B 38 1 (.slice ao m.length c) m.length vs ∧
      (∀ i, i < k → OwnI wr B (vs.getD i undef) (gr (markM q m) i)) ∧ (∀ i, k ≤ i → i < m.length → OwnI wr B (vs.getD i undef) (gr m i)) ∧ OnlyW (fun g => ∃ i, i < m.length ∧ (vs.getD i undef).ownBlock = some g) w wr)
    (fun _ i _ => m.length - (intOf i).toNat)
  case atStart => exact ⟨0, Nat.zero_le _, rfl, by simp [tot], hx.top, fun i hi => absurd hi (by omega), fun i _ hi => hx.rows i hi, OnlyW.refl _ _⟩
  case round =>
    obtain ⟨k, hk, rfl, rfl, htop, hlo, hhi, hbr⟩ := hrel
    by_cases hlt : k < m.length
    · obtain ⟨ao', c', hv', _, _, hcells⟩ := ownsRow_read htop
      obtain ⟨rfl, -, rfl⟩ := (Value.slice.injEq _ _ _ _ _ _).mp hv'
      obtain ⟨b, o, rfl, hc⟩ := hcells k hlt
      have hrow := hhi k (Nat.le_refl _) hlt
      obtain ⟨r, d, hr, h3, h4, _⟩ := hrow.read
      have Hr := Lib.hid hr
      rw [hr] at hc hrow
      have h2 := hs.2 k hlt
      have h5 := tot_big hs hk
      have Hs := Lib.hid hs
      have Hx := Lib.hid hx
      have Htop := Lib.hid htop
      have Hlo := Lib.hid hlo
      have Hhi := Lib.hid hhi
      have Hrow := Lib.hid hrow
      clear hs hx htop hlo hhi hr hcells hv' hrow
      go_wp2_with fail
      refine (markIntS_any B r d (gr m k).length _ _ wr h2 (by omega) (by omega) Hrow.out).mono ?_
      rintro e w2 ⟨rfl, hv, hb2⟩
      have e1 : q + (tot m k : Int) + ((gr m k).length : Int) = q + (tot m (k + 1) : Int) := by simp only [tot]; omega
      have h6 := tot_big Hs.out (show k + 1 ≤ m.length by omega)
      rw [e1]
      rw [← Hr.out] at hv hb2
      have Hv := Lib.hid hv
      have Hb2 := Lib.hid hb2
      clear e1 hv hb2
      go_wp2
      go_roundw
      case rel =>
        have hb2 := Hb2.out
        refine ⟨k + 1, by omega, by go_num, rfl, ?_, fun i hi => ?_, fun i hi1 hi2 => ?_, hbr.trans (hb2.mono (fun g hg => ⟨k, hlt, hg⟩))⟩
        · exact ownsRow_only Htop.out hb2 (fun g hg hg' => (Hhi.out k (Nat.le_refl _) hlt).ne_row Htop.out g hg' hg)
        · by_cases e : i = k
          · subst e
            rw [gr_markM hlt]
            exact Hv.out
          · exact ownsRow_only (Hlo.out i (by omega)) hb2 (fun g hg hg' => Hx.out.apart i k (by omega) hlt g hg hg')
        · exact ownsRow_only (Hhi.out i (by omega) hi2) hb2 (fun g hg hg' => Hx.out.apart k i (by omega) hi2 g hg' hg)
      case measure => simp [intOf]; omega
    · obtain rfl : k = m.length := by omega
      go_wp2
      go_ret
      exact ⟨rfl, ⟨htop, hlo, hx.apart⟩, hbr⟩

-- szIntSS: where it lets a table through that is small
set_option maxRecDepth 100000 in
set_option maxHeartbeats 400000 in
theorem szIntSS_any (ao : Option Addr) (c : Nat) (m : List (List Int)) (left : Int) (w : World) (hn : m.length ≤ 9223372036854775807) (hrow : ∀ i, i < m.length → (gr m i).length ≤ 9223372036854775807) (h0 : 0 ≤ left) (h1 : left ≤ 1048576) (hm : MatAt w ao m) :
    Calls Try.prog 5 #[.slice ao m.length c, .int .i64 left] w fun e w' => ∃ r : Int, e = .returned (.int .i64 r) ∧ -1 ≤ r ∧ r ≤ 1048576 ∧ (0 ≤ r → Small m) ∧ w = w' := by
  by_cases hl : left - m.length < 0
  · go_enter Try.func5, Try.ntmps5
    go_wp2
    go_ret
    exact ⟨-1, rfl, by omega, by omega, fun h => absurd h (by omega), rfl⟩
  · go_enter Try.func5, Try.ntmps5
    go_wp2
    go_loopw [1, 5] (fun l i wr => ∃ (k : Nat) (r : Int), k ≤ m.length ∧ i = .int .i64 k ∧ l = .int .i64 r ∧ 0 ≤ r ∧ r ≤ 1048576 ∧ (∀ j, j < k → (gr m j).length ≤ 1048576) ∧ w = wr) (fun _ i _ => m.length - (intOf i).toNat)
    case atStart => exact ⟨0, _, Nat.zero_le _, rfl, rfl, by omega, by omega, fun j hj => absurd hj (by omega), rfl⟩
    case round =>
      obtain ⟨k, r, hk, rfl, rfl, hr0, hr1, hs, rfl⟩ := hrel
      by_cases hlt : k < m.length
      · obtain ⟨b1, o1, r1, d1, rfl, hc1, hx1, _, _⟩ := hm k hlt
        have hrk := hrow k hlt
        have Hs := Lib.hid hs
        clear hm hs hrow hx1
        by_cases hneg : r - (gr m k).length < 0
        · have e1 : szL r (gr m k).length = -1 := if_pos hneg
          have E1 := Lib.hid e1
          clear e1
          go_wp2_with fail
          refine (szIntS_any r1 (gr m k).length d1 r w hrk hr0 hr1).mono ?_
          rintro e w2 ⟨rfl, rfl⟩
          rw [E1.out]
          go_wp2
          go_ret
          exact ⟨-1, rfl, by omega, by omega, fun h => absurd h (by omega), rfl⟩
        · have e1 : szL r (gr m k).length = r - (gr m k).length := if_neg hneg
          have E1 := Lib.hid e1
          clear e1
          go_wp2_with fail
          refine (szIntS_any r1 (gr m k).length d1 r w hrk hr0 hr1).mono ?_
          rintro e w2 ⟨rfl, rfl⟩
          rw [E1.out]
          go_wp2
          go_roundw
          case rel =>
            refine ⟨k + 1, _, by omega, by go_num, rfl, by omega, by omega, fun j hj => ?_, by trivial⟩
            by_cases e : j = k
            · subst e; omega
            · exact Hs.out j (by omega)
          case measure => simp [intOf]; omega
      · obtain rfl : k = m.length := by omega
        go_wp2
        go_ret
        exact ⟨r, rfl, by omega, hr1, fun _ => ⟨by omega, hs⟩, rfl⟩
end Go.Proofs.Ytmkldodkpijfjaa

namespace Go.Proofs.Ytmkldodkpijfjaa

/-- the sum of the first k numbers -/
def sumK (xs : List Int) : Nat → Int
  | 0 => 0
  | k + 1 => sumK xs k + gi xs k

theorem sumK_congr {xs ys : List Int} {k : Nat} (h : ∀ i, i < k → gi xs i = gi ys i) : sumK xs k = sumK ys k := by
  induction k with
  | zero => rfl
  | succ k ih => simp only [sumK]; rw [ih (fun i hi => h i (by omega)), h k (by omega)]

/-- signs alternate, the sum is 1 -/
def lineOk (xs : List Int) : Prop := (∀ k, k ≤ xs.length → 0 ≤ sumK xs k ∧ sumK xs k ≤ 1) ∧ sumK xs xs.length = 1
def rowsOk (m : List (List Int)) : Prop := ∀ i, i < m.length → lineOk (gr m i)
def square (m : List (List Int)) : Prop := 1 ≤ m.length ∧ m.length ≤ 6 ∧ ∀ i, i < m.length → (gr m i).length = m.length

/-- a table given by its numbers -/
def tab (n c : Nat) (f : Nat → Nat → Int) : List (List Int) := (List.range n).map fun i => (List.range c).map fun j => f i j
theorem tab_len (n c : Nat) (f : Nat → Nat → Int) : (tab n c f).length = n := by simp [tab]
theorem gr_tab {n c : Nat} {f : Nat → Nat → Int} {i : Nat} (h : i < n) : gr (tab n c f) i = (List.range c).map fun j => f i j := by
  rw [gr_lt (by rw [tab_len]; exact h)]
  simp [tab]
theorem tab_row {n c : Nat} {f : Nat → Nat → Int} {i : Nat} (h : i < n) : (gr (tab n c f) i).length = c := by rw [gr_tab h]; simp
theorem gi_row {c : Nat} {g : Nat → Int} {j : Nat} (h : j < c) : gi ((List.range c).map g) j = g j := by
  rw [gi_lt (by simpa using h)]
  simp
theorem gi_tab {n c : Nat} {f : Nat → Nat → Int} {i j : Nat} (hi : i < n) (hj : j < c) : gi (gr (tab n c f) i) j = f i j := by rw [gr_tab hi, gi_row hj]

theorem zero_row {n c k : Nat} (h : k < n) : gr (tab n c fun _ _ => 0) k = List.replicate c 0 := by
  refine ext_gi (by rw [tab_row h, List.length_replicate]) fun j hj => ?_
  rw [tab_row h] at hj
  rw [gi_tab h hj, gi_lt (by simpa using hj)]
  simp

/-- a table that agrees with the function is that table -/
theorem eq_tab {m : List (List Int)} {n c : Nat} {f : Nat → Nat → Int} (h1 : m.length = n) (h2 : ∀ i, i < n → (gr m i).length = c) (h3 : ∀ i j, i < n → j < c → gi (gr m i) j = f i j) : m = tab n c f := by
  refine ext_gr (by rw [h1, tab_len]) fun i hi => ?_
  rw [h1] at hi
  refine ext_gi (by rw [h2 i hi, tab_row hi]) fun j hj => ?_
  rw [h2 i hi] at hj
  rw [h3 i j hi hj, gi_tab hi hj]

/-- rows and columns exchanged -/
def tr (m : List (List Int)) : List (List Int) := tab m.length m.length fun i j => gi (gr m j) i
def good (m : List (List Int)) : Prop := square m ∧ rowsOk m ∧ rowsOk (tr m)

theorem square.small {m : List (List Int)} (h : square m) : Small m := ⟨by have := h.2.1; omega, fun i hi => by rw [h.2.2 i hi]; have := h.2.1; omega⟩
theorem tr_len (m : List (List Int)) : (tr m).length = m.length := tab_len _ _ _
theorem tr_row {m : List (List Int)} {i : Nat} (h : i < m.length) : (gr (tr m) i).length = m.length := tab_row h
theorem gi_tr {m : List (List Int)} {i j : Nat} (hi : i < m.length) (hj : j < m.length) : gi (gr (tr m) i) j = gi (gr m j) i := gi_tab hi hj
theorem square.tr {m : List (List Int)} (h : square m) : square (tr m) := ⟨by rw [tr_len]; exact h.1, by rw [tr_len]; exact h.2.1, fun i hi => by rw [tr_len] at hi ⊢; exact tr_row hi⟩
theorem tr_tr {m : List (List Int)} (h : square m) : Go.Proofs.Ytmkldodkpijfjaa.tr (Go.Proofs.Ytmkldodkpijfjaa.tr m) = m := by
  refine ext_gr (by rw [tr_len, tr_len]) fun i hi => ?_
  rw [tr_len, tr_len] at hi
  have e : (gr (Go.Proofs.Ytmkldodkpijfjaa.tr (Go.Proofs.Ytmkldodkpijfjaa.tr m)) i).length = m.length := by rw [tr_row (by rw [tr_len]; exact hi), tr_len]
  refine ext_gi (by rw [e, h.2.2 i hi]) fun j hj => ?_
  rw [e] at hj
  rw [gi_tr (by rw [tr_len]; exact hi) (by rw [tr_len]; exact hj), gi_tr hj hi]

theorem cell_new (w : World) (cs : Array Value) (e : TypeId) (k : Nat) : (w.alloc (.cells cs e)).cell? ⟨w.heap.size, k, none⟩ = cs[k]? := by
  unfold World.cell?
  rw [heap_alloc_new]
  rfl

/-- a number of an owned grid: its row, its cell, a store into it -/
theorem OwnP.at2 {w : World} {B n c : Nat} {v : Value} {f : Nat → Nat → Int} {vs : List Value} (h : OwnP w B v n (tab n c f) n vs) {i j : Nat} (hi : i < n) (hj : j < c) :
    ∃ g cap, vs.getD i undef = .slice (some ⟨g, 0, none⟩) c cap ∧ w.cell? ⟨g, j, none⟩ = some (.int .i64 (f i j)) ∧ w.frozen? ⟨g, j, none⟩ = false ∧ B ≤ g ∧
      ∀ x, OwnP (w.setCell ⟨g, j, none⟩ (.int .i64 x)) B v n (tab n c fun a b => if a = i ∧ b = j then x else f a b) n vs := by
  have hrow := h.rows i hi
  obtain ⟨ao, cap, hv, _, _, _⟩ := hrow.read
  rw [tab_row hi] at hv
  have hrow' := hrow
  rw [hv] at hrow'
  obtain ⟨g, rfl, hg, _⟩ := hrow'.isAt (by omega)
  refine ⟨g, cap, hv, ?_, hrow'.frozenAt j, hg, fun x => ⟨?_, fun a ha => ?_, h.apart⟩⟩
  · rw [hrow'.cellAt j hj, gi_tab hi hj]
  · exact Go.ownsRow_setCell_other h.top (fun e => hrow.ne_row h.top g (by rw [hv]; rfl) e) _
  · by_cases e : a = i
    · subst e
      have := hrow'.store j x
      rw [hv]
      have e2 : gr (tab n c fun a' b => if a' = a ∧ b = j then x else f a' b) a = (gr (tab n c f) a).set j x := by
        refine ext_gi (by rw [tab_row hi, List.length_set, tab_row hi]) fun b hb => ?_
        rw [tab_row hi] at hb
        rw [gi_tab hi hb, gi_set (by rw [tab_row hi]; exact hj), gi_tab hi hb]
        by_cases e3 : b = j <;> simp [e3]
      rw [e2]
      exact this
    · have e2 : gr (tab n c fun a' b => if a' = i ∧ b = j then x else f a' b) a = gr (tab n c f) a := by
        refine ext_gi (by rw [tab_row ha, tab_row ha]) fun b hb => ?_
        rw [tab_row ha] at hb
        rw [gi_tab ha hb, gi_tab ha hb, if_neg (fun h => e h.1)]
      rw [e2]
      refine (h.rows a ha).setOther (fun hg' => ?_) _
      rcases Nat.lt_or_gt_of_ne e with hlt | hlt
      · exact h.apart a i hlt hi g hg' (by rw [hv]; rfl)
      · exact h.apart i a hlt ha g (by rw [hv]; rfl) hg'
end Go.Proofs.Ytmkldodkpijfjaa

namespace Go.Proofs.Ytmkldodkpijfjaa
open Go.RowKit

set_option maxRecDepth 100000 in
set_option maxHeartbeats 400000 in
theorem l1In_any (n lo hi : Int) (w : World) :
    Calls Try.prog 52 #[.int .i64 n, .int .i64 lo, .int .i64 hi] w fun e w' => Ans (lo ≤ n ∧ n ≤ hi) e ∧ w = w' := by
  by_cases h1 : lo ≤ n
  · by_cases h2 : n ≤ hi
    · go_enter Try.func52, Try.ntmps52
      go_wp2
      go_ret
      exact ⟨Ans.yes ⟨h1, h2⟩, rfl⟩
    · go_enter Try.func52, Try.ntmps52
      go_wp2
      go_ret
      exact ⟨Ans.no (fun h => by omega), rfl⟩
  · go_enter Try.func52, Try.ntmps52
    go_wp2
    go_ret
    exact ⟨Ans.no (fun h => by omega), rfl⟩

set_option maxRecDepth 100000 in
set_option maxHeartbeats 400000 in
theorem sgSquare_any (ao : Option Addr) (c : Nat) (m : List (List Int)) (w : World) (hs : Small m) (hm : MatAt w ao m) :
    Calls Try.prog 32 #[.slice ao m.length c] w fun e w' => Ans (square m) e ∧ w = w' := by
  have hn := hs.1
  have hrow := hs.2
  have hmx : m.length ≤ 9223372036854775807 := by omega
  by_cases h1 : 1 ≤ m.length ∧ m.length ≤ 6
  · go_enter Try.func32, Try.ntmps32
    go_wp2_with fail
    refine (l1In_any _ _ _ w).mono ?_
    rintro e w2 ⟨ha, rfl⟩
    obtain rfl := ha.is ⟨by omega, by omega⟩
    clear ha
    go_wp2
    go_loopw [11] (fun i wr => ∃ k : Nat, k ≤ m.length ∧ i = .int .i64 k ∧ (∀ j, j < k → (gr m j).length = m.length) ∧ w = wr) (fun i _ => m.length - (intOf i).toNat)
    case atStart => exact ⟨0, Nat.zero_le _, rfl, fun j hj => absurd hj (by omega), by trivial⟩
    case round =>
      obtain ⟨k, hk, rfl, heq, rfl⟩ := hrel
      by_cases hlt : k < m.length
      · obtain ⟨b1, o1, r1, d1, rfl, hc1, _, _, _⟩ := hm k hlt
        have hrk := hrow k hlt
        have Heq := Lib.hid heq
        clear hm hs hrow heq
        by_cases he : (gr m k).length = m.length
        · have hb : (((gr m k).length : Int) != (m.length : Int)) = false := by simp [he]
          have He := Lib.hid he
          clear he
          go_wp2
          go_roundw
          case rel =>
            refine ⟨k + 1, by omega, by go_num, fun j hj => ?_, by trivial⟩
            by_cases e : j = k
            · subst e; exact He.out
            · exact Heq.out j (by omega)
          case measure => simp [intOf]; omega
        · have hb : (((gr m k).length : Int) != (m.length : Int)) = true := by simp; omega
          go_wp2
          go_ret
          exact ⟨Ans.no fun h => he (h.2.2 k hlt), rfl⟩
      · obtain rfl : k = m.length := by omega
        go_wp2
        go_ret
        exact ⟨Ans.yes ⟨h1.1, h1.2, heq⟩, rfl⟩
  · go_enter Try.func32, Try.ntmps32
    go_wp2_with fail
    refine (l1In_any _ _ _ w).mono ?_
    rintro e w2 ⟨ha, rfl⟩
    obtain rfl := ha.isnt (fun h => h1 ⟨by omega, by omega⟩)
    clear ha
    go_wp2
    go_ret
    exact ⟨Ans.no fun h => h1 ⟨h.1, h.2.1⟩, rfl⟩

set_option maxRecDepth 100000 in
set_option maxHeartbeats 800000 in
theorem sgRows_any (ao : Option Addr) (c : Nat) (m : List (List Int)) (w : World) (hs : Small m) (hm : MatAt w ao m) :
    Calls Try.prog 33 #[.slice ao m.length c] w fun e w' => Ans (rowsOk m) e ∧ w = w' := by
  have hn := hs.1
  have hrow := hs.2
  have hmx : m.length ≤ 9223372036854775807 := by omega
  go_enter Try.func33, Try.ntmps33
  go_wp2
  go_loop [10] (fun i => ∃ k : Nat, k ≤ m.length ∧ i = .int .i64 k ∧ (∀ j, j < k → lineOk (gr m j))) (fun i => m.length - (intOf i).toNat)
  case atStart => exact ⟨0, Nat.zero_le _, rfl, fun j hj => absurd hj (by omega)⟩
  case round =>
    obtain ⟨k, hk, rfl, hdone⟩ := hrel
    by_cases hlt : k < m.length
    · obtain ⟨b1, o1, r1, d1, rfl, hc1, hx1, _, _⟩ := hm k hlt
      have hrk := hrow k hlt
      have hrx : (gr m k).length ≤ 9223372036854775807 := by omega
      have Hd := Lib.hid hdone
      clear hm hs hrow hdone
      go_wp2
      go_loop [5, 16] (fun s i => ∃ t : Nat, t ≤ (gr m k).length ∧ i = .int .i64 t ∧ s = .int .i64 (sumK (gr m k) t) ∧ (∀ u, u ≤ t → 0 ≤ sumK (gr m k) u ∧ sumK (gr m k) u ≤ 1)) (fun _ i => (gr m k).length - (intOf i).toNat)
      case atStart => exact ⟨0, Nat.zero_le _, rfl, rfl, fun u hu => by obtain rfl : u = 0 := by omega
                                                                        simp [sumK]⟩
      case round =>
        obtain ⟨t, ht, rfl, rfl, hsum⟩ := hrel
        have hs0 := (hsum t (Nat.le_refl _)).1
        have hs1 := (hsum t (Nat.le_refl _)).2
        have Hsum := Lib.hid hsum
        clear hsum
        by_cases htl : t < (gr m k).length
        · obtain ⟨b2, o2, rfl, hc2⟩ := hx1 t htl
          obtain ⟨x, hx⟩ : ∃ x, x = gi (gr m k) t := ⟨_, rfl⟩
          obtain ⟨s, hsm⟩ : ∃ s, s = sumK (gr m k) t := ⟨_, rfl⟩
          rw [← hx] at hc2
          rw [← hsm] at hs0 hs1 ⊢
          have Hx := Lib.hid hx
          have Hsm := Lib.hid hsm
          clear hx1 hx hsm
          by_cases hx : -1 ≤ x ∧ x ≤ 1
          · obtain ⟨hxa, hxb⟩ := hx
            go_wp2_with fail
            refine (l1In_any _ _ _ w).mono ?_
            rintro e w2 ⟨ha, rfl⟩
            obtain rfl := ha.is ⟨by omega, by omega⟩
            clear ha
            by_cases hsx : 0 ≤ s + x ∧ s + x ≤ 1
            · obtain ⟨hsa, hsb⟩ := hsx
              go_wp2_with fail
              refine (l1In_any _ _ _ w).mono ?_
              rintro e w2 ⟨ha, rfl⟩
              obtain rfl := ha.is ⟨by omega, by omega⟩
              clear ha
              go_wp2
              go_round
              case rel =>
                have e1 : s + x = sumK (gr m k) (t + 1) := by simp only [sumK]; rw [← Hx.out, ← Hsm.out]
                refine ⟨t + 1, by omega, by go_num, by rw [← e1], fun u hu => ?_⟩
                by_cases e : u = t + 1
                · subst e; rw [← e1]; exact ⟨hsa, hsb⟩
                · exact Hsum.out u (by omega)
              case measure => simp [intOf]; omega
            · go_wp2_with fail
              refine (l1In_any _ _ _ w).mono ?_
              rintro e w2 ⟨ha, rfl⟩
              obtain rfl := ha.isnt (fun h => hsx ⟨by omega, by omega⟩)
              clear ha
              go_wp2
              go_ret
              refine ⟨Ans.no fun h => ?_, rfl⟩
              have := (h k hlt).1 (t + 1) (by omega)
              simp only [sumK] at this
              rw [← Hx.out, ← Hsm.out] at this
              exact hsx this
          · go_wp2_with fail
            refine (l1In_any _ _ _ w).mono ?_
            rintro e w2 ⟨ha, rfl⟩
            obtain rfl := ha.isnt (fun h => hx ⟨by omega, by omega⟩)
            clear ha
            go_wp2
            go_ret
            refine ⟨Ans.no fun h => ?_, rfl⟩
            have := (h k hlt).1 (t + 1) (by omega)
            simp only [sumK] at this
            rw [← Hx.out, ← Hsm.out] at this
            omega
        · obtain rfl : t = (gr m k).length := by omega
          obtain ⟨s, hsm⟩ : ∃ s, s = sumK (gr m k) (gr m k).length := ⟨_, rfl⟩
          rw [← hsm] at hs0 hs1 ⊢
          have Hsm := Lib.hid hsm
          clear hx1 hsm
          by_cases he : s = 1
          · have hb : (s != 1) = false := by simp [he]
            have He := Lib.hid he
            clear he
            go_wp2
            go_round
            case rel =>
              refine ⟨k + 1, by omega, by go_num, fun j hj => ?_⟩
              by_cases e : j = k
              · subst e; exact ⟨Hsum.out, by rw [← Hsm.out]; exact He.out⟩
              · exact Hd.out j (by omega)
            case measure => simp [intOf]; omega
          · have hb : (s != 1) = true := by simp [he]
            go_wp2
            go_ret
            refine ⟨Ans.no fun h => ?_, rfl⟩
            have := (h k hlt).2
            rw [← Hsm.out] at this
            exact he this
    · obtain rfl : k = m.length := by omega
      go_wp2
      go_ret
      exact ⟨Ans.yes hdone, rfl⟩
end Go.Proofs.Ytmkldodkpijfjaa

namespace Go.Proofs.Ytmkldodkpijfjaa
open Go.RowKit

/-- the first t numbers of column k -/
def colTo (m : List (List Int)) (k t : Nat) : List Int := (List.range t).map fun i => gi (gr m i) k
theorem colTo_succ (m : List (List Int)) (k t : Nat) : colTo m k (t + 1) = colTo m k t ++ [gi (gr m t) k] := by simp [colTo, List.range_succ]
theorem colTo_len (m : List (List Int)) (k t : Nat) : (colTo m k t).length = t := by simp [colTo]
theorem colTo_tr {m : List (List Int)} {k : Nat} (hk : k < m.length) : colTo m k m.length = gr (tr m) k := by unfold tr; rw [gr_tab hk]; rfl

set_option maxRecDepth 100000 in
set_option maxHeartbeats 800000 in
theorem sgTurn_any (ao : Option Addr) (c : Nat) (m : List (List Int)) (w : World) (hsq : square m) (hm : MatAt w ao m) :
    Calls Try.prog 34 #[.slice ao m.length c] w fun e w' => ∃ v, e = .returned v ∧ OwnM w' w.heap.size v (tr m) ∧ Below w.heap.size w w' := by
  obtain ⟨i0, hi, hz0, hz1, hz2⟩ := info_parts Try.info_int
  obtain ⟨j0, hj, hy0, hy1, hy2⟩ := info_parts Try.info_ints
  have hn := hsq.2.1
  have hmx : m.length ≤ 9223372036854775807 := by omega
  have Hsq := Lib.hid hsq
  clear hsq
  go_enter Try.func34, Try.ntmps34
  go_wp2
  go_loopw [3, 10] (fun out i wr => ∃ (k : Nat) (vs : List Value), k ≤ m.length ∧ i = .int .i64 k ∧ OwnP wr w.heap.size out k (tr m) k vs ∧ Below w.heap.size w wr) (fun _ i _ => m.length - (intOf i).toNat)
  case atStart => exact ⟨0, [], Nat.zero_le _, rfl, ⟨World.ownsRow_nil _ _ _ _, fun i hi => absurd hi (by omega), fun i j _ hj => absurd hj (by omega)⟩, Below.refl _ _⟩
  case round =>
    obtain ⟨k, vs, hk, rfl, hout, hbr⟩ := hrel
    obtain ⟨wo, rfl⟩ : ∃ wo : World, wo = wr := ⟨_, rfl⟩
    by_cases hlt : k < m.length
    · have Hout := Lib.hid hout
      have Hbr := Lib.hid hbr
      have hmo := Lib.hid (hm.below hbr)
      have hB := hbr.size
      clear hout hbr hm
      go_wp2
      go_loopw [5, 15] (fun row i wr => ∃ t : Nat, t ≤ m.length ∧ i = .int .i64 t ∧ OwnI wr wo.heap.size row (colTo m k t) ∧ Below wo.heap.size wo wr) (fun _ i _ => m.length - (intOf i).toNat)
      case atStart => exact ⟨0, Nat.zero_le _, rfl, OwnI.nil _ _, Below.refl _ _⟩
      case round =>
        obtain ⟨t, ht, rfl, hrow, hbi⟩ := hrel
        by_cases htl : t < m.length
        · obtain ⟨b1, o1, r1, d1, e0, hc1, hx1, _, _⟩ := hmo.out.below hbi t htl
          obtain ⟨b2, o2, e2, hc2⟩ := hx1 k (by rw [Hsq.out.2.2 t htl]; exact hlt)
          have hrl : (gr m t).length = m.length := Hsq.out.2.2 t htl
          rw [hrl] at hc1
          subst e0 e2
          have hB2 := hbi.size
          have Hbi := Lib.hid hbi
          have Hrow := Lib.hid hrow
          clear hbi hx1 hrl hrow
          go_wp2_with (at_builtin; refine wpList_append_own _ rfl _ _ 38 rfl wo.heap.size 3 i0 (.int .i64 0) 1 8 Try.underlying38 hi hz0 hz1 hz2 rfl (by decide) _ _ _ rfl (World.ownsRow.alloc Hrow.out _) ⟨wr.heap.size, 0, none⟩ 1 1 [.int .i64 (gi (gr m t) k)] rfl rfl ?c1 ?c2 ?c3 ?c4 ?c5 ?_)
          case c1 => exact cell_one_new _ _ _
          case c2 => intro u hu; simp at hu; subst hu; rfl
          case c3 => unfold maxLen; rw [colTo_len]; omega
          case c4 => rw [colTo_len]; omega
          case c5 => simp; omega
          intro v' w1 hown' hgrow _
          obtain ⟨hr2, hb2⟩ := Hrow.out.snoc hB2 hown' hgrow
          rw [← colTo_succ] at hr2
          have Hr2 := Lib.hid hr2
          have Hb2 := Lib.hid hb2
          clear hown' hgrow hr2 hb2
          go_wp2
          go_roundw
          case rel => exact ⟨t + 1, by omega, by go_num, Hr2.out, Hbi.out.trans Hb2.out⟩
          case measure => simp [intOf]; omega
        · obtain rfl : t = m.length := by omega
          rw [colTo_tr hlt] at hrow
          obtain ⟨rr, rc, hr, _, _, _⟩ := hrow.read
          have Hrow := Lib.hid hrow
          have hB2 := hbi.size
          have Hout2 := Lib.hid (Hout.out.below hbi)
          have Hbi := Lib.hid hbi
          have hfr := Lib.hid (Hout.out.fresh hrow (Nat.le_refl _))
          clear hrow hbi
          subst hr
          go_wp2_with (at_builtin; refine wpList_append_own _ rfl _ _ 22 rfl w.heap.size 38 j0 (.slice none 0 0) 1 24 Try.underlying22 hj hy0 hy1 hy2 rfl (by decide) _ _ _ rfl (World.ownsRow.alloc Hout2.out.top _) ⟨wr.heap.size, 0, none⟩ 1 1 [.slice rr (gr (tr m) k).length rc] rfl rfl ?d1 ?d2 ?d3 ?d4 ?d5 ?_)
          case d1 => exact cell_one_new _ _ _
          case d2 => intro u hu; simp at hu; subst hu; rfl
          case d3 => unfold maxLen; omega
          case d4 => omega
          case d5 => simp; omega
          intro v' w1 hown' hgrow _
          have hput := Hout2.out.snoc (show w.heap.size ≤ wr.heap.size by omega) (Hrow.out.base hB) hfr.out hown' hgrow
          have Hput := Lib.hid hput
          clear hput hown' hgrow
          go_wp2
          go_roundw
          case rel => exact ⟨k + 1, _, by omega, by go_num, Hput.out.1, (Hbr.out.trans (Hbi.out.mono hB)).trans Hput.out.2⟩
          case measure => simp [intOf]; omega
    · obtain rfl : k = m.length := by omega
      go_wp2
      go_ret
      exact ⟨_, rfl, ⟨vs, by rw [tr_len]; exact hout⟩, hbr⟩

set_option maxRecDepth 100000 in
set_option maxHeartbeats 800000 in
theorem sgGood_any (ao : Option Addr) (c : Nat) (m : List (List Int)) (w : World) (hs : Small m) (hm : MatAt w ao m) :
    Calls Try.prog 18 #[.slice ao m.length c] w fun e w' => Ans (good m) e ∧ Below w.heap.size w w' := by
  by_cases h1 : square m
  · by_cases h2 : rowsOk m
    · have H1 := Lib.hid h1
      have H2 := Lib.hid h2
      have Hs := Lib.hid hs
      have Hm := Lib.hid hm
      clear h1 h2 hs hm
      go_enter Try.func18, Try.ntmps18
      go_wp2_with fail
      refine (sgSquare_any ao c m w Hs.out Hm.out).mono ?_
      rintro e w2 ⟨ha, rfl⟩
      obtain rfl := ha.is H1.out
      clear ha
      go_wp2_with fail
      refine (sgRows_any ao c m w Hs.out Hm.out).mono ?_
      rintro e w2 ⟨ha, rfl⟩
      obtain rfl := ha.is H2.out
      clear ha
      go_wp2_with fail
      refine (sgTurn_any ao c m w H1.out Hm.out).mono ?_
      rintro e w2 ⟨v, rfl, hv, hb⟩
      obtain ⟨a2, c2, rfl, _, _, hr⟩ := hv.read
      have Hr := Lib.hid hr
      have Hb := Lib.hid hb
      clear hv hr hb
      go_wp2_with fail
      refine (sgRows_any a2 c2 (tr m) w2 H1.out.tr.small Hr.out).mono ?_
      rintro e w3 ⟨ha, rfl⟩
      by_cases h3 : rowsOk (tr m)
      · have H3 := Lib.hid h3
        clear h3
        obtain rfl := ha.is H3.out
        clear ha
        go_wp2
        go_ret
        exact ⟨Ans.yes ⟨H1.out, H2.out, H3.out⟩, Hb.out⟩
      · have H3 := Lib.hid h3
        clear h3
        obtain rfl := ha.isnt H3.out
        clear ha
        go_wp2
        go_ret
        exact ⟨Ans.no fun h => H3.out h.2.2, Hb.out⟩
    · have H1 := Lib.hid h1
      have H2 := Lib.hid h2
      have Hs := Lib.hid hs
      have Hm := Lib.hid hm
      clear h1 h2 hs hm
      go_enter Try.func18, Try.ntmps18
      go_wp2_with fail
      refine (sgSquare_any ao c m w Hs.out Hm.out).mono ?_
      rintro e w2 ⟨ha, rfl⟩
      obtain rfl := ha.is H1.out
      clear ha
      go_wp2_with fail
      refine (sgRows_any ao c m w Hs.out Hm.out).mono ?_
      rintro e w2 ⟨ha, rfl⟩
      obtain rfl := ha.isnt H2.out
      clear ha
      go_wp2
      go_ret
      exact ⟨Ans.no fun h => H2.out h.2.1, Below.refl _ _⟩
  · have H1 := Lib.hid h1
    have Hs := Lib.hid hs
    have Hm := Lib.hid hm
    clear h1 hs hm
    go_enter Try.func18, Try.ntmps18
    go_wp2_with fail
    refine (sgSquare_any ao c m w Hs.out Hm.out).mono ?_
    rintro e w2 ⟨ha, rfl⟩
    obtain rfl := ha.isnt H1.out
    clear ha
    go_wp2
    go_ret
    exact ⟨Ans.no fun h => H1.out h.1, Below.refl _ _⟩

end Go.Proofs.Ytmkldodkpijfjaa

