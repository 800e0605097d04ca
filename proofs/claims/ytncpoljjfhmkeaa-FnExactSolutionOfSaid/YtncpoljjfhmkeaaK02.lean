/- Parts of proofs: contracts and plain facts. Conditions: as each says. -/
import Derived.Test.YtncpoljjfhmkeaaK01
import Derived.StillTailTactics
namespace Go.Proofs.Ytncpoljjfhmkeaa
open Go.RowKit

-- eqIntS at equal lists
set_option maxRecDepth 100000 in
set_option maxHeartbeats 400000 in
theorem eqIntS_same (a1 a2 : Option Addr) (c1 c2 : Nat) (xs : List Int) (w : World) (hn : xs.length ≤ 1048576) (h1 : IntsAt w a1 xs) (h2 : IntsAt w a2 xs) :
    Calls Try.prog 18 #[.slice a1 xs.length c1, .slice a2 xs.length c2] w fun e w' => e = .returned (.bool true) ∧ Q w w' := by
  have hmx : xs.length ≤ 9223372036854775807 := by omega
  go_enter Try.func18, Try.ntmps18
  go_wp2
  go_loopw [5] (fun i wr => ∃ k : Nat, k ≤ xs.length ∧ i = .int .i64 k ∧ Q w wr) (fun i _ => xs.length - (intOf i).toNat)
  case atStart => exact ⟨0, Nat.zero_le _, rfl, Q.refl _⟩
  case round =>
    obtain ⟨k, hk, rfl, hbr⟩ := hrel
    by_cases hlt : k < xs.length
    · obtain ⟨b1, o1, rfl, hc1⟩ := h1.below (hbr.below _) k hlt
      obtain ⟨b2, o2, rfl, hc2⟩ := h2.below (hbr.below _) k hlt
      clear h1 h2
      go_wp2
      go_quiet (fail)
      go_wp2
      go_roundw
      case rel => exact ⟨k + 1, by omega, by go_num, hbr.drewN _⟩
      case measure => simp [intOf]; omega
    · go_wp2
      go_ret
      exact ⟨rfl, hbr⟩

-- eqIntSS at equal lists
set_option maxRecDepth 100000 in
set_option maxHeartbeats 400000 in
theorem eqIntSS_same (a1 a2 : Option Addr) (c1 c2 : Nat) (m : List (List Int)) (w : World) (hs : Small m) (h1 : MatAt w a1 m) (h2 : MatAt w a2 m) :
    Calls Try.prog 32 #[.slice a1 m.length c1, .slice a2 m.length c2] w fun e w' => e = .returned (.bool true) ∧ Q w w' := by
  obtain ⟨hn, hrow⟩ := hs
  have hmx : m.length ≤ 9223372036854775807 := by omega
  go_enter Try.func32, Try.ntmps32
  go_wp2
  go_loopw [5] (fun i wr => ∃ k : Nat, k ≤ m.length ∧ i = .int .i64 k ∧ Q w wr) (fun i _ => m.length - (intOf i).toNat)
  case atStart => exact ⟨0, Nat.zero_le _, rfl, Q.refl _⟩
  case round =>
    obtain ⟨k, hk, rfl, hbr⟩ := hrel
    by_cases hlt : k < m.length
    · obtain ⟨b1, o1, r1, d1, rfl, hc1, hx1, _, _⟩ := h1.below (hbr.below _) k hlt
      obtain ⟨b2, o2, r2, d2, rfl, hc2, hx2, _, _⟩ := h2.below (hbr.below _) k hlt
      have hrk := hrow k hlt
      have Hx1 := Lib.hid hx1
      have Hx2 := Lib.hid hx2
      clear h1 h2 hx1 hx2 hrow
      go_wp2
      go_quiet ((go_at_call 18; exact Calls.quiet_of (eqIntS_same _ _ _ _ _ _ hrk Hx1.out Hx2.out)))
      go_wp2
      go_roundw
      case rel => exact ⟨k + 1, by omega, by go_num, hbr.drewN _⟩
      case measure => simp [intOf]; omega
    · go_wp2
      go_ret
      exact ⟨rfl, hbr⟩

/-- the numbers k, k + 1, .., n of them -/
def marks (k : Int) (n : Nat) : List Int := (List.range n).map fun i : Nat => k + (i : Int)
theorem marks_len (k : Int) (n : Nat) : (marks k n).length = n := by simp [marks]
theorem gi_marks {k : Int} {n i : Nat} (h : i < n) : gi (marks k n) i = k + i := by
  rw [gi_lt (by rw [marks_len]; exact h)]
  simp [marks]

-- heldIntS where the marks hold
set_option maxRecDepth 100000 in
set_option maxHeartbeats 400000 in
theorem heldIntS_yes (ao : Option Addr) (c : Nat) (n : Nat) (q : Int) (w : World) (hn : n ≤ 1048576) (hq0 : 0 ≤ q) (hq1 : q ≤ 4000000000000) (hx : IntsAt w ao (marks q n)) :
    Calls Try.prog 20 #[.slice ao n c, .int .i64 q] w fun e w' => e = .returned (.int .i64 (q + n)) ∧ Q w w' := by
  have hmx : n ≤ 9223372036854775807 := by omega
  go_enter Try.func20, Try.ntmps20
  go_wp2
  go_loopw [1, 5] (fun kk i wr => ∃ k : Nat, k ≤ n ∧ i = .int .i64 k ∧ kk = .int .i64 (q + k) ∧ Q w wr) (fun _ i _ => n - (intOf i).toNat)
  case atStart => exact ⟨0, Nat.zero_le _, rfl, by simp, Q.refl _⟩
  case round =>
    obtain ⟨k, hk, rfl, rfl, hbr⟩ := hrel
    by_cases hlt : k < n
    · obtain ⟨b1, o1, rfl, hc1⟩ := hx.below (hbr.below _) k (by rw [marks_len]; exact hlt)
      rw [gi_marks hlt] at hc1
      clear hx
      have hb : (q + (k : Int) == q + (k : Int)) = true := by simp
      go_wp2
      go_roundw
      case rel => exact ⟨k + 1, by omega, by go_num, by go_num, hbr⟩
      case measure => simp [intOf]; omega
    · obtain rfl : k = n := by omega
      go_wp2
      go_ret
      exact ⟨rfl, hbr⟩

/-- how many numbers the first k rows hold -/
def tot (m : List (List Int)) : Nat → Nat
  | 0 => 0
  | k + 1 => tot m k + (gr m k).length
theorem tot_le {m : List (List Int)} (hs : Small m) : ∀ k, k ≤ m.length → tot m k ≤ k * 1048576
  | 0, _ => Nat.le_of_eq (by simp [tot])
  | k + 1, h => by
    have h1 := tot_le hs k (by omega)
    have h2 := hs.2 k (by omega)
    simp only [tot]
    omega
theorem tot_big {m : List (List Int)} (hs : Small m) {k : Nat} (h : k ≤ m.length) : tot m k ≤ 1099511627776 := by
  have h1 := tot_le hs k h
  have h2 := hs.1
  have : k * 1048576 ≤ 1048576 * 1048576 := Nat.mul_le_mul_right _ (by omega)
  omega

def markM (q : Int) (m : List (List Int)) : List (List Int) := (List.range m.length).map fun i => marks (q + (tot m i : Int)) (gr m i).length
theorem markM_len (q : Int) (m : List (List Int)) : (markM q m).length = m.length := by simp [markM]
theorem gr_markM {q : Int} {m : List (List Int)} {i : Nat} (h : i < m.length) : gr (markM q m) i = marks (q + (tot m i : Int)) (gr m i).length := by
  rw [gr_lt (by rw [markM_len]; exact h)]
  simp [markM]

-- heldIntSS where the marks hold
set_option maxRecDepth 100000 in
set_option maxHeartbeats 400000 in
theorem heldIntSS_yes (ao : Option Addr) (c : Nat) (m : List (List Int)) (q : Int) (w : World) (hs : Small m) (hq0 : 0 ≤ q) (hq1 : q ≤ 2000000000000) (hx : MatAt w ao (markM q m)) :
    Calls Try.prog 34 #[.slice ao m.length c, .int .i64 q] w fun e w' => e = .returned (.int .i64 (q + tot m m.length)) ∧ Q w w' := by
  have hn := hs.1
  have hmx : m.length ≤ 9223372036854775807 := by omega
  go_enter Try.func34, Try.ntmps34
  go_wp2
  go_loopw [1, 5] (fun kk i wr => ∃ k : Nat, k ≤ m.length ∧ i = .int .i64 k ∧ kk = .int .i64 (q + tot m k) ∧ Q w wr) (fun _ i _ => m.length - (intOf i).toNat)
  case atStart => exact ⟨0, Nat.zero_le _, rfl, by simp [tot], Q.refl _⟩
  case round =>
    obtain ⟨k, hk, rfl, rfl, hbr⟩ := hrel
    by_cases hlt : k < m.length
    · obtain ⟨b1, o1, r1, d1, rfl, hc1, hr1, _, _⟩ := hx.below (hbr.below _) k (by rw [markM_len]; exact hlt)
      rw [gr_markM hlt, marks_len] at hc1
      rw [gr_markM hlt] at hr1
      have h2 := hs.2 k hlt
      have h3 := tot_big hs hk
      have Hs := Lib.hid hs
      clear hx hs
      go_wp2_with fail
      refine (heldIntS_yes r1 d1 (gr m k).length _ wr h2 (by omega) (by omega) hr1).mono ?_
      rintro e w2 ⟨rfl, hb2⟩
      have e1 : q + (tot m k : Int) + ((gr m k).length : Int) = q + (tot m (k + 1) : Int) := by simp only [tot]; omega
      have h4 := tot_big Hs.out (show k + 1 ≤ m.length by omega)
      rw [e1]
      clear e1
      go_wp2
      go_roundw
      case rel => exact ⟨k + 1, by omega, by go_num, rfl, hbr.trans hb2⟩
      case measure => simp [intOf]; omega
    · obtain rfl : k = m.length := by omega
      go_wp2
      go_ret
      exact ⟨rfl, hbr⟩

-- markIntS
set_option maxRecDepth 100000 in
set_option maxHeartbeats 400000 in
theorem markIntS_any (B : Nat) (ao : Option Addr) (c n : Nat) (q : Int) (xs : List Int) (w : World) (hn : n ≤ 1048576) (hq0 : 0 ≤ q) (hq1 : q ≤ 2000000000000) (hx : OwnI w B (.slice ao n c) xs) :
    Calls Try.prog 19 #[.slice ao n c, .int .i64 q] w fun e w' => e = .returned (.int .i64 (q + n)) ∧ OwnI w' B (.slice ao n c) (marks q n) ∧ OnlyW (fun g => (Value.slice ao n c).ownBlock = some g) w w' := by
  have hmx : n ≤ 9223372036854775807 := by omega
  have hxl := hx.len
  go_enter Try.func19, Try.ntmps19
  go_wp2
  go_loopw [1, 5] (fun kk i wr => ∃ (k : Nat) (ys : List Int), k ≤ n ∧ i = .int .i64 k ∧ kk = .int .i64 (q + k) ∧ OwnI wr B (.slice ao n c) ys ∧ (∀ j, j < k → gi ys j = q + j) ∧ OnlyW (fun g => (Value.slice ao n c).ownBlock = some g) w wr)
    (fun _ i _ => n - (intOf i).toNat)
  case atStart => exact ⟨0, xs, Nat.zero_le _, rfl, by simp, hx, fun j hj => absurd hj (by omega), OnlyW.refl _ _⟩
  case round =>
    obtain ⟨k, ys, hk, rfl, rfl, hown, heq, hbr⟩ := hrel
    by_cases hlt : k < n
    · obtain ⟨g, rfl, _, _⟩ := hown.isAt (by omega)
      have hd := hown.cellAt k hlt
      have hf := hown.frozenAt k
      have Hst := Lib.hid (hown.store k (q + k))
      have Hl := Lib.hid hown.len
      have Heq := Lib.hid heq
      have Hbs := Lib.hid (hbr.setCell (p := ⟨g, k, none⟩) rfl (.int .i64 (q + k)))
      clear heq hown hbr hx hxl
      go_wp2
      go_roundw
      case rel =>
        refine ⟨k + 1, _, by omega, by go_num, by go_num, Hst.out, fun j hj => ?_, Hbs.out⟩
        rw [gi_set (by rw [Hl.out]; exact hlt)]
        split
        · next e => rw [e]
        · exact Heq.out j (by omega)
      case measure => simp [intOf]; omega
    · obtain rfl : k = n := by omega
      go_wp2
      go_ret
      obtain rfl : ys = marks q k := ext_gi (by rw [hown.len, marks_len]) (fun j hj => by rw [hown.len] at hj; rw [heq j hj, gi_marks hj])
      exact ⟨rfl, hown, hbr⟩

theorem tot_congr {m m' : List (List Int)} {k : Nat} (h : ∀ i, i < k → (gr m i).length = (gr m' i).length) : tot m k = tot m' k := by
  induction k with
  | zero => rfl
  | succ k ih => simp only [tot]; rw [ih (fun i hi => h i (by omega)), h k (by omega)]

-- markIntSS
set_option maxRecDepth 100000 in
set_option maxHeartbeats 400000 in
theorem markIntSS_any (B : Nat) (ao : Option Addr) (c : Nat) (q : Int) (m : List (List Int)) (vs : List Value) (w : World) (hs : Small m) (hq0 : 0 ≤ q) (hq1 : q ≤ 10) (hx : OwnP w B (.slice ao m.length c) m.length m m.length vs) :
    Calls Try.prog 33 #[.slice ao m.length c, .int .i64 q] w fun e w' => e = .returned (.int .i64 (q + tot m m.length)) ∧ OwnP w' B (.slice ao m.length c) m.length (markM q m) m.length vs ∧
      OnlyW (fun g => ∃ i, i < m.length ∧ (vs.getD i undef).ownBlock = some g) w w' := by
  have hn := hs.1
  have hmx : m.length ≤ 9223372036854775807 := by omega
  go_enter Try.func33, Try.ntmps33
  go_wp2
  go_loopw [1, 5] (fun kk i wr => ∃ k : Nat, k ≤ m.length ∧ i = .int .i64 k ∧ kk = .int .i64 (q + tot m k) ∧ wr.ownsRow B 22 1 (.slice ao m.length c) m.length vs ∧
      (∀ i, i < k → OwnI wr B (vs.getD i undef) (gr (markM q m) i)) ∧ (∀ i, k ≤ i → i < m.length → OwnI wr B (vs.getD i undef) (gr m i)) ∧ OnlyW (fun g => ∃ i, i < m.length ∧ (vs.getD i undef).ownBlock = some g) w wr)
    (fun _ i _ => m.length - (intOf i).toNat)
  case atStart => exact ⟨0, Nat.zero_le _, rfl, by simp [tot], hx.top, fun i hi => absurd hi (by omega), fun i _ hi => hx.rows i hi, OnlyW.refl _ _⟩
  case round =>
    obtain ⟨k, hk, rfl, rfl, htop, hlo, hhi, hbr⟩ := hrel
    by_cases hlt : k < m.length
    · obtain ⟨ao', c', hv', _, _, hcells⟩ := ownsRow_read htop
      obtain ⟨rfl, -, rfl⟩ := (Value.slice.injEq _ _ _ _ _ _).mp hv'
      obtain ⟨b, o, rfl, hc⟩ := hcells k hlt
      have hrow := hhi k (Nat.le_refl _) hlt
      obtain ⟨r, d, hr, h3, h4, _⟩ := hrow.read
      have Hr := Lib.hid hr
      rw [hr] at hc hrow
      have h2 := hs.2 k hlt
      have h5 := tot_big hs hk
      have Hs := Lib.hid hs
      have Hx := Lib.hid hx
      have Htop := Lib.hid htop
      have Hlo := Lib.hid hlo
      have Hhi := Lib.hid hhi
      have Hrow := Lib.hid hrow
      clear hs hx htop hlo hhi hr hcells hv' hrow
      go_wp2_with fail
      refine (markIntS_any B r d (gr m k).length _ _ wr h2 (by omega) (by omega) Hrow.out).mono ?_
      rintro e w2 ⟨rfl, hv, hb2⟩
      have e1 : q + (tot m k : Int) + ((gr m k).length : Int) = q + (tot m (k + 1) : Int) := by simp only [tot]; omega
      have h6 := tot_big Hs.out (show k + 1 ≤ m.length by omega)
      rw [e1]
      rw [← Hr.out] at hv hb2
      have Hv := Lib.hid hv
      have Hb2 := Lib.hid hb2
      clear e1 hv hb2
      go_wp2
      go_roundw
      case rel =>
        have hb2 := Hb2.out
        refine ⟨k + 1, by omega, by go_num, rfl, ?_, fun i hi => ?_, fun i hi1 hi2 => ?_, hbr.trans (hb2.mono (fun g hg => ⟨k, hlt, hg⟩))⟩
        · exact ownsRow_only Htop.out hb2 (fun g hg hg' => (Hhi.out k (Nat.le_refl _) hlt).ne_row Htop.out g hg' hg)
        · by_cases e : i = k
          · subst e
            rw [gr_markM hlt]
            exact Hv.out
          · exact ownsRow_only (Hlo.out i (by omega)) hb2 (fun g hg hg' => Hx.out.apart i k (by omega) hlt g hg hg')
        · exact ownsRow_only (Hhi.out i (by omega) hi2) hb2 (fun g hg hg' => Hx.out.apart k i (by omega) hi2 g hg' hg)
      case measure => simp [intOf]; omega
    · obtain rfl : k = m.length := by omega
      go_wp2
      go_ret
      exact ⟨rfl, ⟨htop, hlo, hx.apart⟩, hbr⟩

-- szIntSS: where it lets a table through that is small
set_option maxRecDepth 100000 in
set_option maxHeartbeats 400000 in
theorem szIntSS_any (ao : Option Addr) (c : Nat) (m : List (List Int)) (left : Int) (w : World) (hn : m.length ≤ 9223372036854775807) (hrow : ∀ i, i < m.length → (gr m i).length ≤ 9223372036854775807) (h0 : 0 ≤ left) (h1 : left ≤ 1048576) (hm : MatAt w ao m) :
    Calls Try.prog 37 #[.slice ao m.length c, .int .i64 left] w fun e w' => ∃ r : Int, e = .returned (.int .i64 r) ∧ -1 ≤ r ∧ r ≤ 1048576 ∧ (0 ≤ r → Small m) ∧ w = w' := by
  by_cases hl : left - m.length < 0
  · go_enter Try.func37, Try.ntmps37
    go_wp2
    go_ret
    exact ⟨-1, rfl, by omega, by omega, fun h => absurd h (by omega), rfl⟩
  · go_enter Try.func37, Try.ntmps37
    go_wp2
    go_loopw [1, 5] (fun l i wr => ∃ (k : Nat) (r : Int), k ≤ m.length ∧ i = .int .i64 k ∧ l = .int .i64 r ∧ 0 ≤ r ∧ r ≤ 1048576 ∧ (∀ j, j < k → (gr m j).length ≤ 1048576) ∧ w = wr) (fun _ i _ => m.length - (intOf i).toNat)
    case atStart => exact ⟨0, _, Nat.zero_le _, rfl, rfl, by omega, by omega, fun j hj => absurd hj (by omega), rfl⟩
    case round =>
      obtain ⟨k, r, hk, rfl, rfl, hr0, hr1, hs, rfl⟩ := hrel
      by_cases hlt : k < m.length
      · obtain ⟨b1, o1, r1, d1, rfl, hc1, hx1, _, _⟩ := hm k hlt
        have hrk := hrow k hlt
        have Hs := Lib.hid hs
        clear hm hs hrow hx1
        by_cases hneg : r - (gr m k).length < 0
        · have e1 : szL r (gr m k).length = -1 := if_pos hneg
          have E1 := Lib.hid e1
          clear e1
          go_wp2_with fail
          refine (szIntS_any r1 (gr m k).length d1 r w hrk hr0 hr1).mono ?_
          rintro e w2 ⟨rfl, rfl⟩
          rw [E1.out]
          go_wp2
          go_ret
          exact ⟨-1, rfl, by omega, by omega, fun h => absurd h (by omega), rfl⟩
        · have e1 : szL r (gr m k).length = r - (gr m k).length := if_neg hneg
          have E1 := Lib.hid e1
          clear e1
          go_wp2_with fail
          refine (szIntS_any r1 (gr m k).length d1 r w hrk hr0 hr1).mono ?_
          rintro e w2 ⟨rfl, rfl⟩
          rw [E1.out]
          go_wp2
          go_roundw
          case rel =>
            refine ⟨k + 1, _, by omega, by go_num, rfl, by omega, by omega, fun j hj => ?_, by trivial⟩
            by_cases e : j = k
            · subst e; omega
            · exact Hs.out j (by omega)
          case measure => simp [intOf]; omega
      · obtain rfl : k = m.length := by omega
        go_wp2
        go_ret
        exact ⟨r, rfl, by omega, hr1, fun _ => ⟨by omega, hs⟩, rfl⟩
end Go.Proofs.Ytncpoljjfhmkeaa

namespace Go.Proofs.Ytncpoljjfhmkeaa
open Go.RowKit

set_option maxRecDepth 100000 in
set_option maxHeartbeats 400000 in
theorem l1In_any (n lo hi : Int) (w : World) :
    Calls Try.prog 52 #[.int .i64 n, .int .i64 lo, .int .i64 hi] w fun e w' => Ans (lo ≤ n ∧ n ≤ hi) e ∧ w = w' := by
  by_cases h1 : lo ≤ n
  · by_cases h2 : n ≤ hi
    · go_enter Try.func52, Try.ntmps52
      go_wp2
      go_ret
      exact ⟨Ans.yes ⟨h1, h2⟩, rfl⟩
    · go_enter Try.func52, Try.ntmps52
      go_wp2
      go_ret
      exact ⟨Ans.no (fun h => by omega), rfl⟩
  · go_enter Try.func52, Try.ntmps52
    go_wp2
    go_ret
    exact ⟨Ans.no (fun h => by omega), rfl⟩

end Go.Proofs.Ytncpoljjfhmkeaa

namespace Go.Proofs.Ytncpoljjfhmkeaa
open Go.RowKit

/-- the first t numbers of column k -/
def colTo (m : List (List Int)) (k t : Nat) : List Int := (List.range t).map fun i => gi (gr m i) k
theorem colTo_succ (m : List (List Int)) (k t : Nat) : colTo m k (t + 1) = colTo m k t ++ [gi (gr m t) k] := by simp [colTo, List.range_succ]
theorem colTo_len (m : List (List Int)) (k t : Nat) : (colTo m k t).length = t := by simp [colTo]
theorem colTo_tr {m : List (List Int)} {k : Nat} (hk : k < m.length) : colTo m k m.length = gr (tr m) k := by unfold tr; rw [gr_tab hk]; rfl

end Go.Proofs.Ytncpoljjfhmkeaa

namespace Go.Proofs.Ytncpoljjfhmkeaa
open Go.RowKit

/-- every row has this many columns -/
def wideAll (m : List (List Int)) (c : Nat) : Prop := ∀ i, i < m.length → (gr m i).length = c

set_option maxRecDepth 100000 in
set_option maxHeartbeats 400000 in
theorem hasSize1_any (a : Option Addr) (n d cb cols : Nat) (w : World) (_hn : n ≤ 9223372036854775807) (_hc : cols ≤ 9223372036854775807) (hcell : w.cell? ⟨cb, 0, none⟩ = some (.int .i64 (cols : Int))) :
    Calls Try.prog 110 #[.slice a n d, .pointer (some ⟨cb, 0, none⟩)] w fun e w' => e = .returned (.bool (decide (n ≠ cols))) ∧ w = w' := by
  by_cases h : n = cols
  · have hb : ((n : Int) != (cols : Int)) = false := by simp; omega
    rw [show decide (n ≠ cols) = false by simp [h]]
    go_enter Try.func110, Try.ntmps110
    go_wp2
    go_ret
    exact ⟨rfl, rfl⟩
  · have hb : ((n : Int) != (cols : Int)) = true := by simp; omega
    rw [show decide (n ≠ cols) = true by simp [h]]
    go_enter Try.func110, Try.ntmps110
    go_wp2
    go_ret
    exact ⟨rfl, rfl⟩

set_option maxRecDepth 100000 in
set_option maxHeartbeats 400000 in
theorem indexRows_any (ao : Option Addr) (c cb cols : Nat) (m : List (List Int)) (w : World) (hs : Small m) (hm : MatAt w ao m) (hc : cols ≤ 9223372036854775807) (hcell : w.cell? ⟨cb, 0, none⟩ = some (.int .i64 (cols : Int))) :
    Calls Try.prog 92 #[.slice ao m.length c, .func (.func 110) #[] #[.pointer (some ⟨cb, 0, none⟩)]] w fun e w' => (∃ r : Int, e = .returned (.int .i64 r) ∧ -1 ≤ r ∧ r ≤ 1048576 ∧ (r < 0 ↔ wideAll m cols)) ∧ w = w' := by
  have hn := hs.1
  have hrow := hs.2
  have hmx : m.length ≤ 9223372036854775807 := by omega
  have Hm := Lib.hid hm
  have Hrow := Lib.hid hrow
  have Hcell := Lib.hid hcell
  clear hs hm hrow hcell
  go_enter Try.func92, Try.ntmps92
  go_wp2
  go_loop [8] (fun i => ∃ k : Nat, k ≤ m.length ∧ i = .int .i64 k ∧ (∀ j, j < k → (gr m j).length = cols)) (fun i => m.length - (intOf i).toNat)
  case atStart => exact ⟨0, Nat.zero_le _, rfl, fun j hj => absurd hj (by omega)⟩
  case round =>
    obtain ⟨k, hk, rfl, heq⟩ := hrel
    have Heq := Lib.hid heq
    clear heq
    by_cases hlt : k < m.length
    · obtain ⟨b1, o1, r1, d1, rfl, hc1, _, _, _⟩ := Hm.out k hlt
      have hrk := Hrow.out k hlt
      go_wp2_with fail
      refine (hasSize1_any r1 (gr m k).length d1 cb cols w (by omega) hc Hcell.out).mono ?_
      rintro e w2 ⟨rfl, rfl⟩
      by_cases he : (gr m k).length = cols
      · rw [show decide ((gr m k).length ≠ cols) = false by simp [he]]
        have He := Lib.hid he
        clear he hrk
        go_wp2
        go_round
        case rel =>
          refine ⟨k + 1, by omega, by go_num, fun j hj => ?_⟩
          by_cases e : j = k
          · subst e; exact He.out
          · exact Heq.out j (by omega)
        case measure => simp [intOf]; omega
      · rw [show decide ((gr m k).length ≠ cols) = true by simp [he]]
        have He := Lib.hid he
        clear he hrk
        go_wp2
        go_ret
        exact ⟨⟨_, rfl, by omega, by omega, ⟨fun h => absurd h (by omega), fun h => absurd (h k hlt) He.out⟩⟩, rfl⟩
    · obtain rfl : k = m.length := by omega
      go_wp2
      go_ret
      exact ⟨⟨_, rfl, by omega, by omega, ⟨fun _ => Heq.out, fun _ => by omega⟩⟩, rfl⟩

set_option maxRecDepth 100000 in
set_option maxHeartbeats 400000 in
theorem containsRows_any (ao : Option Addr) (c cb cols : Nat) (m : List (List Int)) (w : World) (hs : Small m) (hm : MatAt w ao m) (hc : cols ≤ 9223372036854775807) (hcell : w.cell? ⟨cb, 0, none⟩ = some (.int .i64 (cols : Int))) :
    Calls Try.prog 109 #[.slice ao m.length c, .func (.func 110) #[] #[.pointer (some ⟨cb, 0, none⟩)]] w fun e w' => Ans (¬ wideAll m cols) e ∧ w = w' := by
  have hmx : m.length ≤ 9223372036854775807 := by have := hs.1; omega
  go_enter Try.func109, Try.ntmps109
  go_wp2_with fail
  refine (indexRows_any ao c cb cols m w hs hm hc hcell).mono ?_
  rintro e w2 ⟨⟨r, rfl, h1, h2, h3⟩, rfl⟩
  have H3 := Lib.hid h3
  clear hs hm hcell h3
  by_cases h : r < 0
  · have hd : decide ((0 : Int) ≤ r) = false := by simp; omega
    go_wp2
    go_ret
    exact ⟨Ans.no (p := ¬ wideAll m cols) (fun hn : ¬ wideAll m cols => hn (H3.out.1 (by omega))), rfl⟩
  · go_wp2
    go_ret
    exact ⟨Ans.yes (p := ¬ wideAll m cols) (fun hn : wideAll m cols => by have := H3.out.2 hn; omega), rfl⟩

set_option maxRecDepth 100000 in
set_option maxHeartbeats 400000 in
theorem hasSize_any (ao : Option Addr) (c rows cols : Nat) (m : List (List Int)) (w : World) (hs : Small m) (hm : MatAt w ao m) (_hr : rows ≤ 9223372036854775807) (hc : cols ≤ 9223372036854775807) :
    Calls Try.prog 97 #[.slice ao m.length c, .int .i64 (rows : Int), .int .i64 (cols : Int)] w fun e w' => Ans (m.length = rows ∧ wideAll m cols) e ∧ Below w.heap.size w w' := by
  have hmx : m.length ≤ 9223372036854775807 := by have := hs.1; omega
  have hb := (Below.refl w.heap.size w).alloc (Nat.le_refl _) (.cells #[.int .i64 (cols : Int)] 3)
  have Hm := Lib.hid (hm.below hb)
  have hcell : (w.alloc (.cells #[.int .i64 (cols : Int)] 3)).cell? ⟨w.heap.size, 0, none⟩ = some (.int .i64 (cols : Int)) := by rw [cell_new]; rfl
  have Hcell := Lib.hid hcell
  have Hb := Lib.hid hb
  have Hs := Lib.hid hs
  clear hb hm hcell hs
  by_cases hl : m.length = rows
  · have hq : ((m.length : Int) == (rows : Int)) = true := by simp; omega
    have Hl := Lib.hid hl
    clear hl
    go_enter Try.func97, Try.ntmps97
    go_wp2_with fail
    refine (containsRows_any ao c w.heap.size cols m _ Hs.out Hm.out hc Hcell.out).mono ?_
    rintro e w2 ⟨ha, rfl⟩
    by_cases hw : wideAll m cols
    · obtain rfl := ha.isnt (fun h => h hw)
      have Hw := Lib.hid hw
      clear ha hw
      go_wp2
      go_ret
      exact ⟨Ans.yes ⟨Hl.out, Hw.out⟩, Hb.out⟩
    · obtain rfl := ha.is hw
      have Hw := Lib.hid hw
      clear ha hw
      go_wp2
      go_ret
      exact ⟨Ans.no fun h => Hw.out h.2, Hb.out⟩
  · have hq : ((m.length : Int) == (rows : Int)) = false := by simp; omega
    have Hl := Lib.hid hl
    clear hl
    go_enter Try.func97, Try.ntmps97
    go_wp2
    go_ret
    exact ⟨Ans.no fun h => Hl.out h.1, Hb.out⟩

set_option maxRecDepth 100000 in
set_option maxHeartbeats 400000 in
theorem newTable_any (n c : Nat) (w : World) (hn : n ≤ 1048576) (hcn : c ≤ 1048576) :
    Calls Try.prog 96 #[.int .i64 (n : Int), .int .i64 (c : Int)] w fun e w' => ∃ vs, e = .returned (.slice (some ⟨w.heap.size, 0, none⟩) n n) ∧ OwnP w' w.heap.size (.slice (some ⟨w.heap.size, 0, none⟩) n n) n (tab n c fun _ _ => 0) n vs ∧ Below w.heap.size w w' := by
  obtain ⟨i0, hi, hz0, hz1, hz2⟩ := info_parts Try.info_int
  obtain ⟨j0, hj, hy0, hy1, hy2⟩ := info_parts Try.info_ints
  have hmx : n ≤ 9223372036854775807 := by omega
  go_enter Try.func96, Try.ntmps96
  go_wp2_with (at_make; refine wpList_make_full _ rfl _ _ 36 rfl w.heap.size 22 j0 (.slice none 0 0) 1 Try.underlying36 hj hy0 hy1 _ _ _ _ n rfl rfl rfl rfl ?c1 ?c2 ?c3 ?_)
  case c1 => rw [hy2]; omega
  case c2 => unfold maxLen; omega
  case c3 => simp
  intro w1 hown hg
  have hb1 : Below w.heap.size w w1 := (Below.refl _ _).grown hg (Nat.le_refl _) (fun _ h => by cases h)
  have hown1 := OwnP.made (m := tab n c fun _ _ => 0) hown
  clear hown hg
  go_wp2
  go_loopw [11] (fun i wr => ∃ (k : Nat) (vs : List Value), k ≤ n ∧ i = .int .i64 k ∧ OwnP wr w.heap.size (.slice (some ⟨w.heap.size, 0, none⟩) n n) n (tab n c fun _ _ => 0) k vs ∧ Below w.heap.size w wr)
    (fun i _ => n - (intOf i).toNat)
  case atStart => exact ⟨0, _, Nat.zero_le _, rfl, hown1, hb1⟩
  case round =>
    obtain ⟨k, vs, hk, rfl, hown, hbr⟩ := hrel
    clear hown1 hb1
    by_cases hlt : k < n
    · have hB := hbr.size
      have Hown := Lib.hid hown
      have Hbr := Lib.hid hbr
      clear hown hbr
      go_wp2_with (at_make; refine wpList_make_full _ rfl _ _ 22 rfl wr.heap.size 3 i0 (.int .i64 0) 1 Try.underlying22 hi hz0 hz1 _ _ _ _ c rfl rfl rfl rfl ?d1 ?d2 ?d3 ?_)
      case d1 => rw [hz2]; omega
      case d2 => unfold maxLen; omega
      case d3 => simp
      intro w2 hown2 hg2
      have hb2 : Below wr.heap.size wr w2 := (Below.refl _ _).grown hg2 (Nat.le_refl _) (fun _ h => by cases h)
      have hrow := OwnI.made hown2
      have hpos := Hown.out.below hb2
      have hd := hpos.cellAt k hlt
      have hf : w2.frozen? ⟨w.heap.size, k, none⟩ = false := World.ownsRow.frozenAt hpos.top k
      have e1 : gr (tab n c fun _ _ => (0 : Int)) k = List.replicate c 0 := zero_row hlt
      have hput := hpos.put hlt (v := .slice (some ⟨wr.heap.size, 0, none⟩) c c) (by rw [e1]; exact hrow.base hB) (Hown.out.fresh hrow (Nat.le_refl _))
      have Hput := Lib.hid hput
      have Hbs := Lib.hid ((Hbr.out.trans (hb2.mono hB)).setCell (p := ⟨w.heap.size, k, none⟩) (Nat.le_refl _) (.slice (some ⟨wr.heap.size, 0, none⟩) c c))
      clear hown2 hg2 hb2 hrow hpos e1 hput
      go_wp2
      go_roundw
      case rel => exact ⟨k + 1, _, by omega, by go_num, Hput.out, Hbs.out⟩
      case measure => simp [intOf]; omega
    · obtain rfl : k = n := by omega
      go_wp2
      go_ret
      exact ⟨vs, rfl, hown, hbr⟩

end Go.Proofs.Ytncpoljjfhmkeaa

namespace Go.Proofs.Ytncpoljjfhmkeaa
open Go.RowKit

theorem wrap_neg {s x : Int} (h : s + x = 9223372036854775808) : wrap64 (s + x) < 0 := by
  rw [h]
  unfold wrap64
  omega

/-- the table itself, then the one with rows and columns exchanged -/
def selM (m : List (List Int)) (k : Nat) : List (List Int) := if k = 0 then m else tr m

theorem wf_tr {m : List (List Int)} (h : square m) (hw : WfM m) : WfM (tr m) := by
  intro i hi
  rw [tr_len] at hi
  intro j hj
  rw [tr_row hi] at hj
  rw [gi_tr hi hj]
  exact hw j hj i (by rw [h.2.2 j hj]; exact hi)

end Go.Proofs.Ytncpoljjfhmkeaa

namespace Go.Proofs.Ytncpoljjfhmkeaa
open Go.RowKit

/-- the rows backwards -/
def mir (m : List (List Int)) : List (List Int) := tab m.length m.length fun i j => gi (gr m i) (m.length - 1 - j)
theorem mir_len (m : List (List Int)) : (mir m).length = m.length := tab_len _ _ _
theorem mir_row {m : List (List Int)} {i : Nat} (h : i < m.length) : (gr (mir m) i).length = m.length := tab_row h
theorem gi_mir {m : List (List Int)} {i j : Nat} (hi : i < m.length) (hj : j < m.length) : gi (gr (mir m) i) j = gi (gr m i) (m.length - 1 - j) := gi_tab hi hj
theorem square.mir {m : List (List Int)} (h : square m) : square (mir m) := ⟨by rw [mir_len]; exact h.1, by rw [mir_len]; exact h.2.1, fun i hi => by rw [mir_len] at hi ⊢; exact mir_row hi⟩
/-- turned clockwise -/
def cw (m : List (List Int)) : List (List Int) := mir (tr m)
theorem cw_len (m : List (List Int)) : (cw m).length = m.length := by unfold cw; rw [mir_len, tr_len]
theorem cw_row {m : List (List Int)} {i : Nat} (h : i < m.length) : (gr (cw m) i).length = m.length := by unfold cw; rw [mir_row (by rw [tr_len]; exact h), tr_len]
theorem gi_cw {m : List (List Int)} {i j : Nat} (hi : i < m.length) (hj : j < m.length) : gi (gr (cw m) i) j = gi (gr m (m.length - 1 - j)) i := by
  unfold cw
  rw [gi_mir (by rw [tr_len]; exact hi) (by rw [tr_len]; exact hj), tr_len, gi_tr hi (by omega)]
theorem square.cw {m : List (List Int)} (h : square m) : square (cw m) := h.tr.mir

/-- the answer of a function that hands back a table and whether there is one -/
def MRes (p : Prop) (r : List (List Int)) (w : World) (B : Nat) (e : Ending) : Prop :=
  ∃ v b r', e = .returned (.tuple #[v, .bool b]) ∧ OwnM w B v r' ∧ ((p ∧ b = true ∧ r' = r) ∨ (¬p ∧ b = false ∧ r' = []))
theorem MRes.yes {p : Prop} {r : List (List Int)} {w : World} {B : Nat} {v : Value} (h : p) (ho : OwnM w B v r) : MRes p r w B (.returned (.tuple #[v, .bool true])) := ⟨v, true, r, rfl, ho, .inl ⟨h, rfl, rfl⟩⟩
theorem MRes.no {p : Prop} {r : List (List Int)} {w : World} {B : Nat} (h : ¬p) : MRes p r w B (.returned (.tuple #[.slice none 0 0, .bool false])) := ⟨_, false, [], rfl, OwnM.nil _ _, .inr ⟨h, rfl, rfl⟩⟩


end Go.Proofs.Ytncpoljjfhmkeaa

namespace Go.Proofs.Ytncpoljjfhmkeaa
open Go.RowKit

theorem OwnP.only {w w' : World} {S : Nat → Prop} {B n k : Nat} {v : Value} {m : List (List Int)} {vs : List Value} (h : OwnP w B v n m k vs) (ho : OnlyW S w w') (hS : ∀ g, S g → g < B) : OwnP w' B v n m k vs := by
  refine ⟨ownsRow_only h.top ho (fun g hg hs => ?_), fun i hi => ownsRow_only (h.rows i hi) ho (fun g hg hs => ?_), h.apart⟩
  · have h1 := (World.ownsRow.lt h.top g hg).1
    have h2 := hS g hs
    omega
  · have h1 := ((h.rows i hi).lt g hg).1
    have h2 := hS g hs
    omega

/-- the blocks of the rows -/
theorem OwnP.span {w : World} {B n : Nat} {v : Value} {m : List (List Int)} {vs : List Value} (h : OwnP w B v n m n vs) {g : Nat} (hg : ∃ i, i < n ∧ (vs.getD i undef).ownBlock = some g) : B ≤ g ∧ g < w.heap.size := by
  obtain ⟨i, hi, e⟩ := hg
  exact (h.rows i hi).lt g e

theorem OwnP.at {w : World} {B n c : Nat} {ao : Option Addr} {m : List (List Int)} {vs : List Value} (h : OwnP w B (.slice ao n c) n m n vs) (hn : m.length = n) : MatAt w ao m := by
  subst hn
  obtain ⟨ao', c', hv, _, _, hm⟩ := OwnM.read ⟨vs, h⟩
  obtain ⟨rfl, -, rfl⟩ := (Value.slice.injEq _ _ _ _ _ _).mp hv
  exact hm

theorem OwnM.open {w : World} {B : Nat} {v : Value} {m : List (List Int)} (h : OwnM w B v m) : ∃ ao c vs, v = .slice ao m.length c ∧ OwnP w B (.slice ao m.length c) m.length m m.length vs ∧ m.length ≤ c ∧ c ≤ 9223372036854775807 := by
  obtain ⟨ao, c, hv, h1, h2, _⟩ := h.read
  obtain ⟨vs, h⟩ := h
  exact ⟨ao, c, vs, hv, by rw [← hv]; exact h, h1, h2⟩

theorem mres_same {p : Prop} {r q : List (List Int)} {b : Bool} (h : (p ∧ b = true ∧ q = r) ∨ (¬p ∧ b = false ∧ q = [])) :
    ∀ (b' : Bool) (q' : List (List Int)), ((p ∧ b' = true ∧ q' = r) ∨ (¬p ∧ b' = false ∧ q' = [])) → b = b' ∧ q = q' := by
  intro b' q' h'
  rcases h with ⟨h1, rfl, rfl⟩ | ⟨h1, rfl, rfl⟩ <;> rcases h' with ⟨k1, rfl, rfl⟩ | ⟨k1, rfl, rfl⟩
  · exact ⟨rfl, rfl⟩
  · exact absurd h1 k1
  · exact absurd k1 h1
  · exact ⟨rfl, rfl⟩

theorem own_at {w : World} {B n c : Nat} {ao : Option Addr} {xs : List Int} (h : OwnI w B (.slice ao n c) xs) : IntsAt w ao xs := by
  obtain ⟨ao', c', hv, _, _, hx⟩ := h.read
  obtain ⟨rfl, -, rfl⟩ := (Value.slice.injEq _ _ _ _ _ _).mp hv
  exact hx

/-- the last t numbers of row k, backwards -/
def backTo (m : List (List Int)) (k t : Nat) : List Int := (List.range t).map fun i => gi (gr m k) (m.length - 1 - i)
theorem backTo_succ (m : List (List Int)) (k t : Nat) : backTo m k (t + 1) = backTo m k t ++ [gi (gr m k) (m.length - 1 - t)] := by simp [backTo, List.range_succ]
theorem backTo_len (m : List (List Int)) (k t : Nat) : (backTo m k t).length = t := by simp [backTo]
theorem backTo_mir {m : List (List Int)} {k : Nat} (hk : k < m.length) : backTo m k m.length = gr (mir m) k := by unfold mir; rw [gr_tab hk]; rfl

end Go.Proofs.Ytncpoljjfhmkeaa

namespace Go.Proofs.Ytncpoljjfhmkeaa
open Go.RowKit

def sumF (f : Nat → Int) : Nat → Int
  | 0 => 0
  | k + 1 => sumF f k + f k

theorem sumF_congr {f g : Nat → Int} {k : Nat} (h : ∀ i, i < k → f i = g i) : sumF f k = sumF g k := by
  induction k with
  | zero => rfl
  | succ k ih => simp only [sumF]; rw [ih (fun i hi => h i (by omega)), h k (by omega)]

/-- sums of numbers of at most B -/
theorem sumF_bound {f : Nat → Int} {B : Int} : ∀ {k : Nat}, (∀ i, i < k → -B ≤ f i ∧ f i ≤ B) → -(k * B) ≤ sumF f k ∧ sumF f k ≤ k * B
  | 0, _ => by simp [sumF]
  | k + 1, h => by
    have h1 := sumF_bound (k := k) (fun i hi => h i (by omega))
    have h2 := h k (by omega)
    simp only [sumF]
    have e : ((k + 1 : Nat) : Int) * B = k * B + B := by
      rw [show ((k + 1 : Nat) : Int) = (k : Int) + 1 from by omega, Int.add_mul, Int.one_mul]
    omega

theorem good_entry {m : List (List Int)} (h : good m) {i j : Nat} (hi : i < m.length) (hj : j < m.length) : -1 ≤ gi (gr m i) j ∧ gi (gr m i) j ≤ 1 := by
  have hl := h.1.2.2 i hi
  have h1 := (h.2.1 i hi).1 j (by omega)
  have h2 := (h.2.1 i hi).1 (j + 1) (by omega)
  simp only [sumK] at h2
  omega

def isNeg (x : Int) : Int := if x < 0 then 1 else 0
def isM1 (x : Int) : Int := if x = -1 then 1 else 0

/-- the sum over all numbers of a table of n rows of n numbers -/
def sum2 (f : Int → Int) (m : List (List Int)) : Int := sumF (fun i => sumF (fun j => f (gi (gr m i) j)) m.length) m.length

/-- how many minus ones -/
def mcount (m : List (List Int)) : Int := sum2 isNeg m

theorem mcount_m1 {m : List (List Int)} (h : good m) : sum2 isM1 m = mcount m := by
  refine sumF_congr fun i hi => sumF_congr fun j hj => ?_
  have := good_entry h hi hj
  unfold isM1 isNeg
  by_cases e : gi (gr m i) j = -1
  · rw [if_pos e, if_pos (by omega)]
  · rw [if_neg e, if_neg (by omega)]

def idI (x : Int) : Int := x
theorem m1_bound (xs : List Int) (k : Nat) (hk : k ≤ 1000000) : -1000000 ≤ sumF (fun i => isM1 (gi xs i)) k ∧ sumF (fun i => isM1 (gi xs i)) k ≤ 1000000 := by
  have := sumF_bound (f := fun i => isM1 (gi xs i)) (B := 1) (k := k) (fun i _ => by unfold isM1; split <;> omega)
  omega

theorem rowm1_bound (m : List (List Int)) {n k : Nat} (hn : n ≤ 6) (hk : k ≤ 6) : -1000000 ≤ sumF (fun i => sumF (fun j => isM1 (gi (gr m i) j)) n) k ∧ sumF (fun i => sumF (fun j => isM1 (gi (gr m i) j)) n) k ≤ 1000000 := by
  have := sumF_bound (f := fun i => sumF (fun j => isM1 (gi (gr m i) j)) n) (B := 6) (k := k) (fun i _ => by
    have := sumF_bound (f := fun j => isM1 (gi (gr m i) j)) (B := 1) (k := n) (fun j _ => by unfold isM1; split <;> omega)
    omega)
  omega

theorem neg_bound (m : List (List Int)) {n k : Nat} (hn : n ≤ 6) (hk : k ≤ 6) : 0 ≤ sumF (fun i => sumF (fun j => isNeg (gi (gr m i) j)) n) k ∧ sumF (fun i => sumF (fun j => isNeg (gi (gr m i) j)) n) k ≤ 36 := by
  have h0 : ∀ (xs : List Int) t, 0 ≤ sumF (fun j => isNeg (gi xs j)) t ∧ sumF (fun j => isNeg (gi xs j)) t ≤ t := by
    intro xs t
    induction t with
    | zero => simp [sumF]
    | succ t ih =>
      have : 0 ≤ isNeg (gi xs t) ∧ isNeg (gi xs t) ≤ 1 := by unfold isNeg; split <;> omega
      simp only [sumF]
      omega
  have h1 : ∀ t, 0 ≤ sumF (fun i => sumF (fun j => isNeg (gi (gr m i) j)) n) t ∧ sumF (fun i => sumF (fun j => isNeg (gi (gr m i) j)) n) t ≤ t * 6 := by
    intro t
    induction t with
    | zero => simp [sumF]
    | succ t ih =>
      have := h0 (gr m t) n
      simp only [sumF]
      omega
  have := h1 k
  omega
theorem neg_bound1 (xs : List Int) {t : Nat} : 0 ≤ sumF (fun j => isNeg (gi xs j)) t ∧ sumF (fun j => isNeg (gi xs j)) t ≤ t := by
  induction t with
  | zero => simp [sumF]
  | succ t ih =>
    have : 0 ≤ isNeg (gi xs t) ∧ isNeg (gi xs t) ≤ 1 := by unfold isNeg; split <;> omega
    simp only [sumF]
    omega

end Go.Proofs.Ytncpoljjfhmkeaa

namespace Go.Proofs.Ytncpoljjfhmkeaa
open Go.RowKit

/-- the answer of a function that hands back a number and whether there is one -/
def IRes (p : Prop) (x : Int) (e : Ending) : Prop := ∃ y b, e = .returned (.tuple #[.int .i64 y, .bool b]) ∧ ((p ∧ b = true ∧ y = x) ∨ (¬p ∧ b = false ∧ y = 0))
theorem IRes.yes {p : Prop} {x : Int} (h : p) : IRes p x (.returned (.tuple #[.int .i64 x, .bool true])) := ⟨x, true, rfl, .inl ⟨h, rfl, rfl⟩⟩
theorem IRes.no {p : Prop} {x : Int} (h : ¬p) : IRes p x (.returned (.tuple #[.int .i64 0, .bool false])) := ⟨0, false, rfl, .inr ⟨h, rfl, rfl⟩⟩
theorem ires_same {p : Prop} {x y y' : Int} {b b' : Bool} (h : (p ∧ b = true ∧ y = x) ∨ (¬p ∧ b = false ∧ y = 0)) (h' : (p ∧ b' = true ∧ y' = x) ∨ (¬p ∧ b' = false ∧ y' = 0)) : b = b' ∧ y = y' := by
  rcases h with ⟨h1, rfl, rfl⟩ | ⟨h1, rfl, rfl⟩ <;> rcases h' with ⟨k1, rfl, rfl⟩ | ⟨k1, rfl, rfl⟩
  · exact ⟨rfl, rfl⟩
  · exact absurd h1 k1
  · exact absurd k1 h1
  · exact ⟨rfl, rfl⟩
/-- .. a bool and whether there is one -/
def BRes (p q : Prop) (e : Ending) : Prop := ∃ y b, e = .returned (.tuple #[.bool y, .bool b]) ∧ ((p ∧ b = true ∧ (y = true ↔ q)) ∨ (¬p ∧ b = false ∧ y = false))
theorem bres_same {p q : Prop} {y y' b b' : Bool} (h : (p ∧ b = true ∧ (y = true ↔ q)) ∨ (¬p ∧ b = false ∧ y = false)) (h' : (p ∧ b' = true ∧ (y' = true ↔ q)) ∨ (¬p ∧ b' = false ∧ y' = false)) : b = b' ∧ y = y' := by
  rcases h with ⟨h1, rfl, h2⟩ | ⟨h1, rfl, rfl⟩ <;> rcases h' with ⟨k1, rfl, k2⟩ | ⟨k1, rfl, rfl⟩
  · have := h2.trans k2.symm
    refine ⟨rfl, ?_⟩
    cases y <;> cases y' <;> simp_all
  · exact absurd h1 k1
  · exact absurd k1 h1
  · exact ⟨rfl, rfl⟩

/-- the first number that isn't 0 of a line whose signs alternate is 1 -/
theorem first_one {xs : List Int} (h : lineOk xs) : ∃ j, j < xs.length ∧ gi xs j = 1 ∧ ∀ i, i < j → gi xs i = 0 := by
  have key : ∀ k, k ≤ xs.length → (∃ j, j < k ∧ gi xs j = 1 ∧ ∀ i, i < j → gi xs i = 0) ∨ (sumK xs k = 0 ∧ ∀ i, i < k → gi xs i = 0) := by
    intro k
    induction k with
    | zero => exact fun _ => .inr ⟨rfl, fun i hi => absurd hi (by omega)⟩
    | succ k ih =>
      intro hk
      rcases ih (by omega) with ⟨j, hj, h1, h2⟩ | ⟨h1, h2⟩
      · exact .inl ⟨j, by omega, h1, h2⟩
      · have hb := h.1 (k + 1) hk
        simp only [sumK] at hb
        by_cases e : gi xs k = 0
        · refine .inr ⟨by simp only [sumK]; omega, fun i hi => ?_⟩
          by_cases e2 : i = k
          · subst e2; exact e
          · exact h2 i (by omega)
        · exact .inl ⟨k, by omega, by omega, h2⟩
  rcases key xs.length (Nat.le_refl _) with h1 | ⟨h1, _⟩
  · exact h1
  · have := h.2
    omega

/-- .. its index -/
def IsFirst (xs : List Int) (j : Nat) : Prop := j < xs.length ∧ gi xs j = 1 ∧ ∀ i, i < j → gi xs i = 0
theorem first_unique {xs : List Int} {j j' : Nat} (h : IsFirst xs j) (h' : IsFirst xs j') : j = j' := by
  rcases Nat.lt_trichotomy j j' with hl | hl | hl
  · have := h'.2.2 j hl; have := h.2.1; omega
  · exact hl
  · have := h.2.2 j' hl; have := h'.2.1; omega

/-- the answer of the first column's functions -/
def CRes (m : List (List Int)) (e : Ending) : Prop := (good m ∧ ∃ j, IsFirst (gr m 0) j ∧ e = .returned (.tuple #[.int .i64 (j : Int), .bool true])) ∨ (¬good m ∧ e = .returned (.tuple #[.int .i64 0, .bool false]))

/-- whatever both hand back is the same number -/
theorem cres_ires {m : List (List Int)} {e : Ending} (h : CRes m e) : ∀ j, IsFirst (gr m 0) j → IRes (good m) (j : Int) e := by
  intro j hj
  rcases h with ⟨hg, j', hj', rfl⟩ | ⟨hg, rfl⟩
  · obtain rfl := first_unique hj hj'
    exact IRes.yes hg
  · exact IRes.no hg

/-- the column of the first 1, where there is one -/
theorem cres_some (m : List (List Int)) : ∃ x : Int, ∀ e, CRes m e → IRes (good m) x e := by
  by_cases hg : good m
  · obtain ⟨j, hj⟩ := first_one (hg.2.1 0 (by have := hg.1.1; omega))
    exact ⟨j, fun e h => cres_ires h j hj⟩
  · refine ⟨0, fun e h => ?_⟩
    rcases h with ⟨h1, _⟩ | ⟨_, rfl⟩
    · exact absurd h1 hg
    · exact IRes.no hg
end Go.Proofs.Ytncpoljjfhmkeaa

namespace Go.Proofs.Ytncpoljjfhmkeaa
open Go.RowKit

theorem gi_take {xs : List Int} {k i : Nat} (h : i < k) : gi (xs.take k) i = gi xs i := by
  simp only [gi, List.getD, List.getElem?_take]
  rw [if_pos h]
theorem gr_take {m : List (List Int)} {k i : Nat} (h : i < k) : gr (m.take k) i = gr m i := by
  simp only [gr, List.getD, List.getElem?_take]
  rw [if_pos h]
theorem gr_drop (m : List (List Int)) (k i : Nat) : gr (m.drop k) i = gr m (k + i) := by simp [gr, List.getD]

theorem IntsAt.take {w : World} {ao : Option Addr} {xs : List Int} (h : IntsAt w ao xs) (k : Nat) : IntsAt w ao (xs.take k) := by
  intro i hi
  have hi' : i < k ∧ i < xs.length := by rw [List.length_take] at hi; omega
  obtain ⟨b, o, e, hc⟩ := h i hi'.2
  exact ⟨b, o, e, by rw [gi_take hi'.1]; exact hc⟩
theorem MatAt.take {w : World} {ao : Option Addr} {m : List (List Int)} (h : MatAt w ao m) (k : Nat) : MatAt w ao (m.take k) := by
  intro i hi
  have hi' : i < k ∧ i < m.length := by rw [List.length_take] at hi; omega
  obtain ⟨b, o, r, c, e, hc, hr, h1, h2⟩ := h i hi'.2
  rw [gr_take hi'.1]
  exact ⟨b, o, r, c, e, hc, hr, h1, h2⟩
theorem MatAt.drop {w : World} {b o : Nat} {m : List (List Int)} (h : MatAt w (some ⟨b, o, none⟩) m) (k : Nat) : MatAt w (some ⟨b, o + k, none⟩) (m.drop k) := by
  intro i hi
  rw [List.length_drop] at hi
  obtain ⟨b', o', r, c, e, hc, hr, h1, h2⟩ := h (k + i) (by omega)
  simp only [Option.some.injEq, Addr.mk.injEq, and_true] at e
  obtain ⟨rfl, rfl⟩ := e
  rw [gr_drop]
  exact ⟨b, o + k, r, c, rfl, by rw [Nat.add_assoc]; exact hc, hr, h1, h2⟩

/-- the numbers of some rows in their first columns -/
def bsum (m : List (List Int)) (cols : Nat) : Int := sumF (fun i => sumF (fun j => gi (gr m i) j) cols) m.length

/-- all numbers are 0, 1 or -1, no row has more than 6, none fewer than the columns -/
def Tame (m : List (List Int)) (cols : Nat) : Prop := m.length ≤ 6 ∧ cols ≤ 6 ∧ ∀ i, i < m.length → cols ≤ (gr m i).length ∧ (gr m i).length ≤ 6 ∧ 0 < (gr m i).length ∧ ∀ j, j < (gr m i).length → -1 ≤ gi (gr m i) j ∧ gi (gr m i) j ≤ 1

theorem row_bound {f : Nat → Int} {n k : Nat} (hn : n ≤ 6) (h : ∀ j, j < n → -1 ≤ f j ∧ f j ≤ 1) (hk : k ≤ n) : -6 ≤ sumF f k ∧ sumF f k ≤ 6 := by
  have := sumF_bound (f := f) (B := 1) (k := k) (fun i hi => h i (by omega))
  omega

theorem block_bound {m : List (List Int)} {cols : Nat} (h : Tame m cols) {k : Nat} (hk : k ≤ m.length) : -36 ≤ sumF (fun i => sumF (fun j => gi (gr m i) j) cols) k ∧ sumF (fun i => sumF (fun j => gi (gr m i) j) cols) k ≤ 36 := by
  have h1 := h.1
  have := sumF_bound (f := fun i => sumF (fun j => gi (gr m i) j) cols) (B := 6) (k := k) (fun i hi => by
    have hr := h.2.2 i (by omega)
    exact row_bound (f := fun j => gi (gr m i) j) hr.2.1 hr.2.2.2 hr.1)
  omega

end Go.Proofs.Ytncpoljjfhmkeaa

namespace Go.Proofs.Ytncpoljjfhmkeaa
open Go.RowKit

/-- the sum of the numbers in the first a rows and b columns -/
def S2 (m : List (List Int)) (a b : Nat) : Int := sumF (fun i => sumF (fun j => gi (gr m i) j) b) a
/-- corner sums -/
def cs (m : List (List Int)) : List (List Int) := tab m.length m.length fun i j => S2 m (i + 1) (j + 1)
theorem cs_len (m : List (List Int)) : (cs m).length = m.length := tab_len _ _ _
theorem S2_succ (m : List (List Int)) (a b : Nat) : S2 m (a + 1) b = S2 m a b + sumF (fun j => gi (gr m a) j) b := rfl
theorem bsum_take {m : List (List Int)} {a b : Nat} (ha : a ≤ m.length) : bsum (m.take a) b = S2 m a b := by
  unfold bsum S2
  rw [show (m.take a).length = a from by rw [List.length_take]; omega]
  exact sumF_congr fun i hi => by rw [gr_take hi]

theorem good.tame {m : List (List Int)} (h : good m) {cols : Nat} (hc : cols ≤ m.length) : Tame m cols := by
  have hn := h.1.2.1
  have h1 := h.1.1
  refine ⟨hn, by omega, fun i hi => ?_⟩
  have hl := h.1.2.2 i hi
  refine ⟨by omega, by omega, by omega, fun j hj => good_entry h hi (by omega)⟩
theorem Tame.take {m : List (List Int)} {cols : Nat} (h : Tame m cols) (k : Nat) : Tame (m.take k) cols := by
  refine ⟨by rw [List.length_take]; have := h.1; omega, h.2.1, fun i hi => ?_⟩
  rw [List.length_take] at hi
  rw [gr_take (by omega)]
  exact h.2.2 i (by omega)
theorem Tame.drop {m : List (List Int)} {cols : Nat} (h : Tame m cols) (k : Nat) : Tame (m.drop k) cols := by
  refine ⟨by rw [List.length_drop]; have := h.1; omega, h.2.1, fun i hi => ?_⟩
  rw [List.length_drop] at hi
  rw [gr_drop]
  exact h.2.2 (k + i) (by omega)

theorem S2_bound {m : List (List Int)} (h : good m) {a b : Nat} (ha : a ≤ m.length) (hb : b ≤ m.length) : -36 ≤ S2 m a b ∧ S2 m a b ≤ 36 := block_bound (h.tame hb) ha

end Go.Proofs.Ytncpoljjfhmkeaa

