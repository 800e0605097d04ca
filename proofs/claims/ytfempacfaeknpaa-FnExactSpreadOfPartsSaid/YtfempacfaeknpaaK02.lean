/- Parts of proofs: contracts and plain facts. Conditions: as each says. -/
import Derived.Test.YtfempacfaeknpaaK01
import Derived.BigQuiet
import Derived.Deep.QuietTactic
namespace Go.Proofs.Ytfempacfaeknpaa
open Go.RowKit

def szL (left : Int) (n : Nat) : Int := if left - n < 0 then -1 else left - n

set_option maxRecDepth 100000 in
set_option maxHeartbeats 400000 in
theorem szIntS_any (ao : Option Addr) (n c : Nat) (left : Int) (w : World) (hn : n ≤ 9223372036854775807) (h0 : 0 ≤ left) (h1 : left ≤ 1048576) :
    Calls Try.prog 60 #[.slice ao n c, .int .i64 left] w fun e w' => e = .returned (.int .i64 (szL left n)) ∧ w = w' := by
  unfold szL
  by_cases h : left - n < 0
  · rw [if_pos h]
    go_enter Try.func60, Try.ntmps60
    go_wp2
    go_ret
    exact ⟨rfl, rfl⟩
  · rw [if_neg h]
    go_enter Try.func60, Try.ntmps60
    go_wp2
    go_ret
    exact ⟨rfl, rfl⟩

-- toIntS: a copy
set_option maxRecDepth 100000 in
set_option maxHeartbeats 400000 in
theorem toIntS_any (ao : Option Addr) (c : Nat) (xs : List Int) (w : World) (hn : xs.length ≤ 1048576) (hx : IntsAt w ao xs) :
    Calls Try.prog 52 #[.slice ao xs.length c] w fun e w' => ∃ v, e = .returned v ∧ OwnI w' w.heap.size v xs ∧ Below w.heap.size w w' := by
  obtain ⟨i0, hi, hz0, hz1, hz2⟩ := info_parts Try.info_int
  have hmx : xs.length ≤ 9223372036854775807 := by omega
  go_enter Try.func52, Try.ntmps52
  go_wp2_with (at_make; refine wpList_make_full _ rfl _ _ 42 rfl w.heap.size 3 i0 (.int .i64 0) 1 Try.underlying42 hi hz0 hz1 _ _ _ _ xs.length rfl rfl rfl rfl ?c1 ?c2 ?c3 ?_)
  case c1 => rw [hz2]; omega
  case c2 => unfold maxLen; omega
  case c3 => simp
  intro w1 hown hg
  have hb1 : Below w.heap.size w w1 := (Below.refl _ _).grown hg (Nat.le_refl _) (fun _ h => by cases h)
  have hx1 := hx.below hb1
  have hown1 := OwnI.made hown
  clear hown hg
  go_wp2
  go_loopw [4] (fun i wr => ∃ (k : Nat) (ys : List Int), k ≤ xs.length ∧ i = .int .i64 k ∧ OwnI wr w.heap.size (.slice (some ⟨w.heap.size, 0, none⟩) xs.length xs.length) ys ∧ (∀ j, j < k → gi ys j = gi xs j) ∧ Below w.heap.size w wr)
    (fun i _ => xs.length - (intOf i).toNat)
  case atStart => exact ⟨0, _, Nat.zero_le _, rfl, hown1, fun j hj => absurd hj (by omega), hb1⟩
  case round =>
    obtain ⟨k, ys, hk, rfl, hown, heq, hbr⟩ := hrel
    clear hx1 hown1 hb1
    by_cases hlt : k < xs.length
    · obtain ⟨b, o, rfl, hc⟩ := hx.below hbr k hlt
      have hd := hown.cellAt k hlt
      have hf := hown.frozenAt k
      have Hst := Lib.hid (hown.store k (gi xs k))
      have Hl := Lib.hid hown.len
      have Heq := Lib.hid heq
      have Hbs := Lib.hid (hbr.setCell (p := ⟨w.heap.size, k, none⟩) (Nat.le_refl _) (.int .i64 (gi xs k)))
      clear heq hown hx
      go_wp2
      go_roundw
      case rel =>
        refine ⟨k + 1, _, by omega, by go_num, Hst.out, fun j hj => ?_, Hbs.out⟩
        rw [gi_set (by rw [Hl.out]; exact hlt)]
        split
        · next e => rw [e]
        · exact Heq.out j (by omega)
      case measure => simp [intOf]; omega
    · obtain rfl : k = xs.length := by omega
      go_wp2
      go_ret
      obtain rfl : ys = xs := ext_gi hown.len (fun j hj => heq j (by rw [hown.len] at hj; exact hj))
      exact ⟨_, rfl, hown, hbr⟩

-- toIntSS: a copy, row by row
set_option maxRecDepth 100000 in
set_option maxHeartbeats 400000 in
theorem toIntSS_any (ao : Option Addr) (c : Nat) (m : List (List Int)) (w : World) (hs : Small m) (hm : MatAt w ao m) :
    Calls Try.prog 20 #[.slice ao m.length c] w fun e w' => ∃ v, e = .returned v ∧ OwnM w' w.heap.size v m ∧ Below w.heap.size w w' := by
  obtain ⟨i0, hi, hz0, hz1, hz2⟩ := info_parts Try.info_ints
  obtain ⟨hn, hrow⟩ := hs
  have hmx : m.length ≤ 9223372036854775807 := by omega
  go_enter Try.func20, Try.ntmps20
  go_wp2_with (at_make; refine wpList_make_full _ rfl _ _ 22 rfl w.heap.size 42 i0 (.slice none 0 0) 1 Try.underlying22 hi hz0 hz1 _ _ _ _ m.length rfl rfl rfl rfl ?c1 ?c2 ?c3 ?_)
  case c1 => rw [hz2]; omega
  case c2 => unfold maxLen; omega
  case c3 => simp
  intro w1 hown hg
  have hb1 : Below w.heap.size w w1 := (Below.refl _ _).grown hg (Nat.le_refl _) (fun _ h => by cases h)
  have hown1 := OwnP.made (m := m) hown
  clear hown hg
  go_wp2
  go_loopw [4] (fun i wr => ∃ (k : Nat) (vs : List Value), k ≤ m.length ∧ i = .int .i64 k ∧ OwnP wr w.heap.size (.slice (some ⟨w.heap.size, 0, none⟩) m.length m.length) m.length m k vs ∧ Below w.heap.size w wr)
    (fun i _ => m.length - (intOf i).toNat)
  case atStart => exact ⟨0, _, Nat.zero_le _, rfl, hown1, hb1⟩
  case round =>
    obtain ⟨k, vs, hk, rfl, hown, hbr⟩ := hrel
    clear hown1 hb1
    by_cases hlt : k < m.length
    · obtain ⟨b, o, r, c', rfl, hc, hr, hc1, hc2⟩ := hm.below hbr k hlt
      have hrl := hrow k hlt
      have hB := hbr.size
      obtain ⟨cur, hcur⟩ := ownsRow_block hown.top
      have hgl := lt_of_block hcur
      have Hown := Lib.hid hown
      have Hcur := Lib.hid hcur
      have Hm := Lib.hid hm
      have Hrow := Lib.hid hrow
      clear hown hm hrow hcur
      go_wp2_with fail
      refine (toIntS_any r c' (gr m k) wr hrl hr).mono ?_
      rintro e w2 ⟨v, rfl, hv, hb2⟩
      have hown2 := Hown.out.below hb2
      have hd := hown2.cellAt k hlt
      have hf : w2.frozen? ⟨w.heap.size, k, none⟩ = false := World.ownsRow.frozenAt hown2.top k
      have Hput := Lib.hid (hown2.put hlt (hv.base hB) (Hown.out.fresh hv (Nat.le_refl _)))
      have Hbs := Lib.hid ((hbr.trans (hb2.mono hB)).setCell (p := ⟨w.heap.size, k, none⟩) (Nat.le_refl _) v)
      obtain ⟨rv, cv, rfl, _, _, _⟩ := hv.read
      clear hown2 hv hb2
      go_wp2
      go_roundw
      case rel => exact ⟨k + 1, _, by omega, by go_num, Hput.out, Hbs.out⟩
      case measure => simp [intOf]; omega
    · obtain rfl : k = m.length := by omega
      go_wp2
      go_ret
      exact ⟨_, rfl, ⟨_, hown⟩, hbr⟩
end Go.Proofs.Ytfempacfaeknpaa

namespace Go.Proofs.Ytfempacfaeknpaa
open Go.RowKit

-- eqIntS at equal lists
set_option maxRecDepth 100000 in
set_option maxHeartbeats 400000 in
theorem eqIntS_same (a1 a2 : Option Addr) (c1 c2 : Nat) (xs : List Int) (w : World) (hn : xs.length ≤ 1048576) (h1 : IntsAt w a1 xs) (h2 : IntsAt w a2 xs) :
    Calls Try.prog 46 #[.slice a1 xs.length c1, .slice a2 xs.length c2] w fun e w' => e = .returned (.bool true) ∧ Q w w' := by
  have hmx : xs.length ≤ 9223372036854775807 := by omega
  go_enter Try.func46, Try.ntmps46
  go_wp2
  go_loopw [5] (fun i wr => ∃ k : Nat, k ≤ xs.length ∧ i = .int .i64 k ∧ Q w wr) (fun i _ => xs.length - (intOf i).toNat)
  case atStart => exact ⟨0, Nat.zero_le _, rfl, Q.refl _⟩
  case round =>
    obtain ⟨k, hk, rfl, hbr⟩ := hrel
    by_cases hlt : k < xs.length
    · obtain ⟨b1, o1, rfl, hc1⟩ := h1.below (hbr.below _) k hlt
      obtain ⟨b2, o2, rfl, hc2⟩ := h2.below (hbr.below _) k hlt
      clear h1 h2
      go_wp2
      go_quiet (fail)
      go_wp2
      go_roundw
      case rel => exact ⟨k + 1, by omega, by go_num, hbr.drewN _⟩
      case measure => simp [intOf]; omega
    · go_wp2
      go_ret
      exact ⟨rfl, hbr⟩

-- eqIntSS at equal lists
set_option maxRecDepth 100000 in
set_option maxHeartbeats 400000 in
theorem eqIntSS_same (a1 a2 : Option Addr) (c1 c2 : Nat) (m : List (List Int)) (w : World) (hs : Small m) (h1 : MatAt w a1 m) (h2 : MatAt w a2 m) :
    Calls Try.prog 22 #[.slice a1 m.length c1, .slice a2 m.length c2] w fun e w' => e = .returned (.bool true) ∧ Q w w' := by
  obtain ⟨hn, hrow⟩ := hs
  have hmx : m.length ≤ 9223372036854775807 := by omega
  go_enter Try.func22, Try.ntmps22
  go_wp2
  go_loopw [5] (fun i wr => ∃ k : Nat, k ≤ m.length ∧ i = .int .i64 k ∧ Q w wr) (fun i _ => m.length - (intOf i).toNat)
  case atStart => exact ⟨0, Nat.zero_le _, rfl, Q.refl _⟩
  case round =>
    obtain ⟨k, hk, rfl, hbr⟩ := hrel
    by_cases hlt : k < m.length
    · obtain ⟨b1, o1, r1, d1, rfl, hc1, hx1, _, _⟩ := h1.below (hbr.below _) k hlt
      obtain ⟨b2, o2, r2, d2, rfl, hc2, hx2, _, _⟩ := h2.below (hbr.below _) k hlt
      have hrk := hrow k hlt
      have Hx1 := Lib.hid hx1
      have Hx2 := Lib.hid hx2
      clear h1 h2 hx1 hx2 hrow
      go_wp2
      go_quiet ((go_at_call 46; exact Calls.quiet_of (eqIntS_same _ _ _ _ _ _ hrk Hx1.out Hx2.out)))
      go_wp2
      go_roundw
      case rel => exact ⟨k + 1, by omega, by go_num, hbr.drewN _⟩
      case measure => simp [intOf]; omega
    · go_wp2
      go_ret
      exact ⟨rfl, hbr⟩

/-- the numbers k, k + 1, .., n of them -/
def marks (k : Int) (n : Nat) : List Int := (List.range n).map fun i : Nat => k + (i : Int)
theorem marks_len (k : Int) (n : Nat) : (marks k n).length = n := by simp [marks]
theorem gi_marks {k : Int} {n i : Nat} (h : i < n) : gi (marks k n) i = k + i := by
  rw [gi_lt (by rw [marks_len]; exact h)]
  simp [marks]

-- heldIntS where the marks hold
set_option maxRecDepth 100000 in
set_option maxHeartbeats 400000 in
theorem heldIntS_yes (ao : Option Addr) (c : Nat) (n : Nat) (q : Int) (w : World) (hn : n ≤ 1048576) (hq0 : 0 ≤ q) (hq1 : q ≤ 4000000000000) (hx : IntsAt w ao (marks q n)) :
    Calls Try.prog 48 #[.slice ao n c, .int .i64 q] w fun e w' => e = .returned (.int .i64 (q + n)) ∧ Q w w' := by
  have hmx : n ≤ 9223372036854775807 := by omega
  go_enter Try.func48, Try.ntmps48
  go_wp2
  go_loopw [1, 5] (fun kk i wr => ∃ k : Nat, k ≤ n ∧ i = .int .i64 k ∧ kk = .int .i64 (q + k) ∧ Q w wr) (fun _ i _ => n - (intOf i).toNat)
  case atStart => exact ⟨0, Nat.zero_le _, rfl, by simp, Q.refl _⟩
  case round =>
    obtain ⟨k, hk, rfl, rfl, hbr⟩ := hrel
    by_cases hlt : k < n
    · obtain ⟨b1, o1, rfl, hc1⟩ := hx.below (hbr.below _) k (by rw [marks_len]; exact hlt)
      rw [gi_marks hlt] at hc1
      clear hx
      have hb : (q + (k : Int) == q + (k : Int)) = true := by simp
      go_wp2
      go_roundw
      case rel => exact ⟨k + 1, by omega, by go_num, by go_num, hbr⟩
      case measure => simp [intOf]; omega
    · obtain rfl : k = n := by omega
      go_wp2
      go_ret
      exact ⟨rfl, hbr⟩

/-- how many numbers the first k rows hold -/
def tot (m : List (List Int)) : Nat → Nat
  | 0 => 0
  | k + 1 => tot m k + (gr m k).length
theorem tot_le {m : List (List Int)} (hs : Small m) : ∀ k, k ≤ m.length → tot m k ≤ k * 1048576
  | 0, _ => Nat.le_of_eq (by simp [tot])
  | k + 1, h => by
    have h1 := tot_le hs k (by omega)
    have h2 := hs.2 k (by omega)
    simp only [tot]
    omega
theorem tot_big {m : List (List Int)} (hs : Small m) {k : Nat} (h : k ≤ m.length) : tot m k ≤ 1099511627776 := by
  have h1 := tot_le hs k h
  have h2 := hs.1
  have : k * 1048576 ≤ 1048576 * 1048576 := Nat.mul_le_mul_right _ (by omega)
  omega

def markM (q : Int) (m : List (List Int)) : List (List Int) := (List.range m.length).map fun i => marks (q + (tot m i : Int)) (gr m i).length
theorem markM_len (q : Int) (m : List (List Int)) : (markM q m).length = m.length := by simp [markM]
theorem gr_markM {q : Int} {m : List (List Int)} {i : Nat} (h : i < m.length) : gr (markM q m) i = marks (q + (tot m i : Int)) (gr m i).length := by
  rw [gr_lt (by rw [markM_len]; exact h)]
  simp [markM]

-- heldIntSS where the marks hold
set_option maxRecDepth 100000 in
set_option maxHeartbeats 400000 in
theorem heldIntSS_yes (ao : Option Addr) (c : Nat) (m : List (List Int)) (q : Int) (w : World) (hs : Small m) (hq0 : 0 ≤ q) (hq1 : q ≤ 2000000000000) (hx : MatAt w ao (markM q m)) :
    Calls Try.prog 43 #[.slice ao m.length c, .int .i64 q] w fun e w' => e = .returned (.int .i64 (q + tot m m.length)) ∧ Q w w' := by
  have hn := hs.1
  have hmx : m.length ≤ 9223372036854775807 := by omega
  go_enter Try.func43, Try.ntmps43
  go_wp2
  go_loopw [1, 5] (fun kk i wr => ∃ k : Nat, k ≤ m.length ∧ i = .int .i64 k ∧ kk = .int .i64 (q + tot m k) ∧ Q w wr) (fun _ i _ => m.length - (intOf i).toNat)
  case atStart => exact ⟨0, Nat.zero_le _, rfl, by simp [tot], Q.refl _⟩
  case round =>
    obtain ⟨k, hk, rfl, rfl, hbr⟩ := hrel
    by_cases hlt : k < m.length
    · obtain ⟨b1, o1, r1, d1, rfl, hc1, hr1, _, _⟩ := hx.below (hbr.below _) k (by rw [markM_len]; exact hlt)
      rw [gr_markM hlt, marks_len] at hc1
      rw [gr_markM hlt] at hr1
      have h2 := hs.2 k hlt
      have h3 := tot_big hs hk
      have Hs := Lib.hid hs
      clear hx hs
      go_wp2_with fail
      refine (heldIntS_yes r1 d1 (gr m k).length _ wr h2 (by omega) (by omega) hr1).mono ?_
      rintro e w2 ⟨rfl, hb2⟩
      have e1 : q + (tot m k : Int) + ((gr m k).length : Int) = q + (tot m (k + 1) : Int) := by simp only [tot]; omega
      have h4 := tot_big Hs.out (show k + 1 ≤ m.length by omega)
      rw [e1]
      clear e1
      go_wp2
      go_roundw
      case rel => exact ⟨k + 1, by omega, by go_num, rfl, hbr.trans hb2⟩
      case measure => simp [intOf]; omega
    · obtain rfl : k = m.length := by omega
      go_wp2
      go_ret
      exact ⟨rfl, hbr⟩

-- markIntS
set_option maxRecDepth 100000 in
set_option maxHeartbeats 400000 in
theorem markIntS_any (B : Nat) (ao : Option Addr) (c n : Nat) (q : Int) (xs : List Int) (w : World) (hn : n ≤ 1048576) (hq0 : 0 ≤ q) (hq1 : q ≤ 2000000000000) (hx : OwnI w B (.slice ao n c) xs) :
    Calls Try.prog 47 #[.slice ao n c, .int .i64 q] w fun e w' => e = .returned (.int .i64 (q + n)) ∧ OwnI w' B (.slice ao n c) (marks q n) ∧ OnlyW (fun g => (Value.slice ao n c).ownBlock = some g) w w' := by
  have hmx : n ≤ 9223372036854775807 := by omega
  have hxl := hx.len
  go_enter Try.func47, Try.ntmps47
  go_wp2
  go_loopw [1, 5] (fun kk i wr => ∃ (k : Nat) (ys : List Int), k ≤ n ∧ i = .int .i64 k ∧ kk = .int .i64 (q + k) ∧ OwnI wr B (.slice ao n c) ys ∧ (∀ j, j < k → gi ys j = q + j) ∧ OnlyW (fun g => (Value.slice ao n c).ownBlock = some g) w wr)
    (fun _ i _ => n - (intOf i).toNat)
  case atStart => exact ⟨0, xs, Nat.zero_le _, rfl, by simp, hx, fun j hj => absurd hj (by omega), OnlyW.refl _ _⟩
  case round =>
    obtain ⟨k, ys, hk, rfl, rfl, hown, heq, hbr⟩ := hrel
    by_cases hlt : k < n
    · obtain ⟨g, rfl, _, _⟩ := hown.isAt (by omega)
      have hd := hown.cellAt k hlt
      have hf := hown.frozenAt k
      have Hst := Lib.hid (hown.store k (q + k))
      have Hl := Lib.hid hown.len
      have Heq := Lib.hid heq
      have Hbs := Lib.hid (hbr.setCell (p := ⟨g, k, none⟩) rfl (.int .i64 (q + k)))
      clear heq hown hbr hx hxl
      go_wp2
      go_roundw
      case rel =>
        refine ⟨k + 1, _, by omega, by go_num, by go_num, Hst.out, fun j hj => ?_, Hbs.out⟩
        rw [gi_set (by rw [Hl.out]; exact hlt)]
        split
        · next e => rw [e]
        · exact Heq.out j (by omega)
      case measure => simp [intOf]; omega
    · obtain rfl : k = n := by omega
      go_wp2
      go_ret
      obtain rfl : ys = marks q k := ext_gi (by rw [hown.len, marks_len]) (fun j hj => by rw [hown.len] at hj; rw [heq j hj, gi_marks hj])
      exact ⟨rfl, hown, hbr⟩

theorem tot_congr {m m' : List (List Int)} {k : Nat} (h : ∀ i, i < k → (gr m i).length = (gr m' i).length) : tot m k = tot m' k := by
  induction k with
  | zero => rfl
  | succ k ih => simp only [tot]; rw [ih (fun i hi => h i (by omega)), h k (by omega)]

-- markIntSS
set_option maxRecDepth 100000 in
set_option maxHeartbeats 400000 in
theorem markIntSS_any (B : Nat) (ao : Option Addr) (c : Nat) (q : Int) (m : List (List Int)) (vs : List Value) (w : World) (hs : Small m) (hq0 : 0 ≤ q) (hq1 : q ≤ 10) (hx : OwnP w B (.slice ao m.length c) m.length m m.length vs) :
    Calls Try.prog 42 #[.slice ao m.length c, .int .i64 q] w fun e w' => e = .returned (.int .i64 (q + tot m m.length)) ∧ OwnP w' B (.slice ao m.length c) m.length (markM q m) m.length vs ∧
      OnlyW (fun g => ∃ i, i < m.length ∧ (vs.getD i undef).ownBlock = some g) w w' := by
  have hn := hs.1
  have hmx : m.length ≤ 9223372036854775807 := by omega
  go_enter Try.func42, Try.ntmps42
  go_wp2
  go_loopw [1, 5] (fun kk i wr => ∃ k : Nat, k ≤ m.length ∧ i = .int .i64 k ∧ kk = .int .i64 (q + tot m k) ∧ wr.ownsRow B 42 1 (.slice ao m.length c) m.length vs ∧
      (∀ i, i < k → OwnI wr B (vs.getD i undef) (gr (markM q m) i)) ∧ (∀ i, k ≤ i → i < m.length → OwnI wr B (vs.getD i undef) (gr m i)) ∧ OnlyW (fun g => ∃ i, i < m.length ∧ (vs.getD i undef).ownBlock = some g) w wr)
    (fun _ i _ => m.length - (intOf i).toNat)
  case atStart => exact ⟨0, Nat.zero_le _, rfl, by simp [tot], hx.top, fun i hi => absurd hi (by omega), fun i _ hi => hx.rows i hi, OnlyW.refl _ _⟩
  case round =>
    obtain ⟨k, hk, rfl, rfl, htop, hlo, hhi, hbr⟩ := hrel
    by_cases hlt : k < m.length
    · obtain ⟨ao', c', hv', _, _, hcells⟩ := ownsRow_read htop
      obtain ⟨rfl, -, rfl⟩ := (Value.slice.injEq _ _ _ _ _ _).mp hv'
      obtain ⟨b, o, rfl, hc⟩ := hcells k hlt
      have hrow := hhi k (Nat.le_refl _) hlt
      obtain ⟨r, d, hr, h3, h4, _⟩ := hrow.read
      have Hr := Lib.hid hr
      rw [hr] at hc hrow
      have h2 := hs.2 k hlt
      have h5 := tot_big hs hk
      have Hs := Lib.hid hs
      have Hx := Lib.hid hx
      have Htop := Lib.hid htop
      have Hlo := Lib.hid hlo
      have Hhi := Lib.hid hhi
      have Hrow := Lib.hid hrow
      clear hs hx htop hlo hhi hr hcells hv' hrow
      go_wp2_with fail
      refine (markIntS_any B r d (gr m k).length _ _ wr h2 (by omega) (by omega) Hrow.out).mono ?_
      rintro e w2 ⟨rfl, hv, hb2⟩
      have e1 : q + (tot m k : Int) + ((gr m k).length : Int) = q + (tot m (k + 1) : Int) := by simp only [tot]; omega
      have h6 := tot_big Hs.out (show k + 1 ≤ m.length by omega)
      rw [e1]
      rw [← Hr.out] at hv hb2
      have Hv := Lib.hid hv
      have Hb2 := Lib.hid hb2
      clear e1 hv hb2
      go_wp2
      go_roundw
      case rel =>
        have hb2 := Hb2.out
        refine ⟨k + 1, by omega, by go_num, rfl, ?_, fun i hi => ?_, fun i hi1 hi2 => ?_, hbr.trans (hb2.mono (fun g hg => ⟨k, hlt, hg⟩))⟩
        · exact ownsRow_only Htop.out hb2 (fun g hg hg' => (Hhi.out k (Nat.le_refl _) hlt).ne_row Htop.out g hg' hg)
        · by_cases e : i = k
          · subst e
            rw [gr_markM hlt]
            exact Hv.out
          · exact ownsRow_only (Hlo.out i (by omega)) hb2 (fun g hg hg' => Hx.out.apart i k (by omega) hlt g hg hg')
        · exact ownsRow_only (Hhi.out i (by omega) hi2) hb2 (fun g hg hg' => Hx.out.apart k i (by omega) hi2 g hg' hg)
      case measure => simp [intOf]; omega
    · obtain rfl : k = m.length := by omega
      go_wp2
      go_ret
      exact ⟨rfl, ⟨htop, hlo, hx.apart⟩, hbr⟩

-- szIntSS: where it lets a table through that is small
set_option maxRecDepth 100000 in
set_option maxHeartbeats 400000 in
theorem szIntSS_any (ao : Option Addr) (c : Nat) (m : List (List Int)) (left : Int) (w : World) (hn : m.length ≤ 9223372036854775807) (hrow : ∀ i, i < m.length → (gr m i).length ≤ 9223372036854775807) (h0 : 0 ≤ left) (h1 : left ≤ 1048576) (hm : MatAt w ao m) :
    Calls Try.prog 18 #[.slice ao m.length c, .int .i64 left] w fun e w' => ∃ r : Int, e = .returned (.int .i64 r) ∧ -1 ≤ r ∧ r ≤ 1048576 ∧ (0 ≤ r → Small m) ∧ w = w' := by
  by_cases hl : left - m.length < 0
  · go_enter Try.func18, Try.ntmps18
    go_wp2
    go_ret
    exact ⟨-1, rfl, by omega, by omega, fun h => absurd h (by omega), rfl⟩
  · go_enter Try.func18, Try.ntmps18
    go_wp2
    go_loopw [1, 5] (fun l i wr => ∃ (k : Nat) (r : Int), k ≤ m.length ∧ i = .int .i64 k ∧ l = .int .i64 r ∧ 0 ≤ r ∧ r ≤ 1048576 ∧ (∀ j, j < k → (gr m j).length ≤ 1048576) ∧ w = wr) (fun _ i _ => m.length - (intOf i).toNat)
    case atStart => exact ⟨0, _, Nat.zero_le _, rfl, rfl, by omega, by omega, fun j hj => absurd hj (by omega), rfl⟩
    case round =>
      obtain ⟨k, r, hk, rfl, rfl, hr0, hr1, hs, rfl⟩ := hrel
      by_cases hlt : k < m.length
      · obtain ⟨b1, o1, r1, d1, rfl, hc1, hx1, _, _⟩ := hm k hlt
        have hrk := hrow k hlt
        have Hs := Lib.hid hs
        clear hm hs hrow hx1
        by_cases hneg : r - (gr m k).length < 0
        · have e1 : szL r (gr m k).length = -1 := if_pos hneg
          have E1 := Lib.hid e1
          clear e1
          go_wp2_with fail
          refine (szIntS_any r1 (gr m k).length d1 r w hrk hr0 hr1).mono ?_
          rintro e w2 ⟨rfl, rfl⟩
          rw [E1.out]
          go_wp2
          go_ret
          exact ⟨-1, rfl, by omega, by omega, fun h => absurd h (by omega), rfl⟩
        · have e1 : szL r (gr m k).length = r - (gr m k).length := if_neg hneg
          have E1 := Lib.hid e1
          clear e1
          go_wp2_with fail
          refine (szIntS_any r1 (gr m k).length d1 r w hrk hr0 hr1).mono ?_
          rintro e w2 ⟨rfl, rfl⟩
          rw [E1.out]
          go_wp2
          go_roundw
          case rel =>
            refine ⟨k + 1, _, by omega, by go_num, rfl, by omega, by omega, fun j hj => ?_, by trivial⟩
            by_cases e : j = k
            · subst e; omega
            · exact Hs.out j (by omega)
          case measure => simp [intOf]; omega
      · obtain rfl : k = m.length := by omega
        go_wp2
        go_ret
        exact ⟨r, rfl, by omega, hr1, fun _ => ⟨by omega, hs⟩, rfl⟩
end Go.Proofs.Ytfempacfaeknpaa

namespace Go.Proofs.Ytfempacfaeknpaa

/-- the sum of the first k numbers -/
def sumK (xs : List Int) : Nat → Int
  | 0 => 0
  | k + 1 => sumK xs k + gi xs k

theorem sumK_congr {xs ys : List Int} {k : Nat} (h : ∀ i, i < k → gi xs i = gi ys i) : sumK xs k = sumK ys k := by
  induction k with
  | zero => rfl
  | succ k ih => simp only [sumK]; rw [ih (fun i hi => h i (by omega)), h k (by omega)]

/-- signs alternate, the sum is 1 -/
def lineOk (xs : List Int) : Prop := (∀ k, k ≤ xs.length → 0 ≤ sumK xs k ∧ sumK xs k ≤ 1) ∧ sumK xs xs.length = 1
def rowsOk (m : List (List Int)) : Prop := ∀ i, i < m.length → lineOk (gr m i)
def square (m : List (List Int)) : Prop := 1 ≤ m.length ∧ m.length ≤ 6 ∧ ∀ i, i < m.length → (gr m i).length = m.length

/-- a table given by its numbers -/
def tab (n c : Nat) (f : Nat → Nat → Int) : List (List Int) := (List.range n).map fun i => (List.range c).map fun j => f i j
theorem tab_len (n c : Nat) (f : Nat → Nat → Int) : (tab n c f).length = n := by simp [tab]
theorem gr_tab {n c : Nat} {f : Nat → Nat → Int} {i : Nat} (h : i < n) : gr (tab n c f) i = (List.range c).map fun j => f i j := by
  rw [gr_lt (by rw [tab_len]; exact h)]
  simp [tab]
theorem tab_row {n c : Nat} {f : Nat → Nat → Int} {i : Nat} (h : i < n) : (gr (tab n c f) i).length = c := by rw [gr_tab h]; simp
theorem gi_row {c : Nat} {g : Nat → Int} {j : Nat} (h : j < c) : gi ((List.range c).map g) j = g j := by
  rw [gi_lt (by simpa using h)]
  simp
theorem gi_tab {n c : Nat} {f : Nat → Nat → Int} {i j : Nat} (hi : i < n) (hj : j < c) : gi (gr (tab n c f) i) j = f i j := by rw [gr_tab hi, gi_row hj]

theorem zero_row {n c k : Nat} (h : k < n) : gr (tab n c fun _ _ => 0) k = List.replicate c 0 := by
  refine ext_gi (by rw [tab_row h, List.length_replicate]) fun j hj => ?_
  rw [tab_row h] at hj
  rw [gi_tab h hj, gi_lt (by simpa using hj)]
  simp

/-- a table that agrees with the function is that table -/
theorem eq_tab {m : List (List Int)} {n c : Nat} {f : Nat → Nat → Int} (h1 : m.length = n) (h2 : ∀ i, i < n → (gr m i).length = c) (h3 : ∀ i j, i < n → j < c → gi (gr m i) j = f i j) : m = tab n c f := by
  refine ext_gr (by rw [h1, tab_len]) fun i hi => ?_
  rw [h1] at hi
  refine ext_gi (by rw [h2 i hi, tab_row hi]) fun j hj => ?_
  rw [h2 i hi] at hj
  rw [h3 i j hi hj, gi_tab hi hj]

/-- rows and columns exchanged -/
def tr (m : List (List Int)) : List (List Int) := tab m.length m.length fun i j => gi (gr m j) i
def good (m : List (List Int)) : Prop := square m ∧ rowsOk m ∧ rowsOk (tr m)

theorem square.small {m : List (List Int)} (h : square m) : Small m := ⟨by have := h.2.1; omega, fun i hi => by rw [h.2.2 i hi]; have := h.2.1; omega⟩
theorem tr_len (m : List (List Int)) : (tr m).length = m.length := tab_len _ _ _
theorem tr_row {m : List (List Int)} {i : Nat} (h : i < m.length) : (gr (tr m) i).length = m.length := tab_row h
theorem gi_tr {m : List (List Int)} {i j : Nat} (hi : i < m.length) (hj : j < m.length) : gi (gr (tr m) i) j = gi (gr m j) i := gi_tab hi hj
theorem square.tr {m : List (List Int)} (h : square m) : square (tr m) := ⟨by rw [tr_len]; exact h.1, by rw [tr_len]; exact h.2.1, fun i hi => by rw [tr_len] at hi ⊢; exact tr_row hi⟩
theorem tr_tr {m : List (List Int)} (h : square m) : Go.Proofs.Ytfempacfaeknpaa.tr (Go.Proofs.Ytfempacfaeknpaa.tr m) = m := by
  refine ext_gr (by rw [tr_len, tr_len]) fun i hi => ?_
  rw [tr_len, tr_len] at hi
  have e : (gr (Go.Proofs.Ytfempacfaeknpaa.tr (Go.Proofs.Ytfempacfaeknpaa.tr m)) i).length = m.length := by rw [tr_row (by rw [tr_len]; exact hi), tr_len]
  refine ext_gi (by rw [e, h.2.2 i hi]) fun j hj => ?_
  rw [e] at hj
  rw [gi_tr (by rw [tr_len]; exact hi) (by rw [tr_len]; exact hj), gi_tr hj hi]

theorem cell_new (w : World) (cs : Array Value) (e : TypeId) (k : Nat) : (w.alloc (.cells cs e)).cell? ⟨w.heap.size, k, none⟩ = cs[k]? := by
  unfold World.cell?
  rw [heap_alloc_new]
  rfl

/-- a number of an owned grid: its row, its cell, a store into it -/
theorem OwnP.at2 {w : World} {B n c : Nat} {v : Value} {f : Nat → Nat → Int} {vs : List Value} (h : OwnP w B v n (tab n c f) n vs) {i j : Nat} (hi : i < n) (hj : j < c) :
    ∃ g cap, vs.getD i undef = .slice (some ⟨g, 0, none⟩) c cap ∧ w.cell? ⟨g, j, none⟩ = some (.int .i64 (f i j)) ∧ w.frozen? ⟨g, j, none⟩ = false ∧ B ≤ g ∧
      ∀ x, OwnP (w.setCell ⟨g, j, none⟩ (.int .i64 x)) B v n (tab n c fun a b => if a = i ∧ b = j then x else f a b) n vs := by
  have hrow := h.rows i hi
  obtain ⟨ao, cap, hv, _, _, _⟩ := hrow.read
  rw [tab_row hi] at hv
  have hrow' := hrow
  rw [hv] at hrow'
  obtain ⟨g, rfl, hg, _⟩ := hrow'.isAt (by omega)
  refine ⟨g, cap, hv, ?_, hrow'.frozenAt j, hg, fun x => ⟨?_, fun a ha => ?_, h.apart⟩⟩
  · rw [hrow'.cellAt j hj, gi_tab hi hj]
  · exact Go.ownsRow_setCell_other h.top (fun e => hrow.ne_row h.top g (by rw [hv]; rfl) e) _
  · by_cases e : a = i
    · subst e
      have := hrow'.store j x
      rw [hv]
      have e2 : gr (tab n c fun a' b => if a' = a ∧ b = j then x else f a' b) a = (gr (tab n c f) a).set j x := by
        refine ext_gi (by rw [tab_row hi, List.length_set, tab_row hi]) fun b hb => ?_
        rw [tab_row hi] at hb
        rw [gi_tab hi hb, gi_set (by rw [tab_row hi]; exact hj), gi_tab hi hb]
        by_cases e3 : b = j <;> simp [e3]
      rw [e2]
      exact this
    · have e2 : gr (tab n c fun a' b => if a' = i ∧ b = j then x else f a' b) a = gr (tab n c f) a := by
        refine ext_gi (by rw [tab_row ha, tab_row ha]) fun b hb => ?_
        rw [tab_row ha] at hb
        rw [gi_tab ha hb, gi_tab ha hb, if_neg (fun h => e h.1)]
      rw [e2]
      refine (h.rows a ha).setOther (fun hg' => ?_) _
      rcases Nat.lt_or_gt_of_ne e with hlt | hlt
      · exact h.apart a i hlt hi g hg' (by rw [hv]; rfl)
      · exact h.apart i a hlt ha g (by rw [hv]; rfl) hg'
end Go.Proofs.Ytfempacfaeknpaa

namespace Go.Proofs.Ytfempacfaeknpaa
open Go.RowKit

set_option maxRecDepth 100000 in
set_option maxHeartbeats 400000 in
theorem l1In_any (n lo hi : Int) (w : World) :
    Calls Try.prog 61 #[.int .i64 n, .int .i64 lo, .int .i64 hi] w fun e w' => Ans (lo ≤ n ∧ n ≤ hi) e ∧ w = w' := by
  by_cases h1 : lo ≤ n
  · by_cases h2 : n ≤ hi
    · go_enter Try.func61, Try.ntmps61
      go_wp2
      go_ret
      exact ⟨Ans.yes ⟨h1, h2⟩, rfl⟩
    · go_enter Try.func61, Try.ntmps61
      go_wp2
      go_ret
      exact ⟨Ans.no (fun h => by omega), rfl⟩
  · go_enter Try.func61, Try.ntmps61
    go_wp2
    go_ret
    exact ⟨Ans.no (fun h => by omega), rfl⟩

end Go.Proofs.Ytfempacfaeknpaa

namespace Go.Proofs.Ytfempacfaeknpaa
open Go.RowKit

/-- the first t numbers of column k -/
def colTo (m : List (List Int)) (k t : Nat) : List Int := (List.range t).map fun i => gi (gr m i) k
theorem colTo_succ (m : List (List Int)) (k t : Nat) : colTo m k (t + 1) = colTo m k t ++ [gi (gr m t) k] := by simp [colTo, List.range_succ]
theorem colTo_len (m : List (List Int)) (k t : Nat) : (colTo m k t).length = t := by simp [colTo]
theorem colTo_tr {m : List (List Int)} {k : Nat} (hk : k < m.length) : colTo m k m.length = gr (tr m) k := by unfold tr; rw [gr_tab hk]; rfl

end Go.Proofs.Ytfempacfaeknpaa

namespace Go.Proofs.Ytfempacfaeknpaa
open Go.RowKit

/-- every row has this many columns -/
def wideAll (m : List (List Int)) (c : Nat) : Prop := ∀ i, i < m.length → (gr m i).length = c

set_option maxRecDepth 100000 in
set_option maxHeartbeats 400000 in
theorem newTable_any (n c : Nat) (w : World) (hn : n ≤ 1048576) (hcn : c ≤ 1048576) :
    Calls Try.prog 104 #[.int .i64 (n : Int), .int .i64 (c : Int)] w fun e w' => ∃ vs, e = .returned (.slice (some ⟨w.heap.size, 0, none⟩) n n) ∧ OwnP w' w.heap.size (.slice (some ⟨w.heap.size, 0, none⟩) n n) n (tab n c fun _ _ => 0) n vs ∧ Below w.heap.size w w' := by
  obtain ⟨i0, hi, hz0, hz1, hz2⟩ := info_parts Try.info_int
  obtain ⟨j0, hj, hy0, hy1, hy2⟩ := info_parts Try.info_ints
  have hmx : n ≤ 9223372036854775807 := by omega
  go_enter Try.func104, Try.ntmps104
  go_wp2_with (at_make; refine wpList_make_full _ rfl _ _ 22 rfl w.heap.size 42 j0 (.slice none 0 0) 1 Try.underlying22 hj hy0 hy1 _ _ _ _ n rfl rfl rfl rfl ?c1 ?c2 ?c3 ?_)
  case c1 => rw [hy2]; omega
  case c2 => unfold maxLen; omega
  case c3 => simp
  intro w1 hown hg
  have hb1 : Below w.heap.size w w1 := (Below.refl _ _).grown hg (Nat.le_refl _) (fun _ h => by cases h)
  have hown1 := OwnP.made (m := tab n c fun _ _ => 0) hown
  clear hown hg
  go_wp2
  go_loopw [11] (fun i wr => ∃ (k : Nat) (vs : List Value), k ≤ n ∧ i = .int .i64 k ∧ OwnP wr w.heap.size (.slice (some ⟨w.heap.size, 0, none⟩) n n) n (tab n c fun _ _ => 0) k vs ∧ Below w.heap.size w wr)
    (fun i _ => n - (intOf i).toNat)
  case atStart => exact ⟨0, _, Nat.zero_le _, rfl, hown1, hb1⟩
  case round =>
    obtain ⟨k, vs, hk, rfl, hown, hbr⟩ := hrel
    clear hown1 hb1
    by_cases hlt : k < n
    · have hB := hbr.size
      have Hown := Lib.hid hown
      have Hbr := Lib.hid hbr
      clear hown hbr
      go_wp2_with (at_make; refine wpList_make_full _ rfl _ _ 42 rfl wr.heap.size 3 i0 (.int .i64 0) 1 Try.underlying42 hi hz0 hz1 _ _ _ _ c rfl rfl rfl rfl ?d1 ?d2 ?d3 ?_)
      case d1 => rw [hz2]; omega
      case d2 => unfold maxLen; omega
      case d3 => simp
      intro w2 hown2 hg2
      have hb2 : Below wr.heap.size wr w2 := (Below.refl _ _).grown hg2 (Nat.le_refl _) (fun _ h => by cases h)
      have hrow := OwnI.made hown2
      have hpos := Hown.out.below hb2
      have hd := hpos.cellAt k hlt
      have hf : w2.frozen? ⟨w.heap.size, k, none⟩ = false := World.ownsRow.frozenAt hpos.top k
      have e1 : gr (tab n c fun _ _ => (0 : Int)) k = List.replicate c 0 := zero_row hlt
      have hput := hpos.put hlt (v := .slice (some ⟨wr.heap.size, 0, none⟩) c c) (by rw [e1]; exact hrow.base hB) (Hown.out.fresh hrow (Nat.le_refl _))
      have Hput := Lib.hid hput
      have Hbs := Lib.hid ((Hbr.out.trans (hb2.mono hB)).setCell (p := ⟨w.heap.size, k, none⟩) (Nat.le_refl _) (.slice (some ⟨wr.heap.size, 0, none⟩) c c))
      clear hown2 hg2 hb2 hrow hpos e1 hput
      go_wp2
      go_roundw
      case rel => exact ⟨k + 1, _, by omega, by go_num, Hput.out, Hbs.out⟩
      case measure => simp [intOf]; omega
    · obtain rfl : k = n := by omega
      go_wp2
      go_ret
      exact ⟨vs, rfl, hown, hbr⟩

set_option maxRecDepth 100000 in
set_option maxHeartbeats 400000 in
theorem newGrid_any (n : Nat) (w : World) (hn : n ≤ 1048576) :
    Calls Try.prog 74 #[.int .i64 (n : Int)] w fun e w' => ∃ vs, e = .returned (.slice (some ⟨w.heap.size, 0, none⟩) n n) ∧ OwnP w' w.heap.size (.slice (some ⟨w.heap.size, 0, none⟩) n n) n (tab n n fun _ _ => 0) n vs ∧ Below w.heap.size w w' := by
  go_enter Try.func74, Try.ntmps74
  go_wp2_with fail
  refine (newTable_any n n w hn hn).mono ?_
  rintro e w1 ⟨vs, rfl, hv, hb⟩
  have Hv := Lib.hid hv
  have Hb := Lib.hid hb
  clear hv hb
  go_wp2
  go_ret
  exact ⟨vs, rfl, Hv.out, Hb.out⟩

end Go.Proofs.Ytfempacfaeknpaa

namespace Go.Proofs.Ytfempacfaeknpaa
open Go.RowKit

theorem wrap_neg {s x : Int} (h : s + x = 9223372036854775808) : wrap64 (s + x) < 0 := by
  rw [h]
  unfold wrap64
  omega

/-- the table itself, then the one with rows and columns exchanged -/
def selM (m : List (List Int)) (k : Nat) : List (List Int) := if k = 0 then m else tr m

theorem wf_tr {m : List (List Int)} (h : square m) (hw : WfM m) : WfM (tr m) := by
  intro i hi
  rw [tr_len] at hi
  intro j hj
  rw [tr_row hi] at hj
  rw [gi_tr hi hj]
  exact hw j hj i (by rw [h.2.2 j hj]; exact hi)

end Go.Proofs.Ytfempacfaeknpaa

