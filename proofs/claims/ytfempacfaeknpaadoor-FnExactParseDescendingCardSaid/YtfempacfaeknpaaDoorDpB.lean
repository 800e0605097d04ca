/- Contract: the limits of the row below a row, by the program. Conditions: a row with parts of at least 1. -/
import Derived.Test.YtfempacfaeknpaaDoorDpA
namespace Go.Proofs.YtfempacfaeknpaaDoor
open Go.RowKit

/-- the first k limits stand, the others are 0 yet -/
def limMid (row : List Int) (k : Nat) : List Int := (List.range (row.length - 1)).map fun i => if i < k then min (row.length : Int) (gi row (i + 1) - 1) else 0
theorem limMid_len (row : List Int) (k : Nat) : (limMid row k).length = row.length - 1 := by simp [limMid]
theorem gi_limMid {row : List Int} {k i : Nat} (h : i < row.length - 1) : gi (limMid row k) i = if i < k then min (row.length : Int) (gi row (i + 1) - 1) else 0 := by
  rw [gi_lt (by rw [limMid_len]; exact h)]
  simp [limMid]
theorem limMid_end (row : List Int) : limMid row (row.length - 1) = limB row := ext_gi (by rw [limMid_len, limB_len]) fun i hi => by
  rw [limMid_len] at hi
  rw [gi_limMid hi, gi_limB hi, if_pos hi]
theorem limMid_set {row : List Int} {k : Nat} (h : k < row.length - 1) : (limMid row k).set k (min (row.length : Int) (gi row (k + 1) - 1)) = limMid row (k + 1) := ext_gi (by simp [limMid_len]) fun i hi => by
  rw [List.length_set, limMid_len] at hi
  rw [gi_set (by rw [limMid_len]; exact h), gi_limMid hi, gi_limMid hi]
  by_cases e : i = k
  · subst e; rw [if_pos rfl, if_pos (by omega)]
  · rw [if_neg e]
    by_cases e2 : i < k
    · rw [if_pos e2, if_pos (by omega)]
    · rw [if_neg e2, if_neg (by omega)]
theorem limMid_zero (row : List Int) : limMid row 0 = List.replicate (row.length - 1) 0 := ext_gi (by simp [limMid_len]) fun i hi => by
  rw [limMid_len] at hi
  rw [gi_limMid hi, if_neg (by omega), gi_lt (by simpa using hi)]
  simp

theorem min_if (a b : Int) : min a b = if b < a then b else a := by split <;> omega

set_option maxRecDepth 100000 in
set_option maxHeartbeats 1600000 in
theorem limitsBelow_any (ao : Option Addr) (c : Nat) (row : List Int) (w : World) (h1 : 1 ≤ row.length) (hr : row.length ≤ 1048576) (hbd : ∀ i, i < row.length → 1 ≤ gi row i ∧ gi row i ≤ 9223372036854775807) (hx : IntsAt w ao row) :
    Calls Tryd.prog 30 #[.slice ao row.length c] w fun e w' => ∃ v, e = .returned v ∧ OwnI w' w.heap.size v (limB row) ∧ Below w.heap.size w w' := by
  obtain ⟨i0, hi, hz0, hz1, hz2⟩ := info_parts Tryd.info_int
  have hmx : row.length ≤ 9223372036854775807 := by omega
  have Hx := Lib.hid hx
  have Hbd := Lib.hid hbd
  obtain ⟨n, hn⟩ : ∃ n, n = row.length - 1 := ⟨_, rfl⟩
  have hw : IntKind.i64.wrap ((row.length : Int) - 1) = (n : Int) := by rw [w64 (by omega)]; omega
  have Hn := Lib.hid hn
  have hnm : n ≤ 9223372036854775807 := by omega
  have hnm2 : n ≤ 1048576 := by omega
  clear hx hbd hn
  go_enter Tryd.func30, Tryd.ntmps30
  go_wp2_with (at_make; refine wpList_make_full _ rfl _ _ 49 rfl w.heap.size 3 i0 (.int .i64 0) 1 Tryd.underlying49 hi hz0 hz1 _ _ _ _ n rfl rfl rfl rfl ?c1 ?c2 ?c3 ?_)
  case c1 => rw [hz2]; omega
  case c2 => unfold maxLen; omega
  case c3 => simp
  intro w1 hown hgr
  have hb1 : Below w.heap.size w w1 := (Below.refl _ _).grown hgr (Nat.le_refl _) (fun _ h => by cases h)
  have hsum := OwnI.made hown
  have e0 : limMid row 0 = List.replicate n 0 := by rw [limMid_zero, Hn.out]
  rw [← e0] at hsum
  have Hsum := Lib.hid hsum
  have Hb1 := Lib.hid hb1
  clear hown hgr hb1 hsum e0
  go_wp2
  go_loopw [11] (fun i wr => ∃ k : Nat, k ≤ n ∧ i = .int .i64 k ∧ OwnI wr w.heap.size (.slice (some ⟨w.heap.size, 0, none⟩) n n) (limMid row k) ∧ Below w.heap.size w wr) (fun i _ => n - (intOf i).toNat)
  case atStart => exact ⟨0, Nat.zero_le _, rfl, Hsum.out, Hb1.out⟩
  case round =>
    obtain ⟨k, hk, rfl, hown, hbr⟩ := hrel
    clear Hsum Hb1
    by_cases hlt : k < n
    · obtain ⟨q, hq⟩ : ∃ q, q = k + 1 := ⟨_, rfl⟩
      have hw2 : IntKind.i64.wrap ((k : Int) + 1) = (q : Int) := by rw [w64 (by omega)]; omega
      have hql : q < row.length := by have := Hn.out; omega
      obtain ⟨b2, o2, rfl, hc2⟩ := (Hx.out.below hbr) q hql
      have hb := Hbd.out q hql
      have hset := limMid_set (row := row) (k := k) (by rw [← Hn.out]; exact hlt)
      rw [← hq, min_if] at hset
      have hcs := hown.cellAt k hlt
      have hfs := hown.frozenAt k
      have hst := hown.store k (if gi row q - 1 < (row.length : Int) then gi row q - 1 else (row.length : Int))
      rw [hset] at hst
      have Hst := Lib.hid hst
      have Hbs := Lib.hid (hbr.setCell (p := ⟨w.heap.size, k, none⟩) (Nat.le_refl _) (.int .i64 (if gi row q - 1 < (row.length : Int) then gi row q - 1 else (row.length : Int))))
      have Hq := Lib.hid hq
      have hwx : IntKind.i64.wrap (gi row q - 1) = gi row q - 1 := w64 (by omega)
      clear hown hbr hset hst hq
      go_wp2
      go_roundw
      case rel => exact ⟨q, by have := Hq.out; omega, rfl, Hst.out, Hbs.out⟩
      case measure => have := Hq.out; simp [intOf]; omega
    · obtain rfl : k = n := by omega
      have hfin : OwnI wr w.heap.size (.slice (some ⟨w.heap.size, 0, none⟩) k k) (limB row) := by
        have := limMid_end row
        rw [← Hn.out] at this
        rw [← this]; exact hown
      have Hfin := Lib.hid hfin
      have Hbr := Lib.hid hbr
      clear hown hbr hfin
      go_wp2
      go_ret
      exact ⟨_, rfl, Hfin.out, Hbr.out⟩
end Go.Proofs.YtfempacfaeknpaaDoor
