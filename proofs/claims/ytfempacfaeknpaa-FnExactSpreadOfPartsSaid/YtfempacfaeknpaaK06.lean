/- Parts of proofs: contracts and plain facts. Conditions: as each says. -/
import Derived.Test.YtfempacfaeknpaaK05
import Derived.Laws.CopyOwn
namespace Go.Proofs.Ytfempacfaeknpaa
open Go.RowKit

/-- the first k limits stand, the others are 0 yet -/
def limMid (row : List Int) (k : Nat) : List Int := (List.range (row.length - 1)).map fun i => if i < k then min (row.length : Int) (gi row (i + 1) - 1) else 0
theorem limMid_len (row : List Int) (k : Nat) : (limMid row k).length = row.length - 1 := by simp [limMid]
theorem gi_limMid {row : List Int} {k i : Nat} (h : i < row.length - 1) : gi (limMid row k) i = if i < k then min (row.length : Int) (gi row (i + 1) - 1) else 0 := by
  rw [gi_lt (by rw [limMid_len]; exact h)]
  simp [limMid]
theorem limMid_end (row : List Int) : limMid row (row.length - 1) = limB row := ext_gi (by rw [limMid_len, limB_len]) fun i hi => by
  rw [limMid_len] at hi
  rw [gi_limMid hi, gi_limB hi, if_pos hi]
theorem limMid_set {row : List Int} {k : Nat} (h : k < row.length - 1) : (limMid row k).set k (min (row.length : Int) (gi row (k + 1) - 1)) = limMid row (k + 1) := ext_gi (by simp [limMid_len]) fun i hi => by
  rw [List.length_set, limMid_len] at hi
  rw [gi_set (by rw [limMid_len]; exact h), gi_limMid hi, gi_limMid hi]
  by_cases e : i = k
  · subst e; rw [if_pos rfl, if_pos (by omega)]
  · rw [if_neg e]
    by_cases e2 : i < k
    · rw [if_pos e2, if_pos (by omega)]
    · rw [if_neg e2, if_neg (by omega)]
theorem limMid_zero (row : List Int) : limMid row 0 = List.replicate (row.length - 1) 0 := ext_gi (by simp [limMid_len]) fun i hi => by
  rw [limMid_len] at hi
  rw [gi_limMid hi, if_neg (by omega), gi_lt (by simpa using hi)]
  simp

theorem min_if (a b : Int) : min a b = if b < a then b else a := by split <;> omega

set_option maxRecDepth 100000 in
set_option maxHeartbeats 1600000 in
theorem limitsBelow_any (ao : Option Addr) (c : Nat) (row : List Int) (w : World) (h1 : 1 ≤ row.length) (hr : row.length ≤ 1048576) (hbd : ∀ i, i < row.length → 1 ≤ gi row i ∧ gi row i ≤ 9223372036854775807) (hx : IntsAt w ao row) :
    Calls Try.prog 92 #[.slice ao row.length c] w fun e w' => ∃ v, e = .returned v ∧ OwnI w' w.heap.size v (limB row) ∧ Below w.heap.size w w' := by
  obtain ⟨i0, hi, hz0, hz1, hz2⟩ := info_parts Try.info_int
  have hmx : row.length ≤ 9223372036854775807 := by omega
  have Hx := Lib.hid hx
  have Hbd := Lib.hid hbd
  obtain ⟨n, hn⟩ : ∃ n, n = row.length - 1 := ⟨_, rfl⟩
  have hw : IntKind.i64.wrap ((row.length : Int) - 1) = (n : Int) := by rw [w64 (by omega)]; omega
  have Hn := Lib.hid hn
  have hnm : n ≤ 9223372036854775807 := by omega
  have hnm2 : n ≤ 1048576 := by omega
  clear hx hbd hn
  go_enter Try.func92, Try.ntmps92
  go_wp2_with (at_make; refine wpList_make_full _ rfl _ _ 61 rfl w.heap.size 3 i0 (.int .i64 0) 1 Try.underlying61 hi hz0 hz1 _ _ _ _ n rfl rfl rfl rfl ?c1 ?c2 ?c3 ?_)
  case c1 => rw [hz2]; omega
  case c2 => unfold maxLen; omega
  case c3 => simp
  intro w1 hown hgr
  have hb1 : Below w.heap.size w w1 := (Below.refl _ _).grown hgr (Nat.le_refl _) (fun _ h => by cases h)
  have hsum := OwnI.made hown
  have e0 : limMid row 0 = List.replicate n 0 := by rw [limMid_zero, Hn.out]
  rw [← e0] at hsum
  have Hsum := Lib.hid hsum
  have Hb1 := Lib.hid hb1
  clear hown hgr hb1 hsum e0
  go_wp2
  go_loopw [11] (fun i wr => ∃ k : Nat, k ≤ n ∧ i = .int .i64 k ∧ OwnI wr w.heap.size (.slice (some ⟨w.heap.size, 0, none⟩) n n) (limMid row k) ∧ Below w.heap.size w wr) (fun i _ => n - (intOf i).toNat)
  case atStart => exact ⟨0, Nat.zero_le _, rfl, Hsum.out, Hb1.out⟩
  case round =>
    obtain ⟨k, hk, rfl, hown, hbr⟩ := hrel
    clear Hsum Hb1
    by_cases hlt : k < n
    · obtain ⟨q, hq⟩ : ∃ q, q = k + 1 := ⟨_, rfl⟩
      have hw2 : IntKind.i64.wrap ((k : Int) + 1) = (q : Int) := by rw [w64 (by omega)]; omega
      have hql : q < row.length := by have := Hn.out; omega
      obtain ⟨b2, o2, rfl, hc2⟩ := (Hx.out.below hbr) q hql
      have hb := Hbd.out q hql
      have hset := limMid_set (row := row) (k := k) (by rw [← Hn.out]; exact hlt)
      rw [← hq, min_if] at hset
      have hcs := hown.cellAt k hlt
      have hfs := hown.frozenAt k
      have hst := hown.store k (if gi row q - 1 < (row.length : Int) then gi row q - 1 else (row.length : Int))
      rw [hset] at hst
      have Hst := Lib.hid hst
      have Hbs := Lib.hid (hbr.setCell (p := ⟨w.heap.size, k, none⟩) (Nat.le_refl _) (.int .i64 (if gi row q - 1 < (row.length : Int) then gi row q - 1 else (row.length : Int))))
      have Hq := Lib.hid hq
      have hwx : IntKind.i64.wrap (gi row q - 1) = gi row q - 1 := w64 (by omega)
      clear hown hbr hset hst hq
      go_wp2
      go_roundw
      case rel => exact ⟨q, by have := Hq.out; omega, rfl, Hst.out, Hbs.out⟩
      case measure => have := Hq.out; simp [intOf]; omega
    · obtain rfl : k = n := by omega
      have hfin : OwnI wr w.heap.size (.slice (some ⟨w.heap.size, 0, none⟩) k k) (limB row) := by
        have := limMid_end row
        rw [← Hn.out] at this
        rw [← this]; exact hown
      have Hfin := Lib.hid hfin
      have Hbr := Lib.hid hbr
      clear hown hbr hfin
      go_wp2
      go_ret
      exact ⟨_, rfl, Hfin.out, Hbr.out⟩
end Go.Proofs.Ytfempacfaeknpaa

namespace Go.Proofs.Ytfempacfaeknpaa
open Go.RowKit

set_option maxRecDepth 100000 in
set_option maxHeartbeats 1600000 in
theorem mul64_any (n : Nat) (w : World) (hn : n ≤ 5) :
    Calls Try.prog 141 #[.int .u64 1, .int .u64 n] w fun e w' => e = .returned (.tuple #[.int .u64 0, .int .u64 n]) ∧ w' = w := by
  have : n = 0 ∨ n = 1 ∨ n = 2 ∨ n = 3 ∨ n = 4 ∨ n = 5 := by omega
  rcases this with rfl | rfl | rfl | rfl | rfl | rfl <;>
  · go_enter Try.func141, Try.ntmps141
    go_wp2
    go_ret2
    exact ⟨rfl, rfl⟩

set_option maxRecDepth 100000 in
set_option maxHeartbeats 1600000 in
theorem mul_any (n : Nat) (w : World) (hn : n ≤ 5) :
    Calls Try.prog 129 #[.int .u64 1, .int .u64 n] w fun e w' => e = .returned (.tuple #[.int .u64 0, .int .u64 n]) ∧ w' = w := by
  have C := Lib.hid (mul64_any n w hn)
  have hn2 : (n : Int) ≤ 5 := by omega
  go_enter Try.func129, Try.ntmps129
  go_wp2_with fail
  refine C.out.mono ?_
  rintro e w2 ⟨rfl, rfl⟩
  go_wp2
  go_ret2
  exact ⟨rfl, rfl⟩

/-- a slice of n cells of which the first k hold x -/
def repC (x : Int) (n k : Nat) : Array Value := (List.replicate k (Value.int .i64 x) ++ List.replicate (n - k) (Value.int .i64 0)).toArray
theorem repC_size {x : Int} {n k : Nat} (h : k ≤ n) : (repC x n k).size = n := by simp [repC]; omega
theorem repC_get {x : Int} {n k i : Nat} (h : i < k) : (repC x n k)[i]? = some (.int .i64 x) := by
  simp only [repC, List.getElem?_toArray]
  rw [List.getElem?_append_left (by simpa using h)]
  simp [h]
theorem repC_put {x : Int} {n k j : Nat} (h : k + j ≤ n) : ((repC x n k).toList.take k ++ (List.replicate j (Value.int .i64 x) ++ (repC x n k).toList.drop (k + j))).toArray = repC x n (k + j) := by
  unfold repC
  congr 1
  simp only []
  rw [List.take_left' (by simp), List.drop_append, List.length_replicate, List.drop_eq_nil_of_le (by simp), List.nil_append, ← List.append_assoc, List.replicate_append_replicate, List.drop_replicate]
  congr 2
  omega
theorem own_cells {w : World} {B g n : Nat} {e : TypeId} {xs : List Value} (h : w.ownsRow B e 1 (.slice (some ⟨g, 0, none⟩) n n) n xs) : w.heap[g]? = some (.cells xs.toArray e (0, 0)) := by
  rcases h.2 with ⟨h0, _⟩ | ⟨g', cap, cur, hv, _, hh, _, _, hcs, htk⟩
  · simp at h0
  · simp only [Value.slice.injEq, Option.some.injEq, Addr.mk.injEq, and_true] at hv
    obtain ⟨rfl, -, rfl⟩ := hv
    rw [hh]
    congr 2
    rw [← htk, List.take_of_length_le (by rw [Array.length_toList, hcs]; exact Nat.le_refl _)]
theorem cells_own {w : World} {B g n : Nat} {e : TypeId} {xs : List Value} (hB : B ≤ g) (hn : n ≤ 9223372036854775807) (hl : xs.length = n) (h : w.heap[g]? = some (.cells xs.toArray e (0, 0))) : w.ownsRow B e 1 (.slice (some ⟨g, 0, none⟩) n n) n xs :=
  ⟨by simp [hl], .inr ⟨g, n, _, rfl, hB, h, Nat.le_refl _, hn, by simp [hl], by simp [← hl]⟩⟩
theorem Try.size_one_int : (Try.prog.info? 3).map (·.size) = some 1 := by kernel_rfl

set_option maxRecDepth 100000 in
set_option maxHeartbeats 3200000 in
theorem repeat_any (x : Int) (b : Nat) (n : Nat) (w : World) (hn : n ≤ 5) (hb : w.cell? ⟨b, 0, none⟩ = some (.int .i64 x)) :
    Calls Try.prog 100 #[.slice (some ⟨b, 0, none⟩) 1 1, .int .i64 n] w fun e w' => ∃ v, e = .returned v ∧ OwnI w' w.heap.size v (List.replicate n x) ∧ Below w.heap.size w w' := by
  obtain ⟨i0, hi, hz0, hz1, hz2⟩ := info_parts Try.info_int
  have hn2 : (n : Int) ≤ 5 := by omega
  have hn3 : n ≤ 9223372036854775807 := by omega
  have Hb := Lib.hid hb
  clear hb
  go_enter Try.func100, Try.ntmps100
  go_wp2_with fail
  refine (mul_any n w hn).mono ?_
  rintro e w2 ⟨rfl, rfl⟩
  go_wp2_with (at_make; refine wpList_make_full _ rfl _ _ 61 rfl w2.heap.size 3 i0 (.int .i64 0) 1 Try.underlying61 hi hz0 hz1 _ _ _ _ n rfl rfl rfl rfl ?c1 ?c2 ?c3 ?_)
  case c1 => rw [hz2]; omega
  case c2 => unfold maxLen; omega
  case c3 => simp
  intro w3 hown hgr
  have hb3 : Below w2.heap.size w2 w3 := (Below.refl _ _).grown hgr (Nat.le_refl _) (fun _ h => by cases h)
  have hh : w3.heap[w2.heap.size]? = some (.cells (repC x n 0) 3 (0, 0)) := by
    have := own_cells hown
    rw [this, toList_madeCells_one]
    simp [repC]
  have Hb3 := Lib.hid hb3
  have HH := Lib.hid hh
  have Hb0 := Lib.hid (cell_below Hb.out hb3)
  have Hf := Lib.hid (show ∀ j u, (List.replicate (min 1 n) (Value.int .i64 x))[j]? = some u → w3.cell? ((⟨b, 0, none⟩ : Addr).add j) = some u from by
    intro j u hu
    rw [List.getElem?_replicate] at hu
    split at hu
    · have : j = 0 := by omega
      subst this
      rw [← Option.some.inj hu]
      exact Hb0.out
    · cases hu)
  have Hp := Lib.hid (repC_put (x := x) (n := n) (k := 0) (j := min 1 n) (by omega))
  have Hl1 := Lib.hid (show (List.replicate (min 1 n) (Value.int .i64 x)).length = Nat.min 1 n by simp)
  clear hown hgr hb3 hh
  go_wp2_with ((with_reducible refine wpList_copy_own (o := ⟨some 33, _, _, _, _, _⟩) ?gA1 (.tmp 31) (.tmp 32) 61 61 ?gA2 3 Try.underlying61 Try.size_one_int w2.heap.size 0 n n ⟨b, 0, none⟩ 1 1 ?gA4 ?gA5 (repC x n 0) 3 HH.out (List.replicate (min 1 n) (Value.int .i64 x)) Hl1.out Hf.out ?gA6 ?gA7 ?_))
  case gA1 => rfl
  case gA2 => rfl
  case gA4 => rfl
  case gA5 => rfl
  case gA6 => rw [repC_size (by omega)]; simp; omega
  case gA7 =>
    intro u hu
    obtain ⟨_, rfl⟩ := List.mem_replicate.1 hu
    rfl
  have Hp' := Hp.out
  simp only [Nat.zero_add, List.take_zero, List.nil_append] at Hp'
  rw [Hp']
  obtain ⟨q, hq⟩ : ∃ q, q = min 1 n := ⟨_, rfl⟩
  rw [← hq]
  generalize hW : w3.setRow w2.heap.size (repC x n q) = w4
  have HC := Lib.hid (show w4.heap[w2.heap.size]? = some (.cells (repC x n q) 3 (0, 0)) by rw [← hW]; exact setRow_heap _ _ _ _ _ _ HH.out)
  have HB := Lib.hid (show Below w2.heap.size w2 w4 by rw [← hW]; exact below_setRow Hb3.out (Nat.le_refl _) _)
  have Hq := Lib.hid (show q ≤ n ∧ (n = 0 ∨ 1 ≤ q) by omega)
  clear hW Hp Hp' Hl1 Hf HH Hb3 hq Hb Hb0
  obtain ⟨H, hH⟩ : ∃ H, H = w2.heap.size := ⟨_, rfl⟩
  rw [← hH] at HC ⊢
  have HHH := Lib.hid hH
  clear hH
  go_loopw [8] (fun i wr => ∃ k : Nat, k ≤ n ∧ (n = 0 ∨ 1 ≤ k) ∧ i = .int .i64 k ∧ wr.heap[H]? = some (.cells (repC x n k) 3 (0, 0)) ∧ Below w2.heap.size w2 wr) (fun i _ => n - (intOf i).toNat)
  case atStart => exact ⟨q, Hq.out.1, Hq.out.2, rfl, HC.out, HB.out⟩
  case round =>
    obtain ⟨k, hk, hk1, rfl, hc, hb⟩ := hrel
    have HC2 := Lib.hid hc
    have HB2 := Lib.hid hb
    clear hc hb HC HB
    by_cases hlt : k < n
    · obtain ⟨j, hj⟩ : ∃ j, j = min k (n - k) := ⟨_, rfl⟩
      have hjk : k + j ≤ n := by omega
      have Hj := Lib.hid (show 1 ≤ j ∧ j = Nat.min k (n - k) from ⟨by omega, hj⟩)
      have Hp := Lib.hid (repC_put (x := x) (n := n) (k := k) (j := j) hjk)
      have hlt2 : k ≤ n := hk
      have Hf := Lib.hid (show ∀ ww : World, ww.heap[H]? = some (.cells (repC x n k) 3 (0, 0)) → ∀ i u, (List.replicate j (Value.int .i64 x))[i]? = some u → ww.cell? ((⟨H, 0, none⟩ : Addr).add i) = some u from by
        intro ww hww i u hu
        rw [List.getElem?_replicate] at hu
        split at hu
        · next hi =>
          rw [Addr.add_lit, Nat.zero_add, cell_of_row _ _ _ _ _ _ hww, repC_get (by omega)]
          exact hu
        · cases hu)
      have hjs : IntKind.i64.wrap ((k : Int) + (j : Int)) = ((k + j : Nat) : Int) := by rw [w64 (by omega)]; omega
      have HL := Lib.hid (show (List.replicate j (Value.int .i64 x)).length = Nat.min k (n - k) by rw [List.length_replicate]; exact hj)
      clear hj hk1 hk
      have hcp := run_copy_row (P := Try.prog) wr.drew 61 61 3 3 H k (n - k) (n - k) ⟨H, 0, none⟩ k n (repC x n k) 3 (List.replicate j (Value.int .i64 x)) Try.underlying61 Try.size_one_int HC2.out HL.out (Hf.out _ HC2.out) (by rw [repC_size hlt2]; simp; omega) (fun u hu => by obtain ⟨_, rfl⟩ := List.mem_replicate.1 hu; rfl)
      rw [List.length_replicate, List.append_assoc, Hp.out] at hcp
      generalize hW : wr.drew.setRow H (repC x n (k + j)) = w5 at hcp
      have HC5 := Lib.hid (show w5.heap[H]? = some (.cells (repC x n (k + j)) 3 (0, 0)) by rw [← hW]; exact setRow_heap _ _ _ _ _ _ HC2.out)
      have HB5 := Lib.hid (show Below w2.heap.size w2 w5 by rw [← hW]; exact below_setRow (below_drewN HB2.out 1) (by rw [HHH.out]; exact Nat.le_refl _) _)
      clear hW Hp Hf HL HC2 HB2
      go_wp2_with fail
      go_region
      go_wp2
      go_roundw
      case rel => exact ⟨k + j, hjk, by have := Hj.out; omega, rfl, HC5.out, HB5.out⟩
      case measure => have := Hj.out; simp [intOf]; omega
    · obtain rfl : k = n := by omega
      have Hfin := Lib.hid (show OwnI wr w2.heap.size (.slice (some ⟨H, 0, none⟩) k k) (List.replicate k x) by
        unfold OwnI
        rw [List.length_replicate, List.map_replicate]
        refine cells_own (by rw [HHH.out]; exact Nat.le_refl _) (by omega) (by simp) ?_
        rw [HC2.out]
        simp [repC])
      go_wp2
      go_ret
      exact ⟨_, rfl, Hfin.out, HB2.out⟩
end Go.Proofs.Ytfempacfaeknpaa

namespace Go.Proofs.Ytfempacfaeknpaa
open Go.RowKit

set_option maxRecDepth 100000 in
set_option maxHeartbeats 800000 in
theorem firstLimits_any (n : Nat) (w : World) (h1 : 1 ≤ n) (h6 : n ≤ 6) :
    Calls Try.prog 69 #[.int .i64 n] w fun e w' => ∃ v, e = .returned v ∧ OwnI w' w.heap.size v (lim1 n) ∧ Below w.heap.size w w' := by
  obtain ⟨k, hk⟩ : ∃ k, k = n - 1 := ⟨_, rfl⟩
  have hw : IntKind.i64.wrap ((n : Int) - 1) = (k : Int) := by rw [w64 (by omega)]; omega
  have hl : lim1 n = List.replicate k (n : Int) := by rw [hk]; rfl
  have hk5 : k ≤ 5 := by omega
  have C := Lib.hid (fun (w : World) h => repeat_any (n : Int) w.heap.size k (w.alloc (.cells #[.int .i64 n] 3)) hk5 h)
  have hc : ∀ w : World, (w.alloc (.cells #[.int .i64 n] 3)).cell? ⟨w.heap.size, 0, none⟩ = some (.int .i64 n) := fun w => by
    rw [cell_of_row _ _ 0 _ _ _ (heap_alloc_new w _)]; rfl
  have Hc := Lib.hid (hc w)
  have Hl := Lib.hid hl
  have Hb := Lib.hid (show Below w.heap.size w (w.alloc (.cells #[.int .i64 n] 3)) from (Below.refl _ _).alloc (Nat.le_refl _) _)
  have Hsz := Lib.hid (show (w.alloc (.cells #[.int .i64 n] 3)).heap.size = w.heap.size + 1 by simp)
  clear hl hc hk
  go_enter Try.func69, Try.ntmps69
  go_wp2_with fail
  refine (C.out w Hc.out).mono ?_
  rintro e w2 ⟨v, rfl, hv, hb⟩
  rw [Hsz.out] at hv hb
  have Hv := Lib.hid (hv.base (Nat.le_succ w.heap.size))
  have Hb2 := Lib.hid (Hb.out.trans (hb.mono (Nat.le_succ _)))
  clear hv hb
  go_wp2
  go_ret
  exact ⟨_, rfl, by rw [Hl.out]; exact Hv.out, Hb2.out⟩

theorem limAt_len {n : Nat} (hn : n ≤ 6) {rows : List (List Int)} (hs : Small rows) {k : Nat} (hk : k ≤ rows.length) : (limAt n rows k).length ≤ 1048576 := by
  unfold limAt
  by_cases e : k = 0
  · rw [if_pos e, lim1_len]; omega
  · rw [if_neg e, limB_len]
    have := hs.2 (k - 1) (by omega)
    omega
theorem limAt_succ (n : Nat) (rows : List (List Int)) (k : Nat) : limAt n rows (k + 1) = limB (gr rows k) := by
  unfold limAt
  rw [if_neg (Nat.succ_ne_zero k), Nat.add_sub_cancel]

set_option maxRecDepth 100000 in
set_option maxHeartbeats 1600000 in
theorem isDescending_any (ao : Option Addr) (c : Nat) (rows : List (List Int)) (n : Nat) (w : World) (h1 : 1 ≤ n) (h6 : n ≤ 6) (hs : Small rows) (hwf : WfM rows) (hm : MatAt w ao rows) :
    Calls Try.prog 64 #[.agg (ptA (.slice ao rows.length c) n)] w fun e w' => Ans (DpGood rows n) e ∧ Below w.heap.size w w' := by
  have hl := hs.1
  have hmx : rows.length ≤ 9223372036854775807 := by omega
  have Hm := Lib.hid hm
  have Hs := Lib.hid hs
  have Hwf := Lib.hid hwf
  have HG := Lib.hid (good_chain h1 rows)
  clear hm hs hwf
  go_enter Try.func64, Try.ntmps64
  go_upto_region 1 with (refine wpList_boxT rfl 58 _ rfl _ rfl ?_)
  generalize hW : World.alloc w _ = w1
  have hP : PtAt w1 w.heap.size (.slice ao rows.length c) n := by rw [← hW]; exact PtAt.new _ _ _
  have HB := Lib.hid (show Below w.heap.size w w1 by rw [← hW]; exact (Below.refl _ w).alloc (Nat.le_refl _) _)
  have hc1 := hP.c1
  have HP := Lib.hid hP
  clear hW hP
  go_wp2_with fail
  refine (firstLimits_any n w1 h1 h6).mono ?_
  rintro e w2 ⟨v, rfl, hv, hb⟩
  obtain ⟨la, lc, rfl, _, _, hI⟩ := hv.read
  have HI := Lib.hid hI
  have HB2 := Lib.hid (HB.out.trans (hb.mono HB.out.size))
  have hc0 := (HP.out.below hb).c0
  clear hc1 HP hv hb hI HB
  go_wp2
  clear hc0
  go_loopw [3, 12] (fun l i wr => ∃ (k : Nat) (a : Option Addr) (c : Nat), k ≤ rows.length ∧ i = .int .i64 k ∧ l = .slice a (limAt n rows k).length c ∧ IntsAt wr a (limAt n rows k) ∧ ChainTo n rows k ∧ Below w.heap.size w wr) (fun _ i _ => rows.length - (intOf i).toNat)
  case atStart => exact ⟨0, la, lc, Nat.zero_le _, rfl, rfl, HI.out, fun j hj => absurd hj (by omega), HB2.out⟩
  case round =>
    obtain ⟨k, a, c', hk, rfl, rfl, hi, hch, hbr⟩ := hrel
    have HI2 := Lib.hid hi
    have HC := Lib.hid hch
    have HB3 := Lib.hid hbr
    have hll := limAt_len h6 Hs.out hk
    clear hi hch hbr HI HB2
    by_cases hlt : k < rows.length
    · obtain ⟨b1, o1, r1, d1, rfl, hcr, hr1, _, _⟩ := (Hm.out.below HB3.out) k hlt
      have Hr1 := Lib.hid hr1
      have hlk := Hs.out.2 k hlt
      clear hr1
      go_wp2_with fail
      refine (allow_any a r1 c' d1 (limAt n rows k) (gr rows k) wr hll hlk HI2.out Hr1.out).mono ?_
      rintro e w3 ⟨ha, rfl⟩
      by_cases q : Allow (limAt n rows k) (gr rows k)
      · have Hq := Lib.hid q
        clear q
        obtain rfl := ha.is Hq.out
        clear ha
        have Hbd := Lib.hid (show ∀ i, i < (gr rows k).length → 1 ≤ gi (gr rows k) i ∧ gi (gr rows k) i ≤ 9223372036854775807 from fun i hi => ⟨(Hq.out.2.2.2 i hi).1, (Hwf.out k hlt i hi).2⟩)
        go_wp2_with fail
        refine (limitsBelow_any r1 d1 (gr rows k) wr Hq.out.1 hlk Hbd.out Hr1.out).mono ?_
        rintro e w4 ⟨v, rfl, hv, hb⟩
        rw [← limAt_succ n rows k] at hv
        obtain ⟨la2, lc2, rfl, _, _, hI⟩ := hv.read
        have HI4 := Lib.hid hI
        have HB4 := Lib.hid (HB3.out.trans (hb.mono HB3.out.size))
        clear hv hb hI HI2 HB3
        go_wp2
        go_roundw
        case rel =>
          refine ⟨k + 1, la2, lc2, by omega, by go_num, rfl, HI4.out, fun j hj => ?_, HB4.out⟩
          by_cases e : j = k
          · subst e; exact Hq.out
          · exact HC.out j (by omega)
        case measure => simp [intOf]; omega
      · have Hn := Lib.hid (show ¬ DpGood rows n from fun h => q (HG.out.1 h k hlt))
        have Hq := Lib.hid q
        clear q
        obtain rfl := ha.isnt Hq.out
        clear ha
        go_wp2
        go_ret
        exact ⟨Ans.no Hn.out, HB3.out⟩
    · obtain rfl : k = rows.length := by omega
      have Hy := Lib.hid (HG.out.2 HC.out)
      go_wp2
      go_ret
      exact ⟨Ans.yes Hy.out, HB3.out⟩
end Go.Proofs.Ytfempacfaeknpaa

namespace Go.Proofs.Ytfempacfaeknpaa
open Go.RowKit

/-- how many rows there are at most -/
def boundL : Nat → Nat
  | 0 => 0
  | f + 1 => 6 * (1 + boundL f)
theorem longTo_len {l : List Int} {go : List Int → List (List Int)} {B : Nat} (h : ∀ b, (go b).length ≤ B) (b : List Int) : ∀ k, (longTo l go b k).length ≤ k * (1 + B)
  | 0 => by simp [longTo]
  | k + 1 => by
    rw [longTo_succ, List.length_append, Nat.succ_mul]
    have ih := longTo_len (l := l) h b k
    have : (longStep l go b k).length ≤ 1 + B := by
      unfold longStep
      split
      · have := h (b ++ [(k : Int) + 1])
        simp only [List.length_cons]
        omega
      · simp
    omega
theorem longL_len {l : List Int} (hl : ∀ i, gi l i ≤ 6) : ∀ f b, (longL l f b).length ≤ boundL f
  | 0, b => by simp [longL, boundL]
  | f + 1, b => by
    unfold longL boundL
    have h1 := longTo_len (l := l) (longL_len hl f) b (gi l b.length).toNat
    have h2 := hl b.length
    have : (gi l b.length).toNat * (1 + boundL f) ≤ 6 * (1 + boundL f) := Nat.mul_le_mul_right _ (by omega)
    omega
theorem boundL_le {f : Nat} (h : f ≤ 5) : boundL f ≤ 9330 := by
  have : f = 0 ∨ f = 1 ∨ f = 2 ∨ f = 3 ∨ f = 4 ∨ f = 5 := by omega
  rcases this with rfl | rfl | rfl | rfl | rfl | rfl <;> decide

set_option maxRecDepth 100000 in
set_option maxHeartbeats 3200000 in
theorem longer_any (l : List Int) (hl6 : ∀ i, gi l i ≤ 6) : ∀ (f : Nat), f ≤ 5 → ∀ (a1 a2 : Option Addr) (c1 c2 : Nat) (b : List Int) (w : World), b.length + f = l.length → l.length ≤ 5 → IntsAt w a1 l → IntsAt w a2 b →
    Calls Try.prog 120 #[.slice a1 l.length c1, .slice a2 b.length c2] w fun e w' => ∃ v vs, e = .returned v ∧ OwnT w' w.heap.size v (longL l f b) vs ∧ Below w.heap.size w w' := by
  intro f
  induction f with
  | zero =>
    intro _ a1 a2 c1 c2 b w hb hl h1 h2
    have hd : ((b.length : Int) == (l.length : Int)) = true := by simp; omega
    have hmx : l.length ≤ 9223372036854775807 := by omega
    have hmx2 : b.length ≤ 9223372036854775807 := by omega
    clear h1 h2
    go_enter Try.func120, Try.ntmps120
    go_wp2
    go_ret
    exact ⟨_, _, rfl, OwnT.nil _ _, Below.refl _ _⟩
  | succ f ih =>
    intro hf a1 a2 c1 c2 b w hb hl h1 h2
    have hd : ((b.length : Int) == (l.length : Int)) = false := beq_eq_false_iff_ne.2 (by omega)
    have hmx : l.length ≤ 9223372036854775807 := by omega
    have hmx2 : b.length ≤ 9223372036854775807 := by omega
    have hbl : b.length < l.length := by omega
    have H1 := Lib.hid h1
    have H2 := Lib.hid h2
    have IH := Lib.hid (ih (by omega))
    have HL := Lib.hid hb
    have Hlen := Lib.hid (longTo_len (l := l) (longL_len hl6 f) b)
    have Hbd := Lib.hid (boundL_le (f := f) (by omega))
    have h6 := hl6 b.length
    obtain ⟨top, htop⟩ : ∃ top, top = gi l b.length := ⟨_, rfl⟩
    have hE : longL l (f + 1) b = longTo l (longL l f) b top.toNat := by rw [htop]; rfl
    rw [hE]
    rw [← htop] at h6
    have Htop := Lib.hid htop
    clear h1 h2 ih hb hE htop
    go_enter Try.func120, Try.ntmps120
    go_wp2
    go_loopw [5, 6] (fun rows part wr => ∃ (k : Nat) (vs : List Value), k ≤ top.toNat ∧ part = .int .i64 ((k : Int) + 1) ∧ OwnT wr w.heap.size rows (longTo l (longL l f) b k) vs ∧ Below w.heap.size w wr) (fun _ i _ => 7 - (intOf i).toNat)
    case atStart => exact ⟨0, [], Nat.zero_le _, rfl, OwnT.nil _ _, Below.refl _ _⟩
    case round =>
      obtain ⟨k, vs, hk, rfl, hown, hbr⟩ := hrel
      have Hown := Lib.hid hown
      have Hbr := Lib.hid hbr
      have HBr := Lib.hid hbr.size
      obtain ⟨b1, o1, e1, hc1⟩ := (H1.out.below hbr) b.length hbl
      rw [← Htop.out] at hc1
      subst e1
      clear hown hbr
      obtain ⟨q, hq⟩ : ∃ q : Int, q = (k : Int) + 1 := ⟨_, rfl⟩
      rw [← hq]
      by_cases hlt : q ≤ top
      · have hd2 : decide (q ≤ top) = true := decide_eq_true hlt
        have hwq : IntKind.i64.wrap (q + 1) = q + 1 := w64 (by omega)
        have Hst := Lib.hid (longTo_succ l (longL l f) b k)
        have Hq := Lib.hid (show q = (k : Int) + 1 ∧ k + 1 ≤ top.toNat by omega)
        have hll := Hlen.out k
        have Hkb := Lib.hid (show (longTo l (longL l f) b k).length ≤ 60000 by
          have := Hbd.out
          have h2 : k * (1 + boundL f) ≤ 6 * (1 + boundL f) := Nat.mul_le_mul_right _ (by omega)
          omega)
        unfold longStep at Hst
        rw [← hq] at Hst
        obtain ⟨M, hM⟩ : ∃ M, M = longTo l (longL l f) b k := ⟨_, rfl⟩
        rw [← hM] at Hown Hst Hkb
        clear hq hk hll hM hlt
        go_wp2_with fail
        refine (sClone_any a2 c2 b wr (by omega) (H2.out.below Hbr.out)).mono ?_
        rintro e w2 ⟨cv, rfl, hv, hb2⟩
        have HV := Lib.hid hv
        have Hb2 := Lib.hid hb2
        clear hv hb2
        go_wp2_with (at_builtin; refine wpList_numT rfl _ _ rfl wr.heap.size _ _ q HV.out rfl rfl Hb2.out.size (by omega) ?_)
        intro rv w3 hrow hb3
        obtain ⟨ra, rc, hrv, hrc1, hrc2, hri⟩ := hrow.read
        have HR := Lib.hid hrow
        have HRI := Lib.hid hri
        obtain ⟨row, hrw⟩ : ∃ row, row = b ++ [q] := ⟨_, rfl⟩
        have hrl : row.length = b.length + 1 := by rw [hrw]; simp
        rw [← hrw] at HR HRI Hst hrv
        have Hb3 := Lib.hid (Hb2.out.trans hb3)
        obtain ⟨rl, hrl2⟩ : ∃ rl, rl = row.length := ⟨_, rfl⟩
        rw [← hrl2] at hrv
        have Hrl := Lib.hid (And.intro hrl hrl2)
        have hrlm : rl ≤ 9223372036854775807 := by omega
        subst hrv
        have CA := Lib.hid (allow_any (some ⟨b1, o1, none⟩) ra c1 rc l row w3 (by omega) (by omega) (H1.out.below (Hbr.out.trans (Hb3.out.mono HBr.out))) HRI.out)
        rw [← hrl2] at CA
        clear hrow hb3 hri hrw hrl hrl2 HV Hb2 hrc1 hrc2
        go_wp2_with fail
        refine CA.out.mono ?_
        rintro e w4 ⟨ha, rfl⟩
        have Hown3 := Lib.hid (Hown.out.below Hb3.out)
        have HB3 := Lib.hid (Hbr.out.trans (Hb3.out.mono HBr.out))
        have Hold3 := Lib.hid (show ∀ i, i < M.length → ∀ g, (vs.getD i undef).ownBlock = some g → (Value.slice ra rl rc).ownBlock ≠ some g from fun i hi g hg hg2 => by
          have h1 := (Hown.out.old i hi g hg).2
          have h2 := (HR.out.lt g hg2).1
          omega)
        by_cases hal : Allow l row
        · rw [if_pos hal] at Hst
          have Hal := Lib.hid hal
          obtain rfl := ha.is hal
          clear ha hal CA Hown Hbr
          go_wp2_with (at_builtin; refine wpList_rowT rfl _ _ rfl w.heap.size _ (.slice ra rl rc) M vs row Hown3.out (HR.out.base HBr.out) rfl rfl Hold3.out HB3.out.size (by have := Hkb.out; omega) ?_)
          intro v5 w5 hown5 hrow5 hb5
          obtain ⟨M2, hM2⟩ : ∃ M2, M2 = M ++ [row] := ⟨_, rfl⟩
          rw [← hM2] at hown5
          have HM2 := Lib.hid hM2
          clear hM2
          have Hown5 := Lib.hid hown5
          have HR5 := Lib.hid (own_at (show OwnI w5 w.heap.size (.slice ra rl rc) row from hrow5))
          have HB5 := Lib.hid (HB3.out.trans hb5)
          obtain ⟨va, vc, hva, _, _, _⟩ := hown5.read
          subst hva
          have CL := Lib.hid (IH.out (some ⟨b1, o1, none⟩) ra c1 rc row w5 (by have := HL.out; have := Hrl.out; omega) hl (H1.out.below HB5.out) HR5.out)
          rw [← Hrl.out.2] at CL
          clear hown5 hrow5 hb5 Hold3 Hown3 HR HRI Hb3
          go_wp2_with fail
          refine CL.out.mono ?_
          rintro e w6 ⟨sv, us, rfl, hsub, hb6⟩
          have Hown6 := Lib.hid (Hown5.out.below hb6)
          have Hold6 := Lib.hid (fun i hi g hg => (Hown5.out.old i hi g hg).2)
          have Hsub := Lib.hid hsub
          have HB6 := Lib.hid (HB5.out.trans (hb6.mono HB5.out.size))
          have HS5 := Lib.hid HB5.out.size
          have Hsl := Lib.hid (longL_len hl6 f row)
          obtain ⟨sa, sc, hsv, _, _, _⟩ := hsub.read
          obtain ⟨K, hK⟩ : ∃ K, K = longL l f row := ⟨_, rfl⟩
          rw [← hK] at Hsub Hst Hsl hsv
          have Hlen6 := Lib.hid (show M2.length + K.length ≤ 1048576 by
            rw [HM2.out, List.length_append, List.length_singleton]
            have := Hkb.out
            have := Hsl.out
            have := Hbd.out
            omega)
          subst hsv
          clear hsub hb6 hK CL
          go_wp2_with (at_builtin; refine wpList_rowsT rfl _ _ rfl w.heap.size w5.heap.size _ _ M2 K _ us Hown6.out Hsub.out rfl rfl HS5.out Hold6.out HB6.out.size Hlen6.out ?_)
          intro v7 w7 hown7 hb7
          rw [HM2.out, List.append_assoc, List.singleton_append, ← Hst.out] at hown7
          have Hown7 := Lib.hid hown7
          have HB7 := Lib.hid (HB6.out.trans hb7)
          clear hown7 hb7
          go_wp2
          go_roundw
          case rel => exact ⟨k + 1, _, Hq.out.2, by have := Hq.out.1; rw [this]; rfl, Hown7.out, HB7.out⟩
          case measure => have := Hq.out; simp [intOf]; omega
        · rw [if_neg hal, List.append_nil] at Hst
          obtain rfl := ha.isnt hal
          clear ha hal CA
          go_wp2
          go_roundw
          case rel => exact ⟨k + 1, vs, Hq.out.2, by have := Hq.out.1; rw [this]; rfl, by rw [Hst.out]; exact Hown3.out, HB3.out⟩
          case measure => have := Hq.out; simp [intOf]; omega
      · have hd2 : decide (q ≤ top) = false := decide_eq_false hlt
        have Hk := Lib.hid (show k = top.toNat by omega)
        clear hlt hq hk
        go_wp2
        go_ret
        exact ⟨_, vs, rfl, by rw [← Hk.out]; exact Hown.out, Hbr.out⟩
end Go.Proofs.Ytfempacfaeknpaa

namespace Go.Proofs.Ytfempacfaeknpaa
open Go.RowKit

theorem OwnI.nil_of {w : World} {B n c : Nat} {ao : Option Addr} {xs : List Int} (h : OwnI w B (.slice ao n c) xs) : ao = none → c = 0 ∧ xs = [] := by
  rintro rfl
  rcases h.2 with ⟨h0, h1⟩ | ⟨g, cap, cur, hv, _⟩
  · simp only [Value.slice.injEq] at h0
    exact ⟨h0.2.2, List.eq_nil_of_length_eq_zero h1⟩
  · simp at hv
/-- a slice that reads as a table -/
def ReadsT (w : World) (v : Value) (m : List (List Int)) : Prop := ∃ ao c, v = .slice ao m.length c ∧ m.length ≤ c ∧ c ≤ 9223372036854775807 ∧ MatAt w ao m
theorem ReadsT.read {w : World} {v : Value} {m : List (List Int)} (h : ReadsT w v m) : ∃ ao c, v = .slice ao m.length c ∧ m.length ≤ c ∧ c ≤ 9223372036854775807 ∧ MatAt w ao m := h
theorem OwnT.reads {w : World} {B : Nat} {v : Value} {m : List (List Int)} {vs : List Value} (h : OwnT w B v m vs) : ReadsT w v m := h.read
theorem ReadsT.nil (w : World) : ReadsT w (.slice none 0 0) [] := ⟨none, 0, rfl, Nat.le_refl _, by omega, MatAt.nil _ _⟩
/-- ([][]int, bool), the table only read -/
def VRes (p : Prop) (r : List (List Int)) (w : World) (e : Ending) : Prop :=
  ∃ v b r', e = .returned (.tuple #[v, .bool b]) ∧ ReadsT w v r' ∧ ((p ∧ b = true ∧ r' = r) ∨ (¬p ∧ b = false ∧ r' = []))
theorem VRes.yes {p : Prop} {r : List (List Int)} {w : World} {v : Value} (h : p) (ho : ReadsT w v r) : VRes p r w (.returned (.tuple #[v, .bool true])) := ⟨v, true, r, rfl, ho, .inl ⟨h, rfl, rfl⟩⟩
theorem VRes.no {p : Prop} {r : List (List Int)} {w : World} (h : ¬p) : VRes p r w (.returned (.tuple #[.slice none 0 0, .bool false])) := ⟨_, false, [], rfl, ReadsT.nil _, .inr ⟨h, rfl, rfl⟩⟩

/-- the slice is the call's own, its rows are any that someone owns -/
structure OwnV (w : World) (B : Nat) (v : Value) (m : List (List Int)) (vs : List Value) : Prop where
  top : w.ownsRow B 42 1 v m.length vs
  rows : ∀ i, i < m.length → OwnI w 0 (vs.getD i undef) (gr m i)
theorem OwnV.below {w w' : World} {B : Nat} {v : Value} {m : List (List Int)} {vs : List Value} (h : OwnV w B v m vs) (hb : Below w.heap.size w w') : OwnV w' B v m vs := ⟨ownsRow_below h.top hb, fun i hi => (h.rows i hi).below hb⟩
theorem OwnV.base {w : World} {B B' : Nat} {v : Value} {m : List (List Int)} {vs : List Value} (h : OwnV w B v m vs) (hB : B' ≤ B) : OwnV w B' v m vs := ⟨ownsRow_base h.top hB, h.rows⟩
theorem OwnV.nil (w : World) (B : Nat) : OwnV w B (.slice none 0 0) [] [] := ⟨World.ownsRow_nil _ _ _ _, fun i hi => absurd hi (by simp)⟩
theorem OwnV.len {w : World} {B : Nat} {v : Value} {m : List (List Int)} {vs : List Value} (h : OwnV w B v m vs) : vs.length = m.length := by simpa using h.top.1
theorem OwnT.toV {w : World} {B : Nat} {v : Value} {m : List (List Int)} {vs : List Value} (h : OwnT w B v m vs) : OwnV w B v m vs := ⟨h.top, fun i hi => (h.rows i hi).base (Nat.zero_le _)⟩
theorem OwnV.rowAt {w : World} {B n c : Nat} {ao : Option Addr} {m : List (List Int)} {vs : List Value} (h : OwnV w B (.slice ao n c) m vs) {i : Nat} (hi : i < m.length) :
    ∃ b o r d, ao = some ⟨b, o, none⟩ ∧ w.cell? ⟨b, o + i, none⟩ = some (.slice r (gr m i).length d) ∧ vs.getD i undef = .slice r (gr m i).length d ∧ IntsAt w r (gr m i) ∧ (gr m i).length ≤ d ∧ d ≤ 9223372036854775807 := by
  obtain ⟨ao', c', e, _, _, hc⟩ := ownsRow_read h.top
  cases e
  obtain ⟨b, o, e, hcell⟩ := hc i hi
  cases e
  obtain ⟨r, d, e2, h1, h2, h3⟩ := (h.rows i hi).read
  exact ⟨b, o, r, d, rfl, by rw [hcell, e2], e2, h3, h1, h2⟩
theorem OwnV.read {w : World} {B : Nat} {v : Value} {m : List (List Int)} {vs : List Value} (h : OwnV w B v m vs) : ReadsT w v m := by
  obtain ⟨ao, c, rfl, h1, h2, _⟩ := ownsRow_read h.top
  refine ⟨ao, c, rfl, h1, h2, fun i hi => ?_⟩
  obtain ⟨b, o, r, d, e, hc, _, hi2, h3, h4⟩ := h.rowAt hi
  exact ⟨b, o, r, d, e, hc, hi2, h3, h4⟩
theorem OwnV.cells {w : World} {B n : Nat} {ad : Addr} {m : List (List Int)} {vs : List Value} {c : Nat} (h : OwnV w B (.slice (some ad) n c) m vs) : (∀ j u, vs[j]? = some u → w.cell? (ad.add j) = some u) ∧ (∀ u ∈ vs, u.oneCell' = true) := by
  have hl := h.len
  obtain ⟨ao, c', e, _, _, hc⟩ := ownsRow_read h.top
  cases e
  refine ⟨fun j u hj => ?_, fun u hu => ?_⟩
  · have hjl : j < vs.length := (List.getElem?_eq_some_iff.1 hj).1
    obtain ⟨b3, o3, e3, hc3⟩ := hc j (by omega)
    cases e3
    rw [Addr.add_lit, hc3, List.getD, hj]
    rfl
  · obtain ⟨i, hi, rfl⟩ := List.mem_iff_getElem.1 hu
    have := (h.rows i (by omega)).read
    rw [List.getD, List.getElem?_eq_getElem hi] at this
    obtain ⟨_, _, e, _⟩ := this
    rw [show vs[i] = (some vs[i]).getD undef from rfl, e]
    rfl
theorem OwnV.join {w w1 : World} {B B' : Nat} {v v' u : Value} {m k : List (List Int)} {vs us : List Value} (h : OwnV w B v m vs) (hl2 : us.length = k.length) (hk : ∀ i, i < k.length → OwnI w B' (us.getD i undef) (gr k i))
    (h1 : w1.ownsRow B 42 1 v' (m.length + k.length) (vs ++ us)) (kept : ∀ (x : Value) (ys : List Int), OwnI w 0 x ys → OwnI w1 0 x ys) : OwnV w1 B v' (m ++ k) (vs ++ us) := by
  have hl := h.len
  refine ⟨by rw [List.length_append]; exact h1, fun i hi => ?_⟩
  rw [List.length_append] at hi
  by_cases hi2 : i < m.length
  · have e : (vs ++ us).getD i undef = vs.getD i undef := by simp only [List.getD]; rw [List.getElem?_append_left (by omega)]
    rw [e, gr_appl hi2]
    exact kept _ _ (h.rows i hi2)
  · have e : (vs ++ us).getD i undef = us.getD (i - m.length) undef := by simp only [List.getD]; rw [List.getElem?_append_right (by omega), hl]
    rw [e, show i = m.length + (i - m.length) from by omega, gr_appr (by omega), show m.length + (i - m.length) - m.length = i - m.length from by omega]
    exact kept _ _ ((hk (i - m.length) (by omega)).base (Nat.zero_le _))

/-- a row is appended to a table -/
theorem wpList_rowV {w : World} {ops : Array Oper} {rest : List Oper} {o : Oper} {a : Act} {Q : Exit → Act → World → Prop} (hgd : o.guard = none) (s x : Operand)
    (ho : o.op = .call { callee := .builtin .append, args := #[s, x], argTypes := #[22, 22] })
    (B B' : Nat) (v u : Value) (m : List (List Int)) (vs : List Value) (row : List Int) (h : OwnV w B v m vs) (hu : OwnI w B' u row) (hs : a.eval s = v) (hx : a.eval x = .slice (some ⟨w.heap.size, 0, none⟩) 1 1)
    (hB : B ≤ w.heap.size) (hl : m.length < 1048576)
    (K : ∀ v' w1, OwnV w1 B v' (m ++ [row]) (vs ++ [u]) → Below B w w1 → wpList Try.prog ops Q rest (a.put o.dst v') w1) : wpList Try.prog ops Q (o :: rest) a (w.alloc (.cells #[u] 42)) := by
  obtain ⟨j0, hj, hy0, hy1, hy2⟩ := info_parts Try.info_ints
  refine wpList_append_own _ hgd s x 22 ho B 42 j0 (.slice none 0 0) 1 24 Try.underlying22 hj hy0 hy1 hy2 rfl (by decide) v m.length _ hs (World.ownsRow.alloc h.top _) ⟨w.heap.size, 0, none⟩ 1 1 [u] hx rfl ?_ ?_ (by unfold maxLen; omega) (by omega) (by simp; omega) ?_
  · exact cell_one_new _ _ _
  · intro z hz; simp at hz; subst hz; obtain ⟨_, _, e, _⟩ := hu.read; rw [e]; rfl
  · intro v' w1 h1 h2 _
    have ho : OwnV (w.alloc (.cells #[u] 42)) B v m vs := h.below ((Below.refl _ _).alloc (Nat.le_refl _) _)
    refine K v' w1 ?_ (Below.grown ((Below.refl B w).alloc hB _) h2 (by simp; omega) (fun k hk => (World.ownsRow.lt h.top k hk).1))
    refine h.join (B' := B') (u := u) (by simp) (fun i hi => ?_) h1 (fun x ys hx => (hx.below ((Below.refl _ _).alloc (Nat.le_refl _) (.cells #[u] 42))).kept_tab ho.top h2)
    obtain rfl : i = 0 := by simp at hi; omega
    exact hu

/-- the rows of another table are appended to a table -/
theorem wpList_rowsV {w : World} {ops : Array Oper} {rest : List Oper} {o : Oper} {a : Act} {Q : Exit → Act → World → Prop} (hgd : o.guard = none) (s x : Operand)
    (ho : o.op = .call { callee := .builtin .append, args := #[s, x], argTypes := #[22, 22] })
    (B B' : Nat) (v u : Value) (m k : List (List Int)) (vs us : List Value) (h : OwnV w B v m vs) (hk : OwnV w B' u k us) (hs : a.eval s = v) (hx : a.eval x = u)
    (hB : B ≤ w.heap.size) (hl : m.length + k.length ≤ 1048576)
    (K : ∀ v' w1, OwnV w1 B v' (m ++ k) (vs ++ us) → Below B w w1 → wpList Try.prog ops Q rest (a.put o.dst v') w1) : wpList Try.prog ops Q (o :: rest) a w := by
  obtain ⟨j0, hj, hy0, hy1, hy2⟩ := info_parts Try.info_ints
  obtain ⟨sa, sc, rfl, _, _, _⟩ := hk.read
  cases sa with
  | none =>
    have hM0 : k = [] ∧ sc = 0 := by
      rcases hk.top.2 with ⟨h1, h2⟩ | ⟨g, cap, cur, h1, _⟩
      · simp at h1; exact ⟨List.eq_nil_of_length_eq_zero h2, h1.2⟩
      · simp at h1
    obtain ⟨rfl, rfl⟩ := hM0
    have hus : us = [] := List.eq_nil_of_length_eq_zero hk.len
    subst hus
    refine wpList_append_own_none hgd s x 22 ho B 42 j0 1 Try.underlying22 hj v m.length vs hs h.top hx ?_
    exact K v w (by rw [List.append_nil, List.append_nil]; exact h) (Below.refl _ _)
  | some ad =>
    have hcl := hk.cells
    refine wpList_append_own _ hgd s x 22 ho B 42 j0 (.slice none 0 0) 1 24 Try.underlying22 hj hy0 hy1 hy2 rfl (by decide) v m.length vs hs h.top ad k.length sc us hx (by rw [hk.len]; omega) hcl.1 hcl.2 (by unfold maxLen; omega) (by omega) hB ?_
    intro v' w1 h1 h2 _
    exact K v' w1 (h.join (u := .slice (some ad) k.length sc) hk.len hk.rows h1 (fun x ys hx => hx.kept_tab h.top h2)) (Below.grown (Below.refl _ _) h2 hB (fun k hk => (World.ownsRow.lt h.top k hk).1))
end Go.Proofs.Ytfempacfaeknpaa

