/- Contracts: the limits of the first row; whether rows are a descending plane partition, by the program. Condition: n in 1 to 6. -/
import Derived.Test.YtfempacfaeknpaaDoorDpB
import Derived.Laws.CopyOwn
namespace Go.Proofs.YtfempacfaeknpaaDoor
open Go.RowKit

set_option maxRecDepth 100000 in
set_option maxHeartbeats 1600000 in
theorem mul64_any (n : Nat) (w : World) (hn : n ≤ 5) :
    Calls Tryd.prog 45 #[.int .u64 1, .int .u64 n] w fun e w' => e = .returned (.tuple #[.int .u64 0, .int .u64 n]) ∧ w' = w := by
  have : n = 0 ∨ n = 1 ∨ n = 2 ∨ n = 3 ∨ n = 4 ∨ n = 5 := by omega
  rcases this with rfl | rfl | rfl | rfl | rfl | rfl <;>
  · go_enter Tryd.func45, Tryd.ntmps45
    go_wp2
    go_ret2
    exact ⟨rfl, rfl⟩

set_option maxRecDepth 100000 in
set_option maxHeartbeats 1600000 in
theorem mul_any (n : Nat) (w : World) (hn : n ≤ 5) :
    Calls Tryd.prog 41 #[.int .u64 1, .int .u64 n] w fun e w' => e = .returned (.tuple #[.int .u64 0, .int .u64 n]) ∧ w' = w := by
  have C := Lib.hid (mul64_any n w hn)
  have hn2 : (n : Int) ≤ 5 := by omega
  go_enter Tryd.func41, Tryd.ntmps41
  go_wp2_with fail
  refine C.out.mono ?_
  rintro e w2 ⟨rfl, rfl⟩
  go_wp2
  go_ret2
  exact ⟨rfl, rfl⟩

/-- a slice of n cells of which the first k hold x -/
def repC (x : Int) (n k : Nat) : Array Value := (List.replicate k (Value.int .i64 x) ++ List.replicate (n - k) (Value.int .i64 0)).toArray
theorem repC_size {x : Int} {n k : Nat} (h : k ≤ n) : (repC x n k).size = n := by simp [repC]; omega
theorem repC_get {x : Int} {n k i : Nat} (h : i < k) : (repC x n k)[i]? = some (.int .i64 x) := by
  simp only [repC, List.getElem?_toArray]
  rw [List.getElem?_append_left (by simpa using h)]
  simp [h]
theorem repC_put {x : Int} {n k j : Nat} (h : k + j ≤ n) : ((repC x n k).toList.take k ++ (List.replicate j (Value.int .i64 x) ++ (repC x n k).toList.drop (k + j))).toArray = repC x n (k + j) := by
  unfold repC
  congr 1
  simp only []
  rw [List.take_left' (by simp), List.drop_append, List.length_replicate, List.drop_eq_nil_of_le (by simp), List.nil_append, ← List.append_assoc, List.replicate_append_replicate, List.drop_replicate]
  congr 2
  omega
theorem own_cells {w : World} {B g n : Nat} {e : TypeId} {xs : List Value} (h : w.ownsRow B e 1 (.slice (some ⟨g, 0, none⟩) n n) n xs) : w.heap[g]? = some (.cells xs.toArray e (0, 0)) := by
  rcases h.2 with ⟨h0, _⟩ | ⟨g', cap, cur, hv, _, hh, _, _, hcs, htk⟩
  · simp at h0
  · simp only [Value.slice.injEq, Option.some.injEq, Addr.mk.injEq, and_true] at hv
    obtain ⟨rfl, -, rfl⟩ := hv
    rw [hh]
    congr 2
    rw [← htk, List.take_of_length_le (by rw [Array.length_toList, hcs]; exact Nat.le_refl _)]
theorem cells_own {w : World} {B g n : Nat} {e : TypeId} {xs : List Value} (hB : B ≤ g) (hn : n ≤ 9223372036854775807) (hl : xs.length = n) (h : w.heap[g]? = some (.cells xs.toArray e (0, 0))) : w.ownsRow B e 1 (.slice (some ⟨g, 0, none⟩) n n) n xs :=
  ⟨by simp [hl], .inr ⟨g, n, _, rfl, hB, h, Nat.le_refl _, hn, by simp [hl], by simp [← hl]⟩⟩
theorem Tryd.size_one_int : (Tryd.prog.info? 3).map (·.size) = some 1 := by kernel_rfl

set_option maxRecDepth 100000 in
set_option maxHeartbeats 3200000 in
theorem repeat_any (x : Int) (b : Nat) (n : Nat) (w : World) (hn : n ≤ 5) (hb : w.cell? ⟨b, 0, none⟩ = some (.int .i64 x)) :
    Calls Tryd.prog 35 #[.slice (some ⟨b, 0, none⟩) 1 1, .int .i64 n] w fun e w' => ∃ v, e = .returned v ∧ OwnI w' w.heap.size v (List.replicate n x) ∧ Below w.heap.size w w' := by
  obtain ⟨i0, hi, hz0, hz1, hz2⟩ := info_parts Tryd.info_int
  have hn2 : (n : Int) ≤ 5 := by omega
  have hn3 : n ≤ 9223372036854775807 := by omega
  have Hb := Lib.hid hb
  clear hb
  go_enter Tryd.func35, Tryd.ntmps35
  go_wp2_with fail
  refine (mul_any n w hn).mono ?_
  rintro e w2 ⟨rfl, rfl⟩
  go_wp2_with (at_make; refine wpList_make_full _ rfl _ _ 49 rfl w2.heap.size 3 i0 (.int .i64 0) 1 Tryd.underlying49 hi hz0 hz1 _ _ _ _ n rfl rfl rfl rfl ?c1 ?c2 ?c3 ?_)
  case c1 => rw [hz2]; omega
  case c2 => unfold maxLen; omega
  case c3 => simp
  intro w3 hown hgr
  have hb3 : Below w2.heap.size w2 w3 := (Below.refl _ _).grown hgr (Nat.le_refl _) (fun _ h => by cases h)
  have hh : w3.heap[w2.heap.size]? = some (.cells (repC x n 0) 3 (0, 0)) := by
    have := own_cells hown
    rw [this, toList_madeCells_one]
    simp [repC]
  have Hb3 := Lib.hid hb3
  have HH := Lib.hid hh
  have Hb0 := Lib.hid (cell_below Hb.out hb3)
  have Hf := Lib.hid (show ∀ j u, (List.replicate (min 1 n) (Value.int .i64 x))[j]? = some u → w3.cell? ((⟨b, 0, none⟩ : Addr).add j) = some u from by
    intro j u hu
    rw [List.getElem?_replicate] at hu
    split at hu
    · have : j = 0 := by omega
      subst this
      rw [← Option.some.inj hu]
      exact Hb0.out
    · cases hu)
  have Hp := Lib.hid (repC_put (x := x) (n := n) (k := 0) (j := min 1 n) (by omega))
  have Hl1 := Lib.hid (show (List.replicate (min 1 n) (Value.int .i64 x)).length = Nat.min 1 n by simp)
  clear hown hgr hb3 hh
  go_wp2_with ((with_reducible refine wpList_copy_own (o := ⟨some 33, _, _, _, _, _⟩) ?gA1 (.tmp 31) (.tmp 32) 49 49 ?gA2 3 Tryd.underlying49 Tryd.size_one_int w2.heap.size 0 n n ⟨b, 0, none⟩ 1 1 ?gA4 ?gA5 (repC x n 0) 3 HH.out (List.replicate (min 1 n) (Value.int .i64 x)) Hl1.out Hf.out ?gA6 ?gA7 ?_))
  case gA1 => rfl
  case gA2 => rfl
  case gA4 => rfl
  case gA5 => rfl
  case gA6 => rw [repC_size (by omega)]; simp; omega
  case gA7 =>
    intro u hu
    obtain ⟨_, rfl⟩ := List.mem_replicate.1 hu
    rfl
  have Hp' := Hp.out
  simp only [Nat.zero_add, List.take_zero, List.nil_append] at Hp'
  rw [Hp']
  obtain ⟨q, hq⟩ : ∃ q, q = min 1 n := ⟨_, rfl⟩
  rw [← hq]
  generalize hW : w3.setRow w2.heap.size (repC x n q) = w4
  have HC := Lib.hid (show w4.heap[w2.heap.size]? = some (.cells (repC x n q) 3 (0, 0)) by rw [← hW]; exact setRow_heap _ _ _ _ _ _ HH.out)
  have HB := Lib.hid (show Below w2.heap.size w2 w4 by rw [← hW]; exact below_setRow Hb3.out (Nat.le_refl _) _)
  have Hq := Lib.hid (show q ≤ n ∧ (n = 0 ∨ 1 ≤ q) by omega)
  clear hW Hp Hp' Hl1 Hf HH Hb3 hq Hb Hb0
  obtain ⟨H, hH⟩ : ∃ H, H = w2.heap.size := ⟨_, rfl⟩
  rw [← hH] at HC ⊢
  have HHH := Lib.hid hH
  clear hH
  go_loopw [8] (fun i wr => ∃ k : Nat, k ≤ n ∧ (n = 0 ∨ 1 ≤ k) ∧ i = .int .i64 k ∧ wr.heap[H]? = some (.cells (repC x n k) 3 (0, 0)) ∧ Below w2.heap.size w2 wr) (fun i _ => n - (intOf i).toNat)
  case atStart => exact ⟨q, Hq.out.1, Hq.out.2, rfl, HC.out, HB.out⟩
  case round =>
    obtain ⟨k, hk, hk1, rfl, hc, hb⟩ := hrel
    have HC2 := Lib.hid hc
    have HB2 := Lib.hid hb
    clear hc hb HC HB
    by_cases hlt : k < n
    · obtain ⟨j, hj⟩ : ∃ j, j = min k (n - k) := ⟨_, rfl⟩
      have hjk : k + j ≤ n := by omega
      have Hj := Lib.hid (show 1 ≤ j ∧ j = Nat.min k (n - k) from ⟨by omega, hj⟩)
      have Hp := Lib.hid (repC_put (x := x) (n := n) (k := k) (j := j) hjk)
      have hlt2 : k ≤ n := hk
      have Hf := Lib.hid (show ∀ ww : World, ww.heap[H]? = some (.cells (repC x n k) 3 (0, 0)) → ∀ i u, (List.replicate j (Value.int .i64 x))[i]? = some u → ww.cell? ((⟨H, 0, none⟩ : Addr).add i) = some u from by
        intro ww hww i u hu
        rw [List.getElem?_replicate] at hu
        split at hu
        · next hi =>
          rw [Addr.add_lit, Nat.zero_add, cell_of_row _ _ _ _ _ _ hww, repC_get (by omega)]
          exact hu
        · cases hu)
      have hjs : IntKind.i64.wrap ((k : Int) + (j : Int)) = ((k + j : Nat) : Int) := by rw [w64 (by omega)]; omega
      have HL := Lib.hid (show (List.replicate j (Value.int .i64 x)).length = Nat.min k (n - k) by rw [List.length_replicate]; exact hj)
      clear hj hk1 hk
      have hcp := run_copy_row (P := Tryd.prog) wr.drew 49 49 3 3 H k (n - k) (n - k) ⟨H, 0, none⟩ k n (repC x n k) 3 (List.replicate j (Value.int .i64 x)) Tryd.underlying49 Tryd.size_one_int HC2.out HL.out (Hf.out _ HC2.out) (by rw [repC_size hlt2]; simp; omega) (fun u hu => by obtain ⟨_, rfl⟩ := List.mem_replicate.1 hu; rfl)
      rw [List.length_replicate, List.append_assoc, Hp.out] at hcp
      generalize hW : wr.drew.setRow H (repC x n (k + j)) = w5 at hcp
      have HC5 := Lib.hid (show w5.heap[H]? = some (.cells (repC x n (k + j)) 3 (0, 0)) by rw [← hW]; exact setRow_heap _ _ _ _ _ _ HC2.out)
      have HB5 := Lib.hid (show Below w2.heap.size w2 w5 by rw [← hW]; exact below_setRow (below_drewN HB2.out 1) (by rw [HHH.out]; exact Nat.le_refl _) _)
      clear hW Hp Hf HL HC2 HB2
      go_wp2_with fail
      go_region
      go_wp2
      go_roundw
      case rel => exact ⟨k + j, hjk, by have := Hj.out; omega, rfl, HC5.out, HB5.out⟩
      case measure => have := Hj.out; simp [intOf]; omega
    · obtain rfl : k = n := by omega
      have Hfin := Lib.hid (show OwnI wr w2.heap.size (.slice (some ⟨H, 0, none⟩) k k) (List.replicate k x) by
        unfold OwnI
        rw [List.length_replicate, List.map_replicate]
        refine cells_own (by rw [HHH.out]; exact Nat.le_refl _) (by omega) (by simp) ?_
        rw [HC2.out]
        simp [repC])
      go_wp2
      go_ret
      exact ⟨_, rfl, Hfin.out, HB2.out⟩
end Go.Proofs.YtfempacfaeknpaaDoor
