/- Parts of proofs: contracts and plain facts. Conditions: as each says. -/
import Derived.Test.YtfempacfaeknpaaK08
namespace Go.Proofs.Ytfempacfaeknpaa
open Go.RowKit

set_option maxRecDepth 100000 in
set_option maxHeartbeats 800000 in
theorem sumOfRows_parts (F : Nat → Int) (ao : Option Addr) (c : Nat) (m : List (List Int)) (w : World) (hn : m.length ≤ 1048576)
    (hbd : ∀ k, k ≤ m.length → -1000000 ≤ sumF F k ∧ sumF F k ≤ 1000000) (hx : MatAt w ao m)
    (H : ∀ i, i < m.length → ∀ r c, IntsAt w r (gr m i) → (gr m i).length ≤ c → c ≤ 9223372036854775807 → Calls Try.prog 106 #[.slice r (gr m i).length c] w fun e w' => e = .returned (.int .i64 (F i)) ∧ w = w') :
    Calls Try.prog 102 #[.slice ao m.length c, .func (.func 106) #[] #[]] w fun e w' => e = .returned (.int .i64 (sumF F m.length)) ∧ w = w' := by
  have hmx : m.length ≤ 9223372036854775807 := by omega
  have Hx := Lib.hid hx
  have Hbd := Lib.hid hbd
  have HH := Lib.hid H
  clear hx hbd H
  go_enter Try.func102, Try.ntmps102
  go_wp2
  go_loop [5, 10] (fun s i => ∃ k : Nat, k ≤ m.length ∧ i = .int .i64 k ∧ s = .int .i64 (sumF F k)) (fun _ i => m.length - (intOf i).toNat)
  case atStart => exact ⟨0, Nat.zero_le _, rfl, rfl⟩
  case round =>
    obtain ⟨k, hk, rfl, rfl⟩ := hrel
    by_cases hlt : k < m.length
    · obtain ⟨b1, o1, r1, d1, rfl, hc1, hr1, hd1, hd2⟩ := Hx.out k hlt
      have e1 : sumF F (k + 1) = sumF F k + F k := rfl
      have hb1 := Hbd.out k hk
      have hb2 := Hbd.out (k + 1) (by omega)
      rw [e1] at hb2
      have hh := HH.out k hlt r1 d1 hr1 hd1 hd2
      have E1 := Lib.hid e1
      clear e1
      obtain ⟨s, hs⟩ : ∃ s, s = sumF F k := ⟨_, rfl⟩
      obtain ⟨y, hy⟩ : ∃ y, y = F k := ⟨_, rfl⟩
      rw [← hs, ← hy] at hb2
      rw [← hs] at hb1 ⊢
      have HH2 := Lib.hid hh
      have Hs := Lib.hid hs
      have Hy := Lib.hid hy
      clear hh hs hy
      go_wp2_with fail
      refine HH2.out.mono ?_
      rintro e w2 ⟨rfl, rfl⟩
      rw [← Hy.out]
      go_wp2
      go_round
      case rel => exact ⟨k + 1, by omega, by go_num, by rw [E1.out, ← Hs.out, ← Hy.out]⟩
      case measure => simp [intOf]; omega
    · obtain rfl : k = m.length := by omega
      go_wp2
      go_ret
      exact ⟨rfl, rfl⟩

set_option maxRecDepth 100000 in
set_option maxHeartbeats 800000 in
theorem sumOfRows_special (F : Nat → Int) (ao : Option Addr) (c : Nat) (m : List (List Int)) (w : World) (hn : m.length ≤ 1048576)
    (hbd : ∀ k, k ≤ m.length → -1000000 ≤ sumF F k ∧ sumF F k ≤ 1000000) (hx : MatAt w ao m)
    (H : ∀ i, i < m.length → ∀ r c, IntsAt w r (gr m i) → (gr m i).length ≤ c → c ≤ 9223372036854775807 → Calls Try.prog 107 #[.slice r (gr m i).length c] w fun e w' => e = .returned (.int .i64 (F i)) ∧ w = w') :
    Calls Try.prog 102 #[.slice ao m.length c, .func (.func 107) #[] #[]] w fun e w' => e = .returned (.int .i64 (sumF F m.length)) ∧ w = w' := by
  have hmx : m.length ≤ 9223372036854775807 := by omega
  have Hx := Lib.hid hx
  have Hbd := Lib.hid hbd
  have HH := Lib.hid H
  clear hx hbd H
  go_enter Try.func102, Try.ntmps102
  go_wp2
  go_loop [5, 10] (fun s i => ∃ k : Nat, k ≤ m.length ∧ i = .int .i64 k ∧ s = .int .i64 (sumF F k)) (fun _ i => m.length - (intOf i).toNat)
  case atStart => exact ⟨0, Nat.zero_le _, rfl, rfl⟩
  case round =>
    obtain ⟨k, hk, rfl, rfl⟩ := hrel
    by_cases hlt : k < m.length
    · obtain ⟨b1, o1, r1, d1, rfl, hc1, hr1, hd1, hd2⟩ := Hx.out k hlt
      have e1 : sumF F (k + 1) = sumF F k + F k := rfl
      have hb1 := Hbd.out k hk
      have hb2 := Hbd.out (k + 1) (by omega)
      rw [e1] at hb2
      have hh := HH.out k hlt r1 d1 hr1 hd1 hd2
      have E1 := Lib.hid e1
      clear e1
      obtain ⟨s, hs⟩ : ∃ s, s = sumF F k := ⟨_, rfl⟩
      obtain ⟨y, hy⟩ : ∃ y, y = F k := ⟨_, rfl⟩
      rw [← hs, ← hy] at hb2
      rw [← hs] at hb1 ⊢
      have HH2 := Lib.hid hh
      have Hs := Lib.hid hs
      have Hy := Lib.hid hy
      clear hh hs hy
      go_wp2_with fail
      refine HH2.out.mono ?_
      rintro e w2 ⟨rfl, rfl⟩
      rw [← Hy.out]
      go_wp2
      go_round
      case rel => exact ⟨k + 1, by omega, by go_num, by rw [E1.out, ← Hs.out, ← Hy.out]⟩
      case measure => simp [intOf]; omega
    · obtain rfl : k = m.length := by omega
      go_wp2
      go_ret
      exact ⟨rfl, rfl⟩

set_option maxRecDepth 100000 in
set_option maxHeartbeats 400000 in
theorem parts1_any (ao : Option Addr) (c : Nat) (row : List Int) (w : World) (hr : row.length ≤ 1048576) :
    Calls Try.prog 106 #[.slice ao row.length c] w fun e w' => e = .returned (.int .i64 (sumR fOne row)) ∧ w = w' := by
  rw [sumR_one]
  have hmx : row.length ≤ 9223372036854775807 := by omega
  go_enter Try.func106, Try.ntmps106
  go_wp2
  go_ret
  exact ⟨rfl, rfl⟩

set_option maxRecDepth 100000 in
set_option maxHeartbeats 800000 in
theorem specialIn_any (ao : Option Addr) (c : Nat) (row : List Int) (w : World) (hr : row.length ≤ 1048576) (hbd : ∀ k, k ≤ row.length → 0 ≤ sumF (fun i => fSpec i (gi row i)) k ∧ sumF (fun i => fSpec i (gi row i)) k ≤ 1000000) (hx : IntsAt w ao row) :
    Calls Try.prog 107 #[.slice ao row.length c] w fun e w' => e = .returned (.int .i64 (sumR fSpec row)) ∧ w = w' := by
  have hmx : row.length ≤ 9223372036854775807 := by omega
  have Hx := Lib.hid hx
  have Hbd := Lib.hid hbd
  clear hx hbd
  unfold sumR
  go_enter Try.func107, Try.ntmps107
  go_wp2
  go_loop [3, 8] (fun s i => ∃ k : Nat, k ≤ row.length ∧ i = .int .i64 k ∧ s = .int .i64 (sumF (fun i => fSpec i (gi row i)) k)) (fun _ i => row.length - (intOf i).toNat)
  case atStart => exact ⟨0, Nat.zero_le _, rfl, rfl⟩
  case round =>
    obtain ⟨k, hk, rfl, rfl⟩ := hrel
    by_cases hlt : k < row.length
    · obtain ⟨b1, o1, rfl, hc1⟩ := Hx.out k hlt
      have e1 : sumF (fun i => fSpec i (gi row i)) (k + 1) = sumF (fun i => fSpec i (gi row i)) k + fSpec k (gi row k) := rfl
      have hb1 := Hbd.out k hk
      obtain ⟨s, hs⟩ : ∃ s, s = sumF (fun i => fSpec i (gi row i)) k := ⟨_, rfl⟩
      rw [← hs] at hb1 e1 ⊢
      have E1 := Lib.hid e1
      clear e1 hs
      by_cases q : gi row k ≤ k
      · have d : decide (gi row k ≤ (k : Int)) = true := decide_eq_true q
        have E2 := Lib.hid (show fSpec k (gi row k) = 1 from if_pos q)
        clear q
        go_wp2
        go_round
        case rel => exact ⟨k + 1, by omega, by go_num, by rw [E1.out, E2.out]⟩
        case measure => simp [intOf]; omega
      · have d : decide (gi row k ≤ (k : Int)) = false := decide_eq_false q
        have E2 := Lib.hid (show fSpec k (gi row k) = 0 from if_neg q)
        clear q
        go_wp2
        go_round
        case rel => exact ⟨k + 1, by omega, by go_num, by rw [E1.out, E2.out, Int.add_zero]⟩
        case measure => simp [intOf]; omega
    · obtain rfl : k = row.length := by omega
      go_wp2
      go_ret
      exact ⟨rfl, rfl⟩

set_option maxRecDepth 100000 in
set_option maxHeartbeats 800000 in
theorem plane_parts (ao : Option Addr) (c : Nat) (rows : List (List Int)) (w : World) (hg : DpGood rows 6) (hm : MatAt w ao rows) :
    Calls Try.prog 79 #[.slice ao rows.length c] w fun e w' => e = .returned (.int .i64 (sumT fOne rows rows.length)) ∧ Below w.heap.size w w' := by
  have hl := (hg.bounds (by omega)).1
  have C := Lib.hid (sumOfRows_parts (fun j => sumR fOne (gr rows j)) ao c rows w (by omega) (fun k hk => by have := hg.sum_bd tells_one k hk; unfold sumT at this; omega) hm (fun i hi r c hr h1 h2 => parts1_any r c (gr rows i) w (by have := (hg.bounds (by omega)).2 i hi; omega)))
  obtain ⟨x, hx⟩ : ∃ x, x = sumT fOne rows rows.length := ⟨_, rfl⟩
  have e : sumF (fun j => sumR fOne (gr rows j)) rows.length = x := hx.symm
  rw [e] at C
  rw [← hx]
  clear hm hg hx e
  go_enter Try.func79, Try.ntmps79
  go_wp2_with fail
  refine C.out.mono ?_
  rintro e w2 ⟨rfl, rfl⟩
  go_wp2
  go_ret
  exact ⟨rfl, Below.refl _ _⟩

set_option maxRecDepth 100000 in
set_option maxHeartbeats 800000 in
theorem plane_special (ao : Option Addr) (c : Nat) (rows : List (List Int)) (w : World) (hg : DpGood rows 6) (hm : MatAt w ao rows) :
    Calls Try.prog 81 #[.slice ao rows.length c] w fun e w' => e = .returned (.int .i64 (sumT fSpec rows rows.length)) ∧ Below w.heap.size w w' := by
  have hl := (hg.bounds (by omega)).1
  have C := Lib.hid (sumOfRows_special (fun j => sumR fSpec (gr rows j)) ao c rows w (by omega) (fun k hk => by have := hg.sum_bd tells_spec k hk; unfold sumT at this; omega) hm (fun i hi r c hr h1 h2 => specialIn_any r c (gr rows i) w (by have := (hg.bounds (by omega)).2 i hi; omega) (fun k hk => by have := hg.row_bd tells_spec hi k hk; omega) hr))
  obtain ⟨x, hx⟩ : ∃ x, x = sumT fSpec rows rows.length := ⟨_, rfl⟩
  have e : sumF (fun j => sumR fSpec (gr rows j)) rows.length = x := hx.symm
  rw [e] at C
  rw [← hx]
  clear hm hg hx e
  go_enter Try.func81, Try.ntmps81
  go_wp2_with fail
  refine C.out.mono ?_
  rintro e w2 ⟨rfl, rfl⟩
  go_wp2
  go_ret
  exact ⟨rfl, Below.refl _ _⟩

theorem DpGood.flat_le {rows : List (List Int)} (hg : DpGood rows 6) : rows.flatten.length ≤ 150 := by
  have h := hg.bounds (by omega)
  have := flat_len (rows := rows) (B := 5) (fun i hi => by have := h.2 i hi; omega) rows.length (Nat.le_refl _)
  rw [List.take_length] at this
  omega
/-- sums over all parts, in one row -/
theorem mem_flat {rows : List (List Int)} (hg : DpGood rows 6) : ∀ i, i < rows.flatten.length → 1 ≤ gi rows.flatten i ∧ gi rows.flatten i ≤ 6 := by
  intro i hi
  have hmem := gi_mem hi
  obtain ⟨row, hrow, hx⟩ := List.mem_flatten.1 hmem
  obtain ⟨k, hk, e⟩ := List.mem_iff_getElem.1 hrow
  obtain ⟨j, hj, e2⟩ := List.mem_iff_getElem.1 hx
  have e3 : gr rows k = row := by rw [gr_lt hk, e]
  have := (hg.2 k hk).1.2.2.1 j (by rw [e3]; exact hj)
  rw [e3, gi_lt hj, e2] at this
  exact this
theorem flat_bd {rows : List (List Int)} (hg : DpGood rows 6) {f : Int → Int} (hf : Tells fun _ => f) : ∀ k, k ≤ rows.flatten.length → 0 ≤ sumF (fun i => f (gi rows.flatten i)) k ∧ sumF (fun i => f (gi rows.flatten i)) k ≤ 900 := by
  intro k hk
  have h1 := sumR_part_bd (f := fun _ => f) (row := rows.flatten) (B := 6) (fun i hi => hf i _ (mem_flat hg i hi).1 (mem_flat hg i hi).2) k hk
  have := hg.flat_le
  omega

set_option maxRecDepth 100000 in
set_option maxHeartbeats 800000 in
theorem plane_sum (ao : Option Addr) (c : Nat) (rows : List (List Int)) (w : World) (hg : DpGood rows 6) (hm : MatAt w ao rows) :
    Calls Try.prog 85 #[.slice ao rows.length c] w fun e w' => e = .returned (.int .i64 (sumT fId rows rows.length)) ∧ Below w.heap.size w w' := by
  have hl := (hg.bounds (by omega)).1
  have hfl := hg.flat_le
  have CC := Lib.hid (concat_any ao c rows w (by omega) (by omega) hm (nilRows_full hm (fun k hk => (hg.2 k hk).1.1)))
  have hx : sumF (fun i => idI (gi rows.flatten i)) rows.flatten.length = sumT fId rows rows.length := sumR_flatten idI rows
  have Hbd := Lib.hid (flat_bd hg (f := idI) tells_id)
  obtain ⟨x, hx2⟩ : ∃ x, x = sumT fId rows rows.length := ⟨_, rfl⟩
  rw [← hx2] at hx ⊢
  have Hx := Lib.hid hx
  clear hm hg hx hx2
  go_enter Try.func85, Try.ntmps85
  go_wp2_with fail
  refine CC.out.mono ?_
  rintro e w2 ⟨v, rfl, hv, hb⟩
  obtain ⟨fa, fc, rfl, _, _, hI⟩ := hv.read
  have C := Lib.hid (sumOfInt_itself fa fc rows.flatten w2 (by omega) (fun k hk => by have := Hbd.out k hk; omega) hI)
  rw [Hx.out] at C
  have Hb := Lib.hid hb
  obtain ⟨L, hL⟩ : ∃ L, L = rows.flatten.length := ⟨_, rfl⟩
  rw [← hL] at C ⊢
  clear hv hb hI hL hfl CC Hx Hbd
  go_wp2_with fail
  refine C.out.mono ?_
  rintro e w3 ⟨rfl, rfl⟩
  go_wp2
  go_ret
  exact ⟨rfl, Hb.out⟩

def eqI (n x : Int) : Int := if x = n then 1 else 0
set_option maxRecDepth 100000 in
set_option maxHeartbeats 400000 in
theorem equalTo1_any (g : Nat) (n x : Int) (w : World) (hc : w.cell? ⟨g, 0, none⟩ = some (.int .i64 n)) :
    Calls Try.prog 110 #[.int .i64 x, .pointer (some ⟨g, 0, none⟩)] w fun e w' => e = .returned (.int .i64 (eqI n x)) ∧ w = w' := by
  unfold eqI
  by_cases q : x = n
  · have d : (x == n) = true := by simpa using q
    rw [if_pos q]
    clear q
    go_enter Try.func110, Try.ntmps110
    go_wp2
    go_ret
    exact ⟨rfl, rfl⟩
  · have d : (x == n) = false := by simpa using q
    rw [if_neg q]
    clear q
    go_enter Try.func110, Try.ntmps110
    go_wp2
    go_ret
    exact ⟨rfl, rfl⟩

set_option maxRecDepth 100000 in
set_option maxHeartbeats 800000 in
theorem sumOfInt_eq (g : Nat) (n : Int) (ao : Option Addr) (c : Nat) (xs : List Int) (w : World) (hg : w.cell? ⟨g, 0, none⟩ = some (.int .i64 n))
    (hn : xs.length ≤ 1048576) (hbd : ∀ k, k ≤ xs.length → -1000000 ≤ sumF (fun i => eqI n (gi xs i)) k ∧ sumF (fun i => eqI n (gi xs i)) k ≤ 1000000) (hx : IntsAt w ao xs) :
    Calls Try.prog 108 #[.slice ao xs.length c, .func (.func 110) #[] #[.pointer (some ⟨g, 0, none⟩)]] w fun e w' => e = .returned (.int .i64 (sumF (fun i => eqI n (gi xs i)) xs.length)) ∧ w = w' := by
  have hmx : xs.length ≤ 9223372036854775807 := by omega
  have Hx := Lib.hid hx
  have Hg := Lib.hid hg
  have Hbd := Lib.hid hbd
  clear hx hbd hg
  go_enter Try.func108, Try.ntmps108
  go_wp2
  go_loop [5, 10] (fun s i => ∃ k : Nat, k ≤ xs.length ∧ i = .int .i64 k ∧ s = .int .i64 (sumF (fun i => eqI n (gi xs i)) k)) (fun _ i => xs.length - (intOf i).toNat)
  case atStart => exact ⟨0, Nat.zero_le _, rfl, rfl⟩
  case round =>
    obtain ⟨k, hk, rfl, rfl⟩ := hrel
    by_cases hlt : k < xs.length
    · obtain ⟨b1, o1, rfl, hc1⟩ := Hx.out k hlt
      have e1 : sumF (fun i => eqI n (gi xs i)) (k + 1) = sumF (fun i => eqI n (gi xs i)) k + eqI n (gi xs k) := rfl
      have hb1 := Hbd.out k hk
      have hb2 := Hbd.out (k + 1) (by omega)
      rw [e1] at hb2
      have E1 := Lib.hid e1
      clear e1
      obtain ⟨s, hs⟩ : ∃ s, s = sumF (fun i => eqI n (gi xs i)) k := ⟨_, rfl⟩
      obtain ⟨y, hy⟩ : ∃ y, y = eqI n (gi xs k) := ⟨_, rfl⟩
      have hh := equalTo1_any g n (gi xs k) w Hg.out
      rw [← hs, ← hy] at hb2
      rw [← hs] at hb1 ⊢
      have HH2 := Lib.hid hh
      have Hs := Lib.hid hs
      have Hy := Lib.hid hy
      clear hh hs hy
      go_wp2_with fail
      refine HH2.out.mono ?_
      rintro e w2 ⟨rfl, rfl⟩
      rw [← Hy.out]
      go_wp2
      go_round
      case rel => exact ⟨k + 1, by omega, by go_num, by rw [E1.out, ← Hs.out, ← Hy.out]⟩
      case measure => simp [intOf]; omega
    · obtain rfl : k = xs.length := by omega
      go_wp2
      go_ret
      exact ⟨rfl, rfl⟩

set_option maxRecDepth 100000 in
set_option maxHeartbeats 800000 in
theorem plane_equalTo (ao : Option Addr) (c : Nat) (rows : List (List Int)) (n : Int) (w : World) (hg : DpGood rows 6) (hm : MatAt w ao rows) :
    Calls Try.prog 84 #[.slice ao rows.length c, .int .i64 n] w fun e w' => e = .returned (.int .i64 (sumT (fEq n) rows rows.length)) ∧ Below w.heap.size w w' := by
  have hl := (hg.bounds (by omega)).1
  have hfl := hg.flat_le
  obtain ⟨w1, hw1⟩ : ∃ w1, w1 = w.alloc (.cells #[.int .i64 n] 3) := ⟨_, rfl⟩
  have hb0 : Below w.heap.size w w1 := by rw [hw1]; exact (Below.refl _ _).alloc (Nat.le_refl _) _
  have hcell : w1.cell? ⟨w.heap.size, 0, none⟩ = some (.int .i64 n) := by rw [hw1, cell_of_row _ _ 0 _ _ _ (heap_alloc_new w _)]; rfl
  have hm1 := hm.below hb0
  have CC := Lib.hid (concat_any ao c rows w1 (by omega) (by omega) hm1 (nilRows_full hm1 (fun k hk => (hg.2 k hk).1.1)))
  have hx : sumF (fun i => eqI n (gi rows.flatten i)) rows.flatten.length = sumT (fEq n) rows rows.length := sumR_flatten (eqI n) rows
  have Hbd := Lib.hid (flat_bd hg (f := eqI n) (tells_eq n))
  obtain ⟨x, hx2⟩ : ∃ x, x = sumT (fEq n) rows rows.length := ⟨_, rfl⟩
  rw [← hx2] at hx ⊢
  have Hx := Lib.hid hx
  have Hcell := Lib.hid hcell
  have Hb0 := Lib.hid hb0
  have Hw1 := Lib.hid hw1
  clear hm hg hx hx2 hcell hb0 hm1 hw1
  go_enter Try.func84, Try.ntmps84
  go_wp2_with fail
  rw [← Hw1.out]
  refine CC.out.mono ?_
  rintro e w2 ⟨v, rfl, hv, hb⟩
  obtain ⟨fa, fc, rfl, _, _, hI⟩ := hv.read
  have C := Lib.hid (sumOfInt_eq w.heap.size n fa fc rows.flatten w2 (cell_below Hcell.out hb) (by omega) (fun k hk => by have := Hbd.out k hk; omega) hI)
  rw [Hx.out] at C
  have Hb := Lib.hid (Hb0.out.trans (hb.mono Hb0.out.size))
  obtain ⟨L, hL⟩ : ∃ L, L = rows.flatten.length := ⟨_, rfl⟩
  rw [← hL] at C ⊢
  clear hv hb hI hL hfl CC Hx Hbd Hcell Hb0 Hw1
  go_wp2_with fail
  refine C.out.mono ?_
  rintro e w3 ⟨rfl, rfl⟩
  go_wp2
  go_ret
  exact ⟨rfl, Hb.out⟩
end Go.Proofs.Ytfempacfaeknpaa

namespace Go.Proofs.Ytfempacfaeknpaa
open Go.RowKit

theorem wpList_buildPt {P : Program} {ops : Array Oper} {rest : List Oper} {o : Oper} {a : Act} {w : World} {Q : Exit → Act → World → Prop} (hg : o.guard = none) (t : TypeId) (xs : Array (Nat × Operand)) (ho : o.op = .build t xs)
    (vs : List (Nat × Value)) (hv : (xs.map fun (i, x) => (i, a.eval x)).toList = vs) (cells : Array Value) (hb : P.built t vs = some cells)
    (h : wpList P ops Q rest (a.put o.dst (.agg cells)) w) : wpList P ops Q (o :: rest) a w := by
  refine wpList_build hg t _ ho (by rw [hv, hb]; rfl) ?_
  rw [hv, hb]
  exact h

theorem method_parts (ao : Option Addr) (k c : Nat) (n : Int) (w : World) : (method 247 58 (.agg (ptA (.slice ao k c) n)) "loop.example/g01123/impl.parts").run Try.prog w = .ok (79, .slice ao k c) w := by kernel_rfl

set_option maxRecDepth 100000 in
set_option maxHeartbeats 1600000 in
theorem told_parts (ao : Option Addr) (c : Nat) (rows : List (List Int)) (w : World) (hs : Small rows) (hwf : WfM rows) (hm : MatAt w ao rows) :
    Calls Try.prog 78 #[.slice ao rows.length c, .func (.methodOf 58 "loop.example/g01123/impl.parts") #[] #[]] w fun e w' => IRes (DpGood rows 6) (sumT fOne rows rows.length) e ∧ Below w.heap.size w w' := by
  have hl := hs.1
  have Hm := Lib.hid hm
  have Hs := Lib.hid hs
  have Hwf := Lib.hid hwf
  have hmt := fun w => method_parts ao rows.length c 6 w
  clear hm hs hwf
  go_enter Try.func78, Try.ntmps78
  go_upto_region 2 with (first | (refine wpList_buildPt rfl 58 _ rfl [(0, .slice ao rows.length c), (1, .int .i64 6)] rfl (ptA (.slice ao rows.length c) 6) (Try.built_pt _ _ _ _) ?_) | (refine wpList_allocT rfl 58 rfl _ _ Try.info_pt ?_) | (refine wpList_storeT rfl 58 _ _ rfl (ptA (.slice ao rows.length c) 6) (ptA (.slice none 0 0) 0) w.heap.size rfl rfl rfl (Try.size_pt _ _) (pt_same _ _ _ _) (pt_one _ _ _ _) ?_))
  generalize hW : World.alloc w _ = w1
  have HP := Lib.hid (show PtAt w1 w.heap.size (.slice ao rows.length c) 6 by rw [← hW]; exact PtAt.new _ _ _)
  have HB := Lib.hid (show Below w.heap.size w w1 by rw [← hW]; exact (Below.refl _ w).alloc (Nat.le_refl _) _)
  clear hW
  go_wp2_with (first | (refine wpList_loadG rfl 58 _ rfl w.heap.size rfl _ _ HP.out Try.underlying58 rfl (Try.size_pt _ _) ?_))
  refine (isDescending_any ao c rows 6 w1 (by omega) (by omega) Hs.out Hwf.out (Hm.out.below HB.out)).mono ?_
  rintro e w2 ⟨ha, hb⟩
  have HP2 := Lib.hid (HP.out.below hb)
  have HB2 := Lib.hid (HB.out.trans (hb.mono HB.out.size))
  clear hb HP HB
  by_cases q : DpGood rows 6
  · have Q1 := Lib.hid q
    obtain rfl := ha.is q
    clear q ha
    go_wp2_with (first | (refine wpList_loadG rfl 58 _ rfl w.heap.size rfl _ _ HP2.out Try.underlying58 rfl (Try.size_pt _ _) ?_))
    refine (plane_parts ao c rows w2 Q1.out (Hm.out.below HB2.out)).mono ?_
    rintro e w3 ⟨rfl, hb3⟩
    have HB3 := Lib.hid (HB2.out.trans (hb3.mono HB2.out.size))
    clear hb3
    go_wp2
    go_ret2
    exact ⟨IRes.yes Q1.out, HB3.out⟩
  · have Q1 := Lib.hid q
    obtain rfl := ha.isnt q
    clear q ha
    go_wp2
    go_ret2
    exact ⟨IRes.no Q1.out, HB2.out⟩

set_option maxRecDepth 100000 in
set_option maxHeartbeats 800000 in
theorem implPartsOf_any (ao : Option Addr) (c : Nat) (rows : List (List Int)) (w : World) (hs : Small rows) (hwf : WfM rows) (hm : MatAt w ao rows) :
    Calls Try.prog 33 #[.slice ao rows.length c] w fun e w' => IRes (DpGood rows 6) (sumT fOne rows rows.length) e ∧ Below w.heap.size w w' := by
  have C := Lib.hid (told_parts ao c rows w hs hwf hm)
  clear hs hwf hm
  go_enter Try.func33, Try.ntmps33
  go_wp2_with fail
  refine C.out.mono ?_
  rintro e w1 ⟨⟨y, b, rfl, hp⟩, hb⟩
  have Hp := Lib.hid hp
  have Hb := Lib.hid hb
  clear hp hb
  go_wp2
  go_ret2
  exact ⟨⟨y, b, rfl, Hp.out⟩, Hb.out⟩

theorem method_special (ao : Option Addr) (k c : Nat) (n : Int) (w : World) : (method 247 58 (.agg (ptA (.slice ao k c) n)) "loop.example/g01123/impl.special").run Try.prog w = .ok (81, .slice ao k c) w := by kernel_rfl

set_option maxRecDepth 100000 in
set_option maxHeartbeats 1600000 in
theorem told_special (ao : Option Addr) (c : Nat) (rows : List (List Int)) (w : World) (hs : Small rows) (hwf : WfM rows) (hm : MatAt w ao rows) :
    Calls Try.prog 78 #[.slice ao rows.length c, .func (.methodOf 58 "loop.example/g01123/impl.special") #[] #[]] w fun e w' => IRes (DpGood rows 6) (sumT fSpec rows rows.length) e ∧ Below w.heap.size w w' := by
  have hl := hs.1
  have Hm := Lib.hid hm
  have Hs := Lib.hid hs
  have Hwf := Lib.hid hwf
  have hmt := fun w => method_special ao rows.length c 6 w
  clear hm hs hwf
  go_enter Try.func78, Try.ntmps78
  go_upto_region 2 with (first | (refine wpList_buildPt rfl 58 _ rfl [(0, .slice ao rows.length c), (1, .int .i64 6)] rfl (ptA (.slice ao rows.length c) 6) (Try.built_pt _ _ _ _) ?_) | (refine wpList_allocT rfl 58 rfl _ _ Try.info_pt ?_) | (refine wpList_storeT rfl 58 _ _ rfl (ptA (.slice ao rows.length c) 6) (ptA (.slice none 0 0) 0) w.heap.size rfl rfl rfl (Try.size_pt _ _) (pt_same _ _ _ _) (pt_one _ _ _ _) ?_))
  generalize hW : World.alloc w _ = w1
  have HP := Lib.hid (show PtAt w1 w.heap.size (.slice ao rows.length c) 6 by rw [← hW]; exact PtAt.new _ _ _)
  have HB := Lib.hid (show Below w.heap.size w w1 by rw [← hW]; exact (Below.refl _ w).alloc (Nat.le_refl _) _)
  clear hW
  go_wp2_with (first | (refine wpList_loadG rfl 58 _ rfl w.heap.size rfl _ _ HP.out Try.underlying58 rfl (Try.size_pt _ _) ?_))
  refine (isDescending_any ao c rows 6 w1 (by omega) (by omega) Hs.out Hwf.out (Hm.out.below HB.out)).mono ?_
  rintro e w2 ⟨ha, hb⟩
  have HP2 := Lib.hid (HP.out.below hb)
  have HB2 := Lib.hid (HB.out.trans (hb.mono HB.out.size))
  clear hb HP HB
  by_cases q : DpGood rows 6
  · have Q1 := Lib.hid q
    obtain rfl := ha.is q
    clear q ha
    go_wp2_with (first | (refine wpList_loadG rfl 58 _ rfl w.heap.size rfl _ _ HP2.out Try.underlying58 rfl (Try.size_pt _ _) ?_))
    refine (plane_special ao c rows w2 Q1.out (Hm.out.below HB2.out)).mono ?_
    rintro e w3 ⟨rfl, hb3⟩
    have HB3 := Lib.hid (HB2.out.trans (hb3.mono HB2.out.size))
    clear hb3
    go_wp2
    go_ret2
    exact ⟨IRes.yes Q1.out, HB3.out⟩
  · have Q1 := Lib.hid q
    obtain rfl := ha.isnt q
    clear q ha
    go_wp2
    go_ret2
    exact ⟨IRes.no Q1.out, HB2.out⟩

set_option maxRecDepth 100000 in
set_option maxHeartbeats 800000 in
theorem implSpecialParts_any (ao : Option Addr) (c : Nat) (rows : List (List Int)) (w : World) (hs : Small rows) (hwf : WfM rows) (hm : MatAt w ao rows) :
    Calls Try.prog 35 #[.slice ao rows.length c] w fun e w' => IRes (DpGood rows 6) (sumT fSpec rows rows.length) e ∧ Below w.heap.size w w' := by
  have C := Lib.hid (told_special ao c rows w hs hwf hm)
  clear hs hwf hm
  go_enter Try.func35, Try.ntmps35
  go_wp2_with fail
  refine C.out.mono ?_
  rintro e w1 ⟨⟨y, b, rfl, hp⟩, hb⟩
  have Hp := Lib.hid hp
  have Hb := Lib.hid hb
  clear hp hb
  go_wp2
  go_ret2
  exact ⟨⟨y, b, rfl, Hp.out⟩, Hb.out⟩

theorem method_sum (ao : Option Addr) (k c : Nat) (n : Int) (w : World) : (method 247 58 (.agg (ptA (.slice ao k c) n)) "loop.example/g01123/impl.sum").run Try.prog w = .ok (85, .slice ao k c) w := by kernel_rfl

set_option maxRecDepth 100000 in
set_option maxHeartbeats 1600000 in
theorem told_sum (ao : Option Addr) (c : Nat) (rows : List (List Int)) (w : World) (hs : Small rows) (hwf : WfM rows) (hm : MatAt w ao rows) :
    Calls Try.prog 78 #[.slice ao rows.length c, .func (.methodOf 58 "loop.example/g01123/impl.sum") #[] #[]] w fun e w' => IRes (DpGood rows 6) (sumT fId rows rows.length) e ∧ Below w.heap.size w w' := by
  have hl := hs.1
  have Hm := Lib.hid hm
  have Hs := Lib.hid hs
  have Hwf := Lib.hid hwf
  have hmt := fun w => method_sum ao rows.length c 6 w
  clear hm hs hwf
  go_enter Try.func78, Try.ntmps78
  go_upto_region 2 with (first | (refine wpList_buildPt rfl 58 _ rfl [(0, .slice ao rows.length c), (1, .int .i64 6)] rfl (ptA (.slice ao rows.length c) 6) (Try.built_pt _ _ _ _) ?_) | (refine wpList_allocT rfl 58 rfl _ _ Try.info_pt ?_) | (refine wpList_storeT rfl 58 _ _ rfl (ptA (.slice ao rows.length c) 6) (ptA (.slice none 0 0) 0) w.heap.size rfl rfl rfl (Try.size_pt _ _) (pt_same _ _ _ _) (pt_one _ _ _ _) ?_))
  generalize hW : World.alloc w _ = w1
  have HP := Lib.hid (show PtAt w1 w.heap.size (.slice ao rows.length c) 6 by rw [← hW]; exact PtAt.new _ _ _)
  have HB := Lib.hid (show Below w.heap.size w w1 by rw [← hW]; exact (Below.refl _ w).alloc (Nat.le_refl _) _)
  clear hW
  go_wp2_with (first | (refine wpList_loadG rfl 58 _ rfl w.heap.size rfl _ _ HP.out Try.underlying58 rfl (Try.size_pt _ _) ?_))
  refine (isDescending_any ao c rows 6 w1 (by omega) (by omega) Hs.out Hwf.out (Hm.out.below HB.out)).mono ?_
  rintro e w2 ⟨ha, hb⟩
  have HP2 := Lib.hid (HP.out.below hb)
  have HB2 := Lib.hid (HB.out.trans (hb.mono HB.out.size))
  clear hb HP HB
  by_cases q : DpGood rows 6
  · have Q1 := Lib.hid q
    obtain rfl := ha.is q
    clear q ha
    go_wp2_with (first | (refine wpList_loadG rfl 58 _ rfl w.heap.size rfl _ _ HP2.out Try.underlying58 rfl (Try.size_pt _ _) ?_))
    refine (plane_sum ao c rows w2 Q1.out (Hm.out.below HB2.out)).mono ?_
    rintro e w3 ⟨rfl, hb3⟩
    have HB3 := Lib.hid (HB2.out.trans (hb3.mono HB2.out.size))
    clear hb3
    go_wp2
    go_ret2
    exact ⟨IRes.yes Q1.out, HB3.out⟩
  · have Q1 := Lib.hid q
    obtain rfl := ha.isnt q
    clear q ha
    go_wp2
    go_ret2
    exact ⟨IRes.no Q1.out, HB2.out⟩

set_option maxRecDepth 100000 in
set_option maxHeartbeats 800000 in
theorem implSumOfParts_any (ao : Option Addr) (c : Nat) (rows : List (List Int)) (w : World) (hs : Small rows) (hwf : WfM rows) (hm : MatAt w ao rows) :
    Calls Try.prog 39 #[.slice ao rows.length c] w fun e w' => IRes (DpGood rows 6) (sumT fId rows rows.length) e ∧ Below w.heap.size w w' := by
  have C := Lib.hid (told_sum ao c rows w hs hwf hm)
  clear hs hwf hm
  go_enter Try.func39, Try.ntmps39
  go_wp2_with fail
  refine C.out.mono ?_
  rintro e w1 ⟨⟨y, b, rfl, hp⟩, hb⟩
  have Hp := Lib.hid hp
  have Hb := Lib.hid hb
  clear hp hb
  go_wp2
  go_ret2
  exact ⟨⟨y, b, rfl, Hp.out⟩, Hb.out⟩
end Go.Proofs.Ytfempacfaeknpaa

