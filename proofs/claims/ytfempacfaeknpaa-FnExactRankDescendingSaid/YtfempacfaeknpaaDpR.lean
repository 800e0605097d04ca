/- Contracts: FirstRows and RowsBelow, by both sides. Conditions: an int; lengths up to 2^20. -/
import Derived.Test.YtfempacfaeknpaaDpN
import Derived.Test.YtfempacfaeknpaaDpQ
import Derived.Test.YtfempacfaeknpaaDpK
namespace Go.Proofs.Ytfempacfaeknpaa
open Go.RowKit

set_option maxRecDepth 100000 in
set_option maxHeartbeats 800000 in
theorem rows_any (l : List Int) (hl6 : ∀ i, gi l i ≤ 6) (hl : l.length ≤ 5) (ao : Option Addr) (c : Nat) (w : World) (hx : IntsAt w ao l) :
    Calls Try.prog 89 #[.slice ao l.length c] w fun e w' => ∃ v vs, e = .returned v ∧ OwnT w' w.heap.size v (rowsL l) vs ∧ Below w.heap.size w w' := by
  have C := Lib.hid (longer_any l hl6 l.length hl ao none c 0 [] w (by simp) hl hx (IntsAt.nil _ _))
  obtain ⟨R, hR⟩ : ∃ R, R = rowsL l := ⟨_, rfl⟩
  have e : longL l l.length [] = R := hR.symm
  rw [e] at C
  rw [← hR]
  clear hx hR e
  go_enter Try.func89, Try.ntmps89
  go_wp2_with fail
  refine C.out.mono ?_
  rintro e w2 ⟨v, vs, rfl, hv, hb⟩
  have Hv := Lib.hid hv
  have Hb := Lib.hid hb
  clear hv hb
  go_wp2
  go_ret
  exact ⟨_, vs, rfl, Hv.out, Hb.out⟩

theorem lim1_le {n : Nat} (hn : n ≤ 6) : ∀ i, gi (lim1 n) i ≤ 6 := fun i => by
  by_cases h : i < n - 1
  · rw [gi_lim1 h]; omega
  · simp only [gi, List.getD]
    rw [List.getElem?_eq_none (by rw [lim1_len]; omega)]
    simp
theorem limB_le {row : List Int} (hl : row.length ≤ 6) : ∀ i, gi (limB row) i ≤ 6 := fun i => by
  by_cases h : i < row.length - 1
  · rw [gi_limB h]; omega
  · simp only [gi, List.getD]
    rw [List.getElem?_eq_none (by rw [limB_len]; omega)]
    simp

set_option maxRecDepth 100000 in
set_option maxHeartbeats 800000 in
theorem isListed_any (n : Int) (w : World) :
    Calls Try.prog 68 #[.int .i64 n] w fun e w' => Ans (1 ≤ n ∧ n ≤ 4) e ∧ Below w.heap.size w w' := by
  obtain ⟨w1, hw1⟩ : ∃ w1, w1 = w.alloc (.cells #[.int .i64 n] 3) := ⟨_, rfl⟩
  have C := Lib.hid (allIn_any 1 4 (some ⟨w.heap.size, 0, none⟩) 1 [n] w1 (by simp) (by rw [hw1]; exact ints_one w n))
  have HB := Lib.hid (show Below w.heap.size w w1 by rw [hw1]; exact (Below.refl _ _).alloc (Nat.le_refl _) _)
  have Hw1 := Lib.hid hw1
  clear hw1
  go_enter Try.func68, Try.ntmps68
  go_wp2_with fail
  rw [← Hw1.out]
  refine C.out.mono ?_
  rintro e w2 ⟨⟨b, rfl, hb⟩, rfl⟩
  have Hb := Lib.hid (hb.trans allIn_one)
  clear hb
  go_wp2
  go_ret
  exact ⟨⟨b, rfl, Hb.out⟩, HB.out⟩

set_option maxRecDepth 100000 in
set_option maxHeartbeats 800000 in
theorem dpSmall_any (n : Int) (w : World) :
    Calls Try.prog 65 #[.int .i64 n] w fun e w' => Ans (1 ≤ n ∧ n ≤ 4) e ∧ w = w' := by
  go_enter Try.func65, Try.ntmps65
  go_wp2_with fail
  refine (l1In_any n 1 4 w).mono ?_
  rintro e w2 ⟨⟨b, rfl, hb⟩, rfl⟩
  have Hb := Lib.hid hb
  clear hb
  go_wp2
  go_ret
  exact ⟨⟨b, rfl, Hb.out⟩, rfl⟩

set_option maxRecDepth 100000 in
set_option maxHeartbeats 1600000 in
theorem implFirstRows_any (n : Int) (w : World) (_hn : -9223372036854775808 ≤ n ∧ n ≤ 9223372036854775807) :
    Calls Try.prog 50 #[.int .i64 n] w fun e w' => MRes (1 ≤ n ∧ n ≤ 4) (rowsL (lim1 n.toNat)) w' w.heap.size e ∧ Below w.heap.size w w' := by
  have C := Lib.hid (isListed_any n w)
  by_cases q : 1 ≤ n ∧ n ≤ 4
  · obtain ⟨k, rfl⟩ : ∃ k : Nat, n = (k : Int) := ⟨n.toNat, by omega⟩
    rw [Int.toNat_natCast]
    have Hq := Lib.hid q
    have C1 := Lib.hid (fun w => firstLimits_any k w (by omega) (by omega))
    have Hll := Lib.hid (show (lim1 k).length ≤ 5 by rw [lim1_len]; omega)
    have Hl6 := Lib.hid (lim1_le (n := k) (by omega))
    obtain ⟨L, hL⟩ : ∃ L, L = lim1 k := ⟨_, rfl⟩
    rw [← hL] at C1 Hll Hl6 ⊢
    clear q hL
    go_enter Try.func50, Try.ntmps50
    go_wp2_with fail
    refine C.out.mono ?_
    rintro e w1 ⟨ha, hb⟩
    obtain rfl := ha.is Hq.out
    have HB := Lib.hid hb
    clear ha hb
    go_wp2_with fail
    refine (C1.out w1).mono ?_
    rintro e w2 ⟨v, rfl, hv, hb⟩
    obtain ⟨la, lc, rfl, _, _, hI⟩ := hv.read
    have HI := Lib.hid hI
    have HB2 := Lib.hid (HB.out.trans (hb.mono HB.out.size))
    have C2 := Lib.hid (rows_any L Hl6.out Hll.out la lc w2 HI.out)
    clear hv hb hI HB
    go_wp2_with fail
    refine C2.out.mono ?_
    rintro e w3 ⟨v, vs, rfl, hv, hb⟩
    have Hv := Lib.hid ((hv.base HB2.out.size).toM)
    have HB3 := Lib.hid (HB2.out.trans (hb.mono HB2.out.size))
    clear hv hb HB2
    go_wp2
    go_ret2
    exact ⟨MRes.yes Hq.out Hv.out, HB3.out⟩
  · have Hq := Lib.hid q
    clear q
    go_enter Try.func50, Try.ntmps50
    go_wp2_with fail
    refine C.out.mono ?_
    rintro e w1 ⟨ha, hb⟩
    obtain rfl := ha.isnt Hq.out
    have HB := Lib.hid hb
    clear ha hb
    go_wp2
    go_ret2
    exact ⟨MRes.no Hq.out, HB.out⟩

set_option maxRecDepth 100000 in
set_option maxHeartbeats 1600000 in
theorem specFirstRows_any (n : Int) (w : World) (_hn : -9223372036854775808 ≤ n ∧ n ≤ 9223372036854775807) :
    Calls Try.prog 49 #[.int .i64 n] w fun e w' => VRes (1 ≤ n ∧ n ≤ 4) (rowsL (lim1 n.toNat)) w' e ∧ Below w.heap.size w w' := by
  have C := Lib.hid (dpSmall_any n w)
  by_cases q : 1 ≤ n ∧ n ≤ 4
  · obtain ⟨k, rfl⟩ : ∃ k : Nat, n = (k : Int) := ⟨n.toNat, by omega⟩
    rw [Int.toNat_natCast]
    have Hq := Lib.hid q
    have C1 := Lib.hid (dpNext_any k (by omega) (by omega) none 0 [] w ⟨by simp, fun i hi => absurd hi (by simp)⟩ (MatAt.nil _ _))
    rw [(first_rows k (by omega)).resolve_left (by omega)] at C1
    clear q
    go_enter Try.func49, Try.ntmps49
    go_wp2_with fail
    refine C.out.mono ?_
    rintro e w1 ⟨ha, rfl⟩
    obtain rfl := ha.is Hq.out
    clear ha
    go_wp2_with fail
    refine C1.out.mono ?_
    rintro e w3 ⟨v, vs, rfl, hv, hb⟩
    have Hv := Lib.hid hv.read
    have HB3 := Lib.hid hb
    clear hv hb
    go_wp2
    go_ret2
    exact ⟨VRes.yes Hq.out Hv.out, HB3.out⟩
  · have Hq := Lib.hid q
    clear q
    go_enter Try.func49, Try.ntmps49
    go_wp2_with fail
    refine C.out.mono ?_
    rintro e w1 ⟨ha, rfl⟩
    obtain rfl := ha.isnt Hq.out
    clear ha
    go_wp2
    go_ret2
    exact ⟨VRes.no Hq.out, Below.refl _ _⟩

set_option maxRecDepth 100000 in
set_option maxHeartbeats 1600000 in
theorem implRowsBelow_any (ao : Option Addr) (c : Nat) (row : List Int) (w : World) (hr : row.length ≤ 1048576) (hwf : WfI row) (hx : IntsAt w ao row) :
    Calls Try.prog 53 #[.slice ao row.length c] w fun e w' => MRes (DpRow row 6) (rowsL (limB row)) w' w.heap.size e ∧ Below w.heap.size w w' := by
  have C1 := Lib.hid (firstLimits_any 6 w (by omega) (by omega))
  have HE := Lib.hid (allow_first row (n := 6) (by omega))
  have Hx := Lib.hid hx
  have Hwf := Lib.hid hwf
  clear hx hwf
  go_enter Try.func53, Try.ntmps53
  go_wp2_with fail
  refine C1.out.mono ?_
  rintro e w1 ⟨v, rfl, hv, hb⟩
  obtain ⟨la, lc, rfl, _, _, hI⟩ := hv.read
  have HI := Lib.hid hI
  have HB := Lib.hid hb
  have Hx1 := Lib.hid (Hx.out.below hb)
  clear hv hb hI
  go_wp2_with fail
  refine (allow_any la ao lc c (lim1 6) row w1 (by rw [lim1_len]; omega) hr HI.out Hx1.out).mono ?_
  rintro e w2 ⟨ha, rfl⟩
  by_cases q : DpRow row 6
  · have Hq := Lib.hid q
    obtain rfl := ha.is (HE.out.2 q)
    have hl6 := q.2.1
    have h1 := q.1
    have Hl6 := Lib.hid (limB_le (row := row) (by omega))
    have Hll := Lib.hid (show (limB row).length ≤ 5 by rw [limB_len]; omega)
    have Hbd := Lib.hid (show ∀ i, i < row.length → 1 ≤ gi row i ∧ gi row i ≤ 9223372036854775807 from fun i hi => ⟨(q.2.2.1 i hi).1, (Hwf.out i hi).2⟩)
    clear ha q
    go_wp2_with fail
    refine (limitsBelow_any ao c row w1 h1 hr Hbd.out Hx1.out).mono ?_
    rintro e w2 ⟨v, rfl, hv, hb⟩
    obtain ⟨la2, lc2, rfl, _, _, hI⟩ := hv.read
    have HI2 := Lib.hid hI
    have HB2 := Lib.hid (HB.out.trans (hb.mono HB.out.size))
    obtain ⟨L, hL⟩ : ∃ L, L = limB row := ⟨_, rfl⟩
    rw [← hL] at HI2 Hl6 Hll ⊢
    have C2 := Lib.hid (rows_any L Hl6.out Hll.out la2 lc2 w2 HI2.out)
    have HLe := Lib.hid hL
    clear hv hb hI HB hL
    go_wp2_with fail
    refine C2.out.mono ?_
    rintro e w3 ⟨v, vs, rfl, hv, hb⟩
    have Hv := Lib.hid ((hv.base HB2.out.size).toM)
    have HB3 := Lib.hid (HB2.out.trans (hb.mono HB2.out.size))
    clear hv hb HB2
    go_wp2
    go_ret2
    exact ⟨MRes.yes Hq.out (by rw [← HLe.out]; exact Hv.out), HB3.out⟩
  · have Hq := Lib.hid q
    obtain rfl := ha.isnt (fun h => q (HE.out.1 h))
    clear ha q
    go_wp2
    go_ret2
    exact ⟨MRes.no Hq.out, HB.out⟩

set_option maxRecDepth 100000 in
set_option maxHeartbeats 1600000 in
theorem specRowsBelow_any (ao : Option Addr) (c : Nat) (row : List Int) (w : World) (hr : row.length ≤ 1048576) (hx : IntsAt w ao row) (hc : row.length ≤ c) (hc2 : c ≤ 9223372036854775807) :
    Calls Try.prog 51 #[.slice ao row.length c] w fun e w' => VRes (DpRow row 6) (rowsL (limB row)) w' e ∧ Below w.heap.size w w' := by
  have Hx := Lib.hid hx
  clear hx
  go_enter Try.func51, Try.ntmps51
  go_wp2_with fail
  refine (dpRow_any ao c row 6 w (by omega) hr Hx.out).mono ?_
  rintro e w1 ⟨ha, hq⟩
  have HB := Lib.hid (hq.below w.heap.size)
  have Hx1 := Lib.hid (Hx.out.below (hq.below _))
  clear hq
  by_cases q : DpRow row 6
  · have Hq := Lib.hid q
    obtain rfl := ha.is q
    obtain ⟨w2, hw2⟩ : ∃ w2, w2 = w1.alloc (.cells #[.slice ao row.length c] 42) := ⟨_, rfl⟩
    have hb : Below w1.heap.size w1 w2 := by rw [hw2]; exact (Below.refl _ _).alloc (Nat.le_refl _) _
    have hm2 : MatAt w2 (some ⟨w1.heap.size, 0, none⟩) [row] := fun k hk => by
      obtain rfl : k = 0 := by simp at hk; omega
      refine ⟨w1.heap.size, 0, ao, c, rfl, ?_, Hx1.out.below hb, hc, hc2⟩
      rw [hw2, Nat.zero_add, cell_of_row _ _ 0 _ _ _ (heap_alloc_new w1 _)]
      rfl
    have C1 := Lib.hid (dpNext_any 6 (by omega) (by omega) (some ⟨w1.heap.size, 0, none⟩) 1 [row] w2 ⟨by simp, fun i hi => by obtain rfl : i = 0 := by simp at hi; omega
                                                                                                                              exact hr⟩ hm2)
    rw [rows_below q] at C1
    have HB2 := Lib.hid (HB.out.trans (hb.mono HB.out.size))
    have Hw2 := Lib.hid hw2
    clear ha q hb hm2 hw2
    go_wp2_with fail
    rw [← Hw2.out]
    refine C1.out.mono ?_
    rintro e w3 ⟨v, vs, rfl, hv, hb⟩
    have Hv := Lib.hid hv.read
    have HB3 := Lib.hid (HB2.out.trans (hb.mono HB2.out.size))
    clear hv hb
    go_wp2
    go_ret2
    exact ⟨VRes.yes Hq.out Hv.out, HB3.out⟩
  · have Hq := Lib.hid q
    obtain rfl := ha.isnt q
    clear ha q
    go_wp2
    go_ret2
    exact ⟨VRes.no Hq.out, HB.out⟩

theorem longL_allow {l : List Int} : ∀ f b r, r ∈ longL l f b → Allow l r
  | 0, b, r, h => by simp [longL] at h
  | f + 1, b, r, h => by
    unfold longL longTo at h
    obtain ⟨x, _, hx⟩ := List.mem_flatMap.1 h
    unfold longStep at hx
    split at hx
    · next e =>
      rcases List.mem_cons.1 hx with rfl | hx
      · exact e
      · exact longL_allow f _ r hx
    · simp at hx
theorem rowsL_small {l : List Int} (h6 : ∀ i, gi l i ≤ 6) (hl : l.length ≤ 5) : Small (rowsL l) := by
  refine ⟨?_, fun i hi => ?_⟩
  · have h1 := longL_len h6 l.length []
    have h2 := boundL_le hl
    unfold rowsL
    omega
  · have h1 : Allow l (gr (rowsL l) i) := longL_allow (l := l) l.length [] _ (show gr (rowsL l) i ∈ longL l l.length [] from gr_mem hi)
    have := h1.2.1
    omega
end Go.Proofs.Ytfempacfaeknpaa
