/- Parts of proofs: contracts and plain facts. Conditions: as each says. -/
import Derived.Test.YtfempacfaeknpaaK09
namespace Go.Proofs.Ytfempacfaeknpaa
open Go.RowKit

theorem allIn_one {n lo hi : Int} : allIn [n] lo hi ↔ lo ≤ n ∧ n ≤ hi := by
  constructor
  · intro h
    exact h 0 (by simp)
  · intro h k hk
    obtain rfl : k = 0 := by simp at hk; omega
    exact h
theorem ints_one (w : World) (n : Int) : IntsAt (w.alloc (.cells #[.int .i64 n] 3)) (some ⟨w.heap.size, 0, none⟩) [n] := fun k hk => by
  obtain rfl : k = 0 := by simp at hk; omega
  refine ⟨w.heap.size, 0, rfl, ?_⟩
  rw [Nat.zero_add, cell_of_row _ _ 0 _ _ _ (heap_alloc_new w _)]
  rfl

set_option maxRecDepth 100000 in
set_option maxHeartbeats 1600000 in
theorem implIsDescending_any (ao : Option Addr) (c : Nat) (rows : List (List Int)) (n : Int) (w : World) (hs : Small rows) (hwf : WfM rows) (hm : MatAt w ao rows) (_hn : -9223372036854775808 ≤ n ∧ n ≤ 9223372036854775807) :
    Calls Try.prog 21 #[.slice ao rows.length c, .int .i64 n] w fun e w' => BRes (1 ≤ n ∧ n ≤ 6) (DpGood rows n.toNat) e ∧ Below w.heap.size w w' := by
  have Hs := Lib.hid hs
  have Hm := Lib.hid hm
  have Hwf := Lib.hid hwf
  obtain ⟨w1, hw1⟩ : ∃ w1, w1 = w.alloc (.cells #[.int .i64 n] 3) := ⟨_, rfl⟩
  have C := Lib.hid (allIn_any 1 6 (some ⟨w.heap.size, 0, none⟩) 1 [n] w1 (by simp) (by rw [hw1]; exact ints_one w n))
  have HB := Lib.hid (show Below w.heap.size w w1 by rw [hw1]; exact (Below.refl _ _).alloc (Nat.le_refl _) _)
  have Hw1 := Lib.hid hw1
  clear hs hm hwf hw1
  go_enter Try.func21, Try.ntmps21
  go_wp2_with fail
  rw [← Hw1.out]
  refine C.out.mono ?_
  rintro e w2 ⟨ha, rfl⟩
  by_cases q : 1 ≤ n ∧ n ≤ 6
  · have Q2 := Lib.hid q
    obtain rfl := ha.is (allIn_one.2 q)
    obtain ⟨k, rfl⟩ : ∃ k : Nat, n = (k : Int) := ⟨n.toNat, by omega⟩
    have C2 := Lib.hid (isDescending_any ao c rows k w1 (by omega) (by omega) Hs.out Hwf.out (Hm.out.below HB.out))
    clear q ha C Hw1
    go_wp2_with (first | (refine wpList_buildPt rfl 58 _ rfl [(0, .slice ao rows.length c), (1, .int .i64 (k : Int))] rfl (ptA (.slice ao rows.length c) (k : Int)) (Try.built_pt _ _ _ _) ?_))
    refine C2.out.mono ?_
    rintro e w3 ⟨⟨b, rfl, hb⟩, hq⟩
    have Hq := Lib.hid (HB.out.trans (hq.mono HB.out.size))
    have Hb := Lib.hid hb
    clear hq hb
    go_wp2
    go_ret2
    exact ⟨⟨b, true, rfl, .inl ⟨Q2.out, rfl, by rw [Int.toNat_natCast]; exact Hb.out⟩⟩, Hq.out⟩
  · have Q1 := Lib.hid q
    obtain rfl := ha.isnt (fun h => q (allIn_one.1 h))
    clear q ha
    go_wp2
    go_ret2
    exact ⟨⟨false, false, rfl, .inr ⟨Q1.out, rfl, rfl⟩⟩, HB.out⟩

set_option maxRecDepth 100000 in
set_option maxHeartbeats 1600000 in
theorem partsEqual1_any (ao : Option Addr) (c g : Nat) (rows : List (List Int)) (n : Int) (w : World) (hg : DpGood rows 6) (hm : MatAt w ao rows) (hc : w.cell? ⟨g, 0, none⟩ = some (.int .i64 n)) :
    Calls Try.prog 83 #[.agg (ptA (.slice ao rows.length c) 6), .pointer (some ⟨g, 0, none⟩)] w fun e w' => e = .returned (.int .i64 (sumT (fEq n) rows rows.length)) ∧ Below w.heap.size w w' := by
  have Hg := Lib.hid hg
  have Hm := Lib.hid hm
  have Hc := Lib.hid hc
  clear hg hm hc
  go_enter Try.func83, Try.ntmps83
  go_upto_region 1 with (refine wpList_boxT rfl 58 _ rfl _ rfl ?_)
  generalize hW : World.alloc w _ = w1
  have hP : PtAt w1 w.heap.size (.slice ao rows.length c) 6 := by rw [← hW]; exact PtAt.new _ _ _
  have HB := Lib.hid (show Below w.heap.size w w1 by rw [← hW]; exact (Below.refl _ w).alloc (Nat.le_refl _) _)
  have hc0 := hP.c0
  have hc2 : w1.cell? ⟨g, 0, none⟩ = some (.int .i64 n) := cell_below Hc.out HB.out
  clear hW hP
  go_wp2_with fail
  refine (plane_equalTo ao c rows n w1 Hg.out (Hm.out.below HB.out)).mono ?_
  rintro e w2 ⟨rfl, hb⟩
  have HB2 := Lib.hid (HB.out.trans (hb.mono HB.out.size))
  clear hb hc0 hc2
  go_wp2
  go_ret
  exact ⟨rfl, HB2.out⟩

set_option maxRecDepth 100000 in
set_option maxHeartbeats 1600000 in
theorem told_equal (g : Nat) (n : Int) (ao : Option Addr) (c : Nat) (rows : List (List Int)) (w : World) (hs : Small rows) (hwf : WfM rows) (hm : MatAt w ao rows) (hc : w.cell? ⟨g, 0, none⟩ = some (.int .i64 n)) :
    Calls Try.prog 78 #[.slice ao rows.length c, .func (.func 83) #[] #[.pointer (some ⟨g, 0, none⟩)]] w fun e w' => IRes (DpGood rows 6) (sumT (fEq n) rows rows.length) e ∧ Below w.heap.size w w' := by
  have hl := hs.1
  have Hm := Lib.hid hm
  have Hs := Lib.hid hs
  have Hwf := Lib.hid hwf
  have Hc := Lib.hid hc
  clear hc
  clear hm hs hwf
  go_enter Try.func78, Try.ntmps78
  go_upto_region 2 with (first | (refine wpList_buildPt rfl 58 _ rfl [(0, .slice ao rows.length c), (1, .int .i64 6)] rfl (ptA (.slice ao rows.length c) 6) (Try.built_pt _ _ _ _) ?_) | (refine wpList_allocT rfl 58 rfl _ _ Try.info_pt ?_) | (refine wpList_storeT rfl 58 _ _ rfl (ptA (.slice ao rows.length c) 6) (ptA (.slice none 0 0) 0) w.heap.size rfl rfl rfl (Try.size_pt _ _) (pt_same _ _ _ _) (pt_one _ _ _ _) ?_))
  generalize hW : World.alloc w _ = w1
  have HP := Lib.hid (show PtAt w1 w.heap.size (.slice ao rows.length c) 6 by rw [← hW]; exact PtAt.new _ _ _)
  have HB := Lib.hid (show Below w.heap.size w w1 by rw [← hW]; exact (Below.refl _ w).alloc (Nat.le_refl _) _)
  clear hW
  go_wp2_with (first | (refine wpList_loadG rfl 58 _ rfl w.heap.size rfl _ _ HP.out Try.underlying58 rfl (Try.size_pt _ _) ?_))
  refine (isDescending_any ao c rows 6 w1 (by omega) (by omega) Hs.out Hwf.out (Hm.out.below HB.out)).mono ?_
  rintro e w2 ⟨ha, hb⟩
  have HP2 := Lib.hid (HP.out.below hb)
  have HB2 := Lib.hid (HB.out.trans (hb.mono HB.out.size))
  clear hb HP HB
  by_cases q : DpGood rows 6
  · have Q1 := Lib.hid q
    obtain rfl := ha.is q
    clear q ha
    go_wp2_with (first | (refine wpList_loadG rfl 58 _ rfl w.heap.size rfl _ _ HP2.out Try.underlying58 rfl (Try.size_pt _ _) ?_))
    refine (partsEqual1_any ao c g rows n w2 Q1.out (Hm.out.below HB2.out) (cell_below Hc.out HB2.out)).mono ?_
    rintro e w3 ⟨rfl, hb3⟩
    have HB3 := Lib.hid (HB2.out.trans (hb3.mono HB2.out.size))
    clear hb3
    go_wp2
    go_ret2
    exact ⟨IRes.yes Q1.out, HB3.out⟩
  · have Q1 := Lib.hid q
    obtain rfl := ha.isnt q
    clear q ha
    go_wp2
    go_ret2
    exact ⟨IRes.no Q1.out, HB2.out⟩

set_option maxRecDepth 100000 in
set_option maxHeartbeats 1600000 in
theorem implPartsEqual_any (ao : Option Addr) (c : Nat) (rows : List (List Int)) (n : Int) (w : World) (hs : Small rows) (hwf : WfM rows) (hm : MatAt w ao rows) (_hn : -9223372036854775808 ≤ n ∧ n ≤ 9223372036854775807) :
    Calls Try.prog 37 #[.slice ao rows.length c, .int .i64 n] w fun e w' => IRes (DpGood rows 6 ∧ 2 ≤ n ∧ n ≤ 6) (sumT (fEq n) rows rows.length) e ∧ Below w.heap.size w w' := by
  have Hs := Lib.hid hs
  have Hm := Lib.hid hm
  have Hwf := Lib.hid hwf
  obtain ⟨w1, hw1⟩ : ∃ w1, w1 = w.alloc (.cells #[.int .i64 n] 3) := ⟨_, rfl⟩
  obtain ⟨w2, hw2⟩ : ∃ w2, w2 = w1.alloc (.cells #[.int .i64 n] 3) := ⟨_, rfl⟩
  have hz1 : w1.heap.size = w.heap.size + 1 := by rw [hw1]; simp
  have C := Lib.hid (allIn_any 2 6 (some ⟨w1.heap.size, 0, none⟩) 1 [n] w2 (by simp) (by rw [hw2]; exact ints_one w1 n))
  have hB : Below w.heap.size w w2 := by rw [hw2, hw1]; exact ((Below.refl _ _).alloc (Nat.le_refl _) _).alloc (by simp) _
  have hcell1 : w1.cell? ⟨w.heap.size, 0, none⟩ = some (.int .i64 n) := by rw [hw1, cell_of_row _ _ 0 _ _ _ (heap_alloc_new w _)]; rfl
  have hcell2 : w2.cell? ⟨w.heap.size, 0, none⟩ = some (.int .i64 n) := cell_below hcell1 (by rw [hw2]; exact (Below.refl _ _).alloc (Nat.le_refl _) _)
  have HB := Lib.hid hB
  have Hc := Lib.hid hcell2
  have C2 := Lib.hid (told_equal w.heap.size n ao c rows w2 hs hwf (hm.below hB) hcell2)
  rw [hz1] at C
  have Hw1 := Lib.hid hw1
  have Hw2 := Lib.hid hw2
  have Hz1 := Lib.hid hz1
  rw [hw1] at hcell1
  clear hs hm hwf hw1 hw2 hz1 hB hcell2
  go_enter Try.func37, Try.ntmps37
  go_wp2_with fail
  rw [← Hw1.out, ← Hw2.out]
  refine C.out.mono ?_
  rintro e w3 ⟨ha, rfl⟩
  by_cases q : 2 ≤ n ∧ n ≤ 6
  · have Q2 := Lib.hid q
    obtain rfl := ha.is (allIn_one.2 q)
    clear q ha C
    go_wp2_with fail
    refine C2.out.mono ?_
    rintro e w4 ⟨⟨y, b, rfl, hp⟩, hb⟩
    have Hp := Lib.hid hp
    have Hb := Lib.hid (HB.out.trans (hb.mono HB.out.size))
    clear hp hb
    go_wp2
    go_ret2
    refine ⟨⟨y, b, rfl, ?_⟩, Hb.out⟩
    rcases Hp.out with ⟨h1, h2, h3⟩ | ⟨h1, h2, h3⟩
    · exact .inl ⟨⟨h1, Q2.out⟩, h2, h3⟩
    · exact .inr ⟨fun h => h1 h.1, h2, h3⟩
  · have Q1 := Lib.hid (show ¬(DpGood rows 6 ∧ 2 ≤ n ∧ n ≤ 6) from fun h => q h.2)
    obtain rfl := ha.isnt (fun h => q (allIn_one.1 h))
    clear q ha
    go_wp2
    go_ret2
    exact ⟨IRes.no Q1.out, HB.out⟩
end Go.Proofs.Ytfempacfaeknpaa

namespace Go.Proofs.Ytfempacfaeknpaa
open Go.RowKit

set_option maxRecDepth 100000 in
set_option maxHeartbeats 800000 in
theorem rows_any (l : List Int) (hl6 : ∀ i, gi l i ≤ 6) (hl : l.length ≤ 5) (ao : Option Addr) (c : Nat) (w : World) (hx : IntsAt w ao l) :
    Calls Try.prog 89 #[.slice ao l.length c] w fun e w' => ∃ v vs, e = .returned v ∧ OwnT w' w.heap.size v (rowsL l) vs ∧ Below w.heap.size w w' := by
  have C := Lib.hid (longer_any l hl6 l.length hl ao none c 0 [] w (by simp) hl hx (IntsAt.nil _ _))
  obtain ⟨R, hR⟩ : ∃ R, R = rowsL l := ⟨_, rfl⟩
  have e : longL l l.length [] = R := hR.symm
  rw [e] at C
  rw [← hR]
  clear hx hR e
  go_enter Try.func89, Try.ntmps89
  go_wp2_with fail
  refine C.out.mono ?_
  rintro e w2 ⟨v, vs, rfl, hv, hb⟩
  have Hv := Lib.hid hv
  have Hb := Lib.hid hb
  clear hv hb
  go_wp2
  go_ret
  exact ⟨_, vs, rfl, Hv.out, Hb.out⟩

theorem lim1_le {n : Nat} (hn : n ≤ 6) : ∀ i, gi (lim1 n) i ≤ 6 := fun i => by
  by_cases h : i < n - 1
  · rw [gi_lim1 h]; omega
  · simp only [gi, List.getD]
    rw [List.getElem?_eq_none (by rw [lim1_len]; omega)]
    simp
theorem limB_le {row : List Int} (hl : row.length ≤ 6) : ∀ i, gi (limB row) i ≤ 6 := fun i => by
  by_cases h : i < row.length - 1
  · rw [gi_limB h]; omega
  · simp only [gi, List.getD]
    rw [List.getElem?_eq_none (by rw [limB_len]; omega)]
    simp

set_option maxRecDepth 100000 in
set_option maxHeartbeats 800000 in
theorem isListed_any (n : Int) (w : World) :
    Calls Try.prog 68 #[.int .i64 n] w fun e w' => Ans (1 ≤ n ∧ n ≤ 4) e ∧ Below w.heap.size w w' := by
  obtain ⟨w1, hw1⟩ : ∃ w1, w1 = w.alloc (.cells #[.int .i64 n] 3) := ⟨_, rfl⟩
  have C := Lib.hid (allIn_any 1 4 (some ⟨w.heap.size, 0, none⟩) 1 [n] w1 (by simp) (by rw [hw1]; exact ints_one w n))
  have HB := Lib.hid (show Below w.heap.size w w1 by rw [hw1]; exact (Below.refl _ _).alloc (Nat.le_refl _) _)
  have Hw1 := Lib.hid hw1
  clear hw1
  go_enter Try.func68, Try.ntmps68
  go_wp2_with fail
  rw [← Hw1.out]
  refine C.out.mono ?_
  rintro e w2 ⟨⟨b, rfl, hb⟩, rfl⟩
  have Hb := Lib.hid (hb.trans allIn_one)
  clear hb
  go_wp2
  go_ret
  exact ⟨⟨b, rfl, Hb.out⟩, HB.out⟩

set_option maxRecDepth 100000 in
set_option maxHeartbeats 800000 in
theorem dpSmall_any (n : Int) (w : World) :
    Calls Try.prog 65 #[.int .i64 n] w fun e w' => Ans (1 ≤ n ∧ n ≤ 4) e ∧ w = w' := by
  go_enter Try.func65, Try.ntmps65
  go_wp2_with fail
  refine (l1In_any n 1 4 w).mono ?_
  rintro e w2 ⟨⟨b, rfl, hb⟩, rfl⟩
  have Hb := Lib.hid hb
  clear hb
  go_wp2
  go_ret
  exact ⟨⟨b, rfl, Hb.out⟩, rfl⟩

set_option maxRecDepth 100000 in
set_option maxHeartbeats 1600000 in
theorem implFirstRows_any (n : Int) (w : World) (_hn : -9223372036854775808 ≤ n ∧ n ≤ 9223372036854775807) :
    Calls Try.prog 50 #[.int .i64 n] w fun e w' => MRes (1 ≤ n ∧ n ≤ 4) (rowsL (lim1 n.toNat)) w' w.heap.size e ∧ Below w.heap.size w w' := by
  have C := Lib.hid (isListed_any n w)
  by_cases q : 1 ≤ n ∧ n ≤ 4
  · obtain ⟨k, rfl⟩ : ∃ k : Nat, n = (k : Int) := ⟨n.toNat, by omega⟩
    rw [Int.toNat_natCast]
    have Hq := Lib.hid q
    have C1 := Lib.hid (fun w => firstLimits_any k w (by omega) (by omega))
    have Hll := Lib.hid (show (lim1 k).length ≤ 5 by rw [lim1_len]; omega)
    have Hl6 := Lib.hid (lim1_le (n := k) (by omega))
    obtain ⟨L, hL⟩ : ∃ L, L = lim1 k := ⟨_, rfl⟩
    rw [← hL] at C1 Hll Hl6 ⊢
    clear q hL
    go_enter Try.func50, Try.ntmps50
    go_wp2_with fail
    refine C.out.mono ?_
    rintro e w1 ⟨ha, hb⟩
    obtain rfl := ha.is Hq.out
    have HB := Lib.hid hb
    clear ha hb
    go_wp2_with fail
    refine (C1.out w1).mono ?_
    rintro e w2 ⟨v, rfl, hv, hb⟩
    obtain ⟨la, lc, rfl, _, _, hI⟩ := hv.read
    have HI := Lib.hid hI
    have HB2 := Lib.hid (HB.out.trans (hb.mono HB.out.size))
    have C2 := Lib.hid (rows_any L Hl6.out Hll.out la lc w2 HI.out)
    clear hv hb hI HB
    go_wp2_with fail
    refine C2.out.mono ?_
    rintro e w3 ⟨v, vs, rfl, hv, hb⟩
    have Hv := Lib.hid ((hv.base HB2.out.size).toM)
    have HB3 := Lib.hid (HB2.out.trans (hb.mono HB2.out.size))
    clear hv hb HB2
    go_wp2
    go_ret2
    exact ⟨MRes.yes Hq.out Hv.out, HB3.out⟩
  · have Hq := Lib.hid q
    clear q
    go_enter Try.func50, Try.ntmps50
    go_wp2_with fail
    refine C.out.mono ?_
    rintro e w1 ⟨ha, hb⟩
    obtain rfl := ha.isnt Hq.out
    have HB := Lib.hid hb
    clear ha hb
    go_wp2
    go_ret2
    exact ⟨MRes.no Hq.out, HB.out⟩

set_option maxRecDepth 100000 in
set_option maxHeartbeats 1600000 in
theorem specFirstRows_any (n : Int) (w : World) (_hn : -9223372036854775808 ≤ n ∧ n ≤ 9223372036854775807) :
    Calls Try.prog 49 #[.int .i64 n] w fun e w' => VRes (1 ≤ n ∧ n ≤ 4) (rowsL (lim1 n.toNat)) w' e ∧ Below w.heap.size w w' := by
  have C := Lib.hid (dpSmall_any n w)
  by_cases q : 1 ≤ n ∧ n ≤ 4
  · obtain ⟨k, rfl⟩ : ∃ k : Nat, n = (k : Int) := ⟨n.toNat, by omega⟩
    rw [Int.toNat_natCast]
    have Hq := Lib.hid q
    have C1 := Lib.hid (dpNext_any k (by omega) (by omega) none 0 [] w ⟨by simp, fun i hi => absurd hi (by simp)⟩ (MatAt.nil _ _))
    rw [(first_rows k (by omega)).resolve_left (by omega)] at C1
    clear q
    go_enter Try.func49, Try.ntmps49
    go_wp2_with fail
    refine C.out.mono ?_
    rintro e w1 ⟨ha, rfl⟩
    obtain rfl := ha.is Hq.out
    clear ha
    go_wp2_with fail
    refine C1.out.mono ?_
    rintro e w3 ⟨v, vs, rfl, hv, hb⟩
    have Hv := Lib.hid hv.read
    have HB3 := Lib.hid hb
    clear hv hb
    go_wp2
    go_ret2
    exact ⟨VRes.yes Hq.out Hv.out, HB3.out⟩
  · have Hq := Lib.hid q
    clear q
    go_enter Try.func49, Try.ntmps49
    go_wp2_with fail
    refine C.out.mono ?_
    rintro e w1 ⟨ha, rfl⟩
    obtain rfl := ha.isnt Hq.out
    clear ha
    go_wp2
    go_ret2
    exact ⟨VRes.no Hq.out, Below.refl _ _⟩

set_option maxRecDepth 100000 in
set_option maxHeartbeats 1600000 in
theorem implRowsBelow_any (ao : Option Addr) (c : Nat) (row : List Int) (w : World) (hr : row.length ≤ 1048576) (hwf : WfI row) (hx : IntsAt w ao row) :
    Calls Try.prog 53 #[.slice ao row.length c] w fun e w' => MRes (DpRow row 6) (rowsL (limB row)) w' w.heap.size e ∧ Below w.heap.size w w' := by
  have C1 := Lib.hid (firstLimits_any 6 w (by omega) (by omega))
  have HE := Lib.hid (allow_first row (n := 6) (by omega))
  have Hx := Lib.hid hx
  have Hwf := Lib.hid hwf
  clear hx hwf
  go_enter Try.func53, Try.ntmps53
  go_wp2_with fail
  refine C1.out.mono ?_
  rintro e w1 ⟨v, rfl, hv, hb⟩
  obtain ⟨la, lc, rfl, _, _, hI⟩ := hv.read
  have HI := Lib.hid hI
  have HB := Lib.hid hb
  have Hx1 := Lib.hid (Hx.out.below hb)
  clear hv hb hI
  go_wp2_with fail
  refine (allow_any la ao lc c (lim1 6) row w1 (by rw [lim1_len]; omega) hr HI.out Hx1.out).mono ?_
  rintro e w2 ⟨ha, rfl⟩
  by_cases q : DpRow row 6
  · have Hq := Lib.hid q
    obtain rfl := ha.is (HE.out.2 q)
    have hl6 := q.2.1
    have h1 := q.1
    have Hl6 := Lib.hid (limB_le (row := row) (by omega))
    have Hll := Lib.hid (show (limB row).length ≤ 5 by rw [limB_len]; omega)
    have Hbd := Lib.hid (show ∀ i, i < row.length → 1 ≤ gi row i ∧ gi row i ≤ 9223372036854775807 from fun i hi => ⟨(q.2.2.1 i hi).1, (Hwf.out i hi).2⟩)
    clear ha q
    go_wp2_with fail
    refine (limitsBelow_any ao c row w1 h1 hr Hbd.out Hx1.out).mono ?_
    rintro e w2 ⟨v, rfl, hv, hb⟩
    obtain ⟨la2, lc2, rfl, _, _, hI⟩ := hv.read
    have HI2 := Lib.hid hI
    have HB2 := Lib.hid (HB.out.trans (hb.mono HB.out.size))
    obtain ⟨L, hL⟩ : ∃ L, L = limB row := ⟨_, rfl⟩
    rw [← hL] at HI2 Hl6 Hll ⊢
    have C2 := Lib.hid (rows_any L Hl6.out Hll.out la2 lc2 w2 HI2.out)
    have HLe := Lib.hid hL
    clear hv hb hI HB hL
    go_wp2_with fail
    refine C2.out.mono ?_
    rintro e w3 ⟨v, vs, rfl, hv, hb⟩
    have Hv := Lib.hid ((hv.base HB2.out.size).toM)
    have HB3 := Lib.hid (HB2.out.trans (hb.mono HB2.out.size))
    clear hv hb HB2
    go_wp2
    go_ret2
    exact ⟨MRes.yes Hq.out (by rw [← HLe.out]; exact Hv.out), HB3.out⟩
  · have Hq := Lib.hid q
    obtain rfl := ha.isnt (fun h => q (HE.out.1 h))
    clear ha q
    go_wp2
    go_ret2
    exact ⟨MRes.no Hq.out, HB.out⟩

set_option maxRecDepth 100000 in
set_option maxHeartbeats 1600000 in
theorem specRowsBelow_any (ao : Option Addr) (c : Nat) (row : List Int) (w : World) (hr : row.length ≤ 1048576) (hx : IntsAt w ao row) (hc : row.length ≤ c) (hc2 : c ≤ 9223372036854775807) :
    Calls Try.prog 51 #[.slice ao row.length c] w fun e w' => VRes (DpRow row 6) (rowsL (limB row)) w' e ∧ Below w.heap.size w w' := by
  have Hx := Lib.hid hx
  clear hx
  go_enter Try.func51, Try.ntmps51
  go_wp2_with fail
  refine (dpRow_any ao c row 6 w (by omega) hr Hx.out).mono ?_
  rintro e w1 ⟨ha, hq⟩
  have HB := Lib.hid (hq.below w.heap.size)
  have Hx1 := Lib.hid (Hx.out.below (hq.below _))
  clear hq
  by_cases q : DpRow row 6
  · have Hq := Lib.hid q
    obtain rfl := ha.is q
    obtain ⟨w2, hw2⟩ : ∃ w2, w2 = w1.alloc (.cells #[.slice ao row.length c] 42) := ⟨_, rfl⟩
    have hb : Below w1.heap.size w1 w2 := by rw [hw2]; exact (Below.refl _ _).alloc (Nat.le_refl _) _
    have hm2 : MatAt w2 (some ⟨w1.heap.size, 0, none⟩) [row] := fun k hk => by
      obtain rfl : k = 0 := by simp at hk; omega
      refine ⟨w1.heap.size, 0, ao, c, rfl, ?_, Hx1.out.below hb, hc, hc2⟩
      rw [hw2, Nat.zero_add, cell_of_row _ _ 0 _ _ _ (heap_alloc_new w1 _)]
      rfl
    have C1 := Lib.hid (dpNext_any 6 (by omega) (by omega) (some ⟨w1.heap.size, 0, none⟩) 1 [row] w2 ⟨by simp, fun i hi => by obtain rfl : i = 0 := by simp at hi; omega
                                                                                                                              exact hr⟩ hm2)
    rw [rows_below q] at C1
    have HB2 := Lib.hid (HB.out.trans (hb.mono HB.out.size))
    have Hw2 := Lib.hid hw2
    clear ha q hb hm2 hw2
    go_wp2_with fail
    rw [← Hw2.out]
    refine C1.out.mono ?_
    rintro e w3 ⟨v, vs, rfl, hv, hb⟩
    have Hv := Lib.hid hv.read
    have HB3 := Lib.hid (HB2.out.trans (hb.mono HB2.out.size))
    clear hv hb
    go_wp2
    go_ret2
    exact ⟨VRes.yes Hq.out Hv.out, HB3.out⟩
  · have Hq := Lib.hid q
    obtain rfl := ha.isnt q
    clear ha q
    go_wp2
    go_ret2
    exact ⟨VRes.no Hq.out, HB.out⟩

theorem longL_allow {l : List Int} : ∀ f b r, r ∈ longL l f b → Allow l r
  | 0, b, r, h => by simp [longL] at h
  | f + 1, b, r, h => by
    unfold longL longTo at h
    obtain ⟨x, _, hx⟩ := List.mem_flatMap.1 h
    unfold longStep at hx
    split at hx
    · next e =>
      rcases List.mem_cons.1 hx with rfl | hx
      · exact e
      · exact longL_allow f _ r hx
    · simp at hx
theorem rowsL_small {l : List Int} (h6 : ∀ i, gi l i ≤ 6) (hl : l.length ≤ 5) : Small (rowsL l) := by
  refine ⟨?_, fun i hi => ?_⟩
  · have h1 := longL_len h6 l.length []
    have h2 := boundL_le hl
    unfold rowsL
    omega
  · have h1 : Allow l (gr (rowsL l) i) := longL_allow (l := l) l.length [] _ (show gr (rowsL l) i ∈ longL l l.length [] from gr_mem hi)
    have := h1.2.1
    omega
end Go.Proofs.Ytfempacfaeknpaa

namespace Go.Proofs.Ytfempacfaeknpaa

/-- the partitions of which the first row is allowed, by the program -/
def planesL : Nat → List Int → List (List (List Int))
  | 0, _ => [[]]
  | f + 1, l => [] :: (rowsL l).flatMap fun row => (planesL f (limB row)).map fun p => row :: p
/-- how many they are -/
def countL : Nat → List Int → Nat
  | 0, _ => 1
  | f + 1, l => 1 + ((rowsL l).map fun row => countL f (limB row)).sum
/-- the partitions that go on rows, by the model -/
def allD (n : Nat) : Nat → List (List Int) → List (List (List Int))
  | 0, rows => [rows]
  | f + 1, rows => rows :: (nextD n rows).flatMap fun row => allD n f (rows ++ [row])
theorem planes_all : ∀ n : Nat, n < 5 → n = 0 ∨ allD n n [] = planesL (n - 1) (lim1 n) := by decide +kernel
theorem count_all : ∀ n : Nat, n < 6 → n = 0 ∨ (allD n n []).length = countL (n - 1) (lim1 n) := by decide +kernel
end Go.Proofs.Ytfempacfaeknpaa

namespace Go.Proofs.Ytfempacfaeknpaa
open Go.RowKit

theorem Try.info_intssW : (Try.prog.info? 22).map (fun i => (i.zero, i.size, i.bytes)) = some (some (.slice none 0 0), 1, 24) := by kernel_rfl
/-- the table at an index -/
def gt (ts : List (List (List Int))) (i : Nat) : List (List Int) := ts.getD i []
theorem gt_lt {ts : List (List (List Int))} {i : Nat} (h : i < ts.length) : gt ts i = ts[i] := by simp [gt, List.getD, h]
theorem gt_mem {ts : List (List (List Int))} {i : Nat} (h : i < ts.length) : gt ts i ∈ ts := by rw [gt_lt h]; exact List.getElem_mem _
theorem gt_app_left {a b : List (List (List Int))} {i : Nat} (h : i < a.length) : gt (a ++ b) i = gt a i := by
  rw [gt_lt (by simp; omega), gt_lt h, List.getElem_append_left h]
theorem gt_app_right {a b : List (List (List Int))} {i : Nat} (h : i < b.length) : gt (a ++ b) (a.length + i) = gt b i := by
  rw [gt_lt (by simp; omega), gt_lt h, List.getElem_append_right (by omega)]
  simp
theorem gr_app_left {a b : List (List Int)} {i : Nat} (h : i < a.length) : gr (a ++ b) i = gr a i := by
  rw [gr_lt (by simp; omega), gr_lt h, List.getElem_append_left h]
theorem gr_app_right {a b : List (List Int)} {i : Nat} (h : i < b.length) : gr (a ++ b) (a.length + i) = gr b i := by
  rw [gr_lt (by simp; omega), gr_lt h, List.getElem_append_right (by omega)]
  simp
theorem getD_left {a b : List Value} {i : Nat} (h : i < a.length) : (a ++ b).getD i undef = a.getD i undef := by
  simp only [List.getD]; rw [List.getElem?_append_left h]
theorem getD_right {a b : List Value} {i : Nat} (h : a.length ≤ i) : (a ++ b).getD i undef = b.getD (i - a.length) undef := by
  simp only [List.getD]; rw [List.getElem?_append_right h]

theorem row_apart {w : World} {B B' n n' : Nat} {e e' : TypeId} {x v : Value} {xs ys : List Value} (h : w.ownsRow B e 1 x n xs) (k : w.ownsRow B' e' 1 v n' ys) (hne : e ≠ e') : ∀ g, x.ownBlock = some g → v.ownBlock ≠ some g := by
  intro g hg hv
  rcases h.2 with ⟨rfl, _⟩ | ⟨g1, cap1, cur1, rfl, _, h1, _⟩
  · simp [Value.ownBlock] at hg
  rcases k.2 with ⟨rfl, _⟩ | ⟨g2, cap2, cur2, rfl, _, h2, _⟩
  · simp [Value.ownBlock] at hv
  simp only [Value.ownBlock, Option.some.injEq] at hg hv
  subst hg hv
  rw [h1] at h2
  simp only [Option.some.injEq, Obj.cells.injEq] at h2
  exact hne h2.2.1
/-- what a slice of other elements than the one that grows owns is kept -/
theorem row_kept {w w1 : World} {B B' n n' : Nat} {e e' : TypeId} {x v : Value} {xs ys : List Value} (h : w.ownsRow B e 1 x n xs) (k : w.ownsRow B' e' 1 v n' ys) (hne : e ≠ e') (hg : w.grownBy w1 v.ownBlock) : w1.ownsRow B e 1 x n xs := by
  refine World.ownsRow.kept h hg ?_
  cases hb : x.ownBlock with
  | none => exact .inl rfl
  | some g => exact .inr (fun e' => row_apart h k hne g hb e'.symm)

/-- a slice of rows, each owned -/
structure OwnR (w : World) (B : Nat) (v : Value) (m : List (List Int)) (vs : List Value) : Prop where
  top : w.ownsRow B 42 1 v m.length vs
  rows : ∀ i, i < m.length → OwnI w B (vs.getD i undef) (gr m i)
theorem OwnR.below {w w' : World} {B : Nat} {v : Value} {m : List (List Int)} {vs : List Value} (h : OwnR w B v m vs) (hb : Below w.heap.size w w') : OwnR w' B v m vs := ⟨ownsRow_below h.top hb, fun i hi => (h.rows i hi).below hb⟩
theorem OwnR.base {w : World} {B B' : Nat} {v : Value} {m : List (List Int)} {vs : List Value} (h : OwnR w B v m vs) (hB : B' ≤ B) : OwnR w B' v m vs := ⟨ownsRow_base h.top hB, fun i hi => (h.rows i hi).base hB⟩
theorem OwnR.nil (w : World) (B : Nat) : OwnR w B (.slice none 0 0) [] [] := ⟨World.ownsRow_nil _ _ _ _, fun i hi => absurd hi (by simp)⟩
theorem OwnR.len {w : World} {B : Nat} {v : Value} {m : List (List Int)} {vs : List Value} (h : OwnR w B v m vs) : vs.length = m.length := by simpa using h.top.1
theorem OwnR.read {w : World} {B : Nat} {v : Value} {m : List (List Int)} {vs : List Value} (h : OwnR w B v m vs) : ∃ ao c, v = .slice ao m.length c ∧ m.length ≤ c ∧ c ≤ 9223372036854775807 ∧ MatAt w ao m := by
  obtain ⟨ao, c, hv, h1, h2, hc⟩ := ownsRow_read h.top
  refine ⟨ao, c, hv, h1, h2, fun i hi => ?_⟩
  obtain ⟨b, o, e, hcell⟩ := hc i hi
  obtain ⟨r, c', hr, h3, h4, hx⟩ := (h.rows i hi).read
  exact ⟨b, o, r, c', e, by rw [hcell, hr], hx, h3, h4⟩
theorem OwnP.toR {w : World} {B : Nat} {v : Value} {m : List (List Int)} {vs : List Value} (h : OwnP w B v m.length m m.length vs) : OwnR w B v m vs := ⟨h.top, h.rows⟩
theorem OwnR.kept {w w1 : World} {B B' n' : Nat} {x v : Value} {m : List (List Int)} {vs ys : List Value} {e' : TypeId} (h : OwnR w B x m vs) (k : w.ownsRow B' e' 1 v n' ys) (h1 : 42 ≠ e') (h2 : 3 ≠ e') (hg : w.grownBy w1 v.ownBlock) : OwnR w1 B x m vs :=
  ⟨row_kept h.top k h1 hg, fun i hi => row_kept (h.rows i hi) k h2 hg⟩
/-- rows put behind -/
theorem OwnR.join {w w1 : World} {B : Nat} {v v' : Value} {m k : List (List Int)} {vs us : List Value} (h : OwnR w B v m vs) (hl : us.length = k.length) (hk : ∀ i, i < k.length → OwnI w B (us.getD i undef) (gr k i))
    (h1 : w1.ownsRow B 42 1 v' (m.length + k.length) (vs ++ us)) (hg : w.grownBy w1 v.ownBlock) : OwnR w1 B v' (m ++ k) (vs ++ us) := by
  refine ⟨by rw [List.length_append]; exact h1, fun i hi => ?_⟩
  rw [List.length_append] at hi
  have hvl := h.len
  by_cases hi2 : i < m.length
  · rw [getD_left (by omega), gr_app_left hi2]
    exact row_kept (h.rows i hi2) h.top (by decide) hg
  · obtain ⟨j, rfl⟩ : ∃ j, i = m.length + j := ⟨i - m.length, by omega⟩
    rw [getD_right (by omega), hvl, show m.length + j - m.length = j from by omega, gr_app_right (by omega)]
    exact row_kept (hk j (by omega)) h.top (by decide) hg
theorem OwnR.cells {w : World} {B n c : Nat} {ad : Addr} {m : List (List Int)} {vs : List Value} (h : OwnR w B (.slice (some ad) n c) m vs) : (∀ j u, vs[j]? = some u → w.cell? (ad.add j) = some u) ∧ (∀ u ∈ vs, u.oneCell' = true) := by
  have hl := h.len
  obtain ⟨ao, c', e, _, _, hc⟩ := ownsRow_read h.top
  cases e
  refine ⟨fun j u hj => ?_, fun u hu => ?_⟩
  · have hjl : j < vs.length := (List.getElem?_eq_some_iff.1 hj).1
    obtain ⟨b3, o3, e3, hc3⟩ := hc j (by omega)
    cases e3
    rw [Addr.add_lit, hc3, List.getD, hj]
    rfl
  · obtain ⟨i, hi, rfl⟩ := List.mem_iff_getElem.1 hu
    have := (h.rows i (by omega)).read
    rw [List.getD, List.getElem?_eq_getElem hi] at this
    obtain ⟨_, _, e, _⟩ := this
    rw [show vs[i] = (some vs[i]).getD undef from rfl, e]
    rfl

/-- a list of such tables -/
structure OwnRL (w : World) (B : Nat) (v : Value) (ts : List (List (List Int))) (vs : List Value) : Prop where
  top : w.ownsRow B 22 1 v ts.length vs
  each : ∀ i, i < ts.length → ∃ us, OwnR w B (vs.getD i undef) (gt ts i) us
theorem OwnRL.below {w w' : World} {B : Nat} {v : Value} {ts : List (List (List Int))} {vs : List Value} (h : OwnRL w B v ts vs) (hb : Below w.heap.size w w') : OwnRL w' B v ts vs := ⟨ownsRow_below h.top hb, fun i hi => ⟨_, (h.each i hi).choose_spec.below hb⟩⟩
theorem OwnRL.base {w : World} {B B' : Nat} {v : Value} {ts : List (List (List Int))} {vs : List Value} (h : OwnRL w B v ts vs) (hB : B' ≤ B) : OwnRL w B' v ts vs := ⟨ownsRow_base h.top hB, fun i hi => ⟨_, (h.each i hi).choose_spec.base hB⟩⟩
theorem OwnRL.nil (w : World) (B : Nat) : OwnRL w B (.slice none 0 0) [] [] := ⟨World.ownsRow_nil _ _ _ _, fun i hi => absurd hi (by simp)⟩
theorem OwnRL.len {w : World} {B : Nat} {v : Value} {ts : List (List (List Int))} {vs : List Value} (h : OwnRL w B v ts vs) : vs.length = ts.length := by simpa using h.top.1
theorem OwnRL.head {w : World} {B : Nat} {v : Value} {ts : List (List (List Int))} {vs : List Value} (h : OwnRL w B v ts vs) : ∃ ao c, v = .slice ao ts.length c ∧ ts.length ≤ c ∧ c ≤ 9223372036854775807 := by
  obtain ⟨ao, c, e, h1, h2, _⟩ := ownsRow_read h.top
  exact ⟨ao, c, e, h1, h2⟩
/-- tables put behind -/
theorem OwnRL.join {w w1 : World} {B : Nat} {v v' : Value} {ts ks : List (List (List Int))} {vs us : List Value} (h : OwnRL w B v ts vs) (hl : us.length = ks.length) (hk : ∀ i, i < ks.length → ∃ xs, OwnR w B (us.getD i undef) (gt ks i) xs)
    (h1 : w1.ownsRow B 22 1 v' (ts.length + ks.length) (vs ++ us)) (hg : w.grownBy w1 v.ownBlock) : OwnRL w1 B v' (ts ++ ks) (vs ++ us) := by
  refine ⟨by rw [List.length_append]; exact h1, fun i hi => ?_⟩
  rw [List.length_append] at hi
  have hvl := h.len
  by_cases hi2 : i < ts.length
  · rw [getD_left (by omega), gt_app_left hi2]
    obtain ⟨xs, hx⟩ := h.each i hi2
    exact ⟨xs, hx.kept h.top (by decide) (by decide) hg⟩
  · obtain ⟨j, rfl⟩ : ∃ j, i = ts.length + j := ⟨i - ts.length, by omega⟩
    rw [getD_right (by omega), hvl, show ts.length + j - ts.length = j from by omega, gt_app_right (by omega)]
    obtain ⟨xs, hx⟩ := hk j (by omega)
    exact ⟨xs, hx.kept h.top (by decide) (by decide) hg⟩
theorem OwnRL.cells {w : World} {B n c : Nat} {ad : Addr} {ts : List (List (List Int))} {vs : List Value} (h : OwnRL w B (.slice (some ad) n c) ts vs) : (∀ j u, vs[j]? = some u → w.cell? (ad.add j) = some u) ∧ (∀ u ∈ vs, u.oneCell' = true) := by
  have hl := h.len
  obtain ⟨ao, c', e, _, _, hc⟩ := ownsRow_read h.top
  cases e
  refine ⟨fun j u hj => ?_, fun u hu => ?_⟩
  · have hjl : j < vs.length := (List.getElem?_eq_some_iff.1 hj).1
    obtain ⟨b3, o3, e3, hc3⟩ := hc j (by omega)
    cases e3
    rw [Addr.add_lit, hc3, List.getD, hj]
    rfl
  · obtain ⟨i, hi, rfl⟩ := List.mem_iff_getElem.1 hu
    obtain ⟨_, hx⟩ := h.each i (by omega)
    have := hx.read
    rw [List.getD, List.getElem?_eq_getElem hi] at this
    obtain ⟨_, _, e, _⟩ := this
    rw [show vs[i] = (some vs[i]).getD undef from rfl, e]
    rfl
/-- reading one of the tables -/
theorem OwnRL.at {w : World} {B n c : Nat} {ao : Option Addr} {ts : List (List (List Int))} {vs : List Value} (h : OwnRL w B (.slice ao n c) ts vs) {i : Nat} (hi : i < ts.length) :
    ∃ b o r d, ao = some ⟨b, o, none⟩ ∧ w.cell? ⟨b, o + i, none⟩ = some (.slice r (gt ts i).length d) ∧ MatAt w r (gt ts i) ∧ (gt ts i).length ≤ d ∧ d ≤ 9223372036854775807 := by
  obtain ⟨ao', c', e, _, _, hc⟩ := ownsRow_read h.top
  cases e
  obtain ⟨b, o, e, hcell⟩ := hc i hi
  obtain ⟨us, hx⟩ := h.each i hi
  obtain ⟨r, d, hr, h3, h4, hm⟩ := hx.read
  exact ⟨b, o, r, d, e, by rw [hcell, hr], hm, h3, h4⟩
end Go.Proofs.Ytfempacfaeknpaa

