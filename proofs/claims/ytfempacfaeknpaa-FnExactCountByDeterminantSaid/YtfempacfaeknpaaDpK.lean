/- Contracts: IsDescending and PartsEqual, by the program. Conditions: lengths up to 2^20, numbers of an int. -/
import Derived.Test.YtfempacfaeknpaaDpJ
namespace Go.Proofs.Ytfempacfaeknpaa
open Go.RowKit

theorem allIn_one {n lo hi : Int} : allIn [n] lo hi ↔ lo ≤ n ∧ n ≤ hi := by
  constructor
  · intro h
    exact h 0 (by simp)
  · intro h k hk
    obtain rfl : k = 0 := by simp at hk; omega
    exact h
theorem ints_one (w : World) (n : Int) : IntsAt (w.alloc (.cells #[.int .i64 n] 3)) (some ⟨w.heap.size, 0, none⟩) [n] := fun k hk => by
  obtain rfl : k = 0 := by simp at hk; omega
  refine ⟨w.heap.size, 0, rfl, ?_⟩
  rw [Nat.zero_add, cell_of_row _ _ 0 _ _ _ (heap_alloc_new w _)]
  rfl

set_option maxRecDepth 100000 in
set_option maxHeartbeats 1600000 in
theorem implIsDescending_any (ao : Option Addr) (c : Nat) (rows : List (List Int)) (n : Int) (w : World) (hs : Small rows) (hwf : WfM rows) (hm : MatAt w ao rows) (_hn : -9223372036854775808 ≤ n ∧ n ≤ 9223372036854775807) :
    Calls Try.prog 21 #[.slice ao rows.length c, .int .i64 n] w fun e w' => BRes (1 ≤ n ∧ n ≤ 6) (DpGood rows n.toNat) e ∧ Below w.heap.size w w' := by
  have Hs := Lib.hid hs
  have Hm := Lib.hid hm
  have Hwf := Lib.hid hwf
  obtain ⟨w1, hw1⟩ : ∃ w1, w1 = w.alloc (.cells #[.int .i64 n] 3) := ⟨_, rfl⟩
  have C := Lib.hid (allIn_any 1 6 (some ⟨w.heap.size, 0, none⟩) 1 [n] w1 (by simp) (by rw [hw1]; exact ints_one w n))
  have HB := Lib.hid (show Below w.heap.size w w1 by rw [hw1]; exact (Below.refl _ _).alloc (Nat.le_refl _) _)
  have Hw1 := Lib.hid hw1
  clear hs hm hwf hw1
  go_enter Try.func21, Try.ntmps21
  go_wp2_with fail
  rw [← Hw1.out]
  refine C.out.mono ?_
  rintro e w2 ⟨ha, rfl⟩
  by_cases q : 1 ≤ n ∧ n ≤ 6
  · have Q2 := Lib.hid q
    obtain rfl := ha.is (allIn_one.2 q)
    obtain ⟨k, rfl⟩ : ∃ k : Nat, n = (k : Int) := ⟨n.toNat, by omega⟩
    have C2 := Lib.hid (isDescending_any ao c rows k w1 (by omega) (by omega) Hs.out Hwf.out (Hm.out.below HB.out))
    clear q ha C Hw1
    go_wp2_with (first | (refine wpList_buildPt rfl 58 _ rfl [(0, .slice ao rows.length c), (1, .int .i64 (k : Int))] rfl (ptA (.slice ao rows.length c) (k : Int)) (Try.built_pt _ _ _ _) ?_))
    refine C2.out.mono ?_
    rintro e w3 ⟨⟨b, rfl, hb⟩, hq⟩
    have Hq := Lib.hid (HB.out.trans (hq.mono HB.out.size))
    have Hb := Lib.hid hb
    clear hq hb
    go_wp2
    go_ret2
    exact ⟨⟨b, true, rfl, .inl ⟨Q2.out, rfl, by rw [Int.toNat_natCast]; exact Hb.out⟩⟩, Hq.out⟩
  · have Q1 := Lib.hid q
    obtain rfl := ha.isnt (fun h => q (allIn_one.1 h))
    clear q ha
    go_wp2
    go_ret2
    exact ⟨⟨false, false, rfl, .inr ⟨Q1.out, rfl, rfl⟩⟩, HB.out⟩

set_option maxRecDepth 100000 in
set_option maxHeartbeats 1600000 in
theorem partsEqual1_any (ao : Option Addr) (c g : Nat) (rows : List (List Int)) (n : Int) (w : World) (hg : DpGood rows 6) (hm : MatAt w ao rows) (hc : w.cell? ⟨g, 0, none⟩ = some (.int .i64 n)) :
    Calls Try.prog 83 #[.agg (ptA (.slice ao rows.length c) 6), .pointer (some ⟨g, 0, none⟩)] w fun e w' => e = .returned (.int .i64 (sumT (fEq n) rows rows.length)) ∧ Below w.heap.size w w' := by
  have Hg := Lib.hid hg
  have Hm := Lib.hid hm
  have Hc := Lib.hid hc
  clear hg hm hc
  go_enter Try.func83, Try.ntmps83
  go_upto_region 1 with (refine wpList_boxT rfl 58 _ rfl _ rfl ?_)
  generalize hW : World.alloc w _ = w1
  have hP : PtAt w1 w.heap.size (.slice ao rows.length c) 6 := by rw [← hW]; exact PtAt.new _ _ _
  have HB := Lib.hid (show Below w.heap.size w w1 by rw [← hW]; exact (Below.refl _ w).alloc (Nat.le_refl _) _)
  have hc0 := hP.c0
  have hc2 : w1.cell? ⟨g, 0, none⟩ = some (.int .i64 n) := cell_below Hc.out HB.out
  clear hW hP
  go_wp2_with fail
  refine (plane_equalTo ao c rows n w1 Hg.out (Hm.out.below HB.out)).mono ?_
  rintro e w2 ⟨rfl, hb⟩
  have HB2 := Lib.hid (HB.out.trans (hb.mono HB.out.size))
  clear hb hc0 hc2
  go_wp2
  go_ret
  exact ⟨rfl, HB2.out⟩

set_option maxRecDepth 100000 in
set_option maxHeartbeats 1600000 in
theorem told_equal (g : Nat) (n : Int) (ao : Option Addr) (c : Nat) (rows : List (List Int)) (w : World) (hs : Small rows) (hwf : WfM rows) (hm : MatAt w ao rows) (hc : w.cell? ⟨g, 0, none⟩ = some (.int .i64 n)) :
    Calls Try.prog 78 #[.slice ao rows.length c, .func (.func 83) #[] #[.pointer (some ⟨g, 0, none⟩)]] w fun e w' => IRes (DpGood rows 6) (sumT (fEq n) rows rows.length) e ∧ Below w.heap.size w w' := by
  have hl := hs.1
  have Hm := Lib.hid hm
  have Hs := Lib.hid hs
  have Hwf := Lib.hid hwf
  have Hc := Lib.hid hc
  clear hc
  clear hm hs hwf
  go_enter Try.func78, Try.ntmps78
  go_upto_region 2 with (first | (refine wpList_buildPt rfl 58 _ rfl [(0, .slice ao rows.length c), (1, .int .i64 6)] rfl (ptA (.slice ao rows.length c) 6) (Try.built_pt _ _ _ _) ?_) | (refine wpList_allocT rfl 58 rfl _ _ Try.info_pt ?_) | (refine wpList_storeT rfl 58 _ _ rfl (ptA (.slice ao rows.length c) 6) (ptA (.slice none 0 0) 0) w.heap.size rfl rfl rfl (Try.size_pt _ _) (pt_same _ _ _ _) (pt_one _ _ _ _) ?_))
  generalize hW : World.alloc w _ = w1
  have HP := Lib.hid (show PtAt w1 w.heap.size (.slice ao rows.length c) 6 by rw [← hW]; exact PtAt.new _ _ _)
  have HB := Lib.hid (show Below w.heap.size w w1 by rw [← hW]; exact (Below.refl _ w).alloc (Nat.le_refl _) _)
  clear hW
  go_wp2_with (first | (refine wpList_loadG rfl 58 _ rfl w.heap.size rfl _ _ HP.out Try.underlying58 rfl (Try.size_pt _ _) ?_))
  refine (isDescending_any ao c rows 6 w1 (by omega) (by omega) Hs.out Hwf.out (Hm.out.below HB.out)).mono ?_
  rintro e w2 ⟨ha, hb⟩
  have HP2 := Lib.hid (HP.out.below hb)
  have HB2 := Lib.hid (HB.out.trans (hb.mono HB.out.size))
  clear hb HP HB
  by_cases q : DpGood rows 6
  · have Q1 := Lib.hid q
    obtain rfl := ha.is q
    clear q ha
    go_wp2_with (first | (refine wpList_loadG rfl 58 _ rfl w.heap.size rfl _ _ HP2.out Try.underlying58 rfl (Try.size_pt _ _) ?_))
    refine (partsEqual1_any ao c g rows n w2 Q1.out (Hm.out.below HB2.out) (cell_below Hc.out HB2.out)).mono ?_
    rintro e w3 ⟨rfl, hb3⟩
    have HB3 := Lib.hid (HB2.out.trans (hb3.mono HB2.out.size))
    clear hb3
    go_wp2
    go_ret2
    exact ⟨IRes.yes Q1.out, HB3.out⟩
  · have Q1 := Lib.hid q
    obtain rfl := ha.isnt q
    clear q ha
    go_wp2
    go_ret2
    exact ⟨IRes.no Q1.out, HB2.out⟩

set_option maxRecDepth 100000 in
set_option maxHeartbeats 1600000 in
theorem implPartsEqual_any (ao : Option Addr) (c : Nat) (rows : List (List Int)) (n : Int) (w : World) (hs : Small rows) (hwf : WfM rows) (hm : MatAt w ao rows) (_hn : -9223372036854775808 ≤ n ∧ n ≤ 9223372036854775807) :
    Calls Try.prog 37 #[.slice ao rows.length c, .int .i64 n] w fun e w' => IRes (DpGood rows 6 ∧ 2 ≤ n ∧ n ≤ 6) (sumT (fEq n) rows rows.length) e ∧ Below w.heap.size w w' := by
  have Hs := Lib.hid hs
  have Hm := Lib.hid hm
  have Hwf := Lib.hid hwf
  obtain ⟨w1, hw1⟩ : ∃ w1, w1 = w.alloc (.cells #[.int .i64 n] 3) := ⟨_, rfl⟩
  obtain ⟨w2, hw2⟩ : ∃ w2, w2 = w1.alloc (.cells #[.int .i64 n] 3) := ⟨_, rfl⟩
  have hz1 : w1.heap.size = w.heap.size + 1 := by rw [hw1]; simp
  have C := Lib.hid (allIn_any 2 6 (some ⟨w1.heap.size, 0, none⟩) 1 [n] w2 (by simp) (by rw [hw2]; exact ints_one w1 n))
  have hB : Below w.heap.size w w2 := by rw [hw2, hw1]; exact ((Below.refl _ _).alloc (Nat.le_refl _) _).alloc (by simp) _
  have hcell1 : w1.cell? ⟨w.heap.size, 0, none⟩ = some (.int .i64 n) := by rw [hw1, cell_of_row _ _ 0 _ _ _ (heap_alloc_new w _)]; rfl
  have hcell2 : w2.cell? ⟨w.heap.size, 0, none⟩ = some (.int .i64 n) := cell_below hcell1 (by rw [hw2]; exact (Below.refl _ _).alloc (Nat.le_refl _) _)
  have HB := Lib.hid hB
  have Hc := Lib.hid hcell2
  have C2 := Lib.hid (told_equal w.heap.size n ao c rows w2 hs hwf (hm.below hB) hcell2)
  rw [hz1] at C
  have Hw1 := Lib.hid hw1
  have Hw2 := Lib.hid hw2
  have Hz1 := Lib.hid hz1
  rw [hw1] at hcell1
  clear hs hm hwf hw1 hw2 hz1 hB hcell2
  go_enter Try.func37, Try.ntmps37
  go_wp2_with fail
  rw [← Hw1.out, ← Hw2.out]
  refine C.out.mono ?_
  rintro e w3 ⟨ha, rfl⟩
  by_cases q : 2 ≤ n ∧ n ≤ 6
  · have Q2 := Lib.hid q
    obtain rfl := ha.is (allIn_one.2 q)
    clear q ha C
    go_wp2_with fail
    refine C2.out.mono ?_
    rintro e w4 ⟨⟨y, b, rfl, hp⟩, hb⟩
    have Hp := Lib.hid hp
    have Hb := Lib.hid (HB.out.trans (hb.mono HB.out.size))
    clear hp hb
    go_wp2
    go_ret2
    refine ⟨⟨y, b, rfl, ?_⟩, Hb.out⟩
    rcases Hp.out with ⟨h1, h2, h3⟩ | ⟨h1, h2, h3⟩
    · exact .inl ⟨⟨h1, Q2.out⟩, h2, h3⟩
    · exact .inr ⟨fun h => h1 h.1, h2, h3⟩
  · have Q1 := Lib.hid (show ¬(DpGood rows 6 ∧ 2 ≤ n ∧ n ≤ 6) from fun h => q h.2)
    obtain rfl := ha.isnt (fun h => q (allIn_one.1 h))
    clear q ha
    go_wp2
    go_ret2
    exact ⟨IRes.no Q1.out, HB.out⟩
end Go.Proofs.Ytfempacfaeknpaa
