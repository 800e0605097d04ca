/- Contracts: numbers told of the rows of a partition, by the program. Conditions: lengths up to 2^20, numbers of an int. -/
import Derived.Test.YtfempacfaeknpaaDpD
import Derived.Test.YtfempacfaeknpaaDpH
import Derived.Test.YtfempacfaeknpaaScal
namespace Go.Proofs.Ytfempacfaeknpaa
open Go.RowKit

theorem wpList_buildPt {P : Program} {ops : Array Oper} {rest : List Oper} {o : Oper} {a : Act} {w : World} {Q : Exit → Act → World → Prop} (hg : o.guard = none) (t : TypeId) (xs : Array (Nat × Operand)) (ho : o.op = .build t xs)
    (vs : List (Nat × Value)) (hv : (xs.map fun (i, x) => (i, a.eval x)).toList = vs) (cells : Array Value) (hb : P.built t vs = some cells)
    (h : wpList P ops Q rest (a.put o.dst (.agg cells)) w) : wpList P ops Q (o :: rest) a w := by
  refine wpList_build hg t _ ho (by rw [hv, hb]; rfl) ?_
  rw [hv, hb]
  exact h

theorem method_parts (ao : Option Addr) (k c : Nat) (n : Int) (w : World) : (method 247 58 (.agg (ptA (.slice ao k c) n)) "loop.example/g01123/impl.parts").run Try.prog w = .ok (79, .slice ao k c) w := by kernel_rfl

set_option maxRecDepth 100000 in
set_option maxHeartbeats 1600000 in
theorem told_parts (ao : Option Addr) (c : Nat) (rows : List (List Int)) (w : World) (hs : Small rows) (hwf : WfM rows) (hm : MatAt w ao rows) :
    Calls Try.prog 78 #[.slice ao rows.length c, .func (.methodOf 58 "loop.example/g01123/impl.parts") #[] #[]] w fun e w' => IRes (DpGood rows 6) (sumT fOne rows rows.length) e ∧ Below w.heap.size w w' := by
  have hl := hs.1
  have Hm := Lib.hid hm
  have Hs := Lib.hid hs
  have Hwf := Lib.hid hwf
  have hmt := fun w => method_parts ao rows.length c 6 w
  clear hm hs hwf
  go_enter Try.func78, Try.ntmps78
  go_upto_region 2 with (first | (refine wpList_buildPt rfl 58 _ rfl [(0, .slice ao rows.length c), (1, .int .i64 6)] rfl (ptA (.slice ao rows.length c) 6) (Try.built_pt _ _ _ _) ?_) | (refine wpList_allocT rfl 58 rfl _ _ Try.info_pt ?_) | (refine wpList_storeT rfl 58 _ _ rfl (ptA (.slice ao rows.length c) 6) (ptA (.slice none 0 0) 0) w.heap.size rfl rfl rfl (Try.size_pt _ _) (pt_same _ _ _ _) (pt_one _ _ _ _) ?_))
  generalize hW : World.alloc w _ = w1
  have HP := Lib.hid (show PtAt w1 w.heap.size (.slice ao rows.length c) 6 by rw [← hW]; exact PtAt.new _ _ _)
  have HB := Lib.hid (show Below w.heap.size w w1 by rw [← hW]; exact (Below.refl _ w).alloc (Nat.le_refl _) _)
  clear hW
  go_wp2_with (first | (refine wpList_loadG rfl 58 _ rfl w.heap.size rfl _ _ HP.out Try.underlying58 rfl (Try.size_pt _ _) ?_))
  refine (isDescending_any ao c rows 6 w1 (by omega) (by omega) Hs.out Hwf.out (Hm.out.below HB.out)).mono ?_
  rintro e w2 ⟨ha, hb⟩
  have HP2 := Lib.hid (HP.out.below hb)
  have HB2 := Lib.hid (HB.out.trans (hb.mono HB.out.size))
  clear hb HP HB
  by_cases q : DpGood rows 6
  · have Q1 := Lib.hid q
    obtain rfl := ha.is q
    clear q ha
    go_wp2_with (first | (refine wpList_loadG rfl 58 _ rfl w.heap.size rfl _ _ HP2.out Try.underlying58 rfl (Try.size_pt _ _) ?_))
    refine (plane_parts ao c rows w2 Q1.out (Hm.out.below HB2.out)).mono ?_
    rintro e w3 ⟨rfl, hb3⟩
    have HB3 := Lib.hid (HB2.out.trans (hb3.mono HB2.out.size))
    clear hb3
    go_wp2
    go_ret2
    exact ⟨IRes.yes Q1.out, HB3.out⟩
  · have Q1 := Lib.hid q
    obtain rfl := ha.isnt q
    clear q ha
    go_wp2
    go_ret2
    exact ⟨IRes.no Q1.out, HB2.out⟩

set_option maxRecDepth 100000 in
set_option maxHeartbeats 800000 in
theorem implPartsOf_any (ao : Option Addr) (c : Nat) (rows : List (List Int)) (w : World) (hs : Small rows) (hwf : WfM rows) (hm : MatAt w ao rows) :
    Calls Try.prog 33 #[.slice ao rows.length c] w fun e w' => IRes (DpGood rows 6) (sumT fOne rows rows.length) e ∧ Below w.heap.size w w' := by
  have C := Lib.hid (told_parts ao c rows w hs hwf hm)
  clear hs hwf hm
  go_enter Try.func33, Try.ntmps33
  go_wp2_with fail
  refine C.out.mono ?_
  rintro e w1 ⟨⟨y, b, rfl, hp⟩, hb⟩
  have Hp := Lib.hid hp
  have Hb := Lib.hid hb
  clear hp hb
  go_wp2
  go_ret2
  exact ⟨⟨y, b, rfl, Hp.out⟩, Hb.out⟩

theorem method_special (ao : Option Addr) (k c : Nat) (n : Int) (w : World) : (method 247 58 (.agg (ptA (.slice ao k c) n)) "loop.example/g01123/impl.special").run Try.prog w = .ok (81, .slice ao k c) w := by kernel_rfl

set_option maxRecDepth 100000 in
set_option maxHeartbeats 1600000 in
theorem told_special (ao : Option Addr) (c : Nat) (rows : List (List Int)) (w : World) (hs : Small rows) (hwf : WfM rows) (hm : MatAt w ao rows) :
    Calls Try.prog 78 #[.slice ao rows.length c, .func (.methodOf 58 "loop.example/g01123/impl.special") #[] #[]] w fun e w' => IRes (DpGood rows 6) (sumT fSpec rows rows.length) e ∧ Below w.heap.size w w' := by
  have hl := hs.1
  have Hm := Lib.hid hm
  have Hs := Lib.hid hs
  have Hwf := Lib.hid hwf
  have hmt := fun w => method_special ao rows.length c 6 w
  clear hm hs hwf
  go_enter Try.func78, Try.ntmps78
  go_upto_region 2 with (first | (refine wpList_buildPt rfl 58 _ rfl [(0, .slice ao rows.length c), (1, .int .i64 6)] rfl (ptA (.slice ao rows.length c) 6) (Try.built_pt _ _ _ _) ?_) | (refine wpList_allocT rfl 58 rfl _ _ Try.info_pt ?_) | (refine wpList_storeT rfl 58 _ _ rfl (ptA (.slice ao rows.length c) 6) (ptA (.slice none 0 0) 0) w.heap.size rfl rfl rfl (Try.size_pt _ _) (pt_same _ _ _ _) (pt_one _ _ _ _) ?_))
  generalize hW : World.alloc w _ = w1
  have HP := Lib.hid (show PtAt w1 w.heap.size (.slice ao rows.length c) 6 by rw [← hW]; exact PtAt.new _ _ _)
  have HB := Lib.hid (show Below w.heap.size w w1 by rw [← hW]; exact (Below.refl _ w).alloc (Nat.le_refl _) _)
  clear hW
  go_wp2_with (first | (refine wpList_loadG rfl 58 _ rfl w.heap.size rfl _ _ HP.out Try.underlying58 rfl (Try.size_pt _ _) ?_))
  refine (isDescending_any ao c rows 6 w1 (by omega) (by omega) Hs.out Hwf.out (Hm.out.below HB.out)).mono ?_
  rintro e w2 ⟨ha, hb⟩
  have HP2 := Lib.hid (HP.out.below hb)
  have HB2 := Lib.hid (HB.out.trans (hb.mono HB.out.size))
  clear hb HP HB
  by_cases q : DpGood rows 6
  · have Q1 := Lib.hid q
    obtain rfl := ha.is q
    clear q ha
    go_wp2_with (first | (refine wpList_loadG rfl 58 _ rfl w.heap.size rfl _ _ HP2.out Try.underlying58 rfl (Try.size_pt _ _) ?_))
    refine (plane_special ao c rows w2 Q1.out (Hm.out.below HB2.out)).mono ?_
    rintro e w3 ⟨rfl, hb3⟩
    have HB3 := Lib.hid (HB2.out.trans (hb3.mono HB2.out.size))
    clear hb3
    go_wp2
    go_ret2
    exact ⟨IRes.yes Q1.out, HB3.out⟩
  · have Q1 := Lib.hid q
    obtain rfl := ha.isnt q
    clear q ha
    go_wp2
    go_ret2
    exact ⟨IRes.no Q1.out, HB2.out⟩

set_option maxRecDepth 100000 in
set_option maxHeartbeats 800000 in
theorem implSpecialParts_any (ao : Option Addr) (c : Nat) (rows : List (List Int)) (w : World) (hs : Small rows) (hwf : WfM rows) (hm : MatAt w ao rows) :
    Calls Try.prog 35 #[.slice ao rows.length c] w fun e w' => IRes (DpGood rows 6) (sumT fSpec rows rows.length) e ∧ Below w.heap.size w w' := by
  have C := Lib.hid (told_special ao c rows w hs hwf hm)
  clear hs hwf hm
  go_enter Try.func35, Try.ntmps35
  go_wp2_with fail
  refine C.out.mono ?_
  rintro e w1 ⟨⟨y, b, rfl, hp⟩, hb⟩
  have Hp := Lib.hid hp
  have Hb := Lib.hid hb
  clear hp hb
  go_wp2
  go_ret2
  exact ⟨⟨y, b, rfl, Hp.out⟩, Hb.out⟩

theorem method_sum (ao : Option Addr) (k c : Nat) (n : Int) (w : World) : (method 247 58 (.agg (ptA (.slice ao k c) n)) "loop.example/g01123/impl.sum").run Try.prog w = .ok (85, .slice ao k c) w := by kernel_rfl

set_option maxRecDepth 100000 in
set_option maxHeartbeats 1600000 in
theorem told_sum (ao : Option Addr) (c : Nat) (rows : List (List Int)) (w : World) (hs : Small rows) (hwf : WfM rows) (hm : MatAt w ao rows) :
    Calls Try.prog 78 #[.slice ao rows.length c, .func (.methodOf 58 "loop.example/g01123/impl.sum") #[] #[]] w fun e w' => IRes (DpGood rows 6) (sumT fId rows rows.length) e ∧ Below w.heap.size w w' := by
  have hl := hs.1
  have Hm := Lib.hid hm
  have Hs := Lib.hid hs
  have Hwf := Lib.hid hwf
  have hmt := fun w => method_sum ao rows.length c 6 w
  clear hm hs hwf
  go_enter Try.func78, Try.ntmps78
  go_upto_region 2 with (first | (refine wpList_buildPt rfl 58 _ rfl [(0, .slice ao rows.length c), (1, .int .i64 6)] rfl (ptA (.slice ao rows.length c) 6) (Try.built_pt _ _ _ _) ?_) | (refine wpList_allocT rfl 58 rfl _ _ Try.info_pt ?_) | (refine wpList_storeT rfl 58 _ _ rfl (ptA (.slice ao rows.length c) 6) (ptA (.slice none 0 0) 0) w.heap.size rfl rfl rfl (Try.size_pt _ _) (pt_same _ _ _ _) (pt_one _ _ _ _) ?_))
  generalize hW : World.alloc w _ = w1
  have HP := Lib.hid (show PtAt w1 w.heap.size (.slice ao rows.length c) 6 by rw [← hW]; exact PtAt.new _ _ _)
  have HB := Lib.hid (show Below w.heap.size w w1 by rw [← hW]; exact (Below.refl _ w).alloc (Nat.le_refl _) _)
  clear hW
  go_wp2_with (first | (refine wpList_loadG rfl 58 _ rfl w.heap.size rfl _ _ HP.out Try.underlying58 rfl (Try.size_pt _ _) ?_))
  refine (isDescending_any ao c rows 6 w1 (by omega) (by omega) Hs.out Hwf.out (Hm.out.below HB.out)).mono ?_
  rintro e w2 ⟨ha, hb⟩
  have HP2 := Lib.hid (HP.out.below hb)
  have HB2 := Lib.hid (HB.out.trans (hb.mono HB.out.size))
  clear hb HP HB
  by_cases q : DpGood rows 6
  · have Q1 := Lib.hid q
    obtain rfl := ha.is q
    clear q ha
    go_wp2_with (first | (refine wpList_loadG rfl 58 _ rfl w.heap.size rfl _ _ HP2.out Try.underlying58 rfl (Try.size_pt _ _) ?_))
    refine (plane_sum ao c rows w2 Q1.out (Hm.out.below HB2.out)).mono ?_
    rintro e w3 ⟨rfl, hb3⟩
    have HB3 := Lib.hid (HB2.out.trans (hb3.mono HB2.out.size))
    clear hb3
    go_wp2
    go_ret2
    exact ⟨IRes.yes Q1.out, HB3.out⟩
  · have Q1 := Lib.hid q
    obtain rfl := ha.isnt q
    clear q ha
    go_wp2
    go_ret2
    exact ⟨IRes.no Q1.out, HB2.out⟩

set_option maxRecDepth 100000 in
set_option maxHeartbeats 800000 in
theorem implSumOfParts_any (ao : Option Addr) (c : Nat) (rows : List (List Int)) (w : World) (hs : Small rows) (hwf : WfM rows) (hm : MatAt w ao rows) :
    Calls Try.prog 39 #[.slice ao rows.length c] w fun e w' => IRes (DpGood rows 6) (sumT fId rows rows.length) e ∧ Below w.heap.size w w' := by
  have C := Lib.hid (told_sum ao c rows w hs hwf hm)
  clear hs hwf hm
  go_enter Try.func39, Try.ntmps39
  go_wp2_with fail
  refine C.out.mono ?_
  rintro e w1 ⟨⟨y, b, rfl, hp⟩, hb⟩
  have Hp := Lib.hid hp
  have Hb := Lib.hid hb
  clear hp hb
  go_wp2
  go_ret2
  exact ⟨⟨y, b, rfl, Hp.out⟩, Hb.out⟩
end Go.Proofs.Ytfempacfaeknpaa
