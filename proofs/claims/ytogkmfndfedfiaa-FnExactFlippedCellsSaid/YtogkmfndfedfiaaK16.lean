/- Parts of proofs: contracts and plain facts. Conditions: as each says. -/
import Derived.Test.YtogkmfndfedfiaaK15
namespace Go.Proofs.Ytogkmfndfedfiaa
open Go.RowKit

/-- the cells of flips, one after the other -/
def colsL (n : Nat) (cols : List Int) : List (Nat × Nat) := cols.flatMap fun col => colL col (allCells n n)
theorem colsL_inn {n : Nat} {cols : List Int} : ∀ p ∈ colsL n cols, inn n p := fun p hp => by
  obtain ⟨c, _, h⟩ := List.mem_flatMap.1 hp
  exact allCells_inn p (colL_mem h)
theorem colsL_cons (n : Nat) (a : Int) (cols : List Int) : colsL n (a :: cols) = colL a (allCells n n) ++ colsL n cols := rfl
theorem colsL_append (n : Nat) (a b : List Int) : colsL n (a ++ b) = colsL n a ++ colsL n b := List.flatMap_append
/-- the matrix behind flips -/
def gyC (m : List (List Int)) (cols : List Int) : List (List Int) := gyM m (colsL m.length cols)
theorem gyC_len (m : List (List Int)) (cols : List Int) : (gyC m cols).length = m.length := gyM_len _ _
theorem gyC_good {m : List (List Int)} (h : good m) (cols : List Int) : good (gyC m cols) := gyM_good h colsL_inn
theorem gyC_append {m : List (List Int)} (h : good m) (a b : List Int) : gyC (gyC m a) b = gyC m (a ++ b) := by
  unfold gyC
  rw [gyM_len, gyM_append h colsL_inn colsL_inn, colsL_append]
theorem gyC_one (m : List (List Int)) (a : Int) : gyM m (colL a (allCells m.length m.length)) = gyC m [a] := by unfold gyC colsL; simp
theorem gyC_small {m : List (List Int)} (h : good m) (cols : List Int) : Small (gyC m cols) := gyM_small h _

theorem gyFlip_gyC (ao : Option Addr) (cp : Nat) (m : List (List Int)) (cols : List Int) (col : Int) (k : Nat) (hk : k = m.length) (w : World) (hg : good m) (hm : MatAt w ao (gyC m cols)) :
    Calls Try.prog 75 #[.slice ao k cp, .int .i64 col] w fun e w' => ∃ v, e = .returned v ∧ OwnM w' w.heap.size v (gyC m (cols ++ [col])) ∧ Below w.heap.size w w' := by
  have h := gyFlip_any ao cp (gyC m cols) col w (gyC_good hg cols) hm
  rw [gyC_one, gyC_append hg, gyC_len, ← hk] at h
  exact h

def fcOk (m : List (List Int)) (col : Int) : Prop := good m ∧ (0 ≤ col ∧ col ≤ 1)

set_option maxRecDepth 100000 in
set_option maxHeartbeats 1600000 in
theorem specFlipColour_any (ao : Option Addr) (cp : Nat) (m : List (List Int)) (col : Int) (w : World) (hs : Small m) (hm : MatAt w ao m) (hcol : -9223372036854775808 ≤ col ∧ col ≤ 9223372036854775807) :
    Calls Try.prog 28 #[.slice ao m.length cp, .int .i64 col] w fun e w' => MRes (fcOk m col) (gyC m [col]) w' w.heap.size e ∧ Below w.heap.size w w' := by
  have Hs := Lib.hid hs
  have Hm := Lib.hid hm
  clear hs hm hcol
  go_enter Try.func28, Try.ntmps28
  go_wp2_with fail
  refine (sgGood_any ao cp m w Hs.out Hm.out).mono ?_
  rintro e w1 ⟨ha, hb⟩
  have Hb := Lib.hid hb
  have HB := Lib.hid hb.size
  clear hb
  by_cases hg : good m
  · have Hg := Lib.hid hg
    clear hg
    obtain rfl := ha.is Hg.out
    clear ha
    go_wp2_with fail
    refine (l1In_any col 0 1 w1).mono ?_
    rintro e w1' ⟨ha, rfl⟩
    by_cases hc : 0 ≤ col ∧ col ≤ 1
    · have Hc := Lib.hid hc
      obtain rfl := ha.is hc
      have Hcall := Lib.hid (gyFlip_any ao cp m col w1 Hg.out (Hm.out.below Hb.out))
      rw [gyC_one] at Hcall
      clear ha hc
      go_wp2_with fail
      refine Hcall.out.mono ?_
      rintro e w2 ⟨v, rfl, hv, hb2⟩
      have Hv := Lib.hid (hv.base HB.out)
      have Hb2 := Lib.hid (Hb.out.trans (hb2.mono HB.out))
      clear hv hb2
      go_wp2
      go_ret2
      exact ⟨MRes.yes ⟨Hg.out, Hc.out⟩ Hv.out, Hb2.out⟩
    · have Hc := Lib.hid hc
      obtain rfl := ha.isnt hc
      clear ha hc
      go_wp2
      go_ret2
      exact ⟨MRes.no (fun h => Hc.out h.2), Hb.out⟩
  · have Hg := Lib.hid hg
    clear hg
    obtain rfl := ha.isnt Hg.out
    clear ha
    go_wp2
    go_ret2
    exact ⟨MRes.no (fun h => Hg.out h.1), Hb.out⟩

set_option maxRecDepth 100000 in
set_option maxHeartbeats 800000 in
theorem gyNext_any (ao : Option Addr) (cp : Nat) (m : List (List Int)) (w : World) (hg : good m) (hm : MatAt w ao m) :
    Calls Try.prog 78 #[.slice ao m.length cp] w fun e w' => ∃ v, e = .returned v ∧ OwnM w' w.heap.size v (gyC m [0, 1]) ∧ Below w.heap.size w w' := by
  have hcall := gyFlip_any ao cp m 0 w hg hm
  rw [gyC_one] at hcall
  have Hcall := Lib.hid hcall
  have Hg := Lib.hid hg
  clear hcall hg hm
  go_enter Try.func78, Try.ntmps78
  go_wp2_with fail
  refine Hcall.out.mono ?_
  rintro e w1 ⟨v, rfl, hv, hb1⟩
  obtain ⟨a1, c1, rfl, _, _, hm1⟩ := hv.read
  have hcall2 := gyFlip_gyC a1 c1 m [0] 1 (gyC m [0]).length (gyC_len _ _) w1 Hg.out hm1
  have Hcall2 := Lib.hid hcall2
  have Hb1 := Lib.hid hb1
  clear hcall2 hv hb1 hm1 Hcall
  go_wp2_with fail
  refine Hcall2.out.mono ?_
  rintro e w2 ⟨v, rfl, hv, hb2⟩
  have Hv := Lib.hid (hv.base Hb1.out.size)
  have Hb2 := Lib.hid (Hb1.out.trans (hb2.mono Hb1.out.size))
  clear hv hb2
  go_wp2
  go_ret
  exact ⟨v, rfl, Hv.out, Hb2.out⟩

set_option maxRecDepth 100000 in
set_option maxHeartbeats 800000 in
theorem specGyrateSigns_any (ao : Option Addr) (cp : Nat) (m : List (List Int)) (w : World) (hs : Small m) (hm : MatAt w ao m) :
    Calls Try.prog 30 #[.slice ao m.length cp] w fun e w' => MRes (good m) (gyC m [0, 1]) w' w.heap.size e ∧ Below w.heap.size w w' := by
  have Hs := Lib.hid hs
  have Hm := Lib.hid hm
  clear hs hm
  go_enter Try.func30, Try.ntmps30
  go_wp2_with fail
  refine (sgGood_any ao cp m w Hs.out Hm.out).mono ?_
  rintro e w1 ⟨ha, hb⟩
  have Hb := Lib.hid hb
  have HB := Lib.hid hb.size
  clear hb
  by_cases hg : good m
  · have Hg := Lib.hid hg
    clear hg
    obtain rfl := ha.is Hg.out
    have Hcall := Lib.hid (gyNext_any ao cp m w1 Hg.out (Hm.out.below Hb.out))
    clear ha
    go_wp2_with fail
    refine Hcall.out.mono ?_
    rintro e w2 ⟨v, rfl, hv, hb2⟩
    have Hv := Lib.hid (hv.base HB.out)
    have Hb2 := Lib.hid (Hb.out.trans (hb2.mono HB.out))
    clear hv hb2
    go_wp2
    go_ret2
    exact ⟨MRes.yes Hg.out Hv.out, Hb2.out⟩
  · have Hg := Lib.hid hg
    clear hg
    obtain rfl := ha.isnt Hg.out
    clear ha
    go_wp2
    go_ret2
    exact ⟨MRes.no Hg.out, Hb.out⟩

set_option maxRecDepth 100000 in
set_option maxHeartbeats 800000 in
theorem gyBack_any (ao : Option Addr) (cp : Nat) (m : List (List Int)) (w : World) (hg : good m) (hm : MatAt w ao m) :
    Calls Try.prog 80 #[.slice ao m.length cp] w fun e w' => ∃ v, e = .returned v ∧ OwnM w' w.heap.size v (gyC m [1, 0]) ∧ Below w.heap.size w w' := by
  have hcall := gyFlip_any ao cp m 1 w hg hm
  rw [gyC_one] at hcall
  have Hcall := Lib.hid hcall
  have Hg := Lib.hid hg
  clear hcall hg hm
  go_enter Try.func80, Try.ntmps80
  go_wp2_with fail
  refine Hcall.out.mono ?_
  rintro e w1 ⟨v, rfl, hv, hb1⟩
  obtain ⟨a1, c1, rfl, _, _, hm1⟩ := hv.read
  have hcall2 := gyFlip_gyC a1 c1 m [1] 0 (gyC m [1]).length (gyC_len _ _) w1 Hg.out hm1
  have Hcall2 := Lib.hid hcall2
  have Hb1 := Lib.hid hb1
  clear hcall2 hv hb1 hm1 Hcall
  go_wp2_with fail
  refine Hcall2.out.mono ?_
  rintro e w2 ⟨v, rfl, hv, hb2⟩
  have Hv := Lib.hid (hv.base Hb1.out.size)
  have Hb2 := Lib.hid (Hb1.out.trans (hb2.mono Hb1.out.size))
  clear hv hb2
  go_wp2
  go_ret
  exact ⟨v, rfl, Hv.out, Hb2.out⟩

set_option maxRecDepth 100000 in
set_option maxHeartbeats 800000 in
theorem specGyrateBack_any (ao : Option Addr) (cp : Nat) (m : List (List Int)) (w : World) (hs : Small m) (hm : MatAt w ao m) :
    Calls Try.prog 32 #[.slice ao m.length cp] w fun e w' => MRes (good m) (gyC m [1, 0]) w' w.heap.size e ∧ Below w.heap.size w w' := by
  have Hs := Lib.hid hs
  have Hm := Lib.hid hm
  clear hs hm
  go_enter Try.func32, Try.ntmps32
  go_wp2_with fail
  refine (sgGood_any ao cp m w Hs.out Hm.out).mono ?_
  rintro e w1 ⟨ha, hb⟩
  have Hb := Lib.hid hb
  have HB := Lib.hid hb.size
  clear hb
  by_cases hg : good m
  · have Hg := Lib.hid hg
    clear hg
    obtain rfl := ha.is Hg.out
    have Hcall := Lib.hid (gyBack_any ao cp m w1 Hg.out (Hm.out.below Hb.out))
    clear ha
    go_wp2_with fail
    refine Hcall.out.mono ?_
    rintro e w2 ⟨v, rfl, hv, hb2⟩
    have Hv := Lib.hid (hv.base HB.out)
    have Hb2 := Lib.hid (Hb.out.trans (hb2.mono HB.out))
    clear hv hb2
    go_wp2
    go_ret2
    exact ⟨MRes.yes Hg.out Hv.out, Hb2.out⟩
  · have Hg := Lib.hid hg
    clear hg
    obtain rfl := ha.isnt Hg.out
    clear ha
    go_wp2
    go_ret2
    exact ⟨MRes.no Hg.out, Hb.out⟩
end Go.Proofs.Ytogkmfndfedfiaa

