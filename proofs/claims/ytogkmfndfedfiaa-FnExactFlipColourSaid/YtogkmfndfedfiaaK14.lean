/- Parts of proofs: contracts and plain facts. Conditions: as each says. -/
import Derived.Test.YtogkmfndfedfiaaK13
namespace Go.Proofs.Ytogkmfndfedfiaa
open Go.RowKit

/-- the cells of flips, one after the other -/
def colsL (n : Nat) (cols : List Int) : List (Nat × Nat) := cols.flatMap fun col => colL col (allCells n n)
theorem colsL_inn {n : Nat} {cols : List Int} : ∀ p ∈ colsL n cols, inn n p := fun p hp => by
  obtain ⟨c, _, h⟩ := List.mem_flatMap.1 hp
  exact allCells_inn p (colL_mem h)
theorem colsL_cons (n : Nat) (a : Int) (cols : List Int) : colsL n (a :: cols) = colL a (allCells n n) ++ colsL n cols := rfl
theorem colsL_append (n : Nat) (a b : List Int) : colsL n (a ++ b) = colsL n a ++ colsL n b := List.flatMap_append
/-- the matrix behind flips -/
def gyC (m : List (List Int)) (cols : List Int) : List (List Int) := gyM m (colsL m.length cols)
theorem gyC_len (m : List (List Int)) (cols : List Int) : (gyC m cols).length = m.length := gyM_len _ _
theorem gyC_good {m : List (List Int)} (h : good m) (cols : List Int) : good (gyC m cols) := gyM_good h colsL_inn
theorem gyC_append {m : List (List Int)} (h : good m) (a b : List Int) : gyC (gyC m a) b = gyC m (a ++ b) := by
  unfold gyC
  rw [gyM_len, gyM_append h colsL_inn colsL_inn, colsL_append]
theorem gyC_one (m : List (List Int)) (a : Int) : gyM m (colL a (allCells m.length m.length)) = gyC m [a] := by unfold gyC colsL; simp
theorem gyC_small {m : List (List Int)} (h : good m) (cols : List Int) : Small (gyC m cols) := gyM_small h _

theorem gyFlip_gyC (ao : Option Addr) (cp : Nat) (m : List (List Int)) (cols : List Int) (col : Int) (k : Nat) (hk : k = m.length) (w : World) (hg : good m) (hm : MatAt w ao (gyC m cols)) :
    Calls Try.prog 75 #[.slice ao k cp, .int .i64 col] w fun e w' => ∃ v, e = .returned v ∧ OwnM w' w.heap.size v (gyC m (cols ++ [col])) ∧ Below w.heap.size w w' := by
  have h := gyFlip_any ao cp (gyC m cols) col w (gyC_good hg cols) hm
  rw [gyC_one, gyC_append hg, gyC_len, ← hk] at h
  exact h

def fcOk (m : List (List Int)) (col : Int) : Prop := good m ∧ (0 ≤ col ∧ col ≤ 1)

set_option maxRecDepth 100000 in
set_option maxHeartbeats 1600000 in
theorem specFlipColour_any (ao : Option Addr) (cp : Nat) (m : List (List Int)) (col : Int) (w : World) (hs : Small m) (hm : MatAt w ao m) (hcol : -9223372036854775808 ≤ col ∧ col ≤ 9223372036854775807) :
    Calls Try.prog 28 #[.slice ao m.length cp, .int .i64 col] w fun e w' => MRes (fcOk m col) (gyC m [col]) w' w.heap.size e ∧ Below w.heap.size w w' := by
  have Hs := Lib.hid hs
  have Hm := Lib.hid hm
  clear hs hm hcol
  go_enter Try.func28, Try.ntmps28
  go_wp2_with fail
  refine (sgGood_any ao cp m w Hs.out Hm.out).mono ?_
  rintro e w1 ⟨ha, hb⟩
  have Hb := Lib.hid hb
  have HB := Lib.hid hb.size
  clear hb
  by_cases hg : good m
  · have Hg := Lib.hid hg
    clear hg
    obtain rfl := ha.is Hg.out
    clear ha
    go_wp2_with fail
    refine (l1In_any col 0 1 w1).mono ?_
    rintro e w1' ⟨ha, rfl⟩
    by_cases hc : 0 ≤ col ∧ col ≤ 1
    · have Hc := Lib.hid hc
      obtain rfl := ha.is hc
      have Hcall := Lib.hid (gyFlip_any ao cp m col w1 Hg.out (Hm.out.below Hb.out))
      rw [gyC_one] at Hcall
      clear ha hc
      go_wp2_with fail
      refine Hcall.out.mono ?_
      rintro e w2 ⟨v, rfl, hv, hb2⟩
      have Hv := Lib.hid (hv.base HB.out)
      have Hb2 := Lib.hid (Hb.out.trans (hb2.mono HB.out))
      clear hv hb2
      go_wp2
      go_ret2
      exact ⟨MRes.yes ⟨Hg.out, Hc.out⟩ Hv.out, Hb2.out⟩
    · have Hc := Lib.hid hc
      obtain rfl := ha.isnt hc
      clear ha hc
      go_wp2
      go_ret2
      exact ⟨MRes.no (fun h => Hc.out h.2), Hb.out⟩
  · have Hg := Lib.hid hg
    clear hg
    obtain rfl := ha.isnt Hg.out
    clear ha
    go_wp2
    go_ret2
    exact ⟨MRes.no (fun h => Hg.out h.1), Hb.out⟩

set_option maxRecDepth 100000 in
set_option maxHeartbeats 800000 in
theorem gyNext_any (ao : Option Addr) (cp : Nat) (m : List (List Int)) (w : World) (hg : good m) (hm : MatAt w ao m) :
    Calls Try.prog 78 #[.slice ao m.length cp] w fun e w' => ∃ v, e = .returned v ∧ OwnM w' w.heap.size v (gyC m [0, 1]) ∧ Below w.heap.size w w' := by
  have hcall := gyFlip_any ao cp m 0 w hg hm
  rw [gyC_one] at hcall
  have Hcall := Lib.hid hcall
  have Hg := Lib.hid hg
  clear hcall hg hm
  go_enter Try.func78, Try.ntmps78
  go_wp2_with fail
  refine Hcall.out.mono ?_
  rintro e w1 ⟨v, rfl, hv, hb1⟩
  obtain ⟨a1, c1, rfl, _, _, hm1⟩ := hv.read
  have hcall2 := gyFlip_gyC a1 c1 m [0] 1 (gyC m [0]).length (gyC_len _ _) w1 Hg.out hm1
  have Hcall2 := Lib.hid hcall2
  have Hb1 := Lib.hid hb1
  clear hcall2 hv hb1 hm1 Hcall
  go_wp2_with fail
  refine Hcall2.out.mono ?_
  rintro e w2 ⟨v, rfl, hv, hb2⟩
  have Hv := Lib.hid (hv.base Hb1.out.size)
  have Hb2 := Lib.hid (Hb1.out.trans (hb2.mono Hb1.out.size))
  clear hv hb2
  go_wp2
  go_ret
  exact ⟨v, rfl, Hv.out, Hb2.out⟩

set_option maxRecDepth 100000 in
set_option maxHeartbeats 800000 in
theorem specGyrateSigns_any (ao : Option Addr) (cp : Nat) (m : List (List Int)) (w : World) (hs : Small m) (hm : MatAt w ao m) :
    Calls Try.prog 30 #[.slice ao m.length cp] w fun e w' => MRes (good m) (gyC m [0, 1]) w' w.heap.size e ∧ Below w.heap.size w w' := by
  have Hs := Lib.hid hs
  have Hm := Lib.hid hm
  clear hs hm
  go_enter Try.func30, Try.ntmps30
  go_wp2_with fail
  refine (sgGood_any ao cp m w Hs.out Hm.out).mono ?_
  rintro e w1 ⟨ha, hb⟩
  have Hb := Lib.hid hb
  have HB := Lib.hid hb.size
  clear hb
  by_cases hg : good m
  · have Hg := Lib.hid hg
    clear hg
    obtain rfl := ha.is Hg.out
    have Hcall := Lib.hid (gyNext_any ao cp m w1 Hg.out (Hm.out.below Hb.out))
    clear ha
    go_wp2_with fail
    refine Hcall.out.mono ?_
    rintro e w2 ⟨v, rfl, hv, hb2⟩
    have Hv := Lib.hid (hv.base HB.out)
    have Hb2 := Lib.hid (Hb.out.trans (hb2.mono HB.out))
    clear hv hb2
    go_wp2
    go_ret2
    exact ⟨MRes.yes Hg.out Hv.out, Hb2.out⟩
  · have Hg := Lib.hid hg
    clear hg
    obtain rfl := ha.isnt Hg.out
    clear ha
    go_wp2
    go_ret2
    exact ⟨MRes.no Hg.out, Hb.out⟩

set_option maxRecDepth 100000 in
set_option maxHeartbeats 800000 in
theorem gyBack_any (ao : Option Addr) (cp : Nat) (m : List (List Int)) (w : World) (hg : good m) (hm : MatAt w ao m) :
    Calls Try.prog 80 #[.slice ao m.length cp] w fun e w' => ∃ v, e = .returned v ∧ OwnM w' w.heap.size v (gyC m [1, 0]) ∧ Below w.heap.size w w' := by
  have hcall := gyFlip_any ao cp m 1 w hg hm
  rw [gyC_one] at hcall
  have Hcall := Lib.hid hcall
  have Hg := Lib.hid hg
  clear hcall hg hm
  go_enter Try.func80, Try.ntmps80
  go_wp2_with fail
  refine Hcall.out.mono ?_
  rintro e w1 ⟨v, rfl, hv, hb1⟩
  obtain ⟨a1, c1, rfl, _, _, hm1⟩ := hv.read
  have hcall2 := gyFlip_gyC a1 c1 m [1] 0 (gyC m [1]).length (gyC_len _ _) w1 Hg.out hm1
  have Hcall2 := Lib.hid hcall2
  have Hb1 := Lib.hid hb1
  clear hcall2 hv hb1 hm1 Hcall
  go_wp2_with fail
  refine Hcall2.out.mono ?_
  rintro e w2 ⟨v, rfl, hv, hb2⟩
  have Hv := Lib.hid (hv.base Hb1.out.size)
  have Hb2 := Lib.hid (Hb1.out.trans (hb2.mono Hb1.out.size))
  clear hv hb2
  go_wp2
  go_ret
  exact ⟨v, rfl, Hv.out, Hb2.out⟩

set_option maxRecDepth 100000 in
set_option maxHeartbeats 800000 in
theorem specGyrateBack_any (ao : Option Addr) (cp : Nat) (m : List (List Int)) (w : World) (hs : Small m) (hm : MatAt w ao m) :
    Calls Try.prog 32 #[.slice ao m.length cp] w fun e w' => MRes (good m) (gyC m [1, 0]) w' w.heap.size e ∧ Below w.heap.size w w' := by
  have Hs := Lib.hid hs
  have Hm := Lib.hid hm
  clear hs hm
  go_enter Try.func32, Try.ntmps32
  go_wp2_with fail
  refine (sgGood_any ao cp m w Hs.out Hm.out).mono ?_
  rintro e w1 ⟨ha, hb⟩
  have Hb := Lib.hid hb
  have HB := Lib.hid hb.size
  clear hb
  by_cases hg : good m
  · have Hg := Lib.hid hg
    clear hg
    obtain rfl := ha.is Hg.out
    have Hcall := Lib.hid (gyBack_any ao cp m w1 Hg.out (Hm.out.below Hb.out))
    clear ha
    go_wp2_with fail
    refine Hcall.out.mono ?_
    rintro e w2 ⟨v, rfl, hv, hb2⟩
    have Hv := Lib.hid (hv.base HB.out)
    have Hb2 := Lib.hid (Hb.out.trans (hb2.mono HB.out))
    clear hv hb2
    go_wp2
    go_ret2
    exact ⟨MRes.yes Hg.out Hv.out, Hb2.out⟩
  · have Hg := Lib.hid hg
    clear hg
    obtain rfl := ha.isnt Hg.out
    clear ha
    go_wp2
    go_ret2
    exact ⟨MRes.no Hg.out, Hb.out⟩
end Go.Proofs.Ytogkmfndfedfiaa

namespace Go.Proofs.Ytogkmfndfedfiaa
open Go.RowKit

set_option maxRecDepth 100000 in
set_option maxHeartbeats 3200000 in
theorem stepAt_any (n : Int) (f : Nat → Nat → Int) (i j : Nat) (w : World) (hi0 : 1 ≤ i) (hi : i + 1 < 7) (hj0 : 1 ≤ j) (hj : j + 1 < 7) (hf : Near f) :
    Calls Try.prog 93 #[.agg (tc n f), .agg (cl i j)] w fun e w' => e = .returned (.int .i64 (2 * way f i j)) ∧ Below w.heap.size w w' := by
  have Hf := Lib.hid hf
  clear hf
  go_enter Try.func93, Try.ntmps93
  go_upto_region 1 with (first | (refine wpList_boxT rfl 54 _ rfl _ rfl ?_) | (refine wpList_boxT rfl 59 _ rfl _ rfl ?_))
  generalize hW : World.alloc (World.alloc w _) _ = w1
  have hT : TerrAt w1 w.heap.size n f := by rw [← hW]; exact tc_bot w _ _ _ _
  have hC : CellAt w1 (w.heap.size + 1) i j := by rw [← hW]; exact tc_top w _ _ _
  have hB : Below w.heap.size w w1 := by rw [← hW]; exact two_below w _ _
  clear hW
  have b0 := Hf.out i j (by omega) (by omega)
  refine wp_region_held_drew (S := fun w' => TerrAt w' w.heap.size n f ∧ CellAt w' (w.heap.size + 1) i j ∧ Below w.heap.size w w') (by kernel_rfl) ⟨hT, hC, below_drewN hB 1⟩ (fun hHeld => ?_)
  clear hT hC hB
  refine wpAnyH_take (i := 0) (oi := ⟨some 7, _, _, _, _, _⟩) (v := .agg (tl n f).toArray) rfl (by kernel_rfl) (by kernel_rfl) (by kernel_rfl) (fun _ _ _ h => h) (yieldsIf_load_mid (by rfl) _ _ rfl w.heap.size 0 rfl (tl n f) _ (fun w hw => hw.1.rangeT) Try.underlying54 rfl (Try.size_terrl n f)) hHeld ?_
  simp only [Act.put, List.setIfInBounds_toArray, List.set_cons_zero, List.set_cons_succ]
  refine wpAnyH_take (i := 1) (oi := ⟨some 8, _, _, _, _, _⟩) (v := .agg [.int .i64 (i : Int), .int .i64 (j : Int)].toArray) rfl (by kernel_rfl) (by kernel_rfl) (by kernel_rfl) (fun _ _ _ h => h) (yieldsIf_load_mid (by rfl) _ _ rfl (w.heap.size + 1) 0 rfl [.int .i64 (i : Int), .int .i64 (j : Int)] _ (fun w hw => hw.2.1.range) Try.underlying59 rfl (Try.size_celll i j)) hHeld ?_
  simp only [Act.put, List.setIfInBounds_toArray, List.set_cons_zero, List.set_cons_succ]
  refine wpAnyH_take (i := 4) (oi := ⟨some 11, _, _, _, _, _⟩) (v := .agg (tl n f).toArray) rfl (by kernel_rfl) (by kernel_rfl) (by kernel_rfl) (fun _ _ _ h => h) (yieldsIf_load_mid (by rfl) _ _ rfl w.heap.size 0 rfl (tl n f) _ (fun w hw => hw.1.rangeT) Try.underlying54 rfl (Try.size_terrl n f)) hHeld ?_
  simp only [Act.put, List.setIfInBounds_toArray, List.set_cons_zero, List.set_cons_succ]
  refine wpAnyH_take (i := 5) (oi := ⟨some 12, _, _, _, _, _⟩) (v := .agg [.int .i64 (i : Int), .int .i64 (j : Int)].toArray) rfl (by kernel_rfl) (by kernel_rfl) (by kernel_rfl) (fun _ _ _ h => h) (yieldsIf_load_mid (by rfl) _ _ rfl (w.heap.size + 1) 0 rfl [.int .i64 (i : Int), .int .i64 (j : Int)] _ (fun w hw => hw.2.1.range) Try.underlying59 rfl (Try.size_celll i j)) hHeld ?_
  simp only [Act.put, List.setIfInBounds_toArray, List.set_cons_zero, List.set_cons_succ]
  refine wpAnyH_ready (rs := [2]) (by kernel_rfl) (by simp) (AllReadyH.cons (o := ⟨some 9, _, _, _, _, _⟩) rfl (fun KK hKK => ?_) AllReadyH.nil)
  rw [if_pos (by rfl)]
  have Hheld := Lib.hid hHeld
  clear hHeld
  go_wp2_with (go_at_call 113; refine (at_any n f i j _ (by omega) (by omega)).mono ?_; rintro e w2 ⟨rfl, hb⟩)
  refine hKK.out _ _ ⟨Hheld.out.1.below hb, Hheld.out.2.1.below hb, Hheld.out.2.2.trans (hb.mono Hheld.out.2.2.size)⟩ (fun hHeld => ?_)
  clear hb Hheld hKK KK
  have k1 : IntKind.i64.wrap (f i j + 1) = f i j + 1 := w64 (by omega)
  have k2 : IntKind.i64.wrap (f i j - 1) = f i j - 1 := w64 (by omega)
  refine wpAnyH_take (i := 3) (oi := ⟨some 10, _, _, _, _, _⟩) (v := .int .i64 (f i j + 1)) rfl (by kernel_rfl) (by kernel_rfl) (by kernel_rfl) (fun _ _ _ h => h) (Or.inl ⟨by rfl, ?y1⟩) hHeld ?_
  case y1 => intro w hSw; go_simp
  simp only [Act.put, List.setIfInBounds_toArray, List.set_cons_zero, List.set_cons_succ]
  refine wpAnyH_ready (rs := [6]) (by kernel_rfl) (by simp) (AllReadyH.cons (o := ⟨some 13, _, _, _, _, _⟩) rfl (fun KK hKK => ?_) AllReadyH.nil)
  rw [if_pos (by rfl)]
  have Hheld := Lib.hid hHeld
  clear hHeld
  go_wp2_with (go_at_call 113; refine (at_any n f i j _ (by omega) (by omega)).mono ?_; rintro e w2 ⟨rfl, hb⟩)
  refine hKK.out _ _ ⟨Hheld.out.1.below hb, Hheld.out.2.1.below hb, Hheld.out.2.2.trans (hb.mono Hheld.out.2.2.size)⟩ (fun hHeld => ?_)
  clear hb Hheld hKK KK
  refine wpAnyH_take (i := 7) (oi := ⟨some 14, _, _, _, _, _⟩) (v := .int .i64 (f i j - 1)) rfl (by kernel_rfl) (by kernel_rfl) (by kernel_rfl) (fun _ _ _ h => h) (Or.inl ⟨by rfl, ?y1⟩) hHeld ?_
  case y1 => intro w hSw; go_simp
  simp only [Act.put, List.setIfInBounds_toArray, List.set_cons_zero, List.set_cons_succ]
  refine wpAnyH_take (i := 8) (oi := ⟨some 5, _, _, _, _, _⟩) (v := .int .i64 (f i j + 1)) rfl (by kernel_rfl) (by kernel_rfl) (by kernel_rfl) (fun _ _ _ h => h) (Or.inl ⟨by rfl, ?y1⟩) hHeld ?_
  case y1 => intro w hSw; go_simp
  simp only [Act.put, List.setIfInBounds_toArray, List.set_cons_zero, List.set_cons_succ]
  refine wpAnyH_take (i := 9) (oi := ⟨some 6, _, _, _, _, _⟩) (v := .int .i64 (f i j - 1)) rfl (by kernel_rfl) (by kernel_rfl) (by kernel_rfl) (fun _ _ _ h => h) (Or.inl ⟨by rfl, ?y1⟩) hHeld ?_
  case y1 => intro w hSw; go_simp
  simp only [Act.put, List.setIfInBounds_toArray, List.set_cons_zero, List.set_cons_succ]
  refine wpAnyH_done (by kernel_rfl) ?_ _
  obtain ⟨hT, hC, hB⟩ := hHeld
  clear k1 k2
  have HT := Lib.hid hT
  have HC := Lib.hid hC
  have HB := Lib.hid hB
  have HZ := Lib.hid hB.size
  have hcall := fun w' => around_any n f i j w' hi0 hi hj0 hj
  have a1 := Hf.out (i - 1) j (by omega) (by omega)
  have a2 := Hf.out i (j - 1) (by omega) (by omega)
  have a3 := Hf.out i (j + 1) (by omega) (by omega)
  have a4 := Hf.out (i + 1) j (by omega) (by omega)
  have hway : way f i j = if f (i - 1) j = f i j + 1 ∧ f i (j - 1) = f i j + 1 ∧ f i (j + 1) = f i j + 1 ∧ f (i + 1) j = f i j + 1 then 1 else if f (i - 1) j = f i j - 1 ∧ f i (j - 1) = f i j - 1 ∧ f i (j + 1) = f i j - 1 ∧ f (i + 1) j = f i j - 1 then -1 else 0 := rfl
  generalize f (i - 1) j = x1 at hcall a1 hway
  generalize f i (j - 1) = x2 at hcall a2 hway
  generalize f i (j + 1) = x3 at hcall a3 hway
  generalize f (i + 1) j = x4 at hcall a4 hway
  obtain ⟨x, hx⟩ : ∃ x, x = f i j := ⟨_, rfl⟩
  rw [← hx] at hway b0 ⊢
  have hA : Fits x1 ∧ Fits x2 ∧ Fits x3 ∧ Fits x4 ∧ Fits (x + 1) ∧ Fits (x - 1) := by unfold Fits; omega
  have hE1 := fun w' => Try.eq_four hA.1 hA.2.1 hA.2.2.1 hA.2.2.2.1 hA.2.2.2.2.1 hA.2.2.2.2.1 hA.2.2.2.2.1 hA.2.2.2.2.1 w'
  have hE2 := fun w' => Try.eq_four hA.1 hA.2.1 hA.2.2.1 hA.2.2.2.1 hA.2.2.2.2.2 hA.2.2.2.2.2 hA.2.2.2.2.2 hA.2.2.2.2.2 w'
  clear hA a1 a2 a3 a4
  have Hcall := Lib.hid hcall
  have Hway := Lib.hid hway
  clear hT hC hB hcall hway hx
  by_cases hu : x1 = x + 1 ∧ x2 = x + 1 ∧ x3 = x + 1 ∧ x4 = x + 1
  · rw [decide_eq_true hu] at hE1
    have HE1 := Lib.hid hE1
    have Hu := Lib.hid hu
    clear hu hE1 hE2
    go_wp2_with (first
      | (refine wpList_loadG rfl 54 _ rfl w.heap.size rfl _ _ HT.out Try.underlying54 rfl (Try.size_terr _ _) ?_)
      | (refine wpList_loadG rfl 59 _ rfl (w.heap.size + 1) rfl _ _ HC.out Try.underlying59 rfl (Try.size_cell _ _) ?_)
      | (go_at_call 127; refine (Hcall.out _).mono ?_; rintro e w9 ⟨rfl, hb9⟩)
      | (refine wpList_eqA rfl 108 108 _ _ rfl (fl4 x1 x2 x3 x4).toArray (fl4 (x + 1) (x + 1) (x + 1) (x + 1)).toArray rfl rfl Try.guard_four true (HE1.out _) ?_))
    have Hb9 := Lib.hid (HB.out.trans (hb9.mono HZ.out))
    clear hb9
    go_ret
    exact ⟨by rw [Hway.out, if_pos Hu.out]; rfl, Hb9.out⟩
  · rw [decide_eq_false hu] at hE1
    have HE1 := Lib.hid hE1
    have Hu := Lib.hid hu
    clear hu hE1
    by_cases hd : x1 = x - 1 ∧ x2 = x - 1 ∧ x3 = x - 1 ∧ x4 = x - 1
    all_goals
      first
        | rw [decide_eq_true hd] at hE2
        | rw [decide_eq_false hd] at hE2
      have HE2 := Lib.hid hE2
      have Hd := Lib.hid hd
      clear hd hE2
      go_wp2_with (first
        | (refine wpList_loadG rfl 54 _ rfl w.heap.size rfl _ _ HT.out Try.underlying54 rfl (Try.size_terr _ _) ?_)
        | (refine wpList_loadG rfl 59 _ rfl (w.heap.size + 1) rfl _ _ HC.out Try.underlying59 rfl (Try.size_cell _ _) ?_)
        | (go_at_call 127; refine (Hcall.out _).mono ?_; rintro e w9 ⟨rfl, hb9⟩)
        | (refine wpList_eqA rfl 108 108 _ _ rfl (fl4 x1 x2 x3 x4).toArray (fl4 (x + 1) (x + 1) (x + 1) (x + 1)).toArray rfl rfl Try.guard_four _ (HE1.out _) ?_)
        | (refine wpList_eqA rfl 108 108 _ _ rfl (fl4 x1 x2 x3 x4).toArray (fl4 (x - 1) (x - 1) (x - 1) (x - 1)).toArray rfl rfl Try.guard_four _ (HE2.out _) ?_))
      have Hb9 := Lib.hid (HB.out.trans (hb9.mono HZ.out))
      clear hb9
      go_ret
      first
        | exact ⟨by rw [Hway.out, if_neg Hu.out, if_pos Hd.out]; rfl, Hb9.out⟩
        | exact ⟨by rw [Hway.out, if_neg Hu.out, if_neg Hd.out]; rfl, Hb9.out⟩
end Go.Proofs.Ytogkmfndfedfiaa

namespace Go.Proofs.Ytogkmfndfedfiaa
open Go.RowKit

theorem Try.infob_cell : (Try.prog.info? 59).map (fun i => (i.zero, i.size, i.bytes)) = some (some (.agg (cl 0 0)), 2, 16) := by kernel_rfl

theorem OwnC.lt {w : World} {B : Nat} {v : Value} {cs : List (Nat × Nat)} (h : OwnC w B v cs) : ∀ k, v.ownBlock = some k → B ≤ k ∧ k < w.heap.size := World.ownsRow.lt h
theorem OwnC.below {w w' : World} {B : Nat} {v : Value} {cs : List (Nat × Nat)} (h : OwnC w B v cs) (hb : Below w.heap.size w w') : OwnC w' B v cs := by
  refine ⟨h.1, ?_⟩
  rcases h.2 with h0 | ⟨g, cap, cur, hv, hg, hh, r⟩
  · exact .inl h0
  · exact .inr ⟨g, cap, cur, hv, hg, by rw [hb.block g (lt_of_block hh)]; exact hh, r⟩
theorem OwnC.base {w : World} {B B' : Nat} {v : Value} {cs : List (Nat × Nat)} (h : OwnC w B v cs) (hB : B' ≤ B) : OwnC w B' v cs := by
  refine ⟨h.1, ?_⟩
  rcases h.2 with h0 | ⟨g, cap, cur, hv, hg, r⟩
  · exact .inl h0
  · exact .inr ⟨g, cap, cur, hv, by omega, r⟩
theorem OwnC.snoc {w w1 : World} {B : Nat} {v v' : Value} {cs : List (Nat × Nat)} {c : Nat × Nat} {o : Obj} (h : OwnC w B v cs) (hB : B ≤ w.heap.size)
    (h1 : w1.ownsRow B 59 2 v' (cs.length + 1) (cs.flatMap crow ++ crow c)) (hg : (w.alloc o).grownBy w1 v.ownBlock) : OwnC w1 B v' (cs ++ [c]) ∧ Below B w w1 := by
  refine ⟨?_, Below.grown ((Below.refl B w).alloc hB o) hg (by simp; omega) (fun k hk => (h.lt k hk).1)⟩
  unfold OwnC
  rw [List.length_append, List.flatMap_append]
  simpa using h1
theorem crow_get : ∀ (cs : List (Nat × Nat)) (k : Nat) (hk : k < cs.length), (cs.flatMap crow)[k * 2]? = some (.int .i64 ((cs[k]).1 : Int)) ∧ (cs.flatMap crow)[k * 2 + 1]? = some (.int .i64 ((cs[k]).2 : Int))
  | c :: cs, 0, _ => by simp [crow]
  | c :: cs, k + 1, hk => by
    have h := crow_get cs k (by simpa using hk)
    rw [List.flatMap_cons]
    simp only [crow, List.cons_append, List.nil_append, show (k + 1) * 2 = k * 2 + 1 + 1 from by omega, List.getElem?_cons_succ, List.getElem_cons_succ]
    exact h
/-- a slice whose cells read so -/
def CellsAt (w : World) (ao : Option Addr) (cs : List (Nat × Nat)) : Prop := ∀ k (hk : k < cs.length), ∃ g o, ao = some ⟨g, o, none⟩ ∧ w.rangeAt g (o + k * 2) (crow cs[k])
theorem CellsAt.below {w w' : World} {ao : Option Addr} {cs : List (Nat × Nat)} (h : CellsAt w ao cs) (hb : Below w.heap.size w w') : CellsAt w' ao cs := fun k hk => by
  obtain ⟨g, o, e, hr⟩ := h k hk
  exact ⟨g, o, e, fun j u hj => cell_below (hr j u hj) hb⟩
theorem OwnC.read {w : World} {B : Nat} {v : Value} {cs : List (Nat × Nat)} (h : OwnC w B v cs) : ∃ ao c, v = .slice ao cs.length c ∧ cs.length ≤ c ∧ c ≤ 9223372036854775807 ∧ CellsAt w ao cs := by
  rcases h.2 with ⟨rfl, h0⟩ | ⟨g, cap, cur, rfl, hg, hh, hn, hm, hs, ht⟩
  · exact ⟨none, 0, by rw [h0], by omega, by omega, fun k hk => absurd hk (by omega)⟩
  · refine ⟨some ⟨g, 0, none⟩, cap, rfl, hn, by unfold maxLen at hm; omega, fun k hk => ⟨g, 0, rfl, fun j u hj => ?_⟩⟩
    have hj2 : j < 2 := (List.getElem?_eq_some_iff.1 hj).1
    rw [World.ownsRow.cellAt h _ (by omega)]
    have hc := crow_get cs k hk
    rcases j with _ | j
    · rw [show 0 + k * 2 + 0 = k * 2 from by omega]
      exact hc.1.trans hj
    · obtain rfl : j = 0 := by omega
      rw [show 0 + k * 2 + (0 + 1) = k * 2 + 1 from by omega]
      exact hc.2.trans hj
theorem two_new {w : World} {x y : Value} {e : TypeId} : ∀ (j : Nat) (u : Value), [x, y][j]? = some u → (w.alloc (.cells #[x, y] e)).cell? ((⟨w.heap.size, 0, none⟩ : Addr).add j) = some u := by
  intro j u h
  have hj2 : j < 2 := (List.getElem?_eq_some_iff.1 h).1
  rcases j with _ | j
  · show (w.alloc _).cell? ⟨w.heap.size, 0, none⟩ = _
    rw [cell_of_row _ _ 0 _ _ _ (heap_alloc_new w _)]
    exact h
  · obtain rfl : j = 0 := by omega
    show (w.alloc _).cell? ⟨w.heap.size, 1, none⟩ = _
    rw [cell_of_row _ _ 1 _ _ _ (heap_alloc_new w _)]
    exact h
theorem allCells_few {n s t : Nat} (hn : n ≤ 6) (hs : s ≤ n) (ht : t ≤ n) : (allCells n s ++ rowCells s t).length ≤ 42 := by
  have h1 := allCells_len n s
  have h2 := rowCells_len s t
  have h3 : s * n ≤ 6 * 6 := Nat.mul_le_mul (by omega) hn
  rw [List.length_append]
  omega

set_option maxRecDepth 100000 in
set_option maxHeartbeats 1600000 in
theorem cells_any (n : Nat) (f : Nat → Nat → Int) (w : World) (hn1 : 1 ≤ n) (hn : n ≤ 6) :
    Calls Try.prog 102 #[.agg (tc n f)] w fun e w' => ∃ v, e = .returned v ∧ OwnC w' w.heap.size v (allCells n n) ∧ Below w.heap.size w w' := by
  obtain ⟨c0, hc, hz0, hz1, hz2⟩ := info_parts Try.infob_cell
  have hmx : (n : Int) ≤ 6 := by omega
  go_enter Try.func102, Try.ntmps102
  go_upto_region 1 with (refine wpList_boxT rfl 54 _ rfl _ rfl ?_)
  generalize hW : World.alloc w _ = w1
  have hT : TerrAt w1 w.heap.size n f := by rw [← hW]; exact TerrAt.new w _ _
  have hB : Below w.heap.size w w1 := by rw [← hW]; exact (Below.refl _ _).alloc (Nat.le_refl _) _
  clear hW
  have HT := Lib.hid hT
  have HB := Lib.hid hB
  have HZ := Lib.hid hB.size
  clear hT hB
  go_wp2
  go_loopw [3, 4] (fun list i wr => ∃ s : Nat, 1 ≤ s ∧ s ≤ n ∧ i = .int .i64 s ∧ OwnC wr w1.heap.size list (allCells n s) ∧ Below w1.heap.size w1 wr) (fun _ i _ => n - (intOf i).toNat)
  case atStart => exact ⟨1, by omega, hn1, rfl, by rw [allCells_one]; exact OwnC.nil _ _, Below.refl _ _⟩
  case round =>
    obtain ⟨s, hs1, hs, rfl, hown, hbr⟩ := hrel
    obtain ⟨wo, rfl⟩ : ∃ wo : World, wo = wr := ⟨_, rfl⟩
    have h0 := (HT.out.below hbr).head
    by_cases hlt : s < n
    · have Hown := Lib.hid hown
      have Hbr := Lib.hid hbr
      clear hown hbr
      go_wp2
      clear h0
      go_loopw [3, 5] (fun list j wr => ∃ t : Nat, 1 ≤ t ∧ t ≤ n ∧ j = .int .i64 t ∧ OwnC wr w1.heap.size list (allCells n s ++ rowCells s t) ∧ Below w1.heap.size w1 wr) (fun _ j _ => n - (intOf j).toNat)
      case atStart => exact ⟨1, by omega, hn1, by go_num, by rw [rowCells_one, List.append_nil]; exact Hown.out, Hbr.out⟩
      case round =>
        obtain ⟨t, ht1, ht, rfl, hown, hbr⟩ := hrel
        have h0 := (HT.out.below hbr).head
        by_cases htl : t < n
        · have Hown := Lib.hid hown
          have Hbr := Lib.hid hbr
          have HZr := Lib.hid hbr.size
          obtain ⟨cs, hcs⟩ : ∃ cs, cs = allCells n s ++ rowCells s t := ⟨_, rfl⟩
          rw [← hcs] at hown
          have Hown := Lib.hid hown
          have Hlen := Lib.hid (show cs.length ≤ 42 by rw [hcs]; exact allCells_few hn hs ht)
          have Hcs := Lib.hid hcs
          clear hown hbr hcs
          go_wp2_with (at_builtin; refine wpList_append_own _ rfl _ _ 57 rfl w1.heap.size 59 c0 (.agg (cl 0 0)) 2 16 Try.underlying57 hc hz0 hz1 hz2 rfl (by decide) _ _ _ rfl (World.ownsRow.alloc Hown.out _) ⟨wr.heap.size, 0, none⟩ 1 1 (crow (s, t)) rfl rfl ?c1 ?c2 ?c3 ?c4 ?c5 ?_)
          case c1 => exact two_new
          case c2 => intro u hu; simp [crow] at hu; rcases hu with rfl | rfl <;> rfl
          case c3 => have := Hlen.out; unfold maxLen; omega
          case c4 => have := Hlen.out; omega
          case c5 => have := HZr.out; simp; omega
          intro v' w3 hown' hgrow _
          have hput := Hown.out.snoc (c := (s, t)) HZr.out hown' hgrow
          have Hput := Lib.hid hput
          clear hput hown' hgrow
          go_wp2
          go_roundw
          case rel => exact ⟨t + 1, by omega, by omega, by go_num, by rw [rowCells_succ s t ht1, ← List.append_assoc, ← Hcs.out]; exact Hput.out.1, Hbr.out.trans Hput.out.2⟩
          case measure => simp [intOf]; omega
        · obtain rfl : t = n := by omega
          have Hown := Lib.hid hown
          have Hbr := Lib.hid hbr
          clear hown hbr
          go_wp2
          go_roundw
          case rel => exact ⟨s + 1, by omega, by omega, by go_num, by rw [allCells_succ _ s hs1]; exact Hown.out, Hbr.out⟩
          case measure => simp [intOf]; omega
    · obtain rfl : s = n := by omega
      have Hown := Lib.hid hown
      have Hbr := Lib.hid hbr
      clear hown hbr
      go_wp2
      go_ret
      exact ⟨_, rfl, Hown.out.base HZ.out, HB.out.trans (Hbr.out.mono HZ.out)⟩
end Go.Proofs.Ytogkmfndfedfiaa

namespace Go.Proofs.Ytogkmfndfedfiaa
open Go.RowKit

theorem allCells_all {n : Nat} (hn : n ≤ 6) : (allCells n n).length ≤ 36 := by
  have h1 := allCells_len n n
  have h3 : n * n ≤ 6 * 6 := Nat.mul_le_mul hn hn
  omega
theorem crow_one (c : Nat × Nat) : (crow c).toArray.all (·.oneCell') = true := by simp [crow, Value.oneCell']
theorem take_snoc {α : Type _} {cs : List α} {k : Nat} (h : k < cs.length) : cs.take (k + 1) = cs.take k ++ [cs[k]] := by
  rw [List.take_add_one, List.getElem?_eq_getElem h]
  rfl

set_option maxRecDepth 100000 in
set_option maxHeartbeats 1600000 in
theorem flips_any (n : Nat) (f : Nat → Nat → Int) (v st : Int) (w : World) (hn1 : 1 ≤ n) (hn : n ≤ 6) (hf : Near f) (hst : st = 2 * v) (hv : -1 ≤ v) (hv2 : v ≤ 1) :
    Calls Try.prog 112 #[.agg (tc n f), .int .i64 st] w fun e w' => ∃ u, e = .returned u ∧ OwnC w' w.heap.size u (flipsL f v (allCells n n)) ∧ Below w.heap.size w w' := by
  obtain ⟨c0, hc, hz0, hz1, hz2⟩ := info_parts Try.infob_cell
  have Hst := Lib.hid hst
  have Hf := Lib.hid hf
  have Hall := Lib.hid (allCells_all hn)
  have Hin := Lib.hid (fun (k : Nat) (hk : k < (allCells n n).length) => mem_allCells (List.getElem_mem hk))
  clear hst hf
  go_enter Try.func112, Try.ntmps112
  go_upto_region 1 with (refine wpList_boxT rfl 54 _ rfl _ rfl ?_)
  generalize hW : World.alloc w _ = w1
  have hT : TerrAt w1 w.heap.size n f := by rw [← hW]; exact TerrAt.new w _ _
  have hB : Below w.heap.size w w1 := by rw [← hW]; exact (Below.refl _ _).alloc (Nat.le_refl _) _
  clear hW
  have HT := Lib.hid hT
  have HB := Lib.hid hB
  have HZ := Lib.hid hB.size
  clear hT hB
  go_wp2_with (refine wpList_loadG rfl 54 _ rfl w.heap.size rfl _ _ HT.out Try.underlying54 rfl (Try.size_terr _ _) ?_)
  refine (cells_any n f w1 hn1 hn).mono ?_
  rintro e w2 ⟨v2, rfl, hv2', hb2⟩
  obtain ⟨ca, cc, rfl, hcc1, hcc2, hca⟩ := hv2'.read
  obtain ⟨cs, hcs⟩ : ∃ cs, cs = allCells n n := ⟨_, rfl⟩
  rw [← hcs] at hca hcc1 ⊢
  have Hlen := Lib.hid (show cs.length ≤ 36 by rw [hcs]; exact Hall.out)
  have Hmem := Lib.hid (show ∀ (k : Nat) (hk : k < cs.length), 1 ≤ (cs[k]).1 ∧ (cs[k]).1 < n ∧ 1 ≤ (cs[k]).2 ∧ (cs[k]).2 < n by subst hcs; exact Hin.out)
  have HT2 := Lib.hid (HT.out.below hb2)
  have Hca := Lib.hid hca
  have Hb2 := Lib.hid (HB.out.trans (hb2.mono HZ.out))
  have HZ2 := Lib.hid Hb2.out.size
  have hmx : cs.length ≤ 36 := Hlen.out
  have Hcs := Lib.hid hcs
  clear hcs hca hv2' hb2 HT Hin Hall
  go_wp2
  go_loopw [5, 11] (fun list i wr => ∃ k : Nat, k ≤ cs.length ∧ i = .int .i64 k ∧ OwnC wr w2.heap.size list (flipsL f v (cs.take k)) ∧ Below w2.heap.size w2 wr) (fun _ i _ => cs.length - (intOf i).toNat)
  case atStart => exact ⟨0, Nat.zero_le _, rfl, OwnC.nil _ _, Below.refl _ _⟩
  case round =>
    obtain ⟨k, hk, rfl, hown, hbr⟩ := hrel
    by_cases hlt : k < cs.length
    · obtain ⟨g, o, rfl, hr⟩ := Hca.out.below hbr k hlt
      obtain ⟨c, hcv⟩ : ∃ c, c = cs[k] := ⟨_, rfl⟩
      have hin := Hmem.out k hlt
      have htk := take_snoc hlt
      rw [← hcv] at hr hin htk
      have Htk := Lib.hid htk
      have Hown := Lib.hid hown
      have Hbr := Lib.hid hbr
      have HZr := Lib.hid hbr.size
      have Hr := Lib.hid hr
      have Hin := Lib.hid hin
      have hcall := fun w' => stepAt_any n f c.1 c.2 w' hin.1 (by omega) hin.2.2.1 (by omega) Hf.out
      have Hcall := Lib.hid hcall
      clear hown hbr hr hin htk hcv hcall
      go_upto_region 5 with (first
        | (refine wpList_load_mid rfl 59 _ rfl g (o + k * 2) rfl (crow c) _ Hr.out Try.underlying59 rfl (Try.size_celll _ _) ?_)
        | (refine wpList_allocT rfl 59 rfl _ _ Try.info_cell ?_)
        | (refine wpList_storeT rfl 59 _ _ rfl (crow c).toArray (cl 0 0) wr.heap.size rfl rfl rfl (Try.size_cell c.1 c.2) rfl (crow_one c) ?_))
      generalize hW : World.alloc wr _ = w3
      have hC : CellAt w3 wr.heap.size c.1 c.2 := by rw [← hW]; exact heap_alloc_new wr _
      have hb3 : Below wr.heap.size wr w3 := by rw [← hW]; exact (Below.refl _ _).alloc (Nat.le_refl _) _
      clear hW
      have HC := Lib.hid hC
      have HT3 := Lib.hid ((HT2.out.below Hbr.out).below hb3)
      have Hown3 := Lib.hid (Hown.out.below hb3)
      have Hbr3 := Lib.hid (Hbr.out.trans (hb3.mono HZr.out))
      have HZ3 := Lib.hid Hbr3.out.size
      have Hgz := Lib.hid hb3.size
      clear hC hb3 Hown Hbr
      go_wp2_with (first
        | (refine wpList_loadG rfl 54 _ rfl w.heap.size rfl _ _ HT3.out Try.underlying54 rfl (Try.size_terr _ _) ?_)
        | (refine wpList_loadG rfl 59 _ rfl wr.heap.size rfl _ _ HC.out Try.underlying59 rfl (Try.size_cell _ _) ?_))
      refine (Hcall.out w3).mono ?_
      rintro e w4 ⟨rfl, hb4⟩
      have HC4 := Lib.hid (HC.out.below hb4)
      have Hown4 := Lib.hid (Hown3.out.below hb4)
      have Hbr4 := Lib.hid (Hbr3.out.trans (hb4.mono HZ3.out))
      have HZ4 := Lib.hid Hbr4.out.size
      obtain ⟨x, hx⟩ : ∃ x, x = way f c.1 c.2 := ⟨_, rfl⟩
      have hsn := flipsL_snoc f v (cs.take k) c
      rw [← Htk.out, ← hx] at hsn
      have Hsn := Lib.hid hsn
      rw [← hx]
      clear hb4 hx hsn Hcall Hown3
      by_cases hw : x = v
      · rw [if_pos hw] at Hsn
        have hb : (2 * x == st) = true := by simp; rw [Hst.out, hw]
        clear hw
        obtain ⟨ps, hps⟩ : ∃ ps, ps = flipsL f v (cs.take k) := ⟨_, rfl⟩
        have Hlp := Lib.hid (show ps.length ≤ 36 by rw [hps]; exact Nat.le_trans (flipsL_len _ _ _) (by rw [List.length_take]; have := Hlen.out; omega))
        rw [← hps] at Hown4 Hsn
        clear hps
        go_wp2_with (first
          | (refine wpList_loadG rfl 59 _ rfl wr.heap.size rfl #[.int .i64 (c.1 : Int), .int .i64 (c.2 : Int)] _ HC4.out Try.underlying59 rfl (Try.size_cell c.1 c.2) ?_)
          | (at_builtin; refine wpList_append_own _ rfl _ _ 57 rfl w2.heap.size 59 c0 (.agg (cl 0 0)) 2 16 Try.underlying57 hc hz0 hz1 hz2 rfl (by decide) _ _ _ rfl (World.ownsRow.alloc Hown4.out _) ⟨w4.heap.size, 0, none⟩ 1 1 (crow c) rfl rfl ?c1 ?c2 ?c3 ?c4 ?c5 ?_))
        case c1 => exact two_new
        case c2 => intro u hu; simp [crow] at hu; rcases hu with rfl | rfl <;> rfl
        case c3 => have := Hlp.out; unfold maxLen; omega
        case c4 => have := Hlp.out; omega
        case c5 => have := HZ4.out; simp; omega
        intro v' w5 hown' hgrow _
        have hput := Hown4.out.snoc (c := c) HZ4.out hown' hgrow
        have Hput := Lib.hid hput
        clear hput hown' hgrow
        go_wp2
        go_roundw
        case rel => exact ⟨k + 1, by omega, by go_num, by rw [Hsn.out]; exact Hput.out.1, Hbr4.out.trans Hput.out.2⟩
        case measure => simp [intOf]; omega
      · rw [if_neg hw] at Hsn
        have hb : (2 * x == st) = false := by simp; rw [Hst.out]; omega
        clear hw
        go_wp2
        go_roundw
        case rel => exact ⟨k + 1, by omega, by go_num, by rw [Hsn.out]; exact Hown4.out, Hbr4.out⟩
        case measure => simp [intOf]; omega
    · obtain rfl : k = cs.length := by omega
      rw [List.take_length] at hown
      have Hown := Lib.hid hown
      have Hbr := Lib.hid hbr
      clear hown hbr
      go_wp2
      go_ret
      exact ⟨_, rfl, by rw [← Hcs.out]; exact Hown.out.base HZ2.out, Hb2.out.trans (Hbr.out.mono HZ2.out)⟩
end Go.Proofs.Ytogkmfndfedfiaa

