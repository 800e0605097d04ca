/- Contract of the program: what a flip adds to a height. Conditions: inner cells; numbers not far from 0. -/
import Derived.Test.YtopamhcnbocfoaaFlA
namespace Go.Proofs.Ytopamhcnbocfoaa
open Go.RowKit

set_option maxRecDepth 100000 in
set_option maxHeartbeats 3200000 in
theorem stepAt_any (n : Int) (f : Nat → Nat → Int) (i j : Nat) (w : World) (hi0 : 1 ≤ i) (hi : i + 1 < 7) (hj0 : 1 ≤ j) (hj : j + 1 < 7) (hf : Near f) :
    Calls Try.prog 104 #[.agg (tc n f), .agg (cl i j)] w fun e w' => e = .returned (.int .i64 (2 * way f i j)) ∧ Below w.heap.size w w' := by
  have Hf := Lib.hid hf
  clear hf
  go_enter Try.func104, Try.ntmps104
  go_upto_region 1 with (first | (refine wpList_boxT rfl 47 _ rfl _ rfl ?_) | (refine wpList_boxT rfl 79 _ rfl _ rfl ?_))
  generalize hW : World.alloc (World.alloc w _) _ = w1
  have hT : TerrAt w1 w.heap.size n f := by rw [← hW]; exact tc_bot w _ _ _ _
  have hC : CellAt w1 (w.heap.size + 1) i j := by rw [← hW]; exact tc_top w _ _ _
  have hB : Below w.heap.size w w1 := by rw [← hW]; exact two_below w _ _
  clear hW
  have b0 := Hf.out i j (by omega) (by omega)
  refine wp_region_held_drew (S := fun w' => TerrAt w' w.heap.size n f ∧ CellAt w' (w.heap.size + 1) i j ∧ Below w.heap.size w w') (by kernel_rfl) ⟨hT, hC, below_drewN hB 1⟩ (fun hHeld => ?_)
  clear hT hC hB
  refine wpAnyH_take (i := 0) (oi := ⟨some 7, _, _, _, _, _⟩) (v := .agg (tl n f).toArray) rfl (by kernel_rfl) (by kernel_rfl) (by kernel_rfl) (fun _ _ _ h => h) (yieldsIf_load_mid (by rfl) _ _ rfl w.heap.size 0 rfl (tl n f) _ (fun w hw => hw.1.rangeT) Try.underlying47 rfl (Try.size_terrl n f)) hHeld ?_
  simp only [Act.put, List.setIfInBounds_toArray, List.set_cons_zero, List.set_cons_succ]
  refine wpAnyH_take (i := 1) (oi := ⟨some 8, _, _, _, _, _⟩) (v := .agg [.int .i64 (i : Int), .int .i64 (j : Int)].toArray) rfl (by kernel_rfl) (by kernel_rfl) (by kernel_rfl) (fun _ _ _ h => h) (yieldsIf_load_mid (by rfl) _ _ rfl (w.heap.size + 1) 0 rfl [.int .i64 (i : Int), .int .i64 (j : Int)] _ (fun w hw => hw.2.1.range) Try.underlying79 rfl (Try.size_celll i j)) hHeld ?_
  simp only [Act.put, List.setIfInBounds_toArray, List.set_cons_zero, List.set_cons_succ]
  refine wpAnyH_take (i := 4) (oi := ⟨some 11, _, _, _, _, _⟩) (v := .agg (tl n f).toArray) rfl (by kernel_rfl) (by kernel_rfl) (by kernel_rfl) (fun _ _ _ h => h) (yieldsIf_load_mid (by rfl) _ _ rfl w.heap.size 0 rfl (tl n f) _ (fun w hw => hw.1.rangeT) Try.underlying47 rfl (Try.size_terrl n f)) hHeld ?_
  simp only [Act.put, List.setIfInBounds_toArray, List.set_cons_zero, List.set_cons_succ]
  refine wpAnyH_take (i := 5) (oi := ⟨some 12, _, _, _, _, _⟩) (v := .agg [.int .i64 (i : Int), .int .i64 (j : Int)].toArray) rfl (by kernel_rfl) (by kernel_rfl) (by kernel_rfl) (fun _ _ _ h => h) (yieldsIf_load_mid (by rfl) _ _ rfl (w.heap.size + 1) 0 rfl [.int .i64 (i : Int), .int .i64 (j : Int)] _ (fun w hw => hw.2.1.range) Try.underlying79 rfl (Try.size_celll i j)) hHeld ?_
  simp only [Act.put, List.setIfInBounds_toArray, List.set_cons_zero, List.set_cons_succ]
  refine wpAnyH_ready (rs := [2]) (by kernel_rfl) (by simp) (AllReadyH.cons (o := ⟨some 9, _, _, _, _, _⟩) rfl (fun KK hKK => ?_) AllReadyH.nil)
  rw [if_pos (by rfl)]
  have Hheld := Lib.hid hHeld
  clear hHeld
  go_wp2_with (go_at_call 118; refine (at_any n f i j _ (by omega) (by omega)).mono ?_; rintro e w2 ⟨rfl, hb⟩)
  refine hKK.out _ _ ⟨Hheld.out.1.below hb, Hheld.out.2.1.below hb, Hheld.out.2.2.trans (hb.mono Hheld.out.2.2.size)⟩ (fun hHeld => ?_)
  clear hb Hheld hKK KK
  have k1 : IntKind.i64.wrap (f i j + 1) = f i j + 1 := w64 (by omega)
  have k2 : IntKind.i64.wrap (f i j - 1) = f i j - 1 := w64 (by omega)
  refine wpAnyH_take (i := 3) (oi := ⟨some 10, _, _, _, _, _⟩) (v := .int .i64 (f i j + 1)) rfl (by kernel_rfl) (by kernel_rfl) (by kernel_rfl) (fun _ _ _ h => h) (Or.inl ⟨by rfl, ?y1⟩) hHeld ?_
  case y1 => intro w hSw; go_simp
  simp only [Act.put, List.setIfInBounds_toArray, List.set_cons_zero, List.set_cons_succ]
  refine wpAnyH_ready (rs := [6]) (by kernel_rfl) (by simp) (AllReadyH.cons (o := ⟨some 13, _, _, _, _, _⟩) rfl (fun KK hKK => ?_) AllReadyH.nil)
  rw [if_pos (by rfl)]
  have Hheld := Lib.hid hHeld
  clear hHeld
  go_wp2_with (go_at_call 118; refine (at_any n f i j _ (by omega) (by omega)).mono ?_; rintro e w2 ⟨rfl, hb⟩)
  refine hKK.out _ _ ⟨Hheld.out.1.below hb, Hheld.out.2.1.below hb, Hheld.out.2.2.trans (hb.mono Hheld.out.2.2.size)⟩ (fun hHeld => ?_)
  clear hb Hheld hKK KK
  refine wpAnyH_take (i := 7) (oi := ⟨some 14, _, _, _, _, _⟩) (v := .int .i64 (f i j - 1)) rfl (by kernel_rfl) (by kernel_rfl) (by kernel_rfl) (fun _ _ _ h => h) (Or.inl ⟨by rfl, ?y1⟩) hHeld ?_
  case y1 => intro w hSw; go_simp
  simp only [Act.put, List.setIfInBounds_toArray, List.set_cons_zero, List.set_cons_succ]
  refine wpAnyH_take (i := 8) (oi := ⟨some 5, _, _, _, _, _⟩) (v := .int .i64 (f i j + 1)) rfl (by kernel_rfl) (by kernel_rfl) (by kernel_rfl) (fun _ _ _ h => h) (Or.inl ⟨by rfl, ?y1⟩) hHeld ?_
  case y1 => intro w hSw; go_simp
  simp only [Act.put, List.setIfInBounds_toArray, List.set_cons_zero, List.set_cons_succ]
  refine wpAnyH_take (i := 9) (oi := ⟨some 6, _, _, _, _, _⟩) (v := .int .i64 (f i j - 1)) rfl (by kernel_rfl) (by kernel_rfl) (by kernel_rfl) (fun _ _ _ h => h) (Or.inl ⟨by rfl, ?y1⟩) hHeld ?_
  case y1 => intro w hSw; go_simp
  simp only [Act.put, List.setIfInBounds_toArray, List.set_cons_zero, List.set_cons_succ]
  refine wpAnyH_done (by kernel_rfl) ?_ _
  obtain ⟨hT, hC, hB⟩ := hHeld
  clear k1 k2
  have HT := Lib.hid hT
  have HC := Lib.hid hC
  have HB := Lib.hid hB
  have HZ := Lib.hid hB.size
  have hcall := fun w' => around_any n f i j w' hi0 hi hj0 hj
  have a1 := Hf.out (i - 1) j (by omega) (by omega)
  have a2 := Hf.out i (j - 1) (by omega) (by omega)
  have a3 := Hf.out i (j + 1) (by omega) (by omega)
  have a4 := Hf.out (i + 1) j (by omega) (by omega)
  have hway : way f i j = if f (i - 1) j = f i j + 1 ∧ f i (j - 1) = f i j + 1 ∧ f i (j + 1) = f i j + 1 ∧ f (i + 1) j = f i j + 1 then 1 else if f (i - 1) j = f i j - 1 ∧ f i (j - 1) = f i j - 1 ∧ f i (j + 1) = f i j - 1 ∧ f (i + 1) j = f i j - 1 then -1 else 0 := rfl
  generalize f (i - 1) j = x1 at hcall a1 hway
  generalize f i (j - 1) = x2 at hcall a2 hway
  generalize f i (j + 1) = x3 at hcall a3 hway
  generalize f (i + 1) j = x4 at hcall a4 hway
  obtain ⟨x, hx⟩ : ∃ x, x = f i j := ⟨_, rfl⟩
  rw [← hx] at hway b0 ⊢
  have hA : Fits x1 ∧ Fits x2 ∧ Fits x3 ∧ Fits x4 ∧ Fits (x + 1) ∧ Fits (x - 1) := by unfold Fits; omega
  have hE1 := fun w' => Try.eq_four hA.1 hA.2.1 hA.2.2.1 hA.2.2.2.1 hA.2.2.2.2.1 hA.2.2.2.2.1 hA.2.2.2.2.1 hA.2.2.2.2.1 w'
  have hE2 := fun w' => Try.eq_four hA.1 hA.2.1 hA.2.2.1 hA.2.2.2.1 hA.2.2.2.2.2 hA.2.2.2.2.2 hA.2.2.2.2.2 hA.2.2.2.2.2 w'
  clear hA a1 a2 a3 a4
  have Hcall := Lib.hid hcall
  have Hway := Lib.hid hway
  clear hT hC hB hcall hway hx
  by_cases hu : x1 = x + 1 ∧ x2 = x + 1 ∧ x3 = x + 1 ∧ x4 = x + 1
  · rw [decide_eq_true hu] at hE1
    have HE1 := Lib.hid hE1
    have Hu := Lib.hid hu
    clear hu hE1 hE2
    go_wp2_with (first
      | (refine wpList_loadG rfl 47 _ rfl w.heap.size rfl _ _ HT.out Try.underlying47 rfl (Try.size_terr _ _) ?_)
      | (refine wpList_loadG rfl 79 _ rfl (w.heap.size + 1) rfl _ _ HC.out Try.underlying79 rfl (Try.size_cell _ _) ?_)
      | (go_at_call 119; refine (Hcall.out _).mono ?_; rintro e w9 ⟨rfl, hb9⟩)
      | (refine wpList_eqA rfl 90 90 _ _ rfl (fl4 x1 x2 x3 x4).toArray (fl4 (x + 1) (x + 1) (x + 1) (x + 1)).toArray rfl rfl Try.guard_four true (HE1.out _) ?_))
    have Hb9 := Lib.hid (HB.out.trans (hb9.mono HZ.out))
    clear hb9
    go_ret
    exact ⟨by rw [Hway.out, if_pos Hu.out]; rfl, Hb9.out⟩
  · rw [decide_eq_false hu] at hE1
    have HE1 := Lib.hid hE1
    have Hu := Lib.hid hu
    clear hu hE1
    by_cases hd : x1 = x - 1 ∧ x2 = x - 1 ∧ x3 = x - 1 ∧ x4 = x - 1
    all_goals
      first
        | rw [decide_eq_true hd] at hE2
        | rw [decide_eq_false hd] at hE2
      have HE2 := Lib.hid hE2
      have Hd := Lib.hid hd
      clear hd hE2
      go_wp2_with (first
        | (refine wpList_loadG rfl 47 _ rfl w.heap.size rfl _ _ HT.out Try.underlying47 rfl (Try.size_terr _ _) ?_)
        | (refine wpList_loadG rfl 79 _ rfl (w.heap.size + 1) rfl _ _ HC.out Try.underlying79 rfl (Try.size_cell _ _) ?_)
        | (go_at_call 119; refine (Hcall.out _).mono ?_; rintro e w9 ⟨rfl, hb9⟩)
        | (refine wpList_eqA rfl 90 90 _ _ rfl (fl4 x1 x2 x3 x4).toArray (fl4 (x + 1) (x + 1) (x + 1) (x + 1)).toArray rfl rfl Try.guard_four _ (HE1.out _) ?_)
        | (refine wpList_eqA rfl 90 90 _ _ rfl (fl4 x1 x2 x3 x4).toArray (fl4 (x - 1) (x - 1) (x - 1) (x - 1)).toArray rfl rfl Try.guard_four _ (HE2.out _) ?_))
      have Hb9 := Lib.hid (HB.out.trans (hb9.mono HZ.out))
      clear hb9
      go_ret
      first
        | exact ⟨by rw [Hway.out, if_neg Hu.out, if_pos Hd.out]; rfl, Hb9.out⟩
        | exact ⟨by rw [Hway.out, if_neg Hu.out, if_neg Hd.out]; rfl, Hb9.out⟩
end Go.Proofs.Ytopamhcnbocfoaa
