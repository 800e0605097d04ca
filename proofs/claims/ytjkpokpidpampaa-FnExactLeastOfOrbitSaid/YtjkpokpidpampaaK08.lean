/- Parts of proofs: contracts and plain facts. Conditions: as each says. -/
import Derived.Test.YtjkpokpidpampaaK07
namespace Go.Proofs.Ytjkpokpidpampaa
open Go.RowKit

section
variable {P : Program}
theorem wp_allocT {o : Oper} {a : Act} {w : World} {K : Act → World → Prop} {Q : Exit → Act → World → Prop} (t : TypeId) (ho : o.op = .alloc t) (z : Array Value) (n : Nat)
    (hz : (P.info? t).map (fun i => (i.zero, i.size)) = some (some (.agg z), n))
    (h : K (a.put o.dst (.pointer (some ⟨w.heap.size, 0, none⟩))) (w.alloc (.cells z t))) : o.wp P a w K Q := by
  unfold Oper.wp execOp
  simp only [ho, Instr.alloc, Sem.run_bind, (zero_of_info hz).1, Result.andThen_ok, newVar, newRow, run_newObj_alloc, Sem.run_pure, Value.cells]
  exact h
end

theorem TerrAt.rangeR {w : World} {g : Nat} {n : Int} {f : Nat → Nat → Int} (h : TerrAt w g n f) {i : Nat} (hi : i < 7) : w.rangeAt g (1 + i * 7) (rl (f i)) := by
  intro j v hv
  have hj : j < 7 := by have := (List.getElem?_eq_some_iff.1 hv).1; simpa [rl] using this
  have h1 := h.cell hi hj
  have h2 := rc_at (f i) hj
  simp only [rc, List.getElem?_toArray] at h2
  rw [h2] at hv
  rw [h1]
  exact hv
theorem Try.size_rowl (r : Nat → Int) : (Try.prog.info? 42).map (·.size) = some (rl r).length := by
  rw [show (rl r).length = 7 by simp [rl]]
  exact Try.size_row
theorem RowAt.setRow {w : World} {g : Nat} {r : Nat → Int} (h : RowAt w g r) (s : Nat → Int) : RowAt (w.setRow g (rc s)) g s := setRow_heap w g _ _ _ _ h
theorem RowAt.setRow_other {w : World} {g g' : Nat} {r : Nat → Int} (h : RowAt w g r) (hg : g ≠ g') (cs : Array Value) : RowAt (w.setRow g' cs) g r := by
  unfold RowAt
  rw [Go.setRow_other w g' g cs hg]
  exact h
theorem RowAt.alloc {w : World} {g : Nat} {r : Nat → Int} (h : RowAt w g r) (o : Obj) : RowAt (w.alloc o) g r := by
  unfold RowAt
  rw [heap_alloc_old w o h.lt]
  exact h

/-- the numbers by heights, as int wraps them -/
def sgW (f : Nat → Nat → Int) (i j : Nat) : Int :=
  wrap64 ((wrap64 (wrap64 (wrap64 (f i (j + 1) - f i j) + f (i + 1) j) - f (i + 1) (j + 1))).tdiv 2)
theorem RowAt.other {w : World} {g : Nat} {r : Nat → Int} (h : RowAt w g r) {a : Addr} (ha : g ≠ a.block) (v : Value) : RowAt (w.setCell a v).drew g r := by
  show (w.setCell a v).heap[g]? = _
  rw [heap_setCell_other w a g v ha]
  exact h

set_option maxRecDepth 100000 in
set_option maxHeartbeats 3200000 in
theorem signs_any (n : Nat) (f : Nat → Nat → Int) (w : World) (hn1 : 1 ≤ n) (hn : n ≤ 6) (hf : Fits7 f) :
    Calls Try.prog 39 #[.agg (tc n f)] w fun e w' => ∃ v, e = .returned v ∧ OwnM w' w.heap.size v (tab n n (sgW f)) ∧ Below w.heap.size w w' := by
  have hmx : n ≤ 9223372036854775807 := by omega
  go_enter Try.func39, Try.ntmps39
  go_upto_region 1 with (first | (refine wpList_allocT rfl 46 rfl _ _ Try.info_terr ?_) | (refine wpList_buildT1 rfl 46 0 _ rfl (.int .i64 _) rfl _ (Try.built_terr _) ?_) | (refine wpList_buildT0 rfl 46 rfl _ Try.built_terr0 ?_) | (refine wpList_boxT rfl 46 _ rfl _ rfl ?_) | (refine wpList_storeT rfl 46 _ _ rfl _ _ _ (by first | rfl | simp) rfl rfl (Try.size_terr _ _) (tc_same _ _ _ _) (tc_one _ _) ?_))
  generalize hW : World.alloc w _ = w1
  have hT : TerrAt w1 w.heap.size n f := by rw [← hW]; exact TerrAt.new w _ _
  have hB : Below w.heap.size w w1 := by rw [← hW]; exact (Below.refl _ _).alloc (Nat.le_refl _) _
  clear hW
  have hh := hT.head
  have HT := Lib.hid hT
  have HB := Lib.hid hB
  have HZ := Lib.hid hB.size
  clear hT hB
  have hcall := newGrid_any n w1 (by omega)
  have Hcall := Lib.hid hcall
  clear hcall
  go_wp2_with fail
  refine Hcall.out.mono ?_
  rintro e w2 ⟨vs, rfl, hv, hb⟩
  have HT2 := Lib.hid (HT.out.below hb)
  have Hv := Lib.hid hv
  have Hb := Lib.hid hb
  clear hv hb hh Hcall
  go_wp2
  go_loopw [14] (fun i wr => ∃ (k : Nat) (g : Nat → Nat → Int), k ≤ n ∧ i = .int .i64 k ∧ OwnP wr w1.heap.size (.slice (some ⟨w1.heap.size, 0, none⟩) n n) n (tab n n g) n vs ∧
      (∀ a b, a < k → b < n → g a b = sgW f a b) ∧ Below w1.heap.size w1 wr) (fun i _ => n - (intOf i).toNat)
  case atStart => exact ⟨0, _, Nat.zero_le _, rfl, Hv.out, fun a b ha _ => absurd ha (by omega), Hb.out⟩
  case round =>
    obtain ⟨k, g, hk, rfl, hown, heq, hbr⟩ := hrel
    clear Hv
    by_cases hlt : k < n
    · obtain ⟨og, ocap, hvs, _, _, _, _⟩ := hown.at2 (i := k) (j := 0) hlt (by omega)
      have hd := hown.cellAt k hlt
      rw [hvs] at hd
      have hTr := HT.out.below hbr
      have hk7 : (k : Int) < 7 := by omega
      have hk77 : k < 7 := by omega
      have hk8 : (k : Int) + 1 < 7 := by omega
      have hk88 : k + 1 < 7 := by omega
      have Hown := Lib.hid hown
      have Heq := Lib.hid heq
      have Hbr := Lib.hid hbr
      have Hvs := Lib.hid hvs
      have HTr := Lib.hid hTr
      have HZ2 := Lib.hid hbr.size
      clear hown heq hbr hvs hTr
      go_upto_region 5 with fail
      refine wp_region_held_drew (S := fun w' => TerrAt w' w.heap.size n f) (by kernel_rfl) HTr.out (fun hHeld => ?_)
      have hb0 : Below wr.heap.size wr wr.drew := below_drewN (Below.refl _ _) 1
      have hs0 : wr.drew.heap.size = wr.heap.size := rfl
      generalize wr.drew = w0 at hb0 hs0 hHeld ⊢
      refine wpAnyH_take (i := 0) (oi := ⟨some 19, _, _, _, _, _⟩) (v := .int .i64 (k : Int)) rfl (by kernel_rfl) (by kernel_rfl) (by kernel_rfl) (fun _ _ _ h => h) (Or.inl ⟨by rfl, ?y1⟩) hHeld ?_
      case y1 => intro w hSw; go_simp
      simp only [Act.put, List.setIfInBounds_toArray, List.set_cons_zero, List.set_cons_succ]
      refine wpAnyH_take (i := 1) (oi := ⟨some 20, _, _, _, _, _⟩) (v := .pointer (some ⟨w.heap.size, 1, none⟩)) rfl (by kernel_rfl) (by kernel_rfl) (by kernel_rfl) (fun _ _ _ h => h) (Or.inl ⟨by rfl, ?y1⟩) hHeld ?_
      case y1 => intro w hSw; go_simp
      simp only [Act.put, List.setIfInBounds_toArray, List.set_cons_zero, List.set_cons_succ]
      refine wpAnyH_take (i := 2) (oi := ⟨some 21, _, _, _, _, _⟩) (v := .pointer (some ⟨w.heap.size, 1 + k * 7, none⟩)) rfl (by kernel_rfl) (by kernel_rfl) (by kernel_rfl) (fun _ _ _ h => h) (Or.inl ⟨by rfl, ?y1⟩) hHeld ?_
      case y1 => intro w hSw; go_simp
      simp only [Act.put, List.setIfInBounds_toArray, List.set_cons_zero, List.set_cons_succ]
      refine wpAnyH_take (i := 3) (oi := ⟨some 22, _, _, _, _, _⟩) (v := .agg (rl (f k)).toArray) rfl (by kernel_rfl) (by kernel_rfl) (by kernel_rfl) (fun _ _ _ h => h)
        (yieldsIf_load_mid (by rfl) _ _ rfl w.heap.size (1 + k * 7) rfl (rl (f k)) _ (fun w hw => hw.rangeR hk77) Try.underlying42 rfl (Try.size_rowl (f k))) hHeld ?_
      simp only [Act.put, List.setIfInBounds_toArray, List.set_cons_zero, List.set_cons_succ]
      refine wpAnyH_take (i := 4) (oi := ⟨some 23, _, _, _, _, _⟩) (v := .int .i64 (k : Int)) rfl (by kernel_rfl) (by kernel_rfl) (by kernel_rfl) (fun _ _ _ h => h) (Or.inl ⟨by rfl, ?y1⟩) hHeld ?_
      case y1 => intro w hSw; go_simp
      simp only [Act.put, List.setIfInBounds_toArray, List.set_cons_zero, List.set_cons_succ]
      refine wpAnyH_take (i := 5) (oi := ⟨some 24, _, _, _, _, _⟩) (v := .int .i64 ((k : Int) + 1)) rfl (by kernel_rfl) (by kernel_rfl) (by kernel_rfl) (fun _ _ _ h => h) (Or.inl ⟨by rfl, ?y1⟩) hHeld ?_
      case y1 => intro w hSw; go_simp; exact w64 (by omega)
      simp only [Act.put, List.setIfInBounds_toArray, List.set_cons_zero, List.set_cons_succ]
      refine wpAnyH_take (i := 6) (oi := ⟨some 25, _, _, _, _, _⟩) (v := .pointer (some ⟨w.heap.size, 1, none⟩)) rfl (by kernel_rfl) (by kernel_rfl) (by kernel_rfl) (fun _ _ _ h => h) (Or.inl ⟨by rfl, ?y1⟩) hHeld ?_
      case y1 => intro w hSw; go_simp
      simp only [Act.put, List.setIfInBounds_toArray, List.set_cons_zero, List.set_cons_succ]
      refine wpAnyH_take (i := 7) (oi := ⟨some 26, _, _, _, _, _⟩) (v := .pointer (some ⟨w.heap.size, 1 + (k + 1) * 7, none⟩)) rfl (by kernel_rfl) (by kernel_rfl) (by kernel_rfl) (fun _ _ _ h => h) (Or.inl ⟨by rfl, ?y1⟩) hHeld ?_
      case y1 => intro w hSw; go_simp; exact fun h => absurd h (by omega)
      simp only [Act.put, List.setIfInBounds_toArray, List.set_cons_zero, List.set_cons_succ]
      refine wpAnyH_take (i := 8) (oi := ⟨some 27, _, _, _, _, _⟩) (v := .agg (rl (f (k + 1))).toArray) rfl (by kernel_rfl) (by kernel_rfl) (by kernel_rfl) (fun _ _ _ h => h)
        (yieldsIf_load_mid (by rfl) _ _ rfl w.heap.size (1 + (k + 1) * 7) rfl (rl (f (k + 1))) _ (fun w hw => hw.rangeR hk88) Try.underlying42 rfl (Try.size_rowl (f (k + 1)))) hHeld ?_
      simp only [Act.put, List.setIfInBounds_toArray, List.set_cons_zero, List.set_cons_succ]
      refine wpAnyH_ready (rs := [9, 10]) (by kernel_rfl) (by simp) (AllReadyH.cons (o := ⟨some 6, _, _, _, _, _⟩) rfl (fun KK hKK => ?pA) (AllReadyH.cons (o := ⟨some 7, _, _, _, _, _⟩) rfl (fun KK hKK => ?pB) AllReadyH.nil))
      case' pA =>
        rw [if_pos (by rfl)]
        refine wp_allocT 42 rfl _ _ Try.info_row ?_
        simp only [Act.put, List.setIfInBounds_toArray, List.set_cons_zero, List.set_cons_succ]
        refine hKK.out _ _ (hHeld.alloc _) (fun hH1 => ?_)
        clear hKK KK
        have hA1 := RowAt.new w0 fun _ => 0
        have hb1 := hb0.alloc (by omega) (.cells (rc fun _ => 0) 42)
        refine wpAnyH_ready (rs := [10]) (by kernel_rfl) (by simp) (AllReadyH.cons (o := ⟨some 7, _, _, _, _, _⟩) rfl (fun KK hKK => ?pC) AllReadyH.nil)
        rw [if_pos (by rfl)]
        refine wp_allocT 42 rfl _ _ Try.info_row ?_
        simp only [Act.put, List.setIfInBounds_toArray, List.set_cons_zero, List.set_cons_succ]
        refine hKK.out _ _ (hH1.alloc _) (fun hH2 => ?_)
        clear hKK KK
        have hA2 := hA1.alloc (.cells (rc fun _ => 0) 42)
        have hB2 := RowAt.new (w0.alloc (.cells (rc fun _ => 0) 42)) fun _ => 0
        have hb2 := hb1.alloc (by simp; omega) (.cells (rc fun _ => 0) 42)
        refine wpAnyH_ready (rs := [11]) (by kernel_rfl) (by simp) (AllReadyH.cons (o := ⟨none, _, _, _, _, _⟩) rfl (fun KK hKK => ?pE) AllReadyH.nil)
        rw [if_pos (by rfl)]
        refine wp_store_row 42 _ _ rfl _ (rc (f k)) rfl rfl _ _ hA2 (Try.size_rowc _) (rc_same _ _) (rc_one _) ?_
        simp only [Act.put]
        refine hKK.out _ _ (TerrAt.setRow_other hH2 (by have := hH2.lt; have := hHeld.lt; simp at *; omega) _) (fun hH3 => ?_)
        clear hKK KK
        have hA3 := hA2.setRow (f k)
        have hB3 := hB2.setRow_other (g' := w0.heap.size) (by simp) (rc (f k))
        have hb3 := below_setRowT hb2 (g := w0.heap.size) (by omega) (rc (f k))
        refine wpAnyH_ready (rs := [12]) (by kernel_rfl) (by simp) (AllReadyH.cons (o := ⟨none, _, _, _, _, _⟩) rfl (fun KK hKK => ?pF) AllReadyH.nil)
        rw [if_pos (by rfl)]
        refine wp_store_row 42 _ _ rfl _ (rc (f (k + 1))) rfl rfl _ _ hB3 (Try.size_rowc _) (rc_same _ _) (rc_one _) ?_
        simp only [Act.put]
        refine hKK.out _ _ (TerrAt.setRow_other hH3 (by have := hH3.lt; have := hHeld.lt; simp at *; omega) _) (fun hH4 => ?_)
        clear hKK KK
        have hA := hA3.setRow_other (g' := (w0.alloc (.cells (rc fun _ => 0) 42)).heap.size) (by simp) (rc (f (k + 1)))
        have hB := hB3.setRow (f (k + 1))
        have hbW := below_setRowT hb3 (g := (w0.alloc (.cells (rc fun _ => 0) 42)).heap.size) (by simp; omega) (rc (f (k + 1)))
        clear hA1 hA2 hA3 hB2 hB3 hb1 hb2 hb3 hH1 hH2 hH3 hH4
        have hga : wr.heap.size ≤ w0.heap.size := by first | omega | (simp; omega)
        have hgb : wr.heap.size ≤ (w0.alloc (.cells (rc fun _ => 0) 42)).heap.size := by first | omega | (simp; omega)
        refine wpAnyH_done (by kernel_rfl) ?_ _
        obtain ⟨w5, hw5⟩ : ∃ x, x = ((((w0.alloc (.cells (rc fun _ => 0) 42)).alloc (.cells (rc fun _ => 0) 42)).setRow w0.heap.size (rc (f k))).setRow (w0.alloc (.cells (rc fun _ => 0) 42)).heap.size (rc (f (k + 1)))) := ⟨_, rfl⟩
        rw [← hw5] at hA hB hbW ⊢
        obtain ⟨gb, hgbe⟩ : ∃ x, x = (w0.alloc (.cells (rc fun _ => 0) 42)).heap.size := ⟨_, rfl⟩
        rw [← hgbe] at hB hgb ⊢
        obtain ⟨ga, hgae⟩ : ∃ x, x = w0.heap.size := ⟨_, rfl⟩
        rw [← hgae] at hA hga ⊢
        have HA := Lib.hid hA
        have HBB := Lib.hid hB
        have Hown5 := Lib.hid (Hown.out.below hbW)
        have HbW := Lib.hid hbW
        have HHeld := Lib.hid hHeld
        clear hgbe hgae hw5 hA hB hbW hHeld
      case' pB =>
        rw [if_pos (by rfl)]
        refine wp_allocT 42 rfl _ _ Try.info_row ?_
        simp only [Act.put, List.setIfInBounds_toArray, List.set_cons_zero, List.set_cons_succ]
        refine hKK.out _ _ (hHeld.alloc _) (fun hH1 => ?_)
        clear hKK KK
        have hB1 := RowAt.new w0 fun _ => 0
        have hb1 := hb0.alloc (by omega) (.cells (rc fun _ => 0) 42)
        refine wpAnyH_ready (rs := [9]) (by kernel_rfl) (by simp) (AllReadyH.cons (o := ⟨some 6, _, _, _, _, _⟩) rfl (fun KK hKK => ?pI) AllReadyH.nil)
        rw [if_pos (by rfl)]
        refine wp_allocT 42 rfl _ _ Try.info_row ?_
        simp only [Act.put, List.setIfInBounds_toArray, List.set_cons_zero, List.set_cons_succ]
        refine hKK.out _ _ (hH1.alloc _) (fun hH2 => ?_)
        clear hKK KK
        have hB2 := hB1.alloc (.cells (rc fun _ => 0) 42)
        have hA2 := RowAt.new (w0.alloc (.cells (rc fun _ => 0) 42)) fun _ => 0
        have hb2 := hb1.alloc (by simp; omega) (.cells (rc fun _ => 0) 42)
        refine wpAnyH_ready (rs := [11]) (by kernel_rfl) (by simp) (AllReadyH.cons (o := ⟨none, _, _, _, _, _⟩) rfl (fun KK hKK => ?pJ) AllReadyH.nil)
        rw [if_pos (by rfl)]
        refine wp_store_row 42 _ _ rfl _ (rc (f k)) rfl rfl _ _ hA2 (Try.size_rowc _) (rc_same _ _) (rc_one _) ?_
        simp only [Act.put]
        refine hKK.out _ _ (TerrAt.setRow_other hH2 (by have := hH2.lt; have := hHeld.lt; simp at *; omega) _) (fun hH3 => ?_)
        clear hKK KK
        have hA3 := hA2.setRow (f k)
        have hB3 := hB2.setRow_other (g' := (w0.alloc (.cells (rc fun _ => 0) 42)).heap.size) (by simp) (rc (f k))
        have hb3 := below_setRowT hb2 (g := (w0.alloc (.cells (rc fun _ => 0) 42)).heap.size) (by simp; omega) (rc (f k))
        refine wpAnyH_ready (rs := [12]) (by kernel_rfl) (by simp) (AllReadyH.cons (o := ⟨none, _, _, _, _, _⟩) rfl (fun KK hKK => ?pK) AllReadyH.nil)
        rw [if_pos (by rfl)]
        refine wp_store_row 42 _ _ rfl _ (rc (f (k + 1))) rfl rfl _ _ hB3 (Try.size_rowc _) (rc_same _ _) (rc_one _) ?_
        simp only [Act.put]
        refine hKK.out _ _ (TerrAt.setRow_other hH3 (by have := hH3.lt; have := hHeld.lt; simp at *; omega) _) (fun hH4 => ?_)
        clear hKK KK
        have hA := hA3.setRow_other (g' := w0.heap.size) (by simp) (rc (f (k + 1)))
        have hB := hB3.setRow (f (k + 1))
        have hbW := below_setRowT hb3 (g := w0.heap.size) (by omega) (rc (f (k + 1)))
        clear hB1 hA2 hA3 hB2 hB3 hb1 hb2 hb3 hH1 hH2 hH3 hH4
        have hga : wr.heap.size ≤ (w0.alloc (.cells (rc fun _ => 0) 42)).heap.size := by first | omega | (simp; omega)
        have hgb : wr.heap.size ≤ w0.heap.size := by first | omega | (simp; omega)
        refine wpAnyH_done (by kernel_rfl) ?_ _
        obtain ⟨w5, hw5⟩ : ∃ x, x = ((((w0.alloc (.cells (rc fun _ => 0) 42)).alloc (.cells (rc fun _ => 0) 42)).setRow (w0.alloc (.cells (rc fun _ => 0) 42)).heap.size (rc (f k))).setRow w0.heap.size (rc (f (k + 1)))) := ⟨_, rfl⟩
        rw [← hw5] at hA hB hbW ⊢
        obtain ⟨ga, hgae⟩ : ∃ x, x = (w0.alloc (.cells (rc fun _ => 0) 42)).heap.size := ⟨_, rfl⟩
        rw [← hgae] at hA hga ⊢
        obtain ⟨gb, hgbe⟩ : ∃ x, x = w0.heap.size := ⟨_, rfl⟩
        rw [← hgbe] at hB hgb ⊢
        have HA := Lib.hid hA
        have HBB := Lib.hid hB
        have Hown5 := Lib.hid (Hown.out.below hbW)
        have HbW := Lib.hid hbW
        have HHeld := Lib.hid hHeld
        clear hgbe hgae hw5 hA hB hbW hHeld
      all_goals
        clear hb0 hs0
        go_wp2
        go_loopw [30] (fun i wr => ∃ (t : Nat) (g : Nat → Nat → Int), t ≤ n ∧ i = .int .i64 t ∧ OwnP wr w1.heap.size (.slice (some ⟨w1.heap.size, 0, none⟩) n n) n (tab n n g) n vs ∧
            (∀ a b, a < k → b < n → g a b = sgW f a b) ∧ (∀ b, b < t → g k b = sgW f k b) ∧ RowAt wr ga (f k) ∧ RowAt wr gb (f (k + 1)) ∧ Below w1.heap.size w1 wr) (fun i _ => n - (intOf i).toNat)
        case atStart => exact ⟨0, g, Nat.zero_le _, rfl, Hown5.out, Heq.out, fun b hb => absurd hb (by omega), HA.out, HBB.out, Hbr.out.trans (HbW.out.mono HZ2.out)⟩
        case round =>
          obtain ⟨t, g2, ht, rfl, hown, heq, hcol, hA, hB, hbi⟩ := hrel
          clear HA HBB Hown5
          by_cases htl : t < n
          · obtain ⟨g', cap', hvs', hd2, hf2, hgB, hst⟩ := hown.at2 hlt htl
            obtain ⟨rfl, -⟩ : g' = og ∧ cap' = ocap := by
              rw [Hvs.out] at hvs'
              simp only [Value.slice.injEq, Option.some.injEq, Addr.mk.injEq, and_true, true_and] at hvs'
              exact ⟨hvs'.1.symm, hvs'.2.symm⟩
            have c1 := hA.cell (j := t + 1) (by omega)
            have c2 := hA.cell (j := t) (by omega)
            have c3 := hB.cell (j := t) (by omega)
            have c4 := hB.cell (j := t + 1) (by omega)
            have hfit : Fits (f k t) ∧ Fits (f k (t + 1)) ∧ Fits (f (k + 1) t) ∧ Fits (f (k + 1) (t + 1)) := ⟨hf _ _ hk77 (by omega), hf _ _ hk77 (by omega), hf _ _ hk88 (by omega), hf _ _ hk88 (by omega)⟩
            have hne1 : ¬ g' = ga := fun e => by have := Hown.out.rows k hlt; have h2 := this.lt g' (by rw [Hvs.out]; rfl); omega
            have hne2 : ¬ g' = gb := fun e => by have := Hown.out.rows k hlt; have h2 := this.lt g' (by rw [Hvs.out]; rfl); omega
            have hsg : sgW f k t = wrap64 ((wrap64 (wrap64 (wrap64 (f k (t + 1) - f k t) + f (k + 1) t) - f (k + 1) (t + 1))).tdiv 2) := rfl
            generalize f k (t + 1) = x1 at c1 hsg hfit
            generalize f k t = x0 at c2 hsg hfit
            generalize f (k + 1) t = y0 at c3 hsg hfit
            generalize f (k + 1) (t + 1) = y1 at c4 hsg hfit
            have Hst := Lib.hid (hst (sgW f k t))
            have Heq2 := Lib.hid heq
            have Hcol := Lib.hid hcol
            have Hsg := Lib.hid hsg
            have HA := Lib.hid hA
            have HBB := Lib.hid hB
            have Hbs := Lib.hid (hbi.setCell (p := ⟨g', t, none⟩) hgB (.int .i64 (sgW f k t)))
            have Hfit := Lib.hid hfit
            have ht7 : (t : Int) < 7 := by omega
            have ht8 : (t : Int) + 1 < 7 := by omega
            have ht9 : ¬ ((t : Int) + 1 < 0) := by omega
            have htw : IntKind.i64.wrap ((t : Int) + 1) = (t : Int) + 1 := w64 (by omega)
            have htn : ((t : Int) + 1).toNat = t + 1 := by omega
            clear hown heq hcol hA hB hbi hst hvs' hgB hsg hfit
            go_wp2
            go_region_held (fun w' => w'.cell? ⟨ga, t + 1, none⟩ = some (.int .i64 x1) ∧ w'.cell? ⟨ga, t, none⟩ = some (.int .i64 x0) ∧ w'.cell? ⟨gb, t, none⟩ = some (.int .i64 y0) ∧ w'.cell? ⟨gb, t + 1, none⟩ = some (.int .i64 y1)) (go_keep) (fail)
            all_goals
              go_wp2
              rw [← Hsg.out]
              go_roundw
              case rel =>
                refine ⟨t + 1, _, by omega, by go_num, Hst.out.drew, fun a b ha hb => ?_, fun b hb => ?_, HA.out.other (fun e => hne1 e.symm) _, HBB.out.other (fun e => hne2 e.symm) _, Hbs.out.drew⟩
                · rw [if_neg (fun h => by omega)]
                  exact Heq2.out a b ha hb
                · by_cases e : b = t
                  · subst e; rw [if_pos ⟨rfl, rfl⟩]
                  · rw [if_neg (fun h => by omega)]
                    exact Hcol.out b (by omega)
              case measure => simp [intOf]; omega
          · obtain rfl : t = n := by omega
            have Hown6 := Lib.hid hown
            have Heq2 := Lib.hid heq
            have Hcol := Lib.hid hcol
            have Hbi := Lib.hid hbi
            clear hown heq hcol hbi hA hB
            go_wp2
            go_roundw
            case rel =>
              refine ⟨k + 1, _, by omega, by go_num, Hown6.out, fun a b ha hb => ?_, Hbi.out⟩
              by_cases e : a = k
              · subst e; exact Hcol.out b hb
              · exact Heq2.out a b (by omega) hb
            case measure => simp [intOf]; omega
    · obtain rfl : k = n := by omega
      have e : tab k k (sgW f) = tab k k g := eq_tab (tab_len _ _ _) (fun i hi => tab_row hi) (fun i j hi hj => by rw [gi_tab hi hj, heq i j hi hj])
      have hfin : OwnM wr w.heap.size (.slice (some ⟨w1.heap.size, 0, none⟩) k k) (tab k k (sgW f)) := OwnM.base ⟨vs, by rw [tab_len, e]; exact hown⟩ HZ.out
      have Hfin := Lib.hid hfin
      have Hbr := Lib.hid (HB.out.trans (hbr.mono HZ.out))
      clear hown heq hbr e hfin
      go_wp2
      go_ret
      exact ⟨_, rfl, Hfin.out, Hbr.out⟩
end Go.Proofs.Ytjkpokpidpampaa

namespace Go.Proofs.Ytjkpokpidpampaa
open Go.RowKit

/-- ones where row and column have the same index -/
def idm (n : Nat) : List (List Int) := tab n n fun i j => if i = j then 1 else 0
theorem idm_len (n : Nat) : (idm n).length = n := tab_len _ _ _
theorem idm_square {n : Nat} (h1 : 1 ≤ n) (h6 : n ≤ 6) : square (idm n) := ⟨by rw [idm_len]; exact h1, by rw [idm_len]; exact h6, fun i hi => by rw [idm_len] at hi ⊢; exact tab_row hi⟩
def inSide (n : Int) : Prop := 1 ≤ n ∧ n ≤ 6
theorem idm_small {n : Int} (h : inSide n) : Small (idm n.toNat) := by
  have h1 := h.1
  have h2 := h.2
  exact (idm_square (by omega) (by omega)).small
theorem mir_idm_small {n : Int} (h : inSide n) : Small (mir (idm n.toNat)) := by
  have h1 := h.1
  have h2 := h.2
  exact (idm_square (by omega) (by omega)).mir.small

end Go.Proofs.Ytjkpokpidpampaa

namespace Go.Proofs.Ytjkpokpidpampaa
open Go.RowKit

theorem Crn.near {n : Nat} {c : Nat → Nat → Int} (h : Crn n c) (hn : n ≤ 6) : Near (pad n (hOf c)) := by
  intro i j _ _
  unfold pad
  split
  · next e => have := h.hbound e.1 e.2; omega
  · omega
theorem Near.fits {f : Nat → Nat → Int} (h : Near f) : Fits7 f := fun i j hi hj => by have := h i j hi hj; unfold Fits; omega

theorem tab_pad {n : Nat} {c : Nat → Nat → Int} : tab (n + 1) (n + 1) (pad n (hOf c)) = htT n c := by
  refine (eq_tab (htT_len _ _) (fun i hi => tab_row hi) fun i j hi hj => ?_).symm
  rw [gi_htT (by omega) (by omega)]
  unfold pad
  rw [if_pos (by omega)]

/-- the numbers that heights leave, without wrapping -/
theorem sgW_unC {n : Nat} {c : Nat → Nat → Int} (h : Crn n c) (hn : n ≤ 6) {f : Nat → Nat → Int} (hf : ∀ i j, i ≤ n → j ≤ n → f i j = hOf c i j) : tab n n (sgW f) = unC n c := by
  refine eq_tab (tab_len _ _ _) (fun i hi => tab_row hi) fun i j hi hj => ?_
  rw [gi_tab hi hj]
  have h1 := h.hbound (show i ≤ n by omega) (show j ≤ n by omega)
  have h2 := h.hbound (show i ≤ n by omega) (show j + 1 ≤ n by omega)
  have h3 := h.hbound (show i + 1 ≤ n by omega) (show j ≤ n by omega)
  have h4 := h.hbound (show i + 1 ≤ n by omega) (show j + 1 ≤ n by omega)
  have hd := dC_h c i j
  unfold sgW
  rw [hf i j (by omega) (by omega), hf i (j + 1) (by omega) (by omega), hf (i + 1) j (by omega) (by omega), hf (i + 1) (j + 1) (by omega) (by omega)]
  have w1 : wrap64 (hOf c i (j + 1) - hOf c i j) = hOf c i (j + 1) - hOf c i j := by unfold wrap64; omega
  rw [w1]
  have w2 : wrap64 (hOf c i (j + 1) - hOf c i j + hOf c (i + 1) j) = hOf c i (j + 1) - hOf c i j + hOf c (i + 1) j := by unfold wrap64; omega
  rw [w2]
  have w3 : wrap64 (hOf c i (j + 1) - hOf c i j + hOf c (i + 1) j - hOf c (i + 1) (j + 1)) = dC c i j * 2 := by unfold wrap64; omega
  rw [w3, Int.mul_tdiv_cancel _ (by decide)]
  unfold wrap64
  omega

/-- sums that end -/
theorem sumF_tail {f : Nat → Int} {N : Nat} : ∀ d, (∀ i, N ≤ i → i < N + d → f i = 0) → sumF f (N + d) = sumF f N
  | 0, _ => rfl
  | d + 1, h => by
    show sumF f (N + d) + f (N + d) = _
    rw [sumF_tail d (fun i h1 h2 => h i h1 (by omega)), h (N + d) (by omega) (by omega)]
    omega

/-- the distance of two corner sums -/
def distC (n : Nat) (a b : Nat → Nat → Int) : Int := (sumF (fun i => sumF (fun j => apartF (htT n a) (htT n b) i j) (n + 1)) (n + 1)) / 2
theorem dF_dist {n : Nat} {a b : Nat → Nat → Int} (hn : n ≤ 6) : (sumF (fun i => sumF (fun j => dF (pad n (hOf a)) (pad n (hOf b)) i j) 7) 7) / 2 = distC n a b := by
  obtain ⟨d, hd⟩ : ∃ d, 7 = n + 1 + d := ⟨6 - n, by omega⟩
  have h0 : ∀ i j, n + 1 ≤ i ∨ n + 1 ≤ j → dF (pad n (hOf a)) (pad n (hOf b)) i j = 0 := fun i j h => by
    unfold dF pad
    rw [if_neg (by omega), if_neg (by omega)]
    rfl
  have h1 : ∀ i, sumF (fun j => dF (pad n (hOf a)) (pad n (hOf b)) i j) 7 = sumF (fun j => dF (pad n (hOf a)) (pad n (hOf b)) i j) (n + 1) := fun i => by
    rw [hd]
    exact sumF_tail d fun j hj _ => h0 i j (.inr hj)
  have h2 : sumF (fun i => sumF (fun j => dF (pad n (hOf a)) (pad n (hOf b)) i j) 7) 7 = sumF (fun i => sumF (fun j => dF (pad n (hOf a)) (pad n (hOf b)) i j) (n + 1)) (n + 1) := by
    rw [sumF_congr (fun i _ => h1 i)]
    conv => lhs; rw [hd]
    refine sumF_tail d fun i hi _ => ?_
    rw [sumF_congr (g := fun _ => 0) (fun j _ => h0 i j (.inl hi))]
    exact sumF_zero _
  rw [h2]
  unfold distC
  congr 1
  refine sumF_congr fun i hi => sumF_congr fun j hj => ?_
  unfold dF apartF pad
  rw [if_pos (by omega), if_pos (by omega), gi_htT (by omega) (by omega), gi_htT (by omega) (by omega)]
  omega
theorem distC_comm (n : Nat) (a b : Nat → Nat → Int) : distC n a b = distC n b a := by
  unfold distC
  congr 1
  refine sumF_congr fun i _ => sumF_congr fun j _ => ?_
  unfold apartF
  omega

/-- below, by heights of terrains and by tables -/
theorem below_same {n : Nat} {a b : Nat → Nat → Int} (hn : n ≤ 6) : sameH (fun i j => min (pad n (hOf a) i j) (pad n (hOf b) i j)) (pad n (hOf a)) = true ↔ ∀ i j, i < n + 1 → j < n + 1 → gi (gr (htT n a) i) j ≤ gi (gr (htT n b) i) j := by
  rw [sameH_true]
  constructor
  · intro h i j hi hj
    have := h i j (by omega) (by omega)
    unfold pad at this
    rw [if_pos (by omega), if_pos (by omega)] at this
    rw [gi_htT (by omega) (by omega), gi_htT (by omega) (by omega)]
    omega
  · intro h i j hi hj
    unfold pad
    by_cases e : i ≤ n ∧ j ≤ n
    · have := h i j (by omega) (by omega)
      rw [gi_htT (by omega) (by omega), gi_htT (by omega) (by omega)] at this
      rw [if_pos e, if_pos e]
      omega
    · rw [if_neg e, if_neg e]
      rfl

theorem mix_meet {n : Nat} {a b : Nat → Nat → Int} : tab (n + 1) (n + 1) (mixF true (htT n a) (htT n b)) = htT n (maxC a b) := by
  refine eq_tab (tab_len _ _ _) (fun i hi => tab_row hi) fun i j hi hj => ?_
  rw [gi_tab hi hj]
  unfold mixF
  rw [gi_htT (by omega) (by omega), gi_htT (by omega) (by omega)]
  unfold hOf maxC
  simp only [if_true]
  omega
theorem mix_join {n : Nat} {a b : Nat → Nat → Int} : tab (n + 1) (n + 1) (mixF false (htT n a) (htT n b)) = htT n (minC2 a b) := by
  refine eq_tab (tab_len _ _ _) (fun i hi => tab_row hi) fun i j hi hj => ?_
  rw [gi_tab hi hj]
  unfold mixF
  rw [gi_htT (by omega) (by omega), gi_htT (by omega) (by omega)]
  unfold hOf minC2
  simp only [Bool.false_eq_true, if_false]
  omega

theorem crn_min (n : Nat) : Crn n (fun i j => min (i : Int) j) := ⟨fun j _ => by omega, fun i _ => by omega, fun i hi => by omega, fun j hj => by omega, fun i j _ _ => by omega, fun i j _ _ => by omega⟩
theorem idm_unC (n : Nat) : idm n = unC n (fun i j => min (i : Int) j) := by
  refine eq_tab (idm_len n) (fun i hi => tab_row hi) fun i j hi hj => ?_
  unfold idm
  rw [gi_tab hi hj]
  unfold dC
  show (if i = j then 1 else 0 : Int) = min ((i + 1 : Nat) : Int) ((j + 1 : Nat) : Int) - min (i : Int) ((j + 1 : Nat) : Int) - min ((i + 1 : Nat) : Int) (j : Int) + min (i : Int) (j : Int)
  split <;> omega
theorem idm_good {n : Nat} (h1 : 1 ≤ n) (h6 : n ≤ 6) : good (idm n) := by rw [idm_unC]; exact crn_good (crn_min n) h1 h6
theorem ht_len (m : List (List Int)) : (ht m).length = m.length + 1 := htT_len _ _
theorem ht_len2 {m k : List (List Int)} (h : m.length = k.length) : (ht k).length = m.length + 1 := by rw [ht_len, h]
theorem ht_tab2 {m k : List (List Int)} (h : good k) (hl : m.length = k.length) : Tab (m.length + 1) (ht k) := by rw [hl]; exact htT_tab (good_crn h) h.1.2.1
theorem ht_small {m : List (List Int)} (h : square m) : Small (ht m) := htT_small _ h.2.1
theorem ht_tab {m : List (List Int)} (h : good m) : Tab (m.length + 1) (ht m) := htT_tab (good_crn h) h.1.2.1
end Go.Proofs.Ytjkpokpidpampaa

