/- Contract of the program: the numbers that a terrain's heights leave. Conditions: sides in 1..6; the numbers fit an int. -/
import Derived.Test.YtopamhcnbocfoaaTEq
import Derived.Test.YtopamhcnbocfoaaTTab
namespace Go.Proofs.Ytopamhcnbocfoaa
open Go.RowKit

section
variable {P : Program}
theorem wp_allocT {o : Oper} {a : Act} {w : World} {K : Act → World → Prop} {Q : Exit → Act → World → Prop} (t : TypeId) (ho : o.op = .alloc t) (z : Array Value) (n : Nat)
    (hz : (P.info? t).map (fun i => (i.zero, i.size)) = some (some (.agg z), n))
    (h : K (a.put o.dst (.pointer (some ⟨w.heap.size, 0, none⟩))) (w.alloc (.cells z t))) : o.wp P a w K Q := by
  unfold Oper.wp execOp
  simp only [ho, Instr.alloc, Sem.run_bind, (zero_of_info hz).1, Result.andThen_ok, newVar, newRow, run_newObj_alloc, Sem.run_pure, Value.cells]
  exact h
end

theorem TerrAt.rangeR {w : World} {g : Nat} {n : Int} {f : Nat → Nat → Int} (h : TerrAt w g n f) {i : Nat} (hi : i < 7) : w.rangeAt g (1 + i * 7) (rl (f i)) := by
  intro j v hv
  have hj : j < 7 := by have := (List.getElem?_eq_some_iff.1 hv).1; simpa [rl] using this
  have h1 := h.cell hi hj
  have h2 := rc_at (f i) hj
  simp only [rc, List.getElem?_toArray] at h2
  rw [h2] at hv
  rw [h1]
  exact hv
theorem Try.size_rowl (r : Nat → Int) : (Try.prog.info? 43).map (·.size) = some (rl r).length := by
  rw [show (rl r).length = 7 by simp [rl]]
  exact Try.size_row
theorem RowAt.setRow {w : World} {g : Nat} {r : Nat → Int} (h : RowAt w g r) (s : Nat → Int) : RowAt (w.setRow g (rc s)) g s := setRow_heap w g _ _ _ _ h
theorem RowAt.setRow_other {w : World} {g g' : Nat} {r : Nat → Int} (h : RowAt w g r) (hg : g ≠ g') (cs : Array Value) : RowAt (w.setRow g' cs) g r := by
  unfold RowAt
  rw [Go.setRow_other w g' g cs hg]
  exact h
theorem RowAt.alloc {w : World} {g : Nat} {r : Nat → Int} (h : RowAt w g r) (o : Obj) : RowAt (w.alloc o) g r := by
  unfold RowAt
  rw [heap_alloc_old w o h.lt]
  exact h

/-- the numbers by heights, as int wraps them -/
def sgW (f : Nat → Nat → Int) (i j : Nat) : Int :=
  wrap64 ((wrap64 (wrap64 (wrap64 (f i (j + 1) - f i j) + f (i + 1) j) - f (i + 1) (j + 1))).tdiv 2)
theorem RowAt.other {w : World} {g : Nat} {r : Nat → Int} (h : RowAt w g r) {a : Addr} (ha : g ≠ a.block) (v : Value) : RowAt (w.setCell a v).drew g r := by
  show (w.setCell a v).heap[g]? = _
  rw [heap_setCell_other w a g v ha]
  exact h

set_option maxRecDepth 100000 in
set_option maxHeartbeats 3200000 in
theorem signs_any (n : Nat) (f : Nat → Nat → Int) (w : World) (hn1 : 1 ≤ n) (hn : n ≤ 6) (hf : Fits7 f) :
    Calls Try.prog 63 #[.agg (tc n f)] w fun e w' => ∃ v, e = .returned v ∧ OwnM w' w.heap.size v (tab n n (sgW f)) ∧ Below w.heap.size w w' := by
  have hmx : n ≤ 9223372036854775807 := by omega
  go_enter Try.func63, Try.ntmps63
  go_upto_region 1 with (first | (refine wpList_allocT rfl 47 rfl _ _ Try.info_terr ?_) | (refine wpList_buildT1 rfl 47 0 _ rfl (.int .i64 _) rfl _ (Try.built_terr _) ?_) | (refine wpList_buildT0 rfl 47 rfl _ Try.built_terr0 ?_) | (refine wpList_boxT rfl 47 _ rfl _ rfl ?_) | (refine wpList_storeT rfl 47 _ _ rfl _ _ _ (by first | rfl | simp) rfl rfl (Try.size_terr _ _) (tc_same _ _ _ _) (tc_one _ _) ?_))
  generalize hW : World.alloc w _ = w1
  have hT : TerrAt w1 w.heap.size n f := by rw [← hW]; exact TerrAt.new w _ _
  have hB : Below w.heap.size w w1 := by rw [← hW]; exact (Below.refl _ _).alloc (Nat.le_refl _) _
  clear hW
  have hh := hT.head
  have HT := Lib.hid hT
  have HB := Lib.hid hB
  have HZ := Lib.hid hB.size
  clear hT hB
  have hcall := newGrid_any n w1 (by omega)
  have Hcall := Lib.hid hcall
  clear hcall
  go_wp2_with fail
  refine Hcall.out.mono ?_
  rintro e w2 ⟨vs, rfl, hv, hb⟩
  have HT2 := Lib.hid (HT.out.below hb)
  have Hv := Lib.hid hv
  have Hb := Lib.hid hb
  clear hv hb hh Hcall
  go_wp2
  go_loopw [14] (fun i wr => ∃ (k : Nat) (g : Nat → Nat → Int), k ≤ n ∧ i = .int .i64 k ∧ OwnP wr w1.heap.size (.slice (some ⟨w1.heap.size, 0, none⟩) n n) n (tab n n g) n vs ∧
      (∀ a b, a < k → b < n → g a b = sgW f a b) ∧ Below w1.heap.size w1 wr) (fun i _ => n - (intOf i).toNat)
  case atStart => exact ⟨0, _, Nat.zero_le _, rfl, Hv.out, fun a b ha _ => absurd ha (by omega), Hb.out⟩
  case round =>
    obtain ⟨k, g, hk, rfl, hown, heq, hbr⟩ := hrel
    clear Hv
    by_cases hlt : k < n
    · obtain ⟨og, ocap, hvs, _, _, _, _⟩ := hown.at2 (i := k) (j := 0) hlt (by omega)
      have hd := hown.cellAt k hlt
      rw [hvs] at hd
      have hTr := HT.out.below hbr
      have hk7 : (k : Int) < 7 := by omega
      have hk77 : k < 7 := by omega
      have hk8 : (k : Int) + 1 < 7 := by omega
      have hk88 : k + 1 < 7 := by omega
      have Hown := Lib.hid hown
      have Heq := Lib.hid heq
      have Hbr := Lib.hid hbr
      have Hvs := Lib.hid hvs
      have HTr := Lib.hid hTr
      have HZ2 := Lib.hid hbr.size
      clear hown heq hbr hvs hTr
      go_upto_region 5 with fail
      refine wp_region_held_drew (S := fun w' => TerrAt w' w.heap.size n f) (by kernel_rfl) HTr.out (fun hHeld => ?_)
      have hb0 : Below wr.heap.size wr wr.drew := below_drewN (Below.refl _ _) 1
      have hs0 : wr.drew.heap.size = wr.heap.size := rfl
      generalize wr.drew = w0 at hb0 hs0 hHeld ⊢
      refine wpAnyH_take (i := 0) (oi := ⟨some 19, _, _, _, _, _⟩) (v := .int .i64 (k : Int)) rfl (by kernel_rfl) (by kernel_rfl) (by kernel_rfl) (fun _ _ _ h => h) (Or.inl ⟨by rfl, ?y1⟩) hHeld ?_
      case y1 => intro w hSw; go_simp
      simp only [Act.put, List.setIfInBounds_toArray, List.set_cons_zero, List.set_cons_succ]
      refine wpAnyH_take (i := 1) (oi := ⟨some 20, _, _, _, _, _⟩) (v := .pointer (some ⟨w.heap.size, 1, none⟩)) rfl (by kernel_rfl) (by kernel_rfl) (by kernel_rfl) (fun _ _ _ h => h) (Or.inl ⟨by rfl, ?y1⟩) hHeld ?_
      case y1 => intro w hSw; go_simp
      simp only [Act.put, List.setIfInBounds_toArray, List.set_cons_zero, List.set_cons_succ]
      refine wpAnyH_take (i := 2) (oi := ⟨some 21, _, _, _, _, _⟩) (v := .pointer (some ⟨w.heap.size, 1 + k * 7, none⟩)) rfl (by kernel_rfl) (by kernel_rfl) (by kernel_rfl) (fun _ _ _ h => h) (Or.inl ⟨by rfl, ?y1⟩) hHeld ?_
      case y1 => intro w hSw; go_simp
      simp only [Act.put, List.setIfInBounds_toArray, List.set_cons_zero, List.set_cons_succ]
      refine wpAnyH_take (i := 3) (oi := ⟨some 22, _, _, _, _, _⟩) (v := .agg (rl (f k)).toArray) rfl (by kernel_rfl) (by kernel_rfl) (by kernel_rfl) (fun _ _ _ h => h)
        (yieldsIf_load_mid (by rfl) _ _ rfl w.heap.size (1 + k * 7) rfl (rl (f k)) _ (fun w hw => hw.rangeR hk77) Try.underlying43 rfl (Try.size_rowl (f k))) hHeld ?_
      simp only [Act.put, List.setIfInBounds_toArray, List.set_cons_zero, List.set_cons_succ]
      refine wpAnyH_take (i := 4) (oi := ⟨some 23, _, _, _, _, _⟩) (v := .int .i64 (k : Int)) rfl (by kernel_rfl) (by kernel_rfl) (by kernel_rfl) (fun _ _ _ h => h) (Or.inl ⟨by rfl, ?y1⟩) hHeld ?_
      case y1 => intro w hSw; go_simp
      simp only [Act.put, List.setIfInBounds_toArray, List.set_cons_zero, List.set_cons_succ]
      refine wpAnyH_take (i := 5) (oi := ⟨some 24, _, _, _, _, _⟩) (v := .int .i64 ((k : Int) + 1)) rfl (by kernel_rfl) (by kernel_rfl) (by kernel_rfl) (fun _ _ _ h => h) (Or.inl ⟨by rfl, ?y1⟩) hHeld ?_
      case y1 => intro w hSw; go_simp; exact w64 (by omega)
      simp only [Act.put, List.setIfInBounds_toArray, List.set_cons_zero, List.set_cons_succ]
      refine wpAnyH_take (i := 6) (oi := ⟨some 25, _, _, _, _, _⟩) (v := .pointer (some ⟨w.heap.size, 1, none⟩)) rfl (by kernel_rfl) (by kernel_rfl) (by kernel_rfl) (fun _ _ _ h => h) (Or.inl ⟨by rfl, ?y1⟩) hHeld ?_
      case y1 => intro w hSw; go_simp
      simp only [Act.put, List.setIfInBounds_toArray, List.set_cons_zero, List.set_cons_succ]
      refine wpAnyH_take (i := 7) (oi := ⟨some 26, _, _, _, _, _⟩) (v := .pointer (some ⟨w.heap.size, 1 + (k + 1) * 7, none⟩)) rfl (by kernel_rfl) (by kernel_rfl) (by kernel_rfl) (fun _ _ _ h => h) (Or.inl ⟨by rfl, ?y1⟩) hHeld ?_
      case y1 => intro w hSw; go_simp; exact fun h => absurd h (by omega)
      simp only [Act.put, List.setIfInBounds_toArray, List.set_cons_zero, List.set_cons_succ]
      refine wpAnyH_take (i := 8) (oi := ⟨some 27, _, _, _, _, _⟩) (v := .agg (rl (f (k + 1))).toArray) rfl (by kernel_rfl) (by kernel_rfl) (by kernel_rfl) (fun _ _ _ h => h)
        (yieldsIf_load_mid (by rfl) _ _ rfl w.heap.size (1 + (k + 1) * 7) rfl (rl (f (k + 1))) _ (fun w hw => hw.rangeR hk88) Try.underlying43 rfl (Try.size_rowl (f (k + 1)))) hHeld ?_
      simp only [Act.put, List.setIfInBounds_toArray, List.set_cons_zero, List.set_cons_succ]
      refine wpAnyH_ready (rs := [9, 10]) (by kernel_rfl) (by simp) (AllReadyH.cons (o := ⟨some 6, _, _, _, _, _⟩) rfl (fun KK hKK => ?pA) (AllReadyH.cons (o := ⟨some 7, _, _, _, _, _⟩) rfl (fun KK hKK => ?pB) AllReadyH.nil))
      case' pA =>
        rw [if_pos (by rfl)]
        refine wp_allocT 43 rfl _ _ Try.info_row ?_
        simp only [Act.put, List.setIfInBounds_toArray, List.set_cons_zero, List.set_cons_succ]
        refine hKK.out _ _ (hHeld.alloc _) (fun hH1 => ?_)
        clear hKK KK
        have hA1 := RowAt.new w0 fun _ => 0
        have hb1 := hb0.alloc (by omega) (.cells (rc fun _ => 0) 43)
        refine wpAnyH_ready (rs := [10]) (by kernel_rfl) (by simp) (AllReadyH.cons (o := ⟨some 7, _, _, _, _, _⟩) rfl (fun KK hKK => ?pC) AllReadyH.nil)
        rw [if_pos (by rfl)]
        refine wp_allocT 43 rfl _ _ Try.info_row ?_
        simp only [Act.put, List.setIfInBounds_toArray, List.set_cons_zero, List.set_cons_succ]
        refine hKK.out _ _ (hH1.alloc _) (fun hH2 => ?_)
        clear hKK KK
        have hA2 := hA1.alloc (.cells (rc fun _ => 0) 43)
        have hB2 := RowAt.new (w0.alloc (.cells (rc fun _ => 0) 43)) fun _ => 0
        have hb2 := hb1.alloc (by simp; omega) (.cells (rc fun _ => 0) 43)
        refine wpAnyH_ready (rs := [11]) (by kernel_rfl) (by simp) (AllReadyH.cons (o := ⟨none, _, _, _, _, _⟩) rfl (fun KK hKK => ?pE) AllReadyH.nil)
        rw [if_pos (by rfl)]
        refine wp_store_row 43 _ _ rfl _ (rc (f k)) rfl rfl _ _ hA2 (Try.size_rowc _) (rc_same _ _) (rc_one _) ?_
        simp only [Act.put]
        refine hKK.out _ _ (TerrAt.setRow_other hH2 (by have := hH2.lt; have := hHeld.lt; simp at *; omega) _) (fun hH3 => ?_)
        clear hKK KK
        have hA3 := hA2.setRow (f k)
        have hB3 := hB2.setRow_other (g' := w0.heap.size) (by simp) (rc (f k))
        have hb3 := below_setRowT hb2 (g := w0.heap.size) (by omega) (rc (f k))
        refine wpAnyH_ready (rs := [12]) (by kernel_rfl) (by simp) (AllReadyH.cons (o := ⟨none, _, _, _, _, _⟩) rfl (fun KK hKK => ?pF) AllReadyH.nil)
        rw [if_pos (by rfl)]
        refine wp_store_row 43 _ _ rfl _ (rc (f (k + 1))) rfl rfl _ _ hB3 (Try.size_rowc _) (rc_same _ _) (rc_one _) ?_
        simp only [Act.put]
        refine hKK.out _ _ (TerrAt.setRow_other hH3 (by have := hH3.lt; have := hHeld.lt; simp at *; omega) _) (fun hH4 => ?_)
        clear hKK KK
        have hA := hA3.setRow_other (g' := (w0.alloc (.cells (rc fun _ => 0) 43)).heap.size) (by simp) (rc (f (k + 1)))
        have hB := hB3.setRow (f (k + 1))
        have hbW := below_setRowT hb3 (g := (w0.alloc (.cells (rc fun _ => 0) 43)).heap.size) (by simp; omega) (rc (f (k + 1)))
        clear hA1 hA2 hA3 hB2 hB3 hb1 hb2 hb3 hH1 hH2 hH3 hH4
        have hga : wr.heap.size ≤ w0.heap.size := by first | omega | (simp; omega)
        have hgb : wr.heap.size ≤ (w0.alloc (.cells (rc fun _ => 0) 43)).heap.size := by first | omega | (simp; omega)
        refine wpAnyH_done (by kernel_rfl) ?_ _
        obtain ⟨w5, hw5⟩ : ∃ x, x = ((((w0.alloc (.cells (rc fun _ => 0) 43)).alloc (.cells (rc fun _ => 0) 43)).setRow w0.heap.size (rc (f k))).setRow (w0.alloc (.cells (rc fun _ => 0) 43)).heap.size (rc (f (k + 1)))) := ⟨_, rfl⟩
        rw [← hw5] at hA hB hbW ⊢
        obtain ⟨gb, hgbe⟩ : ∃ x, x = (w0.alloc (.cells (rc fun _ => 0) 43)).heap.size := ⟨_, rfl⟩
        rw [← hgbe] at hB hgb ⊢
        obtain ⟨ga, hgae⟩ : ∃ x, x = w0.heap.size := ⟨_, rfl⟩
        rw [← hgae] at hA hga ⊢
        have HA := Lib.hid hA
        have HBB := Lib.hid hB
        have Hown5 := Lib.hid (Hown.out.below hbW)
        have HbW := Lib.hid hbW
        have HHeld := Lib.hid hHeld
        clear hgbe hgae hw5 hA hB hbW hHeld
      case' pB =>
        rw [if_pos (by rfl)]
        refine wp_allocT 43 rfl _ _ Try.info_row ?_
        simp only [Act.put, List.setIfInBounds_toArray, List.set_cons_zero, List.set_cons_succ]
        refine hKK.out _ _ (hHeld.alloc _) (fun hH1 => ?_)
        clear hKK KK
        have hB1 := RowAt.new w0 fun _ => 0
        have hb1 := hb0.alloc (by omega) (.cells (rc fun _ => 0) 43)
        refine wpAnyH_ready (rs := [9]) (by kernel_rfl) (by simp) (AllReadyH.cons (o := ⟨some 6, _, _, _, _, _⟩) rfl (fun KK hKK => ?pI) AllReadyH.nil)
        rw [if_pos (by rfl)]
        refine wp_allocT 43 rfl _ _ Try.info_row ?_
        simp only [Act.put, List.setIfInBounds_toArray, List.set_cons_zero, List.set_cons_succ]
        refine hKK.out _ _ (hH1.alloc _) (fun hH2 => ?_)
        clear hKK KK
        have hB2 := hB1.alloc (.cells (rc fun _ => 0) 43)
        have hA2 := RowAt.new (w0.alloc (.cells (rc fun _ => 0) 43)) fun _ => 0
        have hb2 := hb1.alloc (by simp; omega) (.cells (rc fun _ => 0) 43)
        refine wpAnyH_ready (rs := [11]) (by kernel_rfl) (by simp) (AllReadyH.cons (o := ⟨none, _, _, _, _, _⟩) rfl (fun KK hKK => ?pJ) AllReadyH.nil)
        rw [if_pos (by rfl)]
        refine wp_store_row 43 _ _ rfl _ (rc (f k)) rfl rfl _ _ hA2 (Try.size_rowc _) (rc_same _ _) (rc_one _) ?_
        simp only [Act.put]
        refine hKK.out _ _ (TerrAt.setRow_other hH2 (by have := hH2.lt; have := hHeld.lt; simp at *; omega) _) (fun hH3 => ?_)
        clear hKK KK
        have hA3 := hA2.setRow (f k)
        have hB3 := hB2.setRow_other (g' := (w0.alloc (.cells (rc fun _ => 0) 43)).heap.size) (by simp) (rc (f k))
        have hb3 := below_setRowT hb2 (g := (w0.alloc (.cells (rc fun _ => 0) 43)).heap.size) (by simp; omega) (rc (f k))
        refine wpAnyH_ready (rs := [12]) (by kernel_rfl) (by simp) (AllReadyH.cons (o := ⟨none, _, _, _, _, _⟩) rfl (fun KK hKK => ?pK) AllReadyH.nil)
        rw [if_pos (by rfl)]
        refine wp_store_row 43 _ _ rfl _ (rc (f (k + 1))) rfl rfl _ _ hB3 (Try.size_rowc _) (rc_same _ _) (rc_one _) ?_
        simp only [Act.put]
        refine hKK.out _ _ (TerrAt.setRow_other hH3 (by have := hH3.lt; have := hHeld.lt; simp at *; omega) _) (fun hH4 => ?_)
        clear hKK KK
        have hA := hA3.setRow_other (g' := w0.heap.size) (by simp) (rc (f (k + 1)))
        have hB := hB3.setRow (f (k + 1))
        have hbW := below_setRowT hb3 (g := w0.heap.size) (by omega) (rc (f (k + 1)))
        clear hB1 hA2 hA3 hB2 hB3 hb1 hb2 hb3 hH1 hH2 hH3 hH4
        have hga : wr.heap.size ≤ (w0.alloc (.cells (rc fun _ => 0) 43)).heap.size := by first | omega | (simp; omega)
        have hgb : wr.heap.size ≤ w0.heap.size := by first | omega | (simp; omega)
        refine wpAnyH_done (by kernel_rfl) ?_ _
        obtain ⟨w5, hw5⟩ : ∃ x, x = ((((w0.alloc (.cells (rc fun _ => 0) 43)).alloc (.cells (rc fun _ => 0) 43)).setRow (w0.alloc (.cells (rc fun _ => 0) 43)).heap.size (rc (f k))).setRow w0.heap.size (rc (f (k + 1)))) := ⟨_, rfl⟩
        rw [← hw5] at hA hB hbW ⊢
        obtain ⟨ga, hgae⟩ : ∃ x, x = (w0.alloc (.cells (rc fun _ => 0) 43)).heap.size := ⟨_, rfl⟩
        rw [← hgae] at hA hga ⊢
        obtain ⟨gb, hgbe⟩ : ∃ x, x = w0.heap.size := ⟨_, rfl⟩
        rw [← hgbe] at hB hgb ⊢
        have HA := Lib.hid hA
        have HBB := Lib.hid hB
        have Hown5 := Lib.hid (Hown.out.below hbW)
        have HbW := Lib.hid hbW
        have HHeld := Lib.hid hHeld
        clear hgbe hgae hw5 hA hB hbW hHeld
      all_goals
        clear hb0 hs0
        go_wp2
        go_loopw [30] (fun i wr => ∃ (t : Nat) (g : Nat → Nat → Int), t ≤ n ∧ i = .int .i64 t ∧ OwnP wr w1.heap.size (.slice (some ⟨w1.heap.size, 0, none⟩) n n) n (tab n n g) n vs ∧
            (∀ a b, a < k → b < n → g a b = sgW f a b) ∧ (∀ b, b < t → g k b = sgW f k b) ∧ RowAt wr ga (f k) ∧ RowAt wr gb (f (k + 1)) ∧ Below w1.heap.size w1 wr) (fun i _ => n - (intOf i).toNat)
        case atStart => exact ⟨0, g, Nat.zero_le _, rfl, Hown5.out, Heq.out, fun b hb => absurd hb (by omega), HA.out, HBB.out, Hbr.out.trans (HbW.out.mono HZ2.out)⟩
        case round =>
          obtain ⟨t, g2, ht, rfl, hown, heq, hcol, hA, hB, hbi⟩ := hrel
          clear HA HBB Hown5
          by_cases htl : t < n
          · obtain ⟨g', cap', hvs', hd2, hf2, hgB, hst⟩ := hown.at2 hlt htl
            obtain ⟨rfl, -⟩ : g' = og ∧ cap' = ocap := by
              rw [Hvs.out] at hvs'
              simp only [Value.slice.injEq, Option.some.injEq, Addr.mk.injEq, and_true, true_and] at hvs'
              exact ⟨hvs'.1.symm, hvs'.2.symm⟩
            have c1 := hA.cell (j := t + 1) (by omega)
            have c2 := hA.cell (j := t) (by omega)
            have c3 := hB.cell (j := t) (by omega)
            have c4 := hB.cell (j := t + 1) (by omega)
            have hfit : Fits (f k t) ∧ Fits (f k (t + 1)) ∧ Fits (f (k + 1) t) ∧ Fits (f (k + 1) (t + 1)) := ⟨hf _ _ hk77 (by omega), hf _ _ hk77 (by omega), hf _ _ hk88 (by omega), hf _ _ hk88 (by omega)⟩
            have hne1 : ¬ g' = ga := fun e => by have := Hown.out.rows k hlt; have h2 := this.lt g' (by rw [Hvs.out]; rfl); omega
            have hne2 : ¬ g' = gb := fun e => by have := Hown.out.rows k hlt; have h2 := this.lt g' (by rw [Hvs.out]; rfl); omega
            have hsg : sgW f k t = wrap64 ((wrap64 (wrap64 (wrap64 (f k (t + 1) - f k t) + f (k + 1) t) - f (k + 1) (t + 1))).tdiv 2) := rfl
            generalize f k (t + 1) = x1 at c1 hsg hfit
            generalize f k t = x0 at c2 hsg hfit
            generalize f (k + 1) t = y0 at c3 hsg hfit
            generalize f (k + 1) (t + 1) = y1 at c4 hsg hfit
            have Hst := Lib.hid (hst (sgW f k t))
            have Heq2 := Lib.hid heq
            have Hcol := Lib.hid hcol
            have Hsg := Lib.hid hsg
            have HA := Lib.hid hA
            have HBB := Lib.hid hB
            have Hbs := Lib.hid (hbi.setCell (p := ⟨g', t, none⟩) hgB (.int .i64 (sgW f k t)))
            have Hfit := Lib.hid hfit
            have ht7 : (t : Int) < 7 := by omega
            have ht8 : (t : Int) + 1 < 7 := by omega
            have ht9 : ¬ ((t : Int) + 1 < 0) := by omega
            have htw : IntKind.i64.wrap ((t : Int) + 1) = (t : Int) + 1 := w64 (by omega)
            have htn : ((t : Int) + 1).toNat = t + 1 := by omega
            clear hown heq hcol hA hB hbi hst hvs' hgB hsg hfit
            go_wp2
            go_region_held (fun w' => w'.cell? ⟨ga, t + 1, none⟩ = some (.int .i64 x1) ∧ w'.cell? ⟨ga, t, none⟩ = some (.int .i64 x0) ∧ w'.cell? ⟨gb, t, none⟩ = some (.int .i64 y0) ∧ w'.cell? ⟨gb, t + 1, none⟩ = some (.int .i64 y1)) (go_keep) (fail)
            all_goals
              go_wp2
              rw [← Hsg.out]
              go_roundw
              case rel =>
                refine ⟨t + 1, _, by omega, by go_num, Hst.out.drew, fun a b ha hb => ?_, fun b hb => ?_, HA.out.other (fun e => hne1 e.symm) _, HBB.out.other (fun e => hne2 e.symm) _, Hbs.out.drew⟩
                · rw [if_neg (fun h => by omega)]
                  exact Heq2.out a b ha hb
                · by_cases e : b = t
                  · subst e; rw [if_pos ⟨rfl, rfl⟩]
                  · rw [if_neg (fun h => by omega)]
                    exact Hcol.out b (by omega)
              case measure => simp [intOf]; omega
          · obtain rfl : t = n := by omega
            have Hown6 := Lib.hid hown
            have Heq2 := Lib.hid heq
            have Hcol := Lib.hid hcol
            have Hbi := Lib.hid hbi
            clear hown heq hcol hbi hA hB
            go_wp2
            go_roundw
            case rel =>
              refine ⟨k + 1, _, by omega, by go_num, Hown6.out, fun a b ha hb => ?_, Hbi.out⟩
              by_cases e : a = k
              · subst e; exact Hcol.out b hb
              · exact Heq2.out a b (by omega) hb
            case measure => simp [intOf]; omega
    · obtain rfl : k = n := by omega
      have e : tab k k (sgW f) = tab k k g := eq_tab (tab_len _ _ _) (fun i hi => tab_row hi) (fun i j hi hj => by rw [gi_tab hi hj, heq i j hi hj])
      have hfin : OwnM wr w.heap.size (.slice (some ⟨w1.heap.size, 0, none⟩) k k) (tab k k (sgW f)) := OwnM.base ⟨vs, by rw [tab_len, e]; exact hown⟩ HZ.out
      have Hfin := Lib.hid hfin
      have Hbr := Lib.hid (HB.out.trans (hbr.mono HZ.out))
      clear hown heq hbr e hfin
      go_wp2
      go_ret
      exact ⟨_, rfl, Hfin.out, Hbr.out⟩
end Go.Proofs.Ytopamhcnbocfoaa
