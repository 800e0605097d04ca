/- Contracts of the program: whether a terrain is below another. Condition: the numbers fit an int. -/
import Derived.Test.YtopamhcnbocfoaaTMeet
import Derived.Test.YtopamhcnbocfoaaTEq
namespace Go.Proofs.Ytopamhcnbocfoaa
open Go.RowKit

theorem TerrAt.rangeT {w : World} {g : Nat} {n : Int} {f : Nat → Nat → Int} (h : TerrAt w g n f) : w.rangeAt g 0 (tl n f) := by
  intro j v hv
  rw [Nat.zero_add, cell_of_row w g j _ _ _ h]
  simpa [tc] using hv
theorem Try.size_terrl (n : Int) (f : Nat → Nat → Int) : (Try.prog.info? 47).map (·.size) = some (tl n f).length := by
  have := Try.size_terr n f
  simpa [tc] using this
theorem field_heights {n : Int} {f : Nat → Nat → Int} (w : World) : (Instr.field 47 (.agg (tc n f)) 1).run Try.prog w = .ok (.agg (hl f).toArray) w := by
  have e : (tc n f).extract 1 50 = (hl f).toArray := by
    apply Array.ext_getElem?
    intro j
    rw [Array.getElem?_extract]
    by_cases hj : j < 49
    · rw [if_pos (by rw [tc_size]; omega)]
      simp only [tc, tl, hl, List.getElem?_toArray, Nat.add_comm 1 j, List.getElem?_cons_succ]
    · rw [if_neg (by rw [tc_size]; omega), Array.getElem?_eq_none (by simp [hl_len]; omega)]
  simp [Instr.field, Sem.run_bind, asAgg, part, e, go_sem]
  done

set_option maxRecDepth 100000 in
set_option maxHeartbeats 1600000 in
theorem isBelow_any (n n2 : Int) (p q : Nat → Nat → Int) (w : World) (hp : Fits7 p) (hq : Fits7 q) :
    Calls Try.prog 67 #[.agg (tc n p), .agg (tc n2 q)] w fun e w' => e = .returned (.bool (sameH (fun i j => min (p i j) (q i j)) p)) ∧ Below w.heap.size w w' := by
  go_enter Try.func67, Try.ntmps67
  go_upto_region 1 with (first | (refine wpList_allocT rfl 47 rfl _ _ Try.info_terr ?_) | (refine wpList_buildT1 rfl 47 0 _ rfl (.int .i64 _) rfl _ (Try.built_terr _) ?_) | (refine wpList_buildT0 rfl 47 rfl _ Try.built_terr0 ?_) | (refine wpList_boxT rfl 47 _ rfl _ rfl ?_) | (refine wpList_storeT rfl 47 _ _ rfl _ _ _ (by first | rfl | simp) rfl rfl (Try.size_terr _ _) (tc_same _ _ _ _) (tc_one _ _) ?_))
  generalize hW : World.alloc (World.alloc w _) _ = w1
  have hT : TerrAt w1 w.heap.size n p := by rw [← hW]; exact two_bot w _ _ _
  have hK : TerrAt w1 (w.heap.size + 1) n2 q := by rw [← hW]; exact two_top w _ _ _
  have hB : Below w.heap.size w w1 := by rw [← hW]; exact two_below w _ _
  clear hW
  have hS : ∀ w', Below w1.heap.size w1 w' → TerrAt w' w.heap.size n p ∧ TerrAt w' (w.heap.size + 1) n2 q ∧ Below w.heap.size w w' := fun w' hb => ⟨hT.below hb, hK.below hb, hB.trans (hb.mono hB.size)⟩
  refine wp_region_held_drew (S := fun w' => TerrAt w' w.heap.size n p ∧ TerrAt w' (w.heap.size + 1) n2 q ∧ Below w.heap.size w w') (by kernel_rfl) (hS _ (below_drewN (Below.refl _ _) 1)) (fun hHeld => ?_)
  refine wpAnyH_take (i := 0) (oi := ⟨some 5, _, _, _, _, _⟩) (v := .agg (tl n p).toArray) rfl (by kernel_rfl) (by kernel_rfl) (by kernel_rfl) (fun _ _ _ h => h)
    (yieldsIf_load_mid (by rfl) _ _ rfl w.heap.size 0 rfl (tl n p) _ (fun w hw => hw.1.rangeT) Try.underlying47 rfl (Try.size_terrl n p)) hHeld ?_
  simp only [Act.put, List.setIfInBounds_toArray, List.set_cons_zero, List.set_cons_succ]
  refine wpAnyH_take (i := 1) (oi := ⟨some 6, _, _, _, _, _⟩) (v := .agg (tl n2 q).toArray) rfl (by kernel_rfl) (by kernel_rfl) (by kernel_rfl) (fun _ _ _ h => h)
    (yieldsIf_load_mid (by rfl) _ _ rfl (w.heap.size + 1) 0 rfl (tl n2 q) _ (fun w hw => hw.2.1.rangeT) Try.underlying47 rfl (Try.size_terrl n2 q)) hHeld ?_
  simp only [Act.put, List.setIfInBounds_toArray, List.set_cons_zero, List.set_cons_succ]
  refine wpAnyH_take (i := 4) (oi := ⟨some 9, _, _, _, _, _⟩) (v := .pointer (some ⟨w.heap.size, 1, none⟩)) rfl (by kernel_rfl) (by kernel_rfl) (by kernel_rfl) (fun _ _ _ h => h) (Or.inl ⟨by rfl, ?y1⟩) hHeld ?_
  case y1 => intro w hSw; go_simp
  simp only [Act.put, List.setIfInBounds_toArray, List.set_cons_zero, List.set_cons_succ]
  refine wpAnyH_take (i := 5) (oi := ⟨some 10, _, _, _, _, _⟩) (v := .agg (hl p).toArray) rfl (by kernel_rfl) (by kernel_rfl) (by kernel_rfl) (fun _ _ _ h => h)
    (yieldsIf_load_mid (by rfl) _ _ rfl w.heap.size 1 rfl (hl p) _ (fun w hw => hw.1.range) Try.underlying45 rfl (Try.size_rows p)) hHeld ?_
  simp only [Act.put, List.setIfInBounds_toArray, List.set_cons_zero, List.set_cons_succ]
  refine wpAnyH_ready (rs := [2]) (by kernel_rfl) (by simp) (AllReadyH.cons (o := ⟨some 7, _, _, _, _, _⟩) rfl (fun KK hKK => ?_) AllReadyH.nil)
  rw [if_pos (by rfl)]
  have hcall := meet_any n n2 p q w1.drew
  have Hcall := Lib.hid hcall
  have Hheld := Lib.hid hHeld
  clear hcall hHeld hT hK hB hS
  go_wp2_with (go_at_call 69; refine Hcall.out.mono ?_; rintro e w2 ⟨rfl, hb⟩)
  refine hKK.out _ _ ⟨Hheld.out.1.below hb, Hheld.out.2.1.below hb, Hheld.out.2.2.trans (hb.mono Hheld.out.2.2.size)⟩ (fun hHeld => ?_)
  clear hb Hheld hKK KK Hcall
  refine wpAnyH_take (i := 3) (oi := ⟨some 8, _, _, _, _, _⟩) (v := .agg (hl fun i j => min (p i j) (q i j)).toArray) rfl (by kernel_rfl) (by kernel_rfl) (by kernel_rfl) (fun _ _ _ h => h) (Or.inl ⟨by rfl, ?y2⟩) hHeld ?_
  case y2 =>
    intro w hSw
    have hfh := field_heights (n := n) (f := fun i j => min (p i j) (q i j)) w
    simp [execOp, Act.eval, hfh, go_sem]
  simp only [Act.put, List.setIfInBounds_toArray, List.set_cons_zero, List.set_cons_succ]
  refine wpAnyH_take (i := 6) (oi := ⟨some 11, _, _, _, _, _⟩) (v := .bool (sameH (fun i j => min (p i j) (q i j)) p)) rfl (by kernel_rfl) (by kernel_rfl) (by kernel_rfl) (fun _ _ _ h => h) (Or.inl ⟨by rfl, ?y3⟩) hHeld ?_
  case y3 =>
    intro w hSw
    have hge := Try.guard_hts
    have heq := Try.eq_hts (f := fun i j => min (p i j) (q i j)) (g := p) (fun i j hi hj => by have h1 := hp i j hi hj; have h2 := hq i j hi hj; unfold Fits at h1 h2 ⊢; show _ ≤ min (p i j) (q i j) ∧ min (p i j) (q i j) ≤ _; omega) hp w
    simp [execOp, Act.eval, run_eqGuard_agg, hge, run_eql_struct, heq, go_sem]
  simp only [Act.put, List.setIfInBounds_toArray, List.set_cons_zero, List.set_cons_succ]
  refine wpAnyH_take (i := 7) (oi := ⟨some 4, _, _, _, _, _⟩) (v := .bool (sameH (fun i j => min (p i j) (q i j)) p)) rfl (by kernel_rfl) (by kernel_rfl) (by kernel_rfl) (fun _ _ _ h => h) (Or.inl ⟨by rfl, ?y4⟩) hHeld ?_
  case y4 => intro w hSw; go_simp
  simp only [Act.put, List.setIfInBounds_toArray, List.set_cons_zero, List.set_cons_succ]
  refine wpAnyH_done (by kernel_rfl) ?_ _
  have HB := Lib.hid hHeld.2.2
  clear hHeld
  go_wp2
  go_ret
  exact ⟨rfl, HB.out⟩
end Go.Proofs.Ytopamhcnbocfoaa
