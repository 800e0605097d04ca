/- Contracts of the program: the sign matrix with given heights; whether there is one. Condition: the numbers fit an int. -/
import Derived.Test.YtopamhcnbocfoaaTFrom
import Derived.Deep.RegionWith
namespace Go.Proofs.Ytopamhcnbocfoaa
open Go.RowKit

def qP (H : List (List Int)) : List (List Int) := tab (H.length - 1) (H.length - 1) (sgW (padH H))
theorem qP_len (H : List (List Int)) : (qP H).length = H.length - 1 := tab_len _ _ _
theorem qP_small {H : List (List Int)} (h : shape0 H) : Small (qP H) := by
  have h7 := h.2.1
  refine ⟨by rw [qP_len]; omega, fun i hi => ?_⟩
  rw [qP_len] at hi
  unfold qP
  rw [tab_row hi]
  omega
theorem qP_wf (H : List (List Int)) : WfM (qP H) := by
  intro i hi
  rw [qP_len] at hi
  intro j hj
  have hr : (gr (qP H) i).length = H.length - 1 := tab_row hi
  rw [hr] at hj
  rw [show gi (gr (qP H) i) j = sgW (padH H) i j from gi_tab hi hj]
  unfold sgW wrap64
  omega
theorem padH_fits {H : List (List Int)} (h : shape0 H) (hwf : WfM H) : Fits7 (padH H) := by
  intro i j _ _
  unfold padH
  split
  · next e => exact hwf i e.1 j (by rw [h.2.2 i e.1]; exact e.2)
  · exact ⟨by omega, by omega⟩
theorem padH_ht {m : List (List Int)} (i j : Nat) : padH (ht m) i j = pad m.length (hOf (S2 m)) i j := by
  unfold padH pad
  rw [ht_len]
  by_cases e : i ≤ m.length ∧ j ≤ m.length
  · rw [if_pos e, if_pos (by omega)]
    exact gi_htT e.1 e.2
  · rw [if_neg e, if_neg (by omega)]
theorem qP_ht {m : List (List Int)} (h : good m) : qP (ht m) = m := by
  have h1 := sgW_unC (good_crn h) h.1.2.1 (f := padH (ht m)) (fun i j hi hj => by rw [padH_ht]; unfold pad; rw [if_pos ⟨hi, hj⟩])
  unfold qP
  rw [ht_len, Nat.add_sub_cancel, h1, unC_S2 h.1]
theorem isHt_prog {H : List (List Int)} (h : shape0 H) : IsHt H ↔ good (qP H) ∧ ((H.length - 1 : Nat) : Int) = ((H.length - 1 : Nat) : Int) ∧ ∀ i j, i < 7 → j < 7 → pad (H.length - 1) (hOf (S2 (qP H))) i j = padH H i j := by
  constructor
  · rintro ⟨m, hg, rfl⟩
    rw [qP_ht hg]
    refine ⟨hg, rfl, fun i j _ _ => ?_⟩
    rw [padH_ht, ht_len, Nat.add_sub_cancel]
  · rintro ⟨hg, -, he⟩
    refine ⟨qP H, hg, ?_⟩
    have h2 := h.1
    have h7 := h.2.1
    refine eq_tab (by rw [qP_len]; omega) (fun i hi => by rw [qP_len] at hi ⊢; rw [h.2.2 i (by omega)]; omega) fun i j hi hj => ?_
    rw [qP_len] at hi hj
    have := he i j (by omega) (by omega)
    unfold pad padH at this
    rw [if_pos (by omega), if_pos (by omega)] at this
    exact this.symm
theorem unHt_qP {H : List (List Int)} (h : IsHt H) : qP H = unHt H := by
  obtain ⟨m, hg, rfl⟩ := h
  rw [qP_ht hg, unHt_ht hg]

theorem run_neqA {P : Program} {w : World} {o : Oper} {a : Act} (t t2 : TypeId) (x y : Operand) (ho : o.op = .binOp .neq t x y t2) (xs ys : Array Value) (hx : a.eval x = .agg xs) (hy : a.eval y = .agg ys) (hm : P.eqGuardType P.depth t = false)
    (b : Bool) (he : (Op.equalIn 10000 t (.agg xs) (.agg ys)).run P w = .ok b w) : (execOp a.eval o).run P w = .ok (.value (.bool (!b))) w := by
  unfold execOp
  simp only [ho, hx, hy, Sem.run_bind, run_eqGuard_agg (hm := hm), run_neq_struct, he, Result.andThen_ok, Sem.run_pure]

set_option maxRecDepth 100000 in
set_option maxHeartbeats 3200000 in
theorem implFromHeights_any (ao : Option Addr) (c : Nat) (H : List (List Int)) (w : World) (hs : Small H) (hwf : WfM H) (hm : MatAt w ao H) :
    Calls Try.prog 27 #[.slice ao H.length c] w fun e w' => MRes (IsHt H) (unHt H) w' w.heap.size e ∧ Below w.heap.size w w' := by
  have hcall := terrainFrom_any ao c H w hs hm
  have Hcall := Lib.hid hcall
  have Hwf := Lib.hid hwf
  clear hcall hs hm hwf
  go_enter Try.func27, Try.ntmps27
  go_wp2_with fail
  refine Hcall.out.mono ?_
  rintro e w2 ⟨htf, hb⟩
  have Hb := Lib.hid hb
  have HB := Lib.hid hb.size
  clear hb Hcall
  rcases htf with ⟨hsh, rfl⟩ | ⟨hsh, rfl⟩
  · have Hsh := Lib.hid hsh
    have hn1 : 1 ≤ H.length - 1 := by have := hsh.1; omega
    have hn6 : H.length - 1 ≤ 6 := by have := hsh.2.1; omega
    obtain ⟨n, hnn⟩ : ∃ n, n = H.length - 1 := ⟨_, rfl⟩
    rw [← hnn] at hn1 hn6 ⊢
    have Hnn := Lib.hid hnn
    clear hsh hnn
    go_upto_region 2 with (first
      | (refine wpList_allocT rfl 47 rfl _ _ Try.info_terr ?_)
      | (refine wpList_storeT rfl 47 _ _ rfl _ _ _ (by first | rfl | simp) rfl rfl (Try.size_terr _ _) (tc_same _ _ _ _) (tc_one _ _) ?_))
    generalize hW : World.alloc w2 _ = w3
    have hT : TerrAt w3 w2.heap.size n (padH H) := by rw [← hW]; exact TerrAt.new w2 _ _
    have hb3 : Below w2.heap.size w2 w3 := by rw [← hW]; exact (Below.refl _ _).alloc (Nat.le_refl _) _
    clear hW
    have HT := Lib.hid hT
    have Hb3 := Lib.hid (Hb.out.trans (hb3.mono HB.out))
    have HB3 := Lib.hid Hb3.out.size
    clear hT hb3
    have hcall := signs_any n (padH H) w3 hn1 hn6 (padH_fits Hsh.out Hwf.out)
    rw [show tab n n (sgW (padH H)) = qP H from by rw [Hnn.out]; rfl] at hcall
    have Hcall := Lib.hid hcall
    have Hql := Lib.hid (show (qP H).length = n by rw [qP_len, Hnn.out])
    clear hcall
    go_wp2_with (refine wpList_loadG rfl 47 _ rfl w2.heap.size rfl _ _ HT.out Try.underlying47 rfl (Try.size_terr _ _) ?_)
    refine Hcall.out.mono ?_
    rintro e w4 ⟨v, rfl, hv, hb4⟩
    obtain ⟨ma, mc, rfl, hmc1, hmc2, hmq⟩ := hv.read
    have HT4 := Lib.hid (HT.out.below hb4)
    have Hv := Lib.hid hv
    have Hmq := Lib.hid hmq
    have Hb4 := Lib.hid (Hb3.out.trans (hb4.mono HB3.out))
    have HB4 := Lib.hid Hb4.out.size
    clear hv hmq hb4 Hcall
    go_upto_region 5 with fail
    by_cases hg : good (qP H)
    · have Hg := Lib.hid hg
      clear hg
      have hS : ∀ w', Below w4.heap.size w4 w' → TerrAt w' w2.heap.size n (padH H) ∧ MatAt w' ma (qP H) ∧ OwnM w' w3.heap.size (.slice ma (qP H).length mc) (qP H) ∧ Below w.heap.size w w' := fun w' hb => ⟨HT4.out.below hb, Hmq.out.below hb, Hv.out.below hb, Hb4.out.trans (hb.mono HB4.out)⟩
      refine wp_region_held_drew (S := fun w' => TerrAt w' w2.heap.size n (padH H) ∧ MatAt w' ma (qP H) ∧ OwnM w' w3.heap.size (.slice ma (qP H).length mc) (qP H) ∧ Below w.heap.size w w') (by kernel_rfl) (hS _ (below_drewN (Below.refl _ _) 1)) (fun hHeld => ?_)
      clear hS
      refine wpAnyH_take (i := 0) (oi := ⟨some 16, _, _, _, _, _⟩) (v := .slice ma (qP H).length mc) rfl (by kernel_rfl) (by kernel_rfl) (by kernel_rfl) (fun _ _ _ h => h) (Or.inl ⟨by rfl, ?y1⟩) hHeld ?_
      case y1 => intro w hSw; go_simp
      simp only [Act.put, List.setIfInBounds_toArray, List.set_cons_zero, List.set_cons_succ]
      refine wpAnyH_ready (rs := [1]) (by kernel_rfl) (by simp) (AllReadyH.cons (o := ⟨some 17, _, _, _, _, _⟩) rfl (fun KK hKK => ?_) AllReadyH.nil)
      rw [if_pos (by rfl)]
      have Hheld := Lib.hid hHeld
      clear hHeld
      go_wp2_with (go_at_call 54; refine (implIsSign_any ma mc (qP H) _ (qP_small Hsh.out) (qP_wf H) Hheld.out.2.1).mono ?_; rintro e w5 ⟨ha, hb⟩; obtain rfl := ha.is Hg.out; clear ha)
      refine hKK.out _ _ ⟨Hheld.out.1.below hb, Hheld.out.2.1.below hb, Hheld.out.2.2.1.below hb, Hheld.out.2.2.2.trans (hb.mono Hheld.out.2.2.2.size)⟩ (fun hHeld => ?_)
      clear hb Hheld hKK KK
      refine wpAnyH_take (i := 2) (oi := ⟨some 18, _, _, _, _, _⟩) (v := .bool false) rfl (by kernel_rfl) (by kernel_rfl) (by kernel_rfl) (fun _ _ _ h => h) (Or.inl ⟨by rfl, ?y1⟩) hHeld ?_
      case y1 => intro w hSw; go_simp
      simp only [Act.put, List.setIfInBounds_toArray, List.set_cons_zero, List.set_cons_succ]
      refine wpAnyH_take (i := 3) (oi := ⟨some 19, _, _, _, _, _⟩) (v := .bool false) rfl (by kernel_rfl) (by kernel_rfl) (by kernel_rfl) (fun _ _ _ h => h) (Or.inl ⟨by rfl, ?y1⟩) hHeld ?_
      case y1 => intro w hSw; go_simp
      simp only [Act.put, List.setIfInBounds_toArray, List.set_cons_zero, List.set_cons_succ]
      refine wpAnyH_take (i := 4) (oi := ⟨some 20, _, _, _, _, _⟩) (v := .slice ma (qP H).length mc) rfl (by kernel_rfl) (by kernel_rfl) (by kernel_rfl) (fun _ _ _ h => h) (Or.inl ⟨by rfl, ?y1⟩) hHeld ?_
      case y1 => intro w hSw; go_simp
      simp only [Act.put, List.setIfInBounds_toArray, List.set_cons_zero, List.set_cons_succ]
      refine wpAnyH_take (i := 6) (oi := ⟨some 22, _, _, _, _, _⟩) (v := .agg (tl n (padH H)).toArray) rfl (by kernel_rfl) (by kernel_rfl) (by kernel_rfl) (fun _ _ _ h => h) (yieldsIf_load_mid (by rfl) _ _ rfl w2.heap.size 0 rfl (tl n (padH H)) _ (fun w hw => hw.1.rangeT) Try.underlying47 rfl (Try.size_terrl n (padH H))) hHeld ?_
      simp only [Act.put, List.setIfInBounds_toArray, List.set_cons_zero, List.set_cons_succ]
      refine wpAnyH_ready (rs := [5]) (by kernel_rfl) (by simp) (AllReadyH.cons (o := ⟨some 21, _, _, _, _, _⟩) rfl (fun KK hKK => ?_) AllReadyH.nil)
      rw [if_pos (by rfl)]
      have Hheld := Lib.hid hHeld
      clear hHeld
      go_wp2_with (go_at_call 55; refine (terrainOf_any ma mc (qP H) _ Hg.out Hheld.out.2.1 hmc1 hmc2).mono ?_; rintro e w6 ⟨rfl, hb⟩)
      refine hKK.out _ _ ⟨Hheld.out.1.below hb, Hheld.out.2.1.below hb, Hheld.out.2.2.1.below hb, Hheld.out.2.2.2.trans (hb.mono Hheld.out.2.2.2.size)⟩ (fun hHeld => ?_)
      clear hb Hheld hKK KK
      obtain ⟨r, hr⟩ : ∃ r : Bool, (∀ w', (Op.equalIn 10000 47 (.agg (tc (qP H).length (pad (qP H).length (hOf (S2 (qP H)))))) (.agg (tc n (padH H)))).run Try.prog w' = .ok r w') ∧ (r = true ↔ IsHt H) := by
        have hn1' : Fits (((qP H).length : Nat) : Int) := by rw [Hql.out]; unfold Fits; omega
        have hnn' : Fits (n : Int) := by unfold Fits; omega
        have hf1 : Fits7 (pad (qP H).length (hOf (S2 (qP H)))) := ((good_crn Hg.out).near Hg.out.1.2.1).fits
        have hf2 := padH_fits Hsh.out Hwf.out
        obtain ⟨r, hr, hiff⟩ := Try.eq_terr hn1' hnn' hf1 hf2 w
        refine ⟨r, fun w' => ?_, hiff.trans ?_⟩
        · obtain ⟨r', hr', hiff'⟩ := Try.eq_terr hn1' hnn' hf1 hf2 w'
          rw [hr', show r' = r from by rw [Bool.eq_iff_iff, hiff', hiff]]
        · rw [isHt_prog Hsh.out, qP_len, Hnn.out]
          exact ⟨fun h => ⟨Hg.out, h⟩, fun h => h.2⟩
      obtain ⟨hr, hriff⟩ := hr
      refine wpAnyH_take (i := 7) (oi := ⟨some 23, _, _, _, _, _⟩) (v := .bool (!r)) rfl (by kernel_rfl) (by kernel_rfl) (by kernel_rfl) (fun _ _ _ h => h) (Or.inl ⟨by rfl, ?y3⟩) hHeld ?_
      case y3 =>
        intro w hSw
        exact run_neqA _ _ _ _ rfl (tc (qP H).length (pad (qP H).length (hOf (S2 (qP H))))) (tc n (padH H)) rfl rfl Try.guard_terr r (hr w)
      simp only [Act.put, List.setIfInBounds_toArray, List.set_cons_zero, List.set_cons_succ]
      have Hriff := Lib.hid hriff
      clear hr hriff
      cases r
      · refine wpAnyH_take (i := 8) (oi := ⟨some 24, _, _, _, _, _⟩) (v := .bool true) rfl (by kernel_rfl) (by kernel_rfl) (by kernel_rfl) (fun _ _ _ h => h) (Or.inl ⟨by rfl, ?y1⟩) hHeld ?_
        case y1 => intro w hSw; go_simp
        simp only [Act.put, List.setIfInBounds_toArray, List.set_cons_zero, List.set_cons_succ]
        refine wpAnyH_done (by kernel_rfl) ?_ _
        have Hfin := Lib.hid hHeld
        have Hno := Lib.hid (show ¬ IsHt H from fun h => by have := Hriff.out.2 h; cases this)
        clear hHeld Hriff
        go_wp2
        go_ret2
        exact ⟨MRes.no Hno.out, Hfin.out.2.2.2⟩
      · refine wpAnyH_take (i := 8) (oi := ⟨some 24, _, _, _, _, _⟩) (v := .bool false) rfl (by kernel_rfl) (by kernel_rfl) (by kernel_rfl) (fun _ _ _ h => h) (Or.inl ⟨by rfl, ?y1⟩) hHeld ?_
        case y1 => intro w hSw; go_simp
        simp only [Act.put, List.setIfInBounds_toArray, List.set_cons_zero, List.set_cons_succ]
        refine wpAnyH_done (by kernel_rfl) ?_ _
        have Hfin := Lib.hid hHeld
        have Hyes := Lib.hid (show IsHt H from Hriff.out.1 rfl)
        clear hHeld Hriff
        go_wp2
        go_ret2
        exact ⟨MRes.yes Hyes.out (by rw [← unHt_qP Hyes.out]; exact Hfin.out.2.2.1.base HB3.out), Hfin.out.2.2.2⟩
    · have Hg := Lib.hid hg
      clear hg
      have hS : ∀ w', Below w4.heap.size w4 w' → MatAt w' ma (qP H) ∧ Below w.heap.size w w' := fun w' hb => ⟨Hmq.out.below hb, Hb4.out.trans (hb.mono HB4.out)⟩
      refine wp_region_held_drew (S := fun w' => MatAt w' ma (qP H) ∧ Below w.heap.size w w') (by kernel_rfl) (hS _ (below_drewN (Below.refl _ _) 1)) (fun hHeld => ?_)
      clear hS
      refine wpAnyH_take (i := 0) (oi := ⟨some 16, _, _, _, _, _⟩) (v := .slice ma (qP H).length mc) rfl (by kernel_rfl) (by kernel_rfl) (by kernel_rfl) (fun _ _ _ h => h) (Or.inl ⟨by rfl, ?y1⟩) hHeld ?_
      case y1 => intro w hSw; go_simp
      simp only [Act.put, List.setIfInBounds_toArray, List.set_cons_zero, List.set_cons_succ]
      refine wpAnyH_ready (rs := [1]) (by kernel_rfl) (by simp) (AllReadyH.cons (o := ⟨some 17, _, _, _, _, _⟩) rfl (fun KK hKK => ?_) AllReadyH.nil)
      rw [if_pos (by rfl)]
      have Hheld := Lib.hid hHeld
      clear hHeld
      go_wp2_with (go_at_call 54; refine (implIsSign_any ma mc (qP H) _ (qP_small Hsh.out) (qP_wf H) Hheld.out.1).mono ?_; rintro e w5 ⟨ha, hb⟩; obtain rfl := ha.isnt Hg.out; clear ha)
      refine hKK.out _ _ ⟨Hheld.out.1.below hb, Hheld.out.2.trans (hb.mono Hheld.out.2.size)⟩ (fun hHeld => ?_)
      clear hb Hheld hKK KK
      refine wpAnyH_take (i := 2) (oi := ⟨some 18, _, _, _, _, _⟩) (v := .bool true) rfl (by kernel_rfl) (by kernel_rfl) (by kernel_rfl) (fun _ _ _ h => h) (Or.inl ⟨by rfl, ?y1⟩) hHeld ?_
      case y1 => intro w hSw; go_simp
      simp only [Act.put, List.setIfInBounds_toArray, List.set_cons_zero, List.set_cons_succ]
      refine wpAnyH_take (i := 3) (oi := ⟨some 19, _, _, _, _, _⟩) (v := .bool true) rfl (by kernel_rfl) (by kernel_rfl) (by kernel_rfl) (fun _ _ _ h => h) (Or.inl ⟨by rfl, ?y1⟩) hHeld ?_
      case y1 => intro w hSw; go_simp
      simp only [Act.put, List.setIfInBounds_toArray, List.set_cons_zero, List.set_cons_succ]
      refine wpAnyH_take (i := 4) (oi := ⟨some 20, _, _, _, _, _⟩) (v := undef) rfl (by kernel_rfl) (by kernel_rfl) (by kernel_rfl) (fun _ _ _ h => h) (Or.inr ⟨by rfl, rfl⟩) hHeld ?_
      refine wpAnyH_take (i := 5) (oi := ⟨some 21, _, _, _, _, _⟩) (v := undef) rfl (by kernel_rfl) (by kernel_rfl) (by kernel_rfl) (fun _ _ _ h => h) (Or.inr ⟨by rfl, rfl⟩) hHeld ?_
      refine wpAnyH_take (i := 6) (oi := ⟨some 22, _, _, _, _, _⟩) (v := undef) rfl (by kernel_rfl) (by kernel_rfl) (by kernel_rfl) (fun _ _ _ h => h) (Or.inr ⟨by rfl, rfl⟩) hHeld ?_
      refine wpAnyH_take (i := 7) (oi := ⟨some 23, _, _, _, _, _⟩) (v := undef) rfl (by kernel_rfl) (by kernel_rfl) (by kernel_rfl) (fun _ _ _ h => h) (Or.inr ⟨by rfl, rfl⟩) hHeld ?_
      refine wpAnyH_take (i := 8) (oi := ⟨some 24, _, _, _, _, _⟩) (v := .bool true) rfl (by kernel_rfl) (by kernel_rfl) (by kernel_rfl) (fun _ _ _ h => h) (Or.inl ⟨by rfl, ?y1⟩) hHeld ?_
      case y1 => intro w hSw; go_simp
      simp only [Act.put, List.setIfInBounds_toArray, List.set_cons_zero, List.set_cons_succ]
      refine wpAnyH_done (by kernel_rfl) ?_ _
      have Hfin := Lib.hid hHeld
      clear hHeld
      go_wp2
      go_ret2
      exact ⟨MRes.no (fun h => Hg.out ((isHt_prog Hsh.out).1 h).1), Hfin.out.2⟩
  · have Hsh := Lib.hid hsh
    clear hsh
    go_upto_region 2 with (first
      | (refine wpList_allocT rfl 47 rfl _ _ Try.info_terr ?_)
      | (refine wpList_storeT rfl 47 _ _ rfl (tc 0 z0) _ _ (by first | rfl | simp) rfl rfl (Try.size_terr _ _) (tc_same _ _ _ _) (tc_one _ _) ?_))
    generalize hW : World.alloc w2 _ = w3
    have hb3 : Below w2.heap.size w2 w3 := by rw [← hW]; exact (Below.refl _ _).alloc (Nat.le_refl _) _
    clear hW
    have Hb3 := Lib.hid (Hb.out.trans (hb3.mono HB.out))
    clear hb3
    go_wp2
    go_ret2
    exact ⟨MRes.no (fun h => Hsh.out (isHt_shape h).1), Hb3.out⟩

theorem implAreHeights_any (ao : Option Addr) (c : Nat) (H : List (List Int)) (w : World) (hs : Small H) (hwf : WfM H) (hm : MatAt w ao H) :
    Calls Try.prog 25 #[.slice ao H.length c] w fun e w' => Ans (IsHt H) e ∧ Below w.heap.size w w' := by
  have Hcall := Lib.hid (implFromHeights_any ao c H w hs hwf hm)
  clear hs hm hwf
  go_enter Try.func25, Try.ntmps25
  go_wp2_with fail
  refine Hcall.out.mono ?_
  rintro e w1 ⟨⟨v, b, r, rfl, hv, hr⟩, hb1⟩
  have hb' : b = true ↔ IsHt H := by
    rcases hr with ⟨h1, rfl, _⟩ | ⟨h1, rfl, _⟩
    · simp [h1]
    · simp [h1]
  have Hb := Lib.hid hb'
  have Hb1 := Lib.hid hb1
  clear hv hr hb' hb1
  go_wp2
  go_ret
  exact ⟨⟨b, rfl, Hb.out⟩, Hb1.out⟩
end Go.Proofs.Ytopamhcnbocfoaa
