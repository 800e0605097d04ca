/- Parts of proofs: contracts and plain facts. Conditions: as each says. -/
import Derived.Test.YtgdijjfipicodaaK11
import Derived.Deep.RegionWith
namespace Go.Proofs.Ytgdijjfipicodaa
open Go.RowKit

set_option maxRecDepth 100000 in
set_option maxHeartbeats 1600000 in
theorem sharedOut_any (parts before : List (Nat × Nat)) (R N V k cap : Nat) (w : World) (hN : N ≤ 14) (hk : k ≤ N) (hRl : R < w.heap.size) (hVl : V < w.heap.size)
    (hp : ∀ j, j < N → w.cell? ⟨R, j * 2, none⟩ = some (.int .i64 ((gq parts j).1 : Int)) ∧ w.cell? ⟨R, j * 2 + 1, none⟩ = some (.int .i64 ((gq parts j).2 : Int)))
    (hv : ∀ j, j < k → w.cell? ⟨V, j * 2, none⟩ = some (.int .i64 ((gq before j).1 : Int)) ∧ w.cell? ⟨V, j * 2 + 1, none⟩ = some (.int .i64 ((gq before j).2 : Int)))
    (hsp : ∀ j, j < N → SmQ (gq parts j)) (hsv : ∀ j, j < k → SmQ (gq before j)) (hss : ∀ j, j ≤ k → SmQ (shQ parts before j)) :
    Calls Try.prog 102 #[.slice (some ⟨R, 0, none⟩) N N, .slice (some ⟨V, 0, none⟩) k cap] w fun e w' => e = .returned (.agg (rtA (shQ parts before k))) ∧ Below w.heap.size w w' := by
  have HP := Lib.hid hp
  have HV := Lib.hid hv
  have Hsp := Lib.hid hsp
  have Hsv := Lib.hid hsv
  have Hss := Lib.hid hss
  have HRV := Lib.hid (And.intro hRl hVl)
  have hkm : k ≤ 9223372036854775807 := by omega
  clear hp hv hsp hsv hss hRl hVl
  go_enter Try.func102, Try.ntmps102
  go_wp2_with (refine wpList_allocT rfl 52 rfl _ _ Try.info_rt ?_)
  generalize hW : World.alloc w _ = w1
  have hG : RtAt w1 w.heap.size (0, 0) := by rw [← hW]; exact RtAt.new w (0, 0)
  have hb1 : Below w.heap.size w w1 := by rw [← hW]; exact (Below.refl _ w).alloc (Nat.le_refl _) _
  have HG := Lib.hid hG
  have HB1 := Lib.hid hb1
  clear hW hG hb1
  go_wp2_with fail
  refine (whole_any 0 w1).mono ?_
  rintro e w2 ⟨rfl, hb⟩
  have HG1 := Lib.hid (HG.out.below hb)
  have HB2 := Lib.hid (HB1.out.trans (hb.mono HB1.out.size))
  clear hb HG HB1
  go_upto_region 2 with (first | (refine wpList_allocT rfl 52 rfl _ _ Try.info_rt ?_) | (refine wpList_storeT rfl 52 _ _ rfl (rtA (0, 1)) (rtA (0, 0)) w2.heap.size rfl rfl rfl (Try.size_rt _) (rt_same _ _) (rt_one _) ?_))
  generalize hW : World.alloc w2 _ = w3
  have hA : RtAt w3 w2.heap.size (shQ parts before 0) := by rw [← hW]; exact RtAt.new w2 (0, 1)
  have hb3 : Below w2.heap.size w2 w3 := by rw [← hW]; exact (Below.refl _ w2).alloc (Nat.le_refl _) _
  have HG3 := Lib.hid (HG1.out.below hb3)
  have HB3 := Lib.hid (HB2.out.trans (hb3.mono HB2.out.size))
  obtain ⟨A, hAe⟩ : ∃ A, A = w2.heap.size := ⟨_, rfl⟩
  obtain ⟨G, hGe⟩ : ∃ G, G = w.heap.size := ⟨_, rfl⟩
  have HGA := Lib.hid (show G ≠ A by have := HG1.out.lt; omega)
  have HAw := Lib.hid (show w.heap.size ≤ A by have := HB2.out.size; omega)
  have HGw := Lib.hid (show w.heap.size ≤ G by omega)
  rw [← hAe] at hA ⊢
  rw [← hGe] at HG3 ⊢
  have HA := Lib.hid hA
  clear hW hA hb3 hAe hGe HG1 HB2
  go_wp2
  go_loopw [11] (fun x wr => ∃ j : Nat, j ≤ k ∧ x = .int .i64 j ∧ RtAt wr A (shQ parts before j) ∧ RtAt wr G (0, 0) ∧ Below w.heap.size w wr) (fun x _ => k - (intOf x).toNat)
  case atStart => exact ⟨0, Nat.zero_le _, rfl, HA.out, HG3.out, HB3.out⟩
  case round =>
    obtain ⟨j, hj, rfl, ha, hg, hbr⟩ := hrel
    have HA1 := Lib.hid ha
    have HG1 := Lib.hid hg
    have Hbr := Lib.hid hbr
    clear ha hg hbr HA HG3 HB3
    by_cases hjk : j < k
    · have hjN : j < N := by omega
      have v1 := cell_below (HV.out j hjk).1 Hbr.out
      have v2 := cell_below (HV.out j hjk).2 Hbr.out
      have CT := Lib.hid ((Hsp.out j hjN).times (Hsv.out j hjk))
      have CP := Lib.hid ((Hss.out j hj).plus2 (tm_bd (Hsp.out j hjN) (Hsv.out j hjk)))
      have HS := Lib.hid (show shQ parts before (j + 1) = pl (shQ parts before j) (tm (gq parts j) (gq before j)) from rfl)
      obtain ⟨⟨B1, B2⟩, hB⟩ : ∃ x, x = gq before j := ⟨_, rfl⟩
      simp only [← hB] at CT CP HS v1 v2
      clear hB
      go_wp2
      go_upto_region 5 with (first | (refine wpList_allocT rfl 52 rfl _ _ Try.info_rt ?_) | (refine wpList_storeT rfl 52 _ _ rfl (rtA (B1, B2)) (rtA (0, 0)) wr.heap.size rfl rfl rfl (Try.size_rt _) (rt_same _ _) (rt_one _) ?_))
      generalize hW : World.alloc wr _ = ws
      have hK : RtAt ws wr.heap.size (B1, B2) := by rw [← hW]; exact RtAt.new wr (B1, B2)
      have hbs : Below wr.heap.size wr ws := by rw [← hW]; exact (Below.refl _ wr).alloc (Nat.le_refl _) _
      obtain ⟨K, hKe⟩ : ∃ K, K = wr.heap.size := ⟨_, rfl⟩
      have HA2 := Lib.hid (HA1.out.below hbs)
      have HG2 := Lib.hid (HG1.out.below hbs)
      have HB5 := Lib.hid (Hbr.out.trans (hbs.mono Hbr.out.size))
      have hKA : K ≠ A := by have := HA1.out.lt; omega
      have hRA : R ≠ A := by have := HRV.out.1; have := HAw.out; omega
      rw [← hKe] at hK ⊢
      have p1 := cell_below (HP.out j hjN).1 HB5.out
      have p2 := cell_below (HP.out j hjN).2 HB5.out
      have a0 := HA2.out.c0
      have a1 := HA2.out.c1
      have k0 := hK.c0
      have k1 := hK.c1
      have Ha := Lib.hid HA2.out
      clear hW hbs hKe v1 v2 Hbr HA1 HG1 hK
      obtain ⟨⟨P1, P2⟩, hP⟩ : ∃ x, x = gq parts j := ⟨_, rfl⟩
      obtain ⟨⟨S1, S2⟩, hS⟩ : ∃ x, x = shQ parts before j := ⟨_, rfl⟩
      simp only [← hP, ← hS] at CT CP HS p1 p2 a0 a1
      obtain ⟨⟨T1, T2⟩, hT⟩ : ∃ T, T = tm (P1, P2) (B1, B2) := ⟨_, rfl⟩
      simp only [← hT] at CT CP HS
      obtain ⟨⟨V1, V2⟩, hV⟩ : ∃ V, V = pl (S1, S2) (T1, T2) := ⟨_, rfl⟩
      simp only [← hV] at CP HS
      have KT : ∀ wx, Calls Try.prog 83 #[.agg #[.int .i64 (P1 : Int), .int .i64 (P2 : Int)], .agg #[.int .i64 (B1 : Int), .int .i64 (B2 : Int)]] wx fun e w' => e = .returned (.agg #[.int .i64 (T1 : Int), .int .i64 (T2 : Int)]) ∧ Below wx.heap.size wx w' := CT.out
      have KT := Lib.hid KT
      have KP : ∀ wx, Calls Try.prog 121 #[.agg #[.int .i64 (S1 : Int), .int .i64 (S2 : Int)], .agg #[.int .i64 (T1 : Int), .int .i64 (T2 : Int)]] wx fun e w' => e = .returned (.agg #[.int .i64 (V1 : Int), .int .i64 (V2 : Int)]) ∧ Below wx.heap.size wx w' := CP.out
      have KP := Lib.hid KP
      have hf1 : ∀ w'', Below ws.heap.size ws w'' → w''.cell? ⟨R, j * 2, none⟩ = some (.int .i64 (P1 : Int)) ∧ w''.cell? ⟨R, j * 2 + 1, none⟩ = some (.int .i64 (P2 : Int)) ∧ w''.cell? ⟨K, 0, none⟩ = some (.int .i64 (B1 : Int)) ∧ w''.cell? ⟨K, 1, none⟩ = some (.int .i64 (B2 : Int)) := fun w'' hb =>
        ⟨cell_below p1 hb, cell_below p2 hb, cell_below k0 hb, cell_below k1 hb⟩
      have hf2 : ∀ w'', Below ws.heap.size ws w'' → w''.cell? ⟨A, 0, none⟩ = some (.int .i64 (S1 : Int)) ∧ w''.cell? ⟨A, 1, none⟩ = some (.int .i64 (S2 : Int)) ∧ w''.frozen? ⟨A, 0, none⟩ = false ∧ w''.frozen? ⟨A, 1, none⟩ = false := fun w'' hb =>
        ⟨cell_below a0 hb, cell_below a1 hb, frozen_of_row w'' A 0 _ _ (Ha.out.below hb), frozen_of_row w'' A 1 _ _ (Ha.out.below hb)⟩
      have hf3 : ∀ w'', Below ws.heap.size ws w'' → ((w''.setCell ⟨A, 0, none⟩ (.int .i64 (V1 : Int))).setCell ⟨A, 1, none⟩ (.int .i64 (V2 : Int))).cell? ⟨R, j * 2, none⟩ = some (.int .i64 (P1 : Int)) ∧ ((w''.setCell ⟨A, 0, none⟩ (.int .i64 (V1 : Int))).setCell ⟨A, 1, none⟩ (.int .i64 (V2 : Int))).cell? ⟨R, j * 2 + 1, none⟩ = some (.int .i64 (P2 : Int)) ∧ ((w''.setCell ⟨A, 0, none⟩ (.int .i64 (V1 : Int))).setCell ⟨A, 1, none⟩ (.int .i64 (V2 : Int))).cell? ⟨K, 0, none⟩ = some (.int .i64 (B1 : Int)) ∧ ((w''.setCell ⟨A, 0, none⟩ (.int .i64 (V1 : Int))).setCell ⟨A, 1, none⟩ (.int .i64 (V2 : Int))).cell? ⟨K, 1, none⟩ = some (.int .i64 (B2 : Int)) := fun w'' hb => by
        obtain ⟨x0, x1, x2, x3⟩ := hf1 w'' hb
        have oth : ∀ (p q : Nat) (v : Value), w''.cell? ⟨p, q, none⟩ = some v → p ≠ A → ((w''.setCell ⟨A, 0, none⟩ (.int .i64 (V1 : Int))).setCell ⟨A, 1, none⟩ (.int .i64 (V2 : Int))).cell? ⟨p, q, none⟩ = some v := fun p q v hv hne => by
          rw [World.cell?_setCell_other _ _ _ _ (by intro e; simp only [Addr.mk.injEq, and_true] at e; omega), World.cell?_setCell_other _ _ _ _ (by intro e; simp only [Addr.mk.injEq, and_true] at e; omega)]
          exact hv
        exact ⟨oth _ _ _ x0 hRA, oth _ _ _ x1 hRA, oth _ _ _ x2 hKA, oth _ _ _ x3 hKA⟩
      have Hf1 := Lib.hid hf1
      have Hf2 := Lib.hid hf2
      have Hf3 := Lib.hid hf3
      have HBc := Lib.hid (show Below ws.heap.size ws ws.drew from below_drewN (Below.refl _ _) 1)
      clear CT CP p1 p2 a0 a1 k0 k1 Ha hP hS hT hV hKA hRA hf1 hf2 hf3
      have ⟨q0, q1, q2, q3⟩ := Hf2.out ws (Below.refl _ _)
      go_wp2
      refine wp_region_held_drew (S := fun w' => w'.cell? ⟨R, j * 2, none⟩ = some (.int .i64 (P1 : Int)) ∧ w'.cell? ⟨R, j * 2 + 1, none⟩ = some (.int .i64 (P2 : Int)) ∧ w'.cell? ⟨K, 0, none⟩ = some (.int .i64 (B1 : Int)) ∧ w'.cell? ⟨K, 1, none⟩ = some (.int .i64 (B2 : Int))) (by kernel_rfl) (Hf1.out _ HBc.out) (fun hHeld => ?_)
      refine wpAnyH_take (i := 1) (oi := ⟨some 17, _, _, _, _, _⟩) (v := .slice (some ⟨R, 0, none⟩) N N) rfl (by kernel_rfl) (by kernel_rfl) (by kernel_rfl) (fun _ _ _ h => h) (Or.inl ⟨by rfl, ?y1⟩) hHeld ?_
      case y1 => intro w hSw; (try dsimp only at hSw); go_simp
      simp only [Act.put, List.setIfInBounds_toArray, List.set_cons_zero, List.set_cons_succ]
      refine wpAnyH_take (i := 2) (oi := ⟨some 18, _, _, _, _, _⟩) (v := .int .i64 (j : Int)) rfl (by kernel_rfl) (by kernel_rfl) (by kernel_rfl) (fun _ _ _ h => h) (Or.inl ⟨by rfl, ?y1⟩) hHeld ?_
      case y1 => intro w hSw; (try dsimp only at hSw); go_simp
      simp only [Act.put, List.setIfInBounds_toArray, List.set_cons_zero, List.set_cons_succ]
      refine wpAnyH_take (i := 3) (oi := ⟨some 19, _, _, _, _, _⟩) (v := .pointer (some ⟨R, j * 2, none⟩)) rfl (by kernel_rfl) (by kernel_rfl) (by kernel_rfl) (fun _ _ _ h => h) (Or.inl ⟨by rfl, ?y1⟩) hHeld ?_
      case y1 => intro w hSw; (try dsimp only at hSw); go_simp
      simp only [Act.put, List.setIfInBounds_toArray, List.set_cons_zero, List.set_cons_succ]
      refine wpAnyH_take (i := 4) (oi := ⟨some 20, _, _, _, _, _⟩) (v := .agg #[.int .i64 (P1 : Int), .int .i64 (P2 : Int)]) rfl (by kernel_rfl) (by kernel_rfl) (by kernel_rfl) (fun _ _ _ h => h) (Or.inl ⟨by rfl, ?y1⟩) hHeld ?_
      case y1 => intro w hSw; (try dsimp only at hSw); go_simp
      simp only [Act.put, List.setIfInBounds_toArray, List.set_cons_zero, List.set_cons_succ]
      refine wpAnyH_take (i := 5) (oi := ⟨some 21, _, _, _, _, _⟩) (v := .agg #[.int .i64 (B1 : Int), .int .i64 (B2 : Int)]) rfl (by kernel_rfl) (by kernel_rfl) (by kernel_rfl) (fun _ _ _ h => h) (Or.inl ⟨by rfl, ?y1⟩) hHeld ?_
      case y1 => intro w hSw; (try dsimp only at hSw); go_simp
      simp only [Act.put, List.setIfInBounds_toArray, List.set_cons_zero, List.set_cons_succ]
      refine wpAnyH_ready (rs := [0, 6]) (by kernel_rfl) (by simp) (AllReadyH.cons (o := ⟨some 16, _, _, _, _, _⟩) rfl (fun KK hKK => ?_) (AllReadyH.cons (o := ⟨some 22, _, _, _, _, _⟩) rfl (fun KK hKK => ?_) AllReadyH.nil))
      · skip
        rw [if_pos (by rfl)]
        have Hheld := Lib.hid hHeld
        clear hHeld
        go_simp
        refine hKK.out _ _ Hheld.out (fun hHeld => ?_)
        clear Hheld hKK KK
        (try simp only [Act.put, List.setIfInBounds_toArray, List.set_cons_zero, List.set_cons_succ])
        refine wpAnyH_ready (rs := [6]) (by kernel_rfl) (by simp) (AllReadyH.cons (o := ⟨some 22, _, _, _, _, _⟩) rfl (fun KK hKK => ?_) AllReadyH.nil)
        rw [if_pos (by rfl)]
        have Hheld := Lib.hid hHeld
        clear hHeld
        go_wp2_with (go_at_call 83; refine (KT.out _).mono ?_; rintro e w6 ⟨rfl, hb6⟩; have HBd := Lib.hid (HBc.out.trans (hb6.mono HBc.out.size)); clear hb6 HBc; have HBc := HBd; clear HBd; obtain ⟨r0, r1, r2, r3⟩ := Hf2.out _ HBc.out)
        refine hKK.out _ _ (Hf1.out _ HBc.out) (fun hHeld => ?_)
        clear Hheld hKK KK
        (try simp only [Act.put, List.setIfInBounds_toArray, List.set_cons_zero, List.set_cons_succ])
        refine wpAnyH_ready (rs := [7]) (by kernel_rfl) (by simp) (AllReadyH.cons (o := ⟨some 23, _, _, _, _, _⟩) rfl (fun KK hKK => ?_) AllReadyH.nil)
        rw [if_pos (by rfl)]
        have Hheld := Lib.hid hHeld
        clear hHeld
        go_wp2_with (go_at_call 121; refine (KP.out _).mono ?_; rintro e w6 ⟨rfl, hb6⟩; have HBd := Lib.hid (HBc.out.trans (hb6.mono HBc.out.size)); clear hb6 HBc; have HBc := HBd; clear HBd; obtain ⟨r0, r1, r2, r3⟩ := Hf2.out _ HBc.out)
        refine hKK.out _ _ (Hf1.out _ HBc.out) (fun hHeld => ?_)
        clear Hheld hKK KK
        (try simp only [Act.put, List.setIfInBounds_toArray, List.set_cons_zero, List.set_cons_succ])
        refine wpAnyH_ready (rs := [8]) (by kernel_rfl) (by simp) (AllReadyH.cons (o := ⟨none, _, _, _, _, _⟩) rfl (fun KK hKK => ?_) AllReadyH.nil)
        rw [if_pos (by rfl)]
        clear hHeld
        go_simp
        refine hKK.out _ _ (Hf3.out _ HBc.out) (fun hHeld => ?_)
        clear hHeld hKK KK
        (try simp only [Act.put, List.setIfInBounds_toArray, List.set_cons_zero, List.set_cons_succ])
        refine wpAnyH_done (by kernel_rfl) ?_ _
        have HAn := Lib.hid ((HA2.out.below HBc.out).put V1 V2)
        have HGn := Lib.hid ((HG2.out.below HBc.out).putOther HGA.out (.int .i64 (V1 : Int)) (.int .i64 (V2 : Int)))
        have HBn := Lib.hid (((HB5.out.trans (HBc.out.mono HB5.out.size)).setCell (p := ⟨A, 0, none⟩) HAw.out (.int .i64 (V1 : Int))).setCell (p := ⟨A, 1, none⟩) HAw.out (.int .i64 (V2 : Int)))
        clear KT KP Hf1 Hf2 Hf3 HBc
        go_wp2
        go_roundw
        case rel => exact ⟨j + 1, by omega, by go_num, by rw [HS.out]; exact HAn.out, HGn.out, HBn.out⟩
        case measure => simp [intOf]; omega
      · skip
        rw [if_pos (by rfl)]
        have Hheld := Lib.hid hHeld
        clear hHeld
        go_wp2_with (go_at_call 83; refine (KT.out _).mono ?_; rintro e w6 ⟨rfl, hb6⟩; have HBd := Lib.hid (HBc.out.trans (hb6.mono HBc.out.size)); clear hb6 HBc; have HBc := HBd; clear HBd; obtain ⟨r0, r1, r2, r3⟩ := Hf2.out _ HBc.out)
        refine hKK.out _ _ (Hf1.out _ HBc.out) (fun hHeld => ?_)
        clear Hheld hKK KK
        (try simp only [Act.put, List.setIfInBounds_toArray, List.set_cons_zero, List.set_cons_succ])
        refine wpAnyH_ready (rs := [0]) (by kernel_rfl) (by simp) (AllReadyH.cons (o := ⟨some 16, _, _, _, _, _⟩) rfl (fun KK hKK => ?_) AllReadyH.nil)
        rw [if_pos (by rfl)]
        have Hheld := Lib.hid hHeld
        clear hHeld
        go_simp
        refine hKK.out _ _ Hheld.out (fun hHeld => ?_)
        clear Hheld hKK KK
        (try simp only [Act.put, List.setIfInBounds_toArray, List.set_cons_zero, List.set_cons_succ])
        refine wpAnyH_ready (rs := [7]) (by kernel_rfl) (by simp) (AllReadyH.cons (o := ⟨some 23, _, _, _, _, _⟩) rfl (fun KK hKK => ?_) AllReadyH.nil)
        rw [if_pos (by rfl)]
        have Hheld := Lib.hid hHeld
        clear hHeld
        go_wp2_with (go_at_call 121; refine (KP.out _).mono ?_; rintro e w6 ⟨rfl, hb6⟩; have HBd := Lib.hid (HBc.out.trans (hb6.mono HBc.out.size)); clear hb6 HBc; have HBc := HBd; clear HBd; obtain ⟨r0, r1, r2, r3⟩ := Hf2.out _ HBc.out)
        refine hKK.out _ _ (Hf1.out _ HBc.out) (fun hHeld => ?_)
        clear Hheld hKK KK
        (try simp only [Act.put, List.setIfInBounds_toArray, List.set_cons_zero, List.set_cons_succ])
        refine wpAnyH_ready (rs := [8]) (by kernel_rfl) (by simp) (AllReadyH.cons (o := ⟨none, _, _, _, _, _⟩) rfl (fun KK hKK => ?_) AllReadyH.nil)
        rw [if_pos (by rfl)]
        clear hHeld
        go_simp
        refine hKK.out _ _ (Hf3.out _ HBc.out) (fun hHeld => ?_)
        clear hHeld hKK KK
        (try simp only [Act.put, List.setIfInBounds_toArray, List.set_cons_zero, List.set_cons_succ])
        refine wpAnyH_done (by kernel_rfl) ?_ _
        have HAn := Lib.hid ((HA2.out.below HBc.out).put V1 V2)
        have HGn := Lib.hid ((HG2.out.below HBc.out).putOther HGA.out (.int .i64 (V1 : Int)) (.int .i64 (V2 : Int)))
        have HBn := Lib.hid (((HB5.out.trans (HBc.out.mono HB5.out.size)).setCell (p := ⟨A, 0, none⟩) HAw.out (.int .i64 (V1 : Int))).setCell (p := ⟨A, 1, none⟩) HAw.out (.int .i64 (V2 : Int)))
        clear KT KP Hf1 Hf2 Hf3 HBc
        go_wp2
        go_roundw
        case rel => exact ⟨j + 1, by omega, by go_num, by rw [HS.out]; exact HAn.out, HGn.out, HBn.out⟩
        case measure => simp [intOf]; omega
    · obtain rfl : j = k := by omega
      have a0 := HA1.out.c0
      have a1 := HA1.out.c1
      obtain ⟨⟨S1, S2⟩, hS⟩ : ∃ x, x = shQ parts before j := ⟨_, rfl⟩
      rw [← hS] at a0 a1
      have HS := Lib.hid hS
      clear hS
      go_wp2_with (refine wpList_storeG rfl 52 _ _ rfl _ (rtA (S1, S2)) _ rfl rfl HG1.out (Try.size_rt _) (rt_same _ _) (rt_one _) ?_)
      have HR2 := Lib.hid (HG1.out.setRow (S1, S2))
      have HB3 := Lib.hid (below_setRowT Hbr.out HGw.out (rtA (S1, S2)))
      refine bodyPost_ret (v := .agg (rtA (S1, S2))) ?_ rfl ⟨by rw [← HS.out], HB3.out⟩
      exact results_cell_one rfl _ _ G _ rfl (Try.load_rt HR2.out)
end Go.Proofs.Ytgdijjfipicodaa

namespace Go.Proofs.Ytgdijjfipicodaa
open Go.RowKit

theorem tabQ_at {N : Nat} {f : Nat → Nat → Nat × Nat} {r c : Nat} (hr : r < N) (hc : c < N) : gq (gqr (tabQ N f) r) c = f r c := by
  simp [gq, gqr, tabQ, List.getD_eq_getElem?_getD, hr, hc]
theorem elimQ_ok {N : Nat} {m : List (List (Nat × Nat))} : ∀ K : Nat, (elimQ N m K).2 = true → ∀ i, i < K → okT N (elimQ N m i).1 = true ∧ okL (elimQ N m i).1 (N - 1 - i) = true
  | 0, _, i, hi => absurd hi (Nat.not_lt_zero _)
  | K + 1, h, i, hi => by
    have h2 : ((elimQ N m K).2 && okT N (elimQ N m K).1 && okL (elimQ N m K).1 (N - 1 - K)) = true := h
    rw [Bool.and_eq_true, Bool.and_eq_true] at h2
    by_cases e : i = K
    · rw [e]; exact ⟨h2.1.2, h2.2⟩
    · exact elimQ_ok K h2.1.1 i (by omega)
/-- every table on the way is small -/
theorem elimQ_okT {N K : Nat} {m : List (List (Nat × Nat))} (h : (elimQ N m K).2 = true) (hK : okT N (elimQ N m K).1 = true) {i : Nat} (hi : i ≤ K) : okT N (elimQ N m i).1 = true := by
  by_cases e : i = K
  · rw [e]; exact hK
  · exact (elimQ_ok K h i (by omega)).1
theorem elimQ_succ (N : Nat) (m : List (List (Nat × Nat))) (i : Nat) : (elimQ N m (i + 1)).1 = tkQ N (elimQ N m i).1 (N - 1 - i) := rfl
theorem partQ_ok {N i : Nat} {m : List (List (Nat × Nat))} (hi : i + 1 < N) (h : okT N (elimQ N m (i + 1)).1 = true) {c : Nat} (hc : c < N - 1 - i) : SmQ (partQ (elimQ N m i).1 (N - 1 - i) c) := by
  have h2 := okT_is h (r := N - 1 - i) (c := c) (by omega) (by omega)
  rw [elimQ_succ] at h2
  unfold tkQ at h2
  rw [tabQ_at (by omega) (by omega)] at h2
  unfold tkF at h2
  rw [if_neg (by omega), if_pos (by omega)] at h2
  exact h2

/-- one step of the elimination -/
theorem takeOut_step (m : List (List (Nat × Nat))) (B g N K i : Nat) (rw' : Nat → Nat) (w : World) (hN : N ≤ 14) (hK : K = N - 1) (hi : i < K) (h : (elimQ N m K).2 = true) (hf : okT N (elimQ N m K).1 = true)
    (ht : Tq w B g N N rw' (fun r c => gq (gqr (elimQ N m i).1 r) c)) :
    Calls Try.prog 101 #[.slice (some ⟨g, 0, none⟩) N N, .int .i64 ((N - 1 - i : Nat) : Int)] w fun e w' => e = .returned (.tuple #[]) ∧ Tq w' B g N N rw' (fun r c => gq (gqr (elimQ N m (i + 1)).1 r) c) ∧ Below B w w' := by
  obtain ⟨h1, h2⟩ := elimQ_ok K h i hi
  refine (takeOut_any (elimQ N m i).1 B g N (N - 1 - i) rw' w hN (by omega) (by omega) h1 h2 (fun c hc => partQ_ok (by omega) (elimQ_okT h hf (by omega)) hc) ht).mono ?_
  rintro e w' ⟨rfl, ht', hb⟩
  refine ⟨rfl, ht'.congr fun r c hr hc => ?_, hb⟩
  rw [elimQ_succ]
  unfold tkQ
  rw [tabQ_at hr hc]

/-- the parts and the ratios before, small -/
theorem vecQ_ok {m : List (List (Nat × Nat))} : ∀ K : Nat, (vecQ m K).2 = true → ∀ k, k < K → ∀ j, j ≤ k + 1 → SmQ (shQ (gqr m (k + 1)) (vecQ m k).1 j)
  | 0, _, k, hk => absurd hk (Nat.not_lt_zero _)
  | K + 1, h, k, hk => by
    have h2 : ((vecQ m K).2 && ((List.range (K + 2)).all fun j => okQ (shQ (gqr m (K + 1)) (vecQ m K).1 j))) = true := h
    rw [Bool.and_eq_true, List.all_eq_true] at h2
    by_cases e : k = K
    · rw [e]; exact fun j hj => okQ_is (h2.2 j (by simp; omega))
    · exact vecQ_ok K h2.1 k (by omega)
theorem vecQ_len (m : List (List (Nat × Nat))) : ∀ K : Nat, (vecQ m K).1.length = K + 1
  | 0 => rfl
  | K + 1 => by
    show ((vecQ m K).1 ++ [shQ (gqr m (K + 1)) (vecQ m K).1 (K + 1)]).length = _
    rw [List.length_append, vecQ_len m K]
    rfl
/-- every ratio of the vector is small -/
theorem vecQ_small {m : List (List (Nat × Nat))} : ∀ K : Nat, (vecQ m K).2 = true → ∀ j, j < K + 1 → SmQ (gq (vecQ m K).1 j)
  | 0, _, j, hj => by
    obtain rfl : j = 0 := by omega
    exact (show SmQ (1, 1) from ⟨by decide, by decide, by decide⟩)
  | K + 1, h, j, hj => by
    have h2 : ((vecQ m K).2 && ((List.range (K + 2)).all fun j => okQ (shQ (gqr m (K + 1)) (vecQ m K).1 j))) = true := h
    rw [Bool.and_eq_true] at h2
    have hl := vecQ_len m K
    show SmQ (gq ((vecQ m K).1 ++ [shQ (gqr m (K + 1)) (vecQ m K).1 (K + 1)]) j)
    by_cases e : j < K + 1
    · have := vecQ_small K h2.1 j e
      unfold gq at this ⊢
      rw [List.getD_eq_getElem?_getD, List.getElem?_append_left (by omega), ← List.getD_eq_getElem?_getD]
      exact this
    · obtain rfl : j = K + 1 := by omega
      have := vecQ_ok (K + 1) h K (by omega) (K + 1) (Nat.le_refl _)
      unfold gq
      rw [List.getD_eq_getElem?_getD, List.getElem?_append_right (by omega), hl, Nat.sub_self]
      exact this
end Go.Proofs.Ytgdijjfipicodaa

namespace Go.Proofs.Ytgdijjfipicodaa
open Go.RowKit

def rrow (c : Nat × Nat) : List Value := [.int .i64 (c.1 : Int), .int .i64 (c.2 : Int)]
/-- a slice of ratios that the call owns from block B on -/
def OwnQ (w : World) (B : Nat) (v : Value) (cs : List (Nat × Nat)) : Prop := w.ownsRow B 52 2 v cs.length (cs.flatMap rrow)
theorem OwnQ.lt {w : World} {B : Nat} {v : Value} {cs : List (Nat × Nat)} (h : OwnQ w B v cs) : ∀ k, v.ownBlock = some k → B ≤ k ∧ k < w.heap.size := World.ownsRow.lt h
theorem OwnQ.below {w w' : World} {B : Nat} {v : Value} {cs : List (Nat × Nat)} (h : OwnQ w B v cs) (hb : Below w.heap.size w w') : OwnQ w' B v cs := by
  refine ⟨h.1, ?_⟩
  rcases h.2 with h0 | ⟨g, cap, cur, hv, hg, hh, r⟩
  · exact .inl h0
  · exact .inr ⟨g, cap, cur, hv, hg, by rw [hb.block g (lt_of_block hh)]; exact hh, r⟩
theorem OwnQ.snoc {w w1 : World} {B : Nat} {v v' : Value} {cs : List (Nat × Nat)} {c : Nat × Nat} {o : Obj} (h : OwnQ w B v cs) (hB : B ≤ w.heap.size)
    (h1 : w1.ownsRow B 52 2 v' (cs.length + 1) (cs.flatMap rrow ++ rrow c)) (hg : (w.alloc o).grownBy w1 v.ownBlock) : OwnQ w1 B v' (cs ++ [c]) ∧ Below B w w1 := by
  refine ⟨?_, Below.grown ((Below.refl B w).alloc hB o) hg (by simp; omega) (fun k hk => (h.lt k hk).1)⟩
  unfold OwnQ
  rw [List.length_append, List.flatMap_append]
  simpa using h1
theorem OwnQ.one (w : World) (c : Nat × Nat) : OwnQ (w.alloc (.cells (rtA c) 52)) w.heap.size (.slice (some ⟨w.heap.size, 0, none⟩) 1 1) [c] :=
  ⟨rfl, .inr ⟨w.heap.size, 1, rtA c, rfl, Nat.le_refl _, heap_alloc_new w _, Nat.le_refl _, by decide, rfl, rfl⟩⟩
theorem rrow_get : ∀ (cs : List (Nat × Nat)) (k : Nat), k < cs.length → (cs.flatMap rrow)[k * 2]? = some (.int .i64 ((gq cs k).1 : Int)) ∧ (cs.flatMap rrow)[k * 2 + 1]? = some (.int .i64 ((gq cs k).2 : Int))
  | c :: cs, 0, _ => by simp [rrow, gq]
  | c :: cs, k + 1, hk => by
    have h := rrow_get cs k (by simpa using hk)
    rw [List.flatMap_cons]
    simp only [rrow, List.cons_append, List.nil_append, show (k + 1) * 2 = k * 2 + 1 + 1 from by omega, List.getElem?_cons_succ, gq, List.getD_cons_succ]
    exact h
theorem OwnQ.read {w : World} {B : Nat} {v : Value} {cs : List (Nat × Nat)} (h : OwnQ w B v cs) (h0 : 0 < cs.length) : ∃ V cap, v = .slice (some ⟨V, 0, none⟩) cs.length cap ∧ cs.length ≤ cap ∧ cap ≤ 9223372036854775807 ∧ V < w.heap.size ∧
    ∀ j, j < cs.length → w.cell? ⟨V, j * 2, none⟩ = some (.int .i64 ((gq cs j).1 : Int)) ∧ w.cell? ⟨V, j * 2 + 1, none⟩ = some (.int .i64 ((gq cs j).2 : Int)) := by
  rcases h.2 with ⟨rfl, h0'⟩ | ⟨g, cap, cur, rfl, hg, hh, hn, hm, hs, ht⟩
  · omega
  · refine ⟨g, cap, rfl, hn, by unfold maxLen at hm; omega, lt_of_block hh, fun j hj => ⟨?_, ?_⟩⟩
    · rw [World.ownsRow.cellAt h _ (by omega)]; exact (rrow_get cs j hj).1
    · rw [World.ownsRow.cellAt h _ (by omega)]; exact (rrow_get cs j hj).2
theorem two_newQ {w : World} {x y : Value} {e : TypeId} : ∀ (j : Nat) (u : Value), [x, y][j]? = some u → (w.alloc (.cells #[x, y] e)).cell? ((⟨w.heap.size, 0, none⟩ : Addr).add j) = some u := by
  intro j u h
  have hj2 : j < 2 := (List.getElem?_eq_some_iff.1 h).1
  rcases j with _ | j
  · show (w.alloc _).cell? ⟨w.heap.size, 0, none⟩ = _
    rw [cell_of_row _ _ 0 _ _ _ (heap_alloc_new w _)]
    exact h
  · obtain rfl : j = 0 := by omega
    show (w.alloc _).cell? ⟨w.heap.size, 1, none⟩ = _
    rw [cell_of_row _ _ 1 _ _ _ (heap_alloc_new w _)]
    exact h

theorem vecQ_pre {m : List (List (Nat × Nat))} : ∀ K : Nat, (vecQ m K).2 = true → ∀ j, j ≤ K → (vecQ m j).2 = true
  | 0, h, j, hj => by obtain rfl : j = 0 := by omega
                      exact h
  | K + 1, h, j, hj => by
    have h2 : ((vecQ m K).2 && ((List.range (K + 2)).all fun j => okQ (shQ (gqr m (K + 1)) (vecQ m K).1 j))) = true := h
    rw [Bool.and_eq_true] at h2
    by_cases e : j = K + 1
    · rw [e]; exact h
    · exact vecQ_pre K h2.1 j (by omega)

set_option maxRecDepth 100000 in
set_option maxHeartbeats 1600000 in
theorem fixedBy_any (v : Value) (l : List (List Int)) (k N K : Nat) (m : List (List (Nat × Nat))) (w : World) (hN : N = l.length) (hl : N ≤ 14) (hl1 : 1 ≤ N) (hk : 1 ≤ k) (hk8 : k ≤ 8) (ht : TotAt w v l k) (hK : K = N - 1) (hm : m = tabQ N (sumQ l k))
    (h1 : (elimQ N m K).2 = true) (h2 : okT N (elimQ N m K).1 = true) (h3 : (vecQ (elimQ N m K).1 K).2 = true) :
    Calls Try.prog 70 #[.iface 78 v] w fun e w' => ∃ V cap, e = .returned (.slice (some ⟨V, 0, none⟩) N cap) ∧ V < w'.heap.size ∧ (∀ j, j < N → w'.cell? ⟨V, j * 2, none⟩ = some (.int .i64 ((gq (vecQ (elimQ N m K).1 K).1 j).1 : Int)) ∧ w'.cell? ⟨V, j * 2 + 1, none⟩ = some (.int .i64 ((gq (vecQ (elimQ N m K).1 K).1 j).2 : Int))) ∧ Below w.heap.size w w' := by
  obtain ⟨c0, hc, hz0, hz1, hz2⟩ := info_parts Try.infob_rt
  have CS := Lib.hid (show ∀ w1, Below w.heap.size w w1 → Calls Try.prog 157 #[v] w1 fun e w2 => e = .returned (.int .i64 (N : Int)) ∧ w2 = w1 from fun w1 hb => by rw [hN]; exact ttSize_any v l k w1 (by omega) hk hk8 (ht.below hb))
  have CR := Lib.hid (show ∀ w1, Below w.heap.size w w1 → w1.cell? ⟨w.heap.size, 0, none⟩ = some (.iface 78 v) → Calls Try.prog 99 #[.int .i64 (N : Int), .func (.func 100) #[] #[.pointer (some ⟨w.heap.size, 0, none⟩)]] w1 fun e w' => ∃ g rw', e = .returned (.slice (some ⟨g, 0, none⟩) N N) ∧ Tq w' w1.heap.size g N N rw' (sumQ l k) ∧ Below w1.heap.size w1 w' from fun w1 hb hcl => by rw [hN]; exact ratioTable_any v l k w.heap.size w1 (by omega) (by omega) hk8 (ht.below hb) hcl)
  obtain ⟨pg, pc, rfl, _⟩ := (id ht)
  have hmt := fun w' => method_tt_size (some ⟨pg, 0, none⟩) k pc w'
  have hna := fun w' => ahead_tt_size (some ⟨pg, 0, none⟩) k pc w'
  have Hm := Lib.hid hm
  have H1 := Lib.hid h1
  have H2 := Lib.hid h2
  have H3 := Lib.hid h3
  have HK := Lib.hid hK
  have hKm : K ≤ 13 := by omega
  clear hN hm h1 h2 h3 ht hK hk hk8
  go_enter Try.func70, Try.ntmps70
  go_upto_region 1 with fail
  generalize hW : World.alloc w _ = w1
  have hcl : w1.cell? ⟨w.heap.size, 0, none⟩ = some (.iface 78 (.slice (some ⟨pg, 0, none⟩) k pc)) := by rw [← hW, cell_of_row _ _ 0 _ _ _ (heap_alloc_new w _)]; rfl
  have hb1 : Below w.heap.size w w1 := by rw [← hW]; exact (Below.refl _ w).alloc (Nat.le_refl _) _
  have hHB : w.heap.size < w1.heap.size := by rw [← hW]; simp
  have Hcl := Lib.hid hcl
  have HB1 := Lib.hid hb1
  have HHB := Lib.hid hHB
  clear hW hb1 hHB
  go_wp2_with fail
  refine (CS.out w1 HB1.out).mono ?_
  rintro e w2 ⟨rfl, rfl⟩
  go_wp2_with fail
  refine (CR.out w2 HB1.out Hcl.out).mono ?_
  rintro e w3 ⟨g, rw', rfl, hT, hb3⟩
  have HT := Lib.hid (show Tq w3 w2.heap.size g N N rw' (fun r c => gq (gqr (elimQ N m 0).1 r) c) from hT.congr fun r c hr hc => by
    show gq (gqr m r) c = _
    rw [Hm.out]
    exact tabQ_at hr hc)
  have HB3 := Lib.hid hb3
  have hc3 := cell_below Hcl.out hb3
  have Hc3 := Lib.hid hc3
  clear hT hb3 hcl
  go_wp2_with fail
  refine (CS.out w3 (HB1.out.trans (HB3.out.mono (Nat.le_of_lt HHB.out)))).mono ?_
  rintro e w4 ⟨rfl, rfl⟩
  have hsub : (N : Int) - 1 = ((N - 1 : Nat) : Int) := by omega
  have hws : IntKind.i64.wrap (((N - 1 : Nat) : Int)) = ((N - 1 : Nat) : Int) := w64 (by omega)
  go_wp2
  clear hc3
  go_loopw [4] (fun x wr => ∃ i : Nat, i ≤ K ∧ x = .int .i64 ((K - i : Nat) : Int) ∧ Tq wr w2.heap.size g N N rw' (fun r c => gq (gqr (elimQ N m i).1 r) c) ∧ Below w2.heap.size w2 wr) (fun x _ => (intOf x).toNat)
  case atStart => exact ⟨0, Nat.zero_le _, by rw [Nat.sub_zero, HK.out], HT.out, HB3.out⟩
  case round =>
    obtain ⟨i, hi, rfl, hti, hbi⟩ := hrel
    have Hti := Lib.hid hti
    have Hbi := Lib.hid hbi
    clear hti hbi HT HB3
    by_cases hiK : i < K
    · have CT := takeOut_step m w2.heap.size g N K i rw' wr hl HK.out hiK H1.out H2.out Hti.out
      obtain ⟨a, ha⟩ : ∃ a, a = K - i := ⟨_, rfl⟩
      rw [show N - 1 - i = a from by rw [ha, HK.out]] at CT
      rw [← ha]
      have Ha := Lib.hid ha
      have ha1 : 1 ≤ a := by omega
      have ha13 : a ≤ 13 := by omega
      have CT := Lib.hid CT
      clear ha
      go_wp2_with fail
      refine CT.out.mono ?_
      rintro e w6 ⟨rfl, ht6, hb6⟩
      have Ht6 := Lib.hid ht6
      have Hb6 := Lib.hid (Hbi.out.trans hb6)
      clear ht6 hb6 CT
      go_wp2
      go_roundw
      case rel => exact ⟨i + 1, hiK, by rw [show K - (i + 1) = a - 1 from by have := Ha.out; omega]; go_num, Ht6.out, Hb6.out⟩
      case measure => simp [intOf]; omega
    · obtain rfl : i = K := by omega
      rw [Nat.sub_self]
      go_wp2_with fail
      refine (whole_any 1 wr).mono ?_
      rintro e w6 ⟨rfl, hb6⟩
      have Ht6 := Lib.hid (Hti.out.below hb6)
      have HZr := Lib.hid Hbi.out.size
      have Hb6 := Lib.hid (Hbi.out.trans (hb6.mono HZr.out))
      clear hb6 Hti Hbi
      go_upto_region 7 with fail
      generalize hW : World.alloc w6 _ = w7
      have hq : OwnQ w7 w6.heap.size (.slice (some ⟨w6.heap.size, 0, none⟩) 1 1) (vecQ (elimQ N m i).1 0).1 := by rw [← hW]; exact OwnQ.one w6 (1, 1)
      have hb7 : Below w6.heap.size w6 w7 := by rw [← hW]; exact (Below.refl _ w6).alloc (Nat.le_refl _) _
      have Hq := Lib.hid hq
      have Ht7 := Lib.hid (Ht6.out.below hb7)
      have HZ6 := Lib.hid Hb6.out.size
      have HL6 := Lib.hid (show w.heap.size ≤ w6.heap.size by have := HHB.out; have := HZ6.out; omega)
      have Hb7 := Lib.hid (Hb6.out.trans (hb7.mono HZ6.out))
      have HBw := Lib.hid (HB1.out.trans (Hb7.out.mono (Nat.le_of_lt HHB.out)))
      have Hc7 := Lib.hid (cell_below Hcl.out Hb7.out)
      have Hz7 := Lib.hid hb7.size
      obtain ⟨Bq, hBq⟩ : ∃ Bq, Bq = w6.heap.size := ⟨_, rfl⟩
      have HHq := Lib.hid (show w.heap.size < Bq by have := HHB.out; have := HZ6.out; omega)
      have Hlt := Lib.hid (show (∀ r, r < N → rw' r < Bq) ∧ g < Bq from ⟨fun r hr => by rw [hBq]; exact (Ht6.out.base r hr).2.2, by rw [hBq]; exact Ht6.out.lt.2⟩)
      rw [← hBq] at Hq Hz7 ⊢
      clear hW hq hb7 hBq Ht6 Hb6 HZ6 HL6
      go_wp2
      go_loopw [5, 6] (fun list x ws => ∃ j : Nat, j ≤ i ∧ x = .int .i64 ((j + 1 : Nat) : Int) ∧ OwnQ ws Bq list (vecQ (elimQ N m i).1 j).1 ∧ Below Bq w7 ws) (fun _ x _ => N - (intOf x).toNat)
      case atStart => exact ⟨0, Nat.zero_le _, rfl, Hq.out, Below.refl _ _⟩
      case round =>
        rename World => ws
        obtain ⟨j, hj, rfl, hqj, hbj⟩ := hrel
        have Hqj := Lib.hid hqj
        have Hbj := Lib.hid hbj
        have hbw7 : Below w.heap.size w ws := HBw.out.trans (hbj.mono (Nat.le_of_lt HHq.out))
        have hcs : ws.cell? ⟨w.heap.size, 0, none⟩ = some (.iface 78 (.slice (some ⟨pg, 0, none⟩) k pc)) := by
          rw [hbj.cell HHq.out]
          exact Hc7.out
        have CS2 := Lib.hid (CS.out ws hbw7)
        have HBws := Lib.hid hbw7
        have hlen := vecQ_len (elimQ N m i).1 j
        obtain ⟨V, cap, rfl, hc1, hc2, hVl, hcells⟩ := hqj.read (by rw [hlen]; omega)
        have HS := Lib.hid (show (vecQ (elimQ N m i).1 (j + 1)).1 = (vecQ (elimQ N m i).1 j).1 ++ [shQ (gqr (elimQ N m i).1 (j + 1)) (vecQ (elimQ N m i).1 j).1 (j + 1)] from rfl)
        have hKN := HK.out
        by_cases hji : j < i
        · have hsv := vecQ_small (m := (elimQ N m i).1) j (vecQ_pre i H3.out j hj)
          have hss := vecQ_ok (m := (elimQ N m i).1) i H3.out j hji
          have hd := Ht7.out.top (j + 1) (by omega)
          have hp : ∀ c, c < N → ws.cell? ⟨rw' (j + 1), c * 2, none⟩ = some (.int .i64 ((gq (gqr (elimQ N m i).1 (j + 1)) c).1 : Int)) ∧ ws.cell? ⟨rw' (j + 1), c * 2 + 1, none⟩ = some (.int .i64 ((gq (gqr (elimQ N m i).1 (j + 1)) c).2 : Int)) := fun c hcN => by
            rw [hbj.cell (Hlt.out.1 (j + 1) (by omega)), hbj.cell (Hlt.out.1 (j + 1) (by omega))]
            exact ⟨Ht7.out.num (j + 1) c (by omega) hcN, Ht7.out.den (j + 1) c (by omega) hcN⟩
          rw [← hbj.cell (p := ⟨g, j + 1, none⟩) Hlt.out.2] at hd
          have hRl : rw' (j + 1) < ws.heap.size := by have := Hlt.out.1 (j + 1) (by omega); have := hbj.size; have := Hz7.out; omega
          have hsp : ∀ c, c < N → SmQ (gq (gqr (elimQ N m i).1 (j + 1)) c) := fun c hcN => okT_is H2.out (by omega) hcN
          obtain ⟨t, ht⟩ : ∃ t, t = j + 1 := ⟨_, rfl⟩
          obtain ⟨R, hR⟩ : ∃ R, R = rw' (j + 1) := ⟨_, rfl⟩
          rw [← hR] at hd hp hRl
          rw [← ht] at hlen hsv hss hd hp hsp HS ⊢
          have htN : t < N := by omega
          have Ht := Lib.hid ht
          have CO := sharedOut_any (gqr (elimQ N m i).1 t) (vecQ (elimQ N m i).1 j).1 R N V t cap ws hl (by omega) hRl hVl hp (fun c hcN => hcells c (by rw [hlen]; exact hcN)) hsp hsv hss
          have Hqj := Lib.hid (show OwnQ ws Bq (.slice (some ⟨V, 0, none⟩) t cap) (vecQ (elimQ N m i).1 j).1 by rw [hlen] at Hqj; exact Hqj.out)
          rw [hlen] at hc1 ⊢
          obtain ⟨qs, hqs⟩ : ∃ qs, qs = (vecQ (elimQ N m i).1 j).1 := ⟨_, rfl⟩
          obtain ⟨⟨z1, z2⟩, hz⟩ : ∃ z, z = shQ (gqr (elimQ N m i).1 t) (vecQ (elimQ N m i).1 j).1 t := ⟨_, rfl⟩
          rw [← hz] at CO HS
          rw [← hqs] at HS Hqj hlen
          have CO := Lib.hid CO
          have Hlen := Lib.hid hlen
          have HZs := Lib.hid (show Bq ≤ ws.heap.size by have := hbj.size; have := Hz7.out; omega)
          have ht14 : t ≤ 14 := by omega
          clear ht hR hqs hz hsv hss hp hRl hsp hlen hVl hcells hqj hbj hbw7 Hq hKN hj
          go_wp2_with fail
          refine CS2.out.mono ?_
          rintro e w8 ⟨rfl, rfl⟩
          go_wp2_with fail
          refine CO.out.mono ?_
          rintro e w9 ⟨rfl, hb9⟩
          have Hq9 := Lib.hid (Hqj.out.below hb9)
          have HZ9 := Lib.hid (Nat.le_trans HZs.out hb9.size)
          have Hb9 := Lib.hid (Hbj.out.trans (hb9.mono HZs.out))
          clear hb9 CO Hqj Hbj hcs hd
          go_wp2_with (at_builtin; refine wpList_append_own _ rfl _ _ 54 rfl Bq 52 c0 (.agg (rtA (0, 0))) 2 16 Try.underlying54 hc hz0 hz1 hz2 rfl (by decide) _ _ _ rfl (World.ownsRow.alloc Hq9.out _) ⟨w9.heap.size, 0, none⟩ 1 1 (rrow (z1, z2)) rfl rfl ?c1 ?c2 ?c3 ?c4 ?c5 ?_)
          case c1 => exact two_newQ
          case c2 => intro u hu; simp [rrow] at hu; rcases hu with rfl | rfl <;> rfl
          case c3 => have := Hlen.out; unfold maxLen; omega
          case c4 => have := Hlen.out; omega
          case c5 => have := HZ9.out; simp; omega
          intro v' w10 hown' hgrow _
          have Hput := Lib.hid (Hq9.out.snoc (c := (z1, z2)) HZ9.out hown' hgrow)
          clear hown' hgrow
          go_wp2
          go_roundw
          case rel => exact ⟨j + 1, by omega, by have := Ht.out; go_num, by rw [← Ht.out, HS.out]; exact Hput.out.1, Hb9.out.trans Hput.out.2⟩
          case measure => simp [intOf]; omega
        · obtain rfl : j = i := by omega
          rw [hlen] at hcells ⊢
          have hjN : j + 1 = N := by omega
          rw [hjN] at hcells ⊢
          have Hres := Lib.hid (And.intro hVl hcells)
          clear hVl hcells hqj hbj hbw7 Hq hlen hc1 hc2 hKN hjN hj
          go_wp2_with fail
          refine CS2.out.mono ?_
          rintro e w8 ⟨rfl, rfl⟩
          go_wp2
          go_ret
          exact ⟨V, cap, rfl, Hres.out.1, Hres.out.2, HBws.out⟩
end Go.Proofs.Ytgdijjfipicodaa

namespace Go.Proofs.Ytgdijjfipicodaa
open Go.RowKit

/-- a whole number of the answer -/
def wholeAt (v : List (Nat × Nat)) (i : Nat) : Int := ((mulQ v v.length / (gq v i).2 * (gq v i).1 : Nat) : Int)
theorem wholeQ_is {v : List (Nat × Nat)} {xs : List Int} (hl : xs.length = v.length) (h : ∀ a, a < v.length → gi xs a = wholeAt v a) : xs = wholeQ v := by
  refine ext_gi (by rw [hl]; simp [wholeQ]) fun i hi => ?_
  rw [hl] at hi
  rw [h i hi]
  simp [wholeQ, wholeAt, gi, gq, List.getD_eq_getElem?_getD, hi]

set_option maxRecDepth 100000 in
set_option maxHeartbeats 1600000 in
theorem leastWhole_any (v : List (Nat × Nat)) (V cap : Nat) (w : World) (hl : v.length ≤ 14) (hVl : V < w.heap.size)
    (hv : ∀ j, j < v.length → w.cell? ⟨V, j * 2, none⟩ = some (.int .i64 ((gq v j).1 : Int)) ∧ w.cell? ⟨V, j * 2 + 1, none⟩ = some (.int .i64 ((gq v j).2 : Int)))
    (hs : ∀ j, j < v.length → SmQ (gq v j)) (hm : ∀ j, j ≤ v.length → mulQ v j ≤ 1000000) :
    Calls Try.prog 69 #[.slice (some ⟨V, 0, none⟩) v.length cap] w fun e w' => ∃ x, e = .returned x ∧ OwnI w' w.heap.size x (wholeQ v) ∧ Below w.heap.size w w' := by
  obtain ⟨i0, hi0, hz0, hz1, hz2⟩ := info_parts Try.info_int
  obtain ⟨k, hk⟩ : ∃ k, k = v.length := ⟨_, rfl⟩
  rw [← hk] at hl hv hs hm ⊢
  have Hk := Lib.hid hk
  have HV := Lib.hid hv
  have Hs := Lib.hid hs
  have Hm := Lib.hid hm
  have hkm : k ≤ 9223372036854775807 := by omega
  clear hv hs hm hk hVl
  go_enter Try.func69, Try.ntmps69
  go_wp2
  go_loopw [3, 11] (fun y x wr => ∃ j : Nat, j ≤ k ∧ x = .int .i64 j ∧ y = .int .i64 (mulQ v j : Nat) ∧ Below w.heap.size w wr) (fun _ x _ => k - (intOf x).toNat)
  case atStart => exact ⟨0, Nat.zero_le _, rfl, rfl, Below.refl _ _⟩
  case round =>
    obtain ⟨j, hj, rfl, rfl, hbr⟩ := hrel
    have Hbr := Lib.hid hbr
    clear hbr
    by_cases hjk : j < k
    · have v1 := cell_below (HV.out j hjk).1 Hbr.out
      have v2 := cell_below (HV.out j hjk).2 Hbr.out
      have hsj := Hs.out j hjk
      have hmj := Hm.out j hj
      have hmj2 := Hm.out (j + 1) hjk
      obtain ⟨M2, hM2⟩ : ∃ M2, M2 = mulQ v (j + 1) := ⟨_, rfl⟩
      rw [← hM2] at hmj2
      have hMe : M2 = mulQ v j * ((gq v j).2 / Nat.gcd (mulQ v j) (gq v j).2) := hM2
      have HM2 := Lib.hid hM2
      obtain ⟨⟨B1, B2⟩, hB⟩ : ∃ x, x = gq v j := ⟨_, rfl⟩
      obtain ⟨M, hM⟩ : ∃ M, M = mulQ v j := ⟨_, rfl⟩
      rw [← hM] at hmj hMe ⊢
      simp only [← hB] at hsj v1 v2 hMe
      obtain ⟨hs1, hs2, hs3⟩ := hsj
      simp only at hs1 hs2 hs3
      have CG := Lib.hid (fun wx => commonDivisor_any M B2 wx (by omega) (by omega))
      have hg1 : 0 < Nat.gcd M B2 := Nat.gcd_pos_of_pos_right _ (by omega)
      obtain ⟨d, hd⟩ : ∃ d, d = Nat.gcd M B2 := ⟨_, rfl⟩
      rw [← hd] at hMe hg1 CG
      have hdz : ¬ d = 0 := by omega
      have hEl : B2 / d ≤ B2 := Nat.div_le_self _ _
      have hE : (B2 : Int) / (d : Int) = ((B2 / d : Nat) : Int) := by rw [Int.natCast_ediv]
      obtain ⟨E, hEe⟩ : ∃ E, E = B2 / d := ⟨_, rfl⟩
      rw [← hEe] at hE hEl hMe
      have hwE : IntKind.i64.wrap (E : Int) = (E : Int) := w64 (by omega)
      have hMM : (M : Int) * (E : Int) = (M2 : Int) := by rw [hMe, Int.natCast_mul]
      have hwM : IntKind.i64.wrap (M2 : Int) = (M2 : Int) := w64 (by omega)
      clear hM2 hB hM hMe hd hEe hg1
      go_wp2
      go_upto_region 5 with (first | (refine wpList_allocT rfl 52 rfl _ _ Try.info_rt ?_) | (refine wpList_storeT rfl 52 _ _ rfl (rtA (B1, B2)) (rtA (0, 0)) wr.heap.size rfl rfl rfl (Try.size_rt _) (rt_same _ _) (rt_one _) ?_))
      generalize hW : World.alloc wr _ = ws
      have hK : RtAt ws wr.heap.size (B1, B2) := by rw [← hW]; exact RtAt.new wr (B1, B2)
      have hbs : Below wr.heap.size wr ws := by rw [← hW]; exact (Below.refl _ wr).alloc (Nat.le_refl _) _
      obtain ⟨K, hKe⟩ : ∃ K, K = wr.heap.size := ⟨_, rfl⟩
      have HB5 := Lib.hid (Hbr.out.trans (hbs.mono Hbr.out.size))
      rw [← hKe] at hK ⊢
      have k1 := hK.c1
      have Hfacts := Lib.hid (show ∀ w'', Below ws.heap.size ws w'' → w''.cell? ⟨K, 1, none⟩ = some (.int .i64 (B2 : Int)) from fun w'' hb => cell_below k1 hb)
      have HBc := Lib.hid (show Below ws.heap.size ws ws.drew from below_drewN (Below.refl _ _) 1)
      clear hW hbs hKe v1 v2 Hbr hK k1 hmj hmj2 hs1 hs2 hs3 hEl
      have q0 := Hfacts.out ws (Below.refl _ _)
      go_wp2
      go_region_with (go_at_call 82; refine (CG.out _).mono ?_; rintro e w6 ⟨rfl, hq6⟩; have HBd := Lib.hid (HBc.out.trans ((hq6.below _).mono HBc.out.size)); clear hq6 HBc; have HBc := HBd; clear HBd; have r0 := Hfacts.out _ HBc.out)
      all_goals
        have HBn := Lib.hid (HB5.out.trans (HBc.out.mono HB5.out.size))
        clear Hfacts HBc CG q0 r0
        go_wp2
        go_roundw
        case rel => exact ⟨j + 1, by omega, by go_num, by rw [← HM2.out], HBn.out⟩
        case measure => simp [intOf]; omega
    · obtain rfl : j = k := by omega
      have hmj := Hm.out j hj
      obtain ⟨M, hM⟩ : ∃ M, M = mulQ v j := ⟨_, rfl⟩
      rw [← hM] at hmj ⊢
      have HM := Lib.hid hM
      clear hM
      go_wp2_with (at_make; refine wpList_make_full _ rfl _ _ 24 rfl wr.heap.size 3 i0 (.int .i64 0) 1 Try.underlying24 hi0 hz0 hz1 _ _ _ _ j rfl rfl rfl rfl ?c1 ?c2 ?c3 ?_)
      case c1 => rw [hz2]; omega
      case c2 => unfold maxLen; omega
      case c3 => simp
      intro w3 hown hgr
      have Hb3 := Lib.hid (Hbr.out.trans (((Below.refl wr.heap.size wr).grown hgr (Nat.le_refl _) (fun _ h => by cases h)).mono Hbr.out.size))
      have hown2 : OwnI w3 w.heap.size (.slice (some ⟨wr.heap.size, 0, none⟩) j j) (List.replicate j 0) := (OwnI.made hown).base Hbr.out.size
      obtain ⟨G, hG⟩ : ∃ G, G = wr.heap.size := ⟨_, rfl⟩
      have HG := Lib.hid (show w.heap.size ≤ G by have := Hbr.out.size; omega)
      rw [← hG] at hown2 ⊢
      have Hown := Lib.hid hown2
      clear hown hown2 hgr hG Hbr
      go_wp2
      go_loopw [30] (fun x wr => ∃ (i : Nat) (xs : List Int), i ≤ j ∧ x = .int .i64 i ∧ xs.length = j ∧ (∀ a, a < i → gi xs a = wholeAt v a) ∧ OwnI wr w.heap.size (.slice (some ⟨G, 0, none⟩) j j) xs ∧ Below w.heap.size w wr) (fun x _ => j - (intOf x).toNat)
      case atStart => exact ⟨0, _, Nat.zero_le _, rfl, List.length_replicate, fun a ha => absurd ha (Nat.not_lt_zero _), Hown.out, Hb3.out⟩
      case round =>
        rename World => wq
        obtain ⟨i, xs, hi, rfl, hxl, hxv, hox, hbq⟩ := hrel
        have Hxl := Lib.hid hxl
        have Hxv := Lib.hid hxv
        have Hox := Lib.hid hox
        have Hbq := Lib.hid hbq
        clear hxl hxv hox hbq Hown Hb3
        by_cases hij : i < j
        · have v1 := cell_below (HV.out i hij).1 Hbq.out
          have v2 := cell_below (HV.out i hij).2 Hbq.out
          have hsj := Hs.out i hij
          have HW := Lib.hid (show wholeAt v i = ((M / (gq v i).2 * (gq v i).1 : Nat) : Int) by unfold wholeAt; rw [← Hk.out, ← HM.out])
          obtain ⟨⟨B1, B2⟩, hB⟩ : ∃ x, x = gq v i := ⟨_, rfl⟩
          simp only [← hB] at hsj v1 v2 HW
          obtain ⟨hs1, hs2, hs3⟩ := hsj
          simp only at hs1 hs2 hs3
          have hdz : ¬ B2 = 0 := by omega
          have hEl : M / B2 ≤ M := Nat.div_le_self _ _
          have hE : (M : Int) / (B2 : Int) = ((M / B2 : Nat) : Int) := by rw [Int.natCast_ediv]
          obtain ⟨E, hEe⟩ : ∃ E, E = M / B2 := ⟨_, rfl⟩
          rw [← hEe] at hE hEl HW
          have hwE : IntKind.i64.wrap (E : Int) = (E : Int) := w64 (by omega)
          have hXl := Nat.mul_le_mul (show E ≤ 1000000 by omega) hs1
          have hXX : (E : Int) * (B1 : Int) = ((E * B1 : Nat) : Int) := by rw [Int.natCast_mul]
          obtain ⟨X, hX⟩ : ∃ X, X = E * B1 := ⟨_, rfl⟩
          rw [← hX] at hXl hXX HW
          have hwX : IntKind.i64.wrap (X : Int) = (X : Int) := w64 (by omega)
          clear hB hEe hX
          go_wp2
          go_upto_region 11 with (first | (refine wpList_allocT rfl 52 rfl _ _ Try.info_rt ?_) | (refine wpList_storeT rfl 52 _ _ rfl (rtA (B1, B2)) (rtA (0, 0)) wq.heap.size rfl rfl rfl (Try.size_rt _) (rt_same _ _) (rt_one _) ?_))
          generalize hW : World.alloc wq _ = ws
          have hK : RtAt ws wq.heap.size (B1, B2) := by rw [← hW]; exact RtAt.new wq (B1, B2)
          have hbs : Below wq.heap.size wq ws := by rw [← hW]; exact (Below.refl _ wq).alloc (Nat.le_refl _) _
          obtain ⟨K, hKe⟩ : ∃ K, K = wq.heap.size := ⟨_, rfl⟩
          have HB5 := Lib.hid (Hbq.out.trans (hbs.mono Hbq.out.size))
          have Ho5 := Lib.hid (Hox.out.below hbs)
          rw [← hKe] at hK ⊢
          have k0 := hK.c0
          have k1 := hK.c1
          have g0 := Ho5.out.cellAt i hij
          have g1 := Ho5.out.frozenAt i
          obtain ⟨z, hz⟩ : ∃ z, z = gi xs i := ⟨_, rfl⟩
          rw [← hz] at g0
          have HSn := Lib.hid (show OwnI (ws.drew.setCell ⟨G, i, none⟩ (.int .i64 (X : Int))) w.heap.size (.slice (some ⟨G, 0, none⟩) j j) (xs.set i (X : Int)) from (Ho5.out.below (below_drewN (Below.refl _ _) 1)).store i _)
          have HBn := Lib.hid ((HB5.out.trans (below_drewN (Below.refl _ ws) 1)).setCell (p := ⟨G, i, none⟩) HG.out (.int .i64 (X : Int)))
          clear hW hbs hKe v1 v2 hK hs1 hs2 hs3 hEl hXl hz hmj
          go_wp2
          go_region
          all_goals
            clear k0 k1 g0 g1
            go_wp2
            go_roundw
            case rel => exact ⟨i + 1, _, by omega, by go_num, by rw [List.length_set]; exact Hxl.out, fun a ha => by
              rw [gi_set (by rw [Hxl.out]; exact hij)]
              split
              · next e => rw [e]; exact HW.out.symm
              · next e => exact Hxv.out a (by omega), HSn.out, HBn.out⟩
            case measure => simp [intOf]; omega
        · obtain rfl : i = j := by omega
          go_wp2
          go_ret
          exact ⟨_, rfl, by rw [← wholeQ_is (v := v) (xs := xs) (by rw [Hxl.out]; exact Hk.out) (fun a ha => Hxv.out a (by rw [Hk.out]; exact ha))]; exact Hox.out, Hbq.out⟩
end Go.Proofs.Ytgdijjfipicodaa

namespace Go.Proofs.Ytgdijjfipicodaa
open Go.RowKit

/-- a table filled up to the place a, b -/
def putF (f : Nat → Nat → Int) (a b r c : Nat) : Int := if r < a ∨ (r = a ∧ c < b) then f r c else 0
theorem putF_step (f : Nat → Nat → Int) (a b : Nat) : (fun r c => if r = a ∧ c = b then f a b else putF f a b r c) = putF f a (b + 1) := by
  funext r c
  unfold putF
  by_cases e : r = a ∧ c = b
  · obtain ⟨rfl, rfl⟩ := e
    rw [if_pos ⟨rfl, rfl⟩, if_pos (show r < r ∨ (r = r ∧ c < c + 1) by omega)]
  · rw [if_neg e]
    by_cases e2 : r < a ∨ (r = a ∧ c < b)
    · rw [if_pos e2, if_pos (show r < a ∨ (r = a ∧ c < b + 1) by omega)]
    · rw [if_neg e2, if_neg (show ¬(r < a ∨ (r = a ∧ c < b + 1)) by omega)]
theorem putF_here (f : Nat → Nat → Int) (a b : Nat) : putF f a b a b = 0 := if_neg (by omega)
theorem putF_zero (f : Nat → Nat → Int) : putF f 0 0 = fun _ _ => 0 := by funext r c; exact if_neg (by omega)
theorem putF_row (f : Nat → Nat → Int) (N a : Nat) : tab N N (putF f a N) = tab N N (putF f (a + 1) 0) := by
  refine eq_tab (tab_len _ _ _) (fun i hi => tab_row hi) fun r c hr hc => ?_
  rw [gi_tab hr hc]
  unfold putF
  by_cases e : r < a ∨ (r = a ∧ c < N)
  · rw [if_pos e, if_pos (by omega)]
  · rw [if_neg e, if_neg (by omega)]
theorem putF_end (f : Nat → Nat → Int) (N : Nat) : tab N N (putF f N 0) = tab N N f := by
  refine eq_tab (tab_len _ _ _) (fun i hi => tab_row hi) fun r c hr hc => ?_
  rw [gi_tab hr hc]
  unfold putF
  rw [if_pos (by omega)]

/-- the sum of the products of the first k numbers of a row -/
def dotF (f : Nat → Nat → Int) (v : List Int) (r : Nat) : Nat → Int
  | 0 => 0
  | k + 1 => dotF f v r k + f r k * gi v k
/-- the image filled up to the place a, b -/
def imgL (f : Nat → Nat → Int) (v : List Int) (N a b : Nat) : List Int := (List.range N).map fun r => if r < a then dotF f v r N else if r = a then dotF f v a b else 0
theorem imgL_len (f : Nat → Nat → Int) (v : List Int) (N a b : Nat) : (imgL f v N a b).length = N := by simp [imgL]
theorem imgL_at {f : Nat → Nat → Int} {v : List Int} {N a b r : Nat} (h : r < N) : gi (imgL f v N a b) r = if r < a then dotF f v r N else if r = a then dotF f v a b else 0 := gi_row h
theorem imgL_here {f : Nat → Nat → Int} {v : List Int} {N a b : Nat} (h : a < N) : gi (imgL f v N a b) a = dotF f v a b := by rw [imgL_at h, if_neg (Nat.lt_irrefl a), if_pos rfl]
theorem imgL_step {f : Nat → Nat → Int} {v : List Int} {N a b : Nat} (h : a < N) : (imgL f v N a b).set a (dotF f v a b + f a b * gi v b) = imgL f v N a (b + 1) := by
  refine ext_gi (by rw [List.length_set, imgL_len, imgL_len]) fun r hr => ?_
  rw [List.length_set, imgL_len] at hr
  rw [gi_set (by rw [imgL_len]; exact h), imgL_at hr, imgL_at hr]
  by_cases e : r = a
  · subst e
    rw [if_pos rfl, if_neg (Nat.lt_irrefl r), if_pos rfl]
    rfl
  · rw [if_neg e]
    by_cases e2 : r < a
    · rw [if_pos e2, if_pos e2]
    · rw [if_neg e2, if_neg e2, if_neg e, if_neg e]
theorem imgL_row (f : Nat → Nat → Int) (v : List Int) (N a : Nat) : imgL f v N a N = imgL f v N (a + 1) 0 := by
  refine ext_gi (by rw [imgL_len, imgL_len]) fun r hr => ?_
  rw [imgL_len] at hr
  rw [imgL_at hr, imgL_at hr]
  by_cases e : r = a
  · subst e
    rw [if_neg (Nat.lt_irrefl r), if_pos rfl, if_pos (Nat.lt_succ_self r)]
  · by_cases e2 : r < a
    · rw [if_pos e2, if_pos (show r < a + 1 by omega)]
    · rw [if_neg e2, if_neg e, if_neg (show ¬r < a + 1 by omega)]
      split <;> rfl
theorem imgL_zero (f : Nat → Nat → Int) (v : List Int) (N : Nat) : imgL f v N 0 0 = List.replicate N 0 := by
  refine ext_gi (by rw [imgL_len, List.length_replicate]) fun r hr => ?_
  rw [imgL_len] at hr
  rw [imgL_at hr, if_neg (by omega), gi_lt (by simpa using hr)]
  simp [dotF]
theorem dotF_row {f : Nat → Nat → Int} {v row : List Int} {r : Nat} : ∀ k : Nat, (∀ c, c < k → gi row c = f r c) → dotK row v k = dotF f v r k
  | 0, _ => rfl
  | k + 1, h => by unfold dotK dotF; rw [dotF_row k (fun c hc => h c (by omega)), h k (by omega)]
theorem dotF_bd {f : Nat → Nat → Int} {v : List Int} {r N : Nat} (h1 : ∀ c, c < N → 0 ≤ f r c ∧ f r c ≤ 100) (h2 : allIn v 0 1000000) (hl : v.length = N) : ∀ k : Nat, k ≤ N → 0 ≤ dotF f v r k ∧ dotF f v r k ≤ (k : Int) * 100000000
  | 0, _ => by simp [dotF]
  | k + 1, ha => by
    have := dotF_bd h1 h2 hl k (by omega)
    have := mul_bd (h1 k (by omega)) (h2 k (by omega))
    unfold dotF
    omega
theorem imgL_end {f : Nat → Nat → Int} {v : List Int} {m : List (List Int)} {N : Nat} (hm : m.length = N) (hv : v.length = N) (h : ∀ r c, r < N → c < N → gi (gr m r) c = f r c) : imgL f v N N 0 = appK m v m.length := by
  refine ext_gi (by rw [imgL_len, appK_len, hm]) fun r hr => ?_
  rw [imgL_len] at hr
  rw [imgL_at hr, if_pos hr, appK_at (by omega), hv]
  exact (dotF_row N fun c hc => h r c hr hc).symm

end Go.Proofs.Ytgdijjfipicodaa

namespace Go.Proofs.Ytgdijjfipicodaa
open Go.RowKit

end Go.Proofs.Ytgdijjfipicodaa

namespace Go.Proofs.Ytgdijjfipicodaa
open Go.RowKit

theorem tab_small {N : Nat} (f : Nat → Nat → Int) (h : N ≤ 14) : Small (tab N N f) := ⟨by rw [tab_len]; omega, fun i hi => by rw [tab_len] at hi; rw [tab_row hi]; omega⟩
theorem opT_small {n : Nat} (h : n < 5) (i : Nat) : Small (opT (patP 6 n) i) := tab_small _ (catN_le n h)
theorem sumT_small {n : Nat} (h : n < 5) : Small (sumT (patP 6 n)) := tab_small _ (catN_le n h)

end Go.Proofs.Ytgdijjfipicodaa

namespace Go.Proofs.Ytgdijjfipicodaa
open Go.RowKit

theorem sol_short (n : Nat) : (sol n).length ≤ 14 := by unfold sol; split <;> decide
/-- the solution by ratios: all sizes, and that it is the solution -/
theorem solQ_is {n : Nat} (h1 : 1 ≤ n) (h4 : n ≤ 4) : (elimQ (catN n) (sysQ n) (catN n - 1)).2 = true ∧ okT (catN n) (elimQ (catN n) (sysQ n) (catN n - 1)).1 = true ∧ (vecQ (elimQ (catN n) (sysQ n) (catN n - 1)).1 (catN n - 1)).2 = true
    ∧ (∀ k, k ≤ catN n → mulQ (vecQ (elimQ (catN n) (sysQ n) (catN n - 1)).1 (catN n - 1)).1 k ≤ 1000000) ∧ wholeQ (vecQ (elimQ (catN n) (sysQ n) (catN n - 1)).1 (catN n - 1)).1 = sol n := by
  rcases solQ_all n (by omega) with h | h
  · omega
  · rw [Bool.and_eq_true, Bool.and_eq_true, Bool.and_eq_true, Bool.and_eq_true, List.all_eq_true, beq_iff_eq] at h
    obtain ⟨⟨⟨⟨a, b⟩, c⟩, d⟩, e⟩ := h
    exact ⟨a, b, c, fun k hk => of_decide_eq_true (d k (by simp; omega)), e⟩

set_option maxRecDepth 100000 in
set_option maxHeartbeats 800000 in
theorem implSolutionOf_any (n : Int) (w : World) (_ : -9223372036854775808 ≤ n ∧ n ≤ 9223372036854775807) :
    Calls Try.prog 34 #[.int .i64 n] w fun e w' => LRes (1 ≤ n ∧ n ≤ 4) (sol n.toNat) w' w.heap.size e ∧ Below w.heap.size w w' := by
  go_enter Try.func34, Try.ntmps34
  go_wp2_with fail
  refine (isRanked_any _ w).mono ?_
  rintro e w1 ⟨ha, hb⟩
  have HB := Lib.hid hb
  by_cases hn : 1 ≤ n ∧ n ≤ 4
  · obtain rfl := ha.is hn
    have Hn := Lib.hid hn
    have C := joiningAtAll_any n.toNat w1 (by omega) (by omega)
    rw [Int.toNat_of_nonneg (by omega)] at C
    have C := Lib.hid C
    have hl14 : catN n.toNat ≤ 14 := catN_le n.toNat (by omega)
    have hl1 : 1 ≤ catN n.toNat := catN_pos n.toNat (by omega)
    have hk1 : 1 ≤ 2 * n.toNat := by omega
    have hk8 : 2 * n.toNat ≤ 8 := by omega
    have HQ := Lib.hid (solQ_is (n := n.toNat) (by omega) (by omega))
    clear ha hn hb
    go_wp2_with fail
    refine C.out.mono ?_
    rintro e w2 ⟨v, rfl, hv, hb⟩
    have HB2 := Lib.hid (HB.out.trans (hb.mono HB.out.size))
    have CF := Lib.hid (fixedBy_any v (patP 6 n.toNat) (2 * n.toNat) (catN n.toNat) (catN n.toNat - 1) (sysQ n.toNat) w2 rfl hl14 hl1 hk1 hk8 hv rfl rfl HQ.out.1 HQ.out.2.1 HQ.out.2.2.1)
    clear hv hb C
    go_wp2_with fail
    refine CF.out.mono ?_
    rintro e w3 ⟨V, cap, rfl, hV, hcells, hb⟩
    have HB3 := Lib.hid (HB2.out.trans (hb.mono HB2.out.size))
    obtain ⟨q, hq⟩ : ∃ q, q = (vecQ (elimQ (catN n.toNat) (sysQ n.toNat) (catN n.toNat - 1)).1 (catN n.toNat - 1)).1 := ⟨_, rfl⟩
    have hlen : q.length = catN n.toNat := by rw [hq, vecQ_len]; omega
    have hsm := vecQ_small (m := (elimQ (catN n.toNat) (sysQ n.toNat) (catN n.toNat - 1)).1) (catN n.toNat - 1) HQ.out.2.2.1
    have hmq := HQ.out.2.2.2.1
    have hwq := HQ.out.2.2.2.2
    rw [← hq] at hcells hsm hmq hwq
    have CL := leastWhole_any q V cap w3 (by omega) hV (fun j hj => hcells j (by omega)) (fun j hj => hsm j (by omega)) (fun j hj => hmq j (by omega))
    rw [hlen, hwq] at CL
    have CL := Lib.hid CL
    obtain ⟨N, hN⟩ : ∃ N, N = catN n.toNat := ⟨_, rfl⟩
    rw [← hN] at CL ⊢
    clear hq hlen hsm hmq hwq hcells hV hb CF HQ hN hl14 hl1
    go_wp2_with fail
    refine CL.out.mono ?_
    rintro e w4 ⟨x, rfl, hx, hb⟩
    have HX := Lib.hid (hx.base HB3.out.size)
    have HB4 := Lib.hid (HB3.out.trans (hb.mono HB3.out.size))
    clear hx hb CL
    go_wp2
    go_ret2
    exact ⟨LRes.yes Hn.out HX.out, HB4.out⟩
  · obtain rfl := ha.isnt hn
    have Hn := Lib.hid hn
    clear ha hn hb
    go_wp2
    go_ret2
    exact ⟨LRes.no Hn.out, HB.out⟩
end Go.Proofs.Ytgdijjfipicodaa

