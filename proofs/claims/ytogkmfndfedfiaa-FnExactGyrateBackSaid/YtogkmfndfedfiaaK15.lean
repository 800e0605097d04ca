/- Parts of proofs: contracts and plain facts. Conditions: as each says. -/
import Derived.Test.YtogkmfndfedfiaaK14
import Derived.Deep.RegionWith
namespace Go.Proofs.Ytogkmfndfedfiaa
open Go.RowKit

set_option maxRecDepth 100000 in
set_option maxHeartbeats 800000 in
theorem heCell_any (n : Nat) (x y : Int) (w : World) (hn1 : 1 ≤ n) (hn : n ≤ 6) :
    Calls Try.prog 57 #[.int .i64 (n : Int), .int .i64 x, .int .i64 y] w fun e w' => e = .returned (.bool (okB n x y)) ∧ w' = w := by
  have k1 : IntKind.i64.wrap ((n : Int) - 1) = (n : Int) - 1 := w64 (by omega)
  go_enter Try.func57, Try.ntmps57
  go_wp2_with fail
  refine (l1In_any _ _ _ w).mono ?_
  rintro e w1 ⟨ha, rfl⟩
  by_cases h1 : 1 ≤ x ∧ x ≤ (n : Int) - 1
  · obtain rfl := ha.is h1
    clear ha
    go_wp2_with fail
    refine (l1In_any _ _ _ w).mono ?_
    rintro e w1 ⟨ha, rfl⟩
    by_cases h2 : 1 ≤ y ∧ y ≤ (n : Int) - 1
    · obtain rfl := ha.is h2
      have hb := okB_yes (n := n) (x := x) (y := y) (by omega)
      clear ha h1 h2 k1
      go_wp2
      go_ret
      exact ⟨by rw [hb]; rfl, rfl⟩
    · obtain rfl := ha.isnt h2
      have hb := okB_no (n := n) (x := x) (y := y) (by omega)
      clear ha h1 h2 k1
      go_wp2
      go_ret
      exact ⟨by rw [hb]; rfl, rfl⟩
  · obtain rfl := ha.isnt h1
    have hb := okB_no (n := n) (x := x) (y := y) (by omega)
    clear ha h1 k1
    go_wp2
    go_ret
    exact ⟨by rw [hb]; rfl, rfl⟩

/-- where a number of an owned table of heights lies -/
theorem OwnP.numAt {w : World} {B N cp i j : Nat} {ao : Option Addr} {H : List (List Int)} {vs : List Value} (h : OwnP w B (.slice ao N cp) N H N vs) (hH : Tab N H) (hi : i < N) (hj : j < N) :
    ∃ b o g cr, ao = some ⟨b, o, none⟩ ∧ vs.getD i undef = .slice (some ⟨g, 0, none⟩) N cr ∧ B ≤ g ∧
      ∀ w', OwnP w' B (.slice ao N cp) N H N vs → w'.cell? ⟨b, o + i, none⟩ = some (.slice (some ⟨g, 0, none⟩) N cr) ∧ w'.cell? ⟨g, j, none⟩ = some (.int .i64 (gi (gr H i) j)) ∧ w'.frozen? ⟨g, j, none⟩ = false := by
  obtain ⟨ao', c', e, _, _, hc⟩ := ownsRow_read h.top
  simp only [Value.slice.injEq, true_and] at e
  obtain ⟨rfl, rfl⟩ := e
  obtain ⟨b, o, rfl, _⟩ := hc i hi
  obtain ⟨g, cr, hv, hB, _, _⟩ := h.rowIs hi (by rw [hH.row i hi]; omega)
  rw [hH.row i hi] at hv
  refine ⟨b, o, g, cr, rfl, hv, hB, fun w' h' => ?_⟩
  obtain ⟨ao', c', e, _, _, hc'⟩ := ownsRow_read h'.top
  simp only [Value.slice.injEq, true_and] at e
  obtain ⟨rfl, rfl⟩ := e
  obtain ⟨b', o', e', hcell⟩ := hc' i hi
  simp only [Option.some.injEq, Addr.mk.injEq, and_true] at e'
  obtain ⟨rfl, rfl⟩ := e'
  have hr := h'.rows i hi
  rw [hv] at hr hcell
  exact ⟨hcell, hr.cellAt j hj, hr.frozenAt j⟩

set_option maxRecDepth 100000 in
set_option maxHeartbeats 1600000 in
theorem gyToggle_any (n N B cp i j : Nat) (ao : Option Addr) (vs : List Value) (c : Nat → Nat → Int) (w : World) (hN : N = n + 1) (hn : n ≤ 6) (hc : Crn n c) (hp : inn n (i, j)) (hB : B ≤ w.heap.size)
    (hH : OwnP w B (.slice ao N cp) N (htT n c) N vs) :
    Calls Try.prog 100 #[.slice ao N cp, .int .i64 (i : Int), .int .i64 (j : Int)] w fun e w' => e = .returned (.slice ao N cp) ∧ OwnP w' B (.slice ao N cp) N (htT n (flipC c i j)) N vs ∧ Below B w w' := by
  have hT : Tab N (htT n c) := by rw [hN]; exact htT_tab hc hn
  obtain ⟨hi1, hi2, hj1, hj2⟩ := hp
  simp only at hi1 hi2 hj1 hj2
  obtain ⟨b, o, g, cr, rfl, hv, hBg, hcells⟩ := hH.numAt hT (i := i) (j := j) (by omega) (by omega)
  have hx : gi (gr (htT n c) i) j = hOf c i j := gi_htT (by omega) (by omega)
  rw [hx] at hcells
  have hb := hc.hbound (show i ≤ n by omega) (show j ≤ n by omega)
  have hcall : ∀ w', Below w.heap.size w w' → Calls Try.prog 59 #[.slice (some ⟨b, o, none⟩) N cp, .int .i64 (i : Int), .int .i64 (j : Int)] w' fun e w2 => e = .returned (.int .i64 (way (hOf c) i j)) ∧ Below w'.heap.size w' w2 := fun w' hb' => by
    have := heWay_any N (some ⟨b, o, none⟩) cp (htT n c) i j w' (by omega) hT hi1 (by omega) hj1 (by omega) ((hH.at (by rw [htT_len, hN])).below hb')
    have e : way (fun a b => gi (gr (htT n c) a) b) i j = way (hOf c) i j := way_htT c (p := (i, j)) ⟨hi1, hi2, hj1, hj2⟩
    rwa [e] at this
  have hw : -1 ≤ way (hOf c) i j ∧ way (hOf c) i j ≤ 1 := by unfold way; split <;> (try split) <;> omega
  have hpost : ∀ w2, Below w.heap.size w w2 → OwnP (w2.setCell ⟨g, j, none⟩ (.int .i64 (hOf c i j + 2 * way (hOf c) i j))) B (.slice (some ⟨b, o, none⟩) N cp) N (htT n (flipC c i j)) N vs := fun w2 hb2 => by
    have h2 := (hH.below hb2).storeAt (by rw [htT_len, hN]) (i := i) (j := j) (show i < N by omega) hv (hOf c i j + 2 * way (hOf c) i j)
    rwa [setM_htT c (p := (i, j)) ⟨hi1, hi2, hj1, hj2⟩] at h2
  obtain ⟨x, hxx⟩ : ∃ x, x = hOf c i j := ⟨_, rfl⟩
  obtain ⟨y, hyy⟩ : ∃ y, y = way (hOf c) i j := ⟨_, rfl⟩
  rw [← hxx] at hcells hpost hb
  rw [← hyy] at hcall hpost hw
  have hf := hcells w hH
  have Hcells := Lib.hid (fun (w' : World) (hb' : Below w.heap.size w w') => hcells w' (hH.below hb'))
  have Hcall := Lib.hid hcall
  have Hpost := Lib.hid hpost
  have k1 : IntKind.i64.wrap (2 * y) = 2 * y := w64 (by omega)
  have k2 : IntKind.i64.wrap (x + 2 * y) = x + 2 * y := w64 (by omega)
  have m1 : (i : Int) < N := by omega
  have m2 : (j : Int) < N := by omega
  obtain ⟨f1, f2, f3⟩ := hf
  have HB := Lib.hid hB
  have HBg := Lib.hid hBg
  clear hH hT hx hcells hcall hpost hxx hyy hv hi1 hi2 hj1 hj2 hc hB hBg hb hw hN
  go_enter Try.func100, Try.ntmps100
  go_upto_region 1 with fail
  go_region_with (go_at_call 59; refine (Hcall.out _ ?_).mono ?_; exact below_drewN (Below.refl _ _) 1; rintro e w2 ⟨rfl, hb2⟩; have Hb2 := Lib.hid ((below_drewN (Below.refl w.heap.size w) 1).trans hb2); obtain ⟨g1, g2, g3⟩ := Hcells.out w2 Hb2.out; clear hb2)
  all_goals
    have HO := Lib.hid (Hpost.out w2 Hb2.out)
    have HW := Lib.hid ((Hb2.out.mono HB.out).setCell (p := ⟨g, j, none⟩) HBg.out (.int .i64 (x + 2 * y)))
    go_wp2
    go_ret
    exact ⟨rfl, HO.out, HW.out⟩

theorem mod2 (s t : Nat) : ((s : Int) + t) % 2 = (((s, t) : Nat × Nat).1 + ((s, t) : Nat × Nat).2) % 2 := rfl

set_option maxRecDepth 100000 in
set_option maxHeartbeats 1600000 in
theorem gyColour_any (n N B cp : Nat) (ao : Option Addr) (vs : List Value) (c : Nat → Nat → Int) (col : Int) (w : World) (hN : N = n + 1) (hn1 : 1 ≤ n) (hn : n ≤ 6) (hc : Crn n c) (hB : B ≤ w.heap.size)
    (hH : OwnP w B (.slice ao N cp) N (htT n c) N vs) :
    Calls Try.prog 119 #[.slice ao N cp, .int .i64 col] w fun e w' => e = .returned (.slice ao N cp) ∧ OwnP w' B (.slice ao N cp) N (htT n (togL c (colL col (allCells n n)))) N vs ∧ Below B w w' := by
  have HN := Lib.hid hN
  have HH := Lib.hid hH
  have HB := Lib.hid hB
  have kN : IntKind.i64.wrap ((N : Int) - 1) = (n : Int) := by rw [w64 (by omega)]; omega
  clear hN hH hB
  go_enter Try.func119, Try.ntmps119
  go_wp2
  go_loopw [0, 5] (fun h i wr => ∃ s : Nat, 1 ≤ s ∧ s ≤ n ∧ i = .int .i64 s ∧ h = .slice ao N cp ∧ OwnP wr B (.slice ao N cp) N (htT n (togL c (colL col (allCells n s)))) N vs ∧ Below B w wr) (fun _ i _ => n - (intOf i).toNat)
  case atStart => exact ⟨1, by omega, hn1, rfl, rfl, by rw [allCells_one]; exact HH.out, Below.refl _ _⟩
  case round =>
    obtain ⟨s, hs1, hs, rfl, rfl, hown, hbr⟩ := hrel
    have Hown := Lib.hid hown
    have Hbr := Lib.hid hbr
    clear hown hbr
    by_cases hlt : s < n
    · go_wp2
      go_loopw [0, 6] (fun h j wr => ∃ t : Nat, 1 ≤ t ∧ t ≤ n ∧ j = .int .i64 t ∧ h = .slice ao N cp ∧ OwnP wr B (.slice ao N cp) N (htT n (togL c (colL col (allCells n s ++ rowCells s t)))) N vs ∧ Below B w wr) (fun _ j _ => n - (intOf j).toNat)
      case atStart => exact ⟨1, by omega, hn1, by go_num, rfl, by rw [rowCells_one, List.append_nil]; exact Hown.out, Hbr.out⟩
      case round =>
        obtain ⟨t, ht1, ht, rfl, rfl, hown, hbr⟩ := hrel
        have Hown := Lib.hid hown
        have Hbr := Lib.hid hbr
        clear hown hbr
        by_cases htl : t < n
        · have hsn := colL_snoc col (allCells n s ++ rowCells s t) (s, t)
          rw [← mod2, List.append_assoc, ← rowCells_succ s t ht1] at hsn
          have hcr : Crn n (togL c (colL col (allCells n s ++ rowCells s t))) := hc.togL _ (fun p hp => cells_inn hs ht hs1 hlt p (colL_mem hp))
          have Hcr := Lib.hid hcr
          have Hsn := Lib.hid hsn
          clear hcr hsn
          by_cases hw : ((s : Int) + t) % 2 = col
          · have hb : (((s : Int) + t) % 2 == col) = true := by simpa using hw
            rw [if_pos hw] at Hsn
            clear hw
            go_wp2_with fail
            refine (gyToggle_any n N B cp s t ao vs _ wr HN.out hn Hcr.out ⟨hs1, hlt, ht1, htl⟩ (Nat.le_trans HB.out Hbr.out.size) Hown.out).mono ?_
            rintro e w2 ⟨rfl, ho, hb2⟩
            have Ho := Lib.hid ho
            have Hb2 := Lib.hid (Hbr.out.trans hb2)
            clear ho hb2
            go_wp2
            go_roundw
            case rel => exact ⟨t + 1, by omega, by omega, by go_num, rfl, by rw [Hsn.out, togL_snoc]; exact Ho.out, Hb2.out⟩
            case measure => simp [intOf]; omega
          · have hb : (((s : Int) + t) % 2 == col) = false := by simpa using hw
            rw [if_neg hw] at Hsn
            clear hw
            go_wp2
            go_roundw
            case rel => exact ⟨t + 1, by omega, by omega, by go_num, rfl, by rw [Hsn.out]; exact Hown.out, Hbr.out⟩
            case measure => simp [intOf]; omega
        · obtain rfl : t = n := by omega
          go_wp2
          go_roundw
          case rel => exact ⟨s + 1, by omega, by omega, by go_num, rfl, by rw [allCells_succ _ s hs1]; exact Hown.out, Hbr.out⟩
          case measure => simp [intOf]; omega
    · obtain rfl : s = n := by omega
      go_wp2
      go_ret
      exact ⟨rfl, Hown.out, Hbr.out⟩

set_option maxRecDepth 100000 in
set_option maxHeartbeats 1600000 in
theorem gyFlip_any (ao : Option Addr) (cp : Nat) (m : List (List Int)) (col : Int) (w : World) (hg : good m) (hm : MatAt w ao m) :
    Calls Try.prog 75 #[.slice ao m.length cp, .int .i64 col] w fun e w' => ∃ v, e = .returned v ∧ OwnM w' w.heap.size v (gyM m (colL col (allCells m.length m.length))) ∧ Below w.heap.size w w' := by
  have hn1 := hg.1.1
  have hn := hg.1.2.1
  have Hg := Lib.hid hg
  have Hm := Lib.hid hm
  have Hcr := Lib.hid (good_crn hg)
  clear hg hm
  go_enter Try.func75, Try.ntmps75
  go_wp2_with fail
  refine (heOf_any ao cp m w Hg.out Hm.out).mono ?_
  rintro e w1 ⟨v, rfl, hv, hb1⟩
  obtain ⟨a1, c1, vs, rfl, hvo, hc1, hc2⟩ := hv.open
  have Hl := Lib.hid (ht_len m)
  rw [ht_len] at hvo hc1 ⊢
  obtain ⟨N, hN⟩ : ∃ N, N = m.length + 1 := ⟨_, rfl⟩
  rw [← hN] at hvo hc1 ⊢
  have HN := Lib.hid hN
  have Hvo := Lib.hid hvo
  have Hb1 := Lib.hid hb1
  clear hN hvo hb1 hv
  go_wp2_with fail
  refine (gyColour_any m.length N w.heap.size c1 a1 vs (S2 m) col w1 HN.out hn1 hn Hcr.out Hb1.out.size Hvo.out).mono ?_
  rintro e w2 ⟨rfl, ho, hb2⟩
  have Hb2 := Lib.hid (Hb1.out.trans hb2)
  have hmat : MatAt w2 a1 (htT m.length (togL (S2 m) (colL col (allCells m.length m.length)))) := ho.at (by rw [htT_len, HN.out])
  have Hmat := Lib.hid hmat
  have Hcr2 := Lib.hid (Hcr.out.togL (colL col (allCells m.length m.length)) (fun p hp => allCells_inn p (colL_mem hp)))
  have hcall := heFrom_any a1 c1 m.length (togL (S2 m) (colL col (allCells m.length m.length))) w2 Hcr2.out hn1 hn Hmat.out
  rw [← HN.out] at hcall
  have Hcall := Lib.hid hcall
  clear ho hb2 hmat hcall
  go_wp2_with fail
  refine Hcall.out.mono ?_
  rintro e w3 ⟨v, rfl, hv, hb3⟩
  have Hv := Lib.hid (hv.base Hb2.out.size)
  have Hb3 := Lib.hid (Hb2.out.trans (hb3.mono Hb2.out.size))
  clear hv hb3
  go_wp2
  go_ret
  exact ⟨_, rfl, Hv.out, Hb3.out⟩
end Go.Proofs.Ytogkmfndfedfiaa

