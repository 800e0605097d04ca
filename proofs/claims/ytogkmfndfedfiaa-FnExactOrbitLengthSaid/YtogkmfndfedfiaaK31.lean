/- Parts of proofs: contracts and plain facts. Conditions: as each says. -/
import Derived.Test.YtogkmfndfedfiaaK30
import Derived.Deep.RegionHeld3
namespace Go.Proofs.Ytogkmfndfedfiaa
open Go.RowKit

theorem two_of_len' {r : List Int} (h : r.length = 2) : r = [gi r 0, gi r 1] := by
  match r, h with
  | [a, b], _ => rfl

/-- what a flip's store needs, and what it leaves -/
theorem flip_store {n N B cp i j : Nat} {ao : Option Addr} {vs : List Value} {c : Nat → Nat → Int} {w : World} (hN : N = n + 1) (hn : n ≤ 6) (hc : Crn n c) (hp : inn n (i, j)) (hH : OwnP w B (.slice ao N cp) N (htT n c) N vs) :
    ∃ b o g cr x, ao = some ⟨b, o, none⟩ ∧ B ≤ g ∧ 0 ≤ x ∧ x ≤ 6 ∧ (∀ w', OwnP w' B (.slice ao N cp) N (htT n c) N vs → w'.cell? ⟨b, o + i, none⟩ = some (.slice (some ⟨g, 0, none⟩) N cr) ∧ w'.cell? ⟨g, j, none⟩ = some (.int .i64 x) ∧ w'.frozen? ⟨g, j, none⟩ = false ∧
      OwnP (w'.setCell ⟨g, j, none⟩ (.int .i64 (x + 2 * way (hOf c) i j))) B (.slice ao N cp) N (htT n (flipC c i j)) N vs) := by
  have hT : Tab N (htT n c) := by rw [hN]; exact htT_tab hc hn
  obtain ⟨hi1, hi2, hj1, hj2⟩ := hp
  simp only at hi1 hi2 hj1 hj2
  obtain ⟨b, o, g, cr, rfl, hv, hBg, hcells⟩ := hH.numAt hT (i := i) (j := j) (by omega) (by omega)
  have hx : gi (gr (htT n c) i) j = hOf c i j := gi_htT (by omega) (by omega)
  rw [hx] at hcells
  have hb := hc.hbound (show i ≤ n by omega) (show j ≤ n by omega)
  refine ⟨b, o, g, cr, hOf c i j, rfl, hBg, hb.1, by omega, fun w' h' => ⟨(hcells w' h').1, (hcells w' h').2.1, (hcells w' h').2.2, ?_⟩⟩
  have h2 := h'.storeAt (by rw [htT_len, hN]) (i := i) (j := j) (show i < N by omega) hv (hOf c i j + 2 * way (hOf c) i j)
  rwa [setM_htT c (p := (i, j)) ⟨hi1, hi2, hj1, hj2⟩] at h2

theorem way_small (f : Nat → Nat → Int) (i j : Nat) : -1 ≤ way f i j ∧ way f i j ≤ 1 := by unfold way; split <;> (try split) <;> omega

theorem heWay_htT {n N B cp i j : Nat} {ao : Option Addr} {vs : List Value} {c : Nat → Nat → Int} {w : World} (hN : N = n + 1) (hn : n ≤ 6) (hc : Crn n c) (hp : inn n (i, j)) (hH : OwnP w B (.slice ao N cp) N (htT n c) N vs) :
    Calls Try.prog 59 #[.slice ao N cp, .int .i64 (i : Int), .int .i64 (j : Int)] w fun e w2 => e = .returned (.int .i64 (way (hOf c) i j)) ∧ Below w.heap.size w w2 := by
  have hT : Tab N (htT n c) := by rw [hN]; exact htT_tab hc hn
  obtain ⟨hi1, hi2, hj1, hj2⟩ := hp
  simp only at hi1 hi2 hj1 hj2
  have := heWay_any N ao cp (htT n c) i j w (by omega) hT hi1 (by omega) hj1 (by omega) (hH.at (by rw [htT_len, hN]))
  have e : way (fun a b => gi (gr (htT n c) a) b) i j = way (hOf c) i j := way_htT c (p := (i, j)) ⟨hi1, hi2, hj1, hj2⟩
  rwa [e] at this

set_option maxRecDepth 100000 in
set_option maxHeartbeats 1600000 in
theorem specFlipAt_any (ao : Option Addr) (cp : Nat) (m : List (List Int)) (x y : Int) (w : World) (hs : Small m) (hm : MatAt w ao m)
    (hx : -9223372036854775808 ≤ x ∧ x ≤ 9223372036854775807) (hy : -9223372036854775808 ≤ y ∧ y ≤ 9223372036854775807) :
    Calls Try.prog 18 #[.slice ao m.length cp, .int .i64 x, .int .i64 y] w fun e w' => MRes (faOk m x y) (faM m x y) w' w.heap.size e ∧ Below w.heap.size w w' := by
  have Hs := Lib.hid hs
  have Hm := Lib.hid hm
  clear hs hm hx hy
  go_enter Try.func18, Try.ntmps18
  go_wp2_with fail
  refine (sgGood_any ao cp m w Hs.out Hm.out).mono ?_
  rintro e w1 ⟨ha, hb⟩
  have Hb := Lib.hid hb
  have HB := Lib.hid hb.size
  clear hb
  by_cases hg : good m
  · have Hg := Lib.hid hg
    have hn := hg.1.2.1
    have hn1 := hg.1.1
    clear hg
    obtain rfl := ha.is Hg.out
    clear ha
    go_wp2_with fail
    refine (heCell_any m.length x y w1 hn1 hn).mono ?_
    rintro e w1' ⟨rfl, rfl⟩
    obtain ⟨ok, hok⟩ : ∃ ok, ok = okB m.length x y := ⟨_, rfl⟩
    rw [← hok]
    have Hok := Lib.hid hok
    clear hok
    cases ok
    · go_wp2
      go_ret2
      exact ⟨MRes.no (frOk_no (by rw [run_one, if_neg (fun h => by rw [← Hok.out] at h; cases h.1)])), Hb.out⟩
    · obtain ⟨hx0, hx1, hy0, hy1⟩ := okB_true.1 Hok.out.symm
      obtain ⟨i, rfl⟩ : ∃ i : Nat, x = i := ⟨x.toNat, by omega⟩
      obtain ⟨j, rfl⟩ : ∃ j : Nat, y = j := ⟨y.toNat, by omega⟩
      have hinn : inn m.length (i, j) := ⟨by show 1 ≤ i; omega, by show i < m.length; omega, by show 1 ≤ j; omega, by show j < m.length; omega⟩
      have Hinn := Lib.hid hinn
      clear hinn hx0 hx1 hy0 hy1
      go_wp2_with fail
      refine (heOf_any ao cp m w1' Hg.out (Hm.out.below Hb.out)).mono ?_
      rintro e w2 ⟨v, rfl, hv, hb2⟩
      obtain ⟨a1, c1, vs, rfl, hvo, hc1, hc2⟩ := hv.open
      rw [ht_len] at hvo hc1 ⊢
      obtain ⟨N, hN⟩ : ∃ N, N = m.length + 1 := ⟨_, rfl⟩
      rw [← hN] at hvo hc1 ⊢
      have HN := Lib.hid hN
      have Hvo := Lib.hid (hvo.base HB.out)
      have Hb2 := Lib.hid (Hb.out.trans (hb2.mono HB.out))
      have HB2 := Lib.hid Hb2.out.size
      clear hN hvo hb2 hv
      have Hcr := Lib.hid (good_crn Hg.out)
      have Hcall := Lib.hid (heWay_htT HN.out hn Hcr.out Hinn.out Hvo.out)
      go_wp2_with fail
      refine Hcall.out.mono ?_
      rintro e w3 ⟨rfl, hb3⟩
      have hvo3 := Hvo.out.below hb3
      have Hvo3 := Lib.hid hvo3
      have Hb3 := Lib.hid (Hb2.out.trans (hb3.mono HB2.out))
      have HB3 := Lib.hid Hb3.out.size
      obtain ⟨b, o, g, cr, z, rfl, hBg, hz0, hz6, hst⟩ := flip_store HN.out hn Hcr.out Hinn.out hvo3
      obtain ⟨f1, f2, f3, hfin⟩ := hst w3 hvo3
      have hw := way_small (hOf (S2 m)) i j
      obtain ⟨y, hyy⟩ : ∃ y, y = way (hOf (S2 m)) i j := ⟨_, rfl⟩
      rw [← hyy] at hw hfin ⊢
      have Hyy := Lib.hid hyy
      have Hfin := Lib.hid hfin
      have HBg := Lib.hid hBg
      clear hvo3 hb3 hst hfin hyy hBg Hvo Hcall
      by_cases hy0 : y = 0
      · have hbq : (y == 0) = true := by simp [hy0]
        have Hy0 := Lib.hid hy0
        clear hy0
        go_wp2
        go_ret2
        exact ⟨MRes.no (frOk_no (by rw [run_one, if_neg (fun h => h.2 (by show way (hOf (S2 m)) i j = 0; rw [← Hyy.out]; exact Hy0.out))])), Hb3.out⟩
      · have hbq : (y == 0) = false := by simp [hy0]
        have Hy0 := Lib.hid hy0
        have k1 : IntKind.i64.wrap (2 * y) = 2 * y := w64 (by omega)
        have k2 : IntKind.i64.wrap (z + 2 * y) = z + 2 * y := w64 (by omega)
        have m1 : (i : Int) < N := by have := Hinn.out.2.1; have := HN.out; simp only at *; omega
        have m2 : (j : Int) < N := by have := Hinn.out.2.2.2; have := HN.out; simp only at *; omega
        have hrun : runC m.length (S2 m) [[(i : Int), (j : Int)]] = some (flipC (S2 m) i j) := by
          rw [run_one, if_pos ⟨Hok.out.symm, by show way (hOf (S2 m)) i j ≠ 0; rw [← Hyy.out]; exact Hy0.out⟩]
          rfl
        have Hrun := Lib.hid hrun
        have Hcr2 := Lib.hid (Hcr.out.tog (p := (i, j)) Hinn.out)
        have hm4 := Hfin.out.at (m := htT m.length (flipC (S2 m) i j)) (by rw [htT_len, HN.out])
        have hcall : ∀ w', (∃ q, w' = (w3.setCell ⟨g, j, none⟩ (.int .i64 (z + 2 * y))).drewN q) → Calls Try.prog 60 #[.slice (some ⟨b, o, none⟩) N c1] w' fun e w2 => ∃ v, e = .returned v ∧ OwnM w2 w'.heap.size v (frM m [[(i : Int), (j : Int)]]) ∧ Below w'.heap.size w' w2 := by
          rintro w' ⟨q, rfl⟩
          have h := heFrom_any (some ⟨b, o, none⟩) c1 m.length (flipC (S2 m) i j) ((w3.setCell ⟨g, j, none⟩ (.int .i64 (z + 2 * y))).drewN q) Hcr2.out hn1 hn hm4
          rw [← HN.out, ← frM_some hrun] at h
          exact h
        have Hcall := Lib.hid hcall
        have hb4 : ∀ q, Below w.heap.size w ((w3.setCell ⟨g, j, none⟩ (.int .i64 (z + 2 * y))).drewN q) := fun q => below_drewN (Hb3.out.setCell (p := ⟨g, j, none⟩) HBg.out _) q
        have Hb4 := Lib.hid hb4
        clear hy0 hrun hm4 hcall hb4 hw hz0 hz6
        go_wp2_with fail
        first
          | refine (Hcall.out _ ⟨0, rfl⟩).mono ?_
          | refine (Hcall.out _ ⟨1, rfl⟩).mono ?_
        rintro e w5 ⟨v, rfl, hv, hb5⟩
        have hq : ∀ q, Below ((w3.setCell ⟨g, j, none⟩ (.int .i64 (z + 2 * y))).drewN q).heap.size ((w3.setCell ⟨g, j, none⟩ (.int .i64 (z + 2 * y))).drewN q) w5 → Below w.heap.size w w5 := fun q h => (Hb4.out q).trans (h.mono (Hb4.out q).size)
        have Hv := Lib.hid (hv.base (Hb4.out 0).size)
        have Hb5 := Lib.hid (hq 0 hb5)
        clear hv hb5 hq
        go_wp2
        go_ret2
        exact ⟨MRes.yes (frOk_yes Hg.out (by simp) Hrun.out) Hv.out, Hb5.out⟩
  · have Hg := Lib.hid hg
    clear hg
    obtain rfl := ha.isnt Hg.out
    clear ha
    go_wp2
    go_ret2
    exact ⟨MRes.no (fun h => Hg.out h.1), Hb.out⟩
end Go.Proofs.Ytogkmfndfedfiaa

