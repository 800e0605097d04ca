/- Parts of proofs: contracts and plain facts. Conditions: as each says. -/
import Derived.Test.YtogkmfndfedfiaaK37
namespace Go.Proofs.Ytogkmfndfedfiaa
open Go.RowKit

/-- two numbers that a slice holds, in every later world -/
theorem two_at {w : World} {r : Option Addr} {x y : Int} (h : IntsAt w r [x, y]) : ∃ b o, r = some ⟨b, o, none⟩ ∧ ∀ w', Below w.heap.size w w' → w'.cell? ⟨b, o, none⟩ = some (.int .i64 x) ∧ w'.cell? ⟨b, o + 1, none⟩ = some (.int .i64 y) := by
  obtain ⟨b, o, rfl, hc0⟩ := h 0 (by simp)
  obtain ⟨b', o', e', hc1⟩ := h 1 (by simp)
  simp only [Option.some.injEq, Addr.mk.injEq, and_true] at e'
  obtain ⟨rfl, rfl⟩ := e'
  simp only [gi, List.getD_cons_zero, List.getD_cons_succ, Nat.add_zero] at hc0 hc1
  exact ⟨b, o, rfl, fun w' hb => ⟨cell_below hc0 hb, cell_below hc1 hb⟩⟩

set_option maxRecDepth 100000 in
set_option maxHeartbeats 3200000 in
theorem specFollowFlips_any (ao : Option Addr) (cp : Nat) (m : List (List Int)) (bo : Option Addr) (d : Nat) (path : List (List Int)) (w : World) (hs : Small m) (hm : MatAt w ao m) (hs2 : Small path) (hk : MatAt w bo path) :
    Calls Try.prog 26 #[.slice ao m.length cp, .slice bo path.length d] w fun e w' => MRes (frOk m path) (frM m path) w' w.heap.size e ∧ Below w.heap.size w w' := by
  have hpl := hs2.1
  have Hs := Lib.hid hs
  have Hm := Lib.hid hm
  have Hk := Lib.hid hk
  clear hs hm hk hs2
  go_enter Try.func26, Try.ntmps26
  go_wp2_with fail
  refine (sgGood_any ao cp m w Hs.out Hm.out).mono ?_
  rintro e w1 ⟨ha, hb⟩
  have Hb := Lib.hid hb
  have HB := Lib.hid hb.size
  clear hb
  by_cases hg : good m
  · have Hg := Lib.hid hg
    have hn := hg.1.2.1
    have hn1 := hg.1.1
    clear hg
    obtain rfl := ha.is Hg.out
    clear ha
    by_cases hl : 200 < path.length
    · have hlt : (200 : Int) < (path.length : Int) := by omega
      have Hl := Lib.hid hl
      clear hl
      go_wp2
      go_ret2
      exact ⟨MRes.no (fun h => by have := h.2.1; have := Hl.out; omega), Hb.out⟩
    · have hlt : ¬ (200 : Int) < (path.length : Int) := by omega
      have Hl := Lib.hid hl
      clear hl
      go_wp2_with fail
      refine (heOf_any ao cp m w1 Hg.out (Hm.out.below Hb.out)).mono ?_
      rintro e w2 ⟨v, rfl, hv, hb2⟩
      obtain ⟨a1, c1, vs, rfl, hvo, hc1, hc2⟩ := hv.open
      rw [ht_len] at hvo hc1 ⊢
      obtain ⟨N, hN⟩ : ∃ N, N = m.length + 1 := ⟨_, rfl⟩
      rw [← hN] at hvo hc1 ⊢
      have HN := Lib.hid hN
      have Hvo := Lib.hid (hvo.base HB.out)
      have Hb2 := Lib.hid (Hb.out.trans (hb2.mono HB.out))
      clear hN hvo hb2 hv hlt
      go_wp2
      go_loopw [22] (fun i wr => ∃ (k : Nat) (cc : Nat → Nat → Int), k ≤ path.length ∧ i = .int .i64 k ∧ runC m.length (S2 m) (path.take k) = some cc ∧ OwnP wr w.heap.size (.slice a1 N c1) N (htT m.length cc) N vs ∧ Below w.heap.size w wr) (fun i _ => path.length - (intOf i).toNat)
      case atStart => exact ⟨0, S2 m, Nat.zero_le _, rfl, rfl, Hvo.out, Hb2.out⟩
      case round =>
        obtain ⟨k, cc, hk, rfl, hrun, hown, hbr⟩ := hrel
        have Hrun := Lib.hid hrun
        have Hcr := Lib.hid (runC_crn _ _ _ (good_crn Hg.out) hrun)
        have Hown := Lib.hid hown
        have Hbr := Lib.hid hbr
        have HZr := Lib.hid hbr.size
        clear hrun hown Hvo Hb2
        by_cases hlt : k < path.length
        · obtain ⟨b, o, r, rc, rfl, hrow, hr, _, _⟩ := (Hk.out.below hbr) k hlt
          obtain ⟨row, hrw⟩ : ∃ row, row = gr path k := ⟨_, rfl⟩
          rw [← hrw] at hrow hr
          have Hrw := Lib.hid hrw
          have Hr := Lib.hid hr
          clear hrw hr hbr
          by_cases hl2 : row.length = 2
          · obtain ⟨x, y, rfl⟩ : ∃ x y, row = [x, y] := ⟨_, _, two_of_len' hl2⟩
            simp only [List.length_cons, List.length_nil, Nat.zero_add, Nat.reduceAdd] at hrow
            obtain ⟨ok, hok⟩ : ∃ ok, ok = okB m.length x y := ⟨_, rfl⟩
            have Hok := Lib.hid hok
            obtain ⟨b2, o2, rfl, hcells⟩ := two_at Hr.out
            obtain ⟨f0, f1⟩ := hcells wr (Below.refl _ _)
            have Hcells := Lib.hid hcells
            have hcall := fun w' => heCell_any m.length x y w' hn1 hn
            rw [← hok] at hcall
            have Hcall := Lib.hid hcall
            clear hl2 hok hcall hcells
            go_upto_region 7 with fail
            go_quiet ((go_at_call 57; exact Calls.quiet_of_same (Hcall.out _)))
            generalize hW : World.drewN wr _ = wq
            have hbq : Below wr.heap.size wr wq := by rw [← hW]; exact below_drewN (Below.refl _ _) _
            obtain ⟨f0, f1⟩ := Hcells.out wq hbq
            have Hownq := Lib.hid (Hown.out.below hbq)
            have Hbq := Lib.hid (Hbr.out.trans (hbq.mono HZr.out))
            have HZq := Lib.hid Hbq.out.size
            have Hcq := Lib.hid (fun (w' : World) (hb : Below wq.heap.size wq w') => Hcells.out w' (hbq.trans (hb.mono hbq.size)))
            clear hW hbq Hown Hbr Hcells hrow
            cases ok
            · go_wp2
              go_ret2
              exact ⟨MRes.no (frOk_no (run_stop Hrun.out hlt (fun h => by have h2 := h.1; rw [← Hrw.out, okCell_okB rfl] at h2; have h3 : okB m.length x y = true := h2; rw [← Hok.out] at h3; cases h3))), Hbq.out⟩
            · obtain ⟨hx0, hx1, hy0, hy1⟩ := okB_true.1 Hok.out.symm
              obtain ⟨i, rfl⟩ : ∃ i : Nat, x = i := ⟨x.toNat, by omega⟩
              obtain ⟨j, rfl⟩ : ∃ j : Nat, y = j := ⟨y.toNat, by omega⟩
              have hinn : inn m.length (i, j) := ⟨by show 1 ≤ i; omega, by show i < m.length; omega, by show 1 ≤ j; omega, by show j < m.length; omega⟩
              have Hinn := Lib.hid hinn
              have Hcall := Lib.hid (fun w' (h : OwnP w' w.heap.size (.slice a1 N c1) N (htT m.length cc) N vs) => heWay_htT HN.out hn Hcr.out Hinn.out h)
              have Hown1 := Lib.hid (fun (w' : World) (hb : Below wq.heap.size wq w') => Hownq.out.below hb)
              clear hinn hx0 hx1 hy0 hy1
              go_upto_region 9 with fail
              go_region_with (go_at_call 59; refine (Hcall.out _ ?_).mono ?_; exact Hown1.out _ (below_drewN (Below.refl _ _) 1); rintro e w3 ⟨rfl, hb3⟩; have Hb3 := Lib.hid ((below_drewN (Below.refl wq.heap.size wq) 1).trans hb3); clear hb3)
              all_goals
                have hvo3 := Hown1.out w3 Hb3.out
                obtain ⟨g0, g1⟩ := Hcq.out w3 Hb3.out
                have Hbt := Lib.hid (Hbq.out.trans (Hb3.out.mono HZq.out))
                obtain ⟨b4, o4, g, cr, z, rfl, hBg, hz0, hz6, hst⟩ := flip_store HN.out hn Hcr.out Hinn.out hvo3
                obtain ⟨e1, e2, e3, hfin⟩ := hst w3 hvo3
                have hw := way_small (hOf cc) i j
                obtain ⟨y, hyy⟩ : ∃ y, y = way (hOf cc) i j := ⟨_, rfl⟩
                rw [← hyy] at hw hfin ⊢
                have Hyy := Lib.hid hyy
                have Hfin := Lib.hid hfin
                have HBg := Lib.hid hBg
                clear hvo3 hst hfin hyy hBg Hcall Hownq f0 f1
                by_cases hy0 : y = 0
                · have hbq : (y == 0) = true := by simp [hy0]
                  have Hy0 := Lib.hid hy0
                  clear hy0
                  go_wp2
                  go_ret2
                  exact ⟨MRes.no (frOk_no (run_stop Hrun.out hlt (fun h => h.2 (by rw [← Hrw.out]; show way (hOf cc) i j = 0; rw [← Hyy.out]; exact Hy0.out)))), Hbt.out⟩
                · have hbq : (y == 0) = false := by simp [hy0]
                  have k1 : IntKind.i64.wrap (2 * y) = 2 * y := w64 (by omega)
                  have k2 : IntKind.i64.wrap (z + 2 * y) = z + 2 * y := w64 (by omega)
                  have m1 : (i : Int) < N := by have := Hinn.out.2.1; have := HN.out; simp only at *; omega
                  have m2 : (j : Int) < N := by have := Hinn.out.2.2.2; have := HN.out; simp only at *; omega
                  have hstep : runC m.length (S2 m) (path.take (k + 1)) = some (flipC cc i j) := by
                    have h4 := run_step Hrun.out hlt (by rw [← Hrw.out, okCell_okB rfl]; exact Hok.out.symm) (by rw [← Hrw.out]; show way (hOf cc) i j ≠ 0; rw [← Hyy.out]; exact hy0)
                    rw [← Hrw.out] at h4
                    simpa [gi] using h4
                  have Hstep := Lib.hid hstep
                  clear hy0 hstep hw hz0 hz6
                  go_upto_region 12 with fail
                  go_region_with (fail)
                  all_goals
                    go_wp2
                    go_roundw
                    case rel => exact ⟨k + 1, _, by omega, by go_num, Hstep.out, Hfin.out.drew, below_drewN (Hbt.out.setCell (p := ⟨g, j, none⟩) HBg.out _) 1⟩
                    case measure => simp [intOf]; omega
          · have Hl2 := Lib.hid hl2
            have hb2 : ((row.length : Int) != 2) = true := by simp; omega
            clear hl2
            go_upto_region 7 with fail
            go_quiet (fail)
            generalize hW : World.drewN wr _ = wq
            have hbq : Below wr.heap.size wr wq := by rw [← hW]; exact below_drewN (Below.refl _ _) _
            have Hbq := Lib.hid (Hbr.out.trans (hbq.mono HZr.out))
            clear hW hbq
            go_wp2
            go_ret2
            exact ⟨MRes.no (frOk_no (run_stop Hrun.out hlt (fun h => Hl2.out (by rw [Hrw.out]; exact h.1.1)))), Hbq.out⟩
        · obtain rfl : k = path.length := by omega
          have hrun2 : runC m.length (S2 m) path = some cc := by have := Hrun.out; rwa [List.take_length] at this
          have Hrun2 := Lib.hid hrun2
          have hcall := heFrom_any a1 c1 m.length cc wr Hcr.out hn1 hn (Hown.out.at (by rw [htT_len, HN.out]))
          rw [← HN.out, ← frM_some hrun2] at hcall
          have Hcall := Lib.hid hcall
          clear hrun2 hcall hbr
          go_wp2_with fail
          refine Hcall.out.mono ?_
          rintro e w4 ⟨v, rfl, hv, hb4⟩
          have Hv := Lib.hid (hv.base HZr.out)
          have Hb4 := Lib.hid (Hbr.out.trans (hb4.mono HZr.out))
          clear hv hb4
          go_wp2
          go_ret2
          exact ⟨MRes.yes (frOk_yes Hg.out (by have := Hl.out; omega) Hrun2.out) Hv.out, Hb4.out⟩
  · have Hg := Lib.hid hg
    clear hg
    obtain rfl := ha.isnt Hg.out
    clear ha
    go_wp2
    go_ret2
    exact ⟨MRes.no (fun h => Hg.out h.1), Hb.out⟩
end Go.Proofs.Ytogkmfndfedfiaa

