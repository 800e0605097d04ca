/- Contracts: ratios; tables; PowerOf, by the model. Conditions: as each says. -/
import Derived.Test.YtmkldodkpijfjaaPoJ
import Derived.Test.YtmkldodkpijfjaaCnt
import Derived.Test.YtmkldodkpijfjaaL1
import Derived.Test.YtmkldodkpijfjaaSpecB
namespace Go.Proofs.Ytmkldodkpijfjaa
open Go.RowKit

set_option maxRecDepth 100000 in
set_option maxHeartbeats 1600000 in
theorem weRatio_any (p q : Nat) (w : World) (hq0 : 0 < q) (hp : p ≤ 4000000000000000000) (hq : q ≤ 4000000000000000000) :
    Calls Try.prog 37 #[.int .i64 (p : Int), .int .i64 (q : Int)] w fun e w' => e = .returned (.agg (rtA (nrm p q))) ∧ Below w.heap.size w w' := by
  have hg0 := (nrm_parts (p := p) hq0).1
  have hgl : Nat.gcd p q ≤ q := Nat.gcd_le_right _ hq0
  have C := Lib.hid (fun w => sgGcd_any q p w hp hq)
  have CA := Lib.hid (show ∀ w, Calls Try.prog 54 #[.int .i64 (p : Int)] w fun e w' => e = .returned (.int .i64 (p : Int)) ∧ w' = w from fun w => by
    have := l1Abs_any (p : Int) w (by omega) (by omega)
    rw [show max (p : Int) (-(p : Int)) = (p : Int) by omega] at this
    exact this)
  have H1 := Lib.hid (show (p : Int) / (Nat.gcd p q : Nat) = ((nrm p q).1 : Int) from by unfold nrm; rw [Int.natCast_ediv])
  have H2 := Lib.hid (show (q : Int) / (Nat.gcd p q : Nat) = ((nrm p q).2 : Int) from by unfold nrm; rw [Int.natCast_ediv])
  have hl := nrm_le p q
  obtain ⟨g, hg⟩ : ∃ g, g = Nat.gcd p q := ⟨_, rfl⟩
  rw [← hg] at hg0 hgl C H1 H2
  obtain ⟨r, hr⟩ : ∃ r, r = nrm p q := ⟨_, rfl⟩
  rw [← hr] at H1 H2 hl ⊢
  obtain ⟨r1, r2⟩ := r
  simp only at H1 H2 hl
  clear hg hr
  have hgz : ¬ g = 0 := by omega
  have hw1 : IntKind.i64.wrap (r1 : Int) = (r1 : Int) := w64 (by omega)
  have hw2 : IntKind.i64.wrap (r2 : Int) = (r2 : Int) := w64 (by omega)
  go_enter Try.func37, Try.ntmps37
  go_upto_region 1 with (refine wpList_allocT rfl 25 rfl _ _ Try.info_rt ?_)
  generalize hW : World.alloc w _ = w1
  have HR := Lib.hid (show RtAt w1 w.heap.size (0, 0) by rw [← hW]; exact RtAt.new w (0, 0))
  have HB := Lib.hid (show Below w.heap.size w w1 by rw [← hW]; exact (Below.refl _ w).alloc (Nat.le_refl _) _)
  clear hW
  go_wp2_with fail
  refine (CA.out _).mono ?_
  rintro e w2 ⟨rfl, rfl⟩
  go_wp2_with fail
  refine (C.out _).mono ?_
  rintro e w3 ⟨rfl, rfl⟩
  have h1 := H1.out
  have h2 := H2.out
  clear C CA
  go_wp2
  refine wp_region_still_tail 6 (by kernel_rfl) (by kernel_rfl) ?_
  simp only [List.take_succ_cons, List.take_zero, List.drop_succ_cons, List.drop_zero]
  repeat still_step
  refine wpStill_nil ?_
  have HR3 := Lib.hid (show RtAt w2.drew w.heap.size (0, 0) from HR.out)
  change wpList _ _ _ _ _ w2.drew
  go_wp2_with (first | (refine wpList_buildRn rfl 25 _ rfl [(0, .int .i64 (r1 : Int)), (1, .int .i64 (r2 : Int))] rfl (rtA (r1, r2)) (Try.built_rt _ _) ?_) | (refine wpList_storeG rfl 25 _ _ rfl _ (rtA (r1, r2)) _ rfl rfl HR3.out (Try.size_rt _) (rt_same _ _) (rt_one _) ?_))
  have HR2 := Lib.hid (HR3.out.setRow (r1, r2))
  have HB2 := Lib.hid (below_setRowT (below_drewN HB.out 1) (Nat.le_refl _) (rtA (r1, r2)))
  refine bodyPost_ret (v := .agg (rtA (r1, r2))) ?_ rfl ⟨rfl, HB2.out⟩
  exact results_cell_one rfl _ _ w.heap.size _ rfl (Try.load_rt HR2.out)

set_option maxRecDepth 100000 in
set_option maxHeartbeats 800000 in
theorem weSide_any (n : Int) (w : World) : Calls Try.prog 35 #[.int .i64 n] w fun e w' => Ans (1 ≤ n ∧ n ≤ 4) e ∧ w = w' := by
  go_enter Try.func35, Try.ntmps35
  go_wp2_with fail
  refine (l1In_any n 1 4 w).mono ?_
  rintro e w2 ⟨⟨b, rfl, hb⟩, rfl⟩
  have Hb := Lib.hid hb
  clear hb
  go_wp2
  go_ret
  exact ⟨⟨b, rfl, Hb.out⟩, rfl⟩

set_option maxRecDepth 100000 in
set_option maxHeartbeats 1600000 in
theorem weTable_any (ao : Option Addr) (c : Nat) (t : List (List Int)) (w : World) (hs : Small t) (ht : MatAt w ao t) :
    Calls Try.prog 19 #[.slice ao t.length c] w fun e w' => Ans (isTab t) e ∧ w = w' := by
  have hmx : t.length ≤ 9223372036854775807 := by have := hs.1; omega
  have Hs := Lib.hid hs.2
  have Ht := Lib.hid ht
  clear hs ht
  go_enter Try.func19, Try.ntmps19
  go_wp2_with fail
  refine (weSide_any (t.length : Int) w).mono ?_
  rintro e w1 ⟨ha, rfl⟩
  by_cases h4 : 1 ≤ t.length ∧ t.length ≤ 4
  · have H4 := Lib.hid h4
    obtain rfl := ha.is ⟨by omega, by omega⟩
    clear ha
    go_wp2
    go_loop [11] (fun i => ∃ k : Nat, k ≤ t.length ∧ i = .int .i64 k ∧ ∀ j, j < k → (gr t j).length = t.length ∧ allIn (gr t j) 1 4) (fun i => t.length - (intOf i).toNat)
    case atStart => exact ⟨0, Nat.zero_le _, rfl, fun j hj => absurd hj (by omega)⟩
    case round =>
      obtain ⟨k, hk, rfl, hd⟩ := hrel
      have Hd := Lib.hid hd
      clear hd
      by_cases hlt : k < t.length
      · obtain ⟨b1, o1, r1, d1, rfl, hc1, hx1, _, _⟩ := Ht.out k hlt
        have hs1 := Hs.out k hlt
        by_cases hl : (gr t k).length = t.length
        · rw [hl] at hc1
          have C := Lib.hid (l1All_any r1 d1 (gr t k) 1 4 w hs1 hx1)
          rw [hl] at C
          have HL := Lib.hid hl
          have hne : ((t.length : Int) != (t.length : Int)) = false := by simp
          clear hx1 hl hs1
          go_wp2_with fail
          refine C.out.mono ?_
          rintro e w3 ⟨ha, rfl⟩
          by_cases hin : allIn (gr t k) 1 4
          · have Hin := Lib.hid hin
            clear hin
            obtain rfl := ha.is Hin.out
            clear ha
            go_wp2
            go_round
            case rel =>
              refine ⟨k + 1, by omega, by go_num, fun j hj => ?_⟩
              by_cases e : j = k
              · subst e; exact ⟨HL.out, Hin.out⟩
              · exact Hd.out j (by omega)
            case measure => simp [intOf]; omega
          · have Hin := Lib.hid hin
            clear hin
            obtain rfl := ha.isnt Hin.out
            clear ha
            go_wp2
            go_ret
            exact ⟨Ans.no fun h => Hin.out (h.2 k hlt).2, rfl⟩
        · have HL := Lib.hid hl
          have hne : (((gr t k).length : Int) != (t.length : Int)) = true := by simp; omega
          have hgx : (gr t k).length ≤ 9223372036854775807 := by omega
          clear hx1 hl hs1
          go_wp2
          go_ret
          exact ⟨Ans.no fun h => HL.out (h.2 k hlt).1, rfl⟩
      · obtain rfl : k = t.length := by omega
        go_wp2
        go_ret
        exact ⟨Ans.yes ⟨H4.out, fun i hi => Hd.out i hi⟩, rfl⟩
  · have H4 := Lib.hid h4
    obtain rfl := ha.isnt (fun h => by omega)
    clear ha h4
    go_wp2
    go_ret
    exact ⟨Ans.no fun h => H4.out h.1, rfl⟩
end Go.Proofs.Ytmkldodkpijfjaa
