/- The model's draw of a sign matrix by flips of corner sums: some table of N rows and N small numbers each. Conditions: N in 1..6; a cursor at a place that is small. -/
import Derived.Test.YtnhkclnloiiihaaKept
import Derived.Test.YtnhkclnloiiihaaFrm
import Derived.Test.YtnhkclnloiiihaaSpecB
namespace Go.Proofs.Ytnhkclnloiiihaa
open Go.RowKit

theorem l1Least_any (a b : Int) (w : World) : Calls Try.prog 207 #[.int .i64 a, .int .i64 b] w fun e w' => e = .returned (.int .i64 (min a b)) ∧ w' = w := by
  by_cases h : a < b
  · have e : min a b = a := by omega
    rw [e]
    clear e
    go_enter Try.func207, Try.ntmps207
    go_wp2
    go_ret
    exact ⟨rfl, rfl⟩
  · have e : min a b = b := by omega
    rw [e]
    clear e
    go_enter Try.func207, Try.ntmps207
    go_wp2
    go_ret
    exact ⟨rfl, rfl⟩

def Bnd (N : Nat) (B : Int) (f : Nat → Nat → Int) : Prop := ∀ i j, i < N → j < N → -B ≤ f i j ∧ f i j ≤ B
theorem Bnd.mono {N : Nat} {B C : Int} {f : Nat → Nat → Int} (h : Bnd N B f) (hC : B ≤ C) : Bnd N C f := fun i j hi hj => by have := h i j hi hj; omega
theorem Bnd.set {N : Nat} {B : Int} {f : Nat → Nat → Int} (h : Bnd N B f) (a b : Nat) {x : Int} (hx : -B ≤ x ∧ x ≤ B) : Bnd N B (fun i j => if i = a ∧ j = b then x else f i j) := fun i j hi hj => by
  show _ ≤ ite _ _ _ ∧ ite _ _ _ ≤ _
  split
  · exact hx
  · exact h i j hi hj
theorem Bnd.dm {N : Nat} {f : Nat → Nat → Int} (h : Bnd N 1000 f) (_hN : 1 ≤ N) : ∀ i j, i < N → j < N → -10000 ≤ gi (gr (dm (tab N N f)) i) j ∧ gi (gr (dm (tab N N f)) i) j ≤ 10000 := fun i j hi hj => by
  have hw : inWide (tab N N f) := fun i j hi hj => by rw [tab_len] at hi hj; rw [gi_tab hi hj]; exact h i j hi hj
  unfold Go.Proofs.Ytnhkclnloiiihaa.dm
  rw [tab_len, gi_tab hi hj]
  have r1 := atC_wide hw (i := i) (j := j) (by rw [tab_len]; omega) (by rw [tab_len]; omega)
  have r2 := atC_wide hw (i := (i : Int) - 1) (j := j) (by rw [tab_len]; omega) (by rw [tab_len]; omega)
  have r3 := atC_wide hw (i := i) (j := (j : Int) - 1) (by rw [tab_len]; omega) (by rw [tab_len]; omega)
  have r4 := atC_wide hw (i := (i : Int) - 1) (j := (j : Int) - 1) (by rw [tab_len]; omega) (by rw [tab_len]; omega)
  unfold df
  omega
theorem square_tab {N : Nat} (h1 : 1 ≤ N) (h6 : N ≤ 6) (f : Nat → Nat → Int) : square (tab N N f) := ⟨by rw [tab_len]; exact h1, by rw [tab_len]; exact h6, fun i hi => by rw [tab_len] at hi ⊢; exact tab_row hi⟩
theorem square_dm {m : List (List Int)} (h : square m) : square (dm m) := ⟨by rw [dm_len]; exact h.1, by rw [dm_len]; exact h.2.1, fun i hi => by rw [dm_len] at hi ⊢; exact tab_row hi⟩

/-- a table of N rows of N small numbers -/
structure SqN (N : Nat) (M : List (List Int)) : Prop where
  len : M.length = N
  row : ∀ i, i < N → (gr M i).length = N
  bd : ∀ i j, i < N → j < N → -10000 ≤ gi (gr M i) j ∧ gi (gr M i) j ≤ 10000

set_option maxRecDepth 100000 in
set_option maxHeartbeats 3200000 in
theorem curSure_any (w0 : World) (g : Nat) (a : Option Addr) (n c k : Nat) (s : Int) (N : Nat) (w : World) (hN1 : 1 ≤ N) (hN : N ≤ 6) (hn : n ≤ 9223372036854775807) (hk : k ≤ 900000000) (hB : BytesIn w0 a n) (hb0 : Below w0.heap.size w0 w) (hg : w0.heap.size ≤ g) (hC : CurAt w g a n c k s) :
    Calls Try.prog 193 #[.pointer (some ⟨g, 0, none⟩), .int .i64 (N : Int)] w fun e w' => ∃ v M k' s', e = .returned v ∧ OwnM w' w.heap.size v M ∧ SqN N M ∧ k' ≤ k + 400 ∧ CurAt w' g a n c k' s' ∧ Kept g w w' := by
  have hNm : N ≤ 9223372036854775807 := by omega
  have HB := Lib.hid hB
  have Hb0 := Lib.hid hb0
  have HC := Lib.hid hC
  have Hglt := Lib.hid hC.lt
  have Hsz := Lib.hid hb0.size
  clear hB hb0 hC
  go_enter Try.func193, Try.ntmps193
  go_wp2_with fail
  refine (sgZero_any N w (by omega)).mono ?_
  rintro e w1 ⟨v, rfl, hv, hb⟩
  obtain ⟨oa, oc, vs, rfl, hp, _, _⟩ := hv.open
  rw [tab_len] at hp ⊢
  obtain ⟨og, rfl, hog⟩ : ∃ g, oa = some ⟨g, 0, none⟩ ∧ w.heap.size ≤ g := by
    rcases hp.top.2 with ⟨h0, h1⟩ | ⟨g, cap, cur, hv2, hg2, _⟩
    · exact absurd h1 (by omega)
    · simp only [Value.slice.injEq] at hv2
      exact ⟨g, hv2.1, hg2⟩
  have Hv := Lib.hid hp
  have Hb := Lib.hid hb
  have HC1 := Lib.hid (HC.out.below hb)
  clear hv hp hb HC
  go_wp2
  go_loopw [16] (fun i wr => ∃ (t : Nat) (f : Nat → Nat → Int), t ≤ N ∧ i = .int .i64 t ∧ OwnP wr w.heap.size (.slice (some ⟨og, 0, none⟩) N oc) N (tab N N f) N vs ∧ Bnd N 10 f ∧ Kept g w wr ∧ CurAt wr g a n c k s) (fun i _ => N - (intOf i).toNat)
  case atStart => exact ⟨0, _, Nat.zero_le _, rfl, Hv.out, fun i j _ _ => by show (-10 : Int) ≤ 0 ∧ (0 : Int) ≤ 10; decide, kept_of Hb.out g, HC1.out⟩
  case round =>
    obtain ⟨t, f, ht, rfl, hown, hbd, hbr, hcu⟩ := hrel
    have Hown := Lib.hid hown
    have Hbd := Lib.hid hbd
    have Hbr := Lib.hid hbr
    have Hcu := Lib.hid hcu
    obtain ⟨wo, rfl⟩ : ∃ wo : World, wo = wr := ⟨_, rfl⟩
    clear Hv HC1 hown hbd hbr hcu
    by_cases hlt : t < N
    · go_wp2
      go_loopw [21] (fun i wr => ∃ (u : Nat) (f : Nat → Nat → Int), u ≤ N ∧ i = .int .i64 u ∧ OwnP wr w.heap.size (.slice (some ⟨og, 0, none⟩) N oc) N (tab N N f) N vs ∧ Bnd N 10 f ∧ Kept g w wr ∧ CurAt wr g a n c k s) (fun i _ => N - (intOf i).toNat)
      case atStart => exact ⟨0, f, Nat.zero_le _, rfl, Hown.out, Hbd.out, Hbr.out, Hcu.out⟩
      case round =>
        obtain ⟨u, f, hu, rfl, hown, hbd, hbr, hcu⟩ := hrel
        clear Hown Hbd Hbr Hcu
        by_cases hul : u < N
        · have hd := hown.cellAt t hlt
          obtain ⟨gq, cap, hvs, hd2, hf2, hgq, hst⟩ := hown.at2 hlt hul
          rw [hvs] at hd
          have c1 := l1Least_any (t : Int) (u : Int) wr.drew
          have hxb : 0 ≤ min (t : Int) (u : Int) ∧ min (t : Int) (u : Int) ≤ 6 := by omega
          generalize min (t : Int) (u : Int) = x at c1 hxb
          have k1 : IntKind.i64.wrap (x + 1) = x + 1 := w64 (by omega)
          have C1 := Lib.hid c1
          have Hst := Lib.hid (hst (x + 1))
          have Hbd := Lib.hid (hbd.set t u (x := x + 1) (by omega))
          have Hbr := Lib.hid ((hbr.setCell (p := ⟨gq, u, none⟩) hgq (.int .i64 (x + 1))))
          have Hcu := Lib.hid (hcu.setElse (p := ⟨gq, u, none⟩) (by have := Hglt.out; simp; omega) (.int .i64 (x + 1)))
          have hdD := cellD hd
          have hd2D := cellD hd2
          clear hown hbd hbr hcu hst hvs c1 hgq hxb
          go_upto_region 8 with (fail)
          refine wp_region_still_tail 10 (by kernel_rfl) (by kernel_rfl) ?_
          simp only [List.take_succ_cons, List.take_zero, List.drop_succ_cons, List.drop_zero]
          repeat still_step
          still_call C1.out
          repeat still_step
          refine wpStill_nil ?_
          change wpList _ _ _ _ _ wr.drew
          clear hdD hd2D k1
          go_wp2
          go_roundw
          case rel => exact ⟨u + 1, _, by omega, by go_num, Hst.out.drew, Hbd.out, Hbr.out.drew, Hcu.out.drew⟩
          case measure => simp [intOf]; omega
        · obtain rfl : u = N := by omega
          have Hown := Lib.hid hown
          have Hbd := Lib.hid hbd
          have Hbr := Lib.hid hbr
          have Hcu := Lib.hid hcu
          clear hown hbd hbr hcu
          go_wp2
          go_roundw
          case rel => exact ⟨t + 1, f, by omega, by go_num, Hown.out, Hbd.out, Hbr.out, Hcu.out⟩
          case measure => simp [intOf]; omega
    · obtain rfl : N = t := by omega
      have hP : 3 * N * N ≤ 108 := Nat.mul_le_mul (Nat.mul_le_mul_left 3 hN) hN
      have hP1 : 1 ≤ 3 * N * N := Nat.le_trans (by decide) (Nat.mul_le_mul (Nat.mul_le_mul_left 3 hN1) hN1)
      have hw2 : wrap64 (3 * (N : Int) * (N : Int)) = ((3 * N * N : Nat) : Int) := by rw [show (3 : Int) * (N : Int) * (N : Int) = ((3 * N * N : Nat) : Int) from by rw [Int.natCast_mul, Int.natCast_mul]; rfl]; unfold wrap64; omega
      obtain ⟨P, hPe⟩ : ∃ P, P = 3 * N * N := ⟨_, rfl⟩
      rw [← hPe] at hP hP1 hw2
      have CP := Lib.hid (curPick_any g a n c k P s wo hn (by omega) hP1 (by omega) (HB.out.below (Hbr.out.below Hb0.out hg Hsz.out)) Hcu.out)
      clear hPe hlt
      go_wp2_with fail
      refine CP.out.mono ?_
      rintro e w2 ⟨q, k1, s1, rfl, hq, hk1, hC2, hO⟩
      have Hown2 := Lib.hid (Hown.out.only hO (fun b hb => by subst hb; exact Hglt.out))
      have Hbr2 := Lib.hid (Hbr.out.trans hO.kept)
      have HC2 := Lib.hid hC2
      clear hC2 hO CP Hown Hbr Hcu hw2
      go_wp2
      go_loopw [8] (fun i wr => ∃ (q : Nat) (f : Nat → Nat → Int) (k2 : Nat) (s2 : Int), q ≤ 107 ∧ i = .int .i64 q ∧ OwnP wr w.heap.size (.slice (some ⟨og, 0, none⟩) N oc) N (tab N N f) N vs ∧ Bnd N (200 - q) f ∧ Kept g w wr ∧ CurAt wr g a n c k2 s2 ∧ k2 + 3 * q ≤ k + 330) (fun i _ => (intOf i).toNat)
      case atStart => exact ⟨q, f, k1, s1, by omega, rfl, Hown2.out, Hbd.out.mono (by omega), Hbr2.out, HC2.out, by omega⟩
      case round =>
        obtain ⟨q, f, k2, s2, hq7, rfl, hown, hbd, hbr, hcu, hk2⟩ := hrel
        have Hown := Lib.hid hown
        have Hbd := Lib.hid hbd
        have Hbr := Lib.hid hbr
        have Hcu := Lib.hid hcu
        clear Hown2 Hbr2 HC2 hown hbd hbr hcu
        by_cases hgo : 0 < q ∧ 1 < N
        · obtain ⟨hq0, hN2⟩ := hgo
          have hqz : (0 : Int) < (q : Int) := by omega
          have hNz : (1 : Int) < (N : Int) := by omega
          have hn1 : IntKind.i64.wrap ((N : Int) - 1) = ((N - 1 : Nat) : Int) := by rw [w64 (by omega)]; omega
          have hq1 : IntKind.i64.wrap ((q : Int) - 1) = ((q - 1 : Nat) : Int) := by rw [w64 (by omega)]; omega
          have CP := Lib.hid (curPick_any g a n c k2 (N - 1) s2 wr hn (by omega) (by omega) (by omega) (HB.out.below (Hbr.out.below Hb0.out hg Hsz.out)) Hcu.out)
          go_wp2_with fail
          refine CP.out.mono ?_
          rintro e w3 ⟨i, k3, s3, rfl, hi, hk3, hC3, hO⟩
          have Hown3 := Lib.hid (Hown.out.only hO (fun b hb => by subst hb; exact Hglt.out))
          have Hbr3 := Lib.hid (Hbr.out.trans hO.kept)
          have CP2 := Lib.hid (curPick_any g a n c k3 (N - 1) s3 w3 hn (by omega) (by omega) (by omega) (HB.out.below (Hbr3.out.below Hb0.out hg Hsz.out)) hC3)
          clear hC3 hO CP Hown Hbr Hcu
          go_wp2_with fail
          refine CP2.out.mono ?_
          rintro e w4 ⟨j, k4, s4, rfl, hj, hk4, hC4, hO⟩
          have Hown4 := Lib.hid (Hown3.out.only hO (fun b hb => by subst hb; exact Hglt.out))
          have Hbr4 := Lib.hid (Hbr3.out.trans hO.kept)
          have CP := Lib.hid (curPick_any g a n c k4 2 s4 w4 hn (by omega) (by omega) (by omega) (HB.out.below (Hbr4.out.below Hb0.out hg Hsz.out)) hC4)
          clear hC4 hO CP2 Hown3 Hbr3
          go_wp2_with fail
          refine CP.out.mono ?_
          rintro e w5 ⟨d, k5, s5, rfl, hd2, hk5, hC5, hO⟩
          have hown := Hown4.out.only hO (fun b hb => by subst hb; exact Hglt.out)
          have hbr := Hbr4.out.trans hO.kept
          obtain ⟨step, hstep, hst1⟩ : ∃ st : Int, st = 2 * (d : Int) - 1 ∧ (st = 1 ∨ st = -1) := ⟨_, rfl, by omega⟩
          have hs1 : IntKind.i64.wrap (2 * (d : Int)) = 2 * (d : Int) := w64 (by omega)
          have hs2 : IntKind.i64.wrap (2 * (d : Int) - 1) = step := by rw [w64 (by omega), hstep]
          have hiN : i < N := by omega
          have hjN : j < N := by omega
          have hcd := hown.cellAt i hiN
          obtain ⟨gq, cap, hvs, hc2, hf2, hgq, hst⟩ := hown.at2 hiN hjN
          rw [hvs] at hcd
          have hxb := Hbd.out i j hiN hjN
          obtain ⟨x, hx⟩ : ∃ x, x = f i j := ⟨_, rfl⟩
          rw [← hx] at hc2 hxb
          have hx1 : IntKind.i64.wrap (x + step) = x + step := w64 (by omega)
          have hx2 : IntKind.i64.wrap (x + step - step) = x := by rw [w64 (by omega)]; omega
          have Hx := Lib.hid hx
          have Hstep := Lib.hid hstep
          have Hxb := Lib.hid hxb
          have Hst := Lib.hid (hst (x + step))
          have Hbr5 := Lib.hid (hbr.setCell (p := ⟨gq, j, none⟩) hgq (.int .i64 (x + step)))
          have HC5 := Lib.hid (hC5.setElse (p := ⟨gq, j, none⟩) (by have := Hglt.out; simp; omega) (.int .i64 (x + step)))
          have Hgq := Lib.hid hgq
          have Hvs := Lib.hid hvs
          clear hC5 hO CP Hown4 Hbr4 hown hbr hst hvs hx hstep hxb hgq
          go_wp2_with fail
          generalize hW : World.setCell _ _ _ = w6
          rw [hW] at Hst Hbr5 HC5
          have C := sgFromW_any (some ⟨og, 0, none⟩) oc (tab N N fun a b => if a = i ∧ b = j then x + step else f a b) w6 (square_tab hN1 hN _) (fun a b ha hb => by
            rw [tab_len] at ha hb
            rw [gi_tab ha hb]
            have h1 := Hbd.out a b ha hb
            have h2 := Hxb.out
            split <;> omega) (Hst.out.at (tab_len _ _ _))
          rw [tab_len] at C
          have C := Lib.hid C
          clear hW hcd hc2 hf2 hs1 hs2 hx1
          refine C.out.mono ?_
          rintro e w7 ⟨v, rfl, hv, hb7⟩
          obtain ⟨da, dc, rfl, _, _, hm7⟩ := hv.read
          have hsq := square_dm (square_tab hN1 hN (fun a b => if a = i ∧ b = j then x + step else f a b))
          have C2 := sgGood_any da dc _ w7 hsq.small hm7
          have hown7 := Lib.hid (Hst.out.below hb7)
          have hbr7 := Lib.hid (Hbr5.out.trans (kept_of hb7 g))
          have hC7 := Lib.hid (HC5.out.below hb7)
          have C2 := Lib.hid C2
          have hbd7 : Bnd N (200 - ((q - 1 : Nat) : Int)) (fun a b => if a = i ∧ b = j then x + step else f a b) := (Hbd.out.mono (by omega)).set i j (by have := Hxb.out; omega)
          have Hbd7 := Lib.hid hbd7
          generalize dm (tab N N fun a b => if a = i ∧ b = j then x + step else f a b) = D at C2 ⊢
          clear hv hb7 hm7 hsq C Hst Hbr5 HC5 hbd7
          go_wp2_with fail
          refine C2.out.mono ?_
          rintro e w8 ⟨ha, hb8⟩
          have Hown8 := Lib.hid (hown7.out.below hb8)
          have Hbr8 := Lib.hid (hbr7.out.trans (kept_of hb8 g))
          have HC8 := Lib.hid (hC7.out.below hb8)
          clear hb8 C2 hown7 hbr7 hC7
          rcases ha.gives with ⟨_, rfl⟩ | ⟨_, rfl⟩
          · clear ha
            go_wp2
            go_roundw
            case rel => exact ⟨q - 1, _, k5, s5, by omega, rfl, Hown8.out, Hbd7.out, Hbr8.out, HC8.out, by omega⟩
            case measure => simp [intOf]; omega
          · clear ha
            have hcd := Hown8.out.cellAt i hiN
            obtain ⟨gq2, cap2, hvs2, hc2, hf2, hgq2, hst2⟩ := Hown8.out.at2 hiN hjN
            rw [hvs2] at hcd
            rw [if_pos ⟨rfl, rfl⟩] at hc2
            have Hst := Lib.hid (hst2 x)
            have Hbr9 := Lib.hid (Hbr8.out.setCell (p := ⟨gq2, j, none⟩) hgq2 (.int .i64 x))
            have HC9 := Lib.hid (HC8.out.setElse (p := ⟨gq2, j, none⟩) (by have := Hglt.out; simp; omega) (.int .i64 x))
            have Hbd9 := Lib.hid (Hbd7.out.set i j (x := x) (by have := Hxb.out; omega))
            have hxw : wrap64 x = x := by have := Hxb.out; unfold wrap64; omega
            clear hvs2 hgq2 hst2 Hown8 Hbr8 HC8 Hbd7
            go_wp2
            go_roundw
            case rel => exact ⟨q - 1, _, k5, s5, by omega, rfl, Hst.out, Hbd9.out, Hbr9.out, HC9.out, by omega⟩
            case measure => simp [intOf]; omega
        · have C := sgFromW_any (some ⟨og, 0, none⟩) oc (tab N N f) wr (square_tab hN1 hN _) (fun a b ha hb => by
            rw [tab_len] at ha hb
            rw [gi_tab ha hb]
            have h1 := Hbd.out a b ha hb
            omega) (Hown.out.at (tab_len _ _ _))
          rw [tab_len] at C
          have C := Lib.hid C
          have HD := Lib.hid (show SqN N (dm (tab N N f)) from ⟨by rw [dm_len, tab_len], fun i hi => by have h := (square_dm (square_tab hN1 hN f)).2.2 i (by rw [dm_len, tab_len]; exact hi); rwa [dm_len, tab_len] at h, (Hbd.out.mono (by omega)).dm hN1⟩)
          have Hsz2 := Lib.hid Hbr.out.size
          by_cases hq0 : 0 < q
          · have hqz : (0 : Int) < (q : Int) := by omega
            have hNz : ¬ (1 : Int) < (N : Int) := by omega
            go_wp2_with fail
            refine C.out.mono ?_
            rintro e w7 ⟨v, rfl, hv, hb7⟩
            have hbr7 := Lib.hid (Hbr.out.trans (kept_of hb7 g))
            have hC7 := Lib.hid (Hcu.out.below hb7)
            have Hv := Lib.hid (hv.base Hsz2.out)
            clear hv hb7 C
            go_wp2
            go_ret
            exact ⟨_, _, k2, s2, rfl, Hv.out, HD.out, by omega, hC7.out, hbr7.out⟩
          · have hqz : ¬ (0 : Int) < (q : Int) := by omega
            go_wp2_with fail
            refine C.out.mono ?_
            rintro e w7 ⟨v, rfl, hv, hb7⟩
            have hbr7 := Lib.hid (Hbr.out.trans (kept_of hb7 g))
            have hC7 := Lib.hid (Hcu.out.below hb7)
            have Hv := Lib.hid (hv.base Hsz2.out)
            clear hv hb7 C
            go_wp2
            go_ret
            exact ⟨_, _, k2, s2, rfl, Hv.out, HD.out, by omega, hC7.out, hbr7.out⟩
end Go.Proofs.Ytnhkclnloiiihaa
