/- Contract of the program: the loops of a sign matrix. Conditions: a sign matrix. -/
import Derived.Test.YteakdbmdokleoaaLoopA
namespace Go.Proofs.Yteakdbmdokleoaa
open Go.RowKit

/-- two tables that a call owns, one behind the other -/
structure OwnL (w : World) (B H : Nat) (n gA gD : Nat) (mA mD : List (List Int)) (vsA vsD : List Value) : Prop where
  A : OwnP w B (.slice (some ⟨gA, 0, none⟩) n n) n mA n vsA
  D : OwnP w H (.slice (some ⟨gD, 0, none⟩) (n + 1) (n + 1)) (n + 1) mD (n + 1) vsD
  le : B ≤ H
  top : gA < H
  rows : ∀ i, i < n → ∀ g, (vsA.getD i undef).ownBlock = some g → g < H
theorem OwnL.below {w w' : World} {B H n gA gD : Nat} {mA mD : List (List Int)} {vsA vsD : List Value} (h : OwnL w B H n gA gD mA mD vsA vsD) (hb : Below w.heap.size w w') : OwnL w' B H n gA gD mA mD vsA vsD :=
  ⟨h.A.below hb, h.D.below hb, h.le, h.top, h.rows⟩
theorem OwnL.base {w : World} {B B' H n gA gD : Nat} {mA mD : List (List Int)} {vsA vsD : List Value} (h : OwnL w B H n gA gD mA mD vsA vsD) (hB : B' ≤ B) : OwnL w B' H n gA gD mA mD vsA vsD :=
  ⟨h.A.base hB, h.D, Nat.le_trans hB h.le, h.top, h.rows⟩

set_option maxRecDepth 100000 in
set_option maxHeartbeats 3200000 in
theorem loopsOf_any (ao : Option Addr) (c : Nat) (m : List (List Int)) (w : World) (hg : good m) (hm : MatAt w ao m) :
    Calls Try.prog 78 #[.slice ao m.length c] w fun e w' => ∃ gA gD H vsA vsD, e = .returned (.agg (lp m.length (.slice (some ⟨gA, 0, none⟩) m.length m.length) (.slice (some ⟨gD, 0, none⟩) (m.length + 1) (m.length + 1)))) ∧
      OwnL w' w.heap.size H m.length gA gD (acrT m) (dwnT m) vsA vsD ∧ H ≤ w'.heap.size ∧ Below w.heap.size w w' := by
  have hn := hg.1.2.1
  have hn1 := hg.1.1
  obtain ⟨n, hnn⟩ : ∃ n, n = m.length := ⟨_, rfl⟩
  obtain ⟨N, hN⟩ : ∃ N : Nat, (n : Int) + 1 = (N : Int) := ⟨n + 1, by omega⟩
  have hNn : N = n + 1 := by omega
  have Hg := Lib.hid hg
  have Hm := Lib.hid hm
  have Hnn := Lib.hid hnn
  rw [← hnn] at hn hn1 ⊢
  have HacrT := Lib.hid (show acrT m = tab n N (acr m) by unfold acrT; rw [← hnn, hNn])
  have HdwnT := Lib.hid (show dwnT m = tab N n (dwn m) by unfold dwnT; rw [← hnn, hNn])
  rw [← hNn]
  have HNn := Lib.hid hNn
  have hNb : N ≤ 7 := by omega
  clear hg hm hnn hNn
  go_enter Try.func78, Try.ntmps78
  go_wp2_with (refine wpList_allocT rfl 25 rfl _ _ Try.info_loops ?_)
  generalize hW : World.alloc w _ = w1
  have hR : LpAt w1 w.heap.size 0 nilS nilS := by rw [← hW]; exact heap_alloc_new w _
  have hB1 : Below w.heap.size w w1 := by rw [← hW]; exact (Below.refl _ _).alloc (Nat.le_refl _) _
  have hs1 : w1.heap.size = w.heap.size + 1 := by rw [← hW]; simp
  have HR := Lib.hid hR
  have HB1 := Lib.hid hB1
  have Hs1 := Lib.hid hs1
  clear hW hR hB1 hs1
  refine (newTable_any n N w1 (by omega) (by omega)).mono ?_
  rintro e w2 ⟨vsA, rfl, hA, hb2⟩
  have HA := Lib.hid hA
  have HR2 := Lib.hid (HR.out.below hb2)
  have HB2 := Lib.hid (HB1.out.trans (hb2.mono HB1.out.size))
  have Hz2 := Lib.hid hb2.size
  have Hrw := Lib.hid (fun i (hi : i < n) g hg => ((hA.rows i hi).lt g hg).2)
  have Htop := Lib.hid (hA.top.lt w1.heap.size rfl).2
  clear hA hb2 HR
  go_wp2_with fail
  refine (newTable_any N n w2 (by omega) (by omega)).mono ?_
  rintro e w3 ⟨vsD, rfl, hD, hb3⟩
  have HA3 := Lib.hid (HA.out.below hb3)
  have HD := Lib.hid hD
  have HR3 := Lib.hid (HR2.out.below hb3)
  have HB3 := Lib.hid (HB2.out.trans (hb3.mono HB2.out.size))
  have Hz3 := Lib.hid hb3.size
  have Hrd := Lib.hid (fun i (hi : i < N) g hg => ((hD.rows i hi).lt g hg).2)
  clear hD hb3 HR2 HA
  go_upto_region 3 with (first
    | (refine wpList_allocT rfl 25 rfl _ _ Try.info_loops ?_)
    | (refine wpList_storeT rfl 25 _ _ rfl (lp n (.slice (some ⟨w1.heap.size, 0, none⟩) n n) (.slice (some ⟨w2.heap.size, 0, none⟩) N N)) (lp 0 nilS nilS) w3.heap.size rfl rfl rfl (Try.size_loops _ _ _) rfl (lp_one _ _ _ _ _ _ _) ?_))
  generalize hW : World.alloc w3 _ = w4
  have hL : LpAt w4 w3.heap.size n (.slice (some ⟨w1.heap.size, 0, none⟩) n n) (.slice (some ⟨w2.heap.size, 0, none⟩) N N) := by rw [← hW]; exact heap_alloc_new w3 _
  have hb4 : Below w3.heap.size w3 w4 := by rw [← hW]; exact (Below.refl _ _).alloc (Nat.le_refl _) _
  obtain ⟨gA, hgA⟩ : ∃ gA, gA = w1.heap.size := ⟨_, rfl⟩
  obtain ⟨gD, hgD⟩ : ∃ gD, gD = w2.heap.size := ⟨_, rfl⟩
  obtain ⟨gL, hgL⟩ : ∃ gL, gL = w3.heap.size := ⟨_, rfl⟩
  obtain ⟨gR, hgR⟩ : ∃ gR, gR = w.heap.size := ⟨_, rfl⟩
  have hsz := Hs1.out
  have hz2 := Hz2.out
  have hz3 := Hz3.out
  rw [← hgA, ← hgD, ← hgL] at hL
  have HL := Lib.hid hL
  have HA4 := Lib.hid (show OwnP w4 gA (.slice (some ⟨gA, 0, none⟩) n n) n (tab n N fun _ _ => 0) n vsA by rw [hgA]; exact HA3.out.below hb4)
  have HD4 := Lib.hid (show OwnP w4 gD (.slice (some ⟨gD, 0, none⟩) N N) N (tab N n fun _ _ => 0) N vsD by rw [hgD]; exact HD.out.below hb4)
  have HR4 := Lib.hid (show LpAt w4 gR 0 nilS nilS by rw [hgR]; exact HR3.out.below hb4)
  have HB4 := Lib.hid (show Below gR w w4 by rw [hgR]; exact HB3.out.trans (hb4.mono HB3.out.size))
  have HrA := Lib.hid (show ∀ i, i < n → ∀ g, (vsA.getD i undef).ownBlock = some g → g < gD by rw [hgD]; exact Hrw.out)
  have HrD := Lib.hid (show ∀ i, i < N → ∀ g, (vsD.getD i undef).ownBlock = some g → g < gL by rw [hgL]; exact Hrd.out)
  have hord : gR < gA ∧ gA < gD ∧ gD ≤ gL := ⟨by omega, by rw [hgA, hgD]; exact Htop.out, by omega⟩
  have Hord := Lib.hid hord
  have HgR := Lib.hid hgR
  have Hwl := Lib.hid (show gR ≤ w4.heap.size by rw [hgR]; exact (show Below w.heap.size w w4 by rw [← hgR]; exact HB4.out).size)
  rw [← hgA, ← hgD, ← hgL]
  clear hW hb4 hL HA3 HD HR3 HB3 Hz2 Hz3 Hs1 HB1 HB2 Hrw Hrd Htop hgA hgD hgL hsz hz2 hz3 hord
  have hc1 := HL.out.c1
  go_wp2
  clear hc1
  go_loopw [27] (fun i wr => ∃ (k : Nat) (f : Nat → Nat → Int), k ≤ n ∧ i = .int .i64 k ∧ OwnP wr gA (.slice (some ⟨gA, 0, none⟩) n n) n (tab n N f) n vsA ∧ (∀ a b, a < k → b < N → f a b = acr m a b) ∧
      OwnP wr gD (.slice (some ⟨gD, 0, none⟩) N N) N (tab N n fun _ _ => 0) N vsD ∧ LpAt wr gL n (.slice (some ⟨gA, 0, none⟩) n n) (.slice (some ⟨gD, 0, none⟩) N N) ∧ LpAt wr gR 0 nilS nilS ∧ Below gR w wr) (fun i _ => n - (intOf i).toNat)
  case atStart => exact ⟨0, _, Nat.zero_le _, rfl, HA4.out, fun a b ha _ => absurd ha (by omega), HD4.out, HL.out, HR4.out, HB4.out⟩
  case round =>
    obtain ⟨k, f, hk, rfl, hA, hf, hD, hL, hR, hb⟩ := hrel
    obtain ⟨wo, rfl⟩ : ∃ wo : World, wo = wr := ⟨_, rfl⟩
    clear HA4 HD4 HL HR4
    by_cases hlt : k < n
    · have hd := hA.cellAt k hlt
      obtain ⟨gk, ck, hvk, _, _, hgk, _⟩ := hA.at2 (j := 0) hlt (by omega)
      rw [hvk] at hd
      have Hvk := Lib.hid hvk
      have HA := Lib.hid hA
      have Hf := Lib.hid hf
      have HD := Lib.hid hD
      have HL := Lib.hid hL
      have HR := Lib.hid hR
      have Hb := Lib.hid hb
      clear hA hf hD hL hR hb hvk
      go_wp2
      go_loopw [34] (fun i wr => ∃ (t : Nat) (f : Nat → Nat → Int), t ≤ N ∧ i = .int .i64 t ∧ OwnP wr gA (.slice (some ⟨gA, 0, none⟩) n n) n (tab n N f) n vsA ∧ (∀ a b, a < k → b < N → f a b = acr m a b) ∧ (∀ b, b < t → f k b = acr m k b) ∧
          OwnP wr gD (.slice (some ⟨gD, 0, none⟩) N N) N (tab N n fun _ _ => 0) N vsD ∧ LpAt wr gL n (.slice (some ⟨gA, 0, none⟩) n n) (.slice (some ⟨gD, 0, none⟩) N N) ∧ LpAt wr gR 0 nilS nilS ∧ Below gR w wr) (fun i _ => N - (intOf i).toNat)
      case atStart => exact ⟨0, f, Nat.zero_le _, rfl, HA.out, Hf.out, fun b hb => absurd hb (by omega), HD.out, HL.out, HR.out, Hb.out⟩
      case round =>
        obtain ⟨t, f, ht, rfl, hA, hf, hft, hD, hL, hR, hb⟩ := hrel
        clear HA Hf HD HL HR Hb
        by_cases htl : t < N
        · obtain ⟨g2, c2, hv2, hd2, hf2, hg2, hst⟩ := hA.at2 hlt htl
          rw [Hvk.out] at hv2
          obtain ⟨rfl, rfl⟩ : gk = g2 ∧ ck = c2 := by
            simp only [Value.slice.injEq, Option.some.injEq, Addr.mk.injEq, and_true, true_and] at hv2
            exact hv2
          have hgk2 : gk < gD := HrA.out k hlt gk (by rw [Hvk.out]; rfl)
          have hmk := (Hm.out.below (show Below w.heap.size w wr by rw [← HgR.out]; exact hb)) k (by rw [← Hnn.out]; exact hlt)
          obtain ⟨bm, om, rm, dm, em, hcm, hxm, hdm1, hdm2⟩ := hmk
          have hline := Hg.out.2.1 k (by rw [← Hnn.out]; exact hlt)
          have hrl := Hg.out.1.2.2 k (by rw [← Hnn.out]; exact hlt)
          rw [← Hnn.out] at hrl
          have hcall := sumTake_any rm dm (gr m k) t wr (by omega) hline (by omega) hxm
          have hsb := hline.1 t (by omega)
          rw [hrl] at hcm
          obtain ⟨s, hs⟩ : ∃ s, s = sumK (gr m k) t := ⟨_, rfl⟩
          rw [← hs] at hcall hsb
          have hval : acr m k t = (s + k + t + 1) % 2 := by unfold acr; rw [← hs]
          have Hval := Lib.hid hval
          have Hst := Lib.hid (hst ((s + k + t + 1) % 2))
          have Hf := Lib.hid hf
          have Hft := Lib.hid hft
          have HD := Lib.hid (hD.setBelow (a := ⟨gk, t, none⟩) hgk2 (.int .i64 ((s + k + t + 1) % 2)))
          have HL := Lib.hid (hL.other (a := ⟨gk, t, none⟩) (by have := Hord.out; show gk ≠ gL; omega) (.int .i64 ((s + k + t + 1) % 2)))
          have HR := Lib.hid (hR.other (a := ⟨gk, t, none⟩) (by have := Hord.out; show gk ≠ gR; omega) (.int .i64 ((s + k + t + 1) % 2)))
          have Hb := Lib.hid (hb.setCell (p := ⟨gk, t, none⟩) (by have := Hord.out; show gR ≤ gk; omega) (.int .i64 ((s + k + t + 1) % 2)))
          have Hcall := Lib.hid hcall
          have hdm3 : n ≤ dm := by omega
          subst em
          clear hA hf hft hD hL hR hb hst hv2 hline hcall hs hval hxm hrl hdm1 hgk hg2 hgk2 hd
          go_wp2_with fail
          refine Hcall.out.mono ?_
          rintro e w5 ⟨rfl, rfl⟩
          go_wp2
          go_roundw
          case rel =>
            refine ⟨t + 1, _, by omega, by go_num, Hst.out, fun a b ha hb => ?_, fun b hb => ?_, HD.out, HL.out, HR.out, Hb.out⟩
            · rw [if_neg (fun h => by omega)]
              exact Hf.out a b ha hb
            · by_cases e : b = t
              · subst e; rw [if_pos ⟨rfl, rfl⟩, Hval.out]
              · rw [if_neg (fun h => e h.2)]
                exact Hft.out b (by omega)
          case measure => simp [intOf]; omega
        · have Et := Lib.hid (show t = N by omega)
          have HA := Lib.hid hA
          have Hf := Lib.hid hf
          have Hft := Lib.hid hft
          have HD := Lib.hid hD
          have HL := Lib.hid hL
          have HR := Lib.hid hR
          have Hb := Lib.hid hb
          clear hA hf hft hD hL hR hb
          go_wp2
          go_roundw
          case rel =>
            refine ⟨k + 1, f, by omega, by go_num, HA.out, fun a b ha hb => ?_, HD.out, HL.out, HR.out, Hb.out⟩
            by_cases e : a = k
            · subst e; exact Hft.out b (by rw [Et.out]; exact hb)
            · exact Hf.out a b (by omega) hb
          case measure => simp [intOf]; omega
    · have Ek := Lib.hid (show k = n by omega)
      have HA := Lib.hid (show OwnP wo gA (.slice (some ⟨gA, 0, none⟩) n n) n (acrT m) n vsA by
        rw [HacrT.out]
        have e : tab n N (acr m) = tab n N f := eq_tab (tab_len _ _ _) (fun i hi => tab_row hi) (fun i j hi hj => by rw [gi_tab hi hj]; exact (hf i j (by rw [Ek.out]; exact hi) hj).symm)
        rw [e]
        exact hA)
      have HD := Lib.hid hD
      have HL := Lib.hid hL
      have HR := Lib.hid hR
      have Hb := Lib.hid hb
      have Hbs := Lib.hid hb.size
      have Hmo := Lib.hid (Hm.out.below (show Below w.heap.size w wo by rw [← HgR.out]; exact hb))
      clear hA hf hD hL hR hb
      have htr := transposed_any ao c m wo Hg.out.1 Hmo.out
      rw [← Hnn.out] at htr
      have Htr := Lib.hid htr
      clear htr
      go_wp2_with fail
      refine Htr.out.mono ?_
      rintro e w6 ⟨vt, rfl, hvt, hb6⟩
      obtain ⟨ta, tc', vsT, rfl, hmt, _, _⟩ := hvt.open
      have Hlt := Lib.hid (show (tr m).length = n by rw [tr_len, Hnn.out])
      have Hmt := Lib.hid hmt
      have HA6 := Lib.hid (HA.out.below hb6)
      have HD6 := Lib.hid (HD.out.below hb6)
      have HL6 := Lib.hid (HL.out.below hb6)
      have HR6 := Lib.hid (HR.out.below hb6)
      have Hb6 := Lib.hid (Hb.out.trans (hb6.mono (by rw [HgR.out]; exact Hbs.out)))
      have Hz6 := Lib.hid hb6.size
      have HLo := Lib.hid HL.out.lt
      rw [Hlt.out]
      clear hvt hmt hb6 HA HD HL HR Hb Htr
      have hc2 := HL6.out.c2
      go_wp2
      clear hc2
      go_loopw [60] (fun i wr => ∃ (k : Nat) (f : Nat → Nat → Int), k ≤ N ∧ i = .int .i64 k ∧ OwnP wr gD (.slice (some ⟨gD, 0, none⟩) N N) N (tab N n f) N vsD ∧ (∀ a b, a < k → b < n → f a b = dwn m a b) ∧
          OwnP wr gA (.slice (some ⟨gA, 0, none⟩) n n) n (acrT m) n vsA ∧ LpAt wr gL n (.slice (some ⟨gA, 0, none⟩) n n) (.slice (some ⟨gD, 0, none⟩) N N) ∧ LpAt wr gR 0 nilS nilS ∧ Below gR w wr ∧ OwnP wr wo.heap.size (.slice ta n tc') n (tr m) n vsT) (fun i _ => N - (intOf i).toNat)
      case atStart => exact ⟨0, _, Nat.zero_le _, rfl, HD6.out, fun a b ha _ => absurd ha (by omega), HA6.out, HL6.out, HR6.out, Hb6.out, by have h := Hmt.out; rw [Hlt.out] at h; exact h⟩
      case round =>
        obtain ⟨k, f, hk, rfl, hD, hf, hA, hL, hR, hb, hT⟩ := hrel
        obtain ⟨wp, rfl⟩ : ∃ wp : World, wp = wr := ⟨_, rfl⟩
        clear HA6 HD6 HL6 HR6 Hb6
        by_cases hlt : k < N
        · have hd := hD.cellAt k hlt
          obtain ⟨gk, ck, hvk, _, _, hgk, _⟩ := hD.at2 (j := 0) hlt (by omega)
          have hgk3 := ((hD.rows k hlt).lt gk (by rw [hvk]; rfl)).1
          rw [hvk] at hd
          have Hvk := Lib.hid hvk
          have HA := Lib.hid hA
          have Hf := Lib.hid hf
          have HD := Lib.hid hD
          have HL := Lib.hid hL
          have HR := Lib.hid hR
          have Hb := Lib.hid hb
          have HT := Lib.hid hT
          clear hA hf hD hL hR hb hT hvk
          go_wp2
          go_loopw [67] (fun i wr => ∃ (t : Nat) (f : Nat → Nat → Int), t ≤ n ∧ i = .int .i64 t ∧ OwnP wr gD (.slice (some ⟨gD, 0, none⟩) N N) N (tab N n f) N vsD ∧ (∀ a b, a < k → b < n → f a b = dwn m a b) ∧ (∀ b, b < t → f k b = dwn m k b) ∧
              OwnP wr gA (.slice (some ⟨gA, 0, none⟩) n n) n (acrT m) n vsA ∧ LpAt wr gL n (.slice (some ⟨gA, 0, none⟩) n n) (.slice (some ⟨gD, 0, none⟩) N N) ∧ LpAt wr gR 0 nilS nilS ∧ Below gR w wr ∧ OwnP wr wo.heap.size (.slice ta n tc') n (tr m) n vsT) (fun i _ => n - (intOf i).toNat)
          case atStart => exact ⟨0, f, Nat.zero_le _, rfl, HD.out, Hf.out, fun b hb => absurd hb (by omega), HA.out, HL.out, HR.out, Hb.out, HT.out⟩
          case round =>
            obtain ⟨t, f, ht, rfl, hD, hf, hft, hA, hL, hR, hb, hT⟩ := hrel
            clear HA Hf HD HL HR Hb HT
            by_cases htl : t < n
            · obtain ⟨g2, c2, hv2, hd2, hf2, hg2, hst⟩ := hD.at2 hlt htl
              rw [Hvk.out] at hv2
              obtain ⟨rfl, rfl⟩ : gk = g2 ∧ ck = c2 := by
                simp only [Value.slice.injEq, Option.some.injEq, Addr.mk.injEq, and_true, true_and] at hv2
                exact hv2
              have hgk2 : gk < gL := HrD.out k hlt gk (by rw [Hvk.out]; rfl)
              obtain ⟨bm, om, rm, dm, em, hcm, _, hum, hdm1, hdm2⟩ := hT.rowAt htl
              have hxm := own_at hum
              have hline := Hg.out.2.2 t (by rw [tr_len, ← Hnn.out]; exact htl)
              have hrl : (gr (tr m) t).length = n := by rw [tr_row (by rw [← Hnn.out]; exact htl), Hnn.out]
              have hcall := sumTake_any rm dm (gr (tr m) t) k wr (by omega) hline (by omega) hxm
              have hsb := hline.1 k (by omega)
              rw [hrl] at hcm
              obtain ⟨s, hs⟩ : ∃ s, s = sumK (gr (tr m) t) k := ⟨_, rfl⟩
              rw [← hs] at hcall hsb
              have hval : dwn m k t = (s + k + t) % 2 := by unfold dwn; rw [← hs]
              have Hval := Lib.hid hval
              have Hst := Lib.hid (hst ((s + k + t) % 2))
              have Hf := Lib.hid hf
              have Hft := Lib.hid hft
              have HA := Lib.hid (hA.setApart (a := ⟨gk, t, none⟩) (by have := Hord.out; intro h; simp [Value.ownBlock] at h; omega) (fun i hi h => by have := HrA.out i hi gk h; omega) (.int .i64 ((s + k + t) % 2)))
              have HL := Lib.hid (hL.other (a := ⟨gk, t, none⟩) (by show gk ≠ gL; omega) (.int .i64 ((s + k + t) % 2)))
              have HR := Lib.hid (hR.other (a := ⟨gk, t, none⟩) (by have := Hord.out; show gk ≠ gR; omega) (.int .i64 ((s + k + t) % 2)))
              have Hb := Lib.hid (hb.setCell (p := ⟨gk, t, none⟩) (by have := Hord.out; show gR ≤ gk; omega) (.int .i64 ((s + k + t) % 2)))
              have HT := Lib.hid (hT.setBelow (a := ⟨gk, t, none⟩) (by have := HLo.out; show gk < wo.heap.size; omega) (.int .i64 ((s + k + t) % 2)))
              have Hcall := Lib.hid hcall
              have hdm3 : n ≤ dm := by omega
              have hkn : k ≤ n := by omega
              subst em
              clear hA hf hft hD hL hR hb hT hst hv2 hline hcall hs hval hxm hum hrl hdm1 hgk hg2 hgk2 hgk3 hd
              go_wp2_with fail
              refine Hcall.out.mono ?_
              rintro e w5 ⟨rfl, rfl⟩
              go_wp2
              go_roundw
              case rel =>
                refine ⟨t + 1, _, by omega, by go_num, Hst.out, fun a b ha hb => ?_, fun b hb => ?_, HA.out, HL.out, HR.out, Hb.out, HT.out⟩
                · rw [if_neg (fun h => by omega)]
                  exact Hf.out a b ha hb
                · by_cases e : b = t
                  · subst e; rw [if_pos ⟨rfl, rfl⟩, Hval.out]
                  · rw [if_neg (fun h => e h.2)]
                    exact Hft.out b (by omega)
              case measure => simp [intOf]; omega
            · have Et := Lib.hid (show t = n by omega)
              have HA := Lib.hid hA
              have Hf := Lib.hid hf
              have Hft := Lib.hid hft
              have HD := Lib.hid hD
              have HL := Lib.hid hL
              have HR := Lib.hid hR
              have Hb := Lib.hid hb
              have HT := Lib.hid hT
              clear hA hf hft hD hL hR hb hT
              go_wp2
              go_roundw
              case rel =>
                refine ⟨k + 1, f, by omega, by go_num, HD.out, fun a b ha hb => ?_, HA.out, HL.out, HR.out, Hb.out, HT.out⟩
                by_cases e : a = k
                · subst e; exact Hft.out b (by rw [Et.out]; exact hb)
                · exact Hf.out a b (by omega) hb
              case measure => simp [intOf]; omega
        · have Ek := Lib.hid (show k = N by omega)
          have HD := Lib.hid (show OwnP wp gD (.slice (some ⟨gD, 0, none⟩) N N) N (dwnT m) N vsD by
            rw [HdwnT.out]
            have e : tab N n (dwn m) = tab N n f := eq_tab (tab_len _ _ _) (fun i hi => tab_row hi) (fun i j hi hj => by rw [gi_tab hi hj]; exact (hf i j (by rw [Ek.out]; exact hi) hj).symm)
            rw [e]
            exact hD)
          have HA := Lib.hid hA
          have HL := Lib.hid hL
          have HR := Lib.hid (show LpAt wp w.heap.size 0 nilS nilS by rw [← HgR.out]; exact hR)
          have Hb := Lib.hid (show Below w.heap.size w wp by rw [← HgR.out]; exact hb)
          clear hA hf hD hL hR hb hT
          go_wp2_with (first | (refine wpList_loadG rfl 25 _ rfl _ rfl _ _ HL.out Try.underlying25 rfl (Try.size_loops _ _ _) ?_) | (refine wpList_storeG rfl 25 _ _ rfl w.heap.size (lp n (.slice (some ⟨gA, 0, none⟩) n n) (.slice (some ⟨gD, 0, none⟩) N N)) (lp 0 nilS nilS) rfl rfl HR.out (Try.size_loops _ _ _) rfl (lp_one _ _ _ _ _ _ _) ?_))
          have HR2 := Lib.hid (HR.out.setRow n (.slice (some ⟨gA, 0, none⟩) n n) (.slice (some ⟨gD, 0, none⟩) N N))
          have hsame : ∀ lo hi, w.heap.size < lo → Same lo hi wp (wp.setRow w.heap.size (lp n (.slice (some ⟨gA, 0, none⟩) n n) (.slice (some ⟨gD, 0, none⟩) N N))) := fun lo hi h g h1 _ => Go.setRow_other wp w.heap.size g _ (by omega)
          have hord := Hord.out
          have hgr := HgR.out
          refine bodyPost_ret (v := .agg (lp n (.slice (some ⟨gA, 0, none⟩) n n) (.slice (some ⟨gD, 0, none⟩) N N))) ?_ rfl ⟨gA, gD, gD, vsA, vsD, rfl, ⟨(HA.out.same (hsame _ _ (by omega))).base (by omega), ?_, by omega, by omega, HrA.out⟩, ?_, below_setRowT Hb.out (Nat.le_refl _) _⟩
          · exact results_cell_one rfl _ _ w.heap.size _ rfl (Try.load_loops HR2.out)
          · rw [← HNn.out]
            exact HD.out.same (hsame _ _ (by omega))
          · have := HL.out.lt
            simp [World.setRow]
            omega
end Go.Proofs.Yteakdbmdokleoaa
