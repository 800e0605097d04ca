/- Contract of the model: the loops of a sign matrix. Condition: a sign matrix. -/
import Derived.Test.YteakdbmdokleoaaLoopA
namespace Go.Proofs.Yteakdbmdokleoaa
open Go.RowKit

def rowOf (f : Nat → Int) (k : Nat) : List Int := (List.range k).map f
theorem rowOf_succ (f : Nat → Int) (k : Nat) : rowOf f (k + 1) = rowOf f k ++ [f k] := by simp [rowOf, List.range_succ]
theorem rowOf_len (f : Nat → Int) (k : Nat) : (rowOf f k).length = k := by simp [rowOf]
theorem tab_succ (k c : Nat) (f : Nat → Nat → Int) : tab (k + 1) c f = tab k c f ++ [rowOf (f k) c] := by simp [tab, List.range_succ, rowOf]
theorem LpAt.grown {w w' : World} {g : Nat} {n : Int} {A D : Value} (h : LpAt w g n A D) {row : Option Nat} (hg : w.grownBy w' row) (hr : ∀ k, row = some k → k ≠ g) : LpAt w' g n A D :=
  h.same (hg.block g h.lt (fun e => hr g e.symm rfl))

set_option maxRecDepth 100000 in
set_option maxHeartbeats 6400000 in
theorem loOf_any (ao : Option Addr) (c : Nat) (m : List (List Int)) (w : World) (hg : good m) (hm : MatAt w ao m) :
    Calls Try.prog 76 #[.slice ao m.length c] w fun e w' => ∃ aA cA aD cD, (e = .returned (.agg (lp m.length (.slice aA m.length cA) (.slice aD (m.length + 1) cD)))) ∧
      (∃ vsA, OwnP w' w.heap.size (.slice aA m.length cA) m.length (acrT m) m.length vsA) ∧ (∃ vsD, OwnP w' w.heap.size (.slice aD (m.length + 1) cD) (m.length + 1) (dwnT m) (m.length + 1) vsD) ∧ Below w.heap.size w w' := by
  have hn := hg.1.2.1
  have hn1 := hg.1.1
  obtain ⟨n, hnn⟩ : ∃ n, n = m.length := ⟨_, rfl⟩
  obtain ⟨N, hN⟩ : ∃ N : Nat, N = n + 1 := ⟨n + 1, by omega⟩
  have Hg := Lib.hid hg
  have Hm := Lib.hid hm
  have Hnn := Lib.hid hnn
  rw [← hnn] at hn hn1 ⊢
  have HacrT := Lib.hid (show acrT m = tab n N (acr m) by unfold acrT; rw [← hnn, hN])
  have HdwnT := Lib.hid (show dwnT m = tab N n (dwn m) by unfold dwnT; rw [← hnn, hN])
  rw [← hN]
  have HNn := Lib.hid hN
  have hNa : N ≤ n + 1 := by omega
  have hNb : n + 1 ≤ N := by omega
  obtain ⟨i0, hi, hz0, hz1, hz2⟩ := info_parts Try.info_int
  obtain ⟨j0, hj, hy0, hy1, hy2⟩ := info_parts Try.info_ints
  clear hg hm hnn hN
  go_enter Try.func76, Try.ntmps76
  go_upto_region 1 with (refine wpList_allocT rfl 25 rfl _ _ Try.info_loops ?_)
  generalize hW : World.alloc w _ = w0
  obtain ⟨gR, hgR⟩ : ∃ gR, gR = w.heap.size := ⟨_, rfl⟩
  have hR0 : LpAt w0 gR 0 nilS nilS := by rw [← hW, hgR]; exact heap_alloc_new w _
  have hB0 : Below gR w w0 := by rw [← hW, hgR]; exact (Below.refl _ _).alloc (Nat.le_refl _) _
  have hs0 : w0.heap.size = gR + 1 := by rw [← hW, hgR]; simp
  rw [← hgR]
  clear hW
  go_upto_region 3 with (first
    | (refine wpList_allocT rfl 25 rfl _ _ Try.info_loops ?_)
    | (refine wpList_storeT rfl 25 _ _ rfl (lp n nilS nilS) (lp 0 nilS nilS) w0.heap.size rfl rfl rfl (Try.size_loops _ _ _) rfl (lp_one _ _ _ _ _ _ _) ?_))
  generalize hW : World.alloc w0 _ = w1
  obtain ⟨gL, hgL⟩ : ∃ gL, gL = w0.heap.size := ⟨_, rfl⟩
  have hL : LpAt w1 gL n nilS nilS := by rw [← hW, hgL]; exact heap_alloc_new w0 _
  have hb01 : Below w0.heap.size w0 w1 := by rw [← hW]; exact (Below.refl _ _).alloc (Nat.le_refl _) _
  have hR := hR0.below hb01
  have hB := hB0.trans (hb01.mono (by omega))
  have hs1 : w1.heap.size = gL + 1 := by rw [← hW, hgL]; simp
  clear hR0 hB0 hb01
  have hRL : gL = gR + 1 := by omega
  have HgR := Lib.hid hgR
  rw [← hgL]
  have HL := Lib.hid hL
  have HR := Lib.hid hR
  have HB := Lib.hid hB
  have Hs1 := Lib.hid hs1
  have HRL := Lib.hid hRL
  clear hW hL hR hB hs1 hs0 hgL hRL hgR
  go_wp2
  go_loopw [23] (fun i wr => ∃ (k : Nat) (vA : Value), k ≤ n ∧ i = .int .i64 k ∧ OwnM wr (gL + 1) vA (tab k N (acr m)) ∧ LpAt wr gL n vA nilS ∧ LpAt wr gR 0 nilS nilS ∧ Below gR w wr ∧ gL + 1 ≤ wr.heap.size) (fun i _ => n - (intOf i).toNat)
  case atStart => exact ⟨0, nilS, Nat.zero_le _, rfl, OwnM.nil _ _, HL.out, HR.out, HB.out, by rw [Hs1.out]; exact Nat.le_refl _⟩
  case round =>
    obtain ⟨k, vA, hk, rfl, hA, hL, hR, hb, hsz⟩ := hrel
    obtain ⟨wo, rfl⟩ : ∃ wo : World, wo = wr := ⟨_, rfl⟩
    clear HL HR HB
    have Hmw := Lib.hid (Hm.out.below (show Below w.heap.size w wo by rw [← HgR.out]; exact hb))
    by_cases hlt : k < n
    · obtain ⟨bm, om, rm, dm, rfl, hcm, hxm, _, _⟩ := Hmw.out k (by rw [← Hnn.out]; exact hlt)
      have hline := Hg.out.2.1 k (by rw [← Hnn.out]; exact hlt)
      have hrl := Hg.out.1.2.2 k (by rw [← Hnn.out]; exact hlt)
      rw [← Hnn.out] at hrl
      rw [hrl] at hcm
      have HA := Lib.hid hA
      have HL := Lib.hid hL
      have HR := Lib.hid hR
      have Hb := Lib.hid hb
      have Hxm := Lib.hid hxm
      have Hline := Lib.hid hline
      have Hrl := Lib.hid hrl
      clear hA hL hR hb hxm hline hrl
      go_wp2
      go_loopw [7, 8, 9] (fun ac sv i wr => ∃ t : Nat, t ≤ N ∧ i = .int .i64 t ∧ sv = .int .i64 (sumK (gr m k) (min t n)) ∧ OwnI wr wo.heap.size ac (rowOf (acr m k) t) ∧ Below wo.heap.size wo wr) (fun _ _ i _ => N - (intOf i).toNat)
      case atStart => exact ⟨0, Nat.zero_le _, rfl, by rw [Nat.zero_min]; rfl, OwnI.nil _ _, Below.refl _ _⟩
      case round =>
        obtain ⟨t, ht, rfl, rfl, hac, hbw⟩ := hrel
        have Hac := Lib.hid hac
        have Hbw := Lib.hid hbw
        have HZ := Lib.hid hbw.size
        by_cases htl : t < N
        · have htn : min t n = t := by omega
          have hsb := Hline.out.1 t (by rw [Hrl.out]; omega)
          have hle : (t : Int) ≤ (n : Int) := by omega
          have Hval := Lib.hid (show acr m k t = (sumK (gr m k) t + k + t + 1) % 2 from rfl)
          have hsn := rowOf_succ (acr m k) t
          rw [htn]
          obtain ⟨s, hs⟩ : ∃ s, s = sumK (gr m k) t := ⟨_, rfl⟩
          have Hs := Lib.hid hs
          rw [← hs] at hsb Hval ⊢
          have hv2 : acr m k t = 1 - (s + k + t) % 2 := by rw [Hval.out]; omega
          rw [hv2] at hsn
          have Hsn := Lib.hid hsn
          have Hlen := Lib.hid (rowOf_len (acr m k) t)
          clear hac hbw hs hv2 hsn
          go_wp2_with (at_builtin; refine wpList_append_own _ rfl _ _ 42 rfl wo.heap.size 3 i0 (.int .i64 0) 1 8 Try.underlying42 hi hz0 hz1 hz2 rfl (by decide) _ _ _ rfl (World.ownsRow.alloc Hac.out _) ⟨wr.heap.size, 0, none⟩ 1 1 [.int .i64 (1 - (s + k + t) % 2)] rfl rfl ?c1 ?c2 ?c3 ?c4 ?c5 ?_)
          case c1 => exact cell_one_new _ _ _
          case c2 => intro u hu; simp at hu; subst hu; rfl
          case c3 => rw [Hlen.out]; unfold maxLen; omega
          case c4 => rw [Hlen.out]; omega
          case c5 => have := HZ.out; simp; omega
          intro v' w2 hown' hgrow _
          obtain ⟨ho2, hb2⟩ := Hac.out.snoc HZ.out hown' hgrow
          have Ho2 := Lib.hid ho2
          have Hb2 := Lib.hid (Hbw.out.trans hb2)
          have hrd := Hxm.out.below (Hbw.out.trans hb2)
          clear hown' hgrow ho2 hb2
          by_cases hjn : t < n
          · obtain ⟨b2, o2, rfl, hc2⟩ := hrd t (by rw [Hrl.out]; exact hjn)
            have hsb2 := Hline.out.1 (t + 1) (by rw [Hrl.out]; omega)
            have Hs2 := Lib.hid (show sumK (gr m k) (min (t + 1) n) = s + gi (gr m k) t by rw [show min (t + 1) n = t + 1 from by omega, Hs.out]; rfl)
            have hsb3 : 0 ≤ s + gi (gr m k) t ∧ s + gi (gr m k) t ≤ 1 := by rw [Hs.out]; exact hsb2
            obtain ⟨y, hy⟩ : ∃ y, y = gi (gr m k) t := ⟨_, rfl⟩
            rw [← hy] at hc2 Hs2 hsb3
            have hjn2 : (t : Int) < (n : Int) := by omega
            clear hrd hsb2 hy
            go_wp2
            go_roundw
            case rel => exact ⟨t + 1, by omega, by go_num, by rw [Hs2.out], by rw [Hsn.out]; exact Ho2.out, Hb2.out⟩
            case measure => simp [intOf]; omega
          · have hjn2 : ¬ (t : Int) < (n : Int) := by omega
            have Hs2 := Lib.hid (show sumK (gr m k) (min (t + 1) n) = s by rw [show min (t + 1) n = t from by omega, Hs.out])
            clear hrd
            go_wp2
            go_roundw
            case rel => exact ⟨t + 1, by omega, by go_num, by rw [Hs2.out], by rw [Hsn.out]; exact Ho2.out, Hb2.out⟩
            case measure => simp [intOf]; omega
        · have Et := Lib.hid (show t = N by omega)
          have hgt : ¬ (t : Int) ≤ (n : Int) := by omega
          have hac2 := hac
          rw [Et.out] at hac2
          obtain ⟨ra, rc, hrv, _, _, _⟩ := hac2.read
          rw [rowOf_len] at hrv
          obtain ⟨vs, hown⟩ := HA.out
          have Hown := Lib.hid ((hown.below hbw).more (r := rowOf (acr m k) N))
          have Hu := Lib.hid hac2
          have Hfr := Lib.hid (hown.fresh hac2 (Nat.le_refl _))
          have HL2 := Lib.hid (HL.out.below hbw)
          have HR2 := Lib.hid (HR.out.below hbw)
          have Hb2 := Lib.hid (Hb.out.trans (hbw.mono (by have := HRL.out; omega)))
          have Htl2 := Lib.hid (tab_len k N (acr m))
          have Hvlt := Lib.hid (fun g hg => (World.ownsRow.lt hown.top g hg).1)
          clear hac hac2 hbw Hac Hbw hown
          rw [hrv] at Hu Hfr
          subst hrv
          have hc1 := HL2.out.c1
          have hf1 := HL2.out.frozen 1
          go_wp2_with (at_builtin; refine wpList_append_own _ rfl _ _ 22 rfl (gL + 1) 42 j0 (.slice none 0 0) 1 24 Try.underlying22 hj hy0 hy1 hy2 rfl (by decide) _ _ _ rfl (World.ownsRow.alloc Hown.out.top _) ⟨wr.heap.size, 0, none⟩ 1 1 [.slice ra N rc] rfl rfl (cell_one_new _ _ _) ?d2 ?d3 ?d4 ?d5 ?_)
          case d2 => first | rfl | (intro u hu; simp at hu; subst hu; rfl)
          case d3 => rw [Htl2.out]; unfold maxLen; omega
          case d4 => rw [Htl2.out]; omega
          case d5 => have := HZ.out; simp; omega
          intro v' w5 hown' hgrow _
          have hput := Hown.out.snoc (by have := HZ.out; omega) (by rw [gr_last]; exact Hu.out.base hsz) Hfr.out hown' hgrow
          have hOM : OwnM w5 (gL + 1) v' (tab (k + 1) N (acr m)) := by rw [tab_succ]; exact ⟨_, by rw [List.length_append]; exact hput.1⟩
          obtain ⟨va, vc, hv', _, _, _⟩ := hOM.read
          rw [tab_len] at hv'
          subst hv'
          have hb5 : Below (gL + 1) wr w5 := hput.2
          have hz5 := hb5.size
          have hL5 := HL2.out.same (hb5.block gL (by omega))
          have hR5 := HR2.out.same (hb5.block gR (by have := HRL.out; omega))
          have hc1' := hL5.c1
          have hf1' := hL5.frozen 1
          have HL5 := Lib.hid (hL5.set1 (.slice va (k + 1) vc))
          have HR5 := Lib.hid (hR5.other (a := ⟨gL, 1, none⟩) (by have := HRL.out; show gL ≠ gR; omega) (.slice va (k + 1) vc))
          have HO5 := Lib.hid (show OwnM (w5.setCell ⟨gL, 1, none⟩ (.slice va (k + 1) vc)) (gL + 1) (.slice va (k + 1) vc) (tab (k + 1) N (acr m)) from ⟨_, hOM.choose_spec.setBelow (a := ⟨gL, 1, none⟩) (Nat.lt_succ_self _) (.slice va (k + 1) vc)⟩)
          have Hb5 := Lib.hid ((Hb2.out.trans (hb5.mono (by have := HRL.out; omega))).setCell (p := ⟨gL, 1, none⟩) (by have := HRL.out; show gR ≤ gL; omega) (.slice va (k + 1) vc))
          have hsz5 : gL + 1 ≤ (w5.setCell ⟨gL, 1, none⟩ (.slice va (k + 1) vc)).heap.size := by have := HZ.out; simp [World.setCell]; omega
          clear hput hown' hgrow hOM hb5 hL5 hR5 Hown Hu Hfr HL2 HR2 Hb2 hc1 hf1
          go_wp2
          go_roundw
          case rel => exact ⟨k + 1, _, by omega, by go_num, HO5.out, HL5.out, HR5.out, Hb5.out, hsz5⟩
          case measure => simp [intOf]; omega
    · have Ek := Lib.hid (show k = n by omega)
      have hA2 := hA
      rw [Ek.out, ← HacrT.out] at hA2
      obtain ⟨aA, cA, vsA, rfl, hpA, _, _⟩ := hA2.open
      have hlA : (acrT m).length = n := by rw [HacrT.out, tab_len]
      rw [hlA] at hpA hL
      have HPA := Lib.hid hpA
      have HlA := Lib.hid hlA
      have HL := Lib.hid hL
      have HR := Lib.hid hR
      have Hb := Lib.hid hb
      clear hA hA2 hL hR hb hpA hlA
      go_wp2_with (at_make; refine wpList_make_full _ rfl _ _ 42 rfl wo.heap.size 3 i0 (.int .i64 0) 1 Try.underlying42 hi hz0 hz1 _ _ _ _ n rfl rfl rfl rfl ?m1 ?m2 ?m3 ?_)
      case m1 => rw [hz2]; omega
      case m2 => unfold maxLen; omega
      case m3 => simp
      intro w2 hown hgr
      have hb2 : Below wo.heap.size wo w2 := (Below.refl _ _).grown hgr (Nat.le_refl _) (fun _ h => by cases h)
      have hss := OwnI.made hown
      obtain ⟨gs, hgs⟩ : ∃ gs, gs = wo.heap.size := ⟨_, rfl⟩
      have hgs1 : gs + 1 ≤ w2.heap.size := by rw [hgs]; exact (hss.lt wo.heap.size rfl).2
      rw [← hgs] at hss hb2 ⊢
      have Hss := Lib.hid hss
      have HL2 := Lib.hid (HL.out.below (by rw [← hgs]; exact hb2))
      have HR2 := Lib.hid (HR.out.below (by rw [← hgs]; exact hb2))
      have Hb2 := Lib.hid (Hb.out.trans (hb2.mono (by have := HRL.out; omega)))
      have Hsm := Lib.hid (show Same (gL + 1) gs wo w2 from Same.of_below hb2 (Nat.le_refl _))
      have HgL := Lib.hid (show gL + 1 ≤ gs by omega)
      have Hgs := Lib.hid hgs
      clear hown hgr hb2 hss HL HR Hb hgs
      go_wp2
      go_loopw [11] (fun i wr => ∃ (k : Nat) (vD : Value) (ss : List Int), k ≤ N ∧ i = .int .i64 k ∧ OwnI wr gs (.slice (some ⟨gs, 0, none⟩) n n) ss ∧ (∀ j, j < n → gi ss j = sumK (gr (tr m) j) (min k n)) ∧ OwnM wr (gs + 1) vD (tab k n (dwn m)) ∧
          LpAt wr gL n (.slice aA n cA) vD ∧ LpAt wr gR 0 nilS nilS ∧ Same (gL + 1) gs wo wr ∧ Below gR w wr ∧ gs + 1 ≤ wr.heap.size) (fun i _ => N - (intOf i).toNat)
      case atStart => exact ⟨0, nilS, _, Nat.zero_le _, rfl, Hss.out, fun j hj => by rw [Nat.zero_min]; unfold gi; simp [sumK, List.getD, hj], OwnM.nil _ _, HL2.out, HR2.out, Hsm.out, Hb2.out, hgs1⟩
      case round =>
        obtain ⟨k, vD, ss, hk, rfl, hss, hsv, hD, hL, hR, hsm, hb, hsz⟩ := hrel
        obtain ⟨wp, rfl⟩ : ∃ wp : World, wp = wr := ⟨_, rfl⟩
        have hssl := hss.len
        have Hssl := Lib.hid hssl
        have Hss := Lib.hid hss
        have Hsv := Lib.hid hsv
        have HD := Lib.hid hD
        have HL := Lib.hid hL
        have HR := Lib.hid hR
        have Hsm := Lib.hid hsm
        have Hb := Lib.hid hb
        clear hss hsv hD hL hR hsm hb hssl HL2 HR2 Hb2
        by_cases hlt : k < N
        · have hle : (k : Int) ≤ (n : Int) := by omega
          have Hsv2 := Lib.hid (show ∀ j, j < n → gi ss j = sumK (gr (tr m) j) k from fun j hj => by rw [Hsv.out j hj, show min k n = k from by omega])
          have Hsb := Lib.hid (show ∀ j, j < n → 0 ≤ gi ss j ∧ gi ss j ≤ 1 from fun j hj => by
            rw [Hsv2.out j hj]
            exact (Hg.out.2.2 j (by rw [tr_len, ← Hnn.out]; exact hj)).1 k (by rw [tr_row (by rw [← Hnn.out]; exact hj), ← Hnn.out]; omega))
          go_wp2
          go_loopw [12, 68] (fun dn i wr => ∃ t : Nat, t ≤ n ∧ i = .int .i64 t ∧ OwnI wr wp.heap.size dn (rowOf (dwn m k) t) ∧ Below wp.heap.size wp wr) (fun _ i _ => n - (intOf i).toNat)
          case atStart => exact ⟨0, Nat.zero_le _, rfl, OwnI.nil _ _, Below.refl _ _⟩
          case round =>
            obtain ⟨t, ht, rfl, hdn, hbw⟩ := hrel
            have Hdn := Lib.hid hdn
            have Hbw := Lib.hid hbw
            have HZ := Lib.hid hbw.size
            by_cases htl : t < n
            · have hcs := (Hss.out.below hbw).cellAt t htl
              have hsb := Hsb.out t htl
              have hv2 : dwn m k t = (gi ss t + k + t) % 2 := by rw [Hsv2.out t htl]; rfl
              have hsn := rowOf_succ (dwn m k) t
              rw [hv2] at hsn
              obtain ⟨s, hs⟩ : ∃ s, s = gi ss t := ⟨_, rfl⟩
              rw [← hs] at hcs hsb hsn
              have Hsn := Lib.hid hsn
              have Hlen := Lib.hid (rowOf_len (dwn m k) t)
              clear hdn hbw hs hv2 hsn
              go_wp2_with (at_builtin; refine wpList_append_own _ rfl _ _ 42 rfl wp.heap.size 3 i0 (.int .i64 0) 1 8 Try.underlying42 hi hz0 hz1 hz2 rfl (by decide) _ _ _ rfl (World.ownsRow.alloc Hdn.out _) ⟨wr.heap.size, 0, none⟩ 1 1 [.int .i64 ((s + k + t) % 2)] rfl rfl ?c1 ?c2 ?c3 ?c4 ?c5 ?_)
              case c1 => exact cell_one_new _ _ _
              case c2 => intro u hu; simp at hu; subst hu; rfl
              case c3 => rw [Hlen.out]; unfold maxLen; omega
              case c4 => rw [Hlen.out]; omega
              case c5 => have := HZ.out; simp; omega
              intro v' w3 hown' hgrow _
              obtain ⟨ho2, hb2⟩ := Hdn.out.snoc HZ.out hown' hgrow
              have Ho2 := Lib.hid ho2
              have Hb2 := Lib.hid (Hbw.out.trans hb2)
              clear hown' hgrow ho2 hb2
              go_wp2
              go_roundw
              case rel => exact ⟨t + 1, by omega, by go_num, by rw [Hsn.out]; exact Ho2.out, Hb2.out⟩
              case measure => simp [intOf]; omega
            · have Et := Lib.hid (show t = n by omega)
              have hdn2 := hdn
              rw [Et.out] at hdn2
              obtain ⟨ra, rc, hrv, _, _, _⟩ := hdn2.read
              rw [rowOf_len] at hrv
              obtain ⟨vs, hown⟩ := HD.out
              have Hown := Lib.hid ((hown.below hbw).more (r := rowOf (dwn m k) n))
              have Hu := Lib.hid hdn2
              have Hfr := Lib.hid (hown.fresh hdn2 (Nat.le_refl _))
              have HL2 := Lib.hid (HL.out.below hbw)
              have HR2 := Lib.hid (HR.out.below hbw)
              have Hss2 := Lib.hid (Hss.out.below hbw)
              have Hsm2 := Lib.hid (Hsm.out.trans (Same.of_below hbw (by omega)))
              have Hb2 := Lib.hid (Hb.out.trans (hbw.mono (by have := HRL.out; have := HgL.out; omega)))
              have Htl2 := Lib.hid (tab_len k n (dwn m))
              clear hdn hdn2 hbw Hdn Hbw hown
              rw [hrv] at Hu Hfr
              subst hrv
              have hc1 := HL2.out.c2
              have hf1 := HL2.out.frozen 2
              go_wp2_with (at_builtin; refine wpList_append_own _ rfl _ _ 22 rfl (gs + 1) 42 j0 (.slice none 0 0) 1 24 Try.underlying22 hj hy0 hy1 hy2 rfl (by decide) _ _ _ rfl (World.ownsRow.alloc Hown.out.top _) ⟨wr.heap.size, 0, none⟩ 1 1 [.slice ra n rc] rfl rfl (cell_one_new _ _ _) ?d2 ?d3 ?d4 ?d5 ?_)
              case d2 => first | rfl | (intro u hu; simp at hu; subst hu; rfl)
              case d3 => rw [Htl2.out]; unfold maxLen; omega
              case d4 => rw [Htl2.out]; omega
              case d5 => have := HZ.out; simp; omega
              intro v' w5 hown' hgrow _
              have hput := Hown.out.snoc (by have := HZ.out; omega) (by rw [gr_last]; exact Hu.out.base hsz) Hfr.out hown' hgrow
              have hOM : OwnM w5 (gs + 1) v' (tab (k + 1) n (dwn m)) := by rw [tab_succ]; exact ⟨_, by rw [List.length_append]; exact hput.1⟩
              obtain ⟨va, vc, hv', _, _, _⟩ := hOM.read
              rw [tab_len] at hv'
              subst hv'
              have hb5 : Below (gs + 1) wr w5 := hput.2
              have hz5 := hb5.size
              have hgl := HgL.out
              have hrl2 : gR < gL := by have := HRL.out; omega
              have hL5 := HL2.out.same (hb5.block gL (by omega))
              have hR5 := HR2.out.same (hb5.block gR (by omega))
              have hS5 : OwnI w5 gs (.slice (some ⟨gs, 0, none⟩) n n) ss := by
                have hl := Hssl.out
                unfold OwnI
                rw [hl]
                have h := Hss2.out
                unfold OwnI at h
                rw [hl] at h
                exact ownsRow_one h (hb5.block gs (Nat.lt_succ_self _))
              have hc1' := hL5.c2
              have hf1' := hL5.frozen 2
              have HL5 := Lib.hid (hL5.set2 (.slice va (k + 1) vc))
              have HR5 := Lib.hid (hR5.other (a := ⟨gL, 2, none⟩) (by show gL ≠ gR; omega) (.slice va (k + 1) vc))
              have HS5 := Lib.hid (hS5.setOther (a := ⟨gL, 2, none⟩) (by intro h; simp [Value.ownBlock] at h; omega) (.slice va (k + 1) vc))
              have HO5 := Lib.hid (show OwnM (w5.setCell ⟨gL, 2, none⟩ (.slice va (k + 1) vc)) (gs + 1) (.slice va (k + 1) vc) (tab (k + 1) n (dwn m)) from ⟨_, hOM.choose_spec.setBelow (a := ⟨gL, 2, none⟩) (by show gL < gs + 1; omega) (.slice va (k + 1) vc)⟩)
              have Hb5 := Lib.hid ((Hb2.out.trans (hb5.mono (by omega))).setCell (p := ⟨gL, 2, none⟩) (by show gR ≤ gL; omega) (.slice va (k + 1) vc))
              have hsz5 : gs + 1 ≤ (w5.setCell ⟨gL, 2, none⟩ (.slice va (k + 1) vc)).heap.size := by have := HZ.out; simp [World.setCell]; omega
              have Hsm5 := Lib.hid (Hsm2.out.trans ((Same.of_below hb5 (Nat.le_succ _)).trans (show Same (gL + 1) gs w5 (w5.setCell ⟨gL, 2, none⟩ (.slice va (k + 1) vc)) from fun g h1 _ => Below.heap_setCell _ _ _ _ (by show g ≠ gL; omega))))
              obtain ⟨w6, hw6⟩ : ∃ w6, w6 = w5.setCell ⟨gL, 2, none⟩ (.slice va (k + 1) vc) := ⟨_, rfl⟩
              rw [← hw6] at HL5 HR5 HS5 HO5 Hb5 hsz5 Hsm5
              have Hw6 := Lib.hid hw6
              clear hput hown' hgrow hOM hb5 hL5 hR5 hS5 Hown Hu Hfr HL2 HR2 Hb2 hc1 hf1 hw6 hz5
              go_upto_region 27 with (fail)
              rw [← Hw6.out]
              clear hc1' hf1'
              by_cases hkn : k < n
              · have hkn2 : (k : Int) < (n : Int) := by omega
                obtain ⟨bm, om, rm, dm, em, hcm0, hxm, _, _⟩ := Hm.out k (by rw [← Hnn.out]; exact hkn)
                have hcm := cell_below hcm0 (show Below w.heap.size w w6 by rw [← HgR.out]; exact Hb5.out)
                clear hcm0
                have hrl := Hg.out.1.2.2 k (by rw [← Hnn.out]; exact hkn)
                rw [← Hnn.out] at hrl
                rw [hrl] at hcm
                have Hrl := Lib.hid hrl
                have Hxm := Lib.hid hxm
                subst em
                have Hnx := Lib.hid (show ∀ j, j < n → gi ss j + gi (gr m k) j = sumK (gr (tr m) j) (k + 1) ∧ 0 ≤ gi ss j + gi (gr m k) j ∧ gi ss j + gi (gr m k) j ≤ 1 from fun j hj => by
                  have e : gi ss j + gi (gr m k) j = sumK (gr (tr m) j) (k + 1) := by
                    show _ = sumK (gr (tr m) j) k + gi (gr (tr m) j) k
                    rw [Hsv2.out j hj, gi_tr (by rw [← Hnn.out]; exact hj) (by rw [← Hnn.out]; exact hkn)]
                  refine ⟨e, ?_⟩
                  rw [e]
                  exact (Hg.out.2.2 j (by rw [tr_len, ← Hnn.out]; exact hj)).1 (k + 1) (by rw [tr_row (by rw [← Hnn.out]; exact hj), ← Hnn.out]; omega))
                clear hrl hxm
                go_wp2
                go_loopw [97] (fun i wr => ∃ (t : Nat) (s2 : List Int), t ≤ n ∧ i = .int .i64 t ∧ OwnI wr gs (.slice (some ⟨gs, 0, none⟩) n n) s2 ∧ (∀ j, j < t → gi s2 j = gi ss j + gi (gr m k) j) ∧ (∀ j, t ≤ j → j < n → gi s2 j = gi ss j) ∧
                    OwnM wr (gs + 1) (.slice va (k + 1) vc) (tab (k + 1) n (dwn m)) ∧ LpAt wr gL n (.slice aA n cA) (.slice va (k + 1) vc) ∧ LpAt wr gR 0 nilS nilS ∧ Same (gL + 1) gs wo wr ∧ Below gR w wr ∧ gs + 1 ≤ wr.heap.size ∧ Below gs w6 wr) (fun i _ => n - (intOf i).toNat)
                case atStart => exact ⟨0, ss, Nat.zero_le _, rfl, HS5.out, fun j hj => absurd hj (by omega), fun j _ _ => rfl, HO5.out, HL5.out, HR5.out, Hsm5.out, Hb5.out, hsz5, Below.refl _ _⟩
                case round =>
                  obtain ⟨t, s2, ht, rfl, hs2, hlo, hhi, hO, hL, hR, hsm, hb, hsz6, hb6⟩ := hrel
                  have hl2 := hs2.len
                  have Hl2 := Lib.hid hl2
                  have Hlo := Lib.hid hlo
                  have Hhi := Lib.hid hhi
                  clear hl2 hlo hhi HS5 HO5 HL5 HR5 Hsm5 Hb5 hsz5
                  by_cases htl2 : t < n
                  · obtain ⟨b2, o2, e2, hc2⟩ := (Hxm.out.below (show Below w.heap.size w wr by rw [← HgR.out]; exact hb)) t (by rw [Hrl.out]; exact htl2)
                    subst e2
                    have hcs := hs2.cellAt t htl2
                    have hfs := hs2.frozenAt t
                    have hnx := (Hnx.out t htl2).2
                    have hxb := Hsb.out t htl2
                    rw [Hhi.out t (Nat.le_refl _) htl2] at hcs
                    have Hst := Lib.hid (hs2.store t (gi ss t + gi (gr m k) t))
                    have HO := Lib.hid (show OwnM (wr.setCell ⟨gs, t, none⟩ (.int .i64 (gi ss t + gi (gr m k) t))) (gs + 1) (.slice va (k + 1) vc) (tab (k + 1) n (dwn m)) from ⟨_, hO.choose_spec.setBelow (a := ⟨gs, t, none⟩) (Nat.lt_succ_self _) _⟩)
                    have HL := Lib.hid (hL.other (a := ⟨gs, t, none⟩) (by show gs ≠ gL; omega) (.int .i64 (gi ss t + gi (gr m k) t)))
                    have HR := Lib.hid (hR.other (a := ⟨gs, t, none⟩) (by show gs ≠ gR; omega) (.int .i64 (gi ss t + gi (gr m k) t)))
                    have Hsm := Lib.hid (hsm.trans (show Same (gL + 1) gs wr (wr.setCell ⟨gs, t, none⟩ (.int .i64 (gi ss t + gi (gr m k) t))) from fun g _ h2 => Below.heap_setCell _ _ _ _ (by show g ≠ gs; omega)))
                    have Hb := Lib.hid (hb.setCell (p := ⟨gs, t, none⟩) (by show gR ≤ gs; omega) (.int .i64 (gi ss t + gi (gr m k) t)))
                    have Hb6 := Lib.hid (hb6.setCell (p := ⟨gs, t, none⟩) (Nat.le_refl _) (.int .i64 (gi ss t + gi (gr m k) t)))
                    have hsz7 : gs + 1 ≤ (wr.setCell ⟨gs, t, none⟩ (.int .i64 (gi ss t + gi (gr m k) t))).heap.size := by simp [World.setCell]; omega
                    have Hlo2 := Lib.hid (show (∀ j, j < t + 1 → gi (s2.set t (gi ss t + gi (gr m k) t)) j = gi ss j + gi (gr m k) j) ∧ (∀ j, t + 1 ≤ j → j < n → gi (s2.set t (gi ss t + gi (gr m k) t)) j = gi ss j) from
                      ⟨fun j hj => by
                        rw [gi_set (by rw [Hl2.out]; exact htl2)]
                        by_cases e : j = t
                        · subst e; rw [if_pos rfl]
                        · rw [if_neg e]; exact Hlo.out j (by omega),
                      fun j h1 h2 => by
                        rw [gi_set (by rw [Hl2.out]; exact htl2), if_neg (by omega)]
                        exact Hhi.out j (by omega) h2⟩)
                    obtain ⟨x, hx⟩ : ∃ x, x = gi ss t := ⟨_, rfl⟩
                    obtain ⟨y, hy⟩ : ∃ y, y = gi (gr m k) t := ⟨_, rfl⟩
                    rw [← hx] at hcs hnx hxb Hst HO HL HR Hsm Hb Hb6 hsz7 Hlo2
                    rw [← hy] at hc2 hnx Hst HO HL HR Hsm Hb Hb6 hsz7 Hlo2
                    clear hs2 hO hL hR hsm hb hb6 hx hy
                    go_wp2
                    go_roundw
                    case rel => exact ⟨t + 1, _, by omega, by go_num, Hst.out, Hlo2.out.1, Hlo2.out.2, HO.out, HL.out, HR.out, Hsm.out, Hb.out, hsz7, Hb6.out⟩
                    case measure => simp [intOf]; omega
                  · have Et2 := Lib.hid (show t = n by omega)
                    have Hs2 := Lib.hid hs2
                    have HO := Lib.hid hO
                    have HL := Lib.hid hL
                    have HR := Lib.hid hR
                    have Hsm := Lib.hid hsm
                    have Hb := Lib.hid hb
                    clear hs2 hO hL hR hsm hb hb6
                    go_wp2
                    go_roundw
                    case rel =>
                      refine ⟨k + 1, _, s2, by omega, by go_num, Hs2.out, fun j hj => ?_, HO.out, HL.out, HR.out, Hsm.out, Hb.out, hsz6⟩
                      rw [Hlo.out j (by rw [Et2.out]; exact hj), (Hnx.out j hj).1, show min (k + 1) n = k + 1 from by omega]
                    case measure => simp [intOf]; omega
              · have hkn2 : ¬ (k : Int) < (n : Int) := by omega
                go_wp2
                go_roundw
                case rel =>
                  refine ⟨k + 1, _, ss, by omega, by go_num, HS5.out, fun j hj => ?_, HO5.out, HL5.out, HR5.out, Hsm5.out, Hb5.out, hsz5⟩
                  rw [Hsv2.out j hj, show min (k + 1) n = k from by omega]
                case measure => simp [intOf]; omega
        · have Ek2 := Lib.hid (show k = N by omega)
          have hgt : ¬ (k : Int) ≤ (n : Int) := by omega
          have hD2 := HD.out
          rw [Ek2.out, ← HdwnT.out] at hD2
          obtain ⟨aD, cD, vsD, rfl, hpD, _, _⟩ := hD2.open
          have hlD : (dwnT m).length = N := by rw [HdwnT.out, tab_len]
          rw [hlD] at hpD HL
          have HPD := Lib.hid hpD
          have HlD := Lib.hid hlD
          have HRw := Lib.hid (show LpAt wp w.heap.size 0 nilS nilS by rw [← HgR.out]; exact HR.out)
          have Hbw := Lib.hid (show Below w.heap.size w wp by rw [← HgR.out]; exact Hb.out)
          clear hD2 hpD HD HR Hb hlD
          go_wp2_with (first | (refine wpList_loadG rfl 25 _ rfl _ rfl _ _ HL.out Try.underlying25 rfl (Try.size_loops _ _ _) ?_) | (refine wpList_storeG rfl 25 _ _ rfl w.heap.size (lp n (.slice aA n cA) (.slice aD N cD)) (lp 0 nilS nilS) rfl rfl HRw.out (Try.size_loops _ _ _) rfl (lp_one _ _ _ _ _ _ _) ?_))
          have HR2 := Lib.hid (HRw.out.setRow n (.slice aA n cA) (.slice aD N cD))
          have hsame : ∀ lo hi, w.heap.size < lo → Same lo hi wp (wp.setRow w.heap.size (lp n (.slice aA n cA) (.slice aD N cD))) := fun lo hi h g h1 _ => Go.setRow_other wp w.heap.size g _ (by omega)
          have hgr := HgR.out
          have hrl2 : gR < gL := by have := HRL.out; omega
          have hgl := HgL.out
          refine bodyPost_ret (v := .agg (lp n (.slice aA n cA) (.slice aD N cD))) ?_ rfl ⟨aA, cA, aD, cD, rfl, ⟨vsA, ?_⟩, ⟨vsD, ?_⟩, below_setRowT Hbw.out (Nat.le_refl _) _⟩
          · exact results_cell_one rfl _ _ w.heap.size _ rfl (Try.load_loops HR2.out)
          · exact (HPA.out.same ((show Same (gL + 1) wo.heap.size wo wp by rw [← Hgs.out]; exact Hsm.out).trans (hsame _ _ (by omega)))).base (by omega)
          · exact (HPD.out.same (hsame _ _ (by omega))).base (by omega)
end Go.Proofs.Yteakdbmdokleoaa
