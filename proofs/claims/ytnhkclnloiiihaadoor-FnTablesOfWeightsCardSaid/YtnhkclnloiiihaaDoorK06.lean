/- Parts of proofs: contracts and plain facts. Conditions: as each says. -/
import Derived.Test.YtnhkclnloiiihaaDoorK05
namespace Go.Proofs.YtnhkclnloiiihaaDoor
open Go.RowKit

theorem allOne_allIn (sums : List Int) : allIn sums 1 1 ↔ allOne sums = true := by
  rw [allOne_iff]
  constructor
  · intro h j hj
    have := h j hj
    omega
  · intro h j hj
    have := h j hj
    omega
theorem OwnR.none_cap {w : World} {B n c : Nat} {ao : Option Addr} {m : List (List Int)} {vs : List Value} (h : OwnR w B (.slice ao n c) m vs) : ao = none → m = [] ∧ n = 0 ∧ c = 0 := by
  intro e
  subst e
  rcases h.top.2 with ⟨h0, h1⟩ | ⟨g, cap, cur, hv, _⟩
  · simp only [Value.slice.injEq] at h0; exact ⟨List.eq_nil_of_length_eq_zero h1, h0.2.1, h0.2.2⟩
  · simp at hv

set_option maxRecDepth 100000 in
set_option maxHeartbeats 6400000 in
theorem weGoOn_any (n : Nat) (hn : n ≤ 5) : ∀ (d : Nat) (rows : List (List Int)) (sums : List Int) (a1 a2 : Option Addr) (c1 c2 B : Nat) (us : List Value) (w : World), sums.length = n → bits01 sums → rows.length + d = n → B ≤ w.heap.size → OwnR w B (.slice a1 rows.length c1) rows us → OwnI w B (.slice a2 sums.length c2) sums →
    Calls Tryd.prog 116 #[.slice a1 rows.length c1, .slice a2 sums.length c2] w fun e w' => ∃ v vs, e = .returned v ∧ OwnRL w' B v (goW d rows sums) vs ∧ (∀ g, v.ownBlock = some g → w.heap.size ≤ g) ∧ Below w.heap.size w w' := by
  intro d
  induction d with
  | zero =>
    intro rows sums a1 a2 c1 c2 B us w hsl h01 hd hB h1 h2
    have hl : ((rows.length : Int) == (sums.length : Int)) = true := by simp; omega
    have hx1 : rows.length ≤ 9223372036854775807 := by omega
    have hx2 : sums.length ≤ 9223372036854775807 := by omega
    have C := Lib.hid (l1All_any a2 c2 sums 1 1 w (by omega) (own_at h2))
    have hb1 : Below w.heap.size w (w.alloc (.cells #[.slice a1 rows.length c1] 25)) := (Below.refl _ _).alloc (Nat.le_refl _) _
    have hres : OwnRL (w.alloc (.cells #[.slice a1 rows.length c1] 25)) B (.slice (some ⟨w.heap.size, 0, none⟩) 1 1) [rows] [.slice a1 rows.length c1] :=
      ⟨ownsRow_built w [.slice a1 rows.length c1] hB (by simp), fun i hi => by obtain rfl : i = 0 := (by simpa using hi); exact ⟨us, h1.below hb1⟩⟩
    have Hres := Lib.hid hres
    have Hb := Lib.hid hb1
    obtain ⟨r, hr⟩ : ∃ r, r = rows.length := ⟨_, rfl⟩
    rw [← hr] at hl hx1 Hb Hres ⊢
    clear h1 h2 hd hb1 hres hr h01 hsl
    by_cases e1 : allOne sums = true
    · have HV := Lib.hid (show goW 0 rows sums = [rows] by unfold goW; rw [if_pos e1])
      have H1 := Lib.hid ((allOne_allIn sums).2 e1)
      clear e1
      go_enter Tryd.func116, Tryd.ntmps116
      go_wp2_with fail
      refine C.out.mono ?_
      rintro e w2 ⟨ha, rfl⟩
      obtain rfl := ha.is H1.out
      clear ha
      go_wp2
      go_ret
      exact ⟨_, _, rfl, by rw [HV.out]; exact Hres.out, fun g hg => by simp [Value.ownBlock] at hg; omega, Hb.out⟩
    · have HV := Lib.hid (show goW 0 rows sums = [] by unfold goW; rw [if_neg e1])
      have H1 := Lib.hid (fun h => e1 ((allOne_allIn sums).1 h))
      clear e1
      go_enter Tryd.func116, Tryd.ntmps116
      go_wp2_with fail
      refine C.out.mono ?_
      rintro e w2 ⟨ha, rfl⟩
      obtain rfl := ha.isnt H1.out
      clear ha
      go_wp2
      go_ret
      exact ⟨_, _, rfl, by rw [HV.out]; exact OwnRL.nil _ _, fun g hg => by simp [Value.ownBlock] at hg, Below.refl _ _⟩
  | succ d ih =>
    intro rows sums a1 a2 c1 c2 B us w hsl h01 hd hB h1 h2
    cases a1 with
    | none =>
      have hr0 := (h1.none_cap rfl).1
      have hc10 := (h1.none_cap rfl).2.2
      have hu0 : us = [] := by have := h1.len; rw [hr0] at this; exact List.eq_nil_of_length_eq_zero this
      subst hc10
      subst hr0
      subst hu0
      rw [List.length_nil] at hd ⊢
      have hl : ((0 : Int) == (sums.length : Int)) = false := by simp; omega
      have hx1 : 0 ≤ 9223372036854775807 := by omega
      have hx2 : sums.length ≤ 9223372036854775807 := by omega
      have hn4 : sums.length ≤ 5 := by omega
      obtain ⟨j0, hj, hy0, hy1, hy2⟩ := info_parts Tryd.info_ints
      obtain ⟨i0, hi, hz0, hz1, hz2⟩ := info_parts Tryd.info_int
      obtain ⟨k0, hk0, ht0, ht1, ht2⟩ := info_parts Tryd.info_intssW
      have Hd := Lib.hid hd
      have H1 := Lib.hid h1
      have H2 := Lib.hid h2
      have Hih := Lib.hid ih
      have HBl := Lib.hid hB
      have H01 := Lib.hid h01
      have Hsl := Lib.hid hsl
      have CR := Lib.hid (fun (w1 : World) (hb : Below w.heap.size w w1) => weRows_any sums h01 hn4 a2 c2 sums.length [] 0 none 0 B w1 (by simp) (by omega) (Nat.le_trans hB hb.size) ((own_at h2).below hb) (OwnI.nil _ _))
      clear h1 h2 ih hd h01 hsl
      go_enter Tryd.func116, Tryd.ntmps116
      go_wp2_with fail
      refine (CR.out w (Below.refl _ _)).mono ?_
      rintro e w1 ⟨rv, rs, rfl, hrv, _, hb1⟩
      obtain ⟨R, hR⟩ : ∃ R, R = rowsW sums sums.length [] 0 := ⟨_, rfl⟩
      rw [← hR] at hrv
      obtain ⟨ra, rc, rfl, hr1, hr2, _⟩ := hrv.read
      have HR := Lib.hid hR
      have Hrv := Lib.hid hrv
      have Hb1 := Lib.hid hb1
      have HB1 := Lib.hid hb1.size
      have hRl : R.length ≤ 1000000 := by rw [hR]; exact Nat.le_trans (rowsW_le _ _ _ _) (Nat.le_trans (Nat.pow_le_pow_right (by omega) (show sums.length ≤ 5 by omega)) (by decide))
      clear hrv hb1 hR CR
      have hrlen : ∀ k, k < R.length → (gr R k).length = sums.length ∧ ∀ j, j < sums.length → 0 ≤ gi sums j + gi (gr R k) j ∧ gi sums j + gi (gr R k) j ≤ 1 ∧ -1 ≤ gi (gr R k) j ∧ gi (gr R k) j ≤ 1 := fun k hk => by
        have := rowsW_mem sums sums.length [] 0 (gr R k) (by rw [← HR.out]; exact gr_mem hk)
        exact ⟨by simpa using this.1, fun j hj => by have := this.2.2 j (by simp) (by simpa using hj); omega⟩
      have Hrlen := Lib.hid hrlen
      clear hrlen
      go_wp2
      go_loopw [5, 24] (fun out i wr => ∃ (k : Nat) (vs : List Value), k ≤ R.length ∧ i = .int .i64 k ∧ OwnRL wr B out (goP d ([] : List (List Int)) sums k) vs ∧ (∀ g, out.ownBlock = some g → w1.heap.size ≤ g) ∧ Below w1.heap.size w1 wr) (fun _ i _ => R.length - (intOf i).toNat)
      case atStart => exact ⟨0, [], Nat.zero_le _, rfl, by rw [goP_zero]; exact OwnRL.nil _ _, fun g hg => by simp [Value.ownBlock] at hg, Below.refl _ _⟩
      case round =>
        obtain ⟨k, vs, hk, rfl, hown, htop, hbr⟩ := hrel
        have Hown := Lib.hid hown
        have Htop := Lib.hid htop
        have Hbr := Lib.hid hbr
        have HB := Lib.hid hbr.size
        clear hown htop hbr
        obtain ⟨wo, rfl⟩ : ∃ wo : World, wo = wr := ⟨_, rfl⟩
        by_cases hlt : k < R.length
        · have hrr := Hrv.out.below Hbr.out
          obtain ⟨ao', cc', e, _, _, hcs⟩ := ownsRow_read hrr.top
          cases e
          obtain ⟨b, o, e, hcell⟩ := hcs k hlt
          have hrow := hrr.rows k hlt
          obtain ⟨qa, qc, hq, hq1, hq2, _⟩ := hrow.read
          obtain ⟨hl1, hbd⟩ := Hrlen.out k hlt
          rw [hl1] at hq hq1
          rw [hq] at hcell hrow
          subst e
          have HP := Lib.hid (show goP d ([] : List (List Int)) sums (k + 1) = goP d ([] : List (List Int)) sums k ++ goW d (([] : List (List Int)) ++ [gr R k]) (addL sums (gr R k)) by rw [HR.out]; exact goP_step (by rw [← HR.out]; exact hlt))
          have HPl := Lib.hid (goP_le d ([] : List (List Int)) sums (k + 1) hn4)
          have Hmem := Lib.hid (show gr R k ∈ rowsW sums sums.length [] 0 by rw [← HR.out]; exact gr_mem hlt)
          obtain ⟨x, hx⟩ : ∃ x, x = gr R k := ⟨_, rfl⟩
          rw [← hx] at hrow hl1 hbd HP Hmem
          have Hrow := Lib.hid hrow
          have Hl1 := Lib.hid hl1
          have Hbd := Lib.hid hbd
          have CO := Lib.hid (l1Own_any a2 c2 sums wo (by omega) H2.out.none_cap (own_at (H2.out.below (Hb1.out.trans (Hbr.out.mono HB1.out)))))
          clear hrr hcs hrow hl1 hbd hq hx
          go_wp2_with fail
          refine CO.out.mono ?_
          rintro e w2 ⟨f1, rfl, hf1, hb2⟩
          obtain ⟨fa, fc, rfl, _, _, _⟩ := hf1.read
          obtain ⟨g2, rfl, hg2a, hg2b⟩ := hf1.isAt (by have := Hd.out; have := Hsl.out; omega)
          rw [← addP_zero sums x, addP_len] at hf1
          have Hf1 := Lib.hid hf1
          have Hb2 := Lib.hid hb2
          clear hf1 hb2 CO
          go_wp2
          go_loopw [32] (fun i wi => ∃ t : Nat, t ≤ sums.length ∧ i = .int .i64 t ∧ OwnI wi wo.heap.size (.slice (some ⟨g2, 0, none⟩) sums.length fc) (addP sums x t) ∧ OnlyW (fun g => g = g2) w2 wi) (fun i _ => sums.length - (intOf i).toNat)
          case atStart => exact ⟨0, Nat.zero_le _, rfl, Hf1.out, OnlyW.refl _ _⟩
          case round =>
            obtain ⟨t, ht, rfl, hf, ho⟩ := hrel
            clear Hf1
            by_cases htl : t < sums.length
            · have hbi : Below wo.heap.size wo wr := Hb2.out.trans (ho.below (B := wo.heap.size) (fun g e => by have := e; omega))
              obtain ⟨b2, o2, e2, hc2⟩ := own_at (Hrow.out.below hbi) t (by rw [Hl1.out]; exact htl)
              have hcf := hf.cellAt t htl
              rw [gi_addP htl, if_neg (by omega), Int.add_zero] at hcf
              have hff := hf.frozenAt t
              have hbd := Hbd.out t htl
              have h01 := H01.out t htl
              have hst := hf.store t (gi sums t + gi x t)
              rw [addP_set htl] at hst
              have hos := ho.setCell (p := ⟨g2, t, none⟩) rfl (.int .i64 (gi sums t + gi x t))
              obtain ⟨p, hp⟩ : ∃ p, p = gi sums t := ⟨_, rfl⟩
              obtain ⟨y, hy⟩ : ∃ y, y = gi x t := ⟨_, rfl⟩
              rw [← hp] at hcf hbd h01 hst hos
              rw [← hy] at hc2 hbd hst hos
              have Hst := Lib.hid hst
              have Hos := Lib.hid hos
              subst e2
              clear hf ho hbi hst hos hp hy
              go_wp2
              go_roundw
              case rel => exact ⟨t + 1, by omega, by go_num, Hst.out, Hos.out⟩
              case measure => simp [intOf]; omega
            · obtain rfl : t = sums.length := by omega
              rw [addP_end] at hf
              have hbA : Below wo.heap.size wo wr := Hb2.out.trans (ho.below (B := wo.heap.size) (fun g e => by have := e; omega))
              obtain ⟨wA, hwA⟩ : ∃ wA : World, wA = wr := ⟨_, rfl⟩
              rw [← hwA] at hf hbA ⊢
              have hg2A : g2 < wA.heap.size := (hf.lt g2 rfl).2
              have Hf := Lib.hid hf
              have HbA := Lib.hid hbA
              have HBA := Lib.hid hbA.size
              have HwB := Lib.hid (show w.heap.size ≤ wA.heap.size from Nat.le_trans HB1.out (Nat.le_trans HB.out hbA.size))
              have HRo := Lib.hid (H1.out.below (Hb1.out.trans ((Hbr.out.trans (hbA.mono HB.out)).mono HB1.out)))
              have Hx := Lib.hid (Hrow.out.below hbA)
              have HOut := Lib.hid (Hown.out.below hbA)
              clear hf ho hbA hwA Hb2 htl hcell
              go_wp2_with (first
                | (at_builtin; refine wpList_append_own_none rfl _ _ 25 rfl wA.heap.size 28 j0 1 Tryd.underlying25 hj _ _ _ rfl (World.ownsRow_made wA #[] 0 (Nat.le_refl _) (Nat.zero_le _) rfl) rfl ?_)
                | (at_builtin; refine wpList_append_own _ rfl _ _ 25 rfl wA.heap.size 28 j0 (.slice none 0 0) 1 24 Tryd.underlying25 hj hy0 hy1 hy2 rfl (by decide) _ 0 [] rfl (World.ownsRow.alloc (World.ownsRow_made wA #[] 0 (Nat.le_refl _) (Nat.zero_le _) rfl) (.cells #[.slice qa sums.length qc] 28)) ⟨wA.heap.size + 1, 0, none⟩ 1 1 [.slice qa sums.length qc] rfl rfl ?g1 ?g2 ?g3 ?g4 ?g5 ?_))
              case g1 => have := cell_one_new (wA.alloc (.cells #[] 28)) (.slice qa sums.length qc) 28; simpa using this
              case g2 => intro u hu; simp at hu; subst hu; rfl
              case g3 => unfold maxLen; omega
              case g4 => omega
              case g5 => simp; omega
              intro vC wC hownC hgrowC _
              have hbC : Below wA.heap.size wA wC := (((Below.refl _ wA).alloc (Nat.le_refl _) (.cells #[] 28)).alloc (by simp) (.cells #[.slice qa sums.length qc] 28)).grown hgrowC (by simp; omega) (fun k hk => by simp [Value.ownBlock] at hk; omega)
              have hRC : OwnR wC B vC (([] : List (List Int)) ++ [x]) (([] : List Value) ++ [.slice qa sums.length qc]) := by
                exact ⟨ownsRow_base (by simpa using hownC) (Nat.le_trans HBl.out HwB.out), fun i hi => by
                  obtain rfl : i = 0 := by simpa using hi
                  exact Hx.out.below hbC⟩
              obtain ⟨oC, cC, hoC, _, _, _⟩ := hRC.read
              rw [show (([] : List (List Int)) ++ [x]).length = 0 + 1 by simp] at hoC
              have hfC : OwnI wC B (.slice (some ⟨g2, 0, none⟩) (addL sums x).length fc) (addL sums x) := by rw [addL_len]; exact (Hf.out.below hbC).base (Nat.le_trans HBl.out (Nat.le_trans HB1.out HB.out))
              have hrec := Hih.out (([] : List (List Int)) ++ [x]) (addL sums x) oC (some ⟨g2, 0, none⟩) cC fc B (([] : List Value) ++ [.slice qa sums.length qc]) wC (by rw [addL_len]; exact Hsl.out) (bits01.add Hmem.out) (by have := Hd.out; simp; omega) (Nat.le_trans HBl.out (Nat.le_trans HwB.out hbC.size)) (by rw [show (([] : List (List Int)) ++ [x]).length = 0 + 1 by simp, ← hoC]; exact hRC) hfC
              rw [addL_len, show (([] : List (List Int)) ++ [x]).length = 0 + 1 by simp] at hrec
              obtain ⟨rl3, hrl3⟩ : ∃ rl3, rl3 = 0 + 1 := ⟨_, rfl⟩
              rw [← hrl3] at hoC hrec
              subst hoC
              have Hrec := Lib.hid hrec
              have HbC := Lib.hid hbC
              clear hownC hgrowC hRC hbC hfC hrec hrl3
              go_wp2_with fail
              refine Hrec.out.mono ?_
              rintro e w4 ⟨sub, ws, rfl, hsub, hst, hb4⟩
              obtain ⟨M, hM⟩ : ∃ M, M = goW d (([] : List (List Int)) ++ [x]) (addL sums x) := ⟨_, rfl⟩
              obtain ⟨P0, hP0⟩ : ∃ P0, P0 = goP d ([] : List (List Int)) sums k := ⟨_, rfl⟩
              rw [← hM] at hsub HP
              rw [← hP0] at HOut HP
              have hPM : P0.length + M.length ≤ 847288609443 := by
                have h := HPl.out
                rw [HP.out, List.length_append] at h
                exact Nat.le_trans h (Nat.le_trans (Nat.pow_le_pow_right (by omega) (show d + 1 ≤ 5 by have := Hd.out; omega)) (by decide))
              obtain ⟨sa, sc, rfl, hs1, hs2⟩ := hsub.head
              have hbA4 := HbC.out.trans (hb4.mono HbC.out.size)
              have HOut4 := Lib.hid (HOut.out.below hbA4)
              have Hb4 := Lib.hid (Hbr.out.trans ((HbA.out.trans (hbA4.mono HBA.out)).mono HB.out))
              have HB4 := Lib.hid Hb4.out.size
              have Hsub := Lib.hid hsub
              obtain ⟨oa, oc, hoo, _, _⟩ := HOut4.out.head
              obtain ⟨Ml, hMl2⟩ : ∃ Ml, Ml = M.length := ⟨_, rfl⟩
              obtain ⟨Pl, hPl2⟩ : ∃ Pl, Pl = P0.length := ⟨_, rfl⟩
              rw [← hPl2] at hoo hPM
              rw [← hMl2] at hs1 hPM
              have HMl := Lib.hid hMl2
              have HPl2 := Lib.hid hPl2
              clear hsub hst hb4 hM hP0 hPl2 hbA4 Hrec HbC
              subst hoo
              have Htop4 := Lib.hid (ownsRow_raise HOut4.out.top Htop.out)
              cases sa with
              | none =>
                have hM0 : M = [] := by
                  rcases Hsub.out.top.2 with ⟨h1, h2⟩ | ⟨g, cap, cur, h1, _⟩
                  · exact List.eq_nil_of_length_eq_zero h2
                  · simp at h1
                have hsc : sc = 0 := by
                  rcases Hsub.out.top.2 with ⟨h1, h2⟩ | ⟨g, cap, cur, h1, _⟩
                  · simp at h1; exact h1.2
                  · simp at h1
                subst hM0 hsc
                obtain rfl : Ml = 0 := by rw [hMl2]; rfl
                clear hs1 hs2 hMl2 HMl hPM
                go_wp2_with (at_builtin; refine wpList_append_own_none rfl _ _ 47 rfl w1.heap.size 25 k0 1 Tryd.underlying47 hk0 _ _ _ rfl (by have := Htop4.out; rw [← HPl2.out] at this; exact this) rfl ?_)
                go_wp2
                go_roundw
                case rel => exact ⟨k + 1, vs, by omega, by go_num, by rw [HP.out, List.append_nil]; exact HOut4.out, Htop.out, Hb4.out⟩
                case measure => simp [intOf]; omega
              | some ad2 =>
                have Hcl2 := Lib.hid Hsub.out.cells
                have Hus2 := Lib.hid Hsub.out.len
                rw [← hMl2]
                clear hMl2 hs1 hs2
                go_wp2_with (at_builtin; refine wpList_append_own _ rfl _ _ 47 rfl w1.heap.size 25 k0 (.slice none 0 0) 1 24 Tryd.underlying47 hk0 ht0 ht1 ht2 rfl (by decide) _ Pl vs rfl (by have := Htop4.out; rw [← HPl2.out] at this; exact this) ad2 Ml sc ws rfl ?f1 ?f2 ?f3 ?f4 ?f5 ?f6 ?_)
                case f1 => rw [Hus2.out, HMl.out]; omega
                case f2 => exact Hcl2.out.1
                case f3 => exact Hcl2.out.2
                case f4 => unfold maxLen; omega
                case f5 => omega
                case f6 => exact HB4.out
                intro v'' w5 hown5 hgrow5 _
                have hjoin := HOut4.out.join (ks := M) Hus2.out Hsub.out.each (by have := ownsRow_base hown5 (Nat.le_trans HBl.out HB1.out); rw [HPl2.out, HMl.out] at this; exact this) hgrow5
                have hb5 : Below w1.heap.size w4 w5 := Below.grown (Below.refl _ _) hgrow5 HB4.out (fun k hk => (World.ownsRow.lt Htop4.out k hk).1)
                have htop5 : ∀ g, v''.ownBlock = some g → w1.heap.size ≤ g := fun g hg => (World.ownsRow.lt hown5 g hg).1
                have Hjoin := Lib.hid hjoin
                have Hb5 := Lib.hid (Hb4.out.trans hb5)
                have Htop5 := Lib.hid htop5
                clear hown5 hgrow5 hjoin hb5 htop5
                go_wp2
                go_roundw
                case rel => exact ⟨k + 1, _, by omega, by go_num, by rw [HP.out]; exact Hjoin.out, Htop5.out, Hb5.out⟩
                case measure => simp [intOf]; omega

        · obtain rfl : k = R.length := by omega
          have HV := Lib.hid (show goP d ([] : List (List Int)) sums R.length = goW (d + 1) ([] : List (List Int)) sums by rw [HR.out]; exact goP_end d ([] : List (List Int)) sums)
          go_wp2
          go_ret
          exact ⟨_, vs, rfl, by rw [← HV.out]; exact Hown.out, fun g hg => Nat.le_trans HB1.out (Htop.out g hg), Hb1.out.trans (Hbr.out.mono HB1.out)⟩
    | some ad0 =>
      have hl : ((rows.length : Int) == (sums.length : Int)) = false := by simp; omega
      have hx1 : rows.length ≤ 9223372036854775807 := by omega
      have hx2 : sums.length ≤ 9223372036854775807 := by omega
      have hn4 : sums.length ≤ 5 := by omega
      obtain ⟨j0, hj, hy0, hy1, hy2⟩ := info_parts Tryd.info_ints
      obtain ⟨i0, hi, hz0, hz1, hz2⟩ := info_parts Tryd.info_int
      obtain ⟨k0, hk0, ht0, ht1, ht2⟩ := info_parts Tryd.info_intssW
      have Hd := Lib.hid hd
      have H1 := Lib.hid h1
      have H2 := Lib.hid h2
      have Hih := Lib.hid ih
      have HBl := Lib.hid hB
      have H01 := Lib.hid h01
      have Hsl := Lib.hid hsl
      have CR := Lib.hid (fun (w1 : World) (hb : Below w.heap.size w w1) => weRows_any sums h01 hn4 a2 c2 sums.length [] 0 none 0 B w1 (by simp) (by omega) (Nat.le_trans hB hb.size) ((own_at h2).below hb) (OwnI.nil _ _))
      clear h1 h2 ih hd h01 hsl
      go_enter Tryd.func116, Tryd.ntmps116
      go_wp2_with fail
      refine (CR.out w (Below.refl _ _)).mono ?_
      rintro e w1 ⟨rv, rs, rfl, hrv, _, hb1⟩
      obtain ⟨R, hR⟩ : ∃ R, R = rowsW sums sums.length [] 0 := ⟨_, rfl⟩
      rw [← hR] at hrv
      obtain ⟨ra, rc, rfl, hr1, hr2, _⟩ := hrv.read
      have HR := Lib.hid hR
      have Hrv := Lib.hid hrv
      have Hb1 := Lib.hid hb1
      have HB1 := Lib.hid hb1.size
      have hRl : R.length ≤ 1000000 := by rw [hR]; exact Nat.le_trans (rowsW_le _ _ _ _) (Nat.le_trans (Nat.pow_le_pow_right (by omega) (show sums.length ≤ 5 by omega)) (by decide))
      clear hrv hb1 hR CR
      have hrlen : ∀ k, k < R.length → (gr R k).length = sums.length ∧ ∀ j, j < sums.length → 0 ≤ gi sums j + gi (gr R k) j ∧ gi sums j + gi (gr R k) j ≤ 1 ∧ -1 ≤ gi (gr R k) j ∧ gi (gr R k) j ≤ 1 := fun k hk => by
        have := rowsW_mem sums sums.length [] 0 (gr R k) (by rw [← HR.out]; exact gr_mem hk)
        exact ⟨by simpa using this.1, fun j hj => by have := this.2.2 j (by simp) (by simpa using hj); omega⟩
      have Hrlen := Lib.hid hrlen
      clear hrlen
      go_wp2
      go_loopw [5, 24] (fun out i wr => ∃ (k : Nat) (vs : List Value), k ≤ R.length ∧ i = .int .i64 k ∧ OwnRL wr B out (goP d rows sums k) vs ∧ (∀ g, out.ownBlock = some g → w1.heap.size ≤ g) ∧ Below w1.heap.size w1 wr) (fun _ i _ => R.length - (intOf i).toNat)
      case atStart => exact ⟨0, [], Nat.zero_le _, rfl, by rw [goP_zero]; exact OwnRL.nil _ _, fun g hg => by simp [Value.ownBlock] at hg, Below.refl _ _⟩
      case round =>
        obtain ⟨k, vs, hk, rfl, hown, htop, hbr⟩ := hrel
        have Hown := Lib.hid hown
        have Htop := Lib.hid htop
        have Hbr := Lib.hid hbr
        have HB := Lib.hid hbr.size
        clear hown htop hbr
        obtain ⟨wo, rfl⟩ : ∃ wo : World, wo = wr := ⟨_, rfl⟩
        by_cases hlt : k < R.length
        · have hrr := Hrv.out.below Hbr.out
          obtain ⟨ao', cc', e, _, _, hcs⟩ := ownsRow_read hrr.top
          cases e
          obtain ⟨b, o, e, hcell⟩ := hcs k hlt
          have hrow := hrr.rows k hlt
          obtain ⟨qa, qc, hq, hq1, hq2, _⟩ := hrow.read
          obtain ⟨hl1, hbd⟩ := Hrlen.out k hlt
          rw [hl1] at hq hq1
          rw [hq] at hcell hrow
          subst e
          have HP := Lib.hid (show goP d rows sums (k + 1) = goP d rows sums k ++ goW d (rows ++ [gr R k]) (addL sums (gr R k)) by rw [HR.out]; exact goP_step (by rw [← HR.out]; exact hlt))
          have HPl := Lib.hid (goP_le d rows sums (k + 1) hn4)
          have Hmem := Lib.hid (show gr R k ∈ rowsW sums sums.length [] 0 by rw [← HR.out]; exact gr_mem hlt)
          obtain ⟨x, hx⟩ : ∃ x, x = gr R k := ⟨_, rfl⟩
          rw [← hx] at hrow hl1 hbd HP Hmem
          have Hrow := Lib.hid hrow
          have Hl1 := Lib.hid hl1
          have Hbd := Lib.hid hbd
          have CO := Lib.hid (l1Own_any a2 c2 sums wo (by omega) H2.out.none_cap (own_at (H2.out.below (Hb1.out.trans (Hbr.out.mono HB1.out)))))
          clear hrr hcs hrow hl1 hbd hq hx
          go_wp2_with fail
          refine CO.out.mono ?_
          rintro e w2 ⟨f1, rfl, hf1, hb2⟩
          obtain ⟨fa, fc, rfl, _, _, _⟩ := hf1.read
          obtain ⟨g2, rfl, hg2a, hg2b⟩ := hf1.isAt (by have := Hd.out; have := Hsl.out; omega)
          rw [← addP_zero sums x, addP_len] at hf1
          have Hf1 := Lib.hid hf1
          have Hb2 := Lib.hid hb2
          clear hf1 hb2 CO
          go_wp2
          go_loopw [32] (fun i wi => ∃ t : Nat, t ≤ sums.length ∧ i = .int .i64 t ∧ OwnI wi wo.heap.size (.slice (some ⟨g2, 0, none⟩) sums.length fc) (addP sums x t) ∧ OnlyW (fun g => g = g2) w2 wi) (fun i _ => sums.length - (intOf i).toNat)
          case atStart => exact ⟨0, Nat.zero_le _, rfl, Hf1.out, OnlyW.refl _ _⟩
          case round =>
            obtain ⟨t, ht, rfl, hf, ho⟩ := hrel
            clear Hf1
            by_cases htl : t < sums.length
            · have hbi : Below wo.heap.size wo wr := Hb2.out.trans (ho.below (B := wo.heap.size) (fun g e => by have := e; omega))
              obtain ⟨b2, o2, e2, hc2⟩ := own_at (Hrow.out.below hbi) t (by rw [Hl1.out]; exact htl)
              have hcf := hf.cellAt t htl
              rw [gi_addP htl, if_neg (by omega), Int.add_zero] at hcf
              have hff := hf.frozenAt t
              have hbd := Hbd.out t htl
              have h01 := H01.out t htl
              have hst := hf.store t (gi sums t + gi x t)
              rw [addP_set htl] at hst
              have hos := ho.setCell (p := ⟨g2, t, none⟩) rfl (.int .i64 (gi sums t + gi x t))
              obtain ⟨p, hp⟩ : ∃ p, p = gi sums t := ⟨_, rfl⟩
              obtain ⟨y, hy⟩ : ∃ y, y = gi x t := ⟨_, rfl⟩
              rw [← hp] at hcf hbd h01 hst hos
              rw [← hy] at hc2 hbd hst hos
              have Hst := Lib.hid hst
              have Hos := Lib.hid hos
              subst e2
              clear hf ho hbi hst hos hp hy
              go_wp2
              go_roundw
              case rel => exact ⟨t + 1, by omega, by go_num, Hst.out, Hos.out⟩
              case measure => simp [intOf]; omega
            · obtain rfl : t = sums.length := by omega
              rw [addP_end] at hf
              have hbA : Below wo.heap.size wo wr := Hb2.out.trans (ho.below (B := wo.heap.size) (fun g e => by have := e; omega))
              obtain ⟨wA, hwA⟩ : ∃ wA : World, wA = wr := ⟨_, rfl⟩
              rw [← hwA] at hf hbA ⊢
              have hg2A : g2 < wA.heap.size := (hf.lt g2 rfl).2
              have Hf := Lib.hid hf
              have HbA := Lib.hid hbA
              have HBA := Lib.hid hbA.size
              have HwB := Lib.hid (show w.heap.size ≤ wA.heap.size from Nat.le_trans HB1.out (Nat.le_trans HB.out hbA.size))
              have HRo := Lib.hid (H1.out.below (Hb1.out.trans ((Hbr.out.trans (hbA.mono HB.out)).mono HB1.out)))
              have Hx := Lib.hid (Hrow.out.below hbA)
              have HOut := Lib.hid (Hown.out.below hbA)
              clear hf ho hbA hwA Hb2 htl hcell
              have hcl := HRo.out.cells
              have Hcl := Lib.hid hcl
              have Hus := Lib.hid HRo.out.len
              have hrl4 : rows.length ≤ 5 := by have := Hd.out; omega
              clear hcl
              go_wp2_with (at_builtin; refine wpList_append_own _ rfl _ _ 25 rfl wA.heap.size 28 j0 (.slice none 0 0) 1 24 Tryd.underlying25 hj hy0 hy1 hy2 rfl (by decide) _ _ _ rfl (World.ownsRow_made wA #[] 0 (Nat.le_refl _) (Nat.zero_le _) rfl) ad0 rows.length c1 us rfl ?qc1 ?qc2 ?qc3 ?qc4 ?qc5 ?qc6 ?_)
              case qc1 => rw [Hus.out]; omega
              case qc2 => intro j u hj; rw [World.cell?_alloc_lt _ _ _ (World.block_lt_of_cell? _ _ (Hcl.out.1 j u hj))]; exact Hcl.out.1 j u hj
              case qc3 => exact Hcl.out.2
              case qc4 => unfold maxLen; omega
              case qc5 => omega
              case qc6 => simp
              intro vB wB hownB0 hgrowB _
              have hownB : wB.ownsRow wA.heap.size 28 1 vB rows.length us := by simpa using hownB0
              have hbB : Below wA.heap.size wA wB := ((Below.refl _ _).alloc (Nat.le_refl _) _).grown hgrowB (by simp) (by intro k hk; simp [Value.ownBlock] at hk; omega)
              have hszB := hbB.size
              clear hownB0 hgrowB
              have HownB := Lib.hid hownB
              have HbB := Lib.hid hbB
              have HszB := Lib.hid hszB
              obtain ⟨oB, cB, hoB, _, _, _⟩ := ownsRow_read hownB
              clear hownB hbB hszB
              subst hoB
              have hrl24 : rows.length ≤ 5 := by have := Hd.out; omega
              go_wp2_with (at_builtin; refine wpList_append_own _ rfl _ _ 25 rfl wA.heap.size 28 j0 (.slice none 0 0) 1 24 Tryd.underlying25 hj hy0 hy1 hy2 rfl (by decide) _ rows.length us rfl (World.ownsRow.alloc HownB.out (.cells #[.slice qa sums.length qc] 28)) ⟨wB.heap.size, 0, none⟩ 1 1 [.slice qa sums.length qc] rfl rfl ?g1 ?g2 ?g3 ?g4 ?g5 ?_)
              case g1 => exact cell_one_new _ _ _
              case g2 => intro u hu; simp at hu; subst hu; rfl
              case g3 => unfold maxLen; omega
              case g4 => omega
              case g5 => have := HszB.out; simp; omega
              intro vC wC hownC hgrowC _
              have hRB : OwnR (wB.alloc (.cells #[.slice qa sums.length qc] 28)) B (.slice oB rows.length cB) rows us :=
                ⟨ownsRow_base (World.ownsRow.alloc HownB.out _) (Nat.le_trans HBl.out HwB.out), fun i hi => (HRo.out.rows i hi).below (HbB.out.alloc HszB.out _)⟩
              have hRC : OwnR wC B vC (rows ++ [x]) (us ++ [.slice qa sums.length qc]) := hRB.join (k := [x]) rfl (fun i hi => by
                obtain rfl : i = 0 := by simpa using hi
                exact Hx.out.below (HbB.out.alloc HszB.out _)) (ownsRow_base hownC (Nat.le_trans HBl.out HwB.out)) hgrowC
              have hbC : Below wA.heap.size wA wC := (HbB.out.alloc HszB.out (.cells #[.slice qa sums.length qc] 28)).grown hgrowC (by have := HszB.out; simp; omega) (fun k hk => (World.ownsRow.lt HownB.out k hk).1)
              clear hRB
              obtain ⟨oC, cC, hoC, _, _, _⟩ := hRC.read
              rw [show (rows ++ [x]).length = rows.length + 1 by simp] at hoC
              have hfC : OwnI wC B (.slice (some ⟨g2, 0, none⟩) (addL sums x).length fc) (addL sums x) := by rw [addL_len]; exact (Hf.out.below hbC).base (Nat.le_trans HBl.out (Nat.le_trans HB1.out HB.out))
              have hrec := Hih.out (rows ++ [x]) (addL sums x) oC (some ⟨g2, 0, none⟩) cC fc B (us ++ [.slice qa sums.length qc]) wC (by rw [addL_len]; exact Hsl.out) (bits01.add Hmem.out) (by have := Hd.out; simp; omega) (Nat.le_trans HBl.out (Nat.le_trans HwB.out hbC.size)) (by rw [show (rows ++ [x]).length = rows.length + 1 by simp, ← hoC]; exact hRC) hfC
              rw [addL_len, show (rows ++ [x]).length = rows.length + 1 by simp] at hrec
              obtain ⟨rl3, hrl3⟩ : ∃ rl3, rl3 = rows.length + 1 := ⟨_, rfl⟩
              rw [← hrl3] at hoC hrec
              subst hoC
              have Hrec := Lib.hid hrec
              have HbC := Lib.hid hbC
              clear hownC hgrowC hRC hbC hfC hrec hrl3
              go_wp2_with fail
              refine Hrec.out.mono ?_
              rintro e w4 ⟨sub, ws, rfl, hsub, hst, hb4⟩
              obtain ⟨M, hM⟩ : ∃ M, M = goW d (rows ++ [x]) (addL sums x) := ⟨_, rfl⟩
              obtain ⟨P0, hP0⟩ : ∃ P0, P0 = goP d rows sums k := ⟨_, rfl⟩
              rw [← hM] at hsub HP
              rw [← hP0] at HOut HP
              have hPM : P0.length + M.length ≤ 847288609443 := by
                have h := HPl.out
                rw [HP.out, List.length_append] at h
                exact Nat.le_trans h (Nat.le_trans (Nat.pow_le_pow_right (by omega) (show d + 1 ≤ 5 by have := Hd.out; omega)) (by decide))
              obtain ⟨sa, sc, rfl, hs1, hs2⟩ := hsub.head
              have hbA4 := HbC.out.trans (hb4.mono HbC.out.size)
              have HOut4 := Lib.hid (HOut.out.below hbA4)
              have Hb4 := Lib.hid (Hbr.out.trans ((HbA.out.trans (hbA4.mono HBA.out)).mono HB.out))
              have HB4 := Lib.hid Hb4.out.size
              have Hsub := Lib.hid hsub
              obtain ⟨oa, oc, hoo, _, _⟩ := HOut4.out.head
              obtain ⟨Ml, hMl2⟩ : ∃ Ml, Ml = M.length := ⟨_, rfl⟩
              obtain ⟨Pl, hPl2⟩ : ∃ Pl, Pl = P0.length := ⟨_, rfl⟩
              rw [← hPl2] at hoo hPM
              rw [← hMl2] at hs1 hPM
              have HMl := Lib.hid hMl2
              have HPl2 := Lib.hid hPl2
              clear hsub hst hb4 hM hP0 hPl2 hbA4 Hrec HbC
              subst hoo
              have Htop4 := Lib.hid (ownsRow_raise HOut4.out.top Htop.out)
              cases sa with
              | none =>
                have hM0 : M = [] := by
                  rcases Hsub.out.top.2 with ⟨h1, h2⟩ | ⟨g, cap, cur, h1, _⟩
                  · exact List.eq_nil_of_length_eq_zero h2
                  · simp at h1
                have hsc : sc = 0 := by
                  rcases Hsub.out.top.2 with ⟨h1, h2⟩ | ⟨g, cap, cur, h1, _⟩
                  · simp at h1; exact h1.2
                  · simp at h1
                subst hM0 hsc
                obtain rfl : Ml = 0 := by rw [hMl2]; rfl
                clear hs1 hs2 hMl2 HMl hPM
                go_wp2_with (at_builtin; refine wpList_append_own_none rfl _ _ 47 rfl w1.heap.size 25 k0 1 Tryd.underlying47 hk0 _ _ _ rfl (by have := Htop4.out; rw [← HPl2.out] at this; exact this) rfl ?_)
                go_wp2
                go_roundw
                case rel => exact ⟨k + 1, vs, by omega, by go_num, by rw [HP.out, List.append_nil]; exact HOut4.out, Htop.out, Hb4.out⟩
                case measure => simp [intOf]; omega
              | some ad2 =>
                have Hcl2 := Lib.hid Hsub.out.cells
                have Hus2 := Lib.hid Hsub.out.len
                rw [← hMl2]
                clear hMl2 hs1 hs2
                go_wp2_with (at_builtin; refine wpList_append_own _ rfl _ _ 47 rfl w1.heap.size 25 k0 (.slice none 0 0) 1 24 Tryd.underlying47 hk0 ht0 ht1 ht2 rfl (by decide) _ Pl vs rfl (by have := Htop4.out; rw [← HPl2.out] at this; exact this) ad2 Ml sc ws rfl ?f1 ?f2 ?f3 ?f4 ?f5 ?f6 ?_)
                case f1 => rw [Hus2.out, HMl.out]; omega
                case f2 => exact Hcl2.out.1
                case f3 => exact Hcl2.out.2
                case f4 => unfold maxLen; omega
                case f5 => omega
                case f6 => exact HB4.out
                intro v'' w5 hown5 hgrow5 _
                have hjoin := HOut4.out.join (ks := M) Hus2.out Hsub.out.each (by have := ownsRow_base hown5 (Nat.le_trans HBl.out HB1.out); rw [HPl2.out, HMl.out] at this; exact this) hgrow5
                have hb5 : Below w1.heap.size w4 w5 := Below.grown (Below.refl _ _) hgrow5 HB4.out (fun k hk => (World.ownsRow.lt Htop4.out k hk).1)
                have htop5 : ∀ g, v''.ownBlock = some g → w1.heap.size ≤ g := fun g hg => (World.ownsRow.lt hown5 g hg).1
                have Hjoin := Lib.hid hjoin
                have Hb5 := Lib.hid (Hb4.out.trans hb5)
                have Htop5 := Lib.hid htop5
                clear hown5 hgrow5 hjoin hb5 htop5
                go_wp2
                go_roundw
                case rel => exact ⟨k + 1, _, by omega, by go_num, by rw [HP.out]; exact Hjoin.out, Htop5.out, Hb5.out⟩
                case measure => simp [intOf]; omega
        · obtain rfl : k = R.length := by omega
          have HV := Lib.hid (show goP d rows sums R.length = goW (d + 1) rows sums by rw [HR.out]; exact goP_end d rows sums)
          go_wp2
          go_ret
          exact ⟨_, vs, rfl, by rw [← HV.out]; exact Hown.out, fun g hg => Nat.le_trans HB1.out (Htop.out g hg), Hb1.out.trans (Hbr.out.mono HB1.out)⟩
end Go.Proofs.YtnhkclnloiiihaaDoor

namespace Go.Proofs.YtnhkclnloiiihaaDoor
open Go.RowKit

/-- a ratio without a common divisor -/
def nrm (p q : Nat) : Nat × Nat := (p / Nat.gcd p q, q / Nat.gcd p q)
def Cop (a : Nat × Nat) : Prop := Nat.gcd a.1 a.2 = 1 ∧ 0 < a.2
theorem nrm_mul {k : Nat} (hk : 0 < k) (p q : Nat) : nrm (k * p) (k * q) = nrm p q := by
  unfold nrm
  rw [Nat.gcd_mul_left, Nat.mul_div_mul_left _ _ hk, Nat.mul_div_mul_left _ _ hk]
theorem nrm_id {a : Nat × Nat} (h : Cop a) : nrm a.1 a.2 = a := by
  unfold nrm
  rw [h.1, Nat.div_one, Nat.div_one]
theorem nrm_parts {p q : Nat} (hq : 0 < q) : 0 < Nat.gcd p q ∧ p = Nat.gcd p q * (nrm p q).1 ∧ q = Nat.gcd p q * (nrm p q).2 ∧ Cop (nrm p q) := by
  have hg : 0 < Nat.gcd p q := Nat.gcd_pos_of_pos_right _ hq
  have h1 : p = Nat.gcd p q * (p / Nat.gcd p q) := (Nat.mul_div_cancel' (Nat.gcd_dvd_left p q)).symm
  have h2 : q = Nat.gcd p q * (q / Nat.gcd p q) := (Nat.mul_div_cancel' (Nat.gcd_dvd_right p q)).symm
  refine ⟨hg, h1, h2, ?_, ?_⟩
  · show Nat.gcd (p / Nat.gcd p q) (q / Nat.gcd p q) = 1
    have h3 : Nat.gcd (Nat.gcd p q * (p / Nat.gcd p q)) (Nat.gcd p q * (q / Nat.gcd p q)) = Nat.gcd p q := by rw [← h1, ← h2]
    rw [Nat.gcd_mul_left] at h3
    exact Nat.eq_of_mul_eq_mul_left hg (by rw [h3, Nat.mul_one])
  · show 0 < q / Nat.gcd p q
    rcases Nat.eq_zero_or_pos (q / Nat.gcd p q) with h | h
    · rw [h, Nat.mul_zero] at h2; omega
    · exact h
theorem nrm_cop {p q : Nat} (hq : 0 < q) : Cop (nrm p q) := (nrm_parts hq).2.2.2
theorem nrm_le (p q : Nat) : (nrm p q).1 ≤ p ∧ (nrm p q).2 ≤ q := ⟨Nat.div_le_self _ _, Nat.div_le_self _ _⟩
theorem nrm_times {p q : Nat} (hq : 0 < q) (x y : Nat) : nrm ((nrm p q).1 * x) ((nrm p q).2 * y) = nrm (p * x) (q * y) := by
  obtain ⟨hg, h1, h2, _⟩ := nrm_parts (p := p) hq
  obtain ⟨g, hgg⟩ : ∃ g, g = Nat.gcd p q := ⟨_, rfl⟩
  obtain ⟨a, ha⟩ : ∃ a, a = nrm p q := ⟨_, rfl⟩
  rw [← hgg] at hg h1 h2
  rw [← ha] at h1 h2 ⊢
  rw [h1, h2, Nat.mul_assoc, Nat.mul_assoc, nrm_mul hg]
/-- products, sums, one divided by another -/
def tm (a b : Nat × Nat) : Nat × Nat := nrm (a.1 * b.1) (a.2 * b.2)
def pl (a b : Nat × Nat) : Nat × Nat := nrm (a.1 * b.2 + b.1 * a.2) (a.2 * b.2)
def ov (a b : Nat × Nat) : Nat × Nat := nrm (a.1 * b.2) (a.2 * b.1)
theorem tm_cop {a b : Nat × Nat} (ha : Cop a) (hb : Cop b) : Cop (tm a b) := nrm_cop (Nat.mul_pos ha.2 hb.2)
theorem pl_cop {a b : Nat × Nat} (ha : Cop a) (hb : Cop b) : Cop (pl a b) := nrm_cop (Nat.mul_pos ha.2 hb.2)
theorem ov_cop {a b : Nat × Nat} (ha : Cop a) (hb : 0 < b.1) : Cop (ov a b) := nrm_cop (Nat.mul_pos ha.2 hb)
theorem cop_swap {b : Nat × Nat} (h : Cop b) (hb : 0 < b.1) : Cop (b.2, b.1) := ⟨by rw [Nat.gcd_comm]; exact h.1, hb⟩
theorem cop_one (x : Nat) : Cop (x, 1) := ⟨Nat.gcd_one_right x, Nat.one_pos⟩
theorem gcd_of_dvd {a b p s : Nat} (h : Nat.gcd a b = 1) (hp : p ∣ a) (hs : s ∣ b) : Nat.gcd p s = 1 := by
  have : Nat.gcd p s ∣ Nat.gcd a b := Nat.dvd_gcd (Nat.dvd_trans (Nat.gcd_dvd_left _ _) hp) (Nat.dvd_trans (Nat.gcd_dvd_right _ _) hs)
  rw [h] at this
  exact Nat.dvd_one.1 this
/-- a product made of two ratios across -/
theorem tm_cross {a b : Nat × Nat} (ha : Cop a) (hb : Cop b) : ((nrm a.1 b.2).1 * (nrm b.1 a.2).1, (nrm a.1 b.2).2 * (nrm b.1 a.2).2) = tm a b := by
  obtain ⟨g1, p1, q1, c1⟩ := nrm_parts (p := a.1) hb.2
  obtain ⟨g2, p2, q2, c2⟩ := nrm_parts (p := b.1) ha.2
  obtain ⟨G, hG⟩ : ∃ G, G = Nat.gcd a.1 b.2 := ⟨_, rfl⟩
  obtain ⟨H, hH⟩ : ∃ H, H = Nat.gcd b.1 a.2 := ⟨_, rfl⟩
  obtain ⟨⟨p, q⟩, hx⟩ : ∃ x, x = nrm a.1 b.2 := ⟨_, rfl⟩
  obtain ⟨⟨r, s⟩, hy⟩ : ∃ y, y = nrm b.1 a.2 := ⟨_, rfl⟩
  rw [← hG] at g1 p1 q1
  rw [← hH] at g2 p2 q2
  rw [← hx] at p1 q1 c1 ⊢
  rw [← hy] at p2 q2 c2 ⊢
  simp only at p1 q1 p2 q2 ⊢
  have k1 : Nat.gcd p s = 1 := gcd_of_dvd ha.1 ⟨G, by rw [p1, Nat.mul_comm]⟩ ⟨H, by rw [q2, Nat.mul_comm]⟩
  have k2 : Nat.gcd r q = 1 := gcd_of_dvd hb.1 ⟨H, by rw [p2, Nat.mul_comm]⟩ ⟨G, by rw [q1, Nat.mul_comm]⟩
  have k3 : Nat.gcd p q = 1 := c1.1
  have k4 : Nat.gcd r s = 1 := c2.1
  have hc : Nat.gcd (p * r) (q * s) = 1 := by
    have e1 : Nat.Coprime p (q * s) := Nat.Coprime.mul_right k3 k1
    have e2 : Nat.Coprime r (q * s) := Nat.Coprime.mul_right k2 k4
    exact Nat.Coprime.mul_left e1 e2
  have hpos : 0 < q * s := Nat.mul_pos c1.2 c2.2
  have e : tm a b = nrm (p * r) (q * s) := by
    unfold tm
    rw [p1, q1, p2, q2, show G * p * (H * r) = (G * H) * (p * r) from by simp [Nat.mul_left_comm, Nat.mul_comm], show H * s * (G * q) = (G * H) * (q * s) from by simp [Nat.mul_left_comm, Nat.mul_comm], nrm_mul (Nat.mul_pos g1 g2)]
  rw [e]
  exact (nrm_id (a := (p * r, q * s)) ⟨hc, hpos⟩).symm
theorem tm_whole {p q : Nat} (hq : 0 < q) (x : Nat) : tm (nrm p q) (x, 1) = nrm (p * x) q := by
  unfold tm
  simp only
  rw [nrm_times hq x 1, Nat.mul_one]
theorem ov_whole {p q : Nat} (hq : 0 < q) (x : Nat) : ov (nrm p q) (x, 1) = nrm p (q * x) := by
  unfold ov
  simp only
  rw [nrm_times hq 1 x, Nat.mul_one]
end Go.Proofs.YtnhkclnloiiihaaDoor

namespace Go.Proofs.YtnhkclnloiiihaaDoor
open Go.RowKit

/-- a table: 1 to 4 rows of as many numbers in 1..4 -/
def isTab (t : List (List Int)) : Prop := (1 ≤ t.length ∧ t.length ≤ 4) ∧ ∀ i, i < t.length → (gr t i).length = t.length ∧ allIn (gr t i) 1 4
/-- a number of a table as a natural one -/
def eN (t : List (List Int)) (i j : Nat) : Nat := (gi (gr t i) j).toNat
theorem eN_eq {t : List (List Int)} (h : isTab t) {i j : Nat} (hi : i < t.length) (hj : j < t.length) : gi (gr t i) j = (eN t i j : Int) ∧ 1 ≤ eN t i j ∧ eN t i j ≤ 4 := by
  obtain ⟨h1, h2⟩ := h.2 i hi
  have := h2 j (by omega)
  unfold eN
  omega
/-- the product of the numbers where the matrix has s, in the first j places of row k -/
def accN (s : Int) (m t : List (List Int)) (k : Nat) : Nat → Nat
  | 0 => 1
  | j + 1 => accN s m t k j * (if gi (gr m k) j = s then eN t k j else 1)
def accR (s : Int) (m t : List (List Int)) : Nat → Nat
  | 0 => 1
  | k + 1 => accR s m t k * accN s m t k m.length
def prd (s : Int) (m t : List (List Int)) (k j : Nat) : Nat := accR s m t k * accN s m t k j
theorem prd_zero (s : Int) (m t : List (List Int)) : prd s m t 0 0 = 1 := rfl
theorem prd_yes {s : Int} {m t : List (List Int)} {k j : Nat} (h : gi (gr m k) j = s) : prd s m t k (j + 1) = prd s m t k j * eN t k j := by
  unfold prd; rw [accN, if_pos h, Nat.mul_assoc]
theorem prd_no {s : Int} {m t : List (List Int)} {k j : Nat} (h : gi (gr m k) j ≠ s) : prd s m t k (j + 1) = prd s m t k j := by
  unfold prd; rw [accN, if_neg h, Nat.mul_one]
theorem prd_row (s : Int) (m t : List (List Int)) (k : Nat) : prd s m t k m.length = prd s m t (k + 1) 0 := by
  unfold prd; rw [accR, accN, Nat.mul_one]
theorem prd_end (s : Int) (m t : List (List Int)) : prd s m t m.length 0 = accR s m t m.length := by unfold prd; rw [accN, Nat.mul_one]
theorem accN_bd {s : Int} {m t : List (List Int)} (h : isTab t) {k : Nat} (hk : k < t.length) : ∀ {j : Nat}, j ≤ t.length → 1 ≤ accN s m t k j ∧ accN s m t k j ≤ 4 ^ j
  | 0, _ => by simp [accN]
  | j + 1, hj => by
    have ih := accN_bd (s := s) (m := m) h hk (j := j) (by omega)
    have he := (eN_eq h hk (show j < t.length by omega)).2
    rw [accN, Nat.pow_succ]
    split
    · exact ⟨Nat.mul_le_mul ih.1 he.1, Nat.mul_le_mul ih.2 he.2⟩
    · exact ⟨by omega, Nat.mul_le_mul ih.2 (by omega)⟩
theorem accR_bd {s : Int} {m t : List (List Int)} (h : isTab t) (hm : m.length = t.length) : ∀ {k : Nat}, k ≤ t.length → 1 ≤ accR s m t k ∧ accR s m t k ≤ 256 ^ k
  | 0, _ => by simp [accR]
  | k + 1, hk => by
    have ih := accR_bd (s := s) h hm (k := k) (by omega)
    have h2 := accN_bd (s := s) (m := m) h (show k < t.length by omega) (j := t.length) (Nat.le_refl _)
    have h3 : 4 ^ t.length ≤ 256 := Nat.le_trans (Nat.pow_le_pow_right (by omega) h.1.2) (by decide)
    rw [accR, hm, Nat.pow_succ]
    exact ⟨Nat.mul_le_mul ih.1 h2.1, Nat.mul_le_mul ih.2 (Nat.le_trans h2.2 h3)⟩
theorem prd_bd {s : Int} {m t : List (List Int)} (h : isTab t) (hm : m.length = t.length) {k j : Nat} (hk : k < t.length) (hj : j ≤ t.length) : 1 ≤ prd s m t k j ∧ prd s m t k j ≤ 1099511627776 := by
  have h1 := accR_bd (s := s) h hm (k := k) (by omega)
  have h2 := accN_bd (s := s) (m := m) h hk hj
  have h3 : 4 ^ j ≤ 256 := Nat.le_trans (Nat.pow_le_pow_right (by omega) (show j ≤ 4 by have := h.1.2; omega)) (by decide)
  have h4 : 256 ^ k ≤ 4294967296 := Nat.le_trans (Nat.pow_le_pow_right (by omega) (show k ≤ 4 by have := h.1.2; omega)) (by decide)
  unfold prd
  exact ⟨Nat.mul_le_mul h1.1 h2.1, Nat.le_trans (Nat.mul_le_mul (Nat.le_trans h1.2 h4) (Nat.le_trans h2.2 h3)) (by decide)⟩
theorem accR_small {s : Int} {m t : List (List Int)} (h : isTab t) (hm : m.length = t.length) : 1 ≤ accR s m t m.length ∧ accR s m t m.length ≤ 4294967296 := by
  have h1 := accR_bd (s := s) h hm (k := m.length) (by omega)
  exact ⟨h1.1, Nat.le_trans h1.2 (Nat.le_trans (Nat.pow_le_pow_right (by omega) (show m.length ≤ 4 by have := h.1.2; omega)) (by decide))⟩
/-- the ratio of both products -/
def pwR (m t : List (List Int)) : Nat × Nat := nrm (accR 1 m t m.length) (accR (-1) m t m.length)
def okPw (m t : List (List Int)) : Prop := (good m ∧ isTab t) ∧ m.length = t.length
end Go.Proofs.YtnhkclnloiiihaaDoor

