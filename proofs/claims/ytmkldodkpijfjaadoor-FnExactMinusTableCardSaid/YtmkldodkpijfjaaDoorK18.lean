/- Parts of proofs: contracts and plain facts. Conditions: as each says. -/
import Derived.Test.YtmkldodkpijfjaaDoorK17
namespace Go.Proofs.YtmkldodkpijfjaaDoor
open Go.RowKit

set_option maxRecDepth 100000 in
set_option maxHeartbeats 3200000 in
theorem implJointTable_any (n : Int) (w : World) (hz : -9223372036854775808 ≤ n ∧ n ≤ 9223372036854775807) (hD : Dj w) :
    Calls Tryd.prog 18 #[.int .i64 n] w fun e w' => MRes (1 ≤ n ∧ n ≤ 4) (joint n.toNat) w' w.heap.size e ∧ Below w.heap.size w w' := by
  have HD := Lib.hid hD
  have HZ := Lib.hid hz
  have C1 := Lib.hid (implInversionTable_any n w hz hD)
  clear hD hz
  go_enter Tryd.func18, Tryd.ntmps18
  go_wp2_with fail
  refine C1.out.mono ?_
  rintro e w1 ⟨⟨v, b, r, rfl, hv, hr⟩, hb⟩
  by_cases hn : 1 ≤ n ∧ n ≤ 4
  · have hr2 : b = true ∧ r = tabW fInv (allW n.toNat) := by
      rcases hr with ⟨_, h2, h3⟩ | ⟨h1, _, _⟩
      · exact ⟨h2, h3⟩
      · exact absurd hn h1
    obtain ⟨rfl, rfl⟩ := hr2
    obtain ⟨N, rfl⟩ : ∃ N : Nat, n = (N : Int) := ⟨n.toNat, by omega⟩
    rw [Int.toNat_natCast] at hv
    have hN1 : 1 ≤ N := by omega
    have hN4 : N ≤ 4 := by omega
    obtain ⟨va, vc, hvv, _, _, _⟩ := hv.read
    have HJ := Lib.hid (j_ok N (by omega))
    obtain ⟨hs1, hs2, hs3, hs4⟩ := (j_size N (by omega)).resolve_left (by omega)
    have HR := Lib.hid (show (tabW fInv (allW N)).length = jR N from rfl)
    have HC := Lib.hid (show (tabW fMin (allW N)).length = jC N from rfl)
    rw [HR.out] at hvv
    subst hvv
    have C2 := Lib.hid (implMinusTable_any (N : Int) w1 HZ.out (HD.out.next hb))
    rw [Int.toNat_natCast] at C2
    have Hb := Lib.hid hb
    have HB := Lib.hid hb.size
    clear hv hr hb C1 hs1 hn
    go_wp2_with fail
    refine C2.out.mono ?_
    rintro e w2 ⟨⟨v2, b2, r2, rfl, hv2, hr2⟩, hb2⟩
    have hr3 : b2 = true ∧ r2 = tabW fMin (allW N) := by
      rcases hr2 with ⟨_, h2, h3⟩ | ⟨h1, _, _⟩
      · exact ⟨h2, h3⟩
      · exact absurd ⟨by omega, by omega⟩ h1
    obtain ⟨rfl, rfl⟩ := hr3
    obtain ⟨ua, uc, huu, _, _, _⟩ := hv2.read
    rw [HC.out] at huu
    subst huu
    have Hb2 := Lib.hid (Hb.out.trans (hb2.mono HB.out))
    have HB2 := Lib.hid Hb2.out.size
    obtain ⟨R, hR⟩ : ∃ R, R = jR N := ⟨_, rfl⟩
    obtain ⟨C, hC⟩ : ∃ C, C = jC N := ⟨_, rfl⟩
    have Hjt := Lib.hid (show joint N = tab R C (jF (allW N) (allW N).length) by rw [hR, hC]; rfl)
    rw [← hR] at hs2 HJ ⊢
    rw [← hC] at hs3 hs4 HJ ⊢
    clear hv2 hr2 hb2 C2 hR hC HR HC Hb HB
    go_wp2_with fail
    refine (newTable_any R C w2 (by omega) (by omega)).mono ?_
    rintro e w3 ⟨vs, rfl, hv3, hb3⟩
    obtain ⟨G, hG⟩ : ∃ G, G = w2.heap.size := ⟨_, rfl⟩
    rw [← hG] at hv3 ⊢
    have Hr0 := Lib.hid (show ∀ i, i < R → ∀ g, (vs.getD i undef).ownBlock = some g → g < w3.heap.size from fun i hi g hg2 => ((hv3.rows i hi).lt g hg2).2)
    have Hv3 := Lib.hid (show OwnP w3 w.heap.size (.slice (some ⟨G, 0, none⟩) R R) R (tab R C fun _ _ => 0) R vs from hv3.base (by rw [hG]; exact HB2.out))
    have Hb3 := Lib.hid (Hb2.out.trans (hb3.mono HB2.out))
    have HB3 := Lib.hid Hb3.out.size
    have CA := Lib.hid (allSigns_any N w3 hN1 (by omega) (HD.out.next Hb3.out))
    rw [allI_eq hN1 hN4] at CA
    have hlen := allW_len N (by omega)
    have HA := Lib.hid (fun m hm => allW_ok hN1 hN4 m hm)
    obtain ⟨A, hA⟩ : ∃ A, A = allW N := ⟨_, rfl⟩
    rw [← hA] at CA hlen HA HJ Hjt
    clear hv3 hb3 hG hA Hb2 HB2
    go_wp2_with fail
    refine CA.out.mono ?_
    rintro e w4 ⟨v4, ts, rfl, hv4, hb4⟩
    obtain ⟨ta, tc, rfl, ht1, ht2⟩ := hv4.head
    have Hv4 := Lib.hid hv4
    have Ht := Lib.hid (Hv3.out.below hb4)
    have Hb4 := Lib.hid (Hb3.out.trans (hb4.mono HB3.out))
    have HB4 := Lib.hid Hb4.out.size
    have HB34 := Lib.hid hb4.size
    clear hv4 hb4 CA Hv3
    go_wp2
    go_loopw [33] (fun i wr => ∃ (t : Nat) (f : Nat → Nat → Int), t ≤ A.length ∧ i = .int .i64 t ∧ OwnP wr w.heap.size (.slice (some ⟨G, 0, none⟩) R R) R (tab R C f) R vs ∧ (∀ p k, p < R → k < C → f p k = jF A t p k) ∧ OwnRL wr w3.heap.size (.slice ta A.length tc) A ts ∧ Below w.heap.size w wr) (fun i _ => A.length - (intOf i).toNat)
    case atStart => exact ⟨0, _, Nat.zero_le _, rfl, Ht.out, fun _ _ _ _ => rfl, Hv4.out, Hb4.out⟩
    case round =>
      obtain ⟨t, f, htt, rfl, hown, heq, hlist, hbr⟩ := hrel
      have Hown := Lib.hid hown
      have Heq := Lib.hid heq
      have Hlist := Lib.hid hlist
      have Hbr := Lib.hid hbr
      have HBr := Lib.hid hbr.size
      clear hown heq hlist hbr Ht Hv4
      by_cases hlt : t < A.length
      · obtain ⟨b1, o1, r1, d1, e1, hc1, hm1, _, _⟩ := Hlist.out.at hlt
        obtain ⟨hml, hgd⟩ := HA.out _ (gt_mem hlt)
        obtain ⟨j1, j2, j3, j4⟩ := HJ.out _ (gt_mem hlt)
        have CC := Lib.hid (countsOfKinds_any r1 d1 (gt A t) wr hgd hm1)
        have q0 : cntK (gt A t) 0 = (cN (gt A t) 0 : Int) := cN_eq hgd.1.2.1 0
        have q5 : cntK (gt A t) 5 = (cN (gt A t) 5 : Int) := cN_eq hgd.1.2.1 5
        have hbd := jF_bd A t (fInv (gt A t)) (fMin (gt A t))
        have HS := Lib.hid (fun p k => (show jF A (t + 1) p k = if p = fInv (gt A t) ∧ k = fMin (gt A t) then jF A t (fInv (gt A t)) (fMin (gt A t)) + 1 else jF A t p k from jF_step A t p k))
        have hfv := Heq.out _ _ j1 j2
        rw [hml] at hc1 CC
        subst e1
        obtain ⟨M, hM⟩ : ∃ M, M = gt A t := ⟨_, rfl⟩
        rw [← hM] at j1 j2 j3 j4 CC q0 q5 hbd HS hfv
        obtain ⟨p, hp⟩ : ∃ p, p = fInv M := ⟨_, rfl⟩
        obtain ⟨k, hk⟩ : ∃ k, k = fMin M := ⟨_, rfl⟩
        obtain ⟨c0, hc0⟩ : ∃ c0, c0 = cN M 0 := ⟨_, rfl⟩
        rw [← hk] at j3
        rw [j3] at q5 j4
        rw [← hp, ← hc0] at j4
        rw [← hc0] at q0
        rw [← hp] at j1 hbd HS hfv
        rw [← hk] at j2 hbd HS hfv
        have hsum : (c0 : Int) + (k : Int) = (p : Int) := by omega
        have hpb : p ≤ 100 := by omega
        obtain ⟨y, hy⟩ : ∃ y, y = jF A t p k := ⟨_, rfl⟩
        rw [← hy] at hbd HS hfv
        have Hfv := Lib.hid hfv
        have HQ := Lib.hid (And.intro q0 q5)
        clear hm1 hgd hml hM hp hk hc0 q0 q5 j3 j4 hfv hy
        go_wp2_with fail
        refine CC.out.mono ?_
        rintro e w5 ⟨rfl, hb5⟩
        have Hown5 := Lib.hid (Hown.out.below hb5)
        have Hlist5 := Lib.hid (Hlist.out.below hb5)
        have Hb5 := Lib.hid (Hbr.out.trans (hb5.mono HBr.out))
        have HB5 := Lib.hid Hb5.out.size
        clear hb5 CC Hown Hlist hc1
        go_upto_region 10 with (first | (refine wpList_allocT rfl 50 rfl _ _ Tryd.info_kc ?_) | (refine wpList_storeT rfl 50 _ _ rfl _ (kc fun _ => 0) _ rfl rfl rfl (Tryd.size_kc _) (kc_same _ _) (kc_one _) ?_))
        have hbA : Below w5.heap.size w5 (w5.alloc (.cells (kc fun q => cntK M q) 50)) := (Below.refl _ _).alloc (Nat.le_refl _) _
        have hK := KcAt.new w5 (fun q => cntK M q)
        have hown6 := Hown5.out.below hbA
        have Hlist6 := Lib.hid (Hlist5.out.below hbA)
        have Hb6 := Lib.hid (Hb5.out.trans (hbA.mono HB5.out))
        obtain ⟨g6, hg6⟩ : ∃ g6, g6 = w5.heap.size := ⟨_, rfl⟩
        rw [← hg6] at hK ⊢
        generalize hW6 : w5.alloc (.cells (kc fun q => cntK M q) 50) = w6 at hbA hK hown6 Hlist6 Hb6 ⊢
        have k0 := hK.cell (k := 0) (by omega)
        have k5 := hK.cell (k := 5) (by omega)
        rw [show cntK M ((0 : Nat) : Int) = cntK M 0 from rfl, HQ.out.1] at k0
        rw [show cntK M ((5 : Nat) : Int) = cntK M 5 from rfl, HQ.out.2] at k5
        have hd := hown6.cellAt p j1
        obtain ⟨g, cap, hvs, hd2, hf2, hg, hst⟩ := hown6.at2 j1 j2
        rw [hvs] at hd
        rw [Hfv.out] at hd2
        have Hst := Lib.hid (hst (y + 1))
        have Hlst := Lib.hid (show OwnRL (w6.setCell ⟨g, k, none⟩ (.int .i64 (y + 1))) w3.heap.size (.slice (some ⟨b1, o1, none⟩) A.length tc) A ts from by
          have hgl : g < w3.heap.size := by
            have h := (Hr0.out p j1)
            rw [hvs] at h
            exact h g rfl
          exact ⟨Go.ownsRow_setCell_other (a := ⟨g, k, none⟩) Hlist6.out.top (fun e => by have := (World.ownsRow.lt Hlist6.out.top g e).1; omega) _, fun i hi => by
            obtain ⟨us, hu⟩ := Hlist6.out.each i hi
            exact ⟨us, ⟨Go.ownsRow_setCell_other (a := ⟨g, k, none⟩) hu.top (fun e => by have := (World.ownsRow.lt hu.top g e).1; omega) _, fun j hj => Go.ownsRow_setCell_other (a := ⟨g, k, none⟩) (hu.rows j hj) (fun e => by have := (OwnI.lt (hu.rows j hj) g e).1; omega) _⟩⟩⟩)
        have Hbs := Lib.hid (Hb6.out.setCell (p := ⟨g, k, none⟩) hg (.int .i64 (y + 1)))
        clear hbA hK hown6 hg6 hW6 hst hvs hg
        go_wp2
        go_roundw
        case rel =>
          refine ⟨t + 1, _, by omega, by go_num, Hst.out, fun a b ha hb => ?_, Hlst.out, Hbs.out⟩
          rw [HS.out]
          by_cases e : a = p ∧ b = k
          · rw [if_pos e, if_pos e]
          · rw [if_neg e, if_neg e]; exact Heq.out a b ha hb
        case measure => simp [intOf]; omega
      · obtain rfl : t = A.length := by omega
        have hfin : OwnM wr w.heap.size (.slice (some ⟨G, 0, none⟩) R R) (joint N) := by
          have e : joint N = tab R C f := by
            rw [Hjt.out]
            exact eq_tab (tab_len _ _ _) (fun i hi => tab_row hi) (fun i j hi hj => by rw [gi_tab hi hj, ← Heq.out i j hi hj])
          exact ⟨vs, by rw [e, tab_len]; exact Hown.out⟩
        have Hfin := Lib.hid hfin
        clear hfin
        go_wp2
        go_ret2
        exact ⟨MRes.yes ⟨by omega, by omega⟩ (by rw [Int.toNat_natCast]; exact Hfin.out), Hbr.out⟩
  · have hr2 : b = false ∧ r = [] := by
      rcases hr with ⟨h1, _, _⟩ | ⟨_, h2, h3⟩
      · exact absurd h1 hn
      · exact ⟨h2, h3⟩
    obtain ⟨rfl, rfl⟩ := hr2
    obtain ⟨va, vc, hvv, _, _, _⟩ := hv.read
    subst hvv
    have Hn := Lib.hid hn
    have Hb := Lib.hid hb
    clear hv hr hb hn C1
    go_wp2
    go_ret2
    exact ⟨MRes.no Hn.out, Hb.out⟩
end Go.Proofs.YtmkldodkpijfjaaDoor

