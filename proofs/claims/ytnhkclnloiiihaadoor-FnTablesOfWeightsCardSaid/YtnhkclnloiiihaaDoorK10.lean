/- Parts of proofs: contracts and plain facts. Conditions: as each says. -/
import Derived.Test.YtnhkclnloiiihaaDoorK09
import Derived.Deep.RegionWith
namespace Go.Proofs.YtnhkclnloiiihaaDoor
open Go.RowKit

theorem OwnP.headAt {w : World} {B n k : Nat} {v : Value} {m : List (List Int)} {vs : List Value} (h : OwnP w B v n m k vs) (hn : 1 ≤ n) : ∃ g c, v = .slice (some ⟨g, 0, none⟩) n c ∧ B ≤ g ∧ g < w.heap.size := by
  rcases h.top.2 with ⟨h0, h1⟩ | ⟨g, cap, cur, hv, hg, hh, _⟩
  · omega
  · exact ⟨g, cap, hv, hg, lt_of_block hh⟩
theorem j_num : ∀ n : Nat, n < 5 → n = 0 ∨ ((n : Int) * ((n : Int) - 1) = ((n * (n - 1) : Nat) : Int) ∧ Int.tdiv ((n * (n - 1) : Nat) : Int) 2 = ((n * (n - 1) / 2 : Nat) : Int) ∧ n * (n - 1) ≤ 100) := by decide +kernel

set_option maxRecDepth 100000 in
set_option maxHeartbeats 3200000 in
theorem specJointTable_any (n : Int) (w : World) (hz : -9223372036854775808 ≤ n ∧ n ≤ 9223372036854775807) :
    Calls Tryd.prog 10 #[.int .i64 n] w fun e w' => MRes (1 ≤ n ∧ n ≤ 4) (joint n.toNat) w' w.heap.size e ∧ Below w.heap.size w w' := by
  by_cases h : 1 ≤ n ∧ n ≤ 4
  · obtain ⟨N, rfl⟩ : ∃ N : Nat, n = (N : Int) := ⟨n.toNat, by omega⟩
    have hN1 : 1 ≤ N := by omega
    have hN4 : N ≤ 4 := by omega
    obtain ⟨i0, hi, hz0, hz1, hz2⟩ := info_parts Tryd.info_int
    obtain ⟨j0, hj, hy0, hy1, hy2⟩ := info_parts Tryd.info_ints
    have HJ := Lib.hid (j_ok N (by omega))
    have HF := Lib.hid (f_ok N (by omega))
    obtain ⟨hs1, hs2, hs3, hs4⟩ := (j_size N (by omega)).resolve_left (by omega)
    obtain ⟨hn1, hn2, hn3⟩ := (j_num N (by omega)).resolve_left (by omega)
    have HC := Lib.hid (show (tabW fMin (allW N)).length = jC N from rfl)
    have HZ := Lib.hid hz
    obtain ⟨P, hP⟩ : ∃ P, P = N * (N - 1) := ⟨_, rfl⟩
    obtain ⟨Q, hQ⟩ : ∃ Q, Q = N * (N - 1) / 2 := ⟨_, rfl⟩
    rw [← hP] at hn1 hn2 hn3
    rw [hP, ← hQ, ← hP] at hn2
    rw [← hQ] at hs1
    have Hn := Lib.hid (And.intro hn1 hn2)
    rw [Int.toNat_natCast]
    clear hz hP hQ hn1 hn2
    go_enter Tryd.func10, Tryd.ntmps10
    go_wp2_with fail
    refine (weSide_any (N : Int) w).mono ?_
    rintro e w1 ⟨ha, rfl⟩
    obtain rfl := ha.is h
    have C2 := Lib.hid (specMinusTable_any (N : Int) w HZ.out)
    rw [Int.toNat_natCast] at C2
    clear ha h
    go_wp2_with fail
    refine C2.out.mono ?_
    rintro e w2 ⟨⟨v2, b2, r2, rfl, hv2, hr2⟩, hb2⟩
    have hr3 : b2 = true ∧ r2 = tabW fMin (allW N) := by
      rcases hr2 with ⟨_, h2, h3⟩ | ⟨h1, _, _⟩
      · exact ⟨h2, h3⟩
      · exact absurd ⟨by omega, by omega⟩ h1
    obtain ⟨rfl, rfl⟩ := hr3
    obtain ⟨ua, uc, huu, _, _, _⟩ := hv2.read
    rw [HC.out] at huu
    subst huu
    have Hb2 := Lib.hid hb2
    have HB2 := Lib.hid hb2.size
    obtain ⟨R, hR⟩ : ∃ R, R = jR N := ⟨_, rfl⟩
    obtain ⟨C, hC⟩ : ∃ C, C = jC N := ⟨_, rfl⟩
    have Hjt := Lib.hid (show joint N = tab R C (jF (allW N) (allW N).length) by rw [hR, hC]; rfl)
    rw [← hR] at hs1 hs2 HJ
    rw [← hC] at hs3 hs4 HJ ⊢
    clear hv2 hr2 hb2 C2 hR hC HC
    go_wp2
    go_loopw [6, 7] (fun out i wr => ∃ (k : Nat) (vs : List Value), k ≤ R ∧ i = .int .i64 k ∧ OwnP wr w.heap.size out k (tab R C fun _ _ => 0) k vs ∧ Below w.heap.size w wr) (fun _ i _ => R - (intOf i).toNat)
    case atStart => exact ⟨0, [], Nat.zero_le _, rfl, ⟨World.ownsRow_nil _ _ _ _, fun i hi => absurd hi (by omega), fun i j _ hj => absurd hj (by omega)⟩, Hb2.out⟩
    case round =>
      obtain ⟨k, vs, hk, rfl, hout, hbr⟩ := hrel
      have hn1 := Hn.out.1
      have hn2 := Hn.out.2
      have HBr := Lib.hid hbr.size
      have Hout := Lib.hid hout
      have Hbr := Lib.hid hbr
      clear hout hbr
      by_cases hlt : k < R
      · have hd : decide ((k : Int) ≤ (Q : Int)) = true := by simp; omega
        go_wp2_with (at_make; refine wpList_make_full _ rfl _ _ 28 rfl wr.heap.size 3 i0 (.int .i64 0) 1 Tryd.underlying28 hi hz0 hz1 _ _ _ _ C rfl rfl rfl rfl ?d1 ?d2 ?d3 ?_)
        case d1 => rw [hz2]; omega
        case d2 => unfold maxLen; omega
        case d3 => simp
        intro w2 hown2 hg2
        have hb2 : Below wr.heap.size wr w2 := (Below.refl _ _).grown hg2 (Nat.le_refl _) (fun _ h => by cases h)
        have hrow := OwnI.made hown2
        have hB2 := hb2.size
        have e1 : gr (tab R C fun _ _ => (0 : Int)) k = List.replicate C 0 := zero_row hlt
        have Hout2 := Lib.hid (Hout.out.below hb2)
        have hrow2 : OwnI w2 w.heap.size (.slice (some ⟨wr.heap.size, 0, none⟩) C C) (gr (tab R C fun _ _ => (0 : Int)) k) := by rw [e1]; exact hrow.base HBr.out
        have Hrow := Lib.hid hrow2
        have hfr := Lib.hid (Hout.out.fresh hrow (Nat.le_refl _))
        have Hb3 := Lib.hid (Hbr.out.trans (hb2.mono HBr.out))
        have hbase := HBr.out
        clear hown2 hg2 hb2 hrow e1 hrow2
        go_wp2_with (at_builtin; refine wpList_append_own _ rfl _ _ 25 rfl w.heap.size 28 j0 (.slice none 0 0) 1 24 Tryd.underlying25 hj hy0 hy1 hy2 rfl (by decide) _ _ _ rfl (World.ownsRow.alloc Hout2.out.top _) ⟨w2.heap.size, 0, none⟩ 1 1 [.slice (some ⟨wr.heap.size, 0, none⟩) C C] rfl rfl ?e1 ?e2 ?e3 ?e4 ?e5 ?_)
        case e1 => exact cell_one_new _ _ _
        case e2 => intro u hu; simp at hu; subst hu; rfl
        case e3 => unfold maxLen; omega
        case e4 => omega
        case e5 => simp; omega
        intro v' w3 hown' hgrow _
        have hput := Hout2.out.snoc (show w.heap.size ≤ w2.heap.size by omega) Hrow.out hfr.out hown' hgrow
        have Hput := Lib.hid hput
        clear hput hown' hgrow hn1 hn2
        go_wp2
        go_roundw
        case rel => exact ⟨k + 1, _, by omega, by go_num, Hput.out.1, Hb3.out.trans Hput.out.2⟩
        case measure => simp [intOf]; omega
      · obtain rfl : k = R := by omega
        have hd : decide ((k : Int) ≤ (Q : Int)) = false := by simp; omega
        have CA := Lib.hid (weAll_any N wr hN1 hN4)
        have hlen := allW_len N (by omega)
        have HA := Lib.hid (fun m hm => (allW_good N (by omega) m hm).resolve_left (by omega))
        obtain ⟨A, hA⟩ : ∃ A, A = allW N := ⟨_, rfl⟩
        rw [← hA] at CA hlen HA HJ HF Hjt
        obtain ⟨go, gc, rfl, hgo, hgo2⟩ := Hout.out.headAt (by omega)
        have Hgo := Lib.hid (And.intro hgo hgo2)
        clear hA hgo hgo2
        go_wp2_with fail
        refine CA.out.mono ?_
        rintro e w4 ⟨v4, ts, rfl, hv4, hb4⟩
        obtain ⟨ta, tc, rfl, ht1, ht2⟩ := hv4.head
        have Hr0 := Lib.hid (show ∀ i, i < k → ∀ g, (vs.getD i undef).ownBlock = some g → g < wr.heap.size from fun i hi g hg2 => ((Hout.out.rows i hi).lt g hg2).2)
        have Hv4 := Lib.hid hv4
        have Ht := Lib.hid (Hout.out.below hb4)
        have Hb4 := Lib.hid (Hbr.out.trans (hb4.mono HBr.out))
        clear hv4 hb4 CA Hout hn1 hn2 hd
        go_wp2
        go_loopw [36] (fun i wq => ∃ (t : Nat) (f : Nat → Nat → Int), t ≤ A.length ∧ i = .int .i64 t ∧ OwnP wq w.heap.size (.slice (some ⟨go, 0, none⟩) k gc) k (tab k C f) k vs ∧ (∀ p q, p < k → q < C → f p q = jF A t p q) ∧ OwnRL wq wr.heap.size (.slice ta A.length tc) A ts ∧ Below w.heap.size w wq) (fun i _ => A.length - (intOf i).toNat)
        case atStart => exact ⟨0, _, Nat.zero_le _, rfl, Ht.out, fun _ _ _ _ => rfl, Hv4.out, Hb4.out⟩
        case round =>
          rename World => wq
          obtain ⟨t, f, htt, rfl, hown, heq, hlist, hbq⟩ := hrel
          have Hown := Lib.hid hown
          have Heq := Lib.hid heq
          have Hlist := Lib.hid hlist
          have Hbq := Lib.hid hbq
          have HBq := Lib.hid hbq.size
          clear hown heq hlist hbq Ht Hv4
          by_cases hlt2 : t < A.length
          · obtain ⟨b1, o1, r1, d1, e1, hc1, hm1, _, _⟩ := Hlist.out.at hlt2
            obtain ⟨hml, hgd⟩ := HA.out _ (gt_mem hlt2)
            obtain ⟨j1, j2, _, _⟩ := HJ.out _ (gt_mem hlt2)
            obtain ⟨⟨f1, f2⟩, f3, f4⟩ := HF.out _ (gt_mem hlt2)
            have CI := Lib.hid (fun wx (hx : Below wq.heap.size wq wx) => weInversions_any r1 d1 (gt A t) wx hgd (hm1.below hx))
            have CM := Lib.hid (fun wx (hx : Below wq.heap.size wq wx) => sgMinus_any r1 d1 (gt A t) wx hgd.1 (hm1.below hx))
            have hbd := jF_bd A t (fInv (gt A t)) (fMin (gt A t))
            have HS := Lib.hid (fun p k => (show jF A (t + 1) p k = if p = fInv (gt A t) ∧ k = fMin (gt A t) then jF A t (fInv (gt A t)) (fMin (gt A t)) + 1 else jF A t p k from jF_step A t p k))
            have hfv := Heq.out _ _ j1 j2
            rw [f3] at CI
            rw [f1] at CM
            rw [hml] at hc1 CI CM
            subst e1
            obtain ⟨M, hM⟩ : ∃ M, M = gt A t := ⟨_, rfl⟩
            rw [← hM] at j1 j2 CI CM hbd HS hfv f2 f4
            obtain ⟨p, hp⟩ : ∃ p, p = fInv M := ⟨_, rfl⟩
            obtain ⟨q, hq⟩ : ∃ q, q = fMin M := ⟨_, rfl⟩
            rw [← hp] at j1 hbd HS hfv CI f4
            rw [← hq] at j2 hbd HS hfv CM f2
            obtain ⟨y, hy⟩ : ∃ y, y = jF A t p q := ⟨_, rfl⟩
            rw [← hy] at hbd HS hfv
            obtain ⟨g, cap, hvs, hd2, hf2, hg, _⟩ := Hown.out.at2 j1 j2
            have hd := Hown.out.cellAt p j1
            rw [hvs] at hd
            rw [hfv] at hd2
            have hfacts : ∀ w'', Below wq.heap.size wq w'' → w''.cell? ⟨go, p, none⟩ = some (.slice (some ⟨g, 0, none⟩) C cap) ∧ w''.cell? ⟨g, q, none⟩ = some (.int .i64 y) ∧ w''.frozen? ⟨g, q, none⟩ = false := fun w'' hb => by
              obtain ⟨g', cap', hvs', _, hf', _, _⟩ := (Hown.out.below hb).at2 j1 j2
              rw [hvs] at hvs'
              cases hvs'
              exact ⟨cell_below hd hb, cell_below hd2 hb, hf'⟩
            have hst : ∀ w'', Below wq.heap.size wq w'' → OwnP (w''.setCell ⟨g, q, none⟩ (.int .i64 (y + 1))) w.heap.size (.slice (some ⟨go, 0, none⟩) k gc) k (tab k C fun a b => if a = p ∧ b = q then y + 1 else f a b) k vs := fun w'' hb => by
              obtain ⟨g', cap', hvs', _, _, _, hst'⟩ := (Hown.out.below hb).at2 j1 j2
              rw [hvs] at hvs'
              cases hvs'
              exact hst' _
            have hgl : g < wr.heap.size := by
              have h := Hr0.out p j1
              rw [hvs] at h
              exact h g rfl
            have hls : ∀ w'', Below wq.heap.size wq w'' → OwnRL (w''.setCell ⟨g, q, none⟩ (.int .i64 (y + 1))) wr.heap.size (.slice (some ⟨b1, o1, none⟩) A.length tc) A ts := fun w'' hb => by
              have HL := Hlist.out.below hb
              exact ⟨Go.ownsRow_setCell_other (a := ⟨g, q, none⟩) HL.top (fun e => by have := (World.ownsRow.lt HL.top g e).1; omega) _, fun i hi => by
                obtain ⟨us, hu⟩ := HL.each i hi
                exact ⟨us, ⟨Go.ownsRow_setCell_other (a := ⟨g, q, none⟩) hu.top (fun e => by have := (World.ownsRow.lt hu.top g e).1; omega) _, fun j hj => Go.ownsRow_setCell_other (a := ⟨g, q, none⟩) (hu.rows j hj) (fun e => by have := (OwnI.lt (hu.rows j hj) g e).1; omega) _⟩⟩⟩
            have Hfacts := Lib.hid hfacts
            have Hst := Lib.hid hst
            have Hls := Lib.hid hls
            have Hg := Lib.hid hg
            clear hm1 hgd hml hM hp hq hfv hy f1 f3 hvs hd hd2 hf2 hg hfacts hst hls hgl Hlist Hown
            go_wp2
            go_region_with (first
              | (go_at_call 62; refine (CI.out _ ?_).mono ?_; exact below_drewN (Below.refl _ _) 1; rintro e w5 ⟨rfl, hb5⟩; obtain ⟨q0, q1, q2⟩ := Hfacts.out w5 ((below_drewN (Below.refl _ _) 1).trans hb5); have HB5 := Lib.hid ((below_drewN (Below.refl wq.heap.size wq) 1).trans hb5); clear hb5)
              | (go_at_call 63; refine (CM.out _ ?_).mono ?_; (first | exact HB5.out | exact below_drewN (Below.refl _ _) 1); rintro e w6 ⟨rfl, rfl⟩))
            all_goals
              have HSn := Lib.hid (Hst.out _ HB5.out)
              have HLn := Lib.hid (Hls.out _ HB5.out)
              have HBn := Lib.hid ((Hbq.out.trans (HB5.out.mono HBq.out)).setCell (p := ⟨g, q, none⟩) Hg.out (.int .i64 (y + 1)))
              clear q0 q1 q2 hc1 CI CM Hfacts Hst Hls
              go_wp2
              go_roundw
              case rel =>
                refine ⟨t + 1, _, by omega, by go_num, HSn.out, fun a b ha hb => ?_, HLn.out, HBn.out⟩
                rw [HS.out]
                by_cases e : a = p ∧ b = q
                · rw [if_pos e, if_pos e]
                · rw [if_neg e, if_neg e]; exact Heq.out a b ha hb
              case measure => simp [intOf]; omega
          · obtain rfl : t = A.length := by omega
            have hfin : OwnM wq w.heap.size (.slice (some ⟨go, 0, none⟩) k gc) (joint N) := by
              have e : joint N = tab k C f := by
                rw [Hjt.out]
                exact eq_tab (tab_len _ _ _) (fun i hi => tab_row hi) (fun i j hi hj => by rw [gi_tab hi hj, ← Heq.out i j hi hj])
              exact ⟨vs, by rw [e, tab_len]; exact Hown.out⟩
            have Hfin := Lib.hid hfin
            clear hfin
            go_wp2
            go_ret2
            exact ⟨MRes.yes ⟨by omega, by omega⟩ (by have hf := Hfin.out; rw [hs1] at hf; exact hf), Hbq.out⟩
  · have H := Lib.hid h
    clear h
    go_enter Tryd.func10, Tryd.ntmps10
    go_wp2_with fail
    refine (weSide_any n w).mono ?_
    rintro e w1 ⟨ha, rfl⟩
    obtain rfl := ha.isnt H.out
    clear ha
    go_wp2
    go_ret2
    exact ⟨MRes.no H.out, Below.refl _ _⟩
end Go.Proofs.YtnhkclnloiiihaaDoor

