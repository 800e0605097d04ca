/- Contract: the sign matrix that kinds tell, by the program. Condition: lengths up to 2^20. -/
import Derived.Test.YtnhkclnloiiihaaWeI
import Derived.Test.YtnhkclnloiiihaaWeq
namespace Go.Proofs.Ytnhkclnloiiihaa
open Go.RowKit

set_option maxRecDepth 100000 in
set_option maxHeartbeats 3200000 in
theorem implFromKinds_any (ao : Option Addr) (c : Nat) (m : List (List Int)) (w : World) (hs : Small m) (_hwf : WfM m) (hm : MatAt w ao m) :
    Calls Try.prog 73 #[.slice ao m.length c] w fun e w' => MRes (isKinds m) (fkM m) w' w.heap.size e ∧ Below w.heap.size w w' := by
  have Hs := Lib.hid hs
  have Hm := Lib.hid hm
  have hmx : m.length ≤ 9223372036854775807 := by have := hs.1; omega
  clear hs hm _hwf
  by_cases hsq : square m
  · have hn := hsq.2.1
    have Hsq := Lib.hid hsq
    clear hsq
    go_enter Try.func73, Try.ntmps73
    go_wp2_with fail
    refine (isSquare_any ao c m w Hs.out Hm.out).mono ?_
    rintro e w1 ⟨ha, hb0⟩
    obtain rfl := ha.is Hsq.out
    have Hb0 := Lib.hid hb0
    clear ha hb0
    go_wp2_with fail
    refine (newGrid_any m.length w1 (by omega)).mono ?_
    rintro e w2 ⟨vs, rfl, hv, hb⟩
    obtain ⟨G, hG⟩ : ∃ G, G = w1.heap.size := ⟨_, rfl⟩
    rw [← hG] at hv ⊢
    have hGw : w.heap.size ≤ G := by rw [hG]; exact Hb0.out.size
    have Hv := Lib.hid (show OwnP w2 w.heap.size (.slice (some ⟨G, 0, none⟩) m.length m.length) m.length (tab m.length m.length fun _ _ => 0) m.length vs from hv.base hGw)
    have Hb := Lib.hid (Hb0.out.trans (hb.mono Hb0.out.size))
    clear hv hb hG Hb0
    obtain ⟨C, hC⟩ : ∃ C : Nat, C = m.length := ⟨_, rfl⟩
    have hCx : m.length ≤ C := by omega
    go_wp2
    go_loopw [17] (fun i wr => ∃ (k : Nat) (f : Nat → Nat → Int), k ≤ m.length ∧ i = .int .i64 k ∧ OwnP wr w.heap.size (.slice (some ⟨G, 0, none⟩) m.length m.length) m.length (tab m.length m.length f) m.length vs ∧
        (∀ a b, a < m.length → b < m.length → f a b = if a < k then sgK (gi (gr m a) b) else 0) ∧ Below w.heap.size w wr) (fun i _ => m.length - (intOf i).toNat)
    case atStart => exact ⟨0, _, Nat.zero_le _, rfl, Hv.out, fun a b _ _ => by rw [if_neg (by omega)], Hb.out⟩
    case round =>
      obtain ⟨k, f, hk, rfl, hown, heq, hbr⟩ := hrel
      obtain ⟨wo, rfl⟩ : ∃ wo : World, wo = wr := ⟨_, rfl⟩
      clear Hv Hb
      by_cases hlt : k < m.length
      · obtain ⟨b1, o1, r1, d1, e0, hc0, hx1, _, _⟩ := Hm.out k hlt
        have hrl : (gr m k).length = m.length := Hsq.out.2.2 k hlt
        rw [hrl] at hc0
        have hc1 := cell_below hc0 hbr
        subst e0
        have Hrow := Lib.hid hx1
        have Hown := Lib.hid hown
        have Heq := Lib.hid heq
        have Hbr := Lib.hid hbr
        clear hown heq hbr hx1 hrl hc0
        go_wp2
        go_loopw [24] (fun i wr => ∃ (t : Nat) (f : Nat → Nat → Int), t ≤ m.length ∧ i = .int .i64 t ∧ OwnP wr w.heap.size (.slice (some ⟨G, 0, none⟩) m.length m.length) m.length (tab m.length m.length f) m.length vs ∧
            (∀ a b, a < m.length → b < m.length → f a b = if a < k ∨ (a = k ∧ b < t) then sgK (gi (gr m a) b) else 0) ∧ Below w.heap.size w wr) (fun i _ => m.length - (intOf i).toNat)
        case atStart => exact ⟨0, f, Nat.zero_le _, rfl, Hown.out, fun a b ha hb => by rw [Heq.out a b ha hb]; exact ite_congr (propext ⟨fun h => .inl h, fun h => by omega⟩) (fun _ => rfl) (fun _ => rfl), Hbr.out⟩
        case round =>
          obtain ⟨t, f, ht, rfl, hown, heq, hbi⟩ := hrel
          clear Hown Heq Hbr
          by_cases htl : t < m.length
          · obtain ⟨b2, o2, e2, hc2⟩ := Hrow.out.below hbi t (by rw [Hsq.out.2.2 k hlt]; exact htl)
            have hd := hown.cellAt k hlt
            obtain ⟨g, cap, hvs, hd2, hf2, hg, hst⟩ := hown.at2 hlt htl
            rw [hvs] at hd
            have h0 : f k t = 0 := by rw [heq k t hlt htl, if_neg (by omega)]
            have Hnew := Lib.hid (show ∀ y, y = sgK (gi (gr m k) t) → ∀ a b, a < m.length → b < m.length → (if a = k ∧ b = t then y else f a b) = if a < k ∨ (a = k ∧ b < t + 1) then sgK (gi (gr m a) b) else 0 from fun y hy a b ha hb => by
              by_cases e : a = k ∧ b = t
              · rw [if_pos e, if_pos (by omega), hy, e.1, e.2]
              · rw [if_neg e, heq a b ha hb]
                exact ite_congr (propext ⟨fun h => by omega, fun h => by omega⟩) (fun _ => rfl) (fun _ => rfl))
            have Hsame := Lib.hid (show sgK (gi (gr m k) t) = 0 → ∀ a b, a < m.length → b < m.length → f a b = if a < k ∨ (a = k ∧ b < t + 1) then sgK (gi (gr m a) b) else 0 from fun hy a b ha hb => by
              by_cases e : a = k ∧ b = t
              · rw [e.1, e.2, h0, if_pos (by omega), hy]
              · rw [heq a b ha hb]
                exact ite_congr (propext ⟨fun h => by omega, fun h => by omega⟩) (fun _ => rfl) (fun _ => rfl))
            obtain ⟨x, hx⟩ : ∃ x, x = gi (gr m k) t := ⟨_, rfl⟩
            rw [← hx] at hc2 Hnew Hsame
            have Hst1 := Lib.hid (hst 1)
            have Hst5 := Lib.hid (hst (-1))
            have Hbs := Lib.hid (fun y => hbi.setCell (p := ⟨g, t, none⟩) hg (.int .i64 y))
            have Hown := Lib.hid hown
            have Hbi := Lib.hid hbi
            subst e2
            clear hown heq hbi hst hvs hg h0 hx
            by_cases e1 : x = 4
            · have hb1 : (x == 4) = true := by simpa using e1
              have H1 := Lib.hid (Hnew.out 1 (by unfold sgK; rw [if_pos e1]))
              clear e1 Hnew Hsame Hst5
              go_wp2
              go_roundw
              case rel => exact ⟨t + 1, _, by omega, by go_num, Hst1.out, H1.out, Hbs.out 1⟩
              case measure => simp [intOf]; omega
            · have hb1 : (x == 4) = false := by simpa using e1
              by_cases e5 : x = 5
              · have hb2 : (x == 5) = true := by simpa using e5
                have H1 := Lib.hid (Hnew.out (-1) (by unfold sgK; rw [if_neg e1, if_pos e5]))
                clear e1 e5 Hnew Hsame Hst1
                go_wp2
                go_roundw
                case rel => exact ⟨t + 1, _, by omega, by go_num, Hst5.out, H1.out, Hbs.out (-1)⟩
                case measure => simp [intOf]; omega
              · have hb2 : (x == 5) = false := by simpa using e5
                have H1 := Lib.hid (Hsame.out (by unfold sgK; rw [if_neg e1, if_neg e5]))
                clear e1 e5 Hnew Hsame Hst1 Hst5
                go_wp2
                go_roundw
                case rel => exact ⟨t + 1, f, by omega, by go_num, Hown.out, H1.out, Hbi.out⟩
                case measure => simp [intOf]; omega
          · obtain rfl : t = m.length := by omega
            have Hown := Lib.hid hown
            have Heq := Lib.hid heq
            have Hbi := Lib.hid hbi
            clear hown heq hbi
            go_wp2
            go_roundw
            case rel => exact ⟨k + 1, f, by omega, by go_num, Hown.out, fun a b ha hb => by rw [Heq.out a b ha hb]; exact ite_congr (propext ⟨fun h => by omega, fun h => by omega⟩) (fun _ => rfl) (fun _ => rfl), Hbi.out⟩
            case measure => simp [intOf]; omega
      · obtain rfl : k = m.length := by omega
        have e : fkM m = tab m.length m.length f := (eq_tab (fkM_len m) (fun i hi => tab_row hi) (fun i j hi hj => by unfold fkM; rw [gi_tab hi hj, heq i j hi hj, if_pos hi]))
        have hfin : OwnP wo w.heap.size (.slice (some ⟨G, 0, none⟩) m.length m.length) (fkM m).length (fkM m) (fkM m).length vs := by rw [fkM_len, e]; exact hown
        have hat : MatAt wo (some ⟨G, 0, none⟩) (fkM m) := by
          have := hfin
          rw [fkM_len] at this
          exact this.at (fkM_len m)
        have Hat := Lib.hid hat
        have Hfin := Lib.hid hfin
        have Hbr := Lib.hid hbr
        have HBr := Lib.hid hbr.size
        have hfl : (fkM m).length = m.length := fkM_len m
        have Hfl := Lib.hid hfl
        clear hown heq e hfin hbr hat hfl
        have CG := Lib.hid (implIsSign_any (some ⟨G, 0, none⟩) m.length (fkM m) wo (fkM_square Hsq.out).small fkM_wf Hat.out)
        rw [Hfl.out] at CG
        by_cases hg : good (fkM m)
        · have Hg := Lib.hid hg
          clear hg
          go_wp2_with fail
          refine CG.out.mono ?_
          rintro e w3 ⟨ha, hb3⟩
          obtain rfl := ha.is Hg.out
          have Hb3 := Lib.hid (Hbr.out.trans (hb3.mono HBr.out))
          have HB3 := Lib.hid Hb3.out.size
          have Hat3 := Lib.hid (Hat.out.below hb3)
          have Hfin3 := Lib.hid (Hfin.out.below hb3)
          clear ha hb3 Hat Hfin Hbr CG
          have CK := Lib.hid (kindsOf_any (some ⟨G, 0, none⟩) m.length (fkM m) w3 Hg.out Hat3.out)
          rw [Hfl.out] at CK
          go_wp2_with fail
          refine CK.out.mono ?_
          rintro e w4 ⟨v4, rfl, hv4, hb4⟩
          obtain ⟨qa, qc, rfl, _, _, hq⟩ := hv4.read
          have Hq := Lib.hid hq
          have Hb4 := Lib.hid (Hb3.out.trans (hb4.mono HB3.out))
          have Hfin4 := Lib.hid (Hfin3.out.below hb4)
          clear hv4 hb4 hq CK Hat3 Hfin3
          have CS := Lib.hid (equalTables_any qa ao qc c (kinds (fkM m)) m w4 (kinds_square Hg.out.1).small Hs.out Hq.out (Hm.out.below Hb4.out))
          rw [kinds_len, Hfl.out] at CS ⊢
          by_cases hk : kinds (fkM m) = m
          · have hk1 : (kinds (fkM m) == m) = true := by simpa using hk
            rw [hk1] at CS
            have Hk := Lib.hid hk
            clear hk hk1
            go_wp2_with fail
            refine CS.out.mono ?_
            rintro e w5 ⟨rfl, hq5⟩
            have Hb5 := Lib.hid (Hb4.out.trans (hq5.below w.heap.size))
            have Hfin5 := Lib.hid (Hfin4.out.below (hq5.below _))
            clear hq5 CS
            go_wp2
            go_ret2
            exact ⟨MRes.yes ⟨Hsq.out, Hg.out, Hk.out⟩ ⟨vs, by have := Hfin5.out; rw [Hfl.out] at this ⊢; exact this⟩, Hb5.out⟩
          · have hk1 : (kinds (fkM m) == m) = false := by simpa using hk
            rw [hk1] at CS
            have Hk := Lib.hid hk
            clear hk hk1
            go_wp2_with fail
            refine CS.out.mono ?_
            rintro e w5 ⟨rfl, hq5⟩
            have Hb5 := Lib.hid (Hb4.out.trans (hq5.below w.heap.size))
            clear hq5 CS
            go_wp2
            go_ret2
            exact ⟨MRes.no (fun h => Hk.out h.2.2), Hb5.out⟩
        · have Hg := Lib.hid hg
          clear hg
          go_wp2_with fail
          refine CG.out.mono ?_
          rintro e w3 ⟨ha, hb3⟩
          obtain rfl := ha.isnt Hg.out
          have Hb3 := Lib.hid (Hbr.out.trans (hb3.mono HBr.out))
          clear ha hb3
          go_wp2
          go_ret2
          exact ⟨MRes.no (fun h => Hg.out h.2.1), Hb3.out⟩
  · have Hsq := Lib.hid hsq
    clear hsq
    go_enter Try.func73, Try.ntmps73
    go_wp2_with fail
    refine (isSquare_any ao c m w Hs.out Hm.out).mono ?_
    rintro e w2 ⟨ha, hb0⟩
    obtain rfl := ha.isnt Hsq.out
    have Hb0 := Lib.hid hb0
    clear ha hb0
    go_wp2
    go_ret2
    exact ⟨MRes.no (fun h => Hsq.out h.1), Hb0.out⟩
end Go.Proofs.Ytnhkclnloiiihaa
