/- Contracts of LeastOfTurns, of the model and of the program. Condition: the numbers fit an int; x is the least image, if there is one. -/
import Derived.Test.YtnhkclnloiiihaaLeastC
namespace Go.Proofs.Ytnhkclnloiiihaa
open Go.RowKit

theorem OwnG.read {w : World} {B n : Nat} {v : Value} {f : Nat → List (List Int)} {vs : List Value} (h : OwnG w B v n f vs) {i k : Nat} (hi : i < n) (hl : (f i).length = k) : ∃ ao c, vs.getD i undef = .slice ao k c ∧ MatAt w ao (f i) := by
  obtain ⟨ao, c, e, _, _, hm⟩ := (h.each i hi).read
  exact ⟨ao, c, by rw [e, hl], hm⟩

set_option maxRecDepth 100000 in
set_option maxHeartbeats 1600000 in
theorem implLeastOfTurns_any (ao : Option Addr) (c : Nat) (m x : List (List Int)) (w : World) (hs : Small m) (hwf : WfM m) (hm : MatAt w ao m) (hx : good m → ∀ r, lstM m r → r = x) :
    Calls Try.prog 60 #[.slice ao m.length c] w fun e w' => MRes (good m) x w' w.heap.size e ∧ Below w.heap.size w w' := by
  have Hs := Lib.hid hs
  have Hm := Lib.hid hm
  have Hwf := Lib.hid hwf
  have Hx := Lib.hid hx
  clear hs hm hwf hx
  go_enter Try.func60, Try.ntmps60
  go_wp2_with fail
  refine (implIsSign_any ao c m w Hs.out Hwf.out Hm.out).mono ?_
  rintro e w1 ⟨ha, hb⟩
  have Hb := Lib.hid hb
  have Hm1 := Lib.hid (Hm.out.below hb)
  have hB := hb.size
  clear hb
  by_cases hg : good m
  · have Hg := Lib.hid hg
    clear hg
    obtain rfl := ha.is Hg.out
    clear ha
    go_wp2_with fail
    refine (images_any ao c m w1 Hg.out.1 Hm1.out).mono ?_
    rintro e w2 ⟨g, cap, vs, rfl, hcap, hown, hb2⟩
    have Hown := Lib.hid hown
    have Hb2 := Lib.hid (Hb.out.trans (hb2.mono hB))
    have Hmin := Lib.hid (minFunc_any g cap m.length (im m) vs w2 Hg.out.1.2.1 (fun i hi => hown.cellAt i hi) (fun i hi => hown.read hi (sq_im Hg.out.1 i).1) (fun i hi => sq_im Hg.out.1 i))
    clear hown hb2
    go_wp2_with fail
    refine Hmin.out.mono ?_
    rintro e w3 ⟨⟨j, hj, rfl, hmin⟩, rfl⟩
    have hfin := (Hown.out.each j hj).base hB
    obtain ⟨a1, c1, e1, _⟩ := Hown.out.read hj rfl
    rw [Hx.out Hg.out _ hmin] at hfin
    rw [e1] at hfin ⊢
    have Hfin := Lib.hid hfin
    clear hfin hmin e1
    go_wp2
    go_ret2
    exact ⟨MRes.yes Hg.out Hfin.out, Hb2.out⟩
  · have Hg := Lib.hid hg
    clear hg
    obtain rfl := ha.isnt Hg.out
    clear ha
    go_wp2
    go_ret2
    exact ⟨MRes.no Hg.out, Hb.out⟩

theorem sp_odd (m : List (List Int)) (k : Nat) : sp m (2 * k + 1) = cwN m (k + 1) := by
  unfold sp
  rw [if_pos (by omega), show (2 * k + 1) / 2 = k from by omega]
theorem sp_even (m : List (List Int)) (k : Nat) : sp m (2 * k + 2) = mir (cwN m (k + 1)) := by
  unfold sp
  rw [if_neg (by omega), if_neg (by omega), show (2 * k + 2) / 2 = k + 1 from by omega]
theorem sp_zero (m : List (List Int)) : sp m 0 = m := by simp [sp]

theorem min_len {m r : List (List Int)} {k : Nat} (h : square m) (hr : IsMin m.length k (sp m) r) : sq m.length r := by
  obtain ⟨i, _, rfl⟩ := hr.1
  exact sq_sp h i

set_option maxRecDepth 100000 in
set_option maxHeartbeats 1600000 in
theorem specLeastOfTurns_any (ao : Option Addr) (c : Nat) (m x : List (List Int)) (w : World) (hs : Small m) (hm : MatAt w ao m) (hex : good m → lstM m x) :
    Calls Try.prog 61 #[.slice ao m.length c] w fun e w' => MRes (good m) x w' w.heap.size e ∧ Below w.heap.size w w' := by
  have Hs := Lib.hid hs
  have Hm := Lib.hid hm
  have Hex := Lib.hid hex
  clear hs hm hex
  go_enter Try.func61, Try.ntmps61
  go_wp2_with fail
  refine (sgGood_any ao c m w Hs.out Hm.out).mono ?_
  rintro e w1 ⟨ha, hb⟩
  have Hb := Lib.hid hb
  have Hm1 := Lib.hid (Hm.out.below hb)
  have hB := hb.size
  clear hb
  by_cases hg : good m
  · have Hg := Lib.hid hg
    have hn6 := hg.1.2.1
    have hmx : m.length ≤ 9223372036854775807 := by omega
    clear hg
    obtain rfl := ha.is Hg.out
    clear ha
    go_wp2_with fail
    refine (sgTurn_any ao c m w1 Hg.out.1 Hm1.out).mono ?_
    rintro e w2 ⟨v, rfl, hv, hb2⟩
    obtain ⟨a2, c2, rfl, _, _, hm2⟩ := hv.read
    have Hb2 := Lib.hid (Hb.out.trans (hb2.mono hB))
    have hB2 := Hb2.out.size
    have hturn := sgTurn_any a2 c2 (tr m) w2 Hg.out.1.tr hm2
    rw [tr_tr Hg.out.1] at hturn
    rw [tr_len] at hturn ⊢
    have Hturn := Lib.hid hturn
    clear hv hb2 hm2 hturn
    go_wp2_with fail
    refine Hturn.out.mono ?_
    rintro e w3 ⟨v, rfl, hv, hb3⟩
    obtain ⟨a3, c3, rfl, _, _, hm3⟩ := hv.read
    have Hv := Lib.hid (hv.base hB2)
    have Hb3 := Lib.hid (Hb2.out.trans (hb3.mono hB2))
    clear hv hb3 hm3
    go_wp2
    go_loopw [4, 5, 6] (fun best now i wr => ∃ (k : Nat) (r : List (List Int)), k ≤ 4 ∧ i = .int .i64 k ∧ IsMin m.length (2 * k + 1) (sp m) r ∧ OwnM wr w.heap.size best r ∧ OwnM wr w.heap.size now (cwN m k) ∧ Below w.heap.size w wr) (fun _ _ i _ => 4 - (intOf i).toNat)
    case atStart => exact ⟨0, m, by omega, rfl, by have := IsMin.one m.length (sp m); rw [sp_zero] at this; exact this, Hv.out, Hv.out, Hb3.out⟩
    case round =>
      clear Hv Hb3
      obtain ⟨k, r, hk, rfl, hmin, hbest, hnow, hbr⟩ := hrel
      have hBr := hbr.size
      have hlr := (min_len Hg.out.1 hmin).1
      obtain ⟨a4, c4, rfl, _, _, hm4⟩ := hbest.read
      rw [hlr] at hbest ⊢
      obtain ⟨a5, c5, rfl, _, _, hm5⟩ := hnow.read
      rw [cwN_len] at hnow ⊢
      by_cases hlt : k < 4
      · have hcl := sgClockwise_any a5 c5 (cwN m k) wr (Hg.out.1.cwN k) hm5
        rw [cwN_len] at hcl
        have Hcl := Lib.hid hcl
        have Hbest := Lib.hid hbest
        have Hbr := Lib.hid hbr
        have Hm4 := Lib.hid hm4
        have Hmin := Lib.hid hmin
        clear hcl hbest hnow hbr hm4 hm5 hmin
        go_wp2_with fail
        refine Hcl.out.mono ?_
        rintro e w5 ⟨v, rfl, hv, hb5⟩
        obtain ⟨a6, c6, rfl, _, _, hm6⟩ := hv.read
        have l6 : (cw (cwN m k)).length = m.length := by rw [cw_len, cwN_len]
        have hnow := hv.base hBr
        rw [l6] at hnow ⊢
        have Hnow := Lib.hid hnow
        have Hbr5 := Lib.hid (Hbr.out.trans (hb5.mono hBr))
        have Hbest5 := Lib.hid (Hbest.out.below hb5)
        have hmi := sgMirror_any a6 c6 (cwN m (k + 1)) w5 (Hg.out.1.cwN (k + 1)) hm6
        rw [cwN_len] at hmi
        have Hmi := Lib.hid hmi
        have hls := sgLess_any a6 a4 c6 c4 m.length (cwN m (k + 1)) r w5 hn6 (sq_cwN Hg.out.1 (k + 1)) (min_len Hg.out.1 Hmin.out) hm6 (Hm4.out.below hb5)
        have Hm6 := Lib.hid hm6
        have Hm45 := Lib.hid (Hm4.out.below hb5)
        have hB5 := Hbr5.out.size
        clear Hbest Hbr Hm4 hm6 hv hb5 hnow hmi Hcl l6
        have Hls := Lib.hid hls
        clear hls
        go_wp2_with fail
        refine Hls.out.mono ?_
        rintro e w5' ⟨ha, rfl⟩
        clear Hls
        by_cases hl1 : mless m.length (cwN m (k + 1)) r
        · obtain rfl := ha.is hl1
          have hmin2 : IsMin m.length (2 * k + 1 + 1) (sp m) (cwN m (k + 1)) := by
            have h0 := Hmin.out
            rw [← sp_odd m k] at hl1 ⊢
            exact h0.less hl1
          have Hmin2 := Lib.hid hmin2
          clear hmin2 ha Hmin hl1
          go_wp2_with fail
          refine Hmi.out.mono ?_
          rintro e w6 ⟨v, rfl, hv, hb6⟩
          obtain ⟨a7, c7, rfl, _, _, hm7⟩ := hv.read
          have l7 : (mir (cwN m (k + 1))).length = m.length := by rw [mir_len, cwN_len]
          have hoth := hv.base hB5
          rw [l7] at hoth ⊢
          have Hoth := Lib.hid hoth
          have Hbr6 := Lib.hid (Hbr5.out.trans (hb6.mono hB5))
          have Hnow6 := Lib.hid (Hnow.out.below hb6)
          have Hbest6 := Lib.hid (Hnow.out.below hb6)
          have hls := sgLess_any a7 a6 c7 c6 m.length (mir (cwN m (k + 1))) (cwN m (k + 1)) w6 hn6 (sq_mir Hg.out.1 (k + 1)) (min_len Hg.out.1 Hmin2.out) hm7 (Hm6.out.below hb6)
          have Hls := Lib.hid hls
          clear Hmi Hm6 Hm45 Hbest5 Hnow Hbr5 hm7 hv hb6 hoth hls l7
          go_wp2_with fail
          refine Hls.out.mono ?_
          rintro e w6' ⟨ha, rfl⟩
          clear Hls
          by_cases hl2 : mless m.length (mir (cwN m (k + 1))) (cwN m (k + 1))
          · obtain rfl := ha.is hl2
            have hmin3 : IsMin m.length (2 * (k + 1) + 1) (sp m) (mir (cwN m (k + 1))) := by
              have h0 := Hmin2.out
              rw [← sp_even m k] at hl2 ⊢
              exact h0.less hl2
            have Hmin3 := Lib.hid hmin3
            clear hmin3 ha Hmin2 hl2
            go_wp2
            go_roundw
            case rel => exact ⟨k + 1, _, by omega, by go_num, Hmin3.out, Hoth.out, Hnow6.out, Hbr6.out⟩
            case measure => simp [intOf]; omega
          · obtain rfl := ha.isnt hl2
            have hmin3 : IsMin m.length (2 * (k + 1) + 1) (sp m) (cwN m (k + 1)) := by
              have h0 := Hmin2.out
              rw [← sp_even m k] at hl2
              exact h0.more hl2
            have Hmin3 := Lib.hid hmin3
            clear hmin3 ha Hmin2 hl2
            go_wp2
            go_roundw
            case rel => exact ⟨k + 1, _, by omega, by go_num, Hmin3.out, Hbest6.out, Hnow6.out, Hbr6.out⟩
            case measure => simp [intOf]; omega
        · obtain rfl := ha.isnt hl1
          have hmin2 : IsMin m.length (2 * k + 1 + 1) (sp m) r := by
            have h0 := Hmin.out
            rw [← sp_odd m k] at hl1
            exact h0.more hl1
          have Hmin2 := Lib.hid hmin2
          clear hmin2 ha Hmin hl1
          go_wp2_with fail
          refine Hmi.out.mono ?_
          rintro e w6 ⟨v, rfl, hv, hb6⟩
          obtain ⟨a7, c7, rfl, _, _, hm7⟩ := hv.read
          have l7 : (mir (cwN m (k + 1))).length = m.length := by rw [mir_len, cwN_len]
          have hoth := hv.base hB5
          rw [l7] at hoth ⊢
          have Hoth := Lib.hid hoth
          have Hbr6 := Lib.hid (Hbr5.out.trans (hb6.mono hB5))
          have Hnow6 := Lib.hid (Hnow.out.below hb6)
          have Hbest6 := Lib.hid (Hbest5.out.below hb6)
          have hls := sgLess_any a7 a4 c7 c4 m.length (mir (cwN m (k + 1))) r w6 hn6 (sq_mir Hg.out.1 (k + 1)) (min_len Hg.out.1 Hmin2.out) hm7 (Hm45.out.below hb6)
          have Hls := Lib.hid hls
          clear Hmi Hm6 Hm45 Hbest5 Hnow Hbr5 hm7 hv hb6 hoth hls l7
          go_wp2_with fail
          refine Hls.out.mono ?_
          rintro e w6' ⟨ha, rfl⟩
          clear Hls
          by_cases hl2 : mless m.length (mir (cwN m (k + 1))) r
          · obtain rfl := ha.is hl2
            have hmin3 : IsMin m.length (2 * (k + 1) + 1) (sp m) (mir (cwN m (k + 1))) := by
              have h0 := Hmin2.out
              rw [← sp_even m k] at hl2 ⊢
              exact h0.less hl2
            have Hmin3 := Lib.hid hmin3
            clear hmin3 ha Hmin2 hl2
            go_wp2
            go_roundw
            case rel => exact ⟨k + 1, _, by omega, by go_num, Hmin3.out, Hoth.out, Hnow6.out, Hbr6.out⟩
            case measure => simp [intOf]; omega
          · obtain rfl := ha.isnt hl2
            have hmin3 : IsMin m.length (2 * (k + 1) + 1) (sp m) r := by
              have h0 := Hmin2.out
              rw [← sp_even m k] at hl2
              exact h0.more hl2
            have Hmin3 := Lib.hid hmin3
            clear hmin3 ha Hmin2 hl2
            go_wp2
            go_roundw
            case rel => exact ⟨k + 1, _, by omega, by go_num, Hmin3.out, Hbest6.out, Hnow6.out, Hbr6.out⟩
            case measure => simp [intOf]; omega
      · obtain rfl : k = 4 := by omega
        have he := lst_sp Hg.out.1 hmin x (Hex.out Hg.out)
        rw [he] at hbest
        have Hbest := Lib.hid hbest
        have Hbr := Lib.hid hbr
        clear hbest hnow hbr hm4 hm5 hmin he
        go_wp2
        go_ret2
        exact ⟨MRes.yes Hg.out Hbest.out, Hbr.out⟩
  · have Hg := Lib.hid hg
    clear hg
    obtain rfl := ha.isnt Hg.out
    clear ha
    go_wp2
    go_ret2
    exact ⟨MRes.no Hg.out, Hb.out⟩

theorem lst_ex {m : List (List Int)} (k : Nat) : ∃ r, IsMin m.length (k + 1) (im m) r := by
  induction k with
  | zero => exact ⟨_, IsMin.one _ _⟩
  | succ k ih =>
    obtain ⟨r, hr⟩ := ih
    by_cases h : mless m.length (im m (k + 1)) r
    · exact ⟨_, hr.less h⟩
    · exact ⟨_, hr.more h⟩

/-- x is the least image of m, if m is a sign matrix -/
def isX (m x : List (List Int)) : Prop := good m → lstM m x
theorem isX_ex (m : List (List Int)) : ∃ x, isX m x := by
  obtain ⟨x, h⟩ := lst_ex (m := m) 7
  exact ⟨x, fun _ => h⟩
theorem isX.small {m x : List (List Int)} (h : isX m x) (hg : good m) : Small x := by
  obtain ⟨i, _, rfl⟩ := (h hg).1
  have hl := sq_im hg.1 i
  have hn := hg.1.2.1
  exact ⟨by rw [hl.1]; omega, fun j hj => by rw [hl.1] at hj; rw [hl.2 j hj]; omega⟩
theorem specLeastOfTurns_x (ao : Option Addr) (c : Nat) (m : List (List Int)) (w : World) (hs : Small m) (hm : MatAt w ao m) {x : List (List Int)} (h : isX m x) :
    Calls Try.prog 61 #[.slice ao m.length c] w fun e w' => MRes (good m) x w' w.heap.size e ∧ Below w.heap.size w w' :=
  specLeastOfTurns_any ao c m x w hs hm h
theorem implLeastOfTurns_x (ao : Option Addr) (c : Nat) (m : List (List Int)) (w : World) (hs : Small m) (hwf : WfM m) (hm : MatAt w ao m) {x : List (List Int)} (h : isX m x) :
    Calls Try.prog 60 #[.slice ao m.length c] w fun e w' => MRes (good m) x w' w.heap.size e ∧ Below w.heap.size w w' :=
  implLeastOfTurns_any ao c m x w hs hwf hm fun hg _ hr => lst_one hg.1 hr (h hg)
end Go.Proofs.Ytnhkclnloiiihaa
