/- Contracts: stacked matrices by the model; marks with larger numbers. -/
import Derived.Test.YtiocbogdiaalgaaStk
import Derived.Test.YtiocbogdiaalgaaMarkB
namespace Go.Proofs.Ytiocbogdiaalgaa
open Go.RowKit

set_option maxRecDepth 100000 in
set_option maxHeartbeats 6400000 in
theorem specStackMatrices_any (a1 : Option Addr) (c1 : Nat) (m : List (List Int)) (a2 : Option Addr) (c2 : Nat) (k : List (List Int)) (w : World) (hsm : Small m) (hmm : MatAt w a1 m) (hsk : Small k) (hmk : MatAt w a2 k) :
    Calls Try.prog 51 #[.slice a1 m.length c1, .slice a2 k.length c2] w fun e w' => MRes (stackable m k) (st m k) w' w.heap.size e ∧ Below w.heap.size w w' := by
  have Hsm := Lib.hid hsm
  have Hmm := Lib.hid hmm
  have Hsk := Lib.hid hsk
  have Hmk := Lib.hid hmk
  have hmx1 : m.length ≤ 1048576 := hsm.1
  have hmx2 : k.length ≤ 1048576 := hsk.1
  clear hsm hmm hsk hmk

  by_cases hgm : good m
  · have Hgm := Lib.hid hgm
    clear hgm
    by_cases hgk : good k
    · have Hgk := Lib.hid hgk
      clear hgk
      have hm1 := Hgm.out.1.1
      have hm6 := Hgm.out.1.2.1
      have hk1 := Hgk.out.1.1
      have hk6 := Hgk.out.1.2.1
      by_cases hsum : m.length + k.length ≤ 6
      · have hd6 : decide ((6 : Int) < (m.length : Int) + (k.length : Int)) = false := by simp; omega
        go_enter Try.func51, Try.ntmps51
        go_wp2_with fail
        refine (sgGood_any a1 c1 m w Hsm.out Hmm.out).mono ?_
        rintro e w1 ⟨ha, hb⟩
        obtain rfl := ha.is Hgm.out
        have Hb1 := Lib.hid hb
        clear ha hb
        go_wp2_with fail
        refine (sgGood_any a2 c2 k w1 Hsk.out (Hmk.out.below Hb1.out)).mono ?_
        rintro e w2 ⟨ha, hb⟩
        obtain rfl := ha.is Hgk.out
        have Hb2 := Lib.hid (Hb1.out.trans (hb.mono Hb1.out.size))
        have hB2 := Hb2.out.size
        clear ha hb
        have hsum2 : m.length + k.length ≤ 1048576 := by omega
        go_wp2_with fail
        have hnew := sgZero_any (m.length + k.length) w2 hsum2
        rw [show ((m.length + k.length : Nat) : Int) = (m.length : Int) + (k.length : Int) from by omega] at hnew
        refine hnew.mono ?_
        clear hnew
        rintro e w3 ⟨v, rfl, hv, hb⟩
        obtain ⟨oa, oc, vs, rfl, hp, _, _⟩ := hv.open
        rw [tab_len] at hp ⊢
        obtain ⟨og, rfl, _⟩ : ∃ g, oa = some ⟨g, 0, none⟩ ∧ w2.heap.size ≤ g := by
          rcases hp.top.2 with ⟨h0, h1⟩ | ⟨g, cap, cur, hv2, hg2, _⟩
          · exact absurd h1 (by omega)
          · simp only [Value.slice.injEq] at hv2
            exact ⟨g, hv2.1, hg2⟩
        obtain ⟨N, hN⟩ : ∃ N, N = m.length + k.length := ⟨_, rfl⟩
        rw [← hN] at hp ⊢
        have hN6 : N ≤ 6 := by omega
        have hNm : m.length < N := by omega
        have Hv := Lib.hid hp
        have Hb := Lib.hid hb
        have HN := Lib.hid hN
        have hNk : m.length + k.length ≤ N := by omega
        have hNk2 : N ≤ m.length + k.length := by omega
        clear hv hb hN hp
        go_wp2
        go_loopw [39] (fun i wr => ∃ (t : Nat) (f : Nat → Nat → Int), t ≤ m.length ∧ i = .int .i64 t ∧ OwnP wr w2.heap.size (.slice (some ⟨og, 0, none⟩) N oc) N (tab N N f) N vs ∧
            (∀ a b, a < N → b < N → f a b = if a < t then stF m k a b else 0) ∧ Below w2.heap.size w2 wr) (fun i _ => m.length - (intOf i).toNat)
        case atStart => exact ⟨0, _, Nat.zero_le _, rfl, Hv.out, fun a b _ _ => by rw [if_neg (by omega)], Hb.out⟩
        case round =>
          obtain ⟨t, f, ht, rfl, hown, heq, hbr⟩ := hrel
          obtain ⟨wo, rfl⟩ : ∃ wo : World, wo = wr := ⟨_, rfl⟩
          clear Hv Hb
          have Heq := Lib.hid heq
          have Hown := Lib.hid hown
          clear heq hown
          by_cases hlt : t < m.length
          · obtain ⟨b1, o1, r1, d1, e1, hc0, hr1, _, _⟩ := (Hmm.out.below Hb2.out) t hlt
            have hrl : (gr m t).length = m.length := Hgm.out.1.2.2 t hlt
            rw [hrl] at hc0
            have hc1 := cell_below hc0 hbr
            subst e1
            have Hbr := Lib.hid hbr
            have Hr1 := Lib.hid hr1
            have Hrl := Lib.hid hrl
            clear hbr hr1 hrl hc0
            go_wp2
            go_loopw [46] (fun i wr => ∃ (u : Nat) (f : Nat → Nat → Int), u ≤ m.length ∧ i = .int .i64 u ∧ OwnP wr w2.heap.size (.slice (some ⟨og, 0, none⟩) N oc) N (tab N N f) N vs ∧
                (∀ a b, a < N → b < N → f a b = if a < t ∨ (a = t ∧ b < u) then stF m k a b else 0) ∧ Below w2.heap.size w2 wr) (fun i _ => m.length - (intOf i).toNat)
            case atStart => exact ⟨0, f, Nat.zero_le _, rfl, Hown.out, fun a b ha hb => by rw [Heq.out a b ha hb]; by_cases e : a < t <;> simp [e], Hbr.out⟩
            case round =>
              clear Hown Heq Hbr
              obtain ⟨u, f, hu, rfl, hown, heq, hbr⟩ := hrel
              have Heq := Lib.hid heq
              clear heq
              by_cases hul : u < m.length
              · obtain ⟨b3, o3, e3, hc3⟩ := Hr1.out.below hbr u (by rw [Hrl.out]; exact hul)
                have hd := hown.cellAt t (by omega)
                obtain ⟨g, cap, hvs, hd2, hf2, hg, hst⟩ := hown.at2 (i := t) (j := u) (by omega) (by omega)
                rw [hvs] at hd
                have Hst := Lib.hid (hst (gi (gr m t) u))
                have Hbs := Lib.hid (hbr.setCell (p := ⟨g, u, none⟩) hg (.int .i64 (gi (gr m t) u)))
                subst e3
                clear hown hbr hvs hst hg
                go_wp2
                go_roundw
                case rel =>
                  refine ⟨u + 1, _, by omega, by go_num, Hst.out, fun a b ha hb => ?_, Hbs.out⟩
                  by_cases e : a = t ∧ b = u
                  · obtain ⟨rfl, rfl⟩ := e
                    rw [if_pos ⟨rfl, rfl⟩, if_pos (.inr ⟨rfl, by omega⟩)]
                    unfold stF
                    rw [if_pos hlt, if_pos hul]
                  · rw [if_neg e, Heq.out a b ha hb]
                    by_cases e5 : a < t ∨ (a = t ∧ b < u)
                    · rw [if_pos e5, if_pos (by omega)]
                    · rw [if_neg e5, if_neg (by omega)]
                case measure => simp [intOf]; omega
              · obtain rfl : u = m.length := by omega
                have Hown := Lib.hid hown
                have Hbr := Lib.hid hbr
                clear hown hbr
                go_wp2
                go_roundw
                case rel =>
                  refine ⟨t + 1, f, by omega, by go_num, Hown.out, fun a b ha hb => ?_, Hbr.out⟩
                  rw [Heq.out a b ha hb]
                  by_cases e5 : a < t ∨ (a = t ∧ b < m.length)
                  · rw [if_pos e5, if_pos (by omega)]
                  · rw [if_neg e5]
                    by_cases e6 : a < t + 1
                    · rw [if_pos e6]
                      obtain rfl : a = t := by omega
                      unfold stF
                      rw [if_pos hlt, if_neg (by omega)]
                    · rw [if_neg e6]
                case measure => simp [intOf]; omega
          · obtain rfl : t = m.length := by omega
            have Hbr := Lib.hid hbr
            clear hbr
            go_wp2
            go_loopw [62] (fun i wr => ∃ (t : Nat) (f : Nat → Nat → Int), t ≤ k.length ∧ i = .int .i64 t ∧ OwnP wr w2.heap.size (.slice (some ⟨og, 0, none⟩) N oc) N (tab N N f) N vs ∧
                (∀ a b, a < N → b < N → f a b = if a < m.length + t then stF m k a b else 0) ∧ Below w2.heap.size w2 wr) (fun i _ => k.length - (intOf i).toNat)
            case atStart => exact ⟨0, f, Nat.zero_le _, rfl, Hown.out, fun a b ha hb => by rw [Nat.add_zero]; exact Heq.out a b ha hb, Hbr.out⟩
            case round =>
              clear Hown Heq Hbr
              obtain ⟨t, f, ht, rfl, hown, heq, hbr⟩ := hrel
              obtain ⟨wo2, rfl⟩ : ∃ wo2 : World, wo2 = wr := ⟨_, rfl⟩
              have Heq := Lib.hid heq
              have Hown := Lib.hid hown
              clear heq hown
              by_cases hlt : t < k.length
              · obtain ⟨b1, o1, r1, d1, e1, hc0, hr1, _, _⟩ := (Hmk.out.below Hb2.out) t hlt
                have hrl : (gr k t).length = k.length := Hgk.out.1.2.2 t hlt
                rw [hrl] at hc0
                have hc1 := cell_below hc0 hbr
                subst e1
                have Hbr := Lib.hid hbr
                have Hr1 := Lib.hid hr1
                have Hrl := Lib.hid hrl
                clear hbr hr1 hrl hc0
                go_wp2
                go_loopw [69] (fun i wr => ∃ (u : Nat) (f : Nat → Nat → Int), u ≤ k.length ∧ i = .int .i64 u ∧ OwnP wr w2.heap.size (.slice (some ⟨og, 0, none⟩) N oc) N (tab N N f) N vs ∧
                    (∀ a b, a < N → b < N → f a b = if a < m.length + t ∨ (a = m.length + t ∧ b < m.length + u) then stF m k a b else 0) ∧ Below w2.heap.size w2 wr) (fun i _ => k.length - (intOf i).toNat)
                case atStart =>
                  refine ⟨0, f, Nat.zero_le _, rfl, Hown.out, fun a b ha hb => ?_, Hbr.out⟩
                  rw [Heq.out a b ha hb]
                  by_cases e5 : a < m.length + t
                  · rw [if_pos e5, if_pos (.inl e5)]
                  · rw [if_neg e5]
                    by_cases e6 : a = m.length + t ∧ b < m.length + 0
                    · rw [if_pos (.inr e6)]
                      unfold stF
                      rw [if_neg (by omega), if_neg (by omega)]
                    · rw [if_neg (by omega)]
                case round =>
                  clear Hown Heq Hbr
                  obtain ⟨u, f, hu, rfl, hown, heq, hbr⟩ := hrel
                  have Heq := Lib.hid heq
                  clear heq
                  by_cases hul : u < k.length
                  · obtain ⟨b3, o3, e3, hc3⟩ := Hr1.out.below hbr u (by rw [Hrl.out]; exact hul)
                    have hd := hown.cellAt (m.length + t) (by omega)
                    obtain ⟨g, cap, hvs, hd2, hf2, hg, hst⟩ := hown.at2 (i := m.length + t) (j := m.length + u) (by omega) (by omega)
                    rw [hvs] at hd
                    have Hst := Lib.hid (hst (gi (gr k t) u))
                    have Hbs := Lib.hid (hbr.setCell (p := ⟨g, m.length + u, none⟩) hg (.int .i64 (gi (gr k t) u)))
                    subst e3
                    clear hown hbr hvs hst hg
                    go_wp2
                    go_roundw
                    case rel =>
                      refine ⟨u + 1, _, by omega, by go_num, Hst.out, fun a b ha hb => ?_, Hbs.out⟩
                      by_cases e : a = m.length + t ∧ b = m.length + u
                      · obtain ⟨rfl, rfl⟩ := e
                        rw [if_pos ⟨rfl, rfl⟩, if_pos (.inr ⟨rfl, by omega⟩)]
                        unfold stF
                        rw [if_neg (by omega), if_pos (by omega), show m.length + t - m.length = t from by omega, show m.length + u - m.length = u from by omega]
                      · rw [if_neg e, Heq.out a b ha hb]
                        by_cases e5 : a < m.length + t ∨ (a = m.length + t ∧ b < m.length + u)
                        · rw [if_pos e5, if_pos (by omega)]
                        · rw [if_neg e5, if_neg (by omega)]
                    case measure => simp [intOf]; omega
                  · obtain rfl : u = k.length := by omega
                    have Hown := Lib.hid hown
                    have Hbr := Lib.hid hbr
                    clear hown hbr
                    go_wp2
                    go_roundw
                    case rel =>
                      refine ⟨t + 1, f, by omega, by go_num, Hown.out, fun a b ha hb => ?_, Hbr.out⟩
                      rw [Heq.out a b ha hb]
                      by_cases e5 : a < m.length + t ∨ (a = m.length + t ∧ b < m.length + k.length)
                      · rw [if_pos e5, if_pos (by omega)]
                      · rw [if_neg e5, if_neg (by omega)]
                    case measure => simp [intOf]; omega
              · obtain rfl : t = k.length := by omega
                have hown := Hown.out
                have e : st m k = tab N N f := eq_tab (by rw [st_len, ← HN.out]) (fun i hi => by unfold st; rw [tab_row (by omega), ← HN.out]) (fun i j hi hj => by
                  unfold st
                  rw [gi_tab (by omega) (by omega), Heq.out i j hi hj, if_pos (by omega)])
                have hfin : OwnM wo2 w.heap.size (.slice (some ⟨og, 0, none⟩) N oc) (st m k) := OwnM.base ⟨vs, by rw [st_len, ← HN.out, e]; exact hown⟩ hB2
                have Hfin := Lib.hid hfin
                have Hbr := Lib.hid (Hb2.out.trans (hbr.mono hB2))
                clear hown hbr e hfin
                go_wp2
                go_ret2
                exact ⟨MRes.yes ⟨Hgm.out, Hgk.out, hsum⟩ Hfin.out, Hbr.out⟩
      · have hd6 : decide ((6 : Int) < (m.length : Int) + (k.length : Int)) = true := by simp; omega
        go_enter Try.func51, Try.ntmps51
        go_wp2_with fail
        refine (sgGood_any a1 c1 m w Hsm.out Hmm.out).mono ?_
        rintro e w1 ⟨ha, hb⟩
        obtain rfl := ha.is Hgm.out
        have Hb1 := Lib.hid hb
        clear ha hb
        go_wp2_with fail
        refine (sgGood_any a2 c2 k w1 Hsk.out (Hmk.out.below Hb1.out)).mono ?_
        rintro e w2 ⟨ha, hb⟩
        obtain rfl := ha.is Hgk.out
        have Hb2 := Lib.hid (Hb1.out.trans (hb.mono Hb1.out.size))
        clear ha hb
        go_wp2
        go_ret2
        exact ⟨MRes.no fun h => hsum h.2.2, Hb2.out⟩
    · have Hgk := Lib.hid hgk
      clear hgk
      go_enter Try.func51, Try.ntmps51
      go_wp2_with fail
      refine (sgGood_any a1 c1 m w Hsm.out Hmm.out).mono ?_
      rintro e w1 ⟨ha, hb⟩
      obtain rfl := ha.is Hgm.out
      have Hb1 := Lib.hid hb
      clear ha hb
      go_wp2_with fail
      refine (sgGood_any a2 c2 k w1 Hsk.out (Hmk.out.below Hb1.out)).mono ?_
      rintro e w2 ⟨ha, hb⟩
      obtain rfl := ha.isnt Hgk.out
      have Hb2 := Lib.hid (Hb1.out.trans (hb.mono Hb1.out.size))
      clear ha hb
      go_wp2
      go_ret2
      exact ⟨MRes.no fun h => Hgk.out h.2.1, Hb2.out⟩
  · have Hgm := Lib.hid hgm
    clear hgm
    go_enter Try.func51, Try.ntmps51
    go_wp2_with fail
    refine (sgGood_any a1 c1 m w Hsm.out Hmm.out).mono ?_
    rintro e w1 ⟨ha, hb⟩
    obtain rfl := ha.isnt Hgm.out
    have Hb1 := Lib.hid hb
    clear ha hb
    go_wp2
    go_ret2
    exact ⟨MRes.no fun h => Hgm.out h.1, Hb1.out⟩
end Go.Proofs.Ytiocbogdiaalgaa
