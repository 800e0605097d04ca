/- Contracts: stacked matrices, by the model's stores and by the program's copies. -/
import Derived.Test.YtiocbogdiaalgaaInv
import Derived.Test.YtiocbogdiaalgaaCopyG
import Derived.Laws.CopyOwn
namespace Go.Proofs.Ytiocbogdiaalgaa
open Go.RowKit

/-- one matrix in the first rows and columns, another in the last ones, 0 elsewhere -/
def stF (m k : List (List Int)) (i j : Nat) : Int :=
  if i < m.length then (if j < m.length then gi (gr m i) j else 0) else if m.length ≤ j then gi (gr k (i - m.length)) (j - m.length) else 0
def st (m k : List (List Int)) : List (List Int) := tab (m.length + k.length) (m.length + k.length) (stF m k)
theorem st_len (m k : List (List Int)) : (st m k).length = m.length + k.length := tab_len _ _ _
def stackable (m k : List (List Int)) : Prop := good m ∧ good k ∧ m.length + k.length ≤ 6
theorem st_small {m k : List (List Int)} (h : stackable m k) : Small (st m k) := ⟨by rw [st_len]; have := h.2.2; omega, fun i hi => by rw [st_len] at hi; unfold st; rw [tab_row hi]; have := h.2.2; omega⟩

set_option maxRecDepth 100000 in
set_option maxHeartbeats 6400000 in
theorem implStackMatrices_any (a1 : Option Addr) (c1 : Nat) (m : List (List Int)) (a2 : Option Addr) (c2 : Nat) (k : List (List Int)) (w : World) (hsm : Small m) (hwfm : WfM m) (hmm : MatAt w a1 m) (hsk : Small k) (hwfk : WfM k) (hmk : MatAt w a2 k) :
    Calls Try.prog 52 #[.slice a1 m.length c1, .slice a2 k.length c2] w fun e w' => MRes (stackable m k) (st m k) w' w.heap.size e ∧ Below w.heap.size w w' := by
  have Hsm := Lib.hid hsm
  have Hmm := Lib.hid hmm
  have Hsk := Lib.hid hsk
  have Hmk := Lib.hid hmk
  have hmx1 : m.length ≤ 1048576 := hsm.1
  have hmx2 : k.length ≤ 1048576 := hsk.1
  clear hsm hmm hsk hmk
  have Hwfm := Lib.hid hwfm
  have Hwfk := Lib.hid hwfk
  clear hwfm hwfk

  by_cases hgm : good m
  · have Hgm := Lib.hid hgm
    clear hgm
    by_cases hgk : good k
    · have Hgk := Lib.hid hgk
      clear hgk
      have hm1 := Hgm.out.1.1
      have hm6 := Hgm.out.1.2.1
      have hk1 := Hgk.out.1.1
      have hk6 := Hgk.out.1.2.1
      by_cases hsum : m.length + k.length ≤ 6
      · have hd6 : decide ((6 : Int) < (m.length : Int) + (k.length : Int)) = false := by simp; omega
        go_enter Try.func52, Try.ntmps52
        go_wp2_with fail
        refine (implIsSign_any a1 c1 m w Hsm.out Hwfm.out Hmm.out).mono ?_
        rintro e w1 ⟨ha, hb⟩
        obtain rfl := ha.is Hgm.out
        have Hb1 := Lib.hid hb
        clear ha hb
        go_wp2_with fail
        refine (implIsSign_any a2 c2 k w1 Hsk.out Hwfk.out (Hmk.out.below Hb1.out)).mono ?_
        rintro e w2 ⟨ha, hb⟩
        obtain rfl := ha.is Hgk.out
        have Hb2 := Lib.hid (Hb1.out.trans (hb.mono Hb1.out.size))
        have hB2 := Hb2.out.size
        clear ha hb
        have hsum2 : m.length + k.length ≤ 1048576 := by omega
        go_wp2_with fail
        have hnew := newGrid_any (m.length + k.length) w2 hsum2
        rw [show ((m.length + k.length : Nat) : Int) = (m.length : Int) + (k.length : Int) from by omega] at hnew
        refine hnew.mono ?_
        clear hnew
        rintro e w3 ⟨vs, rfl, hv, hb⟩
        obtain ⟨N, hN⟩ : ∃ N, N = m.length + k.length := ⟨_, rfl⟩
        rw [← hN] at hv ⊢
        have hN6 : N ≤ 6 := by omega
        have hNm : m.length < N := by omega
        have Hv := Lib.hid hv
        have Hb := Lib.hid hb
        have HN := Lib.hid hN
        have hNk : m.length + k.length ≤ N := by omega
        have hNk2 : N ≤ m.length + k.length := by omega
        clear hv hb hN
        go_wp2
        go_loopw [35] (fun i wr => ∃ (t : Nat) (f : Nat → Nat → Int), t ≤ m.length ∧ i = .int .i64 t ∧ OwnP wr w2.heap.size (.slice (some ⟨w2.heap.size, 0, none⟩) N N) N (tab N N f) N vs ∧
            (∀ a b, a < N → b < N → f a b = if a < t then stF m k a b else 0) ∧ Below w2.heap.size w2 wr) (fun i _ => m.length - (intOf i).toNat)
        case atStart => exact ⟨0, _, Nat.zero_le _, rfl, Hv.out, fun a b _ _ => by rw [if_neg (by omega)], Hb.out⟩
        case round =>
          obtain ⟨t, f, ht, rfl, hown, heq, hbr⟩ := hrel
          clear Hv Hb
          have Heq := Lib.hid heq
          clear heq
          by_cases hlt : t < m.length
          · obtain ⟨b1, o1, r1, d1, e1, hc1, hr1, _, _⟩ := (Hmm.out.below Hb2.out).below hbr t hlt
            have hrl : (gr m t).length = m.length := Hgm.out.1.2.2 t hlt
            obtain ⟨b3, o3, e3, _⟩ := hr1 0 (by omega)
            have hd := hown.cellAt t (by omega)
            obtain ⟨g, cap, hvs, _, _, _, _⟩ := hown.at2 (i := t) (j := 0) (by omega) (by omega)
            rw [hvs] at hd
            subst e1 e3
            rw [hrl] at hc1
            have Hown := Lib.hid hown
            have Hbr := Lib.hid hbr
            have Hvs := Lib.hid hvs
            have Hr1 := Lib.hid hr1
            have Hrl := Lib.hid hrl
            clear hown hbr hvs hr1 hrl
            have H1 := Lib.hid (show t < N by omega)
            have H2 := Lib.hid (show 0 + (gr m t).length ≤ N by rw [Hrl.out]; omega)
            have H3 := Lib.hid (show (gr m t).length ≤ N by rw [Hrl.out]; omega)
            go_wp2_with ((with_reducible refine wpList_copy_grid (o := ⟨some 45, _, _, _, _, _⟩) ?gA1 (.tmp 43) (.tmp 44) ?gA2 Hown.out t 0 H1.out (gr m t) H2.out g cap Hvs.out N cap d1 b3 o3 ?gA3 H3.out ?hsA Hr1.out ?_))
            case gA1 => rfl
            case gA2 => rfl
            case gA3 => rfl
            case hsA => rw [Hrl.out]; rfl
            intro w4 hown4 hb4
            have Hown4 := Lib.hid hown4
            have Hb4 := Lib.hid (Hbr.out.trans hb4)
            clear hown4 hb4
            go_wp2
            go_roundw
            case rel =>
              refine ⟨t + 1, _, by omega, by go_num, Hown4.out, fun a b ha hb => ?_, Hb4.out⟩
              rw [Hrl.out, Heq.out a b ha hb]
              unfold stF
              by_cases e : a = t
              · subst e
                rw [if_pos (show a < a + 1 by omega), if_pos hlt, if_neg (show ¬ a < a by omega)]
                by_cases e4 : b < m.length
                · simp [e4]
                · simp [e4]
              · simp only [e, false_and, if_false]
                by_cases e5 : a < t
                · rw [if_pos e5, if_pos (show a < t + 1 by omega)]
                · rw [if_neg e5, if_neg (show ¬ a < t + 1 by omega)]
            case measure => simp [intOf]; omega
          · obtain rfl : t = m.length := by omega
            have Hown := Lib.hid hown
            have Hbr := Lib.hid hbr
            clear hown hbr
            go_wp2
            go_loopw [49] (fun i wr => ∃ (t : Nat) (f : Nat → Nat → Int), t ≤ k.length ∧ i = .int .i64 t ∧ OwnP wr w2.heap.size (.slice (some ⟨w2.heap.size, 0, none⟩) N N) N (tab N N f) N vs ∧
                (∀ a b, a < N → b < N → f a b = if a < m.length + t then stF m k a b else 0) ∧ Below w2.heap.size w2 wr) (fun i _ => k.length - (intOf i).toNat)
            case atStart => exact ⟨0, f, Nat.zero_le _, rfl, Hown.out, fun a b ha hb => by rw [Nat.add_zero]; exact Heq.out a b ha hb, Hbr.out⟩
            case round =>
              clear Hown Heq Hbr
              obtain ⟨t, f, ht, rfl, hown, heq, hbr⟩ := hrel
              have Heq := Lib.hid heq
              clear heq
              by_cases hlt : t < k.length
              · obtain ⟨b1, o1, r1, d1, e1, hc1, hr1, _, _⟩ := (Hmk.out.below Hb2.out).below hbr t hlt
                have hrl : (gr k t).length = k.length := Hgk.out.1.2.2 t hlt
                obtain ⟨b3, o3, e3, _⟩ := hr1 0 (by omega)
                have hd := hown.cellAt (m.length + t) (by omega)
                obtain ⟨g, cap, hvs, _, _, _, _⟩ := hown.at2 (i := m.length + t) (j := 0) (by omega) (by omega)
                have hrd := (hown.rows (m.length + t) (by omega)).read
                rw [hvs] at hd
                have hcapN : N ≤ cap := by
                  obtain ⟨ao, c', hv', h1, _, _⟩ := hrd
                  rw [hvs] at hv'
                  simp only [Value.slice.injEq] at hv'
                  rw [tab_row (by omega)] at h1
                  omega
                have hcne : ¬ cap = m.length := by omega
                subst e1 e3
                rw [hrl] at hc1
                have Hown := Lib.hid hown
                have Hbr := Lib.hid hbr
                have Hvs := Lib.hid hvs
                have Hr1 := Lib.hid hr1
                have Hrl := Lib.hid hrl
                clear hown hbr hvs hr1 hrl hrd
                have H1 := Lib.hid (show m.length + t < N by omega)
                have H2 := Lib.hid (show m.length + (gr k t).length ≤ N by rw [Hrl.out]; omega)
                have H3 := Lib.hid (show (gr k t).length ≤ N - m.length by rw [Hrl.out]; omega)
                go_wp2_with ((with_reducible refine wpList_copy_grid (o := ⟨some 65, _, _, _, _, _⟩) ?gB1 (.tmp 63) (.tmp 64) ?gB2 Hown.out (m.length + t) m.length H1.out (gr k t) H2.out g cap Hvs.out (N - m.length) (cap - m.length) d1 b3 o3 ?gB3 H3.out ?hsB Hr1.out ?_))
                case gB1 => rfl
                case gB2 => rfl
                case gB3 => rfl
                case hsB => rw [Hrl.out]; rfl
                intro w4 hown4 hb4
                have Hown4 := Lib.hid hown4
                have Hb4 := Lib.hid (Hbr.out.trans hb4)
                clear hown4 hb4
                go_wp2
                go_roundw
                case rel =>
                  refine ⟨t + 1, _, by omega, by go_num, Hown4.out, fun a b ha hb => ?_, Hb4.out⟩
                  rw [Hrl.out, Heq.out a b ha hb]
                  unfold stF
                  by_cases e : a = m.length + t
                  · subst e
                    rw [if_pos (show m.length + t < m.length + (t + 1) by omega), if_neg (show ¬ m.length + t < m.length by omega), if_neg (show ¬ m.length + t < m.length + t by omega), show m.length + t - m.length = t from by omega]
                    by_cases e4 : m.length ≤ b
                    · have e6 : b < m.length + k.length := by omega
                      simp [e4, e6]
                    · simp [e4]
                  · simp only [e, false_and, if_false]
                    by_cases e5 : a < m.length + t
                    · rw [if_pos e5, if_pos (show a < m.length + (t + 1) by omega)]
                    · rw [if_neg e5, if_neg (show ¬ a < m.length + (t + 1) by omega)]
                case measure => simp [intOf]; omega
              · obtain rfl : t = k.length := by omega
                have e : st m k = tab N N f := eq_tab (by rw [st_len, ← HN.out]) (fun i hi => by unfold st; rw [tab_row (by omega), ← HN.out]) (fun i j hi hj => by
                  unfold st
                  rw [gi_tab (by omega) (by omega), Heq.out i j hi hj, if_pos (by omega)])
                have hfin : OwnM wr w.heap.size (.slice (some ⟨w2.heap.size, 0, none⟩) N N) (st m k) := OwnM.base ⟨vs, by rw [st_len, ← HN.out, e]; exact hown⟩ hB2
                have Hfin := Lib.hid hfin
                have Hbr := Lib.hid (Hb2.out.trans (hbr.mono hB2))
                clear hown hbr e hfin
                go_wp2
                go_ret2
                exact ⟨MRes.yes ⟨Hgm.out, Hgk.out, hsum⟩ Hfin.out, Hbr.out⟩
      · have hd6 : decide ((6 : Int) < (m.length : Int) + (k.length : Int)) = true := by simp; omega
        go_enter Try.func52, Try.ntmps52
        go_wp2_with fail
        refine (implIsSign_any a1 c1 m w Hsm.out Hwfm.out Hmm.out).mono ?_
        rintro e w1 ⟨ha, hb⟩
        obtain rfl := ha.is Hgm.out
        have Hb1 := Lib.hid hb
        clear ha hb
        go_wp2_with fail
        refine (implIsSign_any a2 c2 k w1 Hsk.out Hwfk.out (Hmk.out.below Hb1.out)).mono ?_
        rintro e w2 ⟨ha, hb⟩
        obtain rfl := ha.is Hgk.out
        have Hb2 := Lib.hid (Hb1.out.trans (hb.mono Hb1.out.size))
        clear ha hb
        go_wp2
        go_ret2
        exact ⟨MRes.no fun h => hsum h.2.2, Hb2.out⟩
    · have Hgk := Lib.hid hgk
      clear hgk
      go_enter Try.func52, Try.ntmps52
      go_wp2_with fail
      refine (implIsSign_any a1 c1 m w Hsm.out Hwfm.out Hmm.out).mono ?_
      rintro e w1 ⟨ha, hb⟩
      obtain rfl := ha.is Hgm.out
      have Hb1 := Lib.hid hb
      clear ha hb
      go_wp2_with fail
      refine (implIsSign_any a2 c2 k w1 Hsk.out Hwfk.out (Hmk.out.below Hb1.out)).mono ?_
      rintro e w2 ⟨ha, hb⟩
      obtain rfl := ha.isnt Hgk.out
      have Hb2 := Lib.hid (Hb1.out.trans (hb.mono Hb1.out.size))
      clear ha hb
      go_wp2
      go_ret2
      exact ⟨MRes.no fun h => Hgk.out h.2.1, Hb2.out⟩
  · have Hgm := Lib.hid hgm
    clear hgm
    go_enter Try.func52, Try.ntmps52
    go_wp2_with fail
    refine (implIsSign_any a1 c1 m w Hsm.out Hwfm.out Hmm.out).mono ?_
    rintro e w1 ⟨ha, hb⟩
    obtain rfl := ha.isnt Hgm.out
    have Hb1 := Lib.hid hb
    clear ha hb
    go_wp2
    go_ret2
    exact ⟨MRes.no fun h => Hgm.out h.1, Hb1.out⟩
end Go.Proofs.Ytiocbogdiaalgaa
