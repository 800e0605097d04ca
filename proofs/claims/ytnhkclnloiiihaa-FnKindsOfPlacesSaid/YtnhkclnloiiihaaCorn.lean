/- Contracts of the model: corner sums. -/
import Derived.Test.YtnhkclnloiiihaaZero
import Derived.Deep.Cut
namespace Go.Proofs.Ytnhkclnloiiihaa
open Go.RowKit

theorem OwnP.drewN {w : World} {B n k : Nat} {v : Value} {m : List (List Int)} {vs : List Value} (h : OwnP w B v n m k vs) (q : Nat) : OwnP (w.drewN q) B v n m k vs := ⟨h.top, h.rows, h.apart⟩
theorem OwnP.drew {w : World} {B n k : Nat} {v : Value} {m : List (List Int)} {vs : List Value} (h : OwnP w B v n m k vs) : OwnP w.drew B v n m k vs := ⟨h.top, h.rows, h.apart⟩

theorem rowsum_bound {m : List (List Int)} (h : good m) {a b : Nat} (ha : a < m.length) (hb : b ≤ m.length) : -6 ≤ sumF (fun j => gi (gr m a) j) b ∧ sumF (fun j => gi (gr m a) j) b ≤ 6 :=
  row_bound (f := fun j => gi (gr m a) j) (n := m.length) h.1.2.1 (fun _ hj => good_entry h ha hj) hb

set_option maxRecDepth 100000 in
set_option maxHeartbeats 3200000 in
theorem sgCorners_any (ao : Option Addr) (c : Nat) (m : List (List Int)) (w : World) (hg : good m) (hm : MatAt w ao m) :
    Calls Try.prog 125 #[.slice ao m.length c] w fun e w' => ∃ v, e = .returned v ∧ OwnM w' w.heap.size v (cs m) ∧ Below w.heap.size w w' := by
  have hn := hg.1.2.1
  have hmx : m.length ≤ 9223372036854775807 := by omega
  have Hg := Lib.hid hg
  have Hm := Lib.hid hm
  clear hg hm
  go_enter Try.func125, Try.ntmps125
  go_wp2_with fail
  refine (sgZero_any m.length w (by omega)).mono ?_
  rintro e w1 ⟨v, rfl, hv, hb⟩
  obtain ⟨oa, oc, vs, rfl, hp, _, _⟩ := hv.open
  rw [tab_len] at hp ⊢
  obtain ⟨og, rfl, _⟩ : ∃ g, oa = some ⟨g, 0, none⟩ ∧ w.heap.size ≤ g := by
    rcases hp.top.2 with ⟨h0, h1⟩ | ⟨g, cap, cur, hv2, hg2, _⟩
    · exact absurd h1 (by have := Hg.out.1.1; omega)
    · simp only [Value.slice.injEq] at hv2
      exact ⟨g, hv2.1, hg2⟩
  have Hv := Lib.hid hp
  have Hb := Lib.hid hb
  clear hv hp hb
  go_wp2
  go_loopw [13] (fun i wr => ∃ (k : Nat) (f : Nat → Nat → Int), k ≤ m.length ∧ i = .int .i64 k ∧ OwnP wr w.heap.size (.slice (some ⟨og, 0, none⟩) m.length oc) m.length (tab m.length m.length f) m.length vs ∧
      (∀ a b, a < k → b < m.length → f a b = S2 m (a + 1) (b + 1)) ∧ Below w.heap.size w wr) (fun i _ => m.length - (intOf i).toNat)
  case atStart => exact ⟨0, _, Nat.zero_le _, rfl, Hv.out, fun a b ha _ => absurd ha (by omega), Hb.out⟩
  case round =>
    obtain ⟨k, f, hk, rfl, hown, heq, hbr⟩ := hrel
    obtain ⟨wo, rfl⟩ : ∃ wo : World, wo = wr := ⟨_, rfl⟩
    clear Hv Hb
    by_cases hlt : k < m.length
    · obtain ⟨b1, o1, r1, d1, e0, hc0, hx1, _, _⟩ := Hm.out k hlt
      have hrl : (gr m k).length = m.length := Hg.out.1.2.2 k hlt
      rw [hrl] at hc0
      have hc1 := cell_below hc0 hbr
      subst e0
      have Hrow := Lib.hid hx1
      have Hown := Lib.hid hown
      have Heq := Lib.hid heq
      have Hbr := Lib.hid hbr
      clear hown heq hbr hx1 hrl hc0
      go_wp2
      go_loopw [5, 21] (fun s i wr => ∃ (t : Nat) (f : Nat → Nat → Int), t ≤ m.length ∧ i = .int .i64 t ∧ s = .int .i64 (sumF (fun j => gi (gr m k) j) t) ∧ OwnP wr w.heap.size (.slice (some ⟨og, 0, none⟩) m.length oc) m.length (tab m.length m.length f) m.length vs ∧
          (∀ a b, a < k → b < m.length → f a b = S2 m (a + 1) (b + 1)) ∧ (∀ b, b < t → f k b = S2 m (k + 1) (b + 1)) ∧ Below w.heap.size w wr) (fun _ i _ => m.length - (intOf i).toNat)
      case atStart => exact ⟨0, f, Nat.zero_le _, rfl, rfl, Hown.out, Heq.out, fun a ha => absurd ha (by omega), Hbr.out⟩
      case round =>
        obtain ⟨t, f, ht, rfl, rfl, hown, heq, hcol, hbi⟩ := hrel
        clear Hown Heq
        by_cases htl : t < m.length
        · obtain ⟨b2, o2, e2, hc2⟩ := Hrow.out.below hbi t (by rw [Hg.out.1.2.2 k hlt]; exact htl)
          have hd := hown.cellAt k hlt
          obtain ⟨g, cap, hvs, hd2, hf2, hg, hst⟩ := hown.at2 hlt htl
          rw [hvs] at hd
          have hsb := rowsum_bound Hg.out hlt (show t ≤ m.length by omega)
          have hsb2 := rowsum_bound Hg.out hlt (show t + 1 ≤ m.length by omega)
          have e1 : sumF (fun j => gi (gr m k) j) (t + 1) = sumF (fun j => gi (gr m k) j) t + gi (gr m k) t := rfl
          have E1 := Lib.hid e1
          rw [e1] at hsb2
          clear e1
          obtain ⟨s, hs⟩ : ∃ s, s = sumF (fun j => gi (gr m k) j) t := ⟨_, rfl⟩
          obtain ⟨x, hx⟩ : ∃ x, x = gi (gr m k) t := ⟨_, rfl⟩
          rw [← hs, ← hx] at hsb2
          rw [← hs] at hsb ⊢
          rw [← hx] at hc2
          have Hs := Lib.hid hs
          have Hx := Lib.hid hx
          have Hst := Lib.hid (hst (s + x))
          have Heq := Lib.hid heq
          have Hcol := Lib.hid hcol
          have Hbs := Lib.hid (hbi.setCell (p := ⟨g, t, none⟩) hg (.int .i64 (s + x)))
          have Hvs := Lib.hid hvs
          subst e2
          clear hown heq hcol hbi hst hs hx hvs
          by_cases hk0 : 0 < k
          · have hyb := S2_bound Hg.out (show k ≤ m.length by omega) (show t + 1 ≤ m.length by omega)
            have hyk : f (k - 1) t = S2 m k (t + 1) := by
              rw [Heq.out (k - 1) t (by omega) htl, show k - 1 + 1 = k from by omega]
            obtain ⟨y, hy⟩ : ∃ y, y = S2 m k (t + 1) := ⟨_, rfl⟩
            rw [← hy] at hyb hyk
            have Hy := Lib.hid hy
            have Hyk := Lib.hid hyk
            have Hg2 := Lib.hid hg
            have hzb := S2_bound Hg.out (show k + 1 ≤ m.length by omega) (show t + 1 ≤ m.length by omega)
            have hz : S2 m (k + 1) (t + 1) = y + (s + x) := by rw [S2_succ, E1.out, ← Hs.out, ← Hx.out, ← Hy.out]
            rw [hz] at hzb
            have Hz := Lib.hid hz
            clear hg hy hyk hz
            go_upto_region 12 with (fail)
            generalize hW5 : wr.setCell ⟨g, t, none⟩ (.int .i64 (s + x)) = w5 at *
            have hown5 := Hst.out
            have hd5 := hown5.cellAt k hlt
            rw [Hvs.out] at hd5
            obtain ⟨g5, cap5, hvs5, hc5, hf5, hg5, hst5⟩ := hown5.at2 hlt htl
            obtain ⟨g6, cap6, hvs6, hc6, hf6, hg6, hst6⟩ := hown5.at2 (show k - 1 < m.length by omega) htl
            have hd6 := hown5.cellAt (k - 1) (by omega)
            rw [hvs6] at hd6
            obtain rfl : g5 = g := by
              rw [Hvs.out] at hvs5
              simp only [Value.slice.injEq, Option.some.injEq, Addr.mk.injEq, and_true, true_and] at hvs5
              exact hvs5.1.symm
            simp only [and_self, if_true] at hc5
            rw [if_neg (fun h => by omega), Hyk.out] at hc6
            have Hst5 := Lib.hid (hst5 (s + x + y))
            have Hbs5 := Lib.hid (Hbs.out.setCell (p := ⟨g5, t, none⟩) Hg2.out (.int .i64 (s + x + y)))
            clear hown5 hst5 hst6 hvs5 hvs6 hW5 hd hd2 hf2 hc2 hg5 hg6 hc1
            go_region
            all_goals
              go_wp2
              go_roundw
              case rel =>
                refine ⟨t + 1, _, by omega, by go_num, by rw [E1.out, ← Hs.out, ← Hx.out], Hst5.out.drew, fun a b ha hb => ?_, fun b hb => ?_, Hbs5.out.drew⟩
                · rw [if_neg (fun h => by omega), if_neg (fun h => by omega)]
                  exact Heq.out a b ha hb
                · by_cases e : b = t
                  · subst e
                    rw [if_pos ⟨rfl, rfl⟩, Hz.out]
                    omega
                  · rw [if_neg (fun h => by omega), if_neg (fun h => by omega)]
                    exact Hcol.out b (by omega)
              case measure => simp [intOf]; omega
          · obtain rfl : k = 0 := by omega
            go_wp2
            go_roundw
            case rel =>
              refine ⟨t + 1, _, by omega, by go_num, by rw [E1.out, ← Hs.out, ← Hx.out], Hst.out, fun a b ha hb => absurd ha (by omega), fun b hb => ?_, Hbs.out⟩
              by_cases e : b = t
              · subst e
                rw [if_pos ⟨rfl, rfl⟩]
                rw [S2_succ, E1.out, ← Hs.out, ← Hx.out]
                simp [S2, sumF]
              · rw [if_neg (fun h => by omega)]
                exact Hcol.out b (by omega)
            case measure => simp [intOf]; omega
        · obtain rfl : t = m.length := by omega
          have Hown := Lib.hid hown
          have Heq := Lib.hid heq
          have Hcol := Lib.hid hcol
          have Hbi := Lib.hid hbi
          clear hown heq hcol hbi
          go_wp2
          go_roundw
          case rel =>
            refine ⟨k + 1, f, by omega, by go_num, Hown.out, fun a b ha hb => ?_, Hbi.out⟩
            by_cases e : a = k
            · subst e; exact Hcol.out b hb
            · exact Heq.out a b (by omega) hb
          case measure => simp [intOf]; omega
    · obtain rfl : k = m.length := by omega
      go_wp2
      go_ret
      exact ⟨_, rfl, ⟨vs, by
        rw [cs_len]
        have e : cs m = tab m.length m.length f := (eq_tab (cs_len m) (fun i hi => tab_row hi) (fun i j hi hj => by unfold cs; rw [gi_tab hi hj, heq i j hi hj]))
        rw [e]
        exact hown⟩, hbr⟩

set_option maxRecDepth 100000 in
set_option maxHeartbeats 800000 in
theorem specCornerSums_any (ao : Option Addr) (c : Nat) (m : List (List Int)) (w : World) (hs : Small m) (hm : MatAt w ao m) :
    Calls Try.prog 37 #[.slice ao m.length c] w fun e w' => MRes (good m) (cs m) w' w.heap.size e ∧ Below w.heap.size w w' := by
  have Hs := Lib.hid hs
  have Hm := Lib.hid hm
  clear hs hm
  go_enter Try.func37, Try.ntmps37
  go_wp2_with fail
  refine (sgGood_any ao c m w Hs.out Hm.out).mono ?_
  rintro e w1 ⟨ha, hb⟩
  have Hb := Lib.hid hb
  have HB := Lib.hid hb.size
  clear hb
  by_cases hg : good m
  · have Hg := Lib.hid hg
    clear hg
    obtain rfl := ha.is Hg.out
    clear ha
    go_wp2_with fail
    refine (sgCorners_any ao c m w1 Hg.out (Hm.out.below Hb.out)).mono ?_
    rintro e w2 ⟨v, rfl, hv, hb2⟩
    have Hv := Lib.hid (hv.base HB.out)
    have Hb2 := Lib.hid (Hb.out.trans (hb2.mono HB.out))
    clear hv hb2
    go_wp2
    go_ret2
    exact ⟨MRes.yes Hg.out Hv.out, Hb2.out⟩
  · have Hg := Lib.hid hg
    clear hg
    obtain rfl := ha.isnt Hg.out
    clear ha
    go_wp2
    go_ret2
    exact ⟨MRes.no Hg.out, Hb.out⟩

theorem cs_small {m : List (List Int)} (h : square m) : Small (cs m) := ⟨by rw [cs_len]; have := h.2.1; omega, fun i hi => by rw [cs_len] at hi; unfold cs; rw [tab_row hi]; have := h.2.1; omega⟩
end Go.Proofs.Ytnhkclnloiiihaa
