/- Parts of proofs: contracts and plain facts. Conditions: as each says. -/
import Derived.Test.YtgdijjfipicodaaDoorK01
namespace Go.Proofs.YtgdijjfipicodaaDoor
open Go.RowKit

theorem wrap_neg {s x : Int} (h : s + x = 9223372036854775808) : wrap64 (s + x) < 0 := by
  rw [h]
  unfold wrap64
  omega

set_option maxRecDepth 100000 in
set_option maxHeartbeats 400000 in
theorem signsAlternate_any (ao : Option Addr) (c : Nat) (xs : List Int) (w : World) (hn : xs.length ≤ 1048576) (hwf : WfI xs) (hx : IntsAt w ao xs) :
    Calls Tryd.prog 69 #[.slice ao xs.length c] w fun e w' => Ans (lineOk xs) e ∧ w = w' := by
  have hmx : xs.length ≤ 9223372036854775807 := by omega
  have Hwf := Lib.hid hwf
  have Hx := Lib.hid hx
  clear hwf hx
  go_enter Tryd.func69, Tryd.ntmps69
  go_wp2
  go_loop [3, 8] (fun s i => ∃ t : Nat, t ≤ xs.length ∧ i = .int .i64 t ∧ s = .int .i64 (sumK xs t) ∧ (∀ u, u ≤ t → 0 ≤ sumK xs u ∧ sumK xs u ≤ 1)) (fun _ i => xs.length - (intOf i).toNat)
  case atStart => exact ⟨0, Nat.zero_le _, rfl, rfl, fun u hu => by obtain rfl : u = 0 := by omega
                                                                    simp [sumK]⟩
  case round =>
    obtain ⟨t, ht, rfl, rfl, hsum⟩ := hrel
    have hs0 := (hsum t (Nat.le_refl _)).1
    have hs1 := (hsum t (Nat.le_refl _)).2
    have Hsum := Lib.hid hsum
    clear hsum
    by_cases htl : t < xs.length
    · obtain ⟨b2, o2, rfl, hc2⟩ := Hx.out t htl
      have hw1 := (Hwf.out t htl).1
      have hw2 := (Hwf.out t htl).2
      have hno : ¬ (0 ≤ sumK xs (t + 1) ∧ sumK xs (t + 1) ≤ 1) → ¬ lineOk xs := fun h hl => h (hl.1 (t + 1) (by omega))
      have hsu : sumK xs (t + 1) = sumK xs t + gi xs t := rfl
      have Hno := Lib.hid hno
      have Hsu := Lib.hid hsu
      obtain ⟨x, hx⟩ : ∃ x, x = gi xs t := ⟨_, rfl⟩
      obtain ⟨s, hsm⟩ : ∃ s, s = sumK xs t := ⟨_, rfl⟩
      rw [← hx] at hc2 hw1 hw2
      rw [← hsm] at hs0 hs1 ⊢
      have Hx := Lib.hid hx
      have Hsm := Lib.hid hsm
      clear hx hsm hno hsu
      by_cases hA : s + x < 0
      · go_wp2
        go_ret
        exact ⟨Ans.no (Hno.out (by rw [Hsu.out, ← Hx.out, ← Hsm.out]; omega)), rfl⟩
      · by_cases hD : s + x = 9223372036854775808
        · have HD := Lib.hid hD
          have hneg := wrap_neg hD
          have hbad : ¬ lineOk xs := Hno.out (by rw [Hsu.out, ← Hx.out, ← Hsm.out]; omega)
          have Hbad := Lib.hid hbad
          clear hD hA hbad hw1 hw2 hs0 hs1
          go_wp2
          go_ret
          exact ⟨Ans.no Hbad.out, rfl⟩
        · have hle : s + x ≤ 9223372036854775807 := by omega
          clear hD
          by_cases hC : 1 < s + x
          · have hd : decide ((1 : Int) < s + x) = true := by simpa using hC
            go_wp2
            go_ret
            exact ⟨Ans.no (Hno.out (by rw [Hsu.out, ← Hx.out, ← Hsm.out]; omega)), rfl⟩
          · have hd : decide ((1 : Int) < s + x) = false := by simpa using hC
            go_wp2
            go_round
            case rel =>
              have e1 : s + x = sumK xs (t + 1) := by rw [Hsu.out, ← Hx.out, ← Hsm.out]
              refine ⟨t + 1, by omega, by go_num, by rw [← e1], fun u hu => ?_⟩
              by_cases e : u = t + 1
              · subst e; rw [← e1]; omega
              · exact Hsum.out u (by omega)
            case measure => simp [intOf]; omega
    · obtain rfl : t = xs.length := by omega
      obtain ⟨s, hsm⟩ : ∃ s, s = sumK xs xs.length := ⟨_, rfl⟩
      rw [← hsm] at hs0 hs1 ⊢
      have Hsm := Lib.hid hsm
      clear hsm
      by_cases he : s = 1
      · have hb : (s == 1) = true := by simp [he]
        have He := Lib.hid he
        clear he
        go_wp2
        go_ret
        exact ⟨Ans.yes ⟨Hsum.out, by rw [← Hsm.out]; exact He.out⟩, rfl⟩
      · have hb : (s == 1) = false := by simp [he]
        go_wp2
        go_ret
        refine ⟨Ans.no fun h => ?_, rfl⟩
        have := h.2
        rw [← Hsm.out] at this
        exact he this

/-- the table itself, then the one with rows and columns exchanged -/
def selM (m : List (List Int)) (k : Nat) : List (List Int) := if k = 0 then m else tr m

theorem wf_tr {m : List (List Int)} (h : square m) (hw : WfM m) : WfM (tr m) := by
  intro i hi
  rw [tr_len] at hi
  intro j hj
  rw [tr_row hi] at hj
  rw [gi_tr hi hj]
  exact hw j hj i (by rw [h.2.2 j hj]; exact hi)

set_option maxRecDepth 100000 in
set_option maxHeartbeats 800000 in
theorem implIsSign_any (ao : Option Addr) (c : Nat) (m : List (List Int)) (w : World) (hs : Small m) (hwf : WfM m) (hm : MatAt w ao m) :
    Calls Tryd.prog 43 #[.slice ao m.length c] w fun e w' => Ans (good m) e ∧ Below w.heap.size w w' := by
  by_cases hsq : square m
  · have Hsq := Lib.hid hsq
    have Hs := Lib.hid hs
    have Hm := Lib.hid hm
    have Hwf := Lib.hid hwf
    have hn := hsq.2.1
    have hmx : m.length ≤ 9223372036854775807 := by omega
    clear hsq hs hm hwf
    go_enter Tryd.func43, Tryd.ntmps43
    go_wp2_with fail
    refine (isSquare_any ao c m w Hs.out Hm.out).mono ?_
    rintro e w2 ⟨ha, hb0⟩
    obtain rfl := ha.is Hsq.out
    have Hb0 := Lib.hid hb0
    clear ha hb0
    go_wp2_with fail
    refine (transposed_any ao c m w2 Hsq.out (Hm.out.below Hb0.out)).mono ?_
    rintro e w1 ⟨v, rfl, hv0, hb0⟩
    have hv := hv0.base Hb0.out.size
    have hb := Hb0.out.trans (hb0.mono Hb0.out.size)
    clear hv0 hb0
    obtain ⟨a2, c2, rfl, hc1, hc2, hr⟩ := hv.read
    rw [tr_len]
    have hsz := hb.size
    have hb2 : Below w.heap.size w (w1.alloc (.cells #[.slice ao m.length c, .slice a2 m.length c2] 62)) := hb.alloc hsz _
    have hb3 : Below w1.heap.size w1 (w1.alloc (.cells #[.slice ao m.length c, .slice a2 m.length c2] 62)) := (Below.refl _ _).alloc (Nat.le_refl _) _
    have hsel : ∀ k, k < 2 → ∃ a d, (w1.alloc (.cells #[.slice ao m.length c, .slice a2 m.length c2] 62)).cell? ⟨w1.heap.size, k, none⟩ = some (.slice a m.length d) ∧
        MatAt (w1.alloc (.cells #[.slice ao m.length c, .slice a2 m.length c2] 62)) a (selM m k) ∧ (selM m k).length = m.length ∧ square (selM m k) ∧ WfM (selM m k) := by
      intro k hk
      by_cases e : k = 0
      · subst e
        exact ⟨ao, c, by rw [cell_new]; rfl, Hm.out.below hb2, rfl, Hsq.out, Hwf.out⟩
      · obtain rfl : k = 1 := by omega
        exact ⟨a2, c2, by rw [cell_new]; rfl, hr.below hb3, tr_len m, Hsq.out.tr, wf_tr Hsq.out Hwf.out⟩
    have Hsel := Lib.hid hsel
    have Hb2 := Lib.hid hb2
    clear hv hb hr hb2 hb3 hsel
    go_wp2
    go_loop [15] (fun i => ∃ k : Nat, k ≤ 2 ∧ i = .int .i64 k ∧ ∀ j, j < k → rowsOk (selM m j)) (fun i => 2 - (intOf i).toNat)
    case atStart => exact ⟨0, Nat.zero_le _, rfl, fun j hj => absurd hj (by omega)⟩
    case round =>
      obtain ⟨k, hk, rfl, hdone⟩ := hrel
      have Hd := Lib.hid hdone
      clear hdone
      by_cases hlt : k < 2
      · obtain ⟨a, d, hcell, hmat, hlen, hsq2, hwf2⟩ := Hsel.out k hlt
        have Hmat := Lib.hid hmat
        have Hlen := Lib.hid hlen
        have Hsq2 := Lib.hid hsq2
        have Hwf2 := Lib.hid hwf2
        clear hmat hlen hsq2 hwf2 hc1 hc2
        go_wp2
        go_loop [21] (fun i => ∃ t : Nat, t ≤ m.length ∧ i = .int .i64 t ∧ ∀ j, j < t → lineOk (gr (selM m k) j)) (fun i => m.length - (intOf i).toNat)
        case atStart => exact ⟨0, Nat.zero_le _, rfl, fun j hj => absurd hj (by omega)⟩
        case round =>
          obtain ⟨t, ht, rfl, hln⟩ := hrel
          have Hln := Lib.hid hln
          clear hln
          by_cases htl : t < m.length
          · obtain ⟨b3, o3, r3, d3, rfl, hc3, hx3, _, _⟩ := Hmat.out t (by rw [Hlen.out]; exact htl)
            have hrl : (gr (selM m k) t).length ≤ 1048576 := by rw [Hsq2.out.2.2 t (by rw [Hlen.out]; exact htl), Hlen.out]; omega
            have Hx3 := Lib.hid hx3
            clear hx3
            go_wp2_with fail
            refine (signsAlternate_any r3 d3 (gr (selM m k) t) _ hrl (Hwf2.out t (by rw [Hlen.out]; exact htl)) Hx3.out).mono ?_
            rintro e w3 ⟨ha, rfl⟩
            by_cases hok : lineOk (gr (selM m k) t)
            · have Hok := Lib.hid hok
              clear hok
              obtain rfl := ha.is Hok.out
              clear ha
              go_wp2
              go_round
              case rel =>
                refine ⟨t + 1, by omega, by go_num, fun j hj => ?_⟩
                by_cases e : j = t
                · subst e; exact Hok.out
                · exact Hln.out j (by omega)
              case measure => simp [intOf]; omega
            · have Hok := Lib.hid hok
              clear hok
              obtain rfl := ha.isnt Hok.out
              clear ha
              go_wp2
              go_ret
              refine ⟨Ans.no fun h => Hok.out ?_, Hb2.out⟩
              have hlt' : t < (selM m k).length := by rw [Hlen.out]; exact htl
              unfold selM at hlt' ⊢
              split
              · next e => rw [if_pos e] at hlt'; exact h.2.1 t hlt'
              · next e => rw [if_neg e] at hlt'; exact h.2.2 t hlt'
          · obtain rfl : t = m.length := by omega
            go_wp2
            go_round
            case rel =>
              refine ⟨k + 1, by omega, by go_num, fun j hj => ?_⟩
              by_cases e : j = k
              · subst e; intro i hi; exact Hln.out i (by rw [Hlen.out] at hi; exact hi)
              · exact Hd.out j (by omega)
            case measure => simp [intOf]; omega
      · obtain rfl : k = 2 := by omega
        go_wp2
        go_ret
        exact ⟨Ans.yes ⟨Hsq.out, Hd.out 0 (by omega), Hd.out 1 (by omega)⟩, Hb2.out⟩
  · have Hsq := Lib.hid hsq
    have Hs := Lib.hid hs
    have Hm := Lib.hid hm
    clear hsq hs hm hwf
    go_enter Tryd.func43, Tryd.ntmps43
    go_wp2_with fail
    refine (isSquare_any ao c m w Hs.out Hm.out).mono ?_
    rintro e w2 ⟨ha, hb0⟩
    obtain rfl := ha.isnt Hsq.out
    have Hb0 := Lib.hid hb0
    clear ha hb0
    go_wp2
    go_ret
    exact ⟨Ans.no fun h => Hsq.out h.1, Hb0.out⟩
end Go.Proofs.YtgdijjfipicodaaDoor

namespace Go.Proofs.YtgdijjfipicodaaDoor
open Go.RowKit

/-- the rows backwards -/
def mir (m : List (List Int)) : List (List Int) := tab m.length m.length fun i j => gi (gr m i) (m.length - 1 - j)
theorem mir_len (m : List (List Int)) : (mir m).length = m.length := tab_len _ _ _
theorem mir_row {m : List (List Int)} {i : Nat} (h : i < m.length) : (gr (mir m) i).length = m.length := tab_row h
theorem gi_mir {m : List (List Int)} {i j : Nat} (hi : i < m.length) (hj : j < m.length) : gi (gr (mir m) i) j = gi (gr m i) (m.length - 1 - j) := gi_tab hi hj
theorem square.mir {m : List (List Int)} (h : square m) : square (mir m) := ⟨by rw [mir_len]; exact h.1, by rw [mir_len]; exact h.2.1, fun i hi => by rw [mir_len] at hi ⊢; exact mir_row hi⟩
/-- turned clockwise -/
def cw (m : List (List Int)) : List (List Int) := mir (tr m)
theorem cw_len (m : List (List Int)) : (cw m).length = m.length := by unfold cw; rw [mir_len, tr_len]
theorem cw_row {m : List (List Int)} {i : Nat} (h : i < m.length) : (gr (cw m) i).length = m.length := by unfold cw; rw [mir_row (by rw [tr_len]; exact h), tr_len]
theorem gi_cw {m : List (List Int)} {i j : Nat} (hi : i < m.length) (hj : j < m.length) : gi (gr (cw m) i) j = gi (gr m (m.length - 1 - j)) i := by
  unfold cw
  rw [gi_mir (by rw [tr_len]; exact hi) (by rw [tr_len]; exact hj), tr_len, gi_tr hi (by omega)]
theorem square.cw {m : List (List Int)} (h : square m) : square (cw m) := h.tr.mir

set_option maxRecDepth 100000 in
set_option maxHeartbeats 800000 in
theorem turned_any (ao : Option Addr) (c : Nat) (m : List (List Int)) (w : World) (hsq : square m) (hm : MatAt w ao m) :
    Calls Tryd.prog 110 #[.slice ao m.length c] w fun e w' => ∃ v, e = .returned v ∧ OwnM w' w.heap.size v (cw m) ∧ Below w.heap.size w w' := by
  have hn := hsq.2.1
  have hmx : m.length ≤ 9223372036854775807 := by omega
  have Hsq := Lib.hid hsq
  have Hm := Lib.hid hm
  clear hsq hm
  go_enter Tryd.func110, Tryd.ntmps110
  go_wp2_with fail
  refine (newGrid_any m.length w (by omega)).mono ?_
  rintro e w1 ⟨vs, rfl, hv, hb⟩
  have Hv := Lib.hid hv
  have Hb := Lib.hid hb
  clear hv hb
  go_wp2
  go_loopw [13] (fun i wr => ∃ (k : Nat) (f : Nat → Nat → Int), k ≤ m.length ∧ i = .int .i64 k ∧ OwnP wr w.heap.size (.slice (some ⟨w.heap.size, 0, none⟩) m.length m.length) m.length (tab m.length m.length f) m.length vs ∧
      (∀ a b, a < k → b < m.length → f (b) (m.length - 1 - a) = gi (gr m a) b) ∧ Below w.heap.size w wr) (fun i _ => m.length - (intOf i).toNat)
  case atStart => exact ⟨0, _, Nat.zero_le _, rfl, Hv.out, fun a b ha _ => absurd ha (by omega), Hb.out⟩
  case round =>
    obtain ⟨k, f, hk, rfl, hown, heq, hbr⟩ := hrel
    obtain ⟨wo, rfl⟩ : ∃ wo : World, wo = wr := ⟨_, rfl⟩
    clear Hv Hb
    by_cases hlt : k < m.length
    · obtain ⟨b1, o1, r1, d1, e0, hc0, hx1, _, _⟩ := Hm.out k hlt
      have hrl : (gr m k).length = m.length := Hsq.out.2.2 k hlt
      rw [hrl] at hc0
      have hc1 := cell_below hc0 hbr
      subst e0
      have Hrow := Lib.hid hx1
      have Hown := Lib.hid hown
      have Heq := Lib.hid heq
      have Hbr := Lib.hid hbr
      clear hown heq hbr hx1 hrl hc0
      go_wp2
      go_loopw [20] (fun i wr => ∃ (t : Nat) (f : Nat → Nat → Int), t ≤ m.length ∧ i = .int .i64 t ∧ OwnP wr w.heap.size (.slice (some ⟨w.heap.size, 0, none⟩) m.length m.length) m.length (tab m.length m.length f) m.length vs ∧
          (∀ a b, a < k → b < m.length → f (b) (m.length - 1 - a) = gi (gr m a) b) ∧ (∀ b, b < t → f (b) (m.length - 1 - k) = gi (gr m k) b) ∧ Below w.heap.size w wr) (fun i _ => m.length - (intOf i).toNat)
      case atStart => exact ⟨0, f, Nat.zero_le _, rfl, Hown.out, Heq.out, fun a ha => absurd ha (by omega), Hbr.out⟩
      case round =>
        obtain ⟨t, f, ht, rfl, hown, heq, hcol, hbi⟩ := hrel
        clear Hown Heq
        by_cases htl : t < m.length
        · obtain ⟨b2, o2, e2, hc2⟩ := Hrow.out.below hbi t (by rw [Hsq.out.2.2 k hlt]; exact htl)
          have hd := hown.cellAt (t) (by omega)
          obtain ⟨g, cap, hvs, hd2, hf2, hg, hst⟩ := hown.at2 (i := t) (j := m.length - 1 - k) (by omega) (by omega)
          rw [hvs] at hd
          have Hst := Lib.hid (hst (gi (gr m k) t))
          have Heq := Lib.hid heq
          have Hcol := Lib.hid hcol
          have Hbs := Lib.hid (hbi.setCell (p := ⟨g, m.length - 1 - k, none⟩) hg (.int .i64 (gi (gr m k) t)))
          subst e2
          clear hown heq hcol hbi hvs hst hg
          go_wp2
          go_roundw
          case rel =>
            refine ⟨t + 1, _, by omega, by go_num, Hst.out, fun a b ha hb => ?_, fun b hb => ?_, Hbs.out⟩
            · rw [if_neg (fun h => by omega)]
              exact Heq.out a b ha hb
            · by_cases e : b = t
              · subst e; rw [if_pos ⟨rfl, rfl⟩]
              · rw [if_neg (fun h => by omega)]
                exact Hcol.out b (by omega)
          case measure => simp [intOf]; omega
        · obtain rfl : t = m.length := by omega
          have Hown := Lib.hid hown
          have Heq := Lib.hid heq
          have Hcol := Lib.hid hcol
          have Hbi := Lib.hid hbi
          clear hown heq hcol hbi
          go_wp2
          go_roundw
          case rel =>
            refine ⟨k + 1, f, by omega, by go_num, Hown.out, fun a b ha hb => ?_, Hbi.out⟩
            by_cases e : a = k
            · subst e; exact Hcol.out b hb
            · exact Heq.out a b (by omega) hb
          case measure => simp [intOf]; omega
    · obtain rfl : k = m.length := by omega
      go_wp2
      go_ret
      exact ⟨_, rfl, ⟨vs, by
        rw [cw_len]
        have e : cw m = tab m.length m.length f := (eq_tab (by rw [cw_len]) (fun i hi => cw_row hi) (fun i j hi hj => by rw [gi_cw hi hj]; have := heq (m.length - 1 - j) i (by omega) hi; rw [show m.length - 1 - (m.length - 1 - j) = j from by omega] at this; exact this.symm))
        rw [e]
        exact hown⟩, hbr⟩

set_option maxRecDepth 100000 in
set_option maxHeartbeats 800000 in
theorem mirrored_any (ao : Option Addr) (c : Nat) (m : List (List Int)) (w : World) (hsq : square m) (hm : MatAt w ao m) :
    Calls Tryd.prog 111 #[.slice ao m.length c] w fun e w' => ∃ v, e = .returned v ∧ OwnM w' w.heap.size v (mir m) ∧ Below w.heap.size w w' := by
  have hn := hsq.2.1
  have hmx : m.length ≤ 9223372036854775807 := by omega
  have Hsq := Lib.hid hsq
  have Hm := Lib.hid hm
  clear hsq hm
  go_enter Tryd.func111, Tryd.ntmps111
  go_wp2_with fail
  refine (newGrid_any m.length w (by omega)).mono ?_
  rintro e w1 ⟨vs, rfl, hv, hb⟩
  have Hv := Lib.hid hv
  have Hb := Lib.hid hb
  clear hv hb
  go_wp2
  go_loopw [13] (fun i wr => ∃ (k : Nat) (f : Nat → Nat → Int), k ≤ m.length ∧ i = .int .i64 k ∧ OwnP wr w.heap.size (.slice (some ⟨w.heap.size, 0, none⟩) m.length m.length) m.length (tab m.length m.length f) m.length vs ∧
      (∀ a b, a < k → b < m.length → f (a) (m.length - 1 - b) = gi (gr m a) b) ∧ Below w.heap.size w wr) (fun i _ => m.length - (intOf i).toNat)
  case atStart => exact ⟨0, _, Nat.zero_le _, rfl, Hv.out, fun a b ha _ => absurd ha (by omega), Hb.out⟩
  case round =>
    obtain ⟨k, f, hk, rfl, hown, heq, hbr⟩ := hrel
    obtain ⟨wo, rfl⟩ : ∃ wo : World, wo = wr := ⟨_, rfl⟩
    clear Hv Hb
    by_cases hlt : k < m.length
    · obtain ⟨b1, o1, r1, d1, e0, hc0, hx1, _, _⟩ := Hm.out k hlt
      have hrl : (gr m k).length = m.length := Hsq.out.2.2 k hlt
      rw [hrl] at hc0
      have hc1 := cell_below hc0 hbr
      subst e0
      have Hrow := Lib.hid hx1
      have Hown := Lib.hid hown
      have Heq := Lib.hid heq
      have Hbr := Lib.hid hbr
      clear hown heq hbr hx1 hrl hc0
      go_wp2
      go_loopw [20] (fun i wr => ∃ (t : Nat) (f : Nat → Nat → Int), t ≤ m.length ∧ i = .int .i64 t ∧ OwnP wr w.heap.size (.slice (some ⟨w.heap.size, 0, none⟩) m.length m.length) m.length (tab m.length m.length f) m.length vs ∧
          (∀ a b, a < k → b < m.length → f (a) (m.length - 1 - b) = gi (gr m a) b) ∧ (∀ b, b < t → f (k) (m.length - 1 - b) = gi (gr m k) b) ∧ Below w.heap.size w wr) (fun i _ => m.length - (intOf i).toNat)
      case atStart => exact ⟨0, f, Nat.zero_le _, rfl, Hown.out, Heq.out, fun a ha => absurd ha (by omega), Hbr.out⟩
      case round =>
        obtain ⟨t, f, ht, rfl, hown, heq, hcol, hbi⟩ := hrel
        clear Hown Heq
        by_cases htl : t < m.length
        · obtain ⟨b2, o2, e2, hc2⟩ := Hrow.out.below hbi t (by rw [Hsq.out.2.2 k hlt]; exact htl)
          have hd := hown.cellAt (k) (by omega)
          obtain ⟨g, cap, hvs, hd2, hf2, hg, hst⟩ := hown.at2 (i := k) (j := m.length - 1 - t) (by omega) (by omega)
          rw [hvs] at hd
          have Hst := Lib.hid (hst (gi (gr m k) t))
          have Heq := Lib.hid heq
          have Hcol := Lib.hid hcol
          have Hbs := Lib.hid (hbi.setCell (p := ⟨g, m.length - 1 - t, none⟩) hg (.int .i64 (gi (gr m k) t)))
          subst e2
          clear hown heq hcol hbi hvs hst hg
          go_wp2
          go_roundw
          case rel =>
            refine ⟨t + 1, _, by omega, by go_num, Hst.out, fun a b ha hb => ?_, fun b hb => ?_, Hbs.out⟩
            · rw [if_neg (fun h => by omega)]
              exact Heq.out a b ha hb
            · by_cases e : b = t
              · subst e; rw [if_pos ⟨rfl, rfl⟩]
              · rw [if_neg (fun h => by omega)]
                exact Hcol.out b (by omega)
          case measure => simp [intOf]; omega
        · obtain rfl : t = m.length := by omega
          have Hown := Lib.hid hown
          have Heq := Lib.hid heq
          have Hcol := Lib.hid hcol
          have Hbi := Lib.hid hbi
          clear hown heq hcol hbi
          go_wp2
          go_roundw
          case rel =>
            refine ⟨k + 1, f, by omega, by go_num, Hown.out, fun a b ha hb => ?_, Hbi.out⟩
            by_cases e : a = k
            · subst e; exact Hcol.out b hb
            · exact Heq.out a b (by omega) hb
          case measure => simp [intOf]; omega
    · obtain rfl : k = m.length := by omega
      go_wp2
      go_ret
      exact ⟨_, rfl, ⟨vs, by
        rw [mir_len]
        have e : mir m = tab m.length m.length f := (eq_tab (by rw [mir_len]) (fun i hi => mir_row hi) (fun i j hi hj => by rw [gi_mir hi hj]; have := heq i (m.length - 1 - j) hi (by omega); rw [show m.length - 1 - (m.length - 1 - j) = j from by omega] at this; exact this.symm))
        rw [e]
        exact hown⟩, hbr⟩

/-- the answer of a function that hands back a table and whether there is one -/
def MRes (p : Prop) (r : List (List Int)) (w : World) (B : Nat) (e : Ending) : Prop :=
  ∃ v b r', e = .returned (.tuple #[v, .bool b]) ∧ OwnM w B v r' ∧ ((p ∧ b = true ∧ r' = r) ∨ (¬p ∧ b = false ∧ r' = []))
theorem MRes.yes {p : Prop} {r : List (List Int)} {w : World} {B : Nat} {v : Value} (h : p) (ho : OwnM w B v r) : MRes p r w B (.returned (.tuple #[v, .bool true])) := ⟨v, true, r, rfl, ho, .inl ⟨h, rfl, rfl⟩⟩
theorem MRes.no {p : Prop} {r : List (List Int)} {w : World} {B : Nat} (h : ¬p) : MRes p r w B (.returned (.tuple #[.slice none 0 0, .bool false])) := ⟨_, false, [], rfl, OwnM.nil _ _, .inr ⟨h, rfl, rfl⟩⟩


end Go.Proofs.YtgdijjfipicodaaDoor

namespace Go.Proofs.YtgdijjfipicodaaDoor
open Go.RowKit

theorem OwnP.only {w w' : World} {S : Nat → Prop} {B n k : Nat} {v : Value} {m : List (List Int)} {vs : List Value} (h : OwnP w B v n m k vs) (ho : OnlyW S w w') (hS : ∀ g, S g → g < B) : OwnP w' B v n m k vs := by
  refine ⟨ownsRow_only h.top ho (fun g hg hs => ?_), fun i hi => ownsRow_only (h.rows i hi) ho (fun g hg hs => ?_), h.apart⟩
  · have h1 := (World.ownsRow.lt h.top g hg).1
    have h2 := hS g hs
    omega
  · have h1 := ((h.rows i hi).lt g hg).1
    have h2 := hS g hs
    omega

/-- the blocks of the rows -/
theorem OwnP.span {w : World} {B n : Nat} {v : Value} {m : List (List Int)} {vs : List Value} (h : OwnP w B v n m n vs) {g : Nat} (hg : ∃ i, i < n ∧ (vs.getD i undef).ownBlock = some g) : B ≤ g ∧ g < w.heap.size := by
  obtain ⟨i, hi, e⟩ := hg
  exact (h.rows i hi).lt g e

theorem OwnP.at {w : World} {B n c : Nat} {ao : Option Addr} {m : List (List Int)} {vs : List Value} (h : OwnP w B (.slice ao n c) n m n vs) (hn : m.length = n) : MatAt w ao m := by
  subst hn
  obtain ⟨ao', c', hv, _, _, hm⟩ := OwnM.read ⟨vs, h⟩
  obtain ⟨rfl, -, rfl⟩ := (Value.slice.injEq _ _ _ _ _ _).mp hv
  exact hm

theorem OwnM.open {w : World} {B : Nat} {v : Value} {m : List (List Int)} (h : OwnM w B v m) : ∃ ao c vs, v = .slice ao m.length c ∧ OwnP w B (.slice ao m.length c) m.length m m.length vs ∧ m.length ≤ c ∧ c ≤ 9223372036854775807 := by
  obtain ⟨ao, c, hv, h1, h2, _⟩ := h.read
  obtain ⟨vs, h⟩ := h
  exact ⟨ao, c, vs, hv, by rw [← hv]; exact h, h1, h2⟩

theorem mres_same {p : Prop} {r q : List (List Int)} {b : Bool} (h : (p ∧ b = true ∧ q = r) ∨ (¬p ∧ b = false ∧ q = [])) :
    ∀ (b' : Bool) (q' : List (List Int)), ((p ∧ b' = true ∧ q' = r) ∨ (¬p ∧ b' = false ∧ q' = [])) → b = b' ∧ q = q' := by
  intro b' q' h'
  rcases h with ⟨h1, rfl, rfl⟩ | ⟨h1, rfl, rfl⟩ <;> rcases h' with ⟨k1, rfl, rfl⟩ | ⟨k1, rfl, rfl⟩
  · exact ⟨rfl, rfl⟩
  · exact absurd h1 k1
  · exact absurd k1 h1
  · exact ⟨rfl, rfl⟩

theorem own_at {w : World} {B n c : Nat} {ao : Option Addr} {xs : List Int} (h : OwnI w B (.slice ao n c) xs) : IntsAt w ao xs := by
  obtain ⟨ao', c', hv, _, _, hx⟩ := h.read
  obtain ⟨rfl, -, rfl⟩ := (Value.slice.injEq _ _ _ _ _ _).mp hv
  exact hx

/-- the last t numbers of row k, backwards -/
def backTo (m : List (List Int)) (k t : Nat) : List Int := (List.range t).map fun i => gi (gr m k) (m.length - 1 - i)
theorem backTo_succ (m : List (List Int)) (k t : Nat) : backTo m k (t + 1) = backTo m k t ++ [gi (gr m k) (m.length - 1 - t)] := by simp [backTo, List.range_succ]
theorem backTo_len (m : List (List Int)) (k t : Nat) : (backTo m k t).length = t := by simp [backTo]
theorem backTo_mir {m : List (List Int)} {k : Nat} (hk : k < m.length) : backTo m k m.length = gr (mir m) k := by unfold mir; rw [gr_tab hk]; rfl

set_option maxRecDepth 100000 in
set_option maxHeartbeats 800000 in
theorem sgMirror_any (ao : Option Addr) (c : Nat) (m : List (List Int)) (w : World) (hsq : square m) (hm : MatAt w ao m) :
    Calls Tryd.prog 86 #[.slice ao m.length c] w fun e w' => ∃ v, e = .returned v ∧ OwnM w' w.heap.size v (mir m) ∧ Below w.heap.size w w' := by
  obtain ⟨i0, hi, hz0, hz1, hz2⟩ := info_parts Tryd.info_int
  obtain ⟨j0, hj, hy0, hy1, hy2⟩ := info_parts Tryd.info_ints
  have hn := hsq.2.1
  have hmx : m.length ≤ 9223372036854775807 := by omega
  have Hsq := Lib.hid hsq
  clear hsq
  go_enter Tryd.func86, Tryd.ntmps86
  go_wp2
  go_loopw [3, 10] (fun out i wr => ∃ (k : Nat) (vs : List Value), k ≤ m.length ∧ i = .int .i64 k ∧ OwnP wr w.heap.size out k (mir m) k vs ∧ Below w.heap.size w wr) (fun _ i _ => m.length - (intOf i).toNat)
  case atStart => exact ⟨0, [], Nat.zero_le _, rfl, ⟨World.ownsRow_nil _ _ _ _, fun i hi => absurd hi (by omega), fun i j _ hj => absurd hj (by omega)⟩, Below.refl _ _⟩
  case round =>
    obtain ⟨k, vs, hk, rfl, hout, hbr⟩ := hrel
    obtain ⟨wo, rfl⟩ : ∃ wo : World, wo = wr := ⟨_, rfl⟩
    by_cases hlt : k < m.length
    · obtain ⟨b1, o1, r1, d1, e0, hc1, hx1, _, _⟩ := hm.below hbr k hlt
      have hrl : (gr m k).length = m.length := Hsq.out.2.2 k hlt
      rw [hrl] at hc1
      subst e0
      have Hx1 := Lib.hid hx1
      have Hout := Lib.hid hout
      have Hbr := Lib.hid hbr
      have hB := hbr.size
      clear hout hbr hm hrl hx1
      go_wp2
      go_loopw [6, 7] (fun row i wr => ∃ t : Nat, t ≤ m.length ∧ i = .int .i64 ((m.length : Int) - 1 - t) ∧ OwnI wr wo.heap.size row (backTo m k t) ∧ Below wo.heap.size wo wr) (fun _ i _ => (intOf i + 1).toNat)
      case atStart => exact ⟨0, Nat.zero_le _, by go_num, OwnI.nil _ _, Below.refl _ _⟩
      case round =>
        obtain ⟨t, ht, rfl, hrow, hbi⟩ := hrel
        by_cases htl : t < m.length
        · obtain ⟨b2, o2, e2, hc2⟩ := Hx1.out.below hbi (m.length - 1 - t) (by rw [Hsq.out.2.2 k hlt]; omega)
          subst e2
          have hB2 := hbi.size
          have Hbi := Lib.hid hbi
          have Hrow := Lib.hid hrow
          clear hbi hrow
          go_wp2_with (at_builtin; refine wpList_append_own _ rfl _ _ 42 rfl wo.heap.size 3 i0 (.int .i64 0) 1 8 Tryd.underlying42 hi hz0 hz1 hz2 rfl (by decide) _ _ _ rfl (World.ownsRow.alloc Hrow.out _) ⟨wr.heap.size, 0, none⟩ 1 1 [.int .i64 (gi (gr m k) (m.length - 1 - t))] rfl rfl ?c1 ?c2 ?c3 ?c4 ?c5 ?_)
          case c1 => exact cell_one_new _ _ _
          case c2 => intro u hu; simp at hu; subst hu; rfl
          case c3 => unfold maxLen; rw [backTo_len]; omega
          case c4 => rw [backTo_len]; omega
          case c5 => simp; omega
          intro v' w1 hown' hgrow _
          obtain ⟨hr2, hb2⟩ := Hrow.out.snoc hB2 hown' hgrow
          rw [← backTo_succ] at hr2
          have Hr2 := Lib.hid hr2
          have Hb2 := Lib.hid hb2
          clear hown' hgrow hr2 hb2
          go_wp2
          go_roundw
          case rel => exact ⟨t + 1, by omega, by go_num, Hr2.out, Hbi.out.trans Hb2.out⟩
          case measure => simp [intOf]; omega
        · obtain rfl : t = m.length := by omega
          rw [backTo_mir hlt] at hrow
          obtain ⟨rr, rc, hr, _, _, _⟩ := hrow.read
          have Hrow := Lib.hid hrow
          have hB2 := hbi.size
          have Hout2 := Lib.hid (Hout.out.below hbi)
          have Hbi := Lib.hid hbi
          have hfr := Lib.hid (Hout.out.fresh hrow (Nat.le_refl _))
          clear hrow hbi
          subst hr
          go_wp2_with (at_builtin; refine wpList_append_own _ rfl _ _ 22 rfl w.heap.size 42 j0 (.slice none 0 0) 1 24 Tryd.underlying22 hj hy0 hy1 hy2 rfl (by decide) _ _ _ rfl (World.ownsRow.alloc Hout2.out.top _) ⟨wr.heap.size, 0, none⟩ 1 1 [.slice rr (gr (mir m) k).length rc] rfl rfl ?d1 ?d2 ?d3 ?d4 ?d5 ?_)
          case d1 => exact cell_one_new _ _ _
          case d2 => intro u hu; simp at hu; subst hu; rfl
          case d3 => unfold maxLen; omega
          case d4 => omega
          case d5 => simp; omega
          intro v' w1 hown' hgrow _
          have hput := Hout2.out.snoc (show w.heap.size ≤ wr.heap.size by omega) (Hrow.out.base hB) hfr.out hown' hgrow
          have Hput := Lib.hid hput
          clear hput hown' hgrow
          go_wp2
          go_roundw
          case rel => exact ⟨k + 1, _, by omega, by go_num, Hput.out.1, (Hbr.out.trans (Hbi.out.mono hB)).trans Hput.out.2⟩
          case measure => simp [intOf]; omega
    · obtain rfl : k = m.length := by omega
      go_wp2
      go_ret
      exact ⟨_, rfl, ⟨vs, by rw [mir_len]; exact hout⟩, hbr⟩

set_option maxRecDepth 100000 in
set_option maxHeartbeats 800000 in
theorem sgClockwise_any (ao : Option Addr) (c : Nat) (m : List (List Int)) (w : World) (hsq : square m) (hm : MatAt w ao m) :
    Calls Tryd.prog 85 #[.slice ao m.length c] w fun e w' => ∃ v, e = .returned v ∧ OwnM w' w.heap.size v (cw m) ∧ Below w.heap.size w w' := by
  have Hsq := Lib.hid hsq
  have Hm := Lib.hid hm
  clear hsq hm
  go_enter Tryd.func85, Tryd.ntmps85
  go_wp2_with fail
  refine (sgTurn_any ao c m w Hsq.out Hm.out).mono ?_
  rintro e w1 ⟨v, rfl, hv, hb⟩
  obtain ⟨a1, c1, rfl, _, _, hm1⟩ := hv.read
  have Hm1 := Lib.hid hm1
  have Hb := Lib.hid hb
  have HB := Lib.hid hb.size
  clear hv hm1 hb
  go_wp2_with fail
  refine (sgMirror_any a1 c1 (tr m) w1 Hsq.out.tr Hm1.out).mono ?_
  rintro e w2 ⟨v, rfl, hv, hb2⟩
  have Hv := Lib.hid (hv.base HB.out)
  have Hb2 := Lib.hid (Hb.out.trans (hb2.mono HB.out))
  clear hv hb2
  go_wp2
  go_ret
  exact ⟨v, rfl, Hv.out, Hb2.out⟩

end Go.Proofs.YtgdijjfipicodaaDoor

namespace Go.Proofs.YtgdijjfipicodaaDoor
open Go.RowKit

theorem Tryd.info_intssW : (Tryd.prog.info? 22).map (fun i => (i.zero, i.size, i.bytes)) = some (some (.slice none 0 0), 1, 24) := by kernel_rfl
/-- the table at an index -/
def gt (ts : List (List (List Int))) (i : Nat) : List (List Int) := ts.getD i []
theorem gt_lt {ts : List (List (List Int))} {i : Nat} (h : i < ts.length) : gt ts i = ts[i] := by simp [gt, List.getD, h]
theorem gt_mem {ts : List (List (List Int))} {i : Nat} (h : i < ts.length) : gt ts i ∈ ts := by rw [gt_lt h]; exact List.getElem_mem _
theorem gt_app_left {a b : List (List (List Int))} {i : Nat} (h : i < a.length) : gt (a ++ b) i = gt a i := by
  rw [gt_lt (by simp; omega), gt_lt h, List.getElem_append_left h]
theorem gt_app_right {a b : List (List (List Int))} {i : Nat} (h : i < b.length) : gt (a ++ b) (a.length + i) = gt b i := by
  rw [gt_lt (by simp; omega), gt_lt h, List.getElem_append_right (by omega)]
  simp
theorem gr_app_left {a b : List (List Int)} {i : Nat} (h : i < a.length) : gr (a ++ b) i = gr a i := by
  rw [gr_lt (by simp; omega), gr_lt h, List.getElem_append_left h]
theorem gr_app_right {a b : List (List Int)} {i : Nat} (h : i < b.length) : gr (a ++ b) (a.length + i) = gr b i := by
  rw [gr_lt (by simp; omega), gr_lt h, List.getElem_append_right (by omega)]
  simp
theorem getD_left {a b : List Value} {i : Nat} (h : i < a.length) : (a ++ b).getD i undef = a.getD i undef := by
  simp only [List.getD]; rw [List.getElem?_append_left h]
theorem getD_right {a b : List Value} {i : Nat} (h : a.length ≤ i) : (a ++ b).getD i undef = b.getD (i - a.length) undef := by
  simp only [List.getD]; rw [List.getElem?_append_right h]

theorem row_apart {w : World} {B B' n n' : Nat} {e e' : TypeId} {x v : Value} {xs ys : List Value} (h : w.ownsRow B e 1 x n xs) (k : w.ownsRow B' e' 1 v n' ys) (hne : e ≠ e') : ∀ g, x.ownBlock = some g → v.ownBlock ≠ some g := by
  intro g hg hv
  rcases h.2 with ⟨rfl, _⟩ | ⟨g1, cap1, cur1, rfl, _, h1, _⟩
  · simp [Value.ownBlock] at hg
  rcases k.2 with ⟨rfl, _⟩ | ⟨g2, cap2, cur2, rfl, _, h2, _⟩
  · simp [Value.ownBlock] at hv
  simp only [Value.ownBlock, Option.some.injEq] at hg hv
  subst hg hv
  rw [h1] at h2
  simp only [Option.some.injEq, Obj.cells.injEq] at h2
  exact hne h2.2.1
/-- what a slice of other elements than the one that grows owns is kept -/
theorem row_kept {w w1 : World} {B B' n n' : Nat} {e e' : TypeId} {x v : Value} {xs ys : List Value} (h : w.ownsRow B e 1 x n xs) (k : w.ownsRow B' e' 1 v n' ys) (hne : e ≠ e') (hg : w.grownBy w1 v.ownBlock) : w1.ownsRow B e 1 x n xs := by
  refine World.ownsRow.kept h hg ?_
  cases hb : x.ownBlock with
  | none => exact .inl rfl
  | some g => exact .inr (fun e' => row_apart h k hne g hb e'.symm)

/-- a slice of rows, each owned -/
structure OwnR (w : World) (B : Nat) (v : Value) (m : List (List Int)) (vs : List Value) : Prop where
  top : w.ownsRow B 42 1 v m.length vs
  rows : ∀ i, i < m.length → OwnI w B (vs.getD i undef) (gr m i)
theorem OwnR.below {w w' : World} {B : Nat} {v : Value} {m : List (List Int)} {vs : List Value} (h : OwnR w B v m vs) (hb : Below w.heap.size w w') : OwnR w' B v m vs := ⟨ownsRow_below h.top hb, fun i hi => (h.rows i hi).below hb⟩
theorem OwnR.base {w : World} {B B' : Nat} {v : Value} {m : List (List Int)} {vs : List Value} (h : OwnR w B v m vs) (hB : B' ≤ B) : OwnR w B' v m vs := ⟨ownsRow_base h.top hB, fun i hi => (h.rows i hi).base hB⟩
theorem OwnR.nil (w : World) (B : Nat) : OwnR w B (.slice none 0 0) [] [] := ⟨World.ownsRow_nil _ _ _ _, fun i hi => absurd hi (by simp)⟩
theorem OwnR.len {w : World} {B : Nat} {v : Value} {m : List (List Int)} {vs : List Value} (h : OwnR w B v m vs) : vs.length = m.length := by simpa using h.top.1
theorem OwnR.read {w : World} {B : Nat} {v : Value} {m : List (List Int)} {vs : List Value} (h : OwnR w B v m vs) : ∃ ao c, v = .slice ao m.length c ∧ m.length ≤ c ∧ c ≤ 9223372036854775807 ∧ MatAt w ao m := by
  obtain ⟨ao, c, hv, h1, h2, hc⟩ := ownsRow_read h.top
  refine ⟨ao, c, hv, h1, h2, fun i hi => ?_⟩
  obtain ⟨b, o, e, hcell⟩ := hc i hi
  obtain ⟨r, c', hr, h3, h4, hx⟩ := (h.rows i hi).read
  exact ⟨b, o, r, c', e, by rw [hcell, hr], hx, h3, h4⟩
theorem OwnP.toR {w : World} {B : Nat} {v : Value} {m : List (List Int)} {vs : List Value} (h : OwnP w B v m.length m m.length vs) : OwnR w B v m vs := ⟨h.top, h.rows⟩
theorem OwnR.kept {w w1 : World} {B B' n' : Nat} {x v : Value} {m : List (List Int)} {vs ys : List Value} {e' : TypeId} (h : OwnR w B x m vs) (k : w.ownsRow B' e' 1 v n' ys) (h1 : 42 ≠ e') (h2 : 3 ≠ e') (hg : w.grownBy w1 v.ownBlock) : OwnR w1 B x m vs :=
  ⟨row_kept h.top k h1 hg, fun i hi => row_kept (h.rows i hi) k h2 hg⟩
/-- rows put behind -/
theorem OwnR.join {w w1 : World} {B : Nat} {v v' : Value} {m k : List (List Int)} {vs us : List Value} (h : OwnR w B v m vs) (hl : us.length = k.length) (hk : ∀ i, i < k.length → OwnI w B (us.getD i undef) (gr k i))
    (h1 : w1.ownsRow B 42 1 v' (m.length + k.length) (vs ++ us)) (hg : w.grownBy w1 v.ownBlock) : OwnR w1 B v' (m ++ k) (vs ++ us) := by
  refine ⟨by rw [List.length_append]; exact h1, fun i hi => ?_⟩
  rw [List.length_append] at hi
  have hvl := h.len
  by_cases hi2 : i < m.length
  · rw [getD_left (by omega), gr_app_left hi2]
    exact row_kept (h.rows i hi2) h.top (by decide) hg
  · obtain ⟨j, rfl⟩ : ∃ j, i = m.length + j := ⟨i - m.length, by omega⟩
    rw [getD_right (by omega), hvl, show m.length + j - m.length = j from by omega, gr_app_right (by omega)]
    exact row_kept (hk j (by omega)) h.top (by decide) hg
theorem OwnR.cells {w : World} {B n c : Nat} {ad : Addr} {m : List (List Int)} {vs : List Value} (h : OwnR w B (.slice (some ad) n c) m vs) : (∀ j u, vs[j]? = some u → w.cell? (ad.add j) = some u) ∧ (∀ u ∈ vs, u.oneCell' = true) := by
  have hl := h.len
  obtain ⟨ao, c', e, _, _, hc⟩ := ownsRow_read h.top
  cases e
  refine ⟨fun j u hj => ?_, fun u hu => ?_⟩
  · have hjl : j < vs.length := (List.getElem?_eq_some_iff.1 hj).1
    obtain ⟨b3, o3, e3, hc3⟩ := hc j (by omega)
    cases e3
    rw [Addr.add_lit, hc3, List.getD, hj]
    rfl
  · obtain ⟨i, hi, rfl⟩ := List.mem_iff_getElem.1 hu
    have := (h.rows i (by omega)).read
    rw [List.getD, List.getElem?_eq_getElem hi] at this
    obtain ⟨_, _, e, _⟩ := this
    rw [show vs[i] = (some vs[i]).getD undef from rfl, e]
    rfl

/-- a list of such tables -/
structure OwnRL (w : World) (B : Nat) (v : Value) (ts : List (List (List Int))) (vs : List Value) : Prop where
  top : w.ownsRow B 22 1 v ts.length vs
  each : ∀ i, i < ts.length → ∃ us, OwnR w B (vs.getD i undef) (gt ts i) us
theorem OwnRL.below {w w' : World} {B : Nat} {v : Value} {ts : List (List (List Int))} {vs : List Value} (h : OwnRL w B v ts vs) (hb : Below w.heap.size w w') : OwnRL w' B v ts vs := ⟨ownsRow_below h.top hb, fun i hi => ⟨_, (h.each i hi).choose_spec.below hb⟩⟩
theorem OwnRL.base {w : World} {B B' : Nat} {v : Value} {ts : List (List (List Int))} {vs : List Value} (h : OwnRL w B v ts vs) (hB : B' ≤ B) : OwnRL w B' v ts vs := ⟨ownsRow_base h.top hB, fun i hi => ⟨_, (h.each i hi).choose_spec.base hB⟩⟩
theorem OwnRL.nil (w : World) (B : Nat) : OwnRL w B (.slice none 0 0) [] [] := ⟨World.ownsRow_nil _ _ _ _, fun i hi => absurd hi (by simp)⟩
theorem OwnRL.len {w : World} {B : Nat} {v : Value} {ts : List (List (List Int))} {vs : List Value} (h : OwnRL w B v ts vs) : vs.length = ts.length := by simpa using h.top.1
theorem OwnRL.head {w : World} {B : Nat} {v : Value} {ts : List (List (List Int))} {vs : List Value} (h : OwnRL w B v ts vs) : ∃ ao c, v = .slice ao ts.length c ∧ ts.length ≤ c ∧ c ≤ 9223372036854775807 := by
  obtain ⟨ao, c, e, h1, h2, _⟩ := ownsRow_read h.top
  exact ⟨ao, c, e, h1, h2⟩
/-- tables put behind -/
theorem OwnRL.join {w w1 : World} {B : Nat} {v v' : Value} {ts ks : List (List (List Int))} {vs us : List Value} (h : OwnRL w B v ts vs) (hl : us.length = ks.length) (hk : ∀ i, i < ks.length → ∃ xs, OwnR w B (us.getD i undef) (gt ks i) xs)
    (h1 : w1.ownsRow B 22 1 v' (ts.length + ks.length) (vs ++ us)) (hg : w.grownBy w1 v.ownBlock) : OwnRL w1 B v' (ts ++ ks) (vs ++ us) := by
  refine ⟨by rw [List.length_append]; exact h1, fun i hi => ?_⟩
  rw [List.length_append] at hi
  have hvl := h.len
  by_cases hi2 : i < ts.length
  · rw [getD_left (by omega), gt_app_left hi2]
    obtain ⟨xs, hx⟩ := h.each i hi2
    exact ⟨xs, hx.kept h.top (by decide) (by decide) hg⟩
  · obtain ⟨j, rfl⟩ : ∃ j, i = ts.length + j := ⟨i - ts.length, by omega⟩
    rw [getD_right (by omega), hvl, show ts.length + j - ts.length = j from by omega, gt_app_right (by omega)]
    obtain ⟨xs, hx⟩ := hk j (by omega)
    exact ⟨xs, hx.kept h.top (by decide) (by decide) hg⟩
theorem OwnRL.cells {w : World} {B n c : Nat} {ad : Addr} {ts : List (List (List Int))} {vs : List Value} (h : OwnRL w B (.slice (some ad) n c) ts vs) : (∀ j u, vs[j]? = some u → w.cell? (ad.add j) = some u) ∧ (∀ u ∈ vs, u.oneCell' = true) := by
  have hl := h.len
  obtain ⟨ao, c', e, _, _, hc⟩ := ownsRow_read h.top
  cases e
  refine ⟨fun j u hj => ?_, fun u hu => ?_⟩
  · have hjl : j < vs.length := (List.getElem?_eq_some_iff.1 hj).1
    obtain ⟨b3, o3, e3, hc3⟩ := hc j (by omega)
    cases e3
    rw [Addr.add_lit, hc3, List.getD, hj]
    rfl
  · obtain ⟨i, hi, rfl⟩ := List.mem_iff_getElem.1 hu
    obtain ⟨_, hx⟩ := h.each i (by omega)
    have := hx.read
    rw [List.getD, List.getElem?_eq_getElem hi] at this
    obtain ⟨_, _, e, _⟩ := this
    rw [show vs[i] = (some vs[i]).getD undef from rfl, e]
    rfl
/-- reading one of the tables -/
theorem OwnRL.at {w : World} {B n c : Nat} {ao : Option Addr} {ts : List (List (List Int))} {vs : List Value} (h : OwnRL w B (.slice ao n c) ts vs) {i : Nat} (hi : i < ts.length) :
    ∃ b o r d, ao = some ⟨b, o, none⟩ ∧ w.cell? ⟨b, o + i, none⟩ = some (.slice r (gt ts i).length d) ∧ MatAt w r (gt ts i) ∧ (gt ts i).length ≤ d ∧ d ≤ 9223372036854775807 := by
  obtain ⟨ao', c', e, _, _, hc⟩ := ownsRow_read h.top
  cases e
  obtain ⟨b, o, e, hcell⟩ := hc i hi
  obtain ⟨us, hx⟩ := h.each i hi
  obtain ⟨r, d, hr, h3, h4, hm⟩ := hx.read
  exact ⟨b, o, r, d, e, by rw [hcell, hr], hm, h3, h4⟩
end Go.Proofs.YtgdijjfipicodaaDoor

namespace Go.Proofs.YtgdijjfipicodaaDoor
open Go.RowKit

def okX (sums row : List Int) (sum x : Int) : Prop := (0 ≤ sum + x ∧ sum + x ≤ 1) ∧ 0 ≤ gi sums row.length + x ∧ gi sums row.length + x ≤ 1
instance (sums row : List Int) (sum x : Int) : Decidable (okX sums row sum x) := by unfold okX; infer_instance
/-- the rows that go on a row: d numbers more -/
def rowsW (sums : List Int) : Nat → List Int → Int → List (List Int)
  | 0, row, sum => if sum = 1 then [row] else []
  | d + 1, row, sum => (List.range 3).flatMap fun k : Nat => if okX sums row sum ((k : Int) - 1) then rowsW sums d (row ++ [(k : Int) - 1]) (sum + ((k : Int) - 1)) else []
/-- .. up to the k-th number -/
def rowsP (sums : List Int) (d : Nat) (row : List Int) (sum : Int) (k : Nat) : List (List Int) :=
  (List.range k).flatMap fun k : Nat => if okX sums row sum ((k : Int) - 1) then rowsW sums d (row ++ [(k : Int) - 1]) (sum + ((k : Int) - 1)) else []
theorem rowsP_zero (sums : List Int) (d : Nat) (row : List Int) (sum : Int) : rowsP sums d row sum 0 = [] := rfl
theorem rowsP_yes {sums : List Int} {d : Nat} {row : List Int} {sum : Int} {k : Nat} (h : okX sums row sum ((k : Int) - 1)) : rowsP sums d row sum (k + 1) = rowsP sums d row sum k ++ rowsW sums d (row ++ [(k : Int) - 1]) (sum + ((k : Int) - 1)) := by
  unfold rowsP
  rw [List.range_succ, List.flatMap_append]
  simp [h]
theorem rowsP_no {sums : List Int} {d : Nat} {row : List Int} {sum : Int} {k : Nat} (h : ¬okX sums row sum ((k : Int) - 1)) : rowsP sums d row sum (k + 1) = rowsP sums d row sum k := by
  unfold rowsP
  rw [List.range_succ, List.flatMap_append]
  simp [h]
theorem rowsP_end (sums : List Int) (d : Nat) (row : List Int) (sum : Int) : rowsP sums d row sum 3 = rowsW sums (d + 1) row sum := rfl
theorem flatL_len {α β : Type} (g : α → List β) (B : Nat) : ∀ l : List α, (∀ x, x ∈ l → (g x).length ≤ B) → (l.flatMap g).length ≤ l.length * B
  | [], _ => by simp
  | a :: l, h => by
    have h1 := flatL_len g B l (fun x hx => h x (by simp [hx]))
    have h2 := h a (by simp)
    rw [List.flatMap_cons, List.length_append, List.length_cons, Nat.add_mul]
    omega
theorem rowsW_le (sums : List Int) : ∀ (d : Nat) (row : List Int) (sum : Int), (rowsW sums d row sum).length ≤ 3 ^ d
  | 0, row, sum => by unfold rowsW; split <;> simp
  | d + 1, row, sum => by
    rw [Nat.pow_succ, Nat.mul_comm]
    refine Nat.le_trans (flatL_len _ (3 ^ d) _ fun k _ => ?_) (by simp)
    split
    · exact rowsW_le sums d _ _
    · simp
theorem rowsP_le (sums : List Int) (d : Nat) (row : List Int) (sum : Int) {k : Nat} (hk : k ≤ 3) : (rowsP sums d row sum k).length ≤ 3 ^ (d + 1) := by
  rw [Nat.pow_succ, Nat.mul_comm]
  refine Nat.le_trans (flatL_len _ (3 ^ d) _ fun k _ => ?_) (by rw [List.length_range]; exact Nat.mul_le_mul_right _ hk)
  split
  · exact rowsW_le sums d _ _
  · simp
theorem rowsW_mem (sums : List Int) : ∀ (d : Nat) (row : List Int) (sum : Int) (r : List Int), r ∈ rowsW sums d row sum →
    r.length = row.length + d ∧ (∀ j, j < row.length → gi r j = gi row j) ∧ ∀ j, row.length ≤ j → j < row.length + d → -1 ≤ gi r j ∧ gi r j ≤ 1 ∧ 0 ≤ gi sums j + gi r j ∧ gi sums j + gi r j ≤ 1
  | 0, row, sum, r, h => by
    unfold rowsW at h
    split at h
    · simp only [List.mem_singleton] at h
      subst h
      exact ⟨rfl, fun _ _ => rfl, fun j h1 h2 => absurd h1 (by omega)⟩
    · simp at h
  | d + 1, row, sum, r, h => by
    unfold rowsW at h
    rw [List.mem_flatMap] at h
    obtain ⟨k, hk, h⟩ := h
    have hk3 : k < 3 := by simpa using hk
    split at h
    · next hok =>
      obtain ⟨h1, h2, h3⟩ := rowsW_mem sums d _ _ r h
      rw [List.length_append] at h1 h2 h3
      simp only [List.length_cons, List.length_nil] at h1 h2 h3
      have hlast : gi r row.length = (k : Int) - 1 := by
        rw [h2 row.length (by omega)]
        simp [gi, List.getD]
      refine ⟨by omega, fun j hj => ?_, fun j hj1 hj2 => ?_⟩
      · rw [h2 j (by omega)]
        simp [gi, List.getD, List.getElem?_append_left hj]
      · by_cases e : j = row.length
        · subst e
          rw [hlast]
          have := hok.2
          exact ⟨by omega, by omega, this.1, this.2⟩
        · exact h3 j (by omega) (by omega)
    · simp at h

def addL (sums row : List Int) : List Int := (List.range sums.length).map fun j => gi sums j + gi row j
theorem addL_len (sums row : List Int) : (addL sums row).length = sums.length := by simp [addL]
theorem gi_addL {sums row : List Int} {j : Nat} (h : j < sums.length) : gi (addL sums row) j = gi sums j + gi row j := gi_row h
/-- the first t sums added to -/
def addP (sums row : List Int) (t : Nat) : List Int := (List.range sums.length).map fun j => gi sums j + (if j < t then gi row j else 0)
theorem addP_len (sums row : List Int) (t : Nat) : (addP sums row t).length = sums.length := by simp [addP]
theorem gi_addP {sums row : List Int} {t j : Nat} (h : j < sums.length) : gi (addP sums row t) j = gi sums j + (if j < t then gi row j else 0) := gi_row h
theorem addP_zero (sums row : List Int) : addP sums row 0 = sums := ext_gi (addP_len _ _ _) fun j hj => by
  rw [addP_len] at hj
  rw [gi_addP hj, if_neg (by omega)]
  omega
theorem addP_end (sums row : List Int) : addP sums row sums.length = addL sums row := ext_gi (by rw [addP_len, addL_len]) fun j hj => by
  rw [addP_len] at hj
  rw [gi_addP hj, gi_addL hj, if_pos hj]
theorem addP_set {sums row : List Int} {t : Nat} (ht : t < sums.length) : (addP sums row t).set t (gi sums t + gi row t) = addP sums row (t + 1) := by
  refine ext_gi (by rw [List.length_set, addP_len, addP_len]) fun j hj => ?_
  rw [List.length_set, addP_len] at hj
  rw [gi_set (by rw [addP_len]; exact ht), gi_addP (t := t) hj, gi_addP (t := t + 1) hj]
  by_cases e : j = t
  · subst e; rw [if_pos rfl, if_pos (by omega)]
  · rw [if_neg e]
    have : (j < t + 1) = (j < t) := propext (by omega)
    simp only [this]

/-- sums of columns that are 0 or 1 -/
def bits01 (sums : List Int) : Prop := ∀ j, j < sums.length → 0 ≤ gi sums j ∧ gi sums j ≤ 1
theorem bits01.add {sums : List Int} {r : List Int} (hr : r ∈ rowsW sums sums.length [] 0) : bits01 (addL sums r) := fun j hj => by
  rw [addL_len] at hj
  obtain ⟨_, _, h3⟩ := rowsW_mem sums sums.length [] 0 r hr
  have := h3 j (by simp) (by simpa using hj)
  rw [gi_addL hj]
  exact ⟨this.2.2.1, this.2.2.2⟩
def allOne (sums : List Int) : Bool := sums.all fun x => decide (x = 1)
theorem allOne_iff {sums : List Int} : allOne sums = true ↔ ∀ j, j < sums.length → gi sums j = 1 := by
  unfold allOne
  rw [List.all_eq_true]
  constructor
  · intro h j hj
    exact of_decide_eq_true (h _ (gi_mem hj))
  · intro h x hx
    obtain ⟨i, hi, rfl⟩ := List.mem_iff_getElem.1 hx
    have := h i hi
    rw [gi_lt hi] at this
    exact decide_eq_true this
/-- the matrices that go on some rows: d rows more -/
def goW : Nat → List (List Int) → List Int → List (List (List Int))
  | 0, rows, sums => if allOne sums = true then [rows] else []
  | d + 1, rows, sums => (rowsW sums sums.length [] 0).flatMap fun row => goW d (rows ++ [row]) (addL sums row)
/-- .. up to the k-th row -/
def goP (d : Nat) (rows : List (List Int)) (sums : List Int) (k : Nat) : List (List (List Int)) := ((rowsW sums sums.length [] 0).take k).flatMap fun row => goW d (rows ++ [row]) (addL sums row)
theorem goP_zero (d : Nat) (rows : List (List Int)) (sums : List Int) : goP d rows sums 0 = [] := by simp [goP]
theorem goP_step {d : Nat} {rows : List (List Int)} {sums : List Int} {k : Nat} (h : k < (rowsW sums sums.length [] 0).length) :
    goP d rows sums (k + 1) = goP d rows sums k ++ goW d (rows ++ [gr (rowsW sums sums.length [] 0) k]) (addL sums (gr (rowsW sums sums.length [] 0) k)) := by
  unfold goP
  rw [List.take_add_one, List.flatMap_append, List.getElem?_eq_getElem h, gr_lt h]
  simp
theorem goP_end (d : Nat) (rows : List (List Int)) (sums : List Int) : goP d rows sums (rowsW sums sums.length [] 0).length = goW (d + 1) rows sums := by
  unfold goP
  rw [List.take_length]
  rfl
theorem goW_le : ∀ (d : Nat) (rows : List (List Int)) (sums : List Int), sums.length ≤ 5 → (goW d rows sums).length ≤ 243 ^ d
  | 0, rows, sums, _ => by unfold goW; split <;> simp
  | d + 1, rows, sums, h => by
    unfold goW
    rw [Nat.pow_succ, Nat.mul_comm]
    refine Nat.le_trans (flatL_len _ (243 ^ d) _ fun r _ => goW_le d _ _ (by rw [addL_len]; exact h)) (Nat.mul_le_mul_right _ ?_)
    refine Nat.le_trans (rowsW_le _ _ _ _) (Nat.le_trans (Nat.pow_le_pow_right (by omega) h) (by decide))
theorem goP_le (d : Nat) (rows : List (List Int)) (sums : List Int) (k : Nat) (h : sums.length ≤ 5) : (goP d rows sums k).length ≤ 243 ^ (d + 1) := by
  unfold goP
  rw [Nat.pow_succ, Nat.mul_comm]
  refine Nat.le_trans (flatL_len _ (243 ^ d) _ fun r _ => goW_le d _ _ (by rw [addL_len]; exact h)) (Nat.mul_le_mul_right _ ?_)
  rw [List.length_take]
  refine Nat.le_trans (Nat.min_le_right _ _) (Nat.le_trans (rowsW_le _ _ _ _) (Nat.le_trans (Nat.pow_le_pow_right (by omega) h) (by decide)))
/-- all sign matrices with n rows, in order -/
def allW (n : Nat) : List (List (List Int)) := goW n [] (List.replicate n 0)
instance (xs : List Int) : Decidable (lineOk xs) := by unfold lineOk; infer_instance
instance (m : List (List Int)) : Decidable (rowsOk m) := by unfold rowsOk; infer_instance
instance (m : List (List Int)) : Decidable (square m) := by unfold square; infer_instance
instance (m : List (List Int)) : Decidable (good m) := by unfold good; infer_instance
theorem allW_good : ∀ n, n < 5 → ∀ m, m ∈ allW n → n = 0 ∨ (m.length = n ∧ good m) := by decide +kernel
theorem allW_len : ∀ n, n < 5 → (allW n).length ≤ 42 := by decide +kernel
end Go.Proofs.YtgdijjfipicodaaDoor

