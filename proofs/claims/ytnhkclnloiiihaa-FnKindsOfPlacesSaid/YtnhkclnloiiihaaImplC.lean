/- Contracts of the program: a table turned and mirrored, and what is got by one of these functions handed over. Condition: the numbers fit an int. -/
import Derived.Test.YtnhkclnloiiihaaImplB
namespace Go.Proofs.Ytnhkclnloiiihaa
open Go.RowKit

/-- the rows backwards -/
def mir (m : List (List Int)) : List (List Int) := tab m.length m.length fun i j => gi (gr m i) (m.length - 1 - j)
theorem mir_len (m : List (List Int)) : (mir m).length = m.length := tab_len _ _ _
theorem mir_row {m : List (List Int)} {i : Nat} (h : i < m.length) : (gr (mir m) i).length = m.length := tab_row h
theorem gi_mir {m : List (List Int)} {i j : Nat} (hi : i < m.length) (hj : j < m.length) : gi (gr (mir m) i) j = gi (gr m i) (m.length - 1 - j) := gi_tab hi hj
theorem square.mir {m : List (List Int)} (h : square m) : square (mir m) := ⟨by rw [mir_len]; exact h.1, by rw [mir_len]; exact h.2.1, fun i hi => by rw [mir_len] at hi ⊢; exact mir_row hi⟩
/-- turned clockwise -/
def cw (m : List (List Int)) : List (List Int) := mir (tr m)
theorem cw_len (m : List (List Int)) : (cw m).length = m.length := by unfold cw; rw [mir_len, tr_len]
theorem cw_row {m : List (List Int)} {i : Nat} (h : i < m.length) : (gr (cw m) i).length = m.length := by unfold cw; rw [mir_row (by rw [tr_len]; exact h), tr_len]
theorem gi_cw {m : List (List Int)} {i j : Nat} (hi : i < m.length) (hj : j < m.length) : gi (gr (cw m) i) j = gi (gr m (m.length - 1 - j)) i := by
  unfold cw
  rw [gi_mir (by rw [tr_len]; exact hi) (by rw [tr_len]; exact hj), tr_len, gi_tr hi (by omega)]
theorem square.cw {m : List (List Int)} (h : square m) : square (cw m) := h.tr.mir

set_option maxRecDepth 100000 in
set_option maxHeartbeats 800000 in
theorem turned_any (ao : Option Addr) (c : Nat) (m : List (List Int)) (w : World) (hsq : square m) (hm : MatAt w ao m) :
    Calls Try.prog 142 #[.slice ao m.length c] w fun e w' => ∃ v, e = .returned v ∧ OwnM w' w.heap.size v (cw m) ∧ Below w.heap.size w w' := by
  have hn := hsq.2.1
  have hmx : m.length ≤ 9223372036854775807 := by omega
  have Hsq := Lib.hid hsq
  have Hm := Lib.hid hm
  clear hsq hm
  go_enter Try.func142, Try.ntmps142
  go_wp2_with fail
  refine (newGrid_any m.length w (by omega)).mono ?_
  rintro e w1 ⟨vs, rfl, hv, hb⟩
  have Hv := Lib.hid hv
  have Hb := Lib.hid hb
  clear hv hb
  go_wp2
  go_loopw [13] (fun i wr => ∃ (k : Nat) (f : Nat → Nat → Int), k ≤ m.length ∧ i = .int .i64 k ∧ OwnP wr w.heap.size (.slice (some ⟨w.heap.size, 0, none⟩) m.length m.length) m.length (tab m.length m.length f) m.length vs ∧
      (∀ a b, a < k → b < m.length → f (b) (m.length - 1 - a) = gi (gr m a) b) ∧ Below w.heap.size w wr) (fun i _ => m.length - (intOf i).toNat)
  case atStart => exact ⟨0, _, Nat.zero_le _, rfl, Hv.out, fun a b ha _ => absurd ha (by omega), Hb.out⟩
  case round =>
    obtain ⟨k, f, hk, rfl, hown, heq, hbr⟩ := hrel
    obtain ⟨wo, rfl⟩ : ∃ wo : World, wo = wr := ⟨_, rfl⟩
    clear Hv Hb
    by_cases hlt : k < m.length
    · obtain ⟨b1, o1, r1, d1, e0, hc0, hx1, _, _⟩ := Hm.out k hlt
      have hrl : (gr m k).length = m.length := Hsq.out.2.2 k hlt
      rw [hrl] at hc0
      have hc1 := cell_below hc0 hbr
      subst e0
      have Hrow := Lib.hid hx1
      have Hown := Lib.hid hown
      have Heq := Lib.hid heq
      have Hbr := Lib.hid hbr
      clear hown heq hbr hx1 hrl hc0
      go_wp2
      go_loopw [20] (fun i wr => ∃ (t : Nat) (f : Nat → Nat → Int), t ≤ m.length ∧ i = .int .i64 t ∧ OwnP wr w.heap.size (.slice (some ⟨w.heap.size, 0, none⟩) m.length m.length) m.length (tab m.length m.length f) m.length vs ∧
          (∀ a b, a < k → b < m.length → f (b) (m.length - 1 - a) = gi (gr m a) b) ∧ (∀ b, b < t → f (b) (m.length - 1 - k) = gi (gr m k) b) ∧ Below w.heap.size w wr) (fun i _ => m.length - (intOf i).toNat)
      case atStart => exact ⟨0, f, Nat.zero_le _, rfl, Hown.out, Heq.out, fun a ha => absurd ha (by omega), Hbr.out⟩
      case round =>
        obtain ⟨t, f, ht, rfl, hown, heq, hcol, hbi⟩ := hrel
        clear Hown Heq
        by_cases htl : t < m.length
        · obtain ⟨b2, o2, e2, hc2⟩ := Hrow.out.below hbi t (by rw [Hsq.out.2.2 k hlt]; exact htl)
          have hd := hown.cellAt (t) (by omega)
          obtain ⟨g, cap, hvs, hd2, hf2, hg, hst⟩ := hown.at2 (i := t) (j := m.length - 1 - k) (by omega) (by omega)
          rw [hvs] at hd
          have Hst := Lib.hid (hst (gi (gr m k) t))
          have Heq := Lib.hid heq
          have Hcol := Lib.hid hcol
          have Hbs := Lib.hid (hbi.setCell (p := ⟨g, m.length - 1 - k, none⟩) hg (.int .i64 (gi (gr m k) t)))
          subst e2
          clear hown heq hcol hbi hvs hst hg
          go_wp2
          go_roundw
          case rel =>
            refine ⟨t + 1, _, by omega, by go_num, Hst.out, fun a b ha hb => ?_, fun b hb => ?_, Hbs.out⟩
            · rw [if_neg (fun h => by omega)]
              exact Heq.out a b ha hb
            · by_cases e : b = t
              · subst e; rw [if_pos ⟨rfl, rfl⟩]
              · rw [if_neg (fun h => by omega)]
                exact Hcol.out b (by omega)
          case measure => simp [intOf]; omega
        · obtain rfl : t = m.length := by omega
          have Hown := Lib.hid hown
          have Heq := Lib.hid heq
          have Hcol := Lib.hid hcol
          have Hbi := Lib.hid hbi
          clear hown heq hcol hbi
          go_wp2
          go_roundw
          case rel =>
            refine ⟨k + 1, f, by omega, by go_num, Hown.out, fun a b ha hb => ?_, Hbi.out⟩
            by_cases e : a = k
            · subst e; exact Hcol.out b hb
            · exact Heq.out a b (by omega) hb
          case measure => simp [intOf]; omega
    · obtain rfl : k = m.length := by omega
      go_wp2
      go_ret
      exact ⟨_, rfl, ⟨vs, by
        rw [cw_len]
        have e : cw m = tab m.length m.length f := (eq_tab (by rw [cw_len]) (fun i hi => cw_row hi) (fun i j hi hj => by rw [gi_cw hi hj]; have := heq (m.length - 1 - j) i (by omega) hi; rw [show m.length - 1 - (m.length - 1 - j) = j from by omega] at this; exact this.symm))
        rw [e]
        exact hown⟩, hbr⟩

set_option maxRecDepth 100000 in
set_option maxHeartbeats 800000 in
theorem mirrored_any (ao : Option Addr) (c : Nat) (m : List (List Int)) (w : World) (hsq : square m) (hm : MatAt w ao m) :
    Calls Try.prog 144 #[.slice ao m.length c] w fun e w' => ∃ v, e = .returned v ∧ OwnM w' w.heap.size v (mir m) ∧ Below w.heap.size w w' := by
  have hn := hsq.2.1
  have hmx : m.length ≤ 9223372036854775807 := by omega
  have Hsq := Lib.hid hsq
  have Hm := Lib.hid hm
  clear hsq hm
  go_enter Try.func144, Try.ntmps144
  go_wp2_with fail
  refine (newGrid_any m.length w (by omega)).mono ?_
  rintro e w1 ⟨vs, rfl, hv, hb⟩
  have Hv := Lib.hid hv
  have Hb := Lib.hid hb
  clear hv hb
  go_wp2
  go_loopw [13] (fun i wr => ∃ (k : Nat) (f : Nat → Nat → Int), k ≤ m.length ∧ i = .int .i64 k ∧ OwnP wr w.heap.size (.slice (some ⟨w.heap.size, 0, none⟩) m.length m.length) m.length (tab m.length m.length f) m.length vs ∧
      (∀ a b, a < k → b < m.length → f (a) (m.length - 1 - b) = gi (gr m a) b) ∧ Below w.heap.size w wr) (fun i _ => m.length - (intOf i).toNat)
  case atStart => exact ⟨0, _, Nat.zero_le _, rfl, Hv.out, fun a b ha _ => absurd ha (by omega), Hb.out⟩
  case round =>
    obtain ⟨k, f, hk, rfl, hown, heq, hbr⟩ := hrel
    obtain ⟨wo, rfl⟩ : ∃ wo : World, wo = wr := ⟨_, rfl⟩
    clear Hv Hb
    by_cases hlt : k < m.length
    · obtain ⟨b1, o1, r1, d1, e0, hc0, hx1, _, _⟩ := Hm.out k hlt
      have hrl : (gr m k).length = m.length := Hsq.out.2.2 k hlt
      rw [hrl] at hc0
      have hc1 := cell_below hc0 hbr
      subst e0
      have Hrow := Lib.hid hx1
      have Hown := Lib.hid hown
      have Heq := Lib.hid heq
      have Hbr := Lib.hid hbr
      clear hown heq hbr hx1 hrl hc0
      go_wp2
      go_loopw [20] (fun i wr => ∃ (t : Nat) (f : Nat → Nat → Int), t ≤ m.length ∧ i = .int .i64 t ∧ OwnP wr w.heap.size (.slice (some ⟨w.heap.size, 0, none⟩) m.length m.length) m.length (tab m.length m.length f) m.length vs ∧
          (∀ a b, a < k → b < m.length → f (a) (m.length - 1 - b) = gi (gr m a) b) ∧ (∀ b, b < t → f (k) (m.length - 1 - b) = gi (gr m k) b) ∧ Below w.heap.size w wr) (fun i _ => m.length - (intOf i).toNat)
      case atStart => exact ⟨0, f, Nat.zero_le _, rfl, Hown.out, Heq.out, fun a ha => absurd ha (by omega), Hbr.out⟩
      case round =>
        obtain ⟨t, f, ht, rfl, hown, heq, hcol, hbi⟩ := hrel
        clear Hown Heq
        by_cases htl : t < m.length
        · obtain ⟨b2, o2, e2, hc2⟩ := Hrow.out.below hbi t (by rw [Hsq.out.2.2 k hlt]; exact htl)
          have hd := hown.cellAt (k) (by omega)
          obtain ⟨g, cap, hvs, hd2, hf2, hg, hst⟩ := hown.at2 (i := k) (j := m.length - 1 - t) (by omega) (by omega)
          rw [hvs] at hd
          have Hst := Lib.hid (hst (gi (gr m k) t))
          have Heq := Lib.hid heq
          have Hcol := Lib.hid hcol
          have Hbs := Lib.hid (hbi.setCell (p := ⟨g, m.length - 1 - t, none⟩) hg (.int .i64 (gi (gr m k) t)))
          subst e2
          clear hown heq hcol hbi hvs hst hg
          go_wp2
          go_roundw
          case rel =>
            refine ⟨t + 1, _, by omega, by go_num, Hst.out, fun a b ha hb => ?_, fun b hb => ?_, Hbs.out⟩
            · rw [if_neg (fun h => by omega)]
              exact Heq.out a b ha hb
            · by_cases e : b = t
              · subst e; rw [if_pos ⟨rfl, rfl⟩]
              · rw [if_neg (fun h => by omega)]
                exact Hcol.out b (by omega)
          case measure => simp [intOf]; omega
        · obtain rfl : t = m.length := by omega
          have Hown := Lib.hid hown
          have Heq := Lib.hid heq
          have Hcol := Lib.hid hcol
          have Hbi := Lib.hid hbi
          clear hown heq hcol hbi
          go_wp2
          go_roundw
          case rel =>
            refine ⟨k + 1, f, by omega, by go_num, Hown.out, fun a b ha hb => ?_, Hbi.out⟩
            by_cases e : a = k
            · subst e; exact Hcol.out b hb
            · exact Heq.out a b (by omega) hb
          case measure => simp [intOf]; omega
    · obtain rfl : k = m.length := by omega
      go_wp2
      go_ret
      exact ⟨_, rfl, ⟨vs, by
        rw [mir_len]
        have e : mir m = tab m.length m.length f := (eq_tab (by rw [mir_len]) (fun i hi => mir_row hi) (fun i j hi hj => by rw [gi_mir hi hj]; have := heq i (m.length - 1 - j) hi (by omega); rw [show m.length - 1 - (m.length - 1 - j) = j from by omega] at this; exact this.symm))
        rw [e]
        exact hown⟩, hbr⟩

/-- the answer of a function that hands back a table and whether there is one -/
def MRes (p : Prop) (r : List (List Int)) (w : World) (B : Nat) (e : Ending) : Prop :=
  ∃ v b r', e = .returned (.tuple #[v, .bool b]) ∧ OwnM w B v r' ∧ ((p ∧ b = true ∧ r' = r) ∨ (¬p ∧ b = false ∧ r' = []))
theorem MRes.yes {p : Prop} {r : List (List Int)} {w : World} {B : Nat} {v : Value} (h : p) (ho : OwnM w B v r) : MRes p r w B (.returned (.tuple #[v, .bool true])) := ⟨v, true, r, rfl, ho, .inl ⟨h, rfl, rfl⟩⟩
theorem MRes.no {p : Prop} {r : List (List Int)} {w : World} {B : Nat} (h : ¬p) : MRes p r w B (.returned (.tuple #[.slice none 0 0, .bool false])) := ⟨_, false, [], rfl, OwnM.nil _ _, .inr ⟨h, rfl, rfl⟩⟩


set_option maxRecDepth 100000 in
set_option maxHeartbeats 800000 in
theorem imageOf_turned (ao : Option Addr) (c : Nat) (m : List (List Int)) (w : World) (hs : Small m) (hwf : WfM m) (hm : MatAt w ao m) :
    Calls Try.prog 141 #[.slice ao m.length c, .func (.func 142) #[] #[]] w fun e w' => MRes (good m) (cw m) w' w.heap.size e ∧ Below w.heap.size w w' := by
  have Hs := Lib.hid hs
  have Hm := Lib.hid hm
  have Hwf := Lib.hid hwf
  clear hs hm hwf
  go_enter Try.func141, Try.ntmps141
  go_wp2_with fail
  refine (implIsSign_any ao c m w Hs.out Hwf.out Hm.out).mono ?_
  rintro e w1 ⟨ha, hb⟩
  have Hb := Lib.hid hb
  have HB := Lib.hid hb.size
  clear hb
  by_cases hg : good m
  · have Hg := Lib.hid hg
    clear hg
    obtain rfl := ha.is Hg.out
    clear ha
    go_wp2_with fail
    refine (turned_any ao c m w1 Hg.out.1 (Hm.out.below Hb.out)).mono ?_
    rintro e w2 ⟨v, rfl, hv, hb2⟩
    have Hv := Lib.hid (hv.base HB.out)
    have Hb2 := Lib.hid (Hb.out.trans (hb2.mono HB.out))
    clear hv hb2
    go_wp2
    go_ret2
    exact ⟨MRes.yes Hg.out Hv.out, Hb2.out⟩
  · have Hg := Lib.hid hg
    clear hg
    obtain rfl := ha.isnt Hg.out
    clear ha
    go_wp2
    go_ret2
    exact ⟨MRes.no Hg.out, Hb.out⟩

set_option maxRecDepth 100000 in
set_option maxHeartbeats 800000 in
theorem implTurnMatrix_any (ao : Option Addr) (c : Nat) (m : List (List Int)) (w : World) (hs : Small m) (hwf : WfM m) (hm : MatAt w ao m) :
    Calls Try.prog 54 #[.slice ao m.length c] w fun e w' => MRes (good m) (cw m) w' w.heap.size e ∧ Below w.heap.size w w' := by
  have Hs := Lib.hid hs
  have Hm := Lib.hid hm
  have Hwf := Lib.hid hwf
  clear hs hm hwf
  go_enter Try.func54, Try.ntmps54
  go_wp2_with fail
  refine (imageOf_turned ao c m w Hs.out Hwf.out Hm.out).mono ?_
  rintro e w1 ⟨⟨v, b, r, rfl, hv⟩, hb⟩
  have Hv := Lib.hid hv
  have Hb := Lib.hid hb
  clear hv hb
  go_wp2
  go_ret2
  exact ⟨⟨v, b, r, rfl, Hv.out⟩, Hb.out⟩

set_option maxRecDepth 100000 in
set_option maxHeartbeats 800000 in
theorem imageOf_mirrored (ao : Option Addr) (c : Nat) (m : List (List Int)) (w : World) (hs : Small m) (hwf : WfM m) (hm : MatAt w ao m) :
    Calls Try.prog 141 #[.slice ao m.length c, .func (.func 144) #[] #[]] w fun e w' => MRes (good m) (mir m) w' w.heap.size e ∧ Below w.heap.size w w' := by
  have Hs := Lib.hid hs
  have Hm := Lib.hid hm
  have Hwf := Lib.hid hwf
  clear hs hm hwf
  go_enter Try.func141, Try.ntmps141
  go_wp2_with fail
  refine (implIsSign_any ao c m w Hs.out Hwf.out Hm.out).mono ?_
  rintro e w1 ⟨ha, hb⟩
  have Hb := Lib.hid hb
  have HB := Lib.hid hb.size
  clear hb
  by_cases hg : good m
  · have Hg := Lib.hid hg
    clear hg
    obtain rfl := ha.is Hg.out
    clear ha
    go_wp2_with fail
    refine (mirrored_any ao c m w1 Hg.out.1 (Hm.out.below Hb.out)).mono ?_
    rintro e w2 ⟨v, rfl, hv, hb2⟩
    have Hv := Lib.hid (hv.base HB.out)
    have Hb2 := Lib.hid (Hb.out.trans (hb2.mono HB.out))
    clear hv hb2
    go_wp2
    go_ret2
    exact ⟨MRes.yes Hg.out Hv.out, Hb2.out⟩
  · have Hg := Lib.hid hg
    clear hg
    obtain rfl := ha.isnt Hg.out
    clear ha
    go_wp2
    go_ret2
    exact ⟨MRes.no Hg.out, Hb.out⟩

set_option maxRecDepth 100000 in
set_option maxHeartbeats 800000 in
theorem implMirrorMatrix_any (ao : Option Addr) (c : Nat) (m : List (List Int)) (w : World) (hs : Small m) (hwf : WfM m) (hm : MatAt w ao m) :
    Calls Try.prog 56 #[.slice ao m.length c] w fun e w' => MRes (good m) (mir m) w' w.heap.size e ∧ Below w.heap.size w w' := by
  have Hs := Lib.hid hs
  have Hm := Lib.hid hm
  have Hwf := Lib.hid hwf
  clear hs hm hwf
  go_enter Try.func56, Try.ntmps56
  go_wp2_with fail
  refine (imageOf_mirrored ao c m w Hs.out Hwf.out Hm.out).mono ?_
  rintro e w1 ⟨⟨v, b, r, rfl, hv⟩, hb⟩
  have Hv := Lib.hid hv
  have Hb := Lib.hid hb
  clear hv hb
  go_wp2
  go_ret2
  exact ⟨⟨v, b, r, rfl, Hv.out⟩, Hb.out⟩

set_option maxRecDepth 100000 in
set_option maxHeartbeats 800000 in
theorem imageOf_transposed (ao : Option Addr) (c : Nat) (m : List (List Int)) (w : World) (hs : Small m) (hwf : WfM m) (hm : MatAt w ao m) :
    Calls Try.prog 141 #[.slice ao m.length c, .func (.func 128) #[] #[]] w fun e w' => MRes (good m) (tr m) w' w.heap.size e ∧ Below w.heap.size w w' := by
  have Hs := Lib.hid hs
  have Hm := Lib.hid hm
  have Hwf := Lib.hid hwf
  clear hs hm hwf
  go_enter Try.func141, Try.ntmps141
  go_wp2_with fail
  refine (implIsSign_any ao c m w Hs.out Hwf.out Hm.out).mono ?_
  rintro e w1 ⟨ha, hb⟩
  have Hb := Lib.hid hb
  have HB := Lib.hid hb.size
  clear hb
  by_cases hg : good m
  · have Hg := Lib.hid hg
    clear hg
    obtain rfl := ha.is Hg.out
    clear ha
    go_wp2_with fail
    refine (transposed_any ao c m w1 Hg.out.1 (Hm.out.below Hb.out)).mono ?_
    rintro e w2 ⟨v, rfl, hv, hb2⟩
    have Hv := Lib.hid (hv.base HB.out)
    have Hb2 := Lib.hid (Hb.out.trans (hb2.mono HB.out))
    clear hv hb2
    go_wp2
    go_ret2
    exact ⟨MRes.yes Hg.out Hv.out, Hb2.out⟩
  · have Hg := Lib.hid hg
    clear hg
    obtain rfl := ha.isnt Hg.out
    clear ha
    go_wp2
    go_ret2
    exact ⟨MRes.no Hg.out, Hb.out⟩

set_option maxRecDepth 100000 in
set_option maxHeartbeats 800000 in
theorem implTransposeMatrix_any (ao : Option Addr) (c : Nat) (m : List (List Int)) (w : World) (hs : Small m) (hwf : WfM m) (hm : MatAt w ao m) :
    Calls Try.prog 58 #[.slice ao m.length c] w fun e w' => MRes (good m) (tr m) w' w.heap.size e ∧ Below w.heap.size w w' := by
  have Hs := Lib.hid hs
  have Hm := Lib.hid hm
  have Hwf := Lib.hid hwf
  clear hs hm hwf
  go_enter Try.func58, Try.ntmps58
  go_wp2_with fail
  refine (imageOf_transposed ao c m w Hs.out Hwf.out Hm.out).mono ?_
  rintro e w1 ⟨⟨v, b, r, rfl, hv⟩, hb⟩
  have Hv := Lib.hid hv
  have Hb := Lib.hid hb
  clear hv hb
  go_wp2
  go_ret2
  exact ⟨⟨v, b, r, rfl, Hv.out⟩, Hb.out⟩
end Go.Proofs.Ytnhkclnloiiihaa
