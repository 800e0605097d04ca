/- Contracts: the least and the greatest sign matrix, by the model and by the program; duals. Condition: the numbers fit an int. -/
import Derived.Test.YtopamhcnbocfoaaHtM
namespace Go.Proofs.Ytopamhcnbocfoaa
open Go.RowKit

/-- ones where row and column have the same index -/
def idm (n : Nat) : List (List Int) := tab n n fun i j => if i = j then 1 else 0
theorem idm_len (n : Nat) : (idm n).length = n := tab_len _ _ _
theorem idm_square {n : Nat} (h1 : 1 ≤ n) (h6 : n ≤ 6) : square (idm n) := ⟨by rw [idm_len]; exact h1, by rw [idm_len]; exact h6, fun i hi => by rw [idm_len] at hi ⊢; exact tab_row hi⟩
def inSide (n : Int) : Prop := 1 ≤ n ∧ n ≤ 6
theorem idm_small {n : Int} (h : inSide n) : Small (idm n.toNat) := by
  have h1 := h.1
  have h2 := h.2
  exact (idm_square (by omega) (by omega)).small
theorem mir_idm_small {n : Int} (h : inSide n) : Small (mir (idm n.toNat)) := by
  have h1 := h.1
  have h2 := h.2
  exact (idm_square (by omega) (by omega)).mir.small

set_option maxRecDepth 100000 in
set_option maxHeartbeats 800000 in
theorem implLeast_any (n : Nat) (w : World) (hn0 : 1 ≤ n) (hn : n ≤ 6) :
    Calls Try.prog 73 #[.int .i64 (n : Int)] w fun e w' => ∃ v, e = .returned v ∧ OwnM w' w.heap.size v (idm n) ∧ Below w.heap.size w w' := by
  have hmx : n ≤ 9223372036854775807 := by omega
  go_enter Try.func73, Try.ntmps73
  go_wp2_with fail
  refine (newGrid_any n w (by omega)).mono ?_
  rintro e w1 ⟨vs, rfl, hp, hb⟩
  obtain ⟨og, hog⟩ : ∃ og, og = w.heap.size := ⟨_, rfl⟩
  obtain ⟨oc, hoc⟩ : ∃ oc, oc = n := ⟨_, rfl⟩
  have hoc1 : n ≤ oc := by omega
  have hoc2 : oc ≤ 9223372036854775807 := by omega
  have hp' : OwnP w1 w.heap.size (.slice (some ⟨og, 0, none⟩) n oc) n (tab n n fun _ _ => 0) n vs := by rw [hog, hoc]; exact hp
  have e0 : (Value.slice (some ⟨w.heap.size, 0, none⟩) n n) = .slice (some ⟨og, 0, none⟩) n oc := by rw [hog, hoc]
  rw [e0]
  have Hv := Lib.hid hp'
  have Hb := Lib.hid hb
  clear hp hb hp' e0 hog hoc
  go_wp2
  go_loopw [9] (fun i wr => ∃ (k : Nat) (f : Nat → Nat → Int), k ≤ n ∧ i = .int .i64 k ∧ OwnP wr w.heap.size (.slice (some ⟨og, 0, none⟩) n oc) n (tab n n f) n vs ∧
      (∀ a b, a < n → b < n → f a b = if a = b ∧ a < k then 1 else 0) ∧ Below w.heap.size w wr) (fun i _ => n - (intOf i).toNat)
  case atStart => exact ⟨0, _, Nat.zero_le _, rfl, Hv.out, fun a b _ _ => by rw [if_neg (by omega)], Hb.out⟩
  case round =>
    obtain ⟨k, f, hk, rfl, hown, heq, hbr⟩ := hrel
    clear Hv Hb
    by_cases hlt : k < n
    · have hd := hown.cellAt k hlt
      obtain ⟨g, cap, hvs, hd2, hf2, hg, hst⟩ := hown.at2 hlt hlt
      rw [hvs] at hd
      have Hst := Lib.hid (hst 1)
      have Heq := Lib.hid heq
      have Hbs := Lib.hid (hbr.setCell (p := ⟨g, k, none⟩) hg (.int .i64 1))
      clear hown heq hbr hvs hst hg
      go_wp2
      go_roundw
      case rel =>
        refine ⟨k + 1, _, by omega, by go_num, Hst.out, fun a b ha hb => ?_, Hbs.out⟩
        by_cases e : a = k ∧ b = k
        · rw [if_pos e, if_pos (by omega)]
        · rw [if_neg e, Heq.out a b ha hb]
          by_cases e2 : a = b ∧ a < k
          · rw [if_pos e2, if_pos (by omega)]
          · rw [if_neg e2, if_neg (by omega)]
      case measure => simp [intOf]; omega
    · obtain rfl : k = n := by omega
      have e : idm k = tab k k f := eq_tab (idm_len k) (fun i hi => tab_row hi) (fun i j hi hj => by
        unfold idm
        rw [gi_tab hi hj, heq i j hi hj]
        by_cases e2 : i = j
        · rw [if_pos e2, if_pos ⟨e2, hi⟩]
        · rw [if_neg e2, if_neg (fun h => e2 h.1)])
      have hfin : OwnM wr w.heap.size (.slice (some ⟨og, 0, none⟩) k oc) (idm k) := ⟨vs, by rw [idm_len, e]; exact hown⟩
      have Hfin := Lib.hid hfin
      have Hbr := Lib.hid hbr
      clear hown heq hbr e hfin
      go_wp2
      go_ret
      exact ⟨_, rfl, Hfin.out, Hbr.out⟩

set_option maxRecDepth 100000 in
set_option maxHeartbeats 800000 in
theorem heLeast_any (n : Nat) (w : World) (hn0 : 1 ≤ n) (hn : n ≤ 6) :
    Calls Try.prog 72 #[.int .i64 (n : Int)] w fun e w' => ∃ v, e = .returned v ∧ OwnM w' w.heap.size v (idm n) ∧ Below w.heap.size w w' := by
  have hmx : n ≤ 9223372036854775807 := by omega
  go_enter Try.func72, Try.ntmps72
  go_wp2_with fail
  refine (sgZero_any n w (by omega)).mono ?_
  rintro e w1 ⟨v, rfl, hv, hb⟩
  obtain ⟨oa, oc, vs, rfl, hp, hoc1, hoc2⟩ := hv.open
  rw [tab_len] at hp hoc1 ⊢
  obtain ⟨og, rfl, _⟩ : ∃ g, oa = some ⟨g, 0, none⟩ ∧ w.heap.size ≤ g := by
    rcases hp.top.2 with ⟨h0, h1⟩ | ⟨g, cap, cur, hv2, hg2, _⟩
    · exact absurd h1 (by omega)
    · simp only [Value.slice.injEq] at hv2
      exact ⟨g, hv2.1, hg2⟩
  have Hv := Lib.hid hp
  have Hb := Lib.hid hb
  clear hv hp hb
  go_wp2
  go_loopw [9] (fun i wr => ∃ (k : Nat) (f : Nat → Nat → Int), k ≤ n ∧ i = .int .i64 k ∧ OwnP wr w.heap.size (.slice (some ⟨og, 0, none⟩) n oc) n (tab n n f) n vs ∧
      (∀ a b, a < n → b < n → f a b = if a = b ∧ a < k then 1 else 0) ∧ Below w.heap.size w wr) (fun i _ => n - (intOf i).toNat)
  case atStart => exact ⟨0, _, Nat.zero_le _, rfl, Hv.out, fun a b _ _ => by rw [if_neg (by omega)], Hb.out⟩
  case round =>
    obtain ⟨k, f, hk, rfl, hown, heq, hbr⟩ := hrel
    clear Hv Hb
    by_cases hlt : k < n
    · have hd := hown.cellAt k hlt
      obtain ⟨g, cap, hvs, hd2, hf2, hg, hst⟩ := hown.at2 hlt hlt
      rw [hvs] at hd
      have Hst := Lib.hid (hst 1)
      have Heq := Lib.hid heq
      have Hbs := Lib.hid (hbr.setCell (p := ⟨g, k, none⟩) hg (.int .i64 1))
      clear hown heq hbr hvs hst hg
      go_wp2
      go_roundw
      case rel =>
        refine ⟨k + 1, _, by omega, by go_num, Hst.out, fun a b ha hb => ?_, Hbs.out⟩
        by_cases e : a = k ∧ b = k
        · rw [if_pos e, if_pos (by omega)]
        · rw [if_neg e, Heq.out a b ha hb]
          by_cases e2 : a = b ∧ a < k
          · rw [if_pos e2, if_pos (by omega)]
          · rw [if_neg e2, if_neg (by omega)]
      case measure => simp [intOf]; omega
    · obtain rfl : k = n := by omega
      have e : idm k = tab k k f := eq_tab (idm_len k) (fun i hi => tab_row hi) (fun i j hi hj => by
        unfold idm
        rw [gi_tab hi hj, heq i j hi hj]
        by_cases e2 : i = j
        · rw [if_pos e2, if_pos ⟨e2, hi⟩]
        · rw [if_neg e2, if_neg (fun h => e2 h.1)])
      have hfin : OwnM wr w.heap.size (.slice (some ⟨og, 0, none⟩) k oc) (idm k) := ⟨vs, by rw [idm_len, e]; exact hown⟩
      have Hfin := Lib.hid hfin
      have Hbr := Lib.hid hbr
      clear hown heq hbr e hfin
      go_wp2
      go_ret
      exact ⟨_, rfl, Hfin.out, Hbr.out⟩

set_option maxRecDepth 100000 in
set_option maxHeartbeats 800000 in
theorem specLeastSigns_any (n : Int) (w : World) (hn : -9223372036854775808 ≤ n ∧ n ≤ 9223372036854775807) :
    Calls Try.prog 34 #[.int .i64 n] w fun e w' => MRes (inSide n) (idm n.toNat) w' w.heap.size e ∧ Below w.heap.size w w' := by
  obtain ⟨hn1, hn2⟩ := hn
  have hside : Calls Try.prog 71 #[.int .i64 n] w fun e w' => Ans (inSide n) e ∧ w = w' := by
    go_enter Try.func71, Try.ntmps71
    go_wp2_with fail
    refine (l1In_any n 1 6 w).mono ?_
    rintro e w2 ⟨⟨b, rfl, hb⟩, rfl⟩
    go_wp2
    go_ret
    exact ⟨⟨b, rfl, hb⟩, rfl⟩
  have Hside := Lib.hid hside
  clear hside
  go_enter Try.func34, Try.ntmps34
  go_wp2_with fail
  refine Hside.out.mono ?_
  rintro e w1 ⟨ha, rfl⟩
  by_cases hs : inSide n
  · have Hs := Lib.hid hs
    clear hs
    obtain rfl := ha.is Hs.out
    clear ha
    obtain ⟨k, hk⟩ : ∃ k : Nat, n = k := Int.eq_ofNat_of_zero_le (by have := Hs.out.1; omega)
    subst hk
    have E0 := Lib.hid (Int.toNat_natCast k)
    have hk0 : 1 ≤ k := by have := Hs.out.1; omega
    have hk6 : k ≤ 6 := by have := Hs.out.2; omega
    clear hn1 hn2
    go_wp2_with fail
    refine (heLeast_any k w hk0 hk6).mono ?_
    rintro e w2 ⟨v, rfl, hv, hb⟩
    have Hv := Lib.hid hv
    have Hb2 := Lib.hid hb
    clear hv hb
    go_wp2
    go_ret2
    exact ⟨MRes.yes Hs.out (by rw [E0.out]; exact Hv.out), Hb2.out⟩
  · have Hs := Lib.hid hs
    clear hs
    obtain rfl := ha.isnt Hs.out
    clear ha
    go_wp2
    go_ret2
    exact ⟨MRes.no Hs.out, Below.refl _ _⟩

set_option maxRecDepth 100000 in
set_option maxHeartbeats 800000 in
theorem implLeastSigns_any (n : Int) (w : World) (hn : -9223372036854775808 ≤ n ∧ n ≤ 9223372036854775807) :
    Calls Try.prog 35 #[.int .i64 n] w fun e w' => MRes (inSide n) (idm n.toNat) w' w.heap.size e ∧ Below w.heap.size w w' := by
  obtain ⟨hn1, hn2⟩ := hn
  by_cases h1 : n < 1
  · have hd : decide (n < (1 : Int)) = true := by simpa using h1
    have Hs := Lib.hid (show ¬ inSide n from fun h => by have := h.1; omega)
    go_enter Try.func35, Try.ntmps35
    go_wp2
    go_ret2
    exact ⟨MRes.no Hs.out, Below.refl _ _⟩
  · have hd : decide (n < (1 : Int)) = false := by simpa using h1
    by_cases h6 : 6 < n
    · have hd6 : decide ((6 : Int) < n) = true := by simpa using h6
      have Hs := Lib.hid (show ¬ inSide n from fun h => by have := h.2; omega)
      go_enter Try.func35, Try.ntmps35
      go_wp2
      go_ret2
      exact ⟨MRes.no Hs.out, Below.refl _ _⟩
    · have hd6 : decide ((6 : Int) < n) = false := by simpa using h6
      have Hs := Lib.hid (show inSide n from ⟨by omega, by omega⟩)
      obtain ⟨k, hk⟩ : ∃ k : Nat, n = k := Int.eq_ofNat_of_zero_le (by omega)
      subst hk
      have e0 : ((k : Int)).toNat = k := Int.toNat_natCast k
      rw [e0]
      have hk0 : 1 ≤ k := by omega
      have hk6 : k ≤ 6 := by omega
      clear hn1 hn2 e0 h1 h6
      go_enter Try.func35, Try.ntmps35
      go_wp2_with fail
      refine (implLeast_any k w hk0 hk6).mono ?_
      rintro e w2 ⟨v, rfl, hv, hb⟩
      have Hv := Lib.hid hv
      have Hb2 := Lib.hid hb
      clear hv hb
      go_wp2
      go_ret2
      exact ⟨MRes.yes Hs.out Hv.out, Hb2.out⟩

set_option maxRecDepth 100000 in
set_option maxHeartbeats 800000 in
theorem specGreatestSigns_any (n : Int) (w : World) (hn : -9223372036854775808 ≤ n ∧ n ≤ 9223372036854775807) :
    Calls Try.prog 36 #[.int .i64 n] w fun e w' => MRes (inSide n) (mir (idm n.toNat)) w' w.heap.size e ∧ Below w.heap.size w w' := by
  obtain ⟨hn1, hn2⟩ := hn
  have hside : Calls Try.prog 71 #[.int .i64 n] w fun e w' => Ans (inSide n) e ∧ w = w' := by
    go_enter Try.func71, Try.ntmps71
    go_wp2_with fail
    refine (l1In_any n 1 6 w).mono ?_
    rintro e w2 ⟨⟨b, rfl, hb⟩, rfl⟩
    go_wp2
    go_ret
    exact ⟨⟨b, rfl, hb⟩, rfl⟩
  have Hside := Lib.hid hside
  clear hside
  go_enter Try.func36, Try.ntmps36
  go_wp2_with fail
  refine Hside.out.mono ?_
  rintro e w1 ⟨ha, rfl⟩
  by_cases hs : inSide n
  · have Hs := Lib.hid hs
    clear hs
    obtain rfl := ha.is Hs.out
    clear ha
    obtain ⟨k, hk⟩ : ∃ k : Nat, n = k := Int.eq_ofNat_of_zero_le (by have := Hs.out.1; omega)
    subst hk
    have E0 := Lib.hid (Int.toNat_natCast k)
    have hk0 : 1 ≤ k := by have := Hs.out.1; omega
    have hk6 : k ≤ 6 := by have := Hs.out.2; omega
    clear hn1 hn2
    go_wp2_with fail
    refine (heLeast_any k w hk0 hk6).mono ?_
    rintro e w2 ⟨v, rfl, hv, hb⟩
    obtain ⟨a1, c1, rfl, _, _, hm1⟩ := hv.read
    have HM := Lib.hid hm1
    have Hb := Lib.hid hb
    have HB := Lib.hid hb.size
    clear hv hm1 hb
    have hh := sgMirror_any a1 c1 (idm k) w2 (idm_square hk0 hk6) HM.out
    have HH := Lib.hid hh
    clear hh
    go_wp2_with fail
    refine HH.out.mono ?_
    rintro e w3 ⟨v, rfl, hv, hb2⟩
    have Hv := Lib.hid (hv.base HB.out)
    have Hb2 := Lib.hid (Hb.out.trans (hb2.mono HB.out))
    clear hv hb2
    go_wp2
    go_ret2
    exact ⟨MRes.yes Hs.out (by rw [E0.out]; exact Hv.out), Hb2.out⟩
  · have Hs := Lib.hid hs
    clear hs
    obtain rfl := ha.isnt Hs.out
    clear ha
    go_wp2
    go_ret2
    exact ⟨MRes.no Hs.out, Below.refl _ _⟩

set_option maxRecDepth 100000 in
set_option maxHeartbeats 800000 in
theorem implGreatestSigns_any (n : Int) (w : World) (hn : -9223372036854775808 ≤ n ∧ n ≤ 9223372036854775807) :
    Calls Try.prog 37 #[.int .i64 n] w fun e w' => MRes (inSide n) (mir (idm n.toNat)) w' w.heap.size e ∧ Below w.heap.size w w' := by
  obtain ⟨hn1, hn2⟩ := hn
  by_cases h1 : n < 1
  · have hd : decide (n < (1 : Int)) = true := by simpa using h1
    have Hs := Lib.hid (show ¬ inSide n from fun h => by have := h.1; omega)
    go_enter Try.func37, Try.ntmps37
    go_wp2
    go_ret2
    exact ⟨MRes.no Hs.out, Below.refl _ _⟩
  · have hd : decide (n < (1 : Int)) = false := by simpa using h1
    by_cases h6 : 6 < n
    · have hd6 : decide ((6 : Int) < n) = true := by simpa using h6
      have Hs := Lib.hid (show ¬ inSide n from fun h => by have := h.2; omega)
      go_enter Try.func37, Try.ntmps37
      go_wp2
      go_ret2
      exact ⟨MRes.no Hs.out, Below.refl _ _⟩
    · have hd6 : decide ((6 : Int) < n) = false := by simpa using h6
      have Hs := Lib.hid (show inSide n from ⟨by omega, by omega⟩)
      obtain ⟨k, hk⟩ : ∃ k : Nat, n = k := Int.eq_ofNat_of_zero_le (by omega)
      subst hk
      have e0 : ((k : Int)).toNat = k := Int.toNat_natCast k
      rw [e0]
      have hk0 : 1 ≤ k := by omega
      have hk6 : k ≤ 6 := by omega
      clear hn1 hn2 e0 h1 h6
      go_enter Try.func37, Try.ntmps37
      go_wp2_with fail
      refine (implLeast_any k w hk0 hk6).mono ?_
      rintro e w2 ⟨v, rfl, hv, hb⟩
      obtain ⟨a1, c1, rfl, _, _, hm1⟩ := hv.read
      have HM := Lib.hid hm1
      have Hb := Lib.hid hb
      have HB := Lib.hid hb.size
      clear hv hm1 hb
      have hh := mirrored_any a1 c1 (idm k) w2 (idm_square hk0 hk6) HM.out
      have HH := Lib.hid hh
      clear hh
      go_wp2_with fail
      refine HH.out.mono ?_
      rintro e w3 ⟨v, rfl, hv, hb2⟩
      have Hv := Lib.hid (hv.base HB.out)
      have Hb2 := Lib.hid (Hb.out.trans (hb2.mono HB.out))
      clear hv hb2
      go_wp2
      go_ret2
      exact ⟨MRes.yes Hs.out Hv.out, Hb2.out⟩

set_option maxRecDepth 100000 in
set_option maxHeartbeats 800000 in
theorem specDualOf_any (ao : Option Addr) (c : Nat) (m : List (List Int)) (w : World) (hs : Small m) (hm : MatAt w ao m) :
    Calls Try.prog 46 #[.slice ao m.length c] w fun e w' => MRes (good m) (mir m) w' w.heap.size e ∧ Below w.heap.size w w' := by
  have Hs := Lib.hid hs
  have Hm := Lib.hid hm
  clear hs hm
  go_enter Try.func46, Try.ntmps46
  go_wp2_with fail
  refine (sgGood_any ao c m w Hs.out Hm.out).mono ?_
  rintro e w1 ⟨ha, hb⟩
  have Hb := Lib.hid hb
  have HB := Lib.hid hb.size
  clear hb
  by_cases hg : good m
  · have Hg := Lib.hid hg
    clear hg
    obtain rfl := ha.is Hg.out
    clear ha
    go_wp2_with fail
    refine (sgMirror_any ao c m w1 Hg.out.1 (Hm.out.below Hb.out)).mono ?_
    rintro e w2 ⟨v, rfl, hv, hb2⟩
    have Hv := Lib.hid (hv.base HB.out)
    have Hb2 := Lib.hid (Hb.out.trans (hb2.mono HB.out))
    clear hv hb2
    go_wp2
    go_ret2
    exact ⟨MRes.yes Hg.out Hv.out, Hb2.out⟩
  · have Hg := Lib.hid hg
    clear hg
    obtain rfl := ha.isnt Hg.out
    clear ha
    go_wp2
    go_ret2
    exact ⟨MRes.no Hg.out, Hb.out⟩

set_option maxRecDepth 100000 in
set_option maxHeartbeats 800000 in
theorem implDualOf_any (ao : Option Addr) (c : Nat) (m : List (List Int)) (w : World) (hs : Small m) (hwf : WfM m) (hm : MatAt w ao m) :
    Calls Try.prog 47 #[.slice ao m.length c] w fun e w' => MRes (good m) (mir m) w' w.heap.size e ∧ Below w.heap.size w w' := by
  have Hs := Lib.hid hs
  have Hm := Lib.hid hm
  have Hwf := Lib.hid hwf
  clear hs hm hwf
  go_enter Try.func47, Try.ntmps47
  go_wp2_with fail
  refine (implMirrorMatrix_any ao c m w Hs.out Hwf.out Hm.out).mono ?_
  rintro e w1 ⟨⟨v, b, r, rfl, hv, hr⟩, hb⟩
  have Hv := Lib.hid hv
  have Hr := Lib.hid hr
  have Hb := Lib.hid hb
  clear hv hr hb
  go_wp2
  go_ret2
  exact ⟨⟨v, b, r, rfl, Hv.out, Hr.out⟩, Hb.out⟩
end Go.Proofs.Ytopamhcnbocfoaa
