/- Contracts: the model's table of zeros; corner sums. -/
import Derived.Test.YtnhkclnloiiihaaBlock
import Derived.StillTailTactics
namespace Go.Proofs.Ytnhkclnloiiihaa
open Go.RowKit

set_option maxRecDepth 100000 in
set_option maxHeartbeats 800000 in
theorem sgZero_any (n : Nat) (w : World) (hn : n ≤ 1048576) :
    Calls Try.prog 136 #[.int .i64 (n : Int)] w fun e w' => ∃ v, e = .returned v ∧ OwnM w' w.heap.size v (tab n n fun _ _ => 0) ∧ Below w.heap.size w w' := by
  obtain ⟨i0, hi, hz0, hz1, hz2⟩ := info_parts Try.info_int
  obtain ⟨j0, hj, hy0, hy1, hy2⟩ := info_parts Try.info_ints
  have hmx : n ≤ 9223372036854775807 := by omega
  go_enter Try.func136, Try.ntmps136
  go_wp2
  go_loopw [3, 4] (fun out i wr => ∃ (k : Nat) (vs : List Value), k ≤ n ∧ i = .int .i64 k ∧ OwnP wr w.heap.size out k (tab n n fun _ _ => 0) k vs ∧ Below w.heap.size w wr) (fun _ i _ => n - (intOf i).toNat)
  case atStart => exact ⟨0, [], Nat.zero_le _, rfl, ⟨World.ownsRow_nil _ _ _ _, fun i hi => absurd hi (by omega), fun i j _ hj => absurd hj (by omega)⟩, Below.refl _ _⟩
  case round =>
    obtain ⟨k, vs, hk, rfl, hout, hbr⟩ := hrel
    by_cases hlt : k < n
    · have hB := hbr.size
      have Hout := Lib.hid hout
      have Hbr := Lib.hid hbr
      clear hout hbr
      go_wp2_with (at_make; refine wpList_make_full _ rfl _ _ 24 rfl wr.heap.size 3 i0 (.int .i64 0) 1 Try.underlying24 hi hz0 hz1 _ _ _ _ n rfl rfl rfl rfl ?d1 ?d2 ?d3 ?_)
      case d1 => rw [hz2]; omega
      case d2 => unfold maxLen; omega
      case d3 => simp
      intro w2 hown2 hg2
      have hb2 : Below wr.heap.size wr w2 := (Below.refl _ _).grown hg2 (Nat.le_refl _) (fun _ h => by cases h)
      have hrow := OwnI.made hown2
      have hB2 := hb2.size
      have e1 : gr (tab n n fun _ _ => (0 : Int)) k = List.replicate n 0 := zero_row hlt
      have Hout2 := Lib.hid (Hout.out.below hb2)
      have hrow2 : OwnI w2 w.heap.size (.slice (some ⟨wr.heap.size, 0, none⟩) n n) (gr (tab n n fun _ _ => (0 : Int)) k) := by rw [e1]; exact hrow.base hB
      have Hrow := Lib.hid hrow2
      have hfr := Lib.hid (Hout.out.fresh hrow (Nat.le_refl _))
      have Hb2 := Lib.hid (Hbr.out.trans (hb2.mono hB))
      clear hown2 hg2 hb2 hrow e1 hrow2
      go_wp2_with (at_builtin; refine wpList_append_own _ rfl _ _ 40 rfl w.heap.size 24 j0 (.slice none 0 0) 1 24 Try.underlying40 hj hy0 hy1 hy2 rfl (by decide) _ _ _ rfl (World.ownsRow.alloc Hout2.out.top _) ⟨w2.heap.size, 0, none⟩ 1 1 [.slice (some ⟨wr.heap.size, 0, none⟩) n n] rfl rfl ?e1 ?e2 ?e3 ?e4 ?e5 ?_)
      case e1 => exact cell_one_new _ _ _
      case e2 => intro u hu; simp at hu; subst hu; rfl
      case e3 => unfold maxLen; omega
      case e4 => omega
      case e5 => simp; omega
      intro v' w3 hown' hgrow _
      have hput := Hout2.out.snoc (show w.heap.size ≤ w2.heap.size by omega) Hrow.out hfr.out hown' hgrow
      have Hput := Lib.hid hput
      clear hput hown' hgrow
      go_wp2
      go_roundw
      case rel => exact ⟨k + 1, _, by omega, by go_num, Hput.out.1, Hb2.out.trans Hput.out.2⟩
      case measure => simp [intOf]; omega
    · obtain rfl : k = n := by omega
      go_wp2
      go_ret
      exact ⟨_, rfl, ⟨vs, by rw [tab_len]; exact hout⟩, hbr⟩

/-- the sum of the numbers in the first a rows and b columns -/
def S2 (m : List (List Int)) (a b : Nat) : Int := sumF (fun i => sumF (fun j => gi (gr m i) j) b) a
/-- corner sums -/
def cs (m : List (List Int)) : List (List Int) := tab m.length m.length fun i j => S2 m (i + 1) (j + 1)
theorem cs_len (m : List (List Int)) : (cs m).length = m.length := tab_len _ _ _
theorem S2_succ (m : List (List Int)) (a b : Nat) : S2 m (a + 1) b = S2 m a b + sumF (fun j => gi (gr m a) j) b := rfl
theorem bsum_take {m : List (List Int)} {a b : Nat} (ha : a ≤ m.length) : bsum (m.take a) b = S2 m a b := by
  unfold bsum S2
  rw [show (m.take a).length = a from by rw [List.length_take]; omega]
  exact sumF_congr fun i hi => by rw [gr_take hi]

theorem good.tame {m : List (List Int)} (h : good m) {cols : Nat} (hc : cols ≤ m.length) : Tame m cols := by
  have hn := h.1.2.1
  have h1 := h.1.1
  refine ⟨hn, by omega, fun i hi => ?_⟩
  have hl := h.1.2.2 i hi
  refine ⟨by omega, by omega, by omega, fun j hj => good_entry h hi (by omega)⟩
theorem Tame.take {m : List (List Int)} {cols : Nat} (h : Tame m cols) (k : Nat) : Tame (m.take k) cols := by
  refine ⟨by rw [List.length_take]; have := h.1; omega, h.2.1, fun i hi => ?_⟩
  rw [List.length_take] at hi
  rw [gr_take (by omega)]
  exact h.2.2 i (by omega)
theorem Tame.drop {m : List (List Int)} {cols : Nat} (h : Tame m cols) (k : Nat) : Tame (m.drop k) cols := by
  refine ⟨by rw [List.length_drop]; have := h.1; omega, h.2.1, fun i hi => ?_⟩
  rw [List.length_drop] at hi
  rw [gr_drop]
  exact h.2.2 (k + i) (by omega)

theorem S2_bound {m : List (List Int)} (h : good m) {a b : Nat} (ha : a ≤ m.length) (hb : b ≤ m.length) : -36 ≤ S2 m a b ∧ S2 m a b ≤ 36 := block_bound (h.tame hb) ha

set_option maxRecDepth 100000 in
set_option maxHeartbeats 1600000 in
theorem implCornerSums_any (ao : Option Addr) (c : Nat) (m : List (List Int)) (w : World) (hs : Small m) (hwf : WfM m) (hm : MatAt w ao m) (hc : m.length ≤ c) (_hc2 : c ≤ 9223372036854775807) :
    Calls Try.prog 36 #[.slice ao m.length c] w fun e w' => MRes (good m) (cs m) w' w.heap.size e ∧ Below w.heap.size w w' := by
  have Hs := Lib.hid hs
  have Hm := Lib.hid hm
  have Hwf := Lib.hid hwf
  clear hs hm hwf
  go_enter Try.func36, Try.ntmps36
  go_wp2_with fail
  refine (implIsSign_any ao c m w Hs.out Hwf.out Hm.out).mono ?_
  rintro e w1 ⟨ha, hb⟩
  have Hb := Lib.hid hb
  have hB := hb.size
  clear hb
  by_cases hg : good m
  · have Hg := Lib.hid hg
    have hn := hg.1.2.1
    have hmx : m.length ≤ 9223372036854775807 := by omega
    clear hg
    obtain rfl := ha.is Hg.out
    clear ha
    go_wp2_with fail
    refine (newGrid_any m.length w1 (by omega)).mono ?_
    rintro e w2 ⟨vs, rfl, hv, hb2⟩
    have Hv := Lib.hid hv
    have Hb2 := Lib.hid hb2
    clear hv hb2
    go_wp2
    go_loopw [16] (fun i wr => ∃ (k : Nat) (f : Nat → Nat → Int), k ≤ m.length ∧ i = .int .i64 k ∧ OwnP wr w1.heap.size (.slice (some ⟨w1.heap.size, 0, none⟩) m.length m.length) m.length (tab m.length m.length f) m.length vs ∧
        (∀ a b, a < k → b < m.length → f a b = S2 m (a + 1) (b + 1)) ∧ Below w1.heap.size w1 wr) (fun i _ => m.length - (intOf i).toNat)
    case atStart => exact ⟨0, _, Nat.zero_le _, rfl, Hv.out, fun a b ha _ => absurd ha (by omega), Hb2.out⟩
    case round =>
      obtain ⟨k, f, hk, rfl, hown, heq, hbr⟩ := hrel
      obtain ⟨wo, rfl⟩ : ∃ wo : World, wo = wr := ⟨_, rfl⟩
      clear Hv Hb2
      by_cases hlt : k < m.length
      · obtain ⟨g0, cap0, hvs, _, _, _, _⟩ := hown.at2 (i := k) (j := 0) hlt (by omega)
        have hd := hown.cellAt k hlt
        rw [hvs] at hd
        have Hvs := Lib.hid hvs
        have Hown := Lib.hid hown
        have Heq := Lib.hid heq
        have Hbr := Lib.hid hbr
        clear hown heq hbr hvs
        go_wp2
        go_loopw [23] (fun i wr => ∃ (t : Nat) (f : Nat → Nat → Int), t ≤ m.length ∧ i = .int .i64 t ∧ OwnP wr w1.heap.size (.slice (some ⟨w1.heap.size, 0, none⟩) m.length m.length) m.length (tab m.length m.length f) m.length vs ∧
            (∀ a b, a < k → b < m.length → f a b = S2 m (a + 1) (b + 1)) ∧ (∀ b, b < t → f k b = S2 m (k + 1) (b + 1)) ∧ Below w1.heap.size w1 wr) (fun i _ => m.length - (intOf i).toNat)
        case atStart => exact ⟨0, f, Nat.zero_le _, rfl, Hown.out, Heq.out, fun a ha => absurd ha (by omega), Hbr.out⟩
        case round =>
          obtain ⟨t, f, ht, rfl, hown, heq, hcol, hbi⟩ := hrel
          clear Hown Heq Hbr
          by_cases htl : t < m.length
          · have hB1 := hbi.size
            have hnm : m.length ≠ 0 := by omega
            obtain ⟨b0, o0, _, _, e0, _⟩ := Hm.out 0 (by omega)
            subst e0
            have Hown := Lib.hid hown
            have Heq := Lib.hid heq
            have Hcol := Lib.hid hcol
            have Hbi := Lib.hid hbi
            have hlen : (m.take (k + 1)).length = k + 1 := by rw [List.length_take]; omega
            have hh := sumOfBlock_any (some ⟨b0, o0, none⟩) c (t + 1) (m.take (k + 1)) wr ((Hg.out.tame (by omega)).take _) (((Hm.out.below Hb.out).below Hbi.out).take _)
            rw [hlen, bsum_take (by omega)] at hh
            have HH := Lib.hid hh
            clear hown heq hcol hbi hlen hh
            go_wp2_with fail
            refine HH.out.mono ?_
            rintro e w3 ⟨rfl, hb3⟩
            have hown := Hown.out.below hb3
            obtain ⟨g, cap, hvs, hd2, hf2, hg, hst⟩ := hown.at2 hlt htl
            obtain ⟨rfl, -⟩ : g = g0 ∧ cap = cap0 := by
              rw [Hvs.out] at hvs
              simp only [Value.slice.injEq, Option.some.injEq, Addr.mk.injEq, and_true, true_and] at hvs
              exact ⟨hvs.1.symm, hvs.2.symm⟩
            obtain ⟨s, hs⟩ : ∃ s, s = S2 m (k + 1) (t + 1) := ⟨_, rfl⟩
            rw [← hs]
            have Hst := Lib.hid (hst s)
            have Hs2 := Lib.hid hs
            have Hbs := Lib.hid ((Hbi.out.trans (hb3.mono hB1)).setCell (p := ⟨g, t, none⟩) hg (.int .i64 s))
            clear hown hvs hst hg hb3 HH hs
            go_wp2
            go_roundw
            case rel =>
              refine ⟨t + 1, _, by omega, by go_num, Hst.out, fun a b ha hb => ?_, fun b hb => ?_, Hbs.out⟩
              · rw [if_neg (fun h => by omega)]
                exact Heq.out a b ha hb
              · by_cases e : b = t
                · subst e; rw [if_pos ⟨rfl, rfl⟩]; exact Hs2.out
                · rw [if_neg (fun h => by omega)]
                  exact Hcol.out b (by omega)
            case measure => simp [intOf]; omega
          · obtain rfl : t = m.length := by omega
            have Hown := Lib.hid hown
            have Heq := Lib.hid heq
            have Hcol := Lib.hid hcol
            have Hbi := Lib.hid hbi
            clear hown heq hcol hbi
            go_wp2
            go_roundw
            case rel =>
              refine ⟨k + 1, f, by omega, by go_num, Hown.out, fun a b ha hb => ?_, Hbi.out⟩
              by_cases e : a = k
              · subst e; exact Hcol.out b hb
              · exact Heq.out a b (by omega) hb
            case measure => simp [intOf]; omega
      · obtain rfl : k = m.length := by omega
        have e : cs m = tab m.length m.length f := eq_tab (cs_len m) (fun i hi => tab_row hi) (fun i j hi hj => by unfold cs; rw [gi_tab hi hj, heq i j hi hj])
        have hfin : MRes (good m) (cs m) wo w.heap.size (.returned (.tuple #[.slice (some ⟨w1.heap.size, 0, none⟩) m.length m.length, .bool true])) :=
          MRes.yes Hg.out (OwnM.base ⟨vs, by rw [cs_len, e]; exact hown⟩ hB)
        have Hfin := Lib.hid hfin
        have Hbf := Lib.hid (Hb.out.trans (hbr.mono hB))
        clear hown heq hbr e hfin
        go_wp2
        go_ret2
        exact ⟨Hfin.out, Hbf.out⟩
  · have Hg := Lib.hid hg
    clear hg
    obtain rfl := ha.isnt Hg.out
    clear ha
    go_wp2
    go_ret2
    exact ⟨MRes.no Hg.out, Hb.out⟩
end Go.Proofs.Ytnhkclnloiiihaa
