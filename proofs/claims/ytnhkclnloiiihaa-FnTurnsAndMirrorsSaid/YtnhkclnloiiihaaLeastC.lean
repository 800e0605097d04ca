/- The images' list and the least of them, by the program. Conditions: tables of at most six rows. -/
import Derived.Test.YtnhkclnloiiihaaLeastB
namespace Go.Proofs.Ytnhkclnloiiihaa
open Go.RowKit

theorem im_lt {m : List (List Int)} {i : Nat} (h : i < 4) : im m i = cwN m i := by unfold im; rw [if_pos h]
theorem im_ge {m : List (List Int)} {i : Nat} (h : 4 ≤ i) : im m i = mir (cwN m (i - 4)) := by unfold im; rw [if_neg (by omega)]

theorem one_owned (w : World) (B : Nat) (hB : B ≤ w.heap.size) (e : TypeId) (x : Value) : (w.alloc (.cells #[x] e)).ownsRow B e 1 (.slice (some ⟨w.heap.size, 0, none⟩) 1 1) 1 [x] :=
  ⟨by simp, .inr ⟨w.heap.size, 1, #[x], rfl, hB, heap_alloc_new w _, by omega, by unfold maxLen; omega, by simp, by simp⟩⟩

def vlen : Value → Nat
  | .slice _ n _ => n
  | _ => 0

set_option maxRecDepth 100000 in
set_option maxHeartbeats 3200000 in
theorem images_any (ao : Option Addr) (c : Nat) (m : List (List Int)) (w : World) (hsq : square m) (hm : MatAt w ao m) :
    Calls Try.prog 148 #[.slice ao m.length c] w fun e w' => ∃ g cap vs, e = .returned (.slice (some ⟨g, 0, none⟩) 8 cap) ∧ 8 ≤ cap ∧ OwnG w' w.heap.size (.slice (some ⟨g, 0, none⟩) 8 cap) 8 (im m) vs ∧ Below w.heap.size w w' := by
  obtain ⟨j0, hj, hy0, hy1, hy2⟩ := info_parts Try.info_grid
  have hn := hsq.2.1
  have hmx : m.length ≤ 9223372036854775807 := by omega
  have Hsq := Lib.hid hsq
  have Hm := Lib.hid hm
  clear hsq hm
  go_enter Try.func148, Try.ntmps148
  go_wp2_with fail
  refine (copied_any ao c m w Hsq.out Hm.out).mono ?_
  rintro e w1 ⟨v, rfl, hv, hb⟩
  obtain ⟨a1, c1, rfl, _, _, _⟩ := hv.read
  have h0 : OwnG (w1.alloc (.cells #[.slice a1 m.length c1] 81)) w.heap.size (.slice (some ⟨w1.heap.size, 0, none⟩) 1 1) 1 (im m) [.slice a1 m.length c1] := by
    refine ⟨one_owned w1 w.heap.size hb.size _ _, fun i hi => ?_⟩
    obtain rfl : i = 0 := by omega
    exact hv.below ((Below.refl _ w1).alloc (Nat.le_refl _) _)
  have H0 := Lib.hid h0
  have B0 := Lib.hid (show Below w.heap.size w (w1.alloc (.cells #[.slice a1 m.length c1] 81)) from hb.alloc hb.size _)
  clear hv hb h0
  go_wp2
  go_loopw [3] (fun all wr => ∃ (k : Nat) (vs : List Value), k < 4 ∧ OwnG wr w.heap.size all (k + 1) (im m) vs ∧ Below w.heap.size w wr) (fun all _ => 5 - vlen all)
  case atStart => exact ⟨0, _, by omega, H0.out, B0.out⟩
  case round =>
    clear H0 B0
    obtain ⟨k, vs, hk, hown, hbr⟩ := hrel
    obtain ⟨g, cap, rfl, hcap, hcap2, hBg⟩ := hown.isAt (by omega)
    have hB := hbr.size
    by_cases hlt : k < 3
    · have hk1 : ((k + 1 : Nat) : Int) < 4 := by omega
      have hcell := hown.cellAt k (by omega)
      have hel := hown.each k (by omega)
      rw [im_lt (by omega)] at hel
      obtain ⟨a2, c2, hv2, _, _, hm2⟩ := hel.read
      rw [cwN_len] at hv2
      rw [hv2] at hcell
      have hturn := turned_any a2 c2 (cwN m k) wr (Hsq.out.cwN k) hm2
      rw [cwN_len] at hturn
      have Hturn := Lib.hid hturn
      have Hown := Lib.hid hown
      have Hbr := Lib.hid hbr
      clear hturn hown hbr hel hv2 hm2
      go_wp2_with fail
      refine Hturn.out.mono ?_
      rintro e w2 ⟨v, rfl, hv, hb2⟩
      obtain ⟨a3, c3, rfl, _, _, _⟩ := hv.read
      rw [show (cw (cwN m k)).length = m.length from by rw [cw_len, cwN_len]] at hv
      have hv' : OwnM w2 w.heap.size (.slice a3 m.length c3) (im m (k + 1)) := by rw [im_lt (by omega)]; exact hv.base hB
      rw [show (cw (cwN m k)).length = m.length from by rw [cw_len, cwN_len]]
      have Hv := Lib.hid hv'
      have Hown2 := Lib.hid (Hown.out.below hb2)
      have Hbr2 := Lib.hid (Hbr.out.trans (hb2.mono hB))
      have hB2 := Hbr2.out.size
      clear hv hv' hb2 hcell
      go_wp2_with (at_builtin; refine wpList_append_own _ rfl _ _ 86 rfl w.heap.size 81 j0 (.slice none 0 0) 1 24 Try.underlying86 hj hy0 hy1 hy2 rfl (by decide) _ _ _ rfl (World.ownsRow.alloc Hown2.out.top _) ⟨w2.heap.size, 0, none⟩ 1 1 [.slice a3 m.length c3] rfl rfl ?c1 ?c2 ?c3 ?c4 ?c5 ?_)
      case c1 => exact cell_one_new _ _ _
      case c2 => intro u hu; simp at hu; subst hu; rfl
      case c3 => unfold maxLen; omega
      case c4 => omega
      case c5 => simp; omega
      intro v' w3 hown' hgrow _
      have hput := Hown2.out.snoc hB2 Hv.out hown' hgrow
      have Hput := Lib.hid hput
      obtain ⟨g4, cap4, rfl, _, _, _⟩ := hput.1.isAt (by omega)
      clear hput hown' hgrow
      go_wp2
      go_roundw
      case rel => exact ⟨k + 1, _, by omega, Hput.out.1, Hbr2.out.trans Hput.out.2⟩
      case measure => simp [vlen]; omega
    · have e4 : k + 1 = 4 := by omega
      rw [e4] at hown hcap ⊢
      clear e4
      have hvl : vs.length = 4 := by simpa using hown.top.1
      have Hown := Lib.hid hown
      have Hbr := Lib.hid hbr
      obtain ⟨v4, hv4⟩ : ∃ v4, v4 = vs := ⟨_, rfl⟩
      rw [← hv4] at hvl
      have hsnap : ∀ i, i < 4 → wr.cell? ⟨g, i, none⟩ = some (v4.getD i undef) := fun i hi => by rw [hv4]; exact hown.cellAt i hi
      have hfirst : ∀ i, i < 4 → vs.getD i undef = v4.getD i undef := fun i hi => by rw [hv4]
      have Hsnap := Lib.hid hsnap
      have Hfirst := Lib.hid hfirst
      clear hown hbr hsnap hfirst hv4
      obtain ⟨wo, hwo⟩ : ∃ wo : World, wo = wr := ⟨_, rfl⟩
      go_wp2
      go_loopw [3, 24] (fun all i wr => ∃ (t : Nat) (vs : List Value), t ≤ 4 ∧ i = .int .i64 t ∧ OwnG wr w.heap.size all (4 + t) (im m) vs ∧ (∀ i, i < 4 → vs.getD i undef = v4.getD i undef) ∧
        (∀ i, i < 4 → wr.cell? ⟨g, i, none⟩ = some (v4.getD i undef)) ∧ Below w.heap.size w wr) (fun _ i _ => 4 - (intOf i).toNat)
      case atStart => exact ⟨0, vs, by omega, rfl, Hown.out, Hfirst.out, Hsnap.out, Hbr.out⟩
      case round =>
        clear Hown Hfirst Hsnap Hbr hB
        obtain ⟨t, vs, ht, rfl, hown, hfirst, hsnap, hbr⟩ := hrel
        obtain ⟨g2, cap5, rfl, hcap5, hcap6, hBg2⟩ := hown.isAt (by omega)
        have hB := hbr.size
        have Hown := Lib.hid hown
        have Hbr := Lib.hid hbr
        by_cases htl : t < 4
        · have hcell := hsnap t htl
          have hel := hown.each t (by omega)
          rw [hfirst t htl, im_lt htl] at hel
          obtain ⟨a2, c2, hv2, _, _, hm2⟩ := hel.read
          rw [cwN_len] at hv2
          rw [hv2] at hcell
          have hmir := mirrored_any a2 c2 (cwN m t) wr (Hsq.out.cwN t) hm2
          rw [cwN_len] at hmir
          have Hmir := Lib.hid hmir
          have Hfirst := Lib.hid hfirst
          have Hsnap := Lib.hid hsnap
          clear hmir hown hbr hel hv2 hm2 hfirst hsnap
          go_wp2_with fail
          refine Hmir.out.mono ?_
          rintro e w2 ⟨v, rfl, hv, hb2⟩
          obtain ⟨a3, c3, rfl, _, _, _⟩ := hv.read
          rw [show (mir (cwN m t)).length = m.length from by rw [mir_len, cwN_len]] at hv
          have hv' : OwnM w2 w.heap.size (.slice a3 m.length c3) (im m (4 + t)) := by rw [im_ge (by omega), show 4 + t - 4 = t from by omega]; exact hv.base hB
          rw [show (mir (cwN m t)).length = m.length from by rw [mir_len, cwN_len]]
          have Hv := Lib.hid hv'
          have Hown2 := Lib.hid (Hown.out.below hb2)
          have Hsnap2 := Lib.hid (show ∀ i, i < 4 → w2.cell? ⟨g, i, none⟩ = some (v4.getD i undef) from fun i hi => cell_below (Hsnap.out i hi) hb2)
          have Hbr2 := Lib.hid (Hbr.out.trans (hb2.mono hB))
          have hB2 := Hbr2.out.size
          clear hv hv' hb2 hcell
          go_wp2_with (at_builtin; refine wpList_append_keep rfl _ _ 86 rfl w.heap.size 81 j0 (.slice none 0 0) 24 Try.underlying86 hj hy0 hy1 hy2 rfl g2 (4 + t) cap5 vs rfl (World.ownsRow.alloc Hown2.out.top _) ⟨w2.heap.size, 0, none⟩ 1 1 [.slice a3 m.length c3] rfl rfl ?c1 ?c2 ?c3 ?c4 ?c5 ?_)
          case c1 => exact cell_one_new _ _ _
          case c2 => intro u hu; simp at hu; subst hu; rfl
          case c3 => unfold maxLen; omega
          case c4 => omega
          case c5 => simp; omega
          intro v' w3 hown' hgrow hkeep
          have hput := Hown2.out.snoc hB2 Hv.out hown' hgrow
          have hvl2 : vs.length = 4 + t := by simpa using Hown2.out.top.1
          have hsnap3 : ∀ i, i < 4 → w3.cell? ⟨g, i, none⟩ = some (v4.getD i undef) := by
            intro i hi
            by_cases e : g = g2
            · subst e
              refine hkeep i _ ?_
              rw [← Hfirst.out i hi, List.getD, List.getElem?_eq_getElem (by omega)]
              rfl
            · have h2 := Hsnap2.out i hi
              have h3 : (w2.alloc (.cells #[.slice a3 m.length c3] 81)).cell? ⟨g, i, none⟩ = some (v4.getD i undef) := cell_below h2 ((Below.refl _ w2).alloc (Nat.le_refl _) _)
              exact hgrow.cell h3 (fun h => e (Option.some.inj h))
          have hfirst3 : ∀ i, i < 4 → (vs ++ [Value.slice a3 m.length c3]).getD i undef = v4.getD i undef := by
            intro i hi
            rw [← Hfirst.out i hi, List.getD, List.getD, List.getElem?_append_left (by omega)]
          have Hput := Lib.hid hput
          have Hsnap3 := Lib.hid hsnap3
          have Hfirst3 := Lib.hid hfirst3
          clear hput hown' hgrow hkeep hsnap3 hfirst3
          go_wp2
          go_roundw
          case rel => exact ⟨t + 1, _, by omega, by go_num, Hput.out.1, Hfirst3.out, Hsnap3.out, Hbr2.out.trans Hput.out.2⟩
          case measure => simp [intOf]; omega
        · obtain rfl : t = 4 := by omega
          clear hown hbr hfirst hsnap
          go_wp2
          go_ret
          exact ⟨g2, cap5, vs, rfl, hcap5, Hown.out, Hbr.out⟩

set_option maxRecDepth 100000 in
set_option maxHeartbeats 1600000 in
theorem minFunc_any (g cap n : Nat) (f : Nat → List (List Int)) (vs : List Value) (w : World) (hn : n ≤ 6) (hcell : ∀ i, i < 8 → w.cell? ⟨g, i, none⟩ = some (vs.getD i undef))
    (hel : ∀ i, i < 8 → ∃ ao c, vs.getD i undef = .slice ao n c ∧ MatAt w ao (f i)) (hsq : ∀ i, i < 8 → sq n (f i)) :
    Calls Try.prog 147 #[.slice (some ⟨g, 0, none⟩) 8 cap, .func (.func 149) #[] #[]] w fun e w' => (∃ j, j < 8 ∧ e = .returned (vs.getD j undef) ∧ IsMin n 8 f (f j)) ∧ w = w' := by
  have hc0 := hcell 0 (by omega)
  have Hcell := Lib.hid hcell
  have Hel := Lib.hid hel
  have Hsq := Lib.hid hsq
  clear hcell hel hsq
  go_enter Try.func147, Try.ntmps147
  go_wp2
  go_loop [5, 6] (fun v i => ∃ k j : Nat, 1 ≤ k ∧ k ≤ 8 ∧ j < 8 ∧ i = .int .i64 k ∧ v = vs.getD j undef ∧ IsMin n k f (f j)) (fun _ i => 8 - (intOf i).toNat)
  case atStart => exact ⟨1, 0, by omega, by omega, by omega, rfl, rfl, IsMin.one n f⟩
  case round =>
    clear hc0
    obtain ⟨k, j, hk1, hk, hj, rfl, rfl, hmin⟩ := hrel
    have Hmin := Lib.hid hmin
    clear hmin
    by_cases hlt : k < 8
    · have hc1 := Hcell.out k hlt
      obtain ⟨a1, c1, e1, hm1⟩ := Hel.out k hlt
      obtain ⟨a2, c2, e2, hm2⟩ := Hel.out j hj
      have Hc := Lib.hid (compareGrids_any a1 a2 c1 c2 n (f k) (f j) w hn (Hsq.out k hlt) (Hsq.out j hj) hm1 hm2)
      have E1 := Lib.hid e1
      have E2 := Lib.hid e2
      rw [e1] at hc1
      rw [e2]
      clear hm1 hm2 e1 e2
      go_wp2_with fail
      refine Hc.out.mono ?_
      rintro e w2 ⟨hrc, rfl⟩
      rcases hrc with ⟨h, rfl⟩ | ⟨h, rfl⟩ | ⟨h, rfl⟩
      · have Hr := Lib.hid (Hmin.out.less h)
        clear h
        go_wp2
        go_round
        case rel => exact ⟨k + 1, k, by omega, by omega, hlt, by go_num, E1.out.symm, Hr.out⟩
        case measure => simp [intOf]; omega
      · have Hr := Lib.hid (Hmin.out.more (by rw [h]; exact mless_irrefl))
        clear h
        go_wp2
        go_round
        case rel => exact ⟨k + 1, j, by omega, by omega, hj, by go_num, E2.out.symm, Hr.out⟩
        case measure => simp [intOf]; omega
      · have Hr := Lib.hid (Hmin.out.more (mless_asymm h))
        clear h
        go_wp2
        go_round
        case rel => exact ⟨k + 1, j, by omega, by omega, hj, by go_num, E2.out.symm, Hr.out⟩
        case measure => simp [intOf]; omega
    · obtain rfl : k = 8 := by omega
      go_wp2
      go_ret
      exact ⟨⟨j, hj, rfl, Hmin.out⟩, rfl⟩
end Go.Proofs.Ytnhkclnloiiihaa
