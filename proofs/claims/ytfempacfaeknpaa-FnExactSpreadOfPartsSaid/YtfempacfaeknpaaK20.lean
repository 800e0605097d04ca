/- Parts of proofs: contracts and plain facts. Conditions: as each says. -/
import Derived.Test.YtfempacfaeknpaaK19
import Derived.Deep.RegionWith
namespace Go.Proofs.Ytfempacfaeknpaa
open Go.RowKit

instance dpGoodDec4 (rows : List (List Int)) (n : Nat) : Decidable (DpGood rows n) := by unfold DpGood; exact inferInstance
def pN (p : List (List Int)) : Nat := (sumT fOne p p.length).toNat
def qN (p : List (List Int)) : Nat := (sumT fSpec p p.length).toNat
/-- how many of the first t have p parts, k of them special -/
def sF (A : List (List (List Int))) (t p k : Nat) : Int := sumF (fun i => if pN (gt A i) = p ∧ qN (gt A i) = k then 1 else 0) t
theorem sF_step (A : List (List (List Int))) (t p k : Nat) : sF A (t + 1) p k = if p = pN (gt A t) ∧ k = qN (gt A t) then sF A t (pN (gt A t)) (qN (gt A t)) + 1 else sF A t p k := by
  unfold sF
  simp only [sumF]
  by_cases e : p = pN (gt A t) ∧ k = qN (gt A t)
  · rw [if_pos e, e.1, e.2, if_pos ⟨rfl, rfl⟩]
  · rw [if_neg e, if_neg (fun h => e ⟨h.1.symm, h.2.symm⟩)]
    omega
theorem sF_bd (A : List (List (List Int))) (t p k : Nat) : 0 ≤ sF A t p k ∧ sF A t p k ≤ t := sumF_01 fun i _ => by split <;> omega
def spread (n : Nat) : List (List Int) := tab (jR n) (jC n) (sF (allP n) (allP n).length)
theorem j_val : ∀ n, n < 5 → n = 0 ∨ (jR n = n * (n - 1) / 2 + 1 ∧ jC n = (n - 1) * (n - 1) / 4 + 1) := by decide +kernel
theorem spread_ok0 : ∀ n : Nat, n < 5 → n = 0 ∨ ∀ p, p ∈ allP n → DpGood p 6 ∧ 0 ≤ sumT fOne p p.length ∧ 0 ≤ sumT fSpec p p.length ∧ pN p < n * (n - 1) / 2 + 1 ∧ qN p < (n - 1) * (n - 1) / 4 + 1 := by decide +kernel
theorem spread_ok {n : Nat} (h1 : 1 ≤ n) (h4 : n ≤ 4) : ∀ p, p ∈ allP n → DpGood p 6 ∧ pN p < jR n ∧ qN p < jC n ∧ sumT fOne p p.length = (pN p : Int) ∧ sumT fSpec p p.length = (qN p : Int) := fun p hp => by
  obtain ⟨hg, h1, h2, h3, h4⟩ := (spread_ok0 n (by omega)).resolve_left (by omega) p hp
  obtain ⟨e1, e2⟩ := (j_val n (by omega)).resolve_left (by omega)
  rw [e1, e2]
  exact ⟨hg, h3, h4, by unfold pN; omega, by unfold qN; omega⟩
theorem spread_small {n : Int} (h : 1 ≤ n ∧ n ≤ 4) : Small (spread n.toNat) := by
  have hs := (j_size n.toNat (by omega)).resolve_left (by omega)
  refine ⟨by unfold spread; rw [tab_len]; omega, fun i hi => ?_⟩
  unfold spread at hi ⊢
  rw [tab_len] at hi
  rw [tab_row hi]
  omega

/-- a list of tables whose rows do not lie in blocks of X -/
structure OwnWX (w : World) (B : Nat) (X : Nat → Prop) (v : Value) (ts : List (List (List Int))) (vs : List Value) : Prop where
  top : w.ownsRow B 22 1 v ts.length vs
  each : ∀ i, i < ts.length → ∃ us, OwnV w 0 (vs.getD i undef) (gt ts i) us ∧ ∀ a, a < (gt ts i).length → ∀ H, X H → (us.getD a undef).ownBlock ≠ some H
theorem OwnWX.toW {w : World} {B : Nat} {X : Nat → Prop} {v : Value} {ts : List (List (List Int))} {vs : List Value} (h : OwnWX w B X v ts vs) : OwnW w B v ts vs := ⟨h.top, fun i hi => ⟨_, (h.each i hi).choose_spec.1⟩⟩
theorem OwnWX.below {w w' : World} {B : Nat} {X : Nat → Prop} {v : Value} {ts : List (List (List Int))} {vs : List Value} (h : OwnWX w B X v ts vs) (hb : Below w.heap.size w w') : OwnWX w' B X v ts vs := ⟨ownsRow_below h.top hb, fun i hi => ⟨_, (h.each i hi).choose_spec.1.below hb, (h.each i hi).choose_spec.2⟩⟩
theorem OwnWX.store {w : World} {B H B' n c : Nat} {X : Nat → Prop} {v : Value} {ts : List (List (List Int))} {vs : List Value} {xs : List Int} (h : OwnWX w B X v ts vs) (k : OwnI w B' (.slice (some ⟨H, 0, none⟩) n c) xs) (hX : X H) (i : Nat) (u : Value) : OwnWX (w.setCell ⟨H, i, none⟩ u) B X v ts vs := by
  have top2 : ∀ (e : TypeId) (B0 n0 : Nat) (x : Value) (ys : List Value), e ≠ 3 → w.ownsRow B0 e 1 x n0 ys → x.ownBlock ≠ some H := fun e B0 n0 x ys he hx hg => row_apart hx k he H hg rfl
  refine ⟨Go.ownsRow_setCell_other h.top (a := ⟨H, i, none⟩) (top2 _ _ _ _ _ (by decide) h.top) u, fun j hj => ?_⟩
  obtain ⟨us, h1, h2⟩ := h.each j hj
  exact ⟨us, ⟨Go.ownsRow_setCell_other h1.top (a := ⟨H, i, none⟩) (top2 _ _ _ _ _ (by decide) h1.top) u, fun a ha => (h1.rows a ha).setOther (a := ⟨H, i, none⟩) (h2 a ha H hX) u⟩, h2⟩
theorem OwnL.toWX {w : World} {B : Nat} {X : Nat → Prop} {v : Value} {ts : List (List (List Int))} {vs : List Value} {uss : List (List Value)} (h : OwnL w B v ts vs uss) (hX : ∀ H, X H → H < B) : OwnWX w B X v ts vs :=
  ⟨h.top, fun i hi => ⟨_, (h.each i hi).toV.base (Nat.zero_le _), fun a ha H hH hg => by have := ((h.each i hi).old a ha H hg).1; have := hX H hH; omega⟩⟩
/-- rows of parts of at least 1 do not lie where a 0 stands -/
theorem OwnW.toWX {w : World} {B : Nat} {X : Nat → Prop} {v : Value} {ts : List (List (List Int))} {vs : List Value} (h : OwnW w B v ts vs) (hr : ∀ i, i < ts.length → ∀ a, a < (gt ts i).length → 1 ≤ (gr (gt ts i) a).length ∧ 1 ≤ gi (gr (gt ts i) a) 0) (hX : ∀ H, X H → w.cell? ⟨H, 0, none⟩ = some (.int .i64 0)) : OwnWX w B X v ts vs := by
  refine ⟨h.top, fun i hi => ?_⟩
  obtain ⟨us, h1⟩ := h.each i hi
  refine ⟨us, h1, fun a ha H hH0 hg => ?_⟩
  have hH := hX H hH0
  obtain ⟨hl, h0⟩ := hr i hi a ha
  obtain ⟨r, d, e, _, _, hI⟩ := (h1.rows a ha).read
  rw [e] at hg
  obtain ⟨g, hr2, _, _⟩ := (show OwnI w 0 (.slice r (gr (gt ts i) a).length d) (gr (gt ts i) a) by rw [← e]; exact h1.rows a ha).isAt (by omega)
  subst hr2
  simp only [Value.ownBlock, Option.some.injEq] at hg
  subst hg
  obtain ⟨b, o, e2, hc⟩ := hI 0 (by omega)
  cases e2
  rw [hH] at hc
  simp only [Option.some.injEq, Value.int.injEq, true_and] at hc
  omega

theorem dpParts_b (ao : Option Addr) (c : Nat) (rows : List (List Int)) (w : World) (hg : DpGood rows 6) (hm : MatAt w ao rows) :
    Calls Try.prog 77 #[.slice ao rows.length c] w fun e w' => e = .returned (.int .i64 (sumT fOne rows rows.length)) ∧ Below w.heap.size w w' := by
  refine (dpParts_any ao c rows w hg hm).mono ?_
  rintro e w' ⟨h, rfl⟩
  exact ⟨h, Below.refl _ _⟩
theorem dpSpecial_b (ao : Option Addr) (c : Nat) (rows : List (List Int)) (w : World) (hg : DpGood rows 6) (hm : MatAt w ao rows) :
    Calls Try.prog 80 #[.slice ao rows.length c] w fun e w' => e = .returned (.int .i64 (sumT fSpec rows rows.length)) ∧ Below w.heap.size w w' := by
  refine (dpSpecial_any ao c rows w hg hm).mono ?_
  rintro e w' ⟨h, rfl⟩
  exact ⟨h, Below.refl _ _⟩

set_option maxRecDepth 100000 in
set_option maxHeartbeats 3200000 in
theorem specSpreadOfParts_any (n : Int) (w : World) (hz : -9223372036854775808 ≤ n ∧ n ≤ 9223372036854775807) :
    Calls Try.prog 40 #[.int .i64 n] w fun e w' => MRes (1 ≤ n ∧ n ≤ 4) (spread n.toNat) w' w.heap.size e ∧ Below w.heap.size w w' := by
  have C := Lib.hid (dpSmall_any n w)
  by_cases p : 1 ≤ n ∧ n ≤ 4
  · obtain ⟨N, rfl⟩ : ∃ N : Nat, n = (N : Int) := ⟨n.toNat, by omega⟩
    have hN1 : 1 ≤ N := by omega
    have hN4 : N ≤ 4 := by omega
    have Hp := Lib.hid p
    have C1 := Lib.hid (specJointTable_any (N : Int) w hz)
    rw [Int.toNat_natCast] at C1
    have C2 := Lib.hid (fun w => dpAllN_any N hN1 hN4 w)
    rw [Int.toNat_natCast]
    have hl := (allP_few N (by omega)).1
    have HA := Lib.hid (spread_ok hN1 hN4)
    obtain ⟨hs1, hs2, hs3, hs4⟩ := (j_size N (by omega)).resolve_left (by omega)
    have hs5 : 1 ≤ jR N := by omega
    obtain ⟨A, hA⟩ : ∃ A, A = allP N := ⟨_, rfl⟩
    obtain ⟨R, hR⟩ : ∃ R, R = jR N := ⟨_, rfl⟩
    obtain ⟨K, hK⟩ : ∃ K, K = jC N := ⟨_, rfl⟩
    have Hsp := Lib.hid (show spread N = tab R K (sF A A.length) by rw [hR, hK, hA]; rfl)
    obtain ⟨F, hF⟩ : ∃ F : Nat → Nat → Int, F = jF (allW N) (allW N).length := ⟨_, rfl⟩
    have Hjt := Lib.hid (show joint N = tab R K F by rw [hR, hK, hF]; rfl)
    rw [← hA] at C2 hl HA
    rw [← hR] at HA hs2 hs5
    rw [← hK] at HA hs3 hs4
    have hAm : A.length ≤ 9223372036854775807 := by omega
    clear p hz hs1 hA hR hK hF
    go_enter Try.func40, Try.ntmps40
    go_wp2_with fail
    refine C.out.mono ?_
    rintro e w1 ⟨ha, rfl⟩
    obtain rfl := ha.is Hp.out
    clear ha
    go_wp2_with fail
    refine C1.out.mono ?_
    rintro e w2 ⟨⟨v, b, r, rfl, hv, hr⟩, hb⟩
    have hr2 : b = true ∧ r = joint N := by
      rcases hr with ⟨_, h2, h3⟩ | ⟨h1, _, _⟩
      · exact ⟨h2, h3⟩
      · exact absurd Hp.out h1
    obtain ⟨rfl, rfl⟩ := hr2
    obtain ⟨vs, hv⟩ := hv
    rw [Hjt.out, tab_len] at hv
    obtain ⟨go, gc, rfl, hgo, hgo2⟩ := hv.headAt hs5
    have Hv := Lib.hid hv
    have Hb := Lib.hid hb
    clear hv hr hb C1 hgo hgo2
    go_wp2
    go_loopw [21] (fun i wr => ∃ (p : Nat) (f : Nat → Nat → Int), p ≤ R ∧ i = .int .i64 p ∧ OwnP wr w.heap.size (.slice (some ⟨go, 0, none⟩) R gc) R (tab R K f) R vs ∧ (∀ a b, a < p → b < K → f a b = 0) ∧ Below w.heap.size w wr) (fun i _ => R - (intOf i).toNat)
    case atStart => exact ⟨0, F, Nat.zero_le _, rfl, Hv.out, fun a b h _ => absurd h (by omega), Hb.out⟩
    case round =>
      rename World => wr
      obtain ⟨p, f, hp, rfl, hown, hz, hbr⟩ := hrel
      have Hown := Lib.hid hown
      have Hz := Lib.hid hz
      have Hbr := Lib.hid hbr
      clear hown hz hbr Hv Hb
      by_cases hlt : p < R
      · have hd := Hown.out.cellAt p hlt
        obtain ⟨g, cap, hvs, _, _, hg, _⟩ := Hown.out.at2 hlt (show 0 < K by omega)
        rw [hvs] at hd
        have Hvs := Lib.hid hvs
        have Hg := Lib.hid hg
        clear hvs hg
        go_wp2
        go_loopw [27] (fun i wq => ∃ (q : Nat) (f : Nat → Nat → Int), q ≤ K ∧ i = .int .i64 q ∧ OwnP wq w.heap.size (.slice (some ⟨go, 0, none⟩) R gc) R (tab R K f) R vs ∧ (∀ a b, a < p → b < K → f a b = 0) ∧ (∀ b, b < q → f p b = 0) ∧ Below w.heap.size w wq) (fun i _ => K - (intOf i).toNat)
        case atStart => exact ⟨0, f, Nat.zero_le _, rfl, Hown.out, Hz.out, fun b h => absurd h (by omega), Hbr.out⟩
        case round =>
          rename World => wq
          obtain ⟨q, f2, hq, rfl, hown2, hz2, hz3, hbq⟩ := hrel
          have Hown2 := Lib.hid hown2
          have Hz2 := Lib.hid hz2
          have Hz3 := Lib.hid hz3
          have Hbq := Lib.hid hbq
          clear hown2 hz2 hz3 hbq Hown Hz Hbr hd
          by_cases hlt2 : q < K
          · obtain ⟨g2, cap2, hvs2, hd2, hf2, hg2, hst2⟩ := Hown2.out.at2 hlt hlt2
            rw [Hvs.out] at hvs2
            cases hvs2
            have Hst2 := Lib.hid (hst2 0)
            have HB := Lib.hid (Hbq.out.setCell (p := ⟨g, q, none⟩) Hg.out (.int .i64 0))
            clear hst2 hg2 Hown2
            go_wp2
            go_roundw
            case rel =>
              refine ⟨q + 1, _, by omega, by go_num, Hst2.out, fun a b ha hb => ?_, fun b hb => ?_, HB.out⟩
              · show (if a = p ∧ b = q then (0 : Int) else f2 a b) = 0
                rw [if_neg (by omega)]
                exact Hz2.out a b ha hb
              · show (if p = p ∧ b = q then (0 : Int) else f2 p b) = 0
                by_cases e : b = q
                · rw [if_pos ⟨rfl, e⟩]
                · rw [if_neg (by omega)]
                  exact Hz3.out b (by omega)
            case measure => simp [intOf]; omega
          · obtain rfl : K = q := by omega
            go_wp2
            go_roundw
            case rel =>
              refine ⟨p + 1, f2, by omega, by go_num, Hown2.out, fun a b ha hb => ?_, Hbq.out⟩
              by_cases e : a < p
              · exact Hz2.out a b e hb
              · obtain rfl : p = a := by omega
                exact Hz3.out b hb
            case measure => simp [intOf]; omega
      · obtain rfl : R = p := by omega
        go_wp2_with fail
        refine (C2.out wr).mono ?_
        rintro e w4 ⟨v4, ts, rfl, hv4, hb4⟩
        obtain ⟨ta, tc, rfl, ht1, ht2⟩ := hv4.head
        have Ht := Lib.hid (Hown.out.below hb4)
        obtain ⟨X, hX⟩ : ∃ X : Nat → Prop, X = fun H => ∃ p, p < R ∧ (vs.getD p undef).ownBlock = some H := ⟨_, rfl⟩
        have HX := Lib.hid (show ∀ p, p < R → ∀ g, (vs.getD p undef).ownBlock = some g → X g from fun p hp g h => by rw [hX]; exact ⟨p, hp, h⟩)
        have Hv4 := Lib.hid (hv4.toWX (X := X) (fun i hi a ha => by
          have h := (HA.out _ (gt_mem hi)).1.2 a ha
          exact ⟨h.1.1, (h.1.2.2.1 0 h.1.1).1⟩) (fun H hH => by
          rw [hX] at hH
          obtain ⟨p, hp, hH⟩ := hH
          obtain ⟨g', cap', hvs', hd', _⟩ := Ht.out.at2 hp (show 0 < K by omega)
          rw [hvs'] at hH
          simp only [Value.ownBlock, Option.some.injEq] at hH
          subst hH
          rw [Hz.out p 0 hp (by omega)] at hd'
          exact hd'))
        have Hb4 := Lib.hid (Hbr.out.trans (hb4.mono Hbr.out.size))
        clear hv4 hb4 hX Hown Hbr C2 hlt
        go_wp2
        go_loopw [38] (fun i wq => ∃ (t : Nat) (f : Nat → Nat → Int), t ≤ A.length ∧ i = .int .i64 t ∧ OwnP wq w.heap.size (.slice (some ⟨go, 0, none⟩) R gc) R (tab R K f) R vs ∧ (∀ a b, a < R → b < K → f a b = sF A t a b) ∧ OwnWX wq wr.heap.size X (.slice ta A.length tc) A ts ∧ Below w.heap.size w wq) (fun i _ => A.length - (intOf i).toNat)
        case atStart => exact ⟨0, _, Nat.zero_le _, rfl, Ht.out, fun a b ha hb => Hz.out a b ha hb, Hv4.out, Hb4.out⟩
        case round =>
          rename World => wq
          obtain ⟨t, f, htt, rfl, hown, heq, hlist, hbq⟩ := hrel
          have Hown := Lib.hid hown
          have Heq := Lib.hid heq
          have Hlist := Lib.hid hlist
          have Hbq := Lib.hid hbq
          have HBq := Lib.hid hbq.size
          clear hown heq hlist hbq Ht Hv4
          by_cases hlt2 : t < A.length
          · obtain ⟨b1, o1, r1, d1, e1, hc1, hm1, _, _⟩ := Hlist.out.toW.at hlt2
            obtain ⟨hgd, j1, j2, f1, f2⟩ := HA.out _ (gt_mem hlt2)
            have CI := Lib.hid (fun wx (hx : Below wq.heap.size wq wx) => dpParts_b r1 d1 (gt A t) wx hgd (hm1.below hx))
            have CM := Lib.hid (fun wx (hx : Below wq.heap.size wq wx) => dpSpecial_b r1 d1 (gt A t) wx hgd (hm1.below hx))
            have hbd := sF_bd A t (pN (gt A t)) (qN (gt A t))
            have HS := Lib.hid (fun p k => (show sF A (t + 1) p k = if p = pN (gt A t) ∧ k = qN (gt A t) then sF A t (pN (gt A t)) (qN (gt A t)) + 1 else sF A t p k from sF_step A t p k))
            have hfv := Heq.out _ _ j1 j2
            have hgl : (gt A t).length ≤ 9223372036854775807 := by have := (hgd.bounds (by omega)).1; omega
            rw [f1] at CI
            rw [f2] at CM
            subst e1
            obtain ⟨M, hM⟩ : ∃ M, M = gt A t := ⟨_, rfl⟩
            rw [← hM] at j1 j2 CI CM hbd HS hfv hc1 hgl
            obtain ⟨p, hp⟩ : ∃ p, p = pN M := ⟨_, rfl⟩
            rw [← hp] at j1 hbd HS hfv CI
            obtain ⟨q, hq⟩ : ∃ q, q = qN M := ⟨_, rfl⟩
            rw [← hq] at j2 hbd HS hfv CM
            obtain ⟨y, hy⟩ : ∃ y, y = sF A t p q := ⟨_, rfl⟩
            rw [← hy] at hbd HS hfv
            obtain ⟨g, cap, hvs, hd2, hf2, hg, _⟩ := Hown.out.at2 j1 j2
            have hd := Hown.out.cellAt p j1
            rw [hvs] at hd
            rw [hfv] at hd2
            have hXg : X g := HX.out p j1 g (by rw [hvs]; rfl)
            have hfacts : ∀ w'', Below wq.heap.size wq w'' → w''.cell? ⟨go, p, none⟩ = some (.slice (some ⟨g, 0, none⟩) K cap) ∧ w''.cell? ⟨g, q, none⟩ = some (.int .i64 y) ∧ w''.frozen? ⟨g, q, none⟩ = false := fun w'' hb => by
              obtain ⟨g', cap', hvs', _, hf', _, _⟩ := (Hown.out.below hb).at2 j1 j2
              rw [hvs] at hvs'
              cases hvs'
              exact ⟨cell_below hd hb, cell_below hd2 hb, hf'⟩
            have hst : ∀ w'', Below wq.heap.size wq w'' → OwnP (w''.setCell ⟨g, q, none⟩ (.int .i64 (y + 1))) w.heap.size (.slice (some ⟨go, 0, none⟩) R gc) R (tab R K fun a b => if a = p ∧ b = q then y + 1 else f a b) R vs := fun w'' hb => by
              obtain ⟨g', cap', hvs', _, _, _, hst'⟩ := (Hown.out.below hb).at2 j1 j2
              rw [hvs] at hvs'
              cases hvs'
              exact hst' _
            have hls : ∀ w'', Below wq.heap.size wq w'' → OwnWX (w''.setCell ⟨g, q, none⟩ (.int .i64 (y + 1))) wr.heap.size X (.slice (some ⟨b1, o1, none⟩) A.length tc) A ts := fun w'' hb => by
              have hrow := (Hown.out.below hb).rows p j1
              rw [hvs] at hrow
              exact (Hlist.out.below hb).store hrow hXg q _
            have Hfacts := Lib.hid hfacts
            have Hst := Lib.hid hst
            have Hls := Lib.hid hls
            have Hg := Lib.hid hg
            have HBc := Lib.hid (show Below wq.heap.size wq wq.drew from below_drewN (Below.refl _ _) 1)
            clear hm1 hgd hM hp hq hfv hy f1 f2 hvs hd hd2 hf2 hg hXg hfacts hst hls Hlist Hown
            go_wp2
            go_region_with (first
              | (go_at_call 77; refine (CI.out _ HBc.out).mono ?_; rintro e w5 ⟨rfl, hb5⟩; have HBd := Lib.hid (HBc.out.trans (hb5.mono HBc.out.size)); clear hb5 HBc; have HBc := HBd; clear HBd; obtain ⟨q0, q1, q2⟩ := Hfacts.out _ HBc.out)
              | (go_at_call 80; refine (CM.out _ HBc.out).mono ?_; rintro e w5 ⟨rfl, hb5⟩; have HBd := Lib.hid (HBc.out.trans (hb5.mono HBc.out.size)); clear hb5 HBc; have HBc := HBd; clear HBd; obtain ⟨q0, q1, q2⟩ := Hfacts.out _ HBc.out))
            all_goals
              have HSn := Lib.hid (Hst.out _ HBc.out)
              have HLn := Lib.hid (Hls.out _ HBc.out)
              have HBn := Lib.hid ((Hbq.out.trans (HBc.out.mono HBq.out)).setCell (p := ⟨g, q, none⟩) Hg.out (.int .i64 (y + 1)))
              clear q0 q1 q2 hc1 CI CM Hfacts Hst Hls
              go_wp2
              go_roundw
              case rel =>
                refine ⟨t + 1, _, by omega, by go_num, HSn.out, fun a b ha hb => ?_, HLn.out, HBn.out⟩
                rw [HS.out]
                by_cases e : a = p ∧ b = q
                · rw [if_pos e, if_pos e]
                · rw [if_neg e, if_neg e]; exact Heq.out a b ha hb
              case measure => simp [intOf]; omega
          · obtain rfl : t = A.length := by omega
            have hfin : OwnM wq w.heap.size (.slice (some ⟨go, 0, none⟩) R gc) (spread N) := by
              have e : spread N = tab R K f := by
                rw [Hsp.out]
                exact eq_tab (tab_len _ _ _) (fun i hi => tab_row hi) (fun i j hi hj => by rw [gi_tab hi hj, ← Heq.out i j hi hj])
              exact ⟨vs, by rw [e, tab_len]; exact Hown.out⟩
            have Hfin := Lib.hid hfin
            clear hfin
            go_wp2
            go_ret2
            exact ⟨MRes.yes Hp.out Hfin.out, Hbq.out⟩
  · have H := Lib.hid p
    clear p
    go_enter Try.func40, Try.ntmps40
    go_wp2_with fail
    refine C.out.mono ?_
    rintro e w1 ⟨ha, rfl⟩
    obtain rfl := ha.isnt H.out
    clear ha
    go_wp2
    go_ret2
    exact ⟨MRes.no H.out, Below.refl _ _⟩

theorem mostInversions_any (N : Nat) (w : World) (h1 : 1 ≤ N) (h4 : N ≤ 4) :
    Calls Try.prog 117 #[.int .i64 (N : Int)] w fun e w' => e = .returned (.int .i64 ((N * (N - 1) / 2 : Nat) : Int)) ∧ w = w' := by
  obtain rfl | rfl | rfl | rfl : N = 1 ∨ N = 2 ∨ N = 3 ∨ N = 4 := by omega
  all_goals
    go_enter Try.func117, Try.ntmps117
    go_wp2
    go_ret
    exact ⟨rfl, rfl⟩
theorem mostMinus_any (N : Nat) (w : World) (h1 : 1 ≤ N) (h4 : N ≤ 4) :
    Calls Try.prog 118 #[.int .i64 (N : Int)] w fun e w' => e = .returned (.int .i64 (((N - 1) * (N - 1) / 4 : Nat) : Int)) ∧ w = w' := by
  obtain rfl | rfl | rfl | rfl : N = 1 ∨ N = 2 ∨ N = 3 ∨ N = 4 := by omega
  all_goals
    go_enter Try.func118, Try.ntmps118
    go_wp2
    go_ret
    exact ⟨rfl, rfl⟩
theorem spreadTable_any (N : Nat) (w : World) (h1 : 1 ≤ N) (h4 : N ≤ 4) :
    Calls Try.prog 87 #[.int .i64 (N : Int)] w fun e w' => ∃ vs, e = .returned (.slice (some ⟨w.heap.size, 0, none⟩) (jR N) (jR N)) ∧ OwnP w' w.heap.size (.slice (some ⟨w.heap.size, 0, none⟩) (jR N) (jR N)) (jR N) (tab (jR N) (jC N) fun _ _ => 0) (jR N) vs ∧ Below w.heap.size w w' := by
  obtain ⟨e1, e2⟩ := (j_val N (by omega)).resolve_left (by omega)
  obtain ⟨hs1, hs2, hs3, hs4⟩ := (j_size N (by omega)).resolve_left (by omega)
  have M1 := Lib.hid (mostInversions_any N w h1 h4)
  have M2 := Lib.hid (fun w => mostMinus_any N w h1 h4)
  obtain ⟨a, ha⟩ : ∃ a, a = N * (N - 1) / 2 := ⟨_, rfl⟩
  obtain ⟨b, hb⟩ : ∃ b, b = (N - 1) * (N - 1) / 4 := ⟨_, rfl⟩
  rw [← ha] at e1 M1
  rw [← hb] at e2 M2
  rw [e1] at hs2 ⊢
  rw [e2] at hs3 ⊢
  have C := Lib.hid (newTable_any (a + 1) (b + 1) w (by omega) (by omega))
  rw [Int.natCast_add, Int.natCast_add] at C
  have C1 := Lib.hid (show Calls Try.prog 104 #[.int .i64 ((a : Int) + 1), .int .i64 ((b : Int) + 1)] w _ from C.out)
  clear ha hb e1 e2 hs1 hs4 C
  go_enter Try.func87, Try.ntmps87
  go_wp2_with fail
  refine M1.out.mono ?_
  rintro e w1 ⟨rfl, rfl⟩
  go_wp2_with fail
  refine (M2.out _).mono ?_
  rintro e w2 ⟨rfl, rfl⟩
  go_wp2_with fail
  refine C1.out.mono ?_
  rintro e w3 ⟨vs, rfl, hv, hb⟩
  have Hv := Lib.hid (And.intro hv hb)
  clear hv hb
  go_wp2
  go_ret
  exact ⟨vs, rfl, Hv.out.1, Hv.out.2⟩

set_option maxRecDepth 100000 in
set_option maxHeartbeats 3200000 in
theorem implSpreadOfParts_any (n : Int) (w : World) (hz : -9223372036854775808 ≤ n ∧ n ≤ 9223372036854775807) :
    Calls Try.prog 41 #[.int .i64 n] w fun e w' => MRes (1 ≤ n ∧ n ≤ 4) (spread n.toNat) w' w.heap.size e ∧ Below w.heap.size w w' := by
  have C := Lib.hid (isListed_any n w)
  by_cases p : 1 ≤ n ∧ n ≤ 4
  · obtain ⟨N, rfl⟩ : ∃ N : Nat, n = (N : Int) := ⟨n.toNat, by omega⟩
    have hN1 : 1 ≤ N := by omega
    have hN4 : N ≤ 4 := by omega
    have Hp := Lib.hid p
    have C1 := Lib.hid (fun w => spreadTable_any N w hN1 hN4)
    have C3 := Lib.hid (fun w => firstLimits_any N w hN1 (by omega))
    have C2 := Lib.hid (fun a c w h => planesN_any N hN1 hN4 a c w h)
    rw [Int.toNat_natCast]
    have hl := (allP_few N (by omega)).1
    have HA := Lib.hid (spread_ok hN1 hN4)
    obtain ⟨hs1, hs2, hs3, hs4⟩ := (j_size N (by omega)).resolve_left (by omega)
    have hs5 : 1 ≤ jR N := by omega
    obtain ⟨A, hA⟩ : ∃ A, A = allP N := ⟨_, rfl⟩
    obtain ⟨R, hR⟩ : ∃ R, R = jR N := ⟨_, rfl⟩
    obtain ⟨K, hK⟩ : ∃ K, K = jC N := ⟨_, rfl⟩
    have Hsp := Lib.hid (show spread N = tab R K (sF A A.length) by rw [hR, hK, hA]; rfl)
    obtain ⟨L, hL⟩ : ∃ L, L = lim1 N := ⟨_, rfl⟩
    rw [← hR, ← hK] at C1
    rw [← hL] at C2 C3
    rw [← hA] at C2 hl HA
    rw [← hR] at HA hs2 hs5
    rw [← hK] at HA hs3 hs4
    have hAm : A.length ≤ 9223372036854775807 := by omega
    clear p hz hs1 hA hR hK hL
    go_enter Try.func41, Try.ntmps41
    go_wp2_with fail
    refine C.out.mono ?_
    rintro e w1 ⟨ha, hb⟩
    obtain rfl := ha.is Hp.out
    have Hb := Lib.hid hb
    clear ha hb
    go_wp2_with fail
    refine (C1.out w1).mono ?_
    rintro e w2 ⟨vs, rfl, hv, hb⟩
    obtain ⟨G, hG⟩ : ∃ G, G = w1.heap.size := ⟨_, rfl⟩
    rw [← hG] at hv ⊢
    have Hr0 := Lib.hid (show ∀ i, i < R → ∀ g, (vs.getD i undef).ownBlock = some g → g < w2.heap.size from fun i hi g hg2 => ((hv.rows i hi).lt g hg2).2)
    have Hv := Lib.hid (show OwnP w2 w.heap.size (.slice (some ⟨G, 0, none⟩) R R) R (tab R K fun _ _ => 0) R vs from hv.base (by rw [hG]; exact Hb.out.size))
    have Hb2 := Lib.hid (Hb.out.trans (hb.mono Hb.out.size))
    clear hv hb hG Hb C1
    go_wp2_with fail
    refine (C3.out w2).mono ?_
    rintro e w3 ⟨v, rfl, hv, hb⟩
    obtain ⟨la, lc, rfl, _, _, hI⟩ := hv.read
    have HI := Lib.hid hI
    have Hz := Lib.hid hb.size
    have Hv3 := Lib.hid (Hv.out.below hb)
    have Hb3 := Lib.hid (Hb2.out.trans (hb.mono Hb2.out.size))
    clear hv hb hI Hv Hb2
    go_wp2_with fail
    refine (C2.out la lc w3 HI.out).mono ?_
    rintro e w4 ⟨v4, ts, uss, rfl, hv4, hb4⟩
    obtain ⟨ta, tc, rfl, ht1, ht2⟩ := hv4.head
    have Ht := Lib.hid (Hv3.out.below hb4)
    obtain ⟨X, hX⟩ : ∃ X : Nat → Prop, X = fun H => ∃ p, p < R ∧ (vs.getD p undef).ownBlock = some H := ⟨_, rfl⟩
    have HX := Lib.hid (show ∀ p, p < R → ∀ g, (vs.getD p undef).ownBlock = some g → X g from fun p hp g h => by rw [hX]; exact ⟨p, hp, h⟩)
    have Hv4 := Lib.hid (hv4.toWX (X := X) (fun H hH => by
      rw [hX] at hH
      obtain ⟨p, hp, hH⟩ := hH
      have := Hr0.out p hp H hH
      have := Hz.out
      omega))
    have Hb4 := Lib.hid (Hb3.out.trans (hb4.mono Hb3.out.size))
    clear hv4 hb4 hX Hv3 Hb3 C2 C3 HI Hz Hr0
    go_wp2
    go_loopw [16] (fun i wq => ∃ (t : Nat) (f : Nat → Nat → Int), t ≤ A.length ∧ i = .int .i64 t ∧ OwnP wq w.heap.size (.slice (some ⟨G, 0, none⟩) R R) R (tab R K f) R vs ∧ (∀ a b, a < R → b < K → f a b = sF A t a b) ∧ OwnWX wq w3.heap.size X (.slice ta A.length tc) A ts ∧ Below w.heap.size w wq) (fun i _ => A.length - (intOf i).toNat)
    case atStart => exact ⟨0, _, Nat.zero_le _, rfl, Ht.out, fun _ _ _ _ => rfl, Hv4.out, Hb4.out⟩
    case round =>
      rename World => wq
      obtain ⟨t, f, htt, rfl, hown, heq, hlist, hbq⟩ := hrel
      have Hown := Lib.hid hown
      have Heq := Lib.hid heq
      have Hlist := Lib.hid hlist
      have Hbq := Lib.hid hbq
      have HBq := Lib.hid hbq.size
      clear hown heq hlist hbq Ht Hv4
      by_cases hlt2 : t < A.length
      · obtain ⟨b1, o1, r1, d1, e1, hc1, hm1, _, _⟩ := Hlist.out.toW.at hlt2
        obtain ⟨hgd, j1, j2, f1, f2⟩ := HA.out _ (gt_mem hlt2)
        have CI := Lib.hid (fun wx (hx : Below wq.heap.size wq wx) => plane_parts r1 d1 (gt A t) wx hgd (hm1.below hx))
        have CM := Lib.hid (fun wx (hx : Below wq.heap.size wq wx) => plane_special r1 d1 (gt A t) wx hgd (hm1.below hx))
        have hbd := sF_bd A t (pN (gt A t)) (qN (gt A t))
        have HS := Lib.hid (fun p k => (show sF A (t + 1) p k = if p = pN (gt A t) ∧ k = qN (gt A t) then sF A t (pN (gt A t)) (qN (gt A t)) + 1 else sF A t p k from sF_step A t p k))
        have hfv := Heq.out _ _ j1 j2
        have hgl : (gt A t).length ≤ 9223372036854775807 := by have := (hgd.bounds (by omega)).1; omega
        rw [f1] at CI
        rw [f2] at CM
        subst e1
        obtain ⟨M, hM⟩ : ∃ M, M = gt A t := ⟨_, rfl⟩
        rw [← hM] at j1 j2 CI CM hbd HS hfv hc1 hgl
        obtain ⟨p, hp⟩ : ∃ p, p = pN M := ⟨_, rfl⟩
        rw [← hp] at j1 hbd HS hfv CI
        obtain ⟨q, hq⟩ : ∃ q, q = qN M := ⟨_, rfl⟩
        rw [← hq] at j2 hbd HS hfv CM
        obtain ⟨y, hy⟩ : ∃ y, y = sF A t p q := ⟨_, rfl⟩
        rw [← hy] at hbd HS hfv
        obtain ⟨g, cap, hvs, hd2, hf2, hg, _⟩ := Hown.out.at2 j1 j2
        have hd := Hown.out.cellAt p j1
        rw [hvs] at hd
        rw [hfv] at hd2
        have hXg : X g := HX.out p j1 g (by rw [hvs]; rfl)
        have hfacts : ∀ w'', Below wq.heap.size wq w'' → w''.cell? ⟨G, p, none⟩ = some (.slice (some ⟨g, 0, none⟩) K cap) ∧ w''.cell? ⟨g, q, none⟩ = some (.int .i64 y) ∧ w''.frozen? ⟨g, q, none⟩ = false := fun w'' hb => by
          obtain ⟨g', cap', hvs', _, hf', _, _⟩ := (Hown.out.below hb).at2 j1 j2
          rw [hvs] at hvs'
          cases hvs'
          exact ⟨cell_below hd hb, cell_below hd2 hb, hf'⟩
        have hst : ∀ w'', Below wq.heap.size wq w'' → OwnP (w''.setCell ⟨g, q, none⟩ (.int .i64 (y + 1))) w.heap.size (.slice (some ⟨G, 0, none⟩) R R) R (tab R K fun a b => if a = p ∧ b = q then y + 1 else f a b) R vs := fun w'' hb => by
          obtain ⟨g', cap', hvs', _, _, _, hst'⟩ := (Hown.out.below hb).at2 j1 j2
          rw [hvs] at hvs'
          cases hvs'
          exact hst' _
        have hls : ∀ w'', Below wq.heap.size wq w'' → OwnWX (w''.setCell ⟨g, q, none⟩ (.int .i64 (y + 1))) w3.heap.size X (.slice (some ⟨b1, o1, none⟩) A.length tc) A ts := fun w'' hb => by
          have hrow := (Hown.out.below hb).rows p j1
          rw [hvs] at hrow
          exact (Hlist.out.below hb).store hrow hXg q _
        have Hfacts := Lib.hid hfacts
        have Hst := Lib.hid hst
        have Hls := Lib.hid hls
        have Hg := Lib.hid hg
        have HBc := Lib.hid (show Below wq.heap.size wq wq.drew from below_drewN (Below.refl _ _) 1)
        clear hm1 hgd hM hp hq hfv hy f1 f2 hvs hd hd2 hf2 hg hXg hfacts hst hls Hlist Hown
        go_wp2
        go_region_with (first
          | (go_at_call 79; refine (CI.out _ HBc.out).mono ?_; rintro e w5 ⟨rfl, hb5⟩; have HBd := Lib.hid (HBc.out.trans (hb5.mono HBc.out.size)); clear hb5 HBc; have HBc := HBd; clear HBd; obtain ⟨q0, q1, q2⟩ := Hfacts.out _ HBc.out)
          | (go_at_call 81; refine (CM.out _ HBc.out).mono ?_; rintro e w5 ⟨rfl, hb5⟩; have HBd := Lib.hid (HBc.out.trans (hb5.mono HBc.out.size)); clear hb5 HBc; have HBc := HBd; clear HBd; obtain ⟨q0, q1, q2⟩ := Hfacts.out _ HBc.out))
        all_goals
          have HSn := Lib.hid (Hst.out _ HBc.out)
          have HLn := Lib.hid (Hls.out _ HBc.out)
          have HBn := Lib.hid ((Hbq.out.trans (HBc.out.mono HBq.out)).setCell (p := ⟨g, q, none⟩) Hg.out (.int .i64 (y + 1)))
          clear q0 q1 q2 hc1 CI CM Hfacts Hst Hls
          go_wp2
          go_roundw
          case rel =>
            refine ⟨t + 1, _, by omega, by go_num, HSn.out, fun a b ha hb => ?_, HLn.out, HBn.out⟩
            rw [HS.out]
            by_cases e : a = p ∧ b = q
            · rw [if_pos e, if_pos e]
            · rw [if_neg e, if_neg e]; exact Heq.out a b ha hb
          case measure => simp [intOf]; omega
      · obtain rfl : t = A.length := by omega
        have hfin : OwnM wq w.heap.size (.slice (some ⟨G, 0, none⟩) R R) (spread N) := by
          have e : spread N = tab R K f := by
            rw [Hsp.out]
            exact eq_tab (tab_len _ _ _) (fun i hi => tab_row hi) (fun i j hi hj => by rw [gi_tab hi hj, ← Heq.out i j hi hj])
          exact ⟨vs, by rw [e, tab_len]; exact Hown.out⟩
        have Hfin := Lib.hid hfin
        clear hfin
        go_wp2
        go_ret2
        exact ⟨MRes.yes Hp.out Hfin.out, Hbq.out⟩
  · have H := Lib.hid p
    clear p
    go_enter Try.func41, Try.ntmps41
    go_wp2_with fail
    refine C.out.mono ?_
    rintro e w1 ⟨ha, hb⟩
    obtain rfl := ha.isnt H.out
    clear ha
    go_wp2
    go_ret2
    exact ⟨MRes.no H.out, hb⟩
end Go.Proofs.Ytfempacfaeknpaa

