/- Parts of proofs: contracts and plain facts. Conditions: as each says. -/
import Derived.Test.YtmkldodkpijfjaaDoorK21
namespace Go.Proofs.YtmkldodkpijfjaaDoor
open Go.RowKit

theorem OwnT.setOther {w : World} {B B' n' : Nat} {x v : Value} {m : List (List Int)} {vs ys : List Value} {e' : TypeId} {g i : Nat} (h : OwnT w B x m vs) (k : w.ownsRow B' e' 1 v n' ys) (hv : v.ownBlock = some g) (h1 : 22 ≠ e') (h2 : 3 ≠ e') (u : Value) : OwnT (w.setCell ⟨g, i, none⟩ u) B x m vs :=
  ⟨Go.ownsRow_setCell_other h.top (fun e => row_apart h.top k h1 g e hv) u, fun j hj => Go.ownsRow_setCell_other (h.rows j hj) (fun e => row_apart (h.rows j hj) k h2 g e hv) u, h.apart⟩
/-- a table upside down has its rows apart if the table had -/
theorem OwnT.turned {w : World} {B : Nat} {v : Value} {m : List (List Int)} {svs : List Value} (h : OwnR w B v m svs.reverse) (hl : svs.length = svs.length) (hap : ∀ a b, a < b → b < svs.length → ∀ g, (svs.getD a undef).ownBlock = some g → (svs.getD b undef).ownBlock ≠ some g) : OwnT w B v m svs.reverse := by
  have hlen := h.len
  rw [List.length_reverse] at hlen
  refine ⟨h.top, h.rows, fun i j hij hj g hg hg2 => ?_⟩
  simp only [List.getD] at hg hg2
  rw [List.getElem?_reverse (by omega)] at hg
  rw [List.getElem?_reverse (by omega)] at hg2
  exact hap (svs.length - 1 - j) (svs.length - 1 - i) (by omega) (by omega) g hg2 hg
/-- a list of tables of which the first k have all rows apart -/
structure AsUp (w : World) (B : Nat) (v : Value) (ts : List (List (List Int))) (k : Nat) (vs : List Value) (uss : List (List Value)) : Prop where
  list : OwnRL w B v ts vs
  num : uss.length = k
  le : k ≤ ts.length
  each : ∀ i, i < k → OwnT w B (vs.getD i undef) (gt ts i) (ug uss i)
  apart : ∀ i j, i < j → j < k → Apart2 (ug uss i) (ug uss j)
theorem AsUp.start {w : World} {B : Nat} {v : Value} {ts : List (List (List Int))} {vs : List Value} (h : OwnRL w B v ts vs) : AsUp w B v ts 0 vs [] := ⟨h, rfl, Nat.zero_le _, fun i hi => absurd hi (by omega), fun i j _ hj => absurd hj (by omega)⟩
theorem AsUp.below {w w' : World} {B k : Nat} {v : Value} {ts : List (List (List Int))} {vs : List Value} {uss : List (List Value)} (h : AsUp w B v ts k vs uss) (hb : Below w.heap.size w w') : AsUp w' B v ts k vs uss := ⟨h.list.below hb, h.num, h.le, fun i hi => (h.each i hi).below hb, h.apart⟩
theorem AsUp.old {w : World} {B k : Nat} {v : Value} {ts : List (List (List Int))} {vs : List Value} {uss : List (List Value)} (h : AsUp w B v ts k vs uss) {i p g : Nat} (hi : i < k) (hp : p < (ug uss i).length) (hg : ((ug uss i).getD p undef).ownBlock = some g) : g < w.heap.size :=
  ((h.each i hi).old p (by rw [← (h.each i hi).len]; exact hp) g hg).2
theorem AsUp.finish {w : World} {B k : Nat} {v : Value} {ts : List (List (List Int))} {vs : List Value} {uss : List (List Value)} (h : AsUp w B v ts k vs uss) (hk : ts.length = k) : OwnL w B v ts vs uss :=
  ⟨h.list.top, by rw [h.num, hk], fun i hi => h.each i (by omega), fun i j hij hj => h.apart i j hij (by omega)⟩
theorem AsUp.set {w : World} {B g n c k i : Nat} {ts : List (List (List Int))} {vs zs : List Value} {uss : List (List Value)} {v : Value} {M : List (List Int)} (h : AsUp w B (.slice (some ⟨g, 0, none⟩) n c) ts k vs uss) (hik : i = k) (hi : i < ts.length) (hv : OwnT w B v M zs)
    (hap : ∀ a, a < k → Apart2 (ug uss a) zs) : AsUp (w.setCell ⟨g, i, none⟩ v) B (.slice (some ⟨g, 0, none⟩) n c) (ts.set i M) (i + 1) (vs.set i v) (uss ++ [zs]) := by
  subst hik
  have hl := h.list.len
  have hn := h.num
  refine ⟨h.list.set hi ⟨hv.top, hv.rows⟩, by simp [hn], by rw [List.length_set]; omega, fun j hj => ?_, fun a b hab hb => ?_⟩
  · by_cases e : j = i
    · subst e
      have e1 : (vs.set j v).getD j undef = v := by simp [List.getD, hl, hi]
      have e2 : gt (ts.set j M) j = M := by unfold gt; simp [List.getD, hi]
      rw [e1, e2, ug_right (by omega), hn, Nat.sub_self]
      exact hv.setOther h.list.top rfl (by decide) (by decide) v
    · have e1 : (vs.set i v).getD j undef = vs.getD j undef := by simp only [List.getD]; rw [List.getElem?_set_ne (fun h => e h.symm)]
      have e2 : gt (ts.set i M) j = gt ts j := by unfold gt; simp only [List.getD]; rw [List.getElem?_set_ne (fun h => e h.symm)]
      rw [e1, e2, ug_left (by omega)]
      exact (h.each j (by omega)).setOther h.list.top rfl (by decide) (by decide) v
  · rw [ug_left (by omega)]
    by_cases e : b = i
    · subst e
      rw [ug_right (by omega), hn, Nat.sub_self]
      exact hap a (by omega)
    · rw [ug_left (by omega)]
      exact h.apart a b hab (by omega)

set_option maxRecDepth 100000 in
set_option maxHeartbeats 3200000 in
theorem allSignsL_any (n : Nat) (w : World) (h1 : 1 ≤ n) (h5 : n ≤ 5) (hD : Dj w) :
    Calls Tryd.prog 44 #[.int .i64 (n : Int)] w fun e w' => ∃ v, e = .returned v ∧ OwnLM w' w.heap.size v (allI n) ∧ Below w.heap.size w w' := by
  have hcols := tris_cols n (by omega)
  have C := Lib.hid (triangles_any (n - 1) (fullR n) w (by omega) (fullR_rise (by omega)) (by rw [fullR_len]; omega) hD)
  rw [fullR_ok n (by omega)] at C
  have hTl := trisD_le (n - 1) (fullR n) (fullR_rise (by omega)) (by rw [fullR_len]; omega)
  have hTb := trB_le (n - 1) (by omega)
  obtain ⟨T, hT⟩ : ∃ T, T = trisD (n - 1) (fullR n) := ⟨_, rfl⟩
  rw [← hT] at hcols C hTl
  have HV := Lib.hid (show allI n = T.map flipT by rw [hT]; rfl)
  have Hcols := Lib.hid (show ∀ t, t ∈ T → t.length = n ∧ colsOk t from fun t ht => (hcols t ht).resolve_left (by omega))
  have hTn : T.length ≤ 1099511627776 := Nat.le_trans hTl hTb
  obtain ⟨q, hq⟩ : ∃ q : Int, q = ((2 ^ n - 1 : Nat) : Int) := ⟨_, rfl⟩
  have CA := Lib.hid (allColumns_any n w (by omega))
  rw [← hq] at C CA
  clear hcols hT hTl hTb hD hq
  go_enter Tryd.func44, Tryd.ntmps44
  go_wp2_with fail
  refine CA.out.mono ?_
  rintro e w1 ⟨rfl, rfl⟩
  go_wp2_with fail
  refine C.out.mono ?_
  rintro e w2 ⟨v, vs, rfl, hv, _, hb⟩
  obtain ⟨ta, tc, rfl, ht1, ht2⟩ := hv.head
  have Hv := Lib.hid hv
  have Hb := Lib.hid hb
  clear hv hb C CA
  go_wp2
  go_loopw [11] (fun i wr => ∃ (k : Nat) (vs : List Value) (uss : List (List Value)), k ≤ T.length ∧ i = .int .i64 k ∧ AsUp wr w.heap.size (.slice ta T.length tc) (mixT T k) k vs uss ∧ Below w.heap.size w wr) (fun i _ => T.length - (intOf i).toNat)
  case atStart => exact ⟨0, vs, [], Nat.zero_le _, rfl, by rw [mixT_zero]; exact AsUp.start Hv.out, Hb.out⟩
  case round =>
    obtain ⟨k, vs, uss, hk, rfl, hup, hbr⟩ := hrel
    have Hup := Lib.hid hup
    have hown := hup.list
    clear hup
    clear Hv Hb
    have Hown := Lib.hid hown
    have Hbr := Lib.hid hbr
    have HBr := Lib.hid hbr.size
    by_cases hlt : k < T.length
    · obtain ⟨g, rfl, hg1, hg2⟩ := hown.isAt (by rw [mixT_len]; omega)
      obtain ⟨b1, o1, r1, d1, e1, hc1, hm1, _, _⟩ := hown.at (i := k) (by rw [mixT_len]; exact hlt)
      cases e1
      rw [Nat.zero_add] at hc1
      rw [mixT_at hlt] at hc1 hm1
      obtain ⟨hl1, hco⟩ := Hcols.out _ (gt_mem hlt)
      have CS := Lib.hid (signsOf_any r1 d1 (gt T k) wr hco hm1)
      have Hset := Lib.hid (show (mixT T k).set k (flipT (gt T k)) = mixT T (k + 1) from mixT_set hlt)
      have Hfl := Lib.hid (show (fromTab (gt T k)).length = n by rw [fromTab_len]; exact hl1)
      rw [hl1] at hc1 CS
      clear hown hbr hm1 hl1 hco
      go_wp2_with fail
      refine CS.out.mono ?_
      rintro e w3 ⟨v3, rfl, hv3, hb3⟩
      obtain ⟨sa, scp, svs, rfl, hsp, _, _⟩ := hv3.open
      have CU := Lib.hid (upsideDownR_any w.heap.size sa scp (fromTab (gt T k)) svs w3 (by rw [Hfl.out]; omega) (by rw [Hfl.out]; omega) (Nat.le_trans HBr.out hb3.size) (hsp.toR.base HBr.out))
      rw [Hfl.out] at CU ⊢
      have Hb3 := Lib.hid hb3
      have Hsp := Lib.hid hsp
      clear hv3 hb3 hsp CS
      go_wp2_with fail
      refine CU.out.mono ?_
      rintro e w4 ⟨v4, rfl, hv4, hb4⟩
      have hb34 := Hb3.out.trans (hb4.mono Hb3.out.size)
      have hown4 := Hown.out.below hb34
      have hfr : w4.frozen? ⟨g, k, none⟩ = false := by
        have h := hown4.top
        rw [mixT_len] at h
        exact World.ownsRow.frozenAt h k
      have hcell : w4.cell? ⟨g, k, none⟩ = some (.slice r1 n d1) := cell_below hc1 hb34
      have hT4 : OwnT w4 w.heap.size v4 (flipT (gt T k)) svs.reverse := OwnT.turned hv4 (by have h1 := Hsp.out.top.1; simp at h1; rw [h1]) (fun a b hab hb => Hsp.out.apart a b hab (by have h1 := Hsp.out.top.1; simp at h1; omega))
      have hset := (Hup.out.below hb34).set (i := k) rfl (by rw [mixT_len]; exact hlt) hT4 (fun a ha => fun p q hp hq g2 hg2 hg3 => by
        have hlt2 := Hup.out.old ha hp hg2
        have hq2 : q < svs.length := by rw [List.length_reverse] at hq; exact hq
        rw [List.getD, List.getElem?_reverse hq2] at hg3
        have h1 := Hsp.out.top.1
        simp at h1
        have hge := (Hsp.out.rows (svs.length - 1 - q) (by omega)).lt g2 hg3
        omega)
      rw [Hset.out] at hset
      have Hs := Lib.hid hset
      have Hbs := Lib.hid ((Hbr.out.trans (hb34.mono HBr.out)).setCell (p := ⟨g, k, none⟩) hg1 v4)
      obtain ⟨va, vc, hvv, _, _, _⟩ := hv4.read
      rw [List.length_reverse, Hfl.out] at hvv
      subst hvv
      clear hv4 hb4 hb34 hown4 hset CU hc1
      go_wp2
      go_roundw
      case rel => exact ⟨k + 1, _, _, by omega, by go_num, Hs.out, Hbs.out⟩
      case measure => simp [intOf]; omega
    · obtain rfl : k = T.length := by omega
      have HF := Lib.hid (show OwnLM wr w.heap.size (.slice ta T.length tc) (allI n) from ⟨vs, uss, by
        have h1 := Hup.out
        rw [mixT_end, ← HV.out] at h1
        exact h1.finish (by rw [HV.out, List.length_map])⟩)
      clear hown hbr Hup
      go_wp2
      go_ret
      exact ⟨_, rfl, HF.out, Hbr.out⟩
end Go.Proofs.YtmkldodkpijfjaaDoor

namespace Go.Proofs.YtmkldodkpijfjaaDoor
open Go.RowKit

theorem compl_sub (n : Nat) (s : List Int) : (compl n s).Sublist (iota n) := List.filter_sublist
theorem compl_rise {n : Nat} (h6 : n ≤ 6) (s : List Int) : Rise (compl n s) := ⟨sub_up (compl_sub n s), fun x hx => by have := sub_cols (compl_sub n s) x hx; omega⟩
theorem compl_le {n : Nat} (h6 : n ≤ 6) (s : List Int) : (compl n s).length ≤ 6 := by
  have := (compl_sub n s).length_le
  rw [iota_len] at this
  omega
theorem compl_nil (n : Nat) : compl n [] = fullR n := by
  have e : compl n [] = iota n := by
    unfold compl
    rw [List.filter_eq_self]
    intro x _
    simp
  rw [e]
  unfold iota rng fullR
  rw [show ((n : Int) - 1 - 0 + 1).toNat = n from by omega]
  exact List.map_congr_left fun i _ => by simp
theorem compl_nil_mask {n : Nat} (h6 : n ≤ 6) : mask (compl n []) = 2 ^ n - 1 := by rw [compl_nil, fullR_ok n (by omega)]
/-- there is a sign matrix with this rank -/
def atOk (n r : Int) : Prop := (1 ≤ n ∧ n ≤ 6) ∧ 0 ≤ r ∧ r < (cI n.toNat : Nat)

set_option maxRecDepth 100000 in
set_option maxHeartbeats 800000 in
theorem specSignsAt_any (n r : Int) (w : World) (hn : -9223372036854775808 ≤ n ∧ n ≤ 9223372036854775807) (hr : -9223372036854775808 ≤ r ∧ r ≤ 9223372036854775807) :
    Calls Tryd.prog 31 #[.int .i64 n, .int .i64 r] w fun e w' => MRes (atOk n r) (outM n.toNat r n.toNat) w' w.heap.size e ∧ Below w.heap.size w w' := by
  by_cases h16 : 1 ≤ n ∧ n ≤ 6
  · obtain ⟨N, rfl⟩ : ∃ N : Nat, n = (N : Int) := ⟨n.toNat, by omega⟩
    have h1 : 1 ≤ N := by omega
    have h6 : N ≤ 6 := by omega
    have hc := waysB_all h1 h6
    have hcb := waysB_bd h1 h6 (s := []) (List.nil_sublist _)
    have Ht := trTotal_any N h1 h6 w
    have ew : wrap64 (waysB N []) = (cI N : Nat) := by rw [hc] at hcb ⊢; unfold wrap64; omega
    rw [ew] at Ht
    rw [hc] at hcb
    obtain ⟨C, hC⟩ : ∃ C : Nat, C = cI N := ⟨_, rfl⟩
    rw [← hC] at Ht hcb
    have HC := Lib.hid hC
    have Ht := Lib.hid Ht
    have Hat := Lib.hid (fun (w : World) (h0 : 0 ≤ r) (hr : r < (C : Int)) => trAt_any N r w h1 h6 h0 (by rw [hC] at hr; exact hr))
    clear hc ew hC
    by_cases hP : 0 ≤ r ∧ r ≤ (C : Int) - 1
    · have HP := Lib.hid (show atOk (N : Int) r from ⟨h16, hP.1, by rw [Int.toNat_natCast, ← HC.out]; omega⟩)
      have Hp := Lib.hid hP
      clear hP
      go_enter Tryd.func31, Tryd.ntmps31
      go_wp2_with fail
      refine (l1In_any (N : Int) 1 6 w).mono ?_
      rintro e w2 ⟨ha, rfl⟩
      obtain rfl := ha.is h16
      clear ha
      go_wp2_with fail
      refine Ht.out.mono ?_
      rintro e w3 ⟨rfl, hb3⟩
      have Hb3 := Lib.hid hb3
      clear hb3
      go_wp2_with fail
      refine (l1In_any r 0 ((C : Int) - 1) w3).mono ?_
      rintro e w4 ⟨ha, rfl⟩
      obtain rfl := ha.is Hp.out
      clear ha
      go_wp2_with fail
      refine (Hat.out w3 Hp.out.1 (by have := Hp.out.2; omega)).mono ?_
      rintro e w5 ⟨v, rfl, hv, hb5⟩
      have Hv := Lib.hid (hv.base Hb3.out.size)
      have Hb5 := Lib.hid (Hb3.out.trans (hb5.mono Hb3.out.size))
      clear hv hb5
      go_wp2
      go_ret2
      exact ⟨MRes.yes HP.out Hv.out, Hb5.out⟩
    · have HP := Lib.hid (show ¬ atOk (N : Int) r from fun h => hP ⟨h.2.1, by have := h.2.2; rw [Int.toNat_natCast, ← HC.out] at this; omega⟩)
      have Hp := Lib.hid hP
      clear hP
      go_enter Tryd.func31, Tryd.ntmps31
      go_wp2_with fail
      refine (l1In_any (N : Int) 1 6 w).mono ?_
      rintro e w2 ⟨ha, rfl⟩
      obtain rfl := ha.is h16
      clear ha
      go_wp2_with fail
      refine Ht.out.mono ?_
      rintro e w3 ⟨rfl, hb3⟩
      have Hb3 := Lib.hid hb3
      clear hb3
      go_wp2_with fail
      refine (l1In_any r 0 ((C : Int) - 1) w3).mono ?_
      rintro e w4 ⟨ha, rfl⟩
      obtain rfl := ha.isnt Hp.out
      clear ha
      go_wp2
      go_ret2
      exact ⟨MRes.no HP.out, Hb3.out⟩
  · have HP := Lib.hid (show ¬ atOk n r from fun h => h16 h.1)
    have Hp := Lib.hid h16
    clear h16
    go_enter Tryd.func31, Tryd.ntmps31
    go_wp2_with fail
    refine (l1In_any n 1 6 w).mono ?_
    rintro e w2 ⟨ha, rfl⟩
    obtain rfl := ha.isnt Hp.out
    clear ha
    go_wp2
    go_ret2
    exact ⟨MRes.no HP.out, Below.refl _ _⟩

set_option maxRecDepth 100000 in
set_option maxHeartbeats 3200000 in
theorem implSignsAt_any (n r : Int) (w : World) (hn : -9223372036854775808 ≤ n ∧ n ≤ 9223372036854775807) (hr : -9223372036854775808 ≤ r ∧ r ≤ 9223372036854775807) (hD : Dj w) :
    Calls Tryd.prog 32 #[.int .i64 n, .int .i64 r] w fun e w' => MRes (atOk n r) (outM n.toNat r n.toNat) w' w.heap.size e ∧ Below w.heap.size w w' := by
  have Hcs := Lib.hid (implCountSigns_any n w)
  by_cases h16 : 1 ≤ n ∧ n ≤ 6
  · obtain ⟨N, rfl⟩ : ∃ N : Nat, n = (N : Int) := ⟨n.toNat, by omega⟩
    have h1 : 1 ≤ N := by omega
    have h6 : N ≤ 6 := by omega
    have hin : inR (N : Int) := ⟨by omega, by omega⟩
    have hn6 : ¬ ((6 : Int) < (N : Int)) := by omega
    by_cases hP : 0 ≤ r ∧ r < (cI N : Nat)
    · have HP := Lib.hid (show atOk (N : Int) r from ⟨h16, hP.1, by rw [Int.toNat_natCast]; exact hP.2⟩)
      have Hok := Lib.hid (fun k (hk : k ≤ N) => atSt_ok h1 h6 hP.1 hP.2 k hk)
      have Hnx := Lib.hid (fun k (hk : k < N) => (atSt_next h1 h6 hP.1 hP.2 hk).2)
      have Hro := Lib.hid (rest_out h1 h6 hP.1 hP.2)
      have HD := Lib.hid hD
      have Hin := Lib.hid hin
      have hr0 : ¬ (r < 0) := by omega
      have hd0 : decide (r < 0) = false := by simpa using hr0
      obtain ⟨C, hC⟩ : ∃ C : Nat, C = cI N := ⟨_, rfl⟩
      have hd1 : decide ((C : Int) ≤ r) = false := by rw [hC]; simp; exact hP.2
      have hd2 : decide ((6 : Int) < (N : Int)) = false := by simpa using hn6
      rw [Int.toNat_natCast] at Hcs
      rw [← hC] at Hcs
      clear hP hD hin hC hr0 hn6 hn hr h16
      rw [Int.toNat_natCast]
      have Hac := Lib.hid (allColumns_any N w (by omega))
      have Hmk := Lib.hid (show (((2 ^ N - 1 : Nat) : Int)) = ((mask (compl N []) : Nat) : Int) by rw [compl_nil_mask h6])
      rw [Hmk.out] at Hac
      go_enter Tryd.func32, Tryd.ntmps32
      go_wp2_with fail
      refine Hcs.out.mono ?_
      rintro e w2 ⟨⟨y, b, rfl, hy⟩, rfl⟩
      obtain ⟨rfl, rfl⟩ : b = true ∧ y = (C : Int) := by
        rcases hy with ⟨_, h2, h3⟩ | ⟨h2, _⟩
        · exact ⟨h2, h3⟩
        · exact absurd Hin.out h2
      clear hy
      go_wp2_with fail
      refine Hac.out.mono ?_
      rintro e w2 ⟨rfl, rfl⟩
      have Hrow := Lib.hid (row_any (compl_rise h6 []) (compl_le h6 []) w HD.out)
      obtain ⟨mm, hmm⟩ : ∃ mm : Int, mm = ((mask (compl N []) : Nat) : Int) := ⟨_, rfl⟩
      rw [← hmm] at Hrow ⊢
      have Hmm := Lib.hid hmm
      clear hmm Hac Hcs
      go_wp2_with fail
      refine Hrow.out.mono ?_
      rintro e w3 ⟨v, rfl, hv, hb3⟩
      have Hone := Lib.hid (OwnT.one hv hb3.size)
      obtain ⟨ra, rc, rfl, _, _, _⟩ := hv.read
      have Hb3 := Lib.hid (hb3.alloc hb3.size (.cells #[.slice ra (compl N []).length rc] 22))
      clear hv hb3 Hrow
      go_wp2
      go_loopw [1, 8, 9] (fun q sv ov wr => ∃ (k : Nat) (vs : List Value), k + 1 ≤ N ∧ q = .int .i64 (atSt N r k).2 ∧ sv = .int .u64 (mask (compl N (atSt N r k).1) : Nat) ∧ OwnT wr w.heap.size ov (restM N r (k + 1)) vs ∧ Below w.heap.size w wr) (fun _ _ ov _ => N - (match ov with | .slice _ l _ => l | _ => 0))
      case atStart => exact ⟨0, _, h1, rfl, by rw [Hmm.out]; rfl, Hone.out, Hb3.out⟩
      case round =>
        obtain ⟨k, vs, hk, rfl, rfl, hov, hbr⟩ := hrel
        obtain ⟨oa, oc, rfl, ho1, ho2, hom⟩ := hov.read
        obtain ⟨wo, rfl⟩ : ∃ wo : World, wo = wr := ⟨_, rfl⟩
        have Hov := Lib.hid hov
        rw [restM_len] at Hov ho1 ⊢
        have Hbr := Lib.hid hbr
        have Hbs := Lib.hid hbr.size
        have Hom := Lib.hid hom
        clear hov hbr hom
        by_cases hlt : k + 1 < N
        · have hnx := Hnx.out k (by omega) hlt
          have hX := compl_rise h6 (atSt N r k).1
          have hXl := compl_le h6 (atSt N r k).1
          have hsa := setsAbove_any hX hXl wo (HD.out.next Hbr.out)
          have hrs := restM_succ N r (k + 1)
          have hY := compl_rise h6 (atSt N r (k + 1)).1
          have hYl := compl_le h6 (atSt N r (k + 1)).1
          obtain ⟨Y, hYe⟩ : ∃ Y, Y = compl N (atSt N r (k + 1)).1 := ⟨_, rfl⟩
          rw [← hYe] at hnx hrs hY hYl
          obtain ⟨X, hXe⟩ : ∃ X, X = compl N (atSt N r k).1 := ⟨_, rfl⟩
          rw [← hXe] at hnx hX hXl hsa
          rw [← hXe]
          obtain ⟨q0, hq0⟩ : ∃ q0, q0 = (atSt N r k).2 := ⟨_, rfl⟩
          rw [← hq0] at hnx
          rw [← hq0]
          obtain ⟨mX, hmX⟩ : ∃ mX : Int, mX = ((mask X : Nat) : Int) := ⟨_, rfl⟩
          rw [← hmX] at hsa
          rw [← hmX]
          have HX := Lib.hid (And.intro hX hXl)
          have HY := Lib.hid (And.intro hY hYl)
          have Hsa := Lib.hid hsa
          have Hnxt := Lib.hid hnx
          have Hrs := Lib.hid hrs
          have HYe := Lib.hid hYe
          clear hX hXl hsa hrs hY hYl hnx hYe hXe hq0 hmX
          go_wp2_with fail
          refine Hsa.out.mono ?_
          rintro e w4 ⟨v, rfl, hv, hb4⟩
          obtain ⟨sa, sc, rfl, _, _, hs⟩ := hv.read
          have hal : (above X).length ≤ 1048576 := by
            have hlen := above_len HX.out.1
            have hpow : 16 ^ (X.length - 1) ≤ 16 ^ 5 := Nat.pow_le_pow_right (by omega) (by have := HX.out.2; omega)
            omega
          have hb04 := Hbr.out.trans (hb4.mono Hbs.out)
          have hch := chosen_any sa sc (above X) q0 w4 hal (fun b hb => ⟨(above_mem HX.out.1 hb).1, above_pos HX.out.1 hb, by have := (above_mem HX.out.1 hb).2; have := HX.out.2; omega⟩) hs (HD.out.next hb04)
          rw [Hnxt.out] at hch
          have Hch := Lib.hid hch
          have Hb4 := Lib.hid hb4
          have Hb04 := Lib.hid hb04
          obtain ⟨Al, hAl⟩ : ∃ Al, Al = (above X).length := ⟨_, rfl⟩
          rw [← hAl] at Hch ⊢
          obtain ⟨mY, hmY⟩ : ∃ mY : Int, mY = ((mask Y : Nat) : Int) := ⟨_, rfl⟩
          rw [← hmY] at Hch
          have HmY := Lib.hid hmY
          clear hv hb4 hs hb04 hch hal hAl hmY Hsa
          go_wp2_with fail
          refine Hch.out.mono ?_
          rintro e w5 ⟨rfl, hb5⟩
          have Hb5 := Lib.hid (Hb4.out.trans (hb5.mono Hb4.out.size))
          have Hb05 := Lib.hid (Hb04.out.trans (hb5.mono Hb04.out.size))
          have hrw := row_any HY.out.1 HY.out.2 w5 (HD.out.next Hb05.out)
          rw [← HmY.out] at hrw
          have Hrw := Lib.hid hrw
          clear hb5 hrw Hch
          go_wp2_with fail
          refine Hrw.out.mono ?_
          rintro e w6 ⟨v, rfl, hv, hb6⟩
          obtain ⟨ua, uc, rfl, _, _, _⟩ := hv.read
          have Hu := Lib.hid (hv.base (Hb05.out.size))
          have Hov6 := Lib.hid (Hov.out.below (Hb5.out.trans (hb6.mono Hb5.out.size)))
          have Hb06 := Lib.hid (Hb05.out.trans (hb6.mono Hb05.out.size))
          have Hne := Lib.hid (show ∀ j, j < (restM N r (k + 1)).length → ∀ g, (vs.getD j undef).ownBlock = some g → (Value.slice ua Y.length uc).ownBlock ≠ some g from fun j hj g hg hg2 => by
            have a := (Hov.out.old j hj g hg).2
            have b := (hv.lt g hg2).1
            have c := Hb5.out.size
            omega)
          clear hv hb6 Hrw
          go_wp2_with (at_builtin; refine wpList_rowT rfl _ _ rfl w.heap.size (.slice oa (k + 1) oc) _ (restM N r (k + 1)) vs Y Hov6.out Hu.out rfl rfl Hne.out Hb06.out.size (by rw [restM_len]; omega) ?_)
          intro v7 w7 hov7 _ hb7
          have Hov7 := Lib.hid hov7
          have Hb7 := Lib.hid (Hb06.out.trans hb7)
          obtain ⟨pa, pc, rfl, _, _, _⟩ := hov7.read
          clear hov7 hb7
          go_wp2
          go_roundw
          case rel => exact ⟨k + 1, _, by omega, rfl, by rw [HmY.out, HYe.out], by rw [Hrs.out]; exact Hov7.out, Hb7.out⟩
          case measure => simp [restM_len]; omega
        · obtain rfl : N = k + 1 := by omega
          have hud := upsideDown_any oa oc (restM (k + 1) r (k + 1)) wo (by rw [restM_len]; omega) (by rw [restM_len]; omega) Hom.out
          rw [restM_len] at hud
          have Hud := Lib.hid hud
          have hco : colsOk (restM (k + 1) r (k + 1)).reverse := by
            refine ⟨by rw [List.length_reverse, restM_len]; omega, by rw [List.length_reverse, restM_len]; omega, fun i hi => ?_⟩
            rw [List.length_reverse, restM_len] at hi ⊢
            rw [gr_reverse (by rw [restM_len]; exact hi), restM_len, gr_restM (by omega)]
            refine ⟨compl_le h6 _, fun j hj => ?_⟩
            have := sub_cols (compl_sub (k + 1) (atSt (k + 1) r (k + 1 - 1 - i)).1) (gi (compl (k + 1) (atSt (k + 1) r (k + 1 - 1 - i)).1) j) (by rw [gi_lt hj]; exact List.getElem_mem hj)
            omega
          have Hco := Lib.hid hco
          have Hfl := Lib.hid (show (restM (k + 1) r (k + 1)).reverse.length = k + 1 by rw [List.length_reverse, restM_len])
          obtain ⟨T, hT⟩ : ∃ T, T = (restM (k + 1) r (k + 1)).reverse := ⟨_, rfl⟩
          rw [← hT] at Hud Hco Hfl Hro
          have Hft := Lib.hid (show (fromTab T).length = k + 1 by rw [fromTab_len]; exact Hfl.out)
          clear hud hco hT Hom
          go_wp2_with fail
          refine Hud.out.mono ?_
          rintro e w4 ⟨v, rfl, ⟨g, d, rfl, _, hmr⟩, hb4⟩
          have CS := Lib.hid (signsOf_any (some ⟨g, 0, none⟩) d T w4 Hco.out hmr)
          rw [Hfl.out] at CS
          have Hb4 := Lib.hid (Hbr.out.trans (hb4.mono Hbs.out))
          clear hmr hb4 Hud
          go_wp2_with fail
          refine CS.out.mono ?_
          rintro e w5 ⟨v3, rfl, hv3, hb5⟩
          obtain ⟨sa, scp, svs, rfl, hsp, _, _⟩ := hv3.open
          have Hb5 := Lib.hid (Hb4.out.trans (hb5.mono Hb4.out.size))
          have CU := Lib.hid (upsideDownR_any w.heap.size sa scp (fromTab T) svs w5 (by rw [Hft.out]; omega) (by rw [Hft.out]; omega) Hb5.out.size (hsp.toR.base Hb4.out.size))
          rw [Hft.out] at CU ⊢
          have Hsp := Lib.hid hsp
          clear hv3 hb5 hsp CS
          go_wp2_with fail
          refine CU.out.mono ?_
          rintro e w6 ⟨v4, rfl, hv4, hb6⟩
          have Hb6 := Lib.hid (Hb5.out.trans (hb6.mono Hb5.out.size))
          have HT := Lib.hid (show OwnM w6 w.heap.size v4 (outM (k + 1) r (k + 1)) by
            rw [← Hro.out]
            exact ⟨_, OwnT.turned hv4 (by have h1 := Hsp.out.top.1; simp at h1; rw [h1]) (fun a b hab hb => Hsp.out.apart a b hab (by have h1 := Hsp.out.top.1; simp at h1; omega))⟩)
          clear hv4 hb6 CU
          go_wp2
          go_ret2
          exact ⟨MRes.yes HP.out HT.out, Hb6.out⟩
    · have HP := Lib.hid (show ¬ atOk (N : Int) r from fun h => hP ⟨h.2.1, by have := h.2.2; rw [Int.toNat_natCast] at this; exact this⟩)
      obtain ⟨C, hC⟩ : ∃ C : Nat, C = cI N := ⟨_, rfl⟩
      have Hin := Lib.hid hin
      have hd2 : decide ((6 : Int) < (N : Int)) = false := by simpa using hn6
      rw [Int.toNat_natCast, ← hC] at Hcs
      by_cases hr0 : r < 0
      · have hd0 : decide (r < 0) = true := by simpa using hr0
        clear hP hC hn6 hn hr h16 hin hD
        go_enter Tryd.func32, Tryd.ntmps32
        go_wp2_with fail
        refine Hcs.out.mono ?_
        rintro e w2 ⟨⟨y, b, rfl, hy⟩, rfl⟩
        obtain ⟨rfl, rfl⟩ : b = true ∧ y = (C : Int) := by
          rcases hy with ⟨_, h2, h3⟩ | ⟨h2, _⟩
          · exact ⟨h2, h3⟩
          · exact absurd Hin.out h2
        clear hy
        go_wp2
        go_ret2
        exact ⟨MRes.no HP.out, Below.refl _ _⟩
      · have hd0 : decide (r < 0) = false := by simpa using hr0
        have hd1 : decide ((C : Int) ≤ r) = true := by
          simp
          rcases Int.lt_or_le r (C : Int) with h | h
          · exact absurd ⟨by omega, by rw [← hC]; exact h⟩ hP
          · exact h
        clear hP hC hn6 hn hr h16 hin hD
        go_enter Tryd.func32, Tryd.ntmps32
        go_wp2_with fail
        refine Hcs.out.mono ?_
        rintro e w2 ⟨⟨y, b, rfl, hy⟩, rfl⟩
        obtain ⟨rfl, rfl⟩ : b = true ∧ y = (C : Int) := by
          rcases hy with ⟨_, h2, h3⟩ | ⟨h2, _⟩
          · exact ⟨h2, h3⟩
          · exact absurd Hin.out h2
        clear hy
        go_wp2
        go_ret2
        exact ⟨MRes.no HP.out, Below.refl _ _⟩
  · have HP := Lib.hid (show ¬ atOk n r from fun h => h16 h.1)
    by_cases hin : inR n
    · have hd2 : decide ((6 : Int) < n) = true := by
        simp
        have := hin.1
        omega
      have Hin := Lib.hid hin
      obtain ⟨C, hC⟩ : ∃ C : Int, C = ((cI n.toNat : Nat) : Int) := ⟨_, rfl⟩
      rw [← hC] at Hcs
      clear hin h16 hn hr hD hC
      go_enter Tryd.func32, Tryd.ntmps32
      go_wp2_with fail
      refine Hcs.out.mono ?_
      rintro e w2 ⟨⟨y, b, rfl, hy⟩, rfl⟩
      obtain ⟨rfl, rfl⟩ : b = true ∧ y = C := by
        rcases hy with ⟨_, h2, h3⟩ | ⟨h2, _⟩
        · exact ⟨h2, h3⟩
        · exact absurd Hin.out h2
      clear hy
      go_wp2
      go_ret2
      exact ⟨MRes.no HP.out, Below.refl _ _⟩
    · have Hin := Lib.hid hin
      clear hin h16 hn hr hD
      go_enter Tryd.func32, Tryd.ntmps32
      go_wp2_with fail
      refine Hcs.out.mono ?_
      rintro e w2 ⟨⟨y, b, rfl, hy⟩, rfl⟩
      obtain ⟨rfl, rfl⟩ : b = false ∧ y = 0 := by
        rcases hy with ⟨h2, _⟩ | ⟨_, h2, h3⟩
        · exact absurd h2 Hin.out
        · exact ⟨h2, h3⟩
      clear hy
      go_wp2
      go_ret2
      exact ⟨MRes.no HP.out, Below.refl _ _⟩

/-- there is a next one -/
def nextOk (m : List (List Int)) : Prop := good m ∧ atOk (m.length : Int) (wrap64 (rankG (triM m.reverse) (m.length - 1) 0 + 1))
def nextM (m : List (List Int)) : List (List Int) := outM m.length (wrap64 (rankG (triM m.reverse) (m.length - 1) 0 + 1)) m.length
theorem nextM_small {m : List (List Int)} (h : nextOk m) : Small (nextM m) := outM_small h.1.1.2.1 _
theorem wrap64_bd (x : Int) : -9223372036854775808 ≤ wrap64 x ∧ wrap64 x ≤ 9223372036854775807 := by unfold wrap64; omega
set_option maxRecDepth 100000 in
set_option maxHeartbeats 800000 in
theorem specNextSigns_any (ao : Option Addr) (c : Nat) (m : List (List Int)) (w : World) (hs : Small m) (hm : MatAt w ao m) :
    Calls Tryd.prog 33 #[.slice ao m.length c] w fun e w' => MRes (nextOk m) (nextM m) w' w.heap.size e ∧ Below w.heap.size w w' := by
  have hmx : m.length ≤ 9223372036854775807 := by have := hs.1; omega
  have Hr := Lib.hid (specRankSigns_any ao c m w hs hm)
  obtain ⟨q, hq⟩ : ∃ q, q = rankG (triM m.reverse) (m.length - 1) 0 := ⟨_, rfl⟩
  have HP := Lib.hid (show nextOk m ↔ good m ∧ atOk (m.length : Int) (wrap64 (q + 1)) by rw [hq]; exact Iff.rfl)
  have HM := Lib.hid (show nextM m = outM m.length (wrap64 (q + 1)) m.length by rw [hq]; rfl)
  have Hat := Lib.hid (fun w => specSignsAt_any (m.length : Int) (wrap64 (q + 1)) w (by omega) (wrap64_bd _))
  rw [← hq] at Hr
  clear hq hs hm
  go_enter Tryd.func33, Tryd.ntmps33
  go_wp2_with fail
  refine Hr.out.mono ?_
  rintro e w1 ⟨⟨y, b, rfl, hy⟩, hb1⟩
  have Hb1 := Lib.hid hb1
  clear hb1
  rcases hy with ⟨hg, rfl, rfl⟩ | ⟨hg, rfl, rfl⟩
  · have Hg := Lib.hid hg
    obtain ⟨z, hz⟩ : ∃ z, z = wrap64 (y + 1) := ⟨_, rfl⟩
    have Hz := Lib.hid hz
    rw [← hz] at HP HM Hat
    have hzw : IntKind.i64.wrap (y + 1) = z := by rw [i64_wrap, hz]
    clear hg hz
    go_wp2_with fail
    refine (Hat.out w1).mono ?_
    rintro e w2 ⟨⟨v, b, r', rfl, hv, hr⟩, hb2⟩
    have Hv := Lib.hid (hv.base Hb1.out.size)
    have Hrr := Lib.hid hr
    have Hb2 := Lib.hid (Hb1.out.trans (hb2.mono Hb1.out.size))
    clear hv hr hb2
    go_wp2
    go_ret2
    refine ⟨⟨v, b, r', rfl, Hv.out, ?_⟩, Hb2.out⟩
    rcases Hrr.out with ⟨h1, h2, h3⟩ | ⟨h1, h2, h3⟩
    · exact .inl ⟨HP.out.2 ⟨Hg.out, h1⟩, h2, by rw [HM.out, h3, Int.toNat_natCast]⟩
    · exact .inr ⟨fun h => h1 (HP.out.1 h).2, h2, h3⟩
  · have Hg := Lib.hid hg
    clear hg
    go_wp2
    go_ret2
    exact ⟨MRes.no (fun h => Hg.out h.1), Hb1.out⟩
set_option maxRecDepth 100000 in
set_option maxHeartbeats 800000 in
theorem implNextSigns_any (ao : Option Addr) (c : Nat) (m : List (List Int)) (w : World) (hs : Small m) (hwf : WfM m) (hm : MatAt w ao m) (hD : Dj w) :
    Calls Tryd.prog 34 #[.slice ao m.length c] w fun e w' => MRes (nextOk m) (nextM m) w' w.heap.size e ∧ Below w.heap.size w w' := by
  have hmx : m.length ≤ 9223372036854775807 := by have := hs.1; omega
  have Hr := Lib.hid (implRankSigns_any ao c m w hs hwf hm hD)
  obtain ⟨q, hq⟩ : ∃ q, q = rankG (triM m.reverse) (m.length - 1) 0 := ⟨_, rfl⟩
  have HP := Lib.hid (show nextOk m ↔ good m ∧ atOk (m.length : Int) (wrap64 (q + 1)) by rw [hq]; exact Iff.rfl)
  have HM := Lib.hid (show nextM m = outM m.length (wrap64 (q + 1)) m.length by rw [hq]; rfl)
  have Hat := Lib.hid (fun w hD => implSignsAt_any (m.length : Int) (wrap64 (q + 1)) w (by omega) (wrap64_bd _) hD)
  have HD := Lib.hid hD
  rw [← hq] at Hr
  clear hq hs hm hD
  go_enter Tryd.func34, Tryd.ntmps34
  go_wp2_with fail
  refine Hr.out.mono ?_
  rintro e w1 ⟨⟨y, b, rfl, hy⟩, hb1⟩
  have Hb1 := Lib.hid hb1
  clear hb1
  rcases hy with ⟨hg, rfl, rfl⟩ | ⟨hg, rfl, rfl⟩
  · have Hg := Lib.hid hg
    obtain ⟨z, hz⟩ : ∃ z, z = wrap64 (y + 1) := ⟨_, rfl⟩
    have Hz := Lib.hid hz
    rw [← hz] at HP HM Hat
    have hzw : IntKind.i64.wrap (y + 1) = z := by rw [i64_wrap, hz]
    clear hg hz
    go_wp2_with fail
    refine (Hat.out w1 (HD.out.next Hb1.out)).mono ?_
    rintro e w2 ⟨⟨v, b, r', rfl, hv, hr⟩, hb2⟩
    have Hv := Lib.hid (hv.base Hb1.out.size)
    have Hrr := Lib.hid hr
    have Hb2 := Lib.hid (Hb1.out.trans (hb2.mono Hb1.out.size))
    clear hv hr hb2
    go_wp2
    go_ret2
    refine ⟨⟨v, b, r', rfl, Hv.out, ?_⟩, Hb2.out⟩
    rcases Hrr.out with ⟨h1, h2, h3⟩ | ⟨h1, h2, h3⟩
    · exact .inl ⟨HP.out.2 ⟨Hg.out, h1⟩, h2, by rw [HM.out, h3, Int.toNat_natCast]⟩
    · exact .inr ⟨fun h => h1 (HP.out.1 h).2, h2, h3⟩
  · have Hg := Lib.hid hg
    clear hg
    go_wp2
    go_ret2
    exact ⟨MRes.no (fun h => Hg.out h.1), Hb1.out⟩
end Go.Proofs.YtmkldodkpijfjaaDoor

