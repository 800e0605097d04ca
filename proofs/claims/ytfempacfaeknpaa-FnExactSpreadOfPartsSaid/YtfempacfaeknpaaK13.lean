/- Parts of proofs: contracts and plain facts. Conditions: as each says. -/
import Derived.Test.YtfempacfaeknpaaK12
namespace Go.Proofs.Ytfempacfaeknpaa
open Go.RowKit

/-- all partitions for n -/
def allP (n : Nat) : List (List (List Int)) := allD n n []
theorem planes_allP : ∀ n : Nat, n < 5 → n = 0 ∨ planesL n (lim1 n) = allP n := by decide +kernel
/-- they are few, and of few rows of few parts -/
theorem allP_few : ∀ n : Nat, n < 5 → (allP n).length ≤ 42 ∧ ∀ p, p ∈ allP n → p.length ≤ 4 ∧ ∀ r, r ∈ p → r.length ≤ 4 := by decide +kernel
theorem allP_small {n : Nat} (hn : n < 5) {p : List (List Int)} (h : p ∈ allP n) : Small p := by
  have h1 := (allP_few n hn).2 p h
  exact ⟨by omega, fun i hi => by have := h1.2 _ (gr_mem hi); omega⟩

set_option maxRecDepth 100000 in
set_option maxHeartbeats 1600000 in
theorem planesN_any (n : Nat) (h1 : 1 ≤ n) (h4 : n ≤ 4) (ao : Option Addr) (c : Nat) (w : World) (hx : IntsAt w ao (lim1 n)) :
    Calls Try.prog 70 #[.slice ao (lim1 n).length c] w fun e w' => ∃ v vs uss, e = .returned v ∧ OwnL w' w.heap.size v (allP n) vs uss ∧ Below w.heap.size w w' := by
  have C := planes_any (n - 1) (by omega) (lim1 n) ao c w (lim1_le (n := n) (by omega)) (by rw [lim1_len]; exact Nat.le_refl _) hx
  rw [show n - 1 + 1 = n by omega, (planes_allP n (by omega)).resolve_left (by omega)] at C
  exact C
theorem dpAllN_any (n : Nat) (h1 : 1 ≤ n) (h4 : n ≤ 4) (w : World) :
    Calls Try.prog 66 #[.slice none 0 0, .int .i64 n] w fun e w' => ∃ v vs, e = .returned v ∧ OwnW w' w.heap.size v (allP n) vs ∧ Below w.heap.size w w' := by
  have C := dpAll_any n (by omega) (by omega) (n - 1) none 0 [] [] w (fuel_nil (by omega)) (by simp; omega) ⟨by simp, fun i hi => absurd hi (by simp)⟩ (OwnV.nil _ _)
  rw [show n - 1 + 1 = n by omega] at C
  exact C

set_option maxRecDepth 100000 in
set_option maxHeartbeats 1600000 in
theorem dpOwn_any (ao : Option Addr) (c : Nat) (rows : List (List Int)) (w : World) (hs : Small rows) (hm : MatAt w ao rows) (hz : NilRows w ao rows) :
    Calls Try.prog 67 #[.slice ao rows.length c] w fun e w' => ∃ v vs, e = .returned v ∧ OwnV w' w.heap.size v rows vs ∧ Below w.heap.size w w' := by
  have hl := hs.1
  have hmx : rows.length ≤ 9223372036854775807 := by omega
  have Hm := Lib.hid hm
  have Hs := Lib.hid hs
  have Hz := Lib.hid hz
  clear hm hs hz
  go_enter Try.func67, Try.ntmps67
  go_wp2
  go_loopw [3, 8] (fun out i wr => ∃ (k : Nat) (vs : List Value), k ≤ rows.length ∧ i = .int .i64 k ∧ OwnV wr w.heap.size out (rows.take k) vs ∧ Below w.heap.size w wr) (fun _ i _ => rows.length - (intOf i).toNat)
  case atStart => exact ⟨0, [], Nat.zero_le _, rfl, OwnV.nil _ _, Below.refl _ _⟩
  case round =>
    obtain ⟨k, vs, hk, rfl, hown, hbr⟩ := hrel
    have Hown := Lib.hid hown
    have Hbr := Lib.hid hbr
    have HBr := Lib.hid hbr.size
    clear hown hbr
    by_cases hlt : k < rows.length
    · obtain ⟨b1, o1, r1, d1, e1, hc0, hr1, _, _⟩ := Hm.out k hlt
      have hzk := Hz.out k b1 o1 r1 d1 hlt e1 hc0
      have hc1 := cell_below hc0 Hbr.out
      have Hr1 := Lib.hid (hr1.below Hbr.out)
      have Hzk := Lib.hid hzk
      have hlk := Hs.out.2 k hlt
      have Hst := Lib.hid (show rows.take (k + 1) = rows.take k ++ [gr rows k] by rw [List.take_succ_eq_append_getElem hlt, gr_lt hlt])
      have Htl := Lib.hid (show (rows.take k).length < 1048576 by rw [List.length_take]; omega)
      subst e1
      clear hr1 hzk hc0
      obtain ⟨row, hrow⟩ : ∃ row, row = gr rows k := ⟨_, rfl⟩
      rw [← hrow] at hc1 Hr1 Hzk hlk Hst
      obtain ⟨T, hT⟩ : ∃ T, T = rows.take k := ⟨_, rfl⟩
      rw [← hT] at Hst Hown Htl
      have hrm : row.length ≤ 9223372036854775807 := by omega
      clear hrow hT
      go_wp2_with fail
      refine (l1Own_any r1 d1 row wr hlk (fun e => (Hzk.out e).1) Hr1.out).mono ?_
      rintro e w2 ⟨cv, rfl, hv, hb⟩
      obtain ⟨ca, cc, hcv, _, _, _⟩ := hv.read
      subst hcv
      have HV := Lib.hid hv
      have Hown2 := Lib.hid (Hown.out.below hb)
      have HB2 := Lib.hid (Hbr.out.trans (hb.mono HBr.out))
      clear hv hb
      go_wp2_with (at_builtin; refine wpList_rowV rfl _ _ rfl w.heap.size wr.heap.size _ (.slice ca row.length cc) T vs row Hown2.out HV.out rfl rfl HB2.out.size Htl.out ?_)
      intro v' w3 hown3 hb3
      rw [← Hst.out] at hown3
      have Hown3 := Lib.hid hown3
      have HB3 := Lib.hid (HB2.out.trans hb3)
      clear hown3 hb3
      go_wp2
      go_roundw
      case rel => exact ⟨k + 1, _, by omega, by go_num, Hown3.out, HB3.out⟩
      case measure => simp [intOf]; omega
    · obtain rfl : k = rows.length := by omega
      have HF := Lib.hid (show OwnV wr w.heap.size _ rows vs from by have := Hown.out; rw [List.take_length] at this; exact this)
      clear Hown
      go_wp2
      go_ret
      exact ⟨_, vs, rfl, HF.out, Hbr.out⟩
theorem OwnV.nilRows {w : World} {B n c : Nat} {ao : Option Addr} {m : List (List Int)} {vs : List Value} (h : OwnV w B (.slice ao n c) m vs) : NilRows w ao m := by
  intro k b o r d hk e hc hr
  obtain ⟨b1, o1, r1, d1, e1, hc1, hv1, _⟩ := h.rowAt hk
  rw [e] at e1
  simp only [Option.some.injEq, Addr.mk.injEq, and_true] at e1
  obtain ⟨rfl, rfl⟩ := e1
  rw [hc1] at hc
  simp only [Option.some.injEq, Value.slice.injEq] at hc
  have h1 := h.rows k hk
  rw [hv1, hc.1, hr, hc.2.2] at h1
  exact h1.nil_of rfl
/-- reading one of the tables of a list, with what is known of its rows -/
theorem OwnW.at2 {w : World} {B n c : Nat} {ao : Option Addr} {ts : List (List (List Int))} {vs : List Value} (h : OwnW w B (.slice ao n c) ts vs) {i : Nat} (hi : i < ts.length) :
    ∃ b o r d, ao = some ⟨b, o, none⟩ ∧ w.cell? ⟨b, o + i, none⟩ = some (.slice r (gt ts i).length d) ∧ MatAt w r (gt ts i) ∧ NilRows w r (gt ts i) ∧ (gt ts i).length ≤ d ∧ d ≤ 9223372036854775807 := by
  obtain ⟨ao', c', e, _, _, hc⟩ := ownsRow_read h.top
  cases e
  obtain ⟨b, o, e, hcell⟩ := hc i hi
  obtain ⟨us, hx⟩ := h.each i hi
  obtain ⟨r, d, hr, h3, h4, hm⟩ := hx.read
  rw [hr] at hx
  exact ⟨b, o, r, d, e, by rw [hcell, hr], hm, hx.nilRows, h3, h4⟩

set_option maxRecDepth 100000 in
set_option maxHeartbeats 3200000 in
theorem specDescendingWith_any (n q : Int) (w : World) (_hn : -9223372036854775808 ≤ n ∧ n ≤ 9223372036854775807) (_hq : -9223372036854775808 ≤ q ∧ q ≤ 9223372036854775807) :
    Calls Try.prog 56 #[.int .i64 n, .int .i64 q] w fun e w' => VRes ((1 ≤ n ∧ n ≤ 4) ∧ 0 ≤ q ∧ q < (allP n.toNat).length) (gt (allP n.toNat) q.toNat) w' e ∧ Below w.heap.size w w' := by
  have C := Lib.hid (dpSmall_any n w)
  by_cases p : 1 ≤ n ∧ n ≤ 4
  · obtain ⟨k, rfl⟩ : ∃ k : Nat, n = (k : Int) := ⟨n.toNat, by omega⟩
    rw [Int.toNat_natCast]
    have Hp := Lib.hid p
    have C1 := Lib.hid (dpAllN_any k (by omega) (by omega) w)
    have hl := (allP_few k (by omega)).1
    have Hsm := Lib.hid (fun p (hp : p ∈ allP k) => allP_small (n := k) (by omega) hp)
    obtain ⟨A, hA⟩ : ∃ A, A = allP k := ⟨_, rfl⟩
    rw [← hA] at C1 hl Hsm ⊢
    have hAm : A.length ≤ 9223372036854775807 := by omega
    have hw : IntKind.i64.wrap ((A.length : Int) - 1) = (A.length : Int) - 1 := w64 (by omega)
    clear p hA
    go_enter Try.func56, Try.ntmps56
    go_wp2_with fail
    refine C.out.mono ?_
    rintro e w1 ⟨ha, rfl⟩
    obtain rfl := ha.is Hp.out
    clear ha
    go_wp2_with fail
    refine C1.out.mono ?_
    rintro e w3 ⟨v, vs, rfl, hv, hb⟩
    obtain ⟨la, lc, rfl, _, _⟩ := hv.head
    have HV := Lib.hid hv
    have HB3 := Lib.hid hb
    clear hv hb
    go_wp2_with fail
    refine (l1In_any q 0 ((A.length : Int) - 1) w3).mono ?_
    rintro e w4 ⟨ha, rfl⟩
    by_cases pq : 0 ≤ q ∧ q ≤ (A.length : Int) - 1
    · obtain rfl := ha.is pq
      obtain ⟨j, rfl⟩ : ∃ j : Nat, q = (j : Int) := ⟨q.toNat, by omega⟩
      have hj : j < A.length := by omega
      have Hpq := Lib.hid (show 0 ≤ (j : Int) ∧ (j : Int) < (A.length : Int) by omega)
      obtain ⟨b1, o1, r1, d1, e1, hc1, hm1, hz1, _, _⟩ := HV.out.at2 hj
      have CO := Lib.hid (dpOwn_any r1 d1 (gt A j) w3 (Hsm.out _ (gt_mem hj)) hm1 hz1)
      have hgl : (gt A j).length ≤ 9223372036854775807 := by have := (Hsm.out _ (gt_mem hj)).1; omega
      have HG := Lib.hid (show gt A (j : Int).toNat = gt A j by rw [Int.toNat_natCast])
      obtain ⟨G, hG⟩ : ∃ G, G = gt A j := ⟨_, rfl⟩
      rw [← hG] at hc1 CO hgl HG
      subst e1
      clear ha pq hm1 hz1 hG
      go_wp2_with fail
      refine CO.out.mono ?_
      rintro e w5 ⟨v, vs, rfl, hv, hb⟩
      have Hv := Lib.hid hv.read
      have HB5 := Lib.hid (HB3.out.trans (hb.mono HB3.out.size))
      clear hv hb
      go_wp2
      go_ret2
      exact ⟨VRes.yes ⟨Hp.out, Hpq.out⟩ (by rw [HG.out]; exact Hv.out), HB5.out⟩
    · have Hpq := Lib.hid (show ¬(((1 : Int) ≤ (k : Int) ∧ (k : Int) ≤ 4) ∧ 0 ≤ q ∧ q < (A.length : Int)) from fun h => pq ⟨h.2.1, by omega⟩)
      obtain rfl := ha.isnt pq
      clear ha pq
      go_wp2
      go_ret2
      exact ⟨VRes.no Hpq.out, HB3.out⟩
  · have Hp := Lib.hid p
    clear p
    go_enter Try.func56, Try.ntmps56
    go_wp2_with fail
    refine C.out.mono ?_
    rintro e w1 ⟨ha, rfl⟩
    obtain rfl := ha.isnt Hp.out
    clear ha
    go_wp2
    go_ret2
    exact ⟨VRes.no (fun h => Hp.out h.1), Below.refl _ _⟩

set_option maxRecDepth 100000 in
set_option maxHeartbeats 3200000 in
theorem implDescendingWith_any (n q : Int) (w : World) (_hn : -9223372036854775808 ≤ n ∧ n ≤ 9223372036854775807) (_hq : -9223372036854775808 ≤ q ∧ q ≤ 9223372036854775807) :
    Calls Try.prog 57 #[.int .i64 n, .int .i64 q] w fun e w' => MRes ((1 ≤ n ∧ n ≤ 4) ∧ 0 ≤ q ∧ q < (allP n.toNat).length) (gt (allP n.toNat) q.toNat) w' w.heap.size e ∧ Below w.heap.size w w' := by
  have C := Lib.hid (isListed_any n w)
  by_cases p : 1 ≤ n ∧ n ≤ 4
  · obtain ⟨k, rfl⟩ : ∃ k : Nat, n = (k : Int) := ⟨n.toNat, by omega⟩
    rw [Int.toNat_natCast]
    have Hp := Lib.hid p
    have C1 := Lib.hid (fun w => firstLimits_any k w (by omega) (by omega))
    have C2 := Lib.hid (fun a c w h => planesN_any k (by omega) (by omega) a c w h)
    have hl := (allP_few k (by omega)).1
    obtain ⟨A, hA⟩ : ∃ A, A = allP k := ⟨_, rfl⟩
    rw [← hA] at C2 hl ⊢
    obtain ⟨L, hL⟩ : ∃ L, L = lim1 k := ⟨_, rfl⟩
    rw [← hL] at C1 C2
    have hAm : A.length ≤ 9223372036854775807 := by omega
    clear p hA hL
    go_enter Try.func57, Try.ntmps57
    go_wp2_with fail
    refine C.out.mono ?_
    rintro e w1 ⟨ha, hb⟩
    obtain rfl := ha.is Hp.out
    have HB := Lib.hid hb
    clear ha hb
    go_wp2_with fail
    refine (C1.out w1).mono ?_
    rintro e w2 ⟨v, rfl, hv, hb⟩
    obtain ⟨la, lc, rfl, _, _, hI⟩ := hv.read
    have HI := Lib.hid hI
    have HB2 := Lib.hid (HB.out.trans (hb.mono HB.out.size))
    clear hv hb hI HB
    go_wp2_with fail
    refine (C2.out la lc w2 HI.out).mono ?_
    rintro e w3 ⟨v, vs, uss, rfl, hv, hb⟩
    obtain ⟨pa, pc, rfl, _, _⟩ := hv.head
    have HV := Lib.hid hv
    have HB3 := Lib.hid (HB2.out.trans (hb.mono HB2.out.size))
    have HBs := Lib.hid HB2.out.size
    clear hv hb HB2
    by_cases p1 : q < 0
    · have d1 : decide (q < 0) = true := decide_eq_true p1
      have Hpq := Lib.hid (show ¬(((1 : Int) ≤ (k : Int) ∧ (k : Int) ≤ 4) ∧ 0 ≤ q ∧ q < (A.length : Int)) from fun h => by have := h.2.1; omega)
      clear p1
      go_wp2
      go_ret2
      exact ⟨MRes.no Hpq.out, HB3.out⟩
    obtain ⟨j, rfl⟩ : ∃ j : Nat, q = (j : Int) := ⟨q.toNat, by omega⟩
    clear p1
    by_cases p2 : A.length ≤ j
    · have d2 : decide (A.length ≤ j) = true := decide_eq_true p2
      have Hpq := Lib.hid (show ¬(((1 : Int) ≤ (k : Int) ∧ (k : Int) ≤ 4) ∧ 0 ≤ (j : Int) ∧ (j : Int) < (A.length : Int)) from fun h => by have := h.2.2; omega)
      go_wp2
      go_ret2
      exact ⟨MRes.no Hpq.out, HB3.out⟩
    have d2 : decide (A.length ≤ j) = false := decide_eq_false p2
    have hj : j < A.length := by omega
    have Hpq := Lib.hid (show 0 ≤ (j : Int) ∧ (j : Int) < (A.length : Int) by omega)
    obtain ⟨b1, o1, r1, d1, e1, hc1, hv1, _, _, _⟩ := HV.out.at hj
    have hE := HV.out.each j hj
    rw [hv1] at hE
    have HG := Lib.hid (show gt A (j : Int).toNat = gt A j by rw [Int.toNat_natCast])
    have HE := Lib.hid ((hE.base HBs.out).toM)
    obtain ⟨G, hG⟩ : ∃ G, G = gt A j := ⟨_, rfl⟩
    rw [← hG] at hc1 HE HG
    subst e1
    clear hv1 hE hG p2
    go_wp2
    go_ret2
    exact ⟨MRes.yes ⟨Hp.out, Hpq.out⟩ (by rw [HG.out]; exact HE.out), HB3.out⟩
  · have Hp := Lib.hid p
    clear p
    go_enter Try.func57, Try.ntmps57
    go_wp2_with fail
    refine C.out.mono ?_
    rintro e w1 ⟨ha, hb⟩
    obtain rfl := ha.isnt Hp.out
    have HB := Lib.hid hb
    clear ha hb
    go_wp2
    go_ret2
    exact ⟨MRes.no (fun h => Hp.out h.1), HB.out⟩
end Go.Proofs.Ytfempacfaeknpaa

namespace Go.Proofs.Ytfempacfaeknpaa
open Go.RowKit

set_option maxRecDepth 100000 in
set_option maxHeartbeats 800000 in
theorem dpParts_any (ao : Option Addr) (c : Nat) (rows : List (List Int)) (w : World) (hg : DpGood rows 6) (hm : MatAt w ao rows) :
    Calls Try.prog 77 #[.slice ao rows.length c] w fun e w' => e = .returned (.int .i64 (sumT fOne rows rows.length)) ∧ w = w' := by
  have hl := (hg.bounds (by omega)).1
  have hmx : rows.length ≤ 9223372036854775807 := by omega
  have Hm := Lib.hid hm
  have Hg := Lib.hid hg
  clear hm hg
  go_enter Try.func77, Try.ntmps77
  go_wp2
  go_loop [3, 8] (fun s i => ∃ k : Nat, k ≤ rows.length ∧ i = .int .i64 k ∧ s = .int .i64 (sumT fOne rows k)) (fun _ i => rows.length - (intOf i).toNat)
  case atStart => exact ⟨0, Nat.zero_le _, rfl, rfl⟩
  case round =>
    obtain ⟨k, hk, rfl, rfl⟩ := hrel
    by_cases hlt : k < rows.length
    · obtain ⟨b1, o1, r1, d1, rfl, hc1, hr1, _, _⟩ := Hm.out k hlt
      have hl1 : (gr rows k).length ≤ 6 := by have := (Hg.out.bounds (by omega)).2 k hlt; omega
      have hb1 := Hg.out.sum_bd tells_one k hk
      have E1 := Lib.hid (show sumT fOne rows (k + 1) = sumT fOne rows k + ((gr rows k).length : Int) by rw [sumT_step, sumR_one])
      obtain ⟨u, hu⟩ : ∃ u, u = sumT fOne rows k := ⟨_, rfl⟩
      obtain ⟨y, hy⟩ : ∃ y, y = (gr rows k).length := ⟨_, rfl⟩
      rw [← hu] at hb1 ⊢
      rw [← hy] at hc1 hl1
      rw [← hu, ← hy] at E1
      have hw : IntKind.i64.wrap (u + (y : Int)) = u + (y : Int) := w64 (by omega)
      have hy2 : y ≤ 9223372036854775807 := by omega
      clear hr1 hu hy
      go_wp2
      go_round
      case rel => exact ⟨k + 1, by omega, by go_num, by rw [E1.out]⟩
      case measure => simp [intOf]; omega
    · obtain rfl : k = rows.length := by omega
      go_wp2
      go_ret
      exact ⟨rfl, rfl⟩

set_option maxRecDepth 100000 in
set_option maxHeartbeats 1600000 in
theorem dpSpecial_any (ao : Option Addr) (c : Nat) (rows : List (List Int)) (w : World) (hg : DpGood rows 6) (hm : MatAt w ao rows) :
    Calls Try.prog 80 #[.slice ao rows.length c] w fun e w' => e = .returned (.int .i64 (sumT fSpec rows rows.length)) ∧ w = w' := by
  have hl := (hg.bounds (by omega)).1
  have hmx : rows.length ≤ 9223372036854775807 := by omega
  have Hm := Lib.hid hm
  have Hg := Lib.hid hg
  clear hm hg
  go_enter Try.func80, Try.ntmps80
  go_wp2
  go_loop [3, 10] (fun s i => ∃ k : Nat, k ≤ rows.length ∧ i = .int .i64 k ∧ s = .int .i64 (sumT fSpec rows k)) (fun _ i => rows.length - (intOf i).toNat)
  case atStart => exact ⟨0, Nat.zero_le _, rfl, rfl⟩
  case round =>
    obtain ⟨k, hk, rfl, rfl⟩ := hrel
    by_cases hlt : k < rows.length
    · obtain ⟨b1, o1, r1, d1, rfl, hc1, hr1, _, _⟩ := Hm.out k hlt
      have Hr1 := Lib.hid hr1
      have hl1 : (gr rows k).length ≤ 9223372036854775807 := by have := (Hg.out.bounds (by omega)).2 k hlt; omega
      have hb1 := Hg.out.sum_bd tells_spec k hk
      have E1 := Lib.hid (sumT_step fSpec rows k)
      have Hrb := Lib.hid (Hg.out.row_bd tells_spec hlt)
      obtain ⟨u, hu⟩ : ∃ u, u = sumT fSpec rows k := ⟨_, rfl⟩
      rw [← hu] at hb1 E1 ⊢
      obtain ⟨row, hrow⟩ : ∃ row, row = gr rows k := ⟨_, rfl⟩
      have Hin := Lib.hid (fun i hi => (Hg.out.2 k hlt).1.2.2.1 i hi)
      rw [← hrow] at hc1 Hr1 hl1 E1 Hrb Hin
      clear hr1 hu hrow
      go_wp2
      go_loop [3, 16] (fun s i => ∃ t : Nat, t ≤ row.length ∧ i = .int .i64 t ∧ s = .int .i64 (u + sumF (fun i => fSpec i (gi row i)) t)) (fun _ i => row.length - (intOf i).toNat)
      case atStart => exact ⟨0, Nat.zero_le _, rfl, by simp [sumF]⟩
      case round =>
        obtain ⟨t, ht, rfl, rfl⟩ := hrel
        by_cases htl : t < row.length
        · obtain ⟨b2, o2, rfl, hc2⟩ := Hr1.out t htl
          have hb2 := Hrb.out t ht
          have E2 := Lib.hid (show sumF (fun i => fSpec i (gi row i)) (t + 1) = sumF (fun i => fSpec i (gi row i)) t + fSpec t (gi row t) from rfl)
          have hx := Hin.out t htl
          obtain ⟨v, hv⟩ : ∃ v, v = sumF (fun i => fSpec i (gi row i)) t := ⟨_, rfl⟩
          rw [← hv] at hb2 E2 ⊢
          obtain ⟨x, hxx⟩ : ∃ x, x = gi row t := ⟨_, rfl⟩
          rw [← hxx] at hc2 hx E2
          clear hv hxx
          by_cases q : x ≤ (t : Int)
          · have d : decide (x ≤ (t : Int)) = true := decide_eq_true q
            have E3 := Lib.hid (show fSpec t x = 1 from if_pos q)
            clear q
            go_wp2
            go_round
            case rel => exact ⟨t + 1, by omega, by go_num, by rw [E2.out, E3.out]; go_num⟩
            case measure => simp [intOf]; omega
          · have d : decide (x ≤ (t : Int)) = false := decide_eq_false q
            have E3 := Lib.hid (show fSpec t x = 0 from if_neg q)
            clear q
            go_wp2
            go_round
            case rel => exact ⟨t + 1, by omega, by go_num, by rw [E2.out, E3.out]; rw [Int.add_zero]⟩
            case measure => simp [intOf]; omega
        · obtain rfl : t = row.length := by omega
          have E3 := Lib.hid (show u + sumF (fun i => fSpec i (gi row i)) row.length = sumT fSpec rows (k + 1) from E1.out.symm)
          go_wp2
          go_round
          case rel => exact ⟨k + 1, by omega, by go_num, by rw [E3.out]⟩
          case measure => simp [intOf]; omega
    · obtain rfl : k = rows.length := by omega
      go_wp2
      go_ret
      exact ⟨rfl, rfl⟩

set_option maxRecDepth 100000 in
set_option maxHeartbeats 1600000 in
theorem dpEqual_any (ao : Option Addr) (c : Nat) (rows : List (List Int)) (n : Int) (w : World) (hg : DpGood rows 6) (hm : MatAt w ao rows) :
    Calls Try.prog 82 #[.slice ao rows.length c, .int .i64 n] w fun e w' => e = .returned (.int .i64 (sumT (fEq n) rows rows.length)) ∧ w = w' := by
  have hl := (hg.bounds (by omega)).1
  have hmx : rows.length ≤ 9223372036854775807 := by omega
  have Hm := Lib.hid hm
  have Hg := Lib.hid hg
  clear hm hg
  go_enter Try.func82, Try.ntmps82
  go_wp2
  go_loop [5, 12] (fun s i => ∃ k : Nat, k ≤ rows.length ∧ i = .int .i64 k ∧ s = .int .i64 (sumT (fEq n) rows k)) (fun _ i => rows.length - (intOf i).toNat)
  case atStart => exact ⟨0, Nat.zero_le _, rfl, rfl⟩
  case round =>
    obtain ⟨k, hk, rfl, rfl⟩ := hrel
    by_cases hlt : k < rows.length
    · obtain ⟨b1, o1, r1, d1, rfl, hc1, hr1, _, _⟩ := Hm.out k hlt
      have Hr1 := Lib.hid hr1
      have hl1 : (gr rows k).length ≤ 9223372036854775807 := by have := (Hg.out.bounds (by omega)).2 k hlt; omega
      have hb1 := Hg.out.sum_bd (tells_eq n) k hk
      have E1 := Lib.hid (sumT_step (fEq n) rows k)
      have Hrb := Lib.hid (Hg.out.row_bd (tells_eq n) hlt)
      obtain ⟨u, hu⟩ : ∃ u, u = sumT (fEq n) rows k := ⟨_, rfl⟩
      rw [← hu] at hb1 E1 ⊢
      obtain ⟨row, hrow⟩ : ∃ row, row = gr rows k := ⟨_, rfl⟩
      have Hin := Lib.hid (fun i hi => (Hg.out.2 k hlt).1.2.2.1 i hi)
      rw [← hrow] at hc1 Hr1 hl1 E1 Hrb Hin
      clear hr1 hu hrow
      go_wp2
      go_loop [5, 18] (fun s i => ∃ t : Nat, t ≤ row.length ∧ i = .int .i64 t ∧ s = .int .i64 (u + sumF (fun i => (fEq n) i (gi row i)) t)) (fun _ i => row.length - (intOf i).toNat)
      case atStart => exact ⟨0, Nat.zero_le _, rfl, by simp [sumF]⟩
      case round =>
        obtain ⟨t, ht, rfl, rfl⟩ := hrel
        by_cases htl : t < row.length
        · obtain ⟨b2, o2, rfl, hc2⟩ := Hr1.out t htl
          have hb2 := Hrb.out t ht
          have E2 := Lib.hid (show sumF (fun i => (fEq n) i (gi row i)) (t + 1) = sumF (fun i => (fEq n) i (gi row i)) t + (fEq n) t (gi row t) from rfl)
          have hx := Hin.out t htl
          obtain ⟨v, hv⟩ : ∃ v, v = sumF (fun i => (fEq n) i (gi row i)) t := ⟨_, rfl⟩
          rw [← hv] at hb2 E2 ⊢
          obtain ⟨x, hxx⟩ : ∃ x, x = gi row t := ⟨_, rfl⟩
          rw [← hxx] at hc2 hx E2
          clear hv hxx
          by_cases q : x = n
          · have d : (x == n) = true := by simpa using q
            have E3 := Lib.hid (show (fEq n) t x = 1 from if_pos q)
            clear q
            go_wp2
            go_round
            case rel => exact ⟨t + 1, by omega, by go_num, by rw [E2.out, E3.out]; go_num⟩
            case measure => simp [intOf]; omega
          · have d : (x == n) = false := by simpa using q
            have E3 := Lib.hid (show (fEq n) t x = 0 from if_neg q)
            clear q
            go_wp2
            go_round
            case rel => exact ⟨t + 1, by omega, by go_num, by rw [E2.out, E3.out]; rw [Int.add_zero]⟩
            case measure => simp [intOf]; omega
        · obtain rfl : t = row.length := by omega
          have E3 := Lib.hid (show u + sumF (fun i => (fEq n) i (gi row i)) row.length = sumT (fEq n) rows (k + 1) from E1.out.symm)
          go_wp2
          go_round
          case rel => exact ⟨k + 1, by omega, by go_num, by rw [E3.out]⟩
          case measure => simp [intOf]; omega
    · obtain rfl : k = rows.length := by omega
      go_wp2
      go_ret
      exact ⟨rfl, rfl⟩

set_option maxRecDepth 100000 in
set_option maxHeartbeats 800000 in
theorem specPartsOf_any (ao : Option Addr) (c : Nat) (rows : List (List Int)) (w : World) (hs : Small rows) (hm : MatAt w ao rows) :
    Calls Try.prog 32 #[.slice ao rows.length c] w fun e w' => IRes (DpGood rows 6) (sumT fOne rows rows.length) e ∧ Below w.heap.size w w' := by
  have Hs := Lib.hid hs
  have Hm := Lib.hid hm
  clear hs hm
  go_enter Try.func32, Try.ntmps32
  go_wp2_with fail
  refine (dpGood_any ao c rows 6 w (by omega) Hs.out Hm.out).mono ?_
  rintro e w1 ⟨ha, hq⟩
  have Hq := Lib.hid (hq.below w.heap.size)
  have Hm1 := Lib.hid (Hm.out.below (hq.below _))
  clear hq
  by_cases q : DpGood rows 6
  · have Q1 := Lib.hid q
    obtain rfl := ha.is q
    clear q ha
    go_wp2_with fail
    refine (dpParts_any ao c rows w1 Q1.out Hm1.out).mono ?_
    rintro e w2 ⟨rfl, rfl⟩
    go_wp2
    go_ret2
    exact ⟨IRes.yes Q1.out, Hq.out⟩
  · have Q1 := Lib.hid q
    obtain rfl := ha.isnt q
    clear q ha
    go_wp2
    go_ret2
    exact ⟨IRes.no Q1.out, Hq.out⟩

set_option maxRecDepth 100000 in
set_option maxHeartbeats 800000 in
theorem specSpecialParts_any (ao : Option Addr) (c : Nat) (rows : List (List Int)) (w : World) (hs : Small rows) (hm : MatAt w ao rows) :
    Calls Try.prog 34 #[.slice ao rows.length c] w fun e w' => IRes (DpGood rows 6) (sumT fSpec rows rows.length) e ∧ Below w.heap.size w w' := by
  have Hs := Lib.hid hs
  have Hm := Lib.hid hm
  clear hs hm
  go_enter Try.func34, Try.ntmps34
  go_wp2_with fail
  refine (dpGood_any ao c rows 6 w (by omega) Hs.out Hm.out).mono ?_
  rintro e w1 ⟨ha, hq⟩
  have Hq := Lib.hid (hq.below w.heap.size)
  have Hm1 := Lib.hid (Hm.out.below (hq.below _))
  clear hq
  by_cases q : DpGood rows 6
  · have Q1 := Lib.hid q
    obtain rfl := ha.is q
    clear q ha
    go_wp2_with fail
    refine (dpSpecial_any ao c rows w1 Q1.out Hm1.out).mono ?_
    rintro e w2 ⟨rfl, rfl⟩
    go_wp2
    go_ret2
    exact ⟨IRes.yes Q1.out, Hq.out⟩
  · have Q1 := Lib.hid q
    obtain rfl := ha.isnt q
    clear q ha
    go_wp2
    go_ret2
    exact ⟨IRes.no Q1.out, Hq.out⟩

set_option maxRecDepth 100000 in
set_option maxHeartbeats 1600000 in
theorem specSumOfParts_any (ao : Option Addr) (c : Nat) (rows : List (List Int)) (w : World) (hs : Small rows) (hm : MatAt w ao rows) :
    Calls Try.prog 38 #[.slice ao rows.length c] w fun e w' => IRes (DpGood rows 6) (sumT fId rows rows.length) e ∧ Below w.heap.size w w' := by
  have Hs := Lib.hid hs
  have Hm := Lib.hid hm
  clear hs hm
  go_enter Try.func38, Try.ntmps38
  go_wp2_with fail
  refine (dpGood_any ao c rows 6 w (by omega) Hs.out Hm.out).mono ?_
  rintro e w1 ⟨ha, hq⟩
  have Hq := Lib.hid (hq.below w.heap.size)
  have Hm1 := Lib.hid (Hm.out.below (hq.below _))
  clear hq
  by_cases q : DpGood rows 6
  · have Hg := Lib.hid q
    obtain rfl := ha.is q
    clear q ha
    have hl := (Hg.out.bounds (by omega)).1
    have hmx : rows.length ≤ 9223372036854775807 := by omega
    go_wp2
    go_loop [4, 14] (fun s i => ∃ k : Nat, k ≤ rows.length ∧ i = .int .i64 k ∧ s = .int .i64 (sumT fId rows k)) (fun _ i => rows.length - (intOf i).toNat)
    case atStart => exact ⟨0, Nat.zero_le _, rfl, rfl⟩
    case round =>
      obtain ⟨k, hk, rfl, rfl⟩ := hrel
      by_cases hlt : k < rows.length
      · obtain ⟨b1, o1, r1, d1, rfl, hc1, hr1, _, _⟩ := Hm1.out k hlt
        have Hr1 := Lib.hid hr1
        have hl1 : (gr rows k).length ≤ 9223372036854775807 := by have := (Hg.out.bounds (by omega)).2 k hlt; omega
        have hb1 := Hg.out.sum_bd tells_id k hk
        have E1 := Lib.hid (sumT_step fId rows k)
        have Hrb := Lib.hid (Hg.out.row_bd tells_id hlt)
        obtain ⟨u, hu⟩ : ∃ u, u = sumT fId rows k := ⟨_, rfl⟩
        rw [← hu] at hb1 E1 ⊢
        obtain ⟨row, hrow⟩ : ∃ row, row = gr rows k := ⟨_, rfl⟩
        have Hin := Lib.hid (fun i hi => (Hg.out.2 k hlt).1.2.2.1 i hi)
        rw [← hrow] at hc1 Hr1 hl1 E1 Hrb Hin
        clear hr1 hu hrow
        go_wp2
        go_loop [4, 20] (fun s i => ∃ t : Nat, t ≤ row.length ∧ i = .int .i64 t ∧ s = .int .i64 (u + sumF (fun i => fId i (gi row i)) t)) (fun _ i => row.length - (intOf i).toNat)
        case atStart => exact ⟨0, Nat.zero_le _, rfl, by simp [sumF]⟩
        case round =>
          obtain ⟨t, ht, rfl, rfl⟩ := hrel
          by_cases htl : t < row.length
          · obtain ⟨b2, o2, rfl, hc2⟩ := Hr1.out t htl
            have hb2 := Hrb.out t ht
            have E2 := Lib.hid (show sumF (fun i => fId i (gi row i)) (t + 1) = sumF (fun i => fId i (gi row i)) t + fId t (gi row t) from rfl)
            have hx := Hin.out t htl
            obtain ⟨v, hv⟩ : ∃ v, v = sumF (fun i => fId i (gi row i)) t := ⟨_, rfl⟩
            rw [← hv] at hb2 E2 ⊢
            obtain ⟨x, hxx⟩ : ∃ x, x = gi row t := ⟨_, rfl⟩
            rw [← hxx] at hc2 hx E2
            clear hv hxx
            have hw : IntKind.i64.wrap (u + v + x) = u + v + x := w64 (by omega)
            have E3 := Lib.hid (show u + (v + fId t x) = u + v + x by show u + (v + x) = u + v + x; omega)
            go_wp2
            go_round
            case rel => exact ⟨t + 1, by omega, by go_num, by rw [E2.out, E3.out]⟩
            case measure => simp [intOf]; omega
          · obtain rfl : t = row.length := by omega
            have E3 := Lib.hid (show u + sumF (fun i => fId i (gi row i)) row.length = sumT fId rows (k + 1) from E1.out.symm)
            go_wp2
            go_round
            case rel => exact ⟨k + 1, by omega, by go_num, by rw [E3.out]⟩
            case measure => simp [intOf]; omega
      · obtain rfl : k = rows.length := by omega
        go_wp2
        go_ret2
        exact ⟨IRes.yes Hg.out, Hq.out⟩
  · have Q1 := Lib.hid q
    obtain rfl := ha.isnt q
    clear q ha
    go_wp2
    go_ret2
    exact ⟨IRes.no Q1.out, Hq.out⟩

set_option maxRecDepth 100000 in
set_option maxHeartbeats 1600000 in
theorem specPartsEqual_any (ao : Option Addr) (c : Nat) (rows : List (List Int)) (n : Int) (w : World) (hs : Small rows) (hm : MatAt w ao rows) (_hn : -9223372036854775808 ≤ n ∧ n ≤ 9223372036854775807) :
    Calls Try.prog 36 #[.slice ao rows.length c, .int .i64 n] w fun e w' => IRes (DpGood rows 6 ∧ 2 ≤ n ∧ n ≤ 6) (sumT (fEq n) rows rows.length) e ∧ Below w.heap.size w w' := by
  have Hs := Lib.hid hs
  have Hm := Lib.hid hm
  clear hs hm
  go_enter Try.func36, Try.ntmps36
  go_wp2_with fail
  refine (dpGood_any ao c rows 6 w (by omega) Hs.out Hm.out).mono ?_
  rintro e w1 ⟨ha, hq⟩
  have Hq := Lib.hid (hq.below w.heap.size)
  have Hm1 := Lib.hid (Hm.out.below (hq.below _))
  clear hq
  by_cases q : DpGood rows 6
  · have Hg := Lib.hid q
    obtain rfl := ha.is q
    clear q ha
    go_wp2_with fail
    refine (l1In_any n 2 6 w1).mono ?_
    rintro e w2 ⟨ha, rfl⟩
    by_cases q : 2 ≤ n ∧ n ≤ 6
    · have Q2 := Lib.hid q
      obtain rfl := ha.is q
      clear q ha
      go_wp2_with fail
      refine (dpEqual_any ao c rows n w1 Hg.out Hm1.out).mono ?_
      rintro e w2 ⟨rfl, rfl⟩
      go_wp2
      go_ret2
      exact ⟨IRes.yes ⟨Hg.out, Q2.out⟩, Hq.out⟩
    · have Q1 := Lib.hid (show ¬(DpGood rows 6 ∧ 2 ≤ n ∧ n ≤ 6) from fun h => q h.2)
      obtain rfl := ha.isnt q
      clear q ha
      go_wp2
      go_ret2
      exact ⟨IRes.no Q1.out, Hq.out⟩
  · have Q1 := Lib.hid (show ¬(DpGood rows 6 ∧ 2 ≤ n ∧ n ≤ 6) from fun h => q h.1)
    obtain rfl := ha.isnt q
    clear q ha
    go_wp2
    go_ret2
    exact ⟨IRes.no Q1.out, Hq.out⟩

set_option maxRecDepth 100000 in
set_option maxHeartbeats 800000 in
theorem specIsDescending_any (ao : Option Addr) (c : Nat) (rows : List (List Int)) (n : Int) (w : World) (hs : Small rows) (hm : MatAt w ao rows) (_hn : -9223372036854775808 ≤ n ∧ n ≤ 9223372036854775807) :
    Calls Try.prog 19 #[.slice ao rows.length c, .int .i64 n] w fun e w' => BRes (1 ≤ n ∧ n ≤ 6) (DpGood rows n.toNat) e ∧ Below w.heap.size w w' := by
  have Hs := Lib.hid hs
  have Hm := Lib.hid hm
  clear hs hm
  go_enter Try.func19, Try.ntmps19
  go_wp2_with fail
  refine (l1In_any n 1 6 w).mono ?_
  rintro e w2 ⟨ha, rfl⟩
  by_cases q : 1 ≤ n ∧ n ≤ 6
  · have Q2 := Lib.hid q
    obtain rfl := ha.is q
    obtain ⟨k, rfl⟩ : ∃ k : Nat, n = (k : Int) := ⟨n.toNat, by omega⟩
    have C := Lib.hid (dpGood_any ao c rows k w (by omega) Hs.out Hm.out)
    clear q ha
    go_wp2_with fail
    refine C.out.mono ?_
    rintro e w1 ⟨⟨b, rfl, hb⟩, hq⟩
    have Hq := Lib.hid (hq.below w.heap.size)
    have Hb := Lib.hid hb
    clear hq hb
    go_wp2
    go_ret2
    exact ⟨⟨b, true, rfl, .inl ⟨Q2.out, rfl, by rw [Int.toNat_natCast]; exact Hb.out⟩⟩, Hq.out⟩
  · have Q1 := Lib.hid q
    obtain rfl := ha.isnt q
    clear q ha
    go_wp2
    go_ret2
    exact ⟨⟨false, false, rfl, .inr ⟨Q1.out, rfl, rfl⟩⟩, Below.refl _ _⟩
end Go.Proofs.Ytfempacfaeknpaa

