/- Contracts: DescendingWith, by both sides. Conditions: ints. -/
import Derived.Test.YtfempacfaeknpaaDpY
namespace Go.Proofs.Ytfempacfaeknpaa
open Go.RowKit

/-- all partitions for n -/
def allP (n : Nat) : List (List (List Int)) := allD n n []
theorem planes_allP : ∀ n : Nat, n < 5 → n = 0 ∨ planesL n (lim1 n) = allP n := by decide +kernel
/-- they are few, and of few rows of few parts -/
theorem allP_few : ∀ n : Nat, n < 5 → (allP n).length ≤ 42 ∧ ∀ p, p ∈ allP n → p.length ≤ 4 ∧ ∀ r, r ∈ p → r.length ≤ 4 := by decide +kernel
theorem allP_small {n : Nat} (hn : n < 5) {p : List (List Int)} (h : p ∈ allP n) : Small p := by
  have h1 := (allP_few n hn).2 p h
  exact ⟨by omega, fun i hi => by have := h1.2 _ (gr_mem hi); omega⟩

set_option maxRecDepth 100000 in
set_option maxHeartbeats 1600000 in
theorem planesN_any (n : Nat) (h1 : 1 ≤ n) (h4 : n ≤ 4) (ao : Option Addr) (c : Nat) (w : World) (hx : IntsAt w ao (lim1 n)) :
    Calls Try.prog 70 #[.slice ao (lim1 n).length c] w fun e w' => ∃ v vs uss, e = .returned v ∧ OwnL w' w.heap.size v (allP n) vs uss ∧ Below w.heap.size w w' := by
  have C := planes_any (n - 1) (by omega) (lim1 n) ao c w (lim1_le (n := n) (by omega)) (by rw [lim1_len]; exact Nat.le_refl _) hx
  rw [show n - 1 + 1 = n by omega, (planes_allP n (by omega)).resolve_left (by omega)] at C
  exact C
theorem dpAllN_any (n : Nat) (h1 : 1 ≤ n) (h4 : n ≤ 4) (w : World) :
    Calls Try.prog 66 #[.slice none 0 0, .int .i64 n] w fun e w' => ∃ v vs, e = .returned v ∧ OwnW w' w.heap.size v (allP n) vs ∧ Below w.heap.size w w' := by
  have C := dpAll_any n (by omega) (by omega) (n - 1) none 0 [] [] w (fuel_nil (by omega)) (by simp; omega) ⟨by simp, fun i hi => absurd hi (by simp)⟩ (OwnV.nil _ _)
  rw [show n - 1 + 1 = n by omega] at C
  exact C

set_option maxRecDepth 100000 in
set_option maxHeartbeats 1600000 in
theorem dpOwn_any (ao : Option Addr) (c : Nat) (rows : List (List Int)) (w : World) (hs : Small rows) (hm : MatAt w ao rows) (hz : NilRows w ao rows) :
    Calls Try.prog 67 #[.slice ao rows.length c] w fun e w' => ∃ v vs, e = .returned v ∧ OwnV w' w.heap.size v rows vs ∧ Below w.heap.size w w' := by
  have hl := hs.1
  have hmx : rows.length ≤ 9223372036854775807 := by omega
  have Hm := Lib.hid hm
  have Hs := Lib.hid hs
  have Hz := Lib.hid hz
  clear hm hs hz
  go_enter Try.func67, Try.ntmps67
  go_wp2
  go_loopw [3, 8] (fun out i wr => ∃ (k : Nat) (vs : List Value), k ≤ rows.length ∧ i = .int .i64 k ∧ OwnV wr w.heap.size out (rows.take k) vs ∧ Below w.heap.size w wr) (fun _ i _ => rows.length - (intOf i).toNat)
  case atStart => exact ⟨0, [], Nat.zero_le _, rfl, OwnV.nil _ _, Below.refl _ _⟩
  case round =>
    obtain ⟨k, vs, hk, rfl, hown, hbr⟩ := hrel
    have Hown := Lib.hid hown
    have Hbr := Lib.hid hbr
    have HBr := Lib.hid hbr.size
    clear hown hbr
    by_cases hlt : k < rows.length
    · obtain ⟨b1, o1, r1, d1, e1, hc0, hr1, _, _⟩ := Hm.out k hlt
      have hzk := Hz.out k b1 o1 r1 d1 hlt e1 hc0
      have hc1 := cell_below hc0 Hbr.out
      have Hr1 := Lib.hid (hr1.below Hbr.out)
      have Hzk := Lib.hid hzk
      have hlk := Hs.out.2 k hlt
      have Hst := Lib.hid (show rows.take (k + 1) = rows.take k ++ [gr rows k] by rw [List.take_succ_eq_append_getElem hlt, gr_lt hlt])
      have Htl := Lib.hid (show (rows.take k).length < 1048576 by rw [List.length_take]; omega)
      subst e1
      clear hr1 hzk hc0
      obtain ⟨row, hrow⟩ : ∃ row, row = gr rows k := ⟨_, rfl⟩
      rw [← hrow] at hc1 Hr1 Hzk hlk Hst
      obtain ⟨T, hT⟩ : ∃ T, T = rows.take k := ⟨_, rfl⟩
      rw [← hT] at Hst Hown Htl
      have hrm : row.length ≤ 9223372036854775807 := by omega
      clear hrow hT
      go_wp2_with fail
      refine (l1Own_any r1 d1 row wr hlk (fun e => (Hzk.out e).1) Hr1.out).mono ?_
      rintro e w2 ⟨cv, rfl, hv, hb⟩
      obtain ⟨ca, cc, hcv, _, _, _⟩ := hv.read
      subst hcv
      have HV := Lib.hid hv
      have Hown2 := Lib.hid (Hown.out.below hb)
      have HB2 := Lib.hid (Hbr.out.trans (hb.mono HBr.out))
      clear hv hb
      go_wp2_with (at_builtin; refine wpList_rowV rfl _ _ rfl w.heap.size wr.heap.size _ (.slice ca row.length cc) T vs row Hown2.out HV.out rfl rfl HB2.out.size Htl.out ?_)
      intro v' w3 hown3 hb3
      rw [← Hst.out] at hown3
      have Hown3 := Lib.hid hown3
      have HB3 := Lib.hid (HB2.out.trans hb3)
      clear hown3 hb3
      go_wp2
      go_roundw
      case rel => exact ⟨k + 1, _, by omega, by go_num, Hown3.out, HB3.out⟩
      case measure => simp [intOf]; omega
    · obtain rfl : k = rows.length := by omega
      have HF := Lib.hid (show OwnV wr w.heap.size _ rows vs from by have := Hown.out; rw [List.take_length] at this; exact this)
      clear Hown
      go_wp2
      go_ret
      exact ⟨_, vs, rfl, HF.out, Hbr.out⟩
theorem OwnV.nilRows {w : World} {B n c : Nat} {ao : Option Addr} {m : List (List Int)} {vs : List Value} (h : OwnV w B (.slice ao n c) m vs) : NilRows w ao m := by
  intro k b o r d hk e hc hr
  obtain ⟨b1, o1, r1, d1, e1, hc1, hv1, _⟩ := h.rowAt hk
  rw [e] at e1
  simp only [Option.some.injEq, Addr.mk.injEq, and_true] at e1
  obtain ⟨rfl, rfl⟩ := e1
  rw [hc1] at hc
  simp only [Option.some.injEq, Value.slice.injEq] at hc
  have h1 := h.rows k hk
  rw [hv1, hc.1, hr, hc.2.2] at h1
  exact h1.nil_of rfl
/-- reading one of the tables of a list, with what is known of its rows -/
theorem OwnW.at2 {w : World} {B n c : Nat} {ao : Option Addr} {ts : List (List (List Int))} {vs : List Value} (h : OwnW w B (.slice ao n c) ts vs) {i : Nat} (hi : i < ts.length) :
    ∃ b o r d, ao = some ⟨b, o, none⟩ ∧ w.cell? ⟨b, o + i, none⟩ = some (.slice r (gt ts i).length d) ∧ MatAt w r (gt ts i) ∧ NilRows w r (gt ts i) ∧ (gt ts i).length ≤ d ∧ d ≤ 9223372036854775807 := by
  obtain ⟨ao', c', e, _, _, hc⟩ := ownsRow_read h.top
  cases e
  obtain ⟨b, o, e, hcell⟩ := hc i hi
  obtain ⟨us, hx⟩ := h.each i hi
  obtain ⟨r, d, hr, h3, h4, hm⟩ := hx.read
  rw [hr] at hx
  exact ⟨b, o, r, d, e, by rw [hcell, hr], hm, hx.nilRows, h3, h4⟩

set_option maxRecDepth 100000 in
set_option maxHeartbeats 3200000 in
theorem specDescendingWith_any (n q : Int) (w : World) (_hn : -9223372036854775808 ≤ n ∧ n ≤ 9223372036854775807) (_hq : -9223372036854775808 ≤ q ∧ q ≤ 9223372036854775807) :
    Calls Try.prog 56 #[.int .i64 n, .int .i64 q] w fun e w' => VRes ((1 ≤ n ∧ n ≤ 4) ∧ 0 ≤ q ∧ q < (allP n.toNat).length) (gt (allP n.toNat) q.toNat) w' e ∧ Below w.heap.size w w' := by
  have C := Lib.hid (dpSmall_any n w)
  by_cases p : 1 ≤ n ∧ n ≤ 4
  · obtain ⟨k, rfl⟩ : ∃ k : Nat, n = (k : Int) := ⟨n.toNat, by omega⟩
    rw [Int.toNat_natCast]
    have Hp := Lib.hid p
    have C1 := Lib.hid (dpAllN_any k (by omega) (by omega) w)
    have hl := (allP_few k (by omega)).1
    have Hsm := Lib.hid (fun p (hp : p ∈ allP k) => allP_small (n := k) (by omega) hp)
    obtain ⟨A, hA⟩ : ∃ A, A = allP k := ⟨_, rfl⟩
    rw [← hA] at C1 hl Hsm ⊢
    have hAm : A.length ≤ 9223372036854775807 := by omega
    have hw : IntKind.i64.wrap ((A.length : Int) - 1) = (A.length : Int) - 1 := w64 (by omega)
    clear p hA
    go_enter Try.func56, Try.ntmps56
    go_wp2_with fail
    refine C.out.mono ?_
    rintro e w1 ⟨ha, rfl⟩
    obtain rfl := ha.is Hp.out
    clear ha
    go_wp2_with fail
    refine C1.out.mono ?_
    rintro e w3 ⟨v, vs, rfl, hv, hb⟩
    obtain ⟨la, lc, rfl, _, _⟩ := hv.head
    have HV := Lib.hid hv
    have HB3 := Lib.hid hb
    clear hv hb
    go_wp2_with fail
    refine (l1In_any q 0 ((A.length : Int) - 1) w3).mono ?_
    rintro e w4 ⟨ha, rfl⟩
    by_cases pq : 0 ≤ q ∧ q ≤ (A.length : Int) - 1
    · obtain rfl := ha.is pq
      obtain ⟨j, rfl⟩ : ∃ j : Nat, q = (j : Int) := ⟨q.toNat, by omega⟩
      have hj : j < A.length := by omega
      have Hpq := Lib.hid (show 0 ≤ (j : Int) ∧ (j : Int) < (A.length : Int) by omega)
      obtain ⟨b1, o1, r1, d1, e1, hc1, hm1, hz1, _, _⟩ := HV.out.at2 hj
      have CO := Lib.hid (dpOwn_any r1 d1 (gt A j) w3 (Hsm.out _ (gt_mem hj)) hm1 hz1)
      have hgl : (gt A j).length ≤ 9223372036854775807 := by have := (Hsm.out _ (gt_mem hj)).1; omega
      have HG := Lib.hid (show gt A (j : Int).toNat = gt A j by rw [Int.toNat_natCast])
      obtain ⟨G, hG⟩ : ∃ G, G = gt A j := ⟨_, rfl⟩
      rw [← hG] at hc1 CO hgl HG
      subst e1
      clear ha pq hm1 hz1 hG
      go_wp2_with fail
      refine CO.out.mono ?_
      rintro e w5 ⟨v, vs, rfl, hv, hb⟩
      have Hv := Lib.hid hv.read
      have HB5 := Lib.hid (HB3.out.trans (hb.mono HB3.out.size))
      clear hv hb
      go_wp2
      go_ret2
      exact ⟨VRes.yes ⟨Hp.out, Hpq.out⟩ (by rw [HG.out]; exact Hv.out), HB5.out⟩
    · have Hpq := Lib.hid (show ¬(((1 : Int) ≤ (k : Int) ∧ (k : Int) ≤ 4) ∧ 0 ≤ q ∧ q < (A.length : Int)) from fun h => pq ⟨h.2.1, by omega⟩)
      obtain rfl := ha.isnt pq
      clear ha pq
      go_wp2
      go_ret2
      exact ⟨VRes.no Hpq.out, HB3.out⟩
  · have Hp := Lib.hid p
    clear p
    go_enter Try.func56, Try.ntmps56
    go_wp2_with fail
    refine C.out.mono ?_
    rintro e w1 ⟨ha, rfl⟩
    obtain rfl := ha.isnt Hp.out
    clear ha
    go_wp2
    go_ret2
    exact ⟨VRes.no (fun h => Hp.out h.1), Below.refl _ _⟩

set_option maxRecDepth 100000 in
set_option maxHeartbeats 3200000 in
theorem implDescendingWith_any (n q : Int) (w : World) (_hn : -9223372036854775808 ≤ n ∧ n ≤ 9223372036854775807) (_hq : -9223372036854775808 ≤ q ∧ q ≤ 9223372036854775807) :
    Calls Try.prog 57 #[.int .i64 n, .int .i64 q] w fun e w' => MRes ((1 ≤ n ∧ n ≤ 4) ∧ 0 ≤ q ∧ q < (allP n.toNat).length) (gt (allP n.toNat) q.toNat) w' w.heap.size e ∧ Below w.heap.size w w' := by
  have C := Lib.hid (isListed_any n w)
  by_cases p : 1 ≤ n ∧ n ≤ 4
  · obtain ⟨k, rfl⟩ : ∃ k : Nat, n = (k : Int) := ⟨n.toNat, by omega⟩
    rw [Int.toNat_natCast]
    have Hp := Lib.hid p
    have C1 := Lib.hid (fun w => firstLimits_any k w (by omega) (by omega))
    have C2 := Lib.hid (fun a c w h => planesN_any k (by omega) (by omega) a c w h)
    have hl := (allP_few k (by omega)).1
    obtain ⟨A, hA⟩ : ∃ A, A = allP k := ⟨_, rfl⟩
    rw [← hA] at C2 hl ⊢
    obtain ⟨L, hL⟩ : ∃ L, L = lim1 k := ⟨_, rfl⟩
    rw [← hL] at C1 C2
    have hAm : A.length ≤ 9223372036854775807 := by omega
    clear p hA hL
    go_enter Try.func57, Try.ntmps57
    go_wp2_with fail
    refine C.out.mono ?_
    rintro e w1 ⟨ha, hb⟩
    obtain rfl := ha.is Hp.out
    have HB := Lib.hid hb
    clear ha hb
    go_wp2_with fail
    refine (C1.out w1).mono ?_
    rintro e w2 ⟨v, rfl, hv, hb⟩
    obtain ⟨la, lc, rfl, _, _, hI⟩ := hv.read
    have HI := Lib.hid hI
    have HB2 := Lib.hid (HB.out.trans (hb.mono HB.out.size))
    clear hv hb hI HB
    go_wp2_with fail
    refine (C2.out la lc w2 HI.out).mono ?_
    rintro e w3 ⟨v, vs, uss, rfl, hv, hb⟩
    obtain ⟨pa, pc, rfl, _, _⟩ := hv.head
    have HV := Lib.hid hv
    have HB3 := Lib.hid (HB2.out.trans (hb.mono HB2.out.size))
    have HBs := Lib.hid HB2.out.size
    clear hv hb HB2
    by_cases p1 : q < 0
    · have d1 : decide (q < 0) = true := decide_eq_true p1
      have Hpq := Lib.hid (show ¬(((1 : Int) ≤ (k : Int) ∧ (k : Int) ≤ 4) ∧ 0 ≤ q ∧ q < (A.length : Int)) from fun h => by have := h.2.1; omega)
      clear p1
      go_wp2
      go_ret2
      exact ⟨MRes.no Hpq.out, HB3.out⟩
    obtain ⟨j, rfl⟩ : ∃ j : Nat, q = (j : Int) := ⟨q.toNat, by omega⟩
    clear p1
    by_cases p2 : A.length ≤ j
    · have d2 : decide (A.length ≤ j) = true := decide_eq_true p2
      have Hpq := Lib.hid (show ¬(((1 : Int) ≤ (k : Int) ∧ (k : Int) ≤ 4) ∧ 0 ≤ (j : Int) ∧ (j : Int) < (A.length : Int)) from fun h => by have := h.2.2; omega)
      go_wp2
      go_ret2
      exact ⟨MRes.no Hpq.out, HB3.out⟩
    have d2 : decide (A.length ≤ j) = false := decide_eq_false p2
    have hj : j < A.length := by omega
    have Hpq := Lib.hid (show 0 ≤ (j : Int) ∧ (j : Int) < (A.length : Int) by omega)
    obtain ⟨b1, o1, r1, d1, e1, hc1, hv1, _, _, _⟩ := HV.out.at hj
    have hE := HV.out.each j hj
    rw [hv1] at hE
    have HG := Lib.hid (show gt A (j : Int).toNat = gt A j by rw [Int.toNat_natCast])
    have HE := Lib.hid ((hE.base HBs.out).toM)
    obtain ⟨G, hG⟩ : ∃ G, G = gt A j := ⟨_, rfl⟩
    rw [← hG] at hc1 HE HG
    subst e1
    clear hv1 hE hG p2
    go_wp2
    go_ret2
    exact ⟨MRes.yes ⟨Hp.out, Hpq.out⟩ (by rw [HG.out]; exact HE.out), HB3.out⟩
  · have Hp := Lib.hid p
    clear p
    go_enter Try.func57, Try.ntmps57
    go_wp2_with fail
    refine C.out.mono ?_
    rintro e w1 ⟨ha, hb⟩
    obtain rfl := ha.isnt Hp.out
    have HB := Lib.hid hb
    clear ha hb
    go_wp2
    go_ret2
    exact ⟨MRes.no (fun h => Hp.out h.1), HB.out⟩
end Go.Proofs.Ytfempacfaeknpaa
