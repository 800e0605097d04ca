/- Contracts: how many partitions there are, by both sides. Conditions: n in 1 to 5. -/
import Derived.Test.YtfempacfaeknpaaDpR
import Derived.Test.YtfempacfaeknpaaDpW
namespace Go.Proofs.Ytfempacfaeknpaa
open Go.RowKit

def boundC : Nat → Nat
  | 0 => 1
  | f + 1 => 1 + boundL (f + 1) * boundC f
theorem boundC_le {f : Nat} (h : f ≤ 4) : boundC f ≤ 1000000000 := by
  have : f = 0 ∨ f = 1 ∨ f = 2 ∨ f = 3 ∨ f = 4 := by omega
  rcases this with rfl | rfl | rfl | rfl | rfl <;> decide
theorem boundL_mono {f g : Nat} (h : f ≤ g) : boundL f ≤ boundL g := by
  induction g with
  | zero => obtain rfl : f = 0 := by omega
            exact Nat.le_refl _
  | succ g ih =>
    by_cases e : f = g + 1
    · subst e; exact Nat.le_refl _
    · have := ih (by omega)
      show boundL f ≤ 6 * (1 + boundL g)
      omega
theorem sum_sumF (F : List Int → Nat) : ∀ R : List (List Int), (((R.map F).sum : Nat) : Int) = sumF (fun i => (F (gr R i) : Int)) R.length := by
  intro R
  have h : ∀ k, k ≤ R.length → ((((R.take k).map F).sum : Nat) : Int) = sumF (fun i => (F (gr R i) : Int)) k := by
    intro k
    induction k with
    | zero => intro _; simp [sumF]
    | succ k ih =>
      intro hk
      rw [List.take_succ_eq_append_getElem (by omega), List.map_append, List.sum_append]
      simp only [sumF, List.map_cons, List.map_nil, List.sum_cons, List.sum_nil, Nat.add_zero]
      rw [← ih (by omega), gr_lt (show k < R.length by omega)]
      omega
  have := h R.length (Nat.le_refl _)
  rwa [List.take_length] at this
/-- rows that limits allow shorten them -/
theorem limB_short {l row : List Int} (h : Allow l row) : (limB row).length + 1 ≤ l.length := by
  rw [limB_len]
  have := h.1
  have := h.2.1
  omega
theorem rowsL_allow {l row : List Int} (h : row ∈ rowsL l) : Allow l row := longL_allow l.length [] row h
theorem countL_le : ∀ f l, (∀ i, gi l i ≤ 6) → l.length ≤ f → l.length ≤ 5 → countL (f + 1) l ≤ boundC f
  | 0, l, h6, hl, _ => by
    have : l = [] := List.length_eq_zero_iff.1 (by omega)
    subst this
    decide
  | f + 1, l, h6, hl, h5 => by
    show 1 + ((rowsL l).map fun row => countL (f + 1) (limB row)).sum ≤ 1 + boundL (f + 1) * boundC f
    have h1 : ∀ R : List (List Int), (∀ r, r ∈ R → Allow l r) → (R.map fun row => countL (f + 1) (limB row)).sum ≤ R.length * boundC f := by
      intro R
      induction R with
      | nil => intro _; simp
      | cons r R ih =>
        intro h
        have h2 := ih (fun x hx => h x (List.mem_cons_of_mem _ hx))
        have h3 := h r (List.mem_cons_self ..)
        have h4 := countL_le f (limB r) (limB_le (by have := h3.2.1; omega)) (by have := limB_short h3; omega) (by have := limB_short h3; omega)
        simp only [List.map_cons, List.sum_cons, List.length_cons, Nat.succ_mul]
        omega
    have h2 := h1 (rowsL l) (fun r hr => rowsL_allow hr)
    have h3 : (rowsL l).length ≤ boundL (f + 1) := Nat.le_trans (longL_len h6 l.length []) (boundL_mono hl)
    have h4 : (rowsL l).length * boundC f ≤ boundL (f + 1) * boundC f := Nat.mul_le_mul_right _ h3
    omega

set_option maxRecDepth 100000 in
set_option maxHeartbeats 800000 in
theorem sumOfRows_count (F : Nat → Int) (ao : Option Addr) (c : Nat) (m : List (List Int)) (w : World) (hn : m.length ≤ 1048576)
    (hbd : ∀ k, k ≤ m.length → 0 ≤ sumF F k ∧ sumF F k ≤ 4000000000000000000) (hF : ∀ k, k < m.length → 0 ≤ F k ∧ F k ≤ 1000000000) (hx : MatAt w ao m)
    (H : ∀ i, i < m.length → ∀ r c w, IntsAt w r (gr m i) → Calls Try.prog 103 #[.slice r (gr m i).length c] w fun e w' => e = .returned (.int .i64 (F i)) ∧ Below w.heap.size w w') :
    Calls Try.prog 102 #[.slice ao m.length c, .func (.func 103) #[] #[]] w fun e w' => e = .returned (.int .i64 (sumF F m.length)) ∧ Below w.heap.size w w' := by
  have hmx : m.length ≤ 9223372036854775807 := by omega
  have Hx := Lib.hid hx
  have Hbd := Lib.hid hbd
  have HF := Lib.hid hF
  have HH := Lib.hid H
  clear hx hbd H hF
  go_enter Try.func102, Try.ntmps102
  go_wp2
  go_loopw [5, 10] (fun s i wr => ∃ k : Nat, k ≤ m.length ∧ i = .int .i64 k ∧ s = .int .i64 (sumF F k) ∧ Below w.heap.size w wr) (fun _ i _ => m.length - (intOf i).toNat)
  case atStart => exact ⟨0, Nat.zero_le _, rfl, rfl, Below.refl _ _⟩
  case round =>
    obtain ⟨k, hk, rfl, rfl, hbr⟩ := hrel
    have Hbr := Lib.hid hbr
    clear hbr
    by_cases hlt : k < m.length
    · obtain ⟨b1, o1, r1, d1, rfl, hc1, hr1, hd1, hd2⟩ := (Hx.out.below Hbr.out) k hlt
      have e1 : sumF F (k + 1) = sumF F k + F k := rfl
      have hb1 := Hbd.out k hk
      have hb2 := Hbd.out (k + 1) (by omega)
      rw [e1] at hb2
      have hh := HH.out k hlt r1 d1 wr hr1
      have E1 := Lib.hid e1
      clear e1
      obtain ⟨s, hs⟩ : ∃ s, s = sumF F k := ⟨_, rfl⟩
      obtain ⟨y, hy⟩ : ∃ y, y = F k := ⟨_, rfl⟩
      rw [← hs, ← hy] at hb2
      rw [← hs] at hb1 ⊢
      have HH2 := Lib.hid hh
      have Hs := Lib.hid hs
      have Hy := Lib.hid hy
      clear hh hs hy hr1
      go_wp2_with fail
      refine HH2.out.mono ?_
      rintro e w2 ⟨rfl, hb⟩
      rw [← Hy.out]
      have HB2 := Lib.hid (Hbr.out.trans (hb.mono Hbr.out.size))
      clear hb
      go_wp2
      go_roundw
      case rel => exact ⟨k + 1, by omega, by go_num, by rw [E1.out, ← Hs.out, ← Hy.out], HB2.out⟩
      case measure => simp [intOf]; omega
    · obtain rfl : k = m.length := by omega
      go_wp2
      go_ret
      exact ⟨rfl, Hbr.out⟩

set_option maxRecDepth 100000 in
set_option maxHeartbeats 1600000 in
theorem count_any : ∀ (f : Nat), f ≤ 4 → ∀ (l : List Int) (ao : Option Addr) (c : Nat) (w : World), (∀ i, gi l i ≤ 6) → l.length ≤ f → IntsAt w ao l →
    Calls Try.prog 71 #[.slice ao l.length c] w fun e w' => e = .returned (.int .i64 (countL (f + 1) l : Nat)) ∧ Below w.heap.size w w' := by
  intro f
  induction f using Nat.strongRecOn with
  | _ f ih =>
    intro hf l ao c w h6 hl hx
    have C := Lib.hid (rows_any l h6 (by omega) ao c w hx)
    have Hal := Lib.hid (fun r (hr : r ∈ rowsL l) => rowsL_allow hr)
    have Hle := Lib.hid (countL_le f l h6 hl (by omega))
    have Hsm := Lib.hid (rowsL_small h6 (by omega))
    have IH := Lib.hid ih
    have hCb := boundC_le hf
    have HE := Lib.hid (show ((countL (f + 1) l : Nat) : Int) = 1 + sumF (fun i => ((countL f (limB (gr (rowsL l) i)) : Nat) : Int)) (rowsL l).length by
      rw [← sum_sumF (fun row => countL f (limB row))]
      show ((1 + ((rowsL l).map fun row => countL f (limB row)).sum : Nat) : Int) = _
      omega)
    obtain ⟨R, hR⟩ : ∃ R, R = rowsL l := ⟨_, rfl⟩
    rw [← hR] at C Hal Hsm HE
    obtain ⟨T, hT⟩ : ∃ T, T = countL (f + 1) l := ⟨_, rfl⟩
    rw [← hT] at Hle HE ⊢
    clear hx ih hR hT
    go_enter Try.func71, Try.ntmps71
    go_wp2_with fail
    refine C.out.mono ?_
    rintro e w1 ⟨v, vs, rfl, hv, hb⟩
    obtain ⟨ra, rc, rfl, _, _, hm⟩ := hv.read
    have HB := Lib.hid hb
    have hnn : ∀ k, 0 ≤ sumF (fun i => ((countL f (limB (gr R i)) : Nat) : Int)) k := by
      intro k
      induction k with
      | zero => simp [sumF]
      | succ k ih => simp only [sumF]; omega
    have hmono : ∀ k, k ≤ R.length → sumF (fun i => ((countL f (limB (gr R i)) : Nat) : Int)) k ≤ sumF (fun i => ((countL f (limB (gr R i)) : Nat) : Int)) R.length := by
      intro k hk
      obtain ⟨d, hd⟩ : ∃ d, R.length = k + d := ⟨R.length - k, by omega⟩
      rw [hd, sumF_app]
      have : ∀ d, 0 ≤ sumF (fun i => ((countL f (limB (gr R (k + i))) : Nat) : Int)) d := by
        intro d
        induction d with
        | zero => simp [sumF]
        | succ d ih => simp only [sumF]; omega
      have := this d
      omega
    have htot : sumF (fun i => ((countL f (limB (gr R i)) : Nat) : Int)) R.length ≤ 1000000000 := by
      have h1 := HE.out
      have h2 := Hle.out
      omega
    have CS := Lib.hid (sumOfRows_count (fun i => ((countL f (limB (gr R i)) : Nat) : Int)) ra rc R w1 Hsm.out.1 (fun k hk => ⟨hnn k, by have := hmono k hk; omega⟩)
      (fun k hk => ⟨by omega, by
        have h1 := hmono (k + 1) (by omega)
        have h2 := hnn k
        simp only [sumF] at h1
        omega⟩) hm (fun i hi r c w hr => by
        have ha := Hal.out _ (gr_mem hi)
        have hsh := limB_short ha
        have hrl : (gr R i).length ≤ 1048576 := Hsm.out.2 i hi
        have hbd : ∀ j, j < (gr R i).length → 1 ≤ gi (gr R i) j ∧ gi (gr R i) j ≤ 9223372036854775807 := fun j hj => ⟨(ha.2.2.2 j hj).1, by have := (ha.2.2.2 j hj).2.1; have := h6 j; omega⟩
        have CL := Lib.hid (limitsBelow_any r c (gr R i) w ha.1 hrl hbd hr)
        have hg6 := limB_le (row := gr R i) (by have := ha.2.1; omega)
        have CC := Lib.hid (fun a c w hx => IH.out (f - 1) (by omega) (by omega) (limB (gr R i)) a c w hg6 (by omega) hx)
        rw [show f - 1 + 1 = f by omega] at CC
        obtain ⟨L, hL⟩ : ∃ L, L = limB (gr R i) := ⟨_, rfl⟩
        show Calls Try.prog _ _ _ fun e w' => e = .returned (.int .i64 (countL f (limB (gr R i)) : Nat)) ∧ Below w.heap.size w w'
        rw [← hL] at CL CC ⊢
        obtain ⟨T2, hT2⟩ : ∃ T2, T2 = countL f L := ⟨_, rfl⟩
        rw [← hT2] at CC ⊢
        have hrlm : (gr R i).length ≤ 9223372036854775807 := by omega
        obtain ⟨row, hrow⟩ : ∃ row, row = gr R i := ⟨_, rfl⟩
        rw [← hrow] at CL hrlm ⊢
        clear hnn hmono htot hm hv hb ha hsh hbd hg6 hr hL hT2 hrow hrl
        go_enter Try.func103, Try.ntmps103
        go_wp2_with fail
        refine CL.out.mono ?_
        rintro e w3 ⟨v, rfl, hv, hb⟩
        obtain ⟨la, lc, rfl, _, _, hI⟩ := hv.read
        have HI := Lib.hid hI
        have HB3 := Lib.hid hb
        clear hv hb hI
        go_wp2_with fail
        refine (CC.out la lc w3 HI.out).mono ?_
        rintro e w4 ⟨rfl, hb⟩
        have HB4 := Lib.hid (HB3.out.trans (hb.mono HB3.out.size))
        clear hb
        go_wp2
        go_ret
        exact ⟨rfl, HB4.out⟩))
    obtain ⟨S, hS⟩ : ∃ S, S = sumF (fun i => ((countL f (limB (gr R i)) : Nat) : Int)) R.length := ⟨_, rfl⟩
    have hS0 := hnn R.length
    rw [← hS] at CS HE htot hS0
    obtain ⟨Rl, hRl⟩ : ∃ Rl, Rl = R.length := ⟨_, rfl⟩
    rw [← hRl] at CS ⊢
    have hw : IntKind.i64.wrap (1 + S) = 1 + S := w64 (by omega)
    have hRm : Rl ≤ 9223372036854775807 := by have := Hsm.out.1; omega
    clear hnn hmono hS hv hb hm hRl
    go_wp2_with fail
    refine CS.out.mono ?_
    rintro e w2 ⟨rfl, hb⟩
    have HB2 := Lib.hid (HB.out.trans (hb.mono HB.out.size))
    clear hb
    go_wp2
    go_ret
    exact ⟨by rw [HE.out]; rfl, HB2.out⟩

set_option maxRecDepth 100000 in
set_option maxHeartbeats 1600000 in
theorem implCountDescending_any (n : Int) (w : World) (_hn : -9223372036854775808 ≤ n ∧ n ≤ 9223372036854775807) :
    Calls Try.prog 29 #[.int .i64 n] w fun e w' => IRes (1 ≤ n ∧ n ≤ 5) ((countL (n.toNat - 1) (lim1 n.toNat) : Nat) : Int) e ∧ Below w.heap.size w w' := by
  obtain ⟨w1, hw1⟩ : ∃ w1, w1 = w.alloc (.cells #[.int .i64 n] 3) := ⟨_, rfl⟩
  have C := Lib.hid (allIn_any 1 5 (some ⟨w.heap.size, 0, none⟩) 1 [n] w1 (by simp) (by rw [hw1]; exact ints_one w n))
  have HB := Lib.hid (show Below w.heap.size w w1 by rw [hw1]; exact (Below.refl _ _).alloc (Nat.le_refl _) _)
  have Hw1 := Lib.hid hw1
  clear hw1
  by_cases q : 1 ≤ n ∧ n ≤ 5
  · obtain ⟨k, rfl⟩ : ∃ k : Nat, n = (k : Int) := ⟨n.toNat, by omega⟩
    rw [Int.toNat_natCast]
    have Hq := Lib.hid q
    have C1 := Lib.hid (fun w => firstLimits_any k w (by omega) (by omega))
    have hcnt : countL (k - 1 + 1) (lim1 k) = countL (k - 1) (lim1 k) := by
      have : k = 1 ∨ k = 2 ∨ k = 3 ∨ k = 4 ∨ k = 5 := by omega
      rcases this with rfl | rfl | rfl | rfl | rfl <;> decide +kernel
    have CC := Lib.hid (fun a c w hx => count_any (k - 1) (by omega) (lim1 k) a c w (lim1_le (n := k) (by omega)) (by rw [lim1_len]; exact Nat.le_refl _) hx)
    rw [hcnt] at CC
    obtain ⟨T, hT⟩ : ∃ T, T = countL (k - 1) (lim1 k) := ⟨_, rfl⟩
    rw [← hT] at CC ⊢
    obtain ⟨L, hL⟩ : ∃ L, L = lim1 k := ⟨_, rfl⟩
    rw [← hL] at C1 CC
    have Hin := Lib.hid (allIn_one.2 q)
    clear q hL hT hcnt
    go_enter Try.func29, Try.ntmps29
    go_wp2_with fail
    rw [← Hw1.out]
    refine C.out.mono ?_
    rintro e w2 ⟨ha, rfl⟩
    obtain rfl := ha.is Hin.out
    clear ha
    go_wp2_with fail
    refine (C1.out w1).mono ?_
    rintro e w2 ⟨v, rfl, hv, hb⟩
    obtain ⟨la, lc, rfl, _, _, hI⟩ := hv.read
    have HI := Lib.hid hI
    have HB2 := Lib.hid (HB.out.trans (hb.mono HB.out.size))
    clear hv hb hI
    go_wp2_with fail
    refine (CC.out la lc w2 HI.out).mono ?_
    rintro e w3 ⟨rfl, hb⟩
    have HB3 := Lib.hid (HB2.out.trans (hb.mono HB2.out.size))
    clear hb
    go_wp2
    go_ret2
    exact ⟨IRes.yes Hq.out, HB3.out⟩
  · have Hq := Lib.hid q
    have Hin := Lib.hid (show ¬ allIn [n] 1 5 from fun h => q (allIn_one.1 h))
    clear q
    go_enter Try.func29, Try.ntmps29
    go_wp2_with fail
    rw [← Hw1.out]
    refine C.out.mono ?_
    rintro e w2 ⟨ha, rfl⟩
    obtain rfl := ha.isnt Hin.out
    clear ha
    go_wp2
    go_ret2
    exact ⟨IRes.no Hq.out, HB.out⟩

theorem fuel_nil {n : Nat} (h : 1 ≤ n) : Fuel n (n - 1) [] := .inl ⟨rfl, by omega⟩

set_option maxRecDepth 100000 in
set_option maxHeartbeats 1600000 in
theorem specCountDescending_any (n : Int) (w : World) (_hn : -9223372036854775808 ≤ n ∧ n ≤ 9223372036854775807) :
    Calls Try.prog 28 #[.int .i64 n] w fun e w' => IRes (1 ≤ n ∧ n ≤ 5) ((countL (n.toNat - 1) (lim1 n.toNat) : Nat) : Int) e ∧ Below w.heap.size w w' := by
  have C := Lib.hid (l1In_any n 1 5 w)
  by_cases q : 1 ≤ n ∧ n ≤ 5
  · obtain ⟨k, rfl⟩ : ∃ k : Nat, n = (k : Int) := ⟨n.toNat, by omega⟩
    rw [Int.toNat_natCast]
    have Hq := Lib.hid q
    have C1 := Lib.hid (dpAll_any k (by omega) (by omega) (k - 1) none 0 [] [] w (fuel_nil (by omega)) (by simp; omega) ⟨by simp, fun i hi => absurd hi (by simp)⟩ (OwnV.nil _ _))
    rw [show k - 1 + 1 = k by omega] at C1
    have hl := (count_all k (by omega)).resolve_left (by omega)
    have hb := (allD_len (n := k) (by omega) (by omega) (k - 1) [] (fuel_nil (by omega))).1
    rw [show k - 1 + 1 = k by omega] at hb
    have hb2 := (boundA_le (f := k - 1) (by omega)).1
    rw [← hl]
    obtain ⟨A, hA⟩ : ∃ A, A = allD k k [] := ⟨_, rfl⟩
    rw [← hA] at C1 hb ⊢
    have hAm : A.length ≤ 9223372036854775807 := by omega
    clear q hA hl hb hb2
    go_enter Try.func28, Try.ntmps28
    go_wp2_with fail
    refine C.out.mono ?_
    rintro e w1 ⟨ha, rfl⟩
    obtain rfl := ha.is Hq.out
    clear ha
    go_wp2_with fail
    refine C1.out.mono ?_
    rintro e w3 ⟨v, vs, rfl, hv, hb⟩
    obtain ⟨la, lc, rfl, _, _⟩ := hv.head
    have HB3 := Lib.hid hb
    clear hv hb
    go_wp2
    go_ret2
    exact ⟨IRes.yes Hq.out, HB3.out⟩
  · have Hq := Lib.hid q
    clear q
    go_enter Try.func28, Try.ntmps28
    go_wp2_with fail
    refine C.out.mono ?_
    rintro e w1 ⟨ha, rfl⟩
    obtain rfl := ha.isnt Hq.out
    clear ha
    go_wp2
    go_ret2
    exact ⟨IRes.no Hq.out, Below.refl _ _⟩
end Go.Proofs.Ytfempacfaeknpaa
