/- Contract: determinants, by the program. Condition: square tables of at most 5 rows. -/
import Derived.Test.YtfempacfaeknpaaDr1
namespace Go.Proofs.Ytfempacfaeknpaa
open Go.RowKit

theorem MatAt.tail {w : World} {b o : Nat} {t : List (List Int)} (h : MatAt w (some ⟨b, o, none⟩) t) : MatAt w (some ⟨b, o + 1, none⟩) t.tail := fun i hi => by
  rw [List.length_tail] at hi
  obtain ⟨b1, o1, r, d, e, hc, hx, h1, h2⟩ := h (i + 1) (by omega)
  cases e
  rw [gr_tail]
  exact ⟨b, o + 1, r, d, rfl, by rw [show o + 1 + i = o + (i + 1) by omega]; exact hc, hx, h1, h2⟩
theorem sgn_wrap (k : Nat) : IntKind.i64.wrap (-(sgnD k)) = sgnD (k + 1) := by
  rw [sgnD_succ]
  exact w64 (by have := sgnD_is k; omega)

set_option maxRecDepth 100000 in
set_option maxHeartbeats 3200000 in
theorem determinant_any : ∀ (n : Nat), n ≤ 5 → ∀ (ao : Option Addr) (c : Nat) (t : List (List Int)) (w : World), Sq n t → n ≤ c → c ≤ 9223372036854775807 → MatAt w ao t →
    Calls Try.prog 76 #[.slice ao n c] w fun e w' => e = .returned (.int .i64 (detW n t)) ∧ Below w.heap.size w w' := by
  intro n
  induction n with
  | zero =>
    intro _ ao c t w hs hc hc2 hm
    clear hm hs
    go_enter Try.func76, Try.ntmps76
    go_wp2
    go_ret
    exact ⟨rfl, Below.refl _ _⟩
  | succ n ih =>
    intro hn ao c t w hs hc hc2 hm
    obtain ⟨b1, o1, r1, d1, rfl, hc0, hr1, hd1, hd2⟩ := hm 0 (by rw [hs.1]; omega)
    rw [hs.2 0 (by omega), Nat.add_zero] at hc0
    have Hm := Lib.hid hm
    have Hs := Lib.hid hs
    have IH := Lib.hid (ih (by omega))
    have Hr1 := Lib.hid hr1
    have HE := Lib.hid (show detW (n + 1) t = dS (detW n) t (n + 1) from rfl)
    have hlr := hs.2 0 (by omega)
    obtain ⟨N, hN⟩ : ∃ N, N = n + 1 := ⟨_, rfl⟩
    rw [← hN] at hc hc0 HE hn hlr ⊢
    have hN0 : ((N : Int) == 0) = false := beq_eq_false_iff_ne.2 (by omega)
    have hNp : 0 < N := by omega
    have hNm : N ≤ 9223372036854775807 := by omega
    have HN := Lib.hid hN
    obtain ⟨D, hD⟩ : ∃ D, D = detW N t := ⟨_, rfl⟩
    rw [← hD] at HE ⊢
    have Hlr := Lib.hid hlr
    clear hm hs ih hr1 hN hD hlr
    go_enter Try.func76, Try.ntmps76
    go_wp2
    go_loopw [3, 4, 14] (fun s g i wr => ∃ k : Nat, k ≤ N ∧ i = .int .i64 k ∧ s = .int .i64 (dS (detW n) t k) ∧ g = .int .i64 (sgnD k) ∧ Below w.heap.size w wr) (fun _ _ i _ => N - (intOf i).toNat)
    case atStart => exact ⟨0, Nat.zero_le _, rfl, rfl, rfl, Below.refl _ _⟩
    case round =>
      obtain ⟨k, hk, rfl, rfl, rfl, hbr⟩ := hrel
      have Hbr := Lib.hid hbr
      have HBr := Lib.hid hbr.size
      clear hbr
      by_cases hlt : k < N
      · obtain ⟨b2, o2, e2, hc2'⟩ := (Hr1.out.below Hbr.out) k (by rw [Hlr.out]; exact hlt)
        have Hst := Lib.hid (show dS (detW n) t (k + 1) = IntKind.i64.wrap (dS (detW n) t k + IntKind.i64.wrap (IntKind.i64.wrap (sgnD k * gi (gr t 0) k) * detW n (minor t k))) from rfl)
        have hneg := sgn_wrap k
        have Hsq := Lib.hid (Sq.minor (n := n) (t := t) (by have := HN.out; exact Hs.out) (j := k) (by have := HN.out; omega))
        obtain ⟨s, hs⟩ : ∃ s, s = dS (detW n) t k := ⟨_, rfl⟩
        obtain ⟨g, hg⟩ : ∃ g, g = sgnD k := ⟨_, rfl⟩
        obtain ⟨g2, hg2⟩ : ∃ g2, g2 = sgnD (k + 1) := ⟨_, rfl⟩
        obtain ⟨x, hx⟩ : ∃ x, x = gi (gr t 0) k := ⟨_, rfl⟩
        obtain ⟨d, hd⟩ : ∃ d, d = detW n (minor t k) := ⟨_, rfl⟩
        rw [← hs, ← hg, ← hx, ← hd] at Hst
        rw [← hg, ← hg2] at hneg
        rw [← hx] at hc2'
        obtain ⟨y1, hy1⟩ : ∃ y1, y1 = IntKind.i64.wrap (g * x) := ⟨_, rfl⟩
        obtain ⟨y2, hy2⟩ : ∃ y2, y2 = IntKind.i64.wrap (y1 * d) := ⟨_, rfl⟩
        obtain ⟨y3, hy3⟩ : ∃ y3, y3 = IntKind.i64.wrap (s + y2) := ⟨_, rfl⟩
        rw [← hy1, ← hy2, ← hy3] at Hst
        have hw1 := hy1.symm
        have hw2 := hy2.symm
        have hw3 := hy3.symm
        have Hd := Lib.hid hd
        have Hg2 := Lib.hid hg2
        rw [← hs, ← hg]
        subst e2
        have WC := Lib.hid (fun ao c (hm' : MatAt wr ao t.tail) => withoutColumn_any ao c t.tail (n + 1) k wr (by have := HN.out; omega) (by have := HN.out; omega) (by have := HN.out; rw [List.length_tail, Hs.out.1]; omega) (fun i hi => by rw [List.length_tail, Hs.out.1] at hi; rw [gr_tail]; exact Hs.out.2 (i + 1) (by omega)) hm')
        have Htl := Lib.hid (show t.tail.length = n by rw [List.length_tail, Hs.out.1]; omega)
        rw [Htl.out] at WC
        have hNn : N - 1 = n := by have := HN.out; omega
        clear hy1 hy2 hy3 hs hg hg2 hx hd
        by_cases hc1 : c = 1
        · have HMt := Lib.hid (show t.tail = [] from List.length_eq_zero_iff.1 (by have := Htl.out; have := HN.out; omega))
          subst hc1
          go_wp2_with fail
          refine (WC.out _ 0 (by rw [HMt.out]; exact MatAt.nil _ _)).mono ?_
          rintro e w3 ⟨v, vs, rfl, hv, hb3⟩
          obtain ⟨ma, mc, hmv, hm1, hm2, hmm⟩ := hv.read
          have hml : (t.tail.map (dropC k)).length = n := by rw [List.length_map]; exact Htl.out
          rw [hml] at hmv hm1
          subst hmv
          have HB3 := Lib.hid (Hbr.out.trans (hb3.mono HBr.out))
          have CD := Lib.hid (IH.out ma mc (minor t k) w3 Hsq.out hm1 hm2 hmm)
          rw [← Hd.out] at CD
          clear hv hb3 hmm hml WC hm1 hm2
          go_wp2_with fail
          refine CD.out.mono ?_
          rintro e w4 ⟨rfl, hb4⟩
          have HB4 := Lib.hid (HB3.out.trans (hb4.mono HB3.out.size))
          clear hb4
          go_wp2
          go_roundw
          case rel => exact ⟨k + 1, by omega, by go_num, by rw [Hst.out], by rw [← Hg2.out], HB4.out⟩
          case measure => simp [intOf]; omega
        · go_wp2_with fail
          refine (WC.out _ (c - 1) ((Hm.out.below Hbr.out).tail)).mono ?_
          rintro e w3 ⟨v, vs, rfl, hv, hb3⟩
          obtain ⟨ma, mc, hmv, hm1, hm2, hmm⟩ := hv.read
          have hml : (t.tail.map (dropC k)).length = n := by rw [List.length_map]; exact Htl.out
          rw [hml] at hmv hm1
          subst hmv
          have HB3 := Lib.hid (Hbr.out.trans (hb3.mono HBr.out))
          have CD := Lib.hid (IH.out ma mc (minor t k) w3 Hsq.out hm1 hm2 hmm)
          rw [← Hd.out] at CD
          clear hv hb3 hmm hml WC hm1 hm2
          go_wp2_with fail
          refine CD.out.mono ?_
          rintro e w4 ⟨rfl, hb4⟩
          have HB4 := Lib.hid (HB3.out.trans (hb4.mono HB3.out.size))
          clear hb4
          go_wp2
          go_roundw
          case rel => exact ⟨k + 1, by omega, by go_num, by rw [Hst.out], by rw [← Hg2.out], HB4.out⟩
          case measure => simp [intOf]; omega
      · obtain rfl : k = N := by omega
        have HF := Lib.hid (show dS (detW n) t k = D by rw [HE.out, HN.out])
        go_wp2
        go_ret
        exact ⟨by rw [← HF.out]; rfl, Hbr.out⟩
end Go.Proofs.Ytfempacfaeknpaa
