/- Contract: determinants, by the model. Condition: square tables of at most 5 rows. -/
import Derived.Test.YtfempacfaeknpaaDr2
import Derived.Test.YtfempacfaeknpaaStep
namespace Go.Proofs.Ytfempacfaeknpaa
open Go.RowKit

set_option maxRecDepth 100000 in
set_option maxHeartbeats 6400000 in
theorem dpDeterminant_any : ∀ (n : Nat), n ≤ 5 → ∀ (ao : Option Addr) (c : Nat) (t : List (List Int)) (w : World), Sq n t → n ≤ c → c ≤ 9223372036854775807 → MatAt w ao t →
    Calls Try.prog 73 #[.slice ao n c] w fun e w' => e = .returned (.int .i64 (detW n t)) ∧ Below w.heap.size w w' := by
  intro n
  induction n with
  | zero =>
    intro _ ao c t w hs hc hc2 hm
    clear hm hs
    go_enter Try.func73, Try.ntmps73
    go_wp2
    go_ret
    exact ⟨rfl, Below.refl _ _⟩
  | succ n ih =>
    intro hn ao c t w hs hc hc2 hm
    obtain ⟨b1, o1, r1, d1, rfl, hc0, hr1, hd1, hd2⟩ := hm 0 (by rw [hs.1]; omega)
    rw [hs.2 0 (by omega), Nat.add_zero] at hc0
    have Hm := Lib.hid hm
    have Hs := Lib.hid hs
    have IH := Lib.hid (ih (by omega))
    have Hr1 := Lib.hid hr1
    have HE := Lib.hid (show detW (n + 1) t = dS (detW n) t (n + 1) from rfl)
    have hlr := hs.2 0 (by omega)
    obtain ⟨N, hN⟩ : ∃ N, N = n + 1 := ⟨_, rfl⟩
    rw [← hN] at hc hc0 HE hn hlr ⊢
    have hN0 : ((N : Int) == 0) = false := beq_eq_false_iff_ne.2 (by omega)
    have hNp : 0 < N := by omega
    have hNm : N ≤ 9223372036854775807 := by omega
    have HN := Lib.hid hN
    obtain ⟨D, hD⟩ : ∃ D, D = detW N t := ⟨_, rfl⟩
    rw [← hD] at HE ⊢
    have Hlr := Lib.hid hlr
    clear hm hs ih hr1 hN hD hlr
    go_enter Try.func73, Try.ntmps73
    go_wp2
    go_loopw [3, 4, 17] (fun s g i wr => ∃ k : Nat, k ≤ N ∧ i = .int .i64 k ∧ s = .int .i64 (dS (detW n) t k) ∧ g = .int .i64 (sgnD k) ∧ Below w.heap.size w wr) (fun _ _ i _ => N - (intOf i).toNat)
    case atStart => exact ⟨0, Nat.zero_le _, rfl, rfl, rfl, Below.refl _ _⟩
    case round =>
      obtain ⟨k, hk, rfl, rfl, rfl, hbr⟩ := hrel
      have Hbr := Lib.hid hbr
      have HBr := Lib.hid hbr.size
      clear hbr
      by_cases hlt : k < N
      · obtain ⟨b2, o2, e2, hc2'⟩ := (Hr1.out.below Hbr.out) k (by rw [Hlr.out]; exact hlt)
        have Hst := Lib.hid (show dS (detW n) t (k + 1) = IntKind.i64.wrap (dS (detW n) t k + IntKind.i64.wrap (IntKind.i64.wrap (sgnD k * gi (gr t 0) k) * detW n (minor t k))) from rfl)
        have hneg := sgn_wrap k
        have Hsq := Lib.hid (Sq.minor (n := n) (t := t) (by have := HN.out; exact Hs.out) (j := k) (by have := HN.out; omega))
        obtain ⟨s, hs⟩ : ∃ s, s = dS (detW n) t k := ⟨_, rfl⟩
        obtain ⟨g, hg⟩ : ∃ g, g = sgnD k := ⟨_, rfl⟩
        obtain ⟨g2, hg2⟩ : ∃ g2, g2 = sgnD (k + 1) := ⟨_, rfl⟩
        obtain ⟨x, hx⟩ : ∃ x, x = gi (gr t 0) k := ⟨_, rfl⟩
        obtain ⟨d, hd⟩ : ∃ d, d = detW n (minor t k) := ⟨_, rfl⟩
        rw [← hs, ← hg, ← hx, ← hd] at Hst
        rw [← hg, ← hg2] at hneg
        rw [← hx] at hc2'
        obtain ⟨y1, hy1⟩ : ∃ y1, y1 = IntKind.i64.wrap (g * x) := ⟨_, rfl⟩
        obtain ⟨y2, hy2⟩ : ∃ y2, y2 = IntKind.i64.wrap (y1 * d) := ⟨_, rfl⟩
        obtain ⟨y3, hy3⟩ : ∃ y3, y3 = IntKind.i64.wrap (s + y2) := ⟨_, rfl⟩
        rw [← hy1, ← hy2, ← hy3] at Hst
        have hw1 := hy1.symm
        have hw2 := hy2.symm
        have hw3 := hy3.symm
        have Hd := Lib.hid hd
        have Hg2 := Lib.hid hg2
        rw [← hs, ← hg]
        subst e2
        have Htl := Lib.hid (show t.tail.length = n by rw [List.length_tail, Hs.out.1]; omega)
        have hNn : N - 1 = n := by have := HN.out; omega
        clear hy1 hy2 hy3 hs hg hg2 hx hd
        obtain ⟨wq, hwqq⟩ : ∃ wq : World, wq = wr := ⟨_, rfl⟩
        subst hwqq
        have Hbq := Hbr
        have HBq := HBr
        by_cases hc1 : c = 1
        · have hn0 : n = 0 := by have := HN.out; omega
          have HMt := Lib.hid (show MatAt wq (some ⟨b1, o1, none⟩) t.tail from by
            rw [show t.tail = [] from List.length_eq_zero_iff.1 (by rw [Htl.out]; exact hn0)]
            exact MatAt.nil _ _)
          subst hc1
          clear hn0
          go_wp2
          go_loopw [7, 25] (fun rest i wr => ∃ (j : Nat) (vs : List Value), j ≤ n ∧ i = .int .i64 j ∧ OwnV wr wq.heap.size rest ((t.tail.take j).map (dropC k)) vs ∧ Below wq.heap.size wq wr) (fun _ i _ => n - (intOf i).toNat)
          case atStart => exact ⟨0, [], Nat.zero_le _, rfl, OwnV.nil _ _, Below.refl _ _⟩
          case round =>
            obtain ⟨j, vs, hj, rfl, hown, hbj⟩ := hrel
            have Hown := Lib.hid hown
            have Hbj := Lib.hid hbj
            have HBj := Lib.hid hbj.size
            clear hown hbj
            by_cases hjl : j < n
            · have hjt : j < t.tail.length := by rw [Htl.out]; exact hjl
              obtain ⟨b3, o3, r3, d3, e3, hc3, hr3, hd3, hd4⟩ := (HMt.out.below Hbj.out) j hjt
              have hr3l : (gr t.tail j).length = N := by rw [gr_tail, Hs.out.2 (j + 1) (by omega)]; exact HN.out.symm
              rw [hr3l] at hc3 hd3
              obtain ⟨br, or, er, _⟩ := hr3 0 (by omega)
              subst er
              cases e3
              have Hnext := Lib.hid (show (t.tail.take (j + 1)).map (dropC k) = (t.tail.take j).map (dropC k) ++ [dropC k (gr t.tail j)] by rw [List.take_succ_eq_append_getElem hjt, List.map_append, gr_lt hjt]; rfl)
              have Hfit2 := Lib.hid (show ((t.tail.take j).map (dropC k)).length < 1048576 by rw [List.length_map, List.length_take]; omega)
              have Hr3 := Lib.hid hr3
              obtain ⟨row, hrow⟩ : ∃ row, row = gr t.tail j := ⟨_, rfl⟩
              rw [← hrow] at hr3l Hnext Hr3
              obtain ⟨q, hq⟩ : ∃ q, q = k + 1 := ⟨_, rfl⟩
              have hwq : IntKind.i64.wrap ((k : Int) + 1) = (q : Int) := by rw [w64 (by omega)]; omega
              have hqN : q ≤ N := by omega
              have hkd : k ≤ d3 := by omega
              have hd30 : ¬ d3 = 0 := by omega
              have HC := Lib.hid (show ∀ w', Below wr.heap.size wr w' → Calls Try.prog 99 #[.slice (some ⟨br, or, none⟩) k d3] w' fun e w'' => ∃ v, e = .returned v ∧ (OwnI w'' wr.heap.size v (row.take k) ∧ Below wr.heap.size wr w'') from fun w' hb => by
                have e1 : (row.take k).length = k := by rw [List.length_take]; omega
                have C := l1Own_any (some ⟨br, or, none⟩) d3 (row.take k) w' (by omega) (fun h => by cases h) ((Hr3.out.below hb).takeN k)
                rw [e1] at C
                refine C.mono ?_
                rintro e w'' ⟨v, rfl, hv, hb2⟩
                exact ⟨v, rfl, hv.base hb.size, hb.trans (hb2.mono hb.size)⟩)
              have HlD := Lib.hid (show N - q = (row.drop q).length by rw [List.length_drop, hr3l])
              have Hlen := Lib.hid (show (row.take k).length + (row.drop q).length ≤ 1048576 by rw [List.length_take, List.length_drop]; omega)
              have Hcut := Lib.hid (show row.take k ++ row.drop q = dropC k row by rw [hq]; rfl)
              obtain ⟨DR, hDR⟩ : ∃ DR, DR = dropC k row := ⟨_, rfl⟩
              rw [← hDR] at Hcut Hnext
              obtain ⟨M, hM⟩ : ∃ M, M = (t.tail.take j).map (dropC k) := ⟨_, rfl⟩
              rw [← hM] at Hown Hnext Hfit2
              by_cases hdq : d3 = q
              · have hdN : d3 = N := by omega
                subst hdN
                obtain rfl : q = d3 := by omega
                have HD := Lib.hid (show ∀ w', Below wr.heap.size wr w' → IntsAt w' (some ⟨br, or, none⟩) (row.drop q) from fun w' _ => by rw [List.drop_eq_nil_of_le (by omega)]; exact IntsAt.nil _ _)
                have HlD0 := Lib.hid (show 0 = (row.drop q).length by rw [List.length_drop]; omega)
                obtain ⟨TK, hTK⟩ : ∃ TK, TK = row.take k := ⟨_, rfl⟩
                obtain ⟨DK, hDK⟩ : ∃ DK, DK = row.drop q := ⟨_, rfl⟩
                rw [← hTK] at HC Hlen Hcut
                rw [← hDK] at HD HlD0 HlD Hlen Hcut
                clear hr3 hrow hDR hM hq hTK hDK hdq hr3l
                go_wp2_with fail
                go_region_law (first
                  | (refine step_call (by rfl) 99 #[.slice (some ⟨br, or, none⟩) k q] (by kernel_rfl) _ (HC.out _ (below_drewN (Below.refl _ _) 1)) ?_; intro v w5 hR5; obtain ⟨hv5, hb5⟩ := hR5; obtain ⟨va, vc, hvv, _, _, _⟩ := hv5.read; subst hvv)
                  | (refine step_appendI (by rfl) (.tmp 33) (.tmp 37) (by rfl) wr.heap.size _ TK hv5 (by rfl) ⟨br, or, none⟩ 0 DK (HD.out _ hb5) 0 HlD0.out (by rfl) Hlen.out hb5.size ?_; intro v6 w6 hown6 hb6; rw [Hcut.out] at hown6; obtain ⟨va6, vc6, hv6, _, _, _⟩ := hown6.read; subst hv6)
                  | (refine step_rowV (by rfl) (.tmp 29) (.tmp 39) (by rfl) wq.heap.size wr.heap.size _ _ M vs DR (Hown.out.below (hb5.trans hb6)) hown6 (by rfl) (by rfl) (Nat.le_trans HBj.out (hb5.trans hb6).size) Hfit2.out ?_; intro v8 w8 hown8 hb8; rw [← Hnext.out] at hown8; have Hown8 := Lib.hid hown8; have HB8 := Lib.hid ((Hbj.out.trans ((hb5.trans hb6).mono HBj.out)).trans hb8); clear hown8 hb8 hown6 hb6 hv5 hb5))
                all_goals
                  go_wp2
                  go_roundw
                  case rel => exact ⟨j + 1, _, by omega, by go_num, Hown8.out, HB8.out⟩
                  case measure => simp [intOf]; omega
              · have hqd : q ≤ d3 := by omega
                have HD := Lib.hid (show ∀ w', Below wr.heap.size wr w' → IntsAt w' (some ⟨br, or + q, none⟩) (row.drop q) from fun w' hb => (Hr3.out.below hb).dropN q)
                obtain ⟨TK, hTK⟩ : ∃ TK, TK = row.take k := ⟨_, rfl⟩
                obtain ⟨DK, hDK⟩ : ∃ DK, DK = row.drop q := ⟨_, rfl⟩
                rw [← hTK] at HC Hlen Hcut
                rw [← hDK] at HD HlD Hlen Hcut
                clear hr3 hrow hDR hM hq hTK hDK hr3l
                go_wp2_with fail
                go_region_law (first
                  | (refine step_call (by rfl) 99 #[.slice (some ⟨br, or, none⟩) k d3] (by kernel_rfl) _ (HC.out _ (below_drewN (Below.refl _ _) 1)) ?_; intro v w5 hR5; obtain ⟨hv5, hb5⟩ := hR5; obtain ⟨va, vc, hvv, _, _, _⟩ := hv5.read; subst hvv)
                  | (refine step_appendI (by rfl) (.tmp 33) (.tmp 37) (by rfl) wr.heap.size _ TK hv5 (by rfl) ⟨br, or + q, none⟩ (d3 - q) DK (HD.out _ hb5) (N - q) HlD.out (by rfl) Hlen.out hb5.size ?_; intro v6 w6 hown6 hb6; rw [Hcut.out] at hown6; obtain ⟨va6, vc6, hv6, _, _, _⟩ := hown6.read; subst hv6)
                  | (refine step_rowV (by rfl) (.tmp 29) (.tmp 39) (by rfl) wq.heap.size wr.heap.size _ _ M vs DR (Hown.out.below (hb5.trans hb6)) hown6 (by rfl) (by rfl) (Nat.le_trans HBj.out (hb5.trans hb6).size) Hfit2.out ?_; intro v8 w8 hown8 hb8; rw [← Hnext.out] at hown8; have Hown8 := Lib.hid hown8; have HB8 := Lib.hid ((Hbj.out.trans ((hb5.trans hb6).mono HBj.out)).trans hb8); clear hown8 hb8 hown6 hb6 hv5 hb5))
                all_goals
                  go_wp2
                  go_roundw
                  case rel => exact ⟨j + 1, _, by omega, by go_num, Hown8.out, HB8.out⟩
                  case measure => simp [intOf]; omega
            · obtain rfl : j = n := by omega
              have Hmin := Lib.hid (show OwnV wr wq.heap.size _ (minor t k) vs from by
                have := Hown.out
                rw [List.take_of_length_le (by rw [Htl.out]; exact Nat.le_refl _)] at this
                exact this)
              obtain ⟨ma, mc, hmv, hm1, hm2, hmm⟩ := Hmin.out.read
              have hml : (minor t k).length = j := Hsq.out.1
              rw [hml] at hmv hm1
              subst hmv
              have CD := Lib.hid (IH.out ma mc (minor t k) wr Hsq.out hm1 hm2 hmm)
              rw [← Hd.out] at CD
              have HBr3 := Lib.hid (Hbq.out.trans (Hbj.out.mono HBq.out))
              clear hmm hml hm1 hm2 Hown Hmin
              go_wp2_with fail
              refine CD.out.mono ?_
              rintro e w4 ⟨rfl, hb4⟩
              have HB4 := Lib.hid (HBr3.out.trans (hb4.mono HBr3.out.size))
              clear hb4
              go_wp2
              go_roundw
              case rel => exact ⟨k + 1, by omega, by go_num, by rw [Hst.out], by rw [← Hg2.out], HB4.out⟩
              case measure => simp [intOf]; omega
        · have HMt := Lib.hid ((Hm.out.below Hbr.out).tail)
          go_wp2
          go_loopw [7, 25] (fun rest i wr => ∃ (j : Nat) (vs : List Value), j ≤ n ∧ i = .int .i64 j ∧ OwnV wr wq.heap.size rest ((t.tail.take j).map (dropC k)) vs ∧ Below wq.heap.size wq wr) (fun _ i _ => n - (intOf i).toNat)
          case atStart => exact ⟨0, [], Nat.zero_le _, rfl, OwnV.nil _ _, Below.refl _ _⟩
          case round =>
            obtain ⟨j, vs, hj, rfl, hown, hbj⟩ := hrel
            have Hown := Lib.hid hown
            have Hbj := Lib.hid hbj
            have HBj := Lib.hid hbj.size
            clear hown hbj
            by_cases hjl : j < n
            · have hjt : j < t.tail.length := by rw [Htl.out]; exact hjl
              obtain ⟨b3, o3, r3, d3, e3, hc3, hr3, hd3, hd4⟩ := (HMt.out.below Hbj.out) j hjt
              have hr3l : (gr t.tail j).length = N := by rw [gr_tail, Hs.out.2 (j + 1) (by omega)]; exact HN.out.symm
              rw [hr3l] at hc3 hd3
              obtain ⟨br, or, er, _⟩ := hr3 0 (by omega)
              subst er
              cases e3
              have Hnext := Lib.hid (show (t.tail.take (j + 1)).map (dropC k) = (t.tail.take j).map (dropC k) ++ [dropC k (gr t.tail j)] by rw [List.take_succ_eq_append_getElem hjt, List.map_append, gr_lt hjt]; rfl)
              have Hfit2 := Lib.hid (show ((t.tail.take j).map (dropC k)).length < 1048576 by rw [List.length_map, List.length_take]; omega)
              have Hr3 := Lib.hid hr3
              obtain ⟨row, hrow⟩ : ∃ row, row = gr t.tail j := ⟨_, rfl⟩
              rw [← hrow] at hr3l Hnext Hr3
              obtain ⟨q, hq⟩ : ∃ q, q = k + 1 := ⟨_, rfl⟩
              have hwq : IntKind.i64.wrap ((k : Int) + 1) = (q : Int) := by rw [w64 (by omega)]; omega
              have hqN : q ≤ N := by omega
              have hkd : k ≤ d3 := by omega
              have hd30 : ¬ d3 = 0 := by omega
              have HC := Lib.hid (show ∀ w', Below wr.heap.size wr w' → Calls Try.prog 99 #[.slice (some ⟨br, or, none⟩) k d3] w' fun e w'' => ∃ v, e = .returned v ∧ (OwnI w'' wr.heap.size v (row.take k) ∧ Below wr.heap.size wr w'') from fun w' hb => by
                have e1 : (row.take k).length = k := by rw [List.length_take]; omega
                have C := l1Own_any (some ⟨br, or, none⟩) d3 (row.take k) w' (by omega) (fun h => by cases h) ((Hr3.out.below hb).takeN k)
                rw [e1] at C
                refine C.mono ?_
                rintro e w'' ⟨v, rfl, hv, hb2⟩
                exact ⟨v, rfl, hv.base hb.size, hb.trans (hb2.mono hb.size)⟩)
              have HlD := Lib.hid (show N - q = (row.drop q).length by rw [List.length_drop, hr3l])
              have Hlen := Lib.hid (show (row.take k).length + (row.drop q).length ≤ 1048576 by rw [List.length_take, List.length_drop]; omega)
              have Hcut := Lib.hid (show row.take k ++ row.drop q = dropC k row by rw [hq]; rfl)
              obtain ⟨DR, hDR⟩ : ∃ DR, DR = dropC k row := ⟨_, rfl⟩
              rw [← hDR] at Hcut Hnext
              obtain ⟨M, hM⟩ : ∃ M, M = (t.tail.take j).map (dropC k) := ⟨_, rfl⟩
              rw [← hM] at Hown Hnext Hfit2
              by_cases hdq : d3 = q
              · have hdN : d3 = N := by omega
                subst hdN
                obtain rfl : q = d3 := by omega
                have HD := Lib.hid (show ∀ w', Below wr.heap.size wr w' → IntsAt w' (some ⟨br, or, none⟩) (row.drop q) from fun w' _ => by rw [List.drop_eq_nil_of_le (by omega)]; exact IntsAt.nil _ _)
                have HlD0 := Lib.hid (show 0 = (row.drop q).length by rw [List.length_drop]; omega)
                obtain ⟨TK, hTK⟩ : ∃ TK, TK = row.take k := ⟨_, rfl⟩
                obtain ⟨DK, hDK⟩ : ∃ DK, DK = row.drop q := ⟨_, rfl⟩
                rw [← hTK] at HC Hlen Hcut
                rw [← hDK] at HD HlD0 HlD Hlen Hcut
                clear hr3 hrow hDR hM hq hTK hDK hdq hr3l
                go_wp2_with fail
                go_region_law (first
                  | (refine step_call (by rfl) 99 #[.slice (some ⟨br, or, none⟩) k q] (by kernel_rfl) _ (HC.out _ (below_drewN (Below.refl _ _) 1)) ?_; intro v w5 hR5; obtain ⟨hv5, hb5⟩ := hR5; obtain ⟨va, vc, hvv, _, _, _⟩ := hv5.read; subst hvv)
                  | (refine step_appendI (by rfl) (.tmp 33) (.tmp 37) (by rfl) wr.heap.size _ TK hv5 (by rfl) ⟨br, or, none⟩ 0 DK (HD.out _ hb5) 0 HlD0.out (by rfl) Hlen.out hb5.size ?_; intro v6 w6 hown6 hb6; rw [Hcut.out] at hown6; obtain ⟨va6, vc6, hv6, _, _, _⟩ := hown6.read; subst hv6)
                  | (refine step_rowV (by rfl) (.tmp 29) (.tmp 39) (by rfl) wq.heap.size wr.heap.size _ _ M vs DR (Hown.out.below (hb5.trans hb6)) hown6 (by rfl) (by rfl) (Nat.le_trans HBj.out (hb5.trans hb6).size) Hfit2.out ?_; intro v8 w8 hown8 hb8; rw [← Hnext.out] at hown8; have Hown8 := Lib.hid hown8; have HB8 := Lib.hid ((Hbj.out.trans ((hb5.trans hb6).mono HBj.out)).trans hb8); clear hown8 hb8 hown6 hb6 hv5 hb5))
                all_goals
                  go_wp2
                  go_roundw
                  case rel => exact ⟨j + 1, _, by omega, by go_num, Hown8.out, HB8.out⟩
                  case measure => simp [intOf]; omega
              · have hqd : q ≤ d3 := by omega
                have HD := Lib.hid (show ∀ w', Below wr.heap.size wr w' → IntsAt w' (some ⟨br, or + q, none⟩) (row.drop q) from fun w' hb => (Hr3.out.below hb).dropN q)
                obtain ⟨TK, hTK⟩ : ∃ TK, TK = row.take k := ⟨_, rfl⟩
                obtain ⟨DK, hDK⟩ : ∃ DK, DK = row.drop q := ⟨_, rfl⟩
                rw [← hTK] at HC Hlen Hcut
                rw [← hDK] at HD HlD Hlen Hcut
                clear hr3 hrow hDR hM hq hTK hDK hr3l
                go_wp2_with fail
                go_region_law (first
                  | (refine step_call (by rfl) 99 #[.slice (some ⟨br, or, none⟩) k d3] (by kernel_rfl) _ (HC.out _ (below_drewN (Below.refl _ _) 1)) ?_; intro v w5 hR5; obtain ⟨hv5, hb5⟩ := hR5; obtain ⟨va, vc, hvv, _, _, _⟩ := hv5.read; subst hvv)
                  | (refine step_appendI (by rfl) (.tmp 33) (.tmp 37) (by rfl) wr.heap.size _ TK hv5 (by rfl) ⟨br, or + q, none⟩ (d3 - q) DK (HD.out _ hb5) (N - q) HlD.out (by rfl) Hlen.out hb5.size ?_; intro v6 w6 hown6 hb6; rw [Hcut.out] at hown6; obtain ⟨va6, vc6, hv6, _, _, _⟩ := hown6.read; subst hv6)
                  | (refine step_rowV (by rfl) (.tmp 29) (.tmp 39) (by rfl) wq.heap.size wr.heap.size _ _ M vs DR (Hown.out.below (hb5.trans hb6)) hown6 (by rfl) (by rfl) (Nat.le_trans HBj.out (hb5.trans hb6).size) Hfit2.out ?_; intro v8 w8 hown8 hb8; rw [← Hnext.out] at hown8; have Hown8 := Lib.hid hown8; have HB8 := Lib.hid ((Hbj.out.trans ((hb5.trans hb6).mono HBj.out)).trans hb8); clear hown8 hb8 hown6 hb6 hv5 hb5))
                all_goals
                  go_wp2
                  go_roundw
                  case rel => exact ⟨j + 1, _, by omega, by go_num, Hown8.out, HB8.out⟩
                  case measure => simp [intOf]; omega
            · obtain rfl : j = n := by omega
              have Hmin := Lib.hid (show OwnV wr wq.heap.size _ (minor t k) vs from by
                have := Hown.out
                rw [List.take_of_length_le (by rw [Htl.out]; exact Nat.le_refl _)] at this
                exact this)
              obtain ⟨ma, mc, hmv, hm1, hm2, hmm⟩ := Hmin.out.read
              have hml : (minor t k).length = j := Hsq.out.1
              rw [hml] at hmv hm1
              subst hmv
              have CD := Lib.hid (IH.out ma mc (minor t k) wr Hsq.out hm1 hm2 hmm)
              rw [← Hd.out] at CD
              have HBr3 := Lib.hid (Hbq.out.trans (Hbj.out.mono HBq.out))
              clear hmm hml hm1 hm2 Hown Hmin
              go_wp2_with fail
              refine CD.out.mono ?_
              rintro e w4 ⟨rfl, hb4⟩
              have HB4 := Lib.hid (HBr3.out.trans (hb4.mono HBr3.out.size))
              clear hb4
              go_wp2
              go_roundw
              case rel => exact ⟨k + 1, by omega, by go_num, by rw [Hst.out], by rw [← Hg2.out], HB4.out⟩
              case measure => simp [intOf]; omega
      · obtain rfl : k = N := by omega
        have HF := Lib.hid (show dS (detW n) t k = D by rw [HE.out, HN.out])
        go_wp2
        go_ret
        exact ⟨by rw [← HF.out]; rfl, Hbr.out⟩
end Go.Proofs.Ytfempacfaeknpaa
