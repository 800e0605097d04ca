/- Contract of the program: the matrix with an upper half. Conditions: the numbers fit an int, lengths up to 2^20. -/
import Derived.Test.YtgdijjfipicodaaHfI
namespace Go.Proofs.Ytgdijjfipicodaa
open Go.RowKit

theorem uhM_len (rows : List (List Int)) : (uhM rows).length = 2 * rows.length := tab_len _ _ _
theorem uhM_small {rows : List (List Int)} (h : rows.length ≤ 3) : Small (uhM rows) := ⟨by rw [uhM_len]; omega, fun i hi => by rw [uhM_len] at hi; unfold uhM; rw [tab_row hi]; omega⟩
theorem uhF_wf {rows : List (List Int)} (hwf : WfM rows) (h : uhP rows) : WfM (uhM rows) := by
  refine wfI_tab fun i j hi hj => ?_
  unfold uhF
  split
  · exact hwf i (by omega) j (by rw [h.2.2 i (by omega)]; exact hj)
  · exact hwf _ (by omega) _ (by rw [h.2.2 _ (by omega)]; omega)
theorem uhM_tab {rows : List (List Int)} {N : Nat} {f : Nat → Nat → Int} (hN : N = 2 * rows.length) (h : ∀ a b, a < N → b < N → f a b = uhF rows a b) : tab N N f = uhM rows := by
  subst hN
  exact eq_tab (tab_len _ _ _) (fun i hi => tab_row hi) fun i j hi hj => by rw [gi_tab hi hj, h i j hi hj]

set_option maxRecDepth 100000 in
set_option maxHeartbeats 3200000 in
theorem implFromUpperHalf_any (ao : Option Addr) (c : Nat) (rows : List (List Int)) (w : World) (hs : Small rows) (hwf : WfM rows) (hm : MatAt w ao rows) :
    Calls Try.prog 32 #[.slice ao rows.length c] w fun e w' => MRes (uhP rows ∧ good (uhM rows)) (uhM rows) w' w.heap.size e ∧ Below w.heap.size w w' := by
  have hl := hs.1
  have hmx : rows.length ≤ 9223372036854775807 := by omega
  obtain ⟨N, hN⟩ : ∃ N, N = 2 * rows.length := ⟨_, rfl⟩
  have hwN : IntKind.i64.wrap (2 * (rows.length : Int)) = (N : Int) := by rw [w64 (by omega)]; omega
  have HN := Lib.hid hN
  obtain ⟨w1, hw1⟩ : ∃ w1, w1 = w.alloc (.cells #[.int .i64 (N : Int)] 3) := ⟨_, rfl⟩
  have C := Lib.hid (allIn_any 1 6 (some ⟨w.heap.size, 0, none⟩) 1 [(N : Int)] w1 (by simp) (by rw [hw1]; exact ints_oneH w _))
  have HB1 := Lib.hid (show Below w.heap.size w w1 by rw [hw1]; exact (Below.refl _ _).alloc (Nat.le_refl _) _)
  have Hw1 := Lib.hid hw1
  have Hm := Lib.hid hm
  have Hwf := Lib.hid hwf
  obtain ⟨L, hL⟩ : ∃ L, L = rows.length := ⟨_, rfl⟩
  have HL := Lib.hid hL
  have CH := Lib.hid (hasSize_any ao c L N rows w1 hs (hm.below HB1.out) (by omega) (by omega))
  have hq : (N : Int) / 2 = (L : Int) := by omega
  have hNL := Lib.hid (show N = 2 * L by omega)
  rw [← hL] at hmx hwN hl CH ⊢
  by_cases hn : 1 ≤ L ∧ L ≤ 3
  · have Hn := Lib.hid hn
    have hL3 := hn.2
    have hL1 := hn.1
    have hN6 : N ≤ 6 := by omega
    clear hm hs hwf hw1 hN hL hn
    go_enter Try.func32, Try.ntmps32
    go_wp2_with fail
    rw [← Hw1.out]
    refine C.out.mono ?_
    rintro e w2 ⟨ha, rfl⟩
    obtain rfl := ha.is (allIn_oneH.2 (by have := hNL.out; omega))
    clear ha
    go_wp2_with fail
    refine CH.out.mono ?_
    rintro e w3 ⟨ha, hb⟩
    have HB3 := Lib.hid (HB1.out.trans (hb.mono HB1.out.size))
    clear hb
    by_cases hwide : wideAll rows N
    · obtain rfl := ha.is ⟨trivial, hwide⟩
      have Hwide := Lib.hid hwide
      have HP := Lib.hid (show uhP rows from ⟨by rw [← HL.out]; exact hL1, by rw [← HL.out]; exact hL3, fun i hi => by rw [hwide i hi, HN.out]⟩)
      clear ha hwide C CH
      go_wp2_with fail
      refine (newGrid_any N w3 (by omega)).mono ?_
      rintro e w4 ⟨vs, rfl, hv, hb⟩
      have Hv := Lib.hid (show OwnP w4 w.heap.size _ _ _ _ _ from hv.base HB3.out.size)
      have HB4 := Lib.hid (HB3.out.trans (hb.mono HB3.out.size))
      clear hv hb
      obtain ⟨G, hG⟩ : ∃ G, G = w3.heap.size := ⟨_, rfl⟩
      rw [← hG] at Hv ⊢
      clear hG
      go_wp2
      go_loopw [27] (fun y wr => ∃ (k : Nat) (f : Nat → Nat → Int), k ≤ L ∧ y = .int .i64 k ∧ OwnP wr w.heap.size (.slice (some ⟨G, 0, none⟩) N N) N (tab N N f) N vs ∧ (∀ a b, a < N → b < N → (a < k ∨ N - k ≤ a) → f a b = uhF rows a b) ∧ Below w.heap.size w wr) (fun y _ => L - (intOf y).toNat)
      case atStart => exact ⟨0, _, Nat.zero_le _, rfl, Hv.out, fun a b ha _ h => absurd h (by omega), HB4.out⟩
      case round =>
        obtain ⟨k, f, hk, rfl, hown, hf, hbr⟩ := hrel
        clear Hv HB4 HB3
        have Hf := Lib.hid hf
        have Hbr := Lib.hid hbr
        have Hown := Lib.hid hown
        clear hf hbr hown
        by_cases hlt : k < L
        · obtain ⟨b1, o1, r1, d1, e1, hc1, hx1, _, _⟩ := Hm.out k (by rw [← HL.out]; exact hlt)
          have hc2 := cell_below hc1 Hbr.out
          have hrl := Hwide.out k (by rw [← HL.out]; exact hlt)
          have HX := Lib.hid (show ∀ w', Below w.heap.size wr w' → IntsAt w' r1 (gr rows k) from fun w' hb => hx1.below (Hbr.out.trans hb))
          have hkN : k < N := by have := hNL.out; omega
          have hd := Hown.out.cellAt k hkN
          obtain ⟨g, cap, hvs, _, _, _, _⟩ := Hown.out.at2 (i := k) (j := 0) hkN (by omega)
          obtain ⟨q, hqe⟩ : ∃ q, q = N - 1 - k := ⟨_, rfl⟩
          have hqN : q < N := by omega
          have hqi : (N : Int) - 1 - (k : Int) = (q : Int) := by omega
          have hwq : IntKind.i64.wrap (q : Int) = (q : Int) := w64 (by omega)
          have Hqe := Lib.hid hqe
          obtain ⟨g2, cap2, hvs2, _, _, _, _⟩ := Hown.out.at2 (i := q) (j := 0) hqN (by omega)
          rw [hvs] at hd
          subst e1
          obtain ⟨row, hrow⟩ : ∃ row, row = gr rows k := ⟨_, rfl⟩
          have Hrow := Lib.hid hrow
          rw [← hrow] at hc2 hrl HX
          rw [hrl] at hc2
          have Hrl := Lib.hid hrl
          have Hvs := Lib.hid hvs
          have Hvs2 := Lib.hid hvs2
          have H2 := Lib.hid (show 0 + row.length ≤ N by rw [hrl]; omega)
          have H3 := Lib.hid (show row.length ≤ N by rw [hrl]; exact Nat.le_refl _)
          have Hx0 := Lib.hid (HX.out wr (Below.refl _ _))
          have HkN := Lib.hid hkN
          have Hd2 := Lib.hid (show ∀ w' f', OwnP w' w.heap.size (.slice (some ⟨G, 0, none⟩) N N) N (tab N N f') N vs → w'.cell? ⟨G, q, none⟩ = some (.slice (some ⟨g2, 0, none⟩) N cap2) from fun w' f' ho => by rw [ho.cellAt q hqN, Hvs2.out])
          clear hrow hrl hvs hvs2 hx1 hc1 hqe
          go_wp2_with ((with_reducible refine wpList_copy_gridZ (o := ⟨some 37, _, _, _, _, _⟩) ?gA1 (.tmp 35) (.tmp 36) ?gA2 Hown.out k 0 HkN.out row H2.out g cap Hvs.out N cap d1 r1 ?gA3 H3.out ?hsA Hx0.out ?_))
          case gA1 => rfl
          case gA2 => rfl
          case gA3 => rfl
          case hsA => rw [Hrl.out]; rfl
          intro w5 hown5 hb5
          have HF5 := Lib.hid (show ∃ f5, OwnP w5 w.heap.size (.slice (some ⟨G, 0, none⟩) N N) N (tab N N f5) N vs ∧ ∀ a b, a < N → b < N → f5 a b = if a = k then gi row b else f a b from ⟨_, hown5, fun a b ha hb => by
            have := Hrl.out
            by_cases e : a = k
            · have hb2 : b < row.length := by omega
              simp [e, hb2]
            · simp [e]⟩)
          have Hb5 := Lib.hid hb5
          have hd5 := Hd2.out _ _ hown5
          clear hown5 hb5 Hown hd
          have CB := Lib.hid (show Calls Try.prog 64 #[.slice (some ⟨g2, 0, none⟩) N cap2, .slice r1 N d1] w5 fun e w' => e = .returned (.tuple #[]) ∧ (∃ f', OwnP w' w.heap.size (.slice (some ⟨G, 0, none⟩) N N) N (tab N N f') N vs ∧ ∀ a b, a < N → b < N → f' a b = if a = q then gi row (N - 1 - b) else if a = k then gi row b else f a b) ∧ Below w.heap.size w5 w' from by
            obtain ⟨f5, ho5, hf5⟩ := HF5.out
            have CB0 := copyBackwards_any w.heap.size N N q _ f5 vs r1 d1 row g2 cap2 w5 hqN (by omega) H3.out (fun w' hb => HX.out w' (Hb5.out.trans hb)) ho5 Hvs2.out
            rw [Hrl.out] at CB0
            refine CB0.mono ?_
            rintro e w' ⟨he, ⟨f', ho', hf'⟩, hb'⟩
            refine ⟨he, ⟨f', ho', fun a b ha hb => ?_⟩, hb'⟩
            rw [hf' a b ha hb, hf5 a b ha hb]
            by_cases e : a = q
            · rw [if_pos ⟨e, by omega⟩, if_pos e]
            · rw [if_neg (fun h => e h.1), if_neg e])
          clear HF5
          go_wp2_with fail
          refine CB.out.mono ?_
          rintro e w7 ⟨rfl, ⟨f7, hown7, hf7⟩, hb7⟩
          have Hown7 := Lib.hid hown7
          have Hf7 := Lib.hid hf7
          have HB7 := Lib.hid (Hbr.out.trans (Hb5.out.trans hb7))
          clear hown7 hf7 hb7 CB hd5 hqi hwq
          go_wp2
          go_roundw
          case rel =>
            refine ⟨k + 1, f7, by omega, by go_num, Hown7.out, fun a b ha hb hor => ?_, HB7.out⟩
            have h2 := hNL.out
            have h3 := Hqe.out
            have h4 := HL.out
            have h5 := HN.out
            rw [Hf7.out a b ha hb]
            by_cases e : a = q
            · rw [if_pos e, Hrow.out]
              unfold uhF
              rw [if_neg (by omega), ← h5, show N - 1 - a = k from by omega]
            · rw [if_neg e]
              by_cases e2 : a = k
              · rw [if_pos e2, Hrow.out, e2]
                unfold uhF
                rw [if_pos (by omega)]
              · rw [if_neg e2]
                exact Hf.out a b ha hb (by omega)
          case measure => simp [intOf]; omega
        · obtain rfl : k = L := by omega
          have he := uhM_tab HN.out (fun a b ha hb => Hf.out a b ha hb (by have := hNL.out; omega))
          have HNu := Lib.hid (show (uhM rows).length = N by rw [uhM_len, HN.out])
          have Hown2 := Lib.hid (show OwnM wr w.heap.size (.slice (some ⟨G, 0, none⟩) N N) (uhM rows) from ⟨vs, by rw [HNu.out, ← he]; exact Hown.out⟩)
          have hmr : MatAt wr (some ⟨G, 0, none⟩) (uhM rows) := OwnP.at (show OwnP wr w.heap.size (.slice (some ⟨G, 0, none⟩) N N) N (uhM rows) N vs by rw [← he]; exact Hown.out) HNu.out
          have CI := ifSigns_any (some ⟨G, 0, none⟩) N (uhM rows) wr (uhM_small HP.out.2.1) (uhF_wf Hwf.out HP.out) hmr
          rw [HNu.out] at CI
          have CI2 := Lib.hid CI
          clear CI hmr he Hown Hf
          go_wp2_with fail
          refine CI2.out.mono ?_
          rintro e w5 ⟨b, rfl, hg, hb5⟩
          have Hg := Lib.hid hg
          have Ho5 := Lib.hid (Hown2.out.below hb5)
          have HB5 := Lib.hid (Hbr.out.trans (hb5.mono Hbr.out.size))
          clear hg hb5
          cases b
          · go_wp2
            go_ret2
            refine ⟨MRes.no (fun h => ?_), HB5.out⟩
            have h2 := Hg.out.2 h.2
            cases h2
          · go_wp2
            go_ret2
            exact ⟨MRes.yes ⟨HP.out, by simpa using Hg.out⟩ Ho5.out, HB5.out⟩
    · obtain rfl := ha.isnt (fun k => hwide k.2)
      have Hno := Lib.hid (show ¬(uhP rows ∧ good (uhM rows)) from fun k => hwide fun i hi => by rw [k.1.2.2 i hi, HN.out])
      clear ha hwide
      go_wp2
      go_ret2
      exact ⟨MRes.no Hno.out, HB3.out⟩
  · have Hno := Lib.hid (show ¬(uhP rows ∧ good (uhM rows)) from fun k => hn ⟨by have := k.1.1; omega, by have := k.1.2.1; omega⟩)
    have Hnn := Lib.hid (show ¬allIn [(N : Int)] 1 6 from fun k => hn (by have := allIn_oneH.1 k; omega))
    clear hm hs hwf hw1 hN hL hn
    go_enter Try.func32, Try.ntmps32
    go_wp2_with fail
    rw [← Hw1.out]
    refine C.out.mono ?_
    rintro e w2 ⟨ha, rfl⟩
    obtain rfl := ha.isnt Hnn.out
    clear ha
    go_wp2
    go_ret2
    exact ⟨MRes.no Hno.out, HB1.out⟩
end Go.Proofs.Ytgdijjfipicodaa
