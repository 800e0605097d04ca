/- Contracts of the program: the matrices with a left half and with an upper half. Conditions: the numbers fit an int, lengths up to 2^20. -/
import Derived.Test.YtgdijjfipicodaaHfM
import Derived.Test.YtgdijjfipicodaaDpA
import Derived.Test.YtgdijjfipicodaaCopyG
import Derived.Deep.RegionWith
namespace Go.Proofs.Ytgdijjfipicodaa
open Go.RowKit

theorem allIn_oneH {n lo hi : Int} : allIn [n] lo hi ↔ lo ≤ n ∧ n ≤ hi := by
  constructor
  · intro h
    exact h 0 (by simp)
  · intro h k hk
    obtain rfl : k = 0 := by simp at hk; omega
    exact h
theorem ints_oneH (w : World) (n : Int) : IntsAt (w.alloc (.cells #[.int .i64 n] 3)) (some ⟨w.heap.size, 0, none⟩) [n] := by
  intro k hk
  obtain rfl : k = 0 := by simp at hk; omega
  refine ⟨w.heap.size, 0, rfl, ?_⟩
  rw [cell_of_row _ _ 0 _ _ _ (heap_alloc_new w _)]
  rfl
theorem wfI_tab {n c : Nat} {f : Nat → Nat → Int} (h : ∀ i j, i < n → j < c → -9223372036854775808 ≤ f i j ∧ f i j ≤ 9223372036854775807) : WfM (tab n c f) := by
  intro i hi j hj
  rw [tab_len] at hi
  rw [tab_row hi] at hj
  rw [gi_tab hi hj]
  exact h i j hi hj

/-- integers copied into a row of an owned grid, from a slice that may be nil -/
theorem wpList_copy_gridZ {w : World} {ops : Array Oper} {rest : List Oper} {o : Oper} {a : Act} {QQ : Exit → Act → World → Prop} (hgd : o.guard = none) (d s : Operand)
    (ho : o.op = .call { callee := .builtin .copy, args := #[d, s], argTypes := #[24, 24] }) {B n c : Nat} {v : Value} {f : Nat → Nat → Int} {vs : List Value} (hown : OwnP w B v n (tab n c f) n vs)
    (i off : Nat) (hi : i < n) (xs : List Int) (hfit : off + xs.length ≤ c) (g cap : Nat) (hvs : vs.getD i undef = .slice (some ⟨g, 0, none⟩) c cap) (dLen dCap sCap : Nat) (sp : Option Addr)
    (hd : a.eval d = .slice (some ⟨g, off, none⟩) dLen dCap) (hmin : xs.length ≤ dLen) (hs : a.eval s = .slice sp xs.length sCap) (hx : IntsAt w sp xs)
    (h : ∀ w', OwnP w' B v n (tab n c fun a b => if a = i ∧ off ≤ b ∧ b < off + xs.length then gi xs (b - off) else f a b) n vs → Below B w w' → wpList Try.prog ops QQ rest (a.put o.dst (goInt xs.length)) w') :
    wpList Try.prog ops QQ (o :: rest) a w := by
  by_cases h0 : xs.length = 0
  · refine wpList_copy_nothing hgd d s 24 24 ho 3 Try.underlying24 (by kernel_rfl) (some ⟨g, off, none⟩) sp dLen dCap xs.length sCap hd hs (by rw [h0]; exact Nat.zero_min _) ?_
    have e : (fun a b => if a = i ∧ off ≤ b ∧ b < off + xs.length then gi xs (b - off) else f a b) = f := by
      funext a b
      rw [if_neg (by omega)]
    have k := h w (by rw [e]; exact hown) (Below.refl _ _)
    rw [h0] at k
    exact k
  · obtain ⟨b2, o2, e, _⟩ := hx 0 (by omega)
    subst e
    exact wpList_copy_grid hgd d s ho hown i off hi xs hfit g cap hvs dLen dCap sCap b2 o2 hd hmin hs hx h

set_option maxRecDepth 100000 in
set_option maxHeartbeats 800000 in
theorem middleSign_any (k : Nat) (w : World) : Calls Try.prog 63 #[.int .i64 (k : Int)] w fun e w' => e = .returned (.int .i64 (1 - ((k % 2 : Nat) : Int) * 2)) ∧ w = w' := by
  have hm : (k : Int) % 2 = ((k % 2 : Nat) : Int) := by omega
  obtain ⟨r, hr⟩ : ∃ r, r = k % 2 := ⟨_, rfl⟩
  rw [← hr] at hm ⊢
  have hr1 : r ≤ 1 := by omega
  have hw1 : IntKind.i64.wrap ((r : Int) * 2) = (r : Int) * 2 := w64 (by omega)
  have hw2 : IntKind.i64.wrap (1 - (r : Int) * 2) = 1 - (r : Int) * 2 := w64 (by omega)
  clear hr
  go_enter Try.func63, Try.ntmps63
  go_wp2
  go_ret
  exact ⟨rfl, rfl⟩

set_option maxRecDepth 100000 in
set_option maxHeartbeats 1600000 in
theorem copyBackwards_any (B n c i : Nat) (v : Value) (f : Nat → Nat → Int) (vs : List Value) (ao : Option Addr) (d : Nat) (xs : List Int) (g cap : Nat) (w : World) (hi : i < n) (hc : c ≤ 1048576) (hx : xs.length ≤ c) (hX : ∀ w', Below B w w' → IntsAt w' ao xs)
    (hown : OwnP w B v n (tab n c f) n vs) (hv : vs.getD i undef = .slice (some ⟨g, 0, none⟩) c cap) :
    Calls Try.prog 64 #[.slice (some ⟨g, 0, none⟩) c cap, .slice ao xs.length d] w fun e w' => e = .returned (.tuple #[]) ∧ (∃ f', OwnP w' B v n (tab n c f') n vs ∧ ∀ a b, a < n → b < c → f' a b = if a = i ∧ c - xs.length ≤ b then gi xs (c - 1 - b) else f a b) ∧ Below B w w' := by
  have hmx : xs.length ≤ 9223372036854775807 := by omega
  have hmc : c ≤ 9223372036854775807 := by omega
  have HX := Lib.hid hX
  have Hown := Lib.hid hown
  have Hv := Lib.hid hv
  clear hX hown hv
  go_enter Try.func64, Try.ntmps64
  go_wp2
  go_loopw [8] (fun y wr => ∃ (t : Nat) (f' : Nat → Nat → Int), t ≤ xs.length ∧ y = .int .i64 t ∧ OwnP wr B v n (tab n c f') n vs ∧ (∀ a b, a < n → b < c → f' a b = if a = i ∧ c - t ≤ b then gi xs (c - 1 - b) else f a b) ∧ Below B w wr) (fun y _ => xs.length - (intOf y).toNat)
  case atStart => exact ⟨0, f, Nat.zero_le _, rfl, Hown.out, fun a b ha hb => by rw [if_neg (by omega)], Below.refl _ _⟩
  case round =>
    obtain ⟨t, f', ht, rfl, hown, hf, hbr⟩ := hrel
    clear Hown
    have Hf := Lib.hid hf
    have Hbr := Lib.hid hbr
    have Hown := Lib.hid hown
    clear hf hbr hown
    by_cases hlt : t < xs.length
    · obtain ⟨b1, o1, rfl, hc1⟩ := HX.out _ Hbr.out t hlt
      obtain ⟨g', cap', hvs, hd2, hf2, hg, hst⟩ := Hown.out.at2 (i := i) (j := c - 1 - t) hi (by omega)
      rw [Hv.out] at hvs
      obtain ⟨rfl, rfl⟩ : g = g' ∧ cap = cap' := by simpa using hvs
      have Hst := Lib.hid (hst (gi xs t))
      have Hbs := Lib.hid (Hbr.out.setCell (p := ⟨g, c - 1 - t, none⟩) hg (.int .i64 (gi xs t)))
      clear hst hg hvs
      go_wp2
      go_roundw
      case rel =>
        refine ⟨t + 1, _, by omega, by go_num, Hst.out, fun a b ha hb => ?_, Hbs.out⟩
        by_cases e : a = i ∧ b = c - 1 - t
        · rw [if_pos e, if_pos ⟨e.1, by omega⟩, e.2, show c - 1 - (c - 1 - t) = t from by omega]
        · rw [if_neg e, Hf.out a b ha hb]
          by_cases e2 : a = i ∧ c - t ≤ b
          · rw [if_pos e2, if_pos ⟨e2.1, by omega⟩]
          · rw [if_neg e2, if_neg (by omega)]
      case measure => simp [intOf]; omega
    · obtain rfl : t = xs.length := by omega
      go_wp2
      (try simp only [Exit.inBlock, Exit.then]); refine bodyPost_end (results_none rfl _ _ _) rfl ?_
      exact ⟨rfl, ⟨f', Hown.out, Hf.out⟩, Hbr.out⟩

theorem lhF_wf {rows : List (List Int)} (hwf : WfM rows) (h : lhP rows) : WfM (lhM rows) := by
  refine wfI_tab fun i j hi hj => ?_
  unfold lhF
  have hl := h.2.2.2 i hi
  split
  · exact hwf i hi j (by omega)
  · split
    · omega
    · exact hwf i hi _ (by have := h.2.2.1; omega)
theorem lhM_small {rows : List (List Int)} (h : lhP rows) : Small (lhM rows) := ⟨by rw [lhM_len]; have := h.2.1; omega, fun i hi => by rw [lhM_len] at hi; unfold lhM; rw [tab_row hi]; have := h.2.1; omega⟩
theorem lhM_tab {rows : List (List Int)} {f : Nat → Nat → Int} (h : ∀ a b, a < rows.length → b < rows.length → f a b = lhF rows a b) : tab rows.length rows.length f = lhM rows :=
  eq_tab (tab_len _ _ _) (fun i hi => tab_row hi) fun i j hi hj => by rw [gi_tab hi hj, h i j hi hj]

set_option maxRecDepth 100000 in
set_option maxHeartbeats 3200000 in
theorem implFromLeftHalf_any (ao : Option Addr) (c : Nat) (rows : List (List Int)) (w : World) (hs : Small rows) (hwf : WfM rows) (hm : MatAt w ao rows) :
    Calls Try.prog 29 #[.slice ao rows.length c] w fun e w' => MRes (lhP rows ∧ good (lhM rows)) (lhM rows) w' w.heap.size e ∧ Below w.heap.size w w' := by
  have hl := hs.1
  have hmx : rows.length ≤ 9223372036854775807 := by omega
  obtain ⟨w1, hw1⟩ : ∃ w1, w1 = w.alloc (.cells #[.int .i64 (rows.length : Int)] 3) := ⟨_, rfl⟩
  have C := Lib.hid (allIn_any 1 6 (some ⟨w.heap.size, 0, none⟩) 1 [(rows.length : Int)] w1 (by simp) (by rw [hw1]; exact ints_oneH w _))
  have HB1 := Lib.hid (show Below w.heap.size w w1 by rw [hw1]; exact (Below.refl _ _).alloc (Nat.le_refl _) _)
  have Hw1 := Lib.hid hw1
  have Hm := Lib.hid hm
  have Hs := Lib.hid hs
  have Hwf := Lib.hid hwf
  clear hm hs hwf hw1
  by_cases hn : 1 ≤ rows.length ∧ rows.length ≤ 6
  · by_cases hodd : rows.length % 2 = 1
    · have hb0 : ((rows.length : Int) % 2 == 0) = false := by simp; omega
      obtain ⟨h, hh⟩ : ∃ h, h = rows.length / 2 := ⟨_, rfl⟩
      have hq : (rows.length : Int) / 2 = (h : Int) := by omega
      have hh2 := Lib.hid (show rows.length = 2 * h + 1 by omega)
      have Hh := Lib.hid hh
      have Hn := Lib.hid hn
      have Hodd := Lib.hid hodd
      have h2 : h ≤ 2 := by omega
      have hn1 : rows.length ≤ 6 := hn.2
      have CH := Lib.hid (hasSize_any ao c rows.length h rows w1 Hs.out (Hm.out.below HB1.out) (by omega) (by omega))
      clear hh hodd
      go_enter Try.func29, Try.ntmps29
      go_wp2_with fail
      rw [← Hw1.out]
      refine C.out.mono ?_
      rintro e w2 ⟨ha, rfl⟩
      obtain rfl := ha.is (allIn_oneH.2 (by omega))
      clear ha hn
      go_wp2_with fail
      refine CH.out.mono ?_
      rintro e w3 ⟨ha, hb⟩
      have HB3 := Lib.hid (HB1.out.trans (hb.mono HB1.out.size))
      clear hb
      by_cases hwide : wideAll rows h
      · obtain rfl := ha.is ⟨trivial, hwide⟩
        have Hwide := Lib.hid hwide
        have HP := Lib.hid (show lhP rows from ⟨Hn.out.1, Hn.out.2, Hodd.out, fun i hi => by rw [hwide i hi, Hh.out]⟩)
        clear ha hwide C CH
        go_wp2_with fail
        refine (newGrid_any rows.length w3 (by omega)).mono ?_
        rintro e w4 ⟨vs, rfl, hv, hb⟩
        have Hv := Lib.hid (show OwnP w4 w.heap.size _ _ _ _ _ from hv.base HB3.out.size)
        have HB4 := Lib.hid (HB3.out.trans (hb.mono HB3.out.size))
        clear hv hb
        obtain ⟨G, hG⟩ : ∃ G, G = w3.heap.size := ⟨_, rfl⟩
        rw [← hG] at Hv ⊢
        clear hG
        go_wp2
        go_loopw [31] (fun y wr => ∃ (k : Nat) (f : Nat → Nat → Int), k ≤ rows.length ∧ y = .int .i64 k ∧ OwnP wr w.heap.size (.slice (some ⟨G, 0, none⟩) rows.length rows.length) rows.length (tab rows.length rows.length f) rows.length vs ∧ (∀ a b, a < k → b < rows.length → f a b = lhF rows a b) ∧ Below w.heap.size w wr) (fun y _ => rows.length - (intOf y).toNat)
        case atStart => exact ⟨0, _, Nat.zero_le _, rfl, Hv.out, fun a b ha _ => absurd ha (by omega), HB4.out⟩
        case round =>
          obtain ⟨k, f, hk, rfl, hown, hf, hbr⟩ := hrel
          clear Hv HB4 HB3
          have Hf := Lib.hid hf
          have Hbr := Lib.hid hbr
          have Hown := Lib.hid hown
          clear hf hbr hown
          by_cases hlt : k < rows.length
          · obtain ⟨b1, o1, r1, d1, e1, hc1, hx1, _, _⟩ := Hm.out k hlt
            have hc2 := cell_below hc1 Hbr.out
            have hrl := Hwide.out k hlt
            have HX := Lib.hid (show ∀ w', Below w.heap.size wr w' → IntsAt w' r1 (gr rows k) from fun w' hb => hx1.below (Hbr.out.trans hb))
            have hd := Hown.out.cellAt k hlt
            obtain ⟨g, cap, hvs, _, _, hBg, _⟩ := Hown.out.at2 (i := k) (j := h) hlt (by have := hh2.out; omega)
            rw [hvs] at hd
            subst e1
            obtain ⟨row, hrow⟩ : ∃ row, row = gr rows k := ⟨_, rfl⟩
            have Hrow := Lib.hid hrow
            rw [← hrow] at hc2 hrl HX
            rw [hrl] at hc2
            have Hrl := Lib.hid hrl
            have Hvs := Lib.hid hvs
            have H2 := Lib.hid (show 0 + row.length ≤ rows.length by rw [hrl]; omega)
            have H3 := Lib.hid (show row.length ≤ rows.length by rw [hrl]; omega)
            have Hx0 := Lib.hid (HX.out wr (Below.refl _ _))
            have Hd := Lib.hid (show ∀ w' f', OwnP w' w.heap.size (.slice (some ⟨G, 0, none⟩) rows.length rows.length) rows.length (tab rows.length rows.length f') rows.length vs → w'.cell? ⟨G, k, none⟩ = some (.slice (some ⟨g, 0, none⟩) rows.length cap) from fun w' f' ho => by rw [ho.cellAt k hlt, Hvs.out])
            have hhn : h < rows.length := by have := hh2.out; omega
            have Hlt := Lib.hid hlt
            clear hrow hrl hvs hx1 hc1 hBg
            go_wp2_with ((with_reducible refine wpList_copy_gridZ (o := ⟨some 41, _, _, _, _, _⟩) ?gA1 (.tmp 39) (.tmp 40) ?gA2 Hown.out k 0 Hlt.out row H2.out g cap Hvs.out rows.length cap d1 r1 ?gA3 H3.out ?hsA Hx0.out ?_))
            case gA1 => rfl
            case gA2 => rfl
            case gA3 => rfl
            case hsA => rw [Hrl.out]; rfl
            intro w5 hown5 hb5
            have Hown5 := Lib.hid hown5
            have Hb5 := Lib.hid hb5
            have hd5 := Hd.out _ _ hown5
            obtain ⟨g', cap', hvs', hs5, hf5, hBg, hst5⟩ := hown5.drew.at2 (i := k) (j := h) hlt hhn
            rw [Hvs.out] at hvs'
            obtain ⟨rfl, rfl⟩ : g = g' ∧ cap = cap' := by simpa using hvs'
            have Hfac := Lib.hid (show ∀ w', w5.drew = w' → (w'.cell? ⟨G, k, none⟩ = some (.slice (some ⟨g, 0, none⟩) rows.length cap) ∧ w'.cell? ⟨g, h, none⟩ = some _ ∧ w'.frozen? ⟨g, h, none⟩ = false) ∧
                OwnP (w'.setCell ⟨g, h, none⟩ (.int .i64 (1 - ((k % 2 : Nat) : Int) * 2))) w.heap.size (.slice (some ⟨G, 0, none⟩) rows.length rows.length) rows.length _ rows.length vs ∧
                Below w.heap.size wr (w'.setCell ⟨g, h, none⟩ (.int .i64 (1 - ((k % 2 : Nat) : Int) * 2))) from by
              rintro w' rfl
              exact ⟨⟨hd5, hs5, hf5⟩, hst5 _, (below_drewN hb5 1).setCell (p := ⟨g, h, none⟩) hBg _⟩)
            obtain ⟨mid, hmid⟩ : ∃ mid, mid = 1 - ((k % 2 : Nat) : Int) * 2 := ⟨_, rfl⟩
            rw [← hmid] at Hfac
            have CM := Lib.hid (show ∀ w', Calls Try.prog 63 #[.int .i64 (k : Int)] w' fun e w'' => e = .returned (.int .i64 mid) ∧ w' = w'' from fun w' => by rw [hmid]; exact middleSign_any k w')
            have Hmid := Lib.hid hmid
            clear hvs' hst5 hown5 hb5 Hown hBg hd hs5 hf5 hmid
            go_wp2_with fail
            have hwh : IntKind.i64.wrap (h : Int) = (h : Int) := w64 (by omega)
            go_region_with (go_at_call 63; refine (CM.out _).mono ?_; rintro e w6 ⟨rfl, hw6⟩; obtain ⟨⟨g1, g2, g3⟩, hO, hBB⟩ := Hfac.out w6 hw6; have HO := Lib.hid hO; have HBs := Lib.hid hBB; clear hO hBB hw6)
            all_goals
              have Hown6 := Lib.hid HO.out
              clear HO g1 g2 g3
              generalize hW : World.setCell _ _ _ = w6 at Hown6 HBs ⊢
              have hd6 := Hd.out _ _ Hown6.out
              have CB := Lib.hid (copyBackwards_any w.heap.size rows.length rows.length k _ _ vs r1 d1 row g cap w6 hlt (by omega) H3.out (fun w' hb => HX.out w' (HBs.out.trans hb)) Hown6.out Hvs.out)
              rw [Hrl.out] at CB
              clear hW hd5
              go_wp2_with fail
              refine CB.out.mono ?_
              rintro e w7 ⟨rfl, ⟨f7, hown7, hf7⟩, hb7⟩
              have Hown7 := Lib.hid hown7
              have Hf7 := Lib.hid hf7
              have HB7 := Lib.hid (Hbr.out.trans (HBs.out.trans hb7))
              clear hown7 hf7 hb7 CB hd6
              go_wp2
              go_roundw
              case rel =>
                refine ⟨k + 1, f7, by omega, by go_num, Hown7.out, fun a b ha hb => ?_, HB7.out⟩
                have hq2 := hh2.out
                have hrl := Hrl.out
                rw [Hf7.out a b (by omega) hb]
                by_cases e : a = k
                · subst e
                  unfold lhF
                  rw [← Hh.out, ← Hrow.out]
                  by_cases c1 : b < h
                  · have e1 : ¬(rows.length - row.length ≤ b) := by omega
                    have e2 : ¬(b = h) := by omega
                    have e3 : b < row.length := by omega
                    simp [e1, e2, e3, c1]
                    exact fun hx => absurd hx (by omega)
                  · by_cases c2 : b = h
                    · have e1 : ¬(rows.length - row.length ≤ b) := by omega
                      rw [Hmid.out]
                      simp [e1, c1, c2]
                      omega
                    · have e1 : rows.length - row.length ≤ b := by omega
                      simp [e1, c1, c2]
                      exact fun hx => absurd hx (by omega)
                · have e9 := Hf.out a b (by omega) hb
                  simp [e, e9]
              case measure => simp [intOf]; omega
          · obtain rfl : k = rows.length := by omega
            have he := lhM_tab Hf.out
            have Hown2 := Lib.hid (show OwnM wr w.heap.size (.slice (some ⟨G, 0, none⟩) rows.length rows.length) (lhM rows) from ⟨vs, by rw [lhM_len, ← he]; exact Hown.out⟩)
            have hmr : MatAt wr (some ⟨G, 0, none⟩) (lhM rows) := OwnP.at (show OwnP wr w.heap.size (.slice (some ⟨G, 0, none⟩) rows.length rows.length) rows.length (lhM rows) rows.length vs by rw [← he]; exact Hown.out) (lhM_len rows)
            have CI := ifSigns_any (some ⟨G, 0, none⟩) rows.length (lhM rows) wr (lhM_small HP.out) (lhF_wf Hwf.out HP.out) hmr
            rw [lhM_len] at CI
            have CI2 := Lib.hid CI
            clear CI hmr he Hown Hf
            go_wp2_with fail
            refine CI2.out.mono ?_
            rintro e w5 ⟨b, rfl, hg, hb5⟩
            have Hg := Lib.hid hg
            have Ho5 := Lib.hid (Hown2.out.below hb5)
            have HB5 := Lib.hid (Hbr.out.trans (hb5.mono Hbr.out.size))
            clear hg hb5
            cases b
            · go_wp2
              go_ret2
              refine ⟨MRes.no (fun h => ?_), HB5.out⟩
              have h2 := Hg.out.2 h.2
              cases h2
            · go_wp2
              go_ret2
              exact ⟨MRes.yes ⟨HP.out, by simpa using Hg.out⟩ Ho5.out, HB5.out⟩
      · obtain rfl := ha.isnt (fun k => hwide k.2)
        have Hno := Lib.hid (show ¬(lhP rows ∧ good (lhM rows)) from fun k => hwide fun i hi => by rw [k.1.2.2.2 i hi, Hh.out])
        clear ha hwide
        go_wp2
        go_ret2
        exact ⟨MRes.no Hno.out, HB3.out⟩
    · have hb0 : ((rows.length : Int) % 2 == 0) = true := by simp; omega
      have Hno := Lib.hid (show ¬(lhP rows ∧ good (lhM rows)) from fun k => hodd k.1.2.2.1)
      go_enter Try.func29, Try.ntmps29
      go_wp2_with fail
      rw [← Hw1.out]
      refine C.out.mono ?_
      rintro e w2 ⟨ha, rfl⟩
      obtain rfl := ha.is (allIn_oneH.2 (by omega))
      clear ha hn hodd
      go_wp2
      go_ret2
      exact ⟨MRes.no Hno.out, HB1.out⟩
  · have Hno := Lib.hid (show ¬(lhP rows ∧ good (lhM rows)) from fun k => hn ⟨k.1.1, k.1.2.1⟩)
    go_enter Try.func29, Try.ntmps29
    go_wp2_with fail
    rw [← Hw1.out]
    refine C.out.mono ?_
    rintro e w2 ⟨ha, rfl⟩
    obtain rfl := ha.isnt (fun k => hn (by have := allIn_oneH.1 k; omega))
    clear ha hn
    go_wp2
    go_ret2
    exact ⟨MRes.no Hno.out, HB1.out⟩
end Go.Proofs.Ytgdijjfipicodaa
