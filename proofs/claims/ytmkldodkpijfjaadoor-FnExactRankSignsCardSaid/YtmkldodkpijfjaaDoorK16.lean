/- Parts of proofs: contracts and plain facts. Conditions: as each says. -/
import Derived.Test.YtmkldodkpijfjaaDoorK15
namespace Go.Proofs.YtmkldodkpijfjaaDoor
open Go.RowKit

/-- the ways of the rows before Y -/
def rankIn (Y : List Int) : List (List Int) → Int → Int
  | [], r => r
  | y :: L, r => if y = Y then r else rankIn Y L (wrap64 (r + wrap64 (ways y)))
theorem rankIn_step {Y : List Int} {L : List (List Int)} {k : Nat} (h : k < L.length) (r : Int) : rankIn Y (L.drop k) r = if gr L k = Y then r else rankIn Y (L.drop (k + 1)) (wrap64 (r + wrap64 (ways (gr L k)))) := by
  rw [List.drop_eq_getElem_cons h, rankIn, gr_lt h]
/-- .. from row i up -/
def rankG (t : List (List Int)) : Nat → Int → Int
  | 0, r => r
  | i + 1, r => rankG t i (rankIn (gr t i) (above (gr t (i + 1))) r)

set_option maxRecDepth 100000 in
set_option maxHeartbeats 1600000 in
theorem implRankSigns_any (ao : Option Addr) (c : Nat) (m : List (List Int)) (w : World) (hsm : Small m) (hwf : WfM m) (hm : MatAt w ao m) (hD : Dj w) :
    Calls Tryd.prog 30 #[.slice ao m.length c] w fun e w' => IRes (good m) (rankG (triM m.reverse) (m.length - 1) 0) e ∧ Below w.heap.size w w' := by
  have hmx : m.length ≤ 9223372036854775807 := by have := hsm.1; omega
  by_cases hg : good m
  · have h1 := hg.1.1
    have h6 := hg.1.2.1
    have hgr := good_reverse hg
    have Hg := Lib.hid hg
    have HD := Lib.hid hD
    have Hs := Lib.hid (implIsSign_any ao c m w hsm hwf hm)
    have Hu := Lib.hid (fun w0 (hb : Below w.heap.size w w0) => upsideDown_any ao c m w0 hsm.1 h1 (hm.below hb))
    obtain ⟨T, hT⟩ : ∃ T, T = triM m.reverse := ⟨_, rfl⟩
    have hTl : T.length = m.length := by rw [hT, triM_len, List.length_reverse]
    have hTr : ∀ i, i < m.length → Rise (gr T i) ∧ (gr T i).length ≤ 6 := fun i hi => by
      rw [hT, gr_triM (by rw [List.length_reverse]; exact hi)]
      unfold triRow
      rw [List.length_reverse]
      exact ⟨colsF_rise _ (by omega), by have := colsF_len m.length fun j => decide (colR m.reverse j (i + 1) = 1); omega⟩
    have HTl := Lib.hid hTl
    have HTr := Lib.hid hTr
    have HT := Lib.hid hT
    have Hgr := Lib.hid hgr
    rw [← hT]
    clear hg hD hsm hwf hm hTl hTr hT hgr
    go_enter Tryd.func30, Tryd.ntmps30
    go_wp2_with fail
    refine Hs.out.mono ?_
    rintro e w0 ⟨ha, hb0⟩
    obtain rfl := ha.is Hg.out
    have Hb0 := Lib.hid hb0
    clear ha hb0
    go_wp2_with fail
    refine (Hu.out w0 Hb0.out).mono ?_
    rintro e w1 ⟨v, rfl, ⟨g, d, rfl, _, hmr⟩, hb1⟩
    have htc := triangleOf_any (some ⟨g, 0, none⟩) d m.reverse w1 Hgr.out hmr ((HD.out.next Hb0.out).next hb1)
    rw [List.length_reverse, ← HT.out] at htc
    have Htc := Lib.hid htc
    have Hb1 := Lib.hid (Hb0.out.trans (hb1.mono Hb0.out.size))
    clear htc hmr hb1 Hb0
    go_wp2_with fail
    refine Htc.out.mono ?_
    rintro e w2 ⟨v, rfl, hv, hb2⟩
    obtain ⟨ta, tc, rfl, _, _, hmt⟩ := hv.read
    obtain ⟨n, hn⟩ : ∃ n, n = T.length := ⟨_, rfl⟩
    have hnm : n = m.length := by rw [hn, HTl.out]
    rw [← hn]
    have Hmt := Lib.hid hmt
    have Hb2 := Lib.hid (Hb1.out.trans (hb2.mono Hb1.out.size))
    have Hn := Lib.hid hn
    have h6' : n ≤ 6 := by omega
    have h1' : 1 ≤ n := by omega
    clear hv hmt hb2 hn
    rw [← hnm]
    have Hnm := Lib.hid hnm
    clear hnm
    go_wp2
    go_loopw [4, 6] (fun r i wr => ∃ (k : Nat) (q : Int), k < n ∧ i = .int .i64 k ∧ r = .int .i64 q ∧ rankG T k q = rankG T (n - 1) 0 ∧ Below w2.heap.size w2 wr) (fun _ i _ => (intOf i).toNat)
    case atStart => exact ⟨n - 1, 0, by omega, by go_num, rfl, rfl, Below.refl _ _⟩
    case round =>
      obtain ⟨k, q, hk, rfl, rfl, hr, hbr⟩ := hrel
      by_cases hpos : 0 < k
      · obtain ⟨l, rfl⟩ : ∃ l, k = l + 1 := ⟨k - 1, by omega⟩
        have hmr := Hmt.out.below hbr
        obtain ⟨b, o, r1, d1, e1, hc1, hx1, _⟩ := hmr (l + 1) (by have := Hn.out; omega)
        obtain ⟨b', o', r2, d2, e2, hc2, hx2, _⟩ := hmr l (by have := Hn.out; omega)
        cases e1
        cases e2
        obtain ⟨x1, x2⟩ := HTr.out (l + 1) (by have := Hnm.out; omega)
        obtain ⟨y1, y2⟩ := HTr.out l (by have := Hnm.out; omega)
        have hstep : rankG T (l + 1) q = rankG T l (rankIn (gr T l) (above (gr T (l + 1))) q) := rfl
        rw [hstep] at hr
        obtain ⟨X, hX⟩ : ∃ X, X = gr T (l + 1) := ⟨_, rfl⟩
        obtain ⟨Y, hY⟩ : ∃ Y, Y = gr T l := ⟨_, rfl⟩
        rw [← hX] at hc1 hx1 x1 x2 hr
        rw [← hY] at hc2 hx2 y1 y2 hr
        have hset1 := setOf_any r1 d1 X wr (by omega) x1.2 hx1
        have hab := fun w' (h : Dj w') => setsAbove_any x1 x2 w' h
        have hDr := (HD.out.next Hb2.out).next hbr
        have hab1 := hab wr hDr
        obtain ⟨mx, hmx'⟩ : ∃ mx : Int, mx = (mask X : Nat) := ⟨_, rfl⟩
        rw [← hmx'] at hset1 hab1
        obtain ⟨xl, hxl⟩ : ∃ xl, xl = X.length := ⟨_, rfl⟩
        rw [← hxl] at hc1 hset1
        have Hset1 := Lib.hid hset1
        have Hab := Lib.hid hab1
        have Hx2 := Lib.hid hx2
        have Hy1 := Lib.hid y1
        have Hy2 := Lib.hid y2
        have HX := Lib.hid (And.intro x1 x2)
        have Hr := Lib.hid hr
        have Hbr := Lib.hid hbr
        have Hc2 := Lib.hid hc2
        have HDr := Lib.hid hDr
        clear hstep hset1 hab hab1 hx1 hx2 x1 x2 y1 y2 hr hbr hmr hc2 hX hY hmx' hxl hDr
        go_wp2_with fail
        refine Hset1.out.mono ?_
        rintro e w3 ⟨rfl, rfl⟩
        go_wp2_with fail
        refine Hab.out.mono ?_
        rintro e w3 ⟨v, rfl, hv, hb3⟩
        obtain ⟨sa, sc, rfl, _, _, hs⟩ := hv.read
        have hal : (above X).length ≤ 1048576 := by
          have hlen := above_len HX.out.1
          have hpow : 16 ^ (X.length - 1) ≤ 16 ^ 5 := Nat.pow_le_pow_right (by omega) (by have := HX.out.2; omega)
          omega
        obtain ⟨A, hA⟩ : ∃ A, A = above X := ⟨_, rfl⟩
        rw [← hA] at hs hal
        rw [← hA]
        have Hs := Lib.hid hs
        have Hb3 := Lib.hid hb3
        have HA := Lib.hid hA
        have hamx : A.length ≤ 9223372036854775807 := by omega
        have Hq := Lib.hid (show rankG T l (rankIn Y A q) = rankG T (n - 1) 0 by rw [HA.out]; exact Hr.out)
        clear hs hb3 hA hv
        go_wp2
        go_loopw [4, 29] (fun r i wr => ∃ (j : Nat) (z : Int), j ≤ A.length ∧ i = .int .i64 j ∧ r = .int .i64 z ∧ rankIn Y (A.drop j) z = rankIn Y A q ∧ Below w3.heap.size w3 wr) (fun _ i _ => A.length - (intOf i).toNat)
        case atStart => exact ⟨0, q, Nat.zero_le _, rfl, rfl, rfl, Below.refl _ _⟩
        case round =>
          obtain ⟨j, z, hj, rfl, rfl, hz, hbq⟩ := hrel
          have hb0 := (Hbr.out.trans (Hb3.out.mono Hbr.out.size)).trans (hbq.mono (Nat.le_trans Hbr.out.size Hb3.out.size))
          by_cases hjl : j < A.length
          · obtain ⟨bs, os, e3, hcs⟩ := Hs.out.below hbq j hjl
            cases e3
            have hstp := rankIn_step (Y := Y) hjl z
            rw [hz] at hstp
            have hmem : gr A j ∈ above X := by have := gr_mem hjl; rw [HA.out] at this ⊢; exact this
            obtain ⟨am1, am2⟩ := above_mem HX.out.1 hmem
            have am3 := above_pos HX.out.1 hmem
            have hset2 := setOf_any r2 d2 Y wr (by have := Hy2.out; omega) Hy1.out.2 ((Hx2.out.below Hb3.out).below hbq)
            have hDq := (HDr.out.next Hb3.out).next hbq
            have hcu := countUnder_any am1 am3 (by have := HX.out.2; omega) wr hDq
            have hc2q := cell_below (cell_below Hc2.out Hb3.out) hbq
            unfold sv at hcs
            obtain ⟨ma, hma⟩ : ∃ ma : Int, ma = (mask (gr A j) : Nat) := ⟨_, rfl⟩
            obtain ⟨my, hmy⟩ : ∃ my : Int, my = (mask Y : Nat) := ⟨_, rfl⟩
            obtain ⟨yl, hyl⟩ : ∃ yl, yl = Y.length := ⟨_, rfl⟩
            obtain ⟨u, hu⟩ : ∃ u, u = wrap64 (ways (gr A j)) := ⟨_, rfl⟩
            have heqv : ma = my ↔ gr A j = Y := by
              rw [hma, hmy]
              exact ⟨fun h => mask_inj am1.1 (fun x hx => (am1.2 x hx).1) Hy1.out.1 (fun x hx => (Hy1.out.2 x hx).1) (by omega), fun h => by rw [h]⟩
            rw [← hma, ← hu] at hcu
            rw [← hma] at hcs
            rw [← hmy, ← hyl] at hset2
            rw [← hyl] at hc2q
            rw [← hu] at hstp
            have Hset2 := Lib.hid hset2
            have Hcu := Lib.hid hcu
            have Hbq := Lib.hid hbq
            by_cases heq : gr A j = Y
            · rw [if_pos heq] at hstp
              have hbb : (ma == my) = true := by simpa using heqv.2 heq
              have Hst := Lib.hid (show rankG T l z = rankG T (n - 1) 0 by rw [← hstp]; exact Hq.out)
              have Hb0 := Lib.hid hb0
              clear hz hb0 hstp hmem am1 am2 am3 hset2 hDq hcu hma hmy hyl hu heqv hbq heq
              go_wp2_with fail
              refine Hset2.out.mono ?_
              rintro e w4 ⟨rfl, rfl⟩
              go_wp2
              go_roundw
              case rel => exact ⟨l, z, by omega, by go_num, rfl, Hst.out, Hb0.out⟩
              case measure => first | (simp [intOf]; done) | (simp [intOf]; omega)
            · rw [if_neg heq] at hstp
              have hbb : (ma == my) = false := by simpa using fun h => heq (heqv.1 h)
              have Hst := Lib.hid hstp
              clear hz hb0 hstp hmem am1 am2 am3 hset2 hDq hcu hma hmy hyl hu heqv hbq heq
              go_wp2_with fail
              refine Hset2.out.mono ?_
              rintro e w4 ⟨rfl, rfl⟩
              go_wp2_with fail
              refine Hcu.out.mono ?_
              rintro e w4 ⟨rfl, hb4⟩
              have Hb4 := Lib.hid (Hbq.out.trans (hb4.mono Hbq.out.size))
              clear hb4
              go_wp2
              go_roundw
              case rel => exact ⟨j + 1, _, by omega, by go_num, rfl, Hst.out.symm, Hb4.out⟩
              case measure => first | (simp [intOf]; done) | (simp [intOf]; omega)
          · obtain rfl : j = A.length := by omega
            have Hst := Lib.hid (show rankG T l z = rankG T (n - 1) 0 by
              rw [List.drop_of_length_le (Nat.le_refl _)] at hz
              rw [← Hq.out, ← hz]; rfl)
            have Hb0 := Lib.hid hb0
            clear hz hb0 hbq
            go_wp2
            go_roundw
            case rel => exact ⟨l, z, by omega, by go_num, rfl, Hst.out, Hb0.out⟩
            case measure => first | (simp [intOf]; done) | (simp [intOf]; omega)
      · obtain rfl : k = 0 := by omega
        have Hr := Lib.hid (show q = rankG T (n - 1) 0 from hr)
        have Hb0 := Lib.hid (Hb2.out.trans (hbr.mono Hb2.out.size))
        clear hr hbr
        go_wp2
        go_ret2
        exact ⟨by rw [← Hnm.out, ← Hr.out]; exact IRes.yes Hg.out, Hb0.out⟩
  · have Hg := Lib.hid hg
    have Hs := Lib.hid (implIsSign_any ao c m w hsm hwf hm)
    clear hg hsm hwf hm hD
    go_enter Tryd.func30, Tryd.ntmps30
    go_wp2_with fail
    refine Hs.out.mono ?_
    rintro e w0 ⟨ha, hb0⟩
    obtain rfl := ha.isnt Hg.out
    have Hb0 := Lib.hid hb0
    clear ha hb0
    go_wp2
    go_ret2
    exact ⟨IRes.no Hg.out, Hb0.out⟩
end Go.Proofs.YtmkldodkpijfjaaDoor

namespace Go.Proofs.YtmkldodkpijfjaaDoor
open Go.RowKit

theorem subs_sub {s l : List Int} : s ∈ subs l → s.Sublist l := by
  induction l generalizing s with
  | nil => intro h; simp [subs] at h; subst h; exact List.Sublist.slnil
  | cons a r ih =>
    intro h
    simp only [subs, List.mem_append, List.mem_map] at h
    rcases h with ⟨t, ht, rfl⟩ | h
    · exact (ih ht).cons_cons a
    · exact (ih h).cons a
/-- the rows on are columns, one more of them, and twice the others of columns are these -/
def rowsC (n : Nat) : Bool := (subs (iota n)).all fun s => (compl n (compl n s) == s) && (nextL n s).all fun y => (subs (iota n)).contains y && (y.length == s.length + 1)
def lastC (n : Nat) : Bool := (subs (iota n)).all fun s => (s.length + 1 != n) || (nextL n s == [iota n])
set_option maxRecDepth 1000000 in
theorem rowsC_ok : rowsC 1 = true ∧ rowsC 2 = true ∧ rowsC 3 = true ∧ rowsC 4 = true ∧ rowsC 5 = true ∧ lastC 1 = true ∧ lastC 2 = true ∧ lastC 3 = true ∧ lastC 4 = true ∧ lastC 5 = true := by decide +kernel
set_option maxRecDepth 1000000 in
theorem rowsC_ok6 : rowsC 6 = true := by decide +kernel
set_option maxRecDepth 1000000 in
theorem lastC_ok6 : lastC 6 = true := by decide +kernel
theorem rowsC_all {n : Nat} (h1 : 1 ≤ n) (h6 : n ≤ 6) : rowsC n = true ∧ lastC n = true := by
  obtain ⟨a, b, c, d, e, a', b', c', d', e'⟩ := rowsC_ok
  rcases (by omega : n = 1 ∨ n = 2 ∨ n = 3 ∨ n = 4 ∨ n = 5 ∨ n = 6) with rfl | rfl | rfl | rfl | rfl | rfl
  · exact ⟨a, a'⟩
  · exact ⟨b, b'⟩
  · exact ⟨c, c'⟩
  · exact ⟨d, d'⟩
  · exact ⟨e, e'⟩
  · exact ⟨rowsC_ok6, lastC_ok6⟩
theorem compl_twice {n : Nat} (h1 : 1 ≤ n) (h6 : n ≤ 6) {s : List Int} (hs : s.Sublist (iota n)) : compl n (compl n s) = s := by
  have h := List.all_eq_true.1 (rowsC_all h1 h6).1 s (mem_subs hs)
  simp only [Bool.and_eq_true, beq_iff_eq] at h
  exact h.1
theorem next_mem {n : Nat} (h1 : 1 ≤ n) (h6 : n ≤ 6) {s : List Int} (hs : s.Sublist (iota n)) {y : List Int} (hy : y ∈ nextL n s) : y.Sublist (iota n) ∧ y.length = s.length + 1 := by
  have h := List.all_eq_true.1 (rowsC_all h1 h6).1 s (mem_subs hs)
  simp only [Bool.and_eq_true] at h
  have h2 := List.all_eq_true.1 h.2 y hy
  simp only [Bool.and_eq_true, beq_iff_eq] at h2
  exact ⟨subs_sub (by simpa using h2.1), h2.2⟩
theorem next_last {n : Nat} (h1 : 1 ≤ n) (h6 : n ≤ 6) {s : List Int} (hs : s.Sublist (iota n)) (hl : s.length + 1 = n) : nextL n s = [iota n] := by
  have h := List.all_eq_true.1 (rowsC_all h1 h6).2 s (mem_subs hs)
  simp only [Bool.or_eq_true, bne_iff_ne, beq_iff_eq] at h
  rcases h with h | h
  · exact absurd hl h
  · exact h
theorem putIn_perm (n : Nat) (s : List Int) (L : List (List Int)) (y : List Int) : (putIn n s L y).Perm (y :: L) := by
  unfold putIn
  simp only
  obtain ⟨t, ht⟩ := List.takeWhile_prefix (l := L) (fun z => rowLess (stepF n s z) (stepF n s y))
  obtain ⟨p, hp⟩ : ∃ p, p = L.takeWhile fun z => rowLess (stepF n s z) (stepF n s y) := ⟨_, rfl⟩
  rw [← hp] at ht ⊢
  rw [← ht, List.drop_left]
  exact List.perm_middle
theorem next_perm_at (n : Nat) (s : List Int) : ∀ (A L : List (List Int)), (A.foldl (putIn n s) L).Perm (A ++ L)
  | [], _ => List.Perm.refl _
  | y :: A, L => by
    rw [List.foldl_cons]
    exact (next_perm_at n s A _).trans ((List.Perm.append_left A (putIn_perm n s L y)).trans List.perm_middle)
theorem next_perm (n : Nat) (s : List Int) : (nextL n s).Perm (behind n s) := by
  have h := next_perm_at n s (behind n s) []
  rwa [List.append_nil] at h
theorem next_len {n : Nat} (hn : n ≤ 6) {s : List Int} (h : ColsN n s) (hl : s.length ≤ 6) : (nextL n s).length ≤ 1048576 := by
  rw [(next_perm n s).length_eq]
  exact behind_len hn h hl
theorem next_cols {n : Nat} {s : List Int} (h : ColsN n s) {y : List Int} (hy : y ∈ nextL n s) : ColsN n y ∧ y.length = s.length + 1 := behind_mem h ((next_perm n s).mem_iff.1 hy)
theorem triRow_cols (m : List (List Int)) (k : Nat) : ColsN m.length (triRow m k) := ⟨colsF_up _ _, fun x hx => by
  obtain ⟨j, rfl, hj, _⟩ := mem_colsF.1 hx
  omega⟩
/-- the ways on from the rows before Y -/
def rankB (n : Nat) (Y : List Int) : List (List Int) → Int → Int
  | [], r => r
  | y :: L, r => if y = Y then r else rankB n Y L (wrap64 (r + wrap64 (waysB n y)))
theorem rankB_step {n : Nat} {Y : List Int} {L : List (List Int)} {k : Nat} (h : k < L.length) (r : Int) : rankB n Y (L.drop k) r = if gr L k = Y then r else rankB n Y (L.drop (k + 1)) (wrap64 (r + wrap64 (waysB n (gr L k)))) := by
  rw [List.drop_eq_getElem_cons h, rankB, gr_lt h]
theorem rankB_compl {n : Nat} (h1 : 1 ≤ n) (h6 : n ≤ 6) {Y : List Int} (hY : Y.Sublist (iota n)) : ∀ (L : List (List Int)) (r : Int), (∀ y ∈ L, y.Sublist (iota n) ∧ y.length < n) → rankIn (compl n Y) (L.map (compl n)) r = rankB n Y L r
  | [], _, _ => rfl
  | y :: L, r, h => by
    obtain ⟨ha, hb⟩ := h y (by simp)
    rw [List.map_cons, rankIn, rankB, ways_compl h1 h6 ha hb, rankB_compl h1 h6 hY L _ (fun z hz => h z (by simp [hz]))]
    by_cases e : y = Y
    · subst e
      simp
    · have hne : compl n y ≠ compl n Y := fun he => e (by rw [← compl_twice h1 h6 ha, he, compl_twice h1 h6 hY])
      rw [if_neg hne, if_neg e]
theorem colsF_sub (n : Nat) (f : Nat → Bool) : (colsF n f).Sublist (iota n) := by
  unfold colsF iota rng
  have e : ((n : Int) - 1 - 0 + 1).toNat = n := by omega
  rw [e]
  have h := (List.filter_sublist (p := f) (l := List.range n)).map (fun j : Nat => (j : Int))
  have e2 : (List.range n).map (fun i : Nat => (0 : Int) + (i : Int)) = (List.range n).map (fun j : Nat => (j : Int)) := List.map_congr_left fun i _ => by simp
  rw [e2]
  exact h
/-- the sum over the first t columns -/
def colS (m : List (List Int)) (k : Nat) : Nat → Int
  | 0 => 0
  | t + 1 => colS m k t + colR m t k
theorem colS_zero (m : List (List Int)) : ∀ t, colS m 0 t = 0
  | 0 => rfl
  | t + 1 => by simp [colS, colS_zero m t, colR]
theorem colS_succ (m : List (List Int)) (k : Nat) : ∀ t, colS m (k + 1) t = colS m k t + sumK (gr m k) t
  | 0 => rfl
  | t + 1 => by
    have h := colS_succ m k t
    simp only [colS, sumK, colR]
    omega
theorem colsF_count {m : List (List Int)} (h : good m) {k : Nat} (hk : k ≤ m.length) : ∀ t, t ≤ m.length → ((colsF t fun j => decide (colR m j k = 1)).length : Int) = colS m k t
  | 0, _ => rfl
  | t + 1, ht => by
    rw [colsF_succ, List.length_append]
    have ih := colsF_count h hk t (by omega)
    obtain ⟨a, b⟩ := colR_01 h (j := t) (k := k) (by omega) hk
    simp only [colS]
    by_cases e : colR m t k = 1
    · simp [e, ih]
    · have : colR m t k = 0 := by omega
      simp [this, ih]
theorem colS_good {m : List (List Int)} (h : good m) : ∀ k, k ≤ m.length → colS m k m.length = (k : Int)
  | 0, _ => colS_zero m _
  | k + 1, hk => by
    rw [colS_succ, colS_good h k (by omega)]
    have h2 := h.2.1 k (by omega)
    have h3 := h2.2
    rw [h.1.2.2 k (by omega)] at h3
    rw [h3]
    omega
theorem triRow_len {m : List (List Int)} (h : good m) {k : Nat} (hk : k ≤ m.length) : (triRow m k).length = k := by
  have h1 := colsF_count h hk m.length (Nat.le_refl _)
  rw [colS_good h k hk] at h1
  unfold triRow
  omega
theorem triRow_sub (m : List (List Int)) (k : Nat) : (triRow m k).Sublist (iota m.length) := colsF_sub _ _
theorem triRow_zero (m : List (List Int)) : triRow m 0 = [] := by
  have : ∀ x, x ∉ triRow m 0 := fun x hx => by
    obtain ⟨j, _, _, h⟩ := mem_colsF.1 hx
    simp [colR] at h
  exact List.eq_nil_iff_forall_not_mem.2 this
theorem triRow_all {m : List (List Int)} (h : good m) : triRow m m.length = iota m.length := (triRow_sub m m.length).eq_of_length (by rw [triRow_len h (Nat.le_refl _), iota_len])
/-- the rank behind k rows -/
def rankUp (m : List (List Int)) : Nat → Int
  | 0 => 0
  | k + 1 => rankB m.length (triRow m (k + 1)) (nextL m.length (triRow m k)) (rankUp m k)
theorem rankUp_G {m : List (List Int)} (h : good m) : ∀ k, k + 1 ≤ m.length → rankG (triM m.reverse) (m.length - 1 - k) (rankUp m k) = rankG (triM m.reverse) (m.length - 1) 0
  | 0, _ => rfl
  | k + 1, hk => by
    have ih := rankUp_G h k (by omega)
    have h1 := h.1.1
    have h6 := h.1.2.1
    rw [← ih, show m.length - 1 - k = (m.length - 1 - (k + 1)) + 1 from by omega, rankG]
    rw [gr_triM_reverse h (by omega), gr_triM_reverse h (by omega)]
    rw [show m.length - (m.length - 1 - (k + 1) + 1) = k + 1 from by omega, show m.length - (m.length - 1 - (k + 1) + 1 + 1) = k from by omega]
    have hl := triRow_len h (show k ≤ m.length by omega)
    rw [← chain_at h1 h6 (triRow_sub m k) (by omega), rankB_compl h1 h6 (triRow_sub m (k + 1)) _ _ (fun y hy => by
      have := next_mem h1 h6 (triRow_sub m k) hy
      exact ⟨this.1, by omega⟩)]
    rfl
/-- both ranks are the same -/
theorem rankUp_end {m : List (List Int)} (h : good m) : rankUp m m.length = rankG (triM m.reverse) (m.length - 1) 0 := by
  have h1 := h.1.1
  have h6 := h.1.2.1
  have h2 := rankUp_G h (m.length - 1) (by omega)
  rw [Nat.sub_self] at h2
  rw [← h2]
  obtain ⟨n, hn⟩ : ∃ n, m.length = n + 1 := ⟨m.length - 1, by omega⟩
  have hl := triRow_len h (show n ≤ m.length by omega)
  have e := next_last h1 h6 (triRow_sub m n) (by omega)
  have e2 := triRow_all h
  rw [hn] at e e2 ⊢
  rw [Nat.add_sub_cancel]
  simp only [rankUp, rankG]
  rw [hn, e, e2, rankB, if_pos rfl]
end Go.Proofs.YtmkldodkpijfjaaDoor

namespace Go.Proofs.YtmkldodkpijfjaaDoor
open Go.RowKit

/-- a row in blocks behind kb -/
def RowI (w : World) (kb : Nat) (ra : Option Addr) (xs : List Int) : Prop := IntsAt w ra xs ∧ ∀ b o, ra = some ⟨b, o, none⟩ → kb < b
theorem RowI.nil (w : World) (kb : Nat) : RowI w kb none [] := ⟨IntsAt.nil _ _, fun b o e => by cases e⟩
theorem RowI.grown {w w' : World} {kb : Nat} {ra : Option Addr} {xs : List Int} (h : RowI w kb ra xs) (hg : w.grownBy w' (some kb)) : RowI w' kb ra xs := ⟨fun i hi => by
  obtain ⟨b, o, e, hc⟩ := h.1 i hi
  exact ⟨b, o, e, hg.cell hc (fun e2 => by have := h.2 b o e; simp at e2; omega)⟩, h.2⟩
theorem RowI.below {w w' : World} {kb : Nat} {ra : Option Addr} {xs : List Int} (h : RowI w kb ra xs) (hb : Below w.heap.size w w') : RowI w' kb ra xs := ⟨h.1.below hb, h.2⟩
/-- rows that are read, all in blocks from B on -/
def RowsFrom (w : World) (B : Nat) (ao : Option Addr) (L : List (List Int)) : Prop := ∀ j, j < L.length → ∃ b o r d, ao = some ⟨b, o, none⟩ ∧ B ≤ b ∧ w.cell? ⟨b, o + j, none⟩ = some (.slice r (gr L j).length d) ∧ IntsAt w r (gr L j) ∧ ∀ b' o', r = some ⟨b', o', none⟩ → B ≤ b'
theorem RowsFrom.base {w : World} {B B' : Nat} {ao : Option Addr} {L : List (List Int)} (h : RowsFrom w B ao L) (hB : B' ≤ B) : RowsFrom w B' ao L := fun j hj => by
  obtain ⟨b, o, r, d, e, h1, hc, hx, hr⟩ := h j hj
  exact ⟨b, o, r, d, e, by omega, hc, hx, fun b' o' e' => by have := hr b' o' e'; omega⟩
theorem RowsFrom.grown {w w' : World} {B kb : Nat} {ao : Option Addr} {L : List (List Int)} (h : RowsFrom w B ao L) (hg : w.grownBy w' (some kb)) (hk : kb < B) : RowsFrom w' B ao L := fun j hj => by
  obtain ⟨b, o, r, d, e, h1, hc, hx, hr⟩ := h j hj
  refine ⟨b, o, r, d, e, h1, hg.cell hc (fun e2 => by simp at e2; omega), fun i hi => ?_, hr⟩
  obtain ⟨b2, o2, e2, hcc⟩ := hx i hi
  exact ⟨b2, o2, e2, hg.cell hcc (fun e3 => by have := hr b2 o2 e2; simp at e3; omega)⟩
theorem RowsFrom.below {w w' : World} {B : Nat} {ao : Option Addr} {L : List (List Int)} (h : RowsFrom w B ao L) (hb : Below w.heap.size w w') : RowsFrom w' B ao L := fun j hj => by
  obtain ⟨b, o, r, d, e, h1, hc, hx, hr⟩ := h j hj
  exact ⟨b, o, r, d, e, h1, cell_below hc hb, hx.below hb, hr⟩
theorem rowsFrom_own {w : World} {B kb : Nat} {v : Value} {L : List (List Int)} (h : OwnM w B v L) (hk : kb < B) : ∃ ao c, v = .slice ao L.length c ∧ RowsFrom w (kb + 1) ao L := by
  obtain ⟨vs, hp⟩ := h
  obtain ⟨ao, c, rfl, h3, h4, hcells⟩ := ownsRow_read hp.top
  refine ⟨ao, c, rfl, fun j hj => ?_⟩
  obtain ⟨b, o, e, hc⟩ := hcells j hj
  obtain ⟨r, d, hr, _, _, hx⟩ := (hp.rows j hj).read
  have hl := (hp.rows j hj).lt
  have ht := (World.ownsRow.lt hp.top b (by rw [e]; rfl)).1
  rw [hr] at hc hl
  exact ⟨b, o, r, d, e, by omega, hc, hx, fun b' o' e' => by
    have := (hl b' (by rw [e']; rfl)).1
    omega⟩
theorem below_of_grown {w0 w w' : World} {B kb : Nat} (h : Below B w0 w) (hg : w.grownBy w' (some kb)) (hk : B ≤ kb) (hk3 : kb ≤ w.heap.size) : Below B w0 w' := by
  refine h.trans ?_
  exact ⟨hg.os, hg.tape, hg.output, hg.size, fun k hk2 => hg.block k (by omega) (fun e => by simp at e; omega)⟩
set_option maxRecDepth 100000 in
set_option maxHeartbeats 400000 in
theorem trNextR_any (n : Nat) (hn : n ≤ 6) (s : List Int) (hs : ColsN n s) (h6 : s.length ≤ 6) (a1 : Option Addr) (c1 : Nat) (w : World) (hx : IntsAt w a1 s) :
    Calls Tryd.prog 53 #[.slice a1 s.length c1, .int .i64 (n : Int)] w fun e w' => ∃ (ao : Option Addr) (c : Nat), e = .returned (.slice ao (nextL n s).length c) ∧ RowsFrom w' w.heap.size ao (nextL n s) ∧ Below w.heap.size w w' := by
  refine (trNext_any n hn s hs h6 a1 c1 w hx).mono ?_
  rintro e w1 ⟨v, ps, rfl, hown, hps, hL, hb⟩
  obtain ⟨ao, c, rfl, h3, h4, hcells⟩ := ownsRow_read hown
  have hl : ps.length = (nextL n s).length := by rw [← hL, List.length_map]
  refine ⟨ao, c, by rw [hl], fun j hj => ?_, hb⟩
  have hjp : j < ps.length := by omega
  obtain ⟨b, o, e, hc⟩ := hcells j hjp
  obtain ⟨r, d, hr, hx, hB⟩ := hps ps[j] (List.getElem_mem hjp)
  have hg : gr (nextL n s) j = ps[j].2 := by rw [← hL, gr_lt (by rw [List.length_map]; exact hjp), List.getElem_map]
  have hget : (ps.map (·.1)).getD j undef = ps[j].1 := by simp [List.getD, hjp]
  rw [hget, hr] at hc
  have ht := (World.ownsRow.lt hown b (by rw [e]; rfl)).1
  rw [hg]
  exact ⟨b, o, r, d, e, ht, hc, hx, hB⟩
end Go.Proofs.YtmkldodkpijfjaaDoor

namespace Go.Proofs.YtmkldodkpijfjaaDoor
open Go.RowKit

set_option maxRecDepth 100000 in
set_option maxHeartbeats 400000 in
theorem trKnown_any (n : Int) (SZ : Nat) (w : World) (h0 : 0 ≤ n) (h6 : n ≤ 6) (e1 : wrap64 ((2 : Int) ^ n.toNat) = (SZ : Int)) (hb : SZ ≤ 64) :
    Calls Tryd.prog 51 #[.int .i64 n] w fun e w' => e = .returned (.slice (some ⟨w.heap.size, 0, none⟩) SZ SZ) ∧ OwnI w' w.heap.size (.slice (some ⟨w.heap.size, 0, none⟩) SZ SZ) (List.replicate SZ 0) ∧ Below w.heap.size w w' := by
  obtain ⟨i0, hi, hz0, hz1, hz2⟩ := info_parts Tryd.info_int
  go_enter Tryd.func51, Tryd.ntmps51
  go_wp2_with (at_make; refine wpList_make_full _ rfl _ _ 22 rfl w.heap.size 3 i0 (.int .i64 0) 1 Tryd.underlying22 hi hz0 hz1 _ _ _ _ SZ rfl rfl e1 e1 ?c1 ?c2 ?c3 ?_)
  case c1 => rw [hz2]; omega
  case c2 => unfold maxLen; omega
  case c3 => simp
  intro w1 hown hgr
  have hb1 : Below w.heap.size w w1 := (Below.refl _ _).grown hgr (Nat.le_refl _) (fun _ h => by cases h)
  have Hown1 := Lib.hid (OwnI.made hown)
  have Hb1 := Lib.hid hb1
  clear hown hgr hb1
  go_wp2
  go_ret
  exact ⟨rfl, Hown1.out, Hb1.out⟩

theorem firstW_len (n : Nat) : (firstW n).length = n := by simp [firstW, firstB]
theorem firstW_take {N k : Nat} (h : k < N) : (firstW N).take (k + 1) = (firstW N).take k ++ [wrap64 (waysB N [(k : Int)])] := by
  rw [List.take_succ_eq_append_getElem (by rw [firstW_len]; exact h)]
  simp [firstW, firstB]

end Go.Proofs.YtmkldodkpijfjaaDoor

namespace Go.Proofs.YtmkldodkpijfjaaDoor
open Go.RowKit

set_option maxRecDepth 100000 in
set_option maxHeartbeats 400000 in
theorem trTotal_any (N : Nat) (h1 : 1 ≤ N) (hN : N ≤ 6) (w : World) :
    Calls Tryd.prog 63 #[.int .i64 (N : Int)] w fun e w' => e = .returned (.int .i64 (wrap64 (waysB N []))) ∧ Below w.heap.size w w' := by
  obtain ⟨SZ, hSZ⟩ : ∃ SZ : Nat, SZ = 2 ^ N := ⟨_, rfl⟩
  have hSb : SZ ≤ 64 := by have : 2 ^ N ≤ 2 ^ 6 := Nat.pow_le_pow_right (by omega) hN; omega
  have e1 : wrap64 ((2 : Int) ^ (N : Int).toNat) = (SZ : Int) := by
    have : ((2 : Int) ^ (N : Int).toNat) = ((2 ^ N : Nat) : Int) := by simp
    rw [this, ← hSZ]; unfold wrap64; omega
  have Hk := Lib.hid (trKnown_any (N : Int) SZ w (by omega) (by omega) e1 hSb)
  have HSZ := Lib.hid hSZ
  clear hSZ e1
  go_enter Tryd.func63, Tryd.ntmps63
  go_wp2_with fail
  refine Hk.out.mono ?_
  rintro e w1 ⟨rfl, hown1, hb1⟩
  have hcall := trWays_any N hN SZ HSZ.out N [] none 0 w.heap.size w.heap.size SZ (List.replicate SZ 0) w1 (by simp) ⟨trivial, fun x hx => by cases hx⟩ (IntsAt.nil _ _) (fun b o e => by cases e) hown1 (knowsW_zero _ _) (Nat.le_refl _)
  rw [show ([] : List Int).length = 0 from rfl] at hcall
  obtain ⟨y, hy⟩ : ∃ y, y = wrap64 (waysB N []) := ⟨_, rfl⟩
  rw [← hy] at hcall
  have Hcall := Lib.hid hcall
  have Hb1 := Lib.hid hb1
  have Hy := Lib.hid hy
  clear hown1 hb1 hcall hy Hk
  go_wp2_with fail
  refine Hcall.out.mono ?_
  rintro e w2 ⟨ks, rfl, _, _, hg⟩
  have Hb2 := Lib.hid (Hb1.out.grown hg Hb1.out.size (fun k hk => by cases hk; exact Nat.le_refl _))
  clear hg
  go_wp2
  go_ret
  exact ⟨by rw [← Hy.out]; rfl, Hb2.out⟩
end Go.Proofs.YtmkldodkpijfjaaDoor

namespace Go.Proofs.YtmkldodkpijfjaaDoor
open Go.RowKit

set_option maxRecDepth 100000 in
set_option maxHeartbeats 3200000 in
theorem specRankSigns_any (ao : Option Addr) (c : Nat) (m : List (List Int)) (w : World) (hs : Small m) (hm : MatAt w ao m) :
    Calls Tryd.prog 28 #[.slice ao m.length c] w fun e w' => IRes (good m) (rankG (triM m.reverse) (m.length - 1) 0) e ∧ Below w.heap.size w w' := by
  have hmx : m.length ≤ 9223372036854775807 := by have := hs.1; omega
  have Hs := Lib.hid (sgGood_any ao c m w hs hm)
  by_cases hg : good m
  · have h1 := hg.1.1
    have h6 := hg.1.2.1
    have Hm := Lib.hid hm
    have HR := Lib.hid (rankUp_end hg)
    have Hlen := Lib.hid (fun k (hk : k ≤ m.length) => triRow_len hg hk)
    have Hcols := Lib.hid (triRow_cols m)
    have Hg := Lib.hid hg
    obtain ⟨n, hn⟩ : ∃ n, n = m.length := ⟨_, rfl⟩
    obtain ⟨SZ, hSZ⟩ : ∃ SZ : Nat, SZ = 2 ^ n := ⟨_, rfl⟩
    have hSb : SZ ≤ 64 := by have : 2 ^ n ≤ 2 ^ 6 := Nat.pow_le_pow_right (by omega) (by omega); omega
    have e1 : wrap64 ((2 : Int) ^ (n : Int).toNat) = (SZ : Int) := by
      have : ((2 : Int) ^ (n : Int).toNat) = ((2 ^ n : Nat) : Int) := by simp
      rw [this, ← hSZ]; unfold wrap64; omega
    have Hk := Lib.hid (fun w => trKnown_any (n : Int) SZ w (by omega) (by omega) e1 hSb)
    have HSZ := Lib.hid hSZ
    have hT := fun w h => trOf_any ao c m w hg h
    rw [← hn] at hT HR Hlen Hcols hmx
    have HT := Lib.hid hT
    have Hn := Lib.hid hn
    have h1n : 1 ≤ n := by omega
    have h6n : n ≤ 6 := by omega
    clear hm hs hg hSZ e1 hT
    rw [← hn] at Hs ⊢
    clear hn
    go_enter Tryd.func28, Tryd.ntmps28
    go_wp2_with fail
    refine Hs.out.mono ?_
    rintro e w1 ⟨ha, hb1⟩
    obtain rfl := ha.is Hg.out
    have Hb1 := Lib.hid hb1
    clear ha hb1
    go_wp2_with fail
    refine (Hk.out w1).mono ?_
    rintro e w2 ⟨rfl, hown, hb2⟩
    have Hown := Lib.hid hown
    have hkb : w1.heap.size < w2.heap.size := (hown.lt w1.heap.size rfl).2
    obtain ⟨kb, hkbe⟩ : ∃ kb, kb = w1.heap.size := ⟨_, rfl⟩
    rw [← hkbe] at Hown hkb
    have Hb2 := Lib.hid (Hb1.out.trans (hb2.mono Hb1.out.size))
    have Hkbw := Lib.hid (show w.heap.size ≤ kb by rw [hkbe]; exact Hb1.out.size)
    rw [← hkbe]
    clear hown hb2 hkbe
    go_wp2_with fail
    refine (HT.out w2 (Hm.out.below Hb2.out)).mono ?_
    rintro e w3 ⟨v, rfl, hv, hb3⟩
    obtain ⟨ta, tc, rfl, hrt⟩ := rowsFrom_own hv hkb
    have HRT := Lib.hid hrt
    have Hown3 := Lib.hid (Hown.out.below hb3)
    have Hb3 := Lib.hid (Hb2.out.trans (hb3.mono Hb2.out.size))
    rw [triM_len, ← Hn.out]
    clear hv hb3 hrt
    go_wp2
    go_loopw [6, 7, 22] (fun q rv i wr => ∃ (k : Nat) (ra : Option Addr) (rc : Nat) (ks : List Int), k ≤ n ∧ i = .int .i64 k ∧ q = .int .i64 (rankUp m k) ∧ rv = .slice ra k rc ∧ RowI wr kb ra (triRow m k) ∧
        OwnI wr kb (.slice (some ⟨kb, 0, none⟩) SZ SZ) ks ∧ KnowsW n ks ∧ w3.grownBy wr (some kb)) (fun _ _ i _ => n - (intOf i).toNat)
    case atStart => exact ⟨0, none, 0, _, Nat.zero_le _, rfl, rfl, rfl, by rw [triRow_zero]; exact RowI.nil _ _, Hown3.out, knowsW_zero _ _, World.grownBy.refl _ _⟩
    case round =>
      obtain ⟨k, ra, rc, ks, hk, rfl, rfl, rfl, hri, hownr, hkr, hg3⟩ := hrel
      have Hri := Lib.hid hri
      have Hownr := Lib.hid hownr
      have Hkr := Lib.hid hkr
      have Hg3 := Lib.hid hg3
      clear hri hownr hkr hg3
      by_cases hlt : k < n
      · obtain ⟨b1, o1, r1, d1, rfl, _, hc1, hx1, hr1⟩ := HRT.out.grown Hg3.out (Nat.lt_succ_self kb) k (by rw [triM_len, ← Hn.out]; exact hlt)
        rw [gr_triM (by rw [← Hn.out]; exact hlt)] at hc1 hx1
        rw [Hlen.out (k + 1) (by omega)] at hc1
        have hup : rankUp m (k + 1) = rankB n (triRow m (k + 1)) (nextL n (triRow m k)) (rankUp m k) := by rw [rankUp, Hn.out]
        obtain ⟨s, hs⟩ : ∃ s, s = triRow m k := ⟨_, rfl⟩
        obtain ⟨Y, hY⟩ : ∃ Y, Y = triRow m (k + 1) := ⟨_, rfl⟩
        obtain ⟨q0, hq0⟩ : ∃ q0, q0 = rankUp m k := ⟨_, rfl⟩
        have hsl : s.length = k := by rw [hs]; exact Hlen.out k hk
        have hYl : Y.length = k + 1 := by rw [hY]; exact Hlen.out (k + 1) (by omega)
        have hsc : ColsN n s := by rw [hs]; exact Hcols.out k
        have hYc : ColsN n Y := by rw [hY]; exact Hcols.out (k + 1)
        have hri := Hri.out
        rw [← hs] at hri hup
        rw [← hY] at hx1 hup
        rw [← hq0] at hup ⊢
        have hnx := trNextR_any n h6n s hsc (by omega) ra rc wr hri.1
        rw [hsl] at hnx
        have Hnx := Lib.hid hnx
        have Hup := Lib.hid hup
        have Hx1 := Lib.hid (show RowI wr kb r1 Y from ⟨hx1, hr1⟩)
        have HYl := Lib.hid hYl
        have HYc := Lib.hid hYc
        have hal := next_len h6n hsc (by omega)
        have Hmem := Lib.hid (fun y hy => next_cols hsc (y := y) hy)
        have Hsl := Lib.hid hsl
        have HY := Lib.hid hY
        clear hnx hup hx1 hr1 hYl hYc hsc hri hs hY hq0 hsl Hri
        go_wp2_with fail
        refine Hnx.out.mono ?_
        rintro e w4 ⟨na, nc, rfl, hrn, hb4⟩
        obtain ⟨A, hA⟩ : ∃ A, A = nextL n s := ⟨_, rfl⟩
        rw [← hA] at hrn hal
        rw [← hA]
        have Hup2 := Lib.hid (show rankUp m (k + 1) = rankB n Y A q0 by rw [hA]; exact Hup.out)
        have Hmem2 := Lib.hid (show ∀ y, y ∈ A → ColsN n y ∧ y.length = s.length + 1 by rw [hA]; exact Hmem.out)
        have hamx : A.length ≤ 9223372036854775807 := by omega
        have hgk := Nat.lt_of_lt_of_le (Hownr.out.lt kb rfl).2 (Nat.le_refl _)
        have Hrn := Lib.hid (hrn.base (show kb + 1 ≤ wr.heap.size from hgk))
        have Hx4 := Lib.hid (Hx1.out.below hb4)
        have Hown4 := Lib.hid (Hownr.out.below hb4)
        have Hg4 := Lib.hid (Hg3.out.trans ((grown_of_below' hb4).but (some kb)))
        clear hrn hb4 hA hgk Hup Hmem Hx1 Hownr Hg3 Hnx
        go_wp2
        go_loopw [6, 30] (fun q i wr => ∃ (j : Nat) (z : Int) (ks : List Int), j ≤ A.length ∧ i = .int .i64 j ∧ q = .int .i64 z ∧ rankB n Y (A.drop j) z = rankB n Y A q0 ∧ OwnI wr kb (.slice (some ⟨kb, 0, none⟩) SZ SZ) ks ∧ KnowsW n ks ∧ w4.grownBy wr (some kb)) (fun _ i _ => A.length - (intOf i).toNat)
        case atStart => exact ⟨0, q0, ks, Nat.zero_le _, rfl, rfl, rfl, Hown4.out, Hkr.out, World.grownBy.refl _ _⟩
        case round =>
          obtain ⟨j, z, ks2, hj, rfl, rfl, hz, hown5, hk5, hg5⟩ := hrel
          have Hz := Lib.hid hz
          have Hown5 := Lib.hid hown5
          have Hk5 := Lib.hid hk5
          have Hg5 := Lib.hid hg5
          clear hz hown5 hk5 hg5
          by_cases hjl : j < A.length
          · obtain ⟨b2, o2, r2, d2, rfl, _, hc2, hx2, hr2⟩ := Hrn.out.grown Hg5.out (Nat.lt_succ_self kb) j hjl
            have hyl := (Hmem2.out _ (gr_mem hjl)).2
            have hyc := (Hmem2.out _ (gr_mem hjl)).1
            have hxY := Hx4.out.grown Hg5.out
            have hb := rankB_step (n := n) (Y := Y) hjl z
            obtain ⟨y, hy⟩ : ∃ y, y = gr A j := ⟨_, rfl⟩
            rw [← hy] at hc2 hx2 hyl hyc hb
            have hsame := l1Same_any r2 r1 d2 d1 y Y wr (by have := Hsl.out; omega) (by have := HYl.out; omega) hx2 hxY.1
            have hway := fun w' (hq : Q wr w') => trWays_any n h6n SZ HSZ.out (n - y.length) y r2 d2 kb kb SZ ks2 w' (by have := Hsl.out; omega) hyc (hx2.below (hq.below _)) (fun b o e => by have := hr2 b o e; omega) (Hown5.out.below (hq.below _)) Hk5.out (Nat.le_refl _)
            have eyl : y.length = k + 1 := by have := Hsl.out; omega
            rw [eyl] at hc2
            rw [HYl.out, eyl] at hsame
            rw [eyl] at hway
            have Hsame := Lib.hid hsame
            by_cases heq : y = Y
            · rw [if_pos heq] at hb
              have hbt : (y == Y) = true := by simpa using heq
              rw [hbt] at hsame
              have Hsame := Lib.hid hsame
              have Hfin := Lib.hid (show rankUp m (k + 1) = z by rw [Hup2.out, ← Hz.out, hb])
              clear hsame hway hb hx2 hr2 hyl hyc hy hxY heq hbt
              go_wp2_with fail
              refine Hsame.out.mono ?_
              rintro e w6 ⟨rfl, hq6⟩
              have Hq6 := Lib.hid hq6
              have Hx6 := Lib.hid ((Hx4.out.grown Hg5.out).below (hq6.below _))
              have Hg6 := Lib.hid (Hg4.out.trans (Hg5.out.trans ((grown_of_below' (hq6.below _)).but (some kb))))
              have Hown6 := Lib.hid (Hown5.out.below (hq6.below _))
              clear hq6
              go_wp2
              go_roundw
              case rel => exact ⟨k + 1, r1, d1, ks2, by omega, by go_num, by rw [Hfin.out], rfl, by rw [← HY.out]; exact Hx6.out, Hown6.out, Hk5.out, Hg6.out⟩
              case measure => first | (simp [intOf]; done) | (simp [intOf]; omega)
            · rw [if_neg heq] at hb
              have hbt : (y == Y) = false := by simpa using heq
              rw [hbt] at hsame
              have Hsame := Lib.hid hsame
              have Hb := Lib.hid hb
              obtain ⟨u, hu⟩ : ∃ u, u = wrap64 (waysB n y) := ⟨_, rfl⟩
              rw [← hu] at hway Hb
              have Hway := Lib.hid hway
              clear hsame hway hb hx2 hr2 hyl hyc hy hxY heq hbt hu
              go_wp2_with fail
              refine Hsame.out.mono ?_
              rintro e w6 ⟨rfl, hq6⟩
              have Hq6 := Lib.hid hq6
              clear hq6
              go_wp2_with fail
              refine (Hway.out w6 Hq6.out).mono ?_
              rintro e w7 ⟨ks3, rfl, hown7, hk7, hg7⟩
              have Hown7 := Lib.hid hown7
              have Hk7 := Lib.hid hk7
              have Hg7 := Lib.hid ((Hg5.out.trans ((grown_of_below' (Hq6.out.below _)).but (some kb))).trans hg7)
              clear hown7 hk7 hg7
              go_wp2
              go_roundw
              case rel => exact ⟨j + 1, _, ks3, by omega, by go_num, rfl, by rw [← Hz.out, Hb.out], Hown7.out, Hk7.out, Hg7.out⟩
              case measure => first | (simp [intOf]; done) | (simp [intOf]; omega)
          · obtain rfl : j = A.length := by omega
            have Hfin := Lib.hid (show rankUp m (k + 1) = z by rw [Hup2.out, ← Hz.out, List.drop_of_length_le (Nat.le_refl _)]; rfl)
            have Hx6 := Lib.hid (Hx4.out.grown Hg5.out)
            have Hg6 := Lib.hid (Hg4.out.trans Hg5.out)
            go_wp2
            go_roundw
            case rel => exact ⟨k + 1, r1, d1, ks2, by omega, by go_num, by rw [Hfin.out], rfl, by rw [← HY.out]; exact Hx6.out, Hown5.out, Hk5.out, Hg6.out⟩
            case measure => first | (simp [intOf]; done) | (simp [intOf]; omega)
      · obtain rfl : k = n := by omega
        have HF := Lib.hid (show Below w.heap.size w wr from below_of_grown Hb3.out Hg3.out Hkbw.out (Nat.le_of_lt (Hown3.out.lt kb rfl).2))
        go_wp2
        go_ret2
        exact ⟨by rw [← HR.out]; exact IRes.yes Hg.out, HF.out⟩
  · have Hg := Lib.hid hg
    clear hg hs hm
    go_enter Tryd.func28, Tryd.ntmps28
    go_wp2_with fail
    refine Hs.out.mono ?_
    rintro e w1 ⟨ha, hb1⟩
    obtain rfl := ha.isnt Hg.out
    have Hb1 := Lib.hid hb1
    clear ha hb1
    go_wp2
    go_ret2
    exact ⟨IRes.no Hg.out, Hb1.out⟩
end Go.Proofs.YtmkldodkpijfjaaDoor

