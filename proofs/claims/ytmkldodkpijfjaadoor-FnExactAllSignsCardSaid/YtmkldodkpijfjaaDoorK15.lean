/- Parts of proofs: contracts and plain facts. Conditions: as each says. -/
import Derived.Test.YtmkldodkpijfjaaDoorK14
import Derived.StillTailTactics
namespace Go.Proofs.YtmkldodkpijfjaaDoor
open Go.RowKit

/-- the ways of the rows before Y -/
def rankIn (Y : List Int) : List (List Int) → Int → Int
  | [], r => r
  | y :: L, r => if y = Y then r else rankIn Y L (wrap64 (r + wrap64 (ways y)))
theorem rankIn_step {Y : List Int} {L : List (List Int)} {k : Nat} (h : k < L.length) (r : Int) : rankIn Y (L.drop k) r = if gr L k = Y then r else rankIn Y (L.drop (k + 1)) (wrap64 (r + wrap64 (ways (gr L k)))) := by
  rw [List.drop_eq_getElem_cons h, rankIn, gr_lt h]
/-- .. from row i up -/
def rankG (t : List (List Int)) : Nat → Int → Int
  | 0, r => r
  | i + 1, r => rankG t i (rankIn (gr t i) (above (gr t (i + 1))) r)

set_option maxRecDepth 100000 in
set_option maxHeartbeats 1600000 in
theorem implRankSigns_any (ao : Option Addr) (c : Nat) (m : List (List Int)) (w : World) (hsm : Small m) (hwf : WfM m) (hm : MatAt w ao m) (hD : Dj w) :
    Calls Tryd.prog 30 #[.slice ao m.length c] w fun e w' => IRes (good m) (rankG (triM m.reverse) (m.length - 1) 0) e ∧ Below w.heap.size w w' := by
  have hmx : m.length ≤ 9223372036854775807 := by have := hsm.1; omega
  by_cases hg : good m
  · have h1 := hg.1.1
    have h6 := hg.1.2.1
    have hgr := good_reverse hg
    have Hg := Lib.hid hg
    have HD := Lib.hid hD
    have Hs := Lib.hid (implIsSign_any ao c m w hsm hwf hm)
    have Hu := Lib.hid (fun w0 (hb : Below w.heap.size w w0) => upsideDown_any ao c m w0 hsm.1 h1 (hm.below hb))
    obtain ⟨T, hT⟩ : ∃ T, T = triM m.reverse := ⟨_, rfl⟩
    have hTl : T.length = m.length := by rw [hT, triM_len, List.length_reverse]
    have hTr : ∀ i, i < m.length → Rise (gr T i) ∧ (gr T i).length ≤ 6 := fun i hi => by
      rw [hT, gr_triM (by rw [List.length_reverse]; exact hi)]
      unfold triRow
      rw [List.length_reverse]
      exact ⟨colsF_rise _ (by omega), by have := colsF_len m.length fun j => decide (colR m.reverse j (i + 1) = 1); omega⟩
    have HTl := Lib.hid hTl
    have HTr := Lib.hid hTr
    have HT := Lib.hid hT
    have Hgr := Lib.hid hgr
    rw [← hT]
    clear hg hD hsm hwf hm hTl hTr hT hgr
    go_enter Tryd.func30, Tryd.ntmps30
    go_wp2_with fail
    refine Hs.out.mono ?_
    rintro e w0 ⟨ha, hb0⟩
    obtain rfl := ha.is Hg.out
    have Hb0 := Lib.hid hb0
    clear ha hb0
    go_wp2_with fail
    refine (Hu.out w0 Hb0.out).mono ?_
    rintro e w1 ⟨v, rfl, ⟨g, d, rfl, _, hmr⟩, hb1⟩
    have htc := triangleOf_any (some ⟨g, 0, none⟩) d m.reverse w1 Hgr.out hmr ((HD.out.next Hb0.out).next hb1)
    rw [List.length_reverse, ← HT.out] at htc
    have Htc := Lib.hid htc
    have Hb1 := Lib.hid (Hb0.out.trans (hb1.mono Hb0.out.size))
    clear htc hmr hb1 Hb0
    go_wp2_with fail
    refine Htc.out.mono ?_
    rintro e w2 ⟨v, rfl, hv, hb2⟩
    obtain ⟨ta, tc, rfl, _, _, hmt⟩ := hv.read
    obtain ⟨n, hn⟩ : ∃ n, n = T.length := ⟨_, rfl⟩
    have hnm : n = m.length := by rw [hn, HTl.out]
    rw [← hn]
    have Hmt := Lib.hid hmt
    have Hb2 := Lib.hid (Hb1.out.trans (hb2.mono Hb1.out.size))
    have Hn := Lib.hid hn
    have h6' : n ≤ 6 := by omega
    have h1' : 1 ≤ n := by omega
    clear hv hmt hb2 hn
    rw [← hnm]
    have Hnm := Lib.hid hnm
    clear hnm
    go_wp2
    go_loopw [4, 6] (fun r i wr => ∃ (k : Nat) (q : Int), k < n ∧ i = .int .i64 k ∧ r = .int .i64 q ∧ rankG T k q = rankG T (n - 1) 0 ∧ Below w2.heap.size w2 wr) (fun _ i _ => (intOf i).toNat)
    case atStart => exact ⟨n - 1, 0, by omega, by go_num, rfl, rfl, Below.refl _ _⟩
    case round =>
      obtain ⟨k, q, hk, rfl, rfl, hr, hbr⟩ := hrel
      by_cases hpos : 0 < k
      · obtain ⟨l, rfl⟩ : ∃ l, k = l + 1 := ⟨k - 1, by omega⟩
        have hmr := Hmt.out.below hbr
        obtain ⟨b, o, r1, d1, e1, hc1, hx1, _⟩ := hmr (l + 1) (by have := Hn.out; omega)
        obtain ⟨b', o', r2, d2, e2, hc2, hx2, _⟩ := hmr l (by have := Hn.out; omega)
        cases e1
        cases e2
        obtain ⟨x1, x2⟩ := HTr.out (l + 1) (by have := Hnm.out; omega)
        obtain ⟨y1, y2⟩ := HTr.out l (by have := Hnm.out; omega)
        have hstep : rankG T (l + 1) q = rankG T l (rankIn (gr T l) (above (gr T (l + 1))) q) := rfl
        rw [hstep] at hr
        obtain ⟨X, hX⟩ : ∃ X, X = gr T (l + 1) := ⟨_, rfl⟩
        obtain ⟨Y, hY⟩ : ∃ Y, Y = gr T l := ⟨_, rfl⟩
        rw [← hX] at hc1 hx1 x1 x2 hr
        rw [← hY] at hc2 hx2 y1 y2 hr
        have hset1 := setOf_any r1 d1 X wr (by omega) x1.2 hx1
        have hab := fun w' (h : Dj w') => setsAbove_any x1 x2 w' h
        have hDr := (HD.out.next Hb2.out).next hbr
        have hab1 := hab wr hDr
        obtain ⟨mx, hmx'⟩ : ∃ mx : Int, mx = (mask X : Nat) := ⟨_, rfl⟩
        rw [← hmx'] at hset1 hab1
        obtain ⟨xl, hxl⟩ : ∃ xl, xl = X.length := ⟨_, rfl⟩
        rw [← hxl] at hc1 hset1
        have Hset1 := Lib.hid hset1
        have Hab := Lib.hid hab1
        have Hx2 := Lib.hid hx2
        have Hy1 := Lib.hid y1
        have Hy2 := Lib.hid y2
        have HX := Lib.hid (And.intro x1 x2)
        have Hr := Lib.hid hr
        have Hbr := Lib.hid hbr
        have Hc2 := Lib.hid hc2
        have HDr := Lib.hid hDr
        clear hstep hset1 hab hab1 hx1 hx2 x1 x2 y1 y2 hr hbr hmr hc2 hX hY hmx' hxl hDr
        go_wp2_with fail
        refine Hset1.out.mono ?_
        rintro e w3 ⟨rfl, rfl⟩
        go_wp2_with fail
        refine Hab.out.mono ?_
        rintro e w3 ⟨v, rfl, hv, hb3⟩
        obtain ⟨sa, sc, rfl, _, _, hs⟩ := hv.read
        have hal : (above X).length ≤ 1048576 := by
          have hlen := above_len HX.out.1
          have hpow : 16 ^ (X.length - 1) ≤ 16 ^ 5 := Nat.pow_le_pow_right (by omega) (by have := HX.out.2; omega)
          omega
        obtain ⟨A, hA⟩ : ∃ A, A = above X := ⟨_, rfl⟩
        rw [← hA] at hs hal
        rw [← hA]
        have Hs := Lib.hid hs
        have Hb3 := Lib.hid hb3
        have HA := Lib.hid hA
        have hamx : A.length ≤ 9223372036854775807 := by omega
        have Hq := Lib.hid (show rankG T l (rankIn Y A q) = rankG T (n - 1) 0 by rw [HA.out]; exact Hr.out)
        clear hs hb3 hA hv
        go_wp2
        go_loopw [4, 29] (fun r i wr => ∃ (j : Nat) (z : Int), j ≤ A.length ∧ i = .int .i64 j ∧ r = .int .i64 z ∧ rankIn Y (A.drop j) z = rankIn Y A q ∧ Below w3.heap.size w3 wr) (fun _ i _ => A.length - (intOf i).toNat)
        case atStart => exact ⟨0, q, Nat.zero_le _, rfl, rfl, rfl, Below.refl _ _⟩
        case round =>
          obtain ⟨j, z, hj, rfl, rfl, hz, hbq⟩ := hrel
          have hb0 := (Hbr.out.trans (Hb3.out.mono Hbr.out.size)).trans (hbq.mono (Nat.le_trans Hbr.out.size Hb3.out.size))
          by_cases hjl : j < A.length
          · obtain ⟨bs, os, e3, hcs⟩ := Hs.out.below hbq j hjl
            cases e3
            have hstp := rankIn_step (Y := Y) hjl z
            rw [hz] at hstp
            have hmem : gr A j ∈ above X := by have := gr_mem hjl; rw [HA.out] at this ⊢; exact this
            obtain ⟨am1, am2⟩ := above_mem HX.out.1 hmem
            have am3 := above_pos HX.out.1 hmem
            have hset2 := setOf_any r2 d2 Y wr (by have := Hy2.out; omega) Hy1.out.2 ((Hx2.out.below Hb3.out).below hbq)
            have hDq := (HDr.out.next Hb3.out).next hbq
            have hcu := countUnder_any am1 am3 (by have := HX.out.2; omega) wr hDq
            have hc2q := cell_below (cell_below Hc2.out Hb3.out) hbq
            unfold sv at hcs
            obtain ⟨ma, hma⟩ : ∃ ma : Int, ma = (mask (gr A j) : Nat) := ⟨_, rfl⟩
            obtain ⟨my, hmy⟩ : ∃ my : Int, my = (mask Y : Nat) := ⟨_, rfl⟩
            obtain ⟨yl, hyl⟩ : ∃ yl, yl = Y.length := ⟨_, rfl⟩
            obtain ⟨u, hu⟩ : ∃ u, u = wrap64 (ways (gr A j)) := ⟨_, rfl⟩
            have heqv : ma = my ↔ gr A j = Y := by
              rw [hma, hmy]
              exact ⟨fun h => mask_inj am1.1 (fun x hx => (am1.2 x hx).1) Hy1.out.1 (fun x hx => (Hy1.out.2 x hx).1) (by omega), fun h => by rw [h]⟩
            rw [← hma, ← hu] at hcu
            rw [← hma] at hcs
            rw [← hmy, ← hyl] at hset2
            rw [← hyl] at hc2q
            rw [← hu] at hstp
            have Hset2 := Lib.hid hset2
            have Hcu := Lib.hid hcu
            have Hbq := Lib.hid hbq
            by_cases heq : gr A j = Y
            · rw [if_pos heq] at hstp
              have hbb : (ma == my) = true := by simpa using heqv.2 heq
              have Hst := Lib.hid (show rankG T l z = rankG T (n - 1) 0 by rw [← hstp]; exact Hq.out)
              have Hb0 := Lib.hid hb0
              clear hz hb0 hstp hmem am1 am2 am3 hset2 hDq hcu hma hmy hyl hu heqv hbq heq
              go_wp2_with fail
              refine Hset2.out.mono ?_
              rintro e w4 ⟨rfl, rfl⟩
              go_wp2
              go_roundw
              case rel => exact ⟨l, z, by omega, by go_num, rfl, Hst.out, Hb0.out⟩
              case measure => first | (simp [intOf]; done) | (simp [intOf]; omega)
            · rw [if_neg heq] at hstp
              have hbb : (ma == my) = false := by simpa using fun h => heq (heqv.1 h)
              have Hst := Lib.hid hstp
              clear hz hb0 hstp hmem am1 am2 am3 hset2 hDq hcu hma hmy hyl hu heqv hbq heq
              go_wp2_with fail
              refine Hset2.out.mono ?_
              rintro e w4 ⟨rfl, rfl⟩
              go_wp2_with fail
              refine Hcu.out.mono ?_
              rintro e w4 ⟨rfl, hb4⟩
              have Hb4 := Lib.hid (Hbq.out.trans (hb4.mono Hbq.out.size))
              clear hb4
              go_wp2
              go_roundw
              case rel => exact ⟨j + 1, _, by omega, by go_num, rfl, Hst.out.symm, Hb4.out⟩
              case measure => first | (simp [intOf]; done) | (simp [intOf]; omega)
          · obtain rfl : j = A.length := by omega
            have Hst := Lib.hid (show rankG T l z = rankG T (n - 1) 0 by
              rw [List.drop_of_length_le (Nat.le_refl _)] at hz
              rw [← Hq.out, ← hz]; rfl)
            have Hb0 := Lib.hid hb0
            clear hz hb0 hbq
            go_wp2
            go_roundw
            case rel => exact ⟨l, z, by omega, by go_num, rfl, Hst.out, Hb0.out⟩
            case measure => first | (simp [intOf]; done) | (simp [intOf]; omega)
      · obtain rfl : k = 0 := by omega
        have Hr := Lib.hid (show q = rankG T (n - 1) 0 from hr)
        have Hb0 := Lib.hid (Hb2.out.trans (hbr.mono Hb2.out.size))
        clear hr hbr
        go_wp2
        go_ret2
        exact ⟨by rw [← Hnm.out, ← Hr.out]; exact IRes.yes Hg.out, Hb0.out⟩
  · have Hg := Lib.hid hg
    have Hs := Lib.hid (implIsSign_any ao c m w hsm hwf hm)
    clear hg hsm hwf hm hD
    go_enter Tryd.func30, Tryd.ntmps30
    go_wp2_with fail
    refine Hs.out.mono ?_
    rintro e w0 ⟨ha, hb0⟩
    obtain rfl := ha.isnt Hg.out
    have Hb0 := Lib.hid hb0
    clear ha hb0
    go_wp2
    go_ret2
    exact ⟨IRes.no Hg.out, Hb0.out⟩
end Go.Proofs.YtmkldodkpijfjaaDoor

namespace Go.Proofs.YtmkldodkpijfjaaDoor
open Go.RowKit

theorem rowLess_step {xs ys : List Int} {k : Nat} (hx : k < xs.length) (hy : k < ys.length) :
    rowLess (xs.drop k) (ys.drop k) = if gi xs k = gi ys k then rowLess (xs.drop (k + 1)) (ys.drop (k + 1)) else decide (gi xs k < gi ys k) := by
  rw [List.drop_eq_getElem_cons hx, List.drop_eq_getElem_cons hy, rowLess, List.headD_cons, List.tail_cons, gi_lt hx, gi_lt hy]

set_option maxRecDepth 100000 in
set_option maxHeartbeats 400000 in
theorem trRowLess_any (a1 a2 : Option Addr) (c1 c2 : Nat) (xs ys : List Int) (w : World) (hn : xs.length ≤ 1048576) (hl : ys.length = xs.length) (h1 : IntsAt w a1 xs) (h2 : IntsAt w a2 ys) :
    Calls Tryd.prog 87 #[.slice a1 xs.length c1, .slice a2 ys.length c2] w fun e w' => e = .returned (.bool (rowLess xs ys)) ∧ w = w' := by
  have hm1 : xs.length ≤ 9223372036854775807 := by omega
  have hm2 : ys.length ≤ 9223372036854775807 := by omega
  have H1 := Lib.hid h1
  have H2 := Lib.hid h2
  have Hl := Lib.hid hl
  clear h1 h2
  go_enter Tryd.func87, Tryd.ntmps87
  go_wp2
  go_loop [9] (fun i => ∃ k : Nat, k ≤ xs.length ∧ i = .int .i64 k ∧ rowLess xs ys = rowLess (xs.drop k) (ys.drop k)) (fun i => xs.length - (intOf i).toNat)
  case atStart => exact ⟨0, Nat.zero_le _, rfl, rfl⟩
  case round =>
    obtain ⟨k, hk, rfl, hr⟩ := hrel
    by_cases hlt : k < xs.length
    · obtain ⟨b1, o1, rfl, hc1⟩ := H1.out k hlt
      obtain ⟨b2, o2, rfl, hc2⟩ := H2.out k (by omega)
      have hs := rowLess_step hlt (show k < ys.length by omega)
      by_cases e : gi xs k = gi ys k
      · rw [if_pos e] at hs
        have Hs := Lib.hid (hr.trans hs)
        rw [← e] at hc2
        obtain ⟨x, hx⟩ : ∃ x, x = gi xs k := ⟨_, rfl⟩
        rw [← hx] at hc1 hc2
        clear hx hs hr e
        go_wp2
        go_round
        case rel => exact ⟨k + 1, by omega, by go_num, Hs.out⟩
        case measure => simp [intOf]; omega
      · rw [if_neg e] at hs
        have Hs := Lib.hid (hr.trans hs)
        have hne : (gi xs k != gi ys k) = true := by simpa using e
        obtain ⟨x, hx⟩ : ∃ x, x = gi xs k := ⟨_, rfl⟩
        obtain ⟨y, hy⟩ : ∃ y, y = gi ys k := ⟨_, rfl⟩
        rw [← hx] at hc1 hne Hs
        rw [← hy] at hc2 hne Hs
        clear hx hy hs hr e
        go_wp2
        go_ret
        exact ⟨by rw [Hs.out]; rfl, rfl⟩
    · obtain rfl : k = xs.length := by omega
      have Hs := Lib.hid (show rowLess xs ys = false by rw [hr, List.drop_of_length_le (Nat.le_refl _)]; rfl)
      clear hr
      go_wp2
      go_ret
      exact ⟨by rw [Hs.out]; rfl, rfl⟩
end Go.Proofs.YtmkldodkpijfjaaDoor

namespace Go.Proofs.YtmkldodkpijfjaaDoor
open Go.RowKit

theorem takeWhile_at {α : Type} {p : α → Bool} : ∀ {L : List α} {j : Nat}, (∀ z ∈ L.take j, p z = true) → (∀ (h : j < L.length), p L[j] = false) → j ≤ L.length → L.takeWhile p = L.take j
  | [], j, _, _, hj => by obtain rfl : j = 0 := by simpa using hj
                          rfl
  | a :: r, 0, _, h2, _ => by
    have := h2 (by simp)
    simp only [List.getElem_cons_zero] at this
    simp [this]
  | a :: r, j + 1, h1, h2, hj => by
    have ha := h1 a (by simp)
    rw [List.takeWhile_cons, ha, List.take_succ_cons]
    simp only [if_true]
    rw [takeWhile_at (L := r) (j := j) (fun z hz => h1 z (by simp [hz])) (fun h => by have := h2 (by simpa using h); simpa using this) (by simpa using hj)]
/-- the rows with their values, one put in at j -/
def putAt {α : Type} (ps : List α) (j : Nat) (p : α) : List α := ps.take j ++ p :: ps.drop j
theorem putAt_map {α β : Type} (f : α → β) (ps : List α) (j : Nat) (p : α) : (putAt ps j p).map f = putAt (ps.map f) j (f p) := by simp [putAt, List.map_take, List.map_drop]
theorem putAt_len {α : Type} (ps : List α) (j : Nat) (p : α) (h : j ≤ ps.length) : (putAt ps j p).length = ps.length + 1 := by simp [putAt]; omega
theorem mem_putAt {α : Type} {ps : List α} {j : Nat} {p q : α} (h : q ∈ putAt ps j p) : q = p ∨ q ∈ ps := by
  unfold putAt at h
  simp only [List.mem_append, List.mem_cons] at h
  rcases h with h | h | h
  · exact .inr (List.mem_of_mem_take h)
  · exact .inl h
  · exact .inr (List.mem_of_mem_drop h)
theorem putIn_at {n : Nat} {s y : List Int} {L : List (List Int)} {j : Nat} (h1 : ∀ z ∈ L.take j, rowLess (stepF n s z) (stepF n s y) = true) (h2 : ∀ (h : j < L.length), rowLess (stepF n s L[j]) (stepF n s y) = false) (hj : j ≤ L.length) : putIn n s L y = putAt L j y := by
  unfold putIn putAt
  simp only
  rw [takeWhile_at h1 h2 hj, List.length_take, Nat.min_eq_left hj]
/-- a value that reads as a row, in blocks from B on -/
def RowOwnAt (w : World) (B : Nat) (u : Value) (xs : List Int) : Prop := ∃ r c, u = .slice r xs.length c ∧ IntsAt w r xs ∧ ∀ b o, r = some ⟨b, o, none⟩ → B ≤ b
theorem RowOwnAt.below {w w' : World} {B : Nat} {u : Value} {xs : List Int} (h : RowOwnAt w B u xs) (hb : Below w.heap.size w w') : RowOwnAt w' B u xs := by
  obtain ⟨r, c, e, hx, hB⟩ := h
  exact ⟨r, c, e, hx.below hb, hB⟩
end Go.Proofs.YtmkldodkpijfjaaDoor

namespace Go.Proofs.YtmkldodkpijfjaaDoor
open Go.RowKit

theorem subs_sub {s l : List Int} : s ∈ subs l → s.Sublist l := by
  induction l generalizing s with
  | nil => intro h; simp [subs] at h; subst h; exact List.Sublist.slnil
  | cons a r ih =>
    intro h
    simp only [subs, List.mem_append, List.mem_map] at h
    rcases h with ⟨t, ht, rfl⟩ | h
    · exact (ih ht).cons_cons a
    · exact (ih h).cons a
/-- the rows on are columns, one more of them, and twice the others of columns are these -/
def rowsC (n : Nat) : Bool := (subs (iota n)).all fun s => (compl n (compl n s) == s) && (nextL n s).all fun y => (subs (iota n)).contains y && (y.length == s.length + 1)
def lastC (n : Nat) : Bool := (subs (iota n)).all fun s => (s.length + 1 != n) || (nextL n s == [iota n])
set_option maxRecDepth 1000000 in
theorem rowsC_ok : rowsC 1 = true ∧ rowsC 2 = true ∧ rowsC 3 = true ∧ rowsC 4 = true ∧ rowsC 5 = true ∧ lastC 1 = true ∧ lastC 2 = true ∧ lastC 3 = true ∧ lastC 4 = true ∧ lastC 5 = true := by decide +kernel
set_option maxRecDepth 1000000 in
theorem rowsC_ok6 : rowsC 6 = true := by decide +kernel
set_option maxRecDepth 1000000 in
theorem lastC_ok6 : lastC 6 = true := by decide +kernel
theorem rowsC_all {n : Nat} (h1 : 1 ≤ n) (h6 : n ≤ 6) : rowsC n = true ∧ lastC n = true := by
  obtain ⟨a, b, c, d, e, a', b', c', d', e'⟩ := rowsC_ok
  rcases (by omega : n = 1 ∨ n = 2 ∨ n = 3 ∨ n = 4 ∨ n = 5 ∨ n = 6) with rfl | rfl | rfl | rfl | rfl | rfl
  · exact ⟨a, a'⟩
  · exact ⟨b, b'⟩
  · exact ⟨c, c'⟩
  · exact ⟨d, d'⟩
  · exact ⟨e, e'⟩
  · exact ⟨rowsC_ok6, lastC_ok6⟩
theorem compl_twice {n : Nat} (h1 : 1 ≤ n) (h6 : n ≤ 6) {s : List Int} (hs : s.Sublist (iota n)) : compl n (compl n s) = s := by
  have h := List.all_eq_true.1 (rowsC_all h1 h6).1 s (mem_subs hs)
  simp only [Bool.and_eq_true, beq_iff_eq] at h
  exact h.1
theorem next_mem {n : Nat} (h1 : 1 ≤ n) (h6 : n ≤ 6) {s : List Int} (hs : s.Sublist (iota n)) {y : List Int} (hy : y ∈ nextL n s) : y.Sublist (iota n) ∧ y.length = s.length + 1 := by
  have h := List.all_eq_true.1 (rowsC_all h1 h6).1 s (mem_subs hs)
  simp only [Bool.and_eq_true] at h
  have h2 := List.all_eq_true.1 h.2 y hy
  simp only [Bool.and_eq_true, beq_iff_eq] at h2
  exact ⟨subs_sub (by simpa using h2.1), h2.2⟩
theorem next_last {n : Nat} (h1 : 1 ≤ n) (h6 : n ≤ 6) {s : List Int} (hs : s.Sublist (iota n)) (hl : s.length + 1 = n) : nextL n s = [iota n] := by
  have h := List.all_eq_true.1 (rowsC_all h1 h6).2 s (mem_subs hs)
  simp only [Bool.or_eq_true, bne_iff_ne, beq_iff_eq] at h
  rcases h with h | h
  · exact absurd hl h
  · exact h
theorem putIn_perm (n : Nat) (s : List Int) (L : List (List Int)) (y : List Int) : (putIn n s L y).Perm (y :: L) := by
  unfold putIn
  simp only
  obtain ⟨t, ht⟩ := List.takeWhile_prefix (l := L) (fun z => rowLess (stepF n s z) (stepF n s y))
  obtain ⟨p, hp⟩ : ∃ p, p = L.takeWhile fun z => rowLess (stepF n s z) (stepF n s y) := ⟨_, rfl⟩
  rw [← hp] at ht ⊢
  rw [← ht, List.drop_left]
  exact List.perm_middle
theorem next_perm_at (n : Nat) (s : List Int) : ∀ (A L : List (List Int)), (A.foldl (putIn n s) L).Perm (A ++ L)
  | [], _ => List.Perm.refl _
  | y :: A, L => by
    rw [List.foldl_cons]
    exact (next_perm_at n s A _).trans ((List.Perm.append_left A (putIn_perm n s L y)).trans List.perm_middle)
theorem next_perm (n : Nat) (s : List Int) : (nextL n s).Perm (behind n s) := by
  have h := next_perm_at n s (behind n s) []
  rwa [List.append_nil] at h
theorem next_len {n : Nat} (hn : n ≤ 6) {s : List Int} (h : ColsN n s) (hl : s.length ≤ 6) : (nextL n s).length ≤ 1048576 := by
  rw [(next_perm n s).length_eq]
  exact behind_len hn h hl
theorem next_cols {n : Nat} {s : List Int} (h : ColsN n s) {y : List Int} (hy : y ∈ nextL n s) : ColsN n y ∧ y.length = s.length + 1 := behind_mem h ((next_perm n s).mem_iff.1 hy)
theorem triRow_cols (m : List (List Int)) (k : Nat) : ColsN m.length (triRow m k) := ⟨colsF_up _ _, fun x hx => by
  obtain ⟨j, rfl, hj, _⟩ := mem_colsF.1 hx
  omega⟩
/-- the ways on from the rows before Y -/
def rankB (n : Nat) (Y : List Int) : List (List Int) → Int → Int
  | [], r => r
  | y :: L, r => if y = Y then r else rankB n Y L (wrap64 (r + wrap64 (waysB n y)))
theorem rankB_step {n : Nat} {Y : List Int} {L : List (List Int)} {k : Nat} (h : k < L.length) (r : Int) : rankB n Y (L.drop k) r = if gr L k = Y then r else rankB n Y (L.drop (k + 1)) (wrap64 (r + wrap64 (waysB n (gr L k)))) := by
  rw [List.drop_eq_getElem_cons h, rankB, gr_lt h]
theorem rankB_compl {n : Nat} (h1 : 1 ≤ n) (h6 : n ≤ 6) {Y : List Int} (hY : Y.Sublist (iota n)) : ∀ (L : List (List Int)) (r : Int), (∀ y ∈ L, y.Sublist (iota n) ∧ y.length < n) → rankIn (compl n Y) (L.map (compl n)) r = rankB n Y L r
  | [], _, _ => rfl
  | y :: L, r, h => by
    obtain ⟨ha, hb⟩ := h y (by simp)
    rw [List.map_cons, rankIn, rankB, ways_compl h1 h6 ha hb, rankB_compl h1 h6 hY L _ (fun z hz => h z (by simp [hz]))]
    by_cases e : y = Y
    · subst e
      simp
    · have hne : compl n y ≠ compl n Y := fun he => e (by rw [← compl_twice h1 h6 ha, he, compl_twice h1 h6 hY])
      rw [if_neg hne, if_neg e]
theorem colsF_sub (n : Nat) (f : Nat → Bool) : (colsF n f).Sublist (iota n) := by
  unfold colsF iota rng
  have e : ((n : Int) - 1 - 0 + 1).toNat = n := by omega
  rw [e]
  have h := (List.filter_sublist (p := f) (l := List.range n)).map (fun j : Nat => (j : Int))
  have e2 : (List.range n).map (fun i : Nat => (0 : Int) + (i : Int)) = (List.range n).map (fun j : Nat => (j : Int)) := List.map_congr_left fun i _ => by simp
  rw [e2]
  exact h
/-- the sum over the first t columns -/
def colS (m : List (List Int)) (k : Nat) : Nat → Int
  | 0 => 0
  | t + 1 => colS m k t + colR m t k
theorem colS_zero (m : List (List Int)) : ∀ t, colS m 0 t = 0
  | 0 => rfl
  | t + 1 => by simp [colS, colS_zero m t, colR]
theorem colS_succ (m : List (List Int)) (k : Nat) : ∀ t, colS m (k + 1) t = colS m k t + sumK (gr m k) t
  | 0 => rfl
  | t + 1 => by
    have h := colS_succ m k t
    simp only [colS, sumK, colR]
    omega
theorem colsF_count {m : List (List Int)} (h : good m) {k : Nat} (hk : k ≤ m.length) : ∀ t, t ≤ m.length → ((colsF t fun j => decide (colR m j k = 1)).length : Int) = colS m k t
  | 0, _ => rfl
  | t + 1, ht => by
    rw [colsF_succ, List.length_append]
    have ih := colsF_count h hk t (by omega)
    obtain ⟨a, b⟩ := colR_01 h (j := t) (k := k) (by omega) hk
    simp only [colS]
    by_cases e : colR m t k = 1
    · simp [e, ih]
    · have : colR m t k = 0 := by omega
      simp [this, ih]
theorem colS_good {m : List (List Int)} (h : good m) : ∀ k, k ≤ m.length → colS m k m.length = (k : Int)
  | 0, _ => colS_zero m _
  | k + 1, hk => by
    rw [colS_succ, colS_good h k (by omega)]
    have h2 := h.2.1 k (by omega)
    have h3 := h2.2
    rw [h.1.2.2 k (by omega)] at h3
    rw [h3]
    omega
theorem triRow_len {m : List (List Int)} (h : good m) {k : Nat} (hk : k ≤ m.length) : (triRow m k).length = k := by
  have h1 := colsF_count h hk m.length (Nat.le_refl _)
  rw [colS_good h k hk] at h1
  unfold triRow
  omega
theorem triRow_sub (m : List (List Int)) (k : Nat) : (triRow m k).Sublist (iota m.length) := colsF_sub _ _
theorem triRow_zero (m : List (List Int)) : triRow m 0 = [] := by
  have : ∀ x, x ∉ triRow m 0 := fun x hx => by
    obtain ⟨j, _, _, h⟩ := mem_colsF.1 hx
    simp [colR] at h
  exact List.eq_nil_iff_forall_not_mem.2 this
theorem triRow_all {m : List (List Int)} (h : good m) : triRow m m.length = iota m.length := (triRow_sub m m.length).eq_of_length (by rw [triRow_len h (Nat.le_refl _), iota_len])
/-- the rank behind k rows -/
def rankUp (m : List (List Int)) : Nat → Int
  | 0 => 0
  | k + 1 => rankB m.length (triRow m (k + 1)) (nextL m.length (triRow m k)) (rankUp m k)
theorem rankUp_G {m : List (List Int)} (h : good m) : ∀ k, k + 1 ≤ m.length → rankG (triM m.reverse) (m.length - 1 - k) (rankUp m k) = rankG (triM m.reverse) (m.length - 1) 0
  | 0, _ => rfl
  | k + 1, hk => by
    have ih := rankUp_G h k (by omega)
    have h1 := h.1.1
    have h6 := h.1.2.1
    rw [← ih, show m.length - 1 - k = (m.length - 1 - (k + 1)) + 1 from by omega, rankG]
    rw [gr_triM_reverse h (by omega), gr_triM_reverse h (by omega)]
    rw [show m.length - (m.length - 1 - (k + 1) + 1) = k + 1 from by omega, show m.length - (m.length - 1 - (k + 1) + 1 + 1) = k from by omega]
    have hl := triRow_len h (show k ≤ m.length by omega)
    rw [← chain_at h1 h6 (triRow_sub m k) (by omega), rankB_compl h1 h6 (triRow_sub m (k + 1)) _ _ (fun y hy => by
      have := next_mem h1 h6 (triRow_sub m k) hy
      exact ⟨this.1, by omega⟩)]
    rfl
/-- both ranks are the same -/
theorem rankUp_end {m : List (List Int)} (h : good m) : rankUp m m.length = rankG (triM m.reverse) (m.length - 1) 0 := by
  have h1 := h.1.1
  have h6 := h.1.2.1
  have h2 := rankUp_G h (m.length - 1) (by omega)
  rw [Nat.sub_self] at h2
  rw [← h2]
  obtain ⟨n, hn⟩ : ∃ n, m.length = n + 1 := ⟨m.length - 1, by omega⟩
  have hl := triRow_len h (show n ≤ m.length by omega)
  have e := next_last h1 h6 (triRow_sub m n) (by omega)
  have e2 := triRow_all h
  rw [hn] at e e2 ⊢
  rw [Nat.add_sub_cancel]
  simp only [rankUp, rankG]
  rw [hn, e, e2, rankB, if_pos rfl]
end Go.Proofs.YtmkldodkpijfjaaDoor

namespace Go.Proofs.YtmkldodkpijfjaaDoor
open Go.RowKit

theorem up_of_pw : ∀ {l : List Int}, l.Pairwise (· < ·) → Up l
  | [], _ => trivial
  | [_], _ => trivial
  | _ :: b :: _, h => ⟨(List.pairwise_cons.1 h).1 b (by simp), up_of_pw (List.pairwise_cons.1 h).2⟩
theorem sub_up {n : Nat} {s : List Int} (h : s.Sublist (iota n)) : Up s := by
  refine up_of_pw (List.Pairwise.sublist h ?_)
  unfold iota rng
  rw [List.pairwise_map]
  exact List.pairwise_lt_range.imp (fun h => by omega)
theorem sub_cols {n : Nat} {s : List Int} (h : s.Sublist (iota n)) : ∀ x ∈ s, 0 ≤ x ∧ x < (n : Int) := fun x hx => by
  have := h.subset hx
  unfold iota at this
  rw [mem_rng] at this
  omega
theorem sub_colsN {n : Nat} {s : List Int} (h : s.Sublist (iota n)) : ColsN n s := ⟨sub_up h, sub_cols h⟩
theorem sub_len {n : Nat} {s : List Int} (h : s.Sublist (iota n)) : s.length ≤ n := by
  have := h.length_le
  rwa [iota_len] at this
end Go.Proofs.YtmkldodkpijfjaaDoor

namespace Go.Proofs.YtmkldodkpijfjaaDoor
open Go.RowKit

/-- the sum of the numbers in the first a rows and b columns -/
def S2 (m : List (List Int)) (a b : Nat) : Int := sumF (fun i => sumF (fun j => gi (gr m i) j) b) a
/-- corner sums -/
def cs (m : List (List Int)) : List (List Int) := tab m.length m.length fun i j => S2 m (i + 1) (j + 1)
theorem cs_len (m : List (List Int)) : (cs m).length = m.length := tab_len _ _ _
theorem S2_succ (m : List (List Int)) (a b : Nat) : S2 m (a + 1) b = S2 m a b + sumF (fun j => gi (gr m a) j) b := rfl
theorem bsum_take {m : List (List Int)} {a b : Nat} (ha : a ≤ m.length) : bsum (m.take a) b = S2 m a b := by
  unfold bsum S2
  rw [show (m.take a).length = a from by rw [List.length_take]; omega]
  exact sumF_congr fun i hi => by rw [gr_take hi]

theorem good.tame {m : List (List Int)} (h : good m) {cols : Nat} (hc : cols ≤ m.length) : Tame m cols := by
  have hn := h.1.2.1
  have h1 := h.1.1
  refine ⟨hn, by omega, fun i hi => ?_⟩
  have hl := h.1.2.2 i hi
  refine ⟨by omega, by omega, by omega, fun j hj => good_entry h hi (by omega)⟩
theorem Tame.take {m : List (List Int)} {cols : Nat} (h : Tame m cols) (k : Nat) : Tame (m.take k) cols := by
  refine ⟨by rw [List.length_take]; have := h.1; omega, h.2.1, fun i hi => ?_⟩
  rw [List.length_take] at hi
  rw [gr_take (by omega)]
  exact h.2.2 i (by omega)
theorem Tame.drop {m : List (List Int)} {cols : Nat} (h : Tame m cols) (k : Nat) : Tame (m.drop k) cols := by
  refine ⟨by rw [List.length_drop]; have := h.1; omega, h.2.1, fun i hi => ?_⟩
  rw [List.length_drop] at hi
  rw [gr_drop]
  exact h.2.2 (k + i) (by omega)

theorem S2_bound {m : List (List Int)} (h : good m) {a b : Nat} (ha : a ≤ m.length) (hb : b ≤ m.length) : -36 ≤ S2 m a b ∧ S2 m a b ≤ 36 := block_bound (h.tame hb) ha

end Go.Proofs.YtmkldodkpijfjaaDoor

namespace Go.Proofs.YtmkldodkpijfjaaDoor
open Go.RowKit

/-- rows of columns -/
def colsOk (t : List (List Int)) : Prop := 1 ≤ t.length ∧ t.length ≤ 6 ∧ ∀ i, i < t.length → (gr t i).length ≤ 6 ∧ ∀ k, k < (gr t i).length → 0 ≤ gi (gr t i) k ∧ gi (gr t i) k < t.length
theorem fullTri.cols {t : List (List Int)} (h : fullTri t) : colsOk t := ⟨h.1.1, h.1.2.1, fun i hi => ⟨by have := (h.1.2.2 i hi).1; have := h.1.2.1; omega, fun k hk => full_lt h hi hk⟩⟩

/-- the numbers behind k rows -/
def soF (t : List (List Int)) (k a b : Nat) : Int := (if a < k then occ (gr t a) b (gr t a).length else 0) - (if 0 < a ∧ a ≤ k then occ (gr t (a - 1)) b (gr t (a - 1)).length else 0)
theorem soF_zero (t : List (List Int)) (a b : Nat) : soF t 0 a b = 0 := by
  unfold soF
  rw [if_neg (by omega), if_neg (by omega)]
  rfl
theorem soF_full {t : List (List Int)} {a : Nat} (b : Nat) (ha : a < t.length) : soF t t.length a b = signAt t a b := by
  unfold soF signAt
  rw [if_pos ha]
  by_cases h : 0 < a
  · rw [if_pos ⟨h, by omega⟩, if_pos h]
  · rw [if_neg (by omega), if_neg h]
def soG (t : List (List Int)) (k u a b : Nat) : Int := soF t k a b + (if a = k then occ (gr t k) b u else 0) - (if a = k + 1 then occ (gr t k) b u else 0)
theorem soG_zero (t : List (List Int)) (k a b : Nat) : soG t k 0 a b = soF t k a b := by unfold soG; simp [occ]
theorem soG_full (t : List (List Int)) (k a b : Nat) : soG t k (gr t k).length a b = soF t (k + 1) a b := by
  unfold soG soF
  by_cases h1 : a = k
  · subst h1
    rw [if_neg (show ¬ a < a by omega), if_pos rfl, if_neg (show ¬ a = a + 1 by omega), if_pos (show a < a + 1 by omega)]
    by_cases h0 : 0 < a
    · rw [if_pos ⟨h0, by omega⟩, if_pos ⟨h0, by omega⟩]; omega
    · rw [if_neg (by omega), if_neg (by omega)]; omega
  · rw [if_neg h1]
    by_cases h2 : a = k + 1
    · subst h2
      rw [if_neg (by omega), if_neg (by omega), if_pos rfl, if_neg (by omega), if_pos (by omega)]
      rw [show k + 1 - 1 = k from rfl]
      omega
    · rw [if_neg h2]
      have e1 : (a < k + 1) = (a < k) := propext (by omega)
      have e2 : (0 < a ∧ a ≤ k + 1) = (0 < a ∧ a ≤ k) := propext (by omega)
      simp only [e1, e2]
      omega
theorem soG_bd {t : List (List Int)} (h : colsOk t) {k u a b : Nat} (hk : k < t.length) (hu : u ≤ (gr t k).length) (ha : a < t.length) : -100 ≤ soG t k u a b ∧ soG t k u a b ≤ 100 := by
  have h1 := occ_bd (gr t a) b (gr t a).length
  have h2 := occ_bd (gr t (a - 1)) b (gr t (a - 1)).length
  have h3 := occ_bd (gr t k) b u
  have h4 := (h.2.2 a ha).1
  have h5 := (h.2.2 (a - 1) (by omega)).1
  have h6 := (h.2.2 k hk).1
  unfold soG soF
  repeat' split
  all_goals omega
theorem soG_step {t : List (List Int)} (k u a b J : Nat) (hJ : gi (gr t k) u = (J : Int)) : soG t k (u + 1) a b = if a = k ∧ b = J then soG t k u a b + 1 else if a = k + 1 ∧ b = J then soG t k u a b - 1 else soG t k u a b := by
  unfold soG
  simp only [occ, hJ]
  by_cases hb : b = J
  · subst hb
    simp only [if_true, and_true]
    by_cases h1 : a = k
    · subst h1; simp; omega
    · by_cases h2 : a = k + 1
      · subst h2; simp; omega
      · simp [h1, h2]
  · have hb2 : ¬ ((J : Int) = (b : Int)) := fun e => hb (by omega)
    simp [hb, hb2]

def fromTab (t : List (List Int)) : List (List Int) := tab t.length t.length (signAt t)
theorem fromTab_len (t : List (List Int)) : (fromTab t).length = t.length := tab_len _ _ _
theorem fromTab_small {t : List (List Int)} (h : t.length ≤ 6) : Small (fromTab t) := ⟨by rw [fromTab_len]; omega, fun i hi => by rw [fromTab_len] at hi; unfold fromTab; rw [tab_row hi]; omega⟩

set_option maxRecDepth 100000 in
set_option maxHeartbeats 1600000 in
theorem signsOf_any (ao : Option Addr) (c : Nat) (m : List (List Int)) (w : World) (hco : colsOk m) (hm : MatAt w ao m) :
    Calls Tryd.prog 69 #[.slice ao m.length c] w fun e w' => ∃ v, e = .returned v ∧ OwnM w' w.heap.size v (fromTab m) ∧ Below w.heap.size w w' := by
  have hn := hco.2.1
  have hmx : m.length ≤ 9223372036854775807 := by omega
  have Hco := Lib.hid hco
  have Hm := Lib.hid hm
  clear hco hm
  go_enter Tryd.func69, Tryd.ntmps69
  go_wp2_with fail
  refine (newGrid_any m.length w (by omega)).mono ?_
  rintro e w1 ⟨vs, rfl, hv, hb⟩
  have Hv := Lib.hid hv
  have Hb := Lib.hid hb
  clear hv hb
  go_wp2
  go_loopw [13] (fun i wr => ∃ (k : Nat) (f : Nat → Nat → Int), k ≤ m.length ∧ i = .int .i64 k ∧ OwnP wr w.heap.size (.slice (some ⟨w.heap.size, 0, none⟩) m.length m.length) m.length (tab m.length m.length f) m.length vs ∧
      (∀ a b, a < m.length → b < m.length → f a b = soF m k a b) ∧ Below w.heap.size w wr) (fun i _ => m.length - (intOf i).toNat)
  case atStart => exact ⟨0, _, Nat.zero_le _, rfl, Hv.out, fun a b _ _ => (soF_zero m a b).symm, Hb.out⟩
  case round =>
    obtain ⟨k, f, hk, rfl, hown, heq, hbr⟩ := hrel
    obtain ⟨wo, rfl⟩ : ∃ wo : World, wo = wr := ⟨_, rfl⟩
    clear Hv Hb
    by_cases hlt : k < m.length
    · obtain ⟨b1, o1, r1, d1, e0, hc0, hx1, _, _⟩ := Hm.out k hlt
      have hr6 := (Hco.out.2.2 k hlt).1
      have hrx : (gr m k).length ≤ 9223372036854775807 := by omega
      have hc1 := cell_below hc0 hbr
      subst e0
      have Hrow := Lib.hid hx1
      have Hown := Lib.hid hown
      have Heq := Lib.hid heq
      have Hbr := Lib.hid hbr
      clear hown heq hbr hx1 hc0
      go_wp2
      go_loopw [20] (fun i wr => ∃ (u : Nat) (f : Nat → Nat → Int), u ≤ (gr m k).length ∧ i = .int .i64 u ∧ OwnP wr w.heap.size (.slice (some ⟨w.heap.size, 0, none⟩) m.length m.length) m.length (tab m.length m.length f) m.length vs ∧
          (∀ a b, a < m.length → b < m.length → f a b = soG m k u a b) ∧ Below w.heap.size w wr) (fun i _ => (gr m k).length - (intOf i).toNat)
      case atStart => exact ⟨0, f, Nat.zero_le _, rfl, Hown.out, fun a b ha hb => by rw [Heq.out a b ha hb, soG_zero], Hbr.out⟩
      case round =>
        obtain ⟨u, f, hu, rfl, hown, heq, hbi⟩ := hrel
        clear Hown Heq
        by_cases hul : u < (gr m k).length
        · obtain ⟨b2, o2, e2, hc2⟩ := Hrow.out.below hbi u hul
          have hcol := (Hco.out.2.2 k hlt).2 u hul
          obtain ⟨J, hJ⟩ : ∃ J : Nat, gi (gr m k) u = (J : Int) := ⟨(gi (gr m k) u).toNat, by omega⟩
          rw [hJ] at hc2 hcol
          have hJn : J < m.length := by omega
          have HJ := Lib.hid hJ
          clear hcol hJ
          have hd := hown.cellAt k hlt
          obtain ⟨g, cap, hvs, hd2, hf2, hg, hst⟩ := hown.at2 hlt hJn
          rw [hvs] at hd
          have hfb := soG_bd Hco.out (b := J) hlt hu hlt
          rw [← heq k J hlt hJn] at hfb
          have hst1 := hst (f k J + 1)
          have hbs := hbi.setCell (p := ⟨g, J, none⟩) hg (.int .i64 (f k J + 1))
          by_cases hk1 : k + 1 < m.length
          · have hd' := hst1.cellAt (k + 1) hk1
            obtain ⟨g', cap', hvs', hd2', hf2', hg', hst'⟩ := hst1.at2 hk1 hJn
            rw [hvs'] at hd'
            rw [if_neg (by omega)] at hd2'
            have hfb' := soG_bd Hco.out (b := J) hlt hu hk1
            rw [← heq (k + 1) J hk1 hJn] at hfb'
            have Hst := Lib.hid (hst' (f (k + 1) J - 1))
            have Hbs := Lib.hid (hbs.setCell (p := ⟨g', J, none⟩) hg' (.int .i64 (f (k + 1) J - 1)))
            have Heq := Lib.hid heq
            subst e2
            clear hown heq hbi hvs hst hg hst1 hbs hvs' hst' hg'
            go_wp2
            go_roundw
            case rel =>
              refine ⟨u + 1, _, by omega, by go_num, Hst.out, fun a b ha hb => ?_, Hbs.out⟩
              rw [soG_step k u a b J HJ.out]
              by_cases h2 : a = k + 1 ∧ b = J
              · obtain ⟨rfl, rfl⟩ := h2
                rw [if_pos ⟨rfl, rfl⟩, if_neg (by omega), if_pos ⟨rfl, rfl⟩, Heq.out _ _ ha hb]
              · rw [if_neg h2]
                by_cases h1 : a = k ∧ b = J
                · obtain ⟨rfl, rfl⟩ := h1
                  rw [if_pos ⟨rfl, rfl⟩, if_pos ⟨rfl, rfl⟩, Heq.out _ _ ha hb]
                · rw [if_neg h1, if_neg h1, if_neg h2, Heq.out _ _ ha hb]
            case measure => simp [intOf]; omega
          · have Hst := Lib.hid hst1
            have Hbs := Lib.hid hbs
            have Heq := Lib.hid heq
            have hk2 : ¬ ((k : Int) + 1 < (m.length : Int)) := by omega
            subst e2
            clear hown heq hbi hvs hst hg hst1 hbs
            go_wp2
            go_roundw
            case rel =>
              refine ⟨u + 1, _, by omega, by go_num, Hst.out, fun a b ha hb => ?_, Hbs.out⟩
              rw [soG_step k u a b J HJ.out]
              by_cases h1 : a = k ∧ b = J
              · obtain ⟨rfl, rfl⟩ := h1
                rw [if_pos ⟨rfl, rfl⟩, if_pos ⟨rfl, rfl⟩, Heq.out _ _ ha hb]
              · rw [if_neg h1, if_neg h1, if_neg (fun h => by omega), Heq.out _ _ ha hb]
            case measure => simp [intOf]; omega
        · obtain rfl : u = (gr m k).length := by omega
          have Hown := Lib.hid hown
          have Heq := Lib.hid heq
          have Hbi := Lib.hid hbi
          clear hown heq hbi
          go_wp2
          go_roundw
          case rel => exact ⟨k + 1, f, by omega, by go_num, Hown.out, fun a b ha hb => by rw [Heq.out a b ha hb, soG_full], Hbi.out⟩
          case measure => simp [intOf]; omega
    · obtain rfl : k = m.length := by omega
      go_wp2
      go_ret
      refine ⟨_, rfl, ⟨vs, ?_⟩, hbr⟩
      rw [fromTab_len]
      have e : fromTab m = tab m.length m.length f := eq_tab (fromTab_len m) (fun i hi => tab_row hi) (fun i j hi hj => by unfold fromTab; rw [gi_tab hi hj, heq i j hi hj, soF_full j hi])
      rw [e]
      exact hown

/-- the model's numbers behind k rows, and within one -/
def tfF (t : List (List Int)) (k a b : Nat) : Int := if a < k then signAt t a b else 0
def tfG (t : List (List Int)) (k u a b : Nat) : Int := if a = k then occ (gr t k) b u else tfF t k a b
def tfH (t : List (List Int)) (k u a b : Nat) : Int := if a = k then occ (gr t k) b (gr t k).length - occ (gr t (k - 1)) b u else tfF t k a b
theorem tfG_zero (t : List (List Int)) (k a b : Nat) : tfG t k 0 a b = tfF t k a b := by
  unfold tfG tfF
  split
  · next h => subst h; rw [if_neg (by omega)]; rfl
  · rfl
theorem tfH_zero (t : List (List Int)) (k a b : Nat) : tfH t k 0 a b = tfG t k (gr t k).length a b := by
  unfold tfG tfH
  split
  · simp [occ]
  · rfl
theorem tfH_full (t : List (List Int)) {k : Nat} (a b : Nat) (hk : 0 < k) : tfH t k (gr t (k - 1)).length a b = tfF t (k + 1) a b := by
  unfold tfH tfF signAt
  by_cases h : a = k
  · subst h; rw [if_pos rfl, if_pos (by omega), if_pos hk]
  · rw [if_neg h]
    have e : (a < k + 1) = (a < k) := propext (by omega)
    simp only [e]
theorem tfG_full (t : List (List Int)) (a b : Nat) : tfG t 0 (gr t 0).length a b = tfF t 1 a b := by
  unfold tfG tfF signAt
  by_cases h : a = 0
  · subst h; simp
  · rw [if_neg h, if_neg (by omega), if_neg (by omega)]
theorem tfG_step {t : List (List Int)} (k u a b J : Nat) (hJ : gi (gr t k) u = (J : Int)) : tfG t k (u + 1) a b = if a = k ∧ b = J then tfG t k u a b + 1 else tfG t k u a b := by
  unfold tfG
  simp only [occ, hJ]
  by_cases hb : b = J
  · subst hb; by_cases h1 : a = k <;> simp [h1]
  · have hb2 : ¬ ((J : Int) = (b : Int)) := fun e => hb (by omega)
    simp [hb, hb2]
theorem tfH_step {t : List (List Int)} (k u a b J : Nat) (hJ : gi (gr t (k - 1)) u = (J : Int)) : tfH t k (u + 1) a b = if a = k ∧ b = J then tfH t k u a b - 1 else tfH t k u a b := by
  unfold tfH
  simp only [occ, hJ]
  by_cases hb : b = J
  · subst hb
    by_cases h1 : a = k
    · simp [h1]; omega
    · simp [h1]
  · have hb2 : ¬ ((J : Int) = (b : Int)) := fun e => hb (by omega)
    simp [hb, hb2]
theorem tf_bd {t : List (List Int)} (h : colsOk t) {k u b : Nat} (hk : k < t.length) (hu : u ≤ 6) : (-100 ≤ tfG t k u k b ∧ tfG t k u k b ≤ 100) ∧ -100 ≤ tfH t k u k b ∧ tfH t k u k b ≤ 100 := by
  have h1 := occ_bd (gr t k) b (gr t k).length
  have h2 := occ_bd (gr t (k - 1)) b u
  have h3 := occ_bd (gr t k) b u
  have h4 := (h.2.2 k hk).1
  unfold tfG tfH
  simp only [if_true]
  omega

end Go.Proofs.YtmkldodkpijfjaaDoor

