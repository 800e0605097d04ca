/- Contracts of the model: the heights of a sign matrix; the table of numbers that heights leave. -/
import Derived.Test.YtopamhcnbocfoaaHtM
namespace Go.Proofs.Ytopamhcnbocfoaa
open Go.RowKit

theorem cs_square {m : List (List Int)} (h : square m) : square (cs m) := ⟨by rw [cs_len]; exact h.1, by rw [cs_len]; exact h.2.1, fun i hi => by rw [cs_len] at hi ⊢; exact tab_row hi⟩
theorem atC_cs {m : List (List Int)} {i j : Nat} (hi : i ≤ m.length) (hj : j ≤ m.length) : atC (cs m) ((i : Int) - 1) ((j : Int) - 1) = S2 m i j := by
  unfold atC
  by_cases h1 : i = 0
  · subst h1; rw [if_pos (by omega)]; rfl
  · rw [if_neg (by omega)]
    by_cases h2 : j = 0
    · subst h2; rw [if_pos (by omega), S2_zero_col]
    · rw [if_neg (by omega), show ((i : Int) - 1).toNat = i - 1 from by omega, show ((j : Int) - 1).toNat = j - 1 from by omega]
      unfold cs
      rw [gi_tab (by omega) (by omega), show i - 1 + 1 = i from by omega, show j - 1 + 1 = j from by omega]

/-- the first t numbers of a row given by a function -/
def rowF (g : Nat → Int) (t : Nat) : List Int := (List.range t).map g
theorem rowF_len (g : Nat → Int) (t : Nat) : (rowF g t).length = t := by simp [rowF]
theorem rowF_succ (g : Nat → Int) (t : Nat) : rowF g (t + 1) = rowF g t ++ [g t] := by simp [rowF, List.range_succ]
theorem rowF_tab {n c : Nat} {f : Nat → Nat → Int} {k : Nat} (h : k < n) : rowF (fun j => f k j) c = gr (tab n c f) k := by rw [gr_tab h]; rfl

set_option maxRecDepth 100000 in
set_option maxHeartbeats 1600000 in
theorem heOf_any (ao : Option Addr) (c : Nat) (m : List (List Int)) (w : World) (hg : good m) (hm : MatAt w ao m) :
    Calls Try.prog 52 #[.slice ao m.length c] w fun e w' => ∃ v, e = .returned v ∧ OwnM w' w.heap.size v (ht m) ∧ Below w.heap.size w w' := by
  obtain ⟨i0, hi, hz0, hz1, hz2⟩ := info_parts Try.info_int
  obtain ⟨j0, hj, hy0, hy1, hy2⟩ := info_parts Try.info_ints
  have hn := hg.1.2.1
  have hn1 := hg.1.1
  have hmx : m.length ≤ 9223372036854775807 := by omega
  have Hg := Lib.hid hg
  have Hm := Lib.hid hm
  clear hg hm
  go_enter Try.func52, Try.ntmps52
  go_wp2_with fail
  refine (sgCorners_any ao c m w Hg.out Hm.out).mono ?_
  rintro e w1 ⟨v, rfl, hv, hb⟩
  obtain ⟨ca, cc, rfl, _, _, hcm⟩ := hv.read
  rw [cs_len]
  have HC := Lib.hid hcm
  have Hb := Lib.hid hb
  have hB0 := hb.size
  clear hv hcm hb
  go_wp2
  go_loopw [4, 5] (fun out i wr => ∃ (k : Nat) (vs : List Value), k ≤ m.length + 1 ∧ i = .int .i64 k ∧ OwnP wr w1.heap.size out k (ht m) k vs ∧ Below w1.heap.size w1 wr) (fun _ i _ => m.length + 1 - (intOf i).toNat)
  case atStart => exact ⟨0, [], Nat.zero_le _, rfl, ⟨World.ownsRow_nil _ _ _ _, fun i hi => absurd hi (by omega), fun i j _ hj => absurd hj (by omega)⟩, Below.refl _ _⟩
  case round =>
    obtain ⟨k, vs, hk, rfl, hout, hbr⟩ := hrel
    obtain ⟨wo, rfl⟩ : ∃ wo : World, wo = wr := ⟨_, rfl⟩
    by_cases hlt : k < m.length + 1
    · have hle : (k : Int) ≤ (m.length : Int) := by omega
      have Hout := Lib.hid hout
      have Hbr := Lib.hid hbr
      have hB := hbr.size
      clear hout hbr
      go_wp2
      go_loopw [6, 7] (fun row i wr => ∃ t : Nat, t ≤ m.length + 1 ∧ i = .int .i64 t ∧ OwnI wr wo.heap.size row (rowF (fun j => hOf (S2 m) k j) t) ∧ Below wo.heap.size wo wr) (fun _ i _ => m.length + 1 - (intOf i).toNat)
      case atStart => exact ⟨0, Nat.zero_le _, by go_num, OwnI.nil _ _, Below.refl _ _⟩
      case round =>
        obtain ⟨t, ht, rfl, hrow, hbi⟩ := hrel
        by_cases htl : t < m.length + 1
        · have htle : (t : Int) ≤ (m.length : Int) := by omega
          have hB2 := hbi.size
          have hcall := sgAt_any ca cc (cs m) ((k : Int) - 1) ((t : Int) - 1) wr (cs_square Hg.out.1) (by rw [cs_len]; omega) (by rw [cs_len]; omega) ((HC.out.below Hbr.out).below (hbi.mono (by omega)))
          rw [atC_cs (by omega) (by omega), cs_len] at hcall
          have hsb := S2_bound Hg.out (show k ≤ m.length by omega) (show t ≤ m.length by omega)
          have hval : hOf (S2 m) k t = (k : Int) + t - 2 * S2 m k t := rfl
          generalize hs : S2 m k t = s at hcall hsb hval
          have Hcall := Lib.hid hcall
          have Hval := Lib.hid hval
          have Hbi := Lib.hid hbi
          have Hrow := Lib.hid hrow
          clear hbi hrow hcall hval hs
          go_wp2_with fail
          refine Hcall.out.mono ?_
          rintro e w2 ⟨rfl, rfl⟩
          go_wp2_with (at_builtin; refine wpList_append_own _ rfl _ _ 41 rfl wo.heap.size 3 i0 (.int .i64 0) 1 8 Try.underlying41 hi hz0 hz1 hz2 rfl (by decide) _ _ _ rfl (World.ownsRow.alloc Hrow.out _) ⟨w2.heap.size, 0, none⟩ 1 1 [.int .i64 ((k : Int) + t - 2 * s)] rfl rfl ?c1 ?c2 ?c3 ?c4 ?c5 ?_)
          case c1 => exact cell_one_new _ _ _
          case c2 => intro u hu; simp at hu; subst hu; rfl
          case c3 => unfold maxLen; rw [rowF_len]; omega
          case c4 => rw [rowF_len]; omega
          case c5 => simp; omega
          intro v' w3 hown' hgrow _
          obtain ⟨hr2, hb2⟩ := Hrow.out.snoc hB2 hown' hgrow
          rw [← Hval.out, ← rowF_succ (fun j => hOf (S2 m) k j)] at hr2
          have Hr2 := Lib.hid hr2
          have Hb2 := Lib.hid hb2
          clear hown' hgrow hr2 hb2
          go_wp2
          go_roundw
          case rel => exact ⟨t + 1, by omega, by go_num, Hr2.out, Hbi.out.trans Hb2.out⟩
          case measure => simp [intOf]; omega
        · obtain rfl : t = m.length + 1 := by omega
          rw [rowF_tab (n := m.length + 1) hlt] at hrow
          have hrow2 : OwnI wr wo.heap.size u6 (gr (Go.Proofs.Ytopamhcnbocfoaa.ht m) k) := hrow
          obtain ⟨rr, rc, hr, _, _, _⟩ := hrow2.read
          have Hrow := Lib.hid hrow2
          have hB2 := hbi.size
          have Hout2 := Lib.hid (Hout.out.below hbi)
          have Hbi := Lib.hid hbi
          have hfr := Lib.hid (Hout.out.fresh hrow2 (Nat.le_refl _))
          clear hrow hrow2 hbi
          subst hr
          go_wp2_with (at_builtin; refine wpList_append_own _ rfl _ _ 22 rfl w1.heap.size 41 j0 (.slice none 0 0) 1 24 Try.underlying22 hj hy0 hy1 hy2 rfl (by decide) _ _ _ rfl (World.ownsRow.alloc Hout2.out.top _) ⟨wr.heap.size, 0, none⟩ 1 1 [.slice rr (gr (Go.Proofs.Ytopamhcnbocfoaa.ht m) k).length rc] rfl rfl ?d1 ?d2 ?d3 ?d4 ?d5 ?_)
          case d1 => exact cell_one_new _ _ _
          case d2 => intro u hu; simp at hu; subst hu; rfl
          case d3 => unfold maxLen; omega
          case d4 => omega
          case d5 => simp; omega
          intro v' w3 hown' hgrow _
          have hput := Hout2.out.snoc (show w1.heap.size ≤ wr.heap.size by omega) (Hrow.out.base hB) hfr.out hown' hgrow
          have Hput := Lib.hid hput
          clear hput hown' hgrow
          go_wp2
          go_roundw
          case rel => exact ⟨k + 1, _, by omega, by go_num, Hput.out.1, (Hbr.out.trans (Hbi.out.mono hB)).trans Hput.out.2⟩
          case measure => simp [intOf]; omega
    · obtain rfl : k = m.length + 1 := by omega
      have hfin : OwnM wo w.heap.size u4 (ht m) := OwnM.base ⟨vs, by unfold ht; rw [htT_len]; exact hout⟩ hB0
      have Hfin := Lib.hid hfin
      have Hbr := Lib.hid hbr
      clear hout hbr hfin
      go_wp2
      go_ret
      exact ⟨_, rfl, Hfin.out, Hb.out.trans (Hbr.out.mono hB0)⟩

/-- the corner sums that heights tell -/
def hcT (n : Nat) (c : Nat → Nat → Int) : List (List Int) := tab n n fun i j => c (i + 1) (j + 1)
theorem hcT_len (n : Nat) (c : Nat → Nat → Int) : (hcT n c).length = n := tab_len _ _ _
theorem hcT_square {n : Nat} (c : Nat → Nat → Int) (h1 : 1 ≤ n) (h6 : n ≤ 6) : square (hcT n c) := ⟨by rw [hcT_len]; exact h1, by rw [hcT_len]; exact h6, fun i hi => by rw [hcT_len] at hi ⊢; exact tab_row hi⟩
theorem atC_hcT {n : Nat} {c : Nat → Nat → Int} (h0 : ∀ j, j ≤ n → c 0 j = 0) (h1 : ∀ i, i ≤ n → c i 0 = 0) {i j : Nat} (hi : i ≤ n) (hj : j ≤ n) : atC (hcT n c) ((i : Int) - 1) ((j : Int) - 1) = c i j := by
  unfold atC
  by_cases e1 : i = 0
  · subst e1; rw [if_pos (by omega), h0 j hj]
  · rw [if_neg (by omega)]
    by_cases e2 : j = 0
    · subst e2; rw [if_pos (by omega), h1 i hi]
    · rw [if_neg (by omega), show ((i : Int) - 1).toNat = i - 1 from by omega, show ((j : Int) - 1).toNat = j - 1 from by omega]
      unfold hcT
      rw [gi_tab (by omega) (by omega), show i - 1 + 1 = i from by omega, show j - 1 + 1 = j from by omega]
theorem dm_hcT {n : Nat} {c : Nat → Nat → Int} (h0 : ∀ j, j ≤ n → c 0 j = 0) (h1 : ∀ i, i ≤ n → c i 0 = 0) : dm (hcT n c) = unC n c := by
  refine eq_tab (by rw [dm_len, hcT_len]) (fun i hi => by unfold dm; rw [tab_row (by rw [hcT_len]; exact hi), hcT_len]) fun i j hi hj => ?_
  unfold dm
  rw [gi_tab (by rw [hcT_len]; exact hi) (by rw [hcT_len]; exact hj)]
  unfold df dC
  have a1 := atC_hcT h0 h1 (show i + 1 ≤ n by omega) (show j + 1 ≤ n by omega)
  have a2 := atC_hcT h0 h1 (show i ≤ n by omega) (show j + 1 ≤ n by omega)
  have a3 := atC_hcT h0 h1 (show i + 1 ≤ n by omega) (show j ≤ n by omega)
  have a4 := atC_hcT h0 h1 (show i ≤ n by omega) (show j ≤ n by omega)
  rw [show ((i + 1 : Nat) : Int) - 1 = i from by omega] at a1 a3
  rw [show ((j + 1 : Nat) : Int) - 1 = j from by omega] at a1 a2
  rw [a1, a2, a3, a4]

theorem gi_hcT {n : Nat} {c : Nat → Nat → Int} {i j : Nat} (hi : i < n) (hj : j < n) : gi (gr (hcT n c) i) j = c (i + 1) (j + 1) := gi_tab hi hj

/-- the corner sums that any table tells, as the model reads it -/
def qOf (H : List (List Int)) (i j : Nat) : Int := ((i : Int) + j + 2 - gi (gr H (i + 1)) (j + 1)).tdiv 2
def qT (n : Nat) (H : List (List Int)) : List (List Int) := tab n n (qOf H)
theorem qT_len (n : Nat) (H : List (List Int)) : (qT n H).length = n := tab_len _ _ _
theorem qT_htT (n : Nat) (c : Nat → Nat → Int) : qT n (htT n c) = hcT n c := by
  refine eq_tab (qT_len _ _) (fun i hi => tab_row hi) fun i j hi hj => ?_
  rw [show gi (gr (qT n (htT n c)) i) j = qOf (htT n c) i j from gi_tab hi hj]
  unfold qOf
  rw [gi_htT (by omega) (by omega)]
  unfold hOf
  rw [show (i : Int) + j + 2 - (((i + 1 : Nat) : Int) + ((j + 1 : Nat) : Int) - 2 * c (i + 1) (j + 1)) = c (i + 1) (j + 1) * 2 from by omega]
  exact Int.mul_tdiv_cancel _ (by decide)
theorem tdiv2_bound {x : Int} (h : -110 ≤ x ∧ x ≤ 120) : -100 ≤ x.tdiv 2 ∧ x.tdiv 2 ≤ 100 := by
  have := Int.mul_tdiv_add_tmod x 2
  have h1 := Int.tmod_lt_of_pos x (show (0 : Int) < 2 by decide)
  have h2 := Int.lt_tmod_of_pos x (show (0 : Int) < 2 by decide)
  omega

set_option maxRecDepth 100000 in
set_option maxHeartbeats 1600000 in
theorem heFromW_any (ao : Option Addr) (cp n : Nat) (H : List (List Int)) (w : World) (hl : H.length = n + 1) (hr : ∀ i, i < n + 1 → (gr H i).length = n + 1) (hw : ∀ i j, i < n + 1 → j < n + 1 → -90 ≤ gi (gr H i) j ∧ gi (gr H i) j ≤ 90)
    (hn1 : 1 ≤ n) (hn : n ≤ 6) (hm : MatAt w ao H) :
    Calls Try.prog 61 #[.slice ao (n + 1) cp] w fun e w' => ∃ v, e = .returned v ∧ OwnM w' w.heap.size v (dm (qT n H)) ∧ Below w.heap.size w w' := by
  have hmx : n + 1 ≤ 9223372036854775807 := by omega
  have hwn : IntKind.i64.wrap (((n + 1 : Nat) : Int) - 1) = n := by rw [w64 (by omega)]; omega
  have Hl := Lib.hid hl
  have Hr := Lib.hid hr
  have Hw := Lib.hid hw
  have Hm := Lib.hid hm
  clear hl hr hw hm
  go_enter Try.func61, Try.ntmps61
  go_wp2_with fail
  refine (sgZero_any n w (by omega)).mono ?_
  rintro e w1 ⟨v, rfl, hv, hb⟩
  obtain ⟨oa, oc, vs, rfl, hp, hoc1, hoc2⟩ := hv.open
  rw [tab_len] at hp hoc1 ⊢
  obtain ⟨og, rfl, _⟩ : ∃ g, oa = some ⟨g, 0, none⟩ ∧ w.heap.size ≤ g := by
    rcases hp.top.2 with ⟨h0, h1⟩ | ⟨g, cap, cur, hv2, hg2, _⟩
    · exact absurd h1 (by omega)
    · simp only [Value.slice.injEq] at hv2
      exact ⟨g, hv2.1, hg2⟩
  have Hv := Lib.hid hp
  have Hb := Lib.hid hb
  clear hv hp hb
  go_wp2
  go_loopw [14] (fun i wr => ∃ (k : Nat) (f : Nat → Nat → Int), k ≤ n ∧ i = .int .i64 k ∧ OwnP wr w.heap.size (.slice (some ⟨og, 0, none⟩) n oc) n (tab n n f) n vs ∧
      (∀ a b, a < k → b < n → f a b = qOf H a b) ∧ Below w.heap.size w wr) (fun i _ => n - (intOf i).toNat)
  case atStart => exact ⟨0, _, Nat.zero_le _, rfl, Hv.out, fun a b ha _ => absurd ha (by omega), Hb.out⟩
  case round =>
    obtain ⟨k, f, hk, rfl, hown, heq, hbr⟩ := hrel
    obtain ⟨wo, rfl⟩ : ∃ wo : World, wo = wr := ⟨_, rfl⟩
    clear Hv Hb
    have Hown := Lib.hid hown
    have Heq := Lib.hid heq
    have Hbr := Lib.hid hbr
    clear hown heq hbr
    by_cases hlt : k < n
    · go_wp2
      go_loopw [19] (fun i wr => ∃ (t : Nat) (f : Nat → Nat → Int), t ≤ n ∧ i = .int .i64 t ∧ OwnP wr w.heap.size (.slice (some ⟨og, 0, none⟩) n oc) n (tab n n f) n vs ∧
          (∀ a b, a < k → b < n → f a b = qOf H a b) ∧ (∀ b, b < t → f k b = qOf H k b) ∧ Below w.heap.size w wr) (fun i _ => n - (intOf i).toNat)
      case atStart => exact ⟨0, f, Nat.zero_le _, rfl, Hown.out, Heq.out, fun a ha => absurd ha (by omega), Hbr.out⟩
      case round =>
        obtain ⟨t, f, ht, rfl, hown, heq, hcol, hbi⟩ := hrel
        clear Hown Heq Hbr
        by_cases htl : t < n
        · have hd := hown.cellAt k hlt
          obtain ⟨g, cap, hvs, hd2, hf2, hg, hst⟩ := hown.at2 hlt htl
          rw [hvs] at hd
          obtain ⟨b1, o1, r1, d1, e1, hc1, hr1, _, _⟩ := (Hm.out.below hbi) (k + 1) (by rw [Hl.out]; omega)
          have hrl := Hr.out (k + 1) (by omega)
          rw [hrl] at hc1
          obtain ⟨b2, o2, e2, hc2⟩ := hr1 (t + 1) (by rw [hrl]; omega)
          have hwx := Hw.out (k + 1) (t + 1) (by omega) (by omega)
          have hq : qOf H k t = ((k : Int) + t + 2 - gi (gr H (k + 1)) (t + 1)).tdiv 2 := rfl
          generalize gi (gr H (k + 1)) (t + 1) = x at hc2 hwx hq
          subst e1 e2
          have hqb := tdiv2_bound (x := (k : Int) + t + 2 - x) (by omega)
          have hlt3 : k + 1 < n + 1 := by omega
          have htl3 : t + 1 < n + 1 := by omega
          have Hst := Lib.hid (hst (((k : Int) + t + 2 - x).tdiv 2))
          have Heq := Lib.hid heq
          have Hcol := Lib.hid hcol
          have Hq := Lib.hid hq
          have Hbs := Lib.hid (hbi.setCell (p := ⟨g, t, none⟩) hg (.int .i64 (((k : Int) + t + 2 - x).tdiv 2)))
          clear hown heq hcol hbi hst hvs hg hr1 hrl hq
          go_wp2
          go_region
          all_goals
            go_wp2
            go_roundw
            case rel =>
              refine ⟨t + 1, _, by omega, by go_num, Hst.out.drew, fun a b ha hb => ?_, fun b hb => ?_, Hbs.out.drew⟩
              · rw [if_neg (fun h => by omega)]
                exact Heq.out a b ha hb
              · by_cases e : b = t
                · subst e; rw [if_pos ⟨rfl, rfl⟩, Hq.out]
                · rw [if_neg (fun h => by omega)]
                  exact Hcol.out b (by omega)
            case measure => simp [intOf]; omega
        · obtain rfl : t = n := by omega
          have Hown := Lib.hid hown
          have Heq := Lib.hid heq
          have Hcol := Lib.hid hcol
          have Hbi := Lib.hid hbi
          clear hown heq hcol hbi
          go_wp2
          go_roundw
          case rel =>
            refine ⟨k + 1, f, by omega, by go_num, Hown.out, fun a b ha hb => ?_, Hbi.out⟩
            by_cases e : a = k
            · subst e; exact Hcol.out b hb
            · exact Heq.out a b (by omega) hb
          case measure => simp [intOf]; omega
    · obtain rfl : k = n := by omega
      have heq := Heq.out
      have e : qT k H = tab k k f := eq_tab (qT_len k H) (fun i hi => tab_row hi) (fun i j hi hj => by unfold qT; rw [gi_tab hi hj, heq i j hi hj])
      have hfin : OwnM wo w.heap.size (.slice (some ⟨og, 0, none⟩) k oc) (qT k H) := ⟨vs, by rw [qT_len, e]; exact Hown.out⟩
      have hB := Hbr.out.size
      have hcall := sgFromW_any (some ⟨og, 0, none⟩) oc (qT k H) wo ⟨by rw [qT_len]; exact hn1, by rw [qT_len]; exact hn, fun i hi => by rw [qT_len] at hi ⊢; exact tab_row hi⟩ (fun i j hi hj => by
        rw [qT_len] at hi hj
        rw [show gi (gr (qT k H) i) j = qOf H i j from gi_tab hi hj]
        have := Hw.out (i + 1) (j + 1) (by omega) (by omega)
        exact tdiv2_bound (by omega)) ((show OwnP wo w.heap.size (.slice (some ⟨og, 0, none⟩) k oc) k (qT k H) k vs from by rw [e]; exact Hown.out).at (qT_len k H))
      rw [qT_len] at hcall
      have Hcall := Lib.hid hcall
      clear heq e hfin hcall
      go_wp2_with fail
      refine Hcall.out.mono ?_
      rintro e w5 ⟨v, rfl, hv, hb⟩
      have Hv := Lib.hid (hv.base hB)
      have Hb5 := Lib.hid (Hbr.out.trans (hb.mono hB))
      clear hv hb
      go_wp2
      go_ret
      exact ⟨v, rfl, Hv.out, Hb5.out⟩

theorem heFrom_any (ao : Option Addr) (cp n : Nat) (c : Nat → Nat → Int) (w : World) (hc : Crn n c) (hn1 : 1 ≤ n) (hn : n ≤ 6) (hm : MatAt w ao (htT n c)) :
    Calls Try.prog 61 #[.slice ao (n + 1) cp] w fun e w' => ∃ v, e = .returned v ∧ OwnM w' w.heap.size v (unC n c) ∧ Below w.heap.size w w' := by
  have h := heFromW_any ao cp n (htT n c) w (htT_len n c) (fun i hi => tab_row hi) (fun i j hi hj => by
    rw [gi_htT (by omega) (by omega)]
    have := hc.hbound (show i ≤ n by omega) (show j ≤ n by omega)
    omega) hn1 hn hm
  rw [qT_htT, dm_hcT hc.top hc.left] at h
  exact h
end Go.Proofs.Ytopamhcnbocfoaa
