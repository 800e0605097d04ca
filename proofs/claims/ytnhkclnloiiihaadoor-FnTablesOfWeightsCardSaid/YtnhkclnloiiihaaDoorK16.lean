/- Parts of proofs: contracts and plain facts. Conditions: as each says. -/
import Derived.Test.YtnhkclnloiiihaaDoorK15
namespace Go.Proofs.YtnhkclnloiiihaaDoor
open Go.RowKit

theorem gr_append_left {m k : List (List Int)} {i : Nat} (h : i < m.length) : gr (m ++ k) i = gr m i := by
  rw [gr_lt (by simp; omega), gr_lt h, List.getElem_append_left h]
theorem gr_append_right {m k : List (List Int)} {i : Nat} (h : i < k.length) : gr (m ++ k) (m.length + i) = gr k i := by
  rw [gr_lt (by simp; omega), gr_lt h, List.getElem_append_right (by omega)]
  simp

/-- a table behind which the rows of another one, younger, have been put -/
theorem OwnP.join {w w1 : World} {B B' : Nat} {v v' u : Value} {m k : List (List Int)} {vs us : List Value} (h : OwnP w B v m.length m m.length vs) (hk : OwnP w B' u k.length k k.length us) (hBB : B ≤ B')
    (hold : ∀ i, i < m.length → ∀ g, (vs.getD i undef).ownBlock = some g → g < B')
    (h1 : w1.ownsRow B 28 1 v' (m.length + k.length) (vs ++ us)) (kept : ∀ (x : Value) (ys : List Int), OwnI w B x ys → OwnI w1 B x ys) : OwnP w1 B v' (m ++ k).length (m ++ k) (m ++ k).length (vs ++ us) := by
  have hl : vs.length = m.length := by simpa using h.top.1
  have hl2 : us.length = k.length := by simpa using hk.top.1
  have gl : ∀ i, i < m.length → (vs ++ us).getD i undef = vs.getD i undef := fun i hi => by
    simp only [List.getD]; rw [List.getElem?_append_left (by omega)]
  have grr : ∀ i, m.length ≤ i → (vs ++ us).getD i undef = us.getD (i - m.length) undef := fun i hi => by
    simp only [List.getD]; rw [List.getElem?_append_right (by omega), hl]
  refine ⟨by rw [List.length_append]; exact h1, fun i hi => ?_, fun i j hij hj g hg => ?_⟩
  · rw [List.length_append] at hi
    by_cases hi2 : i < m.length
    · rw [gl i hi2, gr_append_left hi2]
      exact kept _ _ (h.rows i hi2)
    · rw [grr i (by omega), show i = m.length + (i - m.length) from by omega, gr_append_right (by omega), show m.length + (i - m.length) - m.length = i - m.length from by omega]
      exact kept _ _ ((hk.rows (i - m.length) (by omega)).base hBB)
  · rw [List.length_append] at hj
    by_cases hj2 : j < m.length
    · rw [gl i (by omega)] at hg
      rw [gl j hj2]
      exact h.apart i j hij hj2 g hg
    · rw [grr j (by omega)]
      by_cases hi2 : i < m.length
      · rw [gl i hi2] at hg
        intro hg2
        have a := hold i hi2 g hg
        have b := ((hk.rows (j - m.length) (by omega)).lt g hg2).1
        omega
      · rw [grr i (by omega)] at hg
        exact hk.apart (i - m.length) (j - m.length) (by omega) (by omega) g hg

theorem OwnP.nil (w : World) (B : Nat) (m : List (List Int)) : OwnP w B (.slice none 0 0) 0 m 0 [] := ⟨World.ownsRow_nil _ _ _ _, fun i hi => absurd hi (by omega), fun i j _ hj => absurd hj (by omega)⟩

set_option maxRecDepth 100000 in
set_option maxHeartbeats 1600000 in
theorem implRowsAbove_any (ao : Option Addr) (c : Nat) (xs : List Int) (w : World) (hn : xs.length ≤ 1048576) (hx : IntsAt w ao xs) (hD : Dj w) :
    Calls Tryd.prog 23 #[.slice ao xs.length c] w fun e w' => MRes (isRowP xs) (above xs) w' w.heap.size e ∧ Below w.heap.size w w' := by
  obtain ⟨j0, hj, hy0, hy1, hy2⟩ := info_parts Tryd.info_ints
  have Hx := Lib.hid hx
  have HD := Lib.hid hD
  clear hx hD
  by_cases hg : isRowP xs
  · have hr := ((isRowP_iff _).1 hg).2.2
    have h6 := hg.2.1
    have h1 := hg.1
    have Hg := Lib.hid hg
    have Hr := Lib.hid hr
    have hset := setOf_any ao c xs w hn hr.2 Hx.out
    have habove := setsAbove_any hr h6 w HD.out
    obtain ⟨m, hm⟩ : ∃ m : Int, m = (mask xs : Nat) := ⟨_, rfl⟩
    rw [← hm] at hset habove
    have Hset := Lib.hid hset
    have Habove := Lib.hid habove
    clear hg hr hset habove hm
    go_enter Tryd.func23, Tryd.ntmps23
    go_wp2_with fail
    refine (isRow_any ao c xs w hn Hx.out).mono ?_
    rintro e w2 ⟨ha, rfl⟩
    obtain rfl := ha.is Hg.out
    clear ha
    go_wp2_with fail
    refine Hset.out.mono ?_
    rintro e w2 ⟨rfl, rfl⟩
    go_wp2_with fail
    refine Habove.out.mono ?_
    rintro e w1 ⟨v, rfl, hv, hb⟩
    obtain ⟨sa, sc, rfl, hsc, hsc2, hs⟩ := hv.read
    have Hs := Lib.hid hs
    have Hb := Lib.hid hb
    have HB := Lib.hid hb.size
    have hlen := above_len Hr.out
    have hpow : 16 ^ (xs.length - 1) ≤ 16 ^ 5 := Nat.pow_le_pow_right (by omega) (by omega)
    have hal : (above xs).length ≤ 1048576 := by omega
    have hmx : (above xs).length ≤ 9223372036854775807 := by omega
    clear hs hb hv hlen hpow
    go_wp2
    go_loopw [4, 14] (fun rows i wr => ∃ (k : Nat) (vs : List Value), k ≤ (above xs).length ∧ i = .int .i64 k ∧ OwnP wr w1.heap.size rows k (above xs) k vs ∧ Below w1.heap.size w1 wr) (fun _ i _ => (above xs).length - (intOf i).toNat)
    case atStart => exact ⟨0, [], Nat.zero_le _, rfl, OwnP.nil _ _ _, Below.refl _ _⟩
    case round =>
      obtain ⟨k, vs, hk, rfl, hown, hbr⟩ := hrel
      by_cases hlt : k < (above xs).length
      · obtain ⟨b0, o0, rfl, hc0⟩ := Hs.out.below hbr k hlt
        have hmem := above_mem Hr.out (gr_mem hlt)
        have hrow := row_any hmem.1 (by omega) wr ((HD.out.next Hb.out).next hbr)
        have HBr := Lib.hid hbr.size
        have Hown := Lib.hid hown
        have Hbr := Lib.hid hbr
        unfold sv at hc0
        obtain ⟨m1, hm1⟩ : ∃ m1 : Int, m1 = (mask (gr (above xs) k) : Nat) := ⟨_, rfl⟩
        rw [← hm1] at hrow hc0
        have Hrow := Lib.hid hrow
        clear hmem hrow hm1 hown hbr
        go_wp2_with fail
        refine Hrow.out.mono ?_
        rintro e w2 ⟨v, rfl, hv, hb2⟩
        obtain ⟨ra, rc, hrv, _, _, _⟩ := hv.read
        obtain ⟨rn, hrn⟩ : ∃ rn, rn = (gr (above xs) k).length := ⟨_, rfl⟩
        rw [← hrn] at hrv
        subst hrv
        have Hout2 := Lib.hid (Hown.out.below hb2)
        have Hfr := Lib.hid (Hown.out.fresh hv (Nat.le_refl _))
        have Hv := Lib.hid (hv.base HBr.out)
        have Hb2 := Lib.hid (Hbr.out.trans (hb2.mono HBr.out))
        have HB2 := Lib.hid Hb2.out.size
        clear hv hb2 hrn
        go_wp2_with (at_builtin; refine wpList_append_own _ rfl _ _ 25 rfl w1.heap.size 28 j0 (.slice none 0 0) 1 24 Tryd.underlying25 hj hy0 hy1 hy2 rfl (by decide) _ _ _ rfl (World.ownsRow.alloc Hout2.out.top _) ⟨w2.heap.size, 0, none⟩ 1 1 [.slice ra rn rc] rfl rfl ?e1 ?e2 ?e3 ?e4 ?e5 ?_)
        case e1 => exact cell_one_new _ _ _
        case e2 => intro u hu; simp at hu; subst hu; rfl
        case e3 => unfold maxLen; omega
        case e4 => omega
        case e5 => have := HB2.out; simp; omega
        intro v' w3 hown' hgrow _
        have hput := Hout2.out.snoc HB2.out Hv.out Hfr.out hown' hgrow
        have Hput := Lib.hid hput
        clear hput hown' hgrow
        go_wp2
        go_roundw
        case rel => exact ⟨k + 1, _, by omega, by go_num, Hput.out.1, Hb2.out.trans Hput.out.2⟩
        case measure => simp [intOf]; omega
      · obtain rfl : k = (above xs).length := by omega
        go_wp2
        go_ret2
        exact ⟨MRes.yes Hg.out ⟨vs, hown.base HB.out⟩, Hb.out.trans (hbr.mono HB.out)⟩
  · have Hg := Lib.hid hg
    clear hg
    go_enter Tryd.func23, Tryd.ntmps23
    go_wp2_with fail
    refine (isRow_any ao c xs w hn Hx.out).mono ?_
    rintro e w2 ⟨ha, rfl⟩
    obtain rfl := ha.isnt Hg.out
    clear ha
    go_wp2
    go_ret2
    exact ⟨MRes.no Hg.out, Below.refl _ _⟩

theorem lst_gi {xs : List Int} (h : 0 < xs.length) : lst xs = gi xs (xs.length - 1) := by
  unfold lst
  rw [List.getLast?_eq_getElem?, gi, List.getD]
  cases hh : xs[xs.length - 1]? with
  | some a => rfl
  | none => rw [List.getElem?_eq_none_iff] at hh; omega

/-- of the rows that go on 'first', those whose next number is below v -/
def abPart (xs first : List Int) (v : Int) : List (List Int) :=
  ((rng (gi xs first.length) (v - 1)).filter fun x => decide (lst first < x)).flatMap fun x => (ab (xs.drop (first.length + 1)) x).map fun ys => (first ++ [x]) ++ ys
theorem abPart_start (xs first : List Int) : abPart xs first (gi xs first.length) = [] := by unfold abPart; rw [rng_nil (by omega)]; rfl
theorem abPart_step {xs first : List Int} {v : Int} (h : gi xs first.length ≤ v) :
    abPart xs first (v + 1) = abPart xs first v ++ (if lst first < v then (ab (xs.drop (first.length + 1)) v).map (fun ys => (first ++ [v]) ++ ys) else []) := by
  unfold abPart
  rw [show v + 1 - 1 = v from by omega, rng_snoc h, List.filter_append, List.flatMap_append]
  by_cases hl : lst first < v <;> simp [hl]
theorem abPart_end {xs first : List Int} (h : first.length + 1 < xs.length) : abPart xs first (gi xs (first.length + 1) + 1) = (ab (xs.drop first.length) (lst first)).map fun ys => first ++ ys := by
  unfold abPart
  rw [show gi xs (first.length + 1) + 1 - 1 = gi xs (first.length + 1) from by omega]
  have e1 : xs.drop first.length = gi xs first.length :: gi xs (first.length + 1) :: xs.drop (first.length + 1 + 1) := by
    rw [List.drop_eq_getElem_cons (by omega), List.drop_eq_getElem_cons h, gi_lt (by omega), gi_lt h]
  have e2 : xs.drop (first.length + 1) = gi xs (first.length + 1) :: xs.drop (first.length + 1 + 1) := by
    rw [List.drop_eq_getElem_cons h, gi_lt h]
  rw [e1, e2, ab]
  simp only [List.map_flatMap, List.map_map, Function.comp_def, List.append_assoc, List.cons_append, List.nil_append]

theorem abPart_len {xs first : List Int} {v : Int} (h : Rise xs) (hk : first.length + 1 < xs.length) (h6 : xs.length ≤ 6) (hv : v ≤ gi xs (first.length + 1) + 1) : (abPart xs first v).length ≤ 1048576 := by
  have g0 := h.2 _ (gi_mem (show first.length < xs.length by omega))
  have g1 := h.2 _ (gi_mem hk)
  unfold abPart
  refine Nat.le_trans (flatMap_le (n := 16) (k := 16 ^ 4) (rng_filter_le (by omega) (by omega) _) (fun x _ => ?_)) (by omega)
  rw [List.length_map]
  refine Nat.le_trans (ab_len (fun y hy => h.2 y (List.mem_of_mem_drop hy)) x) (Nat.pow_le_pow_right (by omega) ?_)
  rw [List.length_drop]; omega

theorem OwnI.kept_top {w w1 : World} {B n : Nat} {x u : Value} {ys : List Int} {vs : List Value} (hx : OwnI w B x ys) (ht : w.ownsRow B 28 1 u n vs) (hg : w.grownBy w1 u.ownBlock) : OwnI w1 B x ys := by
  refine World.ownsRow.kept hx hg ?_
  cases hb : x.ownBlock with
  | none => exact .inl rfl
  | some g => exact .inr (fun e => hx.ne_row ht g hb e.symm)

theorem rows_cells {w : World} {B n : Nat} {ad : Addr} {m : List (List Int)} {vs : List Value} {c : Nat} (h : OwnP w B (.slice (some ad) n c) n m n vs) : (∀ j u, vs[j]? = some u → w.cell? (ad.add j) = some u) ∧ (∀ u ∈ vs, u.oneCell' = true) := by
  have hl : vs.length = n := by simpa using h.top.1
  obtain ⟨ao, c', e, _, _, hc⟩ := ownsRow_read h.top
  cases e
  refine ⟨fun j u hj => ?_, fun u hu => ?_⟩
  · have hjl : j < vs.length := (List.getElem?_eq_some_iff.1 hj).1
    obtain ⟨b3, o3, e3, hc3⟩ := hc j (by omega)
    cases e3
    rw [Addr.add_lit, hc3, List.getD, hj]
    rfl
  · obtain ⟨i, hi, rfl⟩ := List.mem_iff_getElem.1 hu
    have := (h.rows i (by omega)).read
    rw [List.getD, List.getElem?_eq_getElem hi] at this
    obtain ⟨_, _, e, _⟩ := this
    rw [show vs[i] = (some vs[i]).getD undef from rfl, e]
    rfl

set_option maxRecDepth 100000 in
set_option maxHeartbeats 3200000 in
theorem trAbove_any (xs : List Int) (hr : Rise xs) (h6 : xs.length ≤ 6) : ∀ (d : Nat) (fs : List Int) (a1 a2 : Option Addr) (c1 c2 : Nat) (w : World), fs.length + d + 1 = xs.length → (a2 = none → c2 = 0) → IntsAt w a1 xs → IntsAt w a2 fs →
    Calls Tryd.prog 76 #[.slice a1 xs.length c1, .slice a2 fs.length c2] w fun e w' => ∃ v, e = .returned v ∧ OwnM w' w.heap.size v ((ab (xs.drop fs.length) (lst fs)).map fun ys => fs ++ ys) ∧ Below w.heap.size w w' := by
  intro d
  induction d with
  | zero =>
    intro fs a1 a2 c1 c2 w hd h0 h1 h2
    have hfl : fs.length ≤ 1048576 := by omega
    have H2 := Lib.hid h2
    have hk : ((fs.length : Int) == (xs.length : Int) - 1) = true := by simp; omega
    have e1 : ab (xs.drop fs.length) (lst fs) = [[]] := by
      have : (xs.drop fs.length).length = 1 := by rw [List.length_drop]; omega
      cases hh : xs.drop fs.length with
      | nil => rfl
      | cons a r =>
        rw [hh] at this
        cases r with
        | nil => rfl
        | cons b r => simp at this
    have E1 := Lib.hid e1
    have Hd := Lib.hid hd
    have hfx : fs.length ≤ 9223372036854775807 := by omega
    have hxx : xs.length ≤ 9223372036854775807 := by omega
    have hown := l1Own_any a2 c2 fs w hfl h0 h2
    have Hown := Lib.hid hown
    clear h2 e1 hd h1 h0 hown
    go_enter Tryd.func76, Tryd.ntmps76
    go_wp2_with fail
    refine Hown.out.mono ?_
    rintro e w1 ⟨v, rfl, hv, hb⟩
    obtain ⟨va, vc, hvv, _, _, _⟩ := hv.read
    obtain ⟨fl, hfl⟩ : ∃ fl, fl = fs.length := ⟨_, rfl⟩
    rw [← hfl] at hvv
    subst hvv
    have hb1 : Below w1.heap.size w1 (w1.alloc (.cells #[.slice va fl vc] 28)) := (Below.refl _ _).alloc (Nat.le_refl _) _
    have hres : OwnM (w1.alloc (.cells #[.slice va fl vc] 28)) w.heap.size (.slice (some ⟨w1.heap.size, 0, none⟩) 1 1) [fs] :=
      ⟨[.slice va fl vc], ownsRow_built w1 [.slice va fl vc] hb.size (by simp), fun i hi => by obtain rfl : i = 0 := (by simpa using hi); exact hv.below hb1, fun i j hij hj => by simp at hj; omega⟩
    have Hres := Lib.hid hres
    have Hb := Lib.hid (hb.trans (hb1.mono hb.size))
    clear hv hb hb1 hres hfl
    go_wp2
    go_ret
    refine ⟨_, rfl, ?_, Hb.out⟩
    rw [E1.out]
    simpa using Hres.out
  | succ d ih =>
    intro fs a1 a2 c1 c2 w hd h0 h1 h2
    have hkl : fs.length + 1 < xs.length := by omega
    have Hd := Lib.hid hd
    have H1 := Lib.hid h1
    have H2 := Lib.hid h2
    have H0 := Lib.hid h0
    have Hih := Lib.hid ih
    have hk : ((fs.length : Int) == (xs.length : Int) - 1) = false := by simp; omega
    have hfx : fs.length ≤ 9223372036854775807 := by omega
    have hxx : xs.length ≤ 9223372036854775807 := by omega
    obtain ⟨b0, o0, e0, hc0⟩ := h1 fs.length (by omega)
    obtain ⟨b0', o0', e0', hc1⟩ := h1 (fs.length + 1) hkl
    rw [e0] at e0'
    cases e0'
    have g0 := hr.2 _ (gi_mem (show fs.length < xs.length by omega))
    have g1 := hr.2 _ (gi_mem hkl)
    have gm := (up_iff xs).1 hr.1 (fs.length + 1) hkl (by omega)
    rw [show fs.length + 1 - 1 = fs.length from rfl] at gm
    obtain ⟨j0, hj, hy0, hy1, hy2⟩ := info_parts Tryd.info_ints
    obtain ⟨i0, hi, hz0, hz1, hz2⟩ := info_parts Tryd.info_int
    obtain ⟨y, hy⟩ : ∃ y, y = gi xs fs.length := ⟨_, rfl⟩
    obtain ⟨z, hz⟩ : ∃ z, z = gi xs (fs.length + 1) := ⟨_, rfl⟩
    rw [← hy] at hc0 g0 gm
    rw [← hz] at hc1 g1 gm
    have Hy := Lib.hid hy
    have Hz := Lib.hid hz
    subst e0
    have Hstart := Lib.hid (show abPart xs fs y = [] by rw [hy]; exact abPart_start xs fs)
    have Hend := Lib.hid (show abPart xs fs (z + 1) = (ab (xs.drop fs.length) (lst fs)).map (fun ys => fs ++ ys) by rw [hz]; exact abPart_end hkl)
    have Hplen := Lib.hid (show ∀ v, v ≤ z + 1 → (abPart xs fs v).length ≤ 1048576 from fun v hv => abPart_len hr hkl h6 (by rw [← hz]; exact hv))
    have Hstep := Lib.hid (show ∀ v, y ≤ v → abPart xs fs (v + 1) = abPart xs fs v ++ (if lst fs < v then (ab (xs.drop (fs.length + 1)) v).map (fun ys => (fs ++ [v]) ++ ys) else []) from fun v hv => abPart_step (by rw [← hy]; exact hv))
    have Hkl := Lib.hid hkl
    have hkx : (fs.length : Int) + 1 < (xs.length : Int) := by omega
    have hkx2 : fs.length < xs.length := by omega
    clear h1 h2 h0 ih hd hy hz hkl
    go_enter Tryd.func76, Tryd.ntmps76
    go_wp2
    go_loopw [6, 7] (fun out i wr => ∃ (v : Int) (vs : List Value), y ≤ v ∧ v ≤ z + 1 ∧ i = .int .i64 v ∧ OwnP wr w.heap.size out (abPart xs fs v).length (abPart xs fs v) (abPart xs fs v).length vs ∧ Below w.heap.size w wr) (fun _ i _ => (z + 1 - intOf i).toNat)
    case atStart => exact ⟨y, [], Int.le_refl _, by omega, rfl, by rw [Hstart.out]; exact OwnP.nil _ _ _, Below.refl _ _⟩
    case round =>
      obtain ⟨v, vs, hv1, hv2, rfl, hown, hbr⟩ := hrel
      have hc1' := cell_below hc1 hbr
      have Hown := Lib.hid hown
      have Hbr := Lib.hid hbr
      clear hown hbr
      by_cases hvz : v ≤ z
      · have Hst := Lib.hid (Hstep.out v hv1)
        have HB := Lib.hid Hbr.out.size
        by_cases hc : lst fs < v
        · rw [if_pos hc] at Hst
          have Hl1 := Lib.hid (l1Own_any a2 c2 fs wr (by omega) H0.out (H2.out.below Hbr.out))
          -- the test says yes
          have Hc := Lib.hid hc
          clear hc
          by_cases hf0 : fs.length = 0
          · have hb0 : ((fs.length : Int) == 0) = true := by simp; exact List.eq_nil_of_length_eq_zero hf0
            have Hf0 := Lib.hid hf0
            clear hf0
            go_wp2_with fail
            refine Hl1.out.mono ?_
            rintro e w2 ⟨f1, rfl, hf1, hb2⟩
            obtain ⟨fa, fc, hff, _, _, _⟩ := hf1.read
            obtain ⟨fl, hfl⟩ : ∃ fl, fl = fs.length := ⟨_, rfl⟩
            rw [← hfl] at hff
            subst hff
            have HF1 := Lib.hid hf1
            have Hb2 := Lib.hid hb2
            have HB2 := Lib.hid hb2.size
            have Hfl := Lib.hid hfl
            have hflb : fl ≤ 6 := by omega
            clear hf1 hb2 hfl
            go_wp2_with (at_builtin; refine wpList_append_own _ rfl _ _ 28 rfl wr.heap.size 3 i0 (.int .i64 0) 1 8 Tryd.underlying28 hi hz0 hz1 hz2 rfl (by decide) _ fl _ rfl (by have := World.ownsRow.alloc HF1.out (.cells #[.int .i64 v] 3); rw [← Hfl.out] at this; exact this) ⟨w2.heap.size, 0, none⟩ 1 1 [.int .i64 v] rfl rfl ?e1 ?e2 ?e3 ?e4 ?e5 ?_)
            case e1 => exact cell_one_new _ _ _
            case e2 => intro u hu; simp at hu; subst hu; rfl
            case e3 => unfold maxLen; omega
            case e4 => omega
            case e5 => have := HB2.out; simp; omega
            intro v' w3 hown' hgrow _
            rw [Hfl.out] at hown'
            have hput := HF1.out.snoc HB2.out hown' hgrow
            obtain ⟨ga, gc, hgg, hgc, hgc2, hgr⟩ := hput.1.read
            have hga : ga = none → gc = 0 := by
              intro e
              subst e
              obtain ⟨_, _, e, _⟩ := hgr 0 (by simp)
              cases e
            have h13 := Hb2.out.trans hput.2
            have hrec := Hih.out (fs ++ [v]) (some ⟨b0, o0, none⟩) ga c1 gc w3 (by have := Hd.out; simp; omega) hga ((H1.out.below Hbr.out).below h13) hgr
            rw [show (fs ++ [v]).length = fs.length + 1 from by simp, lst_snoc] at hrec
            rw [show (fs ++ [v]).length = fs.length + 1 from by simp] at hgg
            obtain ⟨fl1, hfl1⟩ : ∃ fl1, fl1 = fs.length + 1 := ⟨_, rfl⟩
            rw [← hfl1] at hgg
            have hrec' : Calls Tryd.prog 76 #[.slice (some ⟨b0, o0, none⟩) xs.length c1, .slice ga fl1 gc] w3 fun e w' => ∃ v', e = .returned v' ∧ OwnM w' w3.heap.size v' ((ab (xs.drop (fs.length + 1)) v).map fun ys => (fs ++ [v]) ++ ys) ∧ Below w3.heap.size w3 w' := by rw [hfl1]; exact hrec
            subst hgg
            have Hrec := Lib.hid hrec'
            have Hput := Lib.hid h13
            clear hown' hgrow hput hgc hgc2 hgr hga hrec hfl1 hrec' h13
            go_wp2_with fail
            refine Hrec.out.mono ?_
            rintro e w4 ⟨sub, rfl, hsub, hb4⟩
            obtain ⟨M, hM⟩ : ∃ M, M = (ab (xs.drop (fs.length + 1)) v).map fun ys => (fs ++ [v]) ++ ys := ⟨_, rfl⟩
            obtain ⟨P0, hP0⟩ : ∃ P0, P0 = abPart xs fs v := ⟨_, rfl⟩
            rw [← hM] at hsub Hst
            rw [← hP0] at Hown Hst
            obtain ⟨sa, sc, us, rfl, hsp, hs1, hs2⟩ := hsub.open
            have hpl := Hplen.out (v + 1) (by omega)
            rw [Hst.out, List.length_append] at hpl
            have Hown4 := Lib.hid (Hown.out.below (Hput.out.trans (hb4.mono Hput.out.size)))
            have Hb4 := Lib.hid (Hbr.out.trans ((Hput.out.trans (hb4.mono Hput.out.size)).mono HB.out))
            have HB4 := Lib.hid Hb4.out.size
            have HB3 := Lib.hid Hput.out.size
            have Hold := Lib.hid (show ∀ i, i < P0.length → ∀ g, (vs.getD i undef).ownBlock = some g → g < w3.heap.size from fun i hi g hg => Nat.lt_of_lt_of_le ((Hown.out.rows i hi).lt g hg).2 Hput.out.size)
            have Hsp := Lib.hid hsp
            obtain ⟨oa, oc, hoo, _, _, _⟩ := ownsRow_read Hown4.out.top
            obtain ⟨Ml, hMl⟩ : ∃ Ml, Ml = M.length := ⟨_, rfl⟩
            obtain ⟨Pl, hPl⟩ : ∃ Pl, Pl = P0.length := ⟨_, rfl⟩
            rw [← hPl] at hoo
            have HMl := Lib.hid hMl
            have HPl := Lib.hid hPl
            have hpl2 : Pl + Ml ≤ 1048576 := by omega
            clear hsub hb4 hM hP0 hsp hpl hPl
            subst hoo
            cases sa with
            | none =>
              have hM0 : M = [] := by
                have := Hsp.out.top.2
                rcases this with ⟨h1, h2⟩ | ⟨g, cap, cur, h1, _⟩
                · exact List.eq_nil_of_length_eq_zero h2
                · simp at h1
              have hsc : sc = 0 := by
                have := Hsp.out.top.2
                rcases this with ⟨h1, h2⟩ | ⟨g, cap, cur, h1, _⟩
                · simp at h1; exact h1.2
                · simp at h1
              subst hM0 hsc
              clear hs1 hs2
              go_wp2_with (at_builtin; refine wpList_append_own_none rfl _ _ 25 rfl w.heap.size 28 j0 1 Tryd.underlying25 hj _ _ _ rfl (by have := Hown4.out.top; exact this) rfl ?_)
              go_wp2
              go_roundw
              case rel => exact ⟨v + 1, vs, by omega, by omega, by go_num, by rw [Hst.out, List.append_nil]; exact Hown4.out, Hb4.out⟩
              case measure => simp [intOf]; omega
            | some ad =>
              have hcl := rows_cells Hsp.out
              have Hcl := Lib.hid hcl
              have Hus := Lib.hid (show us.length = M.length by simpa using Hsp.out.top.1)
              clear hcl
              rw [← hMl]
              clear hMl hs1 hs2
              go_wp2_with (at_builtin; refine wpList_append_own _ rfl _ _ 25 rfl w.heap.size 28 j0 (.slice none 0 0) 1 24 Tryd.underlying25 hj hy0 hy1 hy2 rfl (by decide) _ Pl vs rfl (by have := Hown4.out.top; rw [← HPl.out] at this; exact this) ad Ml sc us rfl ?f1 ?f2 ?f3 ?f4 ?f5 ?f6 ?_)
              case f1 => rw [Hus.out, HMl.out]; omega
              case f2 => exact Hcl.out.1
              case f3 => exact Hcl.out.2
              case f4 => unfold maxLen; omega
              case f5 => omega
              case f6 => exact HB4.out
              intro v'' w5 hown5 hgrow5 _
              have hjoin := Hown4.out.join Hsp.out (Nat.le_trans HB.out HB3.out) Hold.out (by rw [HPl.out, HMl.out] at hown5; exact hown5) (fun x ys hx => by have := Hown4.out.top; rw [← HPl.out] at this; exact hx.kept_top this hgrow5)
              have hb5 : Below w.heap.size w4 w5 := Below.grown (Below.refl _ _) hgrow5 HB4.out (fun k hk => by have := Hown4.out.top; rw [← HPl.out] at this; exact (World.ownsRow.lt this k hk).1)
              have Hjoin := Lib.hid hjoin
              have Hb5 := Lib.hid (Hb4.out.trans hb5)
              clear hown5 hgrow5 hjoin hb5
              go_wp2
              go_roundw
              case rel => exact ⟨v + 1, _, by omega, by omega, by go_num, by rw [Hst.out]; exact Hjoin.out, Hb5.out⟩
              case measure => simp [intOf]; omega
          · have hb0 : ((fs.length : Int) == 0) = false := by simp; intro h; exact hf0 (by rw [h]; rfl)
            have hk0 : 0 < fs.length := by omega
            obtain ⟨b2, o2, e2, hcc⟩ := H2.out.below Hbr.out (fs.length - 1) (by omega)
            obtain ⟨u, hu⟩ : ∃ u, u = gi fs (fs.length - 1) := ⟨_, rfl⟩
            have huv : decide (u < v) = true := by rw [hu, ← lst_gi hk0]; simpa using Hc.out
            rw [← hu] at hcc
            subst e2
            clear hf0 hu
            go_wp2_with fail
            refine Hl1.out.mono ?_
            rintro e w2 ⟨f1, rfl, hf1, hb2⟩
            obtain ⟨fa, fc, hff, _, _, _⟩ := hf1.read
            obtain ⟨fl, hfl⟩ : ∃ fl, fl = fs.length := ⟨_, rfl⟩
            rw [← hfl] at hff
            subst hff
            have HF1 := Lib.hid hf1
            have Hb2 := Lib.hid hb2
            have HB2 := Lib.hid hb2.size
            have Hfl := Lib.hid hfl
            have hflb : fl ≤ 6 := by omega
            clear hf1 hb2 hfl
            go_wp2_with (at_builtin; refine wpList_append_own _ rfl _ _ 28 rfl wr.heap.size 3 i0 (.int .i64 0) 1 8 Tryd.underlying28 hi hz0 hz1 hz2 rfl (by decide) _ fl _ rfl (by have := World.ownsRow.alloc HF1.out (.cells #[.int .i64 v] 3); rw [← Hfl.out] at this; exact this) ⟨w2.heap.size, 0, none⟩ 1 1 [.int .i64 v] rfl rfl ?e1 ?e2 ?e3 ?e4 ?e5 ?_)
            case e1 => exact cell_one_new _ _ _
            case e2 => intro u hu; simp at hu; subst hu; rfl
            case e3 => unfold maxLen; omega
            case e4 => omega
            case e5 => have := HB2.out; simp; omega
            intro v' w3 hown' hgrow _
            rw [Hfl.out] at hown'
            have hput := HF1.out.snoc HB2.out hown' hgrow
            obtain ⟨ga, gc, hgg, hgc, hgc2, hgr⟩ := hput.1.read
            have hga : ga = none → gc = 0 := by
              intro e
              subst e
              obtain ⟨_, _, e, _⟩ := hgr 0 (by simp)
              cases e
            have h13 := Hb2.out.trans hput.2
            have hrec := Hih.out (fs ++ [v]) (some ⟨b0, o0, none⟩) ga c1 gc w3 (by have := Hd.out; simp; omega) hga ((H1.out.below Hbr.out).below h13) hgr
            rw [show (fs ++ [v]).length = fs.length + 1 from by simp, lst_snoc] at hrec
            rw [show (fs ++ [v]).length = fs.length + 1 from by simp] at hgg
            obtain ⟨fl1, hfl1⟩ : ∃ fl1, fl1 = fs.length + 1 := ⟨_, rfl⟩
            rw [← hfl1] at hgg
            have hrec' : Calls Tryd.prog 76 #[.slice (some ⟨b0, o0, none⟩) xs.length c1, .slice ga fl1 gc] w3 fun e w' => ∃ v', e = .returned v' ∧ OwnM w' w3.heap.size v' ((ab (xs.drop (fs.length + 1)) v).map fun ys => (fs ++ [v]) ++ ys) ∧ Below w3.heap.size w3 w' := by rw [hfl1]; exact hrec
            subst hgg
            have Hrec := Lib.hid hrec'
            have Hput := Lib.hid h13
            clear hown' hgrow hput hgc hgc2 hgr hga hrec hfl1 hrec' h13
            go_wp2_with fail
            refine Hrec.out.mono ?_
            rintro e w4 ⟨sub, rfl, hsub, hb4⟩
            obtain ⟨M, hM⟩ : ∃ M, M = (ab (xs.drop (fs.length + 1)) v).map fun ys => (fs ++ [v]) ++ ys := ⟨_, rfl⟩
            obtain ⟨P0, hP0⟩ : ∃ P0, P0 = abPart xs fs v := ⟨_, rfl⟩
            rw [← hM] at hsub Hst
            rw [← hP0] at Hown Hst
            obtain ⟨sa, sc, us, rfl, hsp, hs1, hs2⟩ := hsub.open
            have hpl := Hplen.out (v + 1) (by omega)
            rw [Hst.out, List.length_append] at hpl
            have Hown4 := Lib.hid (Hown.out.below (Hput.out.trans (hb4.mono Hput.out.size)))
            have Hb4 := Lib.hid (Hbr.out.trans ((Hput.out.trans (hb4.mono Hput.out.size)).mono HB.out))
            have HB4 := Lib.hid Hb4.out.size
            have HB3 := Lib.hid Hput.out.size
            have Hold := Lib.hid (show ∀ i, i < P0.length → ∀ g, (vs.getD i undef).ownBlock = some g → g < w3.heap.size from fun i hi g hg => Nat.lt_of_lt_of_le ((Hown.out.rows i hi).lt g hg).2 Hput.out.size)
            have Hsp := Lib.hid hsp
            obtain ⟨oa, oc, hoo, _, _, _⟩ := ownsRow_read Hown4.out.top
            obtain ⟨Ml, hMl⟩ : ∃ Ml, Ml = M.length := ⟨_, rfl⟩
            obtain ⟨Pl, hPl⟩ : ∃ Pl, Pl = P0.length := ⟨_, rfl⟩
            rw [← hPl] at hoo
            have HMl := Lib.hid hMl
            have HPl := Lib.hid hPl
            have hpl2 : Pl + Ml ≤ 1048576 := by omega
            clear hsub hb4 hM hP0 hsp hpl hPl
            subst hoo
            cases sa with
            | none =>
              have hM0 : M = [] := by
                have := Hsp.out.top.2
                rcases this with ⟨h1, h2⟩ | ⟨g, cap, cur, h1, _⟩
                · exact List.eq_nil_of_length_eq_zero h2
                · simp at h1
              have hsc : sc = 0 := by
                have := Hsp.out.top.2
                rcases this with ⟨h1, h2⟩ | ⟨g, cap, cur, h1, _⟩
                · simp at h1; exact h1.2
                · simp at h1
              subst hM0 hsc
              clear hs1 hs2
              go_wp2_with (at_builtin; refine wpList_append_own_none rfl _ _ 25 rfl w.heap.size 28 j0 1 Tryd.underlying25 hj _ _ _ rfl (by have := Hown4.out.top; exact this) rfl ?_)
              go_wp2
              go_roundw
              case rel => exact ⟨v + 1, vs, by omega, by omega, by go_num, by rw [Hst.out, List.append_nil]; exact Hown4.out, Hb4.out⟩
              case measure => simp [intOf]; omega
            | some ad =>
              have hcl := rows_cells Hsp.out
              have Hcl := Lib.hid hcl
              have Hus := Lib.hid (show us.length = M.length by simpa using Hsp.out.top.1)
              clear hcl
              rw [← hMl]
              clear hMl hs1 hs2
              go_wp2_with (at_builtin; refine wpList_append_own _ rfl _ _ 25 rfl w.heap.size 28 j0 (.slice none 0 0) 1 24 Tryd.underlying25 hj hy0 hy1 hy2 rfl (by decide) _ Pl vs rfl (by have := Hown4.out.top; rw [← HPl.out] at this; exact this) ad Ml sc us rfl ?f1 ?f2 ?f3 ?f4 ?f5 ?f6 ?_)
              case f1 => rw [Hus.out, HMl.out]; omega
              case f2 => exact Hcl.out.1
              case f3 => exact Hcl.out.2
              case f4 => unfold maxLen; omega
              case f5 => omega
              case f6 => exact HB4.out
              intro v'' w5 hown5 hgrow5 _
              have hjoin := Hown4.out.join Hsp.out (Nat.le_trans HB.out HB3.out) Hold.out (by rw [HPl.out, HMl.out] at hown5; exact hown5) (fun x ys hx => by have := Hown4.out.top; rw [← HPl.out] at this; exact hx.kept_top this hgrow5)
              have hb5 : Below w.heap.size w4 w5 := Below.grown (Below.refl _ _) hgrow5 HB4.out (fun k hk => by have := Hown4.out.top; rw [← HPl.out] at this; exact (World.ownsRow.lt this k hk).1)
              have Hjoin := Lib.hid hjoin
              have Hb5 := Lib.hid (Hb4.out.trans hb5)
              clear hown5 hgrow5 hjoin hb5
              go_wp2
              go_roundw
              case rel => exact ⟨v + 1, _, by omega, by omega, by go_num, by rw [Hst.out]; exact Hjoin.out, Hb5.out⟩
              case measure => simp [intOf]; omega
        · rw [if_neg hc, List.append_nil] at Hst
          have Hc := Lib.hid hc
          clear hc
          by_cases hf0 : fs.length = 0
          · exfalso
            have e : fs = [] := List.eq_nil_of_length_eq_zero hf0
            rw [e, lst_nil] at Hc
            exact Hc.out (by omega)
          · have hb0 : ((fs.length : Int) == 0) = false := by simp; intro h; exact hf0 (by rw [h]; rfl)
            have hk0 : 0 < fs.length := by omega
            obtain ⟨b2, o2, e2, hcc⟩ := H2.out.below Hbr.out (fs.length - 1) (by omega)
            obtain ⟨u, hu⟩ : ∃ u, u = gi fs (fs.length - 1) := ⟨_, rfl⟩
            have huv : decide (u < v) = false := by rw [hu, ← lst_gi hk0]; simpa using Hc.out
            rw [← hu] at hcc
            subst e2
            clear hf0 hu
            go_wp2
            go_roundw
            case rel => exact ⟨v + 1, vs, by omega, by omega, by go_num, by rw [Hst.out]; exact Hown.out, Hbr.out⟩
            case measure => simp [intOf]; omega
      · obtain rfl : v = z + 1 := by omega
        go_wp2
        go_ret
        rw [Hend.out] at Hown
        exact ⟨_, rfl, ⟨vs, Hown.out⟩, Hbr.out⟩

set_option maxRecDepth 100000 in
set_option maxHeartbeats 1600000 in
theorem specRowsAbove_any (ao : Option Addr) (c : Nat) (xs : List Int) (w : World) (hn : xs.length ≤ 1048576) (hx : IntsAt w ao xs) :
    Calls Tryd.prog 26 #[.slice ao xs.length c] w fun e w' => MRes (isRowP xs) (above xs) w' w.heap.size e ∧ Below w.heap.size w w' := by
  have hmx : xs.length ≤ 9223372036854775807 := by omega
  have Hx := Lib.hid hx
  clear hx
  by_cases hg : isRowP xs
  · have hr := ((isRowP_iff _).1 hg).2.2
    have h6 := hg.2.1
    have h1 := hg.1
    have Hg := Lib.hid hg
    have Hr := Lib.hid hr
    clear hg hr
    by_cases h2 : xs.length = 1
    · have hb : ((xs.length : Int) == 1) = true := by simp; omega
      have H2 := Lib.hid h2
      clear h2 h6 h1
      go_enter Tryd.func26, Tryd.ntmps26
      go_wp2_with fail
      refine (trRow_any ao c xs w hn Hx.out).mono ?_
      rintro e w2 ⟨ha, rfl⟩
      obtain rfl := ha.is Hg.out
      clear ha
      go_wp2
      go_ret2
      exact ⟨MRes.yes Hg.out (by rw [above_one (by rw [H2.out]; omega)]; exact OwnM.nil _ _), Below.refl _ _⟩
    · have hb : ((xs.length : Int) == 1) = false := by simp; omega
      have Ht := Lib.hid (trAbove_any xs Hr.out h6 (xs.length - 1) [] ao none c 0 w (by simp; omega) (fun _ => rfl) Hx.out (IntsAt.nil _ _))
      have h3 : ¬ xs.length < 2 := by omega
      have Ha := Lib.hid (show (ab (xs.drop ([] : List Int).length) (lst [])).map (fun ys => [] ++ ys) = above xs by simp [above, h3, lst_nil])
      have H2 := Lib.hid h2
      clear h2 h3
      go_enter Tryd.func26, Tryd.ntmps26
      go_wp2_with fail
      refine (trRow_any ao c xs w hn Hx.out).mono ?_
      rintro e w2 ⟨ha, rfl⟩
      obtain rfl := ha.is Hg.out
      clear ha
      go_wp2_with fail
      refine Ht.out.mono ?_
      rintro e w1 ⟨v, rfl, hv, hb1⟩
      rw [Ha.out] at hv
      have Hv := Lib.hid hv
      have Hb1 := Lib.hid hb1
      clear hv hb1
      go_wp2
      go_ret2
      exact ⟨MRes.yes Hg.out Hv.out, Hb1.out⟩
  · have Hg := Lib.hid hg
    clear hg
    go_enter Tryd.func26, Tryd.ntmps26
    go_wp2_with fail
    refine (trRow_any ao c xs w hn Hx.out).mono ?_
    rintro e w2 ⟨ha, rfl⟩
    obtain rfl := ha.isnt Hg.out
    clear ha
    go_wp2
    go_ret2
    exact ⟨MRes.no Hg.out, Below.refl _ _⟩

theorem implRowsAbove_law (ao : Option Addr) (c : Nat) (xs : List Int) (w : World) (hn : xs.length ≤ 1048576) (_ : WfI xs) (hx : IntsAt w ao xs) (hD : Dj w) :
    Calls Tryd.prog 23 #[.slice ao xs.length c] w fun e w' => MRes (isRowP xs) (above xs) w' w.heap.size e ∧ Below w.heap.size w w' := implRowsAbove_any ao c xs w hn hx hD
theorem above_small {xs : List Int} (h : isRowP xs) : Small (above xs) := by
  have hr := ((isRowP_iff _).1 h).2.2
  have h6 := h.2.1
  have hl := above_len hr
  have hp : 16 ^ (xs.length - 1) ≤ 16 ^ 5 := Nat.pow_le_pow_right (by omega) (by omega)
  exact ⟨by omega, fun i hi => by have := (above_mem hr (gr_mem hi)).2; omega⟩
end Go.Proofs.YtnhkclnloiiihaaDoor

