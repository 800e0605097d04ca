/- Parts of proofs: contracts and plain facts. Conditions: as each says. -/
import Derived.Test.YtmcgnbbobhfkpaaDoorK04
namespace Go.Proofs.YtmcgnbbobhfkpaaDoor
open Go.RowKit

def bhLow (row fs : List Int) : Int := max (if fs.length = 0 then 0 else gi row (fs.length - 1)) (lst fs + 1)
def bhHigh (n : Nat) (row fs : List Int) : Int := if fs.length < row.length then gi row fs.length else (n : Int) - 1
/-- the rows that go on 'first' -/
def bhRes (n : Nat) (row fs : List Int) : List (List Int) := if fs.length = row.length + 1 then [fs] else (bh n (row.drop fs.length) (if fs.length = 0 then 0 else gi row (fs.length - 1)) (lst fs)).map fun ys => fs ++ ys
theorem bhNext_res {n : Nat} {row fs : List Int} {v : Int} (h : fs.length ≤ row.length) : bhNext n row fs v = bhRes n row (fs ++ [v]) := by
  unfold bhNext bhRes
  by_cases e : fs.length = row.length
  · rw [if_pos (by simp; omega), List.drop_of_length_le (by omega)]
  · rw [if_neg (by simp; omega), List.drop_eq_getElem_cons (by omega : fs.length < row.length)]
    simp only [List.length_append, List.length_cons, List.length_nil, lst_snoc]
    rw [if_neg (by omega), show fs.length + (0 + 1) - 1 = fs.length from by omega, show fs.length + (0 + 1) = fs.length + 1 from by omega, gi_lt (by omega : fs.length < row.length)]
theorem bhPart_end {n : Nat} {row fs : List Int} (h : fs.length ≤ row.length) : bhPart n row fs (bhLow row fs) (bhHigh n row fs + 1) = bhRes n row fs := by
  unfold bhPart bhRes bhLow bhHigh
  rw [if_neg (by omega : ¬ fs.length = row.length + 1)]
  by_cases e : fs.length = row.length
  · rw [List.drop_of_length_le (by omega), if_neg (by omega : ¬ fs.length < row.length)]
    simp only [bh, List.map_map]
    rw [show (n : Int) - 1 + 1 - 1 = n - 1 from by omega]
    rfl
  · rw [List.drop_eq_getElem_cons (by omega : fs.length < row.length), if_pos (by omega : fs.length < row.length), gi_lt (by omega : fs.length < row.length)]
    simp only [bh, List.map_flatMap, List.map_map, Function.comp_def, List.append_assoc, List.cons_append, List.nil_append]
    rw [show row[fs.length] + 1 - 1 = row[fs.length] from by omega]
theorem bhRes_len {n : Nat} (hn : n ≤ 6) {row fs : List Int} (hr : ColsN n row) (hl : row.length ≤ 6) : (bhRes n row fs).length ≤ 1048576 := by
  unfold bhRes
  split
  · simp
  · rw [List.length_map]
    have h1 := bh_len hn (row := row.drop fs.length) (fun x hx => hr.2 x (List.mem_of_mem_drop hx)) (L := if fs.length = 0 then 0 else gi row (fs.length - 1)) (p := lst fs) (by
      split
      · omega
      · by_cases hh : fs.length - 1 < row.length
        · exact (hr.2 _ (gi_mem hh)).1
        · simp [gi, List.getD, hh])
    have h2 : 6 ^ ((row.drop fs.length).length + 1) ≤ 6 ^ 7 := Nat.pow_le_pow_right (by omega) (by rw [List.length_drop]; omega)
    omega
theorem bhPart_len {n : Nat} (hn : n ≤ 6) {row fs : List Int} (hr : ColsN n row) (hl : row.length ≤ 6) (h : fs.length ≤ row.length) {v : Int} (hv : v ≤ bhHigh n row fs + 1) : (bhPart n row fs (bhLow row fs) v).length ≤ 1048576 := by
  have hx := bhRes_len hn (fs := fs) hr hl
  rw [← bhPart_end h] at hx
  clear hx
  have hlo : 0 ≤ bhLow row fs := by unfold bhLow; split <;> first | omega | (have := hr.2 _ (gi_mem (show fs.length - 1 < row.length by omega)); omega)
  have hhi : bhHigh n row fs ≤ 5 := by
    unfold bhHigh
    split
    · next h => have := hr.2 _ (gi_mem h); omega
    · omega
  have rl : (rng (bhLow row fs) (v - 1)).length ≤ 6 := by unfold rng; simp; omega
  unfold bhPart
  split
  · rw [List.length_map]; omega
  · next a r e =>
    have ha : a ∈ row := List.mem_of_mem_drop (by rw [e]; simp)
    refine Nat.le_trans (flatMap_le (k := 6 ^ 6) rl (fun x _ => ?_)) (by omega)
    rw [List.length_map]
    have hrl : r.length + 1 ≤ 6 := by have := congrArg List.length e; rw [List.length_drop] at this; simp at this; omega
    exact Nat.le_trans (bh_len hn (fun y hy => hr.2 y (List.mem_of_mem_drop (by rw [e]; simp [hy]))) (hr.2 a ha).1) (Nat.pow_le_pow_right (by omega) (by omega))
theorem bhPart_nil {n : Int} {row fs : List Int} {lo v : Int} (h : v ≤ lo) : bhPart n row fs lo v = [] := by
  unfold bhPart
  rw [rng_nil (by omega)]
  split <;> rfl

set_option maxRecDepth 100000 in
set_option maxHeartbeats 3200000 in
theorem trBehind_any (n : Nat) (hn : n ≤ 6) (row : List Int) (hr : ColsN n row) (h6 : row.length ≤ 6) : ∀ (d : Nat) (fs : List Int) (a1 a2 : Option Addr) (c1 c2 : Nat) (w : World), fs.length + d = row.length + 1 → fs.length ≤ row.length + 1 → (∀ x ∈ fs, 0 ≤ x ∧ x < (n : Int)) → (a2 = none → c2 = 0) → IntsAt w a1 row → IntsAt w a2 fs →
    Calls Tryd.prog 34 #[.slice a1 row.length c1, .slice a2 fs.length c2, .int .i64 (n : Int)] w fun e w' => ∃ v, e = .returned v ∧ OwnM w' w.heap.size v (bhRes n row fs) ∧ Below w.heap.size w w' := by
  intro d
  induction d with
  | zero =>
    intro fs a1 a2 c1 c2 w hd _ _ h0 h1 h2
    have hfl : fs.length ≤ 1048576 := by omega
    have hk : ((fs.length : Int) == (row.length : Int) + 1) = true := by simp; omega
    have E1 := Lib.hid (show bhRes n row fs = [fs] by unfold bhRes; rw [if_pos (by omega)])
    have hfx : fs.length ≤ 9223372036854775807 := by omega
    have hxx : row.length ≤ 9223372036854775807 := by omega
    have Hown := Lib.hid (l1Own_any a2 c2 fs w hfl h0 h2)
    clear h2 hd h1 h0
    go_enter Tryd.func34, Tryd.ntmps34
    go_wp2_with fail
    refine Hown.out.mono ?_
    rintro e w1 ⟨v, rfl, hv, hb⟩
    obtain ⟨va, vc, hvv, _, _, _⟩ := hv.read
    obtain ⟨fl, hfl⟩ : ∃ fl, fl = fs.length := ⟨_, rfl⟩
    rw [← hfl] at hvv
    subst hvv
    have hb1 : Below w1.heap.size w1 (w1.alloc (.cells #[.slice va fl vc] 25)) := (Below.refl _ _).alloc (Nat.le_refl _) _
    have hres : OwnM (w1.alloc (.cells #[.slice va fl vc] 25)) w.heap.size (.slice (some ⟨w1.heap.size, 0, none⟩) 1 1) [fs] :=
      ⟨[.slice va fl vc], ownsRow_built w1 [.slice va fl vc] hb.size (by simp), fun i hi => by obtain rfl : i = 0 := (by simpa using hi); exact hv.below hb1, fun i j hij hj => by simp at hj; omega⟩
    have Hres := Lib.hid hres
    have Hb := Lib.hid (hb.trans (hb1.mono hb.size))
    clear hv hb hb1 hres hfl
    go_wp2
    go_ret
    exact ⟨_, rfl, by rw [E1.out]; exact Hres.out, Hb.out⟩
  | succ d ih =>
    intro fs a1 a2 c1 c2 w hd _ hfs h0 h1 h2
    have hkr : fs.length ≤ row.length := by omega
    have Hk := Lib.hid hkr
    have Hd := Lib.hid hd
    have H1 := Lib.hid h1
    have H2 := Lib.hid h2
    have H0 := Lib.hid h0
    have Hih := Lib.hid ih
    have Hfs := Lib.hid hfs
    have hk : ((fs.length : Int) == (row.length : Int) + 1) = false := by simp; omega
    have hfx : fs.length ≤ 6 := by omega
    have hlst : -1 ≤ lst fs ∧ lst fs < (n : Int) := by
      by_cases hf : fs = []
      · subst hf; rw [lst_nil]; omega
      · have := hfs _ (lst_mem hf); omega
    obtain ⟨j0, hj, hy0, hy1, hy2⟩ := info_parts Tryd.info_ints
    obtain ⟨i0, hi, hz0, hz1, hz2⟩ := info_parts Tryd.info_int
    obtain ⟨lo, hlo⟩ : ∃ lo, lo = bhLow row fs := ⟨_, rfl⟩
    obtain ⟨hi', hhi⟩ : ∃ h, h = bhHigh n row fs := ⟨_, rfl⟩
    have hlob : 0 ≤ lo ∧ lo ≤ 10 := by
      rw [hlo]
      unfold bhLow
      split
      · omega
      · have := hr.2 _ (gi_mem (show fs.length - 1 < row.length by omega)); omega
    have hhib : -1 ≤ hi' ∧ hi' < (n : Int) := by
      rw [hhi]
      unfold bhHigh
      split
      · next h => have := hr.2 _ (gi_mem h); omega
      · omega
    have Hstart := Lib.hid (bhPart_start n row fs lo)
    have Hend := Lib.hid (show bhPart n row fs lo (hi' + 1) = bhRes n row fs by rw [hlo, hhi]; exact bhPart_end hkr)
    have Hplen := Lib.hid (show ∀ v, v ≤ hi' + 1 → (bhPart n row fs lo v).length ≤ 1048576 from fun v hv => by rw [hlo]; exact bhPart_len hn hr h6 hkr (by rw [← hhi]; exact hv))
    have Hlo := Lib.hid hlo
    have Hhi := Lib.hid hhi
    clear h1 h2 h0 ih hd hfs hlo hhi hkr
    by_cases hf0 : fs.length = 0
    · obtain rfl : fs = [] := List.eq_nil_of_length_eq_zero hf0
      have hk' : ((0 : Int) == (row.length : Int) + 1) = false := by simp; omega
      clear hk hfx hlst hf0
      by_cases hin : 0 < row.length
      · obtain ⟨br, or, er, hcr⟩ := H1.out 0 hin
        have hcrk : gi row 0 = hi' := by rw [Hhi.out]; unfold bhHigh; rw [if_pos (show ([] : List Int).length < row.length from hin)]; rfl
        rw [hcrk, Nat.add_zero] at hcr
        clear hcrk
        have hinI : (0 : Int) < (row.length : Int) := by omega
        have hlo0 : lo = 0 := by rw [Hlo.out]; rfl
        subst er
        subst hlo0
        change Calls _ _ #[.slice _ row.length c1, .slice a2 0 c2, .int .i64 (n : Int)] _ _
        go_enter Tryd.func34, Tryd.ntmps34
        go_wp2
        go_loopw [10, 11] (fun out i wr => ∃ (v : Int) (vs : List Value), 0 ≤ v ∧ (0 ≤ hi' → v ≤ hi' + 1) ∧ (hi' < 0 → v = 0) ∧ i = .int .i64 v ∧ OwnP wr w.heap.size out (bhPart n row [] 0 v).length (bhPart n row [] 0 v) (bhPart n row [] 0 v).length vs ∧ Below w.heap.size w wr) (fun _ i _ => (hi' + 1 - intOf i).toNat)
        case atStart => exact ⟨0, [], Int.le_refl _, fun h => by omega, fun _ => rfl, rfl, by rw [Hstart.out]; exact OwnP.nil _ _ _, Below.refl _ _⟩
        case round =>
          obtain ⟨v, vs, hv1, hv2, hv3, rfl, hown, hbr⟩ := hrel
          have Hown := Lib.hid hown
          have Hbr := Lib.hid hbr
          clear hown hbr
          by_cases hvz : v ≤ hi'
          · have hv0 : 0 ≤ v := by omega
            have hvn : v < (n : Int) := by omega
            have Hst := Lib.hid (bhPart_step (n := (n : Int)) (row := row) (first := []) hv1)
            have HB := Lib.hid Hbr.out.size
            have Hl1 := Lib.hid (l1Own_any a2 c2 [] wr (by omega) H0.out (H2.out.below Hbr.out))
            go_wp2_with fail
            refine Hl1.out.mono ?_
            rintro e w2 ⟨f1, rfl, hf1, hb2⟩
            obtain ⟨fa, fc, hff, _, _, _⟩ := hf1.read
            obtain ⟨fl, hfl⟩ : ∃ fl, fl = ([] : List Int).length := ⟨_, rfl⟩
            rw [← hfl] at hff
            subst hff
            have HF1 := Lib.hid hf1
            have Hb2 := Lib.hid hb2
            have HB2 := Lib.hid hb2.size
            have Hfl := Lib.hid hfl
            have hflb : fl ≤ 6 := by rw [Hfl.out]; first | omega | simp
            clear hf1 hb2 hfl
            go_wp2_with (at_builtin; refine wpList_append_own _ rfl _ _ 25 rfl wr.heap.size 3 i0 (.int .i64 0) 1 8 Tryd.underlying25 hi hz0 hz1 hz2 rfl (by decide) _ fl _ rfl (by have := World.ownsRow.alloc HF1.out (.cells #[.int .i64 v] 3); rw [← Hfl.out] at this; exact this) ⟨w2.heap.size, 0, none⟩ 1 1 [.int .i64 v] rfl rfl ?e1 ?e2 ?e3 ?e4 ?e5 ?_)
            case e1 => exact cell_one_new _ _ _
            case e2 => intro u hu; simp at hu; subst hu; rfl
            case e3 => unfold maxLen; omega
            case e4 => omega
            case e5 => have := HB2.out; simp; omega
            intro v' w3 hown' hgrow _
            rw [Hfl.out] at hown'
            have hput := HF1.out.snoc HB2.out hown' hgrow
            obtain ⟨ga, gc, hgg, hgc, hgc2, hgr⟩ := hput.1.read
            have hga : ga = none → gc = 0 := by
              intro e
              subst e
              obtain ⟨_, _, e, _⟩ := hgr 0 (by simp)
              cases e
            have h13 := Hb2.out.trans hput.2
            have hrec := Hih.out (([] : List Int) ++ [v]) (some ⟨br, or, none⟩) ga c1 gc w3 (by have := Hd.out; simp at this ⊢; omega) (by have := Hk.out; simp at this ⊢ <;> omega) (fun x hx => by rcases List.mem_append.1 hx with h | h; exact Hfs.out x h; simp at h; subst h; exact ⟨hv0, hvn⟩) hga ((H1.out.below Hbr.out).below h13) hgr
            rw [← bhNext_res Hk.out] at hrec
            rw [show (([] : List Int) ++ [v]).length = ([] : List Int).length + 1 from by simp] at hrec
            rw [show (([] : List Int) ++ [v]).length = ([] : List Int).length + 1 from by simp] at hgg
            obtain ⟨fl1, hfl1⟩ : ∃ fl1, fl1 = ([] : List Int).length + 1 := ⟨_, rfl⟩
            rw [← hfl1] at hgg
            have hrec' : Calls Tryd.prog 34 #[.slice (some ⟨br, or, none⟩) row.length c1, .slice ga fl1 gc, .int .i64 (n : Int)] w3 fun e w' => ∃ v', e = .returned v' ∧ OwnM w' w3.heap.size v' (bhNext n row [] v) ∧ Below w3.heap.size w3 w' := by rw [hfl1]; exact hrec
            subst hgg
            have Hrec := Lib.hid hrec'
            have Hput := Lib.hid h13
            clear hown' hgrow hput hgc hgc2 hgr hga hrec hfl1 hrec' h13
            go_wp2_with fail
            refine Hrec.out.mono ?_
            rintro e w4 ⟨sub, rfl, hsub, hb4⟩
            obtain ⟨M, hM⟩ : ∃ M, M = bhNext n row [] v := ⟨_, rfl⟩
            obtain ⟨P0, hP0⟩ : ∃ P0, P0 = bhPart n row [] 0 v := ⟨_, rfl⟩
            rw [← hM] at hsub Hst
            rw [← hP0] at Hown Hst
            obtain ⟨sa, sc, us, rfl, hsp, hs1, hs2⟩ := hsub.open
            have hpl := Hplen.out (v + 1) (by omega)
            rw [Hst.out, List.length_append] at hpl
            have Hown4 := Lib.hid (Hown.out.below (Hput.out.trans (hb4.mono Hput.out.size)))
            have Hb4 := Lib.hid (Hbr.out.trans ((Hput.out.trans (hb4.mono Hput.out.size)).mono HB.out))
            have HB4 := Lib.hid Hb4.out.size
            have HB3 := Lib.hid Hput.out.size
            have Hold := Lib.hid (show ∀ i, i < P0.length → ∀ g, (vs.getD i undef).ownBlock = some g → g < w3.heap.size from fun i hi g hg => Nat.lt_of_lt_of_le ((Hown.out.rows i hi).lt g hg).2 Hput.out.size)
            have Hsp := Lib.hid hsp
            obtain ⟨oa, oc, hoo, _, _, _⟩ := ownsRow_read Hown4.out.top
            obtain ⟨Ml, hMl⟩ : ∃ Ml, Ml = M.length := ⟨_, rfl⟩
            obtain ⟨Pl, hPl⟩ : ∃ Pl, Pl = P0.length := ⟨_, rfl⟩
            rw [← hPl] at hoo
            have HMl := Lib.hid hMl
            have HPl := Lib.hid hPl
            have hpl2 : Pl + Ml ≤ 1048576 := by omega
            clear hsub hb4 hM hP0 hsp hpl hPl
            subst hoo
            cases sa with
            | none =>
              have hM0 : M = [] := by
                have := Hsp.out.top.2
                rcases this with ⟨h1, h2⟩ | ⟨g, cap, cur, h1, _⟩
                · exact List.eq_nil_of_length_eq_zero h2
                · simp at h1
              have hsc : sc = 0 := by
                have := Hsp.out.top.2
                rcases this with ⟨h1, h2⟩ | ⟨g, cap, cur, h1, _⟩
                · simp at h1; exact h1.2
                · simp at h1
              subst hM0 hsc
              clear hs1 hs2
              go_wp2_with (at_builtin; refine wpList_append_own_none rfl _ _ 54 rfl w.heap.size 25 j0 1 Tryd.underlying54 hj _ _ _ rfl (by have := Hown4.out.top; exact this) rfl ?_)
              go_wp2
              go_roundw
              case rel => exact ⟨v + 1, vs, by omega, fun _ => by omega, fun h => by omega, by go_num, by rw [Hst.out, List.append_nil]; exact Hown4.out, Hb4.out⟩
              case measure => simp [intOf]; omega
            | some ad =>
              have hcl := rows_cells Hsp.out
              have Hcl := Lib.hid hcl
              have Hus := Lib.hid (show us.length = M.length by simpa using Hsp.out.top.1)
              clear hcl
              rw [← hMl]
              clear hMl hs1 hs2
              go_wp2_with (at_builtin; refine wpList_append_own _ rfl _ _ 54 rfl w.heap.size 25 j0 (.slice none 0 0) 1 24 Tryd.underlying54 hj hy0 hy1 hy2 rfl (by decide) _ Pl vs rfl (by have := Hown4.out.top; rw [← HPl.out] at this; exact this) ad Ml sc us rfl ?f1 ?f2 ?f3 ?f4 ?f5 ?f6 ?_)
              case f1 => rw [Hus.out, HMl.out]; omega
              case f2 => exact Hcl.out.1
              case f3 => exact Hcl.out.2
              case f4 => unfold maxLen; omega
              case f5 => omega
              case f6 => exact HB4.out
              intro v'' w5 hown5 hgrow5 _
              have hjoin := Hown4.out.join Hsp.out (Nat.le_trans HB.out HB3.out) Hold.out (by rw [HPl.out, HMl.out] at hown5; exact hown5) (fun x ys hx => by have := Hown4.out.top; rw [← HPl.out] at this; exact hx.kept_top this hgrow5)
              have hb5 : Below w.heap.size w4 w5 := Below.grown (Below.refl _ _) hgrow5 HB4.out (fun k hk => by have := Hown4.out.top; rw [← HPl.out] at this; exact (World.ownsRow.lt this k hk).1)
              have Hjoin := Lib.hid hjoin
              have Hb5 := Lib.hid (Hb4.out.trans hb5)
              clear hown5 hgrow5 hjoin hb5
              go_wp2
              go_roundw
              case rel => exact ⟨v + 1, _, by omega, fun _ => by omega, fun h => by omega, by go_num, by rw [Hst.out]; exact Hjoin.out, Hb5.out⟩
              case measure => simp [intOf]; omega
          · have hfin : bhPart n row [] 0 v = bhRes n row [] := by
              rw [← Hend.out]
              by_cases h : (0 : Int) ≤ hi'
              · rw [show v = hi' + 1 from by have := hv2 h; omega]
              · rw [hv3 (by omega), bhPart_nil (Int.le_refl _), bhPart_nil (by omega)]
            rw [hfin] at Hown
            clear hfin
            go_wp2
            go_ret
            exact ⟨_, rfl, ⟨vs, Hown.out⟩, Hbr.out⟩
      · have hhe : (n : Int) - 1 = hi' := by rw [Hhi.out]; unfold bhHigh; rw [if_neg (show ¬ ([] : List Int).length < row.length from hin)]
        have hinI : ¬ (0 : Int) < (row.length : Int) := by omega
        obtain rfl : hi' = (n : Int) - 1 := hhe.symm
        clear hhe
        have hlo0 : lo = 0 := by rw [Hlo.out]; rfl
        subst hlo0
        change Calls _ _ #[.slice _ row.length c1, .slice a2 0 c2, .int .i64 (n : Int)] _ _
        go_enter Tryd.func34, Tryd.ntmps34
        go_wp2
        go_loopw [10, 11] (fun out i wr => ∃ (v : Int) (vs : List Value), 0 ≤ v ∧ (0 ≤ ((n : Int) - 1) → v ≤ ((n : Int) - 1) + 1) ∧ (((n : Int) - 1) < 0 → v = 0) ∧ i = .int .i64 v ∧ OwnP wr w.heap.size out (bhPart n row [] 0 v).length (bhPart n row [] 0 v) (bhPart n row [] 0 v).length vs ∧ Below w.heap.size w wr) (fun _ i _ => (((n : Int) - 1) + 1 - intOf i).toNat)
        case atStart => exact ⟨0, [], Int.le_refl _, fun h => by omega, fun _ => rfl, rfl, by rw [Hstart.out]; exact OwnP.nil _ _ _, Below.refl _ _⟩
        case round =>
          obtain ⟨v, vs, hv1, hv2, hv3, rfl, hown, hbr⟩ := hrel
          have Hown := Lib.hid hown
          have Hbr := Lib.hid hbr
          clear hown hbr
          by_cases hvz : v ≤ ((n : Int) - 1)
          · have hv0 : 0 ≤ v := by omega
            have hvn : v < (n : Int) := by omega
            have Hst := Lib.hid (bhPart_step (n := (n : Int)) (row := row) (first := []) hv1)
            have HB := Lib.hid Hbr.out.size
            have Hl1 := Lib.hid (l1Own_any a2 c2 [] wr (by omega) H0.out (H2.out.below Hbr.out))
            go_wp2_with fail
            refine Hl1.out.mono ?_
            rintro e w2 ⟨f1, rfl, hf1, hb2⟩
            obtain ⟨fa, fc, hff, _, _, _⟩ := hf1.read
            obtain ⟨fl, hfl⟩ : ∃ fl, fl = ([] : List Int).length := ⟨_, rfl⟩
            rw [← hfl] at hff
            subst hff
            have HF1 := Lib.hid hf1
            have Hb2 := Lib.hid hb2
            have HB2 := Lib.hid hb2.size
            have Hfl := Lib.hid hfl
            have hflb : fl ≤ 6 := by rw [Hfl.out]; first | omega | simp
            clear hf1 hb2 hfl
            go_wp2_with (at_builtin; refine wpList_append_own _ rfl _ _ 25 rfl wr.heap.size 3 i0 (.int .i64 0) 1 8 Tryd.underlying25 hi hz0 hz1 hz2 rfl (by decide) _ fl _ rfl (by have := World.ownsRow.alloc HF1.out (.cells #[.int .i64 v] 3); rw [← Hfl.out] at this; exact this) ⟨w2.heap.size, 0, none⟩ 1 1 [.int .i64 v] rfl rfl ?e1 ?e2 ?e3 ?e4 ?e5 ?_)
            case e1 => exact cell_one_new _ _ _
            case e2 => intro u hu; simp at hu; subst hu; rfl
            case e3 => unfold maxLen; omega
            case e4 => omega
            case e5 => have := HB2.out; simp; omega
            intro v' w3 hown' hgrow _
            rw [Hfl.out] at hown'
            have hput := HF1.out.snoc HB2.out hown' hgrow
            obtain ⟨ga, gc, hgg, hgc, hgc2, hgr⟩ := hput.1.read
            have hga : ga = none → gc = 0 := by
              intro e
              subst e
              obtain ⟨_, _, e, _⟩ := hgr 0 (by simp)
              cases e
            have h13 := Hb2.out.trans hput.2
            have hrec := Hih.out (([] : List Int) ++ [v]) a1 ga c1 gc w3 (by have := Hd.out; simp at this ⊢; omega) (by have := Hk.out; simp at this ⊢ <;> omega) (fun x hx => by rcases List.mem_append.1 hx with h | h; exact Hfs.out x h; simp at h; subst h; exact ⟨hv0, hvn⟩) hga ((H1.out.below Hbr.out).below h13) hgr
            rw [← bhNext_res Hk.out] at hrec
            rw [show (([] : List Int) ++ [v]).length = ([] : List Int).length + 1 from by simp] at hrec
            rw [show (([] : List Int) ++ [v]).length = ([] : List Int).length + 1 from by simp] at hgg
            obtain ⟨fl1, hfl1⟩ : ∃ fl1, fl1 = ([] : List Int).length + 1 := ⟨_, rfl⟩
            rw [← hfl1] at hgg
            have hrec' : Calls Tryd.prog 34 #[.slice a1 row.length c1, .slice ga fl1 gc, .int .i64 (n : Int)] w3 fun e w' => ∃ v', e = .returned v' ∧ OwnM w' w3.heap.size v' (bhNext n row [] v) ∧ Below w3.heap.size w3 w' := by rw [hfl1]; exact hrec
            subst hgg
            have Hrec := Lib.hid hrec'
            have Hput := Lib.hid h13
            clear hown' hgrow hput hgc hgc2 hgr hga hrec hfl1 hrec' h13
            go_wp2_with fail
            refine Hrec.out.mono ?_
            rintro e w4 ⟨sub, rfl, hsub, hb4⟩
            obtain ⟨M, hM⟩ : ∃ M, M = bhNext n row [] v := ⟨_, rfl⟩
            obtain ⟨P0, hP0⟩ : ∃ P0, P0 = bhPart n row [] 0 v := ⟨_, rfl⟩
            rw [← hM] at hsub Hst
            rw [← hP0] at Hown Hst
            obtain ⟨sa, sc, us, rfl, hsp, hs1, hs2⟩ := hsub.open
            have hpl := Hplen.out (v + 1) (by omega)
            rw [Hst.out, List.length_append] at hpl
            have Hown4 := Lib.hid (Hown.out.below (Hput.out.trans (hb4.mono Hput.out.size)))
            have Hb4 := Lib.hid (Hbr.out.trans ((Hput.out.trans (hb4.mono Hput.out.size)).mono HB.out))
            have HB4 := Lib.hid Hb4.out.size
            have HB3 := Lib.hid Hput.out.size
            have Hold := Lib.hid (show ∀ i, i < P0.length → ∀ g, (vs.getD i undef).ownBlock = some g → g < w3.heap.size from fun i hi g hg => Nat.lt_of_lt_of_le ((Hown.out.rows i hi).lt g hg).2 Hput.out.size)
            have Hsp := Lib.hid hsp
            obtain ⟨oa, oc, hoo, _, _, _⟩ := ownsRow_read Hown4.out.top
            obtain ⟨Ml, hMl⟩ : ∃ Ml, Ml = M.length := ⟨_, rfl⟩
            obtain ⟨Pl, hPl⟩ : ∃ Pl, Pl = P0.length := ⟨_, rfl⟩
            rw [← hPl] at hoo
            have HMl := Lib.hid hMl
            have HPl := Lib.hid hPl
            have hpl2 : Pl + Ml ≤ 1048576 := by omega
            clear hsub hb4 hM hP0 hsp hpl hPl
            subst hoo
            cases sa with
            | none =>
              have hM0 : M = [] := by
                have := Hsp.out.top.2
                rcases this with ⟨h1, h2⟩ | ⟨g, cap, cur, h1, _⟩
                · exact List.eq_nil_of_length_eq_zero h2
                · simp at h1
              have hsc : sc = 0 := by
                have := Hsp.out.top.2
                rcases this with ⟨h1, h2⟩ | ⟨g, cap, cur, h1, _⟩
                · simp at h1; exact h1.2
                · simp at h1
              subst hM0 hsc
              clear hs1 hs2
              go_wp2_with (at_builtin; refine wpList_append_own_none rfl _ _ 54 rfl w.heap.size 25 j0 1 Tryd.underlying54 hj _ _ _ rfl (by have := Hown4.out.top; exact this) rfl ?_)
              go_wp2
              go_roundw
              case rel => exact ⟨v + 1, vs, by omega, fun _ => by omega, fun h => by omega, by go_num, by rw [Hst.out, List.append_nil]; exact Hown4.out, Hb4.out⟩
              case measure => simp [intOf]; omega
            | some ad =>
              have hcl := rows_cells Hsp.out
              have Hcl := Lib.hid hcl
              have Hus := Lib.hid (show us.length = M.length by simpa using Hsp.out.top.1)
              clear hcl
              rw [← hMl]
              clear hMl hs1 hs2
              go_wp2_with (at_builtin; refine wpList_append_own _ rfl _ _ 54 rfl w.heap.size 25 j0 (.slice none 0 0) 1 24 Tryd.underlying54 hj hy0 hy1 hy2 rfl (by decide) _ Pl vs rfl (by have := Hown4.out.top; rw [← HPl.out] at this; exact this) ad Ml sc us rfl ?f1 ?f2 ?f3 ?f4 ?f5 ?f6 ?_)
              case f1 => rw [Hus.out, HMl.out]; omega
              case f2 => exact Hcl.out.1
              case f3 => exact Hcl.out.2
              case f4 => unfold maxLen; omega
              case f5 => omega
              case f6 => exact HB4.out
              intro v'' w5 hown5 hgrow5 _
              have hjoin := Hown4.out.join Hsp.out (Nat.le_trans HB.out HB3.out) Hold.out (by rw [HPl.out, HMl.out] at hown5; exact hown5) (fun x ys hx => by have := Hown4.out.top; rw [← HPl.out] at this; exact hx.kept_top this hgrow5)
              have hb5 : Below w.heap.size w4 w5 := Below.grown (Below.refl _ _) hgrow5 HB4.out (fun k hk => by have := Hown4.out.top; rw [← HPl.out] at this; exact (World.ownsRow.lt this k hk).1)
              have Hjoin := Lib.hid hjoin
              have Hb5 := Lib.hid (Hb4.out.trans hb5)
              clear hown5 hgrow5 hjoin hb5
              go_wp2
              go_roundw
              case rel => exact ⟨v + 1, _, by omega, fun _ => by omega, fun h => by omega, by go_num, by rw [Hst.out]; exact Hjoin.out, Hb5.out⟩
              case measure => simp [intOf]; omega
          · have hfin : bhPart n row [] 0 v = bhRes n row [] := by
              rw [← Hend.out]
              by_cases h : (0 : Int) ≤ ((n : Int) - 1)
              · rw [show v = ((n : Int) - 1) + 1 from by have := hv2 h; omega]
              · rw [hv3 (by omega), bhPart_nil (Int.le_refl _), bhPart_nil (by omega)]
            rw [hfin] at Hown
            clear hfin
            go_wp2
            go_ret
            exact ⟨_, rfl, ⟨vs, Hown.out⟩, Hbr.out⟩
    · by_cases hin : fs.length < row.length
      · obtain ⟨br, or, er, hcr⟩ := H1.out fs.length hin
        have hcrk : gi row fs.length = hi' := by rw [Hhi.out]; unfold bhHigh; rw [if_pos hin]
        rw [hcrk] at hcr
        clear hcrk
        have hinI : (fs.length : Int) < (row.length : Int) := by omega
        obtain ⟨br', or', er', hcr1⟩ := H1.out (fs.length - 1) (by omega)
        rw [er] at er'
        cases er'
        obtain ⟨bf, of, ef, hcf⟩ := H2.out (fs.length - 1) (by omega)
        have hk0 : 0 < fs.length := by omega
        obtain ⟨x1, hx1⟩ : ∃ x, x = gi row (fs.length - 1) := ⟨_, rfl⟩
        obtain ⟨x2, hx2⟩ : ∃ x, x = gi fs (fs.length - 1) := ⟨_, rfl⟩
        have hx2l : x2 = lst fs := by rw [hx2, lst_gi hk0]
        have hlo2 : max x1 (x2 + 1) = lo := by rw [Hlo.out]; unfold bhLow; rw [if_neg hf0, hx1, hx2l]
        rw [← hx1] at hcr1
        rw [← hx2] at hcf
        rw [← hx2l] at hlst
        have hw1 : IntKind.i64.wrap ((fs.length : Int) - 1) = ((fs.length - 1 : Nat) : Int) := by rw [i64_small (by omega) (by omega)]; omega
        have hw2 : IntKind.i64.wrap (x2 + 1) = x2 + 1 := i64_small (by omega) (by omega)
        have hl1 : fs.length - 1 < row.length := by have := Hk.out; omega
        have hl2 : fs.length - 1 < fs.length := by omega
        have hl3 : ((fs.length - 1 : Nat) : Int) < (row.length : Int) := by have := Hk.out; omega
        have hl4 : ((fs.length - 1 : Nat) : Int) < (fs.length : Int) := by omega
        have hl5 : (fs.length : Int) - 1 = ((fs.length - 1 : Nat) : Int) := by omega
        have hd0 : decide ((0 : Int) < (fs.length : Int)) = true := by simp; omega
        have Hmost := Lib.hid (fun w => l1Most_any x1 (x2 + 1) w)
        rw [hlo2] at Hmost
        subst er ef
        clear hx1 hx2 hx2l hlo2 hf0
        go_enter Tryd.func34, Tryd.ntmps34
        go_wp2
        go_quiet ((go_at_call 42; exact Calls.quiet_of_same (Hmost.out _)))
        go_wp2
        go_loopw [10, 11] (fun out i wr => ∃ (v : Int) (vs : List Value), lo ≤ v ∧ (lo ≤ hi' → v ≤ hi' + 1) ∧ (hi' < lo → v = lo) ∧ i = .int .i64 v ∧ OwnP wr w.heap.size out (bhPart n row fs lo v).length (bhPart n row fs lo v) (bhPart n row fs lo v).length vs ∧ Below w.heap.size w wr) (fun _ i _ => (hi' + 1 - intOf i).toNat)
        case atStart => exact ⟨lo, [], Int.le_refl _, fun h => by omega, fun _ => rfl, rfl, by rw [Hstart.out]; exact OwnP.nil _ _ _, below_drewN (Below.refl _ _) _⟩
        case round =>
          obtain ⟨v, vs, hv1, hv2, hv3, rfl, hown, hbr⟩ := hrel
          have Hown := Lib.hid hown
          have Hbr := Lib.hid hbr
          clear hown hbr
          by_cases hvz : v ≤ hi'
          · have hv0 : 0 ≤ v := by omega
            have hvn : v < (n : Int) := by omega
            have Hst := Lib.hid (bhPart_step (n := (n : Int)) (row := row) (first := fs) hv1)
            have HB := Lib.hid Hbr.out.size
            have Hl1 := Lib.hid (l1Own_any (some ⟨bf, of, none⟩) c2 fs wr (by omega) H0.out (H2.out.below Hbr.out))
            go_wp2_with fail
            refine Hl1.out.mono ?_
            rintro e w2 ⟨f1, rfl, hf1, hb2⟩
            obtain ⟨fa, fc, hff, _, _, _⟩ := hf1.read
            obtain ⟨fl, hfl⟩ : ∃ fl, fl = fs.length := ⟨_, rfl⟩
            rw [← hfl] at hff
            subst hff
            have HF1 := Lib.hid hf1
            have Hb2 := Lib.hid hb2
            have HB2 := Lib.hid hb2.size
            have Hfl := Lib.hid hfl
            have hflb : fl ≤ 6 := by rw [Hfl.out]; first | omega | simp
            clear hf1 hb2 hfl
            go_wp2_with (at_builtin; refine wpList_append_own _ rfl _ _ 25 rfl wr.heap.size 3 i0 (.int .i64 0) 1 8 Tryd.underlying25 hi hz0 hz1 hz2 rfl (by decide) _ fl _ rfl (by have := World.ownsRow.alloc HF1.out (.cells #[.int .i64 v] 3); rw [← Hfl.out] at this; exact this) ⟨w2.heap.size, 0, none⟩ 1 1 [.int .i64 v] rfl rfl ?e1 ?e2 ?e3 ?e4 ?e5 ?_)
            case e1 => exact cell_one_new _ _ _
            case e2 => intro u hu; simp at hu; subst hu; rfl
            case e3 => unfold maxLen; omega
            case e4 => omega
            case e5 => have := HB2.out; simp; omega
            intro v' w3 hown' hgrow _
            rw [Hfl.out] at hown'
            have hput := HF1.out.snoc HB2.out hown' hgrow
            obtain ⟨ga, gc, hgg, hgc, hgc2, hgr⟩ := hput.1.read
            have hga : ga = none → gc = 0 := by
              intro e
              subst e
              obtain ⟨_, _, e, _⟩ := hgr 0 (by simp)
              cases e
            have h13 := Hb2.out.trans hput.2
            have hrec := Hih.out (fs ++ [v]) (some ⟨br, or, none⟩) ga c1 gc w3 (by have := Hd.out; simp at this ⊢; omega) (by have := Hk.out; simp at this ⊢ <;> omega) (fun x hx => by rcases List.mem_append.1 hx with h | h; exact Hfs.out x h; simp at h; subst h; exact ⟨hv0, hvn⟩) hga ((H1.out.below Hbr.out).below h13) hgr
            rw [← bhNext_res Hk.out] at hrec
            rw [show (fs ++ [v]).length = fs.length + 1 from by simp] at hrec
            rw [show (fs ++ [v]).length = fs.length + 1 from by simp] at hgg
            obtain ⟨fl1, hfl1⟩ : ∃ fl1, fl1 = fs.length + 1 := ⟨_, rfl⟩
            rw [← hfl1] at hgg
            have hrec' : Calls Tryd.prog 34 #[.slice (some ⟨br, or, none⟩) row.length c1, .slice ga fl1 gc, .int .i64 (n : Int)] w3 fun e w' => ∃ v', e = .returned v' ∧ OwnM w' w3.heap.size v' (bhNext n row fs v) ∧ Below w3.heap.size w3 w' := by rw [hfl1]; exact hrec
            subst hgg
            have Hrec := Lib.hid hrec'
            have Hput := Lib.hid h13
            clear hown' hgrow hput hgc hgc2 hgr hga hrec hfl1 hrec' h13
            go_wp2_with fail
            refine Hrec.out.mono ?_
            rintro e w4 ⟨sub, rfl, hsub, hb4⟩
            obtain ⟨M, hM⟩ : ∃ M, M = bhNext n row fs v := ⟨_, rfl⟩
            obtain ⟨P0, hP0⟩ : ∃ P0, P0 = bhPart n row fs lo v := ⟨_, rfl⟩
            rw [← hM] at hsub Hst
            rw [← hP0] at Hown Hst
            obtain ⟨sa, sc, us, rfl, hsp, hs1, hs2⟩ := hsub.open
            have hpl := Hplen.out (v + 1) (by omega)
            rw [Hst.out, List.length_append] at hpl
            have Hown4 := Lib.hid (Hown.out.below (Hput.out.trans (hb4.mono Hput.out.size)))
            have Hb4 := Lib.hid (Hbr.out.trans ((Hput.out.trans (hb4.mono Hput.out.size)).mono HB.out))
            have HB4 := Lib.hid Hb4.out.size
            have HB3 := Lib.hid Hput.out.size
            have Hold := Lib.hid (show ∀ i, i < P0.length → ∀ g, (vs.getD i undef).ownBlock = some g → g < w3.heap.size from fun i hi g hg => Nat.lt_of_lt_of_le ((Hown.out.rows i hi).lt g hg).2 Hput.out.size)
            have Hsp := Lib.hid hsp
            obtain ⟨oa, oc, hoo, _, _, _⟩ := ownsRow_read Hown4.out.top
            obtain ⟨Ml, hMl⟩ : ∃ Ml, Ml = M.length := ⟨_, rfl⟩
            obtain ⟨Pl, hPl⟩ : ∃ Pl, Pl = P0.length := ⟨_, rfl⟩
            rw [← hPl] at hoo
            have HMl := Lib.hid hMl
            have HPl := Lib.hid hPl
            have hpl2 : Pl + Ml ≤ 1048576 := by omega
            clear hsub hb4 hM hP0 hsp hpl hPl
            subst hoo
            cases sa with
            | none =>
              have hM0 : M = [] := by
                have := Hsp.out.top.2
                rcases this with ⟨h1, h2⟩ | ⟨g, cap, cur, h1, _⟩
                · exact List.eq_nil_of_length_eq_zero h2
                · simp at h1
              have hsc : sc = 0 := by
                have := Hsp.out.top.2
                rcases this with ⟨h1, h2⟩ | ⟨g, cap, cur, h1, _⟩
                · simp at h1; exact h1.2
                · simp at h1
              subst hM0 hsc
              clear hs1 hs2
              go_wp2_with (at_builtin; refine wpList_append_own_none rfl _ _ 54 rfl w.heap.size 25 j0 1 Tryd.underlying54 hj _ _ _ rfl (by have := Hown4.out.top; exact this) rfl ?_)
              go_wp2
              go_roundw
              case rel => exact ⟨v + 1, vs, by omega, fun _ => by omega, fun h => by omega, by go_num, by rw [Hst.out, List.append_nil]; exact Hown4.out, Hb4.out⟩
              case measure => simp [intOf]; omega
            | some ad =>
              have hcl := rows_cells Hsp.out
              have Hcl := Lib.hid hcl
              have Hus := Lib.hid (show us.length = M.length by simpa using Hsp.out.top.1)
              clear hcl
              rw [← hMl]
              clear hMl hs1 hs2
              go_wp2_with (at_builtin; refine wpList_append_own _ rfl _ _ 54 rfl w.heap.size 25 j0 (.slice none 0 0) 1 24 Tryd.underlying54 hj hy0 hy1 hy2 rfl (by decide) _ Pl vs rfl (by have := Hown4.out.top; rw [← HPl.out] at this; exact this) ad Ml sc us rfl ?f1 ?f2 ?f3 ?f4 ?f5 ?f6 ?_)
              case f1 => rw [Hus.out, HMl.out]; omega
              case f2 => exact Hcl.out.1
              case f3 => exact Hcl.out.2
              case f4 => unfold maxLen; omega
              case f5 => omega
              case f6 => exact HB4.out
              intro v'' w5 hown5 hgrow5 _
              have hjoin := Hown4.out.join Hsp.out (Nat.le_trans HB.out HB3.out) Hold.out (by rw [HPl.out, HMl.out] at hown5; exact hown5) (fun x ys hx => by have := Hown4.out.top; rw [← HPl.out] at this; exact hx.kept_top this hgrow5)
              have hb5 : Below w.heap.size w4 w5 := Below.grown (Below.refl _ _) hgrow5 HB4.out (fun k hk => by have := Hown4.out.top; rw [← HPl.out] at this; exact (World.ownsRow.lt this k hk).1)
              have Hjoin := Lib.hid hjoin
              have Hb5 := Lib.hid (Hb4.out.trans hb5)
              clear hown5 hgrow5 hjoin hb5
              go_wp2
              go_roundw
              case rel => exact ⟨v + 1, _, by omega, fun _ => by omega, fun h => by omega, by go_num, by rw [Hst.out]; exact Hjoin.out, Hb5.out⟩
              case measure => simp [intOf]; omega
          · have hfin : bhPart n row fs lo v = bhRes n row fs := by
              rw [← Hend.out]
              by_cases h : lo ≤ hi'
              · rw [show v = hi' + 1 from by have := hv2 h; omega]
              · rw [hv3 (by omega), bhPart_nil (Int.le_refl _), bhPart_nil (by omega)]
            rw [hfin] at Hown
            clear hfin
            go_wp2
            go_ret
            exact ⟨_, rfl, ⟨vs, Hown.out⟩, Hbr.out⟩
      · have hhe : (n : Int) - 1 = hi' := by rw [Hhi.out]; unfold bhHigh; rw [if_neg hin]
        have hinI : ¬ (fs.length : Int) < (row.length : Int) := by omega
        obtain rfl : hi' = (n : Int) - 1 := hhe.symm
        clear hhe
        obtain ⟨br, or, er, hcr1⟩ := H1.out (fs.length - 1) (by have := Hk.out; omega)
        obtain ⟨bf, of, ef, hcf⟩ := H2.out (fs.length - 1) (by omega)
        have hk0 : 0 < fs.length := by omega
        obtain ⟨x1, hx1⟩ : ∃ x, x = gi row (fs.length - 1) := ⟨_, rfl⟩
        obtain ⟨x2, hx2⟩ : ∃ x, x = gi fs (fs.length - 1) := ⟨_, rfl⟩
        have hx2l : x2 = lst fs := by rw [hx2, lst_gi hk0]
        have hlo2 : max x1 (x2 + 1) = lo := by rw [Hlo.out]; unfold bhLow; rw [if_neg hf0, hx1, hx2l]
        rw [← hx1] at hcr1
        rw [← hx2] at hcf
        rw [← hx2l] at hlst
        have hw1 : IntKind.i64.wrap ((fs.length : Int) - 1) = ((fs.length - 1 : Nat) : Int) := by rw [i64_small (by omega) (by omega)]; omega
        have hw2 : IntKind.i64.wrap (x2 + 1) = x2 + 1 := i64_small (by omega) (by omega)
        have hl1 : fs.length - 1 < row.length := by have := Hk.out; omega
        have hl2 : fs.length - 1 < fs.length := by omega
        have hl3 : ((fs.length - 1 : Nat) : Int) < (row.length : Int) := by have := Hk.out; omega
        have hl4 : ((fs.length - 1 : Nat) : Int) < (fs.length : Int) := by omega
        have hl5 : (fs.length : Int) - 1 = ((fs.length - 1 : Nat) : Int) := by omega
        have hd0 : decide ((0 : Int) < (fs.length : Int)) = true := by simp; omega
        have Hmost := Lib.hid (fun w => l1Most_any x1 (x2 + 1) w)
        rw [hlo2] at Hmost
        subst er ef
        clear hx1 hx2 hx2l hlo2 hf0
        go_enter Tryd.func34, Tryd.ntmps34
        go_wp2
        go_quiet ((go_at_call 42; exact Calls.quiet_of_same (Hmost.out _)))
        go_wp2
        go_loopw [10, 11] (fun out i wr => ∃ (v : Int) (vs : List Value), lo ≤ v ∧ (lo ≤ ((n : Int) - 1) → v ≤ ((n : Int) - 1) + 1) ∧ (((n : Int) - 1) < lo → v = lo) ∧ i = .int .i64 v ∧ OwnP wr w.heap.size out (bhPart n row fs lo v).length (bhPart n row fs lo v) (bhPart n row fs lo v).length vs ∧ Below w.heap.size w wr) (fun _ i _ => (((n : Int) - 1) + 1 - intOf i).toNat)
        case atStart => exact ⟨lo, [], Int.le_refl _, fun h => by omega, fun _ => rfl, rfl, by rw [Hstart.out]; exact OwnP.nil _ _ _, below_drewN (Below.refl _ _) _⟩
        case round =>
          obtain ⟨v, vs, hv1, hv2, hv3, rfl, hown, hbr⟩ := hrel
          have Hown := Lib.hid hown
          have Hbr := Lib.hid hbr
          clear hown hbr
          by_cases hvz : v ≤ ((n : Int) - 1)
          · have hv0 : 0 ≤ v := by omega
            have hvn : v < (n : Int) := by omega
            have Hst := Lib.hid (bhPart_step (n := (n : Int)) (row := row) (first := fs) hv1)
            have HB := Lib.hid Hbr.out.size
            have Hl1 := Lib.hid (l1Own_any (some ⟨bf, of, none⟩) c2 fs wr (by omega) H0.out (H2.out.below Hbr.out))
            go_wp2_with fail
            refine Hl1.out.mono ?_
            rintro e w2 ⟨f1, rfl, hf1, hb2⟩
            obtain ⟨fa, fc, hff, _, _, _⟩ := hf1.read
            obtain ⟨fl, hfl⟩ : ∃ fl, fl = fs.length := ⟨_, rfl⟩
            rw [← hfl] at hff
            subst hff
            have HF1 := Lib.hid hf1
            have Hb2 := Lib.hid hb2
            have HB2 := Lib.hid hb2.size
            have Hfl := Lib.hid hfl
            have hflb : fl ≤ 6 := by rw [Hfl.out]; first | omega | simp
            clear hf1 hb2 hfl
            go_wp2_with (at_builtin; refine wpList_append_own _ rfl _ _ 25 rfl wr.heap.size 3 i0 (.int .i64 0) 1 8 Tryd.underlying25 hi hz0 hz1 hz2 rfl (by decide) _ fl _ rfl (by have := World.ownsRow.alloc HF1.out (.cells #[.int .i64 v] 3); rw [← Hfl.out] at this; exact this) ⟨w2.heap.size, 0, none⟩ 1 1 [.int .i64 v] rfl rfl ?e1 ?e2 ?e3 ?e4 ?e5 ?_)
            case e1 => exact cell_one_new _ _ _
            case e2 => intro u hu; simp at hu; subst hu; rfl
            case e3 => unfold maxLen; omega
            case e4 => omega
            case e5 => have := HB2.out; simp; omega
            intro v' w3 hown' hgrow _
            rw [Hfl.out] at hown'
            have hput := HF1.out.snoc HB2.out hown' hgrow
            obtain ⟨ga, gc, hgg, hgc, hgc2, hgr⟩ := hput.1.read
            have hga : ga = none → gc = 0 := by
              intro e
              subst e
              obtain ⟨_, _, e, _⟩ := hgr 0 (by simp)
              cases e
            have h13 := Hb2.out.trans hput.2
            have hrec := Hih.out (fs ++ [v]) (some ⟨br, or, none⟩) ga c1 gc w3 (by have := Hd.out; simp at this ⊢; omega) (by have := Hk.out; simp at this ⊢ <;> omega) (fun x hx => by rcases List.mem_append.1 hx with h | h; exact Hfs.out x h; simp at h; subst h; exact ⟨hv0, hvn⟩) hga ((H1.out.below Hbr.out).below h13) hgr
            rw [← bhNext_res Hk.out] at hrec
            rw [show (fs ++ [v]).length = fs.length + 1 from by simp] at hrec
            rw [show (fs ++ [v]).length = fs.length + 1 from by simp] at hgg
            obtain ⟨fl1, hfl1⟩ : ∃ fl1, fl1 = fs.length + 1 := ⟨_, rfl⟩
            rw [← hfl1] at hgg
            have hrec' : Calls Tryd.prog 34 #[.slice (some ⟨br, or, none⟩) row.length c1, .slice ga fl1 gc, .int .i64 (n : Int)] w3 fun e w' => ∃ v', e = .returned v' ∧ OwnM w' w3.heap.size v' (bhNext n row fs v) ∧ Below w3.heap.size w3 w' := by rw [hfl1]; exact hrec
            subst hgg
            have Hrec := Lib.hid hrec'
            have Hput := Lib.hid h13
            clear hown' hgrow hput hgc hgc2 hgr hga hrec hfl1 hrec' h13
            go_wp2_with fail
            refine Hrec.out.mono ?_
            rintro e w4 ⟨sub, rfl, hsub, hb4⟩
            obtain ⟨M, hM⟩ : ∃ M, M = bhNext n row fs v := ⟨_, rfl⟩
            obtain ⟨P0, hP0⟩ : ∃ P0, P0 = bhPart n row fs lo v := ⟨_, rfl⟩
            rw [← hM] at hsub Hst
            rw [← hP0] at Hown Hst
            obtain ⟨sa, sc, us, rfl, hsp, hs1, hs2⟩ := hsub.open
            have hpl := Hplen.out (v + 1) (by omega)
            rw [Hst.out, List.length_append] at hpl
            have Hown4 := Lib.hid (Hown.out.below (Hput.out.trans (hb4.mono Hput.out.size)))
            have Hb4 := Lib.hid (Hbr.out.trans ((Hput.out.trans (hb4.mono Hput.out.size)).mono HB.out))
            have HB4 := Lib.hid Hb4.out.size
            have HB3 := Lib.hid Hput.out.size
            have Hold := Lib.hid (show ∀ i, i < P0.length → ∀ g, (vs.getD i undef).ownBlock = some g → g < w3.heap.size from fun i hi g hg => Nat.lt_of_lt_of_le ((Hown.out.rows i hi).lt g hg).2 Hput.out.size)
            have Hsp := Lib.hid hsp
            obtain ⟨oa, oc, hoo, _, _, _⟩ := ownsRow_read Hown4.out.top
            obtain ⟨Ml, hMl⟩ : ∃ Ml, Ml = M.length := ⟨_, rfl⟩
            obtain ⟨Pl, hPl⟩ : ∃ Pl, Pl = P0.length := ⟨_, rfl⟩
            rw [← hPl] at hoo
            have HMl := Lib.hid hMl
            have HPl := Lib.hid hPl
            have hpl2 : Pl + Ml ≤ 1048576 := by omega
            clear hsub hb4 hM hP0 hsp hpl hPl
            subst hoo
            cases sa with
            | none =>
              have hM0 : M = [] := by
                have := Hsp.out.top.2
                rcases this with ⟨h1, h2⟩ | ⟨g, cap, cur, h1, _⟩
                · exact List.eq_nil_of_length_eq_zero h2
                · simp at h1
              have hsc : sc = 0 := by
                have := Hsp.out.top.2
                rcases this with ⟨h1, h2⟩ | ⟨g, cap, cur, h1, _⟩
                · simp at h1; exact h1.2
                · simp at h1
              subst hM0 hsc
              clear hs1 hs2
              go_wp2_with (at_builtin; refine wpList_append_own_none rfl _ _ 54 rfl w.heap.size 25 j0 1 Tryd.underlying54 hj _ _ _ rfl (by have := Hown4.out.top; exact this) rfl ?_)
              go_wp2
              go_roundw
              case rel => exact ⟨v + 1, vs, by omega, fun _ => by omega, fun h => by omega, by go_num, by rw [Hst.out, List.append_nil]; exact Hown4.out, Hb4.out⟩
              case measure => simp [intOf]; omega
            | some ad =>
              have hcl := rows_cells Hsp.out
              have Hcl := Lib.hid hcl
              have Hus := Lib.hid (show us.length = M.length by simpa using Hsp.out.top.1)
              clear hcl
              rw [← hMl]
              clear hMl hs1 hs2
              go_wp2_with (at_builtin; refine wpList_append_own _ rfl _ _ 54 rfl w.heap.size 25 j0 (.slice none 0 0) 1 24 Tryd.underlying54 hj hy0 hy1 hy2 rfl (by decide) _ Pl vs rfl (by have := Hown4.out.top; rw [← HPl.out] at this; exact this) ad Ml sc us rfl ?f1 ?f2 ?f3 ?f4 ?f5 ?f6 ?_)
              case f1 => rw [Hus.out, HMl.out]; omega
              case f2 => exact Hcl.out.1
              case f3 => exact Hcl.out.2
              case f4 => unfold maxLen; omega
              case f5 => omega
              case f6 => exact HB4.out
              intro v'' w5 hown5 hgrow5 _
              have hjoin := Hown4.out.join Hsp.out (Nat.le_trans HB.out HB3.out) Hold.out (by rw [HPl.out, HMl.out] at hown5; exact hown5) (fun x ys hx => by have := Hown4.out.top; rw [← HPl.out] at this; exact hx.kept_top this hgrow5)
              have hb5 : Below w.heap.size w4 w5 := Below.grown (Below.refl _ _) hgrow5 HB4.out (fun k hk => by have := Hown4.out.top; rw [← HPl.out] at this; exact (World.ownsRow.lt this k hk).1)
              have Hjoin := Lib.hid hjoin
              have Hb5 := Lib.hid (Hb4.out.trans hb5)
              clear hown5 hgrow5 hjoin hb5
              go_wp2
              go_roundw
              case rel => exact ⟨v + 1, _, by omega, fun _ => by omega, fun h => by omega, by go_num, by rw [Hst.out]; exact Hjoin.out, Hb5.out⟩
              case measure => simp [intOf]; omega
          · have hfin : bhPart n row fs lo v = bhRes n row fs := by
              rw [← Hend.out]
              by_cases h : lo ≤ ((n : Int) - 1)
              · rw [show v = ((n : Int) - 1) + 1 from by have := hv2 h; omega]
              · rw [hv3 (by omega), bhPart_nil (Int.le_refl _), bhPart_nil (by omega)]
            rw [hfin] at Hown
            clear hfin
            go_wp2
            go_ret
            exact ⟨_, rfl, ⟨vs, Hown.out⟩, Hbr.out⟩
end Go.Proofs.YtmcgnbbobhfkpaaDoor

