/- Parts of proofs: contracts and plain facts. Conditions: as each says. -/
import Derived.Test.YtopamhcnbocfoaaDoorK07
namespace Go.Proofs.YtopamhcnbocfoaaDoor
open Go.RowKit Go.Maps
open Go.WideMaps (KeyLaw)

set_option maxRecDepth 100000 in
set_option maxHeartbeats 6400000 in
theorem climb_lostColumns (sc : List Int → List Int → Int) (hf : Scores 30 sc) (R : List Pos) (hR : ∀ p ∈ R, vk p ∧ p.1.length ≤ 6) (hR2 : ∀ p ∈ stepR sc R, vk p) (hRl : (stepR sc R).length < 9223372036854775807)
    (hsc : ∀ p ∈ R, ∀ ys ∈ above p.1, -1000 ≤ sc p.1 ys ∧ sc p.1 ys ≤ 1000) (bn bx : Nat) (hne : bn ≠ bx) (L0 : List Ent) (hL0 : ∀ x ∈ L0, x.1 ∈ R) (w : World) (hn : MapW Tryd.prog 54 3 w bn L0) (hx : MapW Tryd.prog 54 3 w bx []) (hD : Dj w) (hG : 1 < bx) (hG2 : 1 < bn) :
    Calls Tryd.prog 51 #[.map (some bn), .map (some bx), .func (.func 30) #[] #[]] w fun e w' => e = .returned (.tuple #[]) ∧ ∃ Lx, MapW Tryd.prog 54 3 w' bn [] ∧ MapW Tryd.prog 54 3 w' bx Lx ∧ (∀ x ∈ Lx, x.1 ∈ stepR sc R) ∧
      (∀ φ, Cg (potL Lx φ) (potL L0 (psi sc φ))) ∧ ∀ B, B ≤ bn → B ≤ bx → B ≤ w.heap.size → Below B w w' := by
  obtain ⟨D0, hown0, hd0⟩ := hn
  have Hf := Lib.hid hf
  have HR := Lib.hid hR
  have HR2 := Lib.hid hR2
  have Hsc := Lib.hid hsc
  have HL0 := Lib.hid hL0
  have Hx := Lib.hid hx
  have HD := Lib.hid hD
  have Hd0 := Lib.hid hd0
  clear hf hR hR2 hsc hL0 hx hD hd0
  go_enter Tryd.func51, Tryd.ntmps51
  go_wp2_with (at_range; refine wpList_range_own _ rfl _ 50 rfl 54 3 S_st.K Tryd.underlying50 (plainElem Tryd.prog 3) bn L0.length D0 rfl hown0 ?_; intro w0 hrg0 hg0 hs0)
  go_frame
  go_loopw [12] (fun _ wr => ∃ (D : DataW Nat) (L Lx : List Ent) (left : Lit → Bool) (cnt : Nat), wr.ranges Tryd.prog 54 (plainElem Tryd.prog 3) bn w.heap.size L0.length D left cnt ∧ MapD Tryd.prog 54 D L ∧ (∀ p, vk p → Maps.has D (kl Tryd.prog 54 p) = left (kl Tryd.prog 54 p)) ∧
      (∀ x ∈ L, x.1 ∈ R) ∧ MapW Tryd.prog 54 3 wr bx Lx ∧ (∀ x ∈ Lx, x.1 ∈ stepR sc R) ∧ (∀ φ, Cg (potL Lx φ + potL L (psi sc φ)) (potL L0 (psi sc φ))) ∧ (∀ B, B ≤ bn → B ≤ bx → B ≤ w.heap.size → Below B w wr) ∧ w.heap.size ≤ wr.heap.size ∧ Dj wr) (fun _ wr => wr.rangeLeft bn w.heap.size)
  case atStart => exact ⟨D0, L0, [], _, _, hrg0, Hd0.out, fun _ _ => rfl, HL0.out, Hx.out.kept hg0 (by simp), (fun x hx => by cases hx), (fun φ => by simpa [potL, sumL] using Cg.refl _), (fun B _ _ hB => (Below.refl _ _).grown hg0 hB (fun _ h => by cases h)), by omega, HD.out.grown (hg0.but (some bx)) hG⟩
  case round =>
    obtain ⟨D, L, Lx, left, cnt, hrg, hmd, hleft, hLR, hmx, hLx, hpot, hfr, hsz, hDr⟩ := hrel
    go_wp2_with (at_next; refine wpList_next_ranges _ rfl _ rfl 54 S_st.K (plainElem Tryd.prog 3) (fun x : Value => x) (fun x : Int => .int .i64 x) (fun key _ _ => ⟨key, rfl⟩) (fun v y hv => by obtain ⟨c, e, _⟩ := plainElem_int_inv Tryd.underlying3 hv; exact ⟨c, e⟩) bn w.heap.size L0.length D left cnt rfl hrg ?_ ?_)
    · intro _ hl0
      have hL : L = [] := by
        cases L with
        | nil => rfl
        | cons x r =>
          have h1 := hmd.has S_st (hmd.ok x (by simp))
          rw [hleft _ (hmd.ok x (by simp)), hl0] at h1
          simp at h1
      subst hL
      have hown := hrg.owns
      have Hfin := Lib.hid (show MapW Tryd.prog 54 3 wr bn [] ∧ MapW Tryd.prog 54 3 wr bx Lx ∧ (∀ x ∈ Lx, x.1 ∈ stepR sc R) ∧ (∀ φ, Cg (potL Lx φ) (potL L0 (psi sc φ))) ∧ ∀ B, B ≤ bn → B ≤ bx → B ≤ w.heap.size → Below B w wr from
        ⟨MapW.of hown hmd, hmx, hLx, fun φ => by have := hpot φ; simpa [potL, sumL] using this, hfr⟩)
      clear hrg hmd hleft hLR hmx hLx hpot hfr hown hl0
      go_wp2
      go_end0
      exact ⟨rfl, Lx, Hfin.out⟩
    · intro key c kl1 y1 y2 w1 cnt1 hkey hlk hRv hat hrg1 hlt hg1 hs1 hen
      obtain ⟨x, hxL, hxk⟩ := hmd.key_of (Maps.has_true_of_atKey hat)
      obtain ⟨⟨xs, s⟩, cx⟩ := x
      have hvk := hmd.ok _ hxL
      simp only at hxk hvk
      have hkey2 : key = ky (xs, s) := S_st.K.inj hkey (by rw [← hxk]; exact kl_is S_st hvk)
      have hc : c = getC L (xs, s) := by
        obtain ⟨c', e1, e2, _⟩ := plainElem_int_inv Tryd.underlying3 hRv
        have h1 := hmd.atKey S_st hvk
        have e3 : y1 = .lit (.int .i64 c') := congrArg Prod.fst e2
        rw [hxk, hat, e3] at h1
        simp at h1 e1
        rw [e1, h1]
      subst hkey2
      subst hxk
      have Hlo := Lib.hid hrg.left_eq
      have Hlt := Lib.hid hlt
      have Hgr := Lib.hid hg1
      have hpR := hLR _ hxL
      simp only at hpR
      have h6 := (HR.out _ hpR).2
      have hrise := hvk.1
      have hxlt := hmx.lt
      have hbxw : bx < w.heap.size := (Hx.out).lt
      have hsz1 : w1.heap.size = wr.heap.size := hs1
      have Hsz1 := Lib.hid hsz1
      have Hrg1 := Lib.hid hrg1
      have Hmd := Lib.hid hmd
      have Hleft := Lib.hid hleft
      have HLR := Lib.hid hLR
      have HLx := Lib.hid hLx
      have Hpot := Lib.hid hpot
      have Hfr := Lib.hid hfr
      have Hvk := Lib.hid hvk
      have HpR := Lib.hid hpR
      have Hc := Lib.hid hc
      have HxL := Lib.hid hxL
      have hg1' : wr.grownBy w1 (some w.heap.size) := hg1
      have Hmx := Lib.hid (hmx.kept hg1 (by simp; omega))
      have hD1 : Dj w1 := hDr.grown hg1' (by omega)
      obtain ⟨w2, hw2⟩ : ∃ w2, w2 = w1.alloc (.cells #[.int .u64 (mask xs : Nat), .int .i64 s] 54) := ⟨_, rfl⟩
      have hset := setsAbove_any hrise h6 w2 (by rw [hw2]; exact hD1.next ((Below.refl _ _).alloc (Nat.le_refl _) _))
      obtain ⟨m, hm⟩ : ∃ m : Int, m = (mask xs : Nat) := ⟨_, rfl⟩
      have hky : ky (xs, s) = .agg #[.int .u64 m, .int .i64 s] := by rw [hm]; rfl
      rw [hky] at hen
      rw [← hm] at hset hw2
      have Hset := Lib.hid hset
      have Hm := Lib.hid hm
      have hD2 := Lib.hid (show Dj w2 by rw [hw2]; exact hD1.next ((Below.refl _ _).alloc (Nat.le_refl _) _))
      have Hg12 := Lib.hid (show w1.grownBy w2 none by rw [hw2]; exact World.grownBy_alloc _ _ _)
      have Hcell0 := Lib.hid (show w2.cell? ⟨w1.heap.size, 0, none⟩ = some (.int .u64 m) by rw [hw2]; exact cell_new _ _ _ 0)
      have Hcell1 := Lib.hid (show w2.cell? ⟨w1.heap.size, 1, none⟩ = some (.int .i64 s) by rw [hw2]; exact cell_new _ _ _ 1)
      have Hsz2 := Lib.hid (show w2.heap.size = w1.heap.size + 1 by rw [hw2]; simp)
      clear hset hat hRv hkey hlk hg1 hg1' hrg hrg1 hmd hleft hLR hmx hLx hpot hfr hvk hpR hc hxL hD1 hm hsz1 hs1 hlt
      rw [hky]
      clear hky
      go_wp2_with fail
      rw [← hw2]
      refine Hset.out.mono ?_
      rintro e w3 ⟨v, rfl, hv, hb3⟩
      obtain ⟨sa, sc', hsv, hsc1, hsc2, hsr⟩ := hv.read
      obtain ⟨A, hA⟩ : ∃ A, A = above xs := ⟨_, rfl⟩
      rw [← hA] at hsv hv hsr
      obtain ⟨al, hal⟩ : ∃ al, al = A.length := ⟨_, rfl⟩
      rw [← hal] at hsv
      subst hsv
      have hamx : al ≤ 9223372036854775807 := by
        rw [hal, hA]
        have h1 := above_len hrise
        have h2 : 16 ^ (xs.length - 1) ≤ 16 ^ 5 := Nat.pow_le_pow_right (by omega) (by omega)
        omega
      have hbw1 : w.heap.size ≤ w1.heap.size := by have := Hsz1.out; omega
      have Hg13 := Lib.hid (show w1.grownBy w3 none from Hg12.out.trans (grown_of_below hb3))
      have Hmx3 := Lib.hid (Hmx.out.kept Hg13.out (by simp))
      have Hcell0' := Lib.hid (cell_below Hcell0.out hb3)
      have Hcell1' := Lib.hid (cell_below Hcell1.out hb3)
      have HD3 := Lib.hid (hD2.out.next hb3)
      have Hv := Lib.hid hv
      have Hsr := Lib.hid hsr
      have HA := Lib.hid hA
      have Hal := Lib.hid hal
      have HB23 := Lib.hid hb3.size
      clear hv hsr hA hal hb3 Hcell0 Hcell1 hD2 hsc1 hsc2
      go_wp2
      go_loopw [21] (fun i wi => ∃ (t : Nat) (Ly : List Ent), t ≤ al ∧ i = .int .i64 t ∧ MapW Tryd.prog 54 3 wi bx Ly ∧ (∀ x ∈ Ly, x.1 ∈ stepR sc R) ∧ (∀ φ, Cg (potL Ly φ) (potL Lx φ + c * sumL (A.take t) (fun ys => φ (ys, s + sc xs ys)))) ∧ w3.grownBy wi (some bx)) (fun i _ => al - (intOf i).toNat)
      case atStart => exact ⟨0, Lx, Nat.zero_le _, rfl, Hmx3.out, HLx.out, fun φ => by simpa [sumL] using Cg.refl _, World.grownBy.refl _ _⟩
      case round =>
        obtain ⟨t, Ly, ht, rfl, hmy, hLy, hpy, hgi⟩ := hrel
        have Hgi := Lib.hid hgi
        have Hmy := Lib.hid hmy
        have HLy := Lib.hid hLy
        have Hpy := Lib.hid hpy
        by_cases htl : t < al
        · obtain ⟨sb, so, hse, hsc0⟩ := Hsr.out t (by rw [← Hal.out]; exact htl)
          have hsb : sb ≠ bx := fun e => by
            have := (World.ownsRow.lt Hv.out sb (by rw [hse]; rfl)).1
            have := Hsz2.out
            omega
          have hcs := hgi.cell hsc0 (by simpa using hsb)
          have hc0 := hgi.cell Hcell0'.out (by simp; omega)
          have hc1 := hgi.cell Hcell1'.out (by simp; omega)
          obtain ⟨ys, hys⟩ : ∃ ys, ys = gr A t := ⟨_, rfl⟩
          rw [← hys] at hcs
          have hysm : ys ∈ above xs := by rw [hys, ← HA.out]; exact gr_mem (by rw [← Hal.out]; exact htl)
          have hDi : Dj wr := HD3.out.grown hgi hG
          obtain ⟨my, hmyv⟩ : ∃ my : Int, my = (mask ys : Nat) := ⟨_, rfl⟩
          obtain ⟨q, hq⟩ : ∃ q, q = sc xs ys := ⟨_, rfl⟩
          have hqb := Hsc.out _ HpR.out ys hysm
          simp only at hqb
          rw [← hq] at hqb
          have hcall := Hf.out xs ys wr.drew hrise h6 hysm hDi
          rw [← hmyv, ← hq, ← Hm.out] at hcall
          have hcs' : wr.cell? ⟨sb, so + t, none⟩ = some (.int .u64 my) := by rw [hmyv]; exact hcs
          have hpos : (ys, s + q) ∈ stepR sc R := by rw [hq]; exact mem_stepR HpR.out hysm
          have hvy := HR2.out _ hpos
          have hLyl : Ly.length < 9223372036854775807 := by
            obtain ⟨Dy, _, hdy⟩ := Hmy.out
            exact Nat.lt_of_le_of_lt (nodup_len hdy.nd HLy.out) hRl
          obtain ⟨g, hgv⟩ : ∃ g, g = getC Ly (ys, s + q) := ⟨_, rfl⟩
          obtain ⟨v', hv'⟩ : ∃ v', v' = wrap64 (g + c) := ⟨_, rfl⟩
          have hfacts : ∀ w', Below wr.drew.heap.size wr.drew w' → w'.cell? ⟨w1.heap.size, 0, none⟩ = some (.int .u64 m) ∧ w'.cell? ⟨w1.heap.size, 1, none⟩ = some (.int .i64 s) ∧ ∃ (v0 : Value) (st : Int) (w5 w6 : World),
              (Instr.lookup 50 (.map (some bx)) (.agg #[.int .u64 my, .int .i64 (s + q)]) false).run Tryd.prog w' = .ok (.int .i64 g) w' ∧ (Instr.mapEntry 50 (.map (some bx)) (.agg #[.int .u64 my, .int .i64 (s + q)])).run Tryd.prog w' = .ok (.tuple #[v0, .int .i64 st]) w5 ∧ (Instr.lookup 50 (.map (some bx)) (.agg #[.int .u64 my, .int .i64 (s + q)]) false).run Tryd.prog w5 = .ok (.int .i64 g) w5 ∧
              (Instr.entryStore 50 (.map (some bx)) (.int .i64 st) (.int .i64 v')).run Tryd.prog w5 = .ok () w6 ∧ MapW Tryd.prog 54 3 w6 bx (((ys, s + q), v') :: strike Ly (ys, s + q)) ∧ wr.grownBy w6 (some bx) := by
            intro w' hb'
            have hgw : wr.grownBy w' none := grown_of_below ((below_drewN (Below.refl _ _) 1).trans hb')
            refine ⟨hgw.cell hc0 (by simp), hgw.cell hc1 (by simp), ?_⟩
            obtain ⟨v0, st, w5, w6, r1, r2, rl, r3, r4, r5, _⟩ := (Hmy.out.kept hgw (by simp)).add S_st Tryd.law_st Tryd.underlying50 zero_int hLyl hvy c
            have hky2 : ky (ys, s + q) = .agg #[.int .u64 my, .int .i64 (s + q)] := by rw [hmyv]; rfl
            rw [hky2, ← hgv] at r1
            rw [hky2] at r2
            rw [hky2, ← hgv] at rl
            rw [← hgv, ← hv'] at r3 r4
            exact ⟨v0, st, w5, w6, r1, r2, rl, r3, r4, (hgw.but (some bx)).trans r5⟩
          have hws : IntKind.i64.wrap (s + q) = s + q := i64_small (by have := Hvk.out.2; simp at this; omega) (by have := Hvk.out.2; simp at this; omega)
          have hwv : IntKind.i64.wrap (g + c) = v' := by rw [i64_wrap, hv']
          have Hfacts := Lib.hid hfacts
          have Hcall := Lib.hid hcall
          have Hnext := Lib.hid (show ∀ φ, Cg (potL (((ys, s + q), v') :: strike Ly (ys, s + q)) φ) (potL Lx φ + c * sumL (A.take (t + 1)) (fun ys => φ (ys, s + sc xs ys))) from fun φ => by
            obtain ⟨Dy, _, hdy⟩ := Hmy.out
            have h1 := potL_put hdy.nd (ys, s + q) c φ
            rw [← hgv, ← hv'] at h1
            refine h1.trans ?_
            have h2 := Hpy.out φ
            have e : sumL (A.take (t + 1)) (fun ys => φ (ys, s + sc xs ys)) = sumL (A.take t) (fun ys => φ (ys, s + sc xs ys)) + φ (ys, s + q) := by
              rw [List.take_succ_eq_append_getElem (by rw [← Hal.out]; exact htl), sumL_append, hys, gr_lt (by rw [← Hal.out]; exact htl)]
              simp [sumL, hq, hys, gr_lt (show t < A.length by rw [← Hal.out]; exact htl)]
            rw [e, Int.mul_add, ← Int.add_assoc]
            exact h2.add (Cg.refl _))
          have Hpos := Lib.hid hpos
          clear hgi hmy hLy hpy hsc0 hcs hysm hDi hmyv hq hqb hcall hpos hvy hLyl hgv hv' hfacts hys
          subst hse
          go_wp2
          go_region_with (go_at_call 30; refine Hcall.out.mono ?_; rintro e w' ⟨rfl, hb⟩; obtain ⟨hd0, hd1, v0, st, w5, w6, r1, r2, rl, r3, r4, r5⟩ := Hfacts.out w' hb)
          all_goals
            have Hr4 := Lib.hid r4
            have Hr5 := Lib.hid r5
            clear hb hd0 hd1 r1 r2 rl r3 r4 r5
            go_wp2
            go_roundw
            case rel =>
              refine ⟨t + 1, _, by omega, by go_num, Hr4.out, fun x hx => ?_, Hnext.out, Hgi.out.trans Hr5.out⟩
              rcases List.mem_cons.1 hx with rfl | hx
              · exact Hpos.out
              · exact HLy.out x (List.mem_filter.1 hx).1
            case measure => simp [intOf]; omega
        · obtain rfl : t = al := by omega
          have hpy2 : ∀ φ, Cg (potL Ly φ) (potL Lx φ + c * psi sc φ (xs, s)) := fun φ => by
            have := Hpy.out φ
            rw [Hal.out, List.take_length, HA.out] at this
            exact this
          have hrgr := Hrg1.out.kept (row := some bx) ((Hg13.out.but (some bx)).trans Hgi.out) (by simp; omega) (by simp; omega)
          have hc0 := Hgi.out.cell Hcell0'.out (by simp; omega)
          have hc1 := Hgi.out.cell Hcell1'.out (by simp; omega)
          have hnew := Lib.hid (show ∀ φ, Cg (potL Ly φ + potL (strike L (xs, s)) (psi sc φ)) (potL L0 (psi sc φ)) from fun φ => by
            have h1 := potL_strike Hmd.out.nd (xs, s) (psi sc φ)
            rw [← Hc.out] at h1
            have h2 := Hpot.out φ
            rw [h1] at h2
            refine Cg.trans ?_ h2
            have h3 := (hpy2 φ).add (Cg.refl (potL (strike L (xs, s)) (psi sc φ)))
            rw [Int.add_assoc] at h3
            exact h3)
          have hkeyp : keyOf Tryd.prog 54 (.agg #[.int .u64 m, .int .i64 s]) = some (kl Tryd.prog 54 (xs, s)) := by rw [Hm.out]; exact kl_is S_st Hvk.out
          have hdr := HD3.out.grown Hgi.out hG
          have Hrgr := Lib.hid hrgr
          have Hkeyp := Lib.hid hkeyp
          have Hdr := Lib.hid hdr
          have HBr := Lib.hid (show w3.heap.size ≤ wr.heap.size from Hgi.out.size)
          clear hpy2 hrgr hkeyp hdr
          go_wp2_with (at_delete; refine wpList_delete_ranges _ rfl _ _ 50 54 rfl 3 S_st.K Tryd.underlying50 (plainElem Tryd.prog 3) bn w.heap.size L0.length D _ cnt1 rfl Hrgr.out _ _ rfl Hkeyp.out ?_; intro w5 cnt2 hrg2 hle hturn; go_frame)
          rw [Maps.strike_twice] at hrg2
          have hg5 : wr.grownBy w5 (some bn) := hturn.grown
          have Hrel := Lib.hid (show ∃ (D' : DataW Nat) (L' Lx' : List Ent) (left' : Lit → Bool) (cnt' : Nat), w5.ranges Tryd.prog 54 (plainElem Tryd.prog 3) bn w.heap.size L0.length D' left' cnt' ∧ MapD Tryd.prog 54 D' L' ∧ (∀ p, vk p → Maps.has D' (kl Tryd.prog 54 p) = left' (kl Tryd.prog 54 p)) ∧
              (∀ x ∈ L', x.1 ∈ R) ∧ MapW Tryd.prog 54 3 w5 bx Lx' ∧ (∀ x ∈ Lx', x.1 ∈ stepR sc R) ∧ (∀ φ, Cg (potL Lx' φ + potL L' (psi sc φ)) (potL L0 (psi sc φ))) ∧ (∀ B, B ≤ bn → B ≤ bx → B ≤ w.heap.size → Below B w w5) ∧ w.heap.size ≤ w5.heap.size ∧ Dj w5 from by
            refine ⟨_, strike L (xs, s), Ly, _, cnt2, hrg2, Hmd.out.del S_st Hvk.out, fun p hp => ?_, fun x hx => HLR.out x (List.mem_filter.1 hx).1, Hmy.out.kept hg5 (by simp; omega), HLy.out, hnew.out, fun B h1 h2 h3 => ?_, ?_, Hdr.out.grown hg5 hG2⟩
            · by_cases e : p = (xs, s)
              · subst e
                rw [Maps.has_del_same, WideAt.sameKey_self (kl_key S_st hp)]
                simp
              · have hne2 : kl Tryd.prog 54 p ≠ kl Tryd.prog 54 (xs, s) := fun e2 => e (kl_inj S_st hp Hvk.out e2)
                rw [Maps.has_del_other hne2, Hleft.out p hp, Maps.sameKey_ne hne2]
                simp
            · have q1 := (Hfr.out B h1 h2 h3).grown Hgr.out (by omega) (fun k hk => by cases hk; exact h3)
              have q2 := q1.grown Hg13.out (by omega) (fun k hk => by cases hk)
              have q3 := q2.grown Hgi.out (by have := Hg13.out.size; omega) (fun k hk => by cases hk; exact h2)
              exact q3.grown hg5 (by have := Hg13.out.size; have := HBr.out; omega) (fun k hk => by cases hk; exact h1)
            · have := Hg13.out.size; have := HBr.out; have := hg5.size; omega)
          have hm2 := hrg2.left_eq
          have Hm2 := Lib.hid hm2
          clear hrg2 hturn hg5 hm2 hc0 hc1
          go_roundw
          case rel => exact Hrel.out
          case measure => rw [Hm2.out, Hlo.out]; have := Hlt.out; omega
end Go.Proofs.YtopamhcnbocfoaaDoor

