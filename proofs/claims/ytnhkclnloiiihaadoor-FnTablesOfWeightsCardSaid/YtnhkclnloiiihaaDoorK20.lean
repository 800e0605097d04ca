/- Parts of proofs: contracts and plain facts. Conditions: as each says. -/
import Derived.Test.YtnhkclnloiiihaaDoorK19
namespace Go.Proofs.YtnhkclnloiiihaaDoor
open Go.RowKit Go.Maps
open Go.WideMaps (KeyLaw)

set_option maxRecDepth 100000 in
set_option maxHeartbeats 6400000 in
theorem climb_lostColumns (sc : List Int → List Int → Int) (hf : Scores 119 sc) (R : List Pos) (hR : ∀ p ∈ R, vk p ∧ p.1.length ≤ 6) (hR2 : ∀ p ∈ stepR sc R, vk p) (hRl : (stepR sc R).length < 9223372036854775807)
    (hsc : ∀ p ∈ R, ∀ ys ∈ above p.1, -1000 ≤ sc p.1 ys ∧ sc p.1 ys ≤ 1000) (bn bx : Nat) (hne : bn ≠ bx) (L0 : List Ent) (hL0 : ∀ x ∈ L0, x.1 ∈ R) (w : World) (hn : MapW Tryd.prog 94 3 w bn L0) (hx : MapW Tryd.prog 94 3 w bx []) (hD : Dj w) (hG : 2 < bx) (hG2 : 2 < bn) :
    Calls Tryd.prog 150 #[.map (some bn), .map (some bx), .func (.func 119) #[] #[]] w fun e w' => e = .returned (.tuple #[]) ∧ ∃ Lx, MapW Tryd.prog 94 3 w' bn [] ∧ MapW Tryd.prog 94 3 w' bx Lx ∧ (∀ x ∈ Lx, x.1 ∈ stepR sc R) ∧
      (∀ φ, Cg (potL Lx φ) (potL L0 (psi sc φ))) ∧ ∀ B, B ≤ bn → B ≤ bx → B ≤ w.heap.size → Below B w w' := by
  obtain ⟨D0, hown0, hd0⟩ := hn
  have Hf := Lib.hid hf
  have HR := Lib.hid hR
  have HR2 := Lib.hid hR2
  have Hsc := Lib.hid hsc
  have HL0 := Lib.hid hL0
  have Hx := Lib.hid hx
  have HD := Lib.hid hD
  have Hd0 := Lib.hid hd0
  clear hf hR hR2 hsc hL0 hx hD hd0
  go_enter Tryd.func150, Tryd.ntmps150
  go_wp2_with (at_range; refine wpList_range_own _ rfl _ 91 rfl 94 3 S_st.K Tryd.underlying91 (plainElem Tryd.prog 3) bn L0.length D0 rfl hown0 ?_; intro w0 hrg0 hg0 hs0)
  go_frame
  go_loopw [12] (fun _ wr => ∃ (D : DataW Nat) (L Lx : List Ent) (left : Lit → Bool) (cnt : Nat), wr.ranges Tryd.prog 94 (plainElem Tryd.prog 3) bn w.heap.size L0.length D left cnt ∧ MapD Tryd.prog 94 D L ∧ (∀ p, vk p → Maps.has D (kl Tryd.prog 94 p) = left (kl Tryd.prog 94 p)) ∧
      (∀ x ∈ L, x.1 ∈ R) ∧ MapW Tryd.prog 94 3 wr bx Lx ∧ (∀ x ∈ Lx, x.1 ∈ stepR sc R) ∧ (∀ φ, Cg (potL Lx φ + potL L (psi sc φ)) (potL L0 (psi sc φ))) ∧ (∀ B, B ≤ bn → B ≤ bx → B ≤ w.heap.size → Below B w wr) ∧ w.heap.size ≤ wr.heap.size ∧ Dj wr) (fun _ wr => wr.rangeLeft bn w.heap.size)
  case atStart => exact ⟨D0, L0, [], _, _, hrg0, Hd0.out, fun _ _ => rfl, HL0.out, Hx.out.kept hg0 (by simp), (fun x hx => by cases hx), (fun φ => by simpa [potL, sumL] using Cg.refl _), (fun B _ _ hB => (Below.refl _ _).grown hg0 hB (fun _ h => by cases h)), by omega, HD.out.grown (hg0.but (some bx)) hG⟩
  case round =>
    obtain ⟨D, L, Lx, left, cnt, hrg, hmd, hleft, hLR, hmx, hLx, hpot, hfr, hsz, hDr⟩ := hrel
    go_wp2_with (at_next; refine wpList_next_ranges _ rfl _ rfl 94 S_st.K (plainElem Tryd.prog 3) (fun x : Value => x) (fun x : Int => .int .i64 x) (fun key _ _ => ⟨key, rfl⟩) (fun v y hv => by obtain ⟨c, e, _⟩ := plainElem_int_inv Tryd.underlying3 hv; exact ⟨c, e⟩) bn w.heap.size L0.length D left cnt rfl hrg ?_ ?_)
    · intro _ hl0
      have hL : L = [] := by
        cases L with
        | nil => rfl
        | cons x r =>
          have h1 := hmd.has S_st (hmd.ok x (by simp))
          rw [hleft _ (hmd.ok x (by simp)), hl0] at h1
          simp at h1
      subst hL
      have hown := hrg.owns
      have Hfin := Lib.hid (show MapW Tryd.prog 94 3 wr bn [] ∧ MapW Tryd.prog 94 3 wr bx Lx ∧ (∀ x ∈ Lx, x.1 ∈ stepR sc R) ∧ (∀ φ, Cg (potL Lx φ) (potL L0 (psi sc φ))) ∧ ∀ B, B ≤ bn → B ≤ bx → B ≤ w.heap.size → Below B w wr from
        ⟨MapW.of hown hmd, hmx, hLx, fun φ => by have := hpot φ; simpa [potL, sumL] using this, hfr⟩)
      clear hrg hmd hleft hLR hmx hLx hpot hfr hown hl0
      go_wp2
      go_end0
      exact ⟨rfl, Lx, Hfin.out⟩
    · intro key c kl1 y1 y2 w1 cnt1 hkey hlk hRv hat hrg1 hlt hg1 hs1 hen
      obtain ⟨x, hxL, hxk⟩ := hmd.key_of (Maps.has_true_of_atKey hat)
      obtain ⟨⟨xs, s⟩, cx⟩ := x
      have hvk := hmd.ok _ hxL
      simp only at hxk hvk
      have hkey2 : key = ky (xs, s) := S_st.K.inj hkey (by rw [← hxk]; exact kl_is S_st hvk)
      have hc : c = getC L (xs, s) := by
        obtain ⟨c', e1, e2, _⟩ := plainElem_int_inv Tryd.underlying3 hRv
        have h1 := hmd.atKey S_st hvk
        have e3 : y1 = .lit (.int .i64 c') := congrArg Prod.fst e2
        rw [hxk, hat, e3] at h1
        simp at h1 e1
        rw [e1, h1]
      subst hkey2
      subst hxk
      have Hlo := Lib.hid hrg.left_eq
      have Hlt := Lib.hid hlt
      have Hgr := Lib.hid hg1
      have hpR := hLR _ hxL
      simp only at hpR
      have h6 := (HR.out _ hpR).2
      have hrise := hvk.1
      have hxlt := hmx.lt
      have hbxw : bx < w.heap.size := (Hx.out).lt
      have hsz1 : w1.heap.size = wr.heap.size := hs1
      have Hsz1 := Lib.hid hsz1
      have Hrg1 := Lib.hid hrg1
      have Hmd := Lib.hid hmd
      have Hleft := Lib.hid hleft
      have HLR := Lib.hid hLR
      have HLx := Lib.hid hLx
      have Hpot := Lib.hid hpot
      have Hfr := Lib.hid hfr
      have Hvk := Lib.hid hvk
      have HpR := Lib.hid hpR
      have Hc := Lib.hid hc
      have HxL := Lib.hid hxL
      have hg1' : wr.grownBy w1 (some w.heap.size) := hg1
      have Hmx := Lib.hid (hmx.kept hg1 (by simp; omega))
      have hD1 : Dj w1 := hDr.grown hg1' (by omega)
      obtain ⟨w2, hw2⟩ : ∃ w2, w2 = w1.alloc (.cells #[.int .u64 (mask xs : Nat), .int .i64 s] 94) := ⟨_, rfl⟩
      have hset := setsAbove_any hrise h6 w2 (by rw [hw2]; exact hD1.next ((Below.refl _ _).alloc (Nat.le_refl _) _))
      obtain ⟨m, hm⟩ : ∃ m : Int, m = (mask xs : Nat) := ⟨_, rfl⟩
      have hky : ky (xs, s) = .agg #[.int .u64 m, .int .i64 s] := by rw [hm]; rfl
      rw [hky] at hen
      rw [← hm] at hset hw2
      have Hset := Lib.hid hset
      have Hm := Lib.hid hm
      have hD2 := Lib.hid (show Dj w2 by rw [hw2]; exact hD1.next ((Below.refl _ _).alloc (Nat.le_refl _) _))
      have Hg12 := Lib.hid (show w1.grownBy w2 none by rw [hw2]; exact World.grownBy_alloc _ _ _)
      have Hcell0 := Lib.hid (show w2.cell? ⟨w1.heap.size, 0, none⟩ = some (.int .u64 m) by rw [hw2]; exact cell_new _ _ _ 0)
      have Hcell1 := Lib.hid (show w2.cell? ⟨w1.heap.size, 1, none⟩ = some (.int .i64 s) by rw [hw2]; exact cell_new _ _ _ 1)
      have Hsz2 := Lib.hid (show w2.heap.size = w1.heap.size + 1 by rw [hw2]; simp)
      clear hset hat hRv hkey hlk hg1 hg1' hrg hrg1 hmd hleft hLR hmx hLx hpot hfr hvk hpR hc hxL hD1 hm hsz1 hs1 hlt
      rw [hky]
      clear hky
      go_wp2_with fail
      rw [← hw2]
      refine Hset.out.mono ?_
      rintro e w3 ⟨v, rfl, hv, hb3⟩
      obtain ⟨sa, sc', hsv, hsc1, hsc2, hsr⟩ := hv.read
      obtain ⟨A, hA⟩ : ∃ A, A = above xs := ⟨_, rfl⟩
      rw [← hA] at hsv hv hsr
      obtain ⟨al, hal⟩ : ∃ al, al = A.length := ⟨_, rfl⟩
      rw [← hal] at hsv
      subst hsv
      have hamx : al ≤ 9223372036854775807 := by
        rw [hal, hA]
        have h1 := above_len hrise
        have h2 : 16 ^ (xs.length - 1) ≤ 16 ^ 5 := Nat.pow_le_pow_right (by omega) (by omega)
        omega
      have hbw1 : w.heap.size ≤ w1.heap.size := by have := Hsz1.out; omega
      have Hg13 := Lib.hid (show w1.grownBy w3 none from Hg12.out.trans (grown_of_below hb3))
      have Hmx3 := Lib.hid (Hmx.out.kept Hg13.out (by simp))
      have Hcell0' := Lib.hid (cell_below Hcell0.out hb3)
      have Hcell1' := Lib.hid (cell_below Hcell1.out hb3)
      have HD3 := Lib.hid (hD2.out.next hb3)
      have Hv := Lib.hid hv
      have Hsr := Lib.hid hsr
      have HA := Lib.hid hA
      have Hal := Lib.hid hal
      have HB23 := Lib.hid hb3.size
      clear hv hsr hA hal hb3 Hcell0 Hcell1 hD2 hsc1 hsc2
      go_wp2
      go_loopw [21] (fun i wi => ∃ (t : Nat) (Ly : List Ent), t ≤ al ∧ i = .int .i64 t ∧ MapW Tryd.prog 94 3 wi bx Ly ∧ (∀ x ∈ Ly, x.1 ∈ stepR sc R) ∧ (∀ φ, Cg (potL Ly φ) (potL Lx φ + c * sumL (A.take t) (fun ys => φ (ys, s + sc xs ys)))) ∧ w3.grownBy wi (some bx)) (fun i _ => al - (intOf i).toNat)
      case atStart => exact ⟨0, Lx, Nat.zero_le _, rfl, Hmx3.out, HLx.out, fun φ => by simpa [sumL] using Cg.refl _, World.grownBy.refl _ _⟩
      case round =>
        obtain ⟨t, Ly, ht, rfl, hmy, hLy, hpy, hgi⟩ := hrel
        have Hgi := Lib.hid hgi
        have Hmy := Lib.hid hmy
        have HLy := Lib.hid hLy
        have Hpy := Lib.hid hpy
        by_cases htl : t < al
        · obtain ⟨sb, so, hse, hsc0⟩ := Hsr.out t (by rw [← Hal.out]; exact htl)
          have hsb : sb ≠ bx := fun e => by
            have := (World.ownsRow.lt Hv.out sb (by rw [hse]; rfl)).1
            have := Hsz2.out
            omega
          have hcs := hgi.cell hsc0 (by simpa using hsb)
          have hc0 := hgi.cell Hcell0'.out (by simp; omega)
          have hc1 := hgi.cell Hcell1'.out (by simp; omega)
          obtain ⟨ys, hys⟩ : ∃ ys, ys = gr A t := ⟨_, rfl⟩
          rw [← hys] at hcs
          have hysm : ys ∈ above xs := by rw [hys, ← HA.out]; exact gr_mem (by rw [← Hal.out]; exact htl)
          have hDi : Dj wr := HD3.out.grown hgi hG
          obtain ⟨my, hmyv⟩ : ∃ my : Int, my = (mask ys : Nat) := ⟨_, rfl⟩
          obtain ⟨q, hq⟩ : ∃ q, q = sc xs ys := ⟨_, rfl⟩
          have hqb := Hsc.out _ HpR.out ys hysm
          simp only at hqb
          rw [← hq] at hqb
          have hcall := Hf.out xs ys wr.drew hrise h6 hysm hDi
          rw [← hmyv, ← hq, ← Hm.out] at hcall
          have hcs' : wr.cell? ⟨sb, so + t, none⟩ = some (.int .u64 my) := by rw [hmyv]; exact hcs
          have hpos : (ys, s + q) ∈ stepR sc R := by rw [hq]; exact mem_stepR HpR.out hysm
          have hvy := HR2.out _ hpos
          have hLyl : Ly.length < 9223372036854775807 := by
            obtain ⟨Dy, _, hdy⟩ := Hmy.out
            exact Nat.lt_of_le_of_lt (nodup_len hdy.nd HLy.out) hRl
          obtain ⟨g, hgv⟩ : ∃ g, g = getC Ly (ys, s + q) := ⟨_, rfl⟩
          obtain ⟨v', hv'⟩ : ∃ v', v' = wrap64 (g + c) := ⟨_, rfl⟩
          have hfacts : ∀ w', Below wr.drew.heap.size wr.drew w' → w'.cell? ⟨w1.heap.size, 0, none⟩ = some (.int .u64 m) ∧ w'.cell? ⟨w1.heap.size, 1, none⟩ = some (.int .i64 s) ∧ ∃ (v0 : Value) (st : Int) (w5 w6 : World),
              (Instr.lookup 91 (.map (some bx)) (.agg #[.int .u64 my, .int .i64 (s + q)]) false).run Tryd.prog w' = .ok (.int .i64 g) w' ∧ (Instr.mapEntry 91 (.map (some bx)) (.agg #[.int .u64 my, .int .i64 (s + q)])).run Tryd.prog w' = .ok (.tuple #[v0, .int .i64 st]) w5 ∧ (Instr.lookup 91 (.map (some bx)) (.agg #[.int .u64 my, .int .i64 (s + q)]) false).run Tryd.prog w5 = .ok (.int .i64 g) w5 ∧
              (Instr.entryStore 91 (.map (some bx)) (.int .i64 st) (.int .i64 v')).run Tryd.prog w5 = .ok () w6 ∧ MapW Tryd.prog 94 3 w6 bx (((ys, s + q), v') :: strike Ly (ys, s + q)) ∧ wr.grownBy w6 (some bx) := by
            intro w' hb'
            have hgw : wr.grownBy w' none := grown_of_below ((below_drewN (Below.refl _ _) 1).trans hb')
            refine ⟨hgw.cell hc0 (by simp), hgw.cell hc1 (by simp), ?_⟩
            obtain ⟨v0, st, w5, w6, r1, r2, rl, r3, r4, r5, _⟩ := (Hmy.out.kept hgw (by simp)).add S_st Tryd.law_st Tryd.underlying91 zero_int hLyl hvy c
            have hky2 : ky (ys, s + q) = .agg #[.int .u64 my, .int .i64 (s + q)] := by rw [hmyv]; rfl
            rw [hky2, ← hgv] at r1
            rw [hky2] at r2
            rw [hky2, ← hgv] at rl
            rw [← hgv, ← hv'] at r3 r4
            exact ⟨v0, st, w5, w6, r1, r2, rl, r3, r4, (hgw.but (some bx)).trans r5⟩
          have hws : IntKind.i64.wrap (s + q) = s + q := i64_small (by have := Hvk.out.2; simp at this; omega) (by have := Hvk.out.2; simp at this; omega)
          have hwv : IntKind.i64.wrap (g + c) = v' := by rw [i64_wrap, hv']
          have Hfacts := Lib.hid hfacts
          have Hcall := Lib.hid hcall
          have Hnext := Lib.hid (show ∀ φ, Cg (potL (((ys, s + q), v') :: strike Ly (ys, s + q)) φ) (potL Lx φ + c * sumL (A.take (t + 1)) (fun ys => φ (ys, s + sc xs ys))) from fun φ => by
            obtain ⟨Dy, _, hdy⟩ := Hmy.out
            have h1 := potL_put hdy.nd (ys, s + q) c φ
            rw [← hgv, ← hv'] at h1
            refine h1.trans ?_
            have h2 := Hpy.out φ
            have e : sumL (A.take (t + 1)) (fun ys => φ (ys, s + sc xs ys)) = sumL (A.take t) (fun ys => φ (ys, s + sc xs ys)) + φ (ys, s + q) := by
              rw [List.take_succ_eq_append_getElem (by rw [← Hal.out]; exact htl), sumL_append, hys, gr_lt (by rw [← Hal.out]; exact htl)]
              simp [sumL, hq, hys, gr_lt (show t < A.length by rw [← Hal.out]; exact htl)]
            rw [e, Int.mul_add, ← Int.add_assoc]
            exact h2.add (Cg.refl _))
          have Hpos := Lib.hid hpos
          clear hgi hmy hLy hpy hsc0 hcs hysm hDi hmyv hq hqb hcall hpos hvy hLyl hgv hv' hfacts hys
          subst hse
          go_wp2
          go_region_with (go_at_call 119; refine Hcall.out.mono ?_; rintro e w' ⟨rfl, hb⟩; obtain ⟨hd0, hd1, v0, st, w5, w6, r1, r2, rl, r3, r4, r5⟩ := Hfacts.out w' hb)
          all_goals
            have Hr4 := Lib.hid r4
            have Hr5 := Lib.hid r5
            clear hb hd0 hd1 r1 r2 rl r3 r4 r5
            go_wp2
            go_roundw
            case rel =>
              refine ⟨t + 1, _, by omega, by go_num, Hr4.out, fun x hx => ?_, Hnext.out, Hgi.out.trans Hr5.out⟩
              rcases List.mem_cons.1 hx with rfl | hx
              · exact Hpos.out
              · exact HLy.out x (List.mem_filter.1 hx).1
            case measure => simp [intOf]; omega
        · obtain rfl : t = al := by omega
          have hpy2 : ∀ φ, Cg (potL Ly φ) (potL Lx φ + c * psi sc φ (xs, s)) := fun φ => by
            have := Hpy.out φ
            rw [Hal.out, List.take_length, HA.out] at this
            exact this
          have hrgr := Hrg1.out.kept (row := some bx) ((Hg13.out.but (some bx)).trans Hgi.out) (by simp; omega) (by simp; omega)
          have hc0 := Hgi.out.cell Hcell0'.out (by simp; omega)
          have hc1 := Hgi.out.cell Hcell1'.out (by simp; omega)
          have hnew := Lib.hid (show ∀ φ, Cg (potL Ly φ + potL (strike L (xs, s)) (psi sc φ)) (potL L0 (psi sc φ)) from fun φ => by
            have h1 := potL_strike Hmd.out.nd (xs, s) (psi sc φ)
            rw [← Hc.out] at h1
            have h2 := Hpot.out φ
            rw [h1] at h2
            refine Cg.trans ?_ h2
            have h3 := (hpy2 φ).add (Cg.refl (potL (strike L (xs, s)) (psi sc φ)))
            rw [Int.add_assoc] at h3
            exact h3)
          have hkeyp : keyOf Tryd.prog 94 (.agg #[.int .u64 m, .int .i64 s]) = some (kl Tryd.prog 94 (xs, s)) := by rw [Hm.out]; exact kl_is S_st Hvk.out
          have hdr := HD3.out.grown Hgi.out hG
          have Hrgr := Lib.hid hrgr
          have Hkeyp := Lib.hid hkeyp
          have Hdr := Lib.hid hdr
          have HBr := Lib.hid (show w3.heap.size ≤ wr.heap.size from Hgi.out.size)
          clear hpy2 hrgr hkeyp hdr
          go_wp2_with (at_delete; refine wpList_delete_ranges _ rfl _ _ 91 94 rfl 3 S_st.K Tryd.underlying91 (plainElem Tryd.prog 3) bn w.heap.size L0.length D _ cnt1 rfl Hrgr.out _ _ rfl Hkeyp.out ?_; intro w5 cnt2 hrg2 hle hturn; go_frame)
          rw [Maps.strike_twice] at hrg2
          have hg5 : wr.grownBy w5 (some bn) := hturn.grown
          have Hrel := Lib.hid (show ∃ (D' : DataW Nat) (L' Lx' : List Ent) (left' : Lit → Bool) (cnt' : Nat), w5.ranges Tryd.prog 94 (plainElem Tryd.prog 3) bn w.heap.size L0.length D' left' cnt' ∧ MapD Tryd.prog 94 D' L' ∧ (∀ p, vk p → Maps.has D' (kl Tryd.prog 94 p) = left' (kl Tryd.prog 94 p)) ∧
              (∀ x ∈ L', x.1 ∈ R) ∧ MapW Tryd.prog 94 3 w5 bx Lx' ∧ (∀ x ∈ Lx', x.1 ∈ stepR sc R) ∧ (∀ φ, Cg (potL Lx' φ + potL L' (psi sc φ)) (potL L0 (psi sc φ))) ∧ (∀ B, B ≤ bn → B ≤ bx → B ≤ w.heap.size → Below B w w5) ∧ w.heap.size ≤ w5.heap.size ∧ Dj w5 from by
            refine ⟨_, strike L (xs, s), Ly, _, cnt2, hrg2, Hmd.out.del S_st Hvk.out, fun p hp => ?_, fun x hx => HLR.out x (List.mem_filter.1 hx).1, Hmy.out.kept hg5 (by simp; omega), HLy.out, hnew.out, fun B h1 h2 h3 => ?_, ?_, Hdr.out.grown hg5 hG2⟩
            · by_cases e : p = (xs, s)
              · subst e
                rw [Maps.has_del_same, WideAt.sameKey_self (kl_key S_st hp)]
                simp
              · have hne2 : kl Tryd.prog 94 p ≠ kl Tryd.prog 94 (xs, s) := fun e2 => e (kl_inj S_st hp Hvk.out e2)
                rw [Maps.has_del_other hne2, Hleft.out p hp, Maps.sameKey_ne hne2]
                simp
            · have q1 := (Hfr.out B h1 h2 h3).grown Hgr.out (by omega) (fun k hk => by cases hk; exact h3)
              have q2 := q1.grown Hg13.out (by omega) (fun k hk => by cases hk)
              have q3 := q2.grown Hgi.out (by have := Hg13.out.size; omega) (fun k hk => by cases hk; exact h2)
              exact q3.grown hg5 (by have := Hg13.out.size; have := HBr.out; omega) (fun k hk => by cases hk; exact h1)
            · have := Hg13.out.size; have := HBr.out; have := hg5.size; omega)
          have hm2 := hrg2.left_eq
          have Hm2 := Lib.hid hm2
          clear hrg2 hturn hg5 hm2 hc0 hc1
          go_roundw
          case rel => exact Hrel.out
          case measure => rw [Hm2.out, Hlo.out]; have := Hlt.out; omega
end Go.Proofs.YtnhkclnloiiihaaDoor

namespace Go.Proofs.YtnhkclnloiiihaaDoor
open Go.RowKit Go.Maps
open Go.WideMaps (KeyLaw)


set_option maxRecDepth 100000 in
set_option maxHeartbeats 1600000 in
theorem climbed_lostColumns (sc : List Int → List Int → Int) (hf : Scores 119 sc) (hb : SmallSc sc) {xs : List Int} (hr : Rise xs) (h1 : 1 ≤ xs.length) (h6 : xs.length ≤ 6) (w : World) (hD : Dj w) :
    Calls Tryd.prog 122 #[.int .u64 (mask xs : Nat), .func (.func 119) #[] #[]] w fun e w' => ClimbsTo sc xs w e w' := by
  have hv0 : vk (xs, 0) := ⟨hr, by simp, by simp⟩
  obtain ⟨w1, hrun, hown1, hg1⟩ := (World.ownsMap_made (H := Nat) w Tryd.prog 94 (plainElem Tryd.prog 3)).update S_st.K Tryd.underlying91 (by unfold maxLen; omega) (kl_is S_st hv0) (plainElem_int Tryd.underlying3 (a := 1) (by decide))
  have hm1 : MapW Tryd.prog 94 3 w1 w.heap.size [((xs, 0), 1)] := MapW.of hown1 (by have := (MapD.empty (P := Tryd.prog) (k := 94)).put S_st hv0 1; simpa [strike] using this)
  have hb1 : Below w.heap.size w w1 := ((Below.refl _ w).alloc (Nat.le_refl _) _).grown hg1 (by simp) (fun k hk => by cases hk; exact Nat.le_refl _)
  have hs1 : w.heap.size + 1 ≤ w1.heap.size := by have := hg1.size; simp at this; exact this
  have hm2 : MapW Tryd.prog 94 3 (w1.alloc (.map #[] 0)) w1.heap.size [] := MapW.of (World.ownsMap_made w1 _ _ _) MapD.empty
  have hm1' : MapW Tryd.prog 94 3 (w1.alloc (.map #[] 0)) w.heap.size [((xs, 0), 1)] := hm1.kept (World.grownBy_alloc w1 _ none) (by simp)
  have hb2 : Below w.heap.size w (w1.alloc (.map #[] 0)) := hb1.alloc (by omega) _
  have hsz := size_any hr h6 (w1.alloc (.map #[] 0))
  have hGw := hD.lt
  have hky : ky (xs, 0) = .agg #[.int .u64 (mask xs : Nat), .int .i64 0] := rfl
  rw [hky] at hrun
  obtain ⟨m, hm⟩ : ∃ m : Int, m = (mask xs : Nat) := ⟨_, rfl⟩
  rw [← hm] at hrun hsz ⊢
  have hmm := @run_makeMap Tryd.prog
  have Hsz := Lib.hid hsz
  have Hstart := Lib.hid (And.intro hm1' (And.intro hm2 hb2))
  have Hb := Lib.hid hb
  have Hr := Lib.hid hr
  have Hf := Lib.hid hf
  have HD := Lib.hid hD
  have Hs1 := Lib.hid hs1
  clear hv0 hown1 hg1 hm1 hb1 hm2 hm1' hb2 hsz hm hky hb hr hf hD hs1
  go_enter Tryd.func122, Tryd.ntmps122
  go_wp2_with fail
  refine Hsz.out.mono ?_
  rintro e w2 ⟨rfl, rfl⟩
  go_wp2
  go_loopw [5, 6, 15] (fun now next i wr => ∃ (k bn bx : Nat) (L : List Ent), k + 1 ≤ xs.length ∧ i = .int .i64 (k : Int) ∧ now = .map (some bn) ∧ next = .map (some bx) ∧ bn ≠ bx ∧ w.heap.size ≤ bn ∧ w.heap.size ≤ bx ∧ MapW Tryd.prog 94 3 wr bn L ∧ MapW Tryd.prog 94 3 wr bx [] ∧
      (∀ x ∈ L, x.1 ∈ reach sc xs k) ∧ (∀ φ, Cg (potL L fun p => climbW sc φ (xs.length - 1 - k) p.1 p.2) (climbW sc φ (xs.length - 1) xs 0)) ∧ Below w.heap.size w wr ∧ w.heap.size ≤ wr.heap.size) (fun _ _ i _ => xs.length - (intOf i).toNat)
  case atStart => exact ⟨0, w.heap.size, w1.heap.size, _, h1, rfl, rfl, rfl, by have := Hs1.out; omega, Nat.le_refl _, by have := Hs1.out; omega, Hstart.out.1, Hstart.out.2.1, fun x hx => by simp at hx; subst hx; simp [reach], fun φ => by simpa [potL, sumL] using Cg.refl _, Hstart.out.2.2, by have := Hs1.out; simp; omega⟩
  case round =>
    obtain ⟨k, bn, bx, L, hk, rfl, rfl, rfl, hne, hbn, hbx, hmn, hmx, hkeys, hpot, hbr, hsr⟩ := hrel
    by_cases hlt : k + 1 < xs.length
    · have hlt' : (k : Int) < (xs.length : Int) - 1 := by omega
      have hcall := climb_lostColumns sc Hf.out (reach sc xs k) (fun p hp => reach_vk Hb.out Hr.out h6 hp) (fun p hp => (reach_vk Hb.out Hr.out h6 (j := k + 1) hp).1) (reach_short Hb.out Hr.out h6 (j := k + 1) (by omega))
        (fun p hp ys hy => by have := Hb.out p.1 ys (reach_vk Hb.out Hr.out h6 hp).1.1 (reach_vk Hb.out Hr.out h6 hp).2 hy; omega) bn bx hne L hkeys wr hmn hmx (HD.out.next hbr) (by omega) (by omega)
      have Hcall := Lib.hid hcall
      have Hpot := Lib.hid hpot
      have Hbr := Lib.hid hbr
      clear hcall hmn hmx hkeys hpot hbr
      go_wp2_with fail
      refine Hcall.out.mono ?_
      rintro e w3 ⟨rfl, Lx, hn3, hx3, hk3, hp3, hf3⟩
      have Hrel := Lib.hid (show ∃ (L : List Ent), MapW Tryd.prog 94 3 w3 bx L ∧ MapW Tryd.prog 94 3 w3 bn [] ∧ (∀ x ∈ L, x.1 ∈ reach sc xs (k + 1)) ∧ (∀ φ, Cg (potL L fun p => climbW sc φ (xs.length - 1 - (k + 1)) p.1 p.2) (climbW sc φ (xs.length - 1) xs 0)) ∧ Below w.heap.size w w3 ∧ w.heap.size ≤ w3.heap.size from by
        have hb3 := hf3 w.heap.size hbn hbx hsr
        refine ⟨Lx, hx3, hn3, hk3, fun φ => ?_, Hbr.out.trans hb3, Nat.le_trans hsr hb3.size⟩
        have h1 := hp3 (fun p => climbW sc φ (xs.length - 1 - (k + 1)) p.1 p.2)
        have h2 := Hpot.out φ
        rw [show xs.length - 1 - k = (xs.length - 1 - (k + 1)) + 1 from by omega] at h2
        exact h1.trans h2)
      clear hn3 hx3 hk3 hp3 hf3
      go_wp2
      go_roundw
      case rel =>
        obtain ⟨L', q1, q2, q3, q4, q5, q6⟩ := Hrel.out
        exact ⟨k + 1, bx, bn, L', hlt, by go_num, rfl, rfl, hne.symm, hbx, hbn, q1, q2, q3, q4, q5, q6⟩
      case measure => simp [intOf]; omega
    · obtain rfl : k = xs.length - 1 := by omega
      have hfin := Lib.hid (show ClimbsTo sc xs w (.returned (.map (some bn))) wr from ⟨bn, L, rfl, hmn, hbn, hkeys, fun φ => by have := hpot φ; rw [Nat.sub_self] at this; exact this, hbr⟩)
      have hlt' : ¬ (((xs.length - 1 : Nat) : Int) < (xs.length : Int) - 1) := by omega
      clear hmn hmx hkeys hpot hbr
      go_wp2
      go_ret
      exact hfin.out
end Go.Proofs.YtnhkclnloiiihaaDoor

namespace Go.Proofs.YtnhkclnloiiihaaDoor
open Go.RowKit Go.Maps

set_option maxRecDepth 100000 in
set_option maxHeartbeats 3200000 in
theorem byScore_lostColumns (sc : List Int → List Int → Int) (hf : Scores 119 sc) (hb : SmallSc sc) (n gr' : Nat) (hn1 : 1 ≤ n) (hn : n ≤ 6) (hg : gr' ≤ 100) (hlim : ∀ p ∈ reach sc (iota n) (n - 1), p.2 ≤ (gr' : Int)) (w : World) (hD : Dj w) :
    Calls Tryd.prog 118 #[.int .i64 (n : Int), .int .i64 (gr' : Int), .func (.func 119) #[] #[]] w fun e w' => ∃ v, e = .returned v ∧ OwnI w' w.heap.size v (scoreL sc n (gr' + 1)) ∧ Below w.heap.size w w' := by
  obtain ⟨i0, hi, hz0, hz1, hz2⟩ := info_parts Tryd.info_int
  have Hf := Lib.hid hf
  have Hb := Lib.hid hb
  have Hlim := Lib.hid hlim
  have HD := Lib.hid hD
  clear hf hb hlim hD
  go_enter Tryd.func118, Tryd.ntmps118
  go_wp2_with (at_make; refine wpList_make_full _ rfl _ _ 28 rfl w.heap.size 3 i0 (.int .i64 0) 1 Tryd.underlying28 hi hz0 hz1 _ _ _ _ (gr' + 1) rfl rfl (by omega) (by omega) ?c1 ?c2 ?c3 ?_)
  case c1 => rw [hz2]; omega
  case c2 => unfold maxLen; omega
  case c3 => simp
  intro w1 hown hgr
  have hb1 : Below w.heap.size w w1 := (Below.refl _ _).grown hgr (Nat.le_refl _) (fun _ h => by cases h)
  have hown1 := OwnI.made hown
  have hs1 : w.heap.size + 1 ≤ w1.heap.size := by have := (OwnI.lt hown1 w.heap.size rfl).2; omega
  have hr : Rise (iota n) := ⟨up_iota n, fun x hx => by have := mem_iota.1 hx; omega⟩
  have hcl := climbed_lostColumns sc Hf.out Hb.out hr (by rw [iota_len]; exact hn1) (by rw [iota_len]; exact hn) w1 (HD.out.next hb1)
  rw [mask_iota] at hcl
  obtain ⟨m, hm⟩ : ∃ m : Int, m = ((2 ^ n - 1 : Nat) : Int) := ⟨_, rfl⟩
  have hac := allColumns_any n w1 (by omega)
  rw [← hm] at hcl hac
  have Hcl := Lib.hid hcl
  have Hac := Lib.hid hac
  have Hown1 := Lib.hid hown1
  have Hb1 := Lib.hid hb1
  have Hs1 := Lib.hid hs1
  clear hown hgr hb1 hown1 hs1 hcl hm hac hr
  go_wp2_with fail
  refine Hac.out.mono ?_
  rintro e wx ⟨rfl, rfl⟩
  go_wp2_with fail
  refine Hcl.out.mono ?_
  rintro e w2 ⟨bm, L0, rfl, hmw, hbm, hkeys, hpot, hb2⟩
  obtain ⟨D, hownm, hd⟩ := hmw
  rw [iota_len] at hkeys hpot
  have Hkeys := Lib.hid hkeys
  have Hpot := Lib.hid hpot
  have Hd := Lib.hid hd
  have Hown2 := Lib.hid (Hown1.out.below hb2)
  have Hb2 := Lib.hid (Hb1.out.trans (hb2.mono (by have := Hs1.out; omega)))
  have Hs2 := Lib.hid (Nat.le_trans Hs1.out hb2.size)
  clear hkeys hpot hb2 hd
  go_wp2_with (at_range; refine wpList_range_own _ rfl _ 91 rfl 94 3 S_st.K Tryd.underlying91 (plainElem Tryd.prog 3) bm L0.length D rfl hownm ?_; intro w0 hrg0 hg0 hs0)
  go_frame
  go_loopw [18] (fun _ wr => ∃ (L : List Ent) (left : Lit → Bool) (cnt : Nat) (cs : List Int), wr.ranges Tryd.prog 94 (plainElem Tryd.prog 3) bm w2.heap.size L0.length D left cnt ∧ OwnI wr w.heap.size (.slice (some ⟨w.heap.size, 0, none⟩) (gr' + 1) (gr' + 1)) cs ∧ (∀ x ∈ L, x ∈ L0) ∧ (L.map (·.1)).Nodup ∧ (∀ x ∈ L0, left (kl Tryd.prog 94 x.1) = L.any fun y => y.1 == x.1) ∧ (∀ i : Nat, i ≤ gr' → Cg (gi cs i + potL L fun p => hits i p.1 p.2) (potL L0 fun p => hits i p.1 p.2) ∧ -9223372036854775808 ≤ gi cs i ∧ gi cs i ≤ 9223372036854775807) ∧ Below w.heap.size w wr ∧ w2.heap.size + 1 ≤ wr.heap.size) (fun _ wr => wr.rangeLeft bm w2.heap.size)
  case atStart =>
    refine ⟨L0, _, _, _, hrg0, World.ownsRow.kept Hown2.out hg0 (.inr (by simp [Value.ownBlock])), fun x hx => hx, Hd.out.nd, fun x hx => Hd.out.has S_st (Hd.out.ok x hx), fun i hi => ?_, Hb2.out.grown hg0 (by have := Hs2.out; omega) (fun _ h => by cases h), by omega⟩
    rw [gi_zero]
    exact ⟨by simpa using Cg.refl _, by omega, by omega⟩
  case round =>
    obtain ⟨L, left, cnt, cs, hrg, hcs, hLs, hnd, hleft, hcg, hbr, hsr⟩ := hrel
    go_wp2_with (at_next; refine wpList_next_ranges _ rfl _ rfl 94 S_st.K (plainElem Tryd.prog 3) (fun x : Value => x) (fun x : Int => .int .i64 x) (fun key _ _ => ⟨key, rfl⟩) (fun v y hv => by obtain ⟨c, e, _⟩ := plainElem_int_inv Tryd.underlying3 hv; exact ⟨c, e⟩) bm w2.heap.size L0.length D left cnt rfl hrg ?_ ?_)
    · intro _ hl0
      have hL : L = [] := by
        cases L with
        | nil => rfl
        | cons x r =>
          have h1 := hleft x (hLs x (by simp))
          rw [hl0] at h1
          simp at h1
      subst hL
      have hfin : cs = scoreL sc n (gr' + 1) := by
        refine ext_gi (by rw [hcs.len]; simp [scoreL]) fun i hi => ?_
        rw [hcs.len] at hi
        obtain ⟨h1, h2, h3⟩ := hcg i (by omega)
        have h4 : Cg (gi cs i) (climbW sc (hits i) (n - 1) (iota n) 0) := by
          have : Cg (gi cs i) (potL L0 fun p => hits i p.1 p.2) := by simpa [potL, sumL] using h1
          exact this.trans (Hpot.out (hits i))
        have h5 : gi (scoreL sc n (gr' + 1)) i = wrap64 (climbW sc (hits i) (n - 1) (iota n) 0) := gi_row hi
        rw [h5, ← h4.wrap]
        unfold wrap64; omega
      have Hfin := Lib.hid (show OwnI wr w.heap.size (.slice (some ⟨w.heap.size, 0, none⟩) (gr' + 1) (gr' + 1)) (scoreL sc n (gr' + 1)) ∧ Below w.heap.size w wr from ⟨by rw [← hfin]; exact hcs, hbr⟩)
      clear hrg hcs hLs hnd hleft hcg hbr hl0 hfin
      go_wp2
      go_ret
      exact ⟨_, rfl, Hfin.out⟩
    · intro key c kl1 y1 y2 w3 cnt1 hkey hlk hRv hat hrg1 hlt hg1 hs1 hen
      obtain ⟨x, hxL0, hxk⟩ := Hd.out.key_of (Maps.has_true_of_atKey hat)
      subst hxk
      have hvk := Hd.out.ok x hxL0
      have hkey2 : key = ky x.1 := S_st.K.inj hkey (kl_is S_st hvk)
      have hc : c = x.2 := by
        obtain ⟨c', e1, e2, _⟩ := plainElem_int_inv Tryd.underlying3 hRv
        have h1 := Hd.out.atKey S_st hvk
        have e3 : y1 = .lit (.int .i64 c') := congrArg Prod.fst e2
        rw [hat, e3, getC_of_mem Hd.out.nd hxL0] at h1
        simp at h1 e1
        rw [e1, h1]
      have hxL : x ∈ L := by
        have h1 := hleft x hxL0
        rw [hlk] at h1
        obtain ⟨y, hy, hye⟩ := List.any_eq_true.1 h1.symm
        have : y = x := nodup_fst Hd.out.nd (hLs y hy) hxL0 (by simpa using hye)
        rw [← this]; exact hy
      subst hkey2
      have hreach := Hkeys.out x hxL0
      have hs := (reach_ok Hb.out (xs := iota n) ⟨up_iota n, fun x hx => by have := mem_iota.1 hx; omega⟩ (by rw [iota_len]; exact hn) (n - 1) x.1 hreach).2.2.1
      have hs' := Hlim.out x.1 hreach
      obtain ⟨s, hsv⟩ : ∃ s : Nat, x.1.2 = (s : Int) := ⟨x.1.2.toNat, by omega⟩
      have hsg : s ≤ gr' := by omega
      have hcell := hcs.cellAt s (by omega)
      have hcell3 : w3.cell? ⟨w.heap.size, s, none⟩ = some (.int .i64 (gi cs s)) := hg1.cell hcell (by simp; have := Hs2.out; omega)
      have hcs3 : OwnI w3 w.heap.size (.slice (some ⟨w.heap.size, 0, none⟩) (gr' + 1) (gr' + 1)) cs := World.ownsRow.kept hcs hg1 (.inr (by simp [Value.ownBlock]; have := Hs2.out; omega))
      obtain ⟨ma, hma⟩ : ∃ ma : Int, ma = (mask x.1.1 : Nat) := ⟨_, rfl⟩
      have hky : ky x.1 = .agg #[.int .u64 ma, .int .i64 (s : Int)] := by unfold ky; rw [hma, hsv]
      rw [hky] at hen ⊢
      obtain ⟨gs, hgs⟩ : ∃ gs, gs = gi cs s := ⟨_, rfl⟩
      rw [← hgs] at hcell3
      have hgb := hcg s hsg
      obtain ⟨vn, hvn⟩ : ∃ vn, vn = wrap64 (gs + c) := ⟨_, rfl⟩
      have hlen := hcs.len
      have hbw3 : Below w.heap.size w w3 := hbr.grown hg1 hbr.size (fun k hk => by cases hk; have := Hs2.out; omega)
      have hsz3 : w2.heap.size + 1 ≤ w3.heap.size := by omega
      have hfz : (w3.alloc (.cells #[.int .u64 ma, .int .i64 (s : Int)] 94)).frozen? ⟨w.heap.size, s, none⟩ = false := OwnI.frozenAt (World.ownsRow.alloc hcs3 _) s
      have Hrel := Lib.hid (show ∀ w4, w4 = (w3.alloc (.cells #[.int .u64 ma, .int .i64 (s : Int)] 94)).setCell ⟨w.heap.size, s, none⟩ (.int .i64 vn) → ∃ (L : List Ent) (left : Lit → Bool) (cnt : Nat) (cs : List Int), w4.ranges Tryd.prog 94 (plainElem Tryd.prog 3) bm w2.heap.size L0.length D left cnt ∧ OwnI w4 w.heap.size (.slice (some ⟨w.heap.size, 0, none⟩) (gr' + 1) (gr' + 1)) cs ∧ (∀ x ∈ L, x ∈ L0) ∧ (L.map (·.1)).Nodup ∧ (∀ x ∈ L0, left (kl Tryd.prog 94 x.1) = L.any fun y => y.1 == x.1) ∧ (∀ i : Nat, i ≤ gr' → Cg (gi cs i + potL L fun p => hits i p.1 p.2) (potL L0 fun p => hits i p.1 p.2) ∧ -9223372036854775808 ≤ gi cs i ∧ gi cs i ≤ 9223372036854775807) ∧ Below w.heap.size w w4 ∧ w2.heap.size + 1 ≤ w4.heap.size ∧ w4.rangeLeft bm w2.heap.size = cnt1 from by
        intro w4 hw4
        have hg34 : w3.grownBy w4 (some w.heap.size) := by
          rw [hw4]
          have h1 := World.grownBy_alloc w3 (.cells #[.int .u64 ma, .int .i64 (s : Int)] 94) (some w.heap.size)
          exact ⟨h1.os, h1.tape, h1.output, by simp [World.setCell], fun b hb hne => (Below.heap_setCell _ _ _ _ (fun e => hne (by rw [e]))).trans (h1.block b hb hne)⟩
        have hrg4 := hrg1.kept hg34 (by simp; have := Hs1.out; omega) (by simp; have := Hs2.out; omega)
        have hcs4 : OwnI w4 w.heap.size (.slice (some ⟨w.heap.size, 0, none⟩) (gr' + 1) (gr' + 1)) (cs.set s vn) := by
          rw [hw4]
          exact OwnI.store (World.ownsRow.alloc hcs3 _) s vn
        refine ⟨strike L x.1, _, cnt1, _, hrg4, hcs4, fun y hy => hLs y (List.mem_filter.1 hy).1, (List.filter_sublist.map _).nodup hnd, fun y hy => ?_, fun i hi => ?_, hbw3.trans ⟨hg34.os, hg34.tape, hg34.output, hg34.size, fun b hb => hg34.block b (by have := Hs2.out; omega) (by simp; omega)⟩, Nat.le_trans hsz3 hg34.size, hrg4.left_eq⟩
        · show (left (kl Tryd.prog 94 y.1) && !(kl Tryd.prog 94 y.1).sameKey (kl Tryd.prog 94 x.1)) = _
          rw [hleft y hy, sameKey_kl S_st hvk (Hd.out.ok y hy), Bool.eq_iff_iff, Bool.and_eq_true, List.any_eq_true, List.any_eq_true]
          constructor
          · rintro ⟨⟨z, hz, hze⟩, hne⟩
            refine ⟨z, List.mem_filter.2 ⟨hz, ?_⟩, hze⟩
            have e : z.1 = y.1 := by simpa using hze
            rw [e]; exact hne
          · rintro ⟨z, hz, hze⟩
            obtain ⟨hz1, hz2⟩ := List.mem_filter.1 hz
            have e : z.1 = y.1 := by simpa using hze
            rw [e] at hz2
            exact ⟨⟨z, hz1, hze⟩, hz2⟩
        · obtain ⟨h1, h2, h3⟩ := hcg i hi
          have hst := potL_strike hnd x.1 (fun p => hits i p.1 p.2)
          rw [getC_of_mem hnd hxL, ← hc] at hst
          rw [hst] at h1
          rw [gi_set (by rw [hlen]; omega)]
          by_cases e : i = s
          · subst e
            have hh : hits (i : Int) x.1.1 x.1.2 = 1 := by unfold hits; rw [if_pos hsv]
            rw [if_pos rfl, hvn, hgs]
            simp only [hh, Int.mul_one] at h1
            refine ⟨Cg.trans ?_ h1, ?_⟩
            · rw [← Int.add_assoc]
              exact (wrap_cg _).add (Cg.refl _)
            · unfold wrap64; omega
          · have hh : hits (i : Int) x.1.1 x.1.2 = 0 := by unfold hits; rw [if_neg (by omega)]
            rw [if_neg e]
            simp only [hh, Int.mul_zero, Int.zero_add] at h1
            exact ⟨h1, h2, h3⟩)
      have hwv : IntKind.i64.wrap (gs + c) = vn := by rw [i64_wrap, hvn]
      have hwv2 : wrap64 (gs + c) = vn := hvn.symm
      have Hlo := Lib.hid hrg.left_eq
      have Hlt := Lib.hid hlt
      have hsx : (s : Int) < ((gr' : Int) + 1) := by omega
      have hcell4 : (w3.alloc (.cells #[.int .u64 ma, .int .i64 (s : Int)] 94)).cell? ⟨w.heap.size, s, none⟩ = some (.int .i64 gs) := Lib.cell?_alloc_some _ hcell3
      clear hrg hcs hLs hnd hleft hcg hbr hkey hlk hRv hat hrg1 hlt hg1 hs1 hvk hc hxL hxL0 hreach hs hs' hsv hcell hcs3 hma hky hgs hgb hlen hbw3 hsz3 hvn
      go_wp2
      go_roundw
      case rel =>
        obtain ⟨L', l', c', cs', q1, q2, q3, q4, q5, q6, q7, q8, _⟩ := Hrel.out _ rfl
        exact ⟨L', l', c', cs', q1, q2, q3, q4, q5, q6, q7, q8⟩
      case measure =>
        obtain ⟨L', l', c', cs', _, _, _, _, _, _, _, _, q9⟩ := Hrel.out _ rfl
        rw [q9, Hlo.out]
        have := Hlt.out
        omega
end Go.Proofs.YtnhkclnloiiihaaDoor

namespace Go.Proofs.YtnhkclnloiiihaaDoor
open Go.RowKit Go.Maps
open Go.WideMaps (KeyLaw)

set_option maxRecDepth 100000 in
set_option maxHeartbeats 6400000 in
theorem climb_movedNumbers (sc : List Int → List Int → Int) (hf : Scores 120 sc) (R : List Pos) (hR : ∀ p ∈ R, vk p ∧ p.1.length ≤ 6) (hR2 : ∀ p ∈ stepR sc R, vk p) (hRl : (stepR sc R).length < 9223372036854775807)
    (hsc : ∀ p ∈ R, ∀ ys ∈ above p.1, -1000 ≤ sc p.1 ys ∧ sc p.1 ys ≤ 1000) (bn bx : Nat) (hne : bn ≠ bx) (L0 : List Ent) (hL0 : ∀ x ∈ L0, x.1 ∈ R) (w : World) (hn : MapW Tryd.prog 94 3 w bn L0) (hx : MapW Tryd.prog 94 3 w bx []) (hD : Dj w) (hG : 2 < bx) (hG2 : 2 < bn) :
    Calls Tryd.prog 150 #[.map (some bn), .map (some bx), .func (.func 120) #[] #[]] w fun e w' => e = .returned (.tuple #[]) ∧ ∃ Lx, MapW Tryd.prog 94 3 w' bn [] ∧ MapW Tryd.prog 94 3 w' bx Lx ∧ (∀ x ∈ Lx, x.1 ∈ stepR sc R) ∧
      (∀ φ, Cg (potL Lx φ) (potL L0 (psi sc φ))) ∧ ∀ B, B ≤ bn → B ≤ bx → B ≤ w.heap.size → Below B w w' := by
  obtain ⟨D0, hown0, hd0⟩ := hn
  have Hf := Lib.hid hf
  have HR := Lib.hid hR
  have HR2 := Lib.hid hR2
  have Hsc := Lib.hid hsc
  have HL0 := Lib.hid hL0
  have Hx := Lib.hid hx
  have HD := Lib.hid hD
  have Hd0 := Lib.hid hd0
  clear hf hR hR2 hsc hL0 hx hD hd0
  go_enter Tryd.func150, Tryd.ntmps150
  go_wp2_with (at_range; refine wpList_range_own _ rfl _ 91 rfl 94 3 S_st.K Tryd.underlying91 (plainElem Tryd.prog 3) bn L0.length D0 rfl hown0 ?_; intro w0 hrg0 hg0 hs0)
  go_frame
  go_loopw [12] (fun _ wr => ∃ (D : DataW Nat) (L Lx : List Ent) (left : Lit → Bool) (cnt : Nat), wr.ranges Tryd.prog 94 (plainElem Tryd.prog 3) bn w.heap.size L0.length D left cnt ∧ MapD Tryd.prog 94 D L ∧ (∀ p, vk p → Maps.has D (kl Tryd.prog 94 p) = left (kl Tryd.prog 94 p)) ∧
      (∀ x ∈ L, x.1 ∈ R) ∧ MapW Tryd.prog 94 3 wr bx Lx ∧ (∀ x ∈ Lx, x.1 ∈ stepR sc R) ∧ (∀ φ, Cg (potL Lx φ + potL L (psi sc φ)) (potL L0 (psi sc φ))) ∧ (∀ B, B ≤ bn → B ≤ bx → B ≤ w.heap.size → Below B w wr) ∧ w.heap.size ≤ wr.heap.size ∧ Dj wr) (fun _ wr => wr.rangeLeft bn w.heap.size)
  case atStart => exact ⟨D0, L0, [], _, _, hrg0, Hd0.out, fun _ _ => rfl, HL0.out, Hx.out.kept hg0 (by simp), (fun x hx => by cases hx), (fun φ => by simpa [potL, sumL] using Cg.refl _), (fun B _ _ hB => (Below.refl _ _).grown hg0 hB (fun _ h => by cases h)), by omega, HD.out.grown (hg0.but (some bx)) hG⟩
  case round =>
    obtain ⟨D, L, Lx, left, cnt, hrg, hmd, hleft, hLR, hmx, hLx, hpot, hfr, hsz, hDr⟩ := hrel
    go_wp2_with (at_next; refine wpList_next_ranges _ rfl _ rfl 94 S_st.K (plainElem Tryd.prog 3) (fun x : Value => x) (fun x : Int => .int .i64 x) (fun key _ _ => ⟨key, rfl⟩) (fun v y hv => by obtain ⟨c, e, _⟩ := plainElem_int_inv Tryd.underlying3 hv; exact ⟨c, e⟩) bn w.heap.size L0.length D left cnt rfl hrg ?_ ?_)
    · intro _ hl0
      have hL : L = [] := by
        cases L with
        | nil => rfl
        | cons x r =>
          have h1 := hmd.has S_st (hmd.ok x (by simp))
          rw [hleft _ (hmd.ok x (by simp)), hl0] at h1
          simp at h1
      subst hL
      have hown := hrg.owns
      have Hfin := Lib.hid (show MapW Tryd.prog 94 3 wr bn [] ∧ MapW Tryd.prog 94 3 wr bx Lx ∧ (∀ x ∈ Lx, x.1 ∈ stepR sc R) ∧ (∀ φ, Cg (potL Lx φ) (potL L0 (psi sc φ))) ∧ ∀ B, B ≤ bn → B ≤ bx → B ≤ w.heap.size → Below B w wr from
        ⟨MapW.of hown hmd, hmx, hLx, fun φ => by have := hpot φ; simpa [potL, sumL] using this, hfr⟩)
      clear hrg hmd hleft hLR hmx hLx hpot hfr hown hl0
      go_wp2
      go_end0
      exact ⟨rfl, Lx, Hfin.out⟩
    · intro key c kl1 y1 y2 w1 cnt1 hkey hlk hRv hat hrg1 hlt hg1 hs1 hen
      obtain ⟨x, hxL, hxk⟩ := hmd.key_of (Maps.has_true_of_atKey hat)
      obtain ⟨⟨xs, s⟩, cx⟩ := x
      have hvk := hmd.ok _ hxL
      simp only at hxk hvk
      have hkey2 : key = ky (xs, s) := S_st.K.inj hkey (by rw [← hxk]; exact kl_is S_st hvk)
      have hc : c = getC L (xs, s) := by
        obtain ⟨c', e1, e2, _⟩ := plainElem_int_inv Tryd.underlying3 hRv
        have h1 := hmd.atKey S_st hvk
        have e3 : y1 = .lit (.int .i64 c') := congrArg Prod.fst e2
        rw [hxk, hat, e3] at h1
        simp at h1 e1
        rw [e1, h1]
      subst hkey2
      subst hxk
      have Hlo := Lib.hid hrg.left_eq
      have Hlt := Lib.hid hlt
      have Hgr := Lib.hid hg1
      have hpR := hLR _ hxL
      simp only at hpR
      have h6 := (HR.out _ hpR).2
      have hrise := hvk.1
      have hxlt := hmx.lt
      have hbxw : bx < w.heap.size := (Hx.out).lt
      have hsz1 : w1.heap.size = wr.heap.size := hs1
      have Hsz1 := Lib.hid hsz1
      have Hrg1 := Lib.hid hrg1
      have Hmd := Lib.hid hmd
      have Hleft := Lib.hid hleft
      have HLR := Lib.hid hLR
      have HLx := Lib.hid hLx
      have Hpot := Lib.hid hpot
      have Hfr := Lib.hid hfr
      have Hvk := Lib.hid hvk
      have HpR := Lib.hid hpR
      have Hc := Lib.hid hc
      have HxL := Lib.hid hxL
      have hg1' : wr.grownBy w1 (some w.heap.size) := hg1
      have Hmx := Lib.hid (hmx.kept hg1 (by simp; omega))
      have hD1 : Dj w1 := hDr.grown hg1' (by omega)
      obtain ⟨w2, hw2⟩ : ∃ w2, w2 = w1.alloc (.cells #[.int .u64 (mask xs : Nat), .int .i64 s] 94) := ⟨_, rfl⟩
      have hset := setsAbove_any hrise h6 w2 (by rw [hw2]; exact hD1.next ((Below.refl _ _).alloc (Nat.le_refl _) _))
      obtain ⟨m, hm⟩ : ∃ m : Int, m = (mask xs : Nat) := ⟨_, rfl⟩
      have hky : ky (xs, s) = .agg #[.int .u64 m, .int .i64 s] := by rw [hm]; rfl
      rw [hky] at hen
      rw [← hm] at hset hw2
      have Hset := Lib.hid hset
      have Hm := Lib.hid hm
      have hD2 := Lib.hid (show Dj w2 by rw [hw2]; exact hD1.next ((Below.refl _ _).alloc (Nat.le_refl _) _))
      have Hg12 := Lib.hid (show w1.grownBy w2 none by rw [hw2]; exact World.grownBy_alloc _ _ _)
      have Hcell0 := Lib.hid (show w2.cell? ⟨w1.heap.size, 0, none⟩ = some (.int .u64 m) by rw [hw2]; exact cell_new _ _ _ 0)
      have Hcell1 := Lib.hid (show w2.cell? ⟨w1.heap.size, 1, none⟩ = some (.int .i64 s) by rw [hw2]; exact cell_new _ _ _ 1)
      have Hsz2 := Lib.hid (show w2.heap.size = w1.heap.size + 1 by rw [hw2]; simp)
      clear hset hat hRv hkey hlk hg1 hg1' hrg hrg1 hmd hleft hLR hmx hLx hpot hfr hvk hpR hc hxL hD1 hm hsz1 hs1 hlt
      rw [hky]
      clear hky
      go_wp2_with fail
      rw [← hw2]
      refine Hset.out.mono ?_
      rintro e w3 ⟨v, rfl, hv, hb3⟩
      obtain ⟨sa, sc', hsv, hsc1, hsc2, hsr⟩ := hv.read
      obtain ⟨A, hA⟩ : ∃ A, A = above xs := ⟨_, rfl⟩
      rw [← hA] at hsv hv hsr
      obtain ⟨al, hal⟩ : ∃ al, al = A.length := ⟨_, rfl⟩
      rw [← hal] at hsv
      subst hsv
      have hamx : al ≤ 9223372036854775807 := by
        rw [hal, hA]
        have h1 := above_len hrise
        have h2 : 16 ^ (xs.length - 1) ≤ 16 ^ 5 := Nat.pow_le_pow_right (by omega) (by omega)
        omega
      have hbw1 : w.heap.size ≤ w1.heap.size := by have := Hsz1.out; omega
      have Hg13 := Lib.hid (show w1.grownBy w3 none from Hg12.out.trans (grown_of_below hb3))
      have Hmx3 := Lib.hid (Hmx.out.kept Hg13.out (by simp))
      have Hcell0' := Lib.hid (cell_below Hcell0.out hb3)
      have Hcell1' := Lib.hid (cell_below Hcell1.out hb3)
      have HD3 := Lib.hid (hD2.out.next hb3)
      have Hv := Lib.hid hv
      have Hsr := Lib.hid hsr
      have HA := Lib.hid hA
      have Hal := Lib.hid hal
      have HB23 := Lib.hid hb3.size
      clear hv hsr hA hal hb3 Hcell0 Hcell1 hD2 hsc1 hsc2
      go_wp2
      go_loopw [21] (fun i wi => ∃ (t : Nat) (Ly : List Ent), t ≤ al ∧ i = .int .i64 t ∧ MapW Tryd.prog 94 3 wi bx Ly ∧ (∀ x ∈ Ly, x.1 ∈ stepR sc R) ∧ (∀ φ, Cg (potL Ly φ) (potL Lx φ + c * sumL (A.take t) (fun ys => φ (ys, s + sc xs ys)))) ∧ w3.grownBy wi (some bx)) (fun i _ => al - (intOf i).toNat)
      case atStart => exact ⟨0, Lx, Nat.zero_le _, rfl, Hmx3.out, HLx.out, fun φ => by simpa [sumL] using Cg.refl _, World.grownBy.refl _ _⟩
      case round =>
        obtain ⟨t, Ly, ht, rfl, hmy, hLy, hpy, hgi⟩ := hrel
        have Hgi := Lib.hid hgi
        have Hmy := Lib.hid hmy
        have HLy := Lib.hid hLy
        have Hpy := Lib.hid hpy
        by_cases htl : t < al
        · obtain ⟨sb, so, hse, hsc0⟩ := Hsr.out t (by rw [← Hal.out]; exact htl)
          have hsb : sb ≠ bx := fun e => by
            have := (World.ownsRow.lt Hv.out sb (by rw [hse]; rfl)).1
            have := Hsz2.out
            omega
          have hcs := hgi.cell hsc0 (by simpa using hsb)
          have hc0 := hgi.cell Hcell0'.out (by simp; omega)
          have hc1 := hgi.cell Hcell1'.out (by simp; omega)
          obtain ⟨ys, hys⟩ : ∃ ys, ys = gr A t := ⟨_, rfl⟩
          rw [← hys] at hcs
          have hysm : ys ∈ above xs := by rw [hys, ← HA.out]; exact gr_mem (by rw [← Hal.out]; exact htl)
          have hDi : Dj wr := HD3.out.grown hgi hG
          obtain ⟨my, hmyv⟩ : ∃ my : Int, my = (mask ys : Nat) := ⟨_, rfl⟩
          obtain ⟨q, hq⟩ : ∃ q, q = sc xs ys := ⟨_, rfl⟩
          have hqb := Hsc.out _ HpR.out ys hysm
          simp only at hqb
          rw [← hq] at hqb
          have hcall := Hf.out xs ys wr.drew hrise h6 hysm hDi
          rw [← hmyv, ← hq, ← Hm.out] at hcall
          have hcs' : wr.cell? ⟨sb, so + t, none⟩ = some (.int .u64 my) := by rw [hmyv]; exact hcs
          have hpos : (ys, s + q) ∈ stepR sc R := by rw [hq]; exact mem_stepR HpR.out hysm
          have hvy := HR2.out _ hpos
          have hLyl : Ly.length < 9223372036854775807 := by
            obtain ⟨Dy, _, hdy⟩ := Hmy.out
            exact Nat.lt_of_le_of_lt (nodup_len hdy.nd HLy.out) hRl
          obtain ⟨g, hgv⟩ : ∃ g, g = getC Ly (ys, s + q) := ⟨_, rfl⟩
          obtain ⟨v', hv'⟩ : ∃ v', v' = wrap64 (g + c) := ⟨_, rfl⟩
          have hfacts : ∀ w', Below wr.drew.heap.size wr.drew w' → w'.cell? ⟨w1.heap.size, 0, none⟩ = some (.int .u64 m) ∧ w'.cell? ⟨w1.heap.size, 1, none⟩ = some (.int .i64 s) ∧ ∃ (v0 : Value) (st : Int) (w5 w6 : World),
              (Instr.lookup 91 (.map (some bx)) (.agg #[.int .u64 my, .int .i64 (s + q)]) false).run Tryd.prog w' = .ok (.int .i64 g) w' ∧ (Instr.mapEntry 91 (.map (some bx)) (.agg #[.int .u64 my, .int .i64 (s + q)])).run Tryd.prog w' = .ok (.tuple #[v0, .int .i64 st]) w5 ∧ (Instr.lookup 91 (.map (some bx)) (.agg #[.int .u64 my, .int .i64 (s + q)]) false).run Tryd.prog w5 = .ok (.int .i64 g) w5 ∧
              (Instr.entryStore 91 (.map (some bx)) (.int .i64 st) (.int .i64 v')).run Tryd.prog w5 = .ok () w6 ∧ MapW Tryd.prog 94 3 w6 bx (((ys, s + q), v') :: strike Ly (ys, s + q)) ∧ wr.grownBy w6 (some bx) := by
            intro w' hb'
            have hgw : wr.grownBy w' none := grown_of_below ((below_drewN (Below.refl _ _) 1).trans hb')
            refine ⟨hgw.cell hc0 (by simp), hgw.cell hc1 (by simp), ?_⟩
            obtain ⟨v0, st, w5, w6, r1, r2, rl, r3, r4, r5, _⟩ := (Hmy.out.kept hgw (by simp)).add S_st Tryd.law_st Tryd.underlying91 zero_int hLyl hvy c
            have hky2 : ky (ys, s + q) = .agg #[.int .u64 my, .int .i64 (s + q)] := by rw [hmyv]; rfl
            rw [hky2, ← hgv] at r1
            rw [hky2] at r2
            rw [hky2, ← hgv] at rl
            rw [← hgv, ← hv'] at r3 r4
            exact ⟨v0, st, w5, w6, r1, r2, rl, r3, r4, (hgw.but (some bx)).trans r5⟩
          have hws : IntKind.i64.wrap (s + q) = s + q := i64_small (by have := Hvk.out.2; simp at this; omega) (by have := Hvk.out.2; simp at this; omega)
          have hwv : IntKind.i64.wrap (g + c) = v' := by rw [i64_wrap, hv']
          have Hfacts := Lib.hid hfacts
          have Hcall := Lib.hid hcall
          have Hnext := Lib.hid (show ∀ φ, Cg (potL (((ys, s + q), v') :: strike Ly (ys, s + q)) φ) (potL Lx φ + c * sumL (A.take (t + 1)) (fun ys => φ (ys, s + sc xs ys))) from fun φ => by
            obtain ⟨Dy, _, hdy⟩ := Hmy.out
            have h1 := potL_put hdy.nd (ys, s + q) c φ
            rw [← hgv, ← hv'] at h1
            refine h1.trans ?_
            have h2 := Hpy.out φ
            have e : sumL (A.take (t + 1)) (fun ys => φ (ys, s + sc xs ys)) = sumL (A.take t) (fun ys => φ (ys, s + sc xs ys)) + φ (ys, s + q) := by
              rw [List.take_succ_eq_append_getElem (by rw [← Hal.out]; exact htl), sumL_append, hys, gr_lt (by rw [← Hal.out]; exact htl)]
              simp [sumL, hq, hys, gr_lt (show t < A.length by rw [← Hal.out]; exact htl)]
            rw [e, Int.mul_add, ← Int.add_assoc]
            exact h2.add (Cg.refl _))
          have Hpos := Lib.hid hpos
          clear hgi hmy hLy hpy hsc0 hcs hysm hDi hmyv hq hqb hcall hpos hvy hLyl hgv hv' hfacts hys
          subst hse
          go_wp2
          go_region_with (go_at_call 120; refine Hcall.out.mono ?_; rintro e w' ⟨rfl, hb⟩; obtain ⟨hd0, hd1, v0, st, w5, w6, r1, r2, rl, r3, r4, r5⟩ := Hfacts.out w' hb)
          all_goals
            have Hr4 := Lib.hid r4
            have Hr5 := Lib.hid r5
            clear hb hd0 hd1 r1 r2 rl r3 r4 r5
            go_wp2
            go_roundw
            case rel =>
              refine ⟨t + 1, _, by omega, by go_num, Hr4.out, fun x hx => ?_, Hnext.out, Hgi.out.trans Hr5.out⟩
              rcases List.mem_cons.1 hx with rfl | hx
              · exact Hpos.out
              · exact HLy.out x (List.mem_filter.1 hx).1
            case measure => simp [intOf]; omega
        · obtain rfl : t = al := by omega
          have hpy2 : ∀ φ, Cg (potL Ly φ) (potL Lx φ + c * psi sc φ (xs, s)) := fun φ => by
            have := Hpy.out φ
            rw [Hal.out, List.take_length, HA.out] at this
            exact this
          have hrgr := Hrg1.out.kept (row := some bx) ((Hg13.out.but (some bx)).trans Hgi.out) (by simp; omega) (by simp; omega)
          have hc0 := Hgi.out.cell Hcell0'.out (by simp; omega)
          have hc1 := Hgi.out.cell Hcell1'.out (by simp; omega)
          have hnew := Lib.hid (show ∀ φ, Cg (potL Ly φ + potL (strike L (xs, s)) (psi sc φ)) (potL L0 (psi sc φ)) from fun φ => by
            have h1 := potL_strike Hmd.out.nd (xs, s) (psi sc φ)
            rw [← Hc.out] at h1
            have h2 := Hpot.out φ
            rw [h1] at h2
            refine Cg.trans ?_ h2
            have h3 := (hpy2 φ).add (Cg.refl (potL (strike L (xs, s)) (psi sc φ)))
            rw [Int.add_assoc] at h3
            exact h3)
          have hkeyp : keyOf Tryd.prog 94 (.agg #[.int .u64 m, .int .i64 s]) = some (kl Tryd.prog 94 (xs, s)) := by rw [Hm.out]; exact kl_is S_st Hvk.out
          have hdr := HD3.out.grown Hgi.out hG
          have Hrgr := Lib.hid hrgr
          have Hkeyp := Lib.hid hkeyp
          have Hdr := Lib.hid hdr
          have HBr := Lib.hid (show w3.heap.size ≤ wr.heap.size from Hgi.out.size)
          clear hpy2 hrgr hkeyp hdr
          go_wp2_with (at_delete; refine wpList_delete_ranges _ rfl _ _ 91 94 rfl 3 S_st.K Tryd.underlying91 (plainElem Tryd.prog 3) bn w.heap.size L0.length D _ cnt1 rfl Hrgr.out _ _ rfl Hkeyp.out ?_; intro w5 cnt2 hrg2 hle hturn; go_frame)
          rw [Maps.strike_twice] at hrg2
          have hg5 : wr.grownBy w5 (some bn) := hturn.grown
          have Hrel := Lib.hid (show ∃ (D' : DataW Nat) (L' Lx' : List Ent) (left' : Lit → Bool) (cnt' : Nat), w5.ranges Tryd.prog 94 (plainElem Tryd.prog 3) bn w.heap.size L0.length D' left' cnt' ∧ MapD Tryd.prog 94 D' L' ∧ (∀ p, vk p → Maps.has D' (kl Tryd.prog 94 p) = left' (kl Tryd.prog 94 p)) ∧
              (∀ x ∈ L', x.1 ∈ R) ∧ MapW Tryd.prog 94 3 w5 bx Lx' ∧ (∀ x ∈ Lx', x.1 ∈ stepR sc R) ∧ (∀ φ, Cg (potL Lx' φ + potL L' (psi sc φ)) (potL L0 (psi sc φ))) ∧ (∀ B, B ≤ bn → B ≤ bx → B ≤ w.heap.size → Below B w w5) ∧ w.heap.size ≤ w5.heap.size ∧ Dj w5 from by
            refine ⟨_, strike L (xs, s), Ly, _, cnt2, hrg2, Hmd.out.del S_st Hvk.out, fun p hp => ?_, fun x hx => HLR.out x (List.mem_filter.1 hx).1, Hmy.out.kept hg5 (by simp; omega), HLy.out, hnew.out, fun B h1 h2 h3 => ?_, ?_, Hdr.out.grown hg5 hG2⟩
            · by_cases e : p = (xs, s)
              · subst e
                rw [Maps.has_del_same, WideAt.sameKey_self (kl_key S_st hp)]
                simp
              · have hne2 : kl Tryd.prog 94 p ≠ kl Tryd.prog 94 (xs, s) := fun e2 => e (kl_inj S_st hp Hvk.out e2)
                rw [Maps.has_del_other hne2, Hleft.out p hp, Maps.sameKey_ne hne2]
                simp
            · have q1 := (Hfr.out B h1 h2 h3).grown Hgr.out (by omega) (fun k hk => by cases hk; exact h3)
              have q2 := q1.grown Hg13.out (by omega) (fun k hk => by cases hk)
              have q3 := q2.grown Hgi.out (by have := Hg13.out.size; omega) (fun k hk => by cases hk; exact h2)
              exact q3.grown hg5 (by have := Hg13.out.size; have := HBr.out; omega) (fun k hk => by cases hk; exact h1)
            · have := Hg13.out.size; have := HBr.out; have := hg5.size; omega)
          have hm2 := hrg2.left_eq
          have Hm2 := Lib.hid hm2
          clear hrg2 hturn hg5 hm2 hc0 hc1
          go_roundw
          case rel => exact Hrel.out
          case measure => rw [Hm2.out, Hlo.out]; have := Hlt.out; omega
end Go.Proofs.YtnhkclnloiiihaaDoor

namespace Go.Proofs.YtnhkclnloiiihaaDoor
open Go.RowKit Go.Maps
open Go.WideMaps (KeyLaw)


set_option maxRecDepth 100000 in
set_option maxHeartbeats 1600000 in
theorem climbed_movedNumbers (sc : List Int → List Int → Int) (hf : Scores 120 sc) (hb : SmallSc sc) {xs : List Int} (hr : Rise xs) (h1 : 1 ≤ xs.length) (h6 : xs.length ≤ 6) (w : World) (hD : Dj w) :
    Calls Tryd.prog 122 #[.int .u64 (mask xs : Nat), .func (.func 120) #[] #[]] w fun e w' => ClimbsTo sc xs w e w' := by
  have hv0 : vk (xs, 0) := ⟨hr, by simp, by simp⟩
  obtain ⟨w1, hrun, hown1, hg1⟩ := (World.ownsMap_made (H := Nat) w Tryd.prog 94 (plainElem Tryd.prog 3)).update S_st.K Tryd.underlying91 (by unfold maxLen; omega) (kl_is S_st hv0) (plainElem_int Tryd.underlying3 (a := 1) (by decide))
  have hm1 : MapW Tryd.prog 94 3 w1 w.heap.size [((xs, 0), 1)] := MapW.of hown1 (by have := (MapD.empty (P := Tryd.prog) (k := 94)).put S_st hv0 1; simpa [strike] using this)
  have hb1 : Below w.heap.size w w1 := ((Below.refl _ w).alloc (Nat.le_refl _) _).grown hg1 (by simp) (fun k hk => by cases hk; exact Nat.le_refl _)
  have hs1 : w.heap.size + 1 ≤ w1.heap.size := by have := hg1.size; simp at this; exact this
  have hm2 : MapW Tryd.prog 94 3 (w1.alloc (.map #[] 0)) w1.heap.size [] := MapW.of (World.ownsMap_made w1 _ _ _) MapD.empty
  have hm1' : MapW Tryd.prog 94 3 (w1.alloc (.map #[] 0)) w.heap.size [((xs, 0), 1)] := hm1.kept (World.grownBy_alloc w1 _ none) (by simp)
  have hb2 : Below w.heap.size w (w1.alloc (.map #[] 0)) := hb1.alloc (by omega) _
  have hsz := size_any hr h6 (w1.alloc (.map #[] 0))
  have hGw := hD.lt
  have hky : ky (xs, 0) = .agg #[.int .u64 (mask xs : Nat), .int .i64 0] := rfl
  rw [hky] at hrun
  obtain ⟨m, hm⟩ : ∃ m : Int, m = (mask xs : Nat) := ⟨_, rfl⟩
  rw [← hm] at hrun hsz ⊢
  have hmm := @run_makeMap Tryd.prog
  have Hsz := Lib.hid hsz
  have Hstart := Lib.hid (And.intro hm1' (And.intro hm2 hb2))
  have Hb := Lib.hid hb
  have Hr := Lib.hid hr
  have Hf := Lib.hid hf
  have HD := Lib.hid hD
  have Hs1 := Lib.hid hs1
  clear hv0 hown1 hg1 hm1 hb1 hm2 hm1' hb2 hsz hm hky hb hr hf hD hs1
  go_enter Tryd.func122, Tryd.ntmps122
  go_wp2_with fail
  refine Hsz.out.mono ?_
  rintro e w2 ⟨rfl, rfl⟩
  go_wp2
  go_loopw [5, 6, 15] (fun now next i wr => ∃ (k bn bx : Nat) (L : List Ent), k + 1 ≤ xs.length ∧ i = .int .i64 (k : Int) ∧ now = .map (some bn) ∧ next = .map (some bx) ∧ bn ≠ bx ∧ w.heap.size ≤ bn ∧ w.heap.size ≤ bx ∧ MapW Tryd.prog 94 3 wr bn L ∧ MapW Tryd.prog 94 3 wr bx [] ∧
      (∀ x ∈ L, x.1 ∈ reach sc xs k) ∧ (∀ φ, Cg (potL L fun p => climbW sc φ (xs.length - 1 - k) p.1 p.2) (climbW sc φ (xs.length - 1) xs 0)) ∧ Below w.heap.size w wr ∧ w.heap.size ≤ wr.heap.size) (fun _ _ i _ => xs.length - (intOf i).toNat)
  case atStart => exact ⟨0, w.heap.size, w1.heap.size, _, h1, rfl, rfl, rfl, by have := Hs1.out; omega, Nat.le_refl _, by have := Hs1.out; omega, Hstart.out.1, Hstart.out.2.1, fun x hx => by simp at hx; subst hx; simp [reach], fun φ => by simpa [potL, sumL] using Cg.refl _, Hstart.out.2.2, by have := Hs1.out; simp; omega⟩
  case round =>
    obtain ⟨k, bn, bx, L, hk, rfl, rfl, rfl, hne, hbn, hbx, hmn, hmx, hkeys, hpot, hbr, hsr⟩ := hrel
    by_cases hlt : k + 1 < xs.length
    · have hlt' : (k : Int) < (xs.length : Int) - 1 := by omega
      have hcall := climb_movedNumbers sc Hf.out (reach sc xs k) (fun p hp => reach_vk Hb.out Hr.out h6 hp) (fun p hp => (reach_vk Hb.out Hr.out h6 (j := k + 1) hp).1) (reach_short Hb.out Hr.out h6 (j := k + 1) (by omega))
        (fun p hp ys hy => by have := Hb.out p.1 ys (reach_vk Hb.out Hr.out h6 hp).1.1 (reach_vk Hb.out Hr.out h6 hp).2 hy; omega) bn bx hne L hkeys wr hmn hmx (HD.out.next hbr) (by omega) (by omega)
      have Hcall := Lib.hid hcall
      have Hpot := Lib.hid hpot
      have Hbr := Lib.hid hbr
      clear hcall hmn hmx hkeys hpot hbr
      go_wp2_with fail
      refine Hcall.out.mono ?_
      rintro e w3 ⟨rfl, Lx, hn3, hx3, hk3, hp3, hf3⟩
      have Hrel := Lib.hid (show ∃ (L : List Ent), MapW Tryd.prog 94 3 w3 bx L ∧ MapW Tryd.prog 94 3 w3 bn [] ∧ (∀ x ∈ L, x.1 ∈ reach sc xs (k + 1)) ∧ (∀ φ, Cg (potL L fun p => climbW sc φ (xs.length - 1 - (k + 1)) p.1 p.2) (climbW sc φ (xs.length - 1) xs 0)) ∧ Below w.heap.size w w3 ∧ w.heap.size ≤ w3.heap.size from by
        have hb3 := hf3 w.heap.size hbn hbx hsr
        refine ⟨Lx, hx3, hn3, hk3, fun φ => ?_, Hbr.out.trans hb3, Nat.le_trans hsr hb3.size⟩
        have h1 := hp3 (fun p => climbW sc φ (xs.length - 1 - (k + 1)) p.1 p.2)
        have h2 := Hpot.out φ
        rw [show xs.length - 1 - k = (xs.length - 1 - (k + 1)) + 1 from by omega] at h2
        exact h1.trans h2)
      clear hn3 hx3 hk3 hp3 hf3
      go_wp2
      go_roundw
      case rel =>
        obtain ⟨L', q1, q2, q3, q4, q5, q6⟩ := Hrel.out
        exact ⟨k + 1, bx, bn, L', hlt, by go_num, rfl, rfl, hne.symm, hbx, hbn, q1, q2, q3, q4, q5, q6⟩
      case measure => simp [intOf]; omega
    · obtain rfl : k = xs.length - 1 := by omega
      have hfin := Lib.hid (show ClimbsTo sc xs w (.returned (.map (some bn))) wr from ⟨bn, L, rfl, hmn, hbn, hkeys, fun φ => by have := hpot φ; rw [Nat.sub_self] at this; exact this, hbr⟩)
      have hlt' : ¬ (((xs.length - 1 : Nat) : Int) < (xs.length : Int) - 1) := by omega
      clear hmn hmx hkeys hpot hbr
      go_wp2
      go_ret
      exact hfin.out
end Go.Proofs.YtnhkclnloiiihaaDoor

