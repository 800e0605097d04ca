/- Parts of proofs: contracts and plain facts. Conditions: as each says. -/
import Derived.Test.YtnhkclnloiiihaaDoorK20
namespace Go.Proofs.YtnhkclnloiiihaaDoor
open Go.RowKit Go.Maps

set_option maxRecDepth 100000 in
set_option maxHeartbeats 3200000 in
theorem byScore_movedNumbers (sc : List Int → List Int → Int) (hf : Scores 120 sc) (hb : SmallSc sc) (n gr' : Nat) (hn1 : 1 ≤ n) (hn : n ≤ 6) (hg : gr' ≤ 100) (hlim : ∀ p ∈ reach sc (iota n) (n - 1), p.2 ≤ (gr' : Int)) (w : World) (hD : Dj w) :
    Calls Tryd.prog 118 #[.int .i64 (n : Int), .int .i64 (gr' : Int), .func (.func 120) #[] #[]] w fun e w' => ∃ v, e = .returned v ∧ OwnI w' w.heap.size v (scoreL sc n (gr' + 1)) ∧ Below w.heap.size w w' := by
  obtain ⟨i0, hi, hz0, hz1, hz2⟩ := info_parts Tryd.info_int
  have Hf := Lib.hid hf
  have Hb := Lib.hid hb
  have Hlim := Lib.hid hlim
  have HD := Lib.hid hD
  clear hf hb hlim hD
  go_enter Tryd.func118, Tryd.ntmps118
  go_wp2_with (at_make; refine wpList_make_full _ rfl _ _ 28 rfl w.heap.size 3 i0 (.int .i64 0) 1 Tryd.underlying28 hi hz0 hz1 _ _ _ _ (gr' + 1) rfl rfl (by omega) (by omega) ?c1 ?c2 ?c3 ?_)
  case c1 => rw [hz2]; omega
  case c2 => unfold maxLen; omega
  case c3 => simp
  intro w1 hown hgr
  have hb1 : Below w.heap.size w w1 := (Below.refl _ _).grown hgr (Nat.le_refl _) (fun _ h => by cases h)
  have hown1 := OwnI.made hown
  have hs1 : w.heap.size + 1 ≤ w1.heap.size := by have := (OwnI.lt hown1 w.heap.size rfl).2; omega
  have hr : Rise (iota n) := ⟨up_iota n, fun x hx => by have := mem_iota.1 hx; omega⟩
  have hcl := climbed_movedNumbers sc Hf.out Hb.out hr (by rw [iota_len]; exact hn1) (by rw [iota_len]; exact hn) w1 (HD.out.next hb1)
  rw [mask_iota] at hcl
  obtain ⟨m, hm⟩ : ∃ m : Int, m = ((2 ^ n - 1 : Nat) : Int) := ⟨_, rfl⟩
  have hac := allColumns_any n w1 (by omega)
  rw [← hm] at hcl hac
  have Hcl := Lib.hid hcl
  have Hac := Lib.hid hac
  have Hown1 := Lib.hid hown1
  have Hb1 := Lib.hid hb1
  have Hs1 := Lib.hid hs1
  clear hown hgr hb1 hown1 hs1 hcl hm hac hr
  go_wp2_with fail
  refine Hac.out.mono ?_
  rintro e wx ⟨rfl, rfl⟩
  go_wp2_with fail
  refine Hcl.out.mono ?_
  rintro e w2 ⟨bm, L0, rfl, hmw, hbm, hkeys, hpot, hb2⟩
  obtain ⟨D, hownm, hd⟩ := hmw
  rw [iota_len] at hkeys hpot
  have Hkeys := Lib.hid hkeys
  have Hpot := Lib.hid hpot
  have Hd := Lib.hid hd
  have Hown2 := Lib.hid (Hown1.out.below hb2)
  have Hb2 := Lib.hid (Hb1.out.trans (hb2.mono (by have := Hs1.out; omega)))
  have Hs2 := Lib.hid (Nat.le_trans Hs1.out hb2.size)
  clear hkeys hpot hb2 hd
  go_wp2_with (at_range; refine wpList_range_own _ rfl _ 91 rfl 94 3 S_st.K Tryd.underlying91 (plainElem Tryd.prog 3) bm L0.length D rfl hownm ?_; intro w0 hrg0 hg0 hs0)
  go_frame
  go_loopw [18] (fun _ wr => ∃ (L : List Ent) (left : Lit → Bool) (cnt : Nat) (cs : List Int), wr.ranges Tryd.prog 94 (plainElem Tryd.prog 3) bm w2.heap.size L0.length D left cnt ∧ OwnI wr w.heap.size (.slice (some ⟨w.heap.size, 0, none⟩) (gr' + 1) (gr' + 1)) cs ∧ (∀ x ∈ L, x ∈ L0) ∧ (L.map (·.1)).Nodup ∧ (∀ x ∈ L0, left (kl Tryd.prog 94 x.1) = L.any fun y => y.1 == x.1) ∧ (∀ i : Nat, i ≤ gr' → Cg (gi cs i + potL L fun p => hits i p.1 p.2) (potL L0 fun p => hits i p.1 p.2) ∧ -9223372036854775808 ≤ gi cs i ∧ gi cs i ≤ 9223372036854775807) ∧ Below w.heap.size w wr ∧ w2.heap.size + 1 ≤ wr.heap.size) (fun _ wr => wr.rangeLeft bm w2.heap.size)
  case atStart =>
    refine ⟨L0, _, _, _, hrg0, World.ownsRow.kept Hown2.out hg0 (.inr (by simp [Value.ownBlock])), fun x hx => hx, Hd.out.nd, fun x hx => Hd.out.has S_st (Hd.out.ok x hx), fun i hi => ?_, Hb2.out.grown hg0 (by have := Hs2.out; omega) (fun _ h => by cases h), by omega⟩
    rw [gi_zero]
    exact ⟨by simpa using Cg.refl _, by omega, by omega⟩
  case round =>
    obtain ⟨L, left, cnt, cs, hrg, hcs, hLs, hnd, hleft, hcg, hbr, hsr⟩ := hrel
    go_wp2_with (at_next; refine wpList_next_ranges _ rfl _ rfl 94 S_st.K (plainElem Tryd.prog 3) (fun x : Value => x) (fun x : Int => .int .i64 x) (fun key _ _ => ⟨key, rfl⟩) (fun v y hv => by obtain ⟨c, e, _⟩ := plainElem_int_inv Tryd.underlying3 hv; exact ⟨c, e⟩) bm w2.heap.size L0.length D left cnt rfl hrg ?_ ?_)
    · intro _ hl0
      have hL : L = [] := by
        cases L with
        | nil => rfl
        | cons x r =>
          have h1 := hleft x (hLs x (by simp))
          rw [hl0] at h1
          simp at h1
      subst hL
      have hfin : cs = scoreL sc n (gr' + 1) := by
        refine ext_gi (by rw [hcs.len]; simp [scoreL]) fun i hi => ?_
        rw [hcs.len] at hi
        obtain ⟨h1, h2, h3⟩ := hcg i (by omega)
        have h4 : Cg (gi cs i) (climbW sc (hits i) (n - 1) (iota n) 0) := by
          have : Cg (gi cs i) (potL L0 fun p => hits i p.1 p.2) := by simpa [potL, sumL] using h1
          exact this.trans (Hpot.out (hits i))
        have h5 : gi (scoreL sc n (gr' + 1)) i = wrap64 (climbW sc (hits i) (n - 1) (iota n) 0) := gi_row hi
        rw [h5, ← h4.wrap]
        unfold wrap64; omega
      have Hfin := Lib.hid (show OwnI wr w.heap.size (.slice (some ⟨w.heap.size, 0, none⟩) (gr' + 1) (gr' + 1)) (scoreL sc n (gr' + 1)) ∧ Below w.heap.size w wr from ⟨by rw [← hfin]; exact hcs, hbr⟩)
      clear hrg hcs hLs hnd hleft hcg hbr hl0 hfin
      go_wp2
      go_ret
      exact ⟨_, rfl, Hfin.out⟩
    · intro key c kl1 y1 y2 w3 cnt1 hkey hlk hRv hat hrg1 hlt hg1 hs1 hen
      obtain ⟨x, hxL0, hxk⟩ := Hd.out.key_of (Maps.has_true_of_atKey hat)
      subst hxk
      have hvk := Hd.out.ok x hxL0
      have hkey2 : key = ky x.1 := S_st.K.inj hkey (kl_is S_st hvk)
      have hc : c = x.2 := by
        obtain ⟨c', e1, e2, _⟩ := plainElem_int_inv Tryd.underlying3 hRv
        have h1 := Hd.out.atKey S_st hvk
        have e3 : y1 = .lit (.int .i64 c') := congrArg Prod.fst e2
        rw [hat, e3, getC_of_mem Hd.out.nd hxL0] at h1
        simp at h1 e1
        rw [e1, h1]
      have hxL : x ∈ L := by
        have h1 := hleft x hxL0
        rw [hlk] at h1
        obtain ⟨y, hy, hye⟩ := List.any_eq_true.1 h1.symm
        have : y = x := nodup_fst Hd.out.nd (hLs y hy) hxL0 (by simpa using hye)
        rw [← this]; exact hy
      subst hkey2
      have hreach := Hkeys.out x hxL0
      have hs := (reach_ok Hb.out (xs := iota n) ⟨up_iota n, fun x hx => by have := mem_iota.1 hx; omega⟩ (by rw [iota_len]; exact hn) (n - 1) x.1 hreach).2.2.1
      have hs' := Hlim.out x.1 hreach
      obtain ⟨s, hsv⟩ : ∃ s : Nat, x.1.2 = (s : Int) := ⟨x.1.2.toNat, by omega⟩
      have hsg : s ≤ gr' := by omega
      have hcell := hcs.cellAt s (by omega)
      have hcell3 : w3.cell? ⟨w.heap.size, s, none⟩ = some (.int .i64 (gi cs s)) := hg1.cell hcell (by simp; have := Hs2.out; omega)
      have hcs3 : OwnI w3 w.heap.size (.slice (some ⟨w.heap.size, 0, none⟩) (gr' + 1) (gr' + 1)) cs := World.ownsRow.kept hcs hg1 (.inr (by simp [Value.ownBlock]; have := Hs2.out; omega))
      obtain ⟨ma, hma⟩ : ∃ ma : Int, ma = (mask x.1.1 : Nat) := ⟨_, rfl⟩
      have hky : ky x.1 = .agg #[.int .u64 ma, .int .i64 (s : Int)] := by unfold ky; rw [hma, hsv]
      rw [hky] at hen ⊢
      obtain ⟨gs, hgs⟩ : ∃ gs, gs = gi cs s := ⟨_, rfl⟩
      rw [← hgs] at hcell3
      have hgb := hcg s hsg
      obtain ⟨vn, hvn⟩ : ∃ vn, vn = wrap64 (gs + c) := ⟨_, rfl⟩
      have hlen := hcs.len
      have hbw3 : Below w.heap.size w w3 := hbr.grown hg1 hbr.size (fun k hk => by cases hk; have := Hs2.out; omega)
      have hsz3 : w2.heap.size + 1 ≤ w3.heap.size := by omega
      have hfz : (w3.alloc (.cells #[.int .u64 ma, .int .i64 (s : Int)] 94)).frozen? ⟨w.heap.size, s, none⟩ = false := OwnI.frozenAt (World.ownsRow.alloc hcs3 _) s
      have Hrel := Lib.hid (show ∀ w4, w4 = (w3.alloc (.cells #[.int .u64 ma, .int .i64 (s : Int)] 94)).setCell ⟨w.heap.size, s, none⟩ (.int .i64 vn) → ∃ (L : List Ent) (left : Lit → Bool) (cnt : Nat) (cs : List Int), w4.ranges Tryd.prog 94 (plainElem Tryd.prog 3) bm w2.heap.size L0.length D left cnt ∧ OwnI w4 w.heap.size (.slice (some ⟨w.heap.size, 0, none⟩) (gr' + 1) (gr' + 1)) cs ∧ (∀ x ∈ L, x ∈ L0) ∧ (L.map (·.1)).Nodup ∧ (∀ x ∈ L0, left (kl Tryd.prog 94 x.1) = L.any fun y => y.1 == x.1) ∧ (∀ i : Nat, i ≤ gr' → Cg (gi cs i + potL L fun p => hits i p.1 p.2) (potL L0 fun p => hits i p.1 p.2) ∧ -9223372036854775808 ≤ gi cs i ∧ gi cs i ≤ 9223372036854775807) ∧ Below w.heap.size w w4 ∧ w2.heap.size + 1 ≤ w4.heap.size ∧ w4.rangeLeft bm w2.heap.size = cnt1 from by
        intro w4 hw4
        have hg34 : w3.grownBy w4 (some w.heap.size) := by
          rw [hw4]
          have h1 := World.grownBy_alloc w3 (.cells #[.int .u64 ma, .int .i64 (s : Int)] 94) (some w.heap.size)
          exact ⟨h1.os, h1.tape, h1.output, by simp [World.setCell], fun b hb hne => (Below.heap_setCell _ _ _ _ (fun e => hne (by rw [e]))).trans (h1.block b hb hne)⟩
        have hrg4 := hrg1.kept hg34 (by simp; have := Hs1.out; omega) (by simp; have := Hs2.out; omega)
        have hcs4 : OwnI w4 w.heap.size (.slice (some ⟨w.heap.size, 0, none⟩) (gr' + 1) (gr' + 1)) (cs.set s vn) := by
          rw [hw4]
          exact OwnI.store (World.ownsRow.alloc hcs3 _) s vn
        refine ⟨strike L x.1, _, cnt1, _, hrg4, hcs4, fun y hy => hLs y (List.mem_filter.1 hy).1, (List.filter_sublist.map _).nodup hnd, fun y hy => ?_, fun i hi => ?_, hbw3.trans ⟨hg34.os, hg34.tape, hg34.output, hg34.size, fun b hb => hg34.block b (by have := Hs2.out; omega) (by simp; omega)⟩, Nat.le_trans hsz3 hg34.size, hrg4.left_eq⟩
        · show (left (kl Tryd.prog 94 y.1) && !(kl Tryd.prog 94 y.1).sameKey (kl Tryd.prog 94 x.1)) = _
          rw [hleft y hy, sameKey_kl S_st hvk (Hd.out.ok y hy), Bool.eq_iff_iff, Bool.and_eq_true, List.any_eq_true, List.any_eq_true]
          constructor
          · rintro ⟨⟨z, hz, hze⟩, hne⟩
            refine ⟨z, List.mem_filter.2 ⟨hz, ?_⟩, hze⟩
            have e : z.1 = y.1 := by simpa using hze
            rw [e]; exact hne
          · rintro ⟨z, hz, hze⟩
            obtain ⟨hz1, hz2⟩ := List.mem_filter.1 hz
            have e : z.1 = y.1 := by simpa using hze
            rw [e] at hz2
            exact ⟨⟨z, hz1, hze⟩, hz2⟩
        · obtain ⟨h1, h2, h3⟩ := hcg i hi
          have hst := potL_strike hnd x.1 (fun p => hits i p.1 p.2)
          rw [getC_of_mem hnd hxL, ← hc] at hst
          rw [hst] at h1
          rw [gi_set (by rw [hlen]; omega)]
          by_cases e : i = s
          · subst e
            have hh : hits (i : Int) x.1.1 x.1.2 = 1 := by unfold hits; rw [if_pos hsv]
            rw [if_pos rfl, hvn, hgs]
            simp only [hh, Int.mul_one] at h1
            refine ⟨Cg.trans ?_ h1, ?_⟩
            · rw [← Int.add_assoc]
              exact (wrap_cg _).add (Cg.refl _)
            · unfold wrap64; omega
          · have hh : hits (i : Int) x.1.1 x.1.2 = 0 := by unfold hits; rw [if_neg (by omega)]
            rw [if_neg e]
            simp only [hh, Int.mul_zero, Int.zero_add] at h1
            exact ⟨h1, h2, h3⟩)
      have hwv : IntKind.i64.wrap (gs + c) = vn := by rw [i64_wrap, hvn]
      have hwv2 : wrap64 (gs + c) = vn := hvn.symm
      have Hlo := Lib.hid hrg.left_eq
      have Hlt := Lib.hid hlt
      have hsx : (s : Int) < ((gr' : Int) + 1) := by omega
      have hcell4 : (w3.alloc (.cells #[.int .u64 ma, .int .i64 (s : Int)] 94)).cell? ⟨w.heap.size, s, none⟩ = some (.int .i64 gs) := Lib.cell?_alloc_some _ hcell3
      clear hrg hcs hLs hnd hleft hcg hbr hkey hlk hRv hat hrg1 hlt hg1 hs1 hvk hc hxL hxL0 hreach hs hs' hsv hcell hcs3 hma hky hgs hgb hlen hbw3 hsz3 hvn
      go_wp2
      go_roundw
      case rel =>
        obtain ⟨L', l', c', cs', q1, q2, q3, q4, q5, q6, q7, q8, _⟩ := Hrel.out _ rfl
        exact ⟨L', l', c', cs', q1, q2, q3, q4, q5, q6, q7, q8⟩
      case measure =>
        obtain ⟨L', l', c', cs', _, _, _, _, _, _, _, _, q9⟩ := Hrel.out _ rfl
        rw [q9, Hlo.out]
        have := Hlt.out
        omega
end Go.Proofs.YtnhkclnloiiihaaDoor

namespace Go.Proofs.YtnhkclnloiiihaaDoor
open Go.RowKit

theorem Up.filter {xs : List Int} (h : Up xs) (p : Int → Bool) : Up (xs.filter p) := by
  induction xs with
  | nil => exact h
  | cons a r ih =>
    rw [List.filter_cons]
    split
    · exact Up.of (ih h.tail) fun x hx => h.lt x (List.mem_filter.1 hx).1
    · exact ih h.tail
/-- the numbers of ys that xs lacks -/
def lacks (xs ys : List Int) : List Int := ys.filter fun y => !xs.contains y
theorem lacks_rise {xs ys : List Int} (h : Rise ys) : Rise (lacks xs ys) := ⟨h.1.filter _, fun x hx => h.2 x (List.mem_filter.1 hx).1⟩
theorem lacks_len (xs ys : List Int) : (lacks xs ys).length ≤ ys.length := List.length_filter_le _ _
theorem mask_lacks {xs ys : List Int} (hx : Rise xs) (hy : Rise ys) : bits .andNot .u64 ((mask ys : Nat) : Int) ((mask xs : Nat) : Int) = ((mask (lacks xs ys) : Nat) : Int) := by
  have h1 := mask_lt16 hx
  have h2 := mask_lt16 hy
  rw [u64_andNot_nat _ _ (by omega) (by omega)]
  congr 1
  apply Nat.eq_of_testBit_eq
  intro i
  rw [Nat.testBit_and, show 18446744073709551615 - mask xs = 2 ^ 64 - (mask xs + 1) from by omega, Nat.testBit_two_pow_sub_succ (by omega), testBit_mask (fun x hx' => (hy.2 x hx').1), testBit_mask (fun x hx' => (hx.2 x hx').1), testBit_mask (fun x hx' => ((lacks_rise hy).2 x hx').1)]
  unfold lacks
  by_cases hm : (i : Int) ∈ ys
  · have := (hy.2 _ hm).2
    have hi : i < 64 := by omega
    by_cases hn : (i : Int) ∈ xs <;> simp [hm, hn, hi]
  · simp [hm]

def lostSc (xs ys : List Int) : Int := (lacks xs ys).length
def movedSc (xs ys : List Int) : Int := ys.length - eqn xs ys ys.length

theorem lostColumns_any : Scores 119 lostSc := by
  intro xs ys w hr h6 hy hD
  obtain ⟨hry, hly⟩ := above_mem hr hy
  have hsz := size_any (lacks_rise (xs := xs) hry) (by have := lacks_len xs ys; omega) w
  have hb := mask_lacks hr hry
  unfold lostSc
  obtain ⟨a, ha⟩ : ∃ a : Int, a = (mask xs : Nat) := ⟨_, rfl⟩
  obtain ⟨b, hb'⟩ : ∃ b : Int, b = (mask ys : Nat) := ⟨_, rfl⟩
  obtain ⟨c, hc⟩ : ∃ c : Int, c = (mask (lacks xs ys) : Nat) := ⟨_, rfl⟩
  rw [← hc] at hsz hb
  rw [← ha, ← hb'] at hb
  rw [← ha, ← hb']
  have Hsz := Lib.hid hsz
  clear ha hb' hc hsz hD hr hy hry
  go_enter Tryd.func119, Tryd.ntmps119
  go_wp2_with fail
  refine Hsz.out.mono ?_
  rintro e w2 ⟨rfl, rfl⟩
  go_wp2
  go_ret
  exact ⟨rfl, Below.refl _ _⟩

set_option maxRecDepth 100000 in
set_option maxHeartbeats 400000 in
theorem movedNumbers_any : Scores 120 movedSc := by
  intro xs ys w hr h6 hy hD
  obtain ⟨hry, hly⟩ := above_mem hr hy
  have hsz := size_any hry (by omega) w
  have hrow := row_any hr h6 w hD
  have hrow2 := fun w2 (h : Dj w2) => row_any hry (by omega) w2 h
  unfold movedSc
  obtain ⟨a, ha⟩ : ∃ a : Int, a = (mask xs : Nat) := ⟨_, rfl⟩
  obtain ⟨b, hb⟩ : ∃ b : Int, b = (mask ys : Nat) := ⟨_, rfl⟩
  rw [← hb] at hsz
  rw [← ha] at hrow
  rw [← hb] at hrow2
  rw [← ha, ← hb]
  have Hsz := Lib.hid hsz
  have Hrow := Lib.hid hrow
  have Hrow2 := Lib.hid hrow2
  have HD := Lib.hid hD
  have hbd := eqn_bd xs ys ys.length
  have Hx6 := Lib.hid (show xs.length ≤ 6 ∧ ys.length ≤ xs.length from ⟨h6, by omega⟩)
  have hl5 : ys.length ≤ 6 := by omega
  clear ha hb hsz hrow hrow2 hD hr hy hry hly
  obtain ⟨q, hq⟩ : ∃ q, q = eqn xs ys ys.length := ⟨_, rfl⟩
  rw [← hq] at hbd ⊢
  have Hq := Lib.hid hq
  clear hq
  go_enter Tryd.func120, Tryd.ntmps120
  go_wp2_with fail
  refine Hsz.out.mono ?_
  rintro e w2 ⟨rfl, rfl⟩
  go_wp2_with fail
  refine Hrow.out.mono ?_
  rintro e w1 ⟨v, rfl, hv, hb1⟩
  obtain ⟨a1, c1, rfl, _, _, hm1⟩ := hv.read
  have Hm1 := Lib.hid hm1
  have B1 := Lib.hid hb1
  clear hv hm1 hb1
  go_wp2_with fail
  refine (Hrow2.out w1 (HD.out.next B1.out)).mono ?_
  rintro e w2 ⟨v, rfl, hv, hb1⟩
  obtain ⟨a2, c2, rfl, _, _, hm2⟩ := hv.read
  have Hm2 := Lib.hid hm2
  have B2 := Lib.hid (B1.out.trans (hb1.mono B1.out.size))
  have Hm1' := Lib.hid (Hm1.out.below hb1)
  clear hv hm2 hb1 Hm1 B1
  have Hc := Lib.hid (equalNumbers_any a1 a2 c1 c2 xs ys w2 (by have := Hx6.out.1; omega) Hx6.out.2 Hm1'.out Hm2.out)
  go_wp2_with fail
  refine Hc.out.mono ?_
  rintro e w3 ⟨rfl, rfl⟩
  rw [← Hq.out]
  go_wp2
  go_ret
  exact ⟨rfl, B2.out⟩

theorem lost_small : SmallSc lostSc := by
  intro xs ys hr h6 hy
  obtain ⟨hry, hly⟩ := above_mem hr hy
  have := lacks_len xs ys
  unfold lostSc
  omega
theorem moved_small : SmallSc movedSc := by
  intro xs ys hr h6 hy
  obtain ⟨hry, hly⟩ := above_mem hr hy
  have := eqn_bd xs ys ys.length
  unfold movedSc
  omega
def limC (sc : List Int → List Int → Int) (n g : Nat) : Bool := (reach sc (iota n) (n - 1)).all fun p => decide (p.2 ≤ (g : Int))
set_option maxRecDepth 1000000 in
theorem lost_ok : limC lostSc 1 0 = true ∧ limC lostSc 2 0 = true ∧ limC lostSc 3 1 = true ∧ limC lostSc 4 2 = true ∧ limC lostSc 5 4 = true := by decide +kernel
set_option maxRecDepth 1000000 in
theorem moved_ok : limC movedSc 1 0 = true ∧ limC movedSc 2 1 = true ∧ limC movedSc 3 3 = true ∧ limC movedSc 4 6 = true ∧ limC movedSc 5 10 = true := by decide +kernel
theorem limC_lim {sc : List Int → List Int → Int} {n g : Nat} (h : limC sc n g = true) : ∀ p ∈ reach sc (iota n) (n - 1), p.2 ≤ (g : Int) := fun p hp => by
  have := List.all_eq_true.1 h p hp
  simpa using this
end Go.Proofs.YtnhkclnloiiihaaDoor

