/- Contracts: triangles counted by the program. Condition: the table of math/bits. -/
import Derived.Test.YtcifcombbdblgaaDoorClimbedNoScore
import Derived.Test.YtcifcombbdblgaaDoorTriI
import Derived.Test.YtcifcombbdblgaaDoorScal
namespace Go.Proofs.YtcifcombbdblgaaDoor
open Go.RowKit Go.Maps

theorem noScore_any : Scores 91 (fun _ _ => 0) := by
  intro xs ys w _ _ _ _
  obtain ⟨a, ha⟩ : ∃ a : Int, a = (mask xs : Nat) := ⟨_, rfl⟩
  obtain ⟨b, hb⟩ : ∃ b : Int, b = (mask ys : Nat) := ⟨_, rfl⟩
  rw [← ha, ← hb]
  clear ha hb
  go_enter Tryd.func91, Tryd.ntmps91
  go_wp2
  go_ret
  exact ⟨rfl, Below.refl _ _⟩

set_option maxHeartbeats 1600000 in
theorem countUnder_any {xs : List Int} (hr : Rise xs) (h1 : 1 ≤ xs.length) (h6 : xs.length ≤ 6) (w : World) (hD : Dj w) :
    Calls Tryd.prog 57 #[.int .u64 (mask xs : Nat)] w fun e w' => e = .returned (.int .i64 (wrap64 (ways xs))) ∧ Below w.heap.size w w' := by
  have hcl := climbed_noScore _ noScore_any (fun _ _ _ _ _ => by simp) hr h1 h6 w hD
  obtain ⟨m, hm⟩ : ∃ m : Int, m = (mask xs : Nat) := ⟨_, rfl⟩
  rw [← hm] at hcl ⊢
  have Hcl := Lib.hid hcl
  clear hcl hm hD
  go_enter Tryd.func57, Tryd.ntmps57
  go_wp2_with fail
  refine Hcl.out.mono ?_
  rintro e w1 ⟨bm, L0, rfl, hmw, hbm, hkeys, hpot, hb1⟩
  obtain ⟨D, hown, hd⟩ := hmw
  have hways : Cg (sumL L0 fun x => x.2) (ways xs) := by
    have := hpot fun _ _ => 1
    rw [climb_ways] at this
    unfold ways
    simpa [potL] using this
  have Hways := Lib.hid hways
  have Hb1 := Lib.hid hb1
  have Hd := Lib.hid hd
  clear hkeys hpot hways hb1 hd
  go_wp2_with (at_range; refine wpList_range_own _ rfl _ 81 rfl 84 3 S_st.K Tryd.underlying81 (plainElem Tryd.prog 3) bm L0.length D rfl hown ?_; intro w0 hrg0 hg0 hs0)
  go_frame
  go_loopw [3, 9] (fun s _ wr => ∃ (L : List Ent) (left : Lit → Bool) (cnt : Nat) (S : Int), s = .int .i64 S ∧ wr.ranges Tryd.prog 84 (plainElem Tryd.prog 3) bm w1.heap.size L0.length D left cnt ∧ (∀ x ∈ L, x ∈ L0) ∧ (L.map (·.1)).Nodup ∧ (∀ x ∈ L0, left (kl Tryd.prog 84 x.1) = L.any fun y => y.1 == x.1) ∧ Cg (S + sumL L fun x => x.2) (sumL L0 fun x => x.2) ∧ (-9223372036854775808 ≤ S ∧ S ≤ 9223372036854775807) ∧ Below w1.heap.size w1 wr) (fun _ _ wr => wr.rangeLeft bm w1.heap.size)
  case atStart => exact ⟨L0, _, _, 0, rfl, hrg0, fun x hx => hx, Hd.out.nd, fun x hx => Hd.out.has S_st (Hd.out.ok x hx), by simpa using Cg.refl _, by omega, (Below.refl _ _).grown hg0 (Nat.le_refl _) (fun _ h => by cases h)⟩
  case round =>
    obtain ⟨L, left, cnt, S, rfl, hrg, hLs, hnd, hleft, hcg, hSw, hbr⟩ := hrel
    go_wp2_with (at_next; refine wpList_next_ranges _ rfl _ rfl 84 S_st.K (plainElem Tryd.prog 3) (fun x : Value => x) (fun x : Int => .int .i64 x) (fun key _ _ => ⟨key, rfl⟩) (fun v y hv => by obtain ⟨c, e, _⟩ := plainElem_int_inv Tryd.underlying3 hv; exact ⟨c, e⟩) bm w1.heap.size L0.length D left cnt rfl hrg ?_ ?_)
    · intro _ hl0
      have hL : L = [] := by
        cases L with
        | nil => rfl
        | cons x r =>
          have h1 := hleft x (hLs x (by simp))
          rw [hl0] at h1
          simp at h1
      subst hL
      have hS : S = wrap64 (ways xs) := by
        rw [show S = wrap64 S by unfold wrap64; omega]
        refine Cg.wrap ?_
        have : Cg S (sumL L0 fun x => x.2) := by simpa [sumL] using hcg
        exact this.trans Hways.out
      have HS := Lib.hid hS
      have Hbr := Lib.hid (Hb1.out.trans (hbr.mono Hb1.out.size))
      clear hrg hLs hnd hleft hcg hSw hbr hl0 hS
      go_wp2
      go_ret
      exact ⟨by rw [HS.out]; rfl, Hbr.out⟩
    · intro key c kl1 y1 y2 w2 cnt1 hkey hlk hRv hat hrg1 hlt hg1 hs1 hen
      obtain ⟨x, hxL0, hxk⟩ := Hd.out.key_of (Maps.has_true_of_atKey hat)
      subst hxk
      have hvk := Hd.out.ok x hxL0
      have hkey2 : key = ky x.1 := S_st.K.inj hkey (kl_is S_st hvk)
      have hc : c = x.2 := by
        obtain ⟨c', e1, e2, _⟩ := plainElem_int_inv Tryd.underlying3 hRv
        have h1 := Hd.out.atKey S_st hvk
        have e3 : y1 = .lit (.int .i64 c') := congrArg Prod.fst e2
        rw [hat, e3, getC_of_mem Hd.out.nd hxL0] at h1
        simp at h1 e1
        rw [e1, h1]
      have hxL : x ∈ L := by
        have h1 := hleft x hxL0
        rw [hlk] at h1
        obtain ⟨y, hy, hye⟩ := List.any_eq_true.1 h1.symm
        have : y = x := nodup_fst Hd.out.nd (hLs y hy) hxL0 (by simpa using hye)
        rw [← this]; exact hy
      subst hkey2
      obtain ⟨key, hkk⟩ : ∃ key, key = ky x.1 := ⟨_, rfl⟩
      rw [← hkk] at hen ⊢
      have hstep := potL_strike hnd x.1 (fun _ => 1)
      rw [getC_of_mem hnd hxL, ← hc] at hstep
      have hst2 : sumL L (fun x => x.2) = c + sumL (strike L x.1) (fun x => x.2) := by simpa [potL] using hstep
      have Hlo := Lib.hid hrg.left_eq
      have Hrel := Lib.hid (show ∃ (L : List Ent) (left : Lit → Bool) (cnt : Nat), w2.ranges Tryd.prog 84 (plainElem Tryd.prog 3) bm w1.heap.size L0.length D left cnt ∧ (∀ x ∈ L, x ∈ L0) ∧ (L.map (·.1)).Nodup ∧ (∀ x ∈ L0, left (kl Tryd.prog 84 x.1) = L.any fun y => y.1 == x.1) ∧ Cg (wrap64 (S + c) + sumL L fun x => x.2) (sumL L0 fun x => x.2) ∧ (-9223372036854775808 ≤ wrap64 (S + c) ∧ wrap64 (S + c) ≤ 9223372036854775807) ∧ Below w1.heap.size w1 w2 from by
        refine ⟨strike L x.1, _, cnt1, hrg1, fun y hy => hLs y (List.mem_filter.1 hy).1, (List.filter_sublist.map _).nodup hnd, fun y hy => ?_, ?_, ?_, hbr.grown hg1 (by have := hbr.size; omega) (fun k hk => by cases hk; exact Nat.le_refl _)⟩
        · show (left (kl Tryd.prog 84 y.1) && !(kl Tryd.prog 84 y.1).sameKey (kl Tryd.prog 84 x.1)) = _
          rw [hleft y hy, sameKey_kl S_st hvk (Hd.out.ok y hy), Bool.eq_iff_iff, Bool.and_eq_true, List.any_eq_true, List.any_eq_true]
          constructor
          · rintro ⟨⟨z, hz, hze⟩, hne⟩
            refine ⟨z, List.mem_filter.2 ⟨hz, ?_⟩, hze⟩
            have e : z.1 = y.1 := by simpa using hze
            rw [e]; exact hne
          · rintro ⟨z, hz, hze⟩
            obtain ⟨hz1, hz2⟩ := List.mem_filter.1 hz
            have e : z.1 = y.1 := by simpa using hze
            rw [e] at hz2
            exact ⟨⟨z, hz1, hze⟩, hz2⟩
        · rw [hst2] at hcg
          refine Cg.trans ?_ hcg
          rw [← Int.add_assoc]
          exact (wrap_cg _).add (Cg.refl _)
        · unfold wrap64; omega)
      have Hlt := Lib.hid hlt
      have Hl2 := Lib.hid hrg1.left_eq
      clear hrg hLs hnd hleft hcg hSw hbr hkey hlk hRv hat hrg1 hlt hg1 hs1 hvk hc hxL hkk hstep hst2 hxL0
      go_wp2
      go_roundw
      case rel =>
        obtain ⟨L', l', c', q⟩ := Hrel.out
        exact ⟨L', l', c', _, rfl, q⟩
      case measure =>
        rw [Hl2.out, Hlo.out]
        have := Hlt.out
        omega

set_option maxHeartbeats 800000 in
theorem implCountUnder_any (ao : Option Addr) (c : Nat) (xs : List Int) (w : World) (hn : xs.length ≤ 1048576) (_ : WfI xs) (hx : IntsAt w ao xs) (hD : Dj w) :
    Calls Tryd.prog 26 #[.slice ao xs.length c] w fun e w' => IRes (isRowP xs) (wrap64 (ways xs)) e ∧ Below w.heap.size w w' := by
  have Hx := Lib.hid hx
  have HD := Lib.hid hD
  clear hx hD
  by_cases hg : isRowP xs
  · have hr := ((isRowP_iff _).1 hg).2.2
    have hset := setOf_any ao c xs w hn hr.2 Hx.out
    have hcu := countUnder_any hr hg.1 hg.2.1 w HD.out
    obtain ⟨m, hm⟩ : ∃ m : Int, m = (mask xs : Nat) := ⟨_, rfl⟩
    rw [← hm] at hset hcu
    have Hg := Lib.hid hg
    have Hset := Lib.hid hset
    have Hcu := Lib.hid hcu
    clear hg hr hset hcu hm
    go_enter Tryd.func26, Tryd.ntmps26
    go_wp2_with fail
    refine (isRow_any ao c xs w hn Hx.out).mono ?_
    rintro e w2 ⟨ha, rfl⟩
    obtain rfl := ha.is Hg.out
    clear ha
    go_wp2_with fail
    refine Hset.out.mono ?_
    rintro e w2 ⟨rfl, rfl⟩
    go_wp2_with fail
    refine Hcu.out.mono ?_
    rintro e w1 ⟨rfl, hb⟩
    have Hb := Lib.hid hb
    clear hb
    go_wp2
    go_ret2
    exact ⟨IRes.yes Hg.out, Hb.out⟩
  · have Hg := Lib.hid hg
    clear hg
    go_enter Tryd.func26, Tryd.ntmps26
    go_wp2_with fail
    refine (isRow_any ao c xs w hn Hx.out).mono ?_
    rintro e w2 ⟨ha, rfl⟩
    obtain rfl := ha.isnt Hg.out
    clear ha
    go_wp2
    go_ret2
    exact ⟨IRes.no Hg.out, Below.refl _ _⟩
end Go.Proofs.YtcifcombbdblgaaDoor
