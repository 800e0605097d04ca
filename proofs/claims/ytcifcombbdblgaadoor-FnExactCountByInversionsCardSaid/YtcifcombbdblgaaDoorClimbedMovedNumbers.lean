/- Contract: the whole climb, at the scores of movedNumbers. Conditions: as it says. -/
import Derived.Test.YtcifcombbdblgaaDoorClimbMovedNumbers
namespace Go.Proofs.YtcifcombbdblgaaDoor
open Go.RowKit Go.Maps
open Go.WideMaps (KeyLaw)


set_option maxHeartbeats 1600000 in
theorem climbed_movedNumbers (sc : List Int → List Int → Int) (hf : Scores 77 sc) (hb : SmallSc sc) {xs : List Int} (hr : Rise xs) (h1 : 1 ≤ xs.length) (h6 : xs.length ≤ 6) (w : World) (hD : Dj w) :
    Calls Tryd.prog 90 #[.int .u64 (mask xs : Nat), .func (.func 77) #[] #[]] w fun e w' => ClimbsTo sc xs w e w' := by
  have hv0 : vk (xs, 0) := ⟨hr, by simp, by simp⟩
  obtain ⟨w1, hrun, hown1, hg1⟩ := (World.ownsMap_made (H := Nat) w Tryd.prog 84 (plainElem Tryd.prog 3)).update S_st.K Tryd.underlying81 (by unfold maxLen; omega) (kl_is S_st hv0) (plainElem_int Tryd.underlying3 (a := 1) (by decide))
  have hm1 : MapW Tryd.prog 84 3 w1 w.heap.size [((xs, 0), 1)] := MapW.of hown1 (by have := (MapD.empty (P := Tryd.prog) (k := 84)).put S_st hv0 1; simpa [strike] using this)
  have hb1 : Below w.heap.size w w1 := ((Below.refl _ w).alloc (Nat.le_refl _) _).grown hg1 (by simp) (fun k hk => by cases hk; exact Nat.le_refl _)
  have hs1 : w.heap.size + 1 ≤ w1.heap.size := by have := hg1.size; simp at this; exact this
  have hm2 : MapW Tryd.prog 84 3 (w1.alloc (.map #[] 0)) w1.heap.size [] := MapW.of (World.ownsMap_made w1 _ _ _) MapD.empty
  have hm1' : MapW Tryd.prog 84 3 (w1.alloc (.map #[] 0)) w.heap.size [((xs, 0), 1)] := hm1.kept (World.grownBy_alloc w1 _ none) (by simp)
  have hb2 : Below w.heap.size w (w1.alloc (.map #[] 0)) := hb1.alloc (by omega) _
  have hsz := size_any hr h6 (w1.alloc (.map #[] 0))
  have hGw := hD.lt
  have hky : ky (xs, 0) = .agg #[.int .u64 (mask xs : Nat), .int .i64 0] := rfl
  rw [hky] at hrun
  obtain ⟨m, hm⟩ : ∃ m : Int, m = (mask xs : Nat) := ⟨_, rfl⟩
  rw [← hm] at hrun hsz ⊢
  have hmm := @run_makeMap Tryd.prog
  have Hsz := Lib.hid hsz
  have Hstart := Lib.hid (And.intro hm1' (And.intro hm2 hb2))
  have Hb := Lib.hid hb
  have Hr := Lib.hid hr
  have Hf := Lib.hid hf
  have HD := Lib.hid hD
  have Hs1 := Lib.hid hs1
  clear hv0 hown1 hg1 hm1 hb1 hm2 hm1' hb2 hsz hm hky hb hr hf hD hs1
  go_enter Tryd.func90, Tryd.ntmps90
  go_wp2_with fail
  refine Hsz.out.mono ?_
  rintro e w2 ⟨rfl, rfl⟩
  go_wp2
  go_loopw [5, 6, 15] (fun now next i wr => ∃ (k bn bx : Nat) (L : List Ent), k + 1 ≤ xs.length ∧ i = .int .i64 (k : Int) ∧ now = .map (some bn) ∧ next = .map (some bx) ∧ bn ≠ bx ∧ w.heap.size ≤ bn ∧ w.heap.size ≤ bx ∧ MapW Tryd.prog 84 3 wr bn L ∧ MapW Tryd.prog 84 3 wr bx [] ∧
      (∀ x ∈ L, x.1 ∈ reach sc xs k) ∧ (∀ φ, Cg (potL L fun p => climbW sc φ (xs.length - 1 - k) p.1 p.2) (climbW sc φ (xs.length - 1) xs 0)) ∧ Below w.heap.size w wr ∧ w.heap.size ≤ wr.heap.size) (fun _ _ i _ => xs.length - (intOf i).toNat)
  case atStart => exact ⟨0, w.heap.size, w1.heap.size, _, h1, rfl, rfl, rfl, by have := Hs1.out; omega, Nat.le_refl _, by have := Hs1.out; omega, Hstart.out.1, Hstart.out.2.1, fun x hx => by simp at hx; subst hx; simp [reach], fun φ => by simpa [potL, sumL] using Cg.refl _, Hstart.out.2.2, by have := Hs1.out; simp; omega⟩
  case round =>
    obtain ⟨k, bn, bx, L, hk, rfl, rfl, rfl, hne, hbn, hbx, hmn, hmx, hkeys, hpot, hbr, hsr⟩ := hrel
    by_cases hlt : k + 1 < xs.length
    · have hlt' : (k : Int) < (xs.length : Int) - 1 := by omega
      have hcall := climb_movedNumbers sc Hf.out (reach sc xs k) (fun p hp => reach_vk Hb.out Hr.out h6 hp) (fun p hp => (reach_vk Hb.out Hr.out h6 (j := k + 1) hp).1) (reach_short Hb.out Hr.out h6 (j := k + 1) (by omega))
        (fun p hp ys hy => by have := Hb.out p.1 ys (reach_vk Hb.out Hr.out h6 hp).1.1 (reach_vk Hb.out Hr.out h6 hp).2 hy; omega) bn bx hne L hkeys wr hmn hmx (HD.out.next hbr) (by omega) (by omega)
      have Hcall := Lib.hid hcall
      have Hpot := Lib.hid hpot
      have Hbr := Lib.hid hbr
      clear hcall hmn hmx hkeys hpot hbr
      go_wp2_with fail
      refine Hcall.out.mono ?_
      rintro e w3 ⟨rfl, Lx, hn3, hx3, hk3, hp3, hf3⟩
      have Hrel := Lib.hid (show ∃ (L : List Ent), MapW Tryd.prog 84 3 w3 bx L ∧ MapW Tryd.prog 84 3 w3 bn [] ∧ (∀ x ∈ L, x.1 ∈ reach sc xs (k + 1)) ∧ (∀ φ, Cg (potL L fun p => climbW sc φ (xs.length - 1 - (k + 1)) p.1 p.2) (climbW sc φ (xs.length - 1) xs 0)) ∧ Below w.heap.size w w3 ∧ w.heap.size ≤ w3.heap.size from by
        have hb3 := hf3 w.heap.size hbn hbx hsr
        refine ⟨Lx, hx3, hn3, hk3, fun φ => ?_, Hbr.out.trans hb3, Nat.le_trans hsr hb3.size⟩
        have h1 := hp3 (fun p => climbW sc φ (xs.length - 1 - (k + 1)) p.1 p.2)
        have h2 := Hpot.out φ
        rw [show xs.length - 1 - k = (xs.length - 1 - (k + 1)) + 1 from by omega] at h2
        exact h1.trans h2)
      clear hn3 hx3 hk3 hp3 hf3
      go_wp2
      go_roundw
      case rel =>
        obtain ⟨L', q1, q2, q3, q4, q5, q6⟩ := Hrel.out
        exact ⟨k + 1, bx, bn, L', hlt, by go_num, rfl, rfl, hne.symm, hbx, hbn, q1, q2, q3, q4, q5, q6⟩
      case measure => simp [intOf]; omega
    · obtain rfl : k = xs.length - 1 := by omega
      have hfin := Lib.hid (show ClimbsTo sc xs w (.returned (.map (some bn))) wr from ⟨bn, L, rfl, hmn, hbn, hkeys, fun φ => by have := hpot φ; rw [Nat.sub_self] at this; exact this, hbr⟩)
      have hlt' : ¬ (((xs.length - 1 : Nat) : Int) < (xs.length : Int) - 1) := by omega
      clear hmn hmx hkeys hpot hbr
      go_wp2
      go_ret
      exact hfin.out
end Go.Proofs.YtcifcombbdblgaaDoor
