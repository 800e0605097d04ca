/- Contracts: the limits of the first row; whether rows are a descending plane partition, by the program. Condition: n in 1 to 6. -/
import Derived.Test.YtfempacfaeknpaaDoorDpC
namespace Go.Proofs.YtfempacfaeknpaaDoor
open Go.RowKit

set_option maxRecDepth 100000 in
set_option maxHeartbeats 800000 in
theorem firstLimits_any (n : Nat) (w : World) (h1 : 1 ≤ n) (h6 : n ≤ 6) :
    Calls Tryd.prog 28 #[.int .i64 n] w fun e w' => ∃ v, e = .returned v ∧ OwnI w' w.heap.size v (lim1 n) ∧ Below w.heap.size w w' := by
  obtain ⟨k, hk⟩ : ∃ k, k = n - 1 := ⟨_, rfl⟩
  have hw : IntKind.i64.wrap ((n : Int) - 1) = (k : Int) := by rw [w64 (by omega)]; omega
  have hl : lim1 n = List.replicate k (n : Int) := by rw [hk]; rfl
  have hk5 : k ≤ 5 := by omega
  have C := Lib.hid (fun (w : World) h => repeat_any (n : Int) w.heap.size k (w.alloc (.cells #[.int .i64 n] 3)) hk5 h)
  have hc : ∀ w : World, (w.alloc (.cells #[.int .i64 n] 3)).cell? ⟨w.heap.size, 0, none⟩ = some (.int .i64 n) := fun w => by
    rw [cell_of_row _ _ 0 _ _ _ (heap_alloc_new w _)]; rfl
  have Hc := Lib.hid (hc w)
  have Hl := Lib.hid hl
  have Hb := Lib.hid (show Below w.heap.size w (w.alloc (.cells #[.int .i64 n] 3)) from (Below.refl _ _).alloc (Nat.le_refl _) _)
  have Hsz := Lib.hid (show (w.alloc (.cells #[.int .i64 n] 3)).heap.size = w.heap.size + 1 by simp)
  clear hl hc hk
  go_enter Tryd.func28, Tryd.ntmps28
  go_wp2_with fail
  refine (C.out w Hc.out).mono ?_
  rintro e w2 ⟨v, rfl, hv, hb⟩
  rw [Hsz.out] at hv hb
  have Hv := Lib.hid (hv.base (Nat.le_succ w.heap.size))
  have Hb2 := Lib.hid (Hb.out.trans (hb.mono (Nat.le_succ _)))
  clear hv hb
  go_wp2
  go_ret
  exact ⟨_, rfl, by rw [Hl.out]; exact Hv.out, Hb2.out⟩

theorem limAt_len {n : Nat} (hn : n ≤ 6) {rows : List (List Int)} (hs : Small rows) {k : Nat} (hk : k ≤ rows.length) : (limAt n rows k).length ≤ 1048576 := by
  unfold limAt
  by_cases e : k = 0
  · rw [if_pos e, lim1_len]; omega
  · rw [if_neg e, limB_len]
    have := hs.2 (k - 1) (by omega)
    omega
theorem limAt_succ (n : Nat) (rows : List (List Int)) (k : Nat) : limAt n rows (k + 1) = limB (gr rows k) := by
  unfold limAt
  rw [if_neg (Nat.succ_ne_zero k), Nat.add_sub_cancel]

set_option maxRecDepth 100000 in
set_option maxHeartbeats 1600000 in
theorem isDescending_any (ao : Option Addr) (c : Nat) (rows : List (List Int)) (n : Nat) (w : World) (h1 : 1 ≤ n) (h6 : n ≤ 6) (hs : Small rows) (hwf : WfM rows) (hm : MatAt w ao rows) :
    Calls Tryd.prog 23 #[.agg (ptA (.slice ao rows.length c) n)] w fun e w' => Ans (DpGood rows n) e ∧ Below w.heap.size w w' := by
  have hl := hs.1
  have hmx : rows.length ≤ 9223372036854775807 := by omega
  have Hm := Lib.hid hm
  have Hs := Lib.hid hs
  have Hwf := Lib.hid hwf
  have HG := Lib.hid (good_chain h1 rows)
  clear hm hs hwf
  go_enter Tryd.func23, Tryd.ntmps23
  go_upto_region 1 with (refine wpList_boxT rfl 38 _ rfl _ rfl ?_)
  generalize hW : World.alloc w _ = w1
  have hP : PtAt w1 w.heap.size (.slice ao rows.length c) n := by rw [← hW]; exact PtAt.new _ _ _
  have HB := Lib.hid (show Below w.heap.size w w1 by rw [← hW]; exact (Below.refl _ w).alloc (Nat.le_refl _) _)
  have hc1 := hP.c1
  have HP := Lib.hid hP
  clear hW hP
  go_wp2_with fail
  refine (firstLimits_any n w1 h1 h6).mono ?_
  rintro e w2 ⟨v, rfl, hv, hb⟩
  obtain ⟨la, lc, rfl, _, _, hI⟩ := hv.read
  have HI := Lib.hid hI
  have HB2 := Lib.hid (HB.out.trans (hb.mono HB.out.size))
  have hc0 := (HP.out.below hb).c0
  clear hc1 HP hv hb hI HB
  go_wp2
  clear hc0
  go_loopw [3, 12] (fun l i wr => ∃ (k : Nat) (a : Option Addr) (c : Nat), k ≤ rows.length ∧ i = .int .i64 k ∧ l = .slice a (limAt n rows k).length c ∧ IntsAt wr a (limAt n rows k) ∧ ChainTo n rows k ∧ Below w.heap.size w wr) (fun _ i _ => rows.length - (intOf i).toNat)
  case atStart => exact ⟨0, la, lc, Nat.zero_le _, rfl, rfl, HI.out, fun j hj => absurd hj (by omega), HB2.out⟩
  case round =>
    obtain ⟨k, a, c', hk, rfl, rfl, hi, hch, hbr⟩ := hrel
    have HI2 := Lib.hid hi
    have HC := Lib.hid hch
    have HB3 := Lib.hid hbr
    have hll := limAt_len h6 Hs.out hk
    clear hi hch hbr HI HB2
    by_cases hlt : k < rows.length
    · obtain ⟨b1, o1, r1, d1, rfl, hcr, hr1, _, _⟩ := (Hm.out.below HB3.out) k hlt
      have Hr1 := Lib.hid hr1
      have hlk := Hs.out.2 k hlt
      clear hr1
      go_wp2_with fail
      refine (allow_any a r1 c' d1 (limAt n rows k) (gr rows k) wr hll hlk HI2.out Hr1.out).mono ?_
      rintro e w3 ⟨ha, rfl⟩
      by_cases q : Allow (limAt n rows k) (gr rows k)
      · have Hq := Lib.hid q
        clear q
        obtain rfl := ha.is Hq.out
        clear ha
        have Hbd := Lib.hid (show ∀ i, i < (gr rows k).length → 1 ≤ gi (gr rows k) i ∧ gi (gr rows k) i ≤ 9223372036854775807 from fun i hi => ⟨(Hq.out.2.2.2 i hi).1, (Hwf.out k hlt i hi).2⟩)
        go_wp2_with fail
        refine (limitsBelow_any r1 d1 (gr rows k) wr Hq.out.1 hlk Hbd.out Hr1.out).mono ?_
        rintro e w4 ⟨v, rfl, hv, hb⟩
        rw [← limAt_succ n rows k] at hv
        obtain ⟨la2, lc2, rfl, _, _, hI⟩ := hv.read
        have HI4 := Lib.hid hI
        have HB4 := Lib.hid (HB3.out.trans (hb.mono HB3.out.size))
        clear hv hb hI HI2 HB3
        go_wp2
        go_roundw
        case rel =>
          refine ⟨k + 1, la2, lc2, by omega, by go_num, rfl, HI4.out, fun j hj => ?_, HB4.out⟩
          by_cases e : j = k
          · subst e; exact Hq.out
          · exact HC.out j (by omega)
        case measure => simp [intOf]; omega
      · have Hn := Lib.hid (show ¬ DpGood rows n from fun h => q (HG.out.1 h k hlt))
        have Hq := Lib.hid q
        clear q
        obtain rfl := ha.isnt Hq.out
        clear ha
        go_wp2
        go_ret
        exact ⟨Ans.no Hn.out, HB3.out⟩
    · obtain rfl : k = rows.length := by omega
      have Hy := Lib.hid (HG.out.2 HC.out)
      go_wp2
      go_ret
      exact ⟨Ans.yes Hy.out, HB3.out⟩
end Go.Proofs.YtfempacfaeknpaaDoor
