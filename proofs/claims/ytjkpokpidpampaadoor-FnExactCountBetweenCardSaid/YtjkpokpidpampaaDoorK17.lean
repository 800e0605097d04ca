/- Parts of proofs: contracts and plain facts. Conditions: as each says. -/
import Derived.Test.YtjkpokpidpampaaDoorK16
namespace Go.Proofs.YtjkpokpidpampaaDoor
open Go.RowKit

theorem foldl_take {f : List Int → Int → List Int} {z : List Int} {xs : List Int} {k : Nat} (h : k < xs.length) : (xs.take (k + 1)).foldl f z = f ((xs.take k).foldl f z) (gi xs k) := by
  rw [take_succ_gi h, List.foldl_append]
  rfl
theorem bumps_len (d : Int) (xs : List Int) (z : List Int) : (xs.foldl (bump d) z).length = z.length := by
  induction xs generalizing z with
  | nil => rfl
  | cons a r ih => rw [List.foldl_cons, ih, bump_len]
theorem stepF_len (n : Nat) (xs ys : List Int) : (stepF n xs ys).length = n := by unfold stepF; rw [bumps_len, bumps_len, List.length_replicate]

set_option maxRecDepth 100000 in
set_option maxHeartbeats 800000 in
theorem trStep_any (a1 a2 : Option Addr) (c1 c2 n : Nat) (xs ys : List Int) (w : World) (hn : n ≤ 16) (hl1 : xs.length ≤ 1048576) (hl2 : ys.length ≤ 1048576) (hx : ∀ x ∈ xs, 0 ≤ x ∧ x < (n : Int)) (hy : ∀ x ∈ ys, 0 ≤ x ∧ x < (n : Int)) (h1 : IntsAt w a1 xs) (h2 : IntsAt w a2 ys) :
    Calls Tryd.prog 37 #[.slice a1 xs.length c1, .slice a2 ys.length c2, .int .i64 (n : Int)] w fun e w' => ∃ v, e = .returned v ∧ OwnI w' w.heap.size v (stepF n xs ys) ∧ Below w.heap.size w w' := by
  obtain ⟨i0, hi, hz0, hz1, hz2⟩ := info_parts Tryd.info_int
  have hm1 : xs.length ≤ 9223372036854775807 := by omega
  have hm2 : ys.length ≤ 9223372036854775807 := by omega
  have H1 := Lib.hid h1
  have H2 := Lib.hid h2
  have Hx := Lib.hid hx
  have Hy := Lib.hid hy
  clear h1 h2 hx hy
  go_enter Tryd.func37, Tryd.ntmps37
  go_wp2_with (at_make; refine wpList_make_full _ rfl _ _ 28 rfl w.heap.size 3 i0 (.int .i64 0) 1 Tryd.underlying28 hi hz0 hz1 _ _ _ _ n rfl rfl rfl rfl ?c1 ?c2 ?c3 ?_)
  case c1 => rw [hz2]; omega
  case c2 => unfold maxLen; omega
  case c3 => simp
  intro w1 hown hgr
  have hb1 : Below w.heap.size w w1 := (Below.refl _ _).grown hgr (Nat.le_refl _) (fun _ h => by cases h)
  have Hown1 := Lib.hid (OwnI.made hown)
  have Hb1 := Lib.hid hb1
  clear hown hgr hb1
  go_wp2
  go_loopw [16] (fun i wr => ∃ k : Nat, k ≤ ys.length ∧ i = .int .i64 k ∧ OwnI wr w.heap.size (.slice (some ⟨w.heap.size, 0, none⟩) n n) ((ys.take k).foldl (bump 1) (List.replicate n 0)) ∧ Below w.heap.size w wr) (fun i _ => ys.length - (intOf i).toNat)
  case atStart => exact ⟨0, Nat.zero_le _, rfl, Hown1.out, Hb1.out⟩
  case round =>
    obtain ⟨k, hk, rfl, hown, hbr⟩ := hrel
    by_cases hlt : k < ys.length
    · obtain ⟨b, o, rfl, hc⟩ := (H2.out.below hbr) k hlt
      have hb := Hy.out _ (gi_mem hlt)
      have Hst := Lib.hid (foldl_take (f := bump 1) (z := List.replicate n 0) hlt)
      obtain ⟨v, hv⟩ : ∃ v : Nat, gi ys k = (v : Int) := ⟨(gi ys k).toNat, by omega⟩
      rw [hv] at hc hb
      have Hv := Lib.hid hv
      have hvn : v < n := by omega
      obtain ⟨q, hq⟩ : ∃ q, q = (ys.take k).foldl (bump 1) (List.replicate n 0) := ⟨_, rfl⟩
      rw [← hq] at hown
      have Hq := Lib.hid hq
      have hcv := hown.cellAt v hvn
      have hfr := hown.frozenAt v
      obtain ⟨u, hu⟩ : ∃ u, u = gi q v := ⟨_, rfl⟩
      rw [← hu] at hcv
      have Hu := Lib.hid hu
      have hst := hown.store v (wrap64 (u + 1))
      have Hst2 := Lib.hid hst
      have Hb := Lib.hid (hbr.setCell (p := ⟨w.heap.size, v, none⟩) (Nat.le_refl _) (.int .i64 (wrap64 (u + 1))))
      clear hv hq hu hown hst hbr
      go_wp2
      go_roundw
      case rel => exact ⟨k + 1, by omega, by go_num, by rw [Hst.out, ← Hq.out, Hv.out]; unfold bump; rw [Int.toNat_natCast, ← Hu.out]; exact Hst2.out, Hb.out⟩
      case measure => simp [intOf]; omega
    · obtain rfl : k = ys.length := by omega
      rw [List.take_length] at hown
      obtain ⟨z, hz⟩ : ∃ z, z = ys.foldl (bump 1) (List.replicate n 0) := ⟨_, rfl⟩
      rw [← hz] at hown
      have Hz := Lib.hid hz
      have Hown2 := Lib.hid hown
      have Hb2 := Lib.hid hbr
      clear hz hown hbr
      go_wp2
      go_loopw [29] (fun i wr => ∃ k : Nat, k ≤ xs.length ∧ i = .int .i64 k ∧ OwnI wr w.heap.size (.slice (some ⟨w.heap.size, 0, none⟩) n n) ((xs.take k).foldl (bump (-1)) z) ∧ Below w.heap.size w wr) (fun i _ => xs.length - (intOf i).toNat)
      case atStart => exact ⟨0, Nat.zero_le _, rfl, Hown2.out, Hb2.out⟩
      case round =>
        obtain ⟨k, hk, rfl, hown, hbr⟩ := hrel
        by_cases hlt : k < xs.length
        · obtain ⟨b, o, rfl, hc⟩ := (H1.out.below hbr) k hlt
          have hb := Hx.out _ (gi_mem hlt)
          have Hst := Lib.hid (foldl_take (f := bump (-1)) (z := z) hlt)
          obtain ⟨v, hv⟩ : ∃ v : Nat, gi xs k = (v : Int) := ⟨(gi xs k).toNat, by omega⟩
          rw [hv] at hc hb
          have Hv := Lib.hid hv
          have hvn : v < n := by omega
          obtain ⟨q, hq⟩ : ∃ q, q = (xs.take k).foldl (bump (-1)) z := ⟨_, rfl⟩
          rw [← hq] at hown
          have Hq := Lib.hid hq
          have hcv := hown.cellAt v hvn
          have hfr := hown.frozenAt v
          obtain ⟨u, hu⟩ : ∃ u, u = gi q v := ⟨_, rfl⟩
          rw [← hu] at hcv
          have Hu := Lib.hid hu
          have hst := hown.store v (wrap64 (u - 1))
          have Hst2 := Lib.hid hst
          have Hb := Lib.hid (hbr.setCell (p := ⟨w.heap.size, v, none⟩) (Nat.le_refl _) (.int .i64 (wrap64 (u - 1))))
          clear hv hq hu hown hst hbr
          go_wp2
          go_roundw
          case rel => exact ⟨k + 1, by omega, by go_num, by rw [Hst.out, ← Hq.out, Hv.out]; unfold bump; rw [Int.toNat_natCast, ← Hu.out, ← Int.sub_eq_add_neg]; exact Hst2.out, Hb.out⟩
          case measure => simp [intOf]; omega
        · obtain rfl : k = xs.length := by omega
          rw [List.take_length] at hown
          have Hfin := Lib.hid (show OwnI wr w.heap.size (.slice (some ⟨w.heap.size, 0, none⟩) n n) (stepF n xs ys) ∧ Below w.heap.size w wr from ⟨by unfold stepF; rw [← Hz.out]; exact hown, hbr⟩)
          clear hown hbr
          go_wp2
          go_ret
          exact ⟨_, rfl, Hfin.out⟩
end Go.Proofs.YtjkpokpidpampaaDoor

