/- Contract: CountByDeterminant, by the program. Condition: an int. -/
import Derived.Test.YtfempacfaeknpaaDr2
import Derived.Test.YtfempacfaeknpaaCnt
import Derived.Test.YtfempacfaeknpaaDpK
namespace Go.Proofs.Ytfempacfaeknpaa
open Go.RowKit

def tD (i j : Nat) : Int := (ch (i + j + 2) i : Nat) + if i = j then 1 else 0
def tabD (m : Nat) : List (List Int) := tab m m tD
theorem tabD_sq (m : Nat) : Sq m (tabD m) := ⟨tab_len _ _ _, fun i hi => tab_row hi⟩
theorem ch_le : ∀ i, i < 5 → ∀ j, j < 5 → ch (i + j + 2) i ≤ 1000 := by decide +kernel

set_option maxRecDepth 100000 in
set_option maxHeartbeats 3200000 in
theorem implCountByDeterminant_any (n : Int) (w : World) (_hn : -9223372036854775808 ≤ n ∧ n ≤ 9223372036854775807) :
    Calls Try.prog 31 #[.int .i64 n] w fun e w' => IRes (1 ≤ n ∧ n ≤ 6) (detW (n.toNat - 1) (tabD (n.toNat - 1))) e ∧ Below w.heap.size w w' := by
  obtain ⟨w1, hw1⟩ : ∃ w1, w1 = w.alloc (.cells #[.int .i64 n] 3) := ⟨_, rfl⟩
  have C := Lib.hid (allIn_any 1 6 (some ⟨w.heap.size, 0, none⟩) 1 [n] w1 (by simp) (by rw [hw1]; exact ints_one w n))
  have HB := Lib.hid (show Below w.heap.size w w1 by rw [hw1]; exact (Below.refl _ _).alloc (Nat.le_refl _) _)
  have Hw1 := Lib.hid hw1
  clear hw1
  by_cases p : 1 ≤ n ∧ n ≤ 6
  · obtain ⟨k0, rfl⟩ : ∃ k0 : Nat, n = (k0 : Int) := ⟨n.toNat, by omega⟩
    rw [Int.toNat_natCast]
    have Hp := Lib.hid p
    have Hin := Lib.hid (allIn_one.2 p)
    obtain ⟨m, hm⟩ : ∃ m, m = k0 - 1 := ⟨_, rfl⟩
    have hwm : IntKind.i64.wrap ((k0 : Int) - 1) = (m : Int) := by rw [w64 (by omega)]; omega
    have hm5 : m ≤ 5 := by omega
    have hmm : m ≤ 9223372036854775807 := by omega
    rw [← hm]
    obtain ⟨D, hD⟩ : ∃ D, D = detW m (tabD m) := ⟨_, rfl⟩
    rw [← hD]
    have HD := Lib.hid hD
    clear p hm hD
    go_enter Try.func31, Try.ntmps31
    go_wp2_with fail
    rw [← Hw1.out]
    refine C.out.mono ?_
    rintro e w2 ⟨ha, rfl⟩
    obtain rfl := ha.is Hin.out
    clear ha
    go_wp2_with fail
    refine (newGrid_any m w1 (by omega)).mono ?_
    rintro e w2 ⟨vs, rfl, hv, hb⟩
    have Hv := Lib.hid hv
    have HB2 := Lib.hid (HB.out.trans (hb.mono HB.out.size))
    have HBz := Lib.hid HB.out.size
    obtain ⟨H, hH⟩ : ∃ H, H = w1.heap.size := ⟨_, rfl⟩
    rw [← hH] at Hv HBz ⊢
    clear hv hb HB hH
    go_wp2
    go_loopw [17] (fun i wr => ∃ (k : Nat) (f : Nat → Nat → Int), k ≤ m ∧ i = .int .i64 k ∧ OwnP wr H (.slice (some ⟨H, 0, none⟩) m m) m (tab m m f) m vs ∧ (∀ a b, a < k → b < m → f a b = tD a b) ∧ Below w.heap.size w wr) (fun i _ => m - (intOf i).toNat)
    case atStart => exact ⟨0, _, Nat.zero_le _, rfl, Hv.out, fun a b ha _ => absurd ha (by omega), HB2.out⟩
    case round =>
      obtain ⟨k, f, hk, rfl, hown, heq, hbr⟩ := hrel
      have Hown := Lib.hid hown
      have Heq := Lib.hid heq
      have Hbr := Lib.hid hbr
      clear hown heq hbr Hv HB2
      by_cases hlt : k < m
      · have hd := Hown.out.cellAt k hlt
        obtain ⟨g, cap, hvs, _, _, _, _⟩ := Hown.out.at2 hlt hlt
        rw [hvs] at hd
        have Hvs := Lib.hid hvs
        clear hvs
        go_wp2
        clear hd
        go_loopw [24] (fun i wr => ∃ (t : Nat) (f : Nat → Nat → Int), t ≤ m ∧ i = .int .i64 t ∧ OwnP wr H (.slice (some ⟨H, 0, none⟩) m m) m (tab m m f) m vs ∧ (∀ a b, a < k → b < m → f a b = tD a b) ∧ (∀ b, b < t → f k b = (ch (k + b + 2) k : Nat)) ∧ Below w.heap.size w wr) (fun i _ => m - (intOf i).toNat)
        case atStart => exact ⟨0, f, Nat.zero_le _, rfl, Hown.out, Heq.out, fun b hb => absurd hb (by omega), Hbr.out⟩
        case round =>
          obtain ⟨t, f, ht, rfl, hown, heq, hcol, hbr⟩ := hrel
          have Heq2 := Lib.hid heq
          have Hcol := Lib.hid hcol
          clear heq hcol Hown Heq Hbr
          by_cases htl : t < m
          · obtain ⟨g', cap', hvs', hd2, hf2, hg, hst⟩ := hown.at2 hlt htl
            rw [Hvs.out] at hvs'
            cases hvs'
            have hc := ch_le k (by omega) t (by omega)
            obtain ⟨q, hq⟩ : ∃ q, q = k + t := ⟨_, rfl⟩
            obtain ⟨q2, hq2⟩ : ∃ q2, q2 = q + 2 := ⟨_, rfl⟩
            have hw1 : IntKind.i64.wrap ((k : Int) + (t : Int)) = (q : Int) := by rw [w64 (by omega)]; omega
            have hw2 : IntKind.i64.wrap ((q : Int) + 2) = (q2 : Int) := by rw [w64 (by omega)]; omega
            have CC := Lib.hid (choicesOf_any k q2 wr (by omega) (by omega) (by omega))
            have hqq : ch (k + t + 2) k = ch q2 k := by rw [hq2, hq]
            rw [hqq] at hc
            obtain ⟨x, hx⟩ : ∃ x, x = ch q2 k := ⟨_, rfl⟩
            rw [← hx] at CC hc
            have Hx := Lib.hid (show ch (k + t + 2) k = x from hqq.trans hx.symm)
            have HstX := Lib.hid (hst (x : Int))
            have HBs := Lib.hid (hbr.setCell (p := ⟨g, t, none⟩) (by have := HBz.out; show w.heap.size ≤ g; omega) (.int .i64 (x : Int)))
            clear hst hbr hown hq hq2 hqq hx
            go_wp2_with fail
            refine CC.out.mono ?_
            rintro e w5 ⟨rfl, rfl⟩
            go_wp2
            go_roundw
            case rel =>
              refine ⟨t + 1, _, by omega, by go_num, HstX.out, fun a b ha hb => ?_, fun b hb => ?_, HBs.out⟩
              · rw [if_neg (fun h => by omega)]; exact Heq2.out a b ha hb
              · by_cases e : b = t
                · subst e; rw [if_pos ⟨rfl, rfl⟩, Hx.out]
                · rw [if_neg (fun h => by omega)]; exact Hcol.out b (by omega)
            case measure => simp [intOf]; omega
          · obtain rfl : t = m := by omega
            obtain ⟨g', cap', hvs', hd2, hf2, hg, hst⟩ := hown.at2 hlt hlt
            rw [Hvs.out] at hvs'
            cases hvs'
            have hfk := Hcol.out k hlt
            have hc := ch_le k (by omega) k (by omega)
            rw [hfk] at hd2
            obtain ⟨x, hx⟩ : ∃ x, x = ch (k + k + 2) k := ⟨_, rfl⟩
            rw [← hx] at hd2 hc
            have Hx := Lib.hid hx
            have HstX := Lib.hid (hst ((x : Int) + 1))
            have HBs := Lib.hid (hbr.setCell (p := ⟨g, k, none⟩) (by have := HBz.out; show w.heap.size ≤ g; omega) (.int .i64 ((x : Int) + 1)))
            clear hst hbr hown hx hfk
            go_wp2
            go_roundw
            case rel =>
              refine ⟨k + 1, _, by omega, by go_num, HstX.out, fun a b ha hb => ?_, HBs.out⟩
              by_cases e : a = k ∧ b = k
              · rw [if_pos e]
                obtain ⟨rfl, rfl⟩ := e
                unfold tD
                rw [if_pos rfl, Hx.out]
              · rw [if_neg e]
                by_cases ea : a = k
                · subst ea
                  rw [Hcol.out b hb]
                  unfold tD
                  rw [if_neg (fun h => e ⟨rfl, h.symm⟩), Int.add_zero]
                · exact Heq2.out a b (by omega) hb
            case measure => simp [intOf]; omega
      · obtain rfl : k = m := by omega
        have hE : tab k k f = tabD k := eq_tab (tab_len _ _ _) (fun i hi => tab_row hi) (fun i j hi hj => by rw [gi_tab hi hj]; exact Heq.out i j hi hj)
        have HMt := Lib.hid (show MatAt wr (some ⟨H, 0, none⟩) (tabD k) from by have := Hown.out.at (tab_len _ _ _); rw [hE] at this; exact this)
        have CD := Lib.hid (determinant_any k hm5 (some ⟨H, 0, none⟩) k (tabD k) wr (tabD_sq k) (Nat.le_refl _) hmm HMt.out)
        rw [← HD.out] at CD
        clear hE Hown
        go_wp2_with fail
        refine CD.out.mono ?_
        rintro e w5 ⟨rfl, hb⟩
        have HB5 := Lib.hid (Hbr.out.trans (hb.mono Hbr.out.size))
        clear hb
        go_wp2
        go_ret2
        exact ⟨IRes.yes Hp.out, HB5.out⟩
  · have Hq := Lib.hid p
    have Hin := Lib.hid (show ¬ allIn [n] 1 6 from fun h => p (allIn_one.1 h))
    clear p
    go_enter Try.func31, Try.ntmps31
    go_wp2_with fail
    rw [← Hw1.out]
    refine C.out.mono ?_
    rintro e w2 ⟨ha, rfl⟩
    obtain rfl := ha.isnt Hin.out
    clear ha
    go_wp2
    go_ret2
    exact ⟨IRes.no Hq.out, HB.out⟩
end Go.Proofs.Ytfempacfaeknpaa
