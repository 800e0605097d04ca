/- Contract: CountByDeterminant, by the model. Condition: an int. -/
import Derived.Test.YtfempacfaeknpaaDr3
import Derived.Test.YtfempacfaeknpaaDr4
namespace Go.Proofs.Ytfempacfaeknpaa
open Go.RowKit

def cd (n k : Nat) : Nat → Nat
  | 0 => 1
  | t + 1 => cd n k t * (n - k + (t + 1)) / (t + 1)
theorem cd_b : ∀ n, n < 13 → ∀ k, k < 6 → ∀ t, t < 6 → cd n k t ≤ 1000000000 ∧ cd n k t * (n - k + (t + 1)) ≤ 1000000000 := by decide +kernel
theorem cd_ch : ∀ i, i < 5 → ∀ j, j < 5 → cd (i + j + 2) i i = ch (i + j + 2) i := by decide +kernel

set_option maxRecDepth 100000 in
set_option maxHeartbeats 1600000 in
theorem dpChoose_any (n k : Nat) (w : World) (hk : k ≤ 5) (hkn : k ≤ n) (hn : n ≤ 12) :
    Calls Try.prog 72 #[.int .i64 (n : Int), .int .i64 (k : Int)] w fun e w' => e = .returned (.int .i64 (cd n k k : Nat)) ∧ w = w' := by
  go_enter Try.func72, Try.ntmps72
  go_wp2
  go_loop [5, 6] (fun s i => ∃ t : Nat, t ≤ k ∧ i = .int .i64 ((t : Int) + 1) ∧ s = .int .i64 (cd n k t : Nat)) (fun _ i => k + 1 - (intOf i).toNat)
  case atStart => exact ⟨0, Nat.zero_le _, rfl, rfl⟩
  case round =>
    obtain ⟨t, ht, rfl, rfl⟩ := hrel
    obtain ⟨u, hu⟩ : ∃ u : Nat, u = t + 1 := ⟨_, rfl⟩
    have hu1 : (t : Int) + 1 = (u : Int) := by omega
    rw [hu1]
    by_cases hlt : u ≤ k
    · have hb := cd_b n (by omega) k (by omega) t (by omega)
      have e1 : cd n k (t + 1) = cd n k t * (n - k + (t + 1)) / (t + 1) := rfl
      rw [← hu] at e1 hb
      have E1 := Lib.hid e1
      clear e1
      obtain ⟨s, hs⟩ : ∃ s, s = cd n k t := ⟨_, rfl⟩
      obtain ⟨d, hd⟩ : ∃ d, d = n - k := ⟨_, rfl⟩
      obtain ⟨d2, hd2⟩ : ∃ d2, d2 = d + u := ⟨_, rfl⟩
      obtain ⟨p, hp⟩ : ∃ p, p = s * d2 := ⟨_, rfl⟩
      rw [← hs, ← hd, ← hd2, ← hp] at hb
      rw [← hs, ← hd, ← hd2, ← hp] at E1
      rw [← hs]
      have hw1 : IntKind.i64.wrap ((n : Int) - (k : Int)) = (d : Int) := by rw [w64 (by omega)]; omega
      have hw2 : IntKind.i64.wrap ((d : Int) + (u : Int)) = (d2 : Int) := by rw [w64 (by omega)]; omega
      have hpb := hb.2
      have hsp : (s : Int) * (d2 : Int) = (p : Int) := by rw [hp, Int.natCast_mul]
      have hw3 : IntKind.i64.wrap ((s : Int) * (d2 : Int)) = (p : Int) := by rw [hsp]; exact w64 (by omega)
      have hsb := hb.1
      obtain ⟨q, hq⟩ : ∃ q, q = p / u := ⟨_, rfl⟩
      rw [← hq] at E1
      have hq1 : (p : Int) / (u : Int) = (q : Int) := by rw [hq, Int.natCast_ediv]
      have hqb : q ≤ 1000000000 := by rw [hq]; exact Nat.le_trans (Nat.div_le_self _ _) hpb
      have hu0 : ¬ u = 0 := by omega
      have hu2 : ((u : Int) == 0) = false := by simp [hu0]
      have hwu : IntKind.i64.wrap ((u : Int) + 1) = (u : Int) + 1 := w64 (by omega)
      have Hu := Lib.hid hu
      clear hb hp hs hq hd hd2 hu hu1 hsp
      go_wp2
      go_round
      case rel => exact ⟨u, hlt, rfl, by rw [Hu.out, ← E1.out, Hu.out]⟩
      case measure => simp [intOf]; omega
    · have HT := Lib.hid (show t = k by omega)
      clear hu hu1
      go_wp2
      go_ret
      exact ⟨by rw [← HT.out]; rfl, rfl⟩

def partD (i t : Nat) : List Int := (List.range t).map fun j : Nat => ((ch (i + j + 2) i : Nat) : Int)
def rowD (m i : Nat) : List Int := (List.range m).map fun j => tD i j
def tabTo (m k : Nat) : List (List Int) := (List.range k).map (rowD m)
theorem partD_len (i t : Nat) : (partD i t).length = t := by simp [partD]
theorem partD_succ (i t : Nat) : partD i (t + 1) = partD i t ++ [((ch (i + t + 2) i : Nat) : Int)] := by simp [partD, List.range_succ]
theorem gi_partD {i t j : Nat} (h : j < t) : gi (partD i t) j = ((ch (i + j + 2) i : Nat) : Int) := by
  rw [gi_lt (by rw [partD_len]; exact h)]; simp [partD]
theorem partD_set {m i : Nat} (h : i < m) : (partD i m).set i (((ch (i + i + 2) i : Nat) : Int) + 1) = rowD m i := by
  refine ext_gi (by simp [partD_len, rowD]) fun j hj => ?_
  rw [List.length_set, partD_len] at hj
  rw [gi_set (by rw [partD_len]; exact h), gi_partD hj]
  have e : gi (rowD m i) j = tD i j := by rw [gi_lt (by simpa [rowD] using hj)]; simp [rowD]
  rw [e]
  unfold tD
  by_cases q : j = i
  · subst q; rw [if_pos rfl, if_pos rfl]
  · rw [if_neg q, if_neg (fun h => q h.symm), Int.add_zero]
theorem tabTo_succ (m k : Nat) : tabTo m (k + 1) = tabTo m k ++ [rowD m k] := by simp [tabTo, List.range_succ]
theorem tabTo_all (m : Nat) : tabTo m m = tabD m := rfl

set_option maxRecDepth 100000 in
set_option maxHeartbeats 3200000 in
theorem specCountByDeterminant_any (n : Int) (w : World) (_hn : -9223372036854775808 ≤ n ∧ n ≤ 9223372036854775807) :
    Calls Try.prog 30 #[.int .i64 n] w fun e w' => IRes (1 ≤ n ∧ n ≤ 6) (detW (n.toNat - 1) (tabD (n.toNat - 1))) e ∧ Below w.heap.size w w' := by
  have C := Lib.hid (l1In_any n 1 6 w)
  by_cases p : 1 ≤ n ∧ n ≤ 6
  · obtain ⟨k0, rfl⟩ : ∃ k0 : Nat, n = (k0 : Int) := ⟨n.toNat, by omega⟩
    rw [Int.toNat_natCast]
    have Hp := Lib.hid p
    obtain ⟨m, hm⟩ : ∃ m, m = k0 - 1 := ⟨_, rfl⟩
    have hm5 : m ≤ 5 := by omega
    have Hk0 := Lib.hid (show k0 = m + 1 by omega)
    rw [← hm]
    obtain ⟨D, hD⟩ : ∃ D, D = detW m (tabD m) := ⟨_, rfl⟩
    rw [← hD]
    have HD := Lib.hid hD
    clear p hm hD
    go_enter Try.func30, Try.ntmps30
    go_wp2_with fail
    refine C.out.mono ?_
    rintro e w1 ⟨ha, rfl⟩
    obtain rfl := ha.is Hp.out
    clear ha
    go_wp2
    go_loopw [4, 5] (fun rows i wr => ∃ (k : Nat) (vs : List Value), k ≤ m ∧ i = .int .i64 k ∧ OwnV wr w.heap.size rows (tabTo m k) vs ∧ Below w.heap.size w wr) (fun _ i _ => m - (intOf i).toNat)
    case atStart => exact ⟨0, [], Nat.zero_le _, rfl, OwnV.nil _ _, Below.refl _ _⟩
    case round =>
      obtain ⟨k, vs, hk, rfl, hown, hbr⟩ := hrel
      have Hown := Lib.hid hown
      have Hbr := Lib.hid hbr
      have HBr := Lib.hid hbr.size
      clear hown hbr
      obtain ⟨wq, hwqq⟩ : ∃ wq : World, wq = wr := ⟨_, rfl⟩
      subst hwqq
      by_cases hlt : k < m
      · have hc1 : decide ((k : Int) + 1 < (k0 : Int)) = true := by have := Hk0.out; simp; omega
        go_wp2
        go_loopw [6, 7] (fun row i wr => ∃ t : Nat, t ≤ m ∧ i = .int .i64 t ∧ OwnI wr wq.heap.size row (partD k t) ∧ Below wq.heap.size wq wr) (fun _ i _ => m - (intOf i).toNat)
        case atStart => exact ⟨0, Nat.zero_le _, rfl, OwnI.nil _ _, Below.refl _ _⟩
        case round =>
          obtain ⟨t, ht, rfl, hrow, hbt⟩ := hrel
          have Hrow := Lib.hid hrow
          have Hbt := Lib.hid hbt
          clear hrow hbt
          by_cases htl : t < m
          · have hc2 : decide ((t : Int) + 1 < (k0 : Int)) = true := by have := Hk0.out; simp; omega
            obtain ⟨q, hq⟩ : ∃ q, q = k + t := ⟨_, rfl⟩
            obtain ⟨q2, hq2⟩ : ∃ q2, q2 = q + 2 := ⟨_, rfl⟩
            have hw1 : IntKind.i64.wrap ((k : Int) + (t : Int)) = (q : Int) := by rw [w64 (by omega)]; omega
            have hw2 : IntKind.i64.wrap ((q : Int) + 2) = (q2 : Int) := by rw [w64 (by omega)]; omega
            have CC := Lib.hid (dpChoose_any q2 k wr (by omega) (by omega) (by omega))
            have hcc : cd q2 k k = ch (k + t + 2) k := by rw [hq2, hq]; exact cd_ch k (by omega) t (by omega)
            rw [hcc] at CC
            have Hs := Lib.hid (partD_succ k t)
            obtain ⟨x, hx⟩ : ∃ x : Int, x = ((ch (k + t + 2) k : Nat) : Int) := ⟨_, rfl⟩
            rw [← hx] at CC Hs
            have Hpl := Lib.hid (show (partD k t).length < 1048576 by rw [partD_len]; omega)
            obtain ⟨pt, hpt⟩ : ∃ pt, pt = partD k t := ⟨_, rfl⟩
            rw [← hpt] at Hrow Hs Hpl
            clear hq hq2 hcc hx hpt
            go_wp2_with fail
            refine CC.out.mono ?_
            rintro e w5 ⟨rfl, rfl⟩
            go_wp2_with (at_builtin; refine wpList_numT rfl _ _ rfl wq.heap.size _ pt x Hrow.out rfl rfl Hbt.out.size Hpl.out ?_)
            intro v7 w7 hown7 hb7
            rw [← Hs.out] at hown7
            have Hown7 := Lib.hid hown7
            have HB7 := Lib.hid (Hbt.out.trans hb7)
            clear hown7 hb7
            go_wp2
            go_roundw
            case rel => exact ⟨t + 1, by omega, by go_num, Hown7.out, HB7.out⟩
            case measure => simp [intOf]; omega
          · obtain rfl : t = m := by omega
            have hc2 : decide ((t : Int) + 1 < (k0 : Int)) = false := by have := Hk0.out; simp; omega
            obtain ⟨ra, rc, hrv, _, _, _⟩ := Hrow.out.read
            rw [partD_len] at hrv
            subst hrv
            obtain ⟨g, hga, hg1, hg2⟩ := Hrow.out.isAt (by omega)
            subst hga
            have hcs := Hrow.out.cellAt k hlt
            rw [gi_partD hlt] at hcs
            have hfs := Hrow.out.frozenAt k
            have hc9 := ch_le k (by omega) k (by omega)
            have hst := Hrow.out.store k (((ch (k + k + 2) k : Nat) : Int) + 1)
            rw [partD_set hlt] at hst
            obtain ⟨x, hx⟩ : ∃ x, x = ch (k + k + 2) k := ⟨_, rfl⟩
            rw [← hx] at hcs hc9 hst
            have hw3 : IntKind.i64.wrap ((x : Int) + 1) = (x : Int) + 1 := w64 (by omega)
            have Hst := Lib.hid hst
            have hwb : Below wq.heap.size wq (wr.setCell ⟨g, k, none⟩ (.int .i64 ((x : Int) + 1))) := Hbt.out.setCell (p := ⟨g, k, none⟩) hg1 _
            have HB6 := Lib.hid (Hbr.out.trans (hwb.mono HBr.out))
            have Hown6 := Lib.hid (Hown.out.below hwb)
            have Hs2 := Lib.hid (tabTo_succ t k)
            have Htl := Lib.hid (show (tabTo t k).length < 1048576 by simp [tabTo]; omega)
            obtain ⟨R, hR⟩ : ∃ R, R = rowD t k := ⟨_, rfl⟩
            rw [← hR] at Hst Hs2
            obtain ⟨M, hM⟩ : ∃ M, M = tabTo t k := ⟨_, rfl⟩
            rw [← hM] at Hown6 Hs2 Htl
            obtain ⟨w6, hw6⟩ : ∃ w6, w6 = wr.setCell ⟨g, k, none⟩ (.int .i64 ((x : Int) + 1)) := ⟨_, rfl⟩
            rw [← hw6] at Hst HB6 Hown6
            have Hw6 := Lib.hid hw6
            clear hst hx hR hM hwb hg1 hg2 hw6
            go_upto_region 13 with (fail)
            rw [← Hw6.out]
            clear Hw6 hcs hfs
            go_wp2_with (at_builtin; refine wpList_rowV rfl _ _ rfl w.heap.size wq.heap.size _ (.slice (some ⟨g, 0, none⟩) t rc) M vs R Hown6.out Hst.out rfl rfl HB6.out.size Htl.out ?_)
            intro v7 w7 hown7 hb7
            rw [← Hs2.out] at hown7
            have Hown7 := Lib.hid hown7
            have HB7 := Lib.hid (HB6.out.trans hb7)
            clear hown7 hb7
            go_wp2
            go_roundw
            case rel => exact ⟨k + 1, _, by omega, by go_num, Hown7.out, HB7.out⟩
            case measure => simp [intOf]; omega
      · obtain rfl : k = m := by omega
        have hc1 : decide ((k : Int) + 1 < (k0 : Int)) = false := by have := Hk0.out; simp; omega
        obtain ⟨ma, mc, hmv, hm1, hm2, hmm⟩ := Hown.out.read
        rw [tabTo_all] at hmv hm1 hmm
        rw [(tabD_sq k).1] at hmv hm1
        subst hmv
        have CD := Lib.hid (dpDeterminant_any k hm5 ma mc (tabD k) wq (tabD_sq k) hm1 hm2 hmm)
        rw [← HD.out] at CD
        clear hmm hm1 hm2 Hown
        go_wp2_with fail
        refine CD.out.mono ?_
        rintro e w5 ⟨rfl, hb⟩
        have HB5 := Lib.hid (Hbr.out.trans (hb.mono Hbr.out.size))
        clear hb
        go_wp2
        go_ret2
        exact ⟨IRes.yes Hp.out, HB5.out⟩
  · have Hp := Lib.hid p
    clear p
    go_enter Try.func30, Try.ntmps30
    go_wp2_with fail
    refine C.out.mono ?_
    rintro e w1 ⟨ha, rfl⟩
    obtain rfl := ha.isnt Hp.out
    clear ha
    go_wp2
    go_ret2
    exact ⟨IRes.no Hp.out, Below.refl _ _⟩
end Go.Proofs.Ytfempacfaeknpaa
