/- Parts of proofs: contracts and plain facts. Conditions: as each says. -/
import Derived.Test.YtmkldodkpijfjaaDoorK15
import Derived.Deep.RegionWith
namespace Go.Proofs.YtmkldodkpijfjaaDoor
open Go.RowKit

def in5Minus (n : Int) : Prop := 1 ≤ n ∧ n ≤ 5
def listMinus (n : Nat) : List Int := trimF (countsF nextMinus n)
theorem listMinus_len {n : Int} (h : in5Minus n) : (listMinus n.toNat).length ≤ 1048576 := by
  unfold listMinus trimF
  rw [List.length_take]
  have : (countsF nextMinus n.toNat).length = n.toNat * n.toNat + 1 := by unfold countsF; rw [spreadF_len, List.length_replicate]
  unfold in5Minus at h
  have := Nat.mul_le_mul (show n.toNat ≤ 5 by omega) (show n.toNat ≤ 5 by omega)
  omega
theorem Minus_facts {N : Nat} (h1 : 1 ≤ N) (h5 : N ≤ 5) : sameC lostSc nextMinus N ((N - 1) * (N - 1) / 4) = true ∧ limC lostSc N ((N - 1) * (N - 1) / 4) = true := by
  obtain ⟨a, b, c, d, e⟩ := lost_same
  obtain ⟨a', b', c', d', e'⟩ := lost_ok
  rcases (by omega : N = 1 ∨ N = 2 ∨ N = 3 ∨ N = 4 ∨ N = 5) with rfl | rfl | rfl | rfl | rfl
  · exact ⟨a, a'⟩
  · exact ⟨b, b'⟩
  · exact ⟨c, c'⟩
  · exact ⟨d, d'⟩
  · exact ⟨e, e'⟩

theorem mostMinus5_any (N : Nat) (w : World) (_ : 1 ≤ N) (_ : N ≤ 5) :
    Calls Tryd.prog 74 #[.int .i64 (N : Int)] w fun e w' => e = .returned (.int .i64 (((N - 1) * (N - 1) / 4 : Nat) : Int)) ∧ w = w' := by
  obtain rfl | rfl | rfl | rfl | rfl : N = 1 ∨ N = 2 ∨ N = 3 ∨ N = 4 ∨ N = 5 := by omega
  all_goals
    go_enter Tryd.func74, Tryd.ntmps74
    go_wp2
    go_ret
    exact ⟨rfl, rfl⟩
set_option maxRecDepth 100000 in
set_option maxHeartbeats 800000 in
theorem implCountByMinus_any (n : Int) (w : World) (_ : -9223372036854775808 ≤ n ∧ n ≤ 9223372036854775807) (hD : Dj w) :
    Calls Tryd.prog 40 #[.int .i64 n] w fun e w' => LRes (in5Minus n) (listMinus n.toNat) w' w.heap.size e ∧ Below w.heap.size w w' := by
  by_cases h1 : 1 ≤ n
  · by_cases h5 : n ≤ 5
    · obtain ⟨N, rfl⟩ : ∃ N : Nat, n = (N : Int) := ⟨n.toNat, by omega⟩
      obtain ⟨hs, hl⟩ := Minus_facts (N := N) (by omega) (by omega)
      have hlim := limC_lim hl
      obtain ⟨G, hG⟩ : ∃ G : Nat, G = (N - 1) * (N - 1) / 4 := ⟨_, rfl⟩
      rw [← hG] at hs hlim
      have hG10 : G ≤ 10 := by
        rw [hG]
        rcases (by omega : N = 1 ∨ N = 2 ∨ N = 3 ∨ N = 4 ∨ N = 5) with rfl | rfl | rfl | rfl | rfl <;> decide
      have hc := byScore_lostColumns lostSc lostColumns_any lost_small N G (by omega) (by omega) (by omega) hlim w hD
      have hsame : scoreL lostSc N (G + 1) = listMinus N := by
        unfold sameC at hs
        simp only [Bool.and_eq_true] at hs
        rw [scoreT_is]
        have := hs.2
        simp at this
        exact this.symm
      rw [hsame] at hc
      have Hc := Lib.hid hc
      have hd5 : decide ((5 : Int) < (N : Int)) = false := by simp; omega
      have hmost := mostMinus5_any N w (by omega) (by omega)
      rw [← hG] at hmost
      have Hmost := Lib.hid hmost
      clear hmost
      clear hc hD hs hl hlim hsame hG
      go_enter Tryd.func40, Tryd.ntmps40
      go_wp2_with fail
      refine Hmost.out.mono ?_
      rintro e w2 ⟨rfl, rfl⟩
      go_wp2_with fail
      refine Hc.out.mono ?_
      rintro e w1 ⟨v, rfl, hv, hb⟩
      have Hv := Lib.hid hv
      have Hb := Lib.hid hb
      clear hv hb
      go_wp2
      go_ret2
      exact ⟨LRes.yes ⟨h1, h5⟩ (by rw [Int.toNat_natCast]; exact Hv.out), Hb.out⟩
    · have hd5 : decide ((5 : Int) < n) = true := by simp; omega
      go_enter Tryd.func40, Tryd.ntmps40
      go_wp2
      go_ret2
      exact ⟨LRes.no fun h => by have := h.2; omega, Below.refl _ _⟩
  · go_enter Tryd.func40, Tryd.ntmps40
    go_wp2
    go_ret2
    exact ⟨LRes.no fun h => by have := h.1; omega, Below.refl _ _⟩
end Go.Proofs.YtmkldodkpijfjaaDoor

namespace Go.Proofs.YtmkldodkpijfjaaDoor
open Go.RowKit

end Go.Proofs.YtmkldodkpijfjaaDoor

namespace Go.Proofs.YtmkldodkpijfjaaDoor
open Go.RowKit

def in5Add (n : Int) : Prop := 1 ≤ n ∧ n ≤ 5
def listAdd (n : Nat) : List Int := trimF (countsF nextAdd n)
theorem listAdd_len {n : Int} (h : in5Add n) : (listAdd n.toNat).length ≤ 1048576 := by
  unfold listAdd trimF
  rw [List.length_take]
  have : (countsF nextAdd n.toNat).length = n.toNat * n.toNat + 1 := by unfold countsF; rw [spreadF_len, List.length_replicate]
  unfold in5Add at h
  have := Nat.mul_le_mul (show n.toNat ≤ 5 by omega) (show n.toNat ≤ 5 by omega)
  omega
theorem Add_facts {N : Nat} (h1 : 1 ≤ N) (h5 : N ≤ 5) : sameC movedSc nextAdd N (N * (N - 1) / 2) = true ∧ limC movedSc N (N * (N - 1) / 2) = true := by
  obtain ⟨a, b, c, d, e⟩ := moved_same
  obtain ⟨a', b', c', d', e'⟩ := moved_ok
  rcases (by omega : N = 1 ∨ N = 2 ∨ N = 3 ∨ N = 4 ∨ N = 5) with rfl | rfl | rfl | rfl | rfl
  · exact ⟨a, a'⟩
  · exact ⟨b, b'⟩
  · exact ⟨c, c'⟩
  · exact ⟨d, d'⟩
  · exact ⟨e, e'⟩

theorem mostInversions5_any (N : Nat) (w : World) (_ : 1 ≤ N) (_ : N ≤ 5) :
    Calls Tryd.prog 77 #[.int .i64 (N : Int)] w fun e w' => e = .returned (.int .i64 ((N * (N - 1) / 2 : Nat) : Int)) ∧ w = w' := by
  obtain rfl | rfl | rfl | rfl | rfl : N = 1 ∨ N = 2 ∨ N = 3 ∨ N = 4 ∨ N = 5 := by omega
  all_goals
    go_enter Tryd.func77, Tryd.ntmps77
    go_wp2
    go_ret
    exact ⟨rfl, rfl⟩
set_option maxRecDepth 100000 in
set_option maxHeartbeats 800000 in
theorem implCountByInversions_any (n : Int) (w : World) (_ : -9223372036854775808 ≤ n ∧ n ≤ 9223372036854775807) (hD : Dj w) :
    Calls Tryd.prog 42 #[.int .i64 n] w fun e w' => LRes (in5Add n) (listAdd n.toNat) w' w.heap.size e ∧ Below w.heap.size w w' := by
  by_cases h1 : 1 ≤ n
  · by_cases h5 : n ≤ 5
    · obtain ⟨N, rfl⟩ : ∃ N : Nat, n = (N : Int) := ⟨n.toNat, by omega⟩
      obtain ⟨hs, hl⟩ := Add_facts (N := N) (by omega) (by omega)
      have hlim := limC_lim hl
      obtain ⟨G, hG⟩ : ∃ G : Nat, G = N * (N - 1) / 2 := ⟨_, rfl⟩
      rw [← hG] at hs hlim
      have hG10 : G ≤ 10 := by
        rw [hG]
        rcases (by omega : N = 1 ∨ N = 2 ∨ N = 3 ∨ N = 4 ∨ N = 5) with rfl | rfl | rfl | rfl | rfl <;> decide
      have hc := byScore_movedNumbers movedSc movedNumbers_any moved_small N G (by omega) (by omega) (by omega) hlim w hD
      have hsame : scoreL movedSc N (G + 1) = listAdd N := by
        unfold sameC at hs
        simp only [Bool.and_eq_true] at hs
        rw [scoreT_is]
        have := hs.2
        simp at this
        exact this.symm
      rw [hsame] at hc
      have Hc := Lib.hid hc
      have hd5 : decide ((5 : Int) < (N : Int)) = false := by simp; omega
      have hmost := mostInversions5_any N w (by omega) (by omega)
      rw [← hG] at hmost
      have Hmost := Lib.hid hmost
      clear hmost
      clear hc hD hs hl hlim hsame hG
      go_enter Tryd.func42, Tryd.ntmps42
      go_wp2_with fail
      refine Hmost.out.mono ?_
      rintro e w2 ⟨rfl, rfl⟩
      go_wp2_with fail
      refine Hc.out.mono ?_
      rintro e w1 ⟨v, rfl, hv, hb⟩
      have Hv := Lib.hid hv
      have Hb := Lib.hid hb
      clear hv hb
      go_wp2
      go_ret2
      exact ⟨LRes.yes ⟨h1, h5⟩ (by rw [Int.toNat_natCast]; exact Hv.out), Hb.out⟩
    · have hd5 : decide ((5 : Int) < n) = true := by simp; omega
      go_enter Tryd.func42, Tryd.ntmps42
      go_wp2
      go_ret2
      exact ⟨LRes.no fun h => by have := h.2; omega, Below.refl _ _⟩
  · go_enter Tryd.func42, Tryd.ntmps42
    go_wp2
    go_ret2
    exact ⟨LRes.no fun h => by have := h.1; omega, Below.refl _ _⟩
end Go.Proofs.YtmkldodkpijfjaaDoor

namespace Go.Proofs.YtmkldodkpijfjaaDoor
open Go.RowKit

theorem listMinus_tab : ∀ n, 1 ≤ n → n < 5 → listMinus n = tabW fMin (allW n) := by
  have h : ∀ n, n < 5 → n = 0 ∨ listMinus n = tabW fMin (allW n) := by decide +kernel
  intro n h1 h2
  exact (h n h2).resolve_left (by omega)
theorem listAdd_tab : ∀ n, 1 ≤ n → n < 5 → listAdd n = tabW fInv (allW n) := by
  have h : ∀ n, n < 5 → n = 0 ∨ listAdd n = tabW fInv (allW n) := by decide +kernel
  intro n h1 h2
  exact (h n h2).resolve_left (by omega)

set_option maxRecDepth 100000 in
set_option maxHeartbeats 1600000 in
theorem implMinusTable_any (n : Int) (w : World) (hz : -9223372036854775808 ≤ n ∧ n ≤ 9223372036854775807) (hD : Dj w) :
    Calls Tryd.prog 11 #[.int .i64 n] w fun e w' => LRes (1 ≤ n ∧ n ≤ 4) (tabW fMin (allW n.toNat)) w' w.heap.size e ∧ Below w.heap.size w w' := by
  have HD := Lib.hid hD
  have HZ := Lib.hid hz
  clear hD hz
  go_enter Tryd.func11, Tryd.ntmps11
  go_wp2_with fail
  refine (canBeWeighted_any n w).mono ?_
  rintro e w1 ⟨ha, hb⟩
  have Hb := Lib.hid hb
  have HB := Lib.hid hb.size
  clear hb
  by_cases h : 1 ≤ n ∧ n ≤ 4
  · have H := Lib.hid h
    obtain rfl := ha.is h
    have hl := listMinus_tab n.toNat (by omega) (by omega)
    have HL := Lib.hid hl
    clear ha h hl
    go_wp2_with fail
    refine (implCountByMinus_any n w1 HZ.out (HD.out.next Hb.out)).mono ?_
    rintro e w2 ⟨⟨v, b, r, rfl, hv, hr⟩, hb2⟩
    have hr2 : b = true ∧ r = tabW fMin (allW n.toNat) := by
      rcases hr with ⟨_, h2, h3⟩ | ⟨h1, _, _⟩
      · exact ⟨h2, by rw [h3]; exact HL.out⟩
      · exact absurd (show in5Minus n by have := H.out; unfold in5Minus; omega) h1
    obtain ⟨rfl, rfl⟩ := hr2
    have Hv := Lib.hid (hv.base HB.out)
    have Hb2 := Lib.hid (Hb.out.trans (hb2.mono HB.out))
    clear hv hr hb2
    go_wp2
    go_ret2
    exact ⟨LRes.yes H.out Hv.out, Hb2.out⟩
  · have H := Lib.hid h
    obtain rfl := ha.isnt h
    clear ha h
    go_wp2
    go_ret2
    exact ⟨LRes.no H.out, Hb.out⟩

set_option maxRecDepth 100000 in
set_option maxHeartbeats 1600000 in
theorem implInversionTable_any (n : Int) (w : World) (hz : -9223372036854775808 ≤ n ∧ n ≤ 9223372036854775807) (hD : Dj w) :
    Calls Tryd.prog 16 #[.int .i64 n] w fun e w' => LRes (1 ≤ n ∧ n ≤ 4) (tabW fInv (allW n.toNat)) w' w.heap.size e ∧ Below w.heap.size w w' := by
  have HD := Lib.hid hD
  have HZ := Lib.hid hz
  clear hD hz
  go_enter Tryd.func16, Tryd.ntmps16
  go_wp2_with fail
  refine (canBeWeighted_any n w).mono ?_
  rintro e w1 ⟨ha, hb⟩
  have Hb := Lib.hid hb
  have HB := Lib.hid hb.size
  clear hb
  by_cases h : 1 ≤ n ∧ n ≤ 4
  · have H := Lib.hid h
    obtain rfl := ha.is h
    have hl := listAdd_tab n.toNat (by omega) (by omega)
    have HL := Lib.hid hl
    clear ha h hl
    go_wp2_with fail
    refine (implCountByInversions_any n w1 HZ.out (HD.out.next Hb.out)).mono ?_
    rintro e w2 ⟨⟨v, b, r, rfl, hv, hr⟩, hb2⟩
    have hr2 : b = true ∧ r = tabW fInv (allW n.toNat) := by
      rcases hr with ⟨_, h2, h3⟩ | ⟨h1, _, _⟩
      · exact ⟨h2, by rw [h3]; exact HL.out⟩
      · exact absurd (show in5Add n by have := H.out; unfold in5Add; omega) h1
    obtain ⟨rfl, rfl⟩ := hr2
    have Hv := Lib.hid (hv.base HB.out)
    have Hb2 := Lib.hid (Hb.out.trans (hb2.mono HB.out))
    clear hv hr hb2
    go_wp2
    go_ret2
    exact ⟨LRes.yes H.out Hv.out, Hb2.out⟩
  · have H := Lib.hid h
    obtain rfl := ha.isnt h
    clear ha h
    go_wp2
    go_ret2
    exact ⟨LRes.no H.out, Hb.out⟩
end Go.Proofs.YtmkldodkpijfjaaDoor

namespace Go.Proofs.YtmkldodkpijfjaaDoor
open Go.RowKit

def jR (n : Nat) : Nat := (tabW fInv (allW n)).length
def jC (n : Nat) : Nat := (tabW fMin (allW n)).length
/-- how many of the first t matrices have p inversions and k minus ones -/
def jF (A : List (List (List Int))) (t p k : Nat) : Int := sumF (fun i => if fInv (A.getD i []) = p ∧ fMin (A.getD i []) = k then 1 else 0) t
theorem jF_zero (A : List (List (List Int))) (p k : Nat) : jF A 0 p k = 0 := rfl
theorem jF_step (A : List (List (List Int))) (t p k : Nat) : jF A (t + 1) p k = if p = fInv (A.getD t []) ∧ k = fMin (A.getD t []) then jF A t (fInv (A.getD t [])) (fMin (A.getD t [])) + 1 else jF A t p k := by
  unfold jF
  simp only [sumF]
  by_cases e : p = fInv (A.getD t []) ∧ k = fMin (A.getD t [])
  · rw [if_pos e, e.1, e.2, if_pos ⟨rfl, rfl⟩]
  · rw [if_neg e, if_neg (fun h => e ⟨h.1.symm, h.2.symm⟩)]
    omega
theorem jF_bd (A : List (List (List Int))) (t p k : Nat) : 0 ≤ jF A t p k ∧ jF A t p k ≤ t := sumF_01 fun i _ => by split <;> omega
def joint (n : Nat) : List (List Int) := tab (jR n) (jC n) (jF (allW n) (allW n).length)
theorem j_ok : ∀ n, n < 5 → ∀ m, m ∈ allW n → fInv m < jR n ∧ fMin m < jC n ∧ cN m 5 = fMin m ∧ cN m 0 + cN m 5 = fInv m := by decide +kernel
theorem j_size : ∀ n, n < 5 → n = 0 ∨ (jR n = n * (n - 1) / 2 + 1 ∧ jR n ≤ 100 ∧ jC n ≤ 100 ∧ 1 ≤ jC n) := by decide +kernel
theorem joint_small {n : Int} (h : 1 ≤ n ∧ n ≤ 4) : Small (joint n.toNat) := by
  have hs := (j_size n.toNat (by omega)).resolve_left (by omega)
  refine ⟨by unfold joint; rw [tab_len]; omega, fun i hi => ?_⟩
  unfold joint at hi ⊢
  rw [tab_len] at hi
  rw [tab_row hi]
  omega
end Go.Proofs.YtmkldodkpijfjaaDoor

namespace Go.Proofs.YtmkldodkpijfjaaDoor
open Go.RowKit

theorem OwnP.headAt {w : World} {B n k : Nat} {v : Value} {m : List (List Int)} {vs : List Value} (h : OwnP w B v n m k vs) (hn : 1 ≤ n) : ∃ g c, v = .slice (some ⟨g, 0, none⟩) n c ∧ B ≤ g ∧ g < w.heap.size := by
  rcases h.top.2 with ⟨h0, h1⟩ | ⟨g, cap, cur, hv, hg, hh, _⟩
  · omega
  · exact ⟨g, cap, hv, hg, lt_of_block hh⟩
theorem j_num : ∀ n : Nat, n < 5 → n = 0 ∨ ((n : Int) * ((n : Int) - 1) = ((n * (n - 1) : Nat) : Int) ∧ Int.tdiv ((n * (n - 1) : Nat) : Int) 2 = ((n * (n - 1) / 2 : Nat) : Int) ∧ n * (n - 1) ≤ 100) := by decide +kernel

set_option maxRecDepth 100000 in
set_option maxHeartbeats 3200000 in
theorem specJointTable_any (n : Int) (w : World) (hz : -9223372036854775808 ≤ n ∧ n ≤ 9223372036854775807) :
    Calls Tryd.prog 17 #[.int .i64 n] w fun e w' => MRes (1 ≤ n ∧ n ≤ 4) (joint n.toNat) w' w.heap.size e ∧ Below w.heap.size w w' := by
  by_cases h : 1 ≤ n ∧ n ≤ 4
  · obtain ⟨N, rfl⟩ : ∃ N : Nat, n = (N : Int) := ⟨n.toNat, by omega⟩
    have hN1 : 1 ≤ N := by omega
    have hN4 : N ≤ 4 := by omega
    obtain ⟨i0, hi, hz0, hz1, hz2⟩ := info_parts Tryd.info_int
    obtain ⟨j0, hj, hy0, hy1, hy2⟩ := info_parts Tryd.info_ints
    have HJ := Lib.hid (j_ok N (by omega))
    have HF := Lib.hid (f_ok N (by omega))
    obtain ⟨hs1, hs2, hs3, hs4⟩ := (j_size N (by omega)).resolve_left (by omega)
    obtain ⟨hn1, hn2, hn3⟩ := (j_num N (by omega)).resolve_left (by omega)
    have HC := Lib.hid (show (tabW fMin (allW N)).length = jC N from rfl)
    have HZ := Lib.hid hz
    obtain ⟨P, hP⟩ : ∃ P, P = N * (N - 1) := ⟨_, rfl⟩
    obtain ⟨Q, hQ⟩ : ∃ Q, Q = N * (N - 1) / 2 := ⟨_, rfl⟩
    rw [← hP] at hn1 hn2 hn3
    rw [hP, ← hQ, ← hP] at hn2
    rw [← hQ] at hs1
    have Hn := Lib.hid (And.intro hn1 hn2)
    rw [Int.toNat_natCast]
    clear hz hP hQ hn1 hn2
    go_enter Tryd.func17, Tryd.ntmps17
    go_wp2_with fail
    refine (weSide_any (N : Int) w).mono ?_
    rintro e w1 ⟨ha, rfl⟩
    obtain rfl := ha.is h
    have C2 := Lib.hid (specMinusTable_any (N : Int) w HZ.out)
    rw [Int.toNat_natCast] at C2
    clear ha h
    go_wp2_with fail
    refine C2.out.mono ?_
    rintro e w2 ⟨⟨v2, b2, r2, rfl, hv2, hr2⟩, hb2⟩
    have hr3 : b2 = true ∧ r2 = tabW fMin (allW N) := by
      rcases hr2 with ⟨_, h2, h3⟩ | ⟨h1, _, _⟩
      · exact ⟨h2, h3⟩
      · exact absurd ⟨by omega, by omega⟩ h1
    obtain ⟨rfl, rfl⟩ := hr3
    obtain ⟨ua, uc, huu, _, _, _⟩ := hv2.read
    rw [HC.out] at huu
    subst huu
    have Hb2 := Lib.hid hb2
    have HB2 := Lib.hid hb2.size
    obtain ⟨R, hR⟩ : ∃ R, R = jR N := ⟨_, rfl⟩
    obtain ⟨C, hC⟩ : ∃ C, C = jC N := ⟨_, rfl⟩
    have Hjt := Lib.hid (show joint N = tab R C (jF (allW N) (allW N).length) by rw [hR, hC]; rfl)
    rw [← hR] at hs1 hs2 HJ
    rw [← hC] at hs3 hs4 HJ ⊢
    clear hv2 hr2 hb2 C2 hR hC HC
    go_wp2
    go_loopw [6, 7] (fun out i wr => ∃ (k : Nat) (vs : List Value), k ≤ R ∧ i = .int .i64 k ∧ OwnP wr w.heap.size out k (tab R C fun _ _ => 0) k vs ∧ Below w.heap.size w wr) (fun _ i _ => R - (intOf i).toNat)
    case atStart => exact ⟨0, [], Nat.zero_le _, rfl, ⟨World.ownsRow_nil _ _ _ _, fun i hi => absurd hi (by omega), fun i j _ hj => absurd hj (by omega)⟩, Hb2.out⟩
    case round =>
      obtain ⟨k, vs, hk, rfl, hout, hbr⟩ := hrel
      have hn1 := Hn.out.1
      have hn2 := Hn.out.2
      have HBr := Lib.hid hbr.size
      have Hout := Lib.hid hout
      have Hbr := Lib.hid hbr
      clear hout hbr
      by_cases hlt : k < R
      · have hd : decide ((k : Int) ≤ (Q : Int)) = true := by simp; omega
        go_wp2_with (at_make; refine wpList_make_full _ rfl _ _ 22 rfl wr.heap.size 3 i0 (.int .i64 0) 1 Tryd.underlying22 hi hz0 hz1 _ _ _ _ C rfl rfl rfl rfl ?d1 ?d2 ?d3 ?_)
        case d1 => rw [hz2]; omega
        case d2 => unfold maxLen; omega
        case d3 => simp
        intro w2 hown2 hg2
        have hb2 : Below wr.heap.size wr w2 := (Below.refl _ _).grown hg2 (Nat.le_refl _) (fun _ h => by cases h)
        have hrow := OwnI.made hown2
        have hB2 := hb2.size
        have e1 : gr (tab R C fun _ _ => (0 : Int)) k = List.replicate C 0 := zero_row hlt
        have Hout2 := Lib.hid (Hout.out.below hb2)
        have hrow2 : OwnI w2 w.heap.size (.slice (some ⟨wr.heap.size, 0, none⟩) C C) (gr (tab R C fun _ _ => (0 : Int)) k) := by rw [e1]; exact hrow.base HBr.out
        have Hrow := Lib.hid hrow2
        have hfr := Lib.hid (Hout.out.fresh hrow (Nat.le_refl _))
        have Hb3 := Lib.hid (Hbr.out.trans (hb2.mono HBr.out))
        have hbase := HBr.out
        clear hown2 hg2 hb2 hrow e1 hrow2
        go_wp2_with (at_builtin; refine wpList_append_own _ rfl _ _ 28 rfl w.heap.size 22 j0 (.slice none 0 0) 1 24 Tryd.underlying28 hj hy0 hy1 hy2 rfl (by decide) _ _ _ rfl (World.ownsRow.alloc Hout2.out.top _) ⟨w2.heap.size, 0, none⟩ 1 1 [.slice (some ⟨wr.heap.size, 0, none⟩) C C] rfl rfl ?e1 ?e2 ?e3 ?e4 ?e5 ?_)
        case e1 => exact cell_one_new _ _ _
        case e2 => intro u hu; simp at hu; subst hu; rfl
        case e3 => unfold maxLen; omega
        case e4 => omega
        case e5 => simp; omega
        intro v' w3 hown' hgrow _
        have hput := Hout2.out.snoc (show w.heap.size ≤ w2.heap.size by omega) Hrow.out hfr.out hown' hgrow
        have Hput := Lib.hid hput
        clear hput hown' hgrow hn1 hn2
        go_wp2
        go_roundw
        case rel => exact ⟨k + 1, _, by omega, by go_num, Hput.out.1, Hb3.out.trans Hput.out.2⟩
        case measure => simp [intOf]; omega
      · obtain rfl : k = R := by omega
        have hd : decide ((k : Int) ≤ (Q : Int)) = false := by simp; omega
        have CA := Lib.hid (weAll_any N wr hN1 hN4)
        have hlen := allW_len N (by omega)
        have HA := Lib.hid (fun m hm => (allW_good N (by omega) m hm).resolve_left (by omega))
        obtain ⟨A, hA⟩ : ∃ A, A = allW N := ⟨_, rfl⟩
        rw [← hA] at CA hlen HA HJ HF Hjt
        obtain ⟨go, gc, rfl, hgo, hgo2⟩ := Hout.out.headAt (by omega)
        have Hgo := Lib.hid (And.intro hgo hgo2)
        clear hA hgo hgo2
        go_wp2_with fail
        refine CA.out.mono ?_
        rintro e w4 ⟨v4, ts, rfl, hv4, hb4⟩
        obtain ⟨ta, tc, rfl, ht1, ht2⟩ := hv4.head
        have Hr0 := Lib.hid (show ∀ i, i < k → ∀ g, (vs.getD i undef).ownBlock = some g → g < wr.heap.size from fun i hi g hg2 => ((Hout.out.rows i hi).lt g hg2).2)
        have Hv4 := Lib.hid hv4
        have Ht := Lib.hid (Hout.out.below hb4)
        have Hb4 := Lib.hid (Hbr.out.trans (hb4.mono HBr.out))
        clear hv4 hb4 CA Hout hn1 hn2 hd
        go_wp2
        go_loopw [36] (fun i wq => ∃ (t : Nat) (f : Nat → Nat → Int), t ≤ A.length ∧ i = .int .i64 t ∧ OwnP wq w.heap.size (.slice (some ⟨go, 0, none⟩) k gc) k (tab k C f) k vs ∧ (∀ p q, p < k → q < C → f p q = jF A t p q) ∧ OwnRL wq wr.heap.size (.slice ta A.length tc) A ts ∧ Below w.heap.size w wq) (fun i _ => A.length - (intOf i).toNat)
        case atStart => exact ⟨0, _, Nat.zero_le _, rfl, Ht.out, fun _ _ _ _ => rfl, Hv4.out, Hb4.out⟩
        case round =>
          rename World => wq
          obtain ⟨t, f, htt, rfl, hown, heq, hlist, hbq⟩ := hrel
          have Hown := Lib.hid hown
          have Heq := Lib.hid heq
          have Hlist := Lib.hid hlist
          have Hbq := Lib.hid hbq
          have HBq := Lib.hid hbq.size
          clear hown heq hlist hbq Ht Hv4
          by_cases hlt2 : t < A.length
          · obtain ⟨b1, o1, r1, d1, e1, hc1, hm1, _, _⟩ := Hlist.out.at hlt2
            obtain ⟨hml, hgd⟩ := HA.out _ (gt_mem hlt2)
            obtain ⟨j1, j2, _, _⟩ := HJ.out _ (gt_mem hlt2)
            obtain ⟨⟨f1, f2⟩, f3, f4⟩ := HF.out _ (gt_mem hlt2)
            have CI := Lib.hid (fun wx (hx : Below wq.heap.size wq wx) => weInversions_any r1 d1 (gt A t) wx hgd (hm1.below hx))
            have CM := Lib.hid (fun wx (hx : Below wq.heap.size wq wx) => sgMinus_any r1 d1 (gt A t) wx hgd.1 (hm1.below hx))
            have hbd := jF_bd A t (fInv (gt A t)) (fMin (gt A t))
            have HS := Lib.hid (fun p k => (show jF A (t + 1) p k = if p = fInv (gt A t) ∧ k = fMin (gt A t) then jF A t (fInv (gt A t)) (fMin (gt A t)) + 1 else jF A t p k from jF_step A t p k))
            have hfv := Heq.out _ _ j1 j2
            rw [f3] at CI
            rw [f1] at CM
            rw [hml] at hc1 CI CM
            subst e1
            obtain ⟨M, hM⟩ : ∃ M, M = gt A t := ⟨_, rfl⟩
            rw [← hM] at j1 j2 CI CM hbd HS hfv f2 f4
            obtain ⟨p, hp⟩ : ∃ p, p = fInv M := ⟨_, rfl⟩
            obtain ⟨q, hq⟩ : ∃ q, q = fMin M := ⟨_, rfl⟩
            rw [← hp] at j1 hbd HS hfv CI f4
            rw [← hq] at j2 hbd HS hfv CM f2
            obtain ⟨y, hy⟩ : ∃ y, y = jF A t p q := ⟨_, rfl⟩
            rw [← hy] at hbd HS hfv
            obtain ⟨g, cap, hvs, hd2, hf2, hg, _⟩ := Hown.out.at2 j1 j2
            have hd := Hown.out.cellAt p j1
            rw [hvs] at hd
            rw [hfv] at hd2
            have hfacts : ∀ w'', Below wq.heap.size wq w'' → w''.cell? ⟨go, p, none⟩ = some (.slice (some ⟨g, 0, none⟩) C cap) ∧ w''.cell? ⟨g, q, none⟩ = some (.int .i64 y) ∧ w''.frozen? ⟨g, q, none⟩ = false := fun w'' hb => by
              obtain ⟨g', cap', hvs', _, hf', _, _⟩ := (Hown.out.below hb).at2 j1 j2
              rw [hvs] at hvs'
              cases hvs'
              exact ⟨cell_below hd hb, cell_below hd2 hb, hf'⟩
            have hst : ∀ w'', Below wq.heap.size wq w'' → OwnP (w''.setCell ⟨g, q, none⟩ (.int .i64 (y + 1))) w.heap.size (.slice (some ⟨go, 0, none⟩) k gc) k (tab k C fun a b => if a = p ∧ b = q then y + 1 else f a b) k vs := fun w'' hb => by
              obtain ⟨g', cap', hvs', _, _, _, hst'⟩ := (Hown.out.below hb).at2 j1 j2
              rw [hvs] at hvs'
              cases hvs'
              exact hst' _
            have hgl : g < wr.heap.size := by
              have h := Hr0.out p j1
              rw [hvs] at h
              exact h g rfl
            have hls : ∀ w'', Below wq.heap.size wq w'' → OwnRL (w''.setCell ⟨g, q, none⟩ (.int .i64 (y + 1))) wr.heap.size (.slice (some ⟨b1, o1, none⟩) A.length tc) A ts := fun w'' hb => by
              have HL := Hlist.out.below hb
              exact ⟨Go.ownsRow_setCell_other (a := ⟨g, q, none⟩) HL.top (fun e => by have := (World.ownsRow.lt HL.top g e).1; omega) _, fun i hi => by
                obtain ⟨us, hu⟩ := HL.each i hi
                exact ⟨us, ⟨Go.ownsRow_setCell_other (a := ⟨g, q, none⟩) hu.top (fun e => by have := (World.ownsRow.lt hu.top g e).1; omega) _, fun j hj => Go.ownsRow_setCell_other (a := ⟨g, q, none⟩) (hu.rows j hj) (fun e => by have := (OwnI.lt (hu.rows j hj) g e).1; omega) _⟩⟩⟩
            have Hfacts := Lib.hid hfacts
            have Hst := Lib.hid hst
            have Hls := Lib.hid hls
            have Hg := Lib.hid hg
            clear hm1 hgd hml hM hp hq hfv hy f1 f3 hvs hd hd2 hf2 hg hfacts hst hls hgl Hlist Hown
            go_wp2
            go_region_with (first
              | (go_at_call 41; refine (CI.out _ ?_).mono ?_; exact below_drewN (Below.refl _ _) 1; rintro e w5 ⟨rfl, hb5⟩; obtain ⟨q0, q1, q2⟩ := Hfacts.out w5 ((below_drewN (Below.refl _ _) 1).trans hb5); have HB5 := Lib.hid ((below_drewN (Below.refl wq.heap.size wq) 1).trans hb5); clear hb5)
              | (go_at_call 38; refine (CM.out _ ?_).mono ?_; (first | exact HB5.out | exact below_drewN (Below.refl _ _) 1); rintro e w6 ⟨rfl, rfl⟩))
            all_goals
              have HSn := Lib.hid (Hst.out _ HB5.out)
              have HLn := Lib.hid (Hls.out _ HB5.out)
              have HBn := Lib.hid ((Hbq.out.trans (HB5.out.mono HBq.out)).setCell (p := ⟨g, q, none⟩) Hg.out (.int .i64 (y + 1)))
              clear q0 q1 q2 hc1 CI CM Hfacts Hst Hls
              go_wp2
              go_roundw
              case rel =>
                refine ⟨t + 1, _, by omega, by go_num, HSn.out, fun a b ha hb => ?_, HLn.out, HBn.out⟩
                rw [HS.out]
                by_cases e : a = p ∧ b = q
                · rw [if_pos e, if_pos e]
                · rw [if_neg e, if_neg e]; exact Heq.out a b ha hb
              case measure => simp [intOf]; omega
          · obtain rfl : t = A.length := by omega
            have hfin : OwnM wq w.heap.size (.slice (some ⟨go, 0, none⟩) k gc) (joint N) := by
              have e : joint N = tab k C f := by
                rw [Hjt.out]
                exact eq_tab (tab_len _ _ _) (fun i hi => tab_row hi) (fun i j hi hj => by rw [gi_tab hi hj, ← Heq.out i j hi hj])
              exact ⟨vs, by rw [e, tab_len]; exact Hown.out⟩
            have Hfin := Lib.hid hfin
            clear hfin
            go_wp2
            go_ret2
            exact ⟨MRes.yes ⟨by omega, by omega⟩ (by have hf := Hfin.out; rw [hs1] at hf; exact hf), Hbq.out⟩
  · have H := Lib.hid h
    clear h
    go_enter Tryd.func17, Tryd.ntmps17
    go_wp2_with fail
    refine (weSide_any n w).mono ?_
    rintro e w1 ⟨ha, rfl⟩
    obtain rfl := ha.isnt H.out
    clear ha
    go_wp2
    go_ret2
    exact ⟨MRes.no H.out, Below.refl _ _⟩
end Go.Proofs.YtmkldodkpijfjaaDoor

namespace Go.Proofs.YtmkldodkpijfjaaDoor
open Go.RowKit

/-- rows of columns -/
def colsOk (t : List (List Int)) : Prop := 1 ≤ t.length ∧ t.length ≤ 6 ∧ ∀ i, i < t.length → (gr t i).length ≤ 6 ∧ ∀ k, k < (gr t i).length → 0 ≤ gi (gr t i) k ∧ gi (gr t i) k < t.length
theorem fullTri.cols {t : List (List Int)} (h : fullTri t) : colsOk t := ⟨h.1.1, h.1.2.1, fun i hi => ⟨by have := (h.1.2.2 i hi).1; have := h.1.2.1; omega, fun k hk => full_lt h hi hk⟩⟩

/-- the numbers behind k rows -/
def soF (t : List (List Int)) (k a b : Nat) : Int := (if a < k then occ (gr t a) b (gr t a).length else 0) - (if 0 < a ∧ a ≤ k then occ (gr t (a - 1)) b (gr t (a - 1)).length else 0)
theorem soF_zero (t : List (List Int)) (a b : Nat) : soF t 0 a b = 0 := by
  unfold soF
  rw [if_neg (by omega), if_neg (by omega)]
  rfl
theorem soF_full {t : List (List Int)} {a : Nat} (b : Nat) (ha : a < t.length) : soF t t.length a b = signAt t a b := by
  unfold soF signAt
  rw [if_pos ha]
  by_cases h : 0 < a
  · rw [if_pos ⟨h, by omega⟩, if_pos h]
  · rw [if_neg (by omega), if_neg h]
def soG (t : List (List Int)) (k u a b : Nat) : Int := soF t k a b + (if a = k then occ (gr t k) b u else 0) - (if a = k + 1 then occ (gr t k) b u else 0)
theorem soG_zero (t : List (List Int)) (k a b : Nat) : soG t k 0 a b = soF t k a b := by unfold soG; simp [occ]
theorem soG_full (t : List (List Int)) (k a b : Nat) : soG t k (gr t k).length a b = soF t (k + 1) a b := by
  unfold soG soF
  by_cases h1 : a = k
  · subst h1
    rw [if_neg (show ¬ a < a by omega), if_pos rfl, if_neg (show ¬ a = a + 1 by omega), if_pos (show a < a + 1 by omega)]
    by_cases h0 : 0 < a
    · rw [if_pos ⟨h0, by omega⟩, if_pos ⟨h0, by omega⟩]; omega
    · rw [if_neg (by omega), if_neg (by omega)]; omega
  · rw [if_neg h1]
    by_cases h2 : a = k + 1
    · subst h2
      rw [if_neg (by omega), if_neg (by omega), if_pos rfl, if_neg (by omega), if_pos (by omega)]
      rw [show k + 1 - 1 = k from rfl]
      omega
    · rw [if_neg h2]
      have e1 : (a < k + 1) = (a < k) := propext (by omega)
      have e2 : (0 < a ∧ a ≤ k + 1) = (0 < a ∧ a ≤ k) := propext (by omega)
      simp only [e1, e2]
      omega
theorem soG_bd {t : List (List Int)} (h : colsOk t) {k u a b : Nat} (hk : k < t.length) (hu : u ≤ (gr t k).length) (ha : a < t.length) : -100 ≤ soG t k u a b ∧ soG t k u a b ≤ 100 := by
  have h1 := occ_bd (gr t a) b (gr t a).length
  have h2 := occ_bd (gr t (a - 1)) b (gr t (a - 1)).length
  have h3 := occ_bd (gr t k) b u
  have h4 := (h.2.2 a ha).1
  have h5 := (h.2.2 (a - 1) (by omega)).1
  have h6 := (h.2.2 k hk).1
  unfold soG soF
  repeat' split
  all_goals omega
theorem soG_step {t : List (List Int)} (k u a b J : Nat) (hJ : gi (gr t k) u = (J : Int)) : soG t k (u + 1) a b = if a = k ∧ b = J then soG t k u a b + 1 else if a = k + 1 ∧ b = J then soG t k u a b - 1 else soG t k u a b := by
  unfold soG
  simp only [occ, hJ]
  by_cases hb : b = J
  · subst hb
    simp only [if_true, and_true]
    by_cases h1 : a = k
    · subst h1; simp; omega
    · by_cases h2 : a = k + 1
      · subst h2; simp; omega
      · simp [h1, h2]
  · have hb2 : ¬ ((J : Int) = (b : Int)) := fun e => hb (by omega)
    simp [hb, hb2]

def fromTab (t : List (List Int)) : List (List Int) := tab t.length t.length (signAt t)
theorem fromTab_len (t : List (List Int)) : (fromTab t).length = t.length := tab_len _ _ _
theorem fromTab_small {t : List (List Int)} (h : t.length ≤ 6) : Small (fromTab t) := ⟨by rw [fromTab_len]; omega, fun i hi => by rw [fromTab_len] at hi; unfold fromTab; rw [tab_row hi]; omega⟩

set_option maxRecDepth 100000 in
set_option maxHeartbeats 1600000 in
theorem signsOf_any (ao : Option Addr) (c : Nat) (m : List (List Int)) (w : World) (hco : colsOk m) (hm : MatAt w ao m) :
    Calls Tryd.prog 69 #[.slice ao m.length c] w fun e w' => ∃ v, e = .returned v ∧ OwnM w' w.heap.size v (fromTab m) ∧ Below w.heap.size w w' := by
  have hn := hco.2.1
  have hmx : m.length ≤ 9223372036854775807 := by omega
  have Hco := Lib.hid hco
  have Hm := Lib.hid hm
  clear hco hm
  go_enter Tryd.func69, Tryd.ntmps69
  go_wp2_with fail
  refine (newGrid_any m.length w (by omega)).mono ?_
  rintro e w1 ⟨vs, rfl, hv, hb⟩
  have Hv := Lib.hid hv
  have Hb := Lib.hid hb
  clear hv hb
  go_wp2
  go_loopw [13] (fun i wr => ∃ (k : Nat) (f : Nat → Nat → Int), k ≤ m.length ∧ i = .int .i64 k ∧ OwnP wr w.heap.size (.slice (some ⟨w.heap.size, 0, none⟩) m.length m.length) m.length (tab m.length m.length f) m.length vs ∧
      (∀ a b, a < m.length → b < m.length → f a b = soF m k a b) ∧ Below w.heap.size w wr) (fun i _ => m.length - (intOf i).toNat)
  case atStart => exact ⟨0, _, Nat.zero_le _, rfl, Hv.out, fun a b _ _ => (soF_zero m a b).symm, Hb.out⟩
  case round =>
    obtain ⟨k, f, hk, rfl, hown, heq, hbr⟩ := hrel
    obtain ⟨wo, rfl⟩ : ∃ wo : World, wo = wr := ⟨_, rfl⟩
    clear Hv Hb
    by_cases hlt : k < m.length
    · obtain ⟨b1, o1, r1, d1, e0, hc0, hx1, _, _⟩ := Hm.out k hlt
      have hr6 := (Hco.out.2.2 k hlt).1
      have hrx : (gr m k).length ≤ 9223372036854775807 := by omega
      have hc1 := cell_below hc0 hbr
      subst e0
      have Hrow := Lib.hid hx1
      have Hown := Lib.hid hown
      have Heq := Lib.hid heq
      have Hbr := Lib.hid hbr
      clear hown heq hbr hx1 hc0
      go_wp2
      go_loopw [20] (fun i wr => ∃ (u : Nat) (f : Nat → Nat → Int), u ≤ (gr m k).length ∧ i = .int .i64 u ∧ OwnP wr w.heap.size (.slice (some ⟨w.heap.size, 0, none⟩) m.length m.length) m.length (tab m.length m.length f) m.length vs ∧
          (∀ a b, a < m.length → b < m.length → f a b = soG m k u a b) ∧ Below w.heap.size w wr) (fun i _ => (gr m k).length - (intOf i).toNat)
      case atStart => exact ⟨0, f, Nat.zero_le _, rfl, Hown.out, fun a b ha hb => by rw [Heq.out a b ha hb, soG_zero], Hbr.out⟩
      case round =>
        obtain ⟨u, f, hu, rfl, hown, heq, hbi⟩ := hrel
        clear Hown Heq
        by_cases hul : u < (gr m k).length
        · obtain ⟨b2, o2, e2, hc2⟩ := Hrow.out.below hbi u hul
          have hcol := (Hco.out.2.2 k hlt).2 u hul
          obtain ⟨J, hJ⟩ : ∃ J : Nat, gi (gr m k) u = (J : Int) := ⟨(gi (gr m k) u).toNat, by omega⟩
          rw [hJ] at hc2 hcol
          have hJn : J < m.length := by omega
          have HJ := Lib.hid hJ
          clear hcol hJ
          have hd := hown.cellAt k hlt
          obtain ⟨g, cap, hvs, hd2, hf2, hg, hst⟩ := hown.at2 hlt hJn
          rw [hvs] at hd
          have hfb := soG_bd Hco.out (b := J) hlt hu hlt
          rw [← heq k J hlt hJn] at hfb
          have hst1 := hst (f k J + 1)
          have hbs := hbi.setCell (p := ⟨g, J, none⟩) hg (.int .i64 (f k J + 1))
          by_cases hk1 : k + 1 < m.length
          · have hd' := hst1.cellAt (k + 1) hk1
            obtain ⟨g', cap', hvs', hd2', hf2', hg', hst'⟩ := hst1.at2 hk1 hJn
            rw [hvs'] at hd'
            rw [if_neg (by omega)] at hd2'
            have hfb' := soG_bd Hco.out (b := J) hlt hu hk1
            rw [← heq (k + 1) J hk1 hJn] at hfb'
            have Hst := Lib.hid (hst' (f (k + 1) J - 1))
            have Hbs := Lib.hid (hbs.setCell (p := ⟨g', J, none⟩) hg' (.int .i64 (f (k + 1) J - 1)))
            have Heq := Lib.hid heq
            subst e2
            clear hown heq hbi hvs hst hg hst1 hbs hvs' hst' hg'
            go_wp2
            go_roundw
            case rel =>
              refine ⟨u + 1, _, by omega, by go_num, Hst.out, fun a b ha hb => ?_, Hbs.out⟩
              rw [soG_step k u a b J HJ.out]
              by_cases h2 : a = k + 1 ∧ b = J
              · obtain ⟨rfl, rfl⟩ := h2
                rw [if_pos ⟨rfl, rfl⟩, if_neg (by omega), if_pos ⟨rfl, rfl⟩, Heq.out _ _ ha hb]
              · rw [if_neg h2]
                by_cases h1 : a = k ∧ b = J
                · obtain ⟨rfl, rfl⟩ := h1
                  rw [if_pos ⟨rfl, rfl⟩, if_pos ⟨rfl, rfl⟩, Heq.out _ _ ha hb]
                · rw [if_neg h1, if_neg h1, if_neg h2, Heq.out _ _ ha hb]
            case measure => simp [intOf]; omega
          · have Hst := Lib.hid hst1
            have Hbs := Lib.hid hbs
            have Heq := Lib.hid heq
            have hk2 : ¬ ((k : Int) + 1 < (m.length : Int)) := by omega
            subst e2
            clear hown heq hbi hvs hst hg hst1 hbs
            go_wp2
            go_roundw
            case rel =>
              refine ⟨u + 1, _, by omega, by go_num, Hst.out, fun a b ha hb => ?_, Hbs.out⟩
              rw [soG_step k u a b J HJ.out]
              by_cases h1 : a = k ∧ b = J
              · obtain ⟨rfl, rfl⟩ := h1
                rw [if_pos ⟨rfl, rfl⟩, if_pos ⟨rfl, rfl⟩, Heq.out _ _ ha hb]
              · rw [if_neg h1, if_neg h1, if_neg (fun h => by omega), Heq.out _ _ ha hb]
            case measure => simp [intOf]; omega
        · obtain rfl : u = (gr m k).length := by omega
          have Hown := Lib.hid hown
          have Heq := Lib.hid heq
          have Hbi := Lib.hid hbi
          clear hown heq hbi
          go_wp2
          go_roundw
          case rel => exact ⟨k + 1, f, by omega, by go_num, Hown.out, fun a b ha hb => by rw [Heq.out a b ha hb, soG_full], Hbi.out⟩
          case measure => simp [intOf]; omega
    · obtain rfl : k = m.length := by omega
      go_wp2
      go_ret
      refine ⟨_, rfl, ⟨vs, ?_⟩, hbr⟩
      rw [fromTab_len]
      have e : fromTab m = tab m.length m.length f := eq_tab (fromTab_len m) (fun i hi => tab_row hi) (fun i j hi hj => by unfold fromTab; rw [gi_tab hi hj, heq i j hi hj, soF_full j hi])
      rw [e]
      exact hown

/-- the model's numbers behind k rows, and within one -/
def tfF (t : List (List Int)) (k a b : Nat) : Int := if a < k then signAt t a b else 0
def tfG (t : List (List Int)) (k u a b : Nat) : Int := if a = k then occ (gr t k) b u else tfF t k a b
def tfH (t : List (List Int)) (k u a b : Nat) : Int := if a = k then occ (gr t k) b (gr t k).length - occ (gr t (k - 1)) b u else tfF t k a b
theorem tfG_zero (t : List (List Int)) (k a b : Nat) : tfG t k 0 a b = tfF t k a b := by
  unfold tfG tfF
  split
  · next h => subst h; rw [if_neg (by omega)]; rfl
  · rfl
theorem tfH_zero (t : List (List Int)) (k a b : Nat) : tfH t k 0 a b = tfG t k (gr t k).length a b := by
  unfold tfG tfH
  split
  · simp [occ]
  · rfl
theorem tfH_full (t : List (List Int)) {k : Nat} (a b : Nat) (hk : 0 < k) : tfH t k (gr t (k - 1)).length a b = tfF t (k + 1) a b := by
  unfold tfH tfF signAt
  by_cases h : a = k
  · subst h; rw [if_pos rfl, if_pos (by omega), if_pos hk]
  · rw [if_neg h]
    have e : (a < k + 1) = (a < k) := propext (by omega)
    simp only [e]
theorem tfG_full (t : List (List Int)) (a b : Nat) : tfG t 0 (gr t 0).length a b = tfF t 1 a b := by
  unfold tfG tfF signAt
  by_cases h : a = 0
  · subst h; simp
  · rw [if_neg h, if_neg (by omega), if_neg (by omega)]
theorem tfG_step {t : List (List Int)} (k u a b J : Nat) (hJ : gi (gr t k) u = (J : Int)) : tfG t k (u + 1) a b = if a = k ∧ b = J then tfG t k u a b + 1 else tfG t k u a b := by
  unfold tfG
  simp only [occ, hJ]
  by_cases hb : b = J
  · subst hb; by_cases h1 : a = k <;> simp [h1]
  · have hb2 : ¬ ((J : Int) = (b : Int)) := fun e => hb (by omega)
    simp [hb, hb2]
theorem tfH_step {t : List (List Int)} (k u a b J : Nat) (hJ : gi (gr t (k - 1)) u = (J : Int)) : tfH t k (u + 1) a b = if a = k ∧ b = J then tfH t k u a b - 1 else tfH t k u a b := by
  unfold tfH
  simp only [occ, hJ]
  by_cases hb : b = J
  · subst hb
    by_cases h1 : a = k
    · simp [h1]; omega
    · simp [h1]
  · have hb2 : ¬ ((J : Int) = (b : Int)) := fun e => hb (by omega)
    simp [hb, hb2]
theorem tf_bd {t : List (List Int)} (h : colsOk t) {k u b : Nat} (hk : k < t.length) (hu : u ≤ 6) : (-100 ≤ tfG t k u k b ∧ tfG t k u k b ≤ 100) ∧ -100 ≤ tfH t k u k b ∧ tfH t k u k b ≤ 100 := by
  have h1 := occ_bd (gr t k) b (gr t k).length
  have h2 := occ_bd (gr t (k - 1)) b u
  have h3 := occ_bd (gr t k) b u
  have h4 := (h.2.2 k hk).1
  unfold tfG tfH
  simp only [if_true]
  omega

end Go.Proofs.YtmkldodkpijfjaaDoor

namespace Go.Proofs.YtmkldodkpijfjaaDoor
open Go.RowKit

/-- all triangles whose last row is xs, of d + 1 numbers -/
def trisD : Nat → List Int → List (List (List Int))
  | 0, xs => [[xs]]
  | d + 1, xs => (above xs).flatMap fun ys => (trisD d ys).map fun t => t ++ [xs]
def trisP (d : Nat) (xs : List Int) (k : Nat) : List (List (List Int)) := ((above xs).take k).flatMap fun ys => (trisD d ys).map fun t => t ++ [xs]
def trisQ (d : Nat) (xs : List Int) (k t : Nat) : List (List (List Int)) := trisP d xs k ++ ((trisD d (gr (above xs) k)).take t).map fun t => t ++ [xs]
theorem trisP_zero (d : Nat) (xs : List Int) : trisP d xs 0 = [] := by simp [trisP]
theorem trisQ_zero (d : Nat) (xs : List Int) (k : Nat) : trisQ d xs k 0 = trisP d xs k := by simp [trisQ]
theorem trisQ_step {d : Nat} {xs : List Int} {k t : Nat} (h : t < (trisD d (gr (above xs) k)).length) : trisQ d xs k (t + 1) = trisQ d xs k t ++ [gt (trisD d (gr (above xs) k)) t ++ [xs]] := by
  unfold trisQ
  rw [List.take_add_one, List.map_append, List.getElem?_eq_getElem h, gt_lt h]
  simp
theorem trisQ_end {d : Nat} {xs : List Int} {k : Nat} (h : k < (above xs).length) : trisQ d xs k (trisD d (gr (above xs) k)).length = trisP d xs (k + 1) := by
  unfold trisQ trisP
  rw [List.take_length, List.take_add_one (i := k), List.flatMap_append, List.getElem?_eq_getElem h, gr_lt h]
  simp
theorem trisP_end (d : Nat) (xs : List Int) : trisP d xs (above xs).length = trisD (d + 1) xs := by
  unfold trisP
  rw [List.take_length]
  rfl
def trB : Nat → Nat
  | 0 => 1
  | d + 1 => 16 ^ (d + 1) * trB d
theorem trisD_le : ∀ (d : Nat) (xs : List Int), Rise xs → xs.length = d + 1 → (trisD d xs).length ≤ trB d
  | 0, xs, _, _ => by simp [trisD, trB]
  | d + 1, xs, hr, hl => by
    unfold trisD
    refine Nat.le_trans (flatL_len _ (trB d) _ fun ys hy => ?_) ?_
    · rw [List.length_map]
      obtain ⟨h1, h2⟩ := above_mem hr hy
      exact trisD_le d ys h1 (by omega)
    · rw [trB]
      refine Nat.mul_le_mul_right _ ?_
      have := above_len hr
      rw [hl] at this
      exact this
theorem trisQ_le {d : Nat} {xs : List Int} (hr : Rise xs) (hl : xs.length = d + 2) {k t : Nat} (hk : k < (above xs).length) : (trisQ d xs k t).length ≤ trB (d + 1) := by
  have h1 : (trisQ d xs k t).length ≤ (trisP d xs (k + 1)).length := by
    rw [← trisQ_end hk]
    unfold trisQ
    rw [List.length_append, List.length_append, List.length_map, List.length_map, List.length_take, List.take_length]
    omega
  refine Nat.le_trans h1 ?_
  have h2 : (trisP d xs (k + 1)).length ≤ ((above xs).take (k + 1)).length * trB d := flatL_len _ (trB d) _ fun ys hy => by
    rw [List.length_map]
    obtain ⟨h1, h2⟩ := above_mem hr (List.mem_of_mem_take hy)
    exact trisD_le d ys h1 (by omega)
  refine Nat.le_trans h2 ?_
  rw [trB]
  refine Nat.mul_le_mul_right _ ?_
  have h3 := above_len hr
  rw [hl] at h3
  rw [List.length_take]
  exact Nat.le_trans (Nat.min_le_right _ _) h3
theorem trB_le : ∀ d, d < 5 → trB d ≤ 1099511627776 := by decide +kernel
theorem trisD_len : ∀ (d : Nat) (xs : List Int), Rise xs → xs.length = d + 1 → ∀ t, t ∈ trisD d xs → t.length = d + 1
  | 0, xs, _, _, t, h => by simp [trisD] at h; rw [h]; rfl
  | d + 1, xs, hr, hl, t, h => by
    unfold trisD at h
    rw [List.mem_flatMap] at h
    obtain ⟨ys, hy, h⟩ := h
    rw [List.mem_map] at h
    obtain ⟨t', ht', rfl⟩ := h
    obtain ⟨h1, h2⟩ := above_mem hr hy
    rw [List.length_append, trisD_len d ys h1 (by omega) t' ht']
    rfl

/-- the last row of triangles of sign matrices -/
def fullR (n : Nat) : List Int := (List.range n).map fun j : Nat => (j : Int)
theorem fullR_len (n : Nat) : (fullR n).length = n := by simp [fullR]
theorem fullR_ok : ∀ n, n < 7 → mask (fullR n) = 2 ^ n - 1 := by decide +kernel
theorem fullR_up (n : Nat) : Up (fullR n) := by
  unfold fullR
  rw [up_iff]
  intro k hk _
  rw [List.length_map, List.length_range] at hk
  have h1 : gi ((List.range n).map fun j : Nat => (j : Int)) k = (k : Int) := gi_row hk
  have h2 : gi ((List.range n).map fun j : Nat => (j : Int)) (k - 1) = ((k - 1 : Nat) : Int) := gi_row (by omega)
  rw [h1, h2]
  omega
theorem fullR_rise {n : Nat} (h : n ≤ 16) : Rise (fullR n) := ⟨fullR_up n, fun x hx => by
  simp only [fullR, List.mem_map, List.mem_range] at hx
  obtain ⟨j, hj, rfl⟩ := hx
  omega⟩
instance (t : List (List Int)) : Decidable (colsOk t) := by unfold colsOk; infer_instance
theorem tris_cols : ∀ n, n < 6 → ∀ t, t ∈ trisD (n - 1) (fullR n) → n = 0 ∨ (t.length = n ∧ colsOk t) := by decide +kernel
/-- all sign matrices with n rows, as the program makes them of triangles -/
def allI (n : Nat) : List (List (List Int)) := (trisD (n - 1) (fullR n)).map fun t => (fromTab t).reverse
theorem allI_W : ∀ n, n < 5 → n = 0 ∨ allI n = allW n := by decide +kernel
end Go.Proofs.YtmkldodkpijfjaaDoor

