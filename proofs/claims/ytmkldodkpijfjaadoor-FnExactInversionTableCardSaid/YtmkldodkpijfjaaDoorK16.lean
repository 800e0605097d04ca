/- Parts of proofs: contracts and plain facts. Conditions: as each says. -/
import Derived.Test.YtmkldodkpijfjaaDoorK15
namespace Go.Proofs.YtmkldodkpijfjaaDoor
open Go.RowKit

def in5Minus (n : Int) : Prop := 1 ≤ n ∧ n ≤ 5
def listMinus (n : Nat) : List Int := trimF (countsF nextMinus n)
theorem listMinus_len {n : Int} (h : in5Minus n) : (listMinus n.toNat).length ≤ 1048576 := by
  unfold listMinus trimF
  rw [List.length_take]
  have : (countsF nextMinus n.toNat).length = n.toNat * n.toNat + 1 := by unfold countsF; rw [spreadF_len, List.length_replicate]
  unfold in5Minus at h
  have := Nat.mul_le_mul (show n.toNat ≤ 5 by omega) (show n.toNat ≤ 5 by omega)
  omega
theorem Minus_facts {N : Nat} (h1 : 1 ≤ N) (h5 : N ≤ 5) : sameC lostSc nextMinus N ((N - 1) * (N - 1) / 4) = true ∧ limC lostSc N ((N - 1) * (N - 1) / 4) = true := by
  obtain ⟨a, b, c, d, e⟩ := lost_same
  obtain ⟨a', b', c', d', e'⟩ := lost_ok
  rcases (by omega : N = 1 ∨ N = 2 ∨ N = 3 ∨ N = 4 ∨ N = 5) with rfl | rfl | rfl | rfl | rfl
  · exact ⟨a, a'⟩
  · exact ⟨b, b'⟩
  · exact ⟨c, c'⟩
  · exact ⟨d, d'⟩
  · exact ⟨e, e'⟩

theorem mostMinus5_any (N : Nat) (w : World) (_ : 1 ≤ N) (_ : N ≤ 5) :
    Calls Tryd.prog 74 #[.int .i64 (N : Int)] w fun e w' => e = .returned (.int .i64 (((N - 1) * (N - 1) / 4 : Nat) : Int)) ∧ w = w' := by
  obtain rfl | rfl | rfl | rfl | rfl : N = 1 ∨ N = 2 ∨ N = 3 ∨ N = 4 ∨ N = 5 := by omega
  all_goals
    go_enter Tryd.func74, Tryd.ntmps74
    go_wp2
    go_ret
    exact ⟨rfl, rfl⟩
set_option maxRecDepth 100000 in
set_option maxHeartbeats 800000 in
theorem implCountByMinus_any (n : Int) (w : World) (_ : -9223372036854775808 ≤ n ∧ n ≤ 9223372036854775807) (hD : Dj w) :
    Calls Tryd.prog 40 #[.int .i64 n] w fun e w' => LRes (in5Minus n) (listMinus n.toNat) w' w.heap.size e ∧ Below w.heap.size w w' := by
  by_cases h1 : 1 ≤ n
  · by_cases h5 : n ≤ 5
    · obtain ⟨N, rfl⟩ : ∃ N : Nat, n = (N : Int) := ⟨n.toNat, by omega⟩
      obtain ⟨hs, hl⟩ := Minus_facts (N := N) (by omega) (by omega)
      have hlim := limC_lim hl
      obtain ⟨G, hG⟩ : ∃ G : Nat, G = (N - 1) * (N - 1) / 4 := ⟨_, rfl⟩
      rw [← hG] at hs hlim
      have hG10 : G ≤ 10 := by
        rw [hG]
        rcases (by omega : N = 1 ∨ N = 2 ∨ N = 3 ∨ N = 4 ∨ N = 5) with rfl | rfl | rfl | rfl | rfl <;> decide
      have hc := byScore_lostColumns lostSc lostColumns_any lost_small N G (by omega) (by omega) (by omega) hlim w hD
      have hsame : scoreL lostSc N (G + 1) = listMinus N := by
        unfold sameC at hs
        simp only [Bool.and_eq_true] at hs
        rw [scoreT_is]
        have := hs.2
        simp at this
        exact this.symm
      rw [hsame] at hc
      have Hc := Lib.hid hc
      have hd5 : decide ((5 : Int) < (N : Int)) = false := by simp; omega
      have hmost := mostMinus5_any N w (by omega) (by omega)
      rw [← hG] at hmost
      have Hmost := Lib.hid hmost
      clear hmost
      clear hc hD hs hl hlim hsame hG
      go_enter Tryd.func40, Tryd.ntmps40
      go_wp2_with fail
      refine Hmost.out.mono ?_
      rintro e w2 ⟨rfl, rfl⟩
      go_wp2_with fail
      refine Hc.out.mono ?_
      rintro e w1 ⟨v, rfl, hv, hb⟩
      have Hv := Lib.hid hv
      have Hb := Lib.hid hb
      clear hv hb
      go_wp2
      go_ret2
      exact ⟨LRes.yes ⟨h1, h5⟩ (by rw [Int.toNat_natCast]; exact Hv.out), Hb.out⟩
    · have hd5 : decide ((5 : Int) < n) = true := by simp; omega
      go_enter Tryd.func40, Tryd.ntmps40
      go_wp2
      go_ret2
      exact ⟨LRes.no fun h => by have := h.2; omega, Below.refl _ _⟩
  · go_enter Tryd.func40, Tryd.ntmps40
    go_wp2
    go_ret2
    exact ⟨LRes.no fun h => by have := h.1; omega, Below.refl _ _⟩
end Go.Proofs.YtmkldodkpijfjaaDoor

namespace Go.Proofs.YtmkldodkpijfjaaDoor
open Go.RowKit

end Go.Proofs.YtmkldodkpijfjaaDoor

namespace Go.Proofs.YtmkldodkpijfjaaDoor
open Go.RowKit

def in5Add (n : Int) : Prop := 1 ≤ n ∧ n ≤ 5
def listAdd (n : Nat) : List Int := trimF (countsF nextAdd n)
theorem listAdd_len {n : Int} (h : in5Add n) : (listAdd n.toNat).length ≤ 1048576 := by
  unfold listAdd trimF
  rw [List.length_take]
  have : (countsF nextAdd n.toNat).length = n.toNat * n.toNat + 1 := by unfold countsF; rw [spreadF_len, List.length_replicate]
  unfold in5Add at h
  have := Nat.mul_le_mul (show n.toNat ≤ 5 by omega) (show n.toNat ≤ 5 by omega)
  omega
theorem Add_facts {N : Nat} (h1 : 1 ≤ N) (h5 : N ≤ 5) : sameC movedSc nextAdd N (N * (N - 1) / 2) = true ∧ limC movedSc N (N * (N - 1) / 2) = true := by
  obtain ⟨a, b, c, d, e⟩ := moved_same
  obtain ⟨a', b', c', d', e'⟩ := moved_ok
  rcases (by omega : N = 1 ∨ N = 2 ∨ N = 3 ∨ N = 4 ∨ N = 5) with rfl | rfl | rfl | rfl | rfl
  · exact ⟨a, a'⟩
  · exact ⟨b, b'⟩
  · exact ⟨c, c'⟩
  · exact ⟨d, d'⟩
  · exact ⟨e, e'⟩

theorem mostInversions5_any (N : Nat) (w : World) (_ : 1 ≤ N) (_ : N ≤ 5) :
    Calls Tryd.prog 77 #[.int .i64 (N : Int)] w fun e w' => e = .returned (.int .i64 ((N * (N - 1) / 2 : Nat) : Int)) ∧ w = w' := by
  obtain rfl | rfl | rfl | rfl | rfl : N = 1 ∨ N = 2 ∨ N = 3 ∨ N = 4 ∨ N = 5 := by omega
  all_goals
    go_enter Tryd.func77, Tryd.ntmps77
    go_wp2
    go_ret
    exact ⟨rfl, rfl⟩
set_option maxRecDepth 100000 in
set_option maxHeartbeats 800000 in
theorem implCountByInversions_any (n : Int) (w : World) (_ : -9223372036854775808 ≤ n ∧ n ≤ 9223372036854775807) (hD : Dj w) :
    Calls Tryd.prog 42 #[.int .i64 n] w fun e w' => LRes (in5Add n) (listAdd n.toNat) w' w.heap.size e ∧ Below w.heap.size w w' := by
  by_cases h1 : 1 ≤ n
  · by_cases h5 : n ≤ 5
    · obtain ⟨N, rfl⟩ : ∃ N : Nat, n = (N : Int) := ⟨n.toNat, by omega⟩
      obtain ⟨hs, hl⟩ := Add_facts (N := N) (by omega) (by omega)
      have hlim := limC_lim hl
      obtain ⟨G, hG⟩ : ∃ G : Nat, G = N * (N - 1) / 2 := ⟨_, rfl⟩
      rw [← hG] at hs hlim
      have hG10 : G ≤ 10 := by
        rw [hG]
        rcases (by omega : N = 1 ∨ N = 2 ∨ N = 3 ∨ N = 4 ∨ N = 5) with rfl | rfl | rfl | rfl | rfl <;> decide
      have hc := byScore_movedNumbers movedSc movedNumbers_any moved_small N G (by omega) (by omega) (by omega) hlim w hD
      have hsame : scoreL movedSc N (G + 1) = listAdd N := by
        unfold sameC at hs
        simp only [Bool.and_eq_true] at hs
        rw [scoreT_is]
        have := hs.2
        simp at this
        exact this.symm
      rw [hsame] at hc
      have Hc := Lib.hid hc
      have hd5 : decide ((5 : Int) < (N : Int)) = false := by simp; omega
      have hmost := mostInversions5_any N w (by omega) (by omega)
      rw [← hG] at hmost
      have Hmost := Lib.hid hmost
      clear hmost
      clear hc hD hs hl hlim hsame hG
      go_enter Tryd.func42, Tryd.ntmps42
      go_wp2_with fail
      refine Hmost.out.mono ?_
      rintro e w2 ⟨rfl, rfl⟩
      go_wp2_with fail
      refine Hc.out.mono ?_
      rintro e w1 ⟨v, rfl, hv, hb⟩
      have Hv := Lib.hid hv
      have Hb := Lib.hid hb
      clear hv hb
      go_wp2
      go_ret2
      exact ⟨LRes.yes ⟨h1, h5⟩ (by rw [Int.toNat_natCast]; exact Hv.out), Hb.out⟩
    · have hd5 : decide ((5 : Int) < n) = true := by simp; omega
      go_enter Tryd.func42, Tryd.ntmps42
      go_wp2
      go_ret2
      exact ⟨LRes.no fun h => by have := h.2; omega, Below.refl _ _⟩
  · go_enter Tryd.func42, Tryd.ntmps42
    go_wp2
    go_ret2
    exact ⟨LRes.no fun h => by have := h.1; omega, Below.refl _ _⟩
end Go.Proofs.YtmkldodkpijfjaaDoor

namespace Go.Proofs.YtmkldodkpijfjaaDoor
open Go.RowKit

theorem listMinus_tab : ∀ n, 1 ≤ n → n < 5 → listMinus n = tabW fMin (allW n) := by
  have h : ∀ n, n < 5 → n = 0 ∨ listMinus n = tabW fMin (allW n) := by decide +kernel
  intro n h1 h2
  exact (h n h2).resolve_left (by omega)
theorem listAdd_tab : ∀ n, 1 ≤ n → n < 5 → listAdd n = tabW fInv (allW n) := by
  have h : ∀ n, n < 5 → n = 0 ∨ listAdd n = tabW fInv (allW n) := by decide +kernel
  intro n h1 h2
  exact (h n h2).resolve_left (by omega)

set_option maxRecDepth 100000 in
set_option maxHeartbeats 1600000 in
theorem implMinusTable_any (n : Int) (w : World) (hz : -9223372036854775808 ≤ n ∧ n ≤ 9223372036854775807) (hD : Dj w) :
    Calls Tryd.prog 11 #[.int .i64 n] w fun e w' => LRes (1 ≤ n ∧ n ≤ 4) (tabW fMin (allW n.toNat)) w' w.heap.size e ∧ Below w.heap.size w w' := by
  have HD := Lib.hid hD
  have HZ := Lib.hid hz
  clear hD hz
  go_enter Tryd.func11, Tryd.ntmps11
  go_wp2_with fail
  refine (canBeWeighted_any n w).mono ?_
  rintro e w1 ⟨ha, hb⟩
  have Hb := Lib.hid hb
  have HB := Lib.hid hb.size
  clear hb
  by_cases h : 1 ≤ n ∧ n ≤ 4
  · have H := Lib.hid h
    obtain rfl := ha.is h
    have hl := listMinus_tab n.toNat (by omega) (by omega)
    have HL := Lib.hid hl
    clear ha h hl
    go_wp2_with fail
    refine (implCountByMinus_any n w1 HZ.out (HD.out.next Hb.out)).mono ?_
    rintro e w2 ⟨⟨v, b, r, rfl, hv, hr⟩, hb2⟩
    have hr2 : b = true ∧ r = tabW fMin (allW n.toNat) := by
      rcases hr with ⟨_, h2, h3⟩ | ⟨h1, _, _⟩
      · exact ⟨h2, by rw [h3]; exact HL.out⟩
      · exact absurd (show in5Minus n by have := H.out; unfold in5Minus; omega) h1
    obtain ⟨rfl, rfl⟩ := hr2
    have Hv := Lib.hid (hv.base HB.out)
    have Hb2 := Lib.hid (Hb.out.trans (hb2.mono HB.out))
    clear hv hr hb2
    go_wp2
    go_ret2
    exact ⟨LRes.yes H.out Hv.out, Hb2.out⟩
  · have H := Lib.hid h
    obtain rfl := ha.isnt h
    clear ha h
    go_wp2
    go_ret2
    exact ⟨LRes.no H.out, Hb.out⟩

set_option maxRecDepth 100000 in
set_option maxHeartbeats 1600000 in
theorem implInversionTable_any (n : Int) (w : World) (hz : -9223372036854775808 ≤ n ∧ n ≤ 9223372036854775807) (hD : Dj w) :
    Calls Tryd.prog 16 #[.int .i64 n] w fun e w' => LRes (1 ≤ n ∧ n ≤ 4) (tabW fInv (allW n.toNat)) w' w.heap.size e ∧ Below w.heap.size w w' := by
  have HD := Lib.hid hD
  have HZ := Lib.hid hz
  clear hD hz
  go_enter Tryd.func16, Tryd.ntmps16
  go_wp2_with fail
  refine (canBeWeighted_any n w).mono ?_
  rintro e w1 ⟨ha, hb⟩
  have Hb := Lib.hid hb
  have HB := Lib.hid hb.size
  clear hb
  by_cases h : 1 ≤ n ∧ n ≤ 4
  · have H := Lib.hid h
    obtain rfl := ha.is h
    have hl := listAdd_tab n.toNat (by omega) (by omega)
    have HL := Lib.hid hl
    clear ha h hl
    go_wp2_with fail
    refine (implCountByInversions_any n w1 HZ.out (HD.out.next Hb.out)).mono ?_
    rintro e w2 ⟨⟨v, b, r, rfl, hv, hr⟩, hb2⟩
    have hr2 : b = true ∧ r = tabW fInv (allW n.toNat) := by
      rcases hr with ⟨_, h2, h3⟩ | ⟨h1, _, _⟩
      · exact ⟨h2, by rw [h3]; exact HL.out⟩
      · exact absurd (show in5Add n by have := H.out; unfold in5Add; omega) h1
    obtain ⟨rfl, rfl⟩ := hr2
    have Hv := Lib.hid (hv.base HB.out)
    have Hb2 := Lib.hid (Hb.out.trans (hb2.mono HB.out))
    clear hv hr hb2
    go_wp2
    go_ret2
    exact ⟨LRes.yes H.out Hv.out, Hb2.out⟩
  · have H := Lib.hid h
    obtain rfl := ha.isnt h
    clear ha h
    go_wp2
    go_ret2
    exact ⟨LRes.no H.out, Hb.out⟩
end Go.Proofs.YtmkldodkpijfjaaDoor

