/- Parts of proofs: contracts and plain facts. Conditions: as each says. -/
import Derived.Test.YtnhkclnloiiihaaDoorK23
import Derived.Test.YtnhkclnloiiihaaDoorTie
import Derived.Test.YtnhkclnloiiihaaDoorCards
import Derived.Shelf.Vars
import Derived.Lay
import Derived.SevenTiedAt
import Derived.HandedShaped
import Derived.ProofKit
import Derived.LaidMore
import Derived.Stop.Joined
namespace Go.Proofs.YtnhkclnloiiihaaDoor
open Go.RowKit

def in5Add (n : Int) : Prop := 1 ≤ n ∧ n ≤ 5
def listAdd (n : Nat) : List Int := trimF (countsF nextAdd n)
theorem listAdd_len {n : Int} (h : in5Add n) : (listAdd n.toNat).length ≤ 1048576 := by
  unfold listAdd trimF
  rw [List.length_take]
  have : (countsF nextAdd n.toNat).length = n.toNat * n.toNat + 1 := by unfold countsF; rw [spreadF_len, List.length_replicate]
  unfold in5Add at h
  have := Nat.mul_le_mul (show n.toNat ≤ 5 by omega) (show n.toNat ≤ 5 by omega)
  omega
theorem Add_facts {N : Nat} (h1 : 1 ≤ N) (h5 : N ≤ 5) : sameC movedSc nextAdd N (N * (N - 1) / 2) = true ∧ limC movedSc N (N * (N - 1) / 2) = true := by
  obtain ⟨a, b, c, d, e⟩ := moved_same
  obtain ⟨a', b', c', d', e'⟩ := moved_ok
  rcases (by omega : N = 1 ∨ N = 2 ∨ N = 3 ∨ N = 4 ∨ N = 5) with rfl | rfl | rfl | rfl | rfl
  · exact ⟨a, a'⟩
  · exact ⟨b, b'⟩
  · exact ⟨c, c'⟩
  · exact ⟨d, d'⟩
  · exact ⟨e, e'⟩

theorem mostInversions5_any (N : Nat) (w : World) (_ : 1 ≤ N) (_ : N ≤ 5) :
    Calls Tryd.prog 111 #[.int .i64 (N : Int)] w fun e w' => e = .returned (.int .i64 ((N * (N - 1) / 2 : Nat) : Int)) ∧ w = w' := by
  obtain rfl | rfl | rfl | rfl | rfl : N = 1 ∨ N = 2 ∨ N = 3 ∨ N = 4 ∨ N = 5 := by omega
  all_goals
    go_enter Tryd.func111, Tryd.ntmps111
    go_wp2
    go_ret
    exact ⟨rfl, rfl⟩
set_option maxRecDepth 100000 in
set_option maxHeartbeats 800000 in
theorem implCountByInversions_any (n : Int) (w : World) (_ : -9223372036854775808 ≤ n ∧ n ≤ 9223372036854775807) (hD : Dj w) :
    Calls Tryd.prog 66 #[.int .i64 n] w fun e w' => LRes (in5Add n) (listAdd n.toNat) w' w.heap.size e ∧ Below w.heap.size w w' := by
  by_cases h1 : 1 ≤ n
  · by_cases h5 : n ≤ 5
    · obtain ⟨N, rfl⟩ : ∃ N : Nat, n = (N : Int) := ⟨n.toNat, by omega⟩
      obtain ⟨hs, hl⟩ := Add_facts (N := N) (by omega) (by omega)
      have hlim := limC_lim hl
      obtain ⟨G, hG⟩ : ∃ G : Nat, G = N * (N - 1) / 2 := ⟨_, rfl⟩
      rw [← hG] at hs hlim
      have hG10 : G ≤ 10 := by
        rw [hG]
        rcases (by omega : N = 1 ∨ N = 2 ∨ N = 3 ∨ N = 4 ∨ N = 5) with rfl | rfl | rfl | rfl | rfl <;> decide
      have hc := byScore_movedNumbers movedSc movedNumbers_any moved_small N G (by omega) (by omega) (by omega) hlim w hD
      have hsame : scoreL movedSc N (G + 1) = listAdd N := by
        unfold sameC at hs
        simp only [Bool.and_eq_true] at hs
        rw [scoreT_is]
        have := hs.2
        simp at this
        exact this.symm
      rw [hsame] at hc
      have Hc := Lib.hid hc
      have hd5 : decide ((5 : Int) < (N : Int)) = false := by simp; omega
      have hmost := mostInversions5_any N w (by omega) (by omega)
      rw [← hG] at hmost
      have Hmost := Lib.hid hmost
      clear hmost
      clear hc hD hs hl hlim hsame hG
      go_enter Tryd.func66, Tryd.ntmps66
      go_wp2_with fail
      refine Hmost.out.mono ?_
      rintro e w2 ⟨rfl, rfl⟩
      go_wp2_with fail
      refine Hc.out.mono ?_
      rintro e w1 ⟨v, rfl, hv, hb⟩
      have Hv := Lib.hid hv
      have Hb := Lib.hid hb
      clear hv hb
      go_wp2
      go_ret2
      exact ⟨LRes.yes ⟨h1, h5⟩ (by rw [Int.toNat_natCast]; exact Hv.out), Hb.out⟩
    · have hd5 : decide ((5 : Int) < n) = true := by simp; omega
      go_enter Tryd.func66, Tryd.ntmps66
      go_wp2
      go_ret2
      exact ⟨LRes.no fun h => by have := h.2; omega, Below.refl _ _⟩
  · go_enter Tryd.func66, Tryd.ntmps66
    go_wp2
    go_ret2
    exact ⟨LRes.no fun h => by have := h.1; omega, Below.refl _ _⟩
end Go.Proofs.YtnhkclnloiiihaaDoor

namespace Go.Proofs.YtnhkclnloiiihaaDoor
open Go.RowKit

theorem listMinus_tab : ∀ n, 1 ≤ n → n < 5 → listMinus n = tabW fMin (allW n) := by
  have h : ∀ n, n < 5 → n = 0 ∨ listMinus n = tabW fMin (allW n) := by decide +kernel
  intro n h1 h2
  exact (h n h2).resolve_left (by omega)
theorem listAdd_tab : ∀ n, 1 ≤ n → n < 5 → listAdd n = tabW fInv (allW n) := by
  have h : ∀ n, n < 5 → n = 0 ∨ listAdd n = tabW fInv (allW n) := by decide +kernel
  intro n h1 h2
  exact (h n h2).resolve_left (by omega)

set_option maxRecDepth 100000 in
set_option maxHeartbeats 1600000 in
theorem implMinusTable_any (n : Int) (w : World) (hz : -9223372036854775808 ≤ n ∧ n ≤ 9223372036854775807) (hD : Dj w) :
    Calls Tryd.prog 11 #[.int .i64 n] w fun e w' => LRes (1 ≤ n ∧ n ≤ 4) (tabW fMin (allW n.toNat)) w' w.heap.size e ∧ Below w.heap.size w w' := by
  have HD := Lib.hid hD
  have HZ := Lib.hid hz
  clear hD hz
  go_enter Tryd.func11, Tryd.ntmps11
  go_wp2_with fail
  refine (canBeWeighted_any n w).mono ?_
  rintro e w1 ⟨ha, hb⟩
  have Hb := Lib.hid hb
  have HB := Lib.hid hb.size
  clear hb
  by_cases h : 1 ≤ n ∧ n ≤ 4
  · have H := Lib.hid h
    obtain rfl := ha.is h
    have hl := listMinus_tab n.toNat (by omega) (by omega)
    have HL := Lib.hid hl
    clear ha h hl
    go_wp2_with fail
    refine (implCountByMinus_any n w1 HZ.out (HD.out.next Hb.out)).mono ?_
    rintro e w2 ⟨⟨v, b, r, rfl, hv, hr⟩, hb2⟩
    have hr2 : b = true ∧ r = tabW fMin (allW n.toNat) := by
      rcases hr with ⟨_, h2, h3⟩ | ⟨h1, _, _⟩
      · exact ⟨h2, by rw [h3]; exact HL.out⟩
      · exact absurd (show in5Minus n by have := H.out; unfold in5Minus; omega) h1
    obtain ⟨rfl, rfl⟩ := hr2
    have Hv := Lib.hid (hv.base HB.out)
    have Hb2 := Lib.hid (Hb.out.trans (hb2.mono HB.out))
    clear hv hr hb2
    go_wp2
    go_ret2
    exact ⟨LRes.yes H.out Hv.out, Hb2.out⟩
  · have H := Lib.hid h
    obtain rfl := ha.isnt h
    clear ha h
    go_wp2
    go_ret2
    exact ⟨LRes.no H.out, Hb.out⟩

set_option maxRecDepth 100000 in
set_option maxHeartbeats 1600000 in
theorem implInversionTable_any (n : Int) (w : World) (hz : -9223372036854775808 ≤ n ∧ n ≤ 9223372036854775807) (hD : Dj w) :
    Calls Tryd.prog 13 #[.int .i64 n] w fun e w' => LRes (1 ≤ n ∧ n ≤ 4) (tabW fInv (allW n.toNat)) w' w.heap.size e ∧ Below w.heap.size w w' := by
  have HD := Lib.hid hD
  have HZ := Lib.hid hz
  clear hD hz
  go_enter Tryd.func13, Tryd.ntmps13
  go_wp2_with fail
  refine (canBeWeighted_any n w).mono ?_
  rintro e w1 ⟨ha, hb⟩
  have Hb := Lib.hid hb
  have HB := Lib.hid hb.size
  clear hb
  by_cases h : 1 ≤ n ∧ n ≤ 4
  · have H := Lib.hid h
    obtain rfl := ha.is h
    have hl := listAdd_tab n.toNat (by omega) (by omega)
    have HL := Lib.hid hl
    clear ha h hl
    go_wp2_with fail
    refine (implCountByInversions_any n w1 HZ.out (HD.out.next Hb.out)).mono ?_
    rintro e w2 ⟨⟨v, b, r, rfl, hv, hr⟩, hb2⟩
    have hr2 : b = true ∧ r = tabW fInv (allW n.toNat) := by
      rcases hr with ⟨_, h2, h3⟩ | ⟨h1, _, _⟩
      · exact ⟨h2, by rw [h3]; exact HL.out⟩
      · exact absurd (show in5Add n by have := H.out; unfold in5Add; omega) h1
    obtain ⟨rfl, rfl⟩ := hr2
    have Hv := Lib.hid (hv.base HB.out)
    have Hb2 := Lib.hid (Hb.out.trans (hb2.mono HB.out))
    clear hv hr hb2
    go_wp2
    go_ret2
    exact ⟨LRes.yes H.out Hv.out, Hb2.out⟩
  · have H := Lib.hid h
    obtain rfl := ha.isnt h
    clear ha h
    go_wp2
    go_ret2
    exact ⟨LRes.no H.out, Hb.out⟩
end Go.Proofs.YtnhkclnloiiihaaDoor

namespace Go.Proofs.YtnhkclnloiiihaaDoor
open Go.ChangeShapes Go.WideShapes Go.ChangeAt Go.RowKit Go.Deep

def laid2 : List (String × DataW Unit) := [("math/bits.deBruijn32tab", Rows.laid_math_bits_deBruijn32tab), ("math/bits.deBruijn64tab", Rows.laid_math_bits_deBruijn64tab)]
def tab64 : List Int := [0, 1, 56, 2, 57, 49, 28, 3, 61, 58, 42, 50, 38, 29, 17, 4, 62, 47, 59, 36, 45, 43, 51, 22, 53, 39, 33, 30, 24, 18, 12, 5, 63, 55, 48, 27, 60, 41, 37, 16, 46, 35, 44, 21, 52, 32, 23, 11, 54, 26, 40, 15, 34, 20, 31, 10, 25, 14, 19, 9, 13, 8, 7, 6]
theorem tab64_is : (Rows.laid_math_bits_deBruijn64tab : DataW Unit) = .agg (tab64.map fun n => .lit (.int .u8 n)) := rfl
theorem tab64_at : ∀ i, i < 16 → tab64.getD (dbAt i) 0 = i := by decide

theorem tab_cell {W : World} (h : laidMetH Tryd.prog laid2 W) (j : Nat) (hr : j < 64) : W.cell? ⟨2, j, none⟩ = some (.int .u8 (tab64.getD j 0)) := by
  rw [MakeChecks.laidMetH_plain _ _ _ (by kernel_rfl)] at h
  obtain ⟨ps, hps, _, _⟩ := h
  obtain ⟨_, _, _, _, _, _, _, _, _, _, ⟨g, t, cs, fuel, p, q, hg, ht, hv, hd, _, _⟩, _⟩ := hps
  obtain rfl := Option.some.inj ((show Tryd.prog.globalNamed "math/bits.deBruijn64tab" = some 2 by kernel_rfl).symm.trans hg)
  obtain rfl := Option.some.inj ((show (Tryd.prog.globals[2]?).map (·.type) = some 115 by kernel_rfl).symm.trans ht)
  obtain ⟨xs, m, _, ex, _, hl, hel⟩ := DataW.trod_array Tryd.underlying115 hd
  have c5 : Tryd.prog.cellsOf 5 = 1 := by kernel_rfl
  have hE := hel (j) hr
  rw [c5, Nat.mul_one, List.getElem?_eq_getElem (by omega)] at hE
  obtain ⟨z, e1, e2, _⟩ := DataW.trod_int Tryd.underlying5 hE
  have hlen : tab64.length = 64 := by kernel_rfl
  rw [tab64_is] at ex
  have e3 : (xs.map (·.1)) = tab64.map fun n => .lit (.int .u8 n) := (DataW.agg.inj (Prod.mk.inj ex).1).symm
  have e4 : (xs.map (·.1))[j]? = (tab64.map fun n => (DataW.lit (.int .u8 n) : DataW Unit))[j]? := by rw [e3]
  rw [List.getElem?_map, List.getElem?_map, List.getElem?_eq_getElem (by omega : j < xs.length), List.getElem?_eq_getElem (by omega : j < tab64.length), e2] at e4
  have hz : z = tab64.getD (j) 0 := by
    simp only [Option.map_some, Option.some.injEq, DataW.lit.injEq, Lit.int.injEq, true_and] at e4
    rw [e4, List.getD, List.getElem?_eq_getElem (by omega : j < tab64.length)]; rfl
  rw [World.var?_cell hg hv (j), ← hz]
  have : cs.toList[j]? = some (.int .u8 z) := by
    have h0 : ((cs.toList.drop (j)).take 1)[0]? = some (.int .u8 z) := by rw [e1]; rfl
    simpa using h0
  simpa using this
theorem dj_of_laid {W : World} (h : laidMetH Tryd.prog laid2 W) : Dj W := by
  intro i hi
  have := tab_cell h (dbAt i) (dbAt_lt i hi)
  rw [tab64_at i hi] at this
  exact this
end Go.Proofs.YtnhkclnloiiihaaDoor

