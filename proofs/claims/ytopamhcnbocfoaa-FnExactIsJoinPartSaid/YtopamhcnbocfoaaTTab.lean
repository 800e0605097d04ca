/- Contracts of the program: the table of a terrain's heights; the numbers that its heights leave. Conditions: sides up to 6. -/
import Derived.Test.YtopamhcnbocfoaaTRow
import Derived.Test.YtopamhcnbocfoaaCopyG
import Derived.Deep.DeepMust
namespace Go.Proofs.Ytopamhcnbocfoaa
open Go.RowKit

/-- a row of heights as a list -/
def rowL (r : Nat → Int) (c : Nat) : List Int := (List.range c).map r
theorem rowL_len (r : Nat → Int) (c : Nat) : (rowL r c).length = c := by simp [rowL]
theorem gi_rowL {r : Nat → Int} {c j : Nat} (h : j < c) : gi (rowL r c) j = r j := gi_row h
theorem TerrAt.ints {w : World} {g : Nat} {n : Int} {f : Nat → Nat → Int} (h : TerrAt w g n f) {i c : Nat} (hi : i < 7) (hc : c ≤ 7) : IntsAt w (some ⟨g, 1 + i * 7, none⟩) (rowL (f i) c) := by
  intro j hj
  rw [rowL_len] at hj
  refine ⟨g, 1 + i * 7, rfl, ?_⟩
  rw [gi_rowL hj]
  exact h.cell hi (by omega)

set_option maxRecDepth 100000 in
set_option maxHeartbeats 1600000 in
theorem tableOfHeights_any (n : Nat) (f : Nat → Nat → Int) (w : World) (hn : n ≤ 6) :
    Calls Try.prog 56 #[.agg (tc n f)] w fun e w' => ∃ v, e = .returned v ∧ OwnM w' w.heap.size v (tab (n + 1) (n + 1) f) ∧ Below w.heap.size w w' := by
  have hmx : n + 1 ≤ 9223372036854775807 := by omega
  go_enter Try.func56, Try.ntmps56
  go_upto_region 1 with (first | (refine wpList_allocT rfl 47 rfl _ _ Try.info_terr ?_) | (refine wpList_buildT1 rfl 47 0 _ rfl (.int .i64 _) rfl _ (Try.built_terr _) ?_) | (refine wpList_buildT0 rfl 47 rfl _ Try.built_terr0 ?_) | (refine wpList_boxT rfl 47 _ rfl _ rfl ?_) | (refine wpList_storeT rfl 47 _ _ rfl _ _ _ (by first | rfl | simp) rfl rfl (Try.size_terr _ _) (tc_same _ _ _ _) (tc_one _ _) ?_))
  generalize hW : World.alloc w _ = w1
  have hT : TerrAt w1 w.heap.size n f := by rw [← hW]; exact TerrAt.new w _ _
  have hB : Below w.heap.size w w1 := by rw [← hW]; exact (Below.refl _ _).alloc (Nat.le_refl _) _
  clear hW
  have hh := hT.head
  have HT := Lib.hid hT
  have HB := Lib.hid hB
  have HZ := Lib.hid hB.size
  clear hT hB
  have hcall := newGrid_any (n + 1) w1 (by omega)
  rw [show ((n + 1 : Nat) : Int) = (n : Int) + 1 from by omega] at hcall
  have Hcall := Lib.hid hcall
  clear hcall
  go_wp2_with fail
  refine Hcall.out.mono ?_
  rintro e w2 ⟨vs, rfl, hv, hb⟩
  have HT2 := Lib.hid (HT.out.below hb)
  have Hv := Lib.hid hv
  have Hb := Lib.hid hb
  clear hv hb hh Hcall
  go_wp2
  go_loopw [12] (fun i wr => ∃ (k : Nat) (g : Nat → Nat → Int), k ≤ n + 1 ∧ i = .int .i64 k ∧ OwnP wr w1.heap.size (.slice (some ⟨w1.heap.size, 0, none⟩) (n + 1) (n + 1)) (n + 1) (tab (n + 1) (n + 1) g) (n + 1) vs ∧
      (∀ a b, a < k → b < n + 1 → g a b = f a b) ∧ Below w1.heap.size w1 wr) (fun i _ => n + 1 - (intOf i).toNat)
  case atStart => exact ⟨0, _, Nat.zero_le _, rfl, Hv.out, fun a b ha _ => absurd ha (by omega), Hb.out⟩
  case round =>
    obtain ⟨k, g, hk, rfl, hown, heq, hbr⟩ := hrel
    clear Hv
    by_cases hlt : k < n + 1
    · obtain ⟨og, ocap, hvs, _, _, _, _⟩ := hown.at2 (i := k) (j := 0) hlt (by omega)
      have hd := hown.cellAt k hlt
      rw [hvs] at hd
      have hlt2 : (k : Int) < ((n + 1 : Nat) : Int) := by omega
      have hTr := HT.out.below hbr
      have hk7 : (k : Int) < 7 := by omega
      have hk77 : k < 7 := by omega
      have Hown := Lib.hid hown
      have Heq := Lib.hid heq
      have Hbr := Lib.hid hbr
      have Hvs := Lib.hid hvs
      have HI := Lib.hid (hTr.ints (c := n + 1) hk77 (by omega))
      have Hlen := Lib.hid (rowL_len (f k) (n + 1))
      clear hown heq hbr hvs hTr
      go_wp2_with ((with_reducible refine wpList_copy_grid2 (o := ⟨some 22, _, _, _, _, _⟩) ?gA1 (.tmp 17) (.tmp 21) ?gA2 Hown.out k 0 hlt (rowL (f k) (n + 1)) ?gA5 og ocap Hvs.out (n + 1) ocap 7 7 w.heap.size (1 + k * 7) ?gA3 ?gA4 ?hsA HI.out ?_))
      case gA1 => rfl
      case gA2 => rfl
      case gA3 => rfl
      case gA4 => rw [Hlen.out]; exact (Nat.min_eq_right (by omega)).symm
      case gA5 => rw [Hlen.out]; omega
      case hsA => rfl
      intro w4 hown4 hb4
      have Hown4 := Lib.hid hown4
      have Hb4 := Lib.hid (Hbr.out.trans hb4)
      clear hown4 hb4
      go_wp2
      go_roundw
      case rel =>
        refine ⟨k + 1, _, by omega, by go_num, Hown4.out, fun a b ha hb => ?_, Hb4.out⟩
        rw [Hlen.out]
        by_cases e : a = k
        · subst e
          rw [if_pos (by omega), gi_rowL (by omega)]
        · rw [if_neg (fun h => e h.1)]
          exact Heq.out a b (by omega) hb
      case measure => simp [intOf]; omega
    · obtain rfl : k = n + 1 := by omega
      have e : tab (n + 1) (n + 1) f = tab (n + 1) (n + 1) g := eq_tab (tab_len _ _ _) (fun i hi => tab_row hi) (fun i j hi hj => by rw [gi_tab hi hj, heq i j hi hj])
      have hfin : OwnM wr w.heap.size (.slice (some ⟨w1.heap.size, 0, none⟩) (n + 1) (n + 1)) (tab (n + 1) (n + 1) f) := OwnM.base ⟨vs, by rw [tab_len, e]; exact hown⟩ HZ.out
      have Hfin := Lib.hid hfin
      have Hbr := Lib.hid (HB.out.trans (hbr.mono HZ.out))
      clear hown heq hbr e hfin
      go_wp2
      go_ret
      exact ⟨_, rfl, Hfin.out, Hbr.out⟩
end Go.Proofs.Ytopamhcnbocfoaa
