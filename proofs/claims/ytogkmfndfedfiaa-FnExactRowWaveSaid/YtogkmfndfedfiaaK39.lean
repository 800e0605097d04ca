/- Parts of proofs: contracts and plain facts. Conditions: as each says. -/
import Derived.Test.YtogkmfndfedfiaaK38
namespace Go.Proofs.Ytogkmfndfedfiaa
open Go.RowKit

/-- the matrix behind the toggles of all cells -/
def rwM (m : List (List Int)) : List (List Int) := gyM m (allCells m.length m.length)

set_option maxRecDepth 100000 in
set_option maxHeartbeats 1600000 in
theorem specRowWave_any (ao : Option Addr) (cp : Nat) (m : List (List Int)) (w : World) (hs : Small m) (hm : MatAt w ao m) :
    Calls Try.prog 51 #[.slice ao m.length cp] w fun e w' => MRes (good m) (rwM m) w' w.heap.size e ∧ Below w.heap.size w w' := by
  have Hs := Lib.hid hs
  have Hm := Lib.hid hm
  clear hs hm
  go_enter Try.func51, Try.ntmps51
  go_wp2_with fail
  refine (sgGood_any ao cp m w Hs.out Hm.out).mono ?_
  rintro e w1 ⟨ha, hb⟩
  have Hb := Lib.hid hb
  have HB := Lib.hid hb.size
  clear hb
  by_cases hg : good m
  · have Hg := Lib.hid hg
    have hn := hg.1.2.1
    have hn1 := hg.1.1
    clear hg
    obtain rfl := ha.is Hg.out
    clear ha
    go_wp2_with fail
    refine (heOf_any ao cp m w1 Hg.out (Hm.out.below Hb.out)).mono ?_
    rintro e w2 ⟨v, rfl, hv, hb2⟩
    obtain ⟨a1, c1, vs, rfl, hvo, hc1, hc2⟩ := hv.open
    rw [ht_len] at hvo hc1 ⊢
    obtain ⟨N, hN⟩ : ∃ N, N = m.length + 1 := ⟨_, rfl⟩
    rw [← hN] at hvo hc1 ⊢
    have HN := Lib.hid hN
    have Hvo := Lib.hid (show OwnP w2 w.heap.size (.slice a1 N c1) N (htT m.length (S2 m)) N vs from hvo.base HB.out)
    have Hb2 := Lib.hid (Hb.out.trans (hb2.mono HB.out))
    have HB2 := Lib.hid Hb2.out.size
    have Hcr := Lib.hid (good_crn Hg.out)
    have Hrw := Lib.hid (show rwM m = unC m.length (togL (S2 m) (allCells m.length m.length)) from rfl)
    obtain ⟨n, hnn⟩ : ∃ n, n = m.length := ⟨_, rfl⟩
    rw [← hnn] at hn hn1 Hcr HN Hvo Hrw ⊢
    have Hnn := Lib.hid hnn
    clear hN hvo hb2 hv hnn
    go_wp2
    go_loopw [4, 5] (fun h i wr => ∃ s : Nat, 1 ≤ s ∧ s ≤ n ∧ i = .int .i64 s ∧ h = .slice a1 N c1 ∧ OwnP wr w.heap.size (.slice a1 N c1) N (htT n (togL (S2 m) (allCells n s))) N vs ∧ Below w.heap.size w wr) (fun _ i _ => n - (intOf i).toNat)
    case atStart => exact ⟨1, by omega, hn1, rfl, rfl, by rw [allCells_one]; exact Hvo.out, Hb2.out⟩
    case round =>
      obtain ⟨s, hs1, hs, rfl, rfl, hown, hbr⟩ := hrel
      have Hown := Lib.hid hown
      have Hbr := Lib.hid hbr
      clear hown hbr
      by_cases hlt : s < n
      · go_wp2
        go_loopw [4, 6] (fun h j wr => ∃ t : Nat, 1 ≤ t ∧ t ≤ n ∧ j = .int .i64 t ∧ h = .slice a1 N c1 ∧ OwnP wr w.heap.size (.slice a1 N c1) N (htT n (togL (S2 m) (allCells n s ++ rowCells s t))) N vs ∧ Below w.heap.size w wr) (fun _ j _ => n - (intOf j).toNat)
        case atStart => exact ⟨1, by omega, hn1, by go_num, rfl, by rw [rowCells_one, List.append_nil]; exact Hown.out, Hbr.out⟩
        case round =>
          obtain ⟨t, ht1, ht, rfl, rfl, hown, hbr⟩ := hrel
          have Hown := Lib.hid hown
          have Hbr := Lib.hid hbr
          clear hown hbr
          by_cases htl : t < n
          · have Hcr2 := Lib.hid (Hcr.out.togL (allCells n s ++ rowCells s t) (cells_inn hs ht hs1 hlt))
            go_wp2_with fail
            refine (gyToggle_any n N w.heap.size c1 s t a1 vs _ wr HN.out hn Hcr2.out ⟨hs1, hlt, ht1, htl⟩ Hbr.out.size Hown.out).mono ?_
            rintro e w3 ⟨rfl, ho, hb3⟩
            have Ho := Lib.hid ho
            have Hb3 := Lib.hid (Hbr.out.trans hb3)
            clear ho hb3
            go_wp2
            go_roundw
            case rel => exact ⟨t + 1, by omega, by omega, by go_num, rfl, by rw [rowCells_succ s t ht1, ← List.append_assoc, togL_snoc]; exact Ho.out, Hb3.out⟩
            case measure => simp [intOf]; omega
          · obtain rfl : t = n := by omega
            go_wp2
            go_roundw
            case rel => exact ⟨s + 1, by omega, by omega, by go_num, rfl, by rw [allCells_succ _ s hs1]; exact Hown.out, Hbr.out⟩
            case measure => simp [intOf]; omega
      · obtain rfl : s = n := by omega
        have Hcr2 := Lib.hid (Hcr.out.togL (allCells s s) allCells_inn)
        have hcall := heFrom_any a1 c1 s (togL (S2 m) (allCells s s)) wr Hcr2.out hn1 hn (Hown.out.at (by rw [htT_len, HN.out]))
        rw [← HN.out, ← Hrw.out] at hcall
        have Hcall := Lib.hid hcall
        clear hcall
        go_wp2_with fail
        refine Hcall.out.mono ?_
        rintro e w4 ⟨v, rfl, hv, hb4⟩
        have Hv := Lib.hid (hv.base Hbr.out.size)
        have Hb4 := Lib.hid (Hbr.out.trans (hb4.mono Hbr.out.size))
        clear hv hb4
        go_wp2
        go_ret2
        exact ⟨MRes.yes Hg.out Hv.out, Hb4.out⟩
  · have Hg := Lib.hid hg
    clear hg
    obtain rfl := ha.isnt Hg.out
    clear ha
    go_wp2
    go_ret2
    exact ⟨MRes.no Hg.out, Hb.out⟩
end Go.Proofs.Ytogkmfndfedfiaa

