/- Contracts of the program: lines whose signs alternate, and whether a table is a sign matrix. Condition: the numbers fit an int. -/
import Derived.Test.YtnhkclnloiiihaaImplA
namespace Go.Proofs.Ytnhkclnloiiihaa
open Go.RowKit

theorem wrap_neg {s x : Int} (h : s + x = 9223372036854775808) : wrap64 (s + x) < 0 := by
  rw [h]
  unfold wrap64
  omega

set_option maxRecDepth 100000 in
set_option maxHeartbeats 400000 in
theorem signsAlternate_any (ao : Option Addr) (c : Nat) (xs : List Int) (w : World) (hn : xs.length ≤ 1048576) (hwf : WfI xs) (hx : IntsAt w ao xs) :
    Calls Try.prog 129 #[.slice ao xs.length c] w fun e w' => Ans (lineOk xs) e ∧ w = w' := by
  have hmx : xs.length ≤ 9223372036854775807 := by omega
  have Hwf := Lib.hid hwf
  have Hx := Lib.hid hx
  clear hwf hx
  go_enter Try.func129, Try.ntmps129
  go_wp2
  go_loop [3, 8] (fun s i => ∃ t : Nat, t ≤ xs.length ∧ i = .int .i64 t ∧ s = .int .i64 (sumK xs t) ∧ (∀ u, u ≤ t → 0 ≤ sumK xs u ∧ sumK xs u ≤ 1)) (fun _ i => xs.length - (intOf i).toNat)
  case atStart => exact ⟨0, Nat.zero_le _, rfl, rfl, fun u hu => by obtain rfl : u = 0 := by omega
                                                                    simp [sumK]⟩
  case round =>
    obtain ⟨t, ht, rfl, rfl, hsum⟩ := hrel
    have hs0 := (hsum t (Nat.le_refl _)).1
    have hs1 := (hsum t (Nat.le_refl _)).2
    have Hsum := Lib.hid hsum
    clear hsum
    by_cases htl : t < xs.length
    · obtain ⟨b2, o2, rfl, hc2⟩ := Hx.out t htl
      have hw1 := (Hwf.out t htl).1
      have hw2 := (Hwf.out t htl).2
      have hno : ¬ (0 ≤ sumK xs (t + 1) ∧ sumK xs (t + 1) ≤ 1) → ¬ lineOk xs := fun h hl => h (hl.1 (t + 1) (by omega))
      have hsu : sumK xs (t + 1) = sumK xs t + gi xs t := rfl
      have Hno := Lib.hid hno
      have Hsu := Lib.hid hsu
      obtain ⟨x, hx⟩ : ∃ x, x = gi xs t := ⟨_, rfl⟩
      obtain ⟨s, hsm⟩ : ∃ s, s = sumK xs t := ⟨_, rfl⟩
      rw [← hx] at hc2 hw1 hw2
      rw [← hsm] at hs0 hs1 ⊢
      have Hx := Lib.hid hx
      have Hsm := Lib.hid hsm
      clear hx hsm hno hsu
      by_cases hA : s + x < 0
      · go_wp2
        go_ret
        exact ⟨Ans.no (Hno.out (by rw [Hsu.out, ← Hx.out, ← Hsm.out]; omega)), rfl⟩
      · by_cases hD : s + x = 9223372036854775808
        · have HD := Lib.hid hD
          have hneg := wrap_neg hD
          have hbad : ¬ lineOk xs := Hno.out (by rw [Hsu.out, ← Hx.out, ← Hsm.out]; omega)
          have Hbad := Lib.hid hbad
          clear hD hA hbad hw1 hw2 hs0 hs1
          go_wp2
          go_ret
          exact ⟨Ans.no Hbad.out, rfl⟩
        · have hle : s + x ≤ 9223372036854775807 := by omega
          clear hD
          by_cases hC : 1 < s + x
          · have hd : decide ((1 : Int) < s + x) = true := by simpa using hC
            go_wp2
            go_ret
            exact ⟨Ans.no (Hno.out (by rw [Hsu.out, ← Hx.out, ← Hsm.out]; omega)), rfl⟩
          · have hd : decide ((1 : Int) < s + x) = false := by simpa using hC
            go_wp2
            go_round
            case rel =>
              have e1 : s + x = sumK xs (t + 1) := by rw [Hsu.out, ← Hx.out, ← Hsm.out]
              refine ⟨t + 1, by omega, by go_num, by rw [← e1], fun u hu => ?_⟩
              by_cases e : u = t + 1
              · subst e; rw [← e1]; omega
              · exact Hsum.out u (by omega)
            case measure => simp [intOf]; omega
    · obtain rfl : t = xs.length := by omega
      obtain ⟨s, hsm⟩ : ∃ s, s = sumK xs xs.length := ⟨_, rfl⟩
      rw [← hsm] at hs0 hs1 ⊢
      have Hsm := Lib.hid hsm
      clear hsm
      by_cases he : s = 1
      · have hb : (s == 1) = true := by simp [he]
        have He := Lib.hid he
        clear he
        go_wp2
        go_ret
        exact ⟨Ans.yes ⟨Hsum.out, by rw [← Hsm.out]; exact He.out⟩, rfl⟩
      · have hb : (s == 1) = false := by simp [he]
        go_wp2
        go_ret
        refine ⟨Ans.no fun h => ?_, rfl⟩
        have := h.2
        rw [← Hsm.out] at this
        exact he this

/-- the table itself, then the one with rows and columns exchanged -/
def selM (m : List (List Int)) (k : Nat) : List (List Int) := if k = 0 then m else tr m

theorem wf_tr {m : List (List Int)} (h : square m) (hw : WfM m) : WfM (tr m) := by
  intro i hi
  rw [tr_len] at hi
  intro j hj
  rw [tr_row hi] at hj
  rw [gi_tr hi hj]
  exact hw j hj i (by rw [h.2.2 j hj]; exact hi)

set_option maxRecDepth 100000 in
set_option maxHeartbeats 800000 in
theorem implIsSign_any (ao : Option Addr) (c : Nat) (m : List (List Int)) (w : World) (hs : Small m) (hwf : WfM m) (hm : MatAt w ao m) :
    Calls Try.prog 39 #[.slice ao m.length c] w fun e w' => Ans (good m) e ∧ Below w.heap.size w w' := by
  by_cases hsq : square m
  · have Hsq := Lib.hid hsq
    have Hs := Lib.hid hs
    have Hm := Lib.hid hm
    have Hwf := Lib.hid hwf
    have hn := hsq.2.1
    have hmx : m.length ≤ 9223372036854775807 := by omega
    clear hsq hs hm hwf
    go_enter Try.func39, Try.ntmps39
    go_wp2_with fail
    refine (isSquare_any ao c m w Hs.out Hm.out).mono ?_
    rintro e w2 ⟨ha, hb0⟩
    obtain rfl := ha.is Hsq.out
    have Hb0 := Lib.hid hb0
    clear ha hb0
    go_wp2_with fail
    refine (transposed_any ao c m w2 Hsq.out (Hm.out.below Hb0.out)).mono ?_
    rintro e w1 ⟨v, rfl, hv0, hb0⟩
    have hv := hv0.base Hb0.out.size
    have hb := Hb0.out.trans (hb0.mono Hb0.out.size)
    clear hv0 hb0
    obtain ⟨a2, c2, rfl, hc1, hc2, hr⟩ := hv.read
    rw [tr_len]
    have hsz := hb.size
    have hb2 : Below w.heap.size w (w1.alloc (.cells #[.slice ao m.length c, .slice a2 m.length c2] 81)) := hb.alloc hsz _
    have hb3 : Below w1.heap.size w1 (w1.alloc (.cells #[.slice ao m.length c, .slice a2 m.length c2] 81)) := (Below.refl _ _).alloc (Nat.le_refl _) _
    have hsel : ∀ k, k < 2 → ∃ a d, (w1.alloc (.cells #[.slice ao m.length c, .slice a2 m.length c2] 81)).cell? ⟨w1.heap.size, k, none⟩ = some (.slice a m.length d) ∧
        MatAt (w1.alloc (.cells #[.slice ao m.length c, .slice a2 m.length c2] 81)) a (selM m k) ∧ (selM m k).length = m.length ∧ square (selM m k) ∧ WfM (selM m k) := by
      intro k hk
      by_cases e : k = 0
      · subst e
        exact ⟨ao, c, by rw [cell_new]; rfl, Hm.out.below hb2, rfl, Hsq.out, Hwf.out⟩
      · obtain rfl : k = 1 := by omega
        exact ⟨a2, c2, by rw [cell_new]; rfl, hr.below hb3, tr_len m, Hsq.out.tr, wf_tr Hsq.out Hwf.out⟩
    have Hsel := Lib.hid hsel
    have Hb2 := Lib.hid hb2
    clear hv hb hr hb2 hb3 hsel
    go_wp2
    go_loop [15] (fun i => ∃ k : Nat, k ≤ 2 ∧ i = .int .i64 k ∧ ∀ j, j < k → rowsOk (selM m j)) (fun i => 2 - (intOf i).toNat)
    case atStart => exact ⟨0, Nat.zero_le _, rfl, fun j hj => absurd hj (by omega)⟩
    case round =>
      obtain ⟨k, hk, rfl, hdone⟩ := hrel
      have Hd := Lib.hid hdone
      clear hdone
      by_cases hlt : k < 2
      · obtain ⟨a, d, hcell, hmat, hlen, hsq2, hwf2⟩ := Hsel.out k hlt
        have Hmat := Lib.hid hmat
        have Hlen := Lib.hid hlen
        have Hsq2 := Lib.hid hsq2
        have Hwf2 := Lib.hid hwf2
        clear hmat hlen hsq2 hwf2 hc1 hc2
        go_wp2
        go_loop [21] (fun i => ∃ t : Nat, t ≤ m.length ∧ i = .int .i64 t ∧ ∀ j, j < t → lineOk (gr (selM m k) j)) (fun i => m.length - (intOf i).toNat)
        case atStart => exact ⟨0, Nat.zero_le _, rfl, fun j hj => absurd hj (by omega)⟩
        case round =>
          obtain ⟨t, ht, rfl, hln⟩ := hrel
          have Hln := Lib.hid hln
          clear hln
          by_cases htl : t < m.length
          · obtain ⟨b3, o3, r3, d3, rfl, hc3, hx3, _, _⟩ := Hmat.out t (by rw [Hlen.out]; exact htl)
            have hrl : (gr (selM m k) t).length ≤ 1048576 := by rw [Hsq2.out.2.2 t (by rw [Hlen.out]; exact htl), Hlen.out]; omega
            have Hx3 := Lib.hid hx3
            clear hx3
            go_wp2_with fail
            refine (signsAlternate_any r3 d3 (gr (selM m k) t) _ hrl (Hwf2.out t (by rw [Hlen.out]; exact htl)) Hx3.out).mono ?_
            rintro e w3 ⟨ha, rfl⟩
            by_cases hok : lineOk (gr (selM m k) t)
            · have Hok := Lib.hid hok
              clear hok
              obtain rfl := ha.is Hok.out
              clear ha
              go_wp2
              go_round
              case rel =>
                refine ⟨t + 1, by omega, by go_num, fun j hj => ?_⟩
                by_cases e : j = t
                · subst e; exact Hok.out
                · exact Hln.out j (by omega)
              case measure => simp [intOf]; omega
            · have Hok := Lib.hid hok
              clear hok
              obtain rfl := ha.isnt Hok.out
              clear ha
              go_wp2
              go_ret
              refine ⟨Ans.no fun h => Hok.out ?_, Hb2.out⟩
              have hlt' : t < (selM m k).length := by rw [Hlen.out]; exact htl
              unfold selM at hlt' ⊢
              split
              · next e => rw [if_pos e] at hlt'; exact h.2.1 t hlt'
              · next e => rw [if_neg e] at hlt'; exact h.2.2 t hlt'
          · obtain rfl : t = m.length := by omega
            go_wp2
            go_round
            case rel =>
              refine ⟨k + 1, by omega, by go_num, fun j hj => ?_⟩
              by_cases e : j = k
              · subst e; intro i hi; exact Hln.out i (by rw [Hlen.out] at hi; exact hi)
              · exact Hd.out j (by omega)
            case measure => simp [intOf]; omega
      · obtain rfl : k = 2 := by omega
        go_wp2
        go_ret
        exact ⟨Ans.yes ⟨Hsq.out, Hd.out 0 (by omega), Hd.out 1 (by omega)⟩, Hb2.out⟩
  · have Hsq := Lib.hid hsq
    have Hs := Lib.hid hs
    have Hm := Lib.hid hm
    clear hsq hs hm hwf
    go_enter Try.func39, Try.ntmps39
    go_wp2_with fail
    refine (isSquare_any ao c m w Hs.out Hm.out).mono ?_
    rintro e w2 ⟨ha, hb0⟩
    obtain rfl := ha.isnt Hsq.out
    have Hb0 := Lib.hid hb0
    clear ha hb0
    go_wp2
    go_ret
    exact ⟨Ans.no fun h => Hsq.out h.1, Hb0.out⟩
end Go.Proofs.Ytnhkclnloiiihaa
