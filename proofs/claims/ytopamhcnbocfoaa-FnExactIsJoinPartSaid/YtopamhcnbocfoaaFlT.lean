/- Contract of the model: all cells that can be flipped one way. Condition: tables of up to seven rows. -/
import Derived.Test.YtopamhcnbocfoaaFlS
import Derived.Test.YtopamhcnbocfoaaMore
namespace Go.Proofs.Ytopamhcnbocfoaa
open Go.RowKit

theorem cellM_snoc (ps : List (Nat × Nat)) (c : Nat × Nat) : cellM (ps ++ [c]) = cellM ps ++ [[(c.1 : Int), (c.2 : Int)]] := by simp [cellM]
theorem fewCells {n s t : Nat} (hn : n ≤ 6) (hs : s ≤ n) (ht : t ≤ n) : (allCells n s ++ rowCells s t).length ≤ 42 := by
  have h1 := allCells_len n s
  have h2 := rowCells_len s t
  have h3 : s * n ≤ 6 * 6 := Nat.mul_le_mul (by omega) hn
  rw [List.length_append]
  omega

set_option maxRecDepth 100000 in
set_option maxHeartbeats 1600000 in
theorem heFlips_any (N n : Nat) (ao : Option Addr) (c : Nat) (H : List (List Int)) (v : Int) (w : World) (hNn : N = n + 1) (hn1 : 1 ≤ n) (hn : n ≤ 6) (hH : Tab N H) (hm : MatAt w ao H) :
    Calls Try.prog 76 #[.slice ao N c, .int .i64 v] w fun e w' => ∃ u, e = .returned u ∧ OwnM w' w.heap.size u (cellM (flipsL (fun a b => gi (gr H a) b) v (allCells n n))) ∧ Below w.heap.size w w' := by
  obtain ⟨j0, hj, hy0, hy1, hy2⟩ := info_parts Try.info_ints
  obtain ⟨F, hF⟩ : ∃ F : Nat → Nat → Int, F = fun a b => gi (gr H a) b := ⟨_, rfl⟩
  have HF := Lib.hid hF
  rw [← hF]
  have HH := Lib.hid hH
  have Hm := Lib.hid hm
  have HN := Lib.hid hNn
  have kN : IntKind.i64.wrap ((N : Int) - 1) = (n : Int) := by rw [w64 (by omega)]; omega
  clear hNn hH hm hF
  go_enter Try.func76, Try.ntmps76
  go_wp2
  go_loopw [5, 6] (fun out i wr => ∃ s : Nat, 1 ≤ s ∧ s ≤ n ∧ i = .int .i64 s ∧ OwnM wr w.heap.size out (cellM (flipsL F v (allCells n s))) ∧ Below w.heap.size w wr) (fun _ i _ => n - (intOf i).toNat)
  case atStart => exact ⟨1, by omega, hn1, rfl, by rw [allCells_one]; exact ⟨[], ⟨World.ownsRow_nil _ _ _ _, fun i hi => absurd hi (by simp [flipsL, cellM]), fun i j _ hj => absurd hj (by simp [flipsL, cellM])⟩⟩, Below.refl _ _⟩
  case round =>
    obtain ⟨s, hs1, hs, rfl, hown, hbr⟩ := hrel
    obtain ⟨wo, rfl⟩ : ∃ wo : World, wo = wr := ⟨_, rfl⟩
    by_cases hlt : s < n
    · have Hown := Lib.hid hown
      have Hbr := Lib.hid hbr
      clear hown hbr
      go_wp2
      go_loopw [5, 7] (fun out j wr => ∃ t : Nat, 1 ≤ t ∧ t ≤ n ∧ j = .int .i64 t ∧ OwnM wr w.heap.size out (cellM (flipsL F v (allCells n s ++ rowCells s t))) ∧ Below w.heap.size w wr) (fun _ j _ => n - (intOf j).toNat)
      case atStart => exact ⟨1, by omega, hn1, by go_num, by rw [rowCells_one, List.append_nil]; exact Hown.out, Hbr.out⟩
      case round =>
        obtain ⟨t, ht1, ht, rfl, hown, hbr⟩ := hrel
        by_cases htl : t < n
        · obtain ⟨vs, hown⟩ := hown
          obtain ⟨cs, hcs⟩ : ∃ cs, cs = allCells n s ++ rowCells s t := ⟨_, rfl⟩
          have hle : cs.length ≤ 42 := by rw [hcs]; exact fewCells hn hs ht
          have hsn := flipsL_snoc F v cs (s, t)
          rw [← hcs] at hown
          obtain ⟨ps, hps⟩ : ∃ ps, ps = flipsL F v cs := ⟨_, rfl⟩
          have hpl : ps.length ≤ 42 := by rw [hps]; exact Nat.le_trans (flipsL_len _ _ _) hle
          rw [← hps] at hown hsn
          have Hcs := Lib.hid (show allCells n s ++ rowCells s (t + 1) = cs ++ [(s, t)] by rw [rowCells_succ s t ht1, ← List.append_assoc, ← hcs])
          have Hsn := Lib.hid hsn
          have Hpl := Lib.hid (show (cellM ps).length ≤ 42 by rw [cellM_len]; exact hpl)
          have Hown := Lib.hid hown
          have Hbr := Lib.hid hbr
          have HZr := Lib.hid hbr.size
          have hcall := heWay_any N ao c H s t wr (by have := HN.out; omega) HH.out hs1 (by have := HN.out; omega) ht1 (by have := HN.out; omega) (Hm.out.below hbr)
          rw [← HF.out] at hcall
          obtain ⟨x, hx⟩ : ∃ x, x = way F s t := ⟨_, rfl⟩
          rw [← hx] at hcall
          have hsn2 := Hsn.out
          rw [show way F (s, t).1 (s, t).2 = x from hx.symm] at hsn2
          have Hsn2 := Lib.hid hsn2
          have Hcall := Lib.hid hcall
          clear hcs hle hsn hps hpl hown hbr hcall hx hsn2 Hsn
          go_wp2_with fail
          refine Hcall.out.mono ?_
          rintro e w2 ⟨rfl, hb2⟩
          have Hown2 := Lib.hid (Hown.out.below hb2)
          have Hbr2 := Lib.hid (Hbr.out.trans (hb2.mono HZr.out))
          have HZ2 := Lib.hid Hbr2.out.size
          clear hb2 Hown Hbr Hcall
          by_cases hw : x = v
          · have hb : (x == v) = true := by simpa using hw
            rw [if_pos hw] at Hsn2
            clear hw
            have Hnew := Lib.hid ((Below.refl w2.heap.size w2).alloc (Nat.le_refl _) (.cells #[.int .i64 (s : Int), .int .i64 (t : Int)] 3))
            have Hown3 := Lib.hid ((Hown2.out.below Hnew.out).more (r := [(s : Int), (t : Int)]))
            have hu : OwnI (w2.alloc (.cells #[.int .i64 (s : Int), .int .i64 (t : Int)] 3)) w2.heap.size (.slice (some ⟨w2.heap.size, 0, none⟩) 2 2) [(s : Int), (t : Int)] := World.ownsRow_lit w2 #[.int .i64 (s : Int), .int .i64 (t : Int)] 2 (Nat.le_refl _) (by unfold maxLen; omega) rfl
            have Hu := Lib.hid hu
            have Hfr := Lib.hid (Hown2.out.fresh hu (Nat.le_refl _))
            clear hu
            go_wp2_with (at_builtin; refine wpList_append_own _ rfl _ _ 22 rfl w.heap.size 41 j0 (.slice none 0 0) 1 24 Try.underlying22 hj hy0 hy1 hy2 rfl (by decide) _ _ _ rfl (World.ownsRow.alloc Hown3.out.top _) ⟨w2.heap.size + 1, 0, none⟩ 1 1 [.slice (some ⟨w2.heap.size, 0, none⟩) 2 2] rfl rfl ?d1 ?d2 ?d3 ?d4 ?d5 ?_)
            case d1 =>
              have e : (w2.alloc (.cells #[.int .i64 (s : Int), .int .i64 (t : Int)] 3)).heap.size = w2.heap.size + 1 := by simp
              rw [← e]
              exact cell_one_new _ _ _
            case d2 => intro u hu; simp at hu; subst hu; rfl
            case d3 => have := Hpl.out; unfold maxLen; omega
            case d4 => have := Hpl.out; omega
            case d5 => have := HZ2.out; simp; omega
            intro v' w5 hown' hgrow _
            have hput := Hown3.out.snoc (Nat.le_trans HZ2.out Hnew.out.size) (by rw [gr_last]; exact Hu.out.base HZ2.out) Hfr.out hown' hgrow
            have Hput := Lib.hid hput
            have Hb5 := Lib.hid ((Hbr2.out.trans (Hnew.out.mono HZ2.out)).trans hput.2)
            clear hput hown' hgrow
            go_wp2
            go_roundw
            case rel => exact ⟨t + 1, by omega, by omega, by go_num, by rw [Hcs.out, Hsn2.out, cellM_snoc]; exact ⟨_, by rw [List.length_append]; exact Hput.out.1⟩, Hb5.out⟩
            case measure => simp [intOf]; omega
          · have hb : (x == v) = false := by simpa using hw
            rw [if_neg hw] at Hsn2
            clear hw
            go_wp2
            go_roundw
            case rel => exact ⟨t + 1, by omega, by omega, by go_num, by rw [Hcs.out, Hsn2.out]; exact ⟨_, Hown2.out⟩, Hbr2.out⟩
            case measure => simp [intOf]; omega
        · obtain rfl : t = n := by omega
          have Hown := Lib.hid hown
          have Hbr := Lib.hid hbr
          clear hown hbr
          go_wp2
          go_roundw
          case rel => exact ⟨s + 1, by omega, by omega, by go_num, by rw [allCells_succ _ s hs1]; exact Hown.out, Hbr.out⟩
          case measure => simp [intOf]; omega
    · obtain rfl : s = n := by omega
      have Hown := Lib.hid hown
      have Hbr := Lib.hid hbr
      clear hown hbr
      go_wp2
      go_ret
      exact ⟨_, rfl, Hown.out, Hbr.out⟩
end Go.Proofs.Ytopamhcnbocfoaa
