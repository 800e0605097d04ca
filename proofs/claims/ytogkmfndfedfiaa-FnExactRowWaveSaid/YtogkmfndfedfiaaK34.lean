/- Parts of proofs: contracts and plain facts. Conditions: as each says. -/
import Derived.Test.YtogkmfndfedfiaaK33
namespace Go.Proofs.Ytogkmfndfedfiaa
open Go.RowKit

theorem fewF {n s t : Nat} {c : Nat → Nat → Int} {col : Int} (hn : n ≤ 6) (hs : s ≤ n) (ht : t ≤ n) : (fcS c col (allCells n s ++ rowCells s t)).length ≤ 42 := Nat.le_trans (fcS_len _ _ _) (fewCells hn hs ht)

set_option maxRecDepth 100000 in
set_option maxHeartbeats 3200000 in
theorem specFlippedCells_any (ao : Option Addr) (cp : Nat) (m : List (List Int)) (col : Int) (w : World) (hs : Small m) (hm : MatAt w ao m) (hcol : -9223372036854775808 ≤ col ∧ col ≤ 9223372036854775807) :
    Calls Try.prog 45 #[.slice ao m.length cp, .int .i64 col] w fun e w' => MRes (fcOk m col) (cellM (fcL m col)) w' w.heap.size e ∧ Below w.heap.size w w' := by
  obtain ⟨j0, hj, hy0, hy1, hy2⟩ := info_parts Try.info_ints
  have Hs := Lib.hid hs
  have Hm := Lib.hid hm
  clear hs hm hcol
  go_enter Try.func45, Try.ntmps45
  go_wp2_with fail
  refine (sgGood_any ao cp m w Hs.out Hm.out).mono ?_
  rintro e w1 ⟨ha, hb⟩
  have Hb := Lib.hid hb
  have HB := Lib.hid hb.size
  clear hb
  by_cases hg : good m
  · have Hg := Lib.hid hg
    have hn := hg.1.2.1
    have hn1 := hg.1.1
    clear hg
    obtain rfl := ha.is Hg.out
    clear ha
    go_wp2_with fail
    refine (l1In_any col 0 1 w1).mono ?_
    rintro e w1' ⟨ha, rfl⟩
    by_cases hc : 0 ≤ col ∧ col ≤ 1
    · have Hc := Lib.hid hc
      obtain rfl := ha.is hc
      clear ha hc
      go_wp2_with fail
      refine (heOf_any ao cp m w1 Hg.out (Hm.out.below Hb.out)).mono ?_
      rintro e w2 ⟨v, rfl, hv, hb2⟩
      obtain ⟨a1, c1, vs, rfl, hvo, hc1, hc2⟩ := hv.open
      rw [ht_len] at hvo hc1 ⊢
      obtain ⟨N, hN⟩ : ∃ N, N = m.length + 1 := ⟨_, rfl⟩
      rw [← hN] at hvo hc1 ⊢
      have HN := Lib.hid hN
      have Hvo := Lib.hid (show OwnP w2 w.heap.size (.slice a1 N c1) N (htT m.length (S2 m)) N vs from hvo.base HB.out)
      have Hb2 := Lib.hid (Hb.out.trans (hb2.mono HB.out))
      have HB2 := Lib.hid Hb2.out.size
      have Hcr := Lib.hid (good_crn Hg.out)
      obtain ⟨n, hnn⟩ : ∃ n, n = m.length := ⟨_, rfl⟩
      rw [← hnn] at hn hn1 Hcr HN Hvo ⊢
      have Hnn := Lib.hid hnn
      clear hN hvo hb2 hv hnn
      go_wp2
      go_loopw [7, 8] (fun out i wr => ∃ s : Nat, 1 ≤ s ∧ s ≤ n ∧ i = .int .i64 s ∧ OwnM wr w2.heap.size out (cellM (fcS (S2 m) col (allCells n s))) ∧ Below w2.heap.size w2 wr) (fun _ i _ => n - (intOf i).toNat)
      case atStart => exact ⟨1, by omega, hn1, rfl, by rw [allCells_one]; exact OwnM.nil _ _, Below.refl _ _⟩
      case round =>
        obtain ⟨s, hs1, hs, rfl, hown, hbr⟩ := hrel
        by_cases hlt : s < n
        · have Hown := Lib.hid hown
          have Hbr := Lib.hid hbr
          clear hown hbr
          go_wp2
          go_loopw [7, 9] (fun out j wr => ∃ t : Nat, 1 ≤ t ∧ t ≤ n ∧ j = .int .i64 t ∧ OwnM wr w2.heap.size out (cellM (fcS (S2 m) col (allCells n s ++ rowCells s t))) ∧ Below w2.heap.size w2 wr) (fun _ j _ => n - (intOf j).toNat)
          case atStart => exact ⟨1, by omega, hn1, by go_num, by rw [rowCells_one, List.append_nil]; exact Hown.out, Hbr.out⟩
          case round =>
            obtain ⟨t, ht1, ht, rfl, hown, hbr⟩ := hrel
            by_cases htl : t < n
            · obtain ⟨us, hown⟩ := hown
              have hsn := fcS_snoc (S2 m) col (allCells n s ++ rowCells s t) (s, t)
              rw [← mod2, List.append_assoc, ← rowCells_succ s t ht1] at hsn
              have hpl : (fcS (S2 m) col (allCells n s ++ rowCells s t)).length ≤ 42 := fewF hn hs ht
              obtain ⟨ps, hps⟩ : ∃ ps, ps = fcS (S2 m) col (allCells n s ++ rowCells s t) := ⟨_, rfl⟩
              rw [← hps] at hown hsn hpl
              have Hsn := Lib.hid hsn
              have Hpl := Lib.hid (show (cellM ps).length ≤ 42 by rw [cellM_len]; exact hpl)
              have Hown := Lib.hid hown
              have Hbr := Lib.hid hbr
              have HZr := Lib.hid hbr.size
              have hinn : inn n (s, t) := ⟨hs1, hlt, ht1, htl⟩
              have hcall := fun (wq : World) (h : OwnP wq w.heap.size (.slice a1 N c1) N (htT n (S2 m)) N vs) => heWay_htT (by rw [HN.out]) hn Hcr.out hinn h
              obtain ⟨x, hx⟩ : ∃ x, x = way (hOf (S2 m)) s t := ⟨_, rfl⟩
              rw [← hx] at hcall
              have hcan : canB (S2 m) (s, t) = (x != 0) := by
                unfold canB
                show (!(way (hOf (S2 m)) s t == 0)) = (x != 0)
                rw [← hx]
                rfl
              have Hcan := Lib.hid hcan
              have Hvr := Lib.hid (show OwnP wr w.heap.size (.slice a1 N c1) N (htT n (S2 m)) N vs from Hvo.out.below hbr)
              have Hcall := Lib.hid (hcall wr Hvr.out)
              clear hsn hpl hps hown hbr hinn hcall hx hcan
              by_cases hw : ((s : Int) + t) % 2 = col
              · have hb : (((s : Int) + t) % 2 == col) = true := by simpa using hw
                have Hw := Lib.hid hw
                clear hw
                go_wp2_with fail
                refine Hcall.out.mono ?_
                rintro e w3 ⟨rfl, hb3⟩
                have Hown3 := Lib.hid (Hown.out.below hb3)
                have Hbr3 := Lib.hid (Hbr.out.trans (hb3.mono HZr.out))
                have HZ3 := Lib.hid Hbr3.out.size
                clear hb3 Hown Hcall
                by_cases hx0 : x = 0
                · have hbx : (x != 0) = false := by simp [hx0]
                  rw [if_neg (fun h => by rw [Hcan.out, hbx] at h; cases h.2)] at Hsn
                  clear hx0
                  go_wp2
                  go_roundw
                  case rel => exact ⟨t + 1, by omega, by omega, by go_num, by rw [Hsn.out]; exact ⟨_, Hown3.out⟩, Hbr3.out⟩
                  case measure => simp [intOf]; omega
                · have hbx : (x != 0) = true := by simp [hx0]
                  rw [if_pos ⟨Hw.out, by rw [Hcan.out, hbx]⟩] at Hsn
                  clear hx0
                  have Hnew := Lib.hid ((Below.refl w3.heap.size w3).alloc (Nat.le_refl _) (.cells #[.int .i64 (s : Int), .int .i64 (t : Int)] 3))
                  have Hown4 := Lib.hid ((Hown3.out.below Hnew.out).more (r := [(s : Int), (t : Int)]))
                  have hu : OwnI (w3.alloc (.cells #[.int .i64 (s : Int), .int .i64 (t : Int)] 3)) w3.heap.size (.slice (some ⟨w3.heap.size, 0, none⟩) 2 2) [(s : Int), (t : Int)] := World.ownsRow_lit w3 #[.int .i64 (s : Int), .int .i64 (t : Int)] 2 (Nat.le_refl _) (by unfold maxLen; omega) rfl
                  have Hu := Lib.hid hu
                  have Hfr := Lib.hid (Hown3.out.fresh hu (Nat.le_refl _))
                  clear hu
                  go_wp2_with (at_builtin; refine wpList_append_own _ rfl _ _ 22 rfl w2.heap.size 41 j0 (.slice none 0 0) 1 24 Try.underlying22 hj hy0 hy1 hy2 rfl (by decide) _ _ _ rfl (World.ownsRow.alloc Hown4.out.top _) ⟨w3.heap.size + 1, 0, none⟩ 1 1 [.slice (some ⟨w3.heap.size, 0, none⟩) 2 2] rfl rfl ?d1 ?d2 ?d3 ?d4 ?d5 ?_)
                  case d1 =>
                    have e : (w3.alloc (.cells #[.int .i64 (s : Int), .int .i64 (t : Int)] 3)).heap.size = w3.heap.size + 1 := by simp
                    rw [← e]
                    exact cell_one_new _ _ _
                  case d2 => intro u hu; simp at hu; subst hu; rfl
                  case d3 => have := Hpl.out; unfold maxLen; omega
                  case d4 => have := Hpl.out; omega
                  case d5 => have := HZ3.out; simp; omega
                  intro v' w5 hown' hgrow _
                  have hput := Hown4.out.snoc (Nat.le_trans HZ3.out Hnew.out.size) (by rw [gr_last]; exact Hu.out.base HZ3.out) Hfr.out hown' hgrow
                  have Hput := Lib.hid hput
                  have Hb5 := Lib.hid ((Hbr3.out.trans (Hnew.out.mono HZ3.out)).trans hput.2)
                  clear hput hown' hgrow
                  go_wp2
                  go_roundw
                  case rel => exact ⟨t + 1, by omega, by omega, by go_num, by rw [Hsn.out, cellM_snoc]; exact ⟨_, by rw [List.length_append]; exact Hput.out.1⟩, Hb5.out⟩
                  case measure => simp [intOf]; omega
              · have hb : (((s : Int) + t) % 2 == col) = false := by simpa using hw
                rw [if_neg (fun h => hw h.1)] at Hsn
                clear hw
                go_wp2
                go_roundw
                case rel => exact ⟨t + 1, by omega, by omega, by go_num, by rw [Hsn.out]; exact ⟨_, Hown.out⟩, Hbr.out⟩
                case measure => simp [intOf]; omega
            · obtain rfl : t = n := by omega
              have Hown := Lib.hid hown
              have Hbr := Lib.hid hbr
              clear hown hbr
              go_wp2
              go_roundw
              case rel => exact ⟨s + 1, by omega, by omega, by go_num, by rw [allCells_succ _ s hs1]; exact Hown.out, Hbr.out⟩
              case measure => simp [intOf]; omega
        · obtain rfl : s = n := by omega
          have Hown := Lib.hid hown
          have Hbr := Lib.hid hbr
          clear hown hbr
          go_wp2
          go_ret2
          exact ⟨MRes.yes ⟨Hg.out, Hc.out⟩ (by unfold fcL; rw [← Hnn.out]; exact Hown.out.base HB2.out), Hb2.out.trans (Hbr.out.mono HB2.out)⟩
    · have Hc := Lib.hid hc
      obtain rfl := ha.isnt hc
      clear ha hc
      go_wp2
      go_ret2
      exact ⟨MRes.no (fun h => Hc.out h.2), Hb.out⟩
  · have Hg := Lib.hid hg
    clear hg
    obtain rfl := ha.isnt Hg.out
    clear ha
    go_wp2
    go_ret2
    exact ⟨MRes.no (fun h => Hg.out h.1), Hb.out⟩
end Go.Proofs.Ytogkmfndfedfiaa

