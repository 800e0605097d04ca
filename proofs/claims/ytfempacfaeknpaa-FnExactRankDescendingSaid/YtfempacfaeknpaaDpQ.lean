/- Contract: the rows that can stand below some rows, by the model. Conditions: n in 1 to 6. -/
import Derived.Test.YtfempacfaeknpaaDpO
namespace Go.Proofs.Ytfempacfaeknpaa
open Go.RowKit

theorem filter_take {A : List (List Int)} {p : List Int → Bool} {k : Nat} (h : k < A.length) : (A.take (k + 1)).filter p = (A.take k).filter p ++ if p (gr A k) then [gr A k] else [] := by
  rw [List.take_succ_eq_append_getElem h, List.filter_append, gr_lt h]
  congr 1
  by_cases e : p A[k] <;> simp [e]

set_option maxRecDepth 100000 in
set_option maxHeartbeats 3200000 in
theorem dpNext_any (n : Nat) (h1 : 1 ≤ n) (hn : n ≤ 6) (ao : Option Addr) (c : Nat) (rows : List (List Int)) (w : World) (hs : Small rows) (hm : MatAt w ao rows) :
    Calls Try.prog 88 #[.slice ao rows.length c, .int .i64 n] w fun e w' => ∃ v vs, e = .returned v ∧ OwnV w' w.heap.size v (nextD n rows) vs ∧ Below w.heap.size w w' := by
  have hmx : rows.length ≤ 9223372036854775807 := by have := hs.1; omega
  have Hs := Lib.hid hs
  have Hm := Lib.hid hm
  have CD := Lib.hid (dpRows_any n hn (n - 1) none 0 [] w (by simp; omega) (fun i hi => absurd hi (by simp)) (by simp) (OwnI.nil _ _))
  have Hall := Lib.hid (fun r => rowsD_row (n := n) (n - 1) [] r)
  have hlen := rowsD_len hn (n - 1) [] (fun i hi => absurd hi (by simp))
  have hbl := boundD_le (f := n - 1) (by omega)
  unfold nextD
  obtain ⟨A, hA⟩ : ∃ A, A = rowsD n (n - 1) [] := ⟨_, rfl⟩
  rw [← hA] at CD Hall hlen ⊢
  have hAl : A.length ≤ 9331 := by omega
  have hAm : A.length ≤ 9223372036854775807 := by omega
  clear hs hm hA hlen hbl
  go_enter Try.func88, Try.ntmps88
  go_wp2_with fail
  refine CD.out.mono ?_
  rintro e w2 ⟨v, us, rfl, hv, hb⟩
  obtain ⟨aa, ac, hva, _, _, _⟩ := hv.read
  subst hva
  have HA := Lib.hid hv
  have HB := Lib.hid hb
  have HM2 := Lib.hid (Hm.out.below hb)
  clear hv hb CD Hm
  go_wp2
  go_loopw [5, 11] (fun out i wr => ∃ (k : Nat) (vs : List Value), k ≤ A.length ∧ i = .int .i64 k ∧ OwnV wr w2.heap.size out ((A.take k).filter (belD rows)) vs ∧ Below w2.heap.size w2 wr) (fun _ i _ => A.length - (intOf i).toNat)
  case atStart => exact ⟨0, [], Nat.zero_le _, rfl, OwnV.nil _ _, Below.refl _ _⟩
  case round =>
    obtain ⟨k, vs, hk, rfl, hown, hbr⟩ := hrel
    have Hown := Lib.hid hown
    have Hbr := Lib.hid hbr
    clear hown hbr
    by_cases hlt : k < A.length
    · obtain ⟨b1, o1, r1, d1, e1, hc1, hr1, hi1, _, _⟩ := (HA.out.below Hbr.out).rowAt hlt
      have Hu := Lib.hid (show OwnI wr 0 (.slice r1 (gr A k).length d1) (gr A k) by rw [← hr1]; exact (HA.out.below Hbr.out).rows k hlt)
      have HR := Lib.hid (Hall.out _ (gr_mem hlt))
      have Hst := Lib.hid (filter_take (p := belD rows) hlt)
      have Hlk := Lib.hid (show ((A.take k).filter (belD rows)).length < 1048576 by
        have h1 := List.length_filter_le (belD rows) (A.take k)
        rw [List.length_take] at h1
        omega)
      obtain ⟨F, hF⟩ : ∃ F, F = (A.take k).filter (belD rows) := ⟨_, rfl⟩
      rw [← hF] at Hown Hst Hlk
      obtain ⟨row, hrow⟩ : ∃ row, row = gr A k := ⟨_, rfl⟩
      rw [← hrow] at hc1 hi1 Hu HR Hst
      have Hi1 := Lib.hid hi1
      have hrl : row.length ≤ 6 := by have := HR.out.2.1; omega
      have hrm : row.length ≤ 9223372036854775807 := by omega
      have HBr := Lib.hid Hbr.out.size
      subst e1
      clear hr1 hi1 hF hrow
      by_cases h0 : rows.length = 0
      · have hz : ((rows.length : Int) == 0) = true := by simp [h0]
        have Hb1 := Lib.hid (show belD rows row = true by unfold belD; simp [h0])
        rw [Hb1.out, if_pos rfl] at Hst
        clear h0
        go_wp2_with (at_builtin; refine wpList_rowV rfl _ _ rfl w2.heap.size 0 _ (.slice r1 row.length d1) F vs row Hown.out Hu.out rfl rfl HBr.out Hlk.out ?_)
        intro v7 w7 hown7 hb7
        rw [← Hst.out] at hown7
        have Hown7 := Lib.hid hown7
        have HB7 := Lib.hid (Hbr.out.trans hb7)
        clear hown7 hb7
        go_wp2
        go_roundw
        case rel => exact ⟨k + 1, _, by omega, by go_num, Hown7.out, HB7.out⟩
        case measure => simp [intOf]; omega
      · have hz : ((rows.length : Int) == 0) = false := beq_eq_false_iff_ne.2 (by omega)
        obtain ⟨p, hp⟩ : ∃ p, p = rows.length - 1 := ⟨_, rfl⟩
        have hwp : IntKind.i64.wrap ((rows.length : Int) - 1) = (p : Int) := by rw [w64 (by omega)]; omega
        have hpl : p < rows.length := by omega
        obtain ⟨b3, o3, r3, d3, e3, hc3, hr3, _, _⟩ := (HM2.out.below Hbr.out) p hpl
        have Hr3 := Lib.hid hr3
        have Hlp := Lib.hid (Hs.out.2 p hpl)
        have Hp := Lib.hid (show belD rows row = decide (DpBel row (gr rows p)) by unfold belD; rw [← hp]; simp [h0])
        subst e3
        clear hr3 hp h0
        go_wp2_with fail
        refine (dpBelow_any r1 r3 d1 d3 row (gr rows p) wr HR.out.1 (by omega) Hlp.out Hi1.out Hr3.out).mono ?_
        rintro e w5 ⟨ha, rfl⟩
        by_cases q : DpBel row (gr rows p)
        · rw [Hp.out, decide_eq_true q, if_pos rfl] at Hst
          obtain rfl := ha.is q
          clear q ha hc3
          go_wp2_with (at_builtin; refine wpList_rowV rfl _ _ rfl w2.heap.size 0 _ (.slice r1 row.length d1) F vs row Hown.out Hu.out rfl rfl HBr.out Hlk.out ?_)
          intro v7 w7 hown7 hb7
          rw [← Hst.out] at hown7
          have Hown7 := Lib.hid hown7
          have HB7 := Lib.hid (Hbr.out.trans hb7)
          clear hown7 hb7
          go_wp2
          go_roundw
          case rel => exact ⟨k + 1, _, by omega, by go_num, Hown7.out, HB7.out⟩
          case measure => simp [intOf]; omega
        · rw [Hp.out, decide_eq_false q, if_neg (by simp), List.append_nil] at Hst
          obtain rfl := ha.isnt q
          clear q ha hc3
          go_wp2
          go_roundw
          case rel => exact ⟨k + 1, vs, by omega, by go_num, by rw [Hst.out]; exact Hown.out, Hbr.out⟩
          case measure => simp [intOf]; omega
    · obtain rfl : k = A.length := by omega
      have HF := Lib.hid (show OwnV wr w.heap.size _ (A.filter (belD rows)) vs from by have := Hown.out; rw [List.take_length] at this; exact this.base HB.out.size)
      have HB3 := Lib.hid (HB.out.trans (Hbr.out.mono HB.out.size))
      clear Hown
      go_wp2
      go_ret
      exact ⟨_, vs, rfl, HF.out, HB3.out⟩
end Go.Proofs.Ytfempacfaeknpaa
