/- Contracts of the model: a table with rows and columns exchanged, and whether a table is a sign matrix. -/
import Derived.Test.YtnhkclnloiiihaaSpecA
namespace Go.Proofs.Ytnhkclnloiiihaa
open Go.RowKit

/-- the first t numbers of column k -/
def colTo (m : List (List Int)) (k t : Nat) : List Int := (List.range t).map fun i => gi (gr m i) k
theorem colTo_succ (m : List (List Int)) (k t : Nat) : colTo m k (t + 1) = colTo m k t ++ [gi (gr m t) k] := by simp [colTo, List.range_succ]
theorem colTo_len (m : List (List Int)) (k t : Nat) : (colTo m k t).length = t := by simp [colTo]
theorem colTo_tr {m : List (List Int)} {k : Nat} (hk : k < m.length) : colTo m k m.length = gr (tr m) k := by unfold tr; rw [gr_tab hk]; rfl

set_option maxRecDepth 100000 in
set_option maxHeartbeats 800000 in
theorem sgTurn_any (ao : Option Addr) (c : Nat) (m : List (List Int)) (w : World) (hsq : square m) (hm : MatAt w ao m) :
    Calls Try.prog 146 #[.slice ao m.length c] w fun e w' => ∃ v, e = .returned v ∧ OwnM w' w.heap.size v (tr m) ∧ Below w.heap.size w w' := by
  obtain ⟨i0, hi, hz0, hz1, hz2⟩ := info_parts Try.info_int
  obtain ⟨j0, hj, hy0, hy1, hy2⟩ := info_parts Try.info_ints
  have hn := hsq.2.1
  have hmx : m.length ≤ 9223372036854775807 := by omega
  have Hsq := Lib.hid hsq
  clear hsq
  go_enter Try.func146, Try.ntmps146
  go_wp2
  go_loopw [3, 10] (fun out i wr => ∃ (k : Nat) (vs : List Value), k ≤ m.length ∧ i = .int .i64 k ∧ OwnP wr w.heap.size out k (tr m) k vs ∧ Below w.heap.size w wr) (fun _ i _ => m.length - (intOf i).toNat)
  case atStart => exact ⟨0, [], Nat.zero_le _, rfl, ⟨World.ownsRow_nil _ _ _ _, fun i hi => absurd hi (by omega), fun i j _ hj => absurd hj (by omega)⟩, Below.refl _ _⟩
  case round =>
    obtain ⟨k, vs, hk, rfl, hout, hbr⟩ := hrel
    obtain ⟨wo, rfl⟩ : ∃ wo : World, wo = wr := ⟨_, rfl⟩
    by_cases hlt : k < m.length
    · have Hout := Lib.hid hout
      have Hbr := Lib.hid hbr
      have hmo := Lib.hid (hm.below hbr)
      have hB := hbr.size
      clear hout hbr hm
      go_wp2
      go_loopw [5, 15] (fun row i wr => ∃ t : Nat, t ≤ m.length ∧ i = .int .i64 t ∧ OwnI wr wo.heap.size row (colTo m k t) ∧ Below wo.heap.size wo wr) (fun _ i _ => m.length - (intOf i).toNat)
      case atStart => exact ⟨0, Nat.zero_le _, rfl, OwnI.nil _ _, Below.refl _ _⟩
      case round =>
        obtain ⟨t, ht, rfl, hrow, hbi⟩ := hrel
        by_cases htl : t < m.length
        · obtain ⟨b1, o1, r1, d1, e0, hc1, hx1, _, _⟩ := hmo.out.below hbi t htl
          obtain ⟨b2, o2, e2, hc2⟩ := hx1 k (by rw [Hsq.out.2.2 t htl]; exact hlt)
          have hrl : (gr m t).length = m.length := Hsq.out.2.2 t htl
          rw [hrl] at hc1
          subst e0 e2
          have hB2 := hbi.size
          have Hbi := Lib.hid hbi
          have Hrow := Lib.hid hrow
          clear hbi hx1 hrl hrow
          go_wp2_with (at_builtin; refine wpList_append_own _ rfl _ _ 24 rfl wo.heap.size 3 i0 (.int .i64 0) 1 8 Try.underlying24 hi hz0 hz1 hz2 rfl (by decide) _ _ _ rfl (World.ownsRow.alloc Hrow.out _) ⟨wr.heap.size, 0, none⟩ 1 1 [.int .i64 (gi (gr m t) k)] rfl rfl ?c1 ?c2 ?c3 ?c4 ?c5 ?_)
          case c1 => exact cell_one_new _ _ _
          case c2 => intro u hu; simp at hu; subst hu; rfl
          case c3 => unfold maxLen; rw [colTo_len]; omega
          case c4 => rw [colTo_len]; omega
          case c5 => simp; omega
          intro v' w1 hown' hgrow _
          obtain ⟨hr2, hb2⟩ := Hrow.out.snoc hB2 hown' hgrow
          rw [← colTo_succ] at hr2
          have Hr2 := Lib.hid hr2
          have Hb2 := Lib.hid hb2
          clear hown' hgrow hr2 hb2
          go_wp2
          go_roundw
          case rel => exact ⟨t + 1, by omega, by go_num, Hr2.out, Hbi.out.trans Hb2.out⟩
          case measure => simp [intOf]; omega
        · obtain rfl : t = m.length := by omega
          rw [colTo_tr hlt] at hrow
          obtain ⟨rr, rc, hr, _, _, _⟩ := hrow.read
          have Hrow := Lib.hid hrow
          have hB2 := hbi.size
          have Hout2 := Lib.hid (Hout.out.below hbi)
          have Hbi := Lib.hid hbi
          have hfr := Lib.hid (Hout.out.fresh hrow (Nat.le_refl _))
          clear hrow hbi
          subst hr
          go_wp2_with (at_builtin; refine wpList_append_own _ rfl _ _ 40 rfl w.heap.size 24 j0 (.slice none 0 0) 1 24 Try.underlying40 hj hy0 hy1 hy2 rfl (by decide) _ _ _ rfl (World.ownsRow.alloc Hout2.out.top _) ⟨wr.heap.size, 0, none⟩ 1 1 [.slice rr (gr (tr m) k).length rc] rfl rfl ?d1 ?d2 ?d3 ?d4 ?d5 ?_)
          case d1 => exact cell_one_new _ _ _
          case d2 => intro u hu; simp at hu; subst hu; rfl
          case d3 => unfold maxLen; omega
          case d4 => omega
          case d5 => simp; omega
          intro v' w1 hown' hgrow _
          have hput := Hout2.out.snoc (show w.heap.size ≤ wr.heap.size by omega) (Hrow.out.base hB) hfr.out hown' hgrow
          have Hput := Lib.hid hput
          clear hput hown' hgrow
          go_wp2
          go_roundw
          case rel => exact ⟨k + 1, _, by omega, by go_num, Hput.out.1, (Hbr.out.trans (Hbi.out.mono hB)).trans Hput.out.2⟩
          case measure => simp [intOf]; omega
    · obtain rfl : k = m.length := by omega
      go_wp2
      go_ret
      exact ⟨_, rfl, ⟨vs, by rw [tr_len]; exact hout⟩, hbr⟩

set_option maxRecDepth 100000 in
set_option maxHeartbeats 800000 in
theorem sgGood_any (ao : Option Addr) (c : Nat) (m : List (List Int)) (w : World) (hs : Small m) (hm : MatAt w ao m) :
    Calls Try.prog 124 #[.slice ao m.length c] w fun e w' => Ans (good m) e ∧ Below w.heap.size w w' := by
  by_cases h1 : square m
  · by_cases h2 : rowsOk m
    · have H1 := Lib.hid h1
      have H2 := Lib.hid h2
      have Hs := Lib.hid hs
      have Hm := Lib.hid hm
      clear h1 h2 hs hm
      go_enter Try.func124, Try.ntmps124
      go_wp2_with fail
      refine (sgSquare_any ao c m w Hs.out Hm.out).mono ?_
      rintro e w2 ⟨ha, rfl⟩
      obtain rfl := ha.is H1.out
      clear ha
      go_wp2_with fail
      refine (sgRows_any ao c m w Hs.out Hm.out).mono ?_
      rintro e w2 ⟨ha, rfl⟩
      obtain rfl := ha.is H2.out
      clear ha
      go_wp2_with fail
      refine (sgTurn_any ao c m w H1.out Hm.out).mono ?_
      rintro e w2 ⟨v, rfl, hv, hb⟩
      obtain ⟨a2, c2, rfl, _, _, hr⟩ := hv.read
      have Hr := Lib.hid hr
      have Hb := Lib.hid hb
      clear hv hr hb
      go_wp2_with fail
      refine (sgRows_any a2 c2 (tr m) w2 H1.out.tr.small Hr.out).mono ?_
      rintro e w3 ⟨ha, rfl⟩
      by_cases h3 : rowsOk (tr m)
      · have H3 := Lib.hid h3
        clear h3
        obtain rfl := ha.is H3.out
        clear ha
        go_wp2
        go_ret
        exact ⟨Ans.yes ⟨H1.out, H2.out, H3.out⟩, Hb.out⟩
      · have H3 := Lib.hid h3
        clear h3
        obtain rfl := ha.isnt H3.out
        clear ha
        go_wp2
        go_ret
        exact ⟨Ans.no fun h => H3.out h.2.2, Hb.out⟩
    · have H1 := Lib.hid h1
      have H2 := Lib.hid h2
      have Hs := Lib.hid hs
      have Hm := Lib.hid hm
      clear h1 h2 hs hm
      go_enter Try.func124, Try.ntmps124
      go_wp2_with fail
      refine (sgSquare_any ao c m w Hs.out Hm.out).mono ?_
      rintro e w2 ⟨ha, rfl⟩
      obtain rfl := ha.is H1.out
      clear ha
      go_wp2_with fail
      refine (sgRows_any ao c m w Hs.out Hm.out).mono ?_
      rintro e w2 ⟨ha, rfl⟩
      obtain rfl := ha.isnt H2.out
      clear ha
      go_wp2
      go_ret
      exact ⟨Ans.no fun h => H2.out h.2.1, Below.refl _ _⟩
  · have H1 := Lib.hid h1
    have Hs := Lib.hid hs
    have Hm := Lib.hid hm
    clear h1 hs hm
    go_enter Try.func124, Try.ntmps124
    go_wp2_with fail
    refine (sgSquare_any ao c m w Hs.out Hm.out).mono ?_
    rintro e w2 ⟨ha, rfl⟩
    obtain rfl := ha.isnt H1.out
    clear ha
    go_wp2
    go_ret
    exact ⟨Ans.no fun h => H1.out h.1, Below.refl _ _⟩

set_option maxRecDepth 100000 in
set_option maxHeartbeats 400000 in
theorem specIsSign_any (ao : Option Addr) (c : Nat) (m : List (List Int)) (w : World) (hs : Small m) (hm : MatAt w ao m) :
    Calls Try.prog 40 #[.slice ao m.length c] w fun e w' => Ans (good m) e ∧ Below w.heap.size w w' := by
  have Hs := Lib.hid hs
  have Hm := Lib.hid hm
  clear hs hm
  go_enter Try.func40, Try.ntmps40
  go_wp2_with fail
  refine (sgGood_any ao c m w Hs.out Hm.out).mono ?_
  rintro e w2 ⟨⟨b, rfl, hb⟩, hbel⟩
  have HB := Lib.hid hb
  have Hbel := Lib.hid hbel
  clear hb hbel
  go_wp2
  go_ret
  exact ⟨⟨b, rfl, HB.out⟩, Hbel.out⟩
end Go.Proofs.Ytnhkclnloiiihaa
