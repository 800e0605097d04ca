/- Contracts: the first triangle under a row, by the program and by the model. Condition: lengths up to 2^20; the capacity is no less than the length. -/
import Derived.Test.YtcifcombbdblgaaTriI
import Derived.Test.YtcifcombbdblgaaOwn
import Derived.Test.YtcifcombbdblgaaImplC
namespace Go.Proofs.Ytcifcombbdblgaa
open Go.RowKit

/-- a row's beginnings -/
def firstU (xs : List Int) : List (List Int) := (List.range xs.length).map fun i => xs.take (i + 1)
theorem firstU_len (xs : List Int) : (firstU xs).length = xs.length := by simp [firstU]
theorem gr_firstU {xs : List Int} {i : Nat} (h : i < xs.length) : gr (firstU xs) i = xs.take (i + 1) := by
  rw [gr_lt (by rw [firstU_len]; exact h)]
  simp [firstU]
theorem firstU_small {xs : List Int} (h : xs.length ≤ 1048576) : Small (firstU xs) := ⟨by rw [firstU_len]; exact h, fun i hi => by rw [firstU_len] at hi; rw [gr_firstU hi, List.length_take]; omega⟩

set_option maxHeartbeats 800000 in
theorem implFirstUnder_any (ao : Option Addr) (c : Nat) (xs : List Int) (w : World) (hn : xs.length ≤ 1048576) (_ : WfI xs) (hx : IntsAt w ao xs) (hc1 : xs.length ≤ c) (hc2 : c ≤ 9223372036854775807) :
    Calls Try.prog 18 #[.slice ao xs.length c] w fun e w' => MRes (isRowP xs) (firstU xs) w' w.heap.size e ∧ Below w.heap.size w w' := by
  obtain ⟨i0, hi, hz0, hz1, hz2⟩ := info_parts Try.info_ints
  have hmx : xs.length ≤ 9223372036854775807 := by omega
  have Hx := Lib.hid hx
  clear hx
  by_cases hg : isRowP xs
  · have Hg := Lib.hid hg
    have h0 := hg.1
    clear hg
    go_enter Try.func18, Try.ntmps18
    go_wp2_with fail
    refine (isRow_any ao c xs w hn Hx.out).mono ?_
    rintro e w2 ⟨ha, rfl⟩
    obtain rfl := ha.is Hg.out
    clear ha
    go_wp2_with (at_make; refine wpList_make_full _ rfl _ _ 22 rfl w.heap.size 29 i0 (.slice none 0 0) 1 Try.underlying22 hi hz0 hz1 _ _ _ _ xs.length rfl rfl rfl rfl ?c1 ?c2 ?c3 ?_)
    case c1 => rw [hz2]; omega
    case c2 => unfold maxLen; omega
    case c3 => simp
    intro w1 hown hgr
    have hb1 : Below w.heap.size w w1 := (Below.refl _ _).grown hgr (Nat.le_refl _) (fun _ h => by cases h)
    have hown1 := OwnP.made (m := firstU xs) hown
    clear hown hgr
    go_wp2
    go_loopw [14] (fun i wr => ∃ (k : Nat) (vs : List Value), k ≤ xs.length ∧ i = .int .i64 k ∧ OwnP wr w.heap.size (.slice (some ⟨w.heap.size, 0, none⟩) xs.length xs.length) xs.length (firstU xs) k vs ∧ Below w.heap.size w wr)
      (fun i _ => xs.length - (intOf i).toNat)
    case atStart => exact ⟨0, _, Nat.zero_le _, rfl, hown1, hb1⟩
    case round =>
      obtain ⟨k, vs, hk, rfl, hown, hbr⟩ := hrel
      clear hown1 hb1
      by_cases hlt : k < xs.length
      · have hB := hbr.size
        obtain ⟨cur, hcur⟩ := ownsRow_block hown.top
        have hgl := lt_of_block hcur
        obtain ⟨b, o, rfl, _⟩ := Hx.out k hlt
        have Hown := Lib.hid hown
        have Hcur := Lib.hid hcur
        have hr := ((Hx.out.below hbr).take (k + 1))
        have Hr := Lib.hid hr
        have ht : (xs.take (k + 1)).length = k + 1 := by rw [List.length_take]; omega
        have Ht := Lib.hid ht
        have hk1 : k + 1 ≤ c := by omega
        clear hown hcur hr ht
        go_wp2_with fail
        have hcall := sClone_any (some ⟨b, o, none⟩) c (xs.take (k + 1)) wr (by have := Ht.out; omega) Hr.out
        rw [Ht.out] at hcall
        refine hcall.mono ?_
        rintro e w2 ⟨v, rfl, hv, hb2⟩
        clear hcall
        obtain ⟨rv, cv, hvv, _, _, _⟩ := hv.read
        rw [Ht.out] at hvv
        subst hvv
        have hown2 := Hown.out.below hb2
        have hd := hown2.cellAt k hlt
        have hf : w2.frozen? ⟨w.heap.size, k, none⟩ = false := World.ownsRow.frozenAt hown2.top k
        have Hput := Lib.hid (hown2.put hlt (by rw [gr_firstU hlt]; exact hv.base hB) (Hown.out.fresh hv (Nat.le_refl _)))
        have Hbs := Lib.hid ((hbr.trans (hb2.mono hB)).setCell (p := ⟨w.heap.size, k, none⟩) (Nat.le_refl _) (.slice rv (k + 1) cv))
        clear hown2 hv hb2
        go_wp2
        go_roundw
        case rel => exact ⟨k + 1, _, by omega, by go_num, Hput.out, Hbs.out⟩
        case measure => simp [intOf]; omega
      · obtain rfl : k = xs.length := by omega
        go_wp2
        go_ret2
        exact ⟨MRes.yes Hg.out ⟨vs, by rw [firstU_len]; exact hown⟩, hbr⟩
  · have Hg := Lib.hid hg
    clear hg
    go_enter Try.func18, Try.ntmps18
    go_wp2_with fail
    refine (isRow_any ao c xs w hn Hx.out).mono ?_
    rintro e w2 ⟨ha, rfl⟩
    obtain rfl := ha.isnt Hg.out
    clear ha
    go_wp2
    go_ret2
    exact ⟨MRes.no Hg.out, Below.refl _ _⟩

/-- the beginnings from that of k numbers on -/
theorem firstU_drop {xs : List Int} {k : Nat} (h : k < xs.length) : (firstU xs).drop k = xs.take (k + 1) :: (firstU xs).drop (k + 1) := by
  rw [List.drop_eq_getElem_cons (by rw [firstU_len]; exact h)]
  simp [firstU]

set_option maxHeartbeats 800000 in
theorem specFirstUnder_any (ao : Option Addr) (c : Nat) (xs : List Int) (w : World) (hn : xs.length ≤ 1048576) (hx : IntsAt w ao xs) (hc1 : xs.length ≤ c) (hc2 : c ≤ 9223372036854775807) :
    Calls Try.prog 16 #[.slice ao xs.length c] w fun e w' => MRes (isRowP xs) (firstU xs) w' w.heap.size e ∧ Below w.heap.size w w' := by
  obtain ⟨j0, hj, hy0, hy1, hy2⟩ := info_parts Try.info_ints
  have hmx : xs.length ≤ 9223372036854775807 := by omega
  have Hx := Lib.hid hx
  clear hx
  by_cases hg : isRowP xs
  · have Hg := Lib.hid hg
    have h0 := hg.1
    have h6 := hg.2.1
    clear hg
    go_enter Try.func16, Try.ntmps16
    go_wp2_with fail
    refine (trRow_any ao c xs w hn Hx.out).mono ?_
    rintro e w2 ⟨ha, rfl⟩
    obtain rfl := ha.is Hg.out
    clear ha
    go_wp2_with fail
    refine (l1Own_any ao c xs w hn (fun e => by subst e; obtain ⟨b, o, e, _⟩ := Hx.out 0 (by omega); cases e) Hx.out).mono ?_
    rintro e w1 ⟨v, rfl, hv, hb⟩
    obtain ⟨rv, cv, rfl, hcv, hcv2, _⟩ := hv.read
    have Hv := Lib.hid hv
    have Hb := Lib.hid hb
    clear hv hb
    go_wp2
    go_loopw [0, 4] (fun row out wr => ∃ (k : Nat) (r : Option Addr) (cr : Nat) (vs : List Value), k < xs.length ∧ row = .slice r (k + 1) cr ∧ k + 1 ≤ cr ∧ cr ≤ 9223372036854775807 ∧ IntsAt wr r (xs.take (k + 1)) ∧
        OwnP wr w.heap.size out (xs.length - k) ((firstU xs).drop k) (xs.length - k) vs ∧ Below w.heap.size w wr) (fun row _ _ => slLen row)
    case atStart =>
      have hb1 : Below w1.heap.size w1 (w1.alloc (.cells #[.slice rv xs.length cv] 29)) := (Below.refl _ _).alloc (Nat.le_refl _) _
      refine ⟨xs.length - 1, ao, c, [.slice rv xs.length cv], by omega, by rw [show xs.length - 1 + 1 = xs.length from by omega], by omega, hc2, ?_, ⟨?_, fun i hi => ?_, fun i j hij hj => absurd hj (by omega)⟩, Hb.out.trans (hb1.mono Hb.out.size)⟩
      · rw [show xs.length - 1 + 1 = xs.length from by omega, List.take_length]
        exact (Hx.out.below Hb.out).below hb1
      · rw [show xs.length - (xs.length - 1) = 1 from by omega]
        exact ownsRow_built (e := 29) w1 [.slice rv xs.length cv] Hb.out.size (by simp)
      · obtain rfl : i = 0 := by omega
        rw [firstU_drop (by omega), show xs.length - 1 + 1 = xs.length from by omega, List.take_length]
        exact Hv.out.below hb1
    case round =>
      obtain ⟨k, r, cr, vs, hk, rfl, hcr, hcr2, hrd, hown, hbr⟩ := hrel
      have Hrd := Lib.hid hrd
      have Hown := Lib.hid hown
      have Hbr := Lib.hid hbr
      clear hrd hown hbr
      by_cases hk0 : 0 < k
      · have hd : decide ((1 : Int) < (k : Int) + 1) = true := by simp; omega
        have hB := Hbr.out.size
        have ht : ((xs.take (k + 1)).take k).length = k := by rw [List.length_take, List.length_take]; omega
        have e1 : (xs.take (k + 1)).take k = xs.take k := by rw [List.take_take, show min k (k + 1) = k from by omega]
        rw [e1] at ht
        have Ht := Lib.hid ht
        have E1 := Lib.hid e1
        have hkc : k ≤ cr := by omega
        clear ht e1
        go_wp2_with fail
        have hcall := l1Own_any r cr (xs.take k) wr (by have := Ht.out; omega) (fun e => by subst e; obtain ⟨b, o, e, _⟩ := Hrd.out 0 (by rw [List.length_take]; omega); cases e) (by have := Hrd.out.take k; rw [E1.out] at this; exact this)
        rw [Ht.out] at hcall
        refine hcall.mono ?_
        rintro e w2 ⟨v, rfl, hv, hb2⟩
        clear hcall
        obtain ⟨rv, cv, hvv, hcv1, hcv2, hvr⟩ := hv.read
        rw [Ht.out] at hvv hcv1
        subst hvv
        have Hown2 := Lib.hid (Hown.out.below hb2)
        have Hfr := Lib.hid (Hown.out.fresh hv (Nat.le_refl _))
        have Hv := Lib.hid (hv.base hB)
        have Hb2 := Lib.hid (Hbr.out.trans (hb2.mono hB))
        have Hvr := Lib.hid hvr
        obtain ⟨ao2, co2, hout, hco, hco2, hcells⟩ := ownsRow_read Hown2.out.top
        subst hout
        have Hcells := Lib.hid hcells
        have hB2 := Hb2.out.size
        have Hlen := Lib.hid (show vs.length = xs.length - k by simpa using Hown2.out.top.1)
        obtain ⟨b2, o2, hao2, _⟩ := hcells 0 (by omega)
        subst hao2
        clear hv hb2 hvr hcells Hown
        go_wp2_with (at_builtin; refine wpList_append_own _ rfl _ _ 22 rfl w.heap.size 29 j0 (.slice none 0 0) 1 24 Try.underlying22 hj hy0 hy1 hy2 rfl (by decide) _ _ _ rfl (ownsRow_built (e := 29) w2 [.slice rv k cv] hB2 (by simp)) ⟨b2, o2, none⟩ (xs.length - k) co2 vs rfl ?e1 ?e2 ?e3 ?e4 ?e5 ?e6 ?_)
        case e1 => rw [Hlen.out]; omega
        case e2 =>
          intro j u hj
          have hjl : j < vs.length := (List.getElem?_eq_some_iff.1 hj).1
          obtain ⟨b3, o3, e3, hc3⟩ := Hcells.out j (by rw [← Hlen.out]; exact hjl)
          cases e3
          rw [Addr.add_lit]
          refine Lib.cell?_alloc_some _ ?_
          rw [hc3, List.getD, hj]
          rfl
        case e3 =>
          intro u hu
          obtain ⟨i, hi, rfl⟩ := List.mem_iff_getElem.1 hu
          have := (Hown2.out.rows i (by rw [← Hlen.out]; exact hi)).read
          rw [List.getD, List.getElem?_eq_getElem hi] at this
          obtain ⟨_, _, e, _⟩ := this
          rw [show vs[i] = (some vs[i]).getD undef from rfl, e]
          rfl
        case e4 => unfold maxLen; simp; omega
        case e5 => simp; omega
        case e6 => simp; omega
        intro v' w3 hown' hgrow _
        have hb3 : Below w2.heap.size w2 w3 := ((Below.refl _ w2).alloc (Nat.le_refl _) _).grown hgrow (by simp) (by intro k hk; simp [Value.ownBlock] at hk; omega)
        have Hput := Lib.hid (Hown2.out.front Hv.out Hfr.out (by simpa using hown') hb3)
        have Hb3 := Lib.hid (Hb2.out.trans (hb3.mono hB2))
        have Hrd3 := Lib.hid (Hvr.out.below hb3)
        clear hown' hgrow hb3
        go_wp2
        go_roundw
        case rel =>
          refine ⟨k - 1, _, _, .slice rv k cv :: vs, by omega, by rw [show k - 1 + 1 = k from by omega], by omega, hcv2, by rw [show k - 1 + 1 = k from by omega]; exact Hrd3.out, ?_, Hb3.out⟩
          rw [firstU_drop (by omega), show k - 1 + 1 = k from by omega, show xs.length - (k - 1) = xs.length - k + 1 from by omega]
          exact Hput.out
        case measure => simp [slLen]
      · have hd : decide ((1 : Int) < (k : Int) + 1) = false := by simp; omega
        go_wp2
        go_ret2
        obtain rfl : k = 0 := by omega
        refine ⟨MRes.yes Hg.out ⟨vs, ?_⟩, Hbr.out⟩
        rw [firstU_len]
        exact Hown.out
  · have Hg := Lib.hid hg
    clear hg
    go_enter Try.func16, Try.ntmps16
    go_wp2_with fail
    refine (trRow_any ao c xs w hn Hx.out).mono ?_
    rintro e w2 ⟨ha, rfl⟩
    obtain rfl := ha.isnt Hg.out
    clear ha
    go_wp2
    go_ret2
    exact ⟨MRes.no Hg.out, Below.refl _ _⟩
end Go.Proofs.Ytcifcombbdblgaa
