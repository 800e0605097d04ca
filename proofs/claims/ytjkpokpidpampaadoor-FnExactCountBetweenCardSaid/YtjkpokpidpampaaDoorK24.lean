/- Parts of proofs: contracts and plain facts. Conditions: as each says. -/
import Derived.Test.YtjkpokpidpampaaDoorK23
namespace Go.Proofs.YtjkpokpidpampaaDoor
open Go.RowKit

/-- a guarded load of a struct whose guard is true -/
theorem wpList_loadQ {P : Program} {ops : Array Oper} {rest : List Oper} {o : Oper} {a : Act} {w : World} {Q : Exit → Act → World → Prop} (hw : Region.wanted o (yielded ops a.tmps) = true) (ty : TypeId) (x : Operand) (ho : o.op = .load ty x)
    (g : Nat) (hx : a.eval x = .pointer (some ⟨g, 0, none⟩)) (cs : Array Value) (d : TypeDesc) (hg : w.heap[g]? = some (.cells cs ty (0, 0)))
    (hu : P.underlying ty = some d) (hd : (match d with | .struct _ | .array _ _ => true | _ => false) = true) (hi : (P.info? ty).map (·.size) = some cs.size)
    (h : wpList P ops Q rest (a.put o.dst (.agg cs)) w) : wpList P ops Q (o :: rest) a w :=
  wpList_step fun K hK => by
    rw [if_pos hw]
    exact wp_load_row ty x ho g hx ty cs (0, 0) d hg hu hd hi (hK _ _ h)

set_option maxRecDepth 100000 in
set_option maxHeartbeats 3200000 in
theorem implCountBetween_any (ao : Option Addr) (c : Nat) (m : List (List Int)) (bo : Option Addr) (d : Nat) (k : List (List Int)) (w : World) (hs : Small m) (hwf : WfM m) (hm : MatAt w ao m) (hc : m.length ≤ c) (hc2 : c ≤ 9223372036854775807)
    (hs2 : Small k) (hwf2 : WfM k) (hk : MatAt w bo k) (hd : k.length ≤ d) (hd2 : d ≤ 9223372036854775807) (hD : Dj w) :
    Calls Tryd.prog 9 #[.slice ao m.length c, .slice bo k.length d] w fun e w' => IRes (cbOk m k) (cntB m k (allI m.length) : Nat) e ∧ Below w.heap.size w w' := by
  have hmx : m.length ≤ 9223372036854775807 := by have := hs.1; omega
  have Hcall := Lib.hid (terrainsOf_any ao bo c d m k w hs hs2 hwf hwf2 hm hk hc hc2 hd hd2)
  have HD := Lib.hid hD
  clear hs hm hs2 hk hwf hwf2 hc hc2 hd hd2 hD
  go_enter Tryd.func9, Tryd.ntmps9
  go_wp2_with fail
  refine Hcall.out.mono ?_
  rintro e w2 ⟨ht, hb⟩
  have Hb := Lib.hid hb
  have HB := Lib.hid hb.size
  clear hb Hcall
  rcases ht with ⟨hp, rfl⟩ | ⟨hp, rfl⟩
  · have Hp := Lib.hid hp
    have hn := hp.1.1.2.1
    have hn1 := hp.1.1.1
    have Hn1 := Lib.hid ((good_crn hp.1).near hp.1.1.2.1)
    have Hn2 := Lib.hid ((good_crn hp.2.1).near hp.2.1.1.2.1)
    clear hp
    go_upto_region 2 with (first
      | (refine wpList_allocT rfl 42 rfl _ _ Tryd.info_terr ?_)
      | (refine wpList_storeG rfl 42 _ _ rfl w2.heap.size (tc m.length (pad m.length (hOf (S2 m)))) _ rfl rfl (two_bot w2 _ 0 z0) (Tryd.size_terr _ _) (tc_same _ _ _ _) (tc_one _ _) ?_)
      | (refine wpList_storeG rfl 42 _ _ rfl (w2.alloc (.cells (tc 0 z0) 42)).heap.size (tc k.length (pad k.length (hOf (S2 k)))) _ rfl rfl ((TerrAt.new (w2.alloc (.cells (tc 0 z0) 42)) 0 z0).setRow_other (g' := w2.heap.size) (by simp) _) (Tryd.size_terr _ _) (tc_same _ _ _ _) (tc_one _ _) ?_))
    generalize hW : World.alloc (World.alloc w2 _) _ = w3
    have hb3 : Below w2.heap.size w2 w3 := by rw [← hW]; exact two_below w2 _ _
    have hA3 : TerrAt w3 w2.heap.size 0 z0 := by rw [← hW]; exact two_bot w2 _ _ _
    have hB3 : TerrAt w3 (w2.heap.size + 1) 0 z0 := by rw [← hW]; exact two_top w2 _ _ _
    clear hW
    generalize hW : World.setRow (World.setRow w3 w2.heap.size (tc m.length (pad m.length (hOf (S2 m))))) (w2.heap.size + 1) (tc k.length (pad k.length (hOf (S2 k)))) = w4
    have hT1 : TerrAt w4 w2.heap.size m.length (pad m.length (hOf (S2 m))) := by rw [← hW]; exact (hA3.setRow _ _).setRow_other (by omega) _
    have hT2 : TerrAt w4 (w2.heap.size + 1) k.length (pad k.length (hOf (S2 k))) := by rw [← hW]; exact (hB3.setRow_other (by omega) _).setRow _ _
    have hb4 : Below w.heap.size w w4 := by rw [← hW]; exact below_setRowT (below_setRowT (Hb.out.trans (hb3.mono HB.out)) HB.out _) (show w.heap.size ≤ w2.heap.size + 1 by have := HB.out; omega) _
    clear hW hA3 hB3 hb3
    obtain ⟨N, hN⟩ : ∃ N, N = m.length := ⟨_, rfl⟩
    have HN := Lib.hid hN
    have hkN : k.length = N := by rw [hN]; exact Hp.out.2.2.symm
    rw [hkN] at hT2
    rw [← hN] at hT1
    have hne : w2.heap.size ≠ w2.heap.size + 1 := by omega
    obtain ⟨g1, hg1⟩ : ∃ g1, g1 = w2.heap.size := ⟨_, rfl⟩
    obtain ⟨g2, hg2⟩ : ∃ g2, g2 = w2.heap.size + 1 := ⟨_, rfl⟩
    rw [← hg1] at hT1
    rw [← hg2] at hT2
    rw [← hg2, ← hg1]
    have HT1 := Lib.hid hT1
    have HT2 := Lib.hid hT2
    have Hb4 := Lib.hid hb4
    have HB4 := Lib.hid hb4.size
    have HkN := Lib.hid hkN
    have F1 := Lib.hid (show Fits7 (pad N (hOf (S2 m))) by rw [hN]; exact Hn1.out.fits)
    have F2 := Lib.hid (show Fits7 (pad N (hOf (S2 k))) by rw [← hkN]; exact Hn2.out.fits)
    rw [← hN] at hn hn1 hmx ⊢
    clear hT1 hT2 hb4 hN hkN hg1 hg2 hne
    by_cases h4 : N ≤ 4
    · have hd4 : decide ((4 : Int) < (N : Int)) = false := by simp; omega
      have CA := Lib.hid (implAllSigns_any (N : Int) w4 (by omega) (HD.out.next Hb4.out))
      have Hal := Lib.hid (show alOk (N : Int) from ⟨by omega, by omega⟩)
      go_wp2_with fail
      refine CA.out.mono ?_
      rintro e w5 ⟨⟨v, b, r, rfl, hv, hr⟩, hb5⟩
      obtain ⟨rfl, rfl⟩ : b = true ∧ r = allI N := by
        rcases hr with ⟨_, h2, h3⟩ | ⟨h2, _⟩
        · exact ⟨h2, by rw [h3, Int.toNat_natCast]⟩
        · exact absurd Hal.out h2
      have Hgood := Lib.hid (fun i (hi : i < (allI N).length) => allI_good (n := N) (by omega) (by omega) hi)
      have hTl := (small3B_ok (allI_smallB N (by omega))).1
      obtain ⟨T, hT⟩ : ∃ T, T = allI N := ⟨_, rfl⟩
      have HTe := Lib.hid hT
      rw [← hT] at hv Hgood hTl
      obtain ⟨va, vc, vs, uss, rfl, hl⟩ := hv.open
      have Hl := Lib.hid hl
      have hTmx : T.length ≤ 9223372036854775807 := by omega
      have HT1 := Lib.hid (HT1.out.below hb5)
      have HT2 := Lib.hid (HT2.out.below hb5)
      have Hb5 := Lib.hid (Hb4.out.trans (hb5.mono HB4.out))
      have HB5 := Lib.hid Hb5.out.size
      clear hT hv hl hr hb5 CA
      go_wp2
      go_loopw [11, 37] (fun q i wr => ∃ t : Nat, t ≤ T.length ∧ i = .int .i64 t ∧ q = .int .i64 (cntB m k (T.take t) : Nat) ∧ Below w5.heap.size w5 wr) (fun _ i _ => T.length - (intOf i).toNat)
      case atStart => exact ⟨0, Nat.zero_le _, rfl, by rw [cntB_zero]; rfl, Below.refl _ _⟩
      case round =>
        obtain ⟨t, htl, rfl, rfl, hbr⟩ := hrel
        have Hbr := Lib.hid hbr
        have HBr := Lib.hid hbr.size
        clear hbr
        by_cases hlt : t < T.length
        · obtain ⟨b5, o5, r5, d5, rfl, hc5, _, hd5, hd52, hm5⟩ := (Hl.out.below Hbr.out).at hlt
          obtain ⟨hg5, hl5⟩ := Hgood.out t hlt
          have hcs := cntB_succ (m := m) (k := k) hlt
          have hcl := cntB_le m k T t
          obtain ⟨x, hx⟩ : ∃ x, x = gt T t := ⟨_, rfl⟩
          rw [← hx] at hc5 hm5 hg5 hl5 hcs hd5
          have HO := Lib.hid (terrainOf_any r5 d5 x wr hg5 hm5 hd5 hd52)
          have Hg5 := Lib.hid hg5
          have Hl5 := Lib.hid hl5
          have Hcs := Lib.hid hcs
          have Hnx := Lib.hid ((good_crn hg5).near hg5.1.2.1)
          rw [hl5] at HO hc5
          obtain ⟨q0, hq0⟩ : ∃ q0, q0 = cntB m k (T.take t) := ⟨_, rfl⟩
          have Hq0 := Lib.hid hq0
          rw [← hq0] at hcl ⊢
          clear hm5 hg5 hl5 hcs hx hq0 hd5 hd52
          go_wp2_with fail
          refine HO.out.mono ?_
          rintro e w6 ⟨rfl, hb6⟩
          have Hb46 := Lib.hid (Hbr.out.trans (hb6.mono HBr.out))
          have HB46 := Lib.hid Hb46.out.size
          clear hb6 HO
          go_upto_region 10 with (first
            | (refine wpList_allocT rfl 42 rfl _ _ Tryd.info_terr ?_)
            | (refine wpList_storeT rfl 42 _ _ rfl (tc N (pad N (hOf (S2 x)))) (tc 0 z0) w6.heap.size rfl rfl rfl (Tryd.size_terr N _) (tc_same _ _ _ _) (tc_one N _) ?_))
          generalize hW : World.alloc w6 _ = w7
          have hT7 : TerrAt w7 w6.heap.size N (pad N (hOf (S2 x))) := by rw [← hW]; exact TerrAt.new w6 _ _
          have hb7 : Below w6.heap.size w6 w7 := by rw [← hW]; exact (Below.refl _ _).alloc (Nat.le_refl _) _
          clear hW
          have Hb57 := Lib.hid (Hb46.out.trans (hb7.mono HB46.out))
          have HB57 := Lib.hid Hb57.out.size
          obtain ⟨g7, hg7⟩ : ∃ g7, g7 = w6.heap.size := ⟨_, rfl⟩
          rw [← hg7] at hT7 ⊢
          have HT7 := Lib.hid hT7
          have HTa := Lib.hid (HT1.out.below Hb57.out)
          have HTb := Lib.hid (HT2.out.below Hb57.out)
          have Fx := Lib.hid (show Fits7 (pad N (hOf (S2 x))) by rw [← Hl5.out]; exact Hnx.out.fits)
          have C1 := Lib.hid (isBelow_any N N (pad N (hOf (S2 m))) (pad N (hOf (S2 x))) w7 F1.out Fx.out)
          have C2 := Lib.hid (fun w => isBelow_any N N (pad N (hOf (S2 x))) (pad N (hOf (S2 k))) w Fx.out F2.out)
          have E1 := Lib.hid (show sameH (fun i j => min (pad N (hOf (S2 m)) i j) (pad N (hOf (S2 x)) i j)) (pad N (hOf (S2 m))) = belB m x by
            rw [Bool.eq_iff_iff, below_same (by omega), belB_iff]
            unfold belowP ht
            rw [← HN.out, Hl5.out])
          have E2 := Lib.hid (show sameH (fun i j => min (pad N (hOf (S2 x)) i j) (pad N (hOf (S2 k)) i j)) (pad N (hOf (S2 x))) = belB x k by
            rw [Bool.eq_iff_iff, below_same (by omega), belB_iff]
            unfold belowP ht
            rw [Hl5.out, HkN.out])
          rw [E1.out] at C1
          rw [E2.out] at C2
          obtain ⟨y1, hy1⟩ : ∃ y1, y1 = belB m x := ⟨_, rfl⟩
          obtain ⟨y2, hy2⟩ : ∃ y2, y2 = belB x k := ⟨_, rfl⟩
          rw [← hy1] at C1
          rw [← hy2] at C2
          have Hy1 := Lib.hid hy1
          have Hy2 := Lib.hid hy2
          clear hT7 hb7 hg7 hy1 hy2 E1 E2
          go_wp2_with (first | (refine wpList_loadG rfl 42 _ rfl g1 rfl _ _ HTa.out Tryd.underlying42 rfl (Tryd.size_terr _ _) ?_) | (refine wpList_loadG rfl 42 _ rfl g7 rfl _ _ HT7.out Tryd.underlying42 rfl (Tryd.size_terr _ _) ?_))
          refine C1.out.mono ?_
          rintro e w8 ⟨rfl, hb8⟩
          have Hb58 := Lib.hid (Hb57.out.trans (hb8.mono HB57.out))
          have HB58 := Lib.hid Hb58.out.size
          have HTc := Lib.hid (HTb.out.below hb8)
          have HT8 := Lib.hid (HT7.out.below hb8)
          clear hb8
          cases y1 with
          | false =>
            have Hfin := Lib.hid (show cntB m k (T.take (t + 1)) = q0 by rw [Hcs.out, ← Hq0.out, ← Hy1.out]; rfl)
            go_wp2
            go_roundw
            case rel => exact ⟨t + 1, by omega, by go_num, by rw [Hfin.out], Hb58.out⟩
            case measure => simp [intOf]; omega
          | true =>
            go_wp2_with (first | (refine wpList_loadQ (by rfl) 42 _ rfl g7 rfl _ _ HT8.out Tryd.underlying42 rfl (Tryd.size_terr _ _) ?_) | (refine wpList_loadQ (by rfl) 42 _ rfl g2 rfl _ _ HTc.out Tryd.underlying42 rfl (Tryd.size_terr _ _) ?_))
            refine (C2.out w8).mono ?_
            rintro e w9 ⟨rfl, hb9⟩
            have Hb59 := Lib.hid (Hb58.out.trans (hb9.mono HB58.out))
            clear hb9
            cases y2 with
            | false =>
              have Hfin := Lib.hid (show cntB m k (T.take (t + 1)) = q0 by rw [Hcs.out, ← Hq0.out, ← Hy1.out, ← Hy2.out]; rfl)
              go_wp2
              go_roundw
              case rel => exact ⟨t + 1, by omega, by go_num, by rw [Hfin.out], Hb59.out⟩
              case measure => simp [intOf]; omega
            | true =>
              have Hfin := Lib.hid (show cntB m k (T.take (t + 1)) = q0 + 1 by rw [Hcs.out, ← Hq0.out, ← Hy1.out, ← Hy2.out]; rfl)
              go_wp2
              go_roundw
              case rel => exact ⟨t + 1, by omega, by go_num, by rw [Hfin.out]; rfl, Hb59.out⟩
              case measure => simp [intOf]; omega
        · obtain rfl : t = T.length := by omega
          have HF := Lib.hid (show cntB m k (T.take T.length) = cntB m k (allI m.length) by rw [List.take_length, HTe.out, HN.out])
          have HE := Lib.hid (Hb5.out.trans (Hbr.out.mono HB5.out))
          have HQ := Lib.hid (show cbOk m k from ⟨Hp.out, by rw [← HN.out]; exact h4⟩)
          go_wp2
          go_ret2
          exact ⟨by rw [HF.out, HN.out]; exact IRes.yes HQ.out, HE.out⟩
    · have hd4 : decide ((4 : Int) < (N : Int)) = true := by simp; omega
      have HQ := Lib.hid (show ¬ cbOk m k from fun h => h4 (by rw [HN.out]; exact h.2))
      go_wp2
      go_ret2
      exact ⟨IRes.no HQ.out, Hb4.out⟩
  · have Hp := Lib.hid (show ¬ cbOk m k from fun h => hp h.1)
    clear hp
    go_upto_region 2 with (first
      | (refine wpList_allocT rfl 42 rfl _ _ Tryd.info_terr ?_)
      | (refine wpList_storeG rfl 42 _ _ rfl w2.heap.size (tc 0 z0) _ rfl rfl (two_bot w2 _ 0 z0) (Tryd.size_terr _ _) (tc_same _ _ _ _) (tc_one _ _) ?_)
      | (refine wpList_storeG rfl 42 _ _ rfl (w2.alloc (.cells (tc 0 z0) 42)).heap.size (tc 0 z0) _ rfl rfl ((TerrAt.new (w2.alloc (.cells (tc 0 z0) 42)) 0 z0).setRow_other (g' := w2.heap.size) (by simp) _) (Tryd.size_terr _ _) (tc_same _ _ _ _) (tc_one _ _) ?_))
    generalize hW : World.alloc (World.alloc w2 _) _ = w3
    have hb3 : Below w2.heap.size w2 w3 := by rw [← hW]; exact two_below w2 _ _
    clear hW
    generalize hW : World.setRow (World.setRow w3 w2.heap.size (tc 0 z0)) (w2.heap.size + 1) (tc 0 z0) = w4
    have hb4 : Below w.heap.size w w4 := by rw [← hW]; exact below_setRowT (below_setRowT (Hb.out.trans (hb3.mono HB.out)) HB.out _) (show w.heap.size ≤ w2.heap.size + 1 by have := HB.out; omega) _
    clear hW hb3
    have Hb4 := Lib.hid hb4
    clear hb4
    go_wp2
    go_ret2
    exact ⟨IRes.no Hp.out, Hb4.out⟩
end Go.Proofs.YtjkpokpidpampaaDoor

