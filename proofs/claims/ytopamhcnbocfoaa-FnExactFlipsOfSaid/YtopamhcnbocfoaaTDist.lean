/- Contracts of the program: the distance of two terrains; the terrains of two matrices. Conditions: numbers not far from 0. -/
import Derived.Test.YtopamhcnbocfoaaTerrI
import Derived.Test.YtopamhcnbocfoaaTMeet
import Derived.Test.YtopamhcnbocfoaaHtP
import Derived.Deep.RegionHeld
namespace Go.Proofs.Ytopamhcnbocfoaa
open Go.RowKit

def dF (p q : Nat → Nat → Int) (i j : Nat) : Int := max (q i j - p i j) (p i j - q i j)
theorem dF_bound {p q : Nat → Nat → Int} (hp : Near p) (hq : Near q) {i j : Nat} (hi : i < 7) (hj : j < 7) : 0 ≤ dF p q i j ∧ dF p q i j ≤ 180 := by
  have h1 := hp i j hi hj
  have h2 := hq i j hi hj
  unfold dF
  omega

set_option maxRecDepth 100000 in
set_option maxHeartbeats 1600000 in
theorem distance_any (n n2 : Int) (p q : Nat → Nat → Int) (w : World) (hp : Near p) (hq : Near q) :
    Calls Try.prog 80 #[.agg (tc n p), .agg (tc n2 q)] w fun e w' => e = .returned (.int .i64 ((sumF (fun i => sumF (fun j => dF p q i j) 7) 7) / 2)) ∧ Below w.heap.size w w' := by
  have Hp := Lib.hid hp
  have Hq := Lib.hid hq
  have hrowb : ∀ i t, i < 7 → t ≤ 7 → 0 ≤ sumF (fun j => dF p q i j) t ∧ sumF (fun j => dF p q i j) t ≤ 1260 := fun i t hi ht => by
    have := sum_bound (f := fun j => dF p q i j) (K := 180) (by omega) (k := t) (fun j hj => dF_bound hp hq hi (by omega))
    omega
  have htotb : ∀ t, t ≤ 7 → 0 ≤ sumF (fun i => sumF (fun j => dF p q i j) 7) t ∧ sumF (fun i => sumF (fun j => dF p q i j) 7) t ≤ 8820 := fun t ht => by
    have := sum_bound (f := fun i => sumF (fun j => dF p q i j) 7) (K := 1260) (by omega) (k := t) (fun j hj => hrowb j 7 (by omega) (Nat.le_refl _))
    omega
  have Hrowb := Lib.hid hrowb
  have Htotb := Lib.hid htotb
  clear hrowb htotb hp hq
  go_enter Try.func80, Try.ntmps80
  go_upto_region 2 with (first | (refine wpList_allocT rfl 47 rfl _ _ Try.info_terr ?_) | (refine wpList_buildT1 rfl 47 0 _ rfl (.int .i64 _) rfl _ (Try.built_terr _) ?_) | (refine wpList_buildT0 rfl 47 rfl _ Try.built_terr0 ?_) | (refine wpList_boxT rfl 47 _ rfl _ rfl ?_) | (refine wpList_storeT rfl 47 _ _ rfl _ _ _ (by first | rfl | simp) rfl rfl (Try.size_terr _ _) (tc_same _ _ _ _) (tc_one _ _) ?_))
  generalize hW : World.alloc (World.alloc w _) _ = w1
  have hT : TerrAt w1 w.heap.size n p := by rw [← hW]; exact two_bot w _ _ _
  have hK : TerrAt w1 (w.heap.size + 1) n2 q := by rw [← hW]; exact two_top w _ _ _
  have hB : Below w.heap.size w w1 := by rw [← hW]; exact two_below w _ _
  clear hW
  have HT := Lib.hid hT
  have HK := Lib.hid hK
  have HB := Lib.hid hB
  clear hT hK hB
  go_wp2_with (refine wpList_load_mid rfl 45 _ rfl (w.heap.size + 1) 1 rfl (hl q) _ HK.out.range Try.underlying45 rfl (Try.size_rows q) ?_)
  go_loopw [5, 12] (fun s i wr => ∃ k : Nat, k ≤ 7 ∧ i = .int .i64 k ∧ s = .int .i64 (sumF (fun i => sumF (fun j => dF p q i j) 7) k) ∧ TerrAt wr w.heap.size n p ∧ Below w.heap.size w wr) (fun _ i _ => 7 - (intOf i).toNat)
  case atStart => exact ⟨0, Nat.zero_le _, rfl, rfl, HT.out, HB.out⟩
  case round =>
    obtain ⟨k, hk, rfl, rfl, hT, hbr⟩ := hrel
    clear HT HK HB
    have hTb := Htotb.out k hk
    obtain ⟨S, hS⟩ : ∃ S, S = sumF (fun i => sumF (fun j => dF p q i j) 7) k := ⟨_, rfl⟩
    rw [← hS] at hTb ⊢
    have HS := Lib.hid hS
    clear hS
    by_cases hlt : k < 7
    · have hlt2 : (k : Int) < 7 := by omega
      have HT := Lib.hid hT
      have HB := Lib.hid hbr
      clear hT hbr
      go_upto_region 5 with (first | (refine wpList_indexRow rfl 45 _ _ rfl _ rfl _ rfl _ _ Try.underlying45 (by assumption) Try.underlying43 Try.size_row ?_) | (refine wpList_allocT rfl 43 rfl _ _ Try.info_row ?_) | (refine wpList_storeT rfl 43 _ _ rfl _ _ _ (by first | rfl | simp) rfl rfl (Try.size_rowc _) (rc_same _ _) (rc_one _) ?_))
      generalize hW : World.alloc wr _ = w2
      have hb2 : Below wr.heap.size wr w2 := by rw [← hW]; exact (Below.refl _ _).alloc (Nat.le_refl _) _
      have hrow : RowAt w2 wr.heap.size (q k) := by rw [← hW]; exact RowAt.new _ _
      clear hW
      have HT2 := Lib.hid (HT.out.below hb2)
      have HB2 := Lib.hid (HB.out.trans (hb2.mono HB.out.size))
      have HW2 := Lib.hid hrow
      clear HT HB hb2 hrow
      go_wp2_with (refine wpList_loadG rfl 43 _ rfl _ rfl _ _ HW2.out Try.underlying43 rfl (Try.size_rowc _) ?_)
      go_loopw [5, 17] (fun s i wr => ∃ t : Nat, t ≤ 7 ∧ i = .int .i64 t ∧ s = .int .i64 (S + sumF (fun j => dF p q k j) t) ∧ TerrAt wr w.heap.size n p ∧ Below w.heap.size w wr) (fun _ i _ => 7 - (intOf i).toNat)
      case atStart => exact ⟨0, Nat.zero_le _, rfl, by simp [sumF], HT2.out, HB2.out⟩
      case round =>
        obtain ⟨t, ht, rfl, rfl, hT, hbr⟩ := hrel
        clear HT2 HB2
        have hrb := Hrowb.out k t hlt ht
        obtain ⟨R, hR⟩ : ∃ R, R = sumF (fun j => dF p q k j) t := ⟨_, rfl⟩
        rw [← hR] at hrb ⊢
        have HR := Lib.hid hR
        clear hR
        by_cases htl : t < 7
        · have htl2 : (t : Int) < 7 := by omega
          have hc := hT.cell hlt htl
          have hb1 := Hp.out k t hlt htl
          have hb2 := Hq.out k t hlt htl
          have hdf : dF p q k t = max (q k t - p k t) (p k t - q k t) := rfl
          generalize hx : p k t = x at hc hb1 hdf
          generalize hy : q k t = y at hb2 hdf
          have Hy := Lib.hid hy
          have Hdf := Lib.hid hdf
          have HT := Lib.hid hT
          have HB := Lib.hid hbr
          clear hT hbr hx hy hdf
          go_wp2_with (refine wpList_indexNum rfl 43 _ _ rfl _ rfl _ rfl _ Try.underlying43 (by assumption) Try.underlying3 Try.size_num ?_)
          rw [Hy.out]
          go_region_held (fun w' => w'.cell? ⟨w.heap.size, 1 + k * 7 + t, none⟩ = some (.int .i64 x)) (go_keep) (fail)
          all_goals
            go_wp2
            have e0 : (if IntKind.i64.wrap (y - x) < IntKind.i64.wrap (x - y) then IntKind.i64.wrap (x - y) else IntKind.i64.wrap (y - x)) = dF p q k t := by
              rw [w64 (n := y - x) (by omega), w64 (n := x - y) (by omega), Hdf.out]
              split <;> omega
            have hab : 0 ≤ dF p q k t ∧ dF p q k t ≤ 180 := dF_bound Hp.out Hq.out hlt htl
            rw [e0, w64 (n := S + R + dF p q k t) (by omega)]
            go_roundw
            case rel => exact ⟨t + 1, by omega, by go_num, by simp only [sumF]; rw [← HR.out, Int.add_assoc], HT.out.drew, below_drewN HB.out 1⟩
            case measure => simp [intOf]; omega
        · obtain rfl : t = 7 := by omega
          have HT := Lib.hid hT
          have HB := Lib.hid hbr
          clear hT hbr
          go_wp2
          go_roundw
          case rel => exact ⟨k + 1, by omega, by go_num, by rw [show sumF (fun i => sumF (fun j => dF p q i j) 7) (k + 1) = sumF (fun i => sumF (fun j => dF p q i j) 7) k + sumF (fun j => dF p q k j) 7 from rfl, ← HS.out, ← HR.out], HT.out, HB.out⟩
          case measure => simp [intOf]; omega
    · obtain rfl : k = 7 := by omega
      have HB := Lib.hid hbr
      clear hT hbr
      go_wp2
      go_ret
      exact ⟨by rw [← HS.out]; rfl, HB.out⟩

/-- what both terrains are, or none -/
def terr (m : List (List Int)) : Value := .agg (tc m.length (pad m.length (hOf (S2 m))))
def tz : Value := .agg (tc 0 z0)
def TwoT (m k : List (List Int)) (e : Ending) : Prop := (pairOk m k ∧ e = .returned (.tuple #[terr m, terr k, .bool true])) ∨ (¬ pairOk m k ∧ e = .returned (.tuple #[tz, tz, .bool false]))

set_option maxRecDepth 100000 in
set_option maxHeartbeats 1600000 in
theorem terrainsOf_any (ao bo : Option Addr) (c d : Nat) (m k : List (List Int)) (w : World) (hs : Small m) (hs2 : Small k) (hwf : WfM m) (hwf2 : WfM k) (hm : MatAt w ao m) (hk : MatAt w bo k) (hc : m.length ≤ c) (hc2 : c ≤ 9223372036854775807) (hd : k.length ≤ d) (hd2 : d ≤ 9223372036854775807) :
    Calls Try.prog 66 #[.slice ao m.length c, .slice bo k.length d] w fun e w' => TwoT m k e ∧ Below w.heap.size w w' := by
  have h1 := hs.1
  have h2 := hs2.1
  have Hs := Lib.hid hs
  have Hs2 := Lib.hid hs2
  have Hwf := Lib.hid hwf
  have Hwf2 := Lib.hid hwf2
  have Hm := Lib.hid hm
  have Hk := Lib.hid hk
  clear hs hs2 hwf hwf2 hm hk
  go_enter Try.func66, Try.ntmps66
  go_upto_region 1 with (first | (refine wpList_allocT rfl 47 rfl _ _ Try.info_terr ?_) | (refine wpList_buildT1 rfl 47 0 _ rfl (.int .i64 _) rfl _ (Try.built_terr _) ?_) | (refine wpList_buildT0 rfl 47 rfl _ Try.built_terr0 ?_) | (refine wpList_boxT rfl 47 _ rfl _ rfl ?_) | (refine wpList_storeT rfl 47 _ _ rfl _ _ _ (by first | rfl | simp) rfl rfl (Try.size_terr _ _) (tc_same _ _ _ _) (tc_one _ _) ?_))
  generalize hW : World.alloc (World.alloc w _) _ = w1
  have hA : TerrAt w1 w.heap.size 0 z0 := by rw [← hW]; exact two_bot w _ _ _
  have hB : TerrAt w1 (w.heap.size + 1) 0 z0 := by rw [← hW]; exact two_top w _ _ _
  have hb0 : Below w.heap.size w w1 := by rw [← hW]; exact two_below w _ _
  clear hW
  have HA := Lib.hid hA
  have HBB := Lib.hid hB
  have HB0 := Lib.hid hb0
  have HZ0 := Lib.hid hb0.size
  clear hA hB hb0
  go_wp2_with fail
  refine (implIsSign_any ao c m w1 Hs.out Hwf.out (Hm.out.below HB0.out)).mono ?_
  rintro e w2 ⟨ha, hb⟩
  have HA2 := Lib.hid (HA.out.below hb)
  have HBB2 := Lib.hid (HBB.out.below hb)
  have HB2 := Lib.hid (HB0.out.trans (hb.mono HZ0.out))
  clear hb HA HBB
  have HZ2 := Lib.hid HB2.out.size
  by_cases hg : good m
  · have Hg := Lib.hid hg
    clear hg
    obtain rfl := ha.is Hg.out
    clear ha
    go_wp2_with fail
    refine (implIsSign_any bo d k w2 Hs2.out Hwf2.out (Hk.out.below HB2.out)).mono ?_
    rintro e w3 ⟨ha, hb⟩
    have HA3 := Lib.hid (HA2.out.below hb)
    have HBB3 := Lib.hid (HBB2.out.below hb)
    have HB3 := Lib.hid (HB2.out.trans (hb.mono HZ2.out))
    clear hb HA2 HBB2
    have HZ3 := Lib.hid HB3.out.size
    by_cases hg : good k
    · have Hg2 := Lib.hid hg
      clear hg
      obtain rfl := ha.is Hg2.out
      clear ha
      by_cases hl : m.length = k.length
      · have hl2 : ((m.length : Int) != (k.length : Int)) = false := by simp; omega
        have Hl := Lib.hid hl
        clear hl
        have hcall := terrainOf_any ao c m w3 Hg.out (Hm.out.below HB3.out) hc hc2
        rw [show Value.agg (tc m.length (pad m.length (hOf (S2 m)))) = terr m from rfl] at hcall
        have Hcall := Lib.hid hcall
        clear hcall
        go_wp2_with fail
        refine Hcall.out.mono ?_
        rintro e w4 ⟨rfl, hb⟩
        have HA4 := Lib.hid (HA3.out.below hb)
        have HBB4 := Lib.hid (HBB3.out.below hb)
        have HB4 := Lib.hid (HB3.out.trans (hb.mono HZ3.out))
        clear hb HA3 HBB3
        have HZ4 := Lib.hid HB4.out.size
        have hcall := terrainOf_any bo d k w4 Hg2.out (Hk.out.below HB4.out) hd hd2
        rw [show Value.agg (tc k.length (pad k.length (hOf (S2 k)))) = terr k from rfl] at hcall
        have Hcall2 := Lib.hid hcall
        clear hcall
        go_wp2_with fail
        refine Hcall2.out.mono ?_
        rintro e w5 ⟨rfl, hb⟩
        have HA5 := Lib.hid (HA4.out.below hb)
        have HBB5 := Lib.hid (HBB4.out.below hb)
        have HB5 := Lib.hid (HB4.out.trans (hb.mono HZ4.out))
        have HBB6 := Lib.hid (HBB5.out.setRow_other (g' := w.heap.size) (by omega) (tc m.length (pad m.length (hOf (S2 m)))))
        clear hb HA4 HBB4
        go_wp2_with (first | (refine wpList_storeG rfl 47 _ _ rfl _ (tc m.length (pad m.length (hOf (S2 m)))) _ rfl rfl HA5.out (Try.size_terr _ _) (tc_same _ _ _ _) (tc_one _ _) ?_) | (refine wpList_storeG rfl 47 _ _ rfl _ (tc k.length (pad k.length (hOf (S2 k)))) _ rfl rfl HBB6.out (Try.size_terr _ _) (tc_same _ _ _ _) (tc_one _ _) ?_))
        have F1 := Lib.hid ((HA5.out.setRow m.length (pad m.length (hOf (S2 m)))).setRow_other (g' := w.heap.size + 1) (by omega) (tc k.length (pad k.length (hOf (S2 k)))))
        have F2 := Lib.hid (HBB6.out.setRow k.length (pad k.length (hOf (S2 k))))
        have F3 := Lib.hid (below_setRowT (below_setRowT HB5.out (Nat.le_refl _) (tc m.length (pad m.length (hOf (S2 m))))) (show w.heap.size ≤ w.heap.size + 1 by omega) (tc k.length (pad k.length (hOf (S2 k)))))
        refine bodyPost_ret (v := .tuple #[terr m, terr k, .bool true]) ?_ rfl ⟨.inl ⟨⟨Hg.out, Hg2.out, Hl.out⟩, rfl⟩, F3.out⟩
        exact results_cell_three (p := 4) (p2 := 5) (q := 6) rfl _ _ w.heap.size (w.heap.size + 1) _ _ rfl (Try.load_terr F1.out) rfl (Try.load_terr F2.out)
      · have hl2 : ((m.length : Int) != (k.length : Int)) = true := by simp; omega
        have Hl := Lib.hid hl
        clear hl
        have HBX := Lib.hid (HBB3.out.setRow_other (g' := w.heap.size) (by omega) (tc 0 z0))
        go_wp2_with (first | (refine wpList_buildT0 rfl 47 rfl _ Try.built_terr0 ?_) | (refine wpList_storeG rfl 47 _ _ rfl w.heap.size (tc 0 z0) _ rfl rfl HA3.out (Try.size_terr _ _) (tc_same _ _ _ _) (tc_one _ _) ?_) | (refine wpList_storeG rfl 47 _ _ rfl (w.heap.size + 1) (tc 0 z0) _ rfl rfl HBX.out (Try.size_terr _ _) (tc_same _ _ _ _) (tc_one _ _) ?_))
        have F1 := Lib.hid ((HA3.out.setRow 0 z0).setRow_other (g' := w.heap.size + 1) (by omega) (tc 0 z0))
        have F2 := Lib.hid (HBX.out.setRow 0 z0)
        have F3 := Lib.hid (below_setRowT (below_setRowT HB3.out (Nat.le_refl _) (tc 0 z0)) (show w.heap.size ≤ w.heap.size + 1 by omega) (tc 0 z0))
        refine bodyPost_ret (v := .tuple #[tz, tz, .bool false]) ?_ rfl ⟨.inr ⟨fun h => Hl.out h.2.2, rfl⟩, F3.out⟩
        exact results_cell_three (p := 4) (p2 := 5) (q := 6) rfl _ _ w.heap.size (w.heap.size + 1) _ _ rfl (Try.load_terr F1.out) rfl (Try.load_terr F2.out)
    · have Hg2 := Lib.hid hg
      clear hg
      obtain rfl := ha.isnt Hg2.out
      clear ha
      have HBX := Lib.hid (HBB3.out.setRow_other (g' := w.heap.size) (by omega) (tc 0 z0))
      go_wp2_with (first | (refine wpList_buildT0 rfl 47 rfl _ Try.built_terr0 ?_) | (refine wpList_storeG rfl 47 _ _ rfl w.heap.size (tc 0 z0) _ rfl rfl HA3.out (Try.size_terr _ _) (tc_same _ _ _ _) (tc_one _ _) ?_) | (refine wpList_storeG rfl 47 _ _ rfl (w.heap.size + 1) (tc 0 z0) _ rfl rfl HBX.out (Try.size_terr _ _) (tc_same _ _ _ _) (tc_one _ _) ?_))
      have F1 := Lib.hid ((HA3.out.setRow 0 z0).setRow_other (g' := w.heap.size + 1) (by omega) (tc 0 z0))
      have F2 := Lib.hid (HBX.out.setRow 0 z0)
      have F3 := Lib.hid (below_setRowT (below_setRowT HB3.out (Nat.le_refl _) (tc 0 z0)) (show w.heap.size ≤ w.heap.size + 1 by omega) (tc 0 z0))
      refine bodyPost_ret (v := .tuple #[tz, tz, .bool false]) ?_ rfl ⟨.inr ⟨fun h => Hg2.out h.2.1, rfl⟩, F3.out⟩
      exact results_cell_three (p := 4) (p2 := 5) (q := 6) rfl _ _ w.heap.size (w.heap.size + 1) _ _ rfl (Try.load_terr F1.out) rfl (Try.load_terr F2.out)
  · have Hg := Lib.hid hg
    clear hg
    obtain rfl := ha.isnt Hg.out
    clear ha
    have HBX := Lib.hid (HBB2.out.setRow_other (g' := w.heap.size) (by omega) (tc 0 z0))
    go_wp2_with (first | (refine wpList_buildT0 rfl 47 rfl _ Try.built_terr0 ?_) | (refine wpList_storeG rfl 47 _ _ rfl w.heap.size (tc 0 z0) _ rfl rfl HA2.out (Try.size_terr _ _) (tc_same _ _ _ _) (tc_one _ _) ?_) | (refine wpList_storeG rfl 47 _ _ rfl (w.heap.size + 1) (tc 0 z0) _ rfl rfl HBX.out (Try.size_terr _ _) (tc_same _ _ _ _) (tc_one _ _) ?_))
    have F1 := Lib.hid ((HA2.out.setRow 0 z0).setRow_other (g' := w.heap.size + 1) (by omega) (tc 0 z0))
    have F2 := Lib.hid (HBX.out.setRow 0 z0)
    have F3 := Lib.hid (below_setRowT (below_setRowT HB2.out (Nat.le_refl _) (tc 0 z0)) (show w.heap.size ≤ w.heap.size + 1 by omega) (tc 0 z0))
    refine bodyPost_ret (v := .tuple #[tz, tz, .bool false]) ?_ rfl ⟨.inr ⟨fun h => Hg.out h.1, rfl⟩, F3.out⟩
    exact results_cell_three (p := 4) (p2 := 5) (q := 6) rfl _ _ w.heap.size (w.heap.size + 1) _ _ rfl (Try.load_terr F1.out) rfl (Try.load_terr F2.out)
end Go.Proofs.Ytopamhcnbocfoaa
