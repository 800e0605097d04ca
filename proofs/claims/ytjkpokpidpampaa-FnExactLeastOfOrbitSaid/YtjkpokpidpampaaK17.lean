/- Parts of proofs: contracts and plain facts. Conditions: as each says. -/
import Derived.Test.YtjkpokpidpampaaK16
namespace Go.Proofs.Ytjkpokpidpampaa
open Go.RowKit

end Go.Proofs.Ytjkpokpidpampaa

namespace Go.Proofs.Ytjkpokpidpampaa
open Go.RowKit

theorem tnx_near {m : List (List Int)} (hg : good m) (k : Nat) : Near (tnx m k) := by
  have h := (good_crn (nxN_good hg k)).near (by rw [nxN_len]; exact hg.1.2.1)
  unfold tnx
  rw [nxN_len] at h
  exact h
/-- the next terrain -/
theorem step_any {m : List (List Int)} (hg : good m) {k : Nat} {so : Option Addr} {sc : Nat} {w : World} (hs : StepsAt w so ([0, 1].map fv)) :
    Calls Try.prog 105 #[.slice so 2 sc, .agg (tc m.length (tnx m k))] w fun e w' => e = .returned (.agg (tc m.length (tnx m (k + 1)))) ∧ Below w.heap.size w w' := by
  have hgk := nxN_good hg k
  have hcr := good_crn hgk
  rw [nxN_len] at hcr
  have h := series_flips m.length (S2 (nxN m k)) [0, 1] so sc w hg.1.1 hg.1.2.1 hcr (by simp) hs
  rw [pad_nx hgk (nxN_len m k)] at h
  exact h
theorem eq_tnx {m : List (List Int)} (hg : good m) (k : Nat) : ∃ r : Bool, (∀ w, (Op.equalIn 10000 46 (.agg (tc m.length (tnx m k))) (.agg (tc m.length (tnx m 0)))).run Try.prog w = .ok r w) ∧ (r = true ↔ nxN m k = m) := by
  have hn := hg.1.2.1
  have hf : Fits (m.length : Int) := by unfold Fits; omega
  have key := fun w => Try.eq_terr hf hf (tnx_near hg k).fits (tnx_near hg 0).fits w
  have hiff : (m.length : Int) = m.length ∧ (∀ i j, i < 7 → j < 7 → tnx m k i j = tnx m 0 i j) ↔ nxN m k = m :=
    ⟨fun h => (pad_same (nxN_good hg k) hg (nxN_len m k) rfl).1 h.2, fun h => ⟨rfl, (pad_same (nxN_good hg k) hg (nxN_len m k) rfl).2 h⟩⟩
  obtain ⟨r, _, hr⟩ := key default
  refine ⟨r, fun w => ?_, hr.trans hiff⟩
  obtain ⟨r', h1, hr'⟩ := key w
  rw [h1, show r' = r from by rw [Bool.eq_iff_iff, hr', hr]]

theorem OwnTr.block {w : World} {B k g : Nat} {v : Value} {n : Int} {F : Nat → Nat → Nat → Int} (h : OwnTr w B v n F k) (hg : v.ownBlock = some g) : ∃ cur, w.heap[g]? = some (.cells cur 46 (0, 0)) := by
  rcases h.2 with ⟨rfl, _⟩ | ⟨g', cap, cur, rfl, _, hh, _⟩
  · simp [Value.ownBlock] at hg
  · simp only [Value.ownBlock, Option.some.injEq] at hg
    subst hg
    exact ⟨cur, hh⟩

/-- where the list of terrains, the steps and the next terrain lie -/
structure OrbInv (w : World) (v : Value) (so : Option Addr) (g1 g5 : Nat) : Prop where
  list : ∀ g, v.ownBlock = some g → g < g5
  steps : ∀ g o, so = some ⟨g, o, none⟩ → g < g5 ∧ ∃ cur q, w.heap[g]? = some (.cells cur 71 q)
  first : g1 < g5

set_option maxRecDepth 100000 in
set_option maxHeartbeats 3200000 in
theorem orbit_any (m : List (List Int)) (p : Nat) (w : World) (hg : good m) (hp : IsPer m p) :
    Calls Try.prog 38 #[.agg (tc m.length (tnx m 0))] w fun e w' => ∃ v, e = .returned v ∧ OwnTr w' w.heap.size v m.length (tnx m) p ∧ Below w.heap.size w w' := by
  obtain ⟨c0, hci, hz0, hz1, hz2⟩ := info_parts Try.infob_terr
  have Hg := Lib.hid hg
  have Hp := Lib.hid hp
  have hp1 := hp.1
  have hpB := hp.2.1
  obtain ⟨n, hnn⟩ : ∃ n, n = m.length := ⟨_, rfl⟩
  have Hstep := Lib.hid (fun (k : Nat) (so : Option Addr) (sc : Nat) (w' : World) (hs : StepsAt w' so ([0, 1].map fv)) => step_any hg (k := k) (sc := sc) hs)
  have Heq := Lib.hid (fun k => eq_tnx hg k)
  rw [← hnn] at Hstep Heq ⊢
  clear hg hp hnn
  go_enter Try.func38, Try.ntmps38
  go_upto_region 1 with (first | (refine wpList_boxT rfl 46 _ rfl _ rfl ?_))
  generalize hW : World.alloc w _ = w1
  have hT : TerrAt w1 w.heap.size n (tnx m 0) := by rw [← hW]; exact TerrAt.new w _ _
  have hB : Below w.heap.size w w1 := by rw [← hW]; exact (Below.refl _ _).alloc (Nat.le_refl _) _
  have hz : w1.heap.size = w.heap.size + 1 := by rw [← hW]; simp
  clear hW
  have HT := Lib.hid hT
  have HB := Lib.hid hB
  have HZ := Lib.hid hz
  clear hT hB hz
  go_upto_region 2 with (first
    | (refine wpList_loadG rfl 46 _ rfl w.heap.size rfl _ _ HT.out Try.underlying46 rfl (Try.size_terr _ _) ?_)
    | (refine wpList_buildOneT rfl 56 46 _ rfl (tc n (tnx m 0)) (tc 0 z0) 50 rfl Try.underlying56 Try.info_terr (tc_size _ _) (tc_size _ _) (by omega) (by omega) ?_))
  generalize hW : World.alloc w1 _ = w2
  have hl : OwnTr w2 w1.heap.size (.slice (some ⟨w1.heap.size, 0, none⟩) 1 1) n (tnx m) 1 := by rw [← hW]; exact OwnTr.one w1 n (tnx m)
  have hb2 : Below w1.heap.size w1 w2 := by rw [← hW]; exact (Below.refl _ _).alloc (Nat.le_refl _) _
  clear hW
  have HL := Lib.hid hl
  have HT2 := Lib.hid (HT.out.below hb2)
  have Hb2 := Lib.hid (HB.out.trans (hb2.mono HB.out.size))
  have HZ2 := Lib.hid hb2.size
  clear hl hb2 HT
  go_wp2_with fail
  refine (gyration_any w2).mono ?_
  rintro e w3 ⟨v3, rfl, ⟨so, sc, rfl, hst, hso⟩, hb3⟩
  have HL3 := Lib.hid (show OwnTr w3 w1.heap.size (.slice (some ⟨w1.heap.size, 0, none⟩) 1 1) n (tnx m) 1 from ownsRow_heap HL.out (fun g hgg => hb3.block g ((World.ownsRow.lt HL.out g hgg).2)))
  have HT3 := Lib.hid (HT2.out.below hb3)
  have Hb3 := Lib.hid (Hb2.out.trans (hb3.mono Hb2.out.size))
  have Hst := Lib.hid hst
  have Hso := Lib.hid hso
  have HZ3 := Lib.hid hb3.size
  have hm1 := fun w' => method_series so 2 sc w'
  have Hs0 := Lib.hid (Hstep.out 0 so sc w3 hst)
  clear hst hso hb3 HL HT2
  go_wp2_with (refine wpList_loadG rfl 46 _ rfl w.heap.size rfl _ _ HT3.out Try.underlying46 rfl (Try.size_terr _ _) ?_)
  refine Hs0.out.mono ?_
  rintro e w4 ⟨rfl, hb4⟩
  have HL4 := Lib.hid (show OwnTr w4 w1.heap.size (.slice (some ⟨w1.heap.size, 0, none⟩) 1 1) n (tnx m) 1 from ownsRow_heap HL3.out (fun g hgg => hb4.block g ((World.ownsRow.lt HL3.out g hgg).2)))
  have HT4 := Lib.hid (HT3.out.below hb4)
  have Hst4 := Lib.hid (Hst.out.below hb4)
  have Hb4 := Lib.hid (Hb3.out.trans (hb4.mono Hb3.out.size))
  have HZ4 := Lib.hid hb4.size
  have Hb43 := Lib.hid hb4
  clear hb4 HL3 HT3 Hst Hs0
  go_wp2_with (first
    | (refine wpList_allocT rfl 46 rfl _ _ Try.info_terr ?_)
    | (refine wpList_storeT rfl 46 _ _ rfl _ _ _ (by first | rfl | simp) rfl rfl (Try.size_terr _ _) (tc_same _ _ _ _) (tc_one _ _) ?_))
  generalize hW : World.alloc w4 _ = w5
  have hT5 : TerrAt w5 w4.heap.size n (tnx m 1) := by rw [← hW]; exact TerrAt.new w4 _ _
  have hb5 : Below w4.heap.size w4 w5 := by rw [← hW]; exact (Below.refl _ _).alloc (Nat.le_refl _) _
  clear hW
  have hlt1 : w.heap.size < w1.heap.size := by have := HZ.out; omega
  have Hlt1 := Lib.hid hlt1
  have h4 : w3.heap.size ≤ w4.heap.size := HZ4.out
  have HL5 := Lib.hid (show OwnTr w5 w1.heap.size (.slice (some ⟨w1.heap.size, 0, none⟩) 1 1) n (tnx m) 1 from ownsRow_heap HL4.out (fun g hgg => hb5.block g ((World.ownsRow.lt HL4.out g hgg).2)))
  have HLB := Lib.hid (show ∀ g, (Value.slice (some ⟨w1.heap.size, 0, none⟩) 1 1).ownBlock = some g → g < w4.heap.size from fun g hgg => (World.ownsRow.lt HL4.out g hgg).2)
  have HT1 := Lib.hid (HT4.out.below hb5)
  have HT5 := Lib.hid hT5
  have HS5 := Lib.hid (Hst4.out.below hb5)
  have HSo := Lib.hid (show ∀ g o, so = some ⟨g, o, none⟩ → g < w4.heap.size ∧ ∃ cur q, w5.heap[g]? = some (.cells cur 71 q) from fun g o e => by
    obtain ⟨_, h2, cur, q, h3⟩ := Hso.out g o e
    refine ⟨by omega, cur, q, ?_⟩
    rw [hb5.block g (by omega), Hb43.out.block g h2]
    exact h3)
  have Hb5 := Lib.hid (Hb4.out.trans (hb5.mono Hb4.out.size))
  have HG5 := Lib.hid (show w.heap.size < w4.heap.size by have := HZ2.out; have := HZ3.out; omega)
  generalize w4.heap.size = g5 at HT5 HLB HSo HG5 ⊢
  have HZ5 := Lib.hid (show w1.heap.size ≤ w5.heap.size by have := HZ2.out; have := HZ3.out; have := hb5.size; omega)
  clear hT5 hb5 hlt1 h4 HL4 HT4 Hst4 Hb4 HZ4 Hb43
  simp only [Act.put, List.setIfInBounds_toArray, List.set_cons_zero, List.set_cons_succ]
  go_loopw [3, 5] (fun around x wr => ∃ (k g5 : Nat), 1 ≤ k ∧ k ≤ p ∧ x = .pointer (some ⟨g5, 0, none⟩) ∧ OwnTr wr w1.heap.size around n (tnx m) k ∧ TerrAt wr g5 n (tnx m k) ∧ TerrAt wr w.heap.size n (tnx m 0) ∧ StepsAt wr so ([0, 1].map fv) ∧ OrbInv wr around so w.heap.size g5 ∧ w1.heap.size ≤ wr.heap.size ∧ Below w.heap.size w wr) (fun around _ _ => p - lenV around)
  case atStart => exact ⟨1, g5, Nat.le_refl _, hp1, rfl, HL5.out, HT5.out, HT1.out, HS5.out, ⟨HLB.out, HSo.out, HG5.out⟩, HZ5.out, Hb5.out⟩
  case round =>
    obtain ⟨k, g5, hk1, hkp, rfl, hl, ht5, ht1, hst, ⟨hi1, hi2, hi3⟩, hzr, hbr⟩ := hrel
    obtain ⟨la, lc, hle, _⟩ := hl.read
    subst hle
    obtain ⟨r, hr, hiff⟩ := Heq.out k
    have Hr := Lib.hid hr
    have Hiff := Lib.hid hiff
    have Hl := Lib.hid hl
    have Ht5 := Lib.hid ht5
    have Ht1 := Lib.hid ht1
    have Hs := Lib.hid hst
    have Hi1 := Lib.hid hi1
    have Hi2 := Lib.hid hi2
    have Hi3 := Lib.hid hi3
    have Hzr := Lib.hid hzr
    have Hbr := Lib.hid hbr
    have HZr := Lib.hid hbr.size
    clear hr hiff hl ht5 ht1 hst hi1 hi2 hi3 hbr HL5 HT5 HT1 HS5 HLB HSo HG5 Hb5 hzr
    cases r
    · have hne : nxN m k ≠ m := fun h => by have := Hiff.out.2 h; cases this
      have hlt : k < p := by
        rcases Nat.lt_or_eq_of_le hkp with h1 | h1
        · exact h1
        · exact absurd (by rw [h1]; exact Hp.out.2.2.1) hne
      clear hne
      go_upto_region 6 with (first
        | (refine wpList_loadG rfl 46 _ rfl g5 rfl _ _ Ht5.out Try.underlying46 rfl (Try.size_terr _ _) ?_)
        | (refine wpList_loadG rfl 46 _ rfl w.heap.size rfl _ _ Ht1.out Try.underlying46 rfl (Try.size_terr _ _) ?_)
        | (refine wpList_neqA rfl 46 46 _ _ rfl (tc n (tnx m k)) (tc n (tnx m 0)) rfl rfl Try.guard_terr false (Hr.out _) ?_))
      go_wp2_with (first
        | (refine wpList_loadG rfl 46 _ rfl g5 rfl _ _ Ht5.out Try.underlying46 rfl (Try.size_terr _ _) ?_)
        | (refine wpList_buildOneT rfl 56 46 _ rfl (tc n (tnx m k)) (tc 0 z0) 50 rfl Try.underlying56 Try.info_terr (tc_size _ _) (tc_size _ _) (by omega) (by omega) ?_)
        | (at_builtin; refine wpList_append_own _ rfl _ _ 56 rfl w1.heap.size 46 c0 (.agg (tc 0 z0)) 50 400 Try.underlying56 hci hz0 hz1 hz2 (tc_size _ _) (by omega) _ _ _ rfl (World.ownsRow.alloc Hl.out _) ⟨wr.heap.size, 0, none⟩ 1 1 (tl n (tnx m k)) rfl (by rw [tl_len]) ?d1 ?d2 ?d3 ?d4 ?d5 ?_))
      case d1 => exact tl_new wr n (tnx m k)
      case d2 => exact tl_one n (tnx m k)
      case d3 => unfold maxLen; omega
      case d4 => omega
      case d5 => have := Hzr.out; simp; omega
      intro v6 w6 hown' hgrow _
      have hl6 : OwnTr w6 w1.heap.size v6 n (tnx m) (k + 1) := by unfold OwnTr; rw [tls_succ]; exact hown'
      have hb6 : Below w.heap.size wr w6 := Below.grown (B := w.heap.size) ((Below.refl w.heap.size wr).alloc HZr.out _) hgrow (by have := HZr.out; simp; omega) (fun g hgg => by have := (World.ownsRow.lt Hl.out g hgg).1; have := Hlt1.out; omega)
      have ht5 : TerrAt w6 g5 n (tnx m k) := (Ht5.out.alloc _).grown hgrow (fun e => Nat.lt_irrefl _ (Hi1.out g5 e.symm))
      have ht1 : TerrAt w6 w.heap.size n (tnx m 0) := (Ht1.out.alloc _).grown hgrow (fun e => by have := (World.ownsRow.lt Hl.out _ e.symm).1; have := Hlt1.out; omega)
      have hso : ∀ g o, so = some ⟨g, o, none⟩ → w6.heap[g]? = wr.heap[g]? := fun g o e => by
        obtain ⟨h1, cur, q, h2⟩ := Hi2.out g o e
        have hlt2 := lt_of_block h2
        have hne : some g ≠ (Value.slice la k lc).ownBlock := fun e2 => by
          obtain ⟨cur2, h3⟩ := OwnTr.block Hl.out e2.symm
          rw [h2] at h3
          simp only [Option.some.injEq, Obj.cells.injEq] at h3
          exact absurd h3.2.1 (by decide)
        rw [hgrow.block g (by simp; omega) hne]
        exact heap_alloc_old wr _ hlt2
      have hs6 := Hs.out.heap hso
      have Hl6 := Lib.hid hl6
      have Hb6 := Lib.hid (Hbr.out.trans hb6)
      have HZ6 := Lib.hid (show w1.heap.size ≤ w6.heap.size by have := Hzr.out; have := hb6.size; omega)
      have Ht5' := Lib.hid ht5
      have Ht1' := Lib.hid ht1
      have Hs6 := Lib.hid hs6
      have Hi2' := Lib.hid (show ∀ g o, so = some ⟨g, o, none⟩ → g < w6.heap.size ∧ ∃ cur q, w6.heap[g]? = some (.cells cur 71 q) from fun g o e => by
        obtain ⟨h1, cur, q, h2⟩ := Hi2.out g o e
        exact ⟨by have := lt_of_block h2; have := hb6.size; omega, cur, q, by rw [hso g o e]; exact h2⟩)
      obtain ⟨la6, lc6, hv6, _⟩ := hl6.read
      subst hv6
      clear hl6 hb6 ht5 ht1 hso hs6 hown' hgrow Hl Ht5 Ht1 Hs Hi1 Hi2 Hbr Hzr HZr
      go_upto_region 5 with (first
        | (refine wpList_loadG rfl 46 _ rfl g5 rfl _ _ Ht5'.out Try.underlying46 rfl (Try.size_terr _ _) ?_)
        | (refine wpList_allocT rfl 46 rfl _ _ Try.info_terr ?_)
        | (refine wpList_storeT rfl 46 _ _ rfl (tc n (tnx m k)) (tc 0 z0) w6.heap.size rfl rfl rfl (Try.size_terr _ _) (tc_same _ _ _ _) (tc_one _ _) ?_)
        )
      generalize hW : World.alloc w6 _ = w7
      have ht7 : TerrAt w7 w6.heap.size n (tnx m k) := by rw [← hW]; exact TerrAt.new w6 _ _
      have hb7 : Below w6.heap.size w6 w7 := by rw [← hW]; exact (Below.refl _ _).alloc (Nat.le_refl _) _
      clear hW
      have Ht7 := Lib.hid ht7
      have Hb7 := Lib.hid hb7
      have hm1 := fun w' => method_series so 2 sc w'
      have Hs7 := Lib.hid (Hs6.out.below hb7)
      have Hcall := Lib.hid (Hstep.out k so sc w7 Hs7.out)
      clear ht7 hb7
      go_wp2_with (refine wpList_loadG rfl 46 _ rfl w6.heap.size rfl _ _ Ht7.out Try.underlying46 rfl (Try.size_terr _ _) ?_)
      refine Hcall.out.mono ?_
      rintro e w8 ⟨rfl, hb8⟩
      have hb68 : Below w6.heap.size w6 w8 := Hb7.out.trans (hb8.mono Hb7.out.size)
      have Ht8 := Lib.hid (Ht7.out.below hb8)
      have Hb68 := Lib.hid hb68
      have Hlt6 := Lib.hid (show w.heap.size < w6.heap.size by have := HZ6.out; have := Hlt1.out; omega)
      clear hb8 hb68 hm1 Hcall
      go_wp2_with (refine wpList_storeG rfl 46 _ _ rfl w6.heap.size (tc n (tnx m (k + 1))) _ rfl rfl Ht8.out (Try.size_terr _ _) (tc_same _ _ _ _) (tc_one _ _) ?_)
      have hold : ∀ g, g < w6.heap.size → (w8.setRow w6.heap.size (tc n (tnx m (k + 1)))).heap[g]? = w6.heap[g]? := fun g hgg => by
        rw [Go.setRow_other w8 _ _ _ (by omega)]
        exact Hb68.out.block g hgg
      have hl9 : OwnTr (w8.setRow w6.heap.size (tc n (tnx m (k + 1)))) w1.heap.size (.slice la6 (k + 1) lc6) n (tnx m) (k + 1) := ownsRow_heap Hl6.out (fun g hgg => hold g (World.ownsRow.lt Hl6.out g hgg).2)
      have ht9 : TerrAt (w8.setRow w6.heap.size (tc n (tnx m (k + 1)))) w.heap.size n (tnx m 0) := by
        unfold TerrAt
        rw [hold _ Hlt6.out]
        exact Ht1'.out
      have hs9 := Hs6.out.heap (w' := w8.setRow w6.heap.size (tc n (tnx m (k + 1)))) (fun g o e => hold g (Hi2'.out g o e).1)
      have hi9 : OrbInv (w8.setRow w6.heap.size (tc n (tnx m (k + 1)))) (.slice la6 (k + 1) lc6) so w.heap.size w6.heap.size :=
        ⟨fun g hgg => (World.ownsRow.lt Hl6.out g hgg).2, fun g o e => by
          obtain ⟨h1, cur, q, h2⟩ := Hi2'.out g o e
          exact ⟨h1, cur, q, by rw [hold g h1]; exact h2⟩, Hlt6.out⟩
      have Hl9 := Lib.hid hl9
      have Ht9 := Lib.hid ht9
      have Hs9 := Lib.hid hs9
      have Hi9 := Lib.hid hi9
      have Hn9 := Lib.hid (Ht8.out.setRow n (tnx m (k + 1)))
      have Hz9 := Lib.hid (show w1.heap.size ≤ (w8.setRow w6.heap.size (tc n (tnx m (k + 1)))).heap.size by have := HZ6.out; have := Hb68.out.size; simp; omega)
      have Hb9 := Lib.hid (below_setRowT (Hb6.out.trans (Hb68.out.mono (Nat.le_of_lt Hlt6.out))) (Nat.le_of_lt Hlt6.out) (tc n (tnx m (k + 1))))
      clear hold hl9 ht9 hs9 hi9
      simp only [Act.put]
      go_roundw
      case rel => exact ⟨k + 1, w6.heap.size, by omega, by omega, rfl, Hl9.out, Hn9.out, Ht9.out, Hs9.out, Hi9.out, Hz9.out, Hb9.out⟩
      case measure => simp [lenV]; omega
    · have hm : nxN m k = m := Hiff.out.1 rfl
      have hkp2 := fin_of_per Hp.out hk1 hkp hm
      subst hkp2
      have HB1 := Lib.hid (show w.heap.size ≤ w1.heap.size by have := Hlt1.out; omega)
      clear hm
      go_wp2_with (first
        | (refine wpList_loadG rfl 46 _ rfl g5 rfl _ _ Ht5.out Try.underlying46 rfl (Try.size_terr _ _) ?_)
        | (refine wpList_loadG rfl 46 _ rfl w.heap.size rfl _ _ Ht1.out Try.underlying46 rfl (Try.size_terr _ _) ?_)
        | (refine wpList_neqA rfl 46 46 _ _ rfl (tc n (tnx m k)) (tc n (tnx m 0)) rfl rfl Try.guard_terr true (Hr.out _) ?_))
      go_ret
      refine ⟨_, rfl, ?_, Hbr.out⟩
      have h := Hl.out
      obtain ⟨hx, hy⟩ := h
      refine ⟨hx, ?_⟩
      rcases hy with h0 | ⟨g, cap, cur, hv, hg, r⟩
      · exact .inl h0
      · exact .inr ⟨g, cap, cur, hv, Nat.le_trans HB1.out hg, r⟩
end Go.Proofs.Ytjkpokpidpampaa

namespace Go.Proofs.Ytjkpokpidpampaa
open Go.RowKit

theorem signs_tnx {m : List (List Int)} (hg : good m) (k : Nat) (w : World) :
    Calls Try.prog 39 #[.agg (tc m.length (tnx m k))] w fun e w' => ∃ v, e = .returned v ∧ OwnM w' w.heap.size v (nxN m k) ∧ Below w.heap.size w w' := by
  have hgk := nxN_good hg k
  have hcr := good_crn hgk
  have hn := hg.1.2.1
  rw [nxN_len] at hcr
  have h := signs_any m.length (tnx m k) w hg.1.1 hn (tnx_near hg k).fits
  rw [sgW_unC hcr hn (fun i j hi hj => by unfold tnx pad; rw [if_pos ⟨hi, hj⟩]), show unC m.length (S2 (nxN m k)) = nxN m k from by have := unC_S2 hgk.1; rwa [nxN_len] at this] at h
  exact h

set_option maxRecDepth 100000 in
set_option maxHeartbeats 3200000 in
theorem implGyrationOrbit_any (ao : Option Addr) (c : Nat) (m : List (List Int)) (w : World) (hs : Small m) (hwf : WfM m) (hm : MatAt w ao m) (hc : m.length ≤ c) (hc2 : c ≤ 9223372036854775807) (p : Nat) (hp : good m → IsPer m p) :
    Calls Try.prog 18 #[.slice ao m.length c] w fun e w' => GResA (orOk m p) p (nxN m) w' w.heap.size e ∧ Below w.heap.size w w' := by
  obtain ⟨j0, hj, hy0, hy1, hy2⟩ := info_parts Try.info_intss
  have Hs := Lib.hid hs
  have Hm := Lib.hid hm
  have Hwf := Lib.hid hwf
  have Hp := Lib.hid hp
  clear hs hm hwf hp
  go_enter Try.func18, Try.ntmps18
  go_wp2_with fail
  refine (implIsSign_any ao c m w Hs.out Hwf.out Hm.out).mono ?_
  rintro e w1 ⟨ha, hb⟩
  have Hb := Lib.hid hb
  have HB := Lib.hid hb.size
  clear hb
  by_cases hg : good m
  · have Hg := Lib.hid hg
    have hper := Hp.out hg
    have Hper := Lib.hid hper
    have hpB := hper.2.1
    clear hg hper
    obtain rfl := ha.is Hg.out
    clear ha
    go_wp2_with fail
    refine (terrainOf_any ao c m w1 Hg.out (Hm.out.below Hb.out) hc hc2).mono ?_
    rintro e w2 ⟨rfl, hb2⟩
    have Hb2 := Lib.hid (Hb.out.trans (hb2.mono HB.out))
    have HB2 := Lib.hid Hb2.out.size
    have Hor := Lib.hid (orbit_any m p w2 Hg.out Hper.out)
    rw [show pad m.length (hOf (S2 m)) = tnx m 0 from rfl]
    have Hsig := Lib.hid (fun k w' => signs_tnx Hg.out k w')
    obtain ⟨n, hnn⟩ : ∃ n, n = m.length := ⟨_, rfl⟩
    rw [← hnn] at Hor Hsig ⊢
    clear hb2 hnn
    go_wp2_with fail
    refine Hor.out.mono ?_
    rintro e w3 ⟨v3, rfl, hl, hb3⟩
    obtain ⟨la, lc, rfl, hread⟩ := hl.read
    have Hread := Lib.hid hread
    have Hb3 := Lib.hid (Hb2.out.trans (hb3.mono HB2.out))
    have HZ3 := Lib.hid Hb3.out.size
    clear hl hread hb3 Hor
    go_wp2
    go_loopw [4, 14] (fun list i wr => ∃ (k : Nat) (vs : List Value) (uss : List (List Value)), k ≤ p ∧ i = .int .i64 k ∧ OrbL wr w3.heap.size list k (nxN m) vs uss ∧ Below w3.heap.size w3 wr) (fun _ i _ => p - (intOf i).toNat)
    case atStart => exact ⟨0, [], [], Nat.zero_le _, rfl, OrbL.nil _ _ _, Below.refl _ _⟩
    case round =>
      obtain ⟨k, vs, uss, hk, rfl, hlist, hbr⟩ := hrel
      obtain ⟨ta, tc0, rfl, _, _⟩ := hlist.head
      have Hlist := Lib.hid hlist
      have Hbr := Lib.hid hbr
      have HZr := Lib.hid hbr.size
      clear hlist
      by_cases hlt : k < p
      · obtain ⟨g, o, rfl, hr⟩ := Hread.out k hlt
        have Hr := Lib.hid (show wr.rangeAt g (o + k * 50) (tl n (tnx m k)) from fun j u hj => cell_below (hr j u hj) hbr)
        clear hr hbr
        go_upto_region 7 with (first
          | (refine wpList_load_mid rfl 46 _ rfl g (o + k * 50) rfl (tl n (tnx m k)) _ Hr.out Try.underlying46 rfl (Try.size_terrl _ _) ?_)
          | (refine wpList_allocT rfl 46 rfl _ _ Try.info_terr ?_)
          | (refine wpList_storeT rfl 46 _ _ rfl (tl n (tnx m k)).toArray (tc 0 z0) wr.heap.size rfl rfl rfl (Try.size_terr n (tnx m k)) (tc_same _ _ _ _) (tc_one n (tnx m k)) ?_))
        generalize hW : World.alloc wr _ = w4
        have hT : TerrAt w4 wr.heap.size n (tnx m k) := by rw [← hW]; exact TerrAt.new wr _ _
        have hb4 : Below wr.heap.size wr w4 := by rw [← hW]; exact (Below.refl _ _).alloc (Nat.le_refl _) _
        clear hW
        have HT := Lib.hid hT
        have Hl4 := Lib.hid (Hlist.out.below hb4)
        have Hb4 := Lib.hid (Hbr.out.trans (hb4.mono HZr.out))
        have HZ4 := Lib.hid Hb4.out.size
        clear hT hb4 Hlist
        go_wp2_with (refine wpList_loadG rfl 46 _ rfl wr.heap.size rfl _ _ HT.out Try.underlying46 rfl (Try.size_terr _ _) ?_)
        refine (Hsig.out k w4).mono ?_
        rintro e w5 ⟨v5, rfl, hv5, hb5⟩
        obtain ⟨va, vc, us5, rfl, hp5, _, _⟩ := hv5.open
        have Hv5 := Lib.hid hp5
        have Hold := Lib.hid (show ∀ i, i < k → ∀ a, a < (nxN m i).length → ∀ g, ((uss.getD i []).getD a undef).ownBlock = some g → g < w4.heap.size from fun i hi a ha g hg => (((Hl4.out.each i hi).rows a ha).lt g hg).2)
        have Hl5 := Lib.hid (Hl4.out.below hb5)
        have Hb5 := Lib.hid (Hb4.out.trans (hb5.mono HZ4.out))
        have HZ5 := Lib.hid Hb5.out.size
        clear hv5 hp5 hb5 Hl4
        go_wp2_with (at_builtin; refine wpList_append_own _ rfl _ _ 32 rfl w3.heap.size 22 j0 (.slice none 0 0) 1 24 Try.underlying32 hj hy0 hy1 hy2 rfl (by decide) _ _ _ rfl (World.ownsRow.alloc Hl5.out.top _) ⟨w5.heap.size, 0, none⟩ 1 1 [.slice va (nxN m k).length vc] rfl rfl ?d1 ?d2 ?d3 ?d4 ?d5 ?_)
        case d1 => exact cell_one_new _ _ _
        case d2 => intro u hu; simp at hu; subst hu; rfl
        case d3 => unfold maxLen; omega
        case d4 => omega
        case d5 => have := HZ5.out; simp; omega
        intro v' w6 hown' hgrow _
        have hput := Hl5.out.snoc HZ5.out Hv5.out HZ4.out Hold.out hown' hgrow
        have Hput := Lib.hid hput
        clear hput hown' hgrow
        go_wp2
        go_roundw
        case rel => exact ⟨k + 1, _, _, by omega, by go_num, Hput.out.1, Hb5.out.trans Hput.out.2⟩
        case measure => simp [intOf]; omega
      · obtain rfl : k = p := by omega
        have HbE := Lib.hid (Hb3.out.trans (Hbr.out.mono HZ3.out))
        clear hbr
        by_cases h1000 : 1000 < k
        · have hq : (1000 : Int) < (k : Int) := by omega
          have H1000 := Lib.hid h1000
          clear h1000
          go_wp2
          go_ret2
          exact ⟨GResA.no (fun h => by have := h.2; have := H1000.out; omega), HbE.out⟩
        · have hq : ¬ (1000 : Int) < (k : Int) := by omega
          have H1000 := Lib.hid (show k ≤ 1000 by omega)
          clear h1000
          go_wp2
          go_ret2
          exact ⟨GResA.yes ⟨Hg.out, H1000.out⟩ (Hlist.out.base HZ3.out), HbE.out⟩
  · have Hg := Lib.hid hg
    clear hg
    obtain rfl := ha.isnt Hg.out
    clear ha
    go_wp2
    go_ret2
    exact ⟨GResA.no (fun h => Hg.out h.1), Hb.out⟩

end Go.Proofs.Ytjkpokpidpampaa

namespace Go.Proofs.Ytjkpokpidpampaa
open Go.RowKit

/-- the least of the model's list -/
theorem gyLeast_any (ao : Option Addr) (c n p : Nat) (f : Nat → List (List Int)) (vs : List Value) (w : World) (B : Nat) (hn : n ≤ 6) (hp : 1 ≤ p) (hp2 : p ≤ 1000) (hf : ∀ i, i < p → sq n (f i)) (h : OwnLf w B (.slice ao p c) p f vs) :
    Calls Try.prog 16 #[.slice ao p c] w fun e w' => (∃ j, j < p ∧ e = .returned (vs.getD j undef) ∧ IsMin n p f (f j)) ∧ w = w' := by
  obtain ⟨ao', c', e, _, _, hcells⟩ := ownsRow_read h.top
  obtain ⟨rfl, -, rfl⟩ := (Value.slice.injEq _ _ _ _ _ _).mp e
  obtain ⟨b0, o0, rfl, hc0⟩ := hcells 0 hp
  have Hcells := Lib.hid (fun i hi => by
    obtain ⟨b, o, e, hc⟩ := hcells i hi
    cases e
    exact hc : ∀ i, i < p → w.cell? ⟨b0, o0 + i, none⟩ = some (vs.getD i undef))
  have Hel := Lib.hid (fun i (hi : i < p) => by
    obtain ⟨r, d, hr, _, _, hm⟩ := (h.each i hi).read
    rw [(hf i hi).1] at hr
    exact ⟨r, d, hr, hm⟩ : ∀ i, i < p → ∃ r d, vs.getD i undef = .slice r n d ∧ MatAt w r (f i))
  have Hf := Lib.hid hf
  have hpx : p ≤ 9223372036854775807 := by omega
  clear hcells hf h e
  rw [Nat.add_zero] at hc0
  obtain ⟨r0, d0, e0, _⟩ := Hel.out 0 hp
  have E0 := Lib.hid e0
  rw [e0] at hc0
  clear e0
  go_enter Try.func16, Try.ntmps16
  go_wp2
  go_loop [3, 11] (fun v i => ∃ k j : Nat, k ≤ p ∧ j < p ∧ i = .int .i64 k ∧ v = vs.getD j undef ∧ (1 ≤ k → IsMin n k f (f j)) ∧ (k = 0 → j = 0)) (fun _ i => p - (intOf i).toNat)
  case atStart => exact ⟨0, 0, by omega, by omega, rfl, E0.out.symm, fun h => absurd h (by omega), fun _ => rfl⟩
  case round =>
    obtain ⟨k, j, hk, hj, rfl, rfl, hmin, hz⟩ := hrel
    have Hmin := Lib.hid hmin
    have Hz := Lib.hid hz
    clear hmin hz
    by_cases hlt : k < p
    · have hc1 := Hcells.out k hlt
      obtain ⟨a1, c1, e1, hm1⟩ := Hel.out k hlt
      obtain ⟨a2, c2, e2, hm2⟩ := Hel.out j hj
      have Hc := Lib.hid (sgLess_any a1 a2 c1 c2 n (f k) (f j) w hn (Hf.out k hlt) (Hf.out j hj) hm1 hm2)
      have E1 := Lib.hid e1
      have E2 := Lib.hid e2
      rw [e1] at hc1
      rw [e2]
      clear hm1 hm2 e1 e2 hc0
      by_cases hl : mless n (f k) (f j)
      · have Hl := Lib.hid hl
        have Hr := Lib.hid (show IsMin n (k + 1) f (f k) from by
          by_cases h1 : 1 ≤ k
          · exact (Hmin.out h1).less hl
          · obtain rfl : k = 0 := by omega
            exact IsMin.one n f)
        clear hl
        go_wp2_with fail
        refine Hc.out.mono ?_
        rintro e w2 ⟨ha, rfl⟩
        obtain rfl := ha.is Hl.out
        clear ha
        go_wp2
        go_round
        case rel => exact ⟨k + 1, k, by omega, hlt, by go_num, E1.out.symm, fun _ => Hr.out, fun h => absurd h (by omega)⟩
        case measure => simp [intOf]; omega
      · have Hl := Lib.hid hl
        have Hr := Lib.hid (show IsMin n (k + 1) f (f j) from by
          by_cases h1 : 1 ≤ k
          · exact (Hmin.out h1).more hl
          · obtain rfl : k = 0 := by omega
            rw [Hz.out rfl]
            exact IsMin.one n f)
        clear hl
        go_wp2_with fail
        refine Hc.out.mono ?_
        rintro e w2 ⟨ha, rfl⟩
        obtain rfl := ha.isnt Hl.out
        clear ha
        go_wp2
        go_round
        case rel => exact ⟨k + 1, j, by omega, hj, by go_num, E2.out.symm, fun _ => Hr.out, fun h => absurd h (by omega)⟩
        case measure => simp [intOf]; omega
    · obtain rfl : k = p := by omega
      have Hr := Lib.hid (Hmin.out hp)
      clear hc0
      go_wp2
      go_ret
      exact ⟨⟨j, hj, rfl, Hr.out⟩, rfl⟩

theorem leastLit_any (ao bo : Option Addr) (c d n : Nat) (a b : List (List Int)) (w : World) (hn : n ≤ 6) (ha : sq n a) (hb : sq n b) (hx : MatAt w ao a) (hy : MatAt w bo b) :
    Calls Try.prog 20 #[.slice ao n c, .slice bo n d] w fun e w' => MC n a b e ∧ w = w' := by
  have Hc := Lib.hid (compareGrids_any ao bo c d n a b w hn ha hb hx hy)
  clear hx hy ha hb
  go_enter Try.func20, Try.ntmps20
  go_wp2_with fail
  refine Hc.out.mono ?_
  rintro e w2 ⟨hrc, rfl⟩
  have Hr := Lib.hid hrc
  rcases hrc with ⟨h, rfl⟩ | ⟨h, rfl⟩ | ⟨h, rfl⟩
  all_goals
    clear h
    go_wp2
    go_ret
    exact ⟨Hr.out, rfl⟩

theorem minFuncP_any (g o cap n p : Nat) (f : Nat → List (List Int)) (vs : List Value) (w : World) (hn : n ≤ 6) (hp : 1 ≤ p) (hp2 : p ≤ 1000) (hcell : ∀ i, i < p → w.cell? ⟨g, o + i, none⟩ = some (vs.getD i undef))
    (hel : ∀ i, i < p → ∃ ao c, vs.getD i undef = .slice ao n c ∧ MatAt w ao (f i)) (hsq : ∀ i, i < p → sq n (f i)) :
    Calls Try.prog 19 #[.slice (some ⟨g, o, none⟩) p cap, .func (.func 20) #[] #[]] w fun e w' => (∃ j, j < p ∧ e = .returned (vs.getD j undef) ∧ IsMin n p f (f j)) ∧ w = w' := by
  have hc0 := hcell 0 (by omega)
  rw [Nat.add_zero] at hc0
  have hpx : p ≤ 9223372036854775807 := by omega
  have hp1 : ¬ ((p : Int) < 1) := by omega
  have Hcell := Lib.hid hcell
  have Hel := Lib.hid hel
  have Hsq := Lib.hid hsq
  clear hcell hel hsq
  go_enter Try.func19, Try.ntmps19
  go_wp2
  go_loop [5, 6] (fun v i => ∃ k j : Nat, 1 ≤ k ∧ k ≤ p ∧ j < p ∧ i = .int .i64 k ∧ v = vs.getD j undef ∧ IsMin n k f (f j)) (fun _ i => p - (intOf i).toNat)
  case atStart => exact ⟨1, 0, by omega, by omega, by omega, rfl, rfl, IsMin.one n f⟩
  case round =>
    clear hc0
    obtain ⟨k, j, hk1, hk, hj, rfl, rfl, hmin⟩ := hrel
    have Hmin := Lib.hid hmin
    clear hmin
    by_cases hlt : k < p
    · have hc1 := Hcell.out k hlt
      obtain ⟨a1, c1, e1, hm1⟩ := Hel.out k hlt
      obtain ⟨a2, c2, e2, hm2⟩ := Hel.out j hj
      have Hc := Lib.hid (leastLit_any a1 a2 c1 c2 n (f k) (f j) w hn (Hsq.out k hlt) (Hsq.out j hj) hm1 hm2)
      have E1 := Lib.hid e1
      have E2 := Lib.hid e2
      rw [e1] at hc1
      rw [e2]
      clear hm1 hm2 e1 e2
      go_wp2_with fail
      refine Hc.out.mono ?_
      rintro e w2 ⟨hrc, rfl⟩
      rcases hrc with ⟨h, rfl⟩ | ⟨h, rfl⟩ | ⟨h, rfl⟩
      · have Hr := Lib.hid (Hmin.out.less h)
        clear h
        go_wp2
        go_round
        case rel => exact ⟨k + 1, k, by omega, by omega, hlt, by go_num, E1.out.symm, Hr.out⟩
        case measure => simp [intOf]; omega
      · have Hr := Lib.hid (Hmin.out.more (by rw [h]; exact mless_irrefl))
        clear h
        go_wp2
        go_round
        case rel => exact ⟨k + 1, j, by omega, by omega, hj, by go_num, E2.out.symm, Hr.out⟩
        case measure => simp [intOf]; omega
      · have Hr := Lib.hid (Hmin.out.more (mless_asymm h))
        clear h
        go_wp2
        go_round
        case rel => exact ⟨k + 1, j, by omega, by omega, hj, by go_num, E2.out.symm, Hr.out⟩
        case measure => simp [intOf]; omega
    · obtain rfl : k = p := by omega
      go_wp2
      go_ret
      exact ⟨⟨j, hj, rfl, Hmin.out⟩, rfl⟩

set_option maxRecDepth 100000 in
set_option maxHeartbeats 800000 in
theorem specLeastOfOrbit_any (ao : Option Addr) (cp : Nat) (m : List (List Int)) (w : World) (hs : Small m) (hm : MatAt w ao m) (p : Nat) (x : List (List Int)) (hp : good m → IsPer m p) (hx : good m → LoIs m p x) :
    Calls Try.prog 6 #[.slice ao m.length cp] w fun e w' => MRes (orOk m p) x w' w.heap.size e ∧ Below w.heap.size w w' := by
  have Hcall := Lib.hid (specGyrationOrbit_any ao cp m w hs hm p hp)
  have Hp := Lib.hid hp
  have Hx := Lib.hid hx
  clear hs hm hp hx
  go_enter Try.func6, Try.ntmps6
  go_wp2_with fail
  refine Hcall.out.mono ?_
  rintro e w2 ⟨⟨v, b, k, vs, rfl, hl, hr⟩, hb2⟩
  obtain ⟨la, lc, rfl, _, _⟩ := hl.head
  have Hb2 := Lib.hid hb2
  rcases hr with ⟨h1, rfl, rfl⟩ | ⟨h1, rfl, rfl⟩
  · have H1 := Lib.hid h1
    have Hl := Lib.hid hl
    have hg := h1.1
    have C := Lib.hid (gyLeast_any la lc m.length k (nxN m) vs w2 w.heap.size hg.1.2.1 (Hp.out hg).1 h1.2 (fun i _ => sq_nxN hg i) hl)
    clear hl h1 hb2 hg
    go_wp2_with fail
    refine C.out.mono ?_
    rintro e w3 ⟨⟨j, hj, rfl, hmin⟩, rfl⟩
    have HO := Lib.hid (show OwnM w2 w.heap.size (vs.getD j undef) x from by
      have h := Hl.out.each j hj
      rwa [LoIs.one H1.out.1 (Hx.out H1.out.1) hmin] at h)
    clear hmin
    go_wp2
    go_ret2
    exact ⟨MRes.yes H1.out HO.out, Hb2.out⟩
  · have H1 := Lib.hid h1
    clear hl h1 hb2
    go_wp2
    go_ret2
    exact ⟨MRes.no H1.out, Hb2.out⟩
set_option maxRecDepth 100000 in
set_option maxHeartbeats 800000 in
theorem implLeastOfOrbit_any (ao : Option Addr) (c : Nat) (m : List (List Int)) (w : World) (hs : Small m) (hwf : WfM m) (hm : MatAt w ao m) (hc : m.length ≤ c) (hc2 : c ≤ 9223372036854775807) (p : Nat) (x : List (List Int)) (hp : good m → IsPer m p) (hx : good m → LoIs m p x) :
    Calls Try.prog 8 #[.slice ao m.length c] w fun e w' => MRes (orOk m p) x w' w.heap.size e ∧ Below w.heap.size w w' := by
  have Hcall := Lib.hid (implGyrationOrbit_any ao c m w hs hwf hm hc hc2 p hp)
  have Hp := Lib.hid hp
  have Hx := Lib.hid hx
  clear hs hwf hm hc hc2 hp hx
  go_enter Try.func8, Try.ntmps8
  go_wp2_with fail
  refine Hcall.out.mono ?_
  rintro e w2 ⟨⟨v, b, k, vs, uss, rfl, hl, hr⟩, hb2⟩
  obtain ⟨la, lc, rfl, _, _⟩ := hl.head
  have Hb2 := Lib.hid hb2
  rcases hr with ⟨h1, rfl, rfl⟩ | ⟨h1, rfl, rfl⟩
  · have H1 := Lib.hid h1
    have hl2 := hl.toLf
    have Hl := Lib.hid hl2
    have hg := h1.1
    have hk1 := (Hp.out hg).1
    obtain ⟨ao', c', e, _, _, hcells⟩ := ownsRow_read hl2.top
    obtain ⟨rfl, -, rfl⟩ := (Value.slice.injEq _ _ _ _ _ _).mp e
    obtain ⟨b0, o0, rfl, _⟩ := hcells 0 hk1
    have C := Lib.hid (minFuncP_any b0 o0 lc m.length k (nxN m) vs w2 hg.1.2.1 hk1 h1.2 (fun i hi => by
      obtain ⟨b, o, e, hc⟩ := hcells i hi
      cases e
      exact hc) (fun i hi => by
      obtain ⟨r, d, hr, _, _, hm⟩ := (hl2.each i hi).read
      rw [nxN_len] at hr
      exact ⟨r, d, hr, hm⟩) (fun i _ => sq_nxN hg i))
    clear hl h1 hb2 hg hl2 hcells e
    go_wp2_with fail
    refine C.out.mono ?_
    rintro e w3 ⟨⟨j, hj, rfl, hmin⟩, rfl⟩
    have HO := Lib.hid (show OwnM w2 w.heap.size (vs.getD j undef) x from by
      have h := Hl.out.each j hj
      rwa [LoIs.one H1.out.1 (Hx.out H1.out.1) hmin] at h)
    clear hmin
    go_wp2
    go_ret2
    exact ⟨MRes.yes H1.out HO.out, Hb2.out⟩
  · have H1 := Lib.hid h1
    clear hl h1 hb2
    go_wp2
    go_ret2
    exact ⟨MRes.no H1.out, Hb2.out⟩
end Go.Proofs.Ytjkpokpidpampaa

