/- Parts of proofs: contracts and plain facts. Conditions: as each says. -/
import Derived.Test.YtmkldodkpijfjaaK15
import Derived.Laws.AppendOwnNone
import Derived.Lib.AppendZeros
import Derived.Maps.AppendAt
namespace Go.Proofs.Ytmkldodkpijfjaa
open Go.RowKit

end Go.Proofs.Ytmkldodkpijfjaa

namespace Go.Proofs.Ytmkldodkpijfjaa
open Go.RowKit

theorem tnx_near {m : List (List Int)} (hg : good m) (k : Nat) : Near (tnx m k) := by
  have h := (good_crn (nxN_good hg k)).near (by rw [nxN_len]; exact hg.1.2.1)
  unfold tnx
  rw [nxN_len] at h
  exact h
/-- the next terrain -/
theorem step_any {m : List (List Int)} (hg : good m) {k : Nat} {so : Option Addr} {sc : Nat} {w : World} (hs : StepsAt w so ([0, 1].map fv)) :
    Calls Try.prog 107 #[.slice so 2 sc, .agg (tc m.length (tnx m k))] w fun e w' => e = .returned (.agg (tc m.length (tnx m (k + 1)))) ∧ Below w.heap.size w w' := by
  have hgk := nxN_good hg k
  have hcr := good_crn hgk
  rw [nxN_len] at hcr
  have h := series_flips m.length (S2 (nxN m k)) [0, 1] so sc w hg.1.1 hg.1.2.1 hcr (by simp) hs
  rw [pad_nx hgk (nxN_len m k)] at h
  exact h
theorem eq_tnx {m : List (List Int)} (hg : good m) (k : Nat) : ∃ r : Bool, (∀ w, (Op.equalIn 10000 47 (.agg (tc m.length (tnx m k))) (.agg (tc m.length (tnx m 0)))).run Try.prog w = .ok r w) ∧ (r = true ↔ nxN m k = m) := by
  have hn := hg.1.2.1
  have hf : Fits (m.length : Int) := by unfold Fits; omega
  have key := fun w => Try.eq_terr hf hf (tnx_near hg k).fits (tnx_near hg 0).fits w
  have hiff : (m.length : Int) = m.length ∧ (∀ i j, i < 7 → j < 7 → tnx m k i j = tnx m 0 i j) ↔ nxN m k = m :=
    ⟨fun h => (pad_same (nxN_good hg k) hg (nxN_len m k) rfl).1 h.2, fun h => ⟨rfl, (pad_same (nxN_good hg k) hg (nxN_len m k) rfl).2 h⟩⟩
  obtain ⟨r, _, hr⟩ := key default
  refine ⟨r, fun w => ?_, hr.trans hiff⟩
  obtain ⟨r', h1, hr'⟩ := key w
  rw [h1, show r' = r from by rw [Bool.eq_iff_iff, hr', hr]]

theorem OwnTr.block {w : World} {B k g : Nat} {v : Value} {n : Int} {F : Nat → Nat → Nat → Int} (h : OwnTr w B v n F k) (hg : v.ownBlock = some g) : ∃ cur, w.heap[g]? = some (.cells cur 47 (0, 0)) := by
  rcases h.2 with ⟨rfl, _⟩ | ⟨g', cap, cur, rfl, _, hh, _⟩
  · simp [Value.ownBlock] at hg
  · simp only [Value.ownBlock, Option.some.injEq] at hg
    subst hg
    exact ⟨cur, hh⟩

/-- where the list of terrains, the steps and the next terrain lie -/
structure OrbInv (w : World) (v : Value) (so : Option Addr) (g1 g5 : Nat) : Prop where
  list : ∀ g, v.ownBlock = some g → g < g5
  steps : ∀ g o, so = some ⟨g, o, none⟩ → g < g5 ∧ ∃ cur q, w.heap[g]? = some (.cells cur 62 q)
  first : g1 < g5

set_option maxRecDepth 100000 in
set_option maxHeartbeats 3200000 in
theorem orbit_any (m : List (List Int)) (p : Nat) (w : World) (hg : good m) (hp : IsPer m p) :
    Calls Try.prog 28 #[.agg (tc m.length (tnx m 0))] w fun e w' => ∃ v, e = .returned v ∧ OwnTr w' w.heap.size v m.length (tnx m) p ∧ Below w.heap.size w w' := by
  obtain ⟨c0, hci, hz0, hz1, hz2⟩ := info_parts Try.infob_terr
  have Hg := Lib.hid hg
  have Hp := Lib.hid hp
  have hp1 := hp.1
  have hpB := hp.2.1
  obtain ⟨n, hnn⟩ : ∃ n, n = m.length := ⟨_, rfl⟩
  have Hstep := Lib.hid (fun (k : Nat) (so : Option Addr) (sc : Nat) (w' : World) (hs : StepsAt w' so ([0, 1].map fv)) => step_any hg (k := k) (sc := sc) hs)
  have Heq := Lib.hid (fun k => eq_tnx hg k)
  rw [← hnn] at Hstep Heq ⊢
  clear hg hp hnn
  go_enter Try.func28, Try.ntmps28
  go_upto_region 1 with (first | (refine wpList_boxT rfl 47 _ rfl _ rfl ?_))
  generalize hW : World.alloc w _ = w1
  have hT : TerrAt w1 w.heap.size n (tnx m 0) := by rw [← hW]; exact TerrAt.new w _ _
  have hB : Below w.heap.size w w1 := by rw [← hW]; exact (Below.refl _ _).alloc (Nat.le_refl _) _
  have hz : w1.heap.size = w.heap.size + 1 := by rw [← hW]; simp
  clear hW
  have HT := Lib.hid hT
  have HB := Lib.hid hB
  have HZ := Lib.hid hz
  clear hT hB hz
  go_upto_region 2 with (first
    | (refine wpList_loadG rfl 47 _ rfl w.heap.size rfl _ _ HT.out Try.underlying47 rfl (Try.size_terr _ _) ?_)
    | (refine wpList_buildOneT rfl 42 47 _ rfl (tc n (tnx m 0)) (tc 0 z0) 50 rfl Try.underlying42 Try.info_terr (tc_size _ _) (tc_size _ _) (by omega) (by omega) ?_))
  generalize hW : World.alloc w1 _ = w2
  have hl : OwnTr w2 w1.heap.size (.slice (some ⟨w1.heap.size, 0, none⟩) 1 1) n (tnx m) 1 := by rw [← hW]; exact OwnTr.one w1 n (tnx m)
  have hb2 : Below w1.heap.size w1 w2 := by rw [← hW]; exact (Below.refl _ _).alloc (Nat.le_refl _) _
  clear hW
  have HL := Lib.hid hl
  have HT2 := Lib.hid (HT.out.below hb2)
  have Hb2 := Lib.hid (HB.out.trans (hb2.mono HB.out.size))
  have HZ2 := Lib.hid hb2.size
  clear hl hb2 HT
  go_wp2_with fail
  refine (gyration_any w2).mono ?_
  rintro e w3 ⟨v3, rfl, ⟨so, sc, rfl, hst, hso⟩, hb3⟩
  have HL3 := Lib.hid (show OwnTr w3 w1.heap.size (.slice (some ⟨w1.heap.size, 0, none⟩) 1 1) n (tnx m) 1 from ownsRow_heap HL.out (fun g hgg => hb3.block g ((World.ownsRow.lt HL.out g hgg).2)))
  have HT3 := Lib.hid (HT2.out.below hb3)
  have Hb3 := Lib.hid (Hb2.out.trans (hb3.mono Hb2.out.size))
  have Hst := Lib.hid hst
  have Hso := Lib.hid hso
  have HZ3 := Lib.hid hb3.size
  have hm1 := fun w' => method_series so 2 sc w'
  have Hs0 := Lib.hid (Hstep.out 0 so sc w3 hst)
  clear hst hso hb3 HL HT2
  go_wp2_with (refine wpList_loadG rfl 47 _ rfl w.heap.size rfl _ _ HT3.out Try.underlying47 rfl (Try.size_terr _ _) ?_)
  refine Hs0.out.mono ?_
  rintro e w4 ⟨rfl, hb4⟩
  have HL4 := Lib.hid (show OwnTr w4 w1.heap.size (.slice (some ⟨w1.heap.size, 0, none⟩) 1 1) n (tnx m) 1 from ownsRow_heap HL3.out (fun g hgg => hb4.block g ((World.ownsRow.lt HL3.out g hgg).2)))
  have HT4 := Lib.hid (HT3.out.below hb4)
  have Hst4 := Lib.hid (Hst.out.below hb4)
  have Hb4 := Lib.hid (Hb3.out.trans (hb4.mono Hb3.out.size))
  have HZ4 := Lib.hid hb4.size
  have Hb43 := Lib.hid hb4
  clear hb4 HL3 HT3 Hst Hs0
  go_wp2_with (first
    | (refine wpList_allocT rfl 47 rfl _ _ Try.info_terr ?_)
    | (refine wpList_storeT rfl 47 _ _ rfl _ _ _ (by first | rfl | simp) rfl rfl (Try.size_terr _ _) (tc_same _ _ _ _) (tc_one _ _) ?_))
  generalize hW : World.alloc w4 _ = w5
  have hT5 : TerrAt w5 w4.heap.size n (tnx m 1) := by rw [← hW]; exact TerrAt.new w4 _ _
  have hb5 : Below w4.heap.size w4 w5 := by rw [← hW]; exact (Below.refl _ _).alloc (Nat.le_refl _) _
  clear hW
  have hlt1 : w.heap.size < w1.heap.size := by have := HZ.out; omega
  have Hlt1 := Lib.hid hlt1
  have h4 : w3.heap.size ≤ w4.heap.size := HZ4.out
  have HL5 := Lib.hid (show OwnTr w5 w1.heap.size (.slice (some ⟨w1.heap.size, 0, none⟩) 1 1) n (tnx m) 1 from ownsRow_heap HL4.out (fun g hgg => hb5.block g ((World.ownsRow.lt HL4.out g hgg).2)))
  have HLB := Lib.hid (show ∀ g, (Value.slice (some ⟨w1.heap.size, 0, none⟩) 1 1).ownBlock = some g → g < w4.heap.size from fun g hgg => (World.ownsRow.lt HL4.out g hgg).2)
  have HT1 := Lib.hid (HT4.out.below hb5)
  have HT5 := Lib.hid hT5
  have HS5 := Lib.hid (Hst4.out.below hb5)
  have HSo := Lib.hid (show ∀ g o, so = some ⟨g, o, none⟩ → g < w4.heap.size ∧ ∃ cur q, w5.heap[g]? = some (.cells cur 62 q) from fun g o e => by
    obtain ⟨_, h2, cur, q, h3⟩ := Hso.out g o e
    refine ⟨by omega, cur, q, ?_⟩
    rw [hb5.block g (by omega), Hb43.out.block g h2]
    exact h3)
  have Hb5 := Lib.hid (Hb4.out.trans (hb5.mono Hb4.out.size))
  have HG5 := Lib.hid (show w.heap.size < w4.heap.size by have := HZ2.out; have := HZ3.out; omega)
  generalize w4.heap.size = g5 at HT5 HLB HSo HG5 ⊢
  have HZ5 := Lib.hid (show w1.heap.size ≤ w5.heap.size by have := HZ2.out; have := HZ3.out; have := hb5.size; omega)
  clear hT5 hb5 hlt1 h4 HL4 HT4 Hst4 Hb4 HZ4 Hb43
  simp only [Act.put, List.setIfInBounds_toArray, List.set_cons_zero, List.set_cons_succ]
  go_loopw [3, 5] (fun around x wr => ∃ (k g5 : Nat), 1 ≤ k ∧ k ≤ p ∧ x = .pointer (some ⟨g5, 0, none⟩) ∧ OwnTr wr w1.heap.size around n (tnx m) k ∧ TerrAt wr g5 n (tnx m k) ∧ TerrAt wr w.heap.size n (tnx m 0) ∧ StepsAt wr so ([0, 1].map fv) ∧ OrbInv wr around so w.heap.size g5 ∧ w1.heap.size ≤ wr.heap.size ∧ Below w.heap.size w wr) (fun around _ _ => p - lenV around)
  case atStart => exact ⟨1, g5, Nat.le_refl _, hp1, rfl, HL5.out, HT5.out, HT1.out, HS5.out, ⟨HLB.out, HSo.out, HG5.out⟩, HZ5.out, Hb5.out⟩
  case round =>
    obtain ⟨k, g5, hk1, hkp, rfl, hl, ht5, ht1, hst, ⟨hi1, hi2, hi3⟩, hzr, hbr⟩ := hrel
    obtain ⟨la, lc, hle, _⟩ := hl.read
    subst hle
    obtain ⟨r, hr, hiff⟩ := Heq.out k
    have Hr := Lib.hid hr
    have Hiff := Lib.hid hiff
    have Hl := Lib.hid hl
    have Ht5 := Lib.hid ht5
    have Ht1 := Lib.hid ht1
    have Hs := Lib.hid hst
    have Hi1 := Lib.hid hi1
    have Hi2 := Lib.hid hi2
    have Hi3 := Lib.hid hi3
    have Hzr := Lib.hid hzr
    have Hbr := Lib.hid hbr
    have HZr := Lib.hid hbr.size
    clear hr hiff hl ht5 ht1 hst hi1 hi2 hi3 hbr HL5 HT5 HT1 HS5 HLB HSo HG5 Hb5 hzr
    cases r
    · have hne : nxN m k ≠ m := fun h => by have := Hiff.out.2 h; cases this
      have hlt : k < p := by
        rcases Nat.lt_or_eq_of_le hkp with h1 | h1
        · exact h1
        · exact absurd (by rw [h1]; exact Hp.out.2.2.1) hne
      clear hne
      go_upto_region 6 with (first
        | (refine wpList_loadG rfl 47 _ rfl g5 rfl _ _ Ht5.out Try.underlying47 rfl (Try.size_terr _ _) ?_)
        | (refine wpList_loadG rfl 47 _ rfl w.heap.size rfl _ _ Ht1.out Try.underlying47 rfl (Try.size_terr _ _) ?_)
        | (refine wpList_neqA rfl 47 47 _ _ rfl (tc n (tnx m k)) (tc n (tnx m 0)) rfl rfl Try.guard_terr false (Hr.out _) ?_))
      go_wp2_with (first
        | (refine wpList_loadG rfl 47 _ rfl g5 rfl _ _ Ht5.out Try.underlying47 rfl (Try.size_terr _ _) ?_)
        | (refine wpList_buildOneT rfl 42 47 _ rfl (tc n (tnx m k)) (tc 0 z0) 50 rfl Try.underlying42 Try.info_terr (tc_size _ _) (tc_size _ _) (by omega) (by omega) ?_)
        | (at_builtin; refine wpList_append_own _ rfl _ _ 42 rfl w1.heap.size 47 c0 (.agg (tc 0 z0)) 50 400 Try.underlying42 hci hz0 hz1 hz2 (tc_size _ _) (by omega) _ _ _ rfl (World.ownsRow.alloc Hl.out _) ⟨wr.heap.size, 0, none⟩ 1 1 (tl n (tnx m k)) rfl (by rw [tl_len]) ?d1 ?d2 ?d3 ?d4 ?d5 ?_))
      case d1 => exact tl_new wr n (tnx m k)
      case d2 => exact tl_one n (tnx m k)
      case d3 => unfold maxLen; omega
      case d4 => omega
      case d5 => have := Hzr.out; simp; omega
      intro v6 w6 hown' hgrow _
      have hl6 : OwnTr w6 w1.heap.size v6 n (tnx m) (k + 1) := by unfold OwnTr; rw [tls_succ]; exact hown'
      have hb6 : Below w.heap.size wr w6 := Below.grown (B := w.heap.size) ((Below.refl w.heap.size wr).alloc HZr.out _) hgrow (by have := HZr.out; simp; omega) (fun g hgg => by have := (World.ownsRow.lt Hl.out g hgg).1; have := Hlt1.out; omega)
      have ht5 : TerrAt w6 g5 n (tnx m k) := (Ht5.out.alloc _).grown hgrow (fun e => Nat.lt_irrefl _ (Hi1.out g5 e.symm))
      have ht1 : TerrAt w6 w.heap.size n (tnx m 0) := (Ht1.out.alloc _).grown hgrow (fun e => by have := (World.ownsRow.lt Hl.out _ e.symm).1; have := Hlt1.out; omega)
      have hso : ∀ g o, so = some ⟨g, o, none⟩ → w6.heap[g]? = wr.heap[g]? := fun g o e => by
        obtain ⟨h1, cur, q, h2⟩ := Hi2.out g o e
        have hlt2 := lt_of_block h2
        have hne : some g ≠ (Value.slice la k lc).ownBlock := fun e2 => by
          obtain ⟨cur2, h3⟩ := OwnTr.block Hl.out e2.symm
          rw [h2] at h3
          simp only [Option.some.injEq, Obj.cells.injEq] at h3
          exact absurd h3.2.1 (by decide)
        rw [hgrow.block g (by simp; omega) hne]
        exact heap_alloc_old wr _ hlt2
      have hs6 := Hs.out.heap hso
      have Hl6 := Lib.hid hl6
      have Hb6 := Lib.hid (Hbr.out.trans hb6)
      have HZ6 := Lib.hid (show w1.heap.size ≤ w6.heap.size by have := Hzr.out; have := hb6.size; omega)
      have Ht5' := Lib.hid ht5
      have Ht1' := Lib.hid ht1
      have Hs6 := Lib.hid hs6
      have Hi2' := Lib.hid (show ∀ g o, so = some ⟨g, o, none⟩ → g < w6.heap.size ∧ ∃ cur q, w6.heap[g]? = some (.cells cur 62 q) from fun g o e => by
        obtain ⟨h1, cur, q, h2⟩ := Hi2.out g o e
        exact ⟨by have := lt_of_block h2; have := hb6.size; omega, cur, q, by rw [hso g o e]; exact h2⟩)
      obtain ⟨la6, lc6, hv6, _⟩ := hl6.read
      subst hv6
      clear hl6 hb6 ht5 ht1 hso hs6 hown' hgrow Hl Ht5 Ht1 Hs Hi1 Hi2 Hbr Hzr HZr
      go_upto_region 5 with (first
        | (refine wpList_loadG rfl 47 _ rfl g5 rfl _ _ Ht5'.out Try.underlying47 rfl (Try.size_terr _ _) ?_)
        | (refine wpList_allocT rfl 47 rfl _ _ Try.info_terr ?_)
        | (refine wpList_storeT rfl 47 _ _ rfl (tc n (tnx m k)) (tc 0 z0) w6.heap.size rfl rfl rfl (Try.size_terr _ _) (tc_same _ _ _ _) (tc_one _ _) ?_)
        )
      generalize hW : World.alloc w6 _ = w7
      have ht7 : TerrAt w7 w6.heap.size n (tnx m k) := by rw [← hW]; exact TerrAt.new w6 _ _
      have hb7 : Below w6.heap.size w6 w7 := by rw [← hW]; exact (Below.refl _ _).alloc (Nat.le_refl _) _
      clear hW
      have Ht7 := Lib.hid ht7
      have Hb7 := Lib.hid hb7
      have hm1 := fun w' => method_series so 2 sc w'
      have Hs7 := Lib.hid (Hs6.out.below hb7)
      have Hcall := Lib.hid (Hstep.out k so sc w7 Hs7.out)
      clear ht7 hb7
      go_wp2_with (refine wpList_loadG rfl 47 _ rfl w6.heap.size rfl _ _ Ht7.out Try.underlying47 rfl (Try.size_terr _ _) ?_)
      refine Hcall.out.mono ?_
      rintro e w8 ⟨rfl, hb8⟩
      have hb68 : Below w6.heap.size w6 w8 := Hb7.out.trans (hb8.mono Hb7.out.size)
      have Ht8 := Lib.hid (Ht7.out.below hb8)
      have Hb68 := Lib.hid hb68
      have Hlt6 := Lib.hid (show w.heap.size < w6.heap.size by have := HZ6.out; have := Hlt1.out; omega)
      clear hb8 hb68 hm1 Hcall
      go_wp2_with (refine wpList_storeG rfl 47 _ _ rfl w6.heap.size (tc n (tnx m (k + 1))) _ rfl rfl Ht8.out (Try.size_terr _ _) (tc_same _ _ _ _) (tc_one _ _) ?_)
      have hold : ∀ g, g < w6.heap.size → (w8.setRow w6.heap.size (tc n (tnx m (k + 1)))).heap[g]? = w6.heap[g]? := fun g hgg => by
        rw [Go.setRow_other w8 _ _ _ (by omega)]
        exact Hb68.out.block g hgg
      have hl9 : OwnTr (w8.setRow w6.heap.size (tc n (tnx m (k + 1)))) w1.heap.size (.slice la6 (k + 1) lc6) n (tnx m) (k + 1) := ownsRow_heap Hl6.out (fun g hgg => hold g (World.ownsRow.lt Hl6.out g hgg).2)
      have ht9 : TerrAt (w8.setRow w6.heap.size (tc n (tnx m (k + 1)))) w.heap.size n (tnx m 0) := by
        unfold TerrAt
        rw [hold _ Hlt6.out]
        exact Ht1'.out
      have hs9 := Hs6.out.heap (w' := w8.setRow w6.heap.size (tc n (tnx m (k + 1)))) (fun g o e => hold g (Hi2'.out g o e).1)
      have hi9 : OrbInv (w8.setRow w6.heap.size (tc n (tnx m (k + 1)))) (.slice la6 (k + 1) lc6) so w.heap.size w6.heap.size :=
        ⟨fun g hgg => (World.ownsRow.lt Hl6.out g hgg).2, fun g o e => by
          obtain ⟨h1, cur, q, h2⟩ := Hi2'.out g o e
          exact ⟨h1, cur, q, by rw [hold g h1]; exact h2⟩, Hlt6.out⟩
      have Hl9 := Lib.hid hl9
      have Ht9 := Lib.hid ht9
      have Hs9 := Lib.hid hs9
      have Hi9 := Lib.hid hi9
      have Hn9 := Lib.hid (Ht8.out.setRow n (tnx m (k + 1)))
      have Hz9 := Lib.hid (show w1.heap.size ≤ (w8.setRow w6.heap.size (tc n (tnx m (k + 1)))).heap.size by have := HZ6.out; have := Hb68.out.size; simp; omega)
      have Hb9 := Lib.hid (below_setRowT (Hb6.out.trans (Hb68.out.mono (Nat.le_of_lt Hlt6.out))) (Nat.le_of_lt Hlt6.out) (tc n (tnx m (k + 1))))
      clear hold hl9 ht9 hs9 hi9
      simp only [Act.put]
      go_roundw
      case rel => exact ⟨k + 1, w6.heap.size, by omega, by omega, rfl, Hl9.out, Hn9.out, Ht9.out, Hs9.out, Hi9.out, Hz9.out, Hb9.out⟩
      case measure => simp [lenV]; omega
    · have hm : nxN m k = m := Hiff.out.1 rfl
      have hkp2 := fin_of_per Hp.out hk1 hkp hm
      subst hkp2
      have HB1 := Lib.hid (show w.heap.size ≤ w1.heap.size by have := Hlt1.out; omega)
      clear hm
      go_wp2_with (first
        | (refine wpList_loadG rfl 47 _ rfl g5 rfl _ _ Ht5.out Try.underlying47 rfl (Try.size_terr _ _) ?_)
        | (refine wpList_loadG rfl 47 _ rfl w.heap.size rfl _ _ Ht1.out Try.underlying47 rfl (Try.size_terr _ _) ?_)
        | (refine wpList_neqA rfl 47 47 _ _ rfl (tc n (tnx m k)) (tc n (tnx m 0)) rfl rfl Try.guard_terr true (Hr.out _) ?_))
      go_ret
      refine ⟨_, rfl, ?_, Hbr.out⟩
      have h := Hl.out
      obtain ⟨hx, hy⟩ := h
      refine ⟨hx, ?_⟩
      rcases hy with h0 | ⟨g, cap, cur, hv, hg, r⟩
      · exact .inl h0
      · exact .inr ⟨g, cap, cur, hv, Nat.le_trans HB1.out hg, r⟩
end Go.Proofs.Ytmkldodkpijfjaa

namespace Go.Proofs.Ytmkldodkpijfjaa
open Go.RowKit

theorem signs_tnx {m : List (List Int)} (hg : good m) (k : Nat) (w : World) :
    Calls Try.prog 29 #[.agg (tc m.length (tnx m k))] w fun e w' => ∃ v, e = .returned v ∧ OwnM w' w.heap.size v (nxN m k) ∧ Below w.heap.size w w' := by
  have hgk := nxN_good hg k
  have hcr := good_crn hgk
  have hn := hg.1.2.1
  rw [nxN_len] at hcr
  have h := signs_any m.length (tnx m k) w hg.1.1 hn (tnx_near hg k).fits
  rw [sgW_unC hcr hn (fun i j hi hj => by unfold tnx pad; rw [if_pos ⟨hi, hj⟩]), show unC m.length (S2 (nxN m k)) = nxN m k from by have := unC_S2 hgk.1; rwa [nxN_len] at this] at h
  exact h

set_option maxRecDepth 100000 in
set_option maxHeartbeats 3200000 in
theorem implGyrationOrbit_any (ao : Option Addr) (c : Nat) (m : List (List Int)) (w : World) (hs : Small m) (hwf : WfM m) (hm : MatAt w ao m) (hc : m.length ≤ c) (hc2 : c ≤ 9223372036854775807) (p : Nat) (hp : good m → IsPer m p) :
    Calls Try.prog 12 #[.slice ao m.length c] w fun e w' => GResA (orOk m p) p (nxN m) w' w.heap.size e ∧ Below w.heap.size w w' := by
  obtain ⟨j0, hj, hy0, hy1, hy2⟩ := info_parts Try.info_intss
  have Hs := Lib.hid hs
  have Hm := Lib.hid hm
  have Hwf := Lib.hid hwf
  have Hp := Lib.hid hp
  clear hs hm hwf hp
  go_enter Try.func12, Try.ntmps12
  go_wp2_with fail
  refine (implIsSign_any ao c m w Hs.out Hwf.out Hm.out).mono ?_
  rintro e w1 ⟨ha, hb⟩
  have Hb := Lib.hid hb
  have HB := Lib.hid hb.size
  clear hb
  by_cases hg : good m
  · have Hg := Lib.hid hg
    have hper := Hp.out hg
    have Hper := Lib.hid hper
    have hpB := hper.2.1
    clear hg hper
    obtain rfl := ha.is Hg.out
    clear ha
    go_wp2_with fail
    refine (terrainOf_any ao c m w1 Hg.out (Hm.out.below Hb.out) hc hc2).mono ?_
    rintro e w2 ⟨rfl, hb2⟩
    have Hb2 := Lib.hid (Hb.out.trans (hb2.mono HB.out))
    have HB2 := Lib.hid Hb2.out.size
    have Hor := Lib.hid (orbit_any m p w2 Hg.out Hper.out)
    rw [show pad m.length (hOf (S2 m)) = tnx m 0 from rfl]
    have Hsig := Lib.hid (fun k w' => signs_tnx Hg.out k w')
    obtain ⟨n, hnn⟩ : ∃ n, n = m.length := ⟨_, rfl⟩
    rw [← hnn] at Hor Hsig ⊢
    clear hb2 hnn
    go_wp2_with fail
    refine Hor.out.mono ?_
    rintro e w3 ⟨v3, rfl, hl, hb3⟩
    obtain ⟨la, lc, rfl, hread⟩ := hl.read
    have Hread := Lib.hid hread
    have Hb3 := Lib.hid (Hb2.out.trans (hb3.mono HB2.out))
    have HZ3 := Lib.hid Hb3.out.size
    clear hl hread hb3 Hor
    go_wp2
    go_loopw [4, 14] (fun list i wr => ∃ (k : Nat) (vs : List Value) (uss : List (List Value)), k ≤ p ∧ i = .int .i64 k ∧ OrbL wr w3.heap.size list k (nxN m) vs uss ∧ Below w3.heap.size w3 wr) (fun _ i _ => p - (intOf i).toNat)
    case atStart => exact ⟨0, [], [], Nat.zero_le _, rfl, OrbL.nil _ _ _, Below.refl _ _⟩
    case round =>
      obtain ⟨k, vs, uss, hk, rfl, hlist, hbr⟩ := hrel
      obtain ⟨ta, tc0, rfl, _, _⟩ := hlist.head
      have Hlist := Lib.hid hlist
      have Hbr := Lib.hid hbr
      have HZr := Lib.hid hbr.size
      clear hlist
      by_cases hlt : k < p
      · obtain ⟨g, o, rfl, hr⟩ := Hread.out k hlt
        have Hr := Lib.hid (show wr.rangeAt g (o + k * 50) (tl n (tnx m k)) from fun j u hj => cell_below (hr j u hj) hbr)
        clear hr hbr
        go_upto_region 7 with (first
          | (refine wpList_load_mid rfl 47 _ rfl g (o + k * 50) rfl (tl n (tnx m k)) _ Hr.out Try.underlying47 rfl (Try.size_terrl _ _) ?_)
          | (refine wpList_allocT rfl 47 rfl _ _ Try.info_terr ?_)
          | (refine wpList_storeT rfl 47 _ _ rfl (tl n (tnx m k)).toArray (tc 0 z0) wr.heap.size rfl rfl rfl (Try.size_terr n (tnx m k)) (tc_same _ _ _ _) (tc_one n (tnx m k)) ?_))
        generalize hW : World.alloc wr _ = w4
        have hT : TerrAt w4 wr.heap.size n (tnx m k) := by rw [← hW]; exact TerrAt.new wr _ _
        have hb4 : Below wr.heap.size wr w4 := by rw [← hW]; exact (Below.refl _ _).alloc (Nat.le_refl _) _
        clear hW
        have HT := Lib.hid hT
        have Hl4 := Lib.hid (Hlist.out.below hb4)
        have Hb4 := Lib.hid (Hbr.out.trans (hb4.mono HZr.out))
        have HZ4 := Lib.hid Hb4.out.size
        clear hT hb4 Hlist
        go_wp2_with (refine wpList_loadG rfl 47 _ rfl wr.heap.size rfl _ _ HT.out Try.underlying47 rfl (Try.size_terr _ _) ?_)
        refine (Hsig.out k w4).mono ?_
        rintro e w5 ⟨v5, rfl, hv5, hb5⟩
        obtain ⟨va, vc, us5, rfl, hp5, _, _⟩ := hv5.open
        have Hv5 := Lib.hid hp5
        have Hold := Lib.hid (show ∀ i, i < k → ∀ a, a < (nxN m i).length → ∀ g, ((uss.getD i []).getD a undef).ownBlock = some g → g < w4.heap.size from fun i hi a ha g hg => (((Hl4.out.each i hi).rows a ha).lt g hg).2)
        have Hl5 := Lib.hid (Hl4.out.below hb5)
        have Hb5 := Lib.hid (Hb4.out.trans (hb5.mono HZ4.out))
        have HZ5 := Lib.hid Hb5.out.size
        clear hv5 hp5 hb5 Hl4
        go_wp2_with (at_builtin; refine wpList_append_own _ rfl _ _ 31 rfl w3.heap.size 22 j0 (.slice none 0 0) 1 24 Try.underlying31 hj hy0 hy1 hy2 rfl (by decide) _ _ _ rfl (World.ownsRow.alloc Hl5.out.top _) ⟨w5.heap.size, 0, none⟩ 1 1 [.slice va (nxN m k).length vc] rfl rfl ?d1 ?d2 ?d3 ?d4 ?d5 ?_)
        case d1 => exact cell_one_new _ _ _
        case d2 => intro u hu; simp at hu; subst hu; rfl
        case d3 => unfold maxLen; omega
        case d4 => omega
        case d5 => have := HZ5.out; simp; omega
        intro v' w6 hown' hgrow _
        have hput := Hl5.out.snoc HZ5.out Hv5.out HZ4.out Hold.out hown' hgrow
        have Hput := Lib.hid hput
        clear hput hown' hgrow
        go_wp2
        go_roundw
        case rel => exact ⟨k + 1, _, _, by omega, by go_num, Hput.out.1, Hb5.out.trans Hput.out.2⟩
        case measure => simp [intOf]; omega
      · obtain rfl : k = p := by omega
        have HbE := Lib.hid (Hb3.out.trans (Hbr.out.mono HZ3.out))
        clear hbr
        by_cases h1000 : 1000 < k
        · have hq : (1000 : Int) < (k : Int) := by omega
          have H1000 := Lib.hid h1000
          clear h1000
          go_wp2
          go_ret2
          exact ⟨GResA.no (fun h => by have := h.2; have := H1000.out; omega), HbE.out⟩
        · have hq : ¬ (1000 : Int) < (k : Int) := by omega
          have H1000 := Lib.hid (show k ≤ 1000 by omega)
          clear h1000
          go_wp2
          go_ret2
          exact ⟨GResA.yes ⟨Hg.out, H1000.out⟩ (Hlist.out.base HZ3.out), HbE.out⟩
  · have Hg := Lib.hid hg
    clear hg
    obtain rfl := ha.isnt Hg.out
    clear ha
    go_wp2
    go_ret2
    exact ⟨GResA.no (fun h => Hg.out h.1), Hb.out⟩

end Go.Proofs.Ytmkldodkpijfjaa

namespace Go.Proofs.Ytmkldodkpijfjaa

/-- numbers are a row of parts up to n -/
def DpRow (row : List Int) (n : Nat) : Prop :=
  1 ≤ row.length ∧ row.length < n ∧ (∀ i, i < row.length → 1 ≤ gi row i ∧ gi row i ≤ n) ∧ (row.length : Int) < gi row 0 ∧ ∀ i, i < row.length → 1 ≤ i → gi row i ≤ gi row (i - 1)
/-- a row can stand below another one -/
def DpBel (row above : List Int) : Prop :=
  row.length < above.length ∧ gi row 0 ≤ above.length ∧ ∀ i, i < row.length → gi row i < gi above (i + 1)
/-- rows are a descending plane partition, by the model -/
def DpGood (rows : List (List Int)) (n : Nat) : Prop :=
  rows.length ≤ n ∧ ∀ k, k < rows.length → DpRow (gr rows k) n ∧ (0 < k → DpBel (gr rows k) (gr rows (k - 1)))

/-- limits allow a row -/
def Allow (l row : List Int) : Prop :=
  1 ≤ row.length ∧ row.length ≤ l.length ∧ (row.length : Int) < gi row 0 ∧ ∀ i, i < row.length → 1 ≤ gi row i ∧ gi row i ≤ gi l i ∧ (0 < i → gi row i ≤ gi row (i - 1))
instance (l row : List Int) : Decidable (Allow l row) := by unfold Allow; exact inferInstance

def lim1 (n : Nat) : List Int := List.replicate (n - 1) (n : Int)
def limB (row : List Int) : List Int := (List.range (row.length - 1)).map fun i => min (row.length : Int) (gi row (i + 1) - 1)
def limAt (n : Nat) (rows : List (List Int)) (k : Nat) : List Int := if k = 0 then lim1 n else limB (gr rows (k - 1))
/-- the first k rows are allowed, each by the one before, by the program -/
def ChainTo (n : Nat) (rows : List (List Int)) (k : Nat) : Prop := ∀ j, j < k → Allow (limAt n rows j) (gr rows j)

theorem lim1_len (n : Nat) : (lim1 n).length = n - 1 := by simp [lim1]
theorem gi_lim1 {n i : Nat} (h : i < n - 1) : gi (lim1 n) i = n := by
  rw [gi_lt (by rw [lim1_len]; exact h)]
  simp [lim1]
theorem limB_len (row : List Int) : (limB row).length = row.length - 1 := by simp [limB]
theorem gi_limB {row : List Int} {i : Nat} (h : i < row.length - 1) : gi (limB row) i = min (row.length : Int) (gi row (i + 1) - 1) := by
  rw [gi_lt (by rw [limB_len]; exact h)]
  simp [limB]

theorem allow_first (row : List Int) {n : Nat} (hn : 1 ≤ n) : Allow (lim1 n) row ↔ DpRow row n := by
  unfold Allow DpRow
  rw [lim1_len]
  constructor
  · rintro ⟨h1, h2, h3, h4⟩
    refine ⟨h1, by omega, fun i hi => ?_, h3, fun i hi h1 => (h4 i hi).2.2 (by omega)⟩
    have := h4 i hi
    rw [gi_lim1 (by omega)] at this
    exact ⟨this.1, this.2.1⟩
  · rintro ⟨h1, h2, h3, h4, h5⟩
    refine ⟨h1, by omega, h4, fun i hi => ?_⟩
    have := h3 i hi
    rw [gi_lim1 (by omega)]
    exact ⟨this.1, this.2, fun h0 => h5 i hi h0⟩

/-- parts of a row do not rise -/
theorem DpRow.le_first {row : List Int} {n : Nat} (h : DpRow row n) : ∀ i, i < row.length → gi row i ≤ gi row 0 := by
  intro i
  induction i with
  | zero => intro _; exact Int.le_refl _
  | succ i ih =>
    intro hi
    have h1 := h.2.2.2.2 (i + 1) hi (by omega)
    have h2 := ih (by omega)
    simp only [Nat.add_sub_cancel] at h1
    omega

theorem allow_below (row above : List Int) {n : Nat} (ha : DpRow above n) : Allow (limB above) row ↔ DpRow row n ∧ DpBel row above := by
  unfold Allow
  rw [limB_len]
  constructor
  · rintro ⟨h1, h2, h3, h4⟩
    have h5 : ∀ i, i < row.length → 1 ≤ gi row i ∧ gi row i ≤ above.length ∧ gi row i < gi above (i + 1) ∧ (0 < i → gi row i ≤ gi row (i - 1)) := by
      intro i hi
      have := h4 i hi
      rw [gi_limB (by omega)] at this
      omega
    refine ⟨⟨h1, by have := ha.2.1; omega, fun i hi => ?_, h3, fun i hi h0 => (h5 i hi).2.2.2 h0⟩, by omega, (h5 0 (by omega)).2.1, fun i hi => (h5 i hi).2.2.1⟩
    have := h5 i hi
    have := ha.2.2.1 (i + 1) (by omega)
    omega
  · rintro ⟨hr, h1, h2, h3⟩
    refine ⟨hr.1, by omega, hr.2.2.2.1, fun i hi => ?_⟩
    rw [gi_limB (by omega)]
    have h4 := hr.2.2.1 i hi
    have h5 := h3 i hi
    have h6 := hr.le_first i hi
    exact ⟨h4.1, by omega, fun h0 => hr.2.2.2.2 i hi h0⟩

theorem chain_rows {n : Nat} (hn : 1 ≤ n) {rows : List (List Int)} {k : Nat} (h : ChainTo n rows k) : ∀ j, j < k → DpRow (gr rows j) n ∧ (0 < j → DpBel (gr rows j) (gr rows (j - 1))) := by
  intro j
  induction j with
  | zero =>
    intro hj
    have := h 0 hj
    simp only [limAt, if_pos] at this
    exact ⟨(allow_first _ hn).1 this, fun h0 => absurd h0 (by omega)⟩
  | succ j ih =>
    intro hj
    have h1 := ih (by omega)
    have := h (j + 1) hj
    simp only [limAt, if_neg (Nat.succ_ne_zero j), Nat.add_sub_cancel] at this
    have h2 := (allow_below _ _ h1.1).1 this
    exact ⟨h2.1, fun _ => by simpa using h2.2⟩

/-- lengths fall -/
theorem rows_fall {n k : Nat} {rows : List (List Int)} (h : ∀ j, j < k → DpRow (gr rows j) n ∧ (0 < j → DpBel (gr rows j) (gr rows (j - 1)))) : ∀ j, j < k → (gr rows j).length + j + 1 ≤ n := by
  intro j
  induction j with
  | zero => intro hj; have := (h 0 hj).1.2.1; omega
  | succ j ih =>
    intro hj
    have h1 := ih (by omega)
    have h2 := ((h (j + 1) hj).2 (by omega)).1
    simp only [Nat.add_sub_cancel] at h2
    omega

theorem good_chain {n : Nat} (hn : 1 ≤ n) (rows : List (List Int)) : DpGood rows n ↔ ChainTo n rows rows.length := by
  constructor
  · rintro ⟨_, h⟩ j hj
    unfold limAt
    by_cases e : j = 0
    · subst e
      rw [if_pos rfl]
      exact (allow_first _ hn).2 (h 0 hj).1
    · rw [if_neg e]
      exact (allow_below _ _ (h (j - 1) (by omega)).1).2 ⟨(h j hj).1, (h j hj).2 (by omega)⟩
  · intro h
    have hr := chain_rows hn h
    refine ⟨?_, hr⟩
    by_cases e : rows.length = 0
    · omega
    have h1 := rows_fall hr (rows.length - 1) (by omega)
    omega

/-- at most 5 rows of at most 5 parts -/
theorem DpGood.bounds {rows : List (List Int)} {n : Nat} (h : DpGood rows n) (hn : 1 ≤ n) : rows.length < n ∧ ∀ i, i < rows.length → (gr rows i).length < n := by
  have hf := rows_fall h.2
  refine ⟨?_, fun i hi => by have := hf i hi; omega⟩
  by_cases e : rows.length = 0
  · omega
  have := hf (rows.length - 1) (by omega)
  have h2 := (h.2 (rows.length - 1) (by omega)).1.1
  omega
end Go.Proofs.Ytmkldodkpijfjaa

namespace Go.Proofs.Ytmkldodkpijfjaa

/-- the sum over the numbers of a row, of what f tells of a place and a number; over some rows -/
def sumR (f : Nat → Int → Int) (row : List Int) : Int := sumF (fun i => f i (gi row i)) row.length
def sumT (f : Nat → Int → Int) (rows : List (List Int)) (k : Nat) : Int := sumF (fun j => sumR f (gr rows j)) k

def fOne (_ : Nat) (_ : Int) : Int := 1
def fSpec (i : Nat) (x : Int) : Int := if x ≤ i then 1 else 0
def fEq (n : Int) (_ : Nat) (x : Int) : Int := if x = n then 1 else 0
def fId (_ : Nat) (x : Int) : Int := x

theorem sumR_one (row : List Int) : sumR fOne row = row.length := by
  unfold sumR fOne
  generalize row.length = n
  induction n with
  | zero => rfl
  | succ n ih => simp only [sumF]; rw [ih]; omega

theorem gi_app_left {a b : List Int} {i : Nat} (h : i < a.length) : gi (a ++ b) i = gi a i := by simp [gi, List.getD, List.getElem?_append_left h]
theorem gi_app_right {a b : List Int} {i : Nat} : gi (a ++ b) (a.length + i) = gi b i := by simp [gi, List.getD, List.getElem?_append_right]
theorem sumF_app (F : Nat → Int) (a b : Nat) : sumF F (a + b) = sumF F a + sumF (fun i => F (a + i)) b := by
  induction b with
  | zero => simp [sumF]
  | succ b ih => rw [← Nat.add_assoc]; simp only [sumF]; rw [ih]; omega

/-- numbers without their places: sums over rows put together -/
theorem sumR_app (f : Int → Int) (a b : List Int) : sumR (fun _ => f) (a ++ b) = sumR (fun _ => f) a + sumR (fun _ => f) b := by
  unfold sumR
  rw [List.length_append, sumF_app]
  congr 1
  · exact sumF_congr fun i hi => by rw [gi_app_left hi]
  · exact sumF_congr fun i hi => by rw [gi_app_right]
theorem take_flat {rows : List (List Int)} {k : Nat} (h : k < rows.length) : (rows.take (k + 1)).flatten = (rows.take k).flatten ++ gr rows k := by
  rw [List.take_succ_eq_append_getElem h, List.flatten_append, gr_lt h]
  simp
theorem sumR_flat (f : Int → Int) (rows : List (List Int)) : ∀ k, k ≤ rows.length → sumR (fun _ => f) (rows.take k).flatten = sumT (fun _ => f) rows k
  | 0, _ => by simp [sumR, sumT, sumF]
  | k + 1, h => by
    rw [take_flat (by omega), sumR_app, sumR_flat f rows k (by omega)]
    rfl
theorem sumR_flatten (f : Int → Int) (rows : List (List Int)) : sumR (fun _ => f) rows.flatten = sumT (fun _ => f) rows rows.length := by
  have := sumR_flat f rows rows.length (Nat.le_refl _)
  rwa [List.take_length] at this
theorem flat_len {rows : List (List Int)} {B : Nat} (h : ∀ i, i < rows.length → (gr rows i).length ≤ B) : ∀ k, k ≤ rows.length → (rows.take k).flatten.length ≤ k * B
  | 0, _ => by simp
  | k + 1, hk => by
    rw [take_flat (by omega), List.length_append, Nat.succ_mul]
    have := flat_len h k (by omega)
    have := h k (by omega)
    omega

/-- each number tells 0 to B -/
theorem sumR_part_bd {f : Nat → Int → Int} {row : List Int} {B : Int} (h : ∀ i, i < row.length → 0 ≤ f i (gi row i) ∧ f i (gi row i) ≤ B) : ∀ k, k ≤ row.length → 0 ≤ sumF (fun i => f i (gi row i)) k ∧ sumF (fun i => f i (gi row i)) k ≤ k * B
  | 0, _ => by simp [sumF]
  | k + 1, hk => by
    have ih := sumR_part_bd h k (by omega)
    have := h k (by omega)
    simp only [sumF]
    have e : ((k + 1 : Nat) : Int) * B = k * B + B := by rw [show ((k + 1 : Nat) : Int) = (k : Int) + 1 from by omega, Int.add_mul, Int.one_mul]
    omega
theorem sumT_bd {f : Nat → Int → Int} {rows : List (List Int)} {B : Int} (h : ∀ j, j < rows.length → 0 ≤ sumR f (gr rows j) ∧ sumR f (gr rows j) ≤ B) : ∀ k, k ≤ rows.length → 0 ≤ sumT f rows k ∧ sumT f rows k ≤ k * B
  | 0, _ => by simp [sumT, sumF]
  | k + 1, hk => by
    have ih := sumT_bd h k (by omega)
    have := h k (by omega)
    unfold sumT at ih ⊢
    simp only [sumF]
    have e : ((k + 1 : Nat) : Int) * B = k * B + B := by rw [show ((k + 1 : Nat) : Int) = (k : Int) + 1 from by omega, Int.add_mul, Int.one_mul]
    omega
theorem sumT_step (f : Nat → Int → Int) (rows : List (List Int)) (k : Nat) : sumT f rows (k + 1) = sumT f rows k + sumR f (gr rows k) := rfl

/-- what is told of the parts of partitions for 6 is 0 to 6 -/
def Tells (f : Nat → Int → Int) : Prop := ∀ i x, 1 ≤ x → x ≤ 6 → 0 ≤ f i x ∧ f i x ≤ 6
theorem tells_one : Tells fOne := fun _ _ _ _ => by unfold fOne; omega
theorem tells_spec : Tells fSpec := fun i x _ _ => by unfold fSpec; by_cases h : x ≤ (i : Int) <;> simp [h]
theorem tells_eq (n : Int) : Tells (fEq n) := fun i x _ _ => by unfold fEq; by_cases h : x = n <;> simp [h]
theorem tells_id : Tells fId := fun _ x _ _ => by unfold fId; omega
theorem DpGood.row_bd {f : Nat → Int → Int} (hf : Tells f) {rows : List (List Int)} (h : DpGood rows 6) {j : Nat} (hj : j < rows.length) : ∀ k, k ≤ (gr rows j).length → 0 ≤ sumF (fun i => f i (gi (gr rows j) i)) k ∧ sumF (fun i => f i (gi (gr rows j) i)) k ≤ 30 := by
  intro k hk
  have h1 := sumR_part_bd (f := f) (row := gr rows j) (B := 6) (fun i hi => hf i _ ((h.2 j hj).1.2.2.1 i hi).1 (by have := ((h.2 j hj).1.2.2.1 i hi).2; omega)) k hk
  have := (h.bounds (by omega)).2 j hj
  omega
theorem DpGood.sum_bd {f : Nat → Int → Int} (hf : Tells f) {rows : List (List Int)} (h : DpGood rows 6) : ∀ k, k ≤ rows.length → 0 ≤ sumT f rows k ∧ sumT f rows k ≤ 150 := by
  intro k hk
  have h1 := sumT_bd (f := f) (rows := rows) (B := 30) (fun j hj => h.row_bd hf hj _ (Nat.le_refl _)) k hk
  have := (h.bounds (by omega)).1
  omega
end Go.Proofs.Ytmkldodkpijfjaa

namespace Go.Proofs.Ytmkldodkpijfjaa
open Go.RowKit

/-- appending a slice of integers, whatever its address, to one that the call owns -/
theorem wpList_appendI {w : World} {ops : Array Oper} {rest : List Oper} {o : Oper} {a : Act} {Q : Exit → Act → World → Prop} (hgd : o.guard = none) (s x : Operand)
    (ho : o.op = .call { callee := .builtin .append, args := #[s, x], argTypes := #[38, 38] })
    (base : Nat) (v : Value) (xs : List Int) (hs : a.eval s = v) (hown : OwnI w base v xs)
    (ao : Option Addr) (c : Nat) (ys : List Int) (hx : a.eval x = .slice ao ys.length c) (hc : ao = none → c = 0 ∧ ys = []) (hys : IntsAt w ao ys)
    (h63 : xs.length + ys.length ≤ 1048576) (hbase : base ≤ w.heap.size)
    (h : ∀ v' w', OwnI w' base v' (xs ++ ys) → w.grownBy w' v.ownBlock → Below base w w' → wpList Try.prog ops Q rest (a.put o.dst v') w') : wpList Try.prog ops Q (o :: rest) a w := by
  obtain ⟨i0, hi, hz0, hz1, hz2⟩ := info_parts Try.info_int
  cases ao with
  | none =>
    obtain ⟨rfl, rfl⟩ := hc rfl
    exact wpList_append_own_none hgd s x 38 ho base 3 i0 1 Try.underlying38 hi v xs.length _ hs hown hx (h v w (by rw [List.append_nil]; exact hown) (World.grownBy.refl _ _) (Below.refl _ _))
  | some ad =>
    refine wpList_append_own _ hgd s x 38 ho base 3 i0 (.int .i64 0) 1 8 Try.underlying38 hi hz0 hz1 hz2 rfl (by decide) v xs.length _ hs hown ad ys.length c (ys.map (Value.int .i64)) hx (by simp) ?_ (by intro u hu; obtain ⟨y, _, rfl⟩ := List.mem_map.1 hu; rfl) (by unfold maxLen; omega) (by omega) hbase ?_
    · intro j u hj
      have hjl : j < ys.length := by
        have := (List.getElem?_eq_some_iff.1 hj).1
        simpa using this
      obtain ⟨b, o', e, hcell⟩ := hys j hjl
      cases e
      have e : (ys.map (Value.int .i64))[j]? = some (Value.int .i64 (gi ys j)) := by simp [gi, List.getD, hjl]
      rw [e] at hj
      cases hj
      rw [Addr.add_lit]
      exact hcell
    · intro v' w' h1 h2 _
      refine h v' w' ?_ h2 (Below.grown (Below.refl _ _) h2 hbase (fun k hk => (World.ownsRow.lt hown k hk).1))
      unfold OwnI
      rw [List.length_append, List.map_append]
      exact h1

/-- rows that are empty and have no address have no room either -/
def NilRows (w : World) (ao : Option Addr) (rows : List (List Int)) : Prop := ∀ k b o r c, k < rows.length → ao = some ⟨b, o, none⟩ → w.cell? ⟨b, o + k, none⟩ = some (.slice r (gr rows k).length c) → r = none → c = 0 ∧ gr rows k = []
theorem nilRows_full {w : World} {ao : Option Addr} {rows : List (List Int)} (hm : MatAt w ao rows) (h : ∀ k, k < rows.length → 1 ≤ (gr rows k).length) : NilRows w ao rows := by
  intro k b o r c hk e hc hr
  obtain ⟨b1, o1, r1, d1, e1, hc1, hr1, _, _⟩ := hm k hk
  rw [e] at e1
  simp only [Option.some.injEq, Addr.mk.injEq, and_true] at e1
  obtain ⟨rfl, rfl⟩ := e1
  rw [hc1] at hc
  simp only [Option.some.injEq, Value.slice.injEq] at hc
  obtain ⟨b2, o2, e2, _⟩ := hr1 0 (h k hk)
  rw [hc.1, hr] at e2
  cases e2

def lenT (rows : List (List Int)) (k : Nat) : Nat := (rows.take k).flatten.length
theorem lenT_succ {rows : List (List Int)} {k : Nat} (h : k < rows.length) : lenT rows (k + 1) = lenT rows k + (gr rows k).length := by
  unfold lenT
  rw [take_flat h, List.length_append]
theorem lenT_mono {rows : List (List Int)} {k : Nat} (_h : k ≤ rows.length) : lenT rows k ≤ rows.flatten.length := by
  unfold lenT
  have := List.take_append_drop k rows
  conv => rhs; rw [← this]
  rw [List.flatten_append, List.length_append]
  omega

end Go.Proofs.Ytmkldodkpijfjaa

namespace Go.Proofs.Ytmkldodkpijfjaa
open Go.RowKit

/-- the blocks from lo up to hi are as they were -/
def Same (lo hi : Nat) (w w' : World) : Prop := ∀ g, lo ≤ g → g < hi → w'.heap[g]? = w.heap[g]?
theorem Same.refl (lo hi : Nat) (w : World) : Same lo hi w w := fun _ _ _ => rfl
theorem Same.trans {lo hi : Nat} {a b c : World} (h : Same lo hi a b) (k : Same lo hi b c) : Same lo hi a c := fun g h1 h2 => (k g h1 h2).trans (h g h1 h2)
theorem Same.of_below {lo hi B : Nat} {w w' : World} (h : Below B w w') (hB : hi ≤ B) : Same lo hi w w' := fun g _ h2 => h.block g (by omega)
theorem Same.of_grown {lo hi : Nat} {w w' : World} {row : Option Nat} (h : w.grownBy w' row) (hs : hi ≤ w.heap.size) (hr : ∀ g, row = some g → g < lo ∨ hi ≤ g) : Same lo hi w w' :=
  fun g h1 h2 => h.block g (by omega) (fun e => by have := hr g e.symm; omega)
theorem ownsRow_same {w w' : World} {B : Nat} {e : TypeId} {v : Value} {n : Nat} {xs : List Value} (h : w.ownsRow B e 1 v n xs) (hs : Same B w.heap.size w w') : w'.ownsRow B e 1 v n xs := by
  refine ⟨h.1, ?_⟩
  rcases h.2 with h0 | ⟨g, cap, cur, rfl, hg, hh, r⟩
  · exact .inl h0
  · exact .inr ⟨g, cap, cur, rfl, hg, by rw [hs g hg (lt_of_block hh)]; exact hh, r⟩
theorem OwnP.same {w w' : World} {B n k : Nat} {v : Value} {m : List (List Int)} {vs : List Value} (h : OwnP w B v n m k vs) (hs : Same B w.heap.size w w') : OwnP w' B v n m k vs :=
  ⟨ownsRow_same h.top hs, fun i hi => ownsRow_same (h.rows i hi) hs, h.apart⟩
/-- a row of an owned table: where its slice lies, and that it is owned -/
theorem OwnP.rowAt {w : World} {B n c : Nat} {ao : Option Addr} {m : List (List Int)} {vs : List Value} (h : OwnP w B (.slice ao n c) n m n vs) {i : Nat} (hi : i < n) :
    ∃ b o r d, ao = some ⟨b, o, none⟩ ∧ w.cell? ⟨b, o + i, none⟩ = some (.slice r (gr m i).length d) ∧ vs.getD i undef = .slice r (gr m i).length d ∧ OwnI w B (.slice r (gr m i).length d) (gr m i) ∧ (gr m i).length ≤ d ∧ d ≤ 9223372036854775807 := by
  obtain ⟨ao', c', hv, _, _, hcells⟩ := ownsRow_read h.top
  obtain ⟨rfl, -, rfl⟩ := (Value.slice.injEq _ _ _ _ _ _).mp hv
  obtain ⟨b, o, e, hc⟩ := hcells i hi
  have hrow := h.rows i hi
  obtain ⟨r, d, hr, h1, h2, _⟩ := hrow.read
  rw [hr] at hc hrow
  exact ⟨b, o, r, d, e, hc, hr, hrow, h1, h2⟩
theorem OwnI.same_at {w w' : World} {B n c : Nat} {ao : Option Addr} {xs : List Int} (h : OwnI w B (.slice ao n c) xs) (hs : Same B w.heap.size w w') : IntsAt w' ao xs := own_at (ownsRow_same h hs)
end Go.Proofs.Ytmkldodkpijfjaa

namespace Go.Proofs.Ytmkldodkpijfjaa
open Go.RowKit

theorem gr_appl {m k : List (List Int)} {i : Nat} (h : i < m.length) : gr (m ++ k) i = gr m i := by
  rw [gr_lt (by simp; omega), gr_lt h, List.getElem_append_left h]
theorem gr_appr {m k : List (List Int)} {i : Nat} (h : i < k.length) : gr (m ++ k) (m.length + i) = gr k i := by
  rw [gr_lt (by simp; omega), gr_lt h, List.getElem_append_right (by omega)]
  simp

/-- a table that a call owns, its rows apart -/
def OwnT (w : World) (B : Nat) (v : Value) (m : List (List Int)) (vs : List Value) : Prop := OwnP w B v m.length m m.length vs
theorem OwnT.below {w w' : World} {B : Nat} {v : Value} {m : List (List Int)} {vs : List Value} (h : OwnT w B v m vs) (hb : Below w.heap.size w w') : OwnT w' B v m vs := OwnP.below h hb
theorem OwnT.base {w : World} {B B' : Nat} {v : Value} {m : List (List Int)} {vs : List Value} (h : OwnT w B v m vs) (hB : B' ≤ B) : OwnT w B' v m vs := OwnP.base h hB
theorem OwnT.nil (w : World) (B : Nat) : OwnT w B (.slice none 0 0) [] [] := ⟨World.ownsRow_nil _ _ _ _, fun i hi => absurd hi (by simp), fun i j _ hj => absurd hj (by simp)⟩
theorem OwnT.toM {w : World} {B : Nat} {v : Value} {m : List (List Int)} {vs : List Value} (h : OwnT w B v m vs) : OwnM w B v m := ⟨vs, h⟩
theorem OwnT.read {w : World} {B : Nat} {v : Value} {m : List (List Int)} {vs : List Value} (h : OwnT w B v m vs) : ∃ ao c, v = .slice ao m.length c ∧ m.length ≤ c ∧ c ≤ 9223372036854775807 ∧ MatAt w ao m := h.toM.read
theorem OwnT.len {w : World} {B : Nat} {v : Value} {m : List (List Int)} {vs : List Value} (h : OwnT w B v m vs) : vs.length = m.length := by simpa using h.top.1
/-- the rows' blocks -/
theorem OwnT.old {w : World} {B : Nat} {v : Value} {m : List (List Int)} {vs : List Value} (h : OwnT w B v m vs) : ∀ i, i < m.length → ∀ g, (vs.getD i undef).ownBlock = some g → B ≤ g ∧ g < w.heap.size := fun i hi g hg => (h.rows i hi).lt g hg
theorem OwnI.kept_tab {w w1 : World} {B B' n : Nat} {x u : Value} {ys : List Int} {vs : List Value} (hx : OwnI w B x ys) (ht : w.ownsRow B' 38 1 u n vs) (hg : w.grownBy w1 u.ownBlock) : OwnI w1 B x ys := by
  refine World.ownsRow.kept hx hg ?_
  cases hb : x.ownBlock with
  | none => exact .inl rfl
  | some g => exact .inr (fun e => hx.ne_row ht g hb e.symm)
theorem OwnT.cells {w : World} {B n : Nat} {ad : Addr} {m : List (List Int)} {vs : List Value} {c : Nat} (h : OwnT w B (.slice (some ad) n c) m vs) : (∀ j u, vs[j]? = some u → w.cell? (ad.add j) = some u) ∧ (∀ u ∈ vs, u.oneCell' = true) := by
  have hl := h.len
  obtain ⟨ao, c', e, _, _, hc⟩ := ownsRow_read h.top
  cases e
  refine ⟨fun j u hj => ?_, fun u hu => ?_⟩
  · have hjl : j < vs.length := (List.getElem?_eq_some_iff.1 hj).1
    obtain ⟨b3, o3, e3, hc3⟩ := hc j (by omega)
    cases e3
    rw [Addr.add_lit, hc3, List.getD, hj]
    rfl
  · obtain ⟨i, hi, rfl⟩ := List.mem_iff_getElem.1 hu
    have := (h.rows i (by omega)).read
    rw [List.getD, List.getElem?_eq_getElem hi] at this
    obtain ⟨_, _, e, _⟩ := this
    rw [show vs[i] = (some vs[i]).getD undef from rfl, e]
    rfl
/-- a table behind which the rows of another one, younger, have been put -/
theorem OwnT.join {w w1 : World} {B B' : Nat} {v v' u : Value} {m k : List (List Int)} {vs us : List Value} (h : OwnT w B v m vs) (hk : OwnT w B' u k us) (hBB : B ≤ B')
    (hold : ∀ i, i < m.length → ∀ g, (vs.getD i undef).ownBlock = some g → g < B')
    (h1 : w1.ownsRow B 38 1 v' (m.length + k.length) (vs ++ us)) (kept : ∀ (x : Value) (ys : List Int), OwnI w B x ys → OwnI w1 B x ys) : OwnT w1 B v' (m ++ k) (vs ++ us) := by
  have hl := h.len
  have hl2 := hk.len
  have gl : ∀ i, i < m.length → (vs ++ us).getD i undef = vs.getD i undef := fun i hi => by
    simp only [List.getD]; rw [List.getElem?_append_left (by omega)]
  have grr : ∀ i, m.length ≤ i → (vs ++ us).getD i undef = us.getD (i - m.length) undef := fun i hi => by
    simp only [List.getD]; rw [List.getElem?_append_right (by omega), hl]
  refine ⟨by rw [List.length_append]; exact h1, fun i hi => ?_, fun i j hij hj g hg => ?_⟩
  · rw [List.length_append] at hi
    by_cases hi2 : i < m.length
    · rw [gl i hi2, gr_appl hi2]
      exact kept _ _ (h.rows i hi2)
    · rw [grr i (by omega), show i = m.length + (i - m.length) from by omega, gr_appr (by omega), show m.length + (i - m.length) - m.length = i - m.length from by omega]
      exact kept _ _ ((hk.rows (i - m.length) (by omega)).base hBB)
  · rw [List.length_append] at hj
    by_cases hj2 : j < m.length
    · rw [gl i (by omega)] at hg
      rw [gl j hj2]
      exact h.apart i j hij hj2 g hg
    · rw [grr j (by omega)]
      by_cases hi2 : i < m.length
      · rw [gl i hi2] at hg
        intro hg2
        have a := hold i hi2 g hg
        have b := ((hk.rows (j - m.length) (by omega)).lt g hg2).1
        omega
      · rw [grr i (by omega)] at hg
        exact hk.apart (i - m.length) (j - m.length) (by omega) (by omega) g hg

/-- a number is appended to a row -/
theorem wpList_numT {w : World} {ops : Array Oper} {rest : List Oper} {o : Oper} {a : Act} {Q : Exit → Act → World → Prop} (hgd : o.guard = none) (s x : Operand)
    (ho : o.op = .call { callee := .builtin .append, args := #[s, x], argTypes := #[38, 38] })
    (B : Nat) (v : Value) (xs : List Int) (y : Int) (h : OwnI w B v xs) (hs : a.eval s = v) (hx : a.eval x = .slice (some ⟨w.heap.size, 0, none⟩) 1 1) (hB : B ≤ w.heap.size) (hl : xs.length < 1048576)
    (K : ∀ v' w1, OwnI w1 B v' (xs ++ [y]) → Below B w w1 → wpList Try.prog ops Q rest (a.put o.dst v') w1) : wpList Try.prog ops Q (o :: rest) a (w.alloc (.cells #[.int .i64 y] 3)) := by
  obtain ⟨i0, hi, hz0, hz1, hz2⟩ := info_parts Try.info_int
  refine wpList_append_own _ hgd s x 38 ho B 3 i0 (.int .i64 0) 1 8 Try.underlying38 hi hz0 hz1 hz2 rfl (by decide) v xs.length _ hs (World.ownsRow.alloc h _) ⟨w.heap.size, 0, none⟩ 1 1 [.int .i64 y] hx rfl ?_ ?_ (by unfold maxLen; omega) (by omega) (by simp; omega) ?_
  · exact cell_one_new _ _ _
  · intro u hu; simp at hu; subst hu; rfl
  · intro v' w1 h1 h2 _
    have := h.snoc hB h1 h2
    exact K v' w1 this.1 this.2

/-- a row is appended to a table -/
theorem wpList_rowT {w : World} {ops : Array Oper} {rest : List Oper} {o : Oper} {a : Act} {Q : Exit → Act → World → Prop} (hgd : o.guard = none) (s x : Operand)
    (ho : o.op = .call { callee := .builtin .append, args := #[s, x], argTypes := #[22, 22] })
    (B : Nat) (v u : Value) (m : List (List Int)) (vs : List Value) (row : List Int) (h : OwnT w B v m vs) (hu : OwnI w B u row) (hs : a.eval s = v) (hx : a.eval x = .slice (some ⟨w.heap.size, 0, none⟩) 1 1)
    (hne : ∀ j, j < m.length → ∀ g, (vs.getD j undef).ownBlock = some g → u.ownBlock ≠ some g) (hB : B ≤ w.heap.size) (hl : m.length < 1048576)
    (K : ∀ v' w1, OwnT w1 B v' (m ++ [row]) (vs ++ [u]) → OwnI w1 B u row → Below B w w1 → wpList Try.prog ops Q rest (a.put o.dst v') w1) : wpList Try.prog ops Q (o :: rest) a (w.alloc (.cells #[u] 38)) := by
  obtain ⟨j0, hj, hy0, hy1, hy2⟩ := info_parts Try.info_ints
  refine wpList_append_own _ hgd s x 22 ho B 38 j0 (.slice none 0 0) 1 24 Try.underlying22 hj hy0 hy1 hy2 rfl (by decide) v m.length _ hs (World.ownsRow.alloc h.top _) ⟨w.heap.size, 0, none⟩ 1 1 [u] hx rfl ?_ ?_ (by unfold maxLen; omega) (by omega) (by simp; omega) ?_
  · exact cell_one_new _ _ _
  · intro z hz; simp at hz; subst hz; obtain ⟨_, _, e, _⟩ := hu.read; rw [e]; rfl
  · intro v' w1 h1 h2 _
    have ho : OwnT (w.alloc (.cells #[u] 38)) B v m vs := OwnP.below h ((Below.refl _ _).alloc (Nat.le_refl _) _)
    have hu2 : OwnI (w.alloc (.cells #[u] 38)) B u row := hu.below ((Below.refl _ _).alloc (Nat.le_refl _) _)
    have hkept : ∀ (x : Value) (ys : List Int), OwnI w B x ys → OwnI w1 B x ys := fun x ys hx => (hx.below ((Below.refl _ _).alloc (Nat.le_refl _) (.cells #[u] 38))).kept_tab ho.top h2
    refine K v' w1 ?_ (hkept _ _ hu) (Below.grown ((Below.refl B w).alloc hB _) h2 (by simp; omega) (fun k hk => (World.ownsRow.lt h.top k hk).1))
    have hlv := h.len
    have gl : ∀ i, i < m.length → (vs ++ [u]).getD i undef = vs.getD i undef := fun i hi => by
      simp only [List.getD]; rw [List.getElem?_append_left (by omega)]
    have gu : (vs ++ [u]).getD m.length undef = u := by
      simp only [List.getD]; rw [List.getElem?_append_right (by omega), hlv]; simp
    refine ⟨by rw [List.length_append]; exact h1, fun i hi => ?_, fun i j hij hj g hg => ?_⟩
    · rw [List.length_append, List.length_singleton] at hi
      by_cases hi2 : i < m.length
      · rw [gl i hi2, gr_appl hi2]
        exact hkept _ _ (h.rows i hi2)
      · obtain rfl : i = m.length := by omega
        have e : gr (m ++ [row]) m.length = row := by
          have := gr_appr (m := m) (k := [row]) (i := 0) (by simp)
          rw [Nat.add_zero] at this
          exact this
        rw [gu, e]
        exact hkept _ _ hu
    · rw [List.length_append, List.length_singleton] at hj
      rw [gl i (by omega)] at hg
      by_cases hj2 : j < m.length
      · rw [gl j hj2]
        exact h.apart i j hij hj2 g hg
      · obtain rfl : j = m.length := by omega
        rw [gu]
        exact hne i (by omega) g hg

/-- the rows of a younger table are appended to a table -/
theorem wpList_rowsT {w : World} {ops : Array Oper} {rest : List Oper} {o : Oper} {a : Act} {Q : Exit → Act → World → Prop} (hgd : o.guard = none) (s x : Operand)
    (ho : o.op = .call { callee := .builtin .append, args := #[s, x], argTypes := #[22, 22] })
    (B B' : Nat) (v u : Value) (m k : List (List Int)) (vs us : List Value) (h : OwnT w B v m vs) (hk : OwnT w B' u k us) (hs : a.eval s = v) (hx : a.eval x = u) (hBB : B ≤ B') (hold : ∀ i, i < m.length → ∀ g, (vs.getD i undef).ownBlock = some g → g < B')
    (hB : B ≤ w.heap.size) (hl : m.length + k.length ≤ 1048576)
    (K : ∀ v' w1, OwnT w1 B v' (m ++ k) (vs ++ us) → Below B w w1 → wpList Try.prog ops Q rest (a.put o.dst v') w1) : wpList Try.prog ops Q (o :: rest) a w := by
  obtain ⟨j0, hj, hy0, hy1, hy2⟩ := info_parts Try.info_ints
  obtain ⟨sa, sc, rfl, _, _, _⟩ := hk.read
  cases sa with
  | none =>
    have hM0 : k = [] ∧ sc = 0 := by
      rcases hk.top.2 with ⟨h1, h2⟩ | ⟨g, cap, cur, h1, _⟩
      · simp at h1; exact ⟨List.eq_nil_of_length_eq_zero h2, h1.2⟩
      · simp at h1
    obtain ⟨rfl, rfl⟩ := hM0
    have hus : us = [] := List.eq_nil_of_length_eq_zero hk.len
    subst hus
    refine wpList_append_own_none hgd s x 22 ho B 38 j0 1 Try.underlying22 hj v m.length vs hs h.top hx ?_
    exact K v w (by rw [List.append_nil, List.append_nil]; exact h) (Below.refl _ _)
  | some ad =>
    have hcl := hk.cells
    refine wpList_append_own _ hgd s x 22 ho B 38 j0 (.slice none 0 0) 1 24 Try.underlying22 hj hy0 hy1 hy2 rfl (by decide) v m.length vs hs h.top ad k.length sc us hx (by rw [hk.len]; omega) hcl.1 hcl.2 (by unfold maxLen; omega) (by omega) hB ?_
    intro v' w1 h1 h2 _
    exact K v' w1 (h.join hk hBB hold h1 (fun x ys hx => hx.kept_tab h.top h2)) (Below.grown (Below.refl _ _) h2 hB (fun k hk => (World.ownsRow.lt h.top k hk).1))
end Go.Proofs.Ytmkldodkpijfjaa

