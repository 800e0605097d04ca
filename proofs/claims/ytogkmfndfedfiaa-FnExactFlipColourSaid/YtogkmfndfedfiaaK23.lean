/- Parts of proofs: contracts and plain facts. Conditions: as each says. -/
import Derived.Test.YtogkmfndfedfiaaK22
import Derived.Deep.RegionHeld
namespace Go.Proofs.Ytogkmfndfedfiaa
open Go.RowKit

/-- the matrix behind the toggles of all cells -/
def rwM (m : List (List Int)) : List (List Int) := gyM m (allCells m.length m.length)

set_option maxRecDepth 100000 in
set_option maxHeartbeats 1600000 in
theorem specRowWave_any (ao : Option Addr) (cp : Nat) (m : List (List Int)) (w : World) (hs : Small m) (hm : MatAt w ao m) :
    Calls Try.prog 51 #[.slice ao m.length cp] w fun e w' => MRes (good m) (rwM m) w' w.heap.size e ∧ Below w.heap.size w w' := by
  have Hs := Lib.hid hs
  have Hm := Lib.hid hm
  clear hs hm
  go_enter Try.func51, Try.ntmps51
  go_wp2_with fail
  refine (sgGood_any ao cp m w Hs.out Hm.out).mono ?_
  rintro e w1 ⟨ha, hb⟩
  have Hb := Lib.hid hb
  have HB := Lib.hid hb.size
  clear hb
  by_cases hg : good m
  · have Hg := Lib.hid hg
    have hn := hg.1.2.1
    have hn1 := hg.1.1
    clear hg
    obtain rfl := ha.is Hg.out
    clear ha
    go_wp2_with fail
    refine (heOf_any ao cp m w1 Hg.out (Hm.out.below Hb.out)).mono ?_
    rintro e w2 ⟨v, rfl, hv, hb2⟩
    obtain ⟨a1, c1, vs, rfl, hvo, hc1, hc2⟩ := hv.open
    rw [ht_len] at hvo hc1 ⊢
    obtain ⟨N, hN⟩ : ∃ N, N = m.length + 1 := ⟨_, rfl⟩
    rw [← hN] at hvo hc1 ⊢
    have HN := Lib.hid hN
    have Hvo := Lib.hid (show OwnP w2 w.heap.size (.slice a1 N c1) N (htT m.length (S2 m)) N vs from hvo.base HB.out)
    have Hb2 := Lib.hid (Hb.out.trans (hb2.mono HB.out))
    have HB2 := Lib.hid Hb2.out.size
    have Hcr := Lib.hid (good_crn Hg.out)
    have Hrw := Lib.hid (show rwM m = unC m.length (togL (S2 m) (allCells m.length m.length)) from rfl)
    obtain ⟨n, hnn⟩ : ∃ n, n = m.length := ⟨_, rfl⟩
    rw [← hnn] at hn hn1 Hcr HN Hvo Hrw ⊢
    have Hnn := Lib.hid hnn
    clear hN hvo hb2 hv hnn
    go_wp2
    go_loopw [4, 5] (fun h i wr => ∃ s : Nat, 1 ≤ s ∧ s ≤ n ∧ i = .int .i64 s ∧ h = .slice a1 N c1 ∧ OwnP wr w.heap.size (.slice a1 N c1) N (htT n (togL (S2 m) (allCells n s))) N vs ∧ Below w.heap.size w wr) (fun _ i _ => n - (intOf i).toNat)
    case atStart => exact ⟨1, by omega, hn1, rfl, rfl, by rw [allCells_one]; exact Hvo.out, Hb2.out⟩
    case round =>
      obtain ⟨s, hs1, hs, rfl, rfl, hown, hbr⟩ := hrel
      have Hown := Lib.hid hown
      have Hbr := Lib.hid hbr
      clear hown hbr
      by_cases hlt : s < n
      · go_wp2
        go_loopw [4, 6] (fun h j wr => ∃ t : Nat, 1 ≤ t ∧ t ≤ n ∧ j = .int .i64 t ∧ h = .slice a1 N c1 ∧ OwnP wr w.heap.size (.slice a1 N c1) N (htT n (togL (S2 m) (allCells n s ++ rowCells s t))) N vs ∧ Below w.heap.size w wr) (fun _ j _ => n - (intOf j).toNat)
        case atStart => exact ⟨1, by omega, hn1, by go_num, rfl, by rw [rowCells_one, List.append_nil]; exact Hown.out, Hbr.out⟩
        case round =>
          obtain ⟨t, ht1, ht, rfl, rfl, hown, hbr⟩ := hrel
          have Hown := Lib.hid hown
          have Hbr := Lib.hid hbr
          clear hown hbr
          by_cases htl : t < n
          · have Hcr2 := Lib.hid (Hcr.out.togL (allCells n s ++ rowCells s t) (cells_inn hs ht hs1 hlt))
            go_wp2_with fail
            refine (gyToggle_any n N w.heap.size c1 s t a1 vs _ wr HN.out hn Hcr2.out ⟨hs1, hlt, ht1, htl⟩ Hbr.out.size Hown.out).mono ?_
            rintro e w3 ⟨rfl, ho, hb3⟩
            have Ho := Lib.hid ho
            have Hb3 := Lib.hid (Hbr.out.trans hb3)
            clear ho hb3
            go_wp2
            go_roundw
            case rel => exact ⟨t + 1, by omega, by omega, by go_num, rfl, by rw [rowCells_succ s t ht1, ← List.append_assoc, togL_snoc]; exact Ho.out, Hb3.out⟩
            case measure => simp [intOf]; omega
          · obtain rfl : t = n := by omega
            go_wp2
            go_roundw
            case rel => exact ⟨s + 1, by omega, by omega, by go_num, rfl, by rw [allCells_succ _ s hs1]; exact Hown.out, Hbr.out⟩
            case measure => simp [intOf]; omega
      · obtain rfl : s = n := by omega
        have Hcr2 := Lib.hid (Hcr.out.togL (allCells s s) allCells_inn)
        have hcall := heFrom_any a1 c1 s (togL (S2 m) (allCells s s)) wr Hcr2.out hn1 hn (Hown.out.at (by rw [htT_len, HN.out]))
        rw [← HN.out, ← Hrw.out] at hcall
        have Hcall := Lib.hid hcall
        clear hcall
        go_wp2_with fail
        refine Hcall.out.mono ?_
        rintro e w4 ⟨v, rfl, hv, hb4⟩
        have Hv := Lib.hid (hv.base Hbr.out.size)
        have Hb4 := Lib.hid (Hbr.out.trans (hb4.mono Hbr.out.size))
        clear hv hb4
        go_wp2
        go_ret2
        exact ⟨MRes.yes Hg.out Hv.out, Hb4.out⟩
  · have Hg := Lib.hid hg
    clear hg
    obtain rfl := ha.isnt Hg.out
    clear ha
    go_wp2
    go_ret2
    exact ⟨MRes.no Hg.out, Hb.out⟩
end Go.Proofs.Ytogkmfndfedfiaa

namespace Go.Proofs.Ytogkmfndfedfiaa
open Go.RowKit

set_option maxRecDepth 100000 in
set_option maxHeartbeats 1600000 in
theorem seriesTog (n : Nat) (c : Nat → Nat → Int) (us : List (Value × List (Nat × Nat))) (ao : Option Addr) (k cp : Nat) (w : World) (hn : n ≤ 6) (hc : Crn n c) (hk : us.length = k) (hk2 : k ≤ 4096) (hp : ∀ u ∈ us, ∀ p ∈ u.2, inn n p)
    (hs : StepsAt w ao (us.map fun u => .iface 114 u.1)) (hm : ∀ u ∈ us, ∀ w', (method 245 114 u.1 "loop.example/g01123/impl.from").run Try.prog w' = .ok (162, u.1) w')
    (hcall : ∀ u ∈ us, ∀ c, Crn n c → ∀ w', Below w.heap.size w w' → Calls Try.prog 162 #[u.1, .agg (tc n (pad n (hOf c)))] w' fun e w2 => e = .returned (.agg (tc n (pad n (hOf (togL c u.2))))) ∧ Below w'.heap.size w' w2) :
    Calls Try.prog 163 #[.slice ao k cp, .agg (tc n (pad n (hOf c)))] w fun e w' => e = .returned (.agg (tc n (pad n (hOf (togL c (us.flatMap (·.2))))))) ∧ Below w.heap.size w w' := by
  have Hc := Lib.hid hc
  have Hk := Lib.hid hk
  have Hp := Lib.hid hp
  have Hs := Lib.hid hs
  have Hm := Lib.hid hm
  have Hcall := Lib.hid hcall
  clear hc hk hp hs hm hcall
  go_enter Try.func163, Try.ntmps163
  go_upto_region 1 with (first | (refine wpList_boxT rfl 54 _ rfl _ rfl ?_) | (refine wpList_allocT rfl 54 rfl _ _ Try.info_terr ?_))
  generalize hW : World.alloc (World.alloc w _) _ = w1
  have hT : TerrAt w1 w.heap.size n (pad n (hOf c)) := by rw [← hW]; exact two_bot w _ _ _
  have hR : TerrAt w1 (w.heap.size + 1) 0 z0 := by rw [← hW]; exact two_top w _ _ _
  have hB : Below w.heap.size w w1 := by rw [← hW]; exact two_below w _ _
  clear hW
  have HT := Lib.hid hT
  have HR := Lib.hid hR
  have HB := Lib.hid hB
  clear hT hR hB
  go_wp2
  go_loopw [9] (fun i wr => ∃ t : Nat, t ≤ k ∧ i = .int .i64 t ∧ TerrAt wr w.heap.size n (pad n (hOf (togL c ((us.take t).flatMap (·.2))))) ∧ TerrAt wr (w.heap.size + 1) 0 z0 ∧ Below w.heap.size w wr) (fun i _ => k - (intOf i).toNat)
  case atStart => exact ⟨0, Nat.zero_le _, rfl, HT.out, HR.out, HB.out⟩
  case round =>
    obtain ⟨t, ht, rfl, hT, hR, hbr⟩ := hrel
    have Hbr := Lib.hid hbr
    have HZr := Lib.hid hbr.size
    have HTr := Lib.hid hT
    have HRr := Lib.hid hR
    clear hT hR HT HR HB
    by_cases hlt : t < k
    · have hlt' : t < us.length := by rw [Hk.out]; exact hlt
      obtain ⟨b, o, rfl, hcell⟩ := Hs.out.below hbr t (by rw [List.length_map]; exact hlt')
      obtain ⟨u, huv⟩ : ∃ u, u = us[t] := ⟨_, rfl⟩
      have hmem : u ∈ us := by rw [huv]; exact List.getElem_mem _
      have hu : (us.map fun u => Value.iface 114 u.1).getD t undef = .iface 114 u.1 := by rw [huv]; simp [List.getD, hlt']
      rw [hu] at hcell
      have hstep : (us.take (t + 1)).flatMap (·.2) = (us.take t).flatMap (·.2) ++ u.2 := by rw [List.take_add_one, List.getElem?_eq_getElem hlt', List.flatMap_append, ← huv]; simp
      have hcr : Crn n (togL c ((us.take t).flatMap (·.2))) := Hc.out.togL _ (fun q hq => by
        obtain ⟨v, hv, hq2⟩ := List.mem_flatMap.1 hq
        exact Hp.out v (List.mem_of_mem_take hv) q hq2)
      have hcall := fun w' (hb : Below wr.heap.size wr w') => Hcall.out u hmem _ hcr w' (hbr.trans (hb.mono hbr.size))
      rw [← togL_append, ← hstep] at hcall
      have Hcl := Lib.hid hcall
      have hm := fun w' => Hm.out u hmem w'
      obtain ⟨rv, hrv⟩ : ∃ rv, rv = u.1 := ⟨_, rfl⟩
      rw [← hrv] at hm hcell Hcl
      obtain ⟨F, hF⟩ : ∃ F, F = pad n (hOf (togL c ((us.take (t + 1)).flatMap (·.2)))) := ⟨_, rfl⟩
      rw [← hF] at Hcl
      have HF := Lib.hid hF
      clear hlt' huv hmem hu hstep hcr hcall hbr hrv hF
      go_wp2_with (refine wpList_loadG rfl 54 _ rfl w.heap.size rfl _ _ HTr.out Try.underlying54 rfl (Try.size_terr _ _) ?_)
      refine (Hcl.out _ (Below.refl _ _)).mono ?_
      rintro e w2 ⟨rfl, hb2⟩
      have HT2 := Lib.hid (HTr.out.below hb2)
      have HR2 := Lib.hid (HRr.out.below hb2)
      have Hb2 := Lib.hid (Hbr.out.trans (hb2.mono HZr.out))
      have hR3 : TerrAt (w2.setRow w.heap.size (tc n F)) (w.heap.size + 1) 0 z0 := by
        unfold TerrAt
        rw [Go.setRow_other w2 _ _ _ (by omega)]
        exact HR2.out
      have HR3 := Lib.hid hR3
      have HT3 := Lib.hid (HT2.out.setRow n F)
      have Hb3 := Lib.hid (below_setRowT Hb2.out (Nat.le_refl _) (tc n F))
      clear hb2 hm hR3
      go_wp2_with (refine wpList_storeG rfl 54 _ _ rfl w.heap.size (tc n F) _ rfl rfl HT2.out (Try.size_terr _ _) (tc_same _ _ _ _) (tc_one _ _) ?_)
      go_roundw
      case rel => exact ⟨t + 1, by omega, by go_num, by rw [← HF.out]; exact HT3.out, HR3.out, Hb3.out⟩
      case measure => simp [intOf]; omega
    · obtain rfl : t = k := by omega
      have hfin : us.take t = us := by rw [← Hk.out]; exact List.take_length
      rw [hfin] at HTr
      obtain ⟨F, hF⟩ : ∃ F, F = pad n (hOf (togL c (us.flatMap (·.2)))) := ⟨_, rfl⟩
      rw [← hF] at HTr
      have HF := Lib.hid hF
      clear hfin hbr hF
      go_wp2_with (first
        | (refine wpList_loadG rfl 54 _ rfl w.heap.size rfl _ _ HTr.out Try.underlying54 rfl (Try.size_terr _ _) ?_)
        | (refine wpList_storeG rfl 54 _ _ rfl (w.heap.size + 1) (tc n F) _ rfl rfl HRr.out (Try.size_terr _ _) (tc_same _ _ _ _) (tc_one _ _) ?_))
      refine bodyPost_ret (v := .agg (tc n F)) ?_ rfl ⟨by rw [HF.out], below_setRowT Hbr.out (by omega) (tc n F)⟩
      exact results_cell_one (p := 4) rfl _ _ (w.heap.size + 1) _ rfl (Try.load_terr (HRr.out.setRow n F))
end Go.Proofs.Ytogkmfndfedfiaa

namespace Go.Proofs.Ytogkmfndfedfiaa
open Go.RowKit

theorem getD_set {xs : List Value} {i j : Nat} {x : Value} (h : i < xs.length) : (xs.set i x).getD j undef = if j = i then x else xs.getD j undef := by
  simp only [List.getD, List.getElem?_set]
  by_cases e : i = j
  · subst e; simp [h]
  · rw [if_neg e, if_neg (fun h => e h.symm)]

/-- the first t as toggles -/
def TogOf (ps : List (Nat × Nat)) (t : Nat) (xs : List Value) : Prop := ∀ j, j < t → xs.getD j undef = (ps.map tgv).getD j undef

set_option maxRecDepth 100000 in
set_option maxHeartbeats 1600000 in
theorem toggles_any (ps : List (Nat × Nat)) (ao : Option Addr) (k cp : Nat) (w : World) (hk : ps.length = k) (hk2 : k ≤ 4096) (hx : CellsAt w ao ps) :
    Calls Try.prog 101 #[.slice ao k cp] w fun e w' => ∃ so, e = .returned (.iface 78 (.slice so k k)) ∧ StepsAt w' so (ps.map tgv) ∧ Below w.heap.size w w' := by
  obtain ⟨i0, hi, hz0, hz1, hz2⟩ := info_parts Try.info_step
  have Hk := Lib.hid hk
  have Hx := Lib.hid hx
  clear hk hx
  go_enter Try.func101, Try.ntmps101
  go_wp2_with (at_make; refine wpList_make_full _ rfl _ _ 78 rfl w.heap.size 74 i0 .nilIface 1 Try.underlying78 hi hz0 hz1 _ _ _ _ k rfl rfl rfl rfl ?c1 ?c2 ?c3 ?_)
  case c1 => rw [hz2]; omega
  case c2 => unfold maxLen; omega
  case c3 => simp
  intro w1 hown hg
  have hb1 : Below w.heap.size w w1 := (Below.refl _ _).grown hg (Nat.le_refl _) (fun _ h => by cases h)
  have Hown := Lib.hid hown
  have Hb1 := Lib.hid hb1
  clear hown hg hb1
  go_wp2
  go_loopw [11] (fun i wr => ∃ (t : Nat) (xs : List Value), t ≤ k ∧ i = .int .i64 t ∧ wr.ownsRow w.heap.size 74 1 (.slice (some ⟨w.heap.size, 0, none⟩) k k) k xs ∧ TogOf ps t xs ∧ Below w.heap.size w wr) (fun i _ => k - (intOf i).toNat)
  case atStart => exact ⟨0, _, Nat.zero_le _, rfl, Hown.out, fun j hj => absurd hj (by omega), Hb1.out⟩
  case round =>
    obtain ⟨t, xs, ht, rfl, hown, htog, hbr⟩ := hrel
    have Htog := Lib.hid htog
    have Hbr := Lib.hid hbr
    have HZr := Lib.hid hbr.size
    clear htog Hown Hb1
    by_cases hlt : t < k
    · have hlt' : t < ps.length := by rw [Hk.out]; exact hlt
      obtain ⟨g, o, rfl, hr⟩ := (Hx.out.below hbr) t hlt'
      obtain ⟨p, hpv⟩ : ∃ p, p = ps[t] := ⟨_, rfl⟩
      rw [← hpv] at hr
      have Hpv := Lib.hid (show (ps.map tgv).getD t undef = tgv p by rw [hpv]; simp [List.getD, hlt'])
      have Hr := Lib.hid hr
      have hl : xs.length = k := by simpa using hown.1
      have Hl := Lib.hid hl
      have Hown := Lib.hid hown
      clear hlt' hpv hr hown hbr hl
      go_upto_region 5 with (first
        | (refine wpList_load_mid rfl 59 _ rfl g (o + t * 2) rfl (crow p) _ Hr.out Try.underlying59 rfl (Try.size_celll _ _) ?_)
        | (refine wpList_allocT rfl 59 rfl _ _ Try.info_cell ?_)
        | (refine wpList_storeT rfl 59 _ _ rfl (crow p).toArray (cl 0 0) wr.heap.size rfl rfl rfl (Try.size_cell p.1 p.2) rfl (crow_one p) ?_))
      generalize hW : World.alloc wr _ = w3
      have hC : CellAt w3 wr.heap.size p.1 p.2 := by rw [← hW]; exact heap_alloc_new wr _
      have hb3 : Below wr.heap.size wr w3 := by rw [← hW]; exact (Below.refl _ _).alloc (Nat.le_refl _) _
      clear hW
      have HC := Lib.hid hC
      have hown3 := ownsRow_below Hown.out hb3
      have Hb3 := Lib.hid (Hbr.out.trans (hb3.mono HZr.out))
      obtain ⟨old, hd⟩ : ∃ old, w3.cell? ⟨w.heap.size, t, none⟩ = some old := ⟨xs.getD t undef, by rw [World.ownsRow.cellAt hown3 t (by have := Hl.out; omega), List.getD, List.getElem?_eq_getElem (by have := Hl.out; omega)]; rfl⟩
      have hf := World.ownsRow.frozenAt hown3 t
      have Hst := Lib.hid (World.ownsRow.stored hown3 t (.iface 114 (.agg (cl p.1 p.2)))).1
      have Hbs := Lib.hid (Hb3.out.setCell (p := ⟨w.heap.size, t, none⟩) (Nat.le_refl _) (.iface 114 (.agg (cl p.1 p.2))))
      clear hC hown3 hb3
      go_wp2_with (refine wpList_loadG rfl 59 _ rfl wr.heap.size rfl (cl p.1 p.2) _ HC.out Try.underlying59 rfl (Try.size_cell p.1 p.2) ?_)
      go_roundw
      case rel =>
        refine ⟨t + 1, _, by omega, by go_num, Hst.out, fun j hj => ?_, Hbs.out⟩
        rw [getD_set (by rw [Hl.out]; exact hlt)]
        by_cases e : j = t
        · subst e
          rw [if_pos rfl, Hpv.out]
          rfl
        · rw [if_neg e]
          exact Htog.out j (by omega)
      case measure => simp [intOf]; omega
    · obtain rfl : t = k := by omega
      have hser : StepsAt wr (some ⟨w.heap.size, 0, none⟩) (ps.map tgv) := fun i hi => by
        have hi' : i < t := by rw [List.length_map, Hk.out] at hi; exact hi
        have hl : xs.length = t := by simpa using hown.1
        refine ⟨w.heap.size, 0, rfl, ?_⟩
        rw [Nat.zero_add, World.ownsRow.cellAt hown i (by omega), ← Htog.out i hi', List.getD, List.getElem?_eq_getElem (by omega)]
        rfl
      have Hser := Lib.hid hser
      clear hser hown hbr
      go_wp2
      go_ret
      exact ⟨_, rfl, Hser.out, Hbr.out⟩

/-- a series of toggles, applied to a terrain -/
theorem series_toggles (n : Nat) (c : Nat → Nat → Int) (ps : List (Nat × Nat)) (ao : Option Addr) (k cp : Nat) (w : World) (hn : n ≤ 6) (hc : Crn n c) (hk : ps.length = k) (hk2 : k ≤ 4096) (hp : ∀ p ∈ ps, inn n p) (hs : StepsAt w ao (ps.map tgv)) :
    Calls Try.prog 163 #[.slice ao k cp, .agg (tc n (pad n (hOf c)))] w fun e w' => e = .returned (.agg (tc n (pad n (hOf (togL c ps))))) ∧ Below w.heap.size w w' := by
  have h := seriesTog n c (ps.map fun p => (.agg (cl p.1 p.2), [p])) ao k cp w hn hc (by simpa using hk) hk2
    (fun u hu p' hp' => by obtain ⟨p, h, rfl⟩ := List.mem_map.1 hu; rw [List.mem_singleton.1 hp']; exact hp p h)
    (by rw [List.map_map]; exact hs)
    (fun u hu w' => by obtain ⟨p, _, rfl⟩ := List.mem_map.1 hu; exact method_toggle p.1 p.2 w')
    (fun u hu c' hc' w' _ => by obtain ⟨p, h, rfl⟩ := List.mem_map.1 hu; exact toggle_any n c' p.1 p.2 w' hn hc' (hp p h))
  rw [List.flatMap_map, show (ps.flatMap fun a => [a]) = ps from by simp] at h
  exact h
end Go.Proofs.Ytogkmfndfedfiaa

namespace Go.Proofs.Ytogkmfndfedfiaa
open Go.RowKit

set_option maxRecDepth 100000 in
set_option maxHeartbeats 3200000 in
theorem implRowWave_any (ao : Option Addr) (c : Nat) (m : List (List Int)) (w : World) (hs : Small m) (hwf : WfM m) (hm : MatAt w ao m) (hc : m.length ≤ c) (hc2 : c ≤ 9223372036854775807) :
    Calls Try.prog 52 #[.slice ao m.length c] w fun e w' => MRes (good m) (rwM m) w' w.heap.size e ∧ Below w.heap.size w w' := by
  have Hs := Lib.hid hs
  have Hm := Lib.hid hm
  have Hwf := Lib.hid hwf
  clear hs hm hwf
  go_enter Try.func52, Try.ntmps52
  go_wp2_with fail
  refine (implIsSign_any ao c m w Hs.out Hwf.out Hm.out).mono ?_
  rintro e w1 ⟨ha, hb⟩
  have Hb := Lib.hid hb
  have HB := Lib.hid hb.size
  clear hb
  by_cases hg : good m
  · have Hg := Lib.hid hg
    have hn := hg.1.2.1
    have hn1 := hg.1.1
    have Hcr := Lib.hid (good_crn hg)
    have hsig : ∀ w', Calls Try.prog 73 #[.agg (tc m.length (pad m.length (hOf (togL (S2 m) (allCells m.length m.length)))))] w' fun e w2 => ∃ v, e = .returned v ∧ OwnM w2 w'.heap.size v (rwM m) ∧ Below w'.heap.size w' w2 := fun w' => signs_tog m (allCells m.length m.length) w' hg allCells_inn
    have Hsig := Lib.hid hsig
    clear hg hsig
    obtain rfl := ha.is Hg.out
    clear ha
    go_wp2_with fail
    refine (terrainOf_any ao c m w1 Hg.out (Hm.out.below Hb.out) hc hc2).mono ?_
    rintro e w2 ⟨rfl, hb2⟩
    have Hb2 := Lib.hid (Hb.out.trans (hb2.mono HB.out))
    have HB2 := Lib.hid Hb2.out.size
    obtain ⟨f, hf⟩ : ∃ f, f = pad m.length (hOf (S2 m)) := ⟨_, rfl⟩
    rw [← hf]
    have hser := fun (so : Option Addr) (k : Nat) (w' : World) (hk : (allCells m.length m.length).length = k) (hst : StepsAt w' so ((allCells m.length m.length).map tgv)) => series_toggles m.length (S2 m) (allCells m.length m.length) so k k w' hn Hcr.out hk (by have := allCells_all hn; omega) allCells_inn hst
    rw [← hf] at hser
    have Hser := Lib.hid hser
    clear hb2 hf hser
    go_upto_region 4 with (first
      | (refine wpList_allocT rfl 54 rfl _ _ Try.info_terr ?_)
      | (refine wpList_storeT rfl 54 _ _ rfl _ _ _ (by first | rfl | simp) rfl rfl (Try.size_terr _ _) (tc_same _ _ _ _) (tc_one _ _) ?_))
    generalize hW : World.alloc w2 _ = w3
    have hT : TerrAt w3 w2.heap.size m.length f := by rw [← hW]; exact TerrAt.new w2 _ _
    have hb3 : Below w2.heap.size w2 w3 := by rw [← hW]; exact (Below.refl _ _).alloc (Nat.le_refl _) _
    clear hW
    have HT := Lib.hid hT
    have Hb3 := Lib.hid (Hb2.out.trans (hb3.mono HB2.out))
    generalize w2.heap.size = g6 at hT HT ⊢
    clear hT hb3
    obtain ⟨k, hk⟩ : ∃ k, k = (allCells m.length m.length).length := ⟨_, rfl⟩
    have Hk := Lib.hid hk
    have hk36 : k ≤ 36 := by rw [hk]; exact allCells_all hn
    clear hk
    refine wp_region_held_drew (S := fun w' => TerrAt w' g6 m.length f ∧ Below w.heap.size w w') (by kernel_rfl) ⟨HT.out, below_drewN Hb3.out 1⟩ (fun hHeld => ?_)
    refine wpAnyH_take (i := 0) (oi := ⟨some 10, _, _, _, _, _⟩) (v := .agg (tl m.length f).toArray) rfl (by kernel_rfl) (by kernel_rfl) (by kernel_rfl) (fun _ _ _ h => h) (yieldsIf_load_mid (by rfl) _ _ rfl g6 0 rfl (tl m.length f) _ (fun w hw => hw.1.rangeT) Try.underlying54 rfl (Try.size_terrl m.length f)) hHeld ?_
    simp only [Act.put, List.setIfInBounds_toArray, List.set_cons_zero, List.set_cons_succ]
    refine wpAnyH_take (i := 3) (oi := ⟨some 13, _, _, _, _, _⟩) (v := .agg (tl m.length f).toArray) rfl (by kernel_rfl) (by kernel_rfl) (by kernel_rfl) (fun _ _ _ h => h) (yieldsIf_load_mid (by rfl) _ _ rfl g6 0 rfl (tl m.length f) _ (fun w hw => hw.1.rangeT) Try.underlying54 rfl (Try.size_terrl m.length f)) hHeld ?_
    simp only [Act.put, List.setIfInBounds_toArray, List.set_cons_zero, List.set_cons_succ]
    refine wpAnyH_ready (rs := [1]) (by kernel_rfl) (by simp) (AllReadyH.cons (o := ⟨some 11, _, _, _, _, _⟩) rfl (fun KK hKK => ?_) AllReadyH.nil)
    rw [if_pos (by rfl)]
    have Hheld := Lib.hid hHeld
    clear hHeld
    go_wp2_with (go_at_call 102; refine (cells_any m.length f _ hn1 hn).mono ?_; rintro e w4 ⟨v4, rfl, hv4, hb4⟩)
    refine hKK.out _ _ ⟨Hheld.out.1.below hb4, Hheld.out.2.trans (hb4.mono Hheld.out.2.size)⟩ (fun hHeld => ?_)
    clear Hheld hKK KK
    obtain ⟨a4, c4, rfl, _, _, hx4⟩ := hv4.read
    rw [← Hk.out]
    have Hx4 := Lib.hid hx4
    clear hv4 hx4 hb4
    refine wpAnyH_ready (rs := [2]) (by kernel_rfl) (by simp) (AllReadyH.cons (o := ⟨some 12, _, _, _, _, _⟩) rfl (fun KK hKK => ?_) AllReadyH.nil)
    rw [if_pos (by rfl)]
    have Hheld := Lib.hid hHeld
    clear hHeld
    go_wp2_with (go_at_call 101; refine (toggles_any (allCells m.length m.length) a4 k c4 _ Hk.out.symm (by omega) Hx4.out).mono ?_; rintro e w5 ⟨so, rfl, hst, hb5⟩)
    refine hKK.out _ _ ⟨Hheld.out.1.below hb5, Hheld.out.2.trans (hb5.mono Hheld.out.2.size)⟩ (fun hHeld => ?_)
    clear Hheld hKK KK
    have Hst := Lib.hid hst
    have hmt := fun w' => method_series so k k w'
    clear hst hb5
    refine wpAnyH_ready (rs := [4]) (by kernel_rfl) (by simp) (AllReadyH.cons (o := ⟨some 14, _, _, _, _, _⟩) rfl (fun KK hKK => ?_) AllReadyH.nil)
    rw [if_pos (by rfl)]
    have Hheld := Lib.hid hHeld
    clear hHeld
    go_wp2_with (go_at_call 163; refine (Hser.out so k _ Hk.out.symm Hst.out).mono ?_; rintro e w6 ⟨rfl, hb6⟩)
    refine hKK.out _ _ ⟨Hheld.out.1.below hb6, Hheld.out.2.trans (hb6.mono Hheld.out.2.size)⟩ (fun hHeld => ?_)
    clear Hheld hKK KK
    clear hb6
    refine wpAnyH_ready (rs := [5]) (by kernel_rfl) (by simp) (AllReadyH.cons (o := ⟨some 15, _, _, _, _, _⟩) rfl (fun KK hKK => ?_) AllReadyH.nil)
    rw [if_pos (by rfl)]
    have Hheld := Lib.hid hHeld
    clear hHeld
    go_wp2_with (go_at_call 73; refine (Hsig.out _).mono ?_; rintro e w7 ⟨v7, rfl, hv7, hb7⟩; have Hz6 := Lib.hid Hheld.out.2.size)
    refine hKK.out _ _ ⟨Hheld.out.1.below hb7, Hheld.out.2.trans (hb7.mono Hheld.out.2.size)⟩ (fun hHeld => ?_)
    clear Hheld hKK KK
    have Hv7 := Lib.hid (hv7.base Hz6.out)
    clear hv7 hb7
    refine wpAnyH_take (i := 6) (oi := ⟨some 2, _, _, _, _, _⟩) (v := v7) rfl (by kernel_rfl) (by kernel_rfl) (by kernel_rfl) (fun _ _ _ h => h) (Or.inl ⟨by rfl, ?y1⟩) hHeld ?_
    case y1 => intro w hSw; go_simp
    simp only [Act.put, List.setIfInBounds_toArray, List.set_cons_zero, List.set_cons_succ]
    refine wpAnyH_take (i := 7) (oi := ⟨some 3, _, _, _, _, _⟩) (v := .bool true) rfl (by kernel_rfl) (by kernel_rfl) (by kernel_rfl) (fun _ _ _ h => h) (Or.inl ⟨by rfl, ?y1⟩) hHeld ?_
    case y1 => intro w hSw; go_simp
    simp only [Act.put, List.setIfInBounds_toArray, List.set_cons_zero, List.set_cons_succ]
    refine wpAnyH_done (by kernel_rfl) ?_ _
    have Hfin := Lib.hid hHeld
    clear hHeld
    go_wp2
    go_ret2
    exact ⟨MRes.yes Hg.out Hv7.out, Hfin.out.2⟩
  · have Hg := Lib.hid hg
    clear hg
    obtain rfl := ha.isnt Hg.out
    clear ha
    go_wp2
    go_ret2
    exact ⟨MRes.no Hg.out, Hb.out⟩
end Go.Proofs.Ytogkmfndfedfiaa

namespace Go.Proofs.Ytogkmfndfedfiaa
open Go.RowKit

-- markIntS
set_option maxRecDepth 100000 in
set_option maxHeartbeats 400000 in
theorem markIntS_big (B : Nat) (ao : Option Addr) (c n : Nat) (q : Int) (xs : List Int) (w : World) (hn : n ≤ 1048576) (hq0 : 0 ≤ q) (hq1 : q ≤ 4000000000000) (hx : OwnI w B (.slice ao n c) xs) :
    Calls Try.prog 61 #[.slice ao n c, .int .i64 q] w fun e w' => e = .returned (.int .i64 (q + n)) ∧ OwnI w' B (.slice ao n c) (marks q n) ∧ OnlyW (fun g => (Value.slice ao n c).ownBlock = some g) w w' := by
  have hmx : n ≤ 9223372036854775807 := by omega
  have hxl := hx.len
  go_enter Try.func61, Try.ntmps61
  go_wp2
  go_loopw [1, 5] (fun kk i wr => ∃ (k : Nat) (ys : List Int), k ≤ n ∧ i = .int .i64 k ∧ kk = .int .i64 (q + k) ∧ OwnI wr B (.slice ao n c) ys ∧ (∀ j, j < k → gi ys j = q + j) ∧ OnlyW (fun g => (Value.slice ao n c).ownBlock = some g) w wr)
    (fun _ i _ => n - (intOf i).toNat)
  case atStart => exact ⟨0, xs, Nat.zero_le _, rfl, by simp, hx, fun j hj => absurd hj (by omega), OnlyW.refl _ _⟩
  case round =>
    obtain ⟨k, ys, hk, rfl, rfl, hown, heq, hbr⟩ := hrel
    by_cases hlt : k < n
    · obtain ⟨g, rfl, _, _⟩ := hown.isAt (by omega)
      have hd := hown.cellAt k hlt
      have hf := hown.frozenAt k
      have Hst := Lib.hid (hown.store k (q + k))
      have Hl := Lib.hid hown.len
      have Heq := Lib.hid heq
      have Hbs := Lib.hid (hbr.setCell (p := ⟨g, k, none⟩) rfl (.int .i64 (q + k)))
      clear heq hown hbr hx hxl
      go_wp2
      go_roundw
      case rel =>
        refine ⟨k + 1, _, by omega, by go_num, by go_num, Hst.out, fun j hj => ?_, Hbs.out⟩
        rw [gi_set (by rw [Hl.out]; exact hlt)]
        split
        · next e => rw [e]
        · exact Heq.out j (by omega)
      case measure => simp [intOf]; omega
    · obtain rfl : k = n := by omega
      go_wp2
      go_ret
      obtain rfl : ys = marks q k := ext_gi (by rw [hown.len, marks_len]) (fun j hj => by rw [hown.len] at hj; rw [heq j hj, gi_marks hj])
      exact ⟨rfl, hown, hbr⟩

-- markIntSS
set_option maxRecDepth 100000 in
set_option maxHeartbeats 400000 in
theorem markIntSS_big (B : Nat) (ao : Option Addr) (c : Nat) (q : Int) (m : List (List Int)) (vs : List Value) (w : World) (hs : Small m) (hq0 : 0 ≤ q) (hq1 : q ≤ 2000000000000) (hx : OwnP w B (.slice ao m.length c) m.length m m.length vs) :
    Calls Try.prog 22 #[.slice ao m.length c, .int .i64 q] w fun e w' => e = .returned (.int .i64 (q + tot m m.length)) ∧ OwnP w' B (.slice ao m.length c) m.length (markM q m) m.length vs ∧
      OnlyW (fun g => ∃ i, i < m.length ∧ (vs.getD i undef).ownBlock = some g) w w' := by
  have hn := hs.1
  have hmx : m.length ≤ 9223372036854775807 := by omega
  go_enter Try.func22, Try.ntmps22
  go_wp2
  go_loopw [1, 5] (fun kk i wr => ∃ k : Nat, k ≤ m.length ∧ i = .int .i64 k ∧ kk = .int .i64 (q + tot m k) ∧ wr.ownsRow B 41 1 (.slice ao m.length c) m.length vs ∧
      (∀ i, i < k → OwnI wr B (vs.getD i undef) (gr (markM q m) i)) ∧ (∀ i, k ≤ i → i < m.length → OwnI wr B (vs.getD i undef) (gr m i)) ∧ OnlyW (fun g => ∃ i, i < m.length ∧ (vs.getD i undef).ownBlock = some g) w wr)
    (fun _ i _ => m.length - (intOf i).toNat)
  case atStart => exact ⟨0, Nat.zero_le _, rfl, by simp [tot], hx.top, fun i hi => absurd hi (by omega), fun i _ hi => hx.rows i hi, OnlyW.refl _ _⟩
  case round =>
    obtain ⟨k, hk, rfl, rfl, htop, hlo, hhi, hbr⟩ := hrel
    by_cases hlt : k < m.length
    · obtain ⟨ao', c', hv', _, _, hcells⟩ := ownsRow_read htop
      obtain ⟨rfl, -, rfl⟩ := (Value.slice.injEq _ _ _ _ _ _).mp hv'
      obtain ⟨b, o, rfl, hc⟩ := hcells k hlt
      have hrow := hhi k (Nat.le_refl _) hlt
      obtain ⟨r, d, hr, h3, h4, _⟩ := hrow.read
      have Hr := Lib.hid hr
      rw [hr] at hc hrow
      have h2 := hs.2 k hlt
      have h5 := tot_big hs hk
      have Hs := Lib.hid hs
      have Hx := Lib.hid hx
      have Htop := Lib.hid htop
      have Hlo := Lib.hid hlo
      have Hhi := Lib.hid hhi
      have Hrow := Lib.hid hrow
      clear hs hx htop hlo hhi hr hcells hv' hrow
      go_wp2_with fail
      refine (markIntS_big B r d (gr m k).length _ _ wr h2 (by omega) (by omega) Hrow.out).mono ?_
      rintro e w2 ⟨rfl, hv, hb2⟩
      have e1 : q + (tot m k : Int) + ((gr m k).length : Int) = q + (tot m (k + 1) : Int) := by simp only [tot]; omega
      have h6 := tot_big Hs.out (show k + 1 ≤ m.length by omega)
      rw [e1]
      rw [← Hr.out] at hv hb2
      have Hv := Lib.hid hv
      have Hb2 := Lib.hid hb2
      clear e1 hv hb2
      go_wp2
      go_roundw
      case rel =>
        have hb2 := Hb2.out
        refine ⟨k + 1, by omega, by go_num, rfl, ?_, fun i hi => ?_, fun i hi1 hi2 => ?_, hbr.trans (hb2.mono (fun g hg => ⟨k, hlt, hg⟩))⟩
        · exact ownsRow_only Htop.out hb2 (fun g hg hg' => (Hhi.out k (Nat.le_refl _) hlt).ne_row Htop.out g hg' hg)
        · by_cases e : i = k
          · subst e
            rw [gr_markM hlt]
            exact Hv.out
          · exact ownsRow_only (Hlo.out i (by omega)) hb2 (fun g hg hg' => Hx.out.apart i k (by omega) hlt g hg hg')
        · exact ownsRow_only (Hhi.out i (by omega) hi2) hb2 (fun g hg hg' => Hx.out.apart k i (by omega) hi2 g hg' hg)
      case measure => simp [intOf]; omega
    · obtain rfl : k = m.length := by omega
      go_wp2
      go_ret
      exact ⟨rfl, ⟨htop, hlo, hx.apart⟩, hbr⟩


end Go.Proofs.Ytogkmfndfedfiaa

