/- Parts of proofs: contracts and plain facts. Conditions: as each says. -/
import Derived.Test.YtogkmfndfedfiaaK25
namespace Go.Proofs.Ytogkmfndfedfiaa
open Go.RowKit

set_option maxRecDepth 100000 in
set_option maxHeartbeats 1600000 in
theorem seriesFlips (n : Nat) (c : Nat → Nat → Int) (us : List (Value × List (Nat × Nat))) (ao : Option Addr) (k cp : Nat) (w : World) (hn : n ≤ 6) (hc : Crn n c) (hk : us.length = k) (hk2 : k ≤ 4096) (hp : ∀ u ∈ us, ∀ p ∈ u.2, inn n p)
    (hs : StepsAt w ao (us.map fun u => .iface 72 u.1)) (hm : ∀ u ∈ us, ∀ w', (method 245 72 u.1 "loop.example/g01123/impl.from").run Try.prog w' = .ok (161, u.1) w')
    (hcall : ∀ u ∈ us, ∀ c, Crn n c → ∀ w', Below w.heap.size w w' → Calls Try.prog 161 #[u.1, .agg (tc n (pad n (hOf c)))] w' fun e w2 => e = .returned (.agg (tc n (pad n (hOf (togL c u.2))))) ∧ Below w'.heap.size w' w2) :
    Calls Try.prog 163 #[.slice ao k cp, .agg (tc n (pad n (hOf c)))] w fun e w' => e = .returned (.agg (tc n (pad n (hOf (togL c (us.flatMap (·.2))))))) ∧ Below w.heap.size w w' := by
  have Hc := Lib.hid hc
  have Hk := Lib.hid hk
  have Hp := Lib.hid hp
  have Hs := Lib.hid hs
  have Hm := Lib.hid hm
  have Hcall := Lib.hid hcall
  clear hc hk hp hs hm hcall
  go_enter Try.func163, Try.ntmps163
  go_upto_region 1 with (first | (refine wpList_boxT rfl 54 _ rfl _ rfl ?_) | (refine wpList_allocT rfl 54 rfl _ _ Try.info_terr ?_))
  generalize hW : World.alloc (World.alloc w _) _ = w1
  have hT : TerrAt w1 w.heap.size n (pad n (hOf c)) := by rw [← hW]; exact two_bot w _ _ _
  have hR : TerrAt w1 (w.heap.size + 1) 0 z0 := by rw [← hW]; exact two_top w _ _ _
  have hB : Below w.heap.size w w1 := by rw [← hW]; exact two_below w _ _
  clear hW
  have HT := Lib.hid hT
  have HR := Lib.hid hR
  have HB := Lib.hid hB
  clear hT hR hB
  go_wp2
  go_loopw [9] (fun i wr => ∃ t : Nat, t ≤ k ∧ i = .int .i64 t ∧ TerrAt wr w.heap.size n (pad n (hOf (togL c ((us.take t).flatMap (·.2))))) ∧ TerrAt wr (w.heap.size + 1) 0 z0 ∧ Below w.heap.size w wr) (fun i _ => k - (intOf i).toNat)
  case atStart => exact ⟨0, Nat.zero_le _, rfl, HT.out, HR.out, HB.out⟩
  case round =>
    obtain ⟨t, ht, rfl, hT, hR, hbr⟩ := hrel
    have Hbr := Lib.hid hbr
    have HZr := Lib.hid hbr.size
    have HTr := Lib.hid hT
    have HRr := Lib.hid hR
    clear hT hR HT HR HB
    by_cases hlt : t < k
    · have hlt' : t < us.length := by rw [Hk.out]; exact hlt
      obtain ⟨b, o, rfl, hcell⟩ := Hs.out.below hbr t (by rw [List.length_map]; exact hlt')
      obtain ⟨u, huv⟩ : ∃ u, u = us[t] := ⟨_, rfl⟩
      have hmem : u ∈ us := by rw [huv]; exact List.getElem_mem _
      have hu : (us.map fun u => Value.iface 72 u.1).getD t undef = .iface 72 u.1 := by rw [huv]; simp [List.getD, hlt']
      rw [hu] at hcell
      have hstep : (us.take (t + 1)).flatMap (·.2) = (us.take t).flatMap (·.2) ++ u.2 := by rw [List.take_add_one, List.getElem?_eq_getElem hlt', List.flatMap_append, ← huv]; simp
      have hcr : Crn n (togL c ((us.take t).flatMap (·.2))) := Hc.out.togL _ (fun q hq => by
        obtain ⟨v, hv, hq2⟩ := List.mem_flatMap.1 hq
        exact Hp.out v (List.mem_of_mem_take hv) q hq2)
      have hcall := fun w' (hb : Below wr.heap.size wr w') => Hcall.out u hmem _ hcr w' (hbr.trans (hb.mono hbr.size))
      rw [← togL_append, ← hstep] at hcall
      have Hcl := Lib.hid hcall
      have hm := fun w' => Hm.out u hmem w'
      obtain ⟨rv, hrv⟩ : ∃ rv, rv = u.1 := ⟨_, rfl⟩
      rw [← hrv] at hm hcell Hcl
      obtain ⟨F, hF⟩ : ∃ F, F = pad n (hOf (togL c ((us.take (t + 1)).flatMap (·.2)))) := ⟨_, rfl⟩
      rw [← hF] at Hcl
      have HF := Lib.hid hF
      clear hlt' huv hmem hu hstep hcr hcall hbr hrv hF
      go_wp2_with (refine wpList_loadG rfl 54 _ rfl w.heap.size rfl _ _ HTr.out Try.underlying54 rfl (Try.size_terr _ _) ?_)
      refine (Hcl.out _ (Below.refl _ _)).mono ?_
      rintro e w2 ⟨rfl, hb2⟩
      have HT2 := Lib.hid (HTr.out.below hb2)
      have HR2 := Lib.hid (HRr.out.below hb2)
      have Hb2 := Lib.hid (Hbr.out.trans (hb2.mono HZr.out))
      have hR3 : TerrAt (w2.setRow w.heap.size (tc n F)) (w.heap.size + 1) 0 z0 := by
        unfold TerrAt
        rw [Go.setRow_other w2 _ _ _ (by omega)]
        exact HR2.out
      have HR3 := Lib.hid hR3
      have HT3 := Lib.hid (HT2.out.setRow n F)
      have Hb3 := Lib.hid (below_setRowT Hb2.out (Nat.le_refl _) (tc n F))
      clear hb2 hm hR3
      go_wp2_with (refine wpList_storeG rfl 54 _ _ rfl w.heap.size (tc n F) _ rfl rfl HT2.out (Try.size_terr _ _) (tc_same _ _ _ _) (tc_one _ _) ?_)
      go_roundw
      case rel => exact ⟨t + 1, by omega, by go_num, by rw [← HF.out]; exact HT3.out, HR3.out, Hb3.out⟩
      case measure => simp [intOf]; omega
    · obtain rfl : t = k := by omega
      have hfin : us.take t = us := by rw [← Hk.out]; exact List.take_length
      rw [hfin] at HTr
      obtain ⟨F, hF⟩ : ∃ F, F = pad n (hOf (togL c (us.flatMap (·.2)))) := ⟨_, rfl⟩
      rw [← hF] at HTr
      have HF := Lib.hid hF
      clear hfin hbr hF
      go_wp2_with (first
        | (refine wpList_loadG rfl 54 _ rfl w.heap.size rfl _ _ HTr.out Try.underlying54 rfl (Try.size_terr _ _) ?_)
        | (refine wpList_storeG rfl 54 _ _ rfl (w.heap.size + 1) (tc n F) _ rfl rfl HRr.out (Try.size_terr _ _) (tc_same _ _ _ _) (tc_one _ _) ?_))
      refine bodyPost_ret (v := .agg (tc n F)) ?_ rfl ⟨by rw [HF.out], below_setRowT Hbr.out (by omega) (tc n F)⟩
      exact results_cell_one (p := 4) rfl _ _ (w.heap.size + 1) _ rfl (Try.load_terr (HRr.out.setRow n F))
end Go.Proofs.Ytogkmfndfedfiaa

