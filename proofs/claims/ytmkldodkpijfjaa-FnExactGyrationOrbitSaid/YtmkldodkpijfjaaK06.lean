/- Parts of proofs: contracts and plain facts. Conditions: as each says. -/
import Derived.Test.YtmkldodkpijfjaaK05
import Derived.Deep.RegionWith
namespace Go.Proofs.Ytmkldodkpijfjaa
open Go.RowKit

set_option maxRecDepth 100000 in
set_option maxHeartbeats 1600000 in
theorem terrainOf_any (ao : Option Addr) (c : Nat) (m : List (List Int)) (w : World) (hg : good m) (hm : MatAt w ao m) (hc : m.length ≤ c) (hc2 : c ≤ 9223372036854775807) :
    Calls Try.prog 27 #[.slice ao m.length c] w fun e w' => e = .returned (.agg (tc m.length (pad m.length (hOf (S2 m))))) ∧ Below w.heap.size w w' := by
  have Hm := Lib.hid hm
  have hn := hg.1.2.1
  have hn1 := hg.1.1
  have Hg := Lib.hid hg
  clear hm hg
  go_enter Try.func27, Try.ntmps27
  go_upto_region 2 with (first | (refine wpList_allocT rfl 47 rfl _ _ Try.info_terr ?_) | (refine wpList_buildT1 rfl 47 0 _ rfl (.int .i64 _) rfl _ (Try.built_terr _) ?_) | (refine wpList_buildT0 rfl 47 rfl _ Try.built_terr0 ?_) | (refine wpList_boxT rfl 47 _ rfl _ rfl ?_) | (refine wpList_storeT rfl 47 _ _ rfl _ _ _ (by first | rfl | simp) rfl rfl (Try.size_terr _ _) (tc_same _ _ _ _) (tc_one _ _) ?_))
  generalize hW : World.alloc (World.alloc w _) _ = w1
  have hT : TerrAt w1 (w.heap.size + 1) m.length z0 := by rw [← hW]; exact two_top w _ _ _
  have hR : TerrAt w1 w.heap.size 0 z0 := by rw [← hW]; exact two_bot w _ _ _
  have hB : Below w.heap.size w w1 := by rw [← hW]; exact two_below w _ _
  clear hW
  have hh := hT.head
  have HT := Lib.hid hT
  have HR := Lib.hid hR
  have HB := Lib.hid hB
  clear hT hR hB
  go_wp2
  clear hh
  go_loopw [12] (fun i wr => ∃ (k : Nat) (f : Nat → Nat → Int), k ≤ m.length + 1 ∧ i = .int .i64 k ∧ TerrAt wr (w.heap.size + 1) m.length f ∧ TerrAt wr w.heap.size 0 z0 ∧
      (∀ a b, a < 7 → b < 7 → f a b = if a < k ∧ b ≤ m.length then hOf (S2 m) a b else 0) ∧ Below w.heap.size w wr) (fun i _ => m.length + 1 - (intOf i).toNat)
  case atStart => exact ⟨0, z0, Nat.zero_le _, rfl, HT.out, HR.out, fun a b _ _ => by rw [if_neg (by omega)]; rfl, HB.out⟩
  case round =>
    obtain ⟨k, f, hk, rfl, hT, hR, heq, hbr⟩ := hrel
    obtain ⟨wo, rfl⟩ : ∃ wo : World, wo = wr := ⟨_, rfl⟩
    clear HT HR HB
    by_cases hlt : k < m.length + 1
    · have hlt2 : (k : Int) < (m.length : Int) + 1 := by omega
      have hh := hT.head
      have HT := Lib.hid hT
      have HR := Lib.hid hR
      have HE := Lib.hid heq
      have HB := Lib.hid hbr
      clear hT hR heq hbr
      go_wp2
      clear hh
      go_loopw [18] (fun i wr => ∃ (t : Nat) (f : Nat → Nat → Int), t ≤ m.length + 1 ∧ i = .int .i64 t ∧ TerrAt wr (w.heap.size + 1) m.length f ∧ TerrAt wr w.heap.size 0 z0 ∧
          (∀ a b, a < 7 → b < 7 → f a b = if (a < k ∨ (a = k ∧ b < t)) ∧ b ≤ m.length then hOf (S2 m) a b else 0) ∧ Below w.heap.size w wr) (fun i _ => m.length + 1 - (intOf i).toNat)
      case atStart => exact ⟨0, f, Nat.zero_le _, rfl, HT.out, HR.out, fun a b ha hb => by rw [HE.out a b ha hb]; exact ite_iff (by omega), HB.out⟩
      case round =>
        obtain ⟨t, f2, ht, rfl, hT, hR, heq, hbr⟩ := hrel
        clear HT HR HE HB
        by_cases htl : t < m.length + 1
        · have htl2 : (t : Int) < (m.length : Int) + 1 := by omega
          obtain ⟨b0, o0, _, _, e0, _⟩ := Hm.out 0 (by omega)
          subst e0
          have hlen : (m.take k).length = k := by rw [List.length_take]; omega
          have hcall : ∀ w', Below wr.heap.size wr w' → Calls Try.prog 48 #[.slice (some ⟨b0, o0, none⟩) k c, .int .i64 (t : Int)] w' fun e w'' => e = .returned (.int .i64 (S2 m k t)) ∧ Below w'.heap.size w' w'' := by
            intro w' hw'
            have hc := sumOfBlock_any (some ⟨b0, o0, none⟩) c t (m.take k) w' ((Hg.out.tame (by omega)).take _) (((Hm.out.below hbr).below hw').take _)
            rw [hlen, bsum_take (by omega)] at hc
            exact hc
          have hsb := S2_bound Hg.out (show k ≤ m.length by omega) (show t ≤ m.length by omega)
          have hval : (k : Int) + t - 2 * S2 m k t = hOf (S2 m) k t := rfl
          have hfacts : ∀ w'', Below wr.heap.size wr w'' → w''.cell? ⟨w.heap.size + 1, 1 + k * 7 + t, none⟩ = some (.int .i64 (f2 k t)) ∧ w''.frozen? ⟨w.heap.size + 1, 1 + k * 7 + t, none⟩ = false ∧
              TerrAt (w''.setCell ⟨w.heap.size + 1, 1 + k * 7 + t, none⟩ (.int .i64 (hOf (S2 m) k t))) (w.heap.size + 1) m.length (upd f2 k t (hOf (S2 m) k t)) ∧
              TerrAt (w''.setCell ⟨w.heap.size + 1, 1 + k * 7 + t, none⟩ (.int .i64 (hOf (S2 m) k t))) w.heap.size 0 z0 ∧
              Below w.heap.size w (w''.setCell ⟨w.heap.size + 1, 1 + k * 7 + t, none⟩ (.int .i64 (hOf (S2 m) k t))) := by
            intro w'' hw''
            have h1 := hT.below hw''
            have h2 := hR.below hw''
            exact ⟨h1.cell (by omega) (by omega), h1.frozen _, h1.store (by omega) (by omega) _, h2.other (by simp) _, (hbr.trans (hw''.mono hbr.size)).setCell (Nat.le_succ _) _⟩
          rw [← hval] at hfacts
          generalize hs : S2 m k t = s at hcall hfacts hsb hval
          have Hcall := Lib.hid hcall
          have Hfacts := Lib.hid hfacts
          have Hval := Lib.hid hval
          have HE := Lib.hid heq
          clear hcall hfacts hval hT hR heq hbr hlen hs
          go_wp2
          go_region_with (go_at_call 48; refine (Hcall.out _ ?_).mono ?_; exact below_drewN (Below.refl _ _) 1; rintro e w2 ⟨rfl, hb2⟩; obtain ⟨hd0, hd1, hd2, hd3, hd4⟩ := Hfacts.out w2 ((below_drewN (Below.refl _ _) 1).trans hb2))
          all_goals
            have Hd2 := Lib.hid hd2
            have Hd3 := Lib.hid hd3
            have Hd4 := Lib.hid hd4
            clear hd0 hd1 hd2 hd3 hd4 hb2
            go_wp2
            go_roundw
            case rel =>
              refine ⟨t + 1, _, by omega, by go_num, Hd2.out, Hd3.out, fun a b ha hb => ?_, Hd4.out⟩
              unfold upd
              by_cases e : a = k ∧ b = t
              · rw [if_pos e, if_pos (by omega), Hval.out, e.1, e.2]
              · rw [if_neg e, HE.out a b ha hb]
                exact ite_iff (by omega)
            case measure => simp [intOf]; omega
        · obtain rfl : t = m.length + 1 := by omega
          have HT := Lib.hid hT
          have HR := Lib.hid hR
          have HE := Lib.hid heq
          have HB := Lib.hid hbr
          clear hT hR heq hbr
          go_wp2
          go_roundw
          case rel =>
            refine ⟨k + 1, _, by omega, by go_num, HT.out, HR.out, fun a b ha hb => ?_, HB.out⟩
            rw [HE.out a b ha hb]
            exact ite_iff (by omega)
          case measure => simp [intOf]; omega
    · obtain rfl : k = m.length + 1 := by omega
      have HT := Lib.hid (hT.congr (f' := pad m.length (hOf (S2 m))) fun a b ha hb => by rw [heq a b ha hb]; unfold pad; exact ite_iff (by omega))
      have HR := Lib.hid hR
      have HB := Lib.hid hbr
      clear hT hR heq hbr
      go_wp2_with (first | (refine wpList_loadG rfl 47 _ rfl _ rfl _ _ HT.out Try.underlying47 rfl (Try.size_terr _ _) ?_) | (refine wpList_storeG rfl 47 _ _ rfl _ _ _ rfl rfl HR.out (Try.size_terr _ _) (tc_same _ _ _ _) (tc_one _ _) ?_))
      have HR2 := Lib.hid (HR.out.setRow m.length (pad m.length (hOf (S2 m))))
      have HB2 := Lib.hid (below_setRowT HB.out (Nat.le_refl _) (tc m.length (pad m.length (hOf (S2 m)))))
      refine bodyPost_ret (v := .agg (tc m.length (pad m.length (hOf (S2 m))))) ?_ rfl ⟨rfl, HB2.out⟩
      exact results_cell_one rfl _ _ w.heap.size _ rfl (Try.load_terr HR2.out)
end Go.Proofs.Ytmkldodkpijfjaa

