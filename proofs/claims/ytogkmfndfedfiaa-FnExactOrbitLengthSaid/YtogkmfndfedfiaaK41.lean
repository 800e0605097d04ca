/- Parts of proofs: contracts and plain facts. Conditions: as each says. -/
import Derived.Test.YtogkmfndfedfiaaK40
namespace Go.Proofs.Ytogkmfndfedfiaa
open Go.RowKit

theorem getD_set {xs : List Value} {i j : Nat} {x : Value} (h : i < xs.length) : (xs.set i x).getD j undef = if j = i then x else xs.getD j undef := by
  simp only [List.getD, List.getElem?_set]
  by_cases e : i = j
  · subst e; simp [h]
  · rw [if_neg e, if_neg (fun h => e h.symm)]

/-- the first t as toggles -/
def TogOf (ps : List (Nat × Nat)) (t : Nat) (xs : List Value) : Prop := ∀ j, j < t → xs.getD j undef = (ps.map tgv).getD j undef

set_option maxRecDepth 100000 in
set_option maxHeartbeats 1600000 in
theorem toggles_any (ps : List (Nat × Nat)) (ao : Option Addr) (k cp : Nat) (w : World) (hk : ps.length = k) (hk2 : k ≤ 4096) (hx : CellsAt w ao ps) :
    Calls Try.prog 101 #[.slice ao k cp] w fun e w' => ∃ so, e = .returned (.iface 78 (.slice so k k)) ∧ StepsAt w' so (ps.map tgv) ∧ Below w.heap.size w w' := by
  obtain ⟨i0, hi, hz0, hz1, hz2⟩ := info_parts Try.info_step
  have Hk := Lib.hid hk
  have Hx := Lib.hid hx
  clear hk hx
  go_enter Try.func101, Try.ntmps101
  go_wp2_with (at_make; refine wpList_make_full _ rfl _ _ 78 rfl w.heap.size 74 i0 .nilIface 1 Try.underlying78 hi hz0 hz1 _ _ _ _ k rfl rfl rfl rfl ?c1 ?c2 ?c3 ?_)
  case c1 => rw [hz2]; omega
  case c2 => unfold maxLen; omega
  case c3 => simp
  intro w1 hown hg
  have hb1 : Below w.heap.size w w1 := (Below.refl _ _).grown hg (Nat.le_refl _) (fun _ h => by cases h)
  have Hown := Lib.hid hown
  have Hb1 := Lib.hid hb1
  clear hown hg hb1
  go_wp2
  go_loopw [11] (fun i wr => ∃ (t : Nat) (xs : List Value), t ≤ k ∧ i = .int .i64 t ∧ wr.ownsRow w.heap.size 74 1 (.slice (some ⟨w.heap.size, 0, none⟩) k k) k xs ∧ TogOf ps t xs ∧ Below w.heap.size w wr) (fun i _ => k - (intOf i).toNat)
  case atStart => exact ⟨0, _, Nat.zero_le _, rfl, Hown.out, fun j hj => absurd hj (by omega), Hb1.out⟩
  case round =>
    obtain ⟨t, xs, ht, rfl, hown, htog, hbr⟩ := hrel
    have Htog := Lib.hid htog
    have Hbr := Lib.hid hbr
    have HZr := Lib.hid hbr.size
    clear htog Hown Hb1
    by_cases hlt : t < k
    · have hlt' : t < ps.length := by rw [Hk.out]; exact hlt
      obtain ⟨g, o, rfl, hr⟩ := (Hx.out.below hbr) t hlt'
      obtain ⟨p, hpv⟩ : ∃ p, p = ps[t] := ⟨_, rfl⟩
      rw [← hpv] at hr
      have Hpv := Lib.hid (show (ps.map tgv).getD t undef = tgv p by rw [hpv]; simp [List.getD, hlt'])
      have Hr := Lib.hid hr
      have hl : xs.length = k := by simpa using hown.1
      have Hl := Lib.hid hl
      have Hown := Lib.hid hown
      clear hlt' hpv hr hown hbr hl
      go_upto_region 5 with (first
        | (refine wpList_load_mid rfl 59 _ rfl g (o + t * 2) rfl (crow p) _ Hr.out Try.underlying59 rfl (Try.size_celll _ _) ?_)
        | (refine wpList_allocT rfl 59 rfl _ _ Try.info_cell ?_)
        | (refine wpList_storeT rfl 59 _ _ rfl (crow p).toArray (cl 0 0) wr.heap.size rfl rfl rfl (Try.size_cell p.1 p.2) rfl (crow_one p) ?_))
      generalize hW : World.alloc wr _ = w3
      have hC : CellAt w3 wr.heap.size p.1 p.2 := by rw [← hW]; exact heap_alloc_new wr _
      have hb3 : Below wr.heap.size wr w3 := by rw [← hW]; exact (Below.refl _ _).alloc (Nat.le_refl _) _
      clear hW
      have HC := Lib.hid hC
      have hown3 := ownsRow_below Hown.out hb3
      have Hb3 := Lib.hid (Hbr.out.trans (hb3.mono HZr.out))
      obtain ⟨old, hd⟩ : ∃ old, w3.cell? ⟨w.heap.size, t, none⟩ = some old := ⟨xs.getD t undef, by rw [World.ownsRow.cellAt hown3 t (by have := Hl.out; omega), List.getD, List.getElem?_eq_getElem (by have := Hl.out; omega)]; rfl⟩
      have hf := World.ownsRow.frozenAt hown3 t
      have Hst := Lib.hid (World.ownsRow.stored hown3 t (.iface 114 (.agg (cl p.1 p.2)))).1
      have Hbs := Lib.hid (Hb3.out.setCell (p := ⟨w.heap.size, t, none⟩) (Nat.le_refl _) (.iface 114 (.agg (cl p.1 p.2))))
      clear hC hown3 hb3
      go_wp2_with (refine wpList_loadG rfl 59 _ rfl wr.heap.size rfl (cl p.1 p.2) _ HC.out Try.underlying59 rfl (Try.size_cell p.1 p.2) ?_)
      go_roundw
      case rel =>
        refine ⟨t + 1, _, by omega, by go_num, Hst.out, fun j hj => ?_, Hbs.out⟩
        rw [getD_set (by rw [Hl.out]; exact hlt)]
        by_cases e : j = t
        · subst e
          rw [if_pos rfl, Hpv.out]
          rfl
        · rw [if_neg e]
          exact Htog.out j (by omega)
      case measure => simp [intOf]; omega
    · obtain rfl : t = k := by omega
      have hser : StepsAt wr (some ⟨w.heap.size, 0, none⟩) (ps.map tgv) := fun i hi => by
        have hi' : i < t := by rw [List.length_map, Hk.out] at hi; exact hi
        have hl : xs.length = t := by simpa using hown.1
        refine ⟨w.heap.size, 0, rfl, ?_⟩
        rw [Nat.zero_add, World.ownsRow.cellAt hown i (by omega), ← Htog.out i hi', List.getD, List.getElem?_eq_getElem (by omega)]
        rfl
      have Hser := Lib.hid hser
      clear hser hown hbr
      go_wp2
      go_ret
      exact ⟨_, rfl, Hser.out, Hbr.out⟩

/-- a series of toggles, applied to a terrain -/
theorem series_toggles (n : Nat) (c : Nat → Nat → Int) (ps : List (Nat × Nat)) (ao : Option Addr) (k cp : Nat) (w : World) (hn : n ≤ 6) (hc : Crn n c) (hk : ps.length = k) (hk2 : k ≤ 4096) (hp : ∀ p ∈ ps, inn n p) (hs : StepsAt w ao (ps.map tgv)) :
    Calls Try.prog 163 #[.slice ao k cp, .agg (tc n (pad n (hOf c)))] w fun e w' => e = .returned (.agg (tc n (pad n (hOf (togL c ps))))) ∧ Below w.heap.size w w' := by
  have h := seriesTog n c (ps.map fun p => (.agg (cl p.1 p.2), [p])) ao k cp w hn hc (by simpa using hk) hk2
    (fun u hu p' hp' => by obtain ⟨p, h, rfl⟩ := List.mem_map.1 hu; rw [List.mem_singleton.1 hp']; exact hp p h)
    (by rw [List.map_map]; exact hs)
    (fun u hu w' => by obtain ⟨p, _, rfl⟩ := List.mem_map.1 hu; exact method_toggle p.1 p.2 w')
    (fun u hu c' hc' w' _ => by obtain ⟨p, h, rfl⟩ := List.mem_map.1 hu; exact toggle_any n c' p.1 p.2 w' hn hc' (hp p h))
  rw [List.flatMap_map, show (ps.flatMap fun a => [a]) = ps from by simp] at h
  exact h
end Go.Proofs.Ytogkmfndfedfiaa

