/- Parts of proofs: contracts and plain facts. Conditions: as each says. -/
import Derived.Test.YtmkldodkpijfjaaK14
import Derived.Deep.RegionWith
namespace Go.Proofs.Ytmkldodkpijfjaa
open Go.RowKit

/-- the signs behind toggles -/
theorem signs_tog (m : List (List Int)) (ps : List (Nat × Nat)) (w : World) (hg : good m) (hp : ∀ p ∈ ps, inn m.length p) :
    Calls Try.prog 29 #[.agg (tc m.length (pad m.length (hOf (togL (S2 m) ps))))] w fun e w' => ∃ v, e = .returned v ∧ OwnM w' w.heap.size v (gyM m ps) ∧ Below w.heap.size w w' := by
  have hcr := (good_crn hg).togL ps hp
  have hn := hg.1.2.1
  have h := signs_any m.length (pad m.length (hOf (togL (S2 m) ps))) w hg.1.1 hn (hcr.near hn).fits
  rwa [sgW_unC hcr hn (fun i j hi hj => by unfold pad; rw [if_pos ⟨hi, hj⟩])] at h

/-- a series of flips, applied to a terrain -/
theorem series_flips (n : Nat) (c : Nat → Nat → Int) (cols : List Int) (ao : Option Addr) (cp : Nat) (w : World) (hn1 : 1 ≤ n) (hn : n ≤ 6) (hc : Crn n c) (hk2 : cols.length ≤ 4096) (hs : StepsAt w ao (cols.map fv)) :
    Calls Try.prog 107 #[.slice ao cols.length cp, .agg (tc n (pad n (hOf c)))] w fun e w' => e = .returned (.agg (tc n (pad n (hOf (togL c (colsL n cols)))))) ∧ Below w.heap.size w w' := by
  have h := seriesFlips n c (cols.map fun col => (.int .i64 col, colL col (allCells n n))) ao cols.length cp w hn hc (by simp) hk2
    (fun u hu p hp => by obtain ⟨col, _, rfl⟩ := List.mem_map.1 hu; exact allCells_inn p (colL_mem hp))
    (by rw [List.map_map]; exact hs)
    (fun u hu w' => by obtain ⟨col, _, rfl⟩ := List.mem_map.1 hu; exact method_flip col w')
    (fun u hu c' hc' w' _ => by obtain ⟨col, _, rfl⟩ := List.mem_map.1 hu; exact flipOf_any n c' col w' hn1 hn hc')
  rw [List.flatMap_map] at h
  exact h

end Go.Proofs.Ytmkldodkpijfjaa

