/- Parts of proofs: contracts and plain facts. Conditions: as each says. -/
import Derived.Test.YtogkmfndfedfiaaK22
namespace Go.Proofs.Ytogkmfndfedfiaa
open Go.RowKit

theorem Try.info_toggle : (Try.prog.info? 114).map (fun i => (i.zero, i.size)) = some (some (.agg (cl 0 0)), 2) := by kernel_rfl
theorem Try.size_toggle (i j : Nat) : (Try.prog.info? 114).map (·.size) = some (cl i j).size := (zero_of_info Try.info_toggle).2
def TogAt (w : World) (g i j : Nat) : Prop := w.heap[g]? = some (.cells (cl i j) 114 (0, 0))
theorem TogAt.below {w w' : World} {g i j : Nat} (h : TogAt w g i j) (hb : Below w.heap.size w w') : TogAt w' g i j := by
  unfold TogAt
  rw [hb.block g (lt_of_block h)]
  exact h
theorem three_a {w : World} {A : Obj} {i j : Nat} {B : Obj} : TogAt (((w.alloc (.cells (cl i j) 114)).alloc A).alloc B) w.heap.size i j := by
  have h1 : TogAt (w.alloc (.cells (cl i j) 114)) w.heap.size i j := heap_alloc_new w _
  have h2 := h1.below ((Below.refl _ _).alloc (Nat.le_refl _) A)
  exact h2.below ((Below.refl _ _).alloc (Nat.le_refl _) B)

/-- the terrain of corner sums -/
def tv (n : Nat) (c : Nat → Nat → Int) : Value := .agg (tc n (pad n (hOf c)))

set_option maxRecDepth 100000 in
set_option maxHeartbeats 1600000 in
theorem toggle_any (n : Nat) (c : Nat → Nat → Int) (i j : Nat) (w : World) (hn : n ≤ 6) (hc : Crn n c) (hp : inn n (i, j)) :
    Calls Try.prog 162 #[.agg (cl i j), .agg (tc n (pad n (hOf c)))] w fun e w' => e = .returned (.agg (tc n (pad n (hOf (flipC c i j))))) ∧ Below w.heap.size w w' := by
  obtain ⟨hi1, hi2, hj1, hj2⟩ := hp
  simp only at hi1 hi2 hj1 hj2
  have hcall := fun w' => flipped_any n (pad n (hOf c)) i j w' hn hi1 hi2 hj1 hj2 (hc.near hn)
  rw [tc_congr (fun a b _ _ => pad_tog c (p := (i, j)) ⟨hi1, hi2, hj1, hj2⟩ a b)] at hcall
  obtain ⟨F, hF⟩ : ∃ F, F = pad n (hOf (flipC c i j)) := ⟨_, rfl⟩
  obtain ⟨f, hf⟩ : ∃ f, f = pad n (hOf c) := ⟨_, rfl⟩
  obtain ⟨bb, hbb⟩ : ∃ bb, bb = (way (pad n (hOf c)) i j != 0) := ⟨_, rfl⟩
  simp only at hcall
  rw [← hbb, ← hf, ← hF] at hcall
  rw [← hf, ← hF]
  have Hcall := Lib.hid hcall
  clear hcall hF hf hbb hc hi1 hi2 hj1 hj2
  go_enter Try.func162, Try.ntmps162
  go_upto_region 1 with (first | (refine wpList_boxT rfl 54 _ rfl _ rfl ?_) | (refine wpList_boxT rfl 114 _ rfl _ rfl ?_) | (refine wpList_allocT rfl 54 rfl _ _ Try.info_terr ?_))
  generalize hW : World.alloc (World.alloc (World.alloc w _) _) _ = w1
  have hT : TerrAt w1 (w.heap.size + 1) n f := by rw [← hW]; exact three_1 w _ _ _ _
  have hC : TogAt w1 w.heap.size i j := by rw [← hW]; exact three_a
  have hR : TerrAt w1 (w.heap.size + 2) 0 z0 := by rw [← hW]; exact three_top
  have hB : Below w.heap.size w w1 := by rw [← hW]; exact (two_below w _ _).alloc (by simp; omega) _
  clear hW
  have HT := Lib.hid hT
  have HC := Lib.hid hC
  have HR := Lib.hid hR
  have HB := Lib.hid hB
  have HZ := Lib.hid hB.size
  clear hT hC hR hB
  go_wp2_with (first
    | (refine wpList_loadG rfl 54 _ rfl (w.heap.size + 1) (by simp [Act.eval, Act.put]) _ _ HT.out Try.underlying54 rfl (Try.size_terr _ _) ?_)
    | (refine wpList_loadG rfl 114 _ rfl w.heap.size rfl _ _ HC.out Try.underlying114 rfl (Try.size_toggle _ _) ?_))
  refine (Hcall.out w1).mono ?_
  rintro e w3 ⟨rfl, hb⟩
  have HT3 := Lib.hid (HT.out.below hb)
  have HR3 := Lib.hid (HR.out.below hb)
  have HB3 := Lib.hid (HB.out.trans (hb.mono HZ.out))
  clear hb HT HR
  have hT4 : TerrAt (w3.setRow (w.heap.size + 1) (tc n F)) (w.heap.size + 1) n F := HT3.out.setRow n F
  have hR4 : TerrAt (w3.setRow (w.heap.size + 1) (tc n F)) (w.heap.size + 2) 0 z0 := by
    unfold TerrAt
    rw [Go.setRow_other w3 _ _ _ (by omega)]
    exact HR3.out
  have HT4 := Lib.hid hT4
  have HR4 := Lib.hid hR4
  have HB4 := Lib.hid (below_setRowT HB3.out (show w.heap.size ≤ w.heap.size + 1 by omega) (tc n F))
  clear hT4 hR4
  go_upto_region 2 with (refine wpList_storeG rfl 54 _ _ rfl (w.heap.size + 1) (tc n F) _ rfl rfl HT3.out (Try.size_terr _ _) (tc_same _ _ _ _) (tc_one _ _) ?_)
  generalize World.setRow w3 _ _ = w4 at HT4 HR4 HB4 ⊢
  go_wp2_with (first
    | (refine wpList_loadG rfl 54 _ rfl (w.heap.size + 1) rfl _ _ HT4.out Try.underlying54 rfl (Try.size_terr _ _) ?_)
    | (refine wpList_storeG rfl 54 _ _ rfl (w.heap.size + 2) (tc n F) _ rfl rfl HR4.out (Try.size_terr _ _) (tc_same _ _ _ _) (tc_one _ _) ?_))
  refine bodyPost_ret (v := .agg (tc n F)) ?_ rfl ⟨rfl, below_setRowT HB4.out (by omega) (tc n F)⟩
  exact results_cell_one (p := 4) rfl _ _ (w.heap.size + 2) _ rfl (Try.load_terr (HR4.out.setRow n F))

/-- a toggle as a value of the interface -/
def tgv (p : Nat × Nat) : Value := .iface 114 (.agg (cl p.1 p.2))
/-- steps that a slice leads to -/
def StepsAt (w : World) (ao : Option Addr) (us : List Value) : Prop := ∀ i, i < us.length → ∃ b o, ao = some ⟨b, o, none⟩ ∧ w.cell? ⟨b, o + i, none⟩ = some (us.getD i undef)
theorem StepsAt.below {w w' : World} {ao : Option Addr} {us : List Value} (h : StepsAt w ao us) (hb : Below w.heap.size w w') : StepsAt w' ao us := fun i hi => by
  obtain ⟨b, o, e, hc⟩ := h i hi
  exact ⟨b, o, e, cell_below hc hb⟩
theorem method_toggle (i j : Nat) (w : World) : (method 245 114 (.agg (cl i j)) "loop.example/g01123/impl.from").run Try.prog w = .ok (162, .agg (cl i j)) w := by kernel_rfl

end Go.Proofs.Ytogkmfndfedfiaa

