/- Parts of proofs: contracts and plain facts. Conditions: as each says. -/
import Derived.Test.YtogkmfndfedfiaaK19
import Derived.Deep.MidRow
namespace Go.Proofs.Ytogkmfndfedfiaa
open Go.RowKit

/-- the cells of block g hold these from the head on, and may be written -/
def HoldsC (w : World) (g : Nat) (ds : List (Nat × Nat)) : Prop := ∀ t (h : t < ds.length), w.rangeAt g (t * 2) (crow ds[t]) ∧ w.there g (t * 2) 2
theorem below_setC {B b : Nat} {a : World} (hb : B ≤ b) : ∀ (vs : List Value) (o : Nat) {w : World}, Below B a w → Below B a (w.setCells b o vs)
  | [], _, _, h => h
  | v :: r, o, _, h => below_setC hb r (o + 1) (h.setCell (p := ⟨b, o, none⟩) hb v)
theorem crow_len (p : Nat × Nat) : (crow p).length = 2 := rfl
theorem HoldsC.below {w w' : World} {g : Nat} {ds : List (Nat × Nat)} (h : HoldsC w g ds) (hb : Below w.heap.size w w') : HoldsC w' g ds := fun t ht => by
  obtain ⟨h1, h2⟩ := h t ht
  refine ⟨fun j u hj => cell_below (h1 j u hj) hb, fun j hj => ?_⟩
  obtain ⟨h3, h4⟩ := h2 j hj
  obtain ⟨v, hv⟩ := Option.isSome_iff_exists.1 h3
  have hlt := World.block_lt_of_cell? _ _ hv
  refine ⟨by rw [cell_below hv hb]; rfl, ?_⟩
  rw [hb.frozen hlt]
  exact h4
theorem HoldsC.put {w : World} {g : Nat} {ds : List (Nat × Nat)} (h : HoldsC w g ds) {i : Nat} (hi : i < ds.length) (p : Nat × Nat) : HoldsC (w.setCells g (i * 2) (crow p)) g (ds.set i p) := fun t ht => by
  rw [List.length_set] at ht
  obtain ⟨h1, h2⟩ := h t ht
  refine ⟨?_, World.there_setCells h2 g (i * 2) (crow p)⟩
  rw [List.getElem_set]
  by_cases e : i = t
  · subst e
    rw [if_pos rfl]
    exact World.rangeAt_setCells_same w g (i * 2) (crow p) h2
  · rw [if_neg e]
    exact World.rangeAt_setCells_apart h1 g (i * 2) (crow p) (Or.inr (by rw [crow_len, crow_len]; omega))
theorem OwnC.holds {w : World} {B : Nat} {v : Value} {cs : List (Nat × Nat)} (h : OwnC w B v cs) (hl : 0 < cs.length) : ∃ g cap, v = .slice (some ⟨g, 0, none⟩) cs.length cap ∧ B ≤ g ∧ cs.length ≤ cap ∧ HoldsC w g cs := by
  rcases h.2 with ⟨rfl, h0⟩ | ⟨g, cap, cur, rfl, hg, hh, hn, hm, hs, ht⟩
  · omega
  · refine ⟨g, cap, rfl, hg, hn, fun t ht' => ⟨fun j u hj => ?_, fun j hj => ?_⟩⟩
    · have hj2 : j < 2 := (List.getElem?_eq_some_iff.1 hj).1
      rw [World.ownsRow.cellAt h _ (by omega)]
      have hc := crow_get cs t ht'
      rcases j with _ | j
      · exact hc.1.trans hj
      · obtain rfl : j = 0 := by omega
        exact hc.2.trans hj
    · refine ⟨?_, World.ownsRow.frozenAt h _⟩
      rw [World.ownsRow.cellAt h _ (by omega)]
      have hc := crow_get cs t ht'
      rcases j with _ | j
      · rw [Nat.add_zero, hc.1]; rfl
      · obtain rfl : j = 0 := by omega
        rw [hc.2]; rfl
theorem HoldsC.cells {w : World} {g k : Nat} {ds L : List (Nat × Nat)} (h : HoldsC w g ds) (hL : ds.take k = L) : CellsAt w (some ⟨g, 0, none⟩) L := fun t ht => by
  subst hL
  have ht2 : t < ds.length := by rw [List.length_take] at ht; omega
  refine ⟨g, 0, rfl, ?_⟩
  rw [Nat.zero_add, List.getElem_take]
  exact (h t ht2).1
/-- what lies behind is cleared: what lies before is as it was -/
theorem HoldsC.cut {w : World} {g k : Nat} {ds L : List (Nat × Nat)} (h : HoldsC w g ds) (hL : ds.take k = L) (vs : List Value) : HoldsC (w.setCells g (k * 2) vs) g L := fun t ht => by
  subst hL
  have ht2 : t < ds.length ∧ t < k := by rw [List.length_take] at ht; omega
  refine ⟨?_, World.there_setCells (h t ht2.1).2 g (k * 2) vs⟩
  rw [List.getElem_take]
  exact World.rangeAt_setCells_apart (h t ht2.1).1 g (k * 2) vs (Or.inr (Or.inl (by rw [crow_len]; omega)))
theorem HoldsC.all {w : World} {g : Nat} {ds : List (Nat × Nat)} (h : HoldsC w g ds) : CellsAt w (some ⟨g, 0, none⟩) ds := h.cells (k := ds.length) List.take_length

/-- a slice of cells that may be written, from block B on; it may have room behind them -/
def OwnK (w : World) (B : Nat) (v : Value) (cs : List (Nat × Nat)) : Prop :=
  ∃ ao cap, v = .slice ao cs.length cap ∧ cs.length ≤ cap ∧ cap ≤ 9223372036854775807 ∧ (cs = [] ∨ ∃ g, ao = some ⟨g, 0, none⟩ ∧ HoldsC w g cs) ∧ ∀ g o, ao = some ⟨g, o, none⟩ → B ≤ g
theorem OwnC.k {w : World} {B : Nat} {v : Value} {cs : List (Nat × Nat)} (h : OwnC w B v cs) : OwnK w B v cs := by
  obtain ⟨ao, cap, rfl, h1, h2, _⟩ := h.read
  refine ⟨ao, cap, rfl, h1, h2, ?_, fun g o e => ?_⟩
  · by_cases e : cs = []
    · exact .inl e
    · have hpos : 0 < cs.length := List.length_pos_iff.2 e
      obtain ⟨g, cap', e', _, _, hh⟩ := h.holds hpos
      simp only [Value.slice.injEq] at e'
      exact .inr ⟨g, e'.1, hh⟩
  · rcases h.2 with ⟨h0, _⟩ | ⟨g', cap', cur, hv, hg, _⟩
    · subst e; simp at h0
    · subst e
      simp only [Value.slice.injEq, Option.some.injEq, Addr.mk.injEq, and_true] at hv
      rw [hv.1.1]
      exact hg
theorem OwnK.cells {w : World} {B n cap : Nat} {ao : Option Addr} {cs : List (Nat × Nat)} (h : OwnK w B (.slice ao n cap) cs) : CellsAt w ao cs := by
  obtain ⟨ao', cap', e, _, _, hh, _⟩ := h
  simp only [Value.slice.injEq] at e
  obtain ⟨rfl, -, -⟩ := e
  rcases hh with rfl | ⟨g, rfl, hh⟩
  · exact fun t ht => absurd ht (by simp)
  · exact hh.all
theorem OwnK.below {w w' : World} {B : Nat} {v : Value} {cs : List (Nat × Nat)} (h : OwnK w B v cs) (hb : Below w.heap.size w w') : OwnK w' B v cs := by
  obtain ⟨ao, cap, e, h1, h2, hh, h3⟩ := h
  refine ⟨ao, cap, e, h1, h2, ?_, h3⟩
  rcases hh with h | ⟨g, e, hh⟩
  · exact .inl h
  · exact .inr ⟨g, e, hh.below hb⟩

theorem zero_cell (w : World) : (zeroValue 59).run Try.prog w = .ok (.agg (cl 0 0)) w := by kernel_rfl
theorem run_clear_cells (w : World) (ty : TypeId) (g i n c : Nat) (hn : 0 < n) (ht : w.there g (i * 2) (n * 2)) :
    ∃ vs, (Builtin.clear_ #[57] ty #[.slice (some ⟨g, i * 2, none⟩) n c]).run Try.prog w = .ok (.tuple #[]) (w.setCells g (i * 2) vs) := by
  have hlen : (Builtin.zeroCells (cl 0 0) n).toList.length = n * 2 := by simp [Builtin.zeroCells, cl]
  have hst := run_storeCells_cells (P := Try.prog) g (i * 2) (Builtin.zeroCells (cl 0 0) n).toList 0 w (fun j hj => (ht j (by rw [hlen] at hj; exact hj)).1) (fun j hj => (ht j (by rw [hlen] at hj; exact hj)).2)
    (by
      intro v hv
      simp only [Builtin.zeroCells, Array.toList_map, Array.toList_range, List.mem_map, List.mem_range] at hv
      obtain ⟨j, _, rfl⟩ := hv
      have : j % (cl 0 0).size = 0 ∨ j % (cl 0 0).size = 1 := by rw [show (cl 0 0).size = 2 from rfl]; omega
      rcases this with e | e <;> rw [e] <;> rfl)
  simp only [Nat.add_zero] at hst
  refine ⟨(Builtin.zeroCells (cl 0 0) n).toList, ?_⟩
  obtain ⟨m, rfl⟩ : ∃ m, n = m + 1 := ⟨n - 1, by omega⟩
  have hz := zero_cell w
  simp [Builtin.clear_, run_underlying Try.underlying57, hz, Value.cells, hst]

def NoneOf (del : Nat × Nat → Bool) (L : List (Nat × Nat)) : Prop := ∀ p ∈ L, del p = false
/-- the cells as they are while those that are struck are left out: L is kept of the first t, behind them lies what there was -/
structure DelInv (del : Nat × Nat → Bool) (cs : List (Nat × Nat)) (k t : Nat) (L ds : List (Nat × Nat)) : Prop where
  ht : t ≤ k
  hL : L = (cs.take t).filter (fun p => !del p)
  hlt : L.length < t
  hdl : ds.length = k
  hdt : ds.take L.length = L
  hdu : ∀ u, t ≤ u → ds[u]? = cs[u]?

/-- the first that is struck -/
def Found (del : Nat × Nat → Bool) (cs : List (Nat × Nat)) (e : Ending) : Prop :=
  (e = .returned (.int .i64 (-1)) ∧ ∀ p ∈ cs, del p = false) ∨ ∃ t, ∃ h : t < cs.length, e = .returned (.int .i64 (t : Int)) ∧ del cs[t] = true ∧ ∀ p ∈ cs.take t, del p = false
theorem keep_all {del : Nat × Nat → Bool} {cs : List (Nat × Nat)} (h : ∀ p ∈ cs, del p = false) : cs.filter (fun p => !del p) = cs := by
  rw [List.filter_eq_self]
  intro p hp
  rw [h p hp]
  rfl
theorem keep_snoc {del : Nat × Nat → Bool} {cs : List (Nat × Nat)} {t : Nat} (h : t < cs.length) : (cs.take (t + 1)).filter (fun p => !del p) = if del cs[t] then (cs.take t).filter (fun p => !del p) else (cs.take t).filter (fun p => !del p) ++ [cs[t]] := by
  rw [take_snoc h, List.filter_append]
  cases e : del cs[t] <;> simp [e]
end Go.Proofs.Ytogkmfndfedfiaa

