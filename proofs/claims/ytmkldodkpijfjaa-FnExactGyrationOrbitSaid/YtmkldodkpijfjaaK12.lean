/- Parts of proofs: contracts and plain facts. Conditions: as each says. -/
import Derived.Test.YtmkldodkpijfjaaK11
import Derived.Deep.MidRow
namespace Go.Proofs.Ytmkldodkpijfjaa
open Go.RowKit

theorem Try.infob_cell : (Try.prog.info? 104).map (fun i => (i.zero, i.size, i.bytes)) = some (some (.agg (cl 0 0)), 2, 16) := by kernel_rfl

theorem OwnC.lt {w : World} {B : Nat} {v : Value} {cs : List (Nat × Nat)} (h : OwnC w B v cs) : ∀ k, v.ownBlock = some k → B ≤ k ∧ k < w.heap.size := World.ownsRow.lt h
theorem OwnC.below {w w' : World} {B : Nat} {v : Value} {cs : List (Nat × Nat)} (h : OwnC w B v cs) (hb : Below w.heap.size w w') : OwnC w' B v cs := by
  refine ⟨h.1, ?_⟩
  rcases h.2 with h0 | ⟨g, cap, cur, hv, hg, hh, r⟩
  · exact .inl h0
  · exact .inr ⟨g, cap, cur, hv, hg, by rw [hb.block g (lt_of_block hh)]; exact hh, r⟩
theorem OwnC.base {w : World} {B B' : Nat} {v : Value} {cs : List (Nat × Nat)} (h : OwnC w B v cs) (hB : B' ≤ B) : OwnC w B' v cs := by
  refine ⟨h.1, ?_⟩
  rcases h.2 with h0 | ⟨g, cap, cur, hv, hg, r⟩
  · exact .inl h0
  · exact .inr ⟨g, cap, cur, hv, by omega, r⟩
theorem OwnC.snoc {w w1 : World} {B : Nat} {v v' : Value} {cs : List (Nat × Nat)} {c : Nat × Nat} {o : Obj} (h : OwnC w B v cs) (hB : B ≤ w.heap.size)
    (h1 : w1.ownsRow B 104 2 v' (cs.length + 1) (cs.flatMap crow ++ crow c)) (hg : (w.alloc o).grownBy w1 v.ownBlock) : OwnC w1 B v' (cs ++ [c]) ∧ Below B w w1 := by
  refine ⟨?_, Below.grown ((Below.refl B w).alloc hB o) hg (by simp; omega) (fun k hk => (h.lt k hk).1)⟩
  unfold OwnC
  rw [List.length_append, List.flatMap_append]
  simpa using h1
theorem crow_get : ∀ (cs : List (Nat × Nat)) (k : Nat) (hk : k < cs.length), (cs.flatMap crow)[k * 2]? = some (.int .i64 ((cs[k]).1 : Int)) ∧ (cs.flatMap crow)[k * 2 + 1]? = some (.int .i64 ((cs[k]).2 : Int))
  | c :: cs, 0, _ => by simp [crow]
  | c :: cs, k + 1, hk => by
    have h := crow_get cs k (by simpa using hk)
    rw [List.flatMap_cons]
    simp only [crow, List.cons_append, List.nil_append, show (k + 1) * 2 = k * 2 + 1 + 1 from by omega, List.getElem?_cons_succ, List.getElem_cons_succ]
    exact h
/-- a slice whose cells read so -/
def CellsAt (w : World) (ao : Option Addr) (cs : List (Nat × Nat)) : Prop := ∀ k (hk : k < cs.length), ∃ g o, ao = some ⟨g, o, none⟩ ∧ w.rangeAt g (o + k * 2) (crow cs[k])
theorem CellsAt.below {w w' : World} {ao : Option Addr} {cs : List (Nat × Nat)} (h : CellsAt w ao cs) (hb : Below w.heap.size w w') : CellsAt w' ao cs := fun k hk => by
  obtain ⟨g, o, e, hr⟩ := h k hk
  exact ⟨g, o, e, fun j u hj => cell_below (hr j u hj) hb⟩
theorem OwnC.read {w : World} {B : Nat} {v : Value} {cs : List (Nat × Nat)} (h : OwnC w B v cs) : ∃ ao c, v = .slice ao cs.length c ∧ cs.length ≤ c ∧ c ≤ 9223372036854775807 ∧ CellsAt w ao cs := by
  rcases h.2 with ⟨rfl, h0⟩ | ⟨g, cap, cur, rfl, hg, hh, hn, hm, hs, ht⟩
  · exact ⟨none, 0, by rw [h0], by omega, by omega, fun k hk => absurd hk (by omega)⟩
  · refine ⟨some ⟨g, 0, none⟩, cap, rfl, hn, by unfold maxLen at hm; omega, fun k hk => ⟨g, 0, rfl, fun j u hj => ?_⟩⟩
    have hj2 : j < 2 := (List.getElem?_eq_some_iff.1 hj).1
    rw [World.ownsRow.cellAt h _ (by omega)]
    have hc := crow_get cs k hk
    rcases j with _ | j
    · rw [show 0 + k * 2 + 0 = k * 2 from by omega]
      exact hc.1.trans hj
    · obtain rfl : j = 0 := by omega
      rw [show 0 + k * 2 + (0 + 1) = k * 2 + 1 from by omega]
      exact hc.2.trans hj
theorem two_new {w : World} {x y : Value} {e : TypeId} : ∀ (j : Nat) (u : Value), [x, y][j]? = some u → (w.alloc (.cells #[x, y] e)).cell? ((⟨w.heap.size, 0, none⟩ : Addr).add j) = some u := by
  intro j u h
  have hj2 : j < 2 := (List.getElem?_eq_some_iff.1 h).1
  rcases j with _ | j
  · show (w.alloc _).cell? ⟨w.heap.size, 0, none⟩ = _
    rw [cell_of_row _ _ 0 _ _ _ (heap_alloc_new w _)]
    exact h
  · obtain rfl : j = 0 := by omega
    show (w.alloc _).cell? ⟨w.heap.size, 1, none⟩ = _
    rw [cell_of_row _ _ 1 _ _ _ (heap_alloc_new w _)]
    exact h
theorem allCells_few {n s t : Nat} (hn : n ≤ 6) (hs : s ≤ n) (ht : t ≤ n) : (allCells n s ++ rowCells s t).length ≤ 42 := by
  have h1 := allCells_len n s
  have h2 := rowCells_len s t
  have h3 : s * n ≤ 6 * 6 := Nat.mul_le_mul (by omega) hn
  rw [List.length_append]
  omega

set_option maxRecDepth 100000 in
set_option maxHeartbeats 1600000 in
theorem cells_any (n : Nat) (f : Nat → Nat → Int) (w : World) (hn1 : 1 ≤ n) (hn : n ≤ 6) :
    Calls Try.prog 95 #[.agg (tc n f)] w fun e w' => ∃ v, e = .returned v ∧ OwnC w' w.heap.size v (allCells n n) ∧ Below w.heap.size w w' := by
  obtain ⟨c0, hc, hz0, hz1, hz2⟩ := info_parts Try.infob_cell
  have hmx : (n : Int) ≤ 6 := by omega
  go_enter Try.func95, Try.ntmps95
  go_upto_region 1 with (refine wpList_boxT rfl 47 _ rfl _ rfl ?_)
  generalize hW : World.alloc w _ = w1
  have hT : TerrAt w1 w.heap.size n f := by rw [← hW]; exact TerrAt.new w _ _
  have hB : Below w.heap.size w w1 := by rw [← hW]; exact (Below.refl _ _).alloc (Nat.le_refl _) _
  clear hW
  have HT := Lib.hid hT
  have HB := Lib.hid hB
  have HZ := Lib.hid hB.size
  clear hT hB
  go_wp2
  go_loopw [3, 4] (fun list i wr => ∃ s : Nat, 1 ≤ s ∧ s ≤ n ∧ i = .int .i64 s ∧ OwnC wr w1.heap.size list (allCells n s) ∧ Below w1.heap.size w1 wr) (fun _ i _ => n - (intOf i).toNat)
  case atStart => exact ⟨1, by omega, hn1, rfl, by rw [allCells_one]; exact OwnC.nil _ _, Below.refl _ _⟩
  case round =>
    obtain ⟨s, hs1, hs, rfl, hown, hbr⟩ := hrel
    obtain ⟨wo, rfl⟩ : ∃ wo : World, wo = wr := ⟨_, rfl⟩
    have h0 := (HT.out.below hbr).head
    by_cases hlt : s < n
    · have Hown := Lib.hid hown
      have Hbr := Lib.hid hbr
      clear hown hbr
      go_wp2
      clear h0
      go_loopw [3, 5] (fun list j wr => ∃ t : Nat, 1 ≤ t ∧ t ≤ n ∧ j = .int .i64 t ∧ OwnC wr w1.heap.size list (allCells n s ++ rowCells s t) ∧ Below w1.heap.size w1 wr) (fun _ j _ => n - (intOf j).toNat)
      case atStart => exact ⟨1, by omega, hn1, by go_num, by rw [rowCells_one, List.append_nil]; exact Hown.out, Hbr.out⟩
      case round =>
        obtain ⟨t, ht1, ht, rfl, hown, hbr⟩ := hrel
        have h0 := (HT.out.below hbr).head
        by_cases htl : t < n
        · have Hown := Lib.hid hown
          have Hbr := Lib.hid hbr
          have HZr := Lib.hid hbr.size
          obtain ⟨cs, hcs⟩ : ∃ cs, cs = allCells n s ++ rowCells s t := ⟨_, rfl⟩
          rw [← hcs] at hown
          have Hown := Lib.hid hown
          have Hlen := Lib.hid (show cs.length ≤ 42 by rw [hcs]; exact allCells_few hn hs ht)
          have Hcs := Lib.hid hcs
          clear hown hbr hcs
          go_wp2_with (at_builtin; refine wpList_append_own _ rfl _ _ 101 rfl w1.heap.size 104 c0 (.agg (cl 0 0)) 2 16 Try.underlying101 hc hz0 hz1 hz2 rfl (by decide) _ _ _ rfl (World.ownsRow.alloc Hown.out _) ⟨wr.heap.size, 0, none⟩ 1 1 (crow (s, t)) rfl rfl ?c1 ?c2 ?c3 ?c4 ?c5 ?_)
          case c1 => exact two_new
          case c2 => intro u hu; simp [crow] at hu; rcases hu with rfl | rfl <;> rfl
          case c3 => have := Hlen.out; unfold maxLen; omega
          case c4 => have := Hlen.out; omega
          case c5 => have := HZr.out; simp; omega
          intro v' w3 hown' hgrow _
          have hput := Hown.out.snoc (c := (s, t)) HZr.out hown' hgrow
          have Hput := Lib.hid hput
          clear hput hown' hgrow
          go_wp2
          go_roundw
          case rel => exact ⟨t + 1, by omega, by omega, by go_num, by rw [rowCells_succ s t ht1, ← List.append_assoc, ← Hcs.out]; exact Hput.out.1, Hbr.out.trans Hput.out.2⟩
          case measure => simp [intOf]; omega
        · obtain rfl : t = n := by omega
          have Hown := Lib.hid hown
          have Hbr := Lib.hid hbr
          clear hown hbr
          go_wp2
          go_roundw
          case rel => exact ⟨s + 1, by omega, by omega, by go_num, by rw [allCells_succ _ s hs1]; exact Hown.out, Hbr.out⟩
          case measure => simp [intOf]; omega
    · obtain rfl : s = n := by omega
      have Hown := Lib.hid hown
      have Hbr := Lib.hid hbr
      clear hown hbr
      go_wp2
      go_ret
      exact ⟨_, rfl, Hown.out.base HZ.out, HB.out.trans (Hbr.out.mono HZ.out)⟩
end Go.Proofs.Ytmkldodkpijfjaa

namespace Go.Proofs.Ytmkldodkpijfjaa
open Go.RowKit

theorem allCells_all {n : Nat} (hn : n ≤ 6) : (allCells n n).length ≤ 36 := by
  have h1 := allCells_len n n
  have h3 : n * n ≤ 6 * 6 := Nat.mul_le_mul hn hn
  omega
theorem crow_one (c : Nat × Nat) : (crow c).toArray.all (·.oneCell') = true := by simp [crow, Value.oneCell']
theorem take_snoc {α : Type _} {cs : List α} {k : Nat} (h : k < cs.length) : cs.take (k + 1) = cs.take k ++ [cs[k]] := by
  rw [List.take_add_one, List.getElem?_eq_getElem h]
  rfl

end Go.Proofs.Ytmkldodkpijfjaa

namespace Go.Proofs.Ytmkldodkpijfjaa
open Go.RowKit

/-- the cells of block g hold these from the head on, and may be written -/
def HoldsC (w : World) (g : Nat) (ds : List (Nat × Nat)) : Prop := ∀ t (h : t < ds.length), w.rangeAt g (t * 2) (crow ds[t]) ∧ w.there g (t * 2) 2
theorem below_setC {B b : Nat} {a : World} (hb : B ≤ b) : ∀ (vs : List Value) (o : Nat) {w : World}, Below B a w → Below B a (w.setCells b o vs)
  | [], _, _, h => h
  | v :: r, o, _, h => below_setC hb r (o + 1) (h.setCell (p := ⟨b, o, none⟩) hb v)
theorem crow_len (p : Nat × Nat) : (crow p).length = 2 := rfl
theorem HoldsC.below {w w' : World} {g : Nat} {ds : List (Nat × Nat)} (h : HoldsC w g ds) (hb : Below w.heap.size w w') : HoldsC w' g ds := fun t ht => by
  obtain ⟨h1, h2⟩ := h t ht
  refine ⟨fun j u hj => cell_below (h1 j u hj) hb, fun j hj => ?_⟩
  obtain ⟨h3, h4⟩ := h2 j hj
  obtain ⟨v, hv⟩ := Option.isSome_iff_exists.1 h3
  have hlt := World.block_lt_of_cell? _ _ hv
  refine ⟨by rw [cell_below hv hb]; rfl, ?_⟩
  rw [hb.frozen hlt]
  exact h4
theorem HoldsC.put {w : World} {g : Nat} {ds : List (Nat × Nat)} (h : HoldsC w g ds) {i : Nat} (_hi : i < ds.length) (p : Nat × Nat) : HoldsC (w.setCells g (i * 2) (crow p)) g (ds.set i p) := fun t ht => by
  rw [List.length_set] at ht
  obtain ⟨h1, h2⟩ := h t ht
  refine ⟨?_, World.there_setCells h2 g (i * 2) (crow p)⟩
  rw [List.getElem_set]
  by_cases e : i = t
  · subst e
    rw [if_pos rfl]
    exact World.rangeAt_setCells_same w g (i * 2) (crow p) h2
  · rw [if_neg e]
    exact World.rangeAt_setCells_apart h1 g (i * 2) (crow p) (Or.inr (by rw [crow_len, crow_len]; omega))
theorem OwnC.holds {w : World} {B : Nat} {v : Value} {cs : List (Nat × Nat)} (h : OwnC w B v cs) (hl : 0 < cs.length) : ∃ g cap, v = .slice (some ⟨g, 0, none⟩) cs.length cap ∧ B ≤ g ∧ cs.length ≤ cap ∧ HoldsC w g cs := by
  rcases h.2 with ⟨rfl, h0⟩ | ⟨g, cap, cur, rfl, hg, hh, hn, hm, hs, ht⟩
  · omega
  · refine ⟨g, cap, rfl, hg, hn, fun t ht' => ⟨fun j u hj => ?_, fun j hj => ?_⟩⟩
    · have hj2 : j < 2 := (List.getElem?_eq_some_iff.1 hj).1
      rw [World.ownsRow.cellAt h _ (by omega)]
      have hc := crow_get cs t ht'
      rcases j with _ | j
      · exact hc.1.trans hj
      · obtain rfl : j = 0 := by omega
        exact hc.2.trans hj
    · refine ⟨?_, World.ownsRow.frozenAt h _⟩
      rw [World.ownsRow.cellAt h _ (by omega)]
      have hc := crow_get cs t ht'
      rcases j with _ | j
      · rw [Nat.add_zero, hc.1]; rfl
      · obtain rfl : j = 0 := by omega
        rw [hc.2]; rfl
theorem HoldsC.cells {w : World} {g k : Nat} {ds L : List (Nat × Nat)} (h : HoldsC w g ds) (hL : ds.take k = L) : CellsAt w (some ⟨g, 0, none⟩) L := fun t ht => by
  subst hL
  have ht2 : t < ds.length := by rw [List.length_take] at ht; omega
  refine ⟨g, 0, rfl, ?_⟩
  rw [Nat.zero_add, List.getElem_take]
  exact (h t ht2).1
/-- what lies behind is cleared: what lies before is as it was -/
theorem HoldsC.cut {w : World} {g k : Nat} {ds L : List (Nat × Nat)} (h : HoldsC w g ds) (hL : ds.take k = L) (vs : List Value) : HoldsC (w.setCells g (k * 2) vs) g L := fun t ht => by
  subst hL
  have ht2 : t < ds.length ∧ t < k := by rw [List.length_take] at ht; omega
  refine ⟨?_, World.there_setCells (h t ht2.1).2 g (k * 2) vs⟩
  rw [List.getElem_take]
  exact World.rangeAt_setCells_apart (h t ht2.1).1 g (k * 2) vs (Or.inr (Or.inl (by rw [crow_len]; omega)))
theorem HoldsC.all {w : World} {g : Nat} {ds : List (Nat × Nat)} (h : HoldsC w g ds) : CellsAt w (some ⟨g, 0, none⟩) ds := h.cells (k := ds.length) List.take_length

/-- a slice of cells that may be written, from block B on; it may have room behind them -/
def OwnK (w : World) (B : Nat) (v : Value) (cs : List (Nat × Nat)) : Prop :=
  ∃ ao cap, v = .slice ao cs.length cap ∧ cs.length ≤ cap ∧ cap ≤ 9223372036854775807 ∧ (cs = [] ∨ ∃ g, ao = some ⟨g, 0, none⟩ ∧ HoldsC w g cs) ∧ ∀ g o, ao = some ⟨g, o, none⟩ → B ≤ g
theorem OwnC.k {w : World} {B : Nat} {v : Value} {cs : List (Nat × Nat)} (h : OwnC w B v cs) : OwnK w B v cs := by
  obtain ⟨ao, cap, rfl, h1, h2, _⟩ := h.read
  refine ⟨ao, cap, rfl, h1, h2, ?_, fun g o e => ?_⟩
  · by_cases e : cs = []
    · exact .inl e
    · have hpos : 0 < cs.length := List.length_pos_iff.2 e
      obtain ⟨g, cap', e', _, _, hh⟩ := h.holds hpos
      simp only [Value.slice.injEq] at e'
      exact .inr ⟨g, e'.1, hh⟩
  · rcases h.2 with ⟨h0, _⟩ | ⟨g', cap', cur, hv, hg, _⟩
    · subst e; simp at h0
    · subst e
      simp only [Value.slice.injEq, Option.some.injEq, Addr.mk.injEq, and_true] at hv
      rw [hv.1.1]
      exact hg
theorem OwnK.cells {w : World} {B n cap : Nat} {ao : Option Addr} {cs : List (Nat × Nat)} (h : OwnK w B (.slice ao n cap) cs) : CellsAt w ao cs := by
  obtain ⟨ao', cap', e, _, _, hh, _⟩ := h
  simp only [Value.slice.injEq] at e
  obtain ⟨rfl, -, -⟩ := e
  rcases hh with rfl | ⟨g, rfl, hh⟩
  · exact fun t ht => absurd ht (by simp)
  · exact hh.all
theorem OwnK.below {w w' : World} {B : Nat} {v : Value} {cs : List (Nat × Nat)} (h : OwnK w B v cs) (hb : Below w.heap.size w w') : OwnK w' B v cs := by
  obtain ⟨ao, cap, e, h1, h2, hh, h3⟩ := h
  refine ⟨ao, cap, e, h1, h2, ?_, h3⟩
  rcases hh with h | ⟨g, e, hh⟩
  · exact .inl h
  · exact .inr ⟨g, e, hh.below hb⟩

theorem zero_cell (w : World) : (zeroValue 104).run Try.prog w = .ok (.agg (cl 0 0)) w := by kernel_rfl
theorem run_clear_cells (w : World) (ty : TypeId) (g i n c : Nat) (hn : 0 < n) (ht : w.there g (i * 2) (n * 2)) :
    ∃ vs, (Builtin.clear_ #[101] ty #[.slice (some ⟨g, i * 2, none⟩) n c]).run Try.prog w = .ok (.tuple #[]) (w.setCells g (i * 2) vs) := by
  have hlen : (Builtin.zeroCells (cl 0 0) n).toList.length = n * 2 := by simp [Builtin.zeroCells, cl]
  have hst := run_storeCells_cells (P := Try.prog) g (i * 2) (Builtin.zeroCells (cl 0 0) n).toList 0 w (fun j hj => (ht j (by rw [hlen] at hj; exact hj)).1) (fun j hj => (ht j (by rw [hlen] at hj; exact hj)).2)
    (by
      intro v hv
      simp only [Builtin.zeroCells, Array.toList_map, Array.toList_range, List.mem_map, List.mem_range] at hv
      obtain ⟨j, _, rfl⟩ := hv
      have : j % (cl 0 0).size = 0 ∨ j % (cl 0 0).size = 1 := by rw [show (cl 0 0).size = 2 from rfl]; omega
      rcases this with e | e <;> rw [e] <;> rfl)
  simp only [Nat.add_zero] at hst
  refine ⟨(Builtin.zeroCells (cl 0 0) n).toList, ?_⟩
  obtain ⟨m, rfl⟩ : ∃ m, n = m + 1 := ⟨n - 1, by omega⟩
  have hz := zero_cell w
  simp [Builtin.clear_, run_underlying Try.underlying101, hz, Value.cells, hst]

def NoneOf (del : Nat × Nat → Bool) (L : List (Nat × Nat)) : Prop := ∀ p ∈ L, del p = false
/-- the cells as they are while those that are struck are left out: L is kept of the first t, behind them lies what there was -/
structure DelInv (del : Nat × Nat → Bool) (cs : List (Nat × Nat)) (k t : Nat) (L ds : List (Nat × Nat)) : Prop where
  ht : t ≤ k
  hL : L = (cs.take t).filter (fun p => !del p)
  hlt : L.length < t
  hdl : ds.length = k
  hdt : ds.take L.length = L
  hdu : ∀ u, t ≤ u → ds[u]? = cs[u]?

/-- the first that is struck -/
def Found (del : Nat × Nat → Bool) (cs : List (Nat × Nat)) (e : Ending) : Prop :=
  (e = .returned (.int .i64 (-1)) ∧ ∀ p ∈ cs, del p = false) ∨ ∃ t, ∃ h : t < cs.length, e = .returned (.int .i64 (t : Int)) ∧ del cs[t] = true ∧ ∀ p ∈ cs.take t, del p = false
theorem keep_all {del : Nat × Nat → Bool} {cs : List (Nat × Nat)} (h : ∀ p ∈ cs, del p = false) : cs.filter (fun p => !del p) = cs := by
  rw [List.filter_eq_self]
  intro p hp
  rw [h p hp]
  rfl
theorem keep_snoc {del : Nat × Nat → Bool} {cs : List (Nat × Nat)} {t : Nat} (h : t < cs.length) : (cs.take (t + 1)).filter (fun p => !del p) = if del cs[t] then (cs.take t).filter (fun p => !del p) else (cs.take t).filter (fun p => !del p) ++ [cs[t]] := by
  rw [take_snoc h, List.filter_append]
  cases e : del cs[t] <;> simp [e]
end Go.Proofs.Ytmkldodkpijfjaa

