/- Contract of the program: the cells of a terrain in order; slices of cells that a call owns. Condition: up to six rows. -/
import Derived.Test.YtopamhcnbocfoaaFlB
import Derived.Test.YtopamhcnbocfoaaFlM
namespace Go.Proofs.Ytopamhcnbocfoaa
open Go.RowKit

theorem Try.infob_cell : (Try.prog.info? 79).map (fun i => (i.zero, i.size, i.bytes)) = some (some (.agg (cl 0 0)), 2, 16) := by kernel_rfl

theorem OwnC.lt {w : World} {B : Nat} {v : Value} {cs : List (Nat × Nat)} (h : OwnC w B v cs) : ∀ k, v.ownBlock = some k → B ≤ k ∧ k < w.heap.size := World.ownsRow.lt h
theorem OwnC.below {w w' : World} {B : Nat} {v : Value} {cs : List (Nat × Nat)} (h : OwnC w B v cs) (hb : Below w.heap.size w w') : OwnC w' B v cs := by
  refine ⟨h.1, ?_⟩
  rcases h.2 with h0 | ⟨g, cap, cur, hv, hg, hh, r⟩
  · exact .inl h0
  · exact .inr ⟨g, cap, cur, hv, hg, by rw [hb.block g (lt_of_block hh)]; exact hh, r⟩
theorem OwnC.base {w : World} {B B' : Nat} {v : Value} {cs : List (Nat × Nat)} (h : OwnC w B v cs) (hB : B' ≤ B) : OwnC w B' v cs := by
  refine ⟨h.1, ?_⟩
  rcases h.2 with h0 | ⟨g, cap, cur, hv, hg, r⟩
  · exact .inl h0
  · exact .inr ⟨g, cap, cur, hv, by omega, r⟩
theorem OwnC.snoc {w w1 : World} {B : Nat} {v v' : Value} {cs : List (Nat × Nat)} {c : Nat × Nat} {o : Obj} (h : OwnC w B v cs) (hB : B ≤ w.heap.size)
    (h1 : w1.ownsRow B 79 2 v' (cs.length + 1) (cs.flatMap crow ++ crow c)) (hg : (w.alloc o).grownBy w1 v.ownBlock) : OwnC w1 B v' (cs ++ [c]) ∧ Below B w w1 := by
  refine ⟨?_, Below.grown ((Below.refl B w).alloc hB o) hg (by simp; omega) (fun k hk => (h.lt k hk).1)⟩
  unfold OwnC
  rw [List.length_append, List.flatMap_append]
  simpa using h1
theorem crow_get : ∀ (cs : List (Nat × Nat)) (k : Nat) (hk : k < cs.length), (cs.flatMap crow)[k * 2]? = some (.int .i64 ((cs[k]).1 : Int)) ∧ (cs.flatMap crow)[k * 2 + 1]? = some (.int .i64 ((cs[k]).2 : Int))
  | c :: cs, 0, _ => by simp [crow]
  | c :: cs, k + 1, hk => by
    have h := crow_get cs k (by simpa using hk)
    rw [List.flatMap_cons]
    simp only [crow, List.cons_append, List.nil_append, show (k + 1) * 2 = k * 2 + 1 + 1 from by omega, List.getElem?_cons_succ, List.getElem_cons_succ]
    exact h
/-- a slice whose cells read so -/
def CellsAt (w : World) (ao : Option Addr) (cs : List (Nat × Nat)) : Prop := ∀ k (hk : k < cs.length), ∃ g o, ao = some ⟨g, o, none⟩ ∧ w.rangeAt g (o + k * 2) (crow cs[k])
theorem CellsAt.below {w w' : World} {ao : Option Addr} {cs : List (Nat × Nat)} (h : CellsAt w ao cs) (hb : Below w.heap.size w w') : CellsAt w' ao cs := fun k hk => by
  obtain ⟨g, o, e, hr⟩ := h k hk
  exact ⟨g, o, e, fun j u hj => cell_below (hr j u hj) hb⟩
theorem OwnC.read {w : World} {B : Nat} {v : Value} {cs : List (Nat × Nat)} (h : OwnC w B v cs) : ∃ ao c, v = .slice ao cs.length c ∧ cs.length ≤ c ∧ c ≤ 9223372036854775807 ∧ CellsAt w ao cs := by
  rcases h.2 with ⟨rfl, h0⟩ | ⟨g, cap, cur, rfl, hg, hh, hn, hm, hs, ht⟩
  · exact ⟨none, 0, by rw [h0], by omega, by omega, fun k hk => absurd hk (by omega)⟩
  · refine ⟨some ⟨g, 0, none⟩, cap, rfl, hn, by unfold maxLen at hm; omega, fun k hk => ⟨g, 0, rfl, fun j u hj => ?_⟩⟩
    have hj2 : j < 2 := (List.getElem?_eq_some_iff.1 hj).1
    rw [World.ownsRow.cellAt h _ (by omega)]
    have hc := crow_get cs k hk
    rcases j with _ | j
    · rw [show 0 + k * 2 + 0 = k * 2 from by omega]
      exact hc.1.trans hj
    · obtain rfl : j = 0 := by omega
      rw [show 0 + k * 2 + (0 + 1) = k * 2 + 1 from by omega]
      exact hc.2.trans hj
theorem two_new {w : World} {x y : Value} {e : TypeId} : ∀ (j : Nat) (u : Value), [x, y][j]? = some u → (w.alloc (.cells #[x, y] e)).cell? ((⟨w.heap.size, 0, none⟩ : Addr).add j) = some u := by
  intro j u h
  have hj2 : j < 2 := (List.getElem?_eq_some_iff.1 h).1
  rcases j with _ | j
  · show (w.alloc _).cell? ⟨w.heap.size, 0, none⟩ = _
    rw [cell_of_row _ _ 0 _ _ _ (heap_alloc_new w _)]
    exact h
  · obtain rfl : j = 0 := by omega
    show (w.alloc _).cell? ⟨w.heap.size, 1, none⟩ = _
    rw [cell_of_row _ _ 1 _ _ _ (heap_alloc_new w _)]
    exact h
theorem allCells_few {n s t : Nat} (hn : n ≤ 6) (hs : s ≤ n) (ht : t ≤ n) : (allCells n s ++ rowCells s t).length ≤ 42 := by
  have h1 := allCells_len n s
  have h2 := rowCells_len s t
  have h3 : s * n ≤ 6 * 6 := Nat.mul_le_mul (by omega) hn
  rw [List.length_append]
  omega

set_option maxRecDepth 100000 in
set_option maxHeartbeats 1600000 in
theorem cells_any (n : Nat) (f : Nat → Nat → Int) (w : World) (hn1 : 1 ≤ n) (hn : n ≤ 6) :
    Calls Try.prog 103 #[.agg (tc n f)] w fun e w' => ∃ v, e = .returned v ∧ OwnC w' w.heap.size v (allCells n n) ∧ Below w.heap.size w w' := by
  obtain ⟨c0, hc, hz0, hz1, hz2⟩ := info_parts Try.infob_cell
  have hmx : (n : Int) ≤ 6 := by omega
  go_enter Try.func103, Try.ntmps103
  go_upto_region 1 with (refine wpList_boxT rfl 47 _ rfl _ rfl ?_)
  generalize hW : World.alloc w _ = w1
  have hT : TerrAt w1 w.heap.size n f := by rw [← hW]; exact TerrAt.new w _ _
  have hB : Below w.heap.size w w1 := by rw [← hW]; exact (Below.refl _ _).alloc (Nat.le_refl _) _
  clear hW
  have HT := Lib.hid hT
  have HB := Lib.hid hB
  have HZ := Lib.hid hB.size
  clear hT hB
  go_wp2
  go_loopw [3, 4] (fun list i wr => ∃ s : Nat, 1 ≤ s ∧ s ≤ n ∧ i = .int .i64 s ∧ OwnC wr w1.heap.size list (allCells n s) ∧ Below w1.heap.size w1 wr) (fun _ i _ => n - (intOf i).toNat)
  case atStart => exact ⟨1, by omega, hn1, rfl, by rw [allCells_one]; exact OwnC.nil _ _, Below.refl _ _⟩
  case round =>
    obtain ⟨s, hs1, hs, rfl, hown, hbr⟩ := hrel
    obtain ⟨wo, rfl⟩ : ∃ wo : World, wo = wr := ⟨_, rfl⟩
    have h0 := (HT.out.below hbr).head
    by_cases hlt : s < n
    · have Hown := Lib.hid hown
      have Hbr := Lib.hid hbr
      clear hown hbr
      go_wp2
      clear h0
      go_loopw [3, 5] (fun list j wr => ∃ t : Nat, 1 ≤ t ∧ t ≤ n ∧ j = .int .i64 t ∧ OwnC wr w1.heap.size list (allCells n s ++ rowCells s t) ∧ Below w1.heap.size w1 wr) (fun _ j _ => n - (intOf j).toNat)
      case atStart => exact ⟨1, by omega, hn1, by go_num, by rw [rowCells_one, List.append_nil]; exact Hown.out, Hbr.out⟩
      case round =>
        obtain ⟨t, ht1, ht, rfl, hown, hbr⟩ := hrel
        have h0 := (HT.out.below hbr).head
        by_cases htl : t < n
        · have Hown := Lib.hid hown
          have Hbr := Lib.hid hbr
          have HZr := Lib.hid hbr.size
          obtain ⟨cs, hcs⟩ : ∃ cs, cs = allCells n s ++ rowCells s t := ⟨_, rfl⟩
          rw [← hcs] at hown
          have Hown := Lib.hid hown
          have Hlen := Lib.hid (show cs.length ≤ 42 by rw [hcs]; exact allCells_few hn hs ht)
          have Hcs := Lib.hid hcs
          clear hown hbr hcs
          go_wp2_with (at_builtin; refine wpList_append_own _ rfl _ _ 64 rfl w1.heap.size 79 c0 (.agg (cl 0 0)) 2 16 Try.underlying64 hc hz0 hz1 hz2 rfl (by decide) _ _ _ rfl (World.ownsRow.alloc Hown.out _) ⟨wr.heap.size, 0, none⟩ 1 1 (crow (s, t)) rfl rfl ?c1 ?c2 ?c3 ?c4 ?c5 ?_)
          case c1 => exact two_new
          case c2 => intro u hu; simp [crow] at hu; rcases hu with rfl | rfl <;> rfl
          case c3 => have := Hlen.out; unfold maxLen; omega
          case c4 => have := Hlen.out; omega
          case c5 => have := HZr.out; simp; omega
          intro v' w3 hown' hgrow _
          have hput := Hown.out.snoc (c := (s, t)) HZr.out hown' hgrow
          have Hput := Lib.hid hput
          clear hput hown' hgrow
          go_wp2
          go_roundw
          case rel => exact ⟨t + 1, by omega, by omega, by go_num, by rw [rowCells_succ s t ht1, ← List.append_assoc, ← Hcs.out]; exact Hput.out.1, Hbr.out.trans Hput.out.2⟩
          case measure => simp [intOf]; omega
        · obtain rfl : t = n := by omega
          have Hown := Lib.hid hown
          have Hbr := Lib.hid hbr
          clear hown hbr
          go_wp2
          go_roundw
          case rel => exact ⟨s + 1, by omega, by omega, by go_num, by rw [allCells_succ _ s hs1]; exact Hown.out, Hbr.out⟩
          case measure => simp [intOf]; omega
    · obtain rfl : s = n := by omega
      have Hown := Lib.hid hown
      have Hbr := Lib.hid hbr
      clear hown hbr
      go_wp2
      go_ret
      exact ⟨_, rfl, Hown.out.base HZ.out, HB.out.trans (Hbr.out.mono HZ.out)⟩
end Go.Proofs.Ytopamhcnbocfoaa
