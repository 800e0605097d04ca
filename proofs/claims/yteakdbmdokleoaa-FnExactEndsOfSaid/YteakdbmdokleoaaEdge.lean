/- Points and edges as the program keeps them: slices of edges that a call owns, what is built of them. No conditions. -/
import Derived.Test.YteakdbmdokleoaaEndM
import Derived.Test.YteakdbmdokleoaaTLaw
import Derived.Test.YteakdbmdokleoaaMore
namespace Go.Proofs.Yteakdbmdokleoaa
open Go.RowKit

/-- the cells of an edge: row and column of its point, and its side -/
def erow (e : Nat × Nat × Nat) : List Value := [.int .i64 (e.2.1 : Int), .int .i64 (e.2.2 : Int), .int .i64 (e.1 : Int)]
def OwnE (w : World) (B : Nat) (v : Value) (es : List (Nat × Nat × Nat)) : Prop := w.ownsRow B 74 3 v es.length (es.flatMap erow)
theorem OwnE.nil (w : World) (B : Nat) : OwnE w B (.slice none 0 0) [] := World.ownsRow_nil _ _ _ _
theorem OwnE.lt {w : World} {B : Nat} {v : Value} {es : List (Nat × Nat × Nat)} (h : OwnE w B v es) : ∀ k, v.ownBlock = some k → B ≤ k ∧ k < w.heap.size := World.ownsRow.lt h
theorem OwnE.below {w w' : World} {B : Nat} {v : Value} {es : List (Nat × Nat × Nat)} (h : OwnE w B v es) (hb : Below w.heap.size w w') : OwnE w' B v es := by
  refine ⟨h.1, ?_⟩
  rcases h.2 with h0 | ⟨g, cap, cur, hv, hg, hh, r⟩
  · exact .inl h0
  · exact .inr ⟨g, cap, cur, hv, hg, by rw [hb.block g (lt_of_block hh)]; exact hh, r⟩
theorem OwnE.base {w : World} {B B' : Nat} {v : Value} {es : List (Nat × Nat × Nat)} (h : OwnE w B v es) (hB : B' ≤ B) : OwnE w B' v es := by
  refine ⟨h.1, ?_⟩
  rcases h.2 with h0 | ⟨g, cap, cur, hv, hg, r⟩
  · exact .inl h0
  · exact .inr ⟨g, cap, cur, hv, by omega, r⟩
theorem erow_get : ∀ (es : List (Nat × Nat × Nat)) (k : Nat) (hk : k < es.length) (j : Nat), j < 3 → (es.flatMap erow)[k * 3 + j]? = (erow es[k])[j]?
  | e :: es, 0, _, j, hj => by
    rw [List.flatMap_cons, Nat.zero_mul, Nat.zero_add, List.getElem?_append_left (by simp [erow]; omega)]
    rfl
  | e :: es, k + 1, hk, j, hj => by
    have h := erow_get es k (by simpa using hk) j hj
    rw [List.flatMap_cons, List.getElem?_append_right (by simp [erow]; omega), show (k + 1) * 3 + j - (erow e).length = k * 3 + j from by simp [erow]; omega, List.getElem_cons_succ]
    exact h
def EdgesAt (w : World) (ao : Option Addr) (es : List (Nat × Nat × Nat)) : Prop := ∀ k (hk : k < es.length), ∃ g o, ao = some ⟨g, o, none⟩ ∧ w.rangeAt g (o + k * 3) (erow es[k])
theorem EdgesAt.below {w w' : World} {ao : Option Addr} {es : List (Nat × Nat × Nat)} (h : EdgesAt w ao es) (hb : Below w.heap.size w w') : EdgesAt w' ao es := fun k hk => by
  obtain ⟨g, o, e, hr⟩ := h k hk
  exact ⟨g, o, e, fun j u hj => cell_below (hr j u hj) hb⟩
theorem OwnE.read {w : World} {B : Nat} {v : Value} {es : List (Nat × Nat × Nat)} (h : OwnE w B v es) : ∃ ao c, v = .slice ao es.length c ∧ es.length ≤ c ∧ c ≤ 9223372036854775807 ∧ EdgesAt w ao es := by
  rcases h.2 with ⟨rfl, h0⟩ | ⟨g, cap, cur, rfl, hg, hh, hn, hm, hs, ht⟩
  · exact ⟨none, 0, by rw [h0], by omega, by omega, fun k hk => absurd hk (by omega)⟩
  · refine ⟨some ⟨g, 0, none⟩, cap, rfl, hn, by unfold maxLen at hm; omega, fun k hk => ⟨g, 0, rfl, fun j u hj => ?_⟩⟩
    have hj3 : j < 3 := (List.getElem?_eq_some_iff.1 hj).1
    rw [Nat.zero_add, World.ownsRow.cellAt h _ (by omega), erow_get es k hk j hj3]
    exact hj
theorem OwnE.snoc {w w1 : World} {B : Nat} {v v' : Value} {es : List (Nat × Nat × Nat)} {e : Nat × Nat × Nat} {o : Obj} (h : OwnE w B v es) (hB : B ≤ w.heap.size)
    (h1 : w1.ownsRow B 74 3 v' (es.length + 1) (es.flatMap erow ++ erow e)) (hg : (w.alloc o).grownBy w1 v.ownBlock) : OwnE w1 B v' (es ++ [e]) ∧ Below B w w1 := by
  refine ⟨?_, Below.grown ((Below.refl B w).alloc hB o) hg (by simp; omega) (fun k hk => (h.lt k hk).1)⟩
  unfold OwnE
  rw [List.length_append, List.flatMap_append]
  simpa using h1

section
variable {P : Program}
theorem wpList_buildT2 {ops : Array Oper} {rest : List Oper} {o : Oper} {a : Act} {w : World} {Q : Exit → Act → World → Prop} (hg : o.guard = none) (t : TypeId) (i j : Nat) (x y : Operand) (ho : o.op = .build t #[(i, x), (j, y)])
    (v u : Value) (hv : a.eval x = v) (hu : a.eval y = u) (cells : Array Value) (hb : P.built t [(i, v), (j, u)] = some cells)
    (h : wpList P ops Q rest (a.put o.dst (.agg cells)) w) : wpList P ops Q (o :: rest) a w := by
  subst hv hu
  have e : ((#[(i, x), (j, y)] : Array (Nat × Operand)).map fun (i, x) => (i, a.eval x)).toList = [(i, a.eval x), (j, a.eval y)] := by simp
  refine wpList_build hg t _ ho (by rw [e, hb]; rfl) ?_
  rw [e, hb]
  exact h
theorem wpList_buildT4 {ops : Array Oper} {rest : List Oper} {o : Oper} {a : Act} {w : World} {Q : Exit → Act → World → Prop} (hg : o.guard = none) (t : TypeId) (x y z u : Operand) (ho : o.op = .build t #[(0, x), (1, y), (2, z), (3, u)])
    (v1 v2 v3 v4 : Value) (h1 : a.eval x = v1) (h2 : a.eval y = v2) (h3 : a.eval z = v3) (h4 : a.eval u = v4) (cells : Array Value) (hb : P.built t [(0, v1), (1, v2), (2, v3), (3, v4)] = some cells)
    (h : wpList P ops Q rest (a.put o.dst (.agg cells)) w) : wpList P ops Q (o :: rest) a w := by
  subst h1 h2 h3 h4
  have e : ((#[(0, x), (1, y), (2, z), (3, u)] : Array (Nat × Operand)).map fun (i, x) => (i, a.eval x)).toList = [(0, a.eval x), (1, a.eval y), (2, a.eval z), (3, a.eval u)] := by simp
  refine wpList_build hg t _ ho (by rw [e, hb]; rfl) ?_
  rw [e, hb]
  exact h
end
theorem Try.info_edge : (Try.prog.info? 74).map (fun i => (i.zero, i.size, i.bytes)) = some (some (.agg #[.int .i64 0, .int .i64 0, .int .i64 0]), 3, 24) := by kernel_rfl
theorem Try.info_edge2 : (Try.prog.info? 74).map (fun i => (i.zero, i.size)) = some (some (.agg #[.int .i64 0, .int .i64 0, .int .i64 0]), 3) := by kernel_rfl
theorem Try.size_edge (i j s : Int) : (Try.prog.info? 74).map (·.size) = some (#[Value.int .i64 i, .int .i64 j, .int .i64 s] : Array Value).size := (zero_of_info Try.info_edge2).2
theorem Try.size_edgel (e : Nat × Nat × Nat) : (Try.prog.info? 74).map (·.size) = some (erow e).length := (zero_of_info Try.info_edge2).2
theorem Try.info_point : (Try.prog.info? 72).map (fun i => (i.zero, i.size)) = some (some (.agg #[.int .i64 0, .int .i64 0]), 2) := by kernel_rfl
theorem Try.size_pointl (i j : Int) : (Try.prog.info? 72).map (·.size) = some [Value.int .i64 i, .int .i64 j].length := (zero_of_info Try.info_point).2
theorem Try.built_point (i j : Int) : Try.prog.built 72 [(0, .int .i64 i), (1, .int .i64 j)] = some #[.int .i64 i, .int .i64 j] := by kernel_rfl
theorem Try.built_edge (i j s : Int) : Try.prog.built 74 [(0, .agg #[.int .i64 i, .int .i64 j]), (1, .int .i64 s)] = some #[.int .i64 i, .int .i64 j, .int .i64 s] := by kernel_rfl
/-- the points of four sides -/
def pts (a b c d : Int × Int) : Array Value := #[.int .i64 a.1, .int .i64 a.2, .int .i64 b.1, .int .i64 b.2, .int .i64 c.1, .int .i64 c.2, .int .i64 d.1, .int .i64 d.2]
theorem Try.info_points : (Try.prog.info? 126).map (fun i => (i.zero, i.size)) = some (some (.agg (pts (0, 0) (0, 0) (0, 0) (0, 0))), 8) := by kernel_rfl
theorem Try.size_points (a b c d : Int × Int) : (Try.prog.info? 126).map (·.size) = some (pts a b c d).size := (zero_of_info Try.info_points).2
theorem Try.built_points (a1 a2 b1 b2 c1 c2 d1 d2 : Int) : Try.prog.built 126 [(0, .agg #[.int .i64 a1, .int .i64 a2]), (1, .agg #[.int .i64 b1, .int .i64 b2]), (2, .agg #[.int .i64 c1, .int .i64 c2]), (3, .agg #[.int .i64 d1, .int .i64 d2])] = some (pts (a1, a2) (b1, b2) (c1, c2) (d1, d2)) := by kernel_rfl
end Go.Proofs.Yteakdbmdokleoaa
