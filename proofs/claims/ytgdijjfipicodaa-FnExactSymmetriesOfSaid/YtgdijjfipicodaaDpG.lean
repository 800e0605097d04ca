/- Contract: rows put together, by the library. Conditions: lengths. -/
import Derived.Test.YtgdijjfipicodaaDpV
import Derived.Test.YtgdijjfipicodaaOwn
import Derived.Test.YtgdijjfipicodaaDiff
import Derived.Laws.AppendOwnNone
import Derived.Lib.AppendZeros
namespace Go.Proofs.Ytgdijjfipicodaa
open Go.RowKit

/-- appending a slice of integers, whatever its address, to one that the call owns -/
theorem wpList_appendI {w : World} {ops : Array Oper} {rest : List Oper} {o : Oper} {a : Act} {Q : Exit → Act → World → Prop} (hgd : o.guard = none) (s x : Operand)
    (ho : o.op = .call { callee := .builtin .append, args := #[s, x], argTypes := #[24, 24] })
    (base : Nat) (v : Value) (xs : List Int) (hs : a.eval s = v) (hown : OwnI w base v xs)
    (ao : Option Addr) (c : Nat) (ys : List Int) (hx : a.eval x = .slice ao ys.length c) (hc : ao = none → c = 0 ∧ ys = []) (hys : IntsAt w ao ys)
    (h63 : xs.length + ys.length ≤ 1048576) (hbase : base ≤ w.heap.size)
    (h : ∀ v' w', OwnI w' base v' (xs ++ ys) → w.grownBy w' v.ownBlock → Below base w w' → wpList Try.prog ops Q rest (a.put o.dst v') w') : wpList Try.prog ops Q (o :: rest) a w := by
  obtain ⟨i0, hi, hz0, hz1, hz2⟩ := info_parts Try.info_int
  cases ao with
  | none =>
    obtain ⟨rfl, rfl⟩ := hc rfl
    exact wpList_append_own_none hgd s x 24 ho base 3 i0 1 Try.underlying24 hi v xs.length _ hs hown hx (h v w (by rw [List.append_nil]; exact hown) (World.grownBy.refl _ _) (Below.refl _ _))
  | some ad =>
    refine wpList_append_own _ hgd s x 24 ho base 3 i0 (.int .i64 0) 1 8 Try.underlying24 hi hz0 hz1 hz2 rfl (by decide) v xs.length _ hs hown ad ys.length c (ys.map (Value.int .i64)) hx (by simp) ?_ (by intro u hu; obtain ⟨y, _, rfl⟩ := List.mem_map.1 hu; rfl) (by unfold maxLen; omega) (by omega) hbase ?_
    · intro j u hj
      have hjl : j < ys.length := by
        have := (List.getElem?_eq_some_iff.1 hj).1
        simpa using this
      obtain ⟨b, o', e, hcell⟩ := hys j hjl
      cases e
      have e : (ys.map (Value.int .i64))[j]? = some (Value.int .i64 (gi ys j)) := by simp [gi, List.getD, hjl]
      rw [e] at hj
      cases hj
      rw [Addr.add_lit]
      exact hcell
    · intro v' w' h1 h2 _
      refine h v' w' ?_ h2 (Below.grown (Below.refl _ _) h2 hbase (fun k hk => (World.ownsRow.lt hown k hk).1))
      unfold OwnI
      rw [List.length_append, List.map_append]
      exact h1

/-- rows that are empty and have no address have no room either -/
def NilRows (w : World) (ao : Option Addr) (rows : List (List Int)) : Prop := ∀ k b o r c, k < rows.length → ao = some ⟨b, o, none⟩ → w.cell? ⟨b, o + k, none⟩ = some (.slice r (gr rows k).length c) → r = none → c = 0 ∧ gr rows k = []
theorem nilRows_full {w : World} {ao : Option Addr} {rows : List (List Int)} (hm : MatAt w ao rows) (h : ∀ k, k < rows.length → 1 ≤ (gr rows k).length) : NilRows w ao rows := by
  intro k b o r c hk e hc hr
  obtain ⟨b1, o1, r1, d1, e1, hc1, hr1, _, _⟩ := hm k hk
  rw [e] at e1
  simp only [Option.some.injEq, Addr.mk.injEq, and_true] at e1
  obtain ⟨rfl, rfl⟩ := e1
  rw [hc1] at hc
  simp only [Option.some.injEq, Value.slice.injEq] at hc
  obtain ⟨b2, o2, e2, _⟩ := hr1 0 (h k hk)
  rw [hc.1, hr] at e2
  cases e2

def lenT (rows : List (List Int)) (k : Nat) : Nat := (rows.take k).flatten.length
theorem lenT_succ {rows : List (List Int)} {k : Nat} (h : k < rows.length) : lenT rows (k + 1) = lenT rows k + (gr rows k).length := by
  unfold lenT
  rw [take_flat h, List.length_append]
theorem lenT_mono {rows : List (List Int)} {k : Nat} (h : k ≤ rows.length) : lenT rows k ≤ rows.flatten.length := by
  unfold lenT
  have := List.take_append_drop k rows
  conv => rhs; rw [← this]
  rw [List.flatten_append, List.length_append]
  omega

end Go.Proofs.Ytgdijjfipicodaa
