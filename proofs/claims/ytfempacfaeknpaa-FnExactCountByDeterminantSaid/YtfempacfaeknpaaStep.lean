/- Laws of steps in a region that draws its order: a call by its contract, numbers and rows appended. No condition but lengths. -/
import Derived.Test.YtfempacfaeknpaaOwnV
import Derived.Deep.RegionLaw
namespace Go.Proofs.Ytfempacfaeknpaa
open Go.RowKit

theorem wanted_plain {o : Oper} (hg : o.guard = none) (ys : Array (Option Bool)) : True := trivial
/-- a call, by its contract -/
theorem step_call {P : Program} {ops : Array Oper} {o : Oper} {a : Act} {w : World} {K : Act → World → Prop} {Q : Exit → Act → World → Prop} {E : Prop}
    (hg : o.guard = none) (f : FuncId) (args : Array Value) (hrun : (execOp a.eval o).run P w = .ok (.enter f args) w) (R : Value → World → Prop)
    (hc : Calls P f args w fun e w'' => ∃ v, e = .returned v ∧ R v w'')
    (h : ∀ v w'', R v w'' → K (a.put o.dst v) w'') :
    if Region.wanted o (yielded ops a.tmps) = true then Oper.wp P o a w K Q else E := by
  have hw : Region.wanted o (yielded ops a.tmps) = true := by simp [Region.wanted, hg]
  rw [if_pos hw]
  unfold Oper.wp
  rw [hrun, Oper.upon_enter]
  refine hc.mono fun e w'' hh => ?_
  obtain ⟨v, rfl, hr⟩ := hh
  exact h v w'' hr
/-- numbers are appended to a row -/
theorem step_appendI {w : World} {ops : Array Oper} {o : Oper} {a : Act} {K : Act → World → Prop} {Q : Exit → Act → World → Prop} {E : Prop} (hg : o.guard = none) (s x : Operand)
    (ho : o.op = .call { callee := .builtin .append, args := #[s, x], argTypes := #[42, 42] })
    (base : Nat) (v : Value) (xs : List Int) (hown : OwnI w base v xs) (hs : a.eval s = v)
    (ad : Addr) (c : Nat) (ys : List Int) (hys : IntsAt w (some ad) ys) (n : Nat) (hn : n = ys.length) (hx : a.eval x = .slice (some ad) n c)
    (h63 : xs.length + ys.length ≤ 1048576) (hbase : base ≤ w.heap.size)
    (h : ∀ v' w', OwnI w' base v' (xs ++ ys) → Below base w w' → K (a.put o.dst v') w') :
    if Region.wanted o (yielded ops a.tmps) = true then Oper.wp Try.prog o a w K Q else E := by
  obtain ⟨i0, hi, hz0, hz1, hz2⟩ := info_parts Try.info_int
  have hw : Region.wanted o (yielded ops a.tmps) = true := by simp [Region.wanted, hg]
  rw [if_pos hw]
  subst hn
  refine wp_append_own w s x 42 ho base 3 i0 (.int .i64 0) 1 8 Try.underlying42 hi hz0 hz1 hz2 rfl (by decide) v xs.length _ hs hown ad ys.length c (ys.map (Value.int .i64)) hx (by simp) ?_ (by intro u hu; obtain ⟨y, _, rfl⟩ := List.mem_map.1 hu; rfl) (by unfold maxLen; omega) (by omega) hbase ?_
  · intro j u hj
    have hjl : j < ys.length := by
      have := (List.getElem?_eq_some_iff.1 hj).1
      simpa using this
    obtain ⟨b, o', e, hcell⟩ := hys j hjl
    cases e
    have e : (ys.map (Value.int .i64))[j]? = some (Value.int .i64 (gi ys j)) := by simp [gi, List.getD, hjl]
    rw [e] at hj
    cases hj
    rw [Addr.add_lit]
    exact hcell
  · intro v' w' h1 h2 _
    refine h v' w' ?_ (Below.grown (Below.refl _ _) h2 hbase (fun k hk => (World.ownsRow.lt hown k hk).1))
    unfold OwnI
    rw [List.length_append, List.map_append]
    exact h1
/-- a row is appended to a table -/
theorem step_rowV {w : World} {ops : Array Oper} {o : Oper} {a : Act} {K : Act → World → Prop} {Q : Exit → Act → World → Prop} {E : Prop} (hg : o.guard = none) (s x : Operand)
    (ho : o.op = .call { callee := .builtin .append, args := #[s, x], argTypes := #[22, 22] })
    (B B' : Nat) (v u : Value) (m : List (List Int)) (vs : List Value) (row : List Int) (h : OwnV w B v m vs) (hu : OwnI w B' u row) (hs : a.eval s = v) (hx : a.eval x = .slice (some ⟨w.heap.size, 0, none⟩) 1 1)
    (hB : B ≤ w.heap.size) (hl : m.length < 1048576)
    (hk : ∀ v' w1, OwnV w1 B v' (m ++ [row]) (vs ++ [u]) → Below B w w1 → K (a.put o.dst v') w1) :
    if Region.wanted o (yielded ops a.tmps) = true then Oper.wp Try.prog o a (w.alloc (.cells #[u] 42)) K Q else E := by
  obtain ⟨j0, hj, hy0, hy1, hy2⟩ := info_parts Try.info_ints
  have hw : Region.wanted o (yielded ops a.tmps) = true := by simp [Region.wanted, hg]
  rw [if_pos hw]
  refine wp_append_own _ s x 22 ho B 42 j0 (.slice none 0 0) 1 24 Try.underlying22 hj hy0 hy1 hy2 rfl (by decide) v m.length _ hs (World.ownsRow.alloc h.top _) ⟨w.heap.size, 0, none⟩ 1 1 [u] hx rfl ?_ ?_ (by unfold maxLen; omega) (by omega) (by simp; omega) ?_
  · exact cell_one_new _ _ _
  · intro z hz; simp at hz; subst hz; obtain ⟨_, _, e, _⟩ := hu.read; rw [e]; rfl
  · intro v' w1 h1 h2 _
    have ho : OwnV (w.alloc (.cells #[u] 42)) B v m vs := h.below ((Below.refl _ _).alloc (Nat.le_refl _) _)
    refine hk v' w1 ?_ (Below.grown ((Below.refl B w).alloc hB _) h2 (by simp; omega) (fun k hk => (World.ownsRow.lt h.top k hk).1))
    refine h.join (B' := B') (u := u) (by simp) (fun i hi => ?_) h1 (fun x ys hx => (hx.below ((Below.refl _ _).alloc (Nat.le_refl _) (.cells #[u] 42))).kept_tab ho.top h2)
    obtain rfl : i = 0 := by simp at hi; omega
    exact hu
end Go.Proofs.Ytfempacfaeknpaa
