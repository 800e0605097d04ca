/- Plain facts on tables of integers: sums, lines whose signs alternate, sign matrices, transposes. No conditions. -/
import Derived.Test.YtnhkclnloiiihaaBase
namespace Go.Proofs.Ytnhkclnloiiihaa

/-- the sum of the first k numbers -/
def sumK (xs : List Int) : Nat → Int
  | 0 => 0
  | k + 1 => sumK xs k + gi xs k

theorem sumK_congr {xs ys : List Int} {k : Nat} (h : ∀ i, i < k → gi xs i = gi ys i) : sumK xs k = sumK ys k := by
  induction k with
  | zero => rfl
  | succ k ih => simp only [sumK]; rw [ih (fun i hi => h i (by omega)), h k (by omega)]

/-- signs alternate, the sum is 1 -/
def lineOk (xs : List Int) : Prop := (∀ k, k ≤ xs.length → 0 ≤ sumK xs k ∧ sumK xs k ≤ 1) ∧ sumK xs xs.length = 1
def rowsOk (m : List (List Int)) : Prop := ∀ i, i < m.length → lineOk (gr m i)
def square (m : List (List Int)) : Prop := 1 ≤ m.length ∧ m.length ≤ 6 ∧ ∀ i, i < m.length → (gr m i).length = m.length

/-- a table given by its numbers -/
def tab (n c : Nat) (f : Nat → Nat → Int) : List (List Int) := (List.range n).map fun i => (List.range c).map fun j => f i j
theorem tab_len (n c : Nat) (f : Nat → Nat → Int) : (tab n c f).length = n := by simp [tab]
theorem gr_tab {n c : Nat} {f : Nat → Nat → Int} {i : Nat} (h : i < n) : gr (tab n c f) i = (List.range c).map fun j => f i j := by
  rw [gr_lt (by rw [tab_len]; exact h)]
  simp [tab]
theorem tab_row {n c : Nat} {f : Nat → Nat → Int} {i : Nat} (h : i < n) : (gr (tab n c f) i).length = c := by rw [gr_tab h]; simp
theorem gi_row {c : Nat} {g : Nat → Int} {j : Nat} (h : j < c) : gi ((List.range c).map g) j = g j := by
  rw [gi_lt (by simpa using h)]
  simp
theorem gi_tab {n c : Nat} {f : Nat → Nat → Int} {i j : Nat} (hi : i < n) (hj : j < c) : gi (gr (tab n c f) i) j = f i j := by rw [gr_tab hi, gi_row hj]

theorem zero_row {n c k : Nat} (h : k < n) : gr (tab n c fun _ _ => 0) k = List.replicate c 0 := by
  refine ext_gi (by rw [tab_row h, List.length_replicate]) fun j hj => ?_
  rw [tab_row h] at hj
  rw [gi_tab h hj, gi_lt (by simpa using hj)]
  simp

/-- a table that agrees with the function is that table -/
theorem eq_tab {m : List (List Int)} {n c : Nat} {f : Nat → Nat → Int} (h1 : m.length = n) (h2 : ∀ i, i < n → (gr m i).length = c) (h3 : ∀ i j, i < n → j < c → gi (gr m i) j = f i j) : m = tab n c f := by
  refine ext_gr (by rw [h1, tab_len]) fun i hi => ?_
  rw [h1] at hi
  refine ext_gi (by rw [h2 i hi, tab_row hi]) fun j hj => ?_
  rw [h2 i hi] at hj
  rw [h3 i j hi hj, gi_tab hi hj]

/-- rows and columns exchanged -/
def tr (m : List (List Int)) : List (List Int) := tab m.length m.length fun i j => gi (gr m j) i
def good (m : List (List Int)) : Prop := square m ∧ rowsOk m ∧ rowsOk (tr m)

theorem square.small {m : List (List Int)} (h : square m) : Small m := ⟨by have := h.2.1; omega, fun i hi => by rw [h.2.2 i hi]; have := h.2.1; omega⟩
theorem tr_len (m : List (List Int)) : (tr m).length = m.length := tab_len _ _ _
theorem tr_row {m : List (List Int)} {i : Nat} (h : i < m.length) : (gr (tr m) i).length = m.length := tab_row h
theorem gi_tr {m : List (List Int)} {i j : Nat} (hi : i < m.length) (hj : j < m.length) : gi (gr (tr m) i) j = gi (gr m j) i := gi_tab hi hj
theorem square.tr {m : List (List Int)} (h : square m) : square (tr m) := ⟨by rw [tr_len]; exact h.1, by rw [tr_len]; exact h.2.1, fun i hi => by rw [tr_len] at hi ⊢; exact tr_row hi⟩
theorem tr_tr {m : List (List Int)} (h : square m) : Go.Proofs.Ytnhkclnloiiihaa.tr (Go.Proofs.Ytnhkclnloiiihaa.tr m) = m := by
  refine ext_gr (by rw [tr_len, tr_len]) fun i hi => ?_
  rw [tr_len, tr_len] at hi
  have e : (gr (Go.Proofs.Ytnhkclnloiiihaa.tr (Go.Proofs.Ytnhkclnloiiihaa.tr m)) i).length = m.length := by rw [tr_row (by rw [tr_len]; exact hi), tr_len]
  refine ext_gi (by rw [e, h.2.2 i hi]) fun j hj => ?_
  rw [e] at hj
  rw [gi_tr (by rw [tr_len]; exact hi) (by rw [tr_len]; exact hj), gi_tr hj hi]

theorem cell_new (w : World) (cs : Array Value) (e : TypeId) (k : Nat) : (w.alloc (.cells cs e)).cell? ⟨w.heap.size, k, none⟩ = cs[k]? := by
  unfold World.cell?
  rw [heap_alloc_new]
  rfl

/-- a number of an owned grid: its row, its cell, a store into it -/
theorem OwnP.at2 {w : World} {B n c : Nat} {v : Value} {f : Nat → Nat → Int} {vs : List Value} (h : OwnP w B v n (tab n c f) n vs) {i j : Nat} (hi : i < n) (hj : j < c) :
    ∃ g cap, vs.getD i undef = .slice (some ⟨g, 0, none⟩) c cap ∧ w.cell? ⟨g, j, none⟩ = some (.int .i64 (f i j)) ∧ w.frozen? ⟨g, j, none⟩ = false ∧ B ≤ g ∧
      ∀ x, OwnP (w.setCell ⟨g, j, none⟩ (.int .i64 x)) B v n (tab n c fun a b => if a = i ∧ b = j then x else f a b) n vs := by
  have hrow := h.rows i hi
  obtain ⟨ao, cap, hv, _, _, _⟩ := hrow.read
  rw [tab_row hi] at hv
  have hrow' := hrow
  rw [hv] at hrow'
  obtain ⟨g, rfl, hg, _⟩ := hrow'.isAt (by omega)
  refine ⟨g, cap, hv, ?_, hrow'.frozenAt j, hg, fun x => ⟨?_, fun a ha => ?_, h.apart⟩⟩
  · rw [hrow'.cellAt j hj, gi_tab hi hj]
  · exact Go.ownsRow_setCell_other h.top (fun e => hrow.ne_row h.top g (by rw [hv]; rfl) e) _
  · by_cases e : a = i
    · subst e
      have := hrow'.store j x
      rw [hv]
      have e2 : gr (tab n c fun a' b => if a' = a ∧ b = j then x else f a' b) a = (gr (tab n c f) a).set j x := by
        refine ext_gi (by rw [tab_row hi, List.length_set, tab_row hi]) fun b hb => ?_
        rw [tab_row hi] at hb
        rw [gi_tab hi hb, gi_set (by rw [tab_row hi]; exact hj), gi_tab hi hb]
        by_cases e3 : b = j <;> simp [e3]
      rw [e2]
      exact this
    · have e2 : gr (tab n c fun a' b => if a' = i ∧ b = j then x else f a' b) a = gr (tab n c f) a := by
        refine ext_gi (by rw [tab_row ha, tab_row ha]) fun b hb => ?_
        rw [tab_row ha] at hb
        rw [gi_tab ha hb, gi_tab ha hb, if_neg (fun h => e h.1)]
      rw [e2]
      refine (h.rows a ha).setOther (fun hg' => ?_) _
      rcases Nat.lt_or_gt_of_ne e with hlt | hlt
      · exact h.apart a i hlt hi g hg' (by rw [hv]; rfl)
      · exact h.apart i a hlt ha g (by rw [hv]; rfl) hg'
end Go.Proofs.Ytnhkclnloiiihaa
