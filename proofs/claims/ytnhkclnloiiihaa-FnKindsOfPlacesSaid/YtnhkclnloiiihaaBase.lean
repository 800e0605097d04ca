/- What a slice of integers and a slice of such slices read as in a world; what a call owns; how both are handed on. No conditions: definitions and small lemmas about worlds. -/
import Derived.Test.YtnhkclnloiiihaaProg
import Derived.WalkKit
import Derived.WalkSpells
import Derived.WalkLawsBesides
import Derived.Lib.Hide
import Derived.BigQuiet
import Derived.Deep.QuietTactic
namespace Go.Proofs.Ytnhkclnloiiihaa
open Go.RowKit

/-- the number at an index, the row at an index -/
def gi (xs : List Int) (i : Nat) : Int := xs.getD i 0
def gr (m : List (List Int)) (i : Nat) : List Int := m.getD i []

theorem gi_lt {xs : List Int} {i : Nat} (h : i < xs.length) : gi xs i = xs[i] := by simp [gi, List.getD, h]
theorem gr_lt {m : List (List Int)} {i : Nat} (h : i < m.length) : gr m i = m[i] := by simp [gr, List.getD, h]
theorem gi_nil (i : Nat) : gi [] i = 0 := by simp [gi]
theorem gi_cons_zero (x : Int) (xs : List Int) : gi (x :: xs) 0 = x := rfl
theorem gi_cons_succ (x : Int) (xs : List Int) (i : Nat) : gi (x :: xs) (i + 1) = gi xs i := by simp [gi]
theorem gr_cons_zero (x : List Int) (xs : List (List Int)) : gr (x :: xs) 0 = x := rfl
theorem gr_cons_succ (x : List Int) (xs : List (List Int)) (i : Nat) : gr (x :: xs) (i + 1) = gr xs i := by simp [gr]
theorem gi_mem {xs : List Int} {i : Nat} (h : i < xs.length) : gi xs i ∈ xs := by rw [gi_lt h]; exact List.getElem_mem _
theorem gr_mem {m : List (List Int)} {i : Nat} (h : i < m.length) : gr m i ∈ m := by rw [gr_lt h]; exact List.getElem_mem _
theorem gi_set {xs : List Int} {i j : Nat} {x : Int} (h : i < xs.length) : gi (xs.set i x) j = if j = i then x else gi xs j := by
  simp only [gi, List.getD, List.getElem?_set]
  by_cases e : i = j
  · subst e; simp [h]
  · rw [if_neg e, if_neg (fun h => e h.symm)]

theorem ext_gi {xs ys : List Int} (h : xs.length = ys.length) (e : ∀ i, i < xs.length → gi xs i = gi ys i) : xs = ys := by
  apply List.ext_getElem h
  intro i h1 h2
  have := e i h1
  rwa [gi_lt h1, gi_lt h2] at this

theorem ext_gr {xs ys : List (List Int)} (h : xs.length = ys.length) (e : ∀ i, i < xs.length → gr xs i = gr ys i) : xs = ys := by
  apply List.ext_getElem h
  intro i h1 h2
  have := e i h1
  rwa [gr_lt h1, gr_lt h2] at this

/-- the cells at an address read as these integers -/
def IntsAt (w : World) (ao : Option Addr) (xs : List Int) : Prop :=
  ∀ i, i < xs.length → ∃ b o, ao = some ⟨b, o, none⟩ ∧ w.cell? ⟨b, o + i, none⟩ = some (.int .i64 (gi xs i))

/-- the cells at an address lead to these rows -/
def MatAt (w : World) (ao : Option Addr) (m : List (List Int)) : Prop :=
  ∀ i, i < m.length → ∃ b o r c, ao = some ⟨b, o, none⟩ ∧ w.cell? ⟨b, o + i, none⟩ = some (.slice r (gr m i).length c) ∧ IntsAt w r (gr m i) ∧ (gr m i).length ≤ c ∧ c ≤ 9223372036854775807

/-- no more than 2^20 rows, and none longer than that -/
def Small (m : List (List Int)) : Prop := m.length ≤ 1048576 ∧ ∀ i, i < m.length → (gr m i).length ≤ 1048576

/-- each number fits an int -/
def WfI (xs : List Int) : Prop := ∀ i, i < xs.length → -9223372036854775808 ≤ gi xs i ∧ gi xs i ≤ 9223372036854775807
def WfM (m : List (List Int)) : Prop := ∀ i, i < m.length → WfI (gr m i)

theorem cell_below {w w' : World} {a : Addr} {v : Value} (h : w.cell? a = some v) (hb : Below w.heap.size w w') : w'.cell? a = some v := by
  rw [hb.cell (World.block_lt_of_cell? _ _ h)]; exact h

theorem IntsAt.below {w w' : World} {ao : Option Addr} {xs : List Int} (h : IntsAt w ao xs) (hb : Below w.heap.size w w') : IntsAt w' ao xs := by
  intro i hi
  obtain ⟨b, o, e, hc⟩ := h i hi
  exact ⟨b, o, e, cell_below hc hb⟩

theorem MatAt.below {w w' : World} {ao : Option Addr} {m : List (List Int)} (h : MatAt w ao m) (hb : Below w.heap.size w w') : MatAt w' ao m := by
  intro i hi
  obtain ⟨b, o, r, c, e, hc, hr, h1, h2⟩ := h i hi
  exact ⟨b, o, r, c, e, cell_below hc hb, hr.below hb, h1, h2⟩

theorem IntsAt.nil (w : World) (ao : Option Addr) : IntsAt w ao [] := fun i hi => absurd hi (by simp)
theorem MatAt.nil (w : World) (ao : Option Addr) : MatAt w ao [] := fun i hi => absurd hi (by simp)

/-- a call that only reads: the world has drawn, no more -/
def Q (w w' : World) : Prop := ∃ n, w' = w.drewN n
theorem Q.refl (w : World) : Q w w := ⟨0, rfl⟩
theorem Q.trans {a b c : World} (h : Q a b) (k : Q b c) : Q a c := by
  obtain ⟨n, rfl⟩ := h
  obtain ⟨m, rfl⟩ := k
  exact ⟨n + m, World.drewN_drewN _ _ _⟩
theorem Q.drewN {a b : World} (h : Q a b) (n : Nat) : Q a (b.drewN n) := h.trans ⟨n, rfl⟩
theorem Q.drew {a b : World} (h : Q a b) : Q a b.drew := h.trans ⟨1, rfl⟩
theorem Q.below {a b : World} (h : Q a b) (B : Nat) : Below B a b := by
  obtain ⟨n, rfl⟩ := h
  exact below_drewN (Below.refl _ _) n

/-- it returns whether p holds -/
def Ans (p : Prop) (e : Ending) : Prop := ∃ b, e = .returned (.bool b) ∧ (b = true ↔ p)
theorem Ans.yes {p : Prop} (h : p) : Ans p (.returned (.bool true)) := ⟨true, rfl, by simp [h]⟩
theorem Ans.no {p : Prop} (h : ¬ p) : Ans p (.returned (.bool false)) := ⟨false, rfl, by simp [h]⟩
theorem Ans.gives {p : Prop} {e : Ending} (h : Ans p e) : (p ∧ e = .returned (.bool true)) ∨ (¬ p ∧ e = .returned (.bool false)) := by
  obtain ⟨b, rfl, hb⟩ := h
  cases b
  · exact .inr ⟨fun hp => by simpa using hb.2 hp, rfl⟩
  · exact .inl ⟨hb.1 rfl, rfl⟩
theorem Ans.is {p : Prop} {e : Ending} (h : Ans p e) (hp : p) : e = .returned (.bool true) := by
  rcases h.gives with ⟨_, e⟩ | ⟨hn, _⟩
  · exact e
  · exact absurd hp hn
theorem Ans.isnt {p : Prop} {e : Ending} (h : Ans p e) (hp : ¬ p) : e = .returned (.bool false) := by
  rcases h.gives with ⟨hn, _⟩ | ⟨_, e⟩
  · exact absurd hn hp
  · exact e
theorem Ans.iff {p q : Prop} {e : Ending} (h : Ans p e) (hp : p ↔ q) : Ans q e := by
  obtain ⟨b, rfl, hb⟩ := h
  exact ⟨b, rfl, hb.trans hp⟩

/-- a slice of integers that the call owns from block B on -/
def OwnI (w : World) (B : Nat) (v : Value) (xs : List Int) : Prop := w.ownsRow B 3 1 v xs.length (xs.map (Value.int .i64))

/-- a slice of n slices of integers that the call owns from block B on; the first k rows read as those of m; no two of them share a block -/
structure OwnP (w : World) (B : Nat) (v : Value) (n : Nat) (m : List (List Int)) (k : Nat) (vs : List Value) : Prop where
  top : w.ownsRow B 24 1 v n vs
  rows : ∀ i, i < k → OwnI w B (vs.getD i undef) (gr m i)
  apart : ∀ i j, i < j → j < k → ∀ g, (vs.getD i undef).ownBlock = some g → (vs.getD j undef).ownBlock ≠ some g

/-- .. all of them -/
def OwnM (w : World) (B : Nat) (v : Value) (m : List (List Int)) : Prop := ∃ vs, OwnP w B v m.length m m.length vs

theorem ownsRow_below {w w' : World} {B : Nat} {e : TypeId} {v : Value} {n : Nat} {xs : List Value} (h : w.ownsRow B e 1 v n xs) (hb : Below w.heap.size w w') : w'.ownsRow B e 1 v n xs := by
  refine ⟨h.1, ?_⟩
  rcases h.2 with h0 | ⟨g, cap, cur, hv, hg, hh, r⟩
  · exact .inl h0
  · exact .inr ⟨g, cap, cur, hv, hg, by rw [hb.block g (lt_of_block hh)]; exact hh, r⟩

theorem ownsRow_base {w : World} {B B' : Nat} {e : TypeId} {v : Value} {n : Nat} {xs : List Value} (h : w.ownsRow B e 1 v n xs) (hB : B' ≤ B) : w.ownsRow B' e 1 v n xs := by
  refine ⟨h.1, ?_⟩
  rcases h.2 with h0 | ⟨g, cap, cur, hv, hg, r⟩
  · exact .inl h0
  · exact .inr ⟨g, cap, cur, hv, by omega, r⟩

theorem OwnI.below {w w' : World} {B : Nat} {v : Value} {xs : List Int} (h : OwnI w B v xs) (hb : Below w.heap.size w w') : OwnI w' B v xs := ownsRow_below h hb
theorem OwnI.base {w : World} {B B' : Nat} {v : Value} {xs : List Int} (h : OwnI w B v xs) (hB : B' ≤ B) : OwnI w B' v xs := ownsRow_base h hB

theorem OwnP.below {w w' : World} {B n k : Nat} {v : Value} {m : List (List Int)} {vs : List Value} (h : OwnP w B v n m k vs) (hb : Below w.heap.size w w') : OwnP w' B v n m k vs :=
  ⟨ownsRow_below h.top hb, fun i hi => (h.rows i hi).below hb, h.apart⟩
theorem OwnP.base {w : World} {B B' n k : Nat} {v : Value} {m : List (List Int)} {vs : List Value} (h : OwnP w B v n m k vs) (hB : B' ≤ B) : OwnP w B' v n m k vs :=
  ⟨ownsRow_base h.top hB, fun i hi => (h.rows i hi).base hB, h.apart⟩
theorem OwnM.below {w w' : World} {B : Nat} {v : Value} {m : List (List Int)} (h : OwnM w B v m) (hb : Below w.heap.size w w') : OwnM w' B v m := ⟨_, h.choose_spec.below hb⟩
theorem OwnM.base {w : World} {B B' : Nat} {v : Value} {m : List (List Int)} (h : OwnM w B v m) (hB : B' ≤ B) : OwnM w B' v m := ⟨_, h.choose_spec.base hB⟩

/-- what is owned reads so -/
theorem ownsRow_read {w : World} {B : Nat} {e : TypeId} {v : Value} {n : Nat} {xs : List Value} (h : w.ownsRow B e 1 v n xs) :
    ∃ ao c, v = .slice ao n c ∧ n ≤ c ∧ c ≤ 9223372036854775807 ∧ ∀ i, i < n → ∃ b o, ao = some ⟨b, o, none⟩ ∧ w.cell? ⟨b, o + i, none⟩ = some (xs.getD i undef) := by
  rcases h.2 with ⟨rfl, h0⟩ | ⟨g, cap, cur, rfl, hg, hh, hn, hm, hs, ht⟩
  · exact ⟨none, 0, by rw [h0], by omega, by omega, fun i hi => absurd hi (by omega)⟩
  · refine ⟨some ⟨g, 0, none⟩, cap, rfl, hn, hm, fun i hi => ⟨g, 0, rfl, ?_⟩⟩
    have hx := h.cellAt i (by omega)
    have hl := h.1
    rw [Nat.zero_add, hx, List.getD, List.getElem?_eq_getElem (by omega)]
    rfl

theorem OwnI.read {w : World} {B : Nat} {v : Value} {xs : List Int} (h : OwnI w B v xs) : ∃ ao c, v = .slice ao xs.length c ∧ xs.length ≤ c ∧ c ≤ 9223372036854775807 ∧ IntsAt w ao xs := by
  obtain ⟨ao, c, hv, h1, h2, hc⟩ := ownsRow_read h
  refine ⟨ao, c, hv, h1, h2, fun i hi => ?_⟩
  obtain ⟨b, o, e, hcell⟩ := hc i hi
  refine ⟨b, o, e, ?_⟩
  rw [hcell]
  simp [gi, List.getD, hi]

theorem OwnM.read {w : World} {B : Nat} {v : Value} {m : List (List Int)} (h : OwnM w B v m) : ∃ ao c, v = .slice ao m.length c ∧ m.length ≤ c ∧ c ≤ 9223372036854775807 ∧ MatAt w ao m := by
  obtain ⟨vs, h⟩ := h
  obtain ⟨ao, c, hv, h1, h2, hc⟩ := ownsRow_read h.top
  refine ⟨ao, c, hv, h1, h2, fun i hi => ?_⟩
  obtain ⟨b, o, e, hcell⟩ := hc i hi
  obtain ⟨r, c', hr, h3, h4, hx⟩ := (h.rows i hi).read
  exact ⟨b, o, r, c', e, by rw [hcell, hr], hx, h3, h4⟩

theorem OwnI.nil (w : World) (B : Nat) : OwnI w B (.slice none 0 0) [] := World.ownsRow_nil _ _ _ _
theorem OwnM.nil (w : World) (B : Nat) : OwnM w B (.slice none 0 0) [] := ⟨[], World.ownsRow_nil _ _ _ _, fun i hi => absurd hi (by simp), fun i j _ hj => absurd hj (by simp)⟩

theorem OwnI.len {w : World} {B n c : Nat} {ao : Option Addr} {xs : List Int} (h : OwnI w B (.slice ao n c) xs) : xs.length = n := by
  rcases h.2 with ⟨h0, h1⟩ | ⟨g, cap, cur, hv, _⟩
  · simp only [Value.slice.injEq] at h0; omega
  · simp only [Value.slice.injEq] at hv; omega

/-- a store into an owned slice of integers -/
theorem OwnI.store {w : World} {B g n c : Nat} {xs : List Int} (h : OwnI w B (.slice (some ⟨g, 0, none⟩) n c) xs) (i : Nat) (x : Int) :
    OwnI (w.setCell ⟨g, i, none⟩ (.int .i64 x)) B (.slice (some ⟨g, 0, none⟩) n c) (xs.set i x) := by
  have hl := h.len
  subst hl
  have := (World.ownsRow.stored h i (.int .i64 x)).1
  unfold OwnI
  rw [List.length_set, List.map_set]
  exact this

theorem OwnI.cellAt {w : World} {B g n c : Nat} {xs : List Int} (h : OwnI w B (.slice (some ⟨g, 0, none⟩) n c) xs) (i : Nat) (hi : i < n) : w.cell? ⟨g, i, none⟩ = some (.int .i64 (gi xs i)) := by
  have hl := h.len
  subst hl
  rw [World.ownsRow.cellAt h i (by omega)]
  simp [gi, List.getD, hi]

theorem OwnI.frozenAt {w : World} {B g n c : Nat} {xs : List Int} (h : OwnI w B (.slice (some ⟨g, 0, none⟩) n c) xs) (i : Nat) : w.frozen? ⟨g, i, none⟩ = false := by
  have hl := h.len
  subst hl
  exact World.ownsRow.frozenAt h i

/-- a write elsewhere -/
theorem OwnI.setOther {w : World} {B : Nat} {v : Value} {xs : List Int} (h : OwnI w B v xs) {a : Addr} (ha : v.ownBlock ≠ some a.block) (u : Value) : OwnI (w.setCell a u) B v xs := ownsRow_setCell_other h ha u

/-- the block of an owned slice -/
theorem OwnI.lt {w : World} {B : Nat} {v : Value} {xs : List Int} (h : OwnI w B v xs) : ∀ k, v.ownBlock = some k → B ≤ k ∧ k < w.heap.size := World.ownsRow.lt h

/-- where it has an element it lies at the head of a block -/
theorem OwnI.isAt {w : World} {B n c : Nat} {ao : Option Addr} {xs : List Int} (h : OwnI w B (.slice ao n c) xs) (hn : 0 < n) : ∃ g, ao = some ⟨g, 0, none⟩ ∧ B ≤ g ∧ g < w.heap.size := by
  have hlt := OwnI.lt h
  rcases h.2 with ⟨h0, h1⟩ | ⟨g, cap, cur, hv, hg, _⟩
  · simp only [Value.slice.injEq] at h0; omega
  · simp only [Value.slice.injEq] at hv
    obtain ⟨rfl, _⟩ := hv
    exact ⟨g, rfl, hlt g rfl⟩

/-- nothing but blocks of S has been written; no block is new -/
structure OnlyW (S : Nat → Prop) (w w' : World) : Prop where
  os : w'.os = w.os
  tape : w'.tape = w.tape
  output : w'.output = w.output
  size : w'.heap.size = w.heap.size
  block : ∀ k, ¬ S k → w'.heap[k]? = w.heap[k]?

theorem OnlyW.refl (S : Nat → Prop) (w : World) : OnlyW S w w := ⟨rfl, rfl, rfl, rfl, fun _ _ => rfl⟩
theorem OnlyW.trans {S : Nat → Prop} {a b c : World} (h : OnlyW S a b) (k : OnlyW S b c) : OnlyW S a c :=
  ⟨k.os.trans h.os, k.tape.trans h.tape, k.output.trans h.output, k.size.trans h.size, fun i hi => (k.block i hi).trans (h.block i hi)⟩
theorem OnlyW.mono {S T : Nat → Prop} {a b : World} (h : OnlyW S a b) (e : ∀ k, S k → T k) : OnlyW T a b := ⟨h.os, h.tape, h.output, h.size, fun k hk => h.block k (fun hs => hk (e k hs))⟩
theorem OnlyW.setCell {S : Nat → Prop} {a w : World} (h : OnlyW S a w) {p : Addr} (hp : S p.block) (u : Value) : OnlyW S a (w.setCell p u) :=
  h.trans ⟨rfl, rfl, rfl, by simp [World.setCell], fun k hk => Below.heap_setCell _ _ _ _ (fun e => hk (e ▸ hp))⟩
theorem OnlyW.below {S : Nat → Prop} {a b : World} (h : OnlyW S a b) {B : Nat} (hS : ∀ k, S k → B ≤ k) : Below B a b :=
  ⟨h.os, h.tape, h.output, Nat.le_of_eq h.size.symm, fun k hk => h.block k (fun hs => by have := hS k hs; omega)⟩

theorem ownsRow_only {w w' : World} {S : Nat → Prop} {B : Nat} {e : TypeId} {v : Value} {n : Nat} {xs : List Value} (h : w.ownsRow B e 1 v n xs) (ho : OnlyW S w w') (hS : ∀ g, v.ownBlock = some g → ¬ S g) : w'.ownsRow B e 1 v n xs := by
  refine ⟨h.1, ?_⟩
  rcases h.2 with h0 | ⟨g, cap, cur, rfl, hg, hh, r⟩
  · exact .inl h0
  · exact .inr ⟨g, cap, cur, rfl, hg, by rw [ho.block g (hS g rfl)]; exact hh, r⟩

/-- what make lays -/
theorem OwnI.made {w : World} {B g n : Nat} (h : w.ownsRow B 3 1 (.slice (some ⟨g, 0, none⟩) n n) n (madeCells #[Value.int .i64 0] n).toList) :
    OwnI w B (.slice (some ⟨g, 0, none⟩) n n) (List.replicate n 0) := by
  unfold OwnI
  rw [List.length_replicate, List.map_replicate, ← toList_madeCells_one]
  exact h

/-- the block of a row is not that of the rows' own slice: their elements differ -/
theorem OwnI.ne_top {w : World} {B g : Nat} {v : Value} {xs : List Int} (h : OwnI w B v xs) {cur : Array Value} {q : Nat × Nat} (hg : w.heap[g]? = some (.cells cur 24 q)) : v.ownBlock ≠ some g := by
  rcases h.2 with ⟨rfl, _⟩ | ⟨g', cap, cur', rfl, _, hh, _⟩
  · simp [Value.ownBlock]
  · intro e
    simp only [Value.ownBlock, Option.some.injEq] at e
    subst e
    rw [hg] at hh
    simp at hh

theorem OwnI.ne_row {w : World} {B B' n : Nat} {v u : Value} {xs : List Int} {vs : List Value} (h : OwnI w B v xs) (ht : w.ownsRow B' 24 1 u n vs) : ∀ g, v.ownBlock = some g → u.ownBlock ≠ some g := by
  intro g hg hu
  rcases ht.2 with ⟨rfl, _⟩ | ⟨g', cap, cur', rfl, _, hh, _⟩
  · simp [Value.ownBlock] at hu
  · simp only [Value.ownBlock, Option.some.injEq] at hu
    subst hu
    exact h.ne_top hh hg

theorem ownsRow_block {w : World} {B g n c : Nat} {e : TypeId} {vs : List Value} (h : w.ownsRow B e 1 (.slice (some ⟨g, 0, none⟩) n c) n vs) : ∃ cur, w.heap[g]? = some (.cells cur e (0, 0)) := by
  rcases h.2 with ⟨h0, _⟩ | ⟨g', cap, cur, hv, _, hh, _⟩
  · simp at h0
  · simp only [Value.slice.injEq, Option.some.injEq, Addr.mk.injEq, and_true, true_and] at hv
    obtain ⟨rfl, _⟩ := hv
    exact ⟨cur, hh⟩

/-- a row is stored: the k-th -/
theorem OwnP.put {w : World} {B g n c k : Nat} {m : List (List Int)} {vs : List Value} {v : Value} (h : OwnP w B (.slice (some ⟨g, 0, none⟩) n c) n m k vs) (hk : k < n) (hv : OwnI w B v (gr m k))
    (hne : ∀ j, j < k → ∀ g', (vs.getD j undef).ownBlock = some g' → v.ownBlock ≠ some g') :
    OwnP (w.setCell ⟨g, k, none⟩ v) B (.slice (some ⟨g, 0, none⟩) n c) n m (k + 1) (vs.set k v) := by
  obtain ⟨cur, hcur⟩ := ownsRow_block h.top
  have hl : vs.length = n := by simpa using h.top.1
  have hget : ∀ j, j < k + 1 → (vs.set k v).getD j undef = if j = k then v else vs.getD j undef := by
    intro j hj
    simp only [List.getD, List.getElem?_set]
    by_cases e : k = j
    · subst e; rw [if_pos rfl, if_pos rfl, if_pos (by omega)]; rfl
    · rw [if_neg e, if_neg (fun h => e h.symm)]
  refine ⟨(World.ownsRow.stored h.top k v).1, fun i hi => ?_, fun i j hij hj g' hg' => ?_⟩
  · rw [hget i hi]
    split
    · next e => subst e; exact hv.setOther (hv.ne_top hcur) _
    · next e => exact (h.rows i (by omega)).setOther ((h.rows i (by omega)).ne_top hcur) _
  · rw [hget i (by omega), if_neg (by omega)] at hg'
    rw [hget j hj]
    split
    · next e => exact hne i (by omega) g' hg'
    · next e => exact h.apart i j hij (by omega) g' hg'

/-- what make lays for rows -/
theorem OwnP.made {w : World} {B g n : Nat} {m : List (List Int)} (h : w.ownsRow B 24 1 (.slice (some ⟨g, 0, none⟩) n n) n (madeCells #[Value.slice none 0 0] n).toList) :
    OwnP w B (.slice (some ⟨g, 0, none⟩) n n) n m 0 (madeCells #[Value.slice none 0 0] n).toList :=
  ⟨h, fun i hi => absurd hi (by omega), fun i j _ hj => absurd hj (by omega)⟩

theorem OwnP.cellAt {w : World} {B g n c k : Nat} {m : List (List Int)} {vs : List Value} (h : OwnP w B (.slice (some ⟨g, 0, none⟩) n c) n m k vs) (i : Nat) (hi : i < n) : w.cell? ⟨g, i, none⟩ = some (vs.getD i undef) := by
  have hl : vs.length = n := by simpa using h.top.1
  rw [World.ownsRow.cellAt h.top i (by omega), List.getD, List.getElem?_eq_getElem (by omega)]
  rfl

/-- a row of blocks not below that of any row before -/
theorem OwnP.fresh {w : World} {B n k B' : Nat} {v u : Value} {m : List (List Int)} {vs : List Value} {xs : List Int} {w' : World} (h : OwnP w B v n m k vs) (hu : OwnI w' B' u xs) (hB : w.heap.size ≤ B') :
    ∀ j, j < k → ∀ g', (vs.getD j undef).ownBlock = some g' → u.ownBlock ≠ some g' := by
  intro j hj g' hg' hu'
  have h1 := (h.rows j hj).lt g' hg'
  have h2 := hu.lt g' hu'
  omega

/-- a number has been appended -/
theorem OwnI.snoc {w w1 : World} {B : Nat} {v v' : Value} {xs : List Int} {x : Int} {o : Obj} (h : OwnI w B v xs) (hB : B ≤ w.heap.size)
    (h1 : w1.ownsRow B 3 1 v' (xs.length + 1) (xs.map (Value.int .i64) ++ [.int .i64 x])) (hg : (w.alloc o).grownBy w1 v.ownBlock) : OwnI w1 B v' (xs ++ [x]) ∧ Below B w w1 := by
  refine ⟨by unfold OwnI; rw [List.length_append, List.map_append]; exact h1, ?_⟩
  refine Below.grown ((Below.refl B w).alloc hB o) hg (by simp; omega) (fun k hk => (h.lt k hk).1)

/-- a row has been appended -/
theorem OwnP.snoc {w w1 : World} {B k : Nat} {v v' u : Value} {m : List (List Int)} {vs : List Value} {o : Obj} (h : OwnP w B v k m k vs) (hB : B ≤ w.heap.size) (hu : OwnI w B u (gr m k))
    (hne : ∀ j, j < k → ∀ g, (vs.getD j undef).ownBlock = some g → u.ownBlock ≠ some g)
    (h1 : w1.ownsRow B 24 1 v' (k + 1) (vs ++ [u])) (hg : (w.alloc o).grownBy w1 v.ownBlock) : OwnP w1 B v' (k + 1) m (k + 1) (vs ++ [u]) ∧ Below B w w1 := by
  have hl : vs.length = k := by simpa using h.top.1
  have hget : ∀ j, j < k + 1 → (vs ++ [u]).getD j undef = if j = k then u else vs.getD j undef := by
    intro j hj
    simp only [List.getD]
    split
    · next e => subst e; rw [List.getElem?_append_right (by omega), hl]; simp
    · next e => rw [List.getElem?_append_left (by omega)]
  have kept : ∀ (x : Value) (ys : List Int), OwnI w B x ys → OwnI w1 B x ys := by
    intro x ys hx
    refine (World.ownsRow.alloc hx o).kept hg ?_
    cases hb : x.ownBlock with
    | none => exact .inl rfl
    | some g => exact .inr (fun e => hx.ne_row h.top g hb e.symm)
  refine ⟨⟨h1, fun i hi => ?_, fun i j hij hj g hg' => ?_⟩, Below.grown ((Below.refl B w).alloc hB o) hg (by simp; omega) (fun k hk => (World.ownsRow.lt h.top k hk).1)⟩
  · rw [hget i hi]
    split
    · next e => subst e; exact kept _ _ hu
    · next e => exact kept _ _ (h.rows i (by omega))
  · rw [hget i (by omega), if_neg (by omega)] at hg'
    rw [hget j hj]
    split
    · next e => exact hne i (by omega) g hg'
    · next e => exact h.apart i j hij (by omega) g hg'

theorem one_new {w : World} {o : Obj} {x : Value} {e : TypeId} (ho : o = .cells #[x] e) : ∀ j u, [x][j]? = some u → (w.alloc o).cell? ((⟨w.heap.size, 0, none⟩ : Addr).add j) = some u := by
  subst ho
  exact cell_one_new _ _ _

theorem Try.info_int : (Try.prog.info? 3).map (fun i => (i.zero, i.size, i.bytes)) = some (some (.int .i64 0), 1, 8) := by kernel_rfl
theorem Try.info_ints : (Try.prog.info? 24).map (fun i => (i.zero, i.size, i.bytes)) = some (some (.slice none 0 0), 1, 24) := by kernel_rfl

end Go.Proofs.Ytnhkclnloiiihaa
