/- Parts of proofs: contracts and plain facts. Conditions: as each says. -/
import Derived.Test.YtopamhcnbocfoaaDoorProg
import Derived.WalkKit
import Derived.WalkSpells
import Derived.WalkLawsBesides
import Derived.Lib.Hide
import Derived.BigQuiet
import Derived.Deep.QuietTactic
import Derived.Test.YtopamhcnbocfoaaDoorRows
import Derived.ProofKit
import Derived.OpenShut
import Derived.ShutString
import Derived.ChangeOld
import Derived.Deep.Matrix
namespace Go.Proofs.YtopamhcnbocfoaaDoor
open Go.RowKit

/-- the number at an index, the row at an index -/
def gi (xs : List Int) (i : Nat) : Int := xs.getD i 0
def gr (m : List (List Int)) (i : Nat) : List Int := m.getD i []

theorem gi_lt {xs : List Int} {i : Nat} (h : i < xs.length) : gi xs i = xs[i] := by simp [gi, List.getD, h]
theorem gr_lt {m : List (List Int)} {i : Nat} (h : i < m.length) : gr m i = m[i] := by simp [gr, List.getD, h]
theorem gi_nil (i : Nat) : gi [] i = 0 := by simp [gi]
theorem gi_cons_zero (x : Int) (xs : List Int) : gi (x :: xs) 0 = x := rfl
theorem gi_cons_succ (x : Int) (xs : List Int) (i : Nat) : gi (x :: xs) (i + 1) = gi xs i := by simp [gi]
theorem gr_cons_zero (x : List Int) (xs : List (List Int)) : gr (x :: xs) 0 = x := rfl
theorem gr_cons_succ (x : List Int) (xs : List (List Int)) (i : Nat) : gr (x :: xs) (i + 1) = gr xs i := by simp [gr]
theorem gi_mem {xs : List Int} {i : Nat} (h : i < xs.length) : gi xs i ∈ xs := by rw [gi_lt h]; exact List.getElem_mem _
theorem gr_mem {m : List (List Int)} {i : Nat} (h : i < m.length) : gr m i ∈ m := by rw [gr_lt h]; exact List.getElem_mem _
theorem gi_set {xs : List Int} {i j : Nat} {x : Int} (h : i < xs.length) : gi (xs.set i x) j = if j = i then x else gi xs j := by
  simp only [gi, List.getD, List.getElem?_set]
  by_cases e : i = j
  · subst e; simp [h]
  · rw [if_neg e, if_neg (fun h => e h.symm)]

theorem ext_gi {xs ys : List Int} (h : xs.length = ys.length) (e : ∀ i, i < xs.length → gi xs i = gi ys i) : xs = ys := by
  apply List.ext_getElem h
  intro i h1 h2
  have := e i h1
  rwa [gi_lt h1, gi_lt h2] at this

theorem ext_gr {xs ys : List (List Int)} (h : xs.length = ys.length) (e : ∀ i, i < xs.length → gr xs i = gr ys i) : xs = ys := by
  apply List.ext_getElem h
  intro i h1 h2
  have := e i h1
  rwa [gr_lt h1, gr_lt h2] at this

/-- the cells at an address read as these integers -/
def IntsAt (w : World) (ao : Option Addr) (xs : List Int) : Prop :=
  ∀ i, i < xs.length → ∃ b o, ao = some ⟨b, o, none⟩ ∧ w.cell? ⟨b, o + i, none⟩ = some (.int .i64 (gi xs i))

/-- the cells at an address lead to these rows -/
def MatAt (w : World) (ao : Option Addr) (m : List (List Int)) : Prop :=
  ∀ i, i < m.length → ∃ b o r c, ao = some ⟨b, o, none⟩ ∧ w.cell? ⟨b, o + i, none⟩ = some (.slice r (gr m i).length c) ∧ IntsAt w r (gr m i) ∧ (gr m i).length ≤ c ∧ c ≤ 9223372036854775807

/-- no more than 2^20 rows, and none longer than that -/
def Small (m : List (List Int)) : Prop := m.length ≤ 1048576 ∧ ∀ i, i < m.length → (gr m i).length ≤ 1048576

/-- each number fits an int -/
def WfI (xs : List Int) : Prop := ∀ i, i < xs.length → -9223372036854775808 ≤ gi xs i ∧ gi xs i ≤ 9223372036854775807
def WfM (m : List (List Int)) : Prop := ∀ i, i < m.length → WfI (gr m i)

theorem cell_below {w w' : World} {a : Addr} {v : Value} (h : w.cell? a = some v) (hb : Below w.heap.size w w') : w'.cell? a = some v := by
  rw [hb.cell (World.block_lt_of_cell? _ _ h)]; exact h

theorem IntsAt.below {w w' : World} {ao : Option Addr} {xs : List Int} (h : IntsAt w ao xs) (hb : Below w.heap.size w w') : IntsAt w' ao xs := by
  intro i hi
  obtain ⟨b, o, e, hc⟩ := h i hi
  exact ⟨b, o, e, cell_below hc hb⟩

theorem MatAt.below {w w' : World} {ao : Option Addr} {m : List (List Int)} (h : MatAt w ao m) (hb : Below w.heap.size w w') : MatAt w' ao m := by
  intro i hi
  obtain ⟨b, o, r, c, e, hc, hr, h1, h2⟩ := h i hi
  exact ⟨b, o, r, c, e, cell_below hc hb, hr.below hb, h1, h2⟩

theorem IntsAt.nil (w : World) (ao : Option Addr) : IntsAt w ao [] := fun i hi => absurd hi (by simp)
theorem MatAt.nil (w : World) (ao : Option Addr) : MatAt w ao [] := fun i hi => absurd hi (by simp)

/-- a call that only reads: the world has drawn, no more -/
def Q (w w' : World) : Prop := ∃ n, w' = w.drewN n
theorem Q.refl (w : World) : Q w w := ⟨0, rfl⟩
theorem Q.trans {a b c : World} (h : Q a b) (k : Q b c) : Q a c := by
  obtain ⟨n, rfl⟩ := h
  obtain ⟨m, rfl⟩ := k
  exact ⟨n + m, World.drewN_drewN _ _ _⟩
theorem Q.drewN {a b : World} (h : Q a b) (n : Nat) : Q a (b.drewN n) := h.trans ⟨n, rfl⟩
theorem Q.drew {a b : World} (h : Q a b) : Q a b.drew := h.trans ⟨1, rfl⟩
theorem Q.below {a b : World} (h : Q a b) (B : Nat) : Below B a b := by
  obtain ⟨n, rfl⟩ := h
  exact below_drewN (Below.refl _ _) n

/-- it returns whether p holds -/
def Ans (p : Prop) (e : Ending) : Prop := ∃ b, e = .returned (.bool b) ∧ (b = true ↔ p)
theorem Ans.yes {p : Prop} (h : p) : Ans p (.returned (.bool true)) := ⟨true, rfl, by simp [h]⟩
theorem Ans.no {p : Prop} (h : ¬ p) : Ans p (.returned (.bool false)) := ⟨false, rfl, by simp [h]⟩
theorem Ans.gives {p : Prop} {e : Ending} (h : Ans p e) : (p ∧ e = .returned (.bool true)) ∨ (¬ p ∧ e = .returned (.bool false)) := by
  obtain ⟨b, rfl, hb⟩ := h
  cases b
  · exact .inr ⟨fun hp => by simpa using hb.2 hp, rfl⟩
  · exact .inl ⟨hb.1 rfl, rfl⟩
theorem Ans.is {p : Prop} {e : Ending} (h : Ans p e) (hp : p) : e = .returned (.bool true) := by
  rcases h.gives with ⟨_, e⟩ | ⟨hn, _⟩
  · exact e
  · exact absurd hp hn
theorem Ans.isnt {p : Prop} {e : Ending} (h : Ans p e) (hp : ¬ p) : e = .returned (.bool false) := by
  rcases h.gives with ⟨hn, _⟩ | ⟨_, e⟩
  · exact absurd hn hp
  · exact e
theorem Ans.iff {p q : Prop} {e : Ending} (h : Ans p e) (hp : p ↔ q) : Ans q e := by
  obtain ⟨b, rfl, hb⟩ := h
  exact ⟨b, rfl, hb.trans hp⟩

/-- a slice of integers that the call owns from block B on -/
def OwnI (w : World) (B : Nat) (v : Value) (xs : List Int) : Prop := w.ownsRow B 3 1 v xs.length (xs.map (Value.int .i64))

/-- a slice of n slices of integers that the call owns from block B on; the first k rows read as those of m; no two of them share a block -/
structure OwnP (w : World) (B : Nat) (v : Value) (n : Nat) (m : List (List Int)) (k : Nat) (vs : List Value) : Prop where
  top : w.ownsRow B 29 1 v n vs
  rows : ∀ i, i < k → OwnI w B (vs.getD i undef) (gr m i)
  apart : ∀ i j, i < j → j < k → ∀ g, (vs.getD i undef).ownBlock = some g → (vs.getD j undef).ownBlock ≠ some g

/-- .. all of them -/
def OwnM (w : World) (B : Nat) (v : Value) (m : List (List Int)) : Prop := ∃ vs, OwnP w B v m.length m m.length vs

theorem ownsRow_below {w w' : World} {B : Nat} {e : TypeId} {v : Value} {n : Nat} {xs : List Value} (h : w.ownsRow B e 1 v n xs) (hb : Below w.heap.size w w') : w'.ownsRow B e 1 v n xs := by
  refine ⟨h.1, ?_⟩
  rcases h.2 with h0 | ⟨g, cap, cur, hv, hg, hh, r⟩
  · exact .inl h0
  · exact .inr ⟨g, cap, cur, hv, hg, by rw [hb.block g (lt_of_block hh)]; exact hh, r⟩

theorem ownsRow_base {w : World} {B B' : Nat} {e : TypeId} {v : Value} {n : Nat} {xs : List Value} (h : w.ownsRow B e 1 v n xs) (hB : B' ≤ B) : w.ownsRow B' e 1 v n xs := by
  refine ⟨h.1, ?_⟩
  rcases h.2 with h0 | ⟨g, cap, cur, hv, hg, r⟩
  · exact .inl h0
  · exact .inr ⟨g, cap, cur, hv, by omega, r⟩

theorem OwnI.below {w w' : World} {B : Nat} {v : Value} {xs : List Int} (h : OwnI w B v xs) (hb : Below w.heap.size w w') : OwnI w' B v xs := ownsRow_below h hb
theorem OwnI.base {w : World} {B B' : Nat} {v : Value} {xs : List Int} (h : OwnI w B v xs) (hB : B' ≤ B) : OwnI w B' v xs := ownsRow_base h hB

theorem OwnP.below {w w' : World} {B n k : Nat} {v : Value} {m : List (List Int)} {vs : List Value} (h : OwnP w B v n m k vs) (hb : Below w.heap.size w w') : OwnP w' B v n m k vs :=
  ⟨ownsRow_below h.top hb, fun i hi => (h.rows i hi).below hb, h.apart⟩
theorem OwnP.base {w : World} {B B' n k : Nat} {v : Value} {m : List (List Int)} {vs : List Value} (h : OwnP w B v n m k vs) (hB : B' ≤ B) : OwnP w B' v n m k vs :=
  ⟨ownsRow_base h.top hB, fun i hi => (h.rows i hi).base hB, h.apart⟩
theorem OwnM.below {w w' : World} {B : Nat} {v : Value} {m : List (List Int)} (h : OwnM w B v m) (hb : Below w.heap.size w w') : OwnM w' B v m := ⟨_, h.choose_spec.below hb⟩
theorem OwnM.base {w : World} {B B' : Nat} {v : Value} {m : List (List Int)} (h : OwnM w B v m) (hB : B' ≤ B) : OwnM w B' v m := ⟨_, h.choose_spec.base hB⟩

/-- what is owned reads so -/
theorem ownsRow_read {w : World} {B : Nat} {e : TypeId} {v : Value} {n : Nat} {xs : List Value} (h : w.ownsRow B e 1 v n xs) :
    ∃ ao c, v = .slice ao n c ∧ n ≤ c ∧ c ≤ 9223372036854775807 ∧ ∀ i, i < n → ∃ b o, ao = some ⟨b, o, none⟩ ∧ w.cell? ⟨b, o + i, none⟩ = some (xs.getD i undef) := by
  rcases h.2 with ⟨rfl, h0⟩ | ⟨g, cap, cur, rfl, hg, hh, hn, hm, hs, ht⟩
  · exact ⟨none, 0, by rw [h0], by omega, by omega, fun i hi => absurd hi (by omega)⟩
  · refine ⟨some ⟨g, 0, none⟩, cap, rfl, hn, hm, fun i hi => ⟨g, 0, rfl, ?_⟩⟩
    have hx := h.cellAt i (by omega)
    have hl := h.1
    rw [Nat.zero_add, hx, List.getD, List.getElem?_eq_getElem (by omega)]
    rfl

theorem OwnI.read {w : World} {B : Nat} {v : Value} {xs : List Int} (h : OwnI w B v xs) : ∃ ao c, v = .slice ao xs.length c ∧ xs.length ≤ c ∧ c ≤ 9223372036854775807 ∧ IntsAt w ao xs := by
  obtain ⟨ao, c, hv, h1, h2, hc⟩ := ownsRow_read h
  refine ⟨ao, c, hv, h1, h2, fun i hi => ?_⟩
  obtain ⟨b, o, e, hcell⟩ := hc i hi
  refine ⟨b, o, e, ?_⟩
  rw [hcell]
  simp [gi, List.getD, hi]

theorem OwnM.read {w : World} {B : Nat} {v : Value} {m : List (List Int)} (h : OwnM w B v m) : ∃ ao c, v = .slice ao m.length c ∧ m.length ≤ c ∧ c ≤ 9223372036854775807 ∧ MatAt w ao m := by
  obtain ⟨vs, h⟩ := h
  obtain ⟨ao, c, hv, h1, h2, hc⟩ := ownsRow_read h.top
  refine ⟨ao, c, hv, h1, h2, fun i hi => ?_⟩
  obtain ⟨b, o, e, hcell⟩ := hc i hi
  obtain ⟨r, c', hr, h3, h4, hx⟩ := (h.rows i hi).read
  exact ⟨b, o, r, c', e, by rw [hcell, hr], hx, h3, h4⟩

theorem OwnI.nil (w : World) (B : Nat) : OwnI w B (.slice none 0 0) [] := World.ownsRow_nil _ _ _ _
theorem OwnM.nil (w : World) (B : Nat) : OwnM w B (.slice none 0 0) [] := ⟨[], World.ownsRow_nil _ _ _ _, fun i hi => absurd hi (by simp), fun i j _ hj => absurd hj (by simp)⟩

theorem OwnI.len {w : World} {B n c : Nat} {ao : Option Addr} {xs : List Int} (h : OwnI w B (.slice ao n c) xs) : xs.length = n := by
  rcases h.2 with ⟨h0, h1⟩ | ⟨g, cap, cur, hv, _⟩
  · simp only [Value.slice.injEq] at h0; omega
  · simp only [Value.slice.injEq] at hv; omega

/-- a store into an owned slice of integers -/
theorem OwnI.store {w : World} {B g n c : Nat} {xs : List Int} (h : OwnI w B (.slice (some ⟨g, 0, none⟩) n c) xs) (i : Nat) (x : Int) :
    OwnI (w.setCell ⟨g, i, none⟩ (.int .i64 x)) B (.slice (some ⟨g, 0, none⟩) n c) (xs.set i x) := by
  have hl := h.len
  subst hl
  have := (World.ownsRow.stored h i (.int .i64 x)).1
  unfold OwnI
  rw [List.length_set, List.map_set]
  exact this

theorem OwnI.cellAt {w : World} {B g n c : Nat} {xs : List Int} (h : OwnI w B (.slice (some ⟨g, 0, none⟩) n c) xs) (i : Nat) (hi : i < n) : w.cell? ⟨g, i, none⟩ = some (.int .i64 (gi xs i)) := by
  have hl := h.len
  subst hl
  rw [World.ownsRow.cellAt h i (by omega)]
  simp [gi, List.getD, hi]

theorem OwnI.frozenAt {w : World} {B g n c : Nat} {xs : List Int} (h : OwnI w B (.slice (some ⟨g, 0, none⟩) n c) xs) (i : Nat) : w.frozen? ⟨g, i, none⟩ = false := by
  have hl := h.len
  subst hl
  exact World.ownsRow.frozenAt h i

/-- a write elsewhere -/
theorem OwnI.setOther {w : World} {B : Nat} {v : Value} {xs : List Int} (h : OwnI w B v xs) {a : Addr} (ha : v.ownBlock ≠ some a.block) (u : Value) : OwnI (w.setCell a u) B v xs := ownsRow_setCell_other h ha u

/-- the block of an owned slice -/
theorem OwnI.lt {w : World} {B : Nat} {v : Value} {xs : List Int} (h : OwnI w B v xs) : ∀ k, v.ownBlock = some k → B ≤ k ∧ k < w.heap.size := World.ownsRow.lt h

/-- where it has an element it lies at the head of a block -/
theorem OwnI.isAt {w : World} {B n c : Nat} {ao : Option Addr} {xs : List Int} (h : OwnI w B (.slice ao n c) xs) (hn : 0 < n) : ∃ g, ao = some ⟨g, 0, none⟩ ∧ B ≤ g ∧ g < w.heap.size := by
  have hlt := OwnI.lt h
  rcases h.2 with ⟨h0, h1⟩ | ⟨g, cap, cur, hv, hg, _⟩
  · simp only [Value.slice.injEq] at h0; omega
  · simp only [Value.slice.injEq] at hv
    obtain ⟨rfl, _⟩ := hv
    exact ⟨g, rfl, hlt g rfl⟩

/-- nothing but blocks of S has been written; no block is new -/
structure OnlyW (S : Nat → Prop) (w w' : World) : Prop where
  os : w'.os = w.os
  tape : w'.tape = w.tape
  output : w'.output = w.output
  size : w'.heap.size = w.heap.size
  block : ∀ k, ¬ S k → w'.heap[k]? = w.heap[k]?

theorem OnlyW.refl (S : Nat → Prop) (w : World) : OnlyW S w w := ⟨rfl, rfl, rfl, rfl, fun _ _ => rfl⟩
theorem OnlyW.trans {S : Nat → Prop} {a b c : World} (h : OnlyW S a b) (k : OnlyW S b c) : OnlyW S a c :=
  ⟨k.os.trans h.os, k.tape.trans h.tape, k.output.trans h.output, k.size.trans h.size, fun i hi => (k.block i hi).trans (h.block i hi)⟩
theorem OnlyW.mono {S T : Nat → Prop} {a b : World} (h : OnlyW S a b) (e : ∀ k, S k → T k) : OnlyW T a b := ⟨h.os, h.tape, h.output, h.size, fun k hk => h.block k (fun hs => hk (e k hs))⟩
theorem OnlyW.setCell {S : Nat → Prop} {a w : World} (h : OnlyW S a w) {p : Addr} (hp : S p.block) (u : Value) : OnlyW S a (w.setCell p u) :=
  h.trans ⟨rfl, rfl, rfl, by simp [World.setCell], fun k hk => Below.heap_setCell _ _ _ _ (fun e => hk (e ▸ hp))⟩
theorem OnlyW.below {S : Nat → Prop} {a b : World} (h : OnlyW S a b) {B : Nat} (hS : ∀ k, S k → B ≤ k) : Below B a b :=
  ⟨h.os, h.tape, h.output, Nat.le_of_eq h.size.symm, fun k hk => h.block k (fun hs => by have := hS k hs; omega)⟩

theorem ownsRow_only {w w' : World} {S : Nat → Prop} {B : Nat} {e : TypeId} {v : Value} {n : Nat} {xs : List Value} (h : w.ownsRow B e 1 v n xs) (ho : OnlyW S w w') (hS : ∀ g, v.ownBlock = some g → ¬ S g) : w'.ownsRow B e 1 v n xs := by
  refine ⟨h.1, ?_⟩
  rcases h.2 with h0 | ⟨g, cap, cur, rfl, hg, hh, r⟩
  · exact .inl h0
  · exact .inr ⟨g, cap, cur, rfl, hg, by rw [ho.block g (hS g rfl)]; exact hh, r⟩

/-- what make lays -/
theorem OwnI.made {w : World} {B g n : Nat} (h : w.ownsRow B 3 1 (.slice (some ⟨g, 0, none⟩) n n) n (madeCells #[Value.int .i64 0] n).toList) :
    OwnI w B (.slice (some ⟨g, 0, none⟩) n n) (List.replicate n 0) := by
  unfold OwnI
  rw [List.length_replicate, List.map_replicate, ← toList_madeCells_one]
  exact h

/-- the block of a row is not that of the rows' own slice: their elements differ -/
theorem OwnI.ne_top {w : World} {B g : Nat} {v : Value} {xs : List Int} (h : OwnI w B v xs) {cur : Array Value} {q : Nat × Nat} (hg : w.heap[g]? = some (.cells cur 29 q)) : v.ownBlock ≠ some g := by
  rcases h.2 with ⟨rfl, _⟩ | ⟨g', cap, cur', rfl, _, hh, _⟩
  · simp [Value.ownBlock]
  · intro e
    simp only [Value.ownBlock, Option.some.injEq] at e
    subst e
    rw [hg] at hh
    simp at hh

theorem OwnI.ne_row {w : World} {B B' n : Nat} {v u : Value} {xs : List Int} {vs : List Value} (h : OwnI w B v xs) (ht : w.ownsRow B' 29 1 u n vs) : ∀ g, v.ownBlock = some g → u.ownBlock ≠ some g := by
  intro g hg hu
  rcases ht.2 with ⟨rfl, _⟩ | ⟨g', cap, cur', rfl, _, hh, _⟩
  · simp [Value.ownBlock] at hu
  · simp only [Value.ownBlock, Option.some.injEq] at hu
    subst hu
    exact h.ne_top hh hg

theorem ownsRow_block {w : World} {B g n c : Nat} {e : TypeId} {vs : List Value} (h : w.ownsRow B e 1 (.slice (some ⟨g, 0, none⟩) n c) n vs) : ∃ cur, w.heap[g]? = some (.cells cur e (0, 0)) := by
  rcases h.2 with ⟨h0, _⟩ | ⟨g', cap, cur, hv, _, hh, _⟩
  · simp at h0
  · simp only [Value.slice.injEq, Option.some.injEq, Addr.mk.injEq, and_true, true_and] at hv
    obtain ⟨rfl, _⟩ := hv
    exact ⟨cur, hh⟩

/-- a row is stored: the k-th -/
theorem OwnP.put {w : World} {B g n c k : Nat} {m : List (List Int)} {vs : List Value} {v : Value} (h : OwnP w B (.slice (some ⟨g, 0, none⟩) n c) n m k vs) (hk : k < n) (hv : OwnI w B v (gr m k))
    (hne : ∀ j, j < k → ∀ g', (vs.getD j undef).ownBlock = some g' → v.ownBlock ≠ some g') :
    OwnP (w.setCell ⟨g, k, none⟩ v) B (.slice (some ⟨g, 0, none⟩) n c) n m (k + 1) (vs.set k v) := by
  obtain ⟨cur, hcur⟩ := ownsRow_block h.top
  have hl : vs.length = n := by simpa using h.top.1
  have hget : ∀ j, j < k + 1 → (vs.set k v).getD j undef = if j = k then v else vs.getD j undef := by
    intro j hj
    simp only [List.getD, List.getElem?_set]
    by_cases e : k = j
    · subst e; rw [if_pos rfl, if_pos rfl, if_pos (by omega)]; rfl
    · rw [if_neg e, if_neg (fun h => e h.symm)]
  refine ⟨(World.ownsRow.stored h.top k v).1, fun i hi => ?_, fun i j hij hj g' hg' => ?_⟩
  · rw [hget i hi]
    split
    · next e => subst e; exact hv.setOther (hv.ne_top hcur) _
    · next e => exact (h.rows i (by omega)).setOther ((h.rows i (by omega)).ne_top hcur) _
  · rw [hget i (by omega), if_neg (by omega)] at hg'
    rw [hget j hj]
    split
    · next e => exact hne i (by omega) g' hg'
    · next e => exact h.apart i j hij (by omega) g' hg'

/-- what make lays for rows -/
theorem OwnP.made {w : World} {B g n : Nat} {m : List (List Int)} (h : w.ownsRow B 29 1 (.slice (some ⟨g, 0, none⟩) n n) n (madeCells #[Value.slice none 0 0] n).toList) :
    OwnP w B (.slice (some ⟨g, 0, none⟩) n n) n m 0 (madeCells #[Value.slice none 0 0] n).toList :=
  ⟨h, fun i hi => absurd hi (by omega), fun i j _ hj => absurd hj (by omega)⟩

theorem OwnP.cellAt {w : World} {B g n c k : Nat} {m : List (List Int)} {vs : List Value} (h : OwnP w B (.slice (some ⟨g, 0, none⟩) n c) n m k vs) (i : Nat) (hi : i < n) : w.cell? ⟨g, i, none⟩ = some (vs.getD i undef) := by
  have hl : vs.length = n := by simpa using h.top.1
  rw [World.ownsRow.cellAt h.top i (by omega), List.getD, List.getElem?_eq_getElem (by omega)]
  rfl

/-- a row of blocks not below that of any row before -/
theorem OwnP.fresh {w : World} {B n k B' : Nat} {v u : Value} {m : List (List Int)} {vs : List Value} {xs : List Int} {w' : World} (h : OwnP w B v n m k vs) (hu : OwnI w' B' u xs) (hB : w.heap.size ≤ B') :
    ∀ j, j < k → ∀ g', (vs.getD j undef).ownBlock = some g' → u.ownBlock ≠ some g' := by
  intro j hj g' hg' hu'
  have h1 := (h.rows j hj).lt g' hg'
  have h2 := hu.lt g' hu'
  omega

/-- a number has been appended -/
theorem OwnI.snoc {w w1 : World} {B : Nat} {v v' : Value} {xs : List Int} {x : Int} {o : Obj} (h : OwnI w B v xs) (hB : B ≤ w.heap.size)
    (h1 : w1.ownsRow B 3 1 v' (xs.length + 1) (xs.map (Value.int .i64) ++ [.int .i64 x])) (hg : (w.alloc o).grownBy w1 v.ownBlock) : OwnI w1 B v' (xs ++ [x]) ∧ Below B w w1 := by
  refine ⟨by unfold OwnI; rw [List.length_append, List.map_append]; exact h1, ?_⟩
  refine Below.grown ((Below.refl B w).alloc hB o) hg (by simp; omega) (fun k hk => (h.lt k hk).1)

/-- a row has been appended -/
theorem OwnP.snoc {w w1 : World} {B k : Nat} {v v' u : Value} {m : List (List Int)} {vs : List Value} {o : Obj} (h : OwnP w B v k m k vs) (hB : B ≤ w.heap.size) (hu : OwnI w B u (gr m k))
    (hne : ∀ j, j < k → ∀ g, (vs.getD j undef).ownBlock = some g → u.ownBlock ≠ some g)
    (h1 : w1.ownsRow B 29 1 v' (k + 1) (vs ++ [u])) (hg : (w.alloc o).grownBy w1 v.ownBlock) : OwnP w1 B v' (k + 1) m (k + 1) (vs ++ [u]) ∧ Below B w w1 := by
  have hl : vs.length = k := by simpa using h.top.1
  have hget : ∀ j, j < k + 1 → (vs ++ [u]).getD j undef = if j = k then u else vs.getD j undef := by
    intro j hj
    simp only [List.getD]
    split
    · next e => subst e; rw [List.getElem?_append_right (by omega), hl]; simp
    · next e => rw [List.getElem?_append_left (by omega)]
  have kept : ∀ (x : Value) (ys : List Int), OwnI w B x ys → OwnI w1 B x ys := by
    intro x ys hx
    refine (World.ownsRow.alloc hx o).kept hg ?_
    cases hb : x.ownBlock with
    | none => exact .inl rfl
    | some g => exact .inr (fun e => hx.ne_row h.top g hb e.symm)
  refine ⟨⟨h1, fun i hi => ?_, fun i j hij hj g hg' => ?_⟩, Below.grown ((Below.refl B w).alloc hB o) hg (by simp; omega) (fun k hk => (World.ownsRow.lt h.top k hk).1)⟩
  · rw [hget i hi]
    split
    · next e => subst e; exact kept _ _ hu
    · next e => exact kept _ _ (h.rows i (by omega))
  · rw [hget i (by omega), if_neg (by omega)] at hg'
    rw [hget j hj]
    split
    · next e => exact hne i (by omega) g hg'
    · next e => exact h.apart i j hij (by omega) g hg'

theorem one_new {w : World} {o : Obj} {x : Value} {e : TypeId} (ho : o = .cells #[x] e) : ∀ j u, [x][j]? = some u → (w.alloc o).cell? ((⟨w.heap.size, 0, none⟩ : Addr).add j) = some u := by
  subst ho
  exact cell_one_new _ _ _

theorem Tryd.info_int : (Tryd.prog.info? 3).map (fun i => (i.zero, i.size, i.bytes)) = some (some (.int .i64 0), 1, 8) := by kernel_rfl
theorem Tryd.info_ints : (Tryd.prog.info? 29).map (fun i => (i.zero, i.size, i.bytes)) = some (some (.slice none 0 0), 1, 24) := by kernel_rfl

end Go.Proofs.YtopamhcnbocfoaaDoor

namespace Go.Proofs.YtopamhcnbocfoaaDoor
open Go.ChangeShapes Go.WideShapes Go.ChangeAt Go.RowKit Go.Deep

theorem Tryd.own : ownKnob Tryd.prog.godebug = none := by kernel_rfl
theorem Tryd.laidOut : laidOutB Tryd.prog = true := by kernel_rfl
theorem Tryd.cells_int : Tryd.prog.cellsOf 3 = 1 := by kernel_rfl
theorem Tryd.cells_ints : Tryd.prog.cellsOf 29 = 1 := by kernel_rfl

theorem at_zero {w : World} {a : Addr} {v : Value} (h : w.cell? (a.add 0) = some v) : ∃ b o, a = ⟨b, o, none⟩ := by
  have hs := World.cell?_spot h
  obtain ⟨b, o, s⟩ := a
  exact ⟨b, o, by simpa [Addr.add] using hs⟩

/-- a slice of integers that came in -/
theorem open_ints_arg {H : Type} {enc : TypeId × Value → H} {w : World} {ao : Option Addr} {n c : Nat} {d : DataW H} {p : List MemPlace}
    (h : DataW.Trod enc Tryd.prog w 0 (fun _ => true) true 29 (.slice ao n c) d p) :
    ∃ xs : List Int, xs.length = n ∧ n ≤ 9223372036854775807 ∧ WfI xs ∧ IntsAt w ao xs := by
  obtain ⟨fuel, hf⟩ := h
  rcases open_ints Tryd.underlying29 Tryd.underlying3 Tryd.cells_int hf with ⟨hcs, _⟩ | ⟨x, l, c', zs, hcs, _, hl, hm, hz, _, hcell, hwz⟩
  · simp [Value.cells] at hcs
    obtain ⟨rfl, rfl, rfl⟩ := hcs
    exact ⟨[], rfl, by omega, fun i hi => absurd hi (by simp), IntsAt.nil _ _⟩
  · simp [Value.cells] at hcs
    obtain ⟨rfl, rfl, rfl⟩ := hcs
    simp only [if_true] at hz
    have hlen : (zs.take n).length = n := by rw [List.length_take]; omega
    have hgi : ∀ i, i < n → gi (zs.take n) i = zs.getD i 0 := fun i hi => by simp [gi, List.getD, hi]
    have hm' : c ≤ 9223372036854775807 := by simpa [maxLen] using hm
    refine ⟨zs.take n, hlen, by omega, fun i hi => ?_, fun i hi => ?_⟩
    · rw [hlen] at hi
      rw [hgi i hi]
      exact range_i64 hwz i
    · rw [hlen] at hi
      have hc := hcell i (by omega)
      obtain ⟨b, o, rfl⟩ := at_zero (hcell 0 (by omega))
      rw [Addr.add_lit] at hc
      exact ⟨b, o, rfl, by rw [hgi i hi]; exact hc⟩

/-- a slice of slices of integers that came in -/
theorem open_mat_arg {H : Type} {enc : TypeId × Value → H} {w : World} {ao : Option Addr} {n c : Nat} {d : DataW H} {p : List MemPlace}
    (h : DataW.Trod enc Tryd.prog w 0 (fun _ => true) true 22 (.slice ao n c) d p) :
    ∃ m : List (List Int), m.length = n ∧ n ≤ 9223372036854775807 ∧ WfM m ∧ (∀ i, i < m.length → (gr m i).length ≤ 9223372036854775807) ∧ MatAt w ao m := by
  obtain ⟨fuel, hf⟩ := h
  rcases open_int_rows Tryd.underlying22 Tryd.underlying29 Tryd.underlying3 Tryd.cells_ints Tryd.cells_int hf with ⟨hcs, _⟩ | ⟨x, l, c', A, L, C, Z, hcs, _, hl, hm, _, hrows⟩
  · simp [Value.cells] at hcs
    obtain ⟨rfl, rfl, rfl⟩ := hcs
    exact ⟨[], rfl, by omega, fun i hi => absurd hi (by simp), fun i hi => absurd hi (by simp), MatAt.nil _ _⟩
  · simp [Value.cells] at hcs
    obtain ⟨rfl, rfl, rfl⟩ := hcs
    have hm' : c ≤ 9223372036854775807 := by simpa [maxLen] using hm
    obtain ⟨m, hmd⟩ : ∃ m : List (List Int), m = (List.range n).map fun r => (Z r).take (L r) := ⟨_, rfl⟩
    have hlen : m.length = n := by rw [hmd]; simp
    have hgr : ∀ r, r < n → gr m r = (Z r).take (L r) := fun r hr => by rw [gr_lt (by omega)]; simp [hmd]
    have hL : ∀ r, r < n → (gr m r).length = L r ∧ L r ≤ C r ∧ C r ≤ 9223372036854775807 ∧ ∀ i, i < L r → gi (gr m r) i = (Z r).getD i 0 := by
      intro r hr
      obtain ⟨_, h1, h2, h3, _⟩ := hrows r (by omega)
      rw [hgr r hr]
      exact ⟨by rw [List.length_take]; omega, h1, by simpa [maxLen] using h2, fun i hi => by simp [gi, List.getD, hi]⟩
    refine ⟨m, hlen, by omega, fun r hr i hi => ?_, fun r hr => ?_, fun r hr => ?_⟩
    · rw [hlen] at hr
      obtain ⟨e, _, _, hg⟩ := hL r hr
      rw [e] at hi
      rw [hg i hi]
      exact range_i64 (hrows r (by omega)).2.2.2.2.1 i
    · rw [hlen] at hr
      obtain ⟨e, h1, h2, _⟩ := hL r hr
      omega
    · rw [hlen] at hr
      obtain ⟨e, h1, h2, hg⟩ := hL r hr
      obtain ⟨hc, _, _, hz, _, hnil, hcell⟩ := hrows r (by omega)
      obtain ⟨b, o, rfl⟩ := at_zero (hrows 0 (by omega)).1
      rw [Addr.add_lit] at hc
      refine ⟨b, o, A r, C r, rfl, by rw [e]; exact hc, fun i hi => ?_, by omega, h2⟩
      rw [e] at hi
      cases hA : A r with
      | none => have := hnil hA; omega
      | some a' =>
        have hc' := (hcell a' hA).2 i (by omega)
        obtain ⟨b', o', rfl⟩ := at_zero ((hcell a' hA).2 0 (by omega))
        rw [Addr.add_lit] at hc'
        exact ⟨b', o', rfl, by rw [hg i hi]; exact hc'⟩
end Go.Proofs.YtopamhcnbocfoaaDoor

namespace Go.Proofs.YtopamhcnbocfoaaDoor
open Go.RowKit

def szL (left : Int) (n : Nat) : Int := if left - n < 0 then -1 else left - n

set_option maxRecDepth 100000 in
set_option maxHeartbeats 400000 in
theorem szIntS_any (ao : Option Addr) (n c : Nat) (left : Int) (w : World) (hn : n ≤ 9223372036854775807) (h0 : 0 ≤ left) (h1 : left ≤ 1048576) :
    Calls Tryd.prog 20 #[.slice ao n c, .int .i64 left] w fun e w' => e = .returned (.int .i64 (szL left n)) ∧ w = w' := by
  unfold szL
  by_cases h : left - n < 0
  · rw [if_pos h]
    go_enter Tryd.func20, Tryd.ntmps20
    go_wp2
    go_ret
    exact ⟨rfl, rfl⟩
  · rw [if_neg h]
    go_enter Tryd.func20, Tryd.ntmps20
    go_wp2
    go_ret
    exact ⟨rfl, rfl⟩

-- toIntS: a copy
set_option maxRecDepth 100000 in
set_option maxHeartbeats 400000 in
theorem toIntS_any (ao : Option Addr) (c : Nat) (xs : List Int) (w : World) (hn : xs.length ≤ 1048576) (hx : IntsAt w ao xs) :
    Calls Tryd.prog 23 #[.slice ao xs.length c] w fun e w' => ∃ v, e = .returned v ∧ OwnI w' w.heap.size v xs ∧ Below w.heap.size w w' := by
  obtain ⟨i0, hi, hz0, hz1, hz2⟩ := info_parts Tryd.info_int
  have hmx : xs.length ≤ 9223372036854775807 := by omega
  go_enter Tryd.func23, Tryd.ntmps23
  go_wp2_with (at_make; refine wpList_make_full _ rfl _ _ 29 rfl w.heap.size 3 i0 (.int .i64 0) 1 Tryd.underlying29 hi hz0 hz1 _ _ _ _ xs.length rfl rfl rfl rfl ?c1 ?c2 ?c3 ?_)
  case c1 => rw [hz2]; omega
  case c2 => unfold maxLen; omega
  case c3 => simp
  intro w1 hown hg
  have hb1 : Below w.heap.size w w1 := (Below.refl _ _).grown hg (Nat.le_refl _) (fun _ h => by cases h)
  have hx1 := hx.below hb1
  have hown1 := OwnI.made hown
  clear hown hg
  go_wp2
  go_loopw [4] (fun i wr => ∃ (k : Nat) (ys : List Int), k ≤ xs.length ∧ i = .int .i64 k ∧ OwnI wr w.heap.size (.slice (some ⟨w.heap.size, 0, none⟩) xs.length xs.length) ys ∧ (∀ j, j < k → gi ys j = gi xs j) ∧ Below w.heap.size w wr)
    (fun i _ => xs.length - (intOf i).toNat)
  case atStart => exact ⟨0, _, Nat.zero_le _, rfl, hown1, fun j hj => absurd hj (by omega), hb1⟩
  case round =>
    obtain ⟨k, ys, hk, rfl, hown, heq, hbr⟩ := hrel
    clear hx1 hown1 hb1
    by_cases hlt : k < xs.length
    · obtain ⟨b, o, rfl, hc⟩ := hx.below hbr k hlt
      have hd := hown.cellAt k hlt
      have hf := hown.frozenAt k
      have Hst := Lib.hid (hown.store k (gi xs k))
      have Hl := Lib.hid hown.len
      have Heq := Lib.hid heq
      have Hbs := Lib.hid (hbr.setCell (p := ⟨w.heap.size, k, none⟩) (Nat.le_refl _) (.int .i64 (gi xs k)))
      clear heq hown hx
      go_wp2
      go_roundw
      case rel =>
        refine ⟨k + 1, _, by omega, by go_num, Hst.out, fun j hj => ?_, Hbs.out⟩
        rw [gi_set (by rw [Hl.out]; exact hlt)]
        split
        · next e => rw [e]
        · exact Heq.out j (by omega)
      case measure => simp [intOf]; omega
    · obtain rfl : k = xs.length := by omega
      go_wp2
      go_ret
      obtain rfl : ys = xs := ext_gi hown.len (fun j hj => heq j (by rw [hown.len] at hj; exact hj))
      exact ⟨_, rfl, hown, hbr⟩

-- toIntSS: a copy, row by row
set_option maxRecDepth 100000 in
set_option maxHeartbeats 400000 in
theorem toIntSS_any (ao : Option Addr) (c : Nat) (m : List (List Int)) (w : World) (hs : Small m) (hm : MatAt w ao m) :
    Calls Tryd.prog 8 #[.slice ao m.length c] w fun e w' => ∃ v, e = .returned v ∧ OwnM w' w.heap.size v m ∧ Below w.heap.size w w' := by
  obtain ⟨i0, hi, hz0, hz1, hz2⟩ := info_parts Tryd.info_ints
  obtain ⟨hn, hrow⟩ := hs
  have hmx : m.length ≤ 9223372036854775807 := by omega
  go_enter Tryd.func8, Tryd.ntmps8
  go_wp2_with (at_make; refine wpList_make_full _ rfl _ _ 22 rfl w.heap.size 29 i0 (.slice none 0 0) 1 Tryd.underlying22 hi hz0 hz1 _ _ _ _ m.length rfl rfl rfl rfl ?c1 ?c2 ?c3 ?_)
  case c1 => rw [hz2]; omega
  case c2 => unfold maxLen; omega
  case c3 => simp
  intro w1 hown hg
  have hb1 : Below w.heap.size w w1 := (Below.refl _ _).grown hg (Nat.le_refl _) (fun _ h => by cases h)
  have hown1 := OwnP.made (m := m) hown
  clear hown hg
  go_wp2
  go_loopw [4] (fun i wr => ∃ (k : Nat) (vs : List Value), k ≤ m.length ∧ i = .int .i64 k ∧ OwnP wr w.heap.size (.slice (some ⟨w.heap.size, 0, none⟩) m.length m.length) m.length m k vs ∧ Below w.heap.size w wr)
    (fun i _ => m.length - (intOf i).toNat)
  case atStart => exact ⟨0, _, Nat.zero_le _, rfl, hown1, hb1⟩
  case round =>
    obtain ⟨k, vs, hk, rfl, hown, hbr⟩ := hrel
    clear hown1 hb1
    by_cases hlt : k < m.length
    · obtain ⟨b, o, r, c', rfl, hc, hr, hc1, hc2⟩ := hm.below hbr k hlt
      have hrl := hrow k hlt
      have hB := hbr.size
      obtain ⟨cur, hcur⟩ := ownsRow_block hown.top
      have hgl := lt_of_block hcur
      have Hown := Lib.hid hown
      have Hcur := Lib.hid hcur
      have Hm := Lib.hid hm
      have Hrow := Lib.hid hrow
      clear hown hm hrow hcur
      go_wp2_with fail
      refine (toIntS_any r c' (gr m k) wr hrl hr).mono ?_
      rintro e w2 ⟨v, rfl, hv, hb2⟩
      have hown2 := Hown.out.below hb2
      have hd := hown2.cellAt k hlt
      have hf : w2.frozen? ⟨w.heap.size, k, none⟩ = false := World.ownsRow.frozenAt hown2.top k
      have Hput := Lib.hid (hown2.put hlt (hv.base hB) (Hown.out.fresh hv (Nat.le_refl _)))
      have Hbs := Lib.hid ((hbr.trans (hb2.mono hB)).setCell (p := ⟨w.heap.size, k, none⟩) (Nat.le_refl _) v)
      obtain ⟨rv, cv, rfl, _, _, _⟩ := hv.read
      clear hown2 hv hb2
      go_wp2
      go_roundw
      case rel => exact ⟨k + 1, _, by omega, by go_num, Hput.out, Hbs.out⟩
      case measure => simp [intOf]; omega
    · obtain rfl : k = m.length := by omega
      go_wp2
      go_ret
      exact ⟨_, rfl, ⟨_, hown⟩, hbr⟩
end Go.Proofs.YtopamhcnbocfoaaDoor

namespace Go.Proofs.YtopamhcnbocfoaaDoor
open Go.RowKit

-- eqIntS at equal lists
set_option maxRecDepth 100000 in
set_option maxHeartbeats 400000 in
theorem eqIntS_same (a1 a2 : Option Addr) (c1 c2 : Nat) (xs : List Int) (w : World) (hn : xs.length ≤ 1048576) (h1 : IntsAt w a1 xs) (h2 : IntsAt w a2 xs) :
    Calls Tryd.prog 15 #[.slice a1 xs.length c1, .slice a2 xs.length c2] w fun e w' => e = .returned (.bool true) ∧ Q w w' := by
  have hmx : xs.length ≤ 9223372036854775807 := by omega
  go_enter Tryd.func15, Tryd.ntmps15
  go_wp2
  go_loopw [5] (fun i wr => ∃ k : Nat, k ≤ xs.length ∧ i = .int .i64 k ∧ Q w wr) (fun i _ => xs.length - (intOf i).toNat)
  case atStart => exact ⟨0, Nat.zero_le _, rfl, Q.refl _⟩
  case round =>
    obtain ⟨k, hk, rfl, hbr⟩ := hrel
    by_cases hlt : k < xs.length
    · obtain ⟨b1, o1, rfl, hc1⟩ := h1.below (hbr.below _) k hlt
      obtain ⟨b2, o2, rfl, hc2⟩ := h2.below (hbr.below _) k hlt
      clear h1 h2
      go_wp2
      go_quiet (fail)
      go_wp2
      go_roundw
      case rel => exact ⟨k + 1, by omega, by go_num, hbr.drewN _⟩
      case measure => simp [intOf]; omega
    · go_wp2
      go_ret
      exact ⟨rfl, hbr⟩

-- eqIntSS at equal lists
set_option maxRecDepth 100000 in
set_option maxHeartbeats 400000 in
theorem eqIntSS_same (a1 a2 : Option Addr) (c1 c2 : Nat) (m : List (List Int)) (w : World) (hs : Small m) (h1 : MatAt w a1 m) (h2 : MatAt w a2 m) :
    Calls Tryd.prog 10 #[.slice a1 m.length c1, .slice a2 m.length c2] w fun e w' => e = .returned (.bool true) ∧ Q w w' := by
  obtain ⟨hn, hrow⟩ := hs
  have hmx : m.length ≤ 9223372036854775807 := by omega
  go_enter Tryd.func10, Tryd.ntmps10
  go_wp2
  go_loopw [5] (fun i wr => ∃ k : Nat, k ≤ m.length ∧ i = .int .i64 k ∧ Q w wr) (fun i _ => m.length - (intOf i).toNat)
  case atStart => exact ⟨0, Nat.zero_le _, rfl, Q.refl _⟩
  case round =>
    obtain ⟨k, hk, rfl, hbr⟩ := hrel
    by_cases hlt : k < m.length
    · obtain ⟨b1, o1, r1, d1, rfl, hc1, hx1, _, _⟩ := h1.below (hbr.below _) k hlt
      obtain ⟨b2, o2, r2, d2, rfl, hc2, hx2, _, _⟩ := h2.below (hbr.below _) k hlt
      have hrk := hrow k hlt
      have Hx1 := Lib.hid hx1
      have Hx2 := Lib.hid hx2
      clear h1 h2 hx1 hx2 hrow
      go_wp2
      go_quiet ((go_at_call 15; exact Calls.quiet_of (eqIntS_same _ _ _ _ _ _ hrk Hx1.out Hx2.out)))
      go_wp2
      go_roundw
      case rel => exact ⟨k + 1, by omega, by go_num, hbr.drewN _⟩
      case measure => simp [intOf]; omega
    · go_wp2
      go_ret
      exact ⟨rfl, hbr⟩

/-- the numbers k, k + 1, .., n of them -/
def marks (k : Int) (n : Nat) : List Int := (List.range n).map fun i : Nat => k + (i : Int)
theorem marks_len (k : Int) (n : Nat) : (marks k n).length = n := by simp [marks]
theorem gi_marks {k : Int} {n i : Nat} (h : i < n) : gi (marks k n) i = k + i := by
  rw [gi_lt (by rw [marks_len]; exact h)]
  simp [marks]

-- heldIntS where the marks hold
set_option maxRecDepth 100000 in
set_option maxHeartbeats 400000 in
theorem heldIntS_yes (ao : Option Addr) (c : Nat) (n : Nat) (q : Int) (w : World) (hn : n ≤ 1048576) (hq0 : 0 ≤ q) (hq1 : q ≤ 4000000000000) (hx : IntsAt w ao (marks q n)) :
    Calls Tryd.prog 17 #[.slice ao n c, .int .i64 q] w fun e w' => e = .returned (.int .i64 (q + n)) ∧ Q w w' := by
  have hmx : n ≤ 9223372036854775807 := by omega
  go_enter Tryd.func17, Tryd.ntmps17
  go_wp2
  go_loopw [1, 5] (fun kk i wr => ∃ k : Nat, k ≤ n ∧ i = .int .i64 k ∧ kk = .int .i64 (q + k) ∧ Q w wr) (fun _ i _ => n - (intOf i).toNat)
  case atStart => exact ⟨0, Nat.zero_le _, rfl, by simp, Q.refl _⟩
  case round =>
    obtain ⟨k, hk, rfl, rfl, hbr⟩ := hrel
    by_cases hlt : k < n
    · obtain ⟨b1, o1, rfl, hc1⟩ := hx.below (hbr.below _) k (by rw [marks_len]; exact hlt)
      rw [gi_marks hlt] at hc1
      clear hx
      have hb : (q + (k : Int) == q + (k : Int)) = true := by simp
      go_wp2
      go_roundw
      case rel => exact ⟨k + 1, by omega, by go_num, by go_num, hbr⟩
      case measure => simp [intOf]; omega
    · obtain rfl : k = n := by omega
      go_wp2
      go_ret
      exact ⟨rfl, hbr⟩

/-- how many numbers the first k rows hold -/
def tot (m : List (List Int)) : Nat → Nat
  | 0 => 0
  | k + 1 => tot m k + (gr m k).length
theorem tot_le {m : List (List Int)} (hs : Small m) : ∀ k, k ≤ m.length → tot m k ≤ k * 1048576
  | 0, _ => Nat.le_of_eq (by simp [tot])
  | k + 1, h => by
    have h1 := tot_le hs k (by omega)
    have h2 := hs.2 k (by omega)
    simp only [tot]
    omega
theorem tot_big {m : List (List Int)} (hs : Small m) {k : Nat} (h : k ≤ m.length) : tot m k ≤ 1099511627776 := by
  have h1 := tot_le hs k h
  have h2 := hs.1
  have : k * 1048576 ≤ 1048576 * 1048576 := Nat.mul_le_mul_right _ (by omega)
  omega

def markM (q : Int) (m : List (List Int)) : List (List Int) := (List.range m.length).map fun i => marks (q + (tot m i : Int)) (gr m i).length
theorem markM_len (q : Int) (m : List (List Int)) : (markM q m).length = m.length := by simp [markM]
theorem gr_markM {q : Int} {m : List (List Int)} {i : Nat} (h : i < m.length) : gr (markM q m) i = marks (q + (tot m i : Int)) (gr m i).length := by
  rw [gr_lt (by rw [markM_len]; exact h)]
  simp [markM]

-- heldIntSS where the marks hold
set_option maxRecDepth 100000 in
set_option maxHeartbeats 400000 in
theorem heldIntSS_yes (ao : Option Addr) (c : Nat) (m : List (List Int)) (q : Int) (w : World) (hs : Small m) (hq0 : 0 ≤ q) (hq1 : q ≤ 2000000000000) (hx : MatAt w ao (markM q m)) :
    Calls Tryd.prog 12 #[.slice ao m.length c, .int .i64 q] w fun e w' => e = .returned (.int .i64 (q + tot m m.length)) ∧ Q w w' := by
  have hn := hs.1
  have hmx : m.length ≤ 9223372036854775807 := by omega
  go_enter Tryd.func12, Tryd.ntmps12
  go_wp2
  go_loopw [1, 5] (fun kk i wr => ∃ k : Nat, k ≤ m.length ∧ i = .int .i64 k ∧ kk = .int .i64 (q + tot m k) ∧ Q w wr) (fun _ i _ => m.length - (intOf i).toNat)
  case atStart => exact ⟨0, Nat.zero_le _, rfl, by simp [tot], Q.refl _⟩
  case round =>
    obtain ⟨k, hk, rfl, rfl, hbr⟩ := hrel
    by_cases hlt : k < m.length
    · obtain ⟨b1, o1, r1, d1, rfl, hc1, hr1, _, _⟩ := hx.below (hbr.below _) k (by rw [markM_len]; exact hlt)
      rw [gr_markM hlt, marks_len] at hc1
      rw [gr_markM hlt] at hr1
      have h2 := hs.2 k hlt
      have h3 := tot_big hs hk
      have Hs := Lib.hid hs
      clear hx hs
      go_wp2_with fail
      refine (heldIntS_yes r1 d1 (gr m k).length _ wr h2 (by omega) (by omega) hr1).mono ?_
      rintro e w2 ⟨rfl, hb2⟩
      have e1 : q + (tot m k : Int) + ((gr m k).length : Int) = q + (tot m (k + 1) : Int) := by simp only [tot]; omega
      have h4 := tot_big Hs.out (show k + 1 ≤ m.length by omega)
      rw [e1]
      clear e1
      go_wp2
      go_roundw
      case rel => exact ⟨k + 1, by omega, by go_num, rfl, hbr.trans hb2⟩
      case measure => simp [intOf]; omega
    · obtain rfl : k = m.length := by omega
      go_wp2
      go_ret
      exact ⟨rfl, hbr⟩

-- markIntS
set_option maxRecDepth 100000 in
set_option maxHeartbeats 400000 in
theorem markIntS_any (B : Nat) (ao : Option Addr) (c n : Nat) (q : Int) (xs : List Int) (w : World) (hn : n ≤ 1048576) (hq0 : 0 ≤ q) (hq1 : q ≤ 2000000000000) (hx : OwnI w B (.slice ao n c) xs) :
    Calls Tryd.prog 16 #[.slice ao n c, .int .i64 q] w fun e w' => e = .returned (.int .i64 (q + n)) ∧ OwnI w' B (.slice ao n c) (marks q n) ∧ OnlyW (fun g => (Value.slice ao n c).ownBlock = some g) w w' := by
  have hmx : n ≤ 9223372036854775807 := by omega
  have hxl := hx.len
  go_enter Tryd.func16, Tryd.ntmps16
  go_wp2
  go_loopw [1, 5] (fun kk i wr => ∃ (k : Nat) (ys : List Int), k ≤ n ∧ i = .int .i64 k ∧ kk = .int .i64 (q + k) ∧ OwnI wr B (.slice ao n c) ys ∧ (∀ j, j < k → gi ys j = q + j) ∧ OnlyW (fun g => (Value.slice ao n c).ownBlock = some g) w wr)
    (fun _ i _ => n - (intOf i).toNat)
  case atStart => exact ⟨0, xs, Nat.zero_le _, rfl, by simp, hx, fun j hj => absurd hj (by omega), OnlyW.refl _ _⟩
  case round =>
    obtain ⟨k, ys, hk, rfl, rfl, hown, heq, hbr⟩ := hrel
    by_cases hlt : k < n
    · obtain ⟨g, rfl, _, _⟩ := hown.isAt (by omega)
      have hd := hown.cellAt k hlt
      have hf := hown.frozenAt k
      have Hst := Lib.hid (hown.store k (q + k))
      have Hl := Lib.hid hown.len
      have Heq := Lib.hid heq
      have Hbs := Lib.hid (hbr.setCell (p := ⟨g, k, none⟩) rfl (.int .i64 (q + k)))
      clear heq hown hbr hx hxl
      go_wp2
      go_roundw
      case rel =>
        refine ⟨k + 1, _, by omega, by go_num, by go_num, Hst.out, fun j hj => ?_, Hbs.out⟩
        rw [gi_set (by rw [Hl.out]; exact hlt)]
        split
        · next e => rw [e]
        · exact Heq.out j (by omega)
      case measure => simp [intOf]; omega
    · obtain rfl : k = n := by omega
      go_wp2
      go_ret
      obtain rfl : ys = marks q k := ext_gi (by rw [hown.len, marks_len]) (fun j hj => by rw [hown.len] at hj; rw [heq j hj, gi_marks hj])
      exact ⟨rfl, hown, hbr⟩

theorem tot_congr {m m' : List (List Int)} {k : Nat} (h : ∀ i, i < k → (gr m i).length = (gr m' i).length) : tot m k = tot m' k := by
  induction k with
  | zero => rfl
  | succ k ih => simp only [tot]; rw [ih (fun i hi => h i (by omega)), h k (by omega)]

-- markIntSS
set_option maxRecDepth 100000 in
set_option maxHeartbeats 400000 in
theorem markIntSS_any (B : Nat) (ao : Option Addr) (c : Nat) (q : Int) (m : List (List Int)) (vs : List Value) (w : World) (hs : Small m) (hq0 : 0 ≤ q) (hq1 : q ≤ 10) (hx : OwnP w B (.slice ao m.length c) m.length m m.length vs) :
    Calls Tryd.prog 11 #[.slice ao m.length c, .int .i64 q] w fun e w' => e = .returned (.int .i64 (q + tot m m.length)) ∧ OwnP w' B (.slice ao m.length c) m.length (markM q m) m.length vs ∧
      OnlyW (fun g => ∃ i, i < m.length ∧ (vs.getD i undef).ownBlock = some g) w w' := by
  have hn := hs.1
  have hmx : m.length ≤ 9223372036854775807 := by omega
  go_enter Tryd.func11, Tryd.ntmps11
  go_wp2
  go_loopw [1, 5] (fun kk i wr => ∃ k : Nat, k ≤ m.length ∧ i = .int .i64 k ∧ kk = .int .i64 (q + tot m k) ∧ wr.ownsRow B 29 1 (.slice ao m.length c) m.length vs ∧
      (∀ i, i < k → OwnI wr B (vs.getD i undef) (gr (markM q m) i)) ∧ (∀ i, k ≤ i → i < m.length → OwnI wr B (vs.getD i undef) (gr m i)) ∧ OnlyW (fun g => ∃ i, i < m.length ∧ (vs.getD i undef).ownBlock = some g) w wr)
    (fun _ i _ => m.length - (intOf i).toNat)
  case atStart => exact ⟨0, Nat.zero_le _, rfl, by simp [tot], hx.top, fun i hi => absurd hi (by omega), fun i _ hi => hx.rows i hi, OnlyW.refl _ _⟩
  case round =>
    obtain ⟨k, hk, rfl, rfl, htop, hlo, hhi, hbr⟩ := hrel
    by_cases hlt : k < m.length
    · obtain ⟨ao', c', hv', _, _, hcells⟩ := ownsRow_read htop
      obtain ⟨rfl, -, rfl⟩ := (Value.slice.injEq _ _ _ _ _ _).mp hv'
      obtain ⟨b, o, rfl, hc⟩ := hcells k hlt
      have hrow := hhi k (Nat.le_refl _) hlt
      obtain ⟨r, d, hr, h3, h4, _⟩ := hrow.read
      have Hr := Lib.hid hr
      rw [hr] at hc hrow
      have h2 := hs.2 k hlt
      have h5 := tot_big hs hk
      have Hs := Lib.hid hs
      have Hx := Lib.hid hx
      have Htop := Lib.hid htop
      have Hlo := Lib.hid hlo
      have Hhi := Lib.hid hhi
      have Hrow := Lib.hid hrow
      clear hs hx htop hlo hhi hr hcells hv' hrow
      go_wp2_with fail
      refine (markIntS_any B r d (gr m k).length _ _ wr h2 (by omega) (by omega) Hrow.out).mono ?_
      rintro e w2 ⟨rfl, hv, hb2⟩
      have e1 : q + (tot m k : Int) + ((gr m k).length : Int) = q + (tot m (k + 1) : Int) := by simp only [tot]; omega
      have h6 := tot_big Hs.out (show k + 1 ≤ m.length by omega)
      rw [e1]
      rw [← Hr.out] at hv hb2
      have Hv := Lib.hid hv
      have Hb2 := Lib.hid hb2
      clear e1 hv hb2
      go_wp2
      go_roundw
      case rel =>
        have hb2 := Hb2.out
        refine ⟨k + 1, by omega, by go_num, rfl, ?_, fun i hi => ?_, fun i hi1 hi2 => ?_, hbr.trans (hb2.mono (fun g hg => ⟨k, hlt, hg⟩))⟩
        · exact ownsRow_only Htop.out hb2 (fun g hg hg' => (Hhi.out k (Nat.le_refl _) hlt).ne_row Htop.out g hg' hg)
        · by_cases e : i = k
          · subst e
            rw [gr_markM hlt]
            exact Hv.out
          · exact ownsRow_only (Hlo.out i (by omega)) hb2 (fun g hg hg' => Hx.out.apart i k (by omega) hlt g hg hg')
        · exact ownsRow_only (Hhi.out i (by omega) hi2) hb2 (fun g hg hg' => Hx.out.apart k i (by omega) hi2 g hg' hg)
      case measure => simp [intOf]; omega
    · obtain rfl : k = m.length := by omega
      go_wp2
      go_ret
      exact ⟨rfl, ⟨htop, hlo, hx.apart⟩, hbr⟩

-- szIntSS: where it lets a table through that is small
set_option maxRecDepth 100000 in
set_option maxHeartbeats 400000 in
theorem szIntSS_any (ao : Option Addr) (c : Nat) (m : List (List Int)) (left : Int) (w : World) (hn : m.length ≤ 9223372036854775807) (hrow : ∀ i, i < m.length → (gr m i).length ≤ 9223372036854775807) (h0 : 0 ≤ left) (h1 : left ≤ 1048576) (hm : MatAt w ao m) :
    Calls Tryd.prog 6 #[.slice ao m.length c, .int .i64 left] w fun e w' => ∃ r : Int, e = .returned (.int .i64 r) ∧ -1 ≤ r ∧ r ≤ 1048576 ∧ (0 ≤ r → Small m) ∧ w = w' := by
  by_cases hl : left - m.length < 0
  · go_enter Tryd.func6, Tryd.ntmps6
    go_wp2
    go_ret
    exact ⟨-1, rfl, by omega, by omega, fun h => absurd h (by omega), rfl⟩
  · go_enter Tryd.func6, Tryd.ntmps6
    go_wp2
    go_loopw [1, 5] (fun l i wr => ∃ (k : Nat) (r : Int), k ≤ m.length ∧ i = .int .i64 k ∧ l = .int .i64 r ∧ 0 ≤ r ∧ r ≤ 1048576 ∧ (∀ j, j < k → (gr m j).length ≤ 1048576) ∧ w = wr) (fun _ i _ => m.length - (intOf i).toNat)
    case atStart => exact ⟨0, _, Nat.zero_le _, rfl, rfl, by omega, by omega, fun j hj => absurd hj (by omega), rfl⟩
    case round =>
      obtain ⟨k, r, hk, rfl, rfl, hr0, hr1, hs, rfl⟩ := hrel
      by_cases hlt : k < m.length
      · obtain ⟨b1, o1, r1, d1, rfl, hc1, hx1, _, _⟩ := hm k hlt
        have hrk := hrow k hlt
        have Hs := Lib.hid hs
        clear hm hs hrow hx1
        by_cases hneg : r - (gr m k).length < 0
        · have e1 : szL r (gr m k).length = -1 := if_pos hneg
          have E1 := Lib.hid e1
          clear e1
          go_wp2_with fail
          refine (szIntS_any r1 (gr m k).length d1 r w hrk hr0 hr1).mono ?_
          rintro e w2 ⟨rfl, rfl⟩
          rw [E1.out]
          go_wp2
          go_ret
          exact ⟨-1, rfl, by omega, by omega, fun h => absurd h (by omega), rfl⟩
        · have e1 : szL r (gr m k).length = r - (gr m k).length := if_neg hneg
          have E1 := Lib.hid e1
          clear e1
          go_wp2_with fail
          refine (szIntS_any r1 (gr m k).length d1 r w hrk hr0 hr1).mono ?_
          rintro e w2 ⟨rfl, rfl⟩
          rw [E1.out]
          go_wp2
          go_roundw
          case rel =>
            refine ⟨k + 1, _, by omega, by go_num, rfl, by omega, by omega, fun j hj => ?_, by trivial⟩
            by_cases e : j = k
            · subst e; omega
            · exact Hs.out j (by omega)
          case measure => simp [intOf]; omega
      · obtain rfl : k = m.length := by omega
        go_wp2
        go_ret
        exact ⟨r, rfl, by omega, hr1, fun _ => ⟨by omega, hs⟩, rfl⟩
end Go.Proofs.YtopamhcnbocfoaaDoor

