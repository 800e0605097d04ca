/- Parts of proofs: contracts and plain facts. Conditions: as each says. -/
import Derived.Test.YtnhkclnloiiihaaDoorProg
import Derived.WalkKit
import Derived.WalkSpells
import Derived.WalkLawsBesides
import Derived.Lib.Hide
import Derived.BigQuiet
import Derived.Deep.QuietTactic
import Derived.Test.YtnhkclnloiiihaaDoorRows
import Derived.ProofKit
import Derived.OpenShut
import Derived.ShutString
import Derived.ChangeOld
import Derived.Deep.Matrix
namespace Go.Proofs.YtnhkclnloiiihaaDoor
open Go.RowKit

/-- the number at an index, the row at an index -/
def gi (xs : List Int) (i : Nat) : Int := xs.getD i 0
def gr (m : List (List Int)) (i : Nat) : List Int := m.getD i []

theorem gi_lt {xs : List Int} {i : Nat} (h : i < xs.length) : gi xs i = xs[i] := by simp [gi, List.getD, h]
theorem gr_lt {m : List (List Int)} {i : Nat} (h : i < m.length) : gr m i = m[i] := by simp [gr, List.getD, h]
theorem gi_nil (i : Nat) : gi [] i = 0 := by simp [gi]
theorem gi_cons_zero (x : Int) (xs : List Int) : gi (x :: xs) 0 = x := rfl
theorem gi_cons_succ (x : Int) (xs : List Int) (i : Nat) : gi (x :: xs) (i + 1) = gi xs i := by simp [gi]
theorem gr_cons_zero (x : List Int) (xs : List (List Int)) : gr (x :: xs) 0 = x := rfl
theorem gr_cons_succ (x : List Int) (xs : List (List Int)) (i : Nat) : gr (x :: xs) (i + 1) = gr xs i := by simp [gr]
theorem gi_mem {xs : List Int} {i : Nat} (h : i < xs.length) : gi xs i ∈ xs := by rw [gi_lt h]; exact List.getElem_mem _
theorem gr_mem {m : List (List Int)} {i : Nat} (h : i < m.length) : gr m i ∈ m := by rw [gr_lt h]; exact List.getElem_mem _
theorem gi_set {xs : List Int} {i j : Nat} {x : Int} (h : i < xs.length) : gi (xs.set i x) j = if j = i then x else gi xs j := by
  simp only [gi, List.getD, List.getElem?_set]
  by_cases e : i = j
  · subst e; simp [h]
  · rw [if_neg e, if_neg (fun h => e h.symm)]

theorem ext_gi {xs ys : List Int} (h : xs.length = ys.length) (e : ∀ i, i < xs.length → gi xs i = gi ys i) : xs = ys := by
  apply List.ext_getElem h
  intro i h1 h2
  have := e i h1
  rwa [gi_lt h1, gi_lt h2] at this

theorem ext_gr {xs ys : List (List Int)} (h : xs.length = ys.length) (e : ∀ i, i < xs.length → gr xs i = gr ys i) : xs = ys := by
  apply List.ext_getElem h
  intro i h1 h2
  have := e i h1
  rwa [gr_lt h1, gr_lt h2] at this

/-- the cells at an address read as these integers -/
def IntsAt (w : World) (ao : Option Addr) (xs : List Int) : Prop :=
  ∀ i, i < xs.length → ∃ b o, ao = some ⟨b, o, none⟩ ∧ w.cell? ⟨b, o + i, none⟩ = some (.int .i64 (gi xs i))

/-- the cells at an address lead to these rows -/
def MatAt (w : World) (ao : Option Addr) (m : List (List Int)) : Prop :=
  ∀ i, i < m.length → ∃ b o r c, ao = some ⟨b, o, none⟩ ∧ w.cell? ⟨b, o + i, none⟩ = some (.slice r (gr m i).length c) ∧ IntsAt w r (gr m i) ∧ (gr m i).length ≤ c ∧ c ≤ 9223372036854775807

/-- no more than 2^20 rows, and none longer than that -/
def Small (m : List (List Int)) : Prop := m.length ≤ 1048576 ∧ ∀ i, i < m.length → (gr m i).length ≤ 1048576

/-- each number fits an int -/
def WfI (xs : List Int) : Prop := ∀ i, i < xs.length → -9223372036854775808 ≤ gi xs i ∧ gi xs i ≤ 9223372036854775807
def WfM (m : List (List Int)) : Prop := ∀ i, i < m.length → WfI (gr m i)

theorem cell_below {w w' : World} {a : Addr} {v : Value} (h : w.cell? a = some v) (hb : Below w.heap.size w w') : w'.cell? a = some v := by
  rw [hb.cell (World.block_lt_of_cell? _ _ h)]; exact h

theorem IntsAt.below {w w' : World} {ao : Option Addr} {xs : List Int} (h : IntsAt w ao xs) (hb : Below w.heap.size w w') : IntsAt w' ao xs := by
  intro i hi
  obtain ⟨b, o, e, hc⟩ := h i hi
  exact ⟨b, o, e, cell_below hc hb⟩

theorem MatAt.below {w w' : World} {ao : Option Addr} {m : List (List Int)} (h : MatAt w ao m) (hb : Below w.heap.size w w') : MatAt w' ao m := by
  intro i hi
  obtain ⟨b, o, r, c, e, hc, hr, h1, h2⟩ := h i hi
  exact ⟨b, o, r, c, e, cell_below hc hb, hr.below hb, h1, h2⟩

theorem IntsAt.nil (w : World) (ao : Option Addr) : IntsAt w ao [] := fun i hi => absurd hi (by simp)
theorem MatAt.nil (w : World) (ao : Option Addr) : MatAt w ao [] := fun i hi => absurd hi (by simp)

/-- a call that only reads: the world has drawn, no more -/
def Q (w w' : World) : Prop := ∃ n, w' = w.drewN n
theorem Q.refl (w : World) : Q w w := ⟨0, rfl⟩
theorem Q.trans {a b c : World} (h : Q a b) (k : Q b c) : Q a c := by
  obtain ⟨n, rfl⟩ := h
  obtain ⟨m, rfl⟩ := k
  exact ⟨n + m, World.drewN_drewN _ _ _⟩
theorem Q.drewN {a b : World} (h : Q a b) (n : Nat) : Q a (b.drewN n) := h.trans ⟨n, rfl⟩
theorem Q.drew {a b : World} (h : Q a b) : Q a b.drew := h.trans ⟨1, rfl⟩
theorem Q.below {a b : World} (h : Q a b) (B : Nat) : Below B a b := by
  obtain ⟨n, rfl⟩ := h
  exact below_drewN (Below.refl _ _) n

/-- it returns whether p holds -/
def Ans (p : Prop) (e : Ending) : Prop := ∃ b, e = .returned (.bool b) ∧ (b = true ↔ p)
theorem Ans.yes {p : Prop} (h : p) : Ans p (.returned (.bool true)) := ⟨true, rfl, by simp [h]⟩
theorem Ans.no {p : Prop} (h : ¬ p) : Ans p (.returned (.bool false)) := ⟨false, rfl, by simp [h]⟩
theorem Ans.gives {p : Prop} {e : Ending} (h : Ans p e) : (p ∧ e = .returned (.bool true)) ∨ (¬ p ∧ e = .returned (.bool false)) := by
  obtain ⟨b, rfl, hb⟩ := h
  cases b
  · exact .inr ⟨fun hp => by simpa using hb.2 hp, rfl⟩
  · exact .inl ⟨hb.1 rfl, rfl⟩
theorem Ans.is {p : Prop} {e : Ending} (h : Ans p e) (hp : p) : e = .returned (.bool true) := by
  rcases h.gives with ⟨_, e⟩ | ⟨hn, _⟩
  · exact e
  · exact absurd hp hn
theorem Ans.isnt {p : Prop} {e : Ending} (h : Ans p e) (hp : ¬ p) : e = .returned (.bool false) := by
  rcases h.gives with ⟨hn, _⟩ | ⟨_, e⟩
  · exact absurd hn hp
  · exact e
theorem Ans.iff {p q : Prop} {e : Ending} (h : Ans p e) (hp : p ↔ q) : Ans q e := by
  obtain ⟨b, rfl, hb⟩ := h
  exact ⟨b, rfl, hb.trans hp⟩

/-- a slice of integers that the call owns from block B on -/
def OwnI (w : World) (B : Nat) (v : Value) (xs : List Int) : Prop := w.ownsRow B 3 1 v xs.length (xs.map (Value.int .i64))

/-- a slice of n slices of integers that the call owns from block B on; the first k rows read as those of m; no two of them share a block -/
structure OwnP (w : World) (B : Nat) (v : Value) (n : Nat) (m : List (List Int)) (k : Nat) (vs : List Value) : Prop where
  top : w.ownsRow B 28 1 v n vs
  rows : ∀ i, i < k → OwnI w B (vs.getD i undef) (gr m i)
  apart : ∀ i j, i < j → j < k → ∀ g, (vs.getD i undef).ownBlock = some g → (vs.getD j undef).ownBlock ≠ some g

/-- .. all of them -/
def OwnM (w : World) (B : Nat) (v : Value) (m : List (List Int)) : Prop := ∃ vs, OwnP w B v m.length m m.length vs

theorem ownsRow_below {w w' : World} {B : Nat} {e : TypeId} {v : Value} {n : Nat} {xs : List Value} (h : w.ownsRow B e 1 v n xs) (hb : Below w.heap.size w w') : w'.ownsRow B e 1 v n xs := by
  refine ⟨h.1, ?_⟩
  rcases h.2 with h0 | ⟨g, cap, cur, hv, hg, hh, r⟩
  · exact .inl h0
  · exact .inr ⟨g, cap, cur, hv, hg, by rw [hb.block g (lt_of_block hh)]; exact hh, r⟩

theorem ownsRow_base {w : World} {B B' : Nat} {e : TypeId} {v : Value} {n : Nat} {xs : List Value} (h : w.ownsRow B e 1 v n xs) (hB : B' ≤ B) : w.ownsRow B' e 1 v n xs := by
  refine ⟨h.1, ?_⟩
  rcases h.2 with h0 | ⟨g, cap, cur, hv, hg, r⟩
  · exact .inl h0
  · exact .inr ⟨g, cap, cur, hv, by omega, r⟩

theorem OwnI.below {w w' : World} {B : Nat} {v : Value} {xs : List Int} (h : OwnI w B v xs) (hb : Below w.heap.size w w') : OwnI w' B v xs := ownsRow_below h hb
theorem OwnI.base {w : World} {B B' : Nat} {v : Value} {xs : List Int} (h : OwnI w B v xs) (hB : B' ≤ B) : OwnI w B' v xs := ownsRow_base h hB

theorem OwnP.below {w w' : World} {B n k : Nat} {v : Value} {m : List (List Int)} {vs : List Value} (h : OwnP w B v n m k vs) (hb : Below w.heap.size w w') : OwnP w' B v n m k vs :=
  ⟨ownsRow_below h.top hb, fun i hi => (h.rows i hi).below hb, h.apart⟩
theorem OwnP.base {w : World} {B B' n k : Nat} {v : Value} {m : List (List Int)} {vs : List Value} (h : OwnP w B v n m k vs) (hB : B' ≤ B) : OwnP w B' v n m k vs :=
  ⟨ownsRow_base h.top hB, fun i hi => (h.rows i hi).base hB, h.apart⟩
theorem OwnM.below {w w' : World} {B : Nat} {v : Value} {m : List (List Int)} (h : OwnM w B v m) (hb : Below w.heap.size w w') : OwnM w' B v m := ⟨_, h.choose_spec.below hb⟩
theorem OwnM.base {w : World} {B B' : Nat} {v : Value} {m : List (List Int)} (h : OwnM w B v m) (hB : B' ≤ B) : OwnM w B' v m := ⟨_, h.choose_spec.base hB⟩

/-- what is owned reads so -/
theorem ownsRow_read {w : World} {B : Nat} {e : TypeId} {v : Value} {n : Nat} {xs : List Value} (h : w.ownsRow B e 1 v n xs) :
    ∃ ao c, v = .slice ao n c ∧ n ≤ c ∧ c ≤ 9223372036854775807 ∧ ∀ i, i < n → ∃ b o, ao = some ⟨b, o, none⟩ ∧ w.cell? ⟨b, o + i, none⟩ = some (xs.getD i undef) := by
  rcases h.2 with ⟨rfl, h0⟩ | ⟨g, cap, cur, rfl, hg, hh, hn, hm, hs, ht⟩
  · exact ⟨none, 0, by rw [h0], by omega, by omega, fun i hi => absurd hi (by omega)⟩
  · refine ⟨some ⟨g, 0, none⟩, cap, rfl, hn, hm, fun i hi => ⟨g, 0, rfl, ?_⟩⟩
    have hx := h.cellAt i (by omega)
    have hl := h.1
    rw [Nat.zero_add, hx, List.getD, List.getElem?_eq_getElem (by omega)]
    rfl

theorem OwnI.read {w : World} {B : Nat} {v : Value} {xs : List Int} (h : OwnI w B v xs) : ∃ ao c, v = .slice ao xs.length c ∧ xs.length ≤ c ∧ c ≤ 9223372036854775807 ∧ IntsAt w ao xs := by
  obtain ⟨ao, c, hv, h1, h2, hc⟩ := ownsRow_read h
  refine ⟨ao, c, hv, h1, h2, fun i hi => ?_⟩
  obtain ⟨b, o, e, hcell⟩ := hc i hi
  refine ⟨b, o, e, ?_⟩
  rw [hcell]
  simp [gi, List.getD, hi]

theorem OwnM.read {w : World} {B : Nat} {v : Value} {m : List (List Int)} (h : OwnM w B v m) : ∃ ao c, v = .slice ao m.length c ∧ m.length ≤ c ∧ c ≤ 9223372036854775807 ∧ MatAt w ao m := by
  obtain ⟨vs, h⟩ := h
  obtain ⟨ao, c, hv, h1, h2, hc⟩ := ownsRow_read h.top
  refine ⟨ao, c, hv, h1, h2, fun i hi => ?_⟩
  obtain ⟨b, o, e, hcell⟩ := hc i hi
  obtain ⟨r, c', hr, h3, h4, hx⟩ := (h.rows i hi).read
  exact ⟨b, o, r, c', e, by rw [hcell, hr], hx, h3, h4⟩

theorem OwnI.nil (w : World) (B : Nat) : OwnI w B (.slice none 0 0) [] := World.ownsRow_nil _ _ _ _
theorem OwnM.nil (w : World) (B : Nat) : OwnM w B (.slice none 0 0) [] := ⟨[], World.ownsRow_nil _ _ _ _, fun i hi => absurd hi (by simp), fun i j _ hj => absurd hj (by simp)⟩

theorem OwnI.len {w : World} {B n c : Nat} {ao : Option Addr} {xs : List Int} (h : OwnI w B (.slice ao n c) xs) : xs.length = n := by
  rcases h.2 with ⟨h0, h1⟩ | ⟨g, cap, cur, hv, _⟩
  · simp only [Value.slice.injEq] at h0; omega
  · simp only [Value.slice.injEq] at hv; omega

/-- a store into an owned slice of integers -/
theorem OwnI.store {w : World} {B g n c : Nat} {xs : List Int} (h : OwnI w B (.slice (some ⟨g, 0, none⟩) n c) xs) (i : Nat) (x : Int) :
    OwnI (w.setCell ⟨g, i, none⟩ (.int .i64 x)) B (.slice (some ⟨g, 0, none⟩) n c) (xs.set i x) := by
  have hl := h.len
  subst hl
  have := (World.ownsRow.stored h i (.int .i64 x)).1
  unfold OwnI
  rw [List.length_set, List.map_set]
  exact this

theorem OwnI.cellAt {w : World} {B g n c : Nat} {xs : List Int} (h : OwnI w B (.slice (some ⟨g, 0, none⟩) n c) xs) (i : Nat) (hi : i < n) : w.cell? ⟨g, i, none⟩ = some (.int .i64 (gi xs i)) := by
  have hl := h.len
  subst hl
  rw [World.ownsRow.cellAt h i (by omega)]
  simp [gi, List.getD, hi]

theorem OwnI.frozenAt {w : World} {B g n c : Nat} {xs : List Int} (h : OwnI w B (.slice (some ⟨g, 0, none⟩) n c) xs) (i : Nat) : w.frozen? ⟨g, i, none⟩ = false := by
  have hl := h.len
  subst hl
  exact World.ownsRow.frozenAt h i

/-- a write elsewhere -/
theorem OwnI.setOther {w : World} {B : Nat} {v : Value} {xs : List Int} (h : OwnI w B v xs) {a : Addr} (ha : v.ownBlock ≠ some a.block) (u : Value) : OwnI (w.setCell a u) B v xs := ownsRow_setCell_other h ha u

/-- the block of an owned slice -/
theorem OwnI.lt {w : World} {B : Nat} {v : Value} {xs : List Int} (h : OwnI w B v xs) : ∀ k, v.ownBlock = some k → B ≤ k ∧ k < w.heap.size := World.ownsRow.lt h

/-- where it has an element it lies at the head of a block -/
theorem OwnI.isAt {w : World} {B n c : Nat} {ao : Option Addr} {xs : List Int} (h : OwnI w B (.slice ao n c) xs) (hn : 0 < n) : ∃ g, ao = some ⟨g, 0, none⟩ ∧ B ≤ g ∧ g < w.heap.size := by
  have hlt := OwnI.lt h
  rcases h.2 with ⟨h0, h1⟩ | ⟨g, cap, cur, hv, hg, _⟩
  · simp only [Value.slice.injEq] at h0; omega
  · simp only [Value.slice.injEq] at hv
    obtain ⟨rfl, _⟩ := hv
    exact ⟨g, rfl, hlt g rfl⟩

/-- nothing but blocks of S has been written; no block is new -/
structure OnlyW (S : Nat → Prop) (w w' : World) : Prop where
  os : w'.os = w.os
  tape : w'.tape = w.tape
  output : w'.output = w.output
  size : w'.heap.size = w.heap.size
  block : ∀ k, ¬ S k → w'.heap[k]? = w.heap[k]?

theorem OnlyW.refl (S : Nat → Prop) (w : World) : OnlyW S w w := ⟨rfl, rfl, rfl, rfl, fun _ _ => rfl⟩
theorem OnlyW.trans {S : Nat → Prop} {a b c : World} (h : OnlyW S a b) (k : OnlyW S b c) : OnlyW S a c :=
  ⟨k.os.trans h.os, k.tape.trans h.tape, k.output.trans h.output, k.size.trans h.size, fun i hi => (k.block i hi).trans (h.block i hi)⟩
theorem OnlyW.mono {S T : Nat → Prop} {a b : World} (h : OnlyW S a b) (e : ∀ k, S k → T k) : OnlyW T a b := ⟨h.os, h.tape, h.output, h.size, fun k hk => h.block k (fun hs => hk (e k hs))⟩
theorem OnlyW.setCell {S : Nat → Prop} {a w : World} (h : OnlyW S a w) {p : Addr} (hp : S p.block) (u : Value) : OnlyW S a (w.setCell p u) :=
  h.trans ⟨rfl, rfl, rfl, by simp [World.setCell], fun k hk => Below.heap_setCell _ _ _ _ (fun e => hk (e ▸ hp))⟩
theorem OnlyW.below {S : Nat → Prop} {a b : World} (h : OnlyW S a b) {B : Nat} (hS : ∀ k, S k → B ≤ k) : Below B a b :=
  ⟨h.os, h.tape, h.output, Nat.le_of_eq h.size.symm, fun k hk => h.block k (fun hs => by have := hS k hs; omega)⟩

theorem ownsRow_only {w w' : World} {S : Nat → Prop} {B : Nat} {e : TypeId} {v : Value} {n : Nat} {xs : List Value} (h : w.ownsRow B e 1 v n xs) (ho : OnlyW S w w') (hS : ∀ g, v.ownBlock = some g → ¬ S g) : w'.ownsRow B e 1 v n xs := by
  refine ⟨h.1, ?_⟩
  rcases h.2 with h0 | ⟨g, cap, cur, rfl, hg, hh, r⟩
  · exact .inl h0
  · exact .inr ⟨g, cap, cur, rfl, hg, by rw [ho.block g (hS g rfl)]; exact hh, r⟩

/-- what make lays -/
theorem OwnI.made {w : World} {B g n : Nat} (h : w.ownsRow B 3 1 (.slice (some ⟨g, 0, none⟩) n n) n (madeCells #[Value.int .i64 0] n).toList) :
    OwnI w B (.slice (some ⟨g, 0, none⟩) n n) (List.replicate n 0) := by
  unfold OwnI
  rw [List.length_replicate, List.map_replicate, ← toList_madeCells_one]
  exact h

/-- the block of a row is not that of the rows' own slice: their elements differ -/
theorem OwnI.ne_top {w : World} {B g : Nat} {v : Value} {xs : List Int} (h : OwnI w B v xs) {cur : Array Value} {q : Nat × Nat} (hg : w.heap[g]? = some (.cells cur 28 q)) : v.ownBlock ≠ some g := by
  rcases h.2 with ⟨rfl, _⟩ | ⟨g', cap, cur', rfl, _, hh, _⟩
  · simp [Value.ownBlock]
  · intro e
    simp only [Value.ownBlock, Option.some.injEq] at e
    subst e
    rw [hg] at hh
    simp at hh

theorem OwnI.ne_row {w : World} {B B' n : Nat} {v u : Value} {xs : List Int} {vs : List Value} (h : OwnI w B v xs) (ht : w.ownsRow B' 28 1 u n vs) : ∀ g, v.ownBlock = some g → u.ownBlock ≠ some g := by
  intro g hg hu
  rcases ht.2 with ⟨rfl, _⟩ | ⟨g', cap, cur', rfl, _, hh, _⟩
  · simp [Value.ownBlock] at hu
  · simp only [Value.ownBlock, Option.some.injEq] at hu
    subst hu
    exact h.ne_top hh hg

theorem ownsRow_block {w : World} {B g n c : Nat} {e : TypeId} {vs : List Value} (h : w.ownsRow B e 1 (.slice (some ⟨g, 0, none⟩) n c) n vs) : ∃ cur, w.heap[g]? = some (.cells cur e (0, 0)) := by
  rcases h.2 with ⟨h0, _⟩ | ⟨g', cap, cur, hv, _, hh, _⟩
  · simp at h0
  · simp only [Value.slice.injEq, Option.some.injEq, Addr.mk.injEq, and_true, true_and] at hv
    obtain ⟨rfl, _⟩ := hv
    exact ⟨cur, hh⟩

/-- a row is stored: the k-th -/
theorem OwnP.put {w : World} {B g n c k : Nat} {m : List (List Int)} {vs : List Value} {v : Value} (h : OwnP w B (.slice (some ⟨g, 0, none⟩) n c) n m k vs) (hk : k < n) (hv : OwnI w B v (gr m k))
    (hne : ∀ j, j < k → ∀ g', (vs.getD j undef).ownBlock = some g' → v.ownBlock ≠ some g') :
    OwnP (w.setCell ⟨g, k, none⟩ v) B (.slice (some ⟨g, 0, none⟩) n c) n m (k + 1) (vs.set k v) := by
  obtain ⟨cur, hcur⟩ := ownsRow_block h.top
  have hl : vs.length = n := by simpa using h.top.1
  have hget : ∀ j, j < k + 1 → (vs.set k v).getD j undef = if j = k then v else vs.getD j undef := by
    intro j hj
    simp only [List.getD, List.getElem?_set]
    by_cases e : k = j
    · subst e; rw [if_pos rfl, if_pos rfl, if_pos (by omega)]; rfl
    · rw [if_neg e, if_neg (fun h => e h.symm)]
  refine ⟨(World.ownsRow.stored h.top k v).1, fun i hi => ?_, fun i j hij hj g' hg' => ?_⟩
  · rw [hget i hi]
    split
    · next e => subst e; exact hv.setOther (hv.ne_top hcur) _
    · next e => exact (h.rows i (by omega)).setOther ((h.rows i (by omega)).ne_top hcur) _
  · rw [hget i (by omega), if_neg (by omega)] at hg'
    rw [hget j hj]
    split
    · next e => exact hne i (by omega) g' hg'
    · next e => exact h.apart i j hij (by omega) g' hg'

/-- what make lays for rows -/
theorem OwnP.made {w : World} {B g n : Nat} {m : List (List Int)} (h : w.ownsRow B 28 1 (.slice (some ⟨g, 0, none⟩) n n) n (madeCells #[Value.slice none 0 0] n).toList) :
    OwnP w B (.slice (some ⟨g, 0, none⟩) n n) n m 0 (madeCells #[Value.slice none 0 0] n).toList :=
  ⟨h, fun i hi => absurd hi (by omega), fun i j _ hj => absurd hj (by omega)⟩

theorem OwnP.cellAt {w : World} {B g n c k : Nat} {m : List (List Int)} {vs : List Value} (h : OwnP w B (.slice (some ⟨g, 0, none⟩) n c) n m k vs) (i : Nat) (hi : i < n) : w.cell? ⟨g, i, none⟩ = some (vs.getD i undef) := by
  have hl : vs.length = n := by simpa using h.top.1
  rw [World.ownsRow.cellAt h.top i (by omega), List.getD, List.getElem?_eq_getElem (by omega)]
  rfl

/-- a row of blocks not below that of any row before -/
theorem OwnP.fresh {w : World} {B n k B' : Nat} {v u : Value} {m : List (List Int)} {vs : List Value} {xs : List Int} {w' : World} (h : OwnP w B v n m k vs) (hu : OwnI w' B' u xs) (hB : w.heap.size ≤ B') :
    ∀ j, j < k → ∀ g', (vs.getD j undef).ownBlock = some g' → u.ownBlock ≠ some g' := by
  intro j hj g' hg' hu'
  have h1 := (h.rows j hj).lt g' hg'
  have h2 := hu.lt g' hu'
  omega

/-- a number has been appended -/
theorem OwnI.snoc {w w1 : World} {B : Nat} {v v' : Value} {xs : List Int} {x : Int} {o : Obj} (h : OwnI w B v xs) (hB : B ≤ w.heap.size)
    (h1 : w1.ownsRow B 3 1 v' (xs.length + 1) (xs.map (Value.int .i64) ++ [.int .i64 x])) (hg : (w.alloc o).grownBy w1 v.ownBlock) : OwnI w1 B v' (xs ++ [x]) ∧ Below B w w1 := by
  refine ⟨by unfold OwnI; rw [List.length_append, List.map_append]; exact h1, ?_⟩
  refine Below.grown ((Below.refl B w).alloc hB o) hg (by simp; omega) (fun k hk => (h.lt k hk).1)

/-- a row has been appended -/
theorem OwnP.snoc {w w1 : World} {B k : Nat} {v v' u : Value} {m : List (List Int)} {vs : List Value} {o : Obj} (h : OwnP w B v k m k vs) (hB : B ≤ w.heap.size) (hu : OwnI w B u (gr m k))
    (hne : ∀ j, j < k → ∀ g, (vs.getD j undef).ownBlock = some g → u.ownBlock ≠ some g)
    (h1 : w1.ownsRow B 28 1 v' (k + 1) (vs ++ [u])) (hg : (w.alloc o).grownBy w1 v.ownBlock) : OwnP w1 B v' (k + 1) m (k + 1) (vs ++ [u]) ∧ Below B w w1 := by
  have hl : vs.length = k := by simpa using h.top.1
  have hget : ∀ j, j < k + 1 → (vs ++ [u]).getD j undef = if j = k then u else vs.getD j undef := by
    intro j hj
    simp only [List.getD]
    split
    · next e => subst e; rw [List.getElem?_append_right (by omega), hl]; simp
    · next e => rw [List.getElem?_append_left (by omega)]
  have kept : ∀ (x : Value) (ys : List Int), OwnI w B x ys → OwnI w1 B x ys := by
    intro x ys hx
    refine (World.ownsRow.alloc hx o).kept hg ?_
    cases hb : x.ownBlock with
    | none => exact .inl rfl
    | some g => exact .inr (fun e => hx.ne_row h.top g hb e.symm)
  refine ⟨⟨h1, fun i hi => ?_, fun i j hij hj g hg' => ?_⟩, Below.grown ((Below.refl B w).alloc hB o) hg (by simp; omega) (fun k hk => (World.ownsRow.lt h.top k hk).1)⟩
  · rw [hget i hi]
    split
    · next e => subst e; exact kept _ _ hu
    · next e => exact kept _ _ (h.rows i (by omega))
  · rw [hget i (by omega), if_neg (by omega)] at hg'
    rw [hget j hj]
    split
    · next e => exact hne i (by omega) g hg'
    · next e => exact h.apart i j hij (by omega) g hg'

theorem one_new {w : World} {o : Obj} {x : Value} {e : TypeId} (ho : o = .cells #[x] e) : ∀ j u, [x][j]? = some u → (w.alloc o).cell? ((⟨w.heap.size, 0, none⟩ : Addr).add j) = some u := by
  subst ho
  exact cell_one_new _ _ _

theorem Tryd.info_int : (Tryd.prog.info? 3).map (fun i => (i.zero, i.size, i.bytes)) = some (some (.int .i64 0), 1, 8) := by kernel_rfl
theorem Tryd.info_ints : (Tryd.prog.info? 28).map (fun i => (i.zero, i.size, i.bytes)) = some (some (.slice none 0 0), 1, 24) := by kernel_rfl

end Go.Proofs.YtnhkclnloiiihaaDoor

namespace Go.Proofs.YtnhkclnloiiihaaDoor
open Go.ChangeShapes Go.WideShapes Go.ChangeAt Go.RowKit Go.Deep

theorem Tryd.own : ownKnob Tryd.prog.godebug = none := by kernel_rfl
theorem Tryd.laidOut : laidOutB Tryd.prog = true := by kernel_rfl
theorem Tryd.cells_int : Tryd.prog.cellsOf 3 = 1 := by kernel_rfl
theorem Tryd.cells_ints : Tryd.prog.cellsOf 28 = 1 := by kernel_rfl

theorem at_zero {w : World} {a : Addr} {v : Value} (h : w.cell? (a.add 0) = some v) : ∃ b o, a = ⟨b, o, none⟩ := by
  have hs := World.cell?_spot h
  obtain ⟨b, o, s⟩ := a
  exact ⟨b, o, by simpa [Addr.add] using hs⟩

/-- a slice of integers that came in -/
theorem open_ints_arg {H : Type} {enc : TypeId × Value → H} {w : World} {ao : Option Addr} {n c : Nat} {d : DataW H} {p : List MemPlace}
    (h : DataW.Trod enc Tryd.prog w 0 (fun _ => true) true 28 (.slice ao n c) d p) :
    ∃ xs : List Int, xs.length = n ∧ n ≤ 9223372036854775807 ∧ WfI xs ∧ IntsAt w ao xs := by
  obtain ⟨fuel, hf⟩ := h
  rcases open_ints Tryd.underlying28 Tryd.underlying3 Tryd.cells_int hf with ⟨hcs, _⟩ | ⟨x, l, c', zs, hcs, _, hl, hm, hz, _, hcell, hwz⟩
  · simp [Value.cells] at hcs
    obtain ⟨rfl, rfl, rfl⟩ := hcs
    exact ⟨[], rfl, by omega, fun i hi => absurd hi (by simp), IntsAt.nil _ _⟩
  · simp [Value.cells] at hcs
    obtain ⟨rfl, rfl, rfl⟩ := hcs
    simp only [if_true] at hz
    have hlen : (zs.take n).length = n := by rw [List.length_take]; omega
    have hgi : ∀ i, i < n → gi (zs.take n) i = zs.getD i 0 := fun i hi => by simp [gi, List.getD, hi]
    have hm' : c ≤ 9223372036854775807 := by simpa [maxLen] using hm
    refine ⟨zs.take n, hlen, by omega, fun i hi => ?_, fun i hi => ?_⟩
    · rw [hlen] at hi
      rw [hgi i hi]
      exact range_i64 hwz i
    · rw [hlen] at hi
      have hc := hcell i (by omega)
      obtain ⟨b, o, rfl⟩ := at_zero (hcell 0 (by omega))
      rw [Addr.add_lit] at hc
      exact ⟨b, o, rfl, by rw [hgi i hi]; exact hc⟩

/-- a slice of slices of integers that came in -/
theorem open_mat_arg {H : Type} {enc : TypeId × Value → H} {w : World} {ao : Option Addr} {n c : Nat} {d : DataW H} {p : List MemPlace}
    (h : DataW.Trod enc Tryd.prog w 0 (fun _ => true) true 25 (.slice ao n c) d p) :
    ∃ m : List (List Int), m.length = n ∧ n ≤ 9223372036854775807 ∧ WfM m ∧ (∀ i, i < m.length → (gr m i).length ≤ 9223372036854775807) ∧ MatAt w ao m := by
  obtain ⟨fuel, hf⟩ := h
  rcases open_int_rows Tryd.underlying25 Tryd.underlying28 Tryd.underlying3 Tryd.cells_ints Tryd.cells_int hf with ⟨hcs, _⟩ | ⟨x, l, c', A, L, C, Z, hcs, _, hl, hm, _, hrows⟩
  · simp [Value.cells] at hcs
    obtain ⟨rfl, rfl, rfl⟩ := hcs
    exact ⟨[], rfl, by omega, fun i hi => absurd hi (by simp), fun i hi => absurd hi (by simp), MatAt.nil _ _⟩
  · simp [Value.cells] at hcs
    obtain ⟨rfl, rfl, rfl⟩ := hcs
    have hm' : c ≤ 9223372036854775807 := by simpa [maxLen] using hm
    obtain ⟨m, hmd⟩ : ∃ m : List (List Int), m = (List.range n).map fun r => (Z r).take (L r) := ⟨_, rfl⟩
    have hlen : m.length = n := by rw [hmd]; simp
    have hgr : ∀ r, r < n → gr m r = (Z r).take (L r) := fun r hr => by rw [gr_lt (by omega)]; simp [hmd]
    have hL : ∀ r, r < n → (gr m r).length = L r ∧ L r ≤ C r ∧ C r ≤ 9223372036854775807 ∧ ∀ i, i < L r → gi (gr m r) i = (Z r).getD i 0 := by
      intro r hr
      obtain ⟨_, h1, h2, h3, _⟩ := hrows r (by omega)
      rw [hgr r hr]
      exact ⟨by rw [List.length_take]; omega, h1, by simpa [maxLen] using h2, fun i hi => by simp [gi, List.getD, hi]⟩
    refine ⟨m, hlen, by omega, fun r hr i hi => ?_, fun r hr => ?_, fun r hr => ?_⟩
    · rw [hlen] at hr
      obtain ⟨e, _, _, hg⟩ := hL r hr
      rw [e] at hi
      rw [hg i hi]
      exact range_i64 (hrows r (by omega)).2.2.2.2.1 i
    · rw [hlen] at hr
      obtain ⟨e, h1, h2, _⟩ := hL r hr
      omega
    · rw [hlen] at hr
      obtain ⟨e, h1, h2, hg⟩ := hL r hr
      obtain ⟨hc, _, _, hz, _, hnil, hcell⟩ := hrows r (by omega)
      obtain ⟨b, o, rfl⟩ := at_zero (hrows 0 (by omega)).1
      rw [Addr.add_lit] at hc
      refine ⟨b, o, A r, C r, rfl, by rw [e]; exact hc, fun i hi => ?_, by omega, h2⟩
      rw [e] at hi
      cases hA : A r with
      | none => have := hnil hA; omega
      | some a' =>
        have hc' := (hcell a' hA).2 i (by omega)
        obtain ⟨b', o', rfl⟩ := at_zero ((hcell a' hA).2 0 (by omega))
        rw [Addr.add_lit] at hc'
        exact ⟨b', o', rfl, by rw [hg i hi]; exact hc'⟩
end Go.Proofs.YtnhkclnloiiihaaDoor

namespace Go.Proofs.YtnhkclnloiiihaaDoor
open Go.RowKit

def szL (left : Int) (n : Nat) : Int := if left - n < 0 then -1 else left - n

end Go.Proofs.YtnhkclnloiiihaaDoor

namespace Go.Proofs.YtnhkclnloiiihaaDoor
open Go.RowKit

-- eqIntS at equal lists
/-- the numbers k, k + 1, .., n of them -/
def marks (k : Int) (n : Nat) : List Int := (List.range n).map fun i : Nat => k + (i : Int)
theorem marks_len (k : Int) (n : Nat) : (marks k n).length = n := by simp [marks]
theorem gi_marks {k : Int} {n i : Nat} (h : i < n) : gi (marks k n) i = k + i := by
  rw [gi_lt (by rw [marks_len]; exact h)]
  simp [marks]

-- heldIntS where the marks hold
/-- how many numbers the first k rows hold -/
def tot (m : List (List Int)) : Nat → Nat
  | 0 => 0
  | k + 1 => tot m k + (gr m k).length
theorem tot_le {m : List (List Int)} (hs : Small m) : ∀ k, k ≤ m.length → tot m k ≤ k * 1048576
  | 0, _ => Nat.le_of_eq (by simp [tot])
  | k + 1, h => by
    have h1 := tot_le hs k (by omega)
    have h2 := hs.2 k (by omega)
    simp only [tot]
    omega
theorem tot_big {m : List (List Int)} (hs : Small m) {k : Nat} (h : k ≤ m.length) : tot m k ≤ 1099511627776 := by
  have h1 := tot_le hs k h
  have h2 := hs.1
  have : k * 1048576 ≤ 1048576 * 1048576 := Nat.mul_le_mul_right _ (by omega)
  omega

def markM (q : Int) (m : List (List Int)) : List (List Int) := (List.range m.length).map fun i => marks (q + (tot m i : Int)) (gr m i).length
theorem markM_len (q : Int) (m : List (List Int)) : (markM q m).length = m.length := by simp [markM]
theorem gr_markM {q : Int} {m : List (List Int)} {i : Nat} (h : i < m.length) : gr (markM q m) i = marks (q + (tot m i : Int)) (gr m i).length := by
  rw [gr_lt (by rw [markM_len]; exact h)]
  simp [markM]

-- heldIntSS where the marks hold
theorem tot_congr {m m' : List (List Int)} {k : Nat} (h : ∀ i, i < k → (gr m i).length = (gr m' i).length) : tot m k = tot m' k := by
  induction k with
  | zero => rfl
  | succ k ih => simp only [tot]; rw [ih (fun i hi => h i (by omega)), h k (by omega)]

-- markIntSS
end Go.Proofs.YtnhkclnloiiihaaDoor

namespace Go.Proofs.YtnhkclnloiiihaaDoor

/-- the sum of the first k numbers -/
def sumK (xs : List Int) : Nat → Int
  | 0 => 0
  | k + 1 => sumK xs k + gi xs k

theorem sumK_congr {xs ys : List Int} {k : Nat} (h : ∀ i, i < k → gi xs i = gi ys i) : sumK xs k = sumK ys k := by
  induction k with
  | zero => rfl
  | succ k ih => simp only [sumK]; rw [ih (fun i hi => h i (by omega)), h k (by omega)]

/-- signs alternate, the sum is 1 -/
def lineOk (xs : List Int) : Prop := (∀ k, k ≤ xs.length → 0 ≤ sumK xs k ∧ sumK xs k ≤ 1) ∧ sumK xs xs.length = 1
def rowsOk (m : List (List Int)) : Prop := ∀ i, i < m.length → lineOk (gr m i)
def square (m : List (List Int)) : Prop := 1 ≤ m.length ∧ m.length ≤ 6 ∧ ∀ i, i < m.length → (gr m i).length = m.length

/-- a table given by its numbers -/
def tab (n c : Nat) (f : Nat → Nat → Int) : List (List Int) := (List.range n).map fun i => (List.range c).map fun j => f i j
theorem tab_len (n c : Nat) (f : Nat → Nat → Int) : (tab n c f).length = n := by simp [tab]
theorem gr_tab {n c : Nat} {f : Nat → Nat → Int} {i : Nat} (h : i < n) : gr (tab n c f) i = (List.range c).map fun j => f i j := by
  rw [gr_lt (by rw [tab_len]; exact h)]
  simp [tab]
theorem tab_row {n c : Nat} {f : Nat → Nat → Int} {i : Nat} (h : i < n) : (gr (tab n c f) i).length = c := by rw [gr_tab h]; simp
theorem gi_row {c : Nat} {g : Nat → Int} {j : Nat} (h : j < c) : gi ((List.range c).map g) j = g j := by
  rw [gi_lt (by simpa using h)]
  simp
theorem gi_tab {n c : Nat} {f : Nat → Nat → Int} {i j : Nat} (hi : i < n) (hj : j < c) : gi (gr (tab n c f) i) j = f i j := by rw [gr_tab hi, gi_row hj]

theorem zero_row {n c k : Nat} (h : k < n) : gr (tab n c fun _ _ => 0) k = List.replicate c 0 := by
  refine ext_gi (by rw [tab_row h, List.length_replicate]) fun j hj => ?_
  rw [tab_row h] at hj
  rw [gi_tab h hj, gi_lt (by simpa using hj)]
  simp

/-- a table that agrees with the function is that table -/
theorem eq_tab {m : List (List Int)} {n c : Nat} {f : Nat → Nat → Int} (h1 : m.length = n) (h2 : ∀ i, i < n → (gr m i).length = c) (h3 : ∀ i j, i < n → j < c → gi (gr m i) j = f i j) : m = tab n c f := by
  refine ext_gr (by rw [h1, tab_len]) fun i hi => ?_
  rw [h1] at hi
  refine ext_gi (by rw [h2 i hi, tab_row hi]) fun j hj => ?_
  rw [h2 i hi] at hj
  rw [h3 i j hi hj, gi_tab hi hj]

/-- rows and columns exchanged -/
def tr (m : List (List Int)) : List (List Int) := tab m.length m.length fun i j => gi (gr m j) i
def good (m : List (List Int)) : Prop := square m ∧ rowsOk m ∧ rowsOk (tr m)

theorem square.small {m : List (List Int)} (h : square m) : Small m := ⟨by have := h.2.1; omega, fun i hi => by rw [h.2.2 i hi]; have := h.2.1; omega⟩
theorem tr_len (m : List (List Int)) : (tr m).length = m.length := tab_len _ _ _
theorem tr_row {m : List (List Int)} {i : Nat} (h : i < m.length) : (gr (tr m) i).length = m.length := tab_row h
theorem gi_tr {m : List (List Int)} {i j : Nat} (hi : i < m.length) (hj : j < m.length) : gi (gr (tr m) i) j = gi (gr m j) i := gi_tab hi hj
theorem square.tr {m : List (List Int)} (h : square m) : square (tr m) := ⟨by rw [tr_len]; exact h.1, by rw [tr_len]; exact h.2.1, fun i hi => by rw [tr_len] at hi ⊢; exact tr_row hi⟩
theorem tr_tr {m : List (List Int)} (h : square m) : Go.Proofs.YtnhkclnloiiihaaDoor.tr (Go.Proofs.YtnhkclnloiiihaaDoor.tr m) = m := by
  refine ext_gr (by rw [tr_len, tr_len]) fun i hi => ?_
  rw [tr_len, tr_len] at hi
  have e : (gr (Go.Proofs.YtnhkclnloiiihaaDoor.tr (Go.Proofs.YtnhkclnloiiihaaDoor.tr m)) i).length = m.length := by rw [tr_row (by rw [tr_len]; exact hi), tr_len]
  refine ext_gi (by rw [e, h.2.2 i hi]) fun j hj => ?_
  rw [e] at hj
  rw [gi_tr (by rw [tr_len]; exact hi) (by rw [tr_len]; exact hj), gi_tr hj hi]

theorem cell_new (w : World) (cs : Array Value) (e : TypeId) (k : Nat) : (w.alloc (.cells cs e)).cell? ⟨w.heap.size, k, none⟩ = cs[k]? := by
  unfold World.cell?
  rw [heap_alloc_new]
  rfl

/-- a number of an owned grid: its row, its cell, a store into it -/
theorem OwnP.at2 {w : World} {B n c : Nat} {v : Value} {f : Nat → Nat → Int} {vs : List Value} (h : OwnP w B v n (tab n c f) n vs) {i j : Nat} (hi : i < n) (hj : j < c) :
    ∃ g cap, vs.getD i undef = .slice (some ⟨g, 0, none⟩) c cap ∧ w.cell? ⟨g, j, none⟩ = some (.int .i64 (f i j)) ∧ w.frozen? ⟨g, j, none⟩ = false ∧ B ≤ g ∧
      ∀ x, OwnP (w.setCell ⟨g, j, none⟩ (.int .i64 x)) B v n (tab n c fun a b => if a = i ∧ b = j then x else f a b) n vs := by
  have hrow := h.rows i hi
  obtain ⟨ao, cap, hv, _, _, _⟩ := hrow.read
  rw [tab_row hi] at hv
  have hrow' := hrow
  rw [hv] at hrow'
  obtain ⟨g, rfl, hg, _⟩ := hrow'.isAt (by omega)
  refine ⟨g, cap, hv, ?_, hrow'.frozenAt j, hg, fun x => ⟨?_, fun a ha => ?_, h.apart⟩⟩
  · rw [hrow'.cellAt j hj, gi_tab hi hj]
  · exact Go.ownsRow_setCell_other h.top (fun e => hrow.ne_row h.top g (by rw [hv]; rfl) e) _
  · by_cases e : a = i
    · subst e
      have := hrow'.store j x
      rw [hv]
      have e2 : gr (tab n c fun a' b => if a' = a ∧ b = j then x else f a' b) a = (gr (tab n c f) a).set j x := by
        refine ext_gi (by rw [tab_row hi, List.length_set, tab_row hi]) fun b hb => ?_
        rw [tab_row hi] at hb
        rw [gi_tab hi hb, gi_set (by rw [tab_row hi]; exact hj), gi_tab hi hb]
        by_cases e3 : b = j <;> simp [e3]
      rw [e2]
      exact this
    · have e2 : gr (tab n c fun a' b => if a' = i ∧ b = j then x else f a' b) a = gr (tab n c f) a := by
        refine ext_gi (by rw [tab_row ha, tab_row ha]) fun b hb => ?_
        rw [tab_row ha] at hb
        rw [gi_tab ha hb, gi_tab ha hb, if_neg (fun h => e h.1)]
      rw [e2]
      refine (h.rows a ha).setOther (fun hg' => ?_) _
      rcases Nat.lt_or_gt_of_ne e with hlt | hlt
      · exact h.apart a i hlt hi g hg' (by rw [hv]; rfl)
      · exact h.apart i a hlt ha g (by rw [hv]; rfl) hg'
end Go.Proofs.YtnhkclnloiiihaaDoor

namespace Go.Proofs.YtnhkclnloiiihaaDoor
open Go.RowKit

set_option maxRecDepth 100000 in
set_option maxHeartbeats 400000 in
theorem l1In_any (n lo hi : Int) (w : World) :
    Calls Tryd.prog 106 #[.int .i64 n, .int .i64 lo, .int .i64 hi] w fun e w' => Ans (lo ≤ n ∧ n ≤ hi) e ∧ w = w' := by
  by_cases h1 : lo ≤ n
  · by_cases h2 : n ≤ hi
    · go_enter Tryd.func106, Tryd.ntmps106
      go_wp2
      go_ret
      exact ⟨Ans.yes ⟨h1, h2⟩, rfl⟩
    · go_enter Tryd.func106, Tryd.ntmps106
      go_wp2
      go_ret
      exact ⟨Ans.no (fun h => by omega), rfl⟩
  · go_enter Tryd.func106, Tryd.ntmps106
    go_wp2
    go_ret
    exact ⟨Ans.no (fun h => by omega), rfl⟩

set_option maxRecDepth 100000 in
set_option maxHeartbeats 400000 in
theorem sgSquare_any (ao : Option Addr) (c : Nat) (m : List (List Int)) (w : World) (hs : Small m) (hm : MatAt w ao m) :
    Calls Tryd.prog 132 #[.slice ao m.length c] w fun e w' => Ans (square m) e ∧ w = w' := by
  have hn := hs.1
  have hrow := hs.2
  have hmx : m.length ≤ 9223372036854775807 := by omega
  by_cases h1 : 1 ≤ m.length ∧ m.length ≤ 6
  · go_enter Tryd.func132, Tryd.ntmps132
    go_wp2_with fail
    refine (l1In_any _ _ _ w).mono ?_
    rintro e w2 ⟨ha, rfl⟩
    obtain rfl := ha.is ⟨by omega, by omega⟩
    clear ha
    go_wp2
    go_loopw [11] (fun i wr => ∃ k : Nat, k ≤ m.length ∧ i = .int .i64 k ∧ (∀ j, j < k → (gr m j).length = m.length) ∧ w = wr) (fun i _ => m.length - (intOf i).toNat)
    case atStart => exact ⟨0, Nat.zero_le _, rfl, fun j hj => absurd hj (by omega), by trivial⟩
    case round =>
      obtain ⟨k, hk, rfl, heq, rfl⟩ := hrel
      by_cases hlt : k < m.length
      · obtain ⟨b1, o1, r1, d1, rfl, hc1, _, _, _⟩ := hm k hlt
        have hrk := hrow k hlt
        have Heq := Lib.hid heq
        clear hm hs hrow heq
        by_cases he : (gr m k).length = m.length
        · have hb : (((gr m k).length : Int) != (m.length : Int)) = false := by simp [he]
          have He := Lib.hid he
          clear he
          go_wp2
          go_roundw
          case rel =>
            refine ⟨k + 1, by omega, by go_num, fun j hj => ?_, by trivial⟩
            by_cases e : j = k
            · subst e; exact He.out
            · exact Heq.out j (by omega)
          case measure => simp [intOf]; omega
        · have hb : (((gr m k).length : Int) != (m.length : Int)) = true := by simp; omega
          go_wp2
          go_ret
          exact ⟨Ans.no fun h => he (h.2.2 k hlt), rfl⟩
      · obtain rfl : k = m.length := by omega
        go_wp2
        go_ret
        exact ⟨Ans.yes ⟨h1.1, h1.2, heq⟩, rfl⟩
  · go_enter Tryd.func132, Tryd.ntmps132
    go_wp2_with fail
    refine (l1In_any _ _ _ w).mono ?_
    rintro e w2 ⟨ha, rfl⟩
    obtain rfl := ha.isnt (fun h => h1 ⟨by omega, by omega⟩)
    clear ha
    go_wp2
    go_ret
    exact ⟨Ans.no fun h => h1 ⟨h.1, h.2.1⟩, rfl⟩

set_option maxRecDepth 100000 in
set_option maxHeartbeats 800000 in
theorem sgRows_any (ao : Option Addr) (c : Nat) (m : List (List Int)) (w : World) (hs : Small m) (hm : MatAt w ao m) :
    Calls Tryd.prog 133 #[.slice ao m.length c] w fun e w' => Ans (rowsOk m) e ∧ w = w' := by
  have hn := hs.1
  have hrow := hs.2
  have hmx : m.length ≤ 9223372036854775807 := by omega
  go_enter Tryd.func133, Tryd.ntmps133
  go_wp2
  go_loop [10] (fun i => ∃ k : Nat, k ≤ m.length ∧ i = .int .i64 k ∧ (∀ j, j < k → lineOk (gr m j))) (fun i => m.length - (intOf i).toNat)
  case atStart => exact ⟨0, Nat.zero_le _, rfl, fun j hj => absurd hj (by omega)⟩
  case round =>
    obtain ⟨k, hk, rfl, hdone⟩ := hrel
    by_cases hlt : k < m.length
    · obtain ⟨b1, o1, r1, d1, rfl, hc1, hx1, _, _⟩ := hm k hlt
      have hrk := hrow k hlt
      have hrx : (gr m k).length ≤ 9223372036854775807 := by omega
      have Hd := Lib.hid hdone
      clear hm hs hrow hdone
      go_wp2
      go_loop [5, 16] (fun s i => ∃ t : Nat, t ≤ (gr m k).length ∧ i = .int .i64 t ∧ s = .int .i64 (sumK (gr m k) t) ∧ (∀ u, u ≤ t → 0 ≤ sumK (gr m k) u ∧ sumK (gr m k) u ≤ 1)) (fun _ i => (gr m k).length - (intOf i).toNat)
      case atStart => exact ⟨0, Nat.zero_le _, rfl, rfl, fun u hu => by obtain rfl : u = 0 := by omega
                                                                        simp [sumK]⟩
      case round =>
        obtain ⟨t, ht, rfl, rfl, hsum⟩ := hrel
        have hs0 := (hsum t (Nat.le_refl _)).1
        have hs1 := (hsum t (Nat.le_refl _)).2
        have Hsum := Lib.hid hsum
        clear hsum
        by_cases htl : t < (gr m k).length
        · obtain ⟨b2, o2, rfl, hc2⟩ := hx1 t htl
          obtain ⟨x, hx⟩ : ∃ x, x = gi (gr m k) t := ⟨_, rfl⟩
          obtain ⟨s, hsm⟩ : ∃ s, s = sumK (gr m k) t := ⟨_, rfl⟩
          rw [← hx] at hc2
          rw [← hsm] at hs0 hs1 ⊢
          have Hx := Lib.hid hx
          have Hsm := Lib.hid hsm
          clear hx1 hx hsm
          by_cases hx : -1 ≤ x ∧ x ≤ 1
          · obtain ⟨hxa, hxb⟩ := hx
            go_wp2_with fail
            refine (l1In_any _ _ _ w).mono ?_
            rintro e w2 ⟨ha, rfl⟩
            obtain rfl := ha.is ⟨by omega, by omega⟩
            clear ha
            by_cases hsx : 0 ≤ s + x ∧ s + x ≤ 1
            · obtain ⟨hsa, hsb⟩ := hsx
              go_wp2_with fail
              refine (l1In_any _ _ _ w).mono ?_
              rintro e w2 ⟨ha, rfl⟩
              obtain rfl := ha.is ⟨by omega, by omega⟩
              clear ha
              go_wp2
              go_round
              case rel =>
                have e1 : s + x = sumK (gr m k) (t + 1) := by simp only [sumK]; rw [← Hx.out, ← Hsm.out]
                refine ⟨t + 1, by omega, by go_num, by rw [← e1], fun u hu => ?_⟩
                by_cases e : u = t + 1
                · subst e; rw [← e1]; exact ⟨hsa, hsb⟩
                · exact Hsum.out u (by omega)
              case measure => simp [intOf]; omega
            · go_wp2_with fail
              refine (l1In_any _ _ _ w).mono ?_
              rintro e w2 ⟨ha, rfl⟩
              obtain rfl := ha.isnt (fun h => hsx ⟨by omega, by omega⟩)
              clear ha
              go_wp2
              go_ret
              refine ⟨Ans.no fun h => ?_, rfl⟩
              have := (h k hlt).1 (t + 1) (by omega)
              simp only [sumK] at this
              rw [← Hx.out, ← Hsm.out] at this
              exact hsx this
          · go_wp2_with fail
            refine (l1In_any _ _ _ w).mono ?_
            rintro e w2 ⟨ha, rfl⟩
            obtain rfl := ha.isnt (fun h => hx ⟨by omega, by omega⟩)
            clear ha
            go_wp2
            go_ret
            refine ⟨Ans.no fun h => ?_, rfl⟩
            have := (h k hlt).1 (t + 1) (by omega)
            simp only [sumK] at this
            rw [← Hx.out, ← Hsm.out] at this
            omega
        · obtain rfl : t = (gr m k).length := by omega
          obtain ⟨s, hsm⟩ : ∃ s, s = sumK (gr m k) (gr m k).length := ⟨_, rfl⟩
          rw [← hsm] at hs0 hs1 ⊢
          have Hsm := Lib.hid hsm
          clear hx1 hsm
          by_cases he : s = 1
          · have hb : (s != 1) = false := by simp [he]
            have He := Lib.hid he
            clear he
            go_wp2
            go_round
            case rel =>
              refine ⟨k + 1, by omega, by go_num, fun j hj => ?_⟩
              by_cases e : j = k
              · subst e; exact ⟨Hsum.out, by rw [← Hsm.out]; exact He.out⟩
              · exact Hd.out j (by omega)
            case measure => simp [intOf]; omega
          · have hb : (s != 1) = true := by simp [he]
            go_wp2
            go_ret
            refine ⟨Ans.no fun h => ?_, rfl⟩
            have := (h k hlt).2
            rw [← Hsm.out] at this
            exact he this
    · obtain rfl : k = m.length := by omega
      go_wp2
      go_ret
      exact ⟨Ans.yes hdone, rfl⟩
end Go.Proofs.YtnhkclnloiiihaaDoor

