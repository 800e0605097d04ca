/- Parts of proofs: contracts and plain facts. Conditions: as each says. -/
import Derived.Test.YtmkldodkpijfjaaProg
import Derived.WalkKit
import Derived.WalkSpells
import Derived.WalkLawsBesides
import Derived.Lib.Hide
import Derived.BigQuiet
import Derived.Deep.QuietTactic
import Derived.Test.YtmkldodkpijfjaaRows
import Derived.ProofKit
import Derived.OpenShut
import Derived.ShutString
import Derived.ChangeOld
import Derived.Deep.Matrix
import Derived.JoinedOf
import Derived.KernelRfl
namespace Go.Proofs.Ytmkldodkpijfjaa
open Go.RowKit

/-- the number at an index, the row at an index -/
def gi (xs : List Int) (i : Nat) : Int := xs.getD i 0
def gr (m : List (List Int)) (i : Nat) : List Int := m.getD i []

theorem gi_lt {xs : List Int} {i : Nat} (h : i < xs.length) : gi xs i = xs[i] := by simp [gi, List.getD, h]
theorem gr_lt {m : List (List Int)} {i : Nat} (h : i < m.length) : gr m i = m[i] := by simp [gr, List.getD, h]
theorem gi_nil (i : Nat) : gi [] i = 0 := by simp [gi]
theorem gi_cons_zero (x : Int) (xs : List Int) : gi (x :: xs) 0 = x := rfl
theorem gi_cons_succ (x : Int) (xs : List Int) (i : Nat) : gi (x :: xs) (i + 1) = gi xs i := by simp [gi]
theorem gr_cons_zero (x : List Int) (xs : List (List Int)) : gr (x :: xs) 0 = x := rfl
theorem gr_cons_succ (x : List Int) (xs : List (List Int)) (i : Nat) : gr (x :: xs) (i + 1) = gr xs i := by simp [gr]
theorem gi_mem {xs : List Int} {i : Nat} (h : i < xs.length) : gi xs i ∈ xs := by rw [gi_lt h]; exact List.getElem_mem _
theorem gr_mem {m : List (List Int)} {i : Nat} (h : i < m.length) : gr m i ∈ m := by rw [gr_lt h]; exact List.getElem_mem _
theorem gi_set {xs : List Int} {i j : Nat} {x : Int} (h : i < xs.length) : gi (xs.set i x) j = if j = i then x else gi xs j := by
  simp only [gi, List.getD, List.getElem?_set]
  by_cases e : i = j
  · subst e; simp [h]
  · rw [if_neg e, if_neg (fun h => e h.symm)]

theorem ext_gi {xs ys : List Int} (h : xs.length = ys.length) (e : ∀ i, i < xs.length → gi xs i = gi ys i) : xs = ys := by
  apply List.ext_getElem h
  intro i h1 h2
  have := e i h1
  rwa [gi_lt h1, gi_lt h2] at this

theorem ext_gr {xs ys : List (List Int)} (h : xs.length = ys.length) (e : ∀ i, i < xs.length → gr xs i = gr ys i) : xs = ys := by
  apply List.ext_getElem h
  intro i h1 h2
  have := e i h1
  rwa [gr_lt h1, gr_lt h2] at this

/-- the cells at an address read as these integers -/
def IntsAt (w : World) (ao : Option Addr) (xs : List Int) : Prop :=
  ∀ i, i < xs.length → ∃ b o, ao = some ⟨b, o, none⟩ ∧ w.cell? ⟨b, o + i, none⟩ = some (.int .i64 (gi xs i))

/-- the cells at an address lead to these rows -/
def MatAt (w : World) (ao : Option Addr) (m : List (List Int)) : Prop :=
  ∀ i, i < m.length → ∃ b o r c, ao = some ⟨b, o, none⟩ ∧ w.cell? ⟨b, o + i, none⟩ = some (.slice r (gr m i).length c) ∧ IntsAt w r (gr m i) ∧ (gr m i).length ≤ c ∧ c ≤ 9223372036854775807

/-- no more than 2^20 rows, and none longer than that -/
def Small (m : List (List Int)) : Prop := m.length ≤ 1048576 ∧ ∀ i, i < m.length → (gr m i).length ≤ 1048576

/-- each number fits an int -/
def WfI (xs : List Int) : Prop := ∀ i, i < xs.length → -9223372036854775808 ≤ gi xs i ∧ gi xs i ≤ 9223372036854775807
def WfM (m : List (List Int)) : Prop := ∀ i, i < m.length → WfI (gr m i)

theorem cell_below {w w' : World} {a : Addr} {v : Value} (h : w.cell? a = some v) (hb : Below w.heap.size w w') : w'.cell? a = some v := by
  rw [hb.cell (World.block_lt_of_cell? _ _ h)]; exact h

theorem IntsAt.below {w w' : World} {ao : Option Addr} {xs : List Int} (h : IntsAt w ao xs) (hb : Below w.heap.size w w') : IntsAt w' ao xs := by
  intro i hi
  obtain ⟨b, o, e, hc⟩ := h i hi
  exact ⟨b, o, e, cell_below hc hb⟩

theorem MatAt.below {w w' : World} {ao : Option Addr} {m : List (List Int)} (h : MatAt w ao m) (hb : Below w.heap.size w w') : MatAt w' ao m := by
  intro i hi
  obtain ⟨b, o, r, c, e, hc, hr, h1, h2⟩ := h i hi
  exact ⟨b, o, r, c, e, cell_below hc hb, hr.below hb, h1, h2⟩

theorem IntsAt.nil (w : World) (ao : Option Addr) : IntsAt w ao [] := fun i hi => absurd hi (by simp)
theorem MatAt.nil (w : World) (ao : Option Addr) : MatAt w ao [] := fun i hi => absurd hi (by simp)

/-- a call that only reads: the world has drawn, no more -/
def Q (w w' : World) : Prop := ∃ n, w' = w.drewN n
theorem Q.refl (w : World) : Q w w := ⟨0, rfl⟩
theorem Q.trans {a b c : World} (h : Q a b) (k : Q b c) : Q a c := by
  obtain ⟨n, rfl⟩ := h
  obtain ⟨m, rfl⟩ := k
  exact ⟨n + m, World.drewN_drewN _ _ _⟩
theorem Q.drewN {a b : World} (h : Q a b) (n : Nat) : Q a (b.drewN n) := h.trans ⟨n, rfl⟩
theorem Q.drew {a b : World} (h : Q a b) : Q a b.drew := h.trans ⟨1, rfl⟩
theorem Q.below {a b : World} (h : Q a b) (B : Nat) : Below B a b := by
  obtain ⟨n, rfl⟩ := h
  exact below_drewN (Below.refl _ _) n

/-- it returns whether p holds -/
def Ans (p : Prop) (e : Ending) : Prop := ∃ b, e = .returned (.bool b) ∧ (b = true ↔ p)
theorem Ans.yes {p : Prop} (h : p) : Ans p (.returned (.bool true)) := ⟨true, rfl, by simp [h]⟩
theorem Ans.no {p : Prop} (h : ¬ p) : Ans p (.returned (.bool false)) := ⟨false, rfl, by simp [h]⟩
theorem Ans.gives {p : Prop} {e : Ending} (h : Ans p e) : (p ∧ e = .returned (.bool true)) ∨ (¬ p ∧ e = .returned (.bool false)) := by
  obtain ⟨b, rfl, hb⟩ := h
  cases b
  · exact .inr ⟨fun hp => by simpa using hb.2 hp, rfl⟩
  · exact .inl ⟨hb.1 rfl, rfl⟩
theorem Ans.is {p : Prop} {e : Ending} (h : Ans p e) (hp : p) : e = .returned (.bool true) := by
  rcases h.gives with ⟨_, e⟩ | ⟨hn, _⟩
  · exact e
  · exact absurd hp hn
theorem Ans.isnt {p : Prop} {e : Ending} (h : Ans p e) (hp : ¬ p) : e = .returned (.bool false) := by
  rcases h.gives with ⟨hn, _⟩ | ⟨_, e⟩
  · exact absurd hn hp
  · exact e
theorem Ans.iff {p q : Prop} {e : Ending} (h : Ans p e) (hp : p ↔ q) : Ans q e := by
  obtain ⟨b, rfl, hb⟩ := h
  exact ⟨b, rfl, hb.trans hp⟩

/-- a slice of integers that the call owns from block B on -/
def OwnI (w : World) (B : Nat) (v : Value) (xs : List Int) : Prop := w.ownsRow B 3 1 v xs.length (xs.map (Value.int .i64))

/-- a slice of n slices of integers that the call owns from block B on; the first k rows read as those of m; no two of them share a block -/
structure OwnP (w : World) (B : Nat) (v : Value) (n : Nat) (m : List (List Int)) (k : Nat) (vs : List Value) : Prop where
  top : w.ownsRow B 38 1 v n vs
  rows : ∀ i, i < k → OwnI w B (vs.getD i undef) (gr m i)
  apart : ∀ i j, i < j → j < k → ∀ g, (vs.getD i undef).ownBlock = some g → (vs.getD j undef).ownBlock ≠ some g

/-- .. all of them -/
def OwnM (w : World) (B : Nat) (v : Value) (m : List (List Int)) : Prop := ∃ vs, OwnP w B v m.length m m.length vs

theorem ownsRow_below {w w' : World} {B : Nat} {e : TypeId} {v : Value} {n : Nat} {xs : List Value} (h : w.ownsRow B e 1 v n xs) (hb : Below w.heap.size w w') : w'.ownsRow B e 1 v n xs := by
  refine ⟨h.1, ?_⟩
  rcases h.2 with h0 | ⟨g, cap, cur, hv, hg, hh, r⟩
  · exact .inl h0
  · exact .inr ⟨g, cap, cur, hv, hg, by rw [hb.block g (lt_of_block hh)]; exact hh, r⟩

theorem ownsRow_base {w : World} {B B' : Nat} {e : TypeId} {v : Value} {n : Nat} {xs : List Value} (h : w.ownsRow B e 1 v n xs) (hB : B' ≤ B) : w.ownsRow B' e 1 v n xs := by
  refine ⟨h.1, ?_⟩
  rcases h.2 with h0 | ⟨g, cap, cur, hv, hg, r⟩
  · exact .inl h0
  · exact .inr ⟨g, cap, cur, hv, by omega, r⟩

theorem OwnI.below {w w' : World} {B : Nat} {v : Value} {xs : List Int} (h : OwnI w B v xs) (hb : Below w.heap.size w w') : OwnI w' B v xs := ownsRow_below h hb
theorem OwnI.base {w : World} {B B' : Nat} {v : Value} {xs : List Int} (h : OwnI w B v xs) (hB : B' ≤ B) : OwnI w B' v xs := ownsRow_base h hB

theorem OwnP.below {w w' : World} {B n k : Nat} {v : Value} {m : List (List Int)} {vs : List Value} (h : OwnP w B v n m k vs) (hb : Below w.heap.size w w') : OwnP w' B v n m k vs :=
  ⟨ownsRow_below h.top hb, fun i hi => (h.rows i hi).below hb, h.apart⟩
theorem OwnP.base {w : World} {B B' n k : Nat} {v : Value} {m : List (List Int)} {vs : List Value} (h : OwnP w B v n m k vs) (hB : B' ≤ B) : OwnP w B' v n m k vs :=
  ⟨ownsRow_base h.top hB, fun i hi => (h.rows i hi).base hB, h.apart⟩
theorem OwnM.below {w w' : World} {B : Nat} {v : Value} {m : List (List Int)} (h : OwnM w B v m) (hb : Below w.heap.size w w') : OwnM w' B v m := ⟨_, h.choose_spec.below hb⟩
theorem OwnM.base {w : World} {B B' : Nat} {v : Value} {m : List (List Int)} (h : OwnM w B v m) (hB : B' ≤ B) : OwnM w B' v m := ⟨_, h.choose_spec.base hB⟩

/-- what is owned reads so -/
theorem ownsRow_read {w : World} {B : Nat} {e : TypeId} {v : Value} {n : Nat} {xs : List Value} (h : w.ownsRow B e 1 v n xs) :
    ∃ ao c, v = .slice ao n c ∧ n ≤ c ∧ c ≤ 9223372036854775807 ∧ ∀ i, i < n → ∃ b o, ao = some ⟨b, o, none⟩ ∧ w.cell? ⟨b, o + i, none⟩ = some (xs.getD i undef) := by
  rcases h.2 with ⟨rfl, h0⟩ | ⟨g, cap, cur, rfl, hg, hh, hn, hm, hs, ht⟩
  · exact ⟨none, 0, by rw [h0], by omega, by omega, fun i hi => absurd hi (by omega)⟩
  · refine ⟨some ⟨g, 0, none⟩, cap, rfl, hn, hm, fun i hi => ⟨g, 0, rfl, ?_⟩⟩
    have hx := h.cellAt i (by omega)
    have hl := h.1
    rw [Nat.zero_add, hx, List.getD, List.getElem?_eq_getElem (by omega)]
    rfl

theorem OwnI.read {w : World} {B : Nat} {v : Value} {xs : List Int} (h : OwnI w B v xs) : ∃ ao c, v = .slice ao xs.length c ∧ xs.length ≤ c ∧ c ≤ 9223372036854775807 ∧ IntsAt w ao xs := by
  obtain ⟨ao, c, hv, h1, h2, hc⟩ := ownsRow_read h
  refine ⟨ao, c, hv, h1, h2, fun i hi => ?_⟩
  obtain ⟨b, o, e, hcell⟩ := hc i hi
  refine ⟨b, o, e, ?_⟩
  rw [hcell]
  simp [gi, List.getD, hi]

theorem OwnM.read {w : World} {B : Nat} {v : Value} {m : List (List Int)} (h : OwnM w B v m) : ∃ ao c, v = .slice ao m.length c ∧ m.length ≤ c ∧ c ≤ 9223372036854775807 ∧ MatAt w ao m := by
  obtain ⟨vs, h⟩ := h
  obtain ⟨ao, c, hv, h1, h2, hc⟩ := ownsRow_read h.top
  refine ⟨ao, c, hv, h1, h2, fun i hi => ?_⟩
  obtain ⟨b, o, e, hcell⟩ := hc i hi
  obtain ⟨r, c', hr, h3, h4, hx⟩ := (h.rows i hi).read
  exact ⟨b, o, r, c', e, by rw [hcell, hr], hx, h3, h4⟩

theorem OwnI.nil (w : World) (B : Nat) : OwnI w B (.slice none 0 0) [] := World.ownsRow_nil _ _ _ _
theorem OwnM.nil (w : World) (B : Nat) : OwnM w B (.slice none 0 0) [] := ⟨[], World.ownsRow_nil _ _ _ _, fun i hi => absurd hi (by simp), fun i j _ hj => absurd hj (by simp)⟩

theorem OwnI.len {w : World} {B n c : Nat} {ao : Option Addr} {xs : List Int} (h : OwnI w B (.slice ao n c) xs) : xs.length = n := by
  rcases h.2 with ⟨h0, h1⟩ | ⟨g, cap, cur, hv, _⟩
  · simp only [Value.slice.injEq] at h0; omega
  · simp only [Value.slice.injEq] at hv; omega

/-- a store into an owned slice of integers -/
theorem OwnI.store {w : World} {B g n c : Nat} {xs : List Int} (h : OwnI w B (.slice (some ⟨g, 0, none⟩) n c) xs) (i : Nat) (x : Int) :
    OwnI (w.setCell ⟨g, i, none⟩ (.int .i64 x)) B (.slice (some ⟨g, 0, none⟩) n c) (xs.set i x) := by
  have hl := h.len
  subst hl
  have := (World.ownsRow.stored h i (.int .i64 x)).1
  unfold OwnI
  rw [List.length_set, List.map_set]
  exact this

theorem OwnI.cellAt {w : World} {B g n c : Nat} {xs : List Int} (h : OwnI w B (.slice (some ⟨g, 0, none⟩) n c) xs) (i : Nat) (hi : i < n) : w.cell? ⟨g, i, none⟩ = some (.int .i64 (gi xs i)) := by
  have hl := h.len
  subst hl
  rw [World.ownsRow.cellAt h i (by omega)]
  simp [gi, List.getD, hi]

theorem OwnI.frozenAt {w : World} {B g n c : Nat} {xs : List Int} (h : OwnI w B (.slice (some ⟨g, 0, none⟩) n c) xs) (i : Nat) : w.frozen? ⟨g, i, none⟩ = false := by
  have hl := h.len
  subst hl
  exact World.ownsRow.frozenAt h i

/-- a write elsewhere -/
theorem OwnI.setOther {w : World} {B : Nat} {v : Value} {xs : List Int} (h : OwnI w B v xs) {a : Addr} (ha : v.ownBlock ≠ some a.block) (u : Value) : OwnI (w.setCell a u) B v xs := ownsRow_setCell_other h ha u

/-- the block of an owned slice -/
theorem OwnI.lt {w : World} {B : Nat} {v : Value} {xs : List Int} (h : OwnI w B v xs) : ∀ k, v.ownBlock = some k → B ≤ k ∧ k < w.heap.size := World.ownsRow.lt h

/-- where it has an element it lies at the head of a block -/
theorem OwnI.isAt {w : World} {B n c : Nat} {ao : Option Addr} {xs : List Int} (h : OwnI w B (.slice ao n c) xs) (hn : 0 < n) : ∃ g, ao = some ⟨g, 0, none⟩ ∧ B ≤ g ∧ g < w.heap.size := by
  have hlt := OwnI.lt h
  rcases h.2 with ⟨h0, h1⟩ | ⟨g, cap, cur, hv, hg, _⟩
  · simp only [Value.slice.injEq] at h0; omega
  · simp only [Value.slice.injEq] at hv
    obtain ⟨rfl, _⟩ := hv
    exact ⟨g, rfl, hlt g rfl⟩

/-- nothing but blocks of S has been written; no block is new -/
structure OnlyW (S : Nat → Prop) (w w' : World) : Prop where
  os : w'.os = w.os
  tape : w'.tape = w.tape
  output : w'.output = w.output
  size : w'.heap.size = w.heap.size
  block : ∀ k, ¬ S k → w'.heap[k]? = w.heap[k]?

theorem OnlyW.refl (S : Nat → Prop) (w : World) : OnlyW S w w := ⟨rfl, rfl, rfl, rfl, fun _ _ => rfl⟩
theorem OnlyW.trans {S : Nat → Prop} {a b c : World} (h : OnlyW S a b) (k : OnlyW S b c) : OnlyW S a c :=
  ⟨k.os.trans h.os, k.tape.trans h.tape, k.output.trans h.output, k.size.trans h.size, fun i hi => (k.block i hi).trans (h.block i hi)⟩
theorem OnlyW.mono {S T : Nat → Prop} {a b : World} (h : OnlyW S a b) (e : ∀ k, S k → T k) : OnlyW T a b := ⟨h.os, h.tape, h.output, h.size, fun k hk => h.block k (fun hs => hk (e k hs))⟩
theorem OnlyW.setCell {S : Nat → Prop} {a w : World} (h : OnlyW S a w) {p : Addr} (hp : S p.block) (u : Value) : OnlyW S a (w.setCell p u) :=
  h.trans ⟨rfl, rfl, rfl, by simp [World.setCell], fun k hk => Below.heap_setCell _ _ _ _ (fun e => hk (e ▸ hp))⟩
theorem OnlyW.below {S : Nat → Prop} {a b : World} (h : OnlyW S a b) {B : Nat} (hS : ∀ k, S k → B ≤ k) : Below B a b :=
  ⟨h.os, h.tape, h.output, Nat.le_of_eq h.size.symm, fun k hk => h.block k (fun hs => by have := hS k hs; omega)⟩

theorem ownsRow_only {w w' : World} {S : Nat → Prop} {B : Nat} {e : TypeId} {v : Value} {n : Nat} {xs : List Value} (h : w.ownsRow B e 1 v n xs) (ho : OnlyW S w w') (hS : ∀ g, v.ownBlock = some g → ¬ S g) : w'.ownsRow B e 1 v n xs := by
  refine ⟨h.1, ?_⟩
  rcases h.2 with h0 | ⟨g, cap, cur, rfl, hg, hh, r⟩
  · exact .inl h0
  · exact .inr ⟨g, cap, cur, rfl, hg, by rw [ho.block g (hS g rfl)]; exact hh, r⟩

/-- what make lays -/
theorem OwnI.made {w : World} {B g n : Nat} (h : w.ownsRow B 3 1 (.slice (some ⟨g, 0, none⟩) n n) n (madeCells #[Value.int .i64 0] n).toList) :
    OwnI w B (.slice (some ⟨g, 0, none⟩) n n) (List.replicate n 0) := by
  unfold OwnI
  rw [List.length_replicate, List.map_replicate, ← toList_madeCells_one]
  exact h

/-- the block of a row is not that of the rows' own slice: their elements differ -/
theorem OwnI.ne_top {w : World} {B g : Nat} {v : Value} {xs : List Int} (h : OwnI w B v xs) {cur : Array Value} {q : Nat × Nat} (hg : w.heap[g]? = some (.cells cur 38 q)) : v.ownBlock ≠ some g := by
  rcases h.2 with ⟨rfl, _⟩ | ⟨g', cap, cur', rfl, _, hh, _⟩
  · simp [Value.ownBlock]
  · intro e
    simp only [Value.ownBlock, Option.some.injEq] at e
    subst e
    rw [hg] at hh
    simp at hh

theorem OwnI.ne_row {w : World} {B B' n : Nat} {v u : Value} {xs : List Int} {vs : List Value} (h : OwnI w B v xs) (ht : w.ownsRow B' 38 1 u n vs) : ∀ g, v.ownBlock = some g → u.ownBlock ≠ some g := by
  intro g hg hu
  rcases ht.2 with ⟨rfl, _⟩ | ⟨g', cap, cur', rfl, _, hh, _⟩
  · simp [Value.ownBlock] at hu
  · simp only [Value.ownBlock, Option.some.injEq] at hu
    subst hu
    exact h.ne_top hh hg

theorem ownsRow_block {w : World} {B g n c : Nat} {e : TypeId} {vs : List Value} (h : w.ownsRow B e 1 (.slice (some ⟨g, 0, none⟩) n c) n vs) : ∃ cur, w.heap[g]? = some (.cells cur e (0, 0)) := by
  rcases h.2 with ⟨h0, _⟩ | ⟨g', cap, cur, hv, _, hh, _⟩
  · simp at h0
  · simp only [Value.slice.injEq, Option.some.injEq, Addr.mk.injEq, and_true, true_and] at hv
    obtain ⟨rfl, _⟩ := hv
    exact ⟨cur, hh⟩

/-- a row is stored: the k-th -/
theorem OwnP.put {w : World} {B g n c k : Nat} {m : List (List Int)} {vs : List Value} {v : Value} (h : OwnP w B (.slice (some ⟨g, 0, none⟩) n c) n m k vs) (hk : k < n) (hv : OwnI w B v (gr m k))
    (hne : ∀ j, j < k → ∀ g', (vs.getD j undef).ownBlock = some g' → v.ownBlock ≠ some g') :
    OwnP (w.setCell ⟨g, k, none⟩ v) B (.slice (some ⟨g, 0, none⟩) n c) n m (k + 1) (vs.set k v) := by
  obtain ⟨cur, hcur⟩ := ownsRow_block h.top
  have hl : vs.length = n := by simpa using h.top.1
  have hget : ∀ j, j < k + 1 → (vs.set k v).getD j undef = if j = k then v else vs.getD j undef := by
    intro j hj
    simp only [List.getD, List.getElem?_set]
    by_cases e : k = j
    · subst e; rw [if_pos rfl, if_pos rfl, if_pos (by omega)]; rfl
    · rw [if_neg e, if_neg (fun h => e h.symm)]
  refine ⟨(World.ownsRow.stored h.top k v).1, fun i hi => ?_, fun i j hij hj g' hg' => ?_⟩
  · rw [hget i hi]
    split
    · next e => subst e; exact hv.setOther (hv.ne_top hcur) _
    · next e => exact (h.rows i (by omega)).setOther ((h.rows i (by omega)).ne_top hcur) _
  · rw [hget i (by omega), if_neg (by omega)] at hg'
    rw [hget j hj]
    split
    · next e => exact hne i (by omega) g' hg'
    · next e => exact h.apart i j hij (by omega) g' hg'

/-- what make lays for rows -/
theorem OwnP.made {w : World} {B g n : Nat} {m : List (List Int)} (h : w.ownsRow B 38 1 (.slice (some ⟨g, 0, none⟩) n n) n (madeCells #[Value.slice none 0 0] n).toList) :
    OwnP w B (.slice (some ⟨g, 0, none⟩) n n) n m 0 (madeCells #[Value.slice none 0 0] n).toList :=
  ⟨h, fun i hi => absurd hi (by omega), fun i j _ hj => absurd hj (by omega)⟩

theorem OwnP.cellAt {w : World} {B g n c k : Nat} {m : List (List Int)} {vs : List Value} (h : OwnP w B (.slice (some ⟨g, 0, none⟩) n c) n m k vs) (i : Nat) (hi : i < n) : w.cell? ⟨g, i, none⟩ = some (vs.getD i undef) := by
  have hl : vs.length = n := by simpa using h.top.1
  rw [World.ownsRow.cellAt h.top i (by omega), List.getD, List.getElem?_eq_getElem (by omega)]
  rfl

/-- a row of blocks not below that of any row before -/
theorem OwnP.fresh {w : World} {B n k B' : Nat} {v u : Value} {m : List (List Int)} {vs : List Value} {xs : List Int} {w' : World} (h : OwnP w B v n m k vs) (hu : OwnI w' B' u xs) (hB : w.heap.size ≤ B') :
    ∀ j, j < k → ∀ g', (vs.getD j undef).ownBlock = some g' → u.ownBlock ≠ some g' := by
  intro j hj g' hg' hu'
  have h1 := (h.rows j hj).lt g' hg'
  have h2 := hu.lt g' hu'
  omega

/-- a number has been appended -/
theorem OwnI.snoc {w w1 : World} {B : Nat} {v v' : Value} {xs : List Int} {x : Int} {o : Obj} (h : OwnI w B v xs) (hB : B ≤ w.heap.size)
    (h1 : w1.ownsRow B 3 1 v' (xs.length + 1) (xs.map (Value.int .i64) ++ [.int .i64 x])) (hg : (w.alloc o).grownBy w1 v.ownBlock) : OwnI w1 B v' (xs ++ [x]) ∧ Below B w w1 := by
  refine ⟨by unfold OwnI; rw [List.length_append, List.map_append]; exact h1, ?_⟩
  refine Below.grown ((Below.refl B w).alloc hB o) hg (by simp; omega) (fun k hk => (h.lt k hk).1)

/-- a row has been appended -/
theorem OwnP.snoc {w w1 : World} {B k : Nat} {v v' u : Value} {m : List (List Int)} {vs : List Value} {o : Obj} (h : OwnP w B v k m k vs) (hB : B ≤ w.heap.size) (hu : OwnI w B u (gr m k))
    (hne : ∀ j, j < k → ∀ g, (vs.getD j undef).ownBlock = some g → u.ownBlock ≠ some g)
    (h1 : w1.ownsRow B 38 1 v' (k + 1) (vs ++ [u])) (hg : (w.alloc o).grownBy w1 v.ownBlock) : OwnP w1 B v' (k + 1) m (k + 1) (vs ++ [u]) ∧ Below B w w1 := by
  have hl : vs.length = k := by simpa using h.top.1
  have hget : ∀ j, j < k + 1 → (vs ++ [u]).getD j undef = if j = k then u else vs.getD j undef := by
    intro j hj
    simp only [List.getD]
    split
    · next e => subst e; rw [List.getElem?_append_right (by omega), hl]; simp
    · next e => rw [List.getElem?_append_left (by omega)]
  have kept : ∀ (x : Value) (ys : List Int), OwnI w B x ys → OwnI w1 B x ys := by
    intro x ys hx
    refine (World.ownsRow.alloc hx o).kept hg ?_
    cases hb : x.ownBlock with
    | none => exact .inl rfl
    | some g => exact .inr (fun e => hx.ne_row h.top g hb e.symm)
  refine ⟨⟨h1, fun i hi => ?_, fun i j hij hj g hg' => ?_⟩, Below.grown ((Below.refl B w).alloc hB o) hg (by simp; omega) (fun k hk => (World.ownsRow.lt h.top k hk).1)⟩
  · rw [hget i hi]
    split
    · next e => subst e; exact kept _ _ hu
    · next e => exact kept _ _ (h.rows i (by omega))
  · rw [hget i (by omega), if_neg (by omega)] at hg'
    rw [hget j hj]
    split
    · next e => exact hne i (by omega) g hg'
    · next e => exact h.apart i j hij (by omega) g hg'

theorem one_new {w : World} {o : Obj} {x : Value} {e : TypeId} (ho : o = .cells #[x] e) : ∀ j u, [x][j]? = some u → (w.alloc o).cell? ((⟨w.heap.size, 0, none⟩ : Addr).add j) = some u := by
  subst ho
  exact cell_one_new _ _ _

theorem Try.info_int : (Try.prog.info? 3).map (fun i => (i.zero, i.size, i.bytes)) = some (some (.int .i64 0), 1, 8) := by kernel_rfl
theorem Try.info_ints : (Try.prog.info? 38).map (fun i => (i.zero, i.size, i.bytes)) = some (some (.slice none 0 0), 1, 24) := by kernel_rfl

end Go.Proofs.Ytmkldodkpijfjaa

namespace Go.Proofs.Ytmkldodkpijfjaa
open Go.ChangeShapes Go.WideShapes Go.ChangeAt Go.RowKit Go.Deep

theorem Try.own : ownKnob Try.prog.godebug = none := by kernel_rfl
theorem Try.laidOut : laidOutB Try.prog = true := by kernel_rfl
theorem Try.cells_int : Try.prog.cellsOf 3 = 1 := by kernel_rfl
theorem Try.cells_ints : Try.prog.cellsOf 38 = 1 := by kernel_rfl

theorem at_zero {w : World} {a : Addr} {v : Value} (h : w.cell? (a.add 0) = some v) : ∃ b o, a = ⟨b, o, none⟩ := by
  have hs := World.cell?_spot h
  obtain ⟨b, o, s⟩ := a
  exact ⟨b, o, by simpa [Addr.add] using hs⟩

/-- a slice of integers that came in -/
theorem open_ints_arg {H : Type} {enc : TypeId × Value → H} {w : World} {ao : Option Addr} {n c : Nat} {d : DataW H} {p : List MemPlace}
    (h : DataW.Trod enc Try.prog w 0 (fun _ => true) true 38 (.slice ao n c) d p) :
    ∃ xs : List Int, xs.length = n ∧ n ≤ 9223372036854775807 ∧ WfI xs ∧ IntsAt w ao xs := by
  obtain ⟨fuel, hf⟩ := h
  rcases open_ints Try.underlying38 Try.underlying3 Try.cells_int hf with ⟨hcs, _⟩ | ⟨x, l, c', zs, hcs, _, hl, hm, hz, _, hcell, hwz⟩
  · simp [Value.cells] at hcs
    obtain ⟨rfl, rfl, rfl⟩ := hcs
    exact ⟨[], rfl, by omega, fun i hi => absurd hi (by simp), IntsAt.nil _ _⟩
  · simp [Value.cells] at hcs
    obtain ⟨rfl, rfl, rfl⟩ := hcs
    simp only [if_true] at hz
    have hlen : (zs.take n).length = n := by rw [List.length_take]; omega
    have hgi : ∀ i, i < n → gi (zs.take n) i = zs.getD i 0 := fun i hi => by simp [gi, List.getD, hi]
    have hm' : c ≤ 9223372036854775807 := by simpa [maxLen] using hm
    refine ⟨zs.take n, hlen, by omega, fun i hi => ?_, fun i hi => ?_⟩
    · rw [hlen] at hi
      rw [hgi i hi]
      exact range_i64 hwz i
    · rw [hlen] at hi
      have hc := hcell i (by omega)
      obtain ⟨b, o, rfl⟩ := at_zero (hcell 0 (by omega))
      rw [Addr.add_lit] at hc
      exact ⟨b, o, rfl, by rw [hgi i hi]; exact hc⟩

/-- a slice of slices of integers that came in -/
theorem open_mat_arg {H : Type} {enc : TypeId × Value → H} {w : World} {ao : Option Addr} {n c : Nat} {d : DataW H} {p : List MemPlace}
    (h : DataW.Trod enc Try.prog w 0 (fun _ => true) true 22 (.slice ao n c) d p) :
    ∃ m : List (List Int), m.length = n ∧ n ≤ 9223372036854775807 ∧ WfM m ∧ (∀ i, i < m.length → (gr m i).length ≤ 9223372036854775807) ∧ MatAt w ao m := by
  obtain ⟨fuel, hf⟩ := h
  rcases open_int_rows Try.underlying22 Try.underlying38 Try.underlying3 Try.cells_ints Try.cells_int hf with ⟨hcs, _⟩ | ⟨x, l, c', A, L, C, Z, hcs, _, hl, hm, _, hrows⟩
  · simp [Value.cells] at hcs
    obtain ⟨rfl, rfl, rfl⟩ := hcs
    exact ⟨[], rfl, by omega, fun i hi => absurd hi (by simp), fun i hi => absurd hi (by simp), MatAt.nil _ _⟩
  · simp [Value.cells] at hcs
    obtain ⟨rfl, rfl, rfl⟩ := hcs
    have hm' : c ≤ 9223372036854775807 := by simpa [maxLen] using hm
    obtain ⟨m, hmd⟩ : ∃ m : List (List Int), m = (List.range n).map fun r => (Z r).take (L r) := ⟨_, rfl⟩
    have hlen : m.length = n := by rw [hmd]; simp
    have hgr : ∀ r, r < n → gr m r = (Z r).take (L r) := fun r hr => by rw [gr_lt (by omega)]; simp [hmd]
    have hL : ∀ r, r < n → (gr m r).length = L r ∧ L r ≤ C r ∧ C r ≤ 9223372036854775807 ∧ ∀ i, i < L r → gi (gr m r) i = (Z r).getD i 0 := by
      intro r hr
      obtain ⟨_, h1, h2, h3, _⟩ := hrows r (by omega)
      rw [hgr r hr]
      exact ⟨by rw [List.length_take]; omega, h1, by simpa [maxLen] using h2, fun i hi => by simp [gi, List.getD, hi]⟩
    refine ⟨m, hlen, by omega, fun r hr i hi => ?_, fun r hr => ?_, fun r hr => ?_⟩
    · rw [hlen] at hr
      obtain ⟨e, _, _, hg⟩ := hL r hr
      rw [e] at hi
      rw [hg i hi]
      exact range_i64 (hrows r (by omega)).2.2.2.2.1 i
    · rw [hlen] at hr
      obtain ⟨e, h1, h2, _⟩ := hL r hr
      omega
    · rw [hlen] at hr
      obtain ⟨e, h1, h2, hg⟩ := hL r hr
      obtain ⟨hc, _, _, hz, _, hnil, hcell⟩ := hrows r (by omega)
      obtain ⟨b, o, rfl⟩ := at_zero (hrows 0 (by omega)).1
      rw [Addr.add_lit] at hc
      refine ⟨b, o, A r, C r, rfl, by rw [e]; exact hc, fun i hi => ?_, by omega, h2⟩
      rw [e] at hi
      cases hA : A r with
      | none => have := hnil hA; omega
      | some a' =>
        have hc' := (hcell a' hA).2 i (by omega)
        obtain ⟨b', o', rfl⟩ := at_zero ((hcell a' hA).2 0 (by omega))
        rw [Addr.add_lit] at hc'
        exact ⟨b', o', rfl, by rw [hg i hi]; exact hc'⟩
end Go.Proofs.Ytmkldodkpijfjaa

namespace Go.Proofs.Ytmkldodkpijfjaa

theorem ws_blank (r : List Char) : wordsSigns (Char.ofNat 32 :: r) = [] :: wordsSigns r := by
  show wordsSigns (_ :: r) = _
  simp [wordsSigns]

theorem ws_cons (c : Char) (r : List Char) (h : c ≠ Char.ofNat 32) {w : List Char} {ws : List (List Char)} (hr : wordsSigns r = w :: ws) : wordsSigns (c :: r) = (c :: w) :: ws := by
  rw [wordsSigns.eq_3 _ _ (fun e => h (by simpa using e)), hr]

theorem ws_word (s r : List Char) (h : ∀ c ∈ s, c ≠ Char.ofNat 32) : wordsSigns (s ++ Char.ofNat 32 :: r) = s :: wordsSigns r := by
  induction s with
  | nil => exact ws_blank r
  | cons c s ih => exact ws_cons c _ (h c (by simp)) (ih (fun d hd => h d (by simp [hd])))

def headOk (l : List Char) : Bool :=
  l.take 8 == "harness ".toList && isSumSigns ((l.drop 8).take 64) && ((l.drop 8).drop 64).take 5 == " cut ".toList

theorem sum_plain {s : List Char} (h : isSumSigns s = true) : ∀ c ∈ s, c ≠ Char.ofNat 32 := by
  intro c hc e
  subst e
  unfold isSumSigns at h
  simp only [Bool.and_eq_true, List.all_eq_true] at h
  exact absurd (h.2 _ hc) (by decide)

theorem head_words {l : List Char} (h : headOk l = true) : ∃ rest, behindMainWord (wordsSigns l) = "cut".toList :: rest := by
  unfold headOk at h
  simp only [Bool.and_eq_true, beq_iff_eq] at h
  obtain ⟨⟨h1, h2⟩, h3⟩ := h
  have e : l = "harness".toList ++ Char.ofNat 32 :: ((l.drop 8).take 64 ++ Char.ofNat 32 :: ("cut".toList ++ Char.ofNat 32 :: (((l.drop 8).drop 64).drop 5))) := by
    conv => lhs; rw [← List.take_append_drop 8 l, h1, ← List.take_append_drop 64 (l.drop 8), ← List.take_append_drop 5 ((l.drop 8).drop 64), h3]
    rfl
  generalize ((l.drop 8).drop 64).drop 5 = t at e
  generalize hs : (l.drop 8).take 64 = s at e h2
  rw [e, ws_word _ _ (by decide), ws_word _ _ (sum_plain h2), ws_word _ _ (by decide)]
  refine ⟨wordsSigns t, ?_⟩
  show (if ((("harness".toList == "harness".toList) || ("harness".toList == "ownmain".toList)) && isSumSigns s) = true then _ else _) = _
  rw [if_pos (by rw [h2]; decide)]

set_option maxRecDepth 100000 in
theorem head_list : ∃ l, Try.prog.initOrder = String.ofList l ∧ headOk l = true := ⟨_, rfl, by kernel_rfl⟩
theorem head_is : ∃ rest, behindMainWord (wordsSigns Try.prog.initOrder.toList) = "cut".toList :: rest := by
  obtain ⟨l, h1, h2⟩ := head_list
  rw [h1, String.toList_ofList]
  exact head_words h2

theorem lays_not : Try.prog.laysLater = false := by kernel_rfl
theorem reflect_not : Try.prog.bearsReflect = false := by kernel_rfl
theorem door_fits : Try.prog.doorFits [] = true := by kernel_rfl
theorem strip_cut (rest : List (List Char)) : stripLifts liftWords ("cut".toList :: rest) = ([], "cut".toList :: rest) := by kernel_rfl

section
variable {P : Program} {rest : List (List Char)} (h : behindMainWord (wordsSigns P.initOrder.toList) = "cut".toList :: rest)
include h
theorem enter_of (h1 : P.laysLater = false) (h2 : P.bearsReflect = false) (h3 : P.doorFits [] = true) : P.mayEnter = true := by
  unfold Program.mayEnter
  rw [h]
  simp only [strip_cut, h1, h2, h3]
  simp
theorem lifts_of : P.headLifts = [] := by
  unfold Program.headLifts
  rw [h]
  simp only [strip_cut]
  simp
theorem final_of : P.liftsFinal = false := by
  unfold Program.liftsFinal
  rw [lifts_of h, h]
  simp
theorem make_of : P.make = some .cut := by
  unfold Program.make
  rw [h]
  simp
end

theorem may_enter : Try.prog.mayEnter = true := head_is.elim fun _ h => enter_of h lays_not reflect_not door_fits
theorem no_lifts : Try.prog.headLifts = [] := head_is.elim fun _ h => lifts_of h
theorem no_final : Try.prog.liftsFinal = false := head_is.elim fun _ h => final_of h
theorem made_cut : Try.prog.make = some .cut := head_is.elim fun _ h => make_of h

theorem and_i {a b : Bool} (ha : a = true) (hb : b = true) : (a && b) = true := by rw [ha, hb]; rfl
theorem lifted_ok {b : Bool} (h : b = false) : (b == Try.prog.liftsFinal) = true := by rw [no_final, h]; rfl
theorem make_ok {m : Make} (h : m = .cut) : (Try.prog.make == some m) = true := by rw [made_cut, h]; simp
end Go.Proofs.Ytmkldodkpijfjaa

namespace Go.Proofs.Ytmkldodkpijfjaa
open Go.RowKit

def szL (left : Int) (n : Nat) : Int := if left - n < 0 then -1 else left - n

set_option maxRecDepth 100000 in
set_option maxHeartbeats 400000 in
theorem szIntS_any (ao : Option Addr) (n c : Nat) (left : Int) (w : World) (hn : n ≤ 9223372036854775807) (h0 : 0 ≤ left) (h1 : left ≤ 1048576) :
    Calls Try.prog 17 #[.slice ao n c, .int .i64 left] w fun e w' => e = .returned (.int .i64 (szL left n)) ∧ w = w' := by
  unfold szL
  by_cases h : left - n < 0
  · rw [if_pos h]
    go_enter Try.func17, Try.ntmps17
    go_wp2
    go_ret
    exact ⟨rfl, rfl⟩
  · rw [if_neg h]
    go_enter Try.func17, Try.ntmps17
    go_wp2
    go_ret
    exact ⟨rfl, rfl⟩

-- toIntS: a copy
set_option maxRecDepth 100000 in
set_option maxHeartbeats 400000 in
theorem toIntS_any (ao : Option Addr) (c : Nat) (xs : List Int) (w : World) (hn : xs.length ≤ 1048576) (hx : IntsAt w ao xs) :
    Calls Try.prog 21 #[.slice ao xs.length c] w fun e w' => ∃ v, e = .returned v ∧ OwnI w' w.heap.size v xs ∧ Below w.heap.size w w' := by
  obtain ⟨i0, hi, hz0, hz1, hz2⟩ := info_parts Try.info_int
  have hmx : xs.length ≤ 9223372036854775807 := by omega
  go_enter Try.func21, Try.ntmps21
  go_wp2_with (at_make; refine wpList_make_full _ rfl _ _ 38 rfl w.heap.size 3 i0 (.int .i64 0) 1 Try.underlying38 hi hz0 hz1 _ _ _ _ xs.length rfl rfl rfl rfl ?c1 ?c2 ?c3 ?_)
  case c1 => rw [hz2]; omega
  case c2 => unfold maxLen; omega
  case c3 => simp
  intro w1 hown hg
  have hb1 : Below w.heap.size w w1 := (Below.refl _ _).grown hg (Nat.le_refl _) (fun _ h => by cases h)
  have hx1 := hx.below hb1
  have hown1 := OwnI.made hown
  clear hown hg
  go_wp2
  go_loopw [4] (fun i wr => ∃ (k : Nat) (ys : List Int), k ≤ xs.length ∧ i = .int .i64 k ∧ OwnI wr w.heap.size (.slice (some ⟨w.heap.size, 0, none⟩) xs.length xs.length) ys ∧ (∀ j, j < k → gi ys j = gi xs j) ∧ Below w.heap.size w wr)
    (fun i _ => xs.length - (intOf i).toNat)
  case atStart => exact ⟨0, _, Nat.zero_le _, rfl, hown1, fun j hj => absurd hj (by omega), hb1⟩
  case round =>
    obtain ⟨k, ys, hk, rfl, hown, heq, hbr⟩ := hrel
    clear hx1 hown1 hb1
    by_cases hlt : k < xs.length
    · obtain ⟨b, o, rfl, hc⟩ := hx.below hbr k hlt
      have hd := hown.cellAt k hlt
      have hf := hown.frozenAt k
      have Hst := Lib.hid (hown.store k (gi xs k))
      have Hl := Lib.hid hown.len
      have Heq := Lib.hid heq
      have Hbs := Lib.hid (hbr.setCell (p := ⟨w.heap.size, k, none⟩) (Nat.le_refl _) (.int .i64 (gi xs k)))
      clear heq hown hx
      go_wp2
      go_roundw
      case rel =>
        refine ⟨k + 1, _, by omega, by go_num, Hst.out, fun j hj => ?_, Hbs.out⟩
        rw [gi_set (by rw [Hl.out]; exact hlt)]
        split
        · next e => rw [e]
        · exact Heq.out j (by omega)
      case measure => simp [intOf]; omega
    · obtain rfl : k = xs.length := by omega
      go_wp2
      go_ret
      obtain rfl : ys = xs := ext_gi hown.len (fun j hj => heq j (by rw [hown.len] at hj; exact hj))
      exact ⟨_, rfl, hown, hbr⟩

-- toIntSS: a copy, row by row
set_option maxRecDepth 100000 in
set_option maxHeartbeats 400000 in
theorem toIntSS_any (ao : Option Addr) (c : Nat) (m : List (List Int)) (w : World) (hs : Small m) (hm : MatAt w ao m) :
    Calls Try.prog 7 #[.slice ao m.length c] w fun e w' => ∃ v, e = .returned v ∧ OwnM w' w.heap.size v m ∧ Below w.heap.size w w' := by
  obtain ⟨i0, hi, hz0, hz1, hz2⟩ := info_parts Try.info_ints
  obtain ⟨hn, hrow⟩ := hs
  have hmx : m.length ≤ 9223372036854775807 := by omega
  go_enter Try.func7, Try.ntmps7
  go_wp2_with (at_make; refine wpList_make_full _ rfl _ _ 22 rfl w.heap.size 38 i0 (.slice none 0 0) 1 Try.underlying22 hi hz0 hz1 _ _ _ _ m.length rfl rfl rfl rfl ?c1 ?c2 ?c3 ?_)
  case c1 => rw [hz2]; omega
  case c2 => unfold maxLen; omega
  case c3 => simp
  intro w1 hown hg
  have hb1 : Below w.heap.size w w1 := (Below.refl _ _).grown hg (Nat.le_refl _) (fun _ h => by cases h)
  have hown1 := OwnP.made (m := m) hown
  clear hown hg
  go_wp2
  go_loopw [4] (fun i wr => ∃ (k : Nat) (vs : List Value), k ≤ m.length ∧ i = .int .i64 k ∧ OwnP wr w.heap.size (.slice (some ⟨w.heap.size, 0, none⟩) m.length m.length) m.length m k vs ∧ Below w.heap.size w wr)
    (fun i _ => m.length - (intOf i).toNat)
  case atStart => exact ⟨0, _, Nat.zero_le _, rfl, hown1, hb1⟩
  case round =>
    obtain ⟨k, vs, hk, rfl, hown, hbr⟩ := hrel
    clear hown1 hb1
    by_cases hlt : k < m.length
    · obtain ⟨b, o, r, c', rfl, hc, hr, hc1, hc2⟩ := hm.below hbr k hlt
      have hrl := hrow k hlt
      have hB := hbr.size
      obtain ⟨cur, hcur⟩ := ownsRow_block hown.top
      have hgl := lt_of_block hcur
      have Hown := Lib.hid hown
      have Hcur := Lib.hid hcur
      have Hm := Lib.hid hm
      have Hrow := Lib.hid hrow
      clear hown hm hrow hcur
      go_wp2_with fail
      refine (toIntS_any r c' (gr m k) wr hrl hr).mono ?_
      rintro e w2 ⟨v, rfl, hv, hb2⟩
      have hown2 := Hown.out.below hb2
      have hd := hown2.cellAt k hlt
      have hf : w2.frozen? ⟨w.heap.size, k, none⟩ = false := World.ownsRow.frozenAt hown2.top k
      have Hput := Lib.hid (hown2.put hlt (hv.base hB) (Hown.out.fresh hv (Nat.le_refl _)))
      have Hbs := Lib.hid ((hbr.trans (hb2.mono hB)).setCell (p := ⟨w.heap.size, k, none⟩) (Nat.le_refl _) v)
      obtain ⟨rv, cv, rfl, _, _, _⟩ := hv.read
      clear hown2 hv hb2
      go_wp2
      go_roundw
      case rel => exact ⟨k + 1, _, by omega, by go_num, Hput.out, Hbs.out⟩
      case measure => simp [intOf]; omega
    · obtain rfl : k = m.length := by omega
      go_wp2
      go_ret
      exact ⟨_, rfl, ⟨_, hown⟩, hbr⟩
end Go.Proofs.Ytmkldodkpijfjaa

