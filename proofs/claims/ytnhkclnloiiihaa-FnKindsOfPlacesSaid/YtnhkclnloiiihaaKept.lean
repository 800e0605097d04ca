/- Worlds that differ in one block alone, the cursor's, and in new ones. No conditions: facts about worlds. -/
import Derived.Test.YtnhkclnloiiihaaCurN
import Derived.Test.YtnhkclnloiiihaaSpecC
import Derived.Test.YtnhkclnloiiihaaMath1
namespace Go.Proofs.Ytnhkclnloiiihaa
open Go.RowKit

/-- nothing but block g has been written; blocks may be new -/
structure Kept (g : Nat) (w w' : World) : Prop where
  os : w'.os = w.os
  tape : w'.tape = w.tape
  output : w'.output = w.output
  size : w.heap.size ≤ w'.heap.size
  block : ∀ k, k < w.heap.size → k ≠ g → w'.heap[k]? = w.heap[k]?
theorem Kept.refl (g : Nat) (w : World) : Kept g w w := ⟨rfl, rfl, rfl, Nat.le_refl _, fun _ _ _ => rfl⟩
theorem Kept.trans {g : Nat} {a b c : World} (h : Kept g a b) (k : Kept g b c) : Kept g a c :=
  ⟨k.os.trans h.os, k.tape.trans h.tape, k.output.trans h.output, Nat.le_trans h.size k.size, fun i hi hg => (k.block i (Nat.lt_of_lt_of_le hi h.size) hg).trans (h.block i hi hg)⟩
theorem kept_of {a b : World} (h : Below a.heap.size a b) (g : Nat) : Kept g a b := ⟨h.os, h.tape, h.output, h.size, fun k hk _ => h.block k hk⟩
theorem OnlyW.kept {g : Nat} {a b : World} (h : OnlyW (fun k => k = g) a b) : Kept g a b := ⟨h.os, h.tape, h.output, Nat.le_of_eq h.size.symm, fun k _ hk => h.block k hk⟩
theorem Kept.below {g B : Nat} {w0 a b : World} (h : Below B w0 a) (k : Kept g a b) (h1 : B ≤ g) (h2 : B ≤ a.heap.size) : Below B w0 b :=
  h.trans ⟨k.os, k.tape, k.output, k.size, fun i hi => k.block i (by omega) (by omega)⟩
theorem Kept.drew {g : Nat} {a b : World} (h : Kept g a b) : Kept g a b.drew := h.trans ⟨rfl, rfl, rfl, Nat.le_refl _, fun _ _ _ => rfl⟩
theorem Kept.drewN {g : Nat} {a b : World} (h : Kept g a b) (n : Nat) : Kept g a (b.drewN n) := h.trans ⟨rfl, rfl, rfl, Nat.le_refl _, fun _ _ _ => rfl⟩
/-- a cell of a block of one's own is written -/
theorem Kept.setCell {g : Nat} {a b : World} (h : Kept g a b) {p : Addr} (hp : a.heap.size ≤ p.block) (u : Value) : Kept g a (b.setCell p u) :=
  ⟨h.os, h.tape, h.output, Nat.le_trans h.size (by simp [World.setCell]), fun k hk hg => (Below.heap_setCell _ _ _ _ (by omega)).trans (h.block k hk hg)⟩
theorem ownsRow_kept {w w' : World} {g B : Nat} {e : TypeId} {v : Value} {n : Nat} {xs : List Value} (h : w.ownsRow B e 1 v n xs) (hk : Kept g w w') (hB : g < B) : w'.ownsRow B e 1 v n xs := by
  refine ⟨h.1, ?_⟩
  rcases h.2 with h0 | ⟨q, cap, cur, hv, hq, hh, r⟩
  · exact .inl h0
  · exact .inr ⟨q, cap, cur, hv, hq, by rw [hk.block q (lt_of_block hh) (by omega)]; exact hh, r⟩
theorem OwnI.keptG {w w' : World} {g B : Nat} {v : Value} {xs : List Int} (h : OwnI w B v xs) (hk : Kept g w w') (hB : g < B) : OwnI w' B v xs := ownsRow_kept h hk hB
theorem OwnP.keptG {w w' : World} {g B n k : Nat} {v : Value} {m : List (List Int)} {vs : List Value} (h : OwnP w B v n m k vs) (hk : Kept g w w') (hB : g < B) : OwnP w' B v n m k vs :=
  ⟨ownsRow_kept h.top hk hB, fun i hi => (h.rows i hi).keptG hk hB, h.apart⟩
theorem OwnM.keptG {w w' : World} {g B : Nat} {v : Value} {m : List (List Int)} (h : OwnM w B v m) (hk : Kept g w w') (hB : g < B) : OwnM w' B v m := ⟨_, h.choose_spec.keptG hk hB⟩
theorem CurAt.only {w w' : World} {g n c k : Nat} {a : Option Addr} {s : Int} (h : CurAt w g a n c k s) {S : Nat → Prop} (hO : OnlyW S w w') (hS : ¬ S g) : CurAt w' g a n c k s := by
  unfold CurAt
  rw [hO.block g hS]
  exact h
theorem CurAt.setElse {w : World} {g n c k : Nat} {a : Option Addr} {s : Int} (h : CurAt w g a n c k s) {p : Addr} (hp : g ≠ p.block) (u : Value) : CurAt (w.setCell p u) g a n c k s := by
  unfold CurAt
  rw [Below.heap_setCell _ _ _ _ hp]
  exact h
theorem CurAt.drew {w : World} {g n c k : Nat} {a : Option Addr} {s : Int} (h : CurAt w g a n c k s) : CurAt w.drew g a n c k s := h
end Go.Proofs.Ytnhkclnloiiihaa
