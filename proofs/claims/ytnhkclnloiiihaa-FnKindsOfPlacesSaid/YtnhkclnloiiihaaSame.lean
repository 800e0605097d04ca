/- Blocks that stay as they were: what lies in them is still owned and read. No conditions. -/
import Derived.Test.YtnhkclnloiiihaaSpecC
import Derived.Test.YtnhkclnloiiihaaMore
import Derived.Maps.AppendAt
namespace Go.Proofs.Ytnhkclnloiiihaa
open Go.RowKit

/-- the blocks from lo up to hi are as they were -/
def Same (lo hi : Nat) (w w' : World) : Prop := ∀ g, lo ≤ g → g < hi → w'.heap[g]? = w.heap[g]?
theorem Same.refl (lo hi : Nat) (w : World) : Same lo hi w w := fun _ _ _ => rfl
theorem Same.trans {lo hi : Nat} {a b c : World} (h : Same lo hi a b) (k : Same lo hi b c) : Same lo hi a c := fun g h1 h2 => (k g h1 h2).trans (h g h1 h2)
theorem Same.of_below {lo hi B : Nat} {w w' : World} (h : Below B w w') (hB : hi ≤ B) : Same lo hi w w' := fun g _ h2 => h.block g (by omega)
theorem Same.of_grown {lo hi : Nat} {w w' : World} {row : Option Nat} (h : w.grownBy w' row) (hs : hi ≤ w.heap.size) (hr : ∀ g, row = some g → g < lo ∨ hi ≤ g) : Same lo hi w w' :=
  fun g h1 h2 => h.block g (by omega) (fun e => by have := hr g e.symm; omega)
theorem ownsRow_same {w w' : World} {B : Nat} {e : TypeId} {v : Value} {n : Nat} {xs : List Value} (h : w.ownsRow B e 1 v n xs) (hs : Same B w.heap.size w w') : w'.ownsRow B e 1 v n xs := by
  refine ⟨h.1, ?_⟩
  rcases h.2 with h0 | ⟨g, cap, cur, rfl, hg, hh, r⟩
  · exact .inl h0
  · exact .inr ⟨g, cap, cur, rfl, hg, by rw [hs g hg (lt_of_block hh)]; exact hh, r⟩
theorem OwnP.same {w w' : World} {B n k : Nat} {v : Value} {m : List (List Int)} {vs : List Value} (h : OwnP w B v n m k vs) (hs : Same B w.heap.size w w') : OwnP w' B v n m k vs :=
  ⟨ownsRow_same h.top hs, fun i hi => ownsRow_same (h.rows i hi) hs, h.apart⟩
/-- a row of an owned table: where its slice lies, and that it is owned -/
theorem OwnP.rowAt {w : World} {B n c : Nat} {ao : Option Addr} {m : List (List Int)} {vs : List Value} (h : OwnP w B (.slice ao n c) n m n vs) {i : Nat} (hi : i < n) :
    ∃ b o r d, ao = some ⟨b, o, none⟩ ∧ w.cell? ⟨b, o + i, none⟩ = some (.slice r (gr m i).length d) ∧ vs.getD i undef = .slice r (gr m i).length d ∧ OwnI w B (.slice r (gr m i).length d) (gr m i) ∧ (gr m i).length ≤ d ∧ d ≤ 9223372036854775807 := by
  obtain ⟨ao', c', hv, _, _, hcells⟩ := ownsRow_read h.top
  obtain ⟨rfl, -, rfl⟩ := (Value.slice.injEq _ _ _ _ _ _).mp hv
  obtain ⟨b, o, e, hc⟩ := hcells i hi
  have hrow := h.rows i hi
  obtain ⟨r, d, hr, h1, h2, _⟩ := hrow.read
  rw [hr] at hc hrow
  exact ⟨b, o, r, d, e, hc, hr, hrow, h1, h2⟩
theorem OwnI.same_at {w w' : World} {B n c : Nat} {ao : Option Addr} {xs : List Int} (h : OwnI w B (.slice ao n c) xs) (hs : Same B w.heap.size w w') : IntsAt w' ao xs := own_at (ownsRow_same h hs)
end Go.Proofs.Ytnhkclnloiiihaa
