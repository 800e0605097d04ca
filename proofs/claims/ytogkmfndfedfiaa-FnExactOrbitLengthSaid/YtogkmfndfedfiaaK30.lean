/- Parts of proofs: contracts and plain facts. Conditions: as each says. -/
import Derived.Test.YtogkmfndfedfiaaK29
namespace Go.Proofs.Ytogkmfndfedfiaa
open Go.RowKit

def frOk (m path : List (List Int)) : Prop := good m ∧ path.length ≤ 200 ∧ (runC m.length (S2 m) path).isSome = true
def frM (m path : List (List Int)) : List (List Int) := unC m.length ((runC m.length (S2 m) path).getD (S2 m))
theorem take_snoc_gr {path : List (List Int)} {k : Nat} (h : k < path.length) : path.take (k + 1) = path.take k ++ [gr path k] := by
  rw [List.take_add_one, List.getElem?_eq_getElem h, gr_lt h]
  rfl
theorem okCell_okB {n : Nat} {r : List Int} (h : r.length = 2) : okCell n r ↔ okB n (gi r 0) (gi r 1) = true := by
  rw [okB_true]
  exact ⟨fun h => h.2, fun k => ⟨h, k⟩⟩
theorem run_step {n : Nat} {c d : Nat → Nat → Int} {path : List (List Int)} {k : Nat} (h : runC n c (path.take k) = some d) (hk : k < path.length) (ho : okCell n (gr path k)) (hw : way (hOf d) (gi (gr path k) 0).toNat (gi (gr path k) 1).toNat ≠ 0) :
    runC n c (path.take (k + 1)) = some (flipC d (gi (gr path k) 0).toNat (gi (gr path k) 1).toNat) := by
  rw [take_snoc_gr hk, runC_snoc, h]
  show runC n d [gr path k] = _
  unfold runC
  rw [if_pos ⟨ho, hw⟩]
  rfl
theorem run_stop {n : Nat} {c d : Nat → Nat → Int} {path : List (List Int)} {k : Nat} (h : runC n c (path.take k) = some d) (hk : k < path.length) (ho : ¬ (okCell n (gr path k) ∧ way (hOf d) (gi (gr path k) 0).toNat (gi (gr path k) 1).toNat ≠ 0)) :
    runC n c path = none := by
  apply runC_none (k := k + 1)
  rw [take_snoc_gr hk, runC_snoc, h]
  show runC n d [gr path k] = _
  unfold runC
  rw [if_neg ho]
theorem frM_some {m path : List (List Int)} {d : Nat → Nat → Int} (h : runC m.length (S2 m) path = some d) : frM m path = unC m.length d := by
  unfold frM
  rw [h]
  rfl
theorem frOk_yes {m path : List (List Int)} {d : Nat → Nat → Int} (hg : good m) (hl : path.length ≤ 200) (h : runC m.length (S2 m) path = some d) : frOk m path := ⟨hg, hl, by rw [h]; rfl⟩
theorem frOk_no {m path : List (List Int)} (h : runC m.length (S2 m) path = none) : ¬ frOk m path := fun k => by
  have := k.2.2
  rw [h] at this
  cases this
theorem frM_small {m path : List (List Int)} (h : frOk m path) : Small (frM m path) := unC_small _ h.1.1.2.1
/-- one flip -/
def faOk (m : List (List Int)) (i j : Int) : Prop := frOk m [[i, j]]
def faM (m : List (List Int)) (i j : Int) : List (List Int) := frM m [[i, j]]
theorem run_one {n : Nat} {c : Nat → Nat → Int} {i j : Int} : runC n c [[i, j]] = if okB n i j = true ∧ way (hOf c) i.toNat j.toNat ≠ 0 then some (flipC c i.toNat j.toNat) else none := by
  have e : okCell n [i, j] ↔ okB n i j = true := okCell_okB rfl
  unfold runC
  by_cases h : okB n i j = true ∧ way (hOf c) i.toNat j.toNat ≠ 0
  · rw [if_pos h, if_pos ⟨e.2 h.1, h.2⟩]; rfl
  · rw [if_neg h, if_neg (fun k => h ⟨e.1 k.1, k.2⟩)]
end Go.Proofs.Ytogkmfndfedfiaa

