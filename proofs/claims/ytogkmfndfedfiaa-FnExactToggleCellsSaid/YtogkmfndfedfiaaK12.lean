/- Parts of proofs: contracts and plain facts. Conditions: as each says. -/
import Derived.Test.YtogkmfndfedfiaaK11
namespace Go.Proofs.Ytogkmfndfedfiaa
open Go.RowKit

/-- a list of two numbers that are a cell of a matrix with n rows -/
def okCell (n : Nat) (r : List Int) : Prop := r.length = 2 ∧ 0 < gi r 0 ∧ gi r 0 < n ∧ 0 < gi r 1 ∧ gi r 1 < n
instance (n : Nat) (r : List Int) : Decidable (okCell n r) := by unfold okCell; infer_instance
/-- corner sums behind the flip of a cell -/
def flipC (c : Nat → Nat → Int) (i j : Nat) : Nat → Nat → Int := setC c i j (c i j - way (hOf c) i j)
/-- .. behind the flips of cells, one after the other -/
def runC (n : Nat) (c : Nat → Nat → Int) : List (List Int) → Option (Nat → Nat → Int)
  | [] => some c
  | r :: rs => if okCell n r ∧ way (hOf c) (gi r 0).toNat (gi r 1).toNat ≠ 0 then runC n (flipC c (gi r 0).toNat (gi r 1).toNat) rs else none
theorem runC_snoc (n : Nat) : ∀ (rs : List (List Int)) (c : Nat → Nat → Int) (r : List Int), runC n c (rs ++ [r]) = (runC n c rs).bind fun d => runC n d [r]
  | [], c, r => rfl
  | s :: rs, c, r => by
    show (if _ then runC n _ (rs ++ [r]) else none) = (if _ then runC n _ rs else none).bind _
    split
    · exact runC_snoc n rs _ r
    · rfl
theorem runC_crn {n : Nat} : ∀ (rs : List (List Int)) (c d : Nat → Nat → Int), Crn n c → runC n c rs = some d → Crn n d
  | [], c, d, h, e => by
    obtain rfl : c = d := by simpa [runC] using e
    exact h
  | s :: rs, c, d, h, e => by
    unfold runC at e
    split at e
    · next h1 =>
      obtain ⟨⟨_, h2, h3, h4, h5⟩, h6⟩ := h1
      exact runC_crn rs _ d (h.flip (by omega) (by omega) (by omega) (by omega) h6) e
    · cases e
theorem runC_none {n : Nat} {c : Nat → Nat → Int} {path : List (List Int)} {k : Nat} (h : runC n c (path.take k) = none) : runC n c path = none := by
  have key : ∀ (a b : List (List Int)) (c : Nat → Nat → Int), runC n c a = none → runC n c (a ++ b) = none := by
    intro a
    induction a with
    | nil => intro b c h; cases h
    | cons s a ih =>
      intro b c h
      unfold runC at h
      show (if _ then runC n _ (a ++ b) else none) = none
      split at h
      · next h1 => rw [if_pos h1]; exact ih b _ h
      · next h1 => rw [if_neg h1]
  have := key (path.take k) (path.drop k) c h
  rwa [List.take_append_drop] at this
/-- a flip in the program's terrain -/
theorem pad_flip {n : Nat} (c : Nat → Nat → Int) {i j : Nat} (hi0 : 1 ≤ i) (hi : i < n) (hj0 : 1 ≤ j) (hj : j < n) (a b : Nat) :
    upd (pad n (hOf c)) i j (pad n (hOf c) i j + 2 * way (pad n (hOf c)) i j) a b = pad n (hOf (flipC c i j)) a b := by
  have key : ∀ i j, i ≤ n → j ≤ n → pad n (hOf c) i j = hOf c i j := fun i j hi hj => by
    unfold pad
    rw [if_pos ⟨hi, hj⟩]
  have hw : way (pad n (hOf c)) i j = way (hOf c) i j := way_congr (key _ _ (by omega) (by omega)) (key _ _ (by omega) (by omega)) (key _ _ (by omega) (by omega)) (key _ _ (by omega) (by omega)) (key _ _ (by omega) (by omega))
  rw [hw, key i j (by omega) (by omega)]
  unfold upd flipC pad
  by_cases e : a = i ∧ b = j
  · obtain ⟨rfl, rfl⟩ := e
    rw [if_pos ⟨rfl, rfl⟩, if_pos ⟨by omega, by omega⟩, hOf_setC, if_pos ⟨rfl, rfl⟩]
    unfold hOf
    omega
  · rw [if_neg e, hOf_setC, if_neg e]
end Go.Proofs.Ytogkmfndfedfiaa

