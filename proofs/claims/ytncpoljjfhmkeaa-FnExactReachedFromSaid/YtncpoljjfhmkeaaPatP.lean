/- The reading of brackets by the model and by the program. Condition: the text has at most 2^20 bytes. -/
import Derived.Test.YtncpoljjfhmkeaaPatS
import Derived.Test.YtncpoljjfhmkeaaParseS
import Derived.WalkSmall
namespace Go.Proofs.Ytncpoljjfhmkeaa
open Go.RowKit

/-- a text's bytes as numbers -/
def byt (l : List UInt8) (k : Nat) : Int := ((l.getD k 0).toNat : Int)
def reads (l : List UInt8) : Prop := 2 ≤ l.length ∧ l.length ≤ 12 ∧ ∃ P, runP l.length (byt l) l.length = some (P, [])
def readP (l : List UInt8) : List Int := match runP l.length (byt l) l.length with
  | some (P, _) => P
  | none => []

theorem byt_at {l : List UInt8} {k : Nat} {b : UInt8} (h : l[k]? = some b) : byt l k = (b.toNat : Int) := by unfold byt; rw [List.getD, h]; rfl
theorem run_none {n : Nat} {s : Nat → Int} {k : Nat} (h : runP n s k = none) : ∀ d, runP n s (k + d) = none := by
  intro d
  induction d with
  | zero => exact h
  | succ d ih => rw [← Nat.add_assoc, runP, ih]; rfl
theorem run_len {n : Nat} {s : Nat → Int} : ∀ k P S, runP n s k = some (P, S) → P.length = n ∧ S.length ≤ k := by
  intro k
  induction k with
  | zero =>
    intro P S h
    simp only [runP, Option.some.injEq, Prod.mk.injEq] at h
    obtain ⟨rfl, rfl⟩ := h
    simp
  | succ k ih =>
    intro P S h
    rw [runP, Option.bind_eq_some_iff] at h
    obtain ⟨⟨P0, S0⟩, h0, h1⟩ := h
    have h2 := ih P0 S0 h0
    unfold stepP at h1
    split at h1
    · simp only [Option.some.injEq, Prod.mk.injEq] at h1
      obtain ⟨rfl, rfl⟩ := h1
      simp; omega
    · split at h1
      · split at h1
        · simp at h1
        · simp only [Option.some.injEq, Prod.mk.injEq] at h1
          obtain ⟨rfl, rfl⟩ := h1
          simp; omega
      · simp at h1
theorem not_reads {l : List UInt8} {k : Nat} (hk : k ≤ l.length) (h : runP l.length (byt l) k = none) : ¬ reads l := by
  rintro ⟨_, _, P, hP⟩
  have := run_none h (l.length - k)
  rw [show k + (l.length - k) = l.length from by omega, hP] at this
  cases this
theorem run_open {n : Nat} {s : Nat → Int} {k : Nat} {P S : List Int} (h : runP n s k = some (P, S)) (hs : s k = 40) : runP n s (k + 1) = some (P, S ++ [(k : Int)]) := by
  rw [runP, h]; simp [stepP, hs]
theorem run_shut {n : Nat} {s : Nat → Int} {k : Nat} {P A : List Int} {f : Int} (h : runP n s k = some (P, A ++ [f])) (hs : s k = 41) : runP n s (k + 1) = some ((P.set k f).set f.toNat k, A) := by
  rw [runP, h]; simp [stepP, hs]
theorem run_shut_none {n : Nat} {s : Nat → Int} {k : Nat} {P : List Int} (h : runP n s k = some (P, [])) (hs : s k = 41) : runP n s (k + 1) = none := by
  rw [runP, h]; simp [stepP, hs]
theorem run_other {n : Nat} {s : Nat → Int} {k : Nat} {P S : List Int} (h : runP n s k = some (P, S)) (h1 : s k ≠ 40) (h2 : s k ≠ 41) : runP n s (k + 1) = none := by
  rw [runP, h]; simp [stepP, h1, h2]
theorem readP_of {l : List UInt8} {P : List Int} (h : runP l.length (byt l) l.length = some (P, [])) : readP l = P := by unfold readP; rw [h]
theorem run_mem {n : Nat} {s : Nat → Int} {k : Nat} {P A : List Int} {f : Int} (hk : k ≤ n) (h : runP n s k = some (P, A ++ [f])) : ∃ g : Nat, f = g ∧ g < k := by
  have := (PInv.run k P _ hk h).mem f (by simp)
  exact ⟨f.toNat, by omega, by omega⟩
theorem OwnI.pop {w : World} {B q cap : Nat} {A : List Int} {f : Int} (h : OwnI w B (.slice (some ⟨q, 0, none⟩) (A.length + 1) cap) (A ++ [f])) : OwnI w B (.slice (some ⟨q, 0, none⟩) A.length cap) A := by
  unfold OwnI at h ⊢
  rw [List.length_append, List.map_append] at h
  exact ownsRow_pop (last := [Value.int .i64 f]) (by simp) h

end Go.Proofs.Ytncpoljjfhmkeaa
