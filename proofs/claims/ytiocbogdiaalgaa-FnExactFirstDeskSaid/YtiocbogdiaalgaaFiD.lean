/- Contracts: the first sign matrix of the console, by model and program. No conditions. -/
import Derived.Test.YtiocbogdiaalgaaBlock
namespace Go.Proofs.Ytiocbogdiaalgaa
open Go.RowKit

def fdM : List (List Int) := [[0, 1, 0], [1, -1, 1], [0, 1, 0]]
theorem fd_small : Small fdM := ⟨by decide, fun i hi => by
  have : i = 0 ∨ i = 1 ∨ i = 2 := by simp [fdM] at hi; omega
  rcases this with rfl | rfl | rfl <;> decide⟩
theorem own_lit3 (w : World) (B : Nat) (hB : B ≤ w.heap.size) (a b c : Int) : OwnI (w.alloc (.cells #[.int .i64 a, .int .i64 b, .int .i64 c] 3)) B (.slice (some ⟨w.heap.size, 0, none⟩) 3 3) [a, b, c] :=
  ⟨by simp, .inr ⟨w.heap.size, 3, _, rfl, hB, heap_alloc_new w _, Nat.le_refl _, by decide, rfl, rfl⟩⟩
/-- three rows of three numbers, written out -/
theorem fd_own (w : World) : OwnM ((((w.alloc (.cells #[.int .i64 0, .int .i64 1, .int .i64 0] 3)).alloc (.cells #[.int .i64 1, .int .i64 (-1), .int .i64 1] 3)).alloc (.cells #[.int .i64 0, .int .i64 1, .int .i64 0] 3)).alloc
    (.cells #[.slice (some ⟨w.heap.size, 0, none⟩) 3 3, .slice (some ⟨w.heap.size + 1, 0, none⟩) 3 3, .slice (some ⟨w.heap.size + 1 + 1, 0, none⟩) 3 3] 29)) w.heap.size (.slice (some ⟨w.heap.size + 1 + 1 + 1, 0, none⟩) 3 3) fdM := by
  have h0 := own_lit3 w w.heap.size (Nat.le_refl _) 0 1 0
  obtain ⟨w1, hw1⟩ : ∃ w1, w1 = w.alloc (.cells #[.int .i64 0, .int .i64 1, .int .i64 0] 3) := ⟨_, rfl⟩
  have s1 : w1.heap.size = w.heap.size + 1 := by rw [hw1]; simp
  rw [← hw1] at h0 ⊢
  have h1 := own_lit3 w1 w.heap.size (by omega) 1 (-1) 1
  have h0 := World.ownsRow.alloc h0 (.cells #[.int .i64 1, .int .i64 (-1), .int .i64 1] 3)
  obtain ⟨w2, hw2⟩ : ∃ w2, w2 = w1.alloc (.cells #[.int .i64 1, .int .i64 (-1), .int .i64 1] 3) := ⟨_, rfl⟩
  have s2 : w2.heap.size = w.heap.size + 1 + 1 := by rw [hw2]; simp [s1]
  rw [← hw2] at h0 h1 ⊢
  have h2 := own_lit3 w2 w.heap.size (by omega) 0 1 0
  have h0 := World.ownsRow.alloc h0 (.cells #[.int .i64 0, .int .i64 1, .int .i64 0] 3)
  have h1 := World.ownsRow.alloc h1 (.cells #[.int .i64 0, .int .i64 1, .int .i64 0] 3)
  obtain ⟨w3, hw3⟩ : ∃ w3, w3 = w2.alloc (.cells #[.int .i64 0, .int .i64 1, .int .i64 0] 3) := ⟨_, rfl⟩
  have s3 : w3.heap.size = w.heap.size + 1 + 1 + 1 := by rw [hw3]; simp [s2]
  rw [← hw3] at h0 h1 h2 ⊢
  rw [s1] at h1
  rw [s2] at h2
  obtain ⟨o, ho⟩ : ∃ o, o = Obj.cells #[.slice (some ⟨w.heap.size, 0, none⟩) 3 3, .slice (some ⟨w.heap.size + 1, 0, none⟩) 3 3, .slice (some ⟨w.heap.size + 1 + 1, 0, none⟩) 3 3] 29 := ⟨_, rfl⟩
  have h0 := World.ownsRow.alloc h0 o
  have h1 := World.ownsRow.alloc h1 o
  have h2 := World.ownsRow.alloc h2 o
  have ht : (w3.alloc o).ownsRow w.heap.size 29 1 (.slice (some ⟨w3.heap.size, 0, none⟩) 3 3) 3 [.slice (some ⟨w.heap.size, 0, none⟩) 3 3, .slice (some ⟨w.heap.size + 1, 0, none⟩) 3 3, .slice (some ⟨w.heap.size + 1 + 1, 0, none⟩) 3 3] :=
    ⟨by simp, .inr ⟨w3.heap.size, 3, _, rfl, by omega, by rw [heap_alloc_new w3 o, ho], Nat.le_refl _, by decide, rfl, rfl⟩⟩
  rw [← ho]
  rw [s3] at ht
  refine ⟨_, ht, fun i hi => ?_, fun i j hij hj g hg hg2 => ?_⟩
  · have : i = 0 ∨ i = 1 ∨ i = 2 := by simp [fdM] at hi; omega
    rcases this with rfl | rfl | rfl
    · exact h0
    · exact h1
    · exact h2
  · have : (i = 0 ∧ j = 1) ∨ (i = 0 ∧ j = 2) ∨ (i = 1 ∧ j = 2) := by simp [fdM] at hj; omega
    rcases this with ⟨rfl, rfl⟩ | ⟨rfl, rfl⟩ | ⟨rfl, rfl⟩ <;> (simp [List.getD, Value.ownBlock] at hg hg2; omega)
set_option maxRecDepth 100000 in
set_option maxHeartbeats 400000 in
theorem specFirstDesk_any (w : World) : Calls Try.prog 57 #[] w fun e w' => ∃ v, e = .returned v ∧ OwnM w' w.heap.size v fdM ∧ Below w.heap.size w w' := by
  have h := Lib.hid (fd_own w)
  go_enter Try.func57, Try.ntmps57
  go_wp2
  go_ret
  exact ⟨_, rfl, h.out, ((((Below.refl _ _).alloc (Nat.le_refl _) _).alloc (by simp) _).alloc (by simp; omega) _).alloc (by simp; omega) _⟩
set_option maxRecDepth 100000 in
set_option maxHeartbeats 400000 in
theorem implFirstDesk_any (w : World) : Calls Try.prog 58 #[] w fun e w' => ∃ v, e = .returned v ∧ OwnM w' w.heap.size v fdM ∧ Below w.heap.size w w' := by
  have h := Lib.hid (fd_own w)
  go_enter Try.func58, Try.ntmps58
  go_wp2
  go_ret
  exact ⟨_, rfl, h.out, ((((Below.refl _ _).alloc (Nat.le_refl _) _).alloc (by simp) _).alloc (by simp; omega) _).alloc (by simp; omega) _⟩
end Go.Proofs.Ytiocbogdiaalgaa
