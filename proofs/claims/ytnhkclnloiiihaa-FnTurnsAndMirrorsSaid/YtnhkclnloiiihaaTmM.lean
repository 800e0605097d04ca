/- Turns and mirrors: the least image is that of all images; sign matrices' numbers fit. No conditions. -/
import Derived.Test.YtnhkclnloiiihaaImM
import Derived.Test.YtnhkclnloiiihaaLeastM
namespace Go.Proofs.Ytnhkclnloiiihaa
open Go.RowKit

theorem good.wf {m : List (List Int)} (h : good m) : WfM m := fun i hi j hj => by
  rw [h.1.2.2 i hi] at hj
  have := good_entry h hi hj
  omega
theorem good_cwN {m : List (List Int)} (h : good m) : ∀ k, good (cwN m k)
  | 0 => h
  | k + 1 => good_cw (good_cwN h k)
theorem cwN_cw (m : List (List Int)) : ∀ k, cwN (cw m) k = cwN m (k + 1)
  | 0 => rfl
  | k + 1 => by show cw (cwN (cw m) k) = cw (cwN m (k + 1)); rw [cwN_cw m k]
theorem cwN_add (m : List (List Int)) (j : Nat) : ∀ k, cwN (cwN m j) k = cwN m (j + k)
  | 0 => rfl
  | k + 1 => by show cw (cwN (cwN m j) k) = cw (cwN m (j + k)); rw [cwN_add m j k]
theorem lst_cw {m r : List (List Int)} (h : square m) (k : lstM (cw m) r) : lstM m r := by
  have e4 := cw4 h
  have e5 : cwN m 4 = m := e4
  have l := cw_len m
  have key : ∀ i, i < 8 → ∃ j, j < 8 ∧ im (cw m) i = im m j ∧ ∃ i', i' < 8 ∧ im (cw m) i' = im m i := by
    intro i hi
    have h0 : ∀ i, im m i = if i < 4 then cwN m i else mir (cwN m (i - 4)) := fun _ => rfl
    have h1 : ∀ i, im (cw m) i = if i < 4 then cwN m (i + 1) else mir (cwN m (i - 4 + 1)) := fun i => by unfold im; rw [cwN_cw, cwN_cw]
    obtain rfl | rfl | rfl | rfl | rfl | rfl | rfl | rfl : i = 0 ∨ i = 1 ∨ i = 2 ∨ i = 3 ∨ i = 4 ∨ i = 5 ∨ i = 6 ∨ i = 7 := by omega
    · exact ⟨1, by omega, by simp [h0, h1], 3, by omega, by simp [h0, h1, e5]; rfl⟩
    · exact ⟨2, by omega, by simp [h0, h1], 0, by omega, by simp [h0, h1]⟩
    · exact ⟨3, by omega, by simp [h0, h1], 1, by omega, by simp [h0, h1]⟩
    · exact ⟨0, by omega, by simp [h0, h1, e5]; rfl, 2, by omega, by simp [h0, h1]⟩
    · exact ⟨5, by omega, by simp [h0, h1], 7, by omega, by simp [h0, h1, e5]; rfl⟩
    · exact ⟨6, by omega, by simp [h0, h1], 4, by omega, by simp [h0, h1]⟩
    · exact ⟨7, by omega, by simp [h0, h1], 5, by omega, by simp [h0, h1]⟩
    · exact ⟨4, by omega, by simp [h0, h1, e5]; rfl, 6, by omega, by simp [h0, h1]⟩
  refine ⟨?_, fun i hi => ?_⟩
  · obtain ⟨i, hi, e⟩ := k.1
    obtain ⟨j, hj, e2, _⟩ := key i hi
    exact ⟨j, hj, e2.symm.trans e⟩
  · obtain ⟨_, _, _, i', hi', e⟩ := key i hi
    have := k.2 i' hi'
    rw [l, e] at this
    exact this
theorem lst_cwN {m r : List (List Int)} (h : square m) : ∀ k, lstM (cwN m k) r → lstM m r
  | 0, hk => hk
  | k + 1, hk => lst_cwN h k (lst_cw (h.cwN k) hk)
theorem lst_mem {m r : List (List Int)} (k : lstM m r) : ∃ i, i < 8 ∧ im m i = r := k.1
theorem im_good {m : List (List Int)} (h : good m) (i : Nat) : good (im m i) := by
  unfold im
  split
  · exact good_cwN h i
  · exact good_mir (good_cwN h _)
theorem lst_good {m r : List (List Int)} (h : good m) (k : lstM m r) : good r := by
  obtain ⟨i, _, e⟩ := k.1
  rw [← e]
  exact im_good h i
theorem im_len (m : List (List Int)) (i : Nat) : (im m i).length = m.length := by
  unfold im
  split
  · exact cwN_len m i
  · rw [mir_len]; exact cwN_len m _
theorem lst_len {m r : List (List Int)} (k : lstM m r) : r.length = m.length := by
  obtain ⟨i, _, e⟩ := k.1
  rw [← e]
  exact im_len m i
/-- no turned one comes before the least one -/
theorem lst_turn {m r : List (List Int)} (h : square m) (k : lstM m r) (i : Nat) (hi : i ≤ 4) : ¬ mless m.length (cwN m i) r := by
  by_cases e : i < 4
  · have := k.2 i (by omega)
    unfold im at this
    rwa [if_pos e] at this
  · obtain rfl : i = 4 := by omega
    have := k.2 0 (by omega)
    unfold im at this
    rw [if_pos (by omega)] at this
    rw [show cwN m 4 = m from cw4 h]
    exact this
end Go.Proofs.Ytnhkclnloiiihaa
