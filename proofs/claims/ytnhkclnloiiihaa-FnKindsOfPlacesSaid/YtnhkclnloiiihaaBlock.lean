/- The sum of a block of a sign matrix: some rows, their first columns. -/
import Derived.Test.YtnhkclnloiiihaaScal
namespace Go.Proofs.Ytnhkclnloiiihaa
open Go.RowKit

theorem gi_take {xs : List Int} {k i : Nat} (h : i < k) : gi (xs.take k) i = gi xs i := by
  simp only [gi, List.getD, List.getElem?_take]
  rw [if_pos h]
theorem gr_take {m : List (List Int)} {k i : Nat} (h : i < k) : gr (m.take k) i = gr m i := by
  simp only [gr, List.getD, List.getElem?_take]
  rw [if_pos h]
theorem gr_drop (m : List (List Int)) (k i : Nat) : gr (m.drop k) i = gr m (k + i) := by simp [gr, List.getD]

theorem IntsAt.take {w : World} {ao : Option Addr} {xs : List Int} (h : IntsAt w ao xs) (k : Nat) : IntsAt w ao (xs.take k) := by
  intro i hi
  have hi' : i < k ∧ i < xs.length := by rw [List.length_take] at hi; omega
  obtain ⟨b, o, e, hc⟩ := h i hi'.2
  exact ⟨b, o, e, by rw [gi_take hi'.1]; exact hc⟩
theorem MatAt.take {w : World} {ao : Option Addr} {m : List (List Int)} (h : MatAt w ao m) (k : Nat) : MatAt w ao (m.take k) := by
  intro i hi
  have hi' : i < k ∧ i < m.length := by rw [List.length_take] at hi; omega
  obtain ⟨b, o, r, c, e, hc, hr, h1, h2⟩ := h i hi'.2
  rw [gr_take hi'.1]
  exact ⟨b, o, r, c, e, hc, hr, h1, h2⟩
theorem MatAt.drop {w : World} {b o : Nat} {m : List (List Int)} (h : MatAt w (some ⟨b, o, none⟩) m) (k : Nat) : MatAt w (some ⟨b, o + k, none⟩) (m.drop k) := by
  intro i hi
  rw [List.length_drop] at hi
  obtain ⟨b', o', r, c, e, hc, hr, h1, h2⟩ := h (k + i) (by omega)
  simp only [Option.some.injEq, Addr.mk.injEq, and_true] at e
  obtain ⟨rfl, rfl⟩ := e
  rw [gr_drop]
  exact ⟨b, o + k, r, c, rfl, by rw [Nat.add_assoc]; exact hc, hr, h1, h2⟩

/-- the numbers of some rows in their first columns -/
def bsum (m : List (List Int)) (cols : Nat) : Int := sumF (fun i => sumF (fun j => gi (gr m i) j) cols) m.length

/-- all numbers are 0, 1 or -1, no row has more than 6, none fewer than the columns -/
def Tame (m : List (List Int)) (cols : Nat) : Prop := m.length ≤ 6 ∧ cols ≤ 6 ∧ ∀ i, i < m.length → cols ≤ (gr m i).length ∧ (gr m i).length ≤ 6 ∧ 0 < (gr m i).length ∧ ∀ j, j < (gr m i).length → -1 ≤ gi (gr m i) j ∧ gi (gr m i) j ≤ 1

theorem row_bound {f : Nat → Int} {n k : Nat} (hn : n ≤ 6) (h : ∀ j, j < n → -1 ≤ f j ∧ f j ≤ 1) (hk : k ≤ n) : -6 ≤ sumF f k ∧ sumF f k ≤ 6 := by
  have := sumF_bound (f := f) (B := 1) (k := k) (fun i hi => h i (by omega))
  omega

theorem block_bound {m : List (List Int)} {cols : Nat} (h : Tame m cols) {k : Nat} (hk : k ≤ m.length) : -36 ≤ sumF (fun i => sumF (fun j => gi (gr m i) j) cols) k ∧ sumF (fun i => sumF (fun j => gi (gr m i) j) cols) k ≤ 36 := by
  have h1 := h.1
  have := sumF_bound (f := fun i => sumF (fun j => gi (gr m i) j) cols) (B := 6) (k := k) (fun i hi => by
    have hr := h.2.2 i (by omega)
    exact row_bound (f := fun j => gi (gr m i) j) hr.2.1 hr.2.2.2 hr.1)
  omega

set_option maxRecDepth 100000 in
set_option maxHeartbeats 800000 in
theorem block1_any (b o d cb cols : Nat) (xs : List Int) (w : World) (hd : xs.length ≤ d) (hn : xs.length ≤ 6) (hc : cols ≤ xs.length) (hx : IntsAt w (some ⟨b, o, none⟩) xs)
    (hb : ∀ j, j < xs.length → -1 ≤ gi xs j ∧ gi xs j ≤ 1) (hcell : w.cell? ⟨cb, 0, none⟩ = some (.int .i64 (cols : Int))) :
    Calls Try.prog 184 #[.slice (some ⟨b, o, none⟩) xs.length d, .pointer (some ⟨cb, 0, none⟩)] w fun e w' => e = .returned (.int .i64 (sumF (fun j => gi xs j) cols)) ∧ w = w' := by
  have Hx := Lib.hid (hx.take cols)
  have Hb := Lib.hid hb
  have hl : (xs.take cols).length = cols := by rw [List.length_take]; omega
  have Hl := Lib.hid hl
  clear hx hb hl
  go_enter Try.func184, Try.ntmps184
  go_wp2_with fail
  have hh := sumOfInt_itself (some ⟨b, o, none⟩) d (xs.take cols) w (by rw [Hl.out]; omega) (fun k hk => by
    rw [Hl.out] at hk
    have := row_bound (f := fun i => idI (gi (xs.take cols) i)) (n := cols) (k := k) (by omega) (fun j hj => by unfold idI; rw [gi_take hj]; exact Hb.out j (by omega)) hk
    omega) Hx.out
  rw [Hl.out] at hh
  refine hh.mono ?_
  rintro e w2 ⟨rfl, rfl⟩
  have e1 : sumF (fun i => idI (gi (xs.take cols) i)) cols = sumF (fun j => gi xs j) cols := sumF_congr fun i hi => by unfold idI; exact gi_take hi
  rw [e1]
  clear e1 hh
  go_wp2
  go_ret
  exact ⟨rfl, rfl⟩

set_option maxRecDepth 100000 in
set_option maxHeartbeats 800000 in
theorem sumOfBlock_any (ao : Option Addr) (c cols : Nat) (m : List (List Int)) (w : World) (ht : Tame m cols) (hm : MatAt w ao m) :
    Calls Try.prog 123 #[.slice ao m.length c, .int .i64 (cols : Int)] w fun e w' => e = .returned (.int .i64 (bsum m cols)) ∧ Below w.heap.size w w' := by
  have Ht := Lib.hid ht
  have hb := (Below.refl w.heap.size w).alloc (Nat.le_refl _) (.cells #[.int .i64 (cols : Int)] 3)
  have Hm := Lib.hid (hm.below hb)
  have hcell : (w.alloc (.cells #[.int .i64 (cols : Int)] 3)).cell? ⟨w.heap.size, 0, none⟩ = some (.int .i64 (cols : Int)) := by rw [cell_new]; rfl
  have Hcell := Lib.hid hcell
  have Hb := Lib.hid hb
  clear ht hb hm hcell
  go_enter Try.func123, Try.ntmps123
  go_wp2_with fail
  refine (sumOfRows_block (fun i => sumF (fun j => gi (gr m i) j) cols) ao c m w.heap.size _ (by have := Ht.out.1; omega) (fun k hk => ?_) Hm.out (fun i hi r d hr h1 _ => ?_)).mono ?_
  · have := block_bound Ht.out hk
    omega
  · obtain ⟨t1, t2, t3, t4⟩ := Ht.out.2.2 i hi
    obtain ⟨b, o, rfl, _⟩ := hr 0 t3
    exact block1_any b o d w.heap.size cols (gr m i) _ h1 t2 t1 hr t4 Hcell.out
  rintro e w2 ⟨rfl, rfl⟩
  go_wp2
  go_ret
  exact ⟨rfl, Hb.out⟩
end Go.Proofs.Ytnhkclnloiiihaa
