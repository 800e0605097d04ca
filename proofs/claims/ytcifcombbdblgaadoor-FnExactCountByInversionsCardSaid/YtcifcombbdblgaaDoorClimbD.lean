/- What a climb is asked, and what its frames give. No conditions. -/
import Derived.Test.YtcifcombbdblgaaDoorPot
namespace Go.Proofs.YtcifcombbdblgaaDoor
open Go.RowKit Go.Maps

/-- a function that scores a step from a row to one above it -/
def Scores (f : FuncId) (sc : List Int → List Int → Int) : Prop := ∀ (xs ys : List Int) (w : World), Rise xs → xs.length ≤ 6 → ys ∈ above xs → Dj w →
  Calls Tryd.prog f #[.int .u64 (mask xs : Nat), .int .u64 (mask ys : Nat)] w fun e w' => e = .returned (.int .i64 (sc xs ys)) ∧ Below w.heap.size w w'

theorem grown_of_below {a w : World} (h : Below a.heap.size a w) : a.grownBy w none := ⟨h.os, h.tape, h.output, h.size, fun k hk _ => h.block k hk⟩
theorem Dj.grown {a w : World} {b : Nat} (h : Dj a) (hg : a.grownBy w (some b)) (hb : 1 < b) : Dj w := fun i hi => hg.cell (h i hi) (fun e => by simp at e; omega)
theorem i64_wrap (n : Int) : IntKind.i64.wrap n = wrap64 n := by
  unfold wrap64
  simp [IntKind.wrap, IntKind.bits, IntKind.signed]
  omega


/-- where one can stand behind j steps -/
theorem reach_succ (sc : List Int → List Int → Int) (xs : List Int) (j : Nat) : reach sc xs (j + 1) = stepR sc (reach sc xs j) := rfl
def SmallSc (sc : List Int → List Int → Int) : Prop := ∀ xs ys, Rise xs → xs.length ≤ 6 → ys ∈ above xs → 0 ≤ sc xs ys ∧ sc xs ys ≤ 15
theorem reach_ok {sc : List Int → List Int → Int} (hb : SmallSc sc) {xs : List Int} (hr : Rise xs) (h6 : xs.length ≤ 6) : ∀ j, ∀ p ∈ reach sc xs j, Rise p.1 ∧ p.1.length + j = xs.length ∧ 0 ≤ p.2 ∧ p.2 ≤ 15 * j
  | 0, p, hp => by
    simp [reach] at hp
    subst hp
    exact ⟨hr, rfl, by simp, by simp⟩
  | j + 1, p, hp => by
    rw [reach_succ] at hp
    obtain ⟨q, hq, hm⟩ := List.mem_flatMap.1 hp
    obtain ⟨ys, hy, rfl⟩ := List.mem_map.1 hm
    obtain ⟨a, b, c, d⟩ := reach_ok hb hr h6 j q hq
    obtain ⟨e, f⟩ := above_mem a hy
    have := hb q.1 ys a (by omega) hy
    exact ⟨e, by simp only; omega, by simp only; omega, by simp only; omega⟩
theorem reach_vk {sc : List Int → List Int → Int} (hb : SmallSc sc) {xs : List Int} (hr : Rise xs) (h6 : xs.length ≤ 6) {j : Nat} {p : Pos} (hp : p ∈ reach sc xs j) : vk p ∧ p.1.length ≤ 6 := by
  obtain ⟨a, b, c, d⟩ := reach_ok hb hr h6 j p hp
  exact ⟨⟨a, by omega, by omega⟩, by omega⟩
def triN (n : Nat) : Nat → Nat
  | 0 => 0
  | j + 1 => triN n j + (n - 1 - j)
theorem triN_le : ∀ n, n ≤ 6 → ∀ j, j ≤ 6 → triN n j ≤ 15 := by decide
theorem reach_len {sc : List Int → List Int → Int} (hb : SmallSc sc) {xs : List Int} (hr : Rise xs) (h6 : xs.length ≤ 6) : ∀ j, (reach sc xs j).length ≤ 16 ^ triN xs.length j
  | 0 => by simp [reach, triN]
  | j + 1 => by
    have h1 := reach_len hb hr h6 j
    rw [reach_succ, triN, Nat.pow_add]
    unfold stepR
    refine flatMap_le h1 (fun p hp => ?_)
    obtain ⟨a, b, _, _⟩ := reach_ok hb hr h6 j p hp
    rw [List.length_map]
    have := above_len a
    rw [show p.1.length - 1 = xs.length - 1 - j from by omega] at this
    exact this
theorem reach_short {sc : List Int → List Int → Int} (hb : SmallSc sc) {xs : List Int} (hr : Rise xs) (h6 : xs.length ≤ 6) {j : Nat} (hj : j ≤ 6) : (reach sc xs j).length < 9223372036854775807 := by
  have h1 := reach_len hb hr h6 j
  have h2 : 16 ^ triN xs.length j ≤ 16 ^ 15 := Nat.pow_le_pow_right (by omega) (triN_le _ h6 _ hj)
  omega
theorem Dj.lt {w : World} (h : Dj w) : 1 < w.heap.size := World.block_lt_of_cell? _ _ (h 0 (by omega))

/-- what stands in the map behind the whole climb -/
def ClimbsTo (sc : List Int → List Int → Int) (xs : List Int) (w : World) (e : Ending) (w' : World) : Prop :=
  ∃ bm L, e = .returned (.map (some bm)) ∧ MapW Tryd.prog 84 3 w' bm L ∧ w.heap.size ≤ bm ∧ (∀ x ∈ L, x.1 ∈ reach sc xs (xs.length - 1)) ∧ (∀ φ, Cg (potL L fun p => φ p.1 p.2) (climbW sc φ (xs.length - 1) xs 0)) ∧ Below w.heap.size w w'
end Go.Proofs.YtcifcombbdblgaaDoor
