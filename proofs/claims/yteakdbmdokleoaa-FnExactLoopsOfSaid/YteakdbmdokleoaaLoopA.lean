/- The two tables of loops by sums of rows and columns; how a variable that holds loops reads. No conditions. -/
import Derived.Test.YteakdbmdokleoaaTLaw
import Derived.Test.YteakdbmdokleoaaSame
namespace Go.Proofs.Yteakdbmdokleoaa
open Go.RowKit

/-- the edges left of the points of a row, by the sums before them, and those above, by the sums above them -/
def acr (m : List (List Int)) (i j : Nat) : Int := (sumK (gr m i) j + i + j + 1) % 2
def dwn (m : List (List Int)) (i j : Nat) : Int := (sumK (gr (tr m) j) i + i + j) % 2
def acrT (m : List (List Int)) : List (List Int) := tab m.length (m.length + 1) (acr m)
def dwnT (m : List (List Int)) : List (List Int) := tab (m.length + 1) m.length (dwn m)

theorem sumF_idI (xs : List Int) : ∀ k, sumF (fun i => idI (gi xs i)) k = sumK xs k
  | 0 => rfl
  | k + 1 => by
    show sumF (fun i => idI (gi xs i)) k + idI (gi xs k) = sumK xs k + gi xs k
    rw [sumF_idI xs k]
    rfl
theorem sumK_take {xs : List Int} {j : Nat} : ∀ k, k ≤ j → sumK (xs.take j) k = sumK xs k := fun k hk => sumK_congr fun i hi => gi_take (by omega)

/-- the sum of the first j numbers of a line whose signs alternate -/
theorem sumTake_any (ao : Option Addr) (c : Nat) (xs : List Int) (j : Nat) (w : World) (hn : xs.length ≤ 6) (hl : lineOk xs) (hj : j ≤ xs.length) (hx : IntsAt w ao xs) :
    Calls Try.prog 136 #[.slice ao j c, .func (.func 137) #[] #[]] w fun e w' => e = .returned (.int .i64 (sumK xs j)) ∧ w = w' := by
  have hlen : (xs.take j).length = j := by rw [List.length_take]; omega
  have h := sumOfInt_itself ao c (xs.take j) w (by omega) (fun k hk => by
    rw [hlen] at hk
    rw [sumF_idI, sumK_take k hk]
    have := hl.1 k (by omega)
    omega) (hx.take j)
  rw [hlen, sumF_idI, sumK_take j (Nat.le_refl _)] at h
  exact h

/-- a variable that holds loops -/
def lp (n : Int) (A D : Value) : Array Value := #[.int .i64 n, A, D]
def LpAt (w : World) (g : Nat) (n : Int) (A D : Value) : Prop := w.heap[g]? = some (.cells (lp n A D) 25 (0, 0))
def nilS : Value := .slice none 0 0
theorem LpAt.c0 {w : World} {g : Nat} {n : Int} {A D : Value} (h : LpAt w g n A D) : w.cell? ⟨g, 0, none⟩ = some (.int .i64 n) := by rw [cell_of_row w g 0 _ _ _ h]; rfl
theorem LpAt.c1 {w : World} {g : Nat} {n : Int} {A D : Value} (h : LpAt w g n A D) : w.cell? ⟨g, 1, none⟩ = some A := by rw [cell_of_row w g 1 _ _ _ h]; rfl
theorem LpAt.c2 {w : World} {g : Nat} {n : Int} {A D : Value} (h : LpAt w g n A D) : w.cell? ⟨g, 2, none⟩ = some D := by rw [cell_of_row w g 2 _ _ _ h]; rfl
theorem LpAt.lt {w : World} {g : Nat} {n : Int} {A D : Value} (h : LpAt w g n A D) : g < w.heap.size := lt_of_block h
theorem LpAt.frozen {w : World} {g : Nat} {n : Int} {A D : Value} (h : LpAt w g n A D) (k : Nat) : w.frozen? ⟨g, k, none⟩ = false := frozen_of_row w g k _ _ h
theorem LpAt.below {w w' : World} {g : Nat} {n : Int} {A D : Value} (h : LpAt w g n A D) (hb : Below w.heap.size w w') : LpAt w' g n A D := by
  unfold LpAt
  rw [hb.block g h.lt]
  exact h
theorem LpAt.same {w w' : World} {g : Nat} {n : Int} {A D : Value} (h : LpAt w g n A D) (hb : w'.heap[g]? = w.heap[g]?) : LpAt w' g n A D := by
  unfold LpAt
  rw [hb]
  exact h
theorem LpAt.other {w : World} {g : Nat} {n : Int} {A D : Value} (h : LpAt w g n A D) {a : Addr} (ha : a.block ≠ g) (u : Value) : LpAt (w.setCell a u) g n A D := by
  unfold LpAt
  rw [Below.heap_setCell _ _ _ _ (fun e => ha e.symm)]
  exact h
theorem LpAt.set1 {w : World} {g : Nat} {n : Int} {A D : Value} (h : LpAt w g n A D) (u : Value) : LpAt (w.setCell ⟨g, 1, none⟩ u) g n u D := by
  unfold LpAt
  rw [heap_setCell_same w g _ _ _ _ h]
  rfl
theorem LpAt.set2 {w : World} {g : Nat} {n : Int} {A D : Value} (h : LpAt w g n A D) (u : Value) : LpAt (w.setCell ⟨g, 2, none⟩ u) g n A u := by
  unfold LpAt
  rw [heap_setCell_same w g _ _ _ _ h]
  rfl
theorem LpAt.setRow {w : World} {g : Nat} {n : Int} {A D : Value} (h : LpAt w g n A D) (k : Int) (A' D' : Value) : LpAt (w.setRow g (lp k A' D')) g k A' D' := setRow_heap w g _ _ _ _ h
theorem Try.info_loops : (Try.prog.info? 25).map (fun i => (i.zero, i.size)) = some (some (.agg (lp 0 nilS nilS)), 3) := by kernel_rfl
theorem Try.size_loops (n : Int) (A D : Value) : (Try.prog.info? 25).map (·.size) = some (lp n A D).size := (zero_of_info Try.info_loops).2
theorem lp_one (n : Int) (a b : Option Addr) (k c k' c' : Nat) : (lp n (.slice a k c) (.slice b k' c')).all (·.oneCell') = true := by simp [lp, Value.oneCell']
theorem lp_zero_one : (lp 0 nilS nilS).all (·.oneCell') = true := by simp [lp, nilS, Value.oneCell']
theorem Try.load_loops {w : World} {g : Nat} {n : Int} {A D : Value} (h : LpAt w g n A D) : (loadVar 25 ⟨g, 0, none⟩).run Try.prog w = .ok (.agg (lp n A D)) w :=
  run_loadVar_row w g _ _ _ _ _ h Try.underlying25 rfl (Try.size_loops n A D)
theorem Try.built_loops0 : Try.prog.built 25 [] = some (lp 0 nilS nilS) := by kernel_rfl
theorem lp_size (n : Int) (A D : Value) : (lp n A D).size = 3 := rfl

theorem ownsRow_one {w w' : World} {B g n c : Nat} {e : TypeId} {xs : List Value} (h : w.ownsRow B e 1 (.slice (some ⟨g, 0, none⟩) n c) n xs) (hs : w'.heap[g]? = w.heap[g]?) : w'.ownsRow B e 1 (.slice (some ⟨g, 0, none⟩) n c) n xs := by
  refine ⟨h.1, ?_⟩
  rcases h.2 with h0 | ⟨g', cap, cur, hv, hg, hh, r⟩
  · exact .inl h0
  · simp only [Value.slice.injEq, Option.some.injEq, Addr.mk.injEq, and_true, true_and] at hv
    obtain ⟨rfl, rfl⟩ := hv
    exact .inr ⟨g, c, cur, rfl, hg, by rw [hs]; exact hh, r⟩
theorem OwnP.setBelow {w : World} {B n k : Nat} {v : Value} {m : List (List Int)} {vs : List Value} (h : OwnP w B v n m k vs) {a : Addr} (ha : a.block < B) (u : Value) : OwnP (w.setCell a u) B v n m k vs :=
  ⟨ownsRow_setCell_below h.top ha u, fun i hi => ownsRow_setCell_below (h.rows i hi) ha u, h.apart⟩
theorem OwnP.setApart {w : World} {B n k : Nat} {v : Value} {m : List (List Int)} {vs : List Value} (h : OwnP w B v n m k vs) {a : Addr} (ht : v.ownBlock ≠ some a.block) (hr : ∀ i, i < k → (vs.getD i undef).ownBlock ≠ some a.block) (u : Value) : OwnP (w.setCell a u) B v n m k vs :=
  ⟨Go.ownsRow_setCell_other h.top ht u, fun i hi => Go.ownsRow_setCell_other (h.rows i hi) (hr i hi) u, h.apart⟩
end Go.Proofs.Yteakdbmdokleoaa
