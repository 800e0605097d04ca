/- Parts of proofs: contracts and plain facts. Conditions: as each says. -/
import Derived.Test.YtmcgnbbobhfkpaaDoorK00
import Derived.Laws.Rows
namespace Go.Proofs.YtmcgnbbobhfkpaaDoor
open Go.RowKit

/-- the answer of a function that hands back a number and whether there is one -/
def IRes (p : Prop) (x : Int) (e : Ending) : Prop := ∃ y b, e = .returned (.tuple #[.int .i64 y, .bool b]) ∧ ((p ∧ b = true ∧ y = x) ∨ (¬p ∧ b = false ∧ y = 0))
theorem IRes.yes {p : Prop} {x : Int} (h : p) : IRes p x (.returned (.tuple #[.int .i64 x, .bool true])) := ⟨x, true, rfl, .inl ⟨h, rfl, rfl⟩⟩
theorem IRes.no {p : Prop} {x : Int} (h : ¬p) : IRes p x (.returned (.tuple #[.int .i64 0, .bool false])) := ⟨0, false, rfl, .inr ⟨h, rfl, rfl⟩⟩
theorem ires_same {p : Prop} {x y y' : Int} {b b' : Bool} (h : (p ∧ b = true ∧ y = x) ∨ (¬p ∧ b = false ∧ y = 0)) (h' : (p ∧ b' = true ∧ y' = x) ∨ (¬p ∧ b' = false ∧ y' = 0)) : b = b' ∧ y = y' := by
  rcases h with ⟨h1, rfl, rfl⟩ | ⟨h1, rfl, rfl⟩ <;> rcases h' with ⟨k1, rfl, rfl⟩ | ⟨k1, rfl, rfl⟩
  · exact ⟨rfl, rfl⟩
  · exact absurd h1 k1
  · exact absurd k1 h1
  · exact ⟨rfl, rfl⟩
/-- .. a bool and whether there is one -/
def BRes (p q : Prop) (e : Ending) : Prop := ∃ y b, e = .returned (.tuple #[.bool y, .bool b]) ∧ ((p ∧ b = true ∧ (y = true ↔ q)) ∨ (¬p ∧ b = false ∧ y = false))
theorem bres_same {p q : Prop} {y y' b b' : Bool} (h : (p ∧ b = true ∧ (y = true ↔ q)) ∨ (¬p ∧ b = false ∧ y = false)) (h' : (p ∧ b' = true ∧ (y' = true ↔ q)) ∨ (¬p ∧ b' = false ∧ y' = false)) : b = b' ∧ y = y' := by
  rcases h with ⟨h1, rfl, h2⟩ | ⟨h1, rfl, rfl⟩ <;> rcases h' with ⟨k1, rfl, k2⟩ | ⟨k1, rfl, rfl⟩
  · have := h2.trans k2.symm
    refine ⟨rfl, ?_⟩
    cases y <;> cases y' <;> simp_all
  · exact absurd h1 k1
  · exact absurd k1 h1
  · exact ⟨rfl, rfl⟩

/-- the first number that isn't 0 of a line whose signs alternate is 1 -/
theorem first_one {xs : List Int} (h : lineOk xs) : ∃ j, j < xs.length ∧ gi xs j = 1 ∧ ∀ i, i < j → gi xs i = 0 := by
  have key : ∀ k, k ≤ xs.length → (∃ j, j < k ∧ gi xs j = 1 ∧ ∀ i, i < j → gi xs i = 0) ∨ (sumK xs k = 0 ∧ ∀ i, i < k → gi xs i = 0) := by
    intro k
    induction k with
    | zero => exact fun _ => .inr ⟨rfl, fun i hi => absurd hi (by omega)⟩
    | succ k ih =>
      intro hk
      rcases ih (by omega) with ⟨j, hj, h1, h2⟩ | ⟨h1, h2⟩
      · exact .inl ⟨j, by omega, h1, h2⟩
      · have hb := h.1 (k + 1) hk
        simp only [sumK] at hb
        by_cases e : gi xs k = 0
        · refine .inr ⟨by simp only [sumK]; omega, fun i hi => ?_⟩
          by_cases e2 : i = k
          · subst e2; exact e
          · exact h2 i (by omega)
        · exact .inl ⟨k, by omega, by omega, h2⟩
  rcases key xs.length (Nat.le_refl _) with h1 | ⟨h1, _⟩
  · exact h1
  · have := h.2
    omega

/-- .. its index -/
def IsFirst (xs : List Int) (j : Nat) : Prop := j < xs.length ∧ gi xs j = 1 ∧ ∀ i, i < j → gi xs i = 0
theorem first_unique {xs : List Int} {j j' : Nat} (h : IsFirst xs j) (h' : IsFirst xs j') : j = j' := by
  rcases Nat.lt_trichotomy j j' with hl | hl | hl
  · have := h'.2.2 j hl; have := h.2.1; omega
  · exact hl
  · have := h.2.2 j' hl; have := h'.2.1; omega

/-- the answer of the first column's functions -/
def CRes (m : List (List Int)) (e : Ending) : Prop := (good m ∧ ∃ j, IsFirst (gr m 0) j ∧ e = .returned (.tuple #[.int .i64 (j : Int), .bool true])) ∨ (¬good m ∧ e = .returned (.tuple #[.int .i64 0, .bool false]))

/-- whatever both hand back is the same number -/
theorem cres_ires {m : List (List Int)} {e : Ending} (h : CRes m e) : ∀ j, IsFirst (gr m 0) j → IRes (good m) (j : Int) e := by
  intro j hj
  rcases h with ⟨hg, j', hj', rfl⟩ | ⟨hg, rfl⟩
  · obtain rfl := first_unique hj hj'
    exact IRes.yes hg
  · exact IRes.no hg

/-- the column of the first 1, where there is one -/
theorem cres_some (m : List (List Int)) : ∃ x : Int, ∀ e, CRes m e → IRes (good m) x e := by
  by_cases hg : good m
  · obtain ⟨j, hj⟩ := first_one (hg.2.1 0 (by have := hg.1.1; omega))
    exact ⟨j, fun e h => cres_ires h j hj⟩
  · refine ⟨0, fun e h => ?_⟩
    rcases h with ⟨h1, _⟩ | ⟨_, rfl⟩
    · exact absurd h1 hg
    · exact IRes.no hg
end Go.Proofs.YtmcgnbbobhfkpaaDoor

namespace Go.Proofs.YtmcgnbbobhfkpaaDoor
open Go.RowKit

theorem gi_take {xs : List Int} {k i : Nat} (h : i < k) : gi (xs.take k) i = gi xs i := by
  simp only [gi, List.getD, List.getElem?_take]
  rw [if_pos h]
theorem gr_take {m : List (List Int)} {k i : Nat} (h : i < k) : gr (m.take k) i = gr m i := by
  simp only [gr, List.getD, List.getElem?_take]
  rw [if_pos h]
theorem gr_drop (m : List (List Int)) (k i : Nat) : gr (m.drop k) i = gr m (k + i) := by simp [gr, List.getD]

theorem IntsAt.take {w : World} {ao : Option Addr} {xs : List Int} (h : IntsAt w ao xs) (k : Nat) : IntsAt w ao (xs.take k) := by
  intro i hi
  have hi' : i < k ∧ i < xs.length := by rw [List.length_take] at hi; omega
  obtain ⟨b, o, e, hc⟩ := h i hi'.2
  exact ⟨b, o, e, by rw [gi_take hi'.1]; exact hc⟩
theorem MatAt.take {w : World} {ao : Option Addr} {m : List (List Int)} (h : MatAt w ao m) (k : Nat) : MatAt w ao (m.take k) := by
  intro i hi
  have hi' : i < k ∧ i < m.length := by rw [List.length_take] at hi; omega
  obtain ⟨b, o, r, c, e, hc, hr, h1, h2⟩ := h i hi'.2
  rw [gr_take hi'.1]
  exact ⟨b, o, r, c, e, hc, hr, h1, h2⟩
theorem MatAt.drop {w : World} {b o : Nat} {m : List (List Int)} (h : MatAt w (some ⟨b, o, none⟩) m) (k : Nat) : MatAt w (some ⟨b, o + k, none⟩) (m.drop k) := by
  intro i hi
  rw [List.length_drop] at hi
  obtain ⟨b', o', r, c, e, hc, hr, h1, h2⟩ := h (k + i) (by omega)
  simp only [Option.some.injEq, Addr.mk.injEq, and_true] at e
  obtain ⟨rfl, rfl⟩ := e
  rw [gr_drop]
  exact ⟨b, o + k, r, c, rfl, by rw [Nat.add_assoc]; exact hc, hr, h1, h2⟩

/-- the numbers of some rows in their first columns -/
def bsum (m : List (List Int)) (cols : Nat) : Int := sumF (fun i => sumF (fun j => gi (gr m i) j) cols) m.length

/-- all numbers are 0, 1 or -1, no row has more than 6, none fewer than the columns -/
def Tame (m : List (List Int)) (cols : Nat) : Prop := m.length ≤ 6 ∧ cols ≤ 6 ∧ ∀ i, i < m.length → cols ≤ (gr m i).length ∧ (gr m i).length ≤ 6 ∧ 0 < (gr m i).length ∧ ∀ j, j < (gr m i).length → -1 ≤ gi (gr m i) j ∧ gi (gr m i) j ≤ 1

theorem row_bound {f : Nat → Int} {n k : Nat} (hn : n ≤ 6) (h : ∀ j, j < n → -1 ≤ f j ∧ f j ≤ 1) (hk : k ≤ n) : -6 ≤ sumF f k ∧ sumF f k ≤ 6 := by
  have := sumF_bound (f := f) (B := 1) (k := k) (fun i hi => h i (by omega))
  omega

theorem block_bound {m : List (List Int)} {cols : Nat} (h : Tame m cols) {k : Nat} (hk : k ≤ m.length) : -36 ≤ sumF (fun i => sumF (fun j => gi (gr m i) j) cols) k ∧ sumF (fun i => sumF (fun j => gi (gr m i) j) cols) k ≤ 36 := by
  have h1 := h.1
  have := sumF_bound (f := fun i => sumF (fun j => gi (gr m i) j) cols) (B := 6) (k := k) (fun i hi => by
    have hr := h.2.2 i (by omega)
    exact row_bound (f := fun j => gi (gr m i) j) hr.2.1 hr.2.2.2 hr.1)
  omega

end Go.Proofs.YtmcgnbbobhfkpaaDoor

namespace Go.Proofs.YtmcgnbbobhfkpaaDoor
open Go.RowKit

/-- block g holds a cursor: bytes (a slice), the place k, the number s -/
def CurAt (w : World) (g : Nat) (a : Option Addr) (n c : Nat) (k : Nat) (s : Int) : Prop := w.heap[g]? = some (.cells #[.slice a n c, .int .i64 (k : Int), .int .u64 s] 35 (0, 0))
theorem CurAt.c0 {w : World} {g n c k : Nat} {a : Option Addr} {s : Int} (h : CurAt w g a n c k s) : w.cell? ⟨g, 0, none⟩ = some (.slice a n c) := by rw [cell_of_row w g _ _ _ _ h]; rfl
theorem CurAt.c1 {w : World} {g n c k : Nat} {a : Option Addr} {s : Int} (h : CurAt w g a n c k s) : w.cell? ⟨g, 1, none⟩ = some (.int .i64 (k : Int)) := by rw [cell_of_row w g _ _ _ _ h]; rfl
theorem CurAt.c2 {w : World} {g n c k : Nat} {a : Option Addr} {s : Int} (h : CurAt w g a n c k s) : w.cell? ⟨g, 2, none⟩ = some (.int .u64 s) := by rw [cell_of_row w g _ _ _ _ h]; rfl
theorem CurAt.frozen {w : World} {g n c k : Nat} {a : Option Addr} {s : Int} (h : CurAt w g a n c k s) (i : Nat) : w.frozen? ⟨g, i, none⟩ = false := frozen_of_row w g i _ _ h
theorem CurAt.lt {w : World} {g n c k : Nat} {a : Option Addr} {s : Int} (h : CurAt w g a n c k s) : g < w.heap.size := (Array.getElem?_eq_some_iff.1 h).1
theorem CurAt.set1 {w : World} {g n c k : Nat} {a : Option Addr} {s : Int} (h : CurAt w g a n c k s) (k' : Nat) {x : Int} (hx : x = (k' : Int)) : CurAt (w.setCell ⟨g, 1, none⟩ (.int .i64 x)) g a n c k' s := by
  subst hx
  unfold CurAt at h ⊢
  rw [heap_setCell_same w g _ _ _ _ h]
  rfl
theorem CurAt.drewN {w : World} {g n c k : Nat} {a : Option Addr} {s : Int} (h : CurAt w g a n c k s) (m : Nat) : CurAt (w.drewN m) g a n c k s := h
theorem OnlyW.drewN {S : Nat → Prop} {a w : World} (h : OnlyW S a w) (n : Nat) : OnlyW S a (w.drewN n) := ⟨h.os, h.tape, h.output, h.size, h.block⟩
theorem CurAt.set2 {w : World} {g n c k : Nat} {a : Option Addr} {s : Int} (h : CurAt w g a n c k s) (s' : Int) : CurAt (w.setCell ⟨g, 2, none⟩ (.int .u64 s')) g a n c k s' := by
  unfold CurAt at h ⊢
  rw [heap_setCell_same w g _ _ _ _ h]
  rfl
theorem CurAt.below {w w' : World} {g n c k : Nat} {a : Option Addr} {s : Int} (h : CurAt w g a n c k s) (hb : Below w.heap.size w w') : CurAt w' g a n c k s := by
  unfold CurAt
  rw [hb.block g h.lt]
  exact h
/-- bytes, read -/
def BytesIn (w : World) (a : Option Addr) (n : Nat) : Prop := ∀ i, i < n → ∃ b o x, a = some ⟨b, o, none⟩ ∧ w.cell? ⟨b, o + i, none⟩ = some (.int .u8 x) ∧ 0 ≤ x ∧ x ≤ 255
theorem BytesIn.below {w w' : World} {a : Option Addr} {n : Nat} (h : BytesIn w a n) (hb : Below w.heap.size w w') : BytesIn w' a n := fun i hi => by
  obtain ⟨b, o, x, e, hc, h1, h2⟩ := h i hi
  exact ⟨b, o, x, e, cell_below hc hb, h1, h2⟩
end Go.Proofs.YtmcgnbbobhfkpaaDoor

namespace Go.Proofs.YtmcgnbbobhfkpaaDoor
open Go.ChangeShapes Go.WideShapes Go.ChangeAt Go.RowKit Go.Deep

theorem Tryd.cells_byte : Tryd.prog.cellsOf 5 = 1 := by kernel_rfl

/-- a slice of bytes that came in -/
theorem open_bytes_arg {H : Type} {enc : TypeId × Value → H} {w : World} {ao : Option Addr} {n c : Nat} {d : DataW H} {p : List MemPlace}
    (h : DataW.Trod enc Tryd.prog w 0 (fun _ => true) true 22 (.slice ao n c) d p) :
    n ≤ 9223372036854775807 ∧ BytesIn w ao n := by
  obtain ⟨fuel, hf⟩ := h
  rcases open_ints Tryd.underlying22 Tryd.underlying5 Tryd.cells_byte hf with ⟨hcs, _⟩ | ⟨x, l, c', zs, hcs, _, hl, hm, hz, _, hcell, hwz⟩
  · simp [Value.cells] at hcs
    obtain ⟨rfl, rfl, rfl⟩ := hcs
    exact ⟨by omega, fun i hi => absurd hi (by simp)⟩
  · simp [Value.cells] at hcs
    obtain ⟨rfl, rfl, rfl⟩ := hcs
    simp only [if_true] at hz
    have hm' : c ≤ 9223372036854775807 := by simpa [maxLen] using hm
    refine ⟨by omega, fun i hi => ?_⟩
    have hc := hcell i (by omega)
    obtain ⟨b, o, rfl⟩ := at_zero (hcell 0 (by omega))
    rw [Addr.add_lit] at hc
    have hr := range_u8 hwz i
    exact ⟨b, o, _, rfl, hc, by simpa [List.getD] using hr⟩
end Go.Proofs.YtmcgnbbobhfkpaaDoor

namespace Go.Proofs.YtmcgnbbobhfkpaaDoor
open Go.RowKit

theorem l1Most_any (a b : Int) (w : World) : Calls Tryd.prog 42 #[.int .i64 a, .int .i64 b] w fun e w' => e = .returned (.int .i64 (max a b)) ∧ w' = w := by
  by_cases h : b < a
  · have hm : max a b = a := by omega
    rw [hm]
    have hd : decide (b < a) = true := by simpa using h
    clear hm
    go_enter Tryd.func42, Tryd.ntmps42
    go_wp2
    go_ret
    exact ⟨rfl, rfl⟩
  · have hm : max a b = b := by omega
    rw [hm]
    have hd : decide (b < a) = false := by simpa using h
    clear hm
    go_enter Tryd.func42, Tryd.ntmps42
    go_wp2
    go_ret
    exact ⟨rfl, rfl⟩


end Go.Proofs.YtmcgnbbobhfkpaaDoor

namespace Go.Proofs.YtmcgnbbobhfkpaaDoor
open Go.RowKit

set_option maxRecDepth 100000 in
set_option maxHeartbeats 400000 in
theorem hSame_any (a1 a2 : Option Addr) (c1 c2 : Nat) (xs ys : List Int) (w : World) (hn : xs.length ≤ 1048576) (hn2 : ys.length ≤ 1048576) (h1 : IntsAt w a1 xs) (h2 : IntsAt w a2 ys) :
    Calls Tryd.prog 9 #[.slice a1 xs.length c1, .slice a2 ys.length c2] w fun e w' => e = .returned (.bool (xs == ys)) ∧ Q w w' := by
  have hm1 : xs.length ≤ 9223372036854775807 := by omega
  have hm2 : ys.length ≤ 9223372036854775807 := by omega
  have H1 := Lib.hid h1
  have H2 := Lib.hid h2
  clear h1 h2
  by_cases hl : ys.length = xs.length
  · have Hl := Lib.hid hl
    have hb : ((xs.length : Int) != (ys.length : Int)) = false := by simp; omega
    go_enter Tryd.func9, Tryd.ntmps9
    go_wp2
    go_loopw [13] (fun i wr => ∃ k : Nat, k ≤ xs.length ∧ i = .int .i64 k ∧ (∀ j, j < k → gi xs j = gi ys j) ∧ Q w wr) (fun i _ => xs.length - (intOf i).toNat)
    case atStart => exact ⟨0, Nat.zero_le _, rfl, fun j hj => absurd hj (by omega), Q.refl _⟩
    case round =>
      obtain ⟨k, hk, rfl, hr, hbr⟩ := hrel
      by_cases hlt : k < xs.length
      · obtain ⟨b1, o1, rfl, hc1⟩ := H1.out.below (hbr.below _) k hlt
        obtain ⟨b2, o2, rfl, hc2⟩ := H2.out.below (hbr.below _) k (by omega)
        have Hr := Lib.hid hr
        have Hbr := Lib.hid hbr
        by_cases e : gi xs k = gi ys k
        · have He := Lib.hid e
          rw [← e] at hc2
          obtain ⟨x, hx⟩ : ∃ x, x = gi xs k := ⟨_, rfl⟩
          rw [← hx] at hc1 hc2
          clear hx e hr hbr
          go_wp2
          go_quiet (fail)
          go_wp2
          go_roundw
          case rel => exact ⟨k + 1, by omega, by go_num, fun j hj => by
            by_cases ej : j = k
            · subst ej; exact He.out
            · exact Hr.out j (by omega), Hbr.out.drewN _⟩
          case measure => simp [intOf]; omega
        · have Hs := Lib.hid (show (xs == ys) = false by
            rw [beq_eq_false_iff_ne]
            intro h
            exact e (by rw [h]))
          have hne : (gi xs k != gi ys k) = true := by simpa using e
          obtain ⟨x, hx⟩ : ∃ x, x = gi xs k := ⟨_, rfl⟩
          obtain ⟨y, hy⟩ : ∃ y, y = gi ys k := ⟨_, rfl⟩
          rw [← hx] at hc1 hne
          rw [← hy] at hc2 hne
          clear hx hy e hr hbr
          go_wp2
          go_quiet (fail)
          go_wp2
          go_ret
          exact ⟨by rw [Hs.out]; rfl, Hbr.out.drewN _⟩
      · obtain rfl : k = xs.length := by omega
        have Hs := Lib.hid (show (xs == ys) = true by
          rw [beq_iff_eq]
          exact ext_gi Hl.out.symm hr)
        have Hbr := Lib.hid hbr
        clear hr hbr
        go_wp2
        go_ret
        exact ⟨by rw [Hs.out]; rfl, Hbr.out⟩
  · have Hs := Lib.hid (show (xs == ys) = false by
      rw [beq_eq_false_iff_ne]
      intro h
      exact hl (by rw [h]))
    have hb : ((xs.length : Int) != (ys.length : Int)) = true := by simp; omega
    go_enter Tryd.func9, Tryd.ntmps9
    go_wp2
    go_ret
    exact ⟨by rw [Hs.out]; rfl, Q.refl _⟩


/-- the sum of a list, added up from s on -/
def hsumF : List Int → Int → Int
  | [], s => s
  | x :: r, s => hsumF r (wrap64 (s + x))
theorem hsumF_step {xs : List Int} {k : Nat} (h : k < xs.length) (s : Int) : hsumF (xs.drop k) s = hsumF (xs.drop (k + 1)) (wrap64 (s + gi xs k)) := by
  rw [List.drop_eq_getElem_cons h, hsumF, gi_lt h]
set_option maxRecDepth 100000 in
set_option maxHeartbeats 400000 in
theorem hSum_any (ao : Option Addr) (c : Nat) (xs : List Int) (w : World) (hn : xs.length ≤ 1048576) (hx : IntsAt w ao xs) :
    Calls Tryd.prog 10 #[.slice ao xs.length c] w fun e w' => e = .returned (.int .i64 (hsumF xs 0)) ∧ w = w' := by
  have hm1 : xs.length ≤ 9223372036854775807 := by omega
  have H := Lib.hid hx
  clear hx
  go_enter Tryd.func10, Tryd.ntmps10
  go_wp2
  go_loop [3, 8] (fun s i => ∃ (k : Nat) (z : Int), k ≤ xs.length ∧ i = .int .i64 k ∧ s = .int .i64 z ∧ hsumF (xs.drop k) z = hsumF xs 0) (fun _ i => xs.length - (intOf i).toNat)
  case atStart => exact ⟨0, 0, Nat.zero_le _, rfl, rfl, rfl⟩
  case round =>
    obtain ⟨k, z, hk, rfl, rfl, hz⟩ := hrel
    by_cases hlt : k < xs.length
    · obtain ⟨b, o, rfl, hc⟩ := H.out k hlt
      have hs := hsumF_step hlt z
      rw [hz] at hs
      have Hs := Lib.hid hs
      obtain ⟨x, hx⟩ : ∃ x, x = gi xs k := ⟨_, rfl⟩
      rw [← hx] at hc Hs
      clear hz hs hx
      go_wp2
      go_round
      case rel => exact ⟨k + 1, _, by omega, by go_num, rfl, Hs.out.symm⟩
      case measure => simp [intOf]; omega
    · obtain rfl : k = xs.length := by omega
      have Hs := Lib.hid (show z = hsumF xs 0 by rw [← hz, List.drop_of_length_le (Nat.le_refl _)]; rfl)
      clear hz
      go_wp2
      go_ret
      exact ⟨by rw [← Hs.out]; rfl, rfl⟩
theorem big_any (a b : Option Addr) (n k c d : Nat) (w : World) (hn : n ≤ 9223372036854775807) (hk : k ≤ 9223372036854775807) :
    Calls Tryd.prog 4 #[.slice a n c, .slice b k d] w fun e w' => Ans (1048576 < n + k) e ∧ w = w' := by
  by_cases h1 : 1048576 < n
  · have e1 : (1048576 : Int) < (n : Int) := by omega
    have H := Lib.hid (show 1048576 < n + k by omega)
    clear h1
    go_enter Tryd.func4, Tryd.ntmps4
    go_wp2
    go_ret
    exact ⟨Ans.yes H.out, rfl⟩
  · have e1 : ¬ (1048576 : Int) < (n : Int) := by omega
    by_cases h2 : 1048576 < n + k
    · have e2 : (1048576 : Int) - (n : Int) < (k : Int) := by omega
      have H := Lib.hid h2
      clear h1 h2
      go_enter Tryd.func4, Tryd.ntmps4
      go_wp2
      go_ret
      exact ⟨Ans.yes H.out, rfl⟩
    · have e2 : ¬ (1048576 : Int) - (n : Int) < (k : Int) := by omega
      have H := Lib.hid h2
      clear h1 h2
      go_enter Tryd.func4, Tryd.ntmps4
      go_wp2
      go_ret
      exact ⟨Ans.no H.out, rfl⟩
end Go.Proofs.YtmcgnbbobhfkpaaDoor

namespace Go.Proofs.YtmcgnbbobhfkpaaDoor

/-- the numbers a..b -/
def rng (a b : Int) : List Int := (List.range (b - a + 1).toNat).map fun i : Nat => a + (i : Int)
theorem mem_rng {a b x : Int} : x ∈ rng a b ↔ a ≤ x ∧ x ≤ b := by
  unfold rng
  simp only [List.mem_map, List.mem_range]
  constructor
  · rintro ⟨i, hi, rfl⟩; omega
  · intro h; exact ⟨(x - a).toNat, by omega, by omega⟩
theorem rng_nil {a b : Int} (h : b < a) : rng a b = [] := by
  unfold rng
  rw [show (b - a + 1).toNat = 0 from by omega]; rfl
theorem rng_cons {a b : Int} (h : a ≤ b) : rng a b = a :: rng (a + 1) b := by
  unfold rng
  rw [show (b - a + 1).toNat = (b - (a + 1) + 1).toNat + 1 from by omega, List.range_succ_eq_map]
  simp [Function.comp_def]
  intro i hi; omega
theorem rng_snoc {a b : Int} (h : a ≤ b) : rng a b = rng a (b - 1) ++ [b] := by
  unfold rng
  rw [show (b - a + 1).toNat = (b - 1 - a + 1).toNat + 1 from by omega, List.range_succ]
  simp
  omega

/-- a row: numbers in 0..15 that rise, 1 to 6 of them -/
def isRowP (xs : List Int) : Prop := 1 ≤ xs.length ∧ xs.length ≤ 6 ∧ ∀ k, k < xs.length → (0 ≤ gi xs k ∧ gi xs k ≤ 15) ∧ (0 < k → gi xs (k - 1) < gi xs k)
/-- a row fits under the one above -/
def fitsP (row above : List Int) : Prop := ∀ k, k < above.length → gi row k ≤ gi above k ∧ gi above k ≤ gi row (k + 1)
def isTri (t : List (List Int)) : Prop := 1 ≤ t.length ∧ t.length ≤ 6 ∧ ∀ i, i < t.length → (gr t i).length = i + 1 ∧ isRowP (gr t i) ∧ (0 < i → fitsP (gr t i) (gr t (i - 1)))

/-- numbers that rise strictly, as a recursion -/
def Up : List Int → Prop
  | [] => True
  | [_] => True
  | a :: b :: r => a < b ∧ Up (b :: r)
theorem Up.tail {a : Int} {r : List Int} (h : Up (a :: r)) : Up r := by
  cases r with
  | nil => trivial
  | cons b r => exact h.2
theorem Up.lt {a : Int} {r : List Int} (h : Up (a :: r)) : ∀ x ∈ r, a < x := by
  induction r generalizing a with
  | nil => intro x hx; cases hx
  | cons b r ih =>
    intro x hx
    rcases List.mem_cons.1 hx with rfl | hx
    · exact h.1
    · have := ih h.2 x hx
      have := h.1
      omega
theorem Up.of {a : Int} {r : List Int} (h : Up r) (k : ∀ x ∈ r, a < x) : Up (a :: r) := by
  cases r with
  | nil => trivial
  | cons b r => exact ⟨k b (by simp), h⟩
theorem up_append {xs ys : List Int} (h : Up (xs ++ ys)) : Up xs ∧ Up ys ∧ ∀ x ∈ xs, ∀ y ∈ ys, x < y := by
  induction xs with
  | nil => exact ⟨trivial, h, fun x hx => by cases hx⟩
  | cons a r ih =>
    obtain ⟨h1, h2, h3⟩ := ih h.tail
    have h4 := Up.lt h
    refine ⟨Up.of h1 (fun x hx => h4 x (by simp [hx])), h2, fun x hx y hy => ?_⟩
    rcases List.mem_cons.1 hx with rfl | hx
    · exact h4 y (by simp [hy])
    · exact h3 x hx y hy
theorem up_join {xs ys : List Int} (h1 : Up xs) (h2 : Up ys) (h3 : ∀ x ∈ xs, ∀ y ∈ ys, x < y) : Up (xs ++ ys) := by
  induction xs with
  | nil => exact h2
  | cons a r ih =>
    refine Up.of (ih h1.tail (fun x hx => h3 x (by simp [hx]))) (fun x hx => ?_)
    rcases List.mem_append.1 hx with hx | hx
    · exact Up.lt h1 x hx
    · exact h3 a (by simp) x hx

theorem up_iff (xs : List Int) : Up xs ↔ ∀ k, k < xs.length → 0 < k → gi xs (k - 1) < gi xs k := by
  induction xs with
  | nil => exact ⟨fun _ k hk => absurd hk (by simp), fun _ => trivial⟩
  | cons a r ih =>
    cases r with
    | nil => exact ⟨fun _ k hk h0 => absurd hk (by simp; omega), fun _ => trivial⟩
    | cons b r =>
      constructor
      · intro h k hk h0
        obtain ⟨k, rfl⟩ : ∃ j, k = j + 1 := ⟨k - 1, by omega⟩
        cases k with
        | zero => exact h.1
        | succ k =>
          have := (ih.1 h.2) (k + 1) (by simp at hk ⊢; omega) (by omega)
          exact this
      · intro h
        refine ⟨h 1 (by simp) (by omega), ih.2 fun k hk h0 => ?_⟩
        have := h (k + 1) (by simp at hk ⊢; omega) (by omega)
        obtain ⟨k, rfl⟩ : ∃ j, k = j + 1 := ⟨k - 1, by omega⟩
        exact this

/-- numbers in 0..15 that rise -/
def Rise (xs : List Int) : Prop := Up xs ∧ ∀ x ∈ xs, 0 ≤ x ∧ x ≤ 15
theorem mem_gi {xs : List Int} {x : Int} (h : x ∈ xs) : ∃ k, k < xs.length ∧ gi xs k = x := by
  obtain ⟨k, hk, rfl⟩ := List.mem_iff_getElem.1 h
  exact ⟨k, hk, gi_lt hk⟩
theorem isRowP_iff (xs : List Int) : isRowP xs ↔ 1 ≤ xs.length ∧ xs.length ≤ 6 ∧ Rise xs := by
  unfold isRowP Rise
  rw [up_iff]
  constructor
  · rintro ⟨h1, h2, h3⟩
    refine ⟨h1, h2, fun k hk h0 => (h3 k hk).2 h0, fun x hx => ?_⟩
    obtain ⟨k, hk, rfl⟩ := mem_gi hx
    exact (h3 k hk).1
  · rintro ⟨h1, h2, h3, h4⟩
    exact ⟨h1, h2, fun k hk => ⟨h4 _ (gi_mem hk), h3 k hk⟩⟩

/-- the rows above xs whose numbers are beyond p, in order -/
def ab : List Int → Int → List (List Int)
  | [], _ => [[]]
  | [_], _ => [[]]
  | a :: b :: r, p => ((rng a b).filter fun x => decide (p < x)).flatMap fun x => (ab (b :: r) x).map fun ys => x :: ys
def above (xs : List Int) : List (List Int) := if xs.length < 2 then [] else ab xs (-1)

def lst (xs : List Int) : Int := xs.getLast?.getD (-1)
theorem lst_snoc (xs : List Int) (x : Int) : lst (xs ++ [x]) = x := by simp [lst]
theorem lst_nil : lst [] = -1 := rfl

/-- each beginning lengthened by each number in lo..hi beyond it -/
def leng (bs : List (List Int)) (lo hi : Int) : List (List Int) := bs.flatMap fun b => ((rng lo hi).filter fun v => decide (lst b < v)).map fun v => b ++ [v]
def bfs : List Int → List (List Int) → List (List Int)
  | [], bs => bs
  | [_], bs => bs
  | a :: b :: r, bs => bfs (b :: r) (leng bs a b)

theorem bfs_ab (xs : List Int) (bs : List (List Int)) : bfs xs bs = bs.flatMap fun b => (ab xs (lst b)).map fun ys => b ++ ys := by
  induction xs generalizing bs with
  | nil => simp [bfs, ab]
  | cons a r ih =>
    cases r with
    | nil => simp [bfs, ab]
    | cons b r =>
      simp only [bfs, ih, ab, leng]
      simp only [List.flatMap_assoc, List.flatMap_map, List.map_flatMap, lst_snoc, List.map_map, Function.comp_def, List.append_assoc, List.cons_append, List.nil_append]

theorem bfs_above {xs : List Int} (h : 2 ≤ xs.length) : bfs xs [[]] = above xs := by
  rw [bfs_ab, above, if_neg (by omega)]
  simp [lst_nil]

/-- what stands above rises and lies between -/
theorem ab_mem {xs : List Int} {p : Int} {ys : List Int} (h : ys ∈ ab xs p) : Up (p :: ys) ∧ (∀ y ∈ ys, ∃ a ∈ xs, a ≤ y) ∧ (∀ y ∈ ys, ∃ a ∈ xs, y ≤ a) ∧ ys.length = xs.length - 1 := by
  induction xs generalizing p ys with
  | nil => simp [ab] at h; subst h; simp [Up]
  | cons a r ih =>
    cases r with
    | nil => simp [ab] at h; subst h; simp [Up]
    | cons b r =>
      simp only [ab, List.mem_flatMap, List.mem_filter, decide_eq_true_eq, List.mem_map, mem_rng] at h
      obtain ⟨x, ⟨⟨h1, h2⟩, h3⟩, zs, hz, rfl⟩ := h
      obtain ⟨i1, i2, i3, i4⟩ := ih hz
      refine ⟨⟨h3, i1⟩, fun y hy => ?_, fun y hy => ?_, by simp at i4 ⊢; omega⟩
      · rcases List.mem_cons.1 hy with rfl | hy
        · exact ⟨a, by simp, h1⟩
        · obtain ⟨c, hc, hle⟩ := i2 y hy
          exact ⟨c, by simp at hc ⊢; exact .inr hc, hle⟩
      · rcases List.mem_cons.1 hy with rfl | hy
        · exact ⟨b, by simp, h2⟩
        · obtain ⟨c, hc, hle⟩ := i3 y hy
          exact ⟨c, by simp at hc ⊢; exact .inr hc, hle⟩

theorem above_mem {xs ys : List Int} (hx : Rise xs) (h : ys ∈ above xs) : Rise ys ∧ ys.length + 1 = xs.length := by
  unfold above at h
  split at h
  · cases h
  · next h2 =>
    obtain ⟨h1, h3, h4, h5⟩ := ab_mem h
    refine ⟨⟨h1.tail, fun y hy => ?_⟩, by omega⟩
    obtain ⟨a, ha, hle⟩ := h3 y hy
    obtain ⟨b, hb, hle2⟩ := h4 y hy
    have := hx.2 a ha
    have := hx.2 b hb
    omega

theorem above_one {xs : List Int} (h : xs.length < 2) : above xs = [] := by rw [above, if_pos h]

/-- there are no more than so many -/
theorem rng_filter_le {a b : Int} (ha : 0 ≤ a) (hb : b ≤ 15) (f : Int → Bool) : ((rng a b).filter f).length ≤ 16 := by
  refine Nat.le_trans (List.length_filter_le _ _) ?_
  unfold rng
  simp
  omega
theorem flatMap_le {α β : Type} {l : List α} {f : α → List β} {n k : Nat} (h1 : l.length ≤ n) (h2 : ∀ x ∈ l, (f x).length ≤ k) : (l.flatMap f).length ≤ n * k := by
  induction l generalizing n with
  | nil => simp
  | cons a r ih =>
    simp only [List.flatMap_cons, List.length_append]
    have := ih (n := r.length) (Nat.le_refl _) (fun x hx => h2 x (by simp [hx]))
    have := h2 a (by simp)
    have : (r.length + 1) * k ≤ n * k := Nat.mul_le_mul_right _ (by simpa using h1)
    rw [Nat.add_mul] at this
    omega
theorem ab_len {xs : List Int} (h : ∀ x ∈ xs, 0 ≤ x ∧ x ≤ 15) (p : Int) : (ab xs p).length ≤ 16 ^ (xs.length - 1) := by
  induction xs generalizing p with
  | nil => simp [ab]
  | cons a r ih =>
    cases r with
    | nil => simp [ab]
    | cons b r =>
      simp only [ab]
      have h1 := h a (by simp)
      have h2 := h b (by simp)
      refine Nat.le_trans (flatMap_le (k := 16 ^ r.length) (rng_filter_le (by omega) (by omega) _) (fun x _ => ?_)) (by simp [Nat.pow_succ, Nat.mul_comm])
      rw [List.length_map]
      exact ih (fun x hx => h x (by simp [hx])) x
theorem above_len {xs : List Int} (h : Rise xs) : (above xs).length ≤ 16 ^ (xs.length - 1) := by
  unfold above
  split
  · simp
  · exact ab_len h.2 _

/-- sums over lists -/
def sumL {α : Type} (l : List α) (f : α → Int) : Int := (l.map f).sum
theorem sumL_nil {α : Type} (f : α → Int) : sumL [] f = 0 := rfl
theorem sumL_cons {α : Type} (a : α) (l : List α) (f : α → Int) : sumL (a :: l) f = f a + sumL l f := by simp [sumL]
theorem sumL_append {α : Type} (l k : List α) (f : α → Int) : sumL (l ++ k) f = sumL l f + sumL k f := by simp [sumL]
theorem sumL_congr {α : Type} {l : List α} {f g : α → Int} (h : ∀ x ∈ l, f x = g x) : sumL l f = sumL l g := by
  unfold sumL
  rw [List.map_congr_left h]
theorem sumL_perm {α : Type} {l k : List α} (h : l.Perm k) (f : α → Int) : sumL l f = sumL k f := by
  induction h with
  | nil => rfl
  | cons a _ ih => rw [sumL_cons, sumL_cons, ih]
  | swap a b l => simp only [sumL_cons]; omega
  | trans _ _ h1 h2 => rw [h1, h2]

/-- ways from a row up to rows of one number -/
def waysN : Nat → List Int → Int
  | 0, _ => 1
  | n + 1, xs => sumL (above xs) (waysN n)
def ways (xs : List Int) : Int := waysN (xs.length - 1) xs
theorem ways_one {xs : List Int} (h : xs.length < 2) : ways xs = 1 := by unfold ways; rw [show xs.length - 1 = 0 from by omega]; rfl
theorem ways_more {xs : List Int} (hx : Rise xs) (h : 2 ≤ xs.length) : ways xs = sumL (above xs) ways := by
  unfold ways
  obtain ⟨n, hn⟩ : ∃ n, xs.length - 1 = n + 1 := ⟨xs.length - 2, by omega⟩
  rw [hn, waysN]
  refine sumL_congr fun ys hy => ?_
  have := (above_mem hx hy).2
  rw [show ys.length - 1 = n from by omega]

/-- .. j steps up, a score on the way, weighed at the end -/
def climbW (sc : List Int → List Int → Int) (φ : List Int → Int → Int) : Nat → List Int → Int → Int
  | 0, xs, s => φ xs s
  | j + 1, xs, s => sumL (above xs) fun ys => climbW sc φ j ys (s + sc xs ys)
/-- .. where one can stand -/
def reach (sc : List Int → List Int → Int) (xs : List Int) : Nat → List (List Int × Int)
  | 0 => [(xs, 0)]
  | j + 1 => (reach sc xs j).flatMap fun p => (above p.1).map fun ys => (ys, p.2 + sc p.1 ys)

theorem climb_ways (sc : List Int → List Int → Int) {xs : List Int} (s : Int) : ∀ {j : Nat}, climbW sc (fun _ _ => 1) j xs s = waysN j xs
  | 0 => rfl
  | j + 1 => by
    simp only [climbW, waysN]
    exact sumL_congr fun ys _ => climb_ways sc _

/-- a set of numbers -/
def mask : List Int → Nat
  | [] => 0
  | x :: r => 2 ^ x.toNat ||| mask r

end Go.Proofs.YtmcgnbbobhfkpaaDoor

namespace Go.Proofs.YtmcgnbbobhfkpaaDoor
theorem mask_nil : mask [] = 0 := rfl
theorem testBit_mask {xs : List Int} (h : ∀ x ∈ xs, 0 ≤ x) (i : Nat) : (mask xs).testBit i = decide ((i : Int) ∈ xs) := by
  induction xs with
  | nil => simp [mask]
  | cons a r ih =>
    have ha := h a (by simp)
    rw [mask, Nat.testBit_or, Nat.testBit_two_pow, ih (fun x hx => h x (by simp [hx]))]
    by_cases e : a.toNat = i
    · have : (i : Int) = a := by omega
      simp [e, this]
    · have : ¬ (i : Int) = a := by omega
      simp [e, this]
theorem mask_append (xs ys : List Int) : mask (xs ++ ys) = mask xs ||| mask ys := by
  induction xs with
  | nil => simp [mask]
  | cons a r ih => rw [List.cons_append, mask, mask, ih, Nat.or_assoc]
theorem mask_snoc (xs : List Int) (v : Int) : mask (xs ++ [v]) = mask xs ||| 2 ^ v.toNat := by
  rw [mask_append]; simp [mask]
theorem mask_lt {xs : List Int} {n : Nat} (h : ∀ x ∈ xs, 0 ≤ x ∧ x < n) : mask xs < 2 ^ n := by
  induction xs with
  | nil => simp [mask, Nat.two_pow_pos]
  | cons a r ih =>
    rw [mask]
    have := h a (by simp)
    exact Nat.or_lt_two_pow (Nat.pow_lt_pow_right (by omega) (by omega)) (ih (fun x hx => h x (by simp [hx])))
theorem mask_lt16 {xs : List Int} (h : Rise xs) : mask xs < 65536 := mask_lt (n := 16) (fun x hx => by have := h.2 x hx; omega)
theorem lst_mem {xs : List Int} (h : xs ≠ []) : lst xs ∈ xs := by
  unfold lst
  rw [List.getLast?_eq_some_getLast h]
  exact List.getLast_mem h
theorem le_lst {xs : List Int} (h : Up xs) : ∀ x ∈ xs, x ≤ lst xs := by
  intro x hx
  have hne : xs ≠ [] := by intro e; subst e; cases hx
  have e := List.dropLast_concat_getLast hne
  have e2 : lst xs = xs.getLast hne := by unfold lst; rw [List.getLast?_eq_some_getLast hne]; rfl
  rw [← e] at h hx
  obtain ⟨_, _, h3⟩ := up_append h
  rcases List.mem_append.1 hx with hx | hx
  · have := h3 x hx _ (by simp : xs.getLast hne ∈ [xs.getLast hne]); omega
  · simp at hx; omega
theorem mask_test {xs : List Int} (h : Up xs) (h0 : ∀ x ∈ xs, 0 ≤ x) {v : Int} (hv : 0 ≤ v) : mask xs < 2 ^ v.toNat ↔ lst xs < v := by
  constructor
  · intro hm
    by_cases hne : xs = []
    · subst hne; simp [lst]; omega
    · have hl := lst_mem hne
      have h1 := h0 _ hl
      by_cases hc : lst xs < v
      · exact hc
      · exfalso
        have hb : (mask xs).testBit (lst xs).toNat = true := by
          rw [testBit_mask h0]; simp [Int.toNat_of_nonneg h1, hl]
        have := Nat.ge_two_pow_of_testBit hb
        have : 2 ^ v.toNat ≤ 2 ^ (lst xs).toNat := Nat.pow_le_pow_right (by omega) (by omega)
        omega
  · intro hl
    refine mask_lt fun x hx => ⟨h0 x hx, ?_⟩
    have := le_lst h x hx
    omega
theorem mask_inj {xs ys : List Int} (hx : Up xs) (hx0 : ∀ x ∈ xs, 0 ≤ x) (hy : Up ys) (hy0 : ∀ x ∈ ys, 0 ≤ x) (h : mask xs = mask ys) : xs = ys := by
  have hm : ∀ z : Int, z ∈ xs ↔ z ∈ ys := by
    intro z
    by_cases hz : 0 ≤ z
    · have h1 := testBit_mask hx0 z.toNat
      have h2 := testBit_mask hy0 z.toNat
      rw [h, h2, Int.toNat_of_nonneg hz] at h1
      simpa using h1.symm
    · exact ⟨fun k => absurd (hx0 z k) hz, fun k => absurd (hy0 z k) hz⟩
  clear h hx0 hy0
  induction xs generalizing ys with
  | nil =>
    cases ys with
    | nil => rfl
    | cons b s => exact absurd ((hm b).2 (by simp)) (by simp)
  | cons a r ih =>
    cases ys with
    | nil => exact absurd ((hm a).1 (by simp)) (by simp)
    | cons b s =>
      have l1 := Up.lt hx
      have l2 := Up.lt hy
      have e : a = b := by
        rcases List.mem_cons.1 ((hm a).1 (by simp)) with e | h1
        · exact e
        · rcases List.mem_cons.1 ((hm b).2 (by simp)) with e | h2
          · exact e.symm
          · have := l1 b h2; have := l2 a h1; omega
      subst e
      rw [ih hx.tail hy.tail (fun z => ?_)]
      constructor
      · intro hz
        rcases List.mem_cons.1 ((hm z).1 (by simp [hz])) with rfl | h1
        · exact absurd (l1 z hz) (by omega)
        · exact h1
      · intro hz
        rcases List.mem_cons.1 ((hm z).2 (by simp [hz])) with rfl | h1
        · exact absurd (l2 z hz) (by omega)
        · exact h1

/-- what lies beyond x is a multiple -/
theorem mask_beyond {r : List Int} {n : Nat} (h : ∀ y ∈ r, (n : Int) ≤ y) : ∃ q, mask r = 2 ^ n * q := by
  induction r with
  | nil => exact ⟨0, by simp [mask]⟩
  | cons a r ih =>
    obtain ⟨q, hq⟩ := ih (fun y hy => h y (by simp [hy]))
    have ha := h a (by simp)
    refine ⟨2 ^ (a.toNat - n) ||| q, ?_⟩
    rw [mask, hq]
    apply Nat.eq_of_testBit_eq
    intro i
    simp only [Nat.testBit_or, Nat.testBit_two_pow_mul, Nat.testBit_two_pow]
    by_cases hi : n ≤ i
    · simp [hi]; congr 1; simp; omega
    · simp [hi]; omega
theorem mask_head {x : Int} {r : List Int} (h : Up (x :: r)) (hx : 0 ≤ x) : ∃ q, mask r = 2 ^ (x.toNat + 1) * q ∧ mask (x :: r) = 2 ^ (x.toNat + 1) * q + 2 ^ x.toNat := by
  obtain ⟨q, hq⟩ := mask_beyond (r := r) (n := x.toNat + 1) (fun y hy => by have := Up.lt h y hy; omega)
  refine ⟨q, hq, ?_⟩
  rw [mask, hq]
  have : 2 ^ x.toNat < 2 ^ (x.toNat + 1) := Nat.pow_lt_pow_right (by omega) (by omega)
  rw [Nat.or_comm, ← Nat.two_pow_add_eq_or_of_lt this]
theorem mask_rest {x : Int} {r : List Int} (h : Up (x :: r)) (hx : 0 ≤ x) : mask (x :: r) &&& (mask (x :: r) - 1) = mask r := by
  obtain ⟨q, h1, h2⟩ := mask_head h hx
  have hp : 0 < 2 ^ x.toNat := Nat.two_pow_pos _
  have hlt : 2 ^ x.toNat < 2 ^ (x.toNat + 1) := Nat.pow_lt_pow_right (by omega) (by omega)
  rw [h2, h1, show 2 ^ (x.toNat + 1) * q + 2 ^ x.toNat - 1 = 2 ^ (x.toNat + 1) * q + (2 ^ x.toNat - 1) from by omega]
  apply Nat.eq_of_testBit_eq
  intro i
  rw [Nat.testBit_and, Nat.testBit_two_pow_mul_add _ hlt, Nat.testBit_two_pow_mul_add _ (by omega), Nat.testBit_two_pow_mul]
  by_cases hi : i < x.toNat + 1
  · simp only [hi, if_true, Nat.testBit_two_pow, Nat.testBit_two_pow_sub_one]
    by_cases e : x.toNat = i
    · subst e; simp; intro; omega
    · simp [e]; omega
  · simp [hi]; omega
theorem mask_low {x : Int} {r : List Int} (h : Up (x :: r)) (hx : 0 ≤ x) (hr : ∀ y ∈ x :: r, y ≤ 15) : mask (x :: r) &&& (18446744073709551616 - mask (x :: r)) = 2 ^ x.toNat := by
  obtain ⟨q, h1, h2⟩ := mask_head h hx
  have hx15 := hr x (by simp)
  have hm : mask (x :: r) < 2 ^ 16 := mask_lt (fun y hy => ⟨by rcases List.mem_cons.1 hy with rfl | hy; exact hx; have := Up.lt h y hy; omega, by have := hr y hy; omega⟩)
  have hlt : 2 ^ x.toNat < 2 ^ (x.toNat + 1) := Nat.pow_lt_pow_right (by omega) (by omega)
  have hq : q < 2 ^ (63 - x.toNat) := by
    have e : (2:Nat) ^ 64 = 2 ^ (x.toNat + 1) * 2 ^ (63 - x.toNat) := by rw [← Nat.pow_add]; congr 1; omega
    have : 2 ^ (x.toNat + 1) * q < 2 ^ (x.toNat + 1) * 2 ^ (63 - x.toNat) := by rw [← e]; omega
    exact Nat.lt_of_mul_lt_mul_left this
  have e2 : 18446744073709551616 - mask (x :: r) = 2 ^ (x.toNat + 1) * (2 ^ (63 - x.toNat) - (q + 1)) + 2 ^ x.toNat := by
    have e : (18446744073709551616:Nat) = 2 ^ (x.toNat + 1) * 2 ^ (63 - x.toNat) := by rw [← Nat.pow_add, show x.toNat + 1 + (63 - x.toNat) = 64 from by omega]
    rw [h2, Nat.mul_sub, ← e, Nat.mul_add]
    have : 2 ^ (x.toNat + 1) * (q + 1) ≤ 18446744073709551616 := by rw [e]; exact Nat.mul_le_mul_left _ (by omega)
    rw [Nat.mul_add] at this
    have e3 : 2 ^ (x.toNat + 1) = 2 ^ x.toNat + 2 ^ x.toNat := by rw [Nat.pow_succ]; omega
    omega
  rw [e2, h2]
  apply Nat.eq_of_testBit_eq
  intro i
  rw [Nat.testBit_and, Nat.testBit_two_pow_mul_add _ hlt, Nat.testBit_two_pow_mul_add _ hlt, Nat.testBit_two_pow]
  by_cases hi : i < x.toNat + 1
  · simp [hi]
  · simp only [hi, if_false, Nat.testBit_two_pow_sub_succ hq]
    have : ¬ x.toNat = i := by omega
    simp [this]
    intro a _; exact a
/-- the formula of the library for the number of ones -/
def pcF (x0 : Nat) : Nat :=
  let x1 := Nat.add (Nat.land (Nat.div x0 2) 6148914691236517205) (Nat.land x0 6148914691236517205)
  let x2 := Nat.add (Nat.land (Nat.div x1 4) 3689348814741910323) (Nat.land x1 3689348814741910323)
  let x3 := Nat.land (Nat.add (Nat.div x2 16) x2) 1085102592571150095
  let x4 := Nat.add x3 (Nat.div x3 256)
  let x5 := Nat.add x4 (Nat.div x4 65536)
  let x6 := Nat.add x5 (Nat.div x5 4294967296)
  Nat.land x6 127
/-- it is right at every set of up to 6 of the k first numbers, beside the set x of c others -/
def pcGo : Nat → Nat → Nat → Bool
  | 0, x, c => Nat.beq (pcF x) c
  | k + 1, x, c => (pcGo k x c).and (match Nat.beq c 6 with | true => true | false => pcGo k (Nat.add x (Nat.pow 2 k)) (Nat.succ c))
set_option maxRecDepth 100000 in
theorem pc_all : pcGo 16 0 0 = true := by decide +kernel
theorem pc_go {k x c : Nat} {xs : List Int} (h : pcGo k x c = true) (hu : Up xs) (hx : ∀ y ∈ xs, 0 ≤ y ∧ y < k) (hl : xs.length + c ≤ 6) : pcF (x + mask xs) = c + xs.length := by
  induction k generalizing x c xs with
  | zero =>
    have : xs = [] := by
      cases xs with
      | nil => rfl
      | cons a r => have := hx a (by simp); omega
    subst this
    have := Nat.eq_of_beq_eq_true h
    simpa [mask] using this
  | succ k ih =>
    simp only [pcGo, Bool.and] at h
    obtain ⟨h1, h2⟩ : pcGo k x c = true ∧ (match Nat.beq c 6 with | true => true | false => pcGo k (Nat.add x (Nat.pow 2 k)) (Nat.succ c)) = true := by
      revert h; cases pcGo k x c <;> simp
    by_cases hm : (k : Int) ∈ xs
    · have hne : xs ≠ [] := by intro e; subst e; cases hm
      have e := List.dropLast_concat_getLast hne
      generalize xs.dropLast = ys at e
      generalize xs.getLast hne = v at e
      subst e
      obtain ⟨u1, _, u3⟩ := up_append hu
      have hv : v = k := by
        rcases List.mem_append.1 hm with hm | hm
        · have := u3 _ hm v (by simp); have := hx v (by simp); omega
        · simp at hm; exact hm.symm
      subst hv
      have hc : Nat.beq c 6 = false := by
        cases hb : Nat.beq c 6
        · rfl
        · have := Nat.eq_of_beq_eq_true hb; simp at hl; omega
      rw [hc] at h2
      have hy : ∀ y ∈ ys, 0 ≤ y ∧ y < k := fun y hy => ⟨(hx y (by simp [hy])).1, by have := u3 y hy k (by simp); omega⟩
      have := ih h2 u1 hy (by simp at hl; omega)
      have em : mask (ys ++ [(k : Int)]) = 2 ^ k + mask ys := by
        rw [mask_snoc, Int.toNat_natCast, Nat.or_comm]
        have := Nat.two_pow_add_eq_or_of_lt (mask_lt hy) 1
        simpa using this.symm
      rw [em, ← Nat.add_assoc]
      refine Eq.trans this ?_
      simp; omega
    · exact ih h1 hu (fun y hy => ⟨(hx y hy).1, by have := (hx y hy).2; have : y ≠ k := fun e => hm (e ▸ hy); omega⟩) hl
theorem pc_mask {xs : List Int} (h : Rise xs) (hl : xs.length ≤ 6) : pcF (mask xs) = xs.length := by
  have := pc_go (x := 0) (c := 0) pc_all h.1 (fun y hy => by have := h.2 y hy; omega) hl
  simpa using this
end Go.Proofs.YtmcgnbbobhfkpaaDoor

