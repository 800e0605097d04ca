/- Parts of proofs: contracts and plain facts. Conditions: as each says. -/
import Derived.Test.YtgdijjfipicodaaDoorK15
import Derived.Shelf.Strings.Builder1
import Derived.Shelf.Strings.BuilderK
import Derived.Shelf.Small.Wraps
import Derived.Ground.Names2Prog
import Derived.Ground.NamesProg
import Derived.Test.YtgdijjfipicodaaDoorProg
namespace Go.Proofs.YtgdijjfipicodaaDoor
open Go.RowKit

set_option maxRecDepth 100000 in
set_option maxHeartbeats 800000 in
theorem sEqualI_any (a1 a2 : Option Addr) (c1 c2 : Nat) (xs ys : List Int) (w : World) (hn : xs.length ≤ 1048576) (hn2 : ys.length ≤ 1048576) (h1 : IntsAt w a1 xs) (h2 : IntsAt w a2 ys) :
    Calls Tryd.prog 101 #[.slice a1 xs.length c1, .slice a2 ys.length c2] w fun e w' => e = .returned (.bool (xs == ys)) ∧ Q w w' := by
  have hm1 : xs.length ≤ 9223372036854775807 := by omega
  have hm2 : ys.length ≤ 9223372036854775807 := by omega
  have H1 := Lib.hid h1
  have H2 := Lib.hid h2
  clear h1 h2
  by_cases hl : ys.length = xs.length
  · have Hl := Lib.hid hl
    have hb : ((xs.length : Int) != (ys.length : Int)) = false := by simp; omega
    go_enter Tryd.func101, Tryd.ntmps101
    go_wp2
    go_loopw [13] (fun i wr => ∃ k : Nat, k ≤ xs.length ∧ i = .int .i64 k ∧ (∀ j, j < k → gi xs j = gi ys j) ∧ Q w wr) (fun i _ => xs.length - (intOf i).toNat)
    case atStart => exact ⟨0, Nat.zero_le _, rfl, fun j hj => absurd hj (by omega), Q.refl _⟩
    case round =>
      obtain ⟨k, hk, rfl, hr, hbr⟩ := hrel
      by_cases hlt : k < xs.length
      · obtain ⟨b1, o1, rfl, hc1⟩ := H1.out.below (hbr.below _) k hlt
        obtain ⟨b2, o2, rfl, hc2⟩ := H2.out.below (hbr.below _) k (by omega)
        have Hr := Lib.hid hr
        have Hbr := Lib.hid hbr
        by_cases e : gi xs k = gi ys k
        · have He := Lib.hid e
          rw [← e] at hc2
          obtain ⟨x, hx⟩ : ∃ x, x = gi xs k := ⟨_, rfl⟩
          rw [← hx] at hc1 hc2
          clear hx e hr hbr
          go_wp2
          go_quiet (fail)
          go_wp2
          go_roundw
          case rel => exact ⟨k + 1, by omega, by go_num, fun j hj => by
            by_cases ej : j = k
            · subst ej; exact He.out
            · exact Hr.out j (by omega), Hbr.out.drewN _⟩
          case measure => simp [intOf]; omega
        · have Hs := Lib.hid (show (xs == ys) = false by
            rw [beq_eq_false_iff_ne]
            intro h
            exact e (by rw [h]))
          have hne : (gi xs k != gi ys k) = true := by simpa using e
          obtain ⟨x, hx⟩ : ∃ x, x = gi xs k := ⟨_, rfl⟩
          obtain ⟨y, hy⟩ : ∃ y, y = gi ys k := ⟨_, rfl⟩
          rw [← hx] at hc1 hne
          rw [← hy] at hc2 hne
          clear hx hy e hr hbr
          go_wp2
          go_quiet (fail)
          go_wp2
          go_ret
          exact ⟨by rw [Hs.out]; rfl, Hbr.out.drewN _⟩
      · obtain rfl : k = xs.length := by omega
        have Hs := Lib.hid (show (xs == ys) = true by
          rw [beq_iff_eq]
          exact ext_gi Hl.out.symm hr)
        have Hbr := Lib.hid hbr
        clear hr hbr
        go_wp2
        go_ret
        exact ⟨by rw [Hs.out]; rfl, Hbr.out⟩
  · have Hs := Lib.hid (show (xs == ys) = false by
      rw [beq_eq_false_iff_ne]
      intro h
      exact hl (by rw [h]))
    have hb : ((xs.length : Int) != (ys.length : Int)) = true := by simp; omega
    go_enter Tryd.func101, Tryd.ntmps101
    go_wp2
    go_ret
    exact ⟨by rw [Hs.out]; rfl, Q.refl _⟩

set_option maxRecDepth 100000 in
set_option maxHeartbeats 800000 in
theorem sEqualFunc_any (a1 a2 : Option Addr) (c1 c2 : Nat) (m n : List (List Int)) (w : World) (hs1 : Small m) (hs2 : Small n) (h1 : MatAt w a1 m) (h2 : MatAt w a2 n) :
    Calls Tryd.prog 100 #[.slice a1 m.length c1, .slice a2 n.length c2, .func (.func 101) #[] #[]] w fun e w' => e = .returned (.bool (m == n)) ∧ Q w w' := by
  have hm1 : m.length ≤ 9223372036854775807 := by have := hs1.1; omega
  have hm2 : n.length ≤ 9223372036854775807 := by have := hs2.1; omega
  have H1 := Lib.hid h1
  have H2 := Lib.hid h2
  have S1 := Lib.hid hs1.2
  have S2' := Lib.hid hs2.2
  clear h1 h2 hs1 hs2
  by_cases hl : n.length = m.length
  · have Hl := Lib.hid hl
    have hb : ((m.length : Int) != (n.length : Int)) = false := by simp; omega
    clear hl
    go_enter Tryd.func100, Tryd.ntmps100
    go_wp2
    go_loopw [17] (fun i wr => ∃ k : Nat, k ≤ m.length ∧ i = .int .i64 k ∧ (∀ j, j < k → gr m j = gr n j) ∧ Q w wr) (fun i _ => m.length - (intOf i).toNat)
    case atStart => exact ⟨0, Nat.zero_le _, rfl, fun j hj => absurd hj (by omega), Q.refl _⟩
    case round =>
      obtain ⟨k, hk, rfl, hr, hbr⟩ := hrel
      by_cases hlt : k < m.length
      · obtain ⟨b1, o1, r1, d1, rfl, hc1, hx1, _, _⟩ := H1.out.below (hbr.below _) k hlt
        obtain ⟨b2, o2, r2, d2, rfl, hc2, hx2, _, _⟩ := H2.out.below (hbr.below _) k (by have := Hl.out; omega)
        have hltn : k < n.length := by have := Hl.out; omega
        have Hr := Lib.hid hr
        have Hbr := Lib.hid hbr
        have C := Lib.hid (sEqualI_any r1 r2 d1 d2 (gr m k) (gr n k) wr (S1.out k hlt) (S2'.out k (by have := Hl.out; omega)) hx1 hx2)
        have hl1 := S1.out k hlt
        have hl2 := S2'.out k (by have := Hl.out; omega)
        obtain ⟨l1, e1⟩ : ∃ l, l = (gr m k).length := ⟨_, rfl⟩
        obtain ⟨l2, e2⟩ : ∃ l, l = (gr n k).length := ⟨_, rfl⟩
        rw [← e1] at hc1 C hl1
        rw [← e2] at hc2 C hl2
        clear hx1 hx2 hr hbr e1 e2
        by_cases e : gr m k = gr n k
        · have He := Lib.hid e
          have hb2 : (gr m k == gr n k) = true := by simpa using e
          rw [hb2] at C
          clear e hb2
          go_wp2_with fail
          refine C.out.mono ?_
          rintro e w2 ⟨rfl, hq⟩
          have Hq := Lib.hid (Hbr.out.trans hq)
          clear hq hc1 hc2
          go_wp2
          go_roundw
          case rel => exact ⟨k + 1, by omega, by go_num, fun j hj => by
            by_cases ej : j = k
            · subst ej; exact He.out
            · exact Hr.out j (by omega), Hq.out⟩
          case measure => simp [intOf]; omega
        · have Hs := Lib.hid (show (m == n) = false by
            rw [beq_eq_false_iff_ne]
            intro h
            exact e (by rw [h]))
          have hb2 : (gr m k == gr n k) = false := by simpa using e
          rw [hb2] at C
          clear e hb2
          go_wp2_with fail
          refine C.out.mono ?_
          rintro e w2 ⟨rfl, hq⟩
          have Hq := Lib.hid (Hbr.out.trans hq)
          clear hq hc1 hc2
          go_wp2
          go_ret
          exact ⟨by rw [Hs.out]; rfl, Hq.out⟩
      · obtain rfl : k = m.length := by omega
        have Hs := Lib.hid (show (m == n) = true by
          rw [beq_iff_eq]
          exact ext_gr Hl.out.symm hr)
        have Hbr := Lib.hid hbr
        clear hr hbr
        go_wp2
        go_ret
        exact ⟨by rw [Hs.out]; rfl, Hbr.out⟩
  · have Hs := Lib.hid (show (m == n) = false by
      rw [beq_eq_false_iff_ne]
      intro h
      exact hl (by rw [h]))
    have hb : ((m.length : Int) != (n.length : Int)) = true := by simp; omega
    go_enter Tryd.func100, Tryd.ntmps100
    go_wp2
    go_ret
    exact ⟨by rw [Hs.out]; rfl, Q.refl _⟩

set_option maxRecDepth 100000 in
set_option maxHeartbeats 800000 in
theorem weSame_any (a1 a2 : Option Addr) (c1 c2 : Nat) (m n : List (List Int)) (w : World) (hs1 : Small m) (hs2 : Small n) (h1 : MatAt w a1 m) (h2 : MatAt w a2 n) :
    Calls Tryd.prog 66 #[.slice a1 m.length c1, .slice a2 n.length c2] w fun e w' => e = .returned (.bool (m == n)) ∧ Q w w' := by
  have hm1 : m.length ≤ 9223372036854775807 := by have := hs1.1; omega
  have hm2 : n.length ≤ 9223372036854775807 := by have := hs2.1; omega
  have H1 := Lib.hid h1
  have H2 := Lib.hid h2
  have S1 := Lib.hid hs1.2
  have S2' := Lib.hid hs2.2
  clear h1 h2 hs1 hs2
  by_cases hl : n.length = m.length
  · have Hl := Lib.hid hl
    have hb : ((m.length : Int) != (n.length : Int)) = false := by simp; omega
    clear hl
    go_enter Tryd.func66, Tryd.ntmps66
    go_wp2
    go_loopw [14] (fun i wr => ∃ k : Nat, k ≤ m.length ∧ i = .int .i64 k ∧ (∀ j, j < k → gr m j = gr n j) ∧ Q w wr) (fun i _ => m.length - (intOf i).toNat)
    case atStart => exact ⟨0, Nat.zero_le _, rfl, fun j hj => absurd hj (by omega), Q.refl _⟩
    case round =>
      obtain ⟨k, hk, rfl, hr, hbr⟩ := hrel
      by_cases hlt : k < m.length
      · obtain ⟨b1, o1, r1, d1, rfl, hc1, hx1, _, _⟩ := H1.out.below (hbr.below _) k hlt
        obtain ⟨b2, o2, r2, d2, rfl, hc2, hx2, _, _⟩ := H2.out.below (hbr.below _) k (by have := Hl.out; omega)
        have hltn : k < n.length := by have := Hl.out; omega
        have Hr := Lib.hid hr
        have Hbr := Lib.hid hbr
        have C := Lib.hid (l1Same_any r1 r2 d1 d2 (gr m k) (gr n k) wr (S1.out k hlt) (S2'.out k (by have := Hl.out; omega)) hx1 hx2)
        have hl1 := S1.out k hlt
        have hl2 := S2'.out k (by have := Hl.out; omega)
        obtain ⟨l1, e1⟩ : ∃ l, l = (gr m k).length := ⟨_, rfl⟩
        obtain ⟨l2, e2⟩ : ∃ l, l = (gr n k).length := ⟨_, rfl⟩
        rw [← e1] at hc1 C hl1
        rw [← e2] at hc2 C hl2
        clear hx1 hx2 hr hbr e1 e2
        by_cases e : gr m k = gr n k
        · have He := Lib.hid e
          have hb2 : (gr m k == gr n k) = true := by simpa using e
          rw [hb2] at C
          clear e hb2
          go_wp2_with fail
          refine C.out.mono ?_
          rintro e w2 ⟨rfl, hq⟩
          have Hq := Lib.hid (Hbr.out.trans hq)
          clear hq hc1 hc2
          go_wp2
          go_roundw
          case rel => exact ⟨k + 1, by omega, by go_num, fun j hj => by
            by_cases ej : j = k
            · subst ej; exact He.out
            · exact Hr.out j (by omega), Hq.out⟩
          case measure => simp [intOf]; omega
        · have Hs := Lib.hid (show (m == n) = false by
            rw [beq_eq_false_iff_ne]
            intro h
            exact e (by rw [h]))
          have hb2 : (gr m k == gr n k) = false := by simpa using e
          rw [hb2] at C
          clear e hb2
          go_wp2_with fail
          refine C.out.mono ?_
          rintro e w2 ⟨rfl, hq⟩
          have Hq := Lib.hid (Hbr.out.trans hq)
          clear hq hc1 hc2
          go_wp2
          go_ret
          exact ⟨by rw [Hs.out]; rfl, Hq.out⟩
      · obtain rfl : k = m.length := by omega
        have Hs := Lib.hid (show (m == n) = true by
          rw [beq_iff_eq]
          exact ext_gr Hl.out.symm hr)
        have Hbr := Lib.hid hbr
        clear hr hbr
        go_wp2
        go_ret
        exact ⟨by rw [Hs.out]; rfl, Hbr.out⟩
  · have Hs := Lib.hid (show (m == n) = false by
      rw [beq_eq_false_iff_ne]
      intro h
      exact hl (by rw [h]))
    have hb : ((m.length : Int) != (n.length : Int)) = true := by simp; omega
    go_enter Tryd.func66, Tryd.ntmps66
    go_wp2
    go_ret
    exact ⟨by rw [Hs.out]; rfl, Q.refl _⟩

set_option maxRecDepth 100000 in
set_option maxHeartbeats 800000 in
theorem equalTables_any (a1 a2 : Option Addr) (c1 c2 : Nat) (m n : List (List Int)) (w : World) (hs1 : Small m) (hs2 : Small n) (h1 : MatAt w a1 m) (h2 : MatAt w a2 n) :
    Calls Tryd.prog 81 #[.slice a1 m.length c1, .slice a2 n.length c2] w fun e w' => e = .returned (.bool (m == n)) ∧ Q w w' := by
  have C := Lib.hid (sEqualFunc_any a1 a2 c1 c2 m n w hs1 hs2 h1 h2)
  obtain ⟨b, hb⟩ : ∃ b, b = (m == n) := ⟨_, rfl⟩
  rw [← hb] at C ⊢
  clear hs1 hs2 h1 h2 hb
  go_enter Tryd.func81, Tryd.ntmps81
  go_wp2_with fail
  refine C.out.mono ?_
  rintro e w2 ⟨rfl, hq⟩
  have Hq := Lib.hid hq
  clear hq
  go_wp2
  go_ret
  exact ⟨rfl, Hq.out⟩
end Go.Proofs.YtgdijjfipicodaaDoor

namespace Go.Proofs.YtgdijjfipicodaaDoor
open Go.RowKit

/-- the images of a matrix, read at an address -/
def ImAt (w : World) (g : Nat) (m : List (List Int)) : Prop := ∀ i, i < 8 → ∃ ao c, w.cell? ⟨g, i, none⟩ = some (.slice ao m.length c) ∧ MatAt w ao (im m i)
theorem ImAt.below {w w' : World} {g : Nat} {m : List (List Int)} (h : ImAt w g m) (hb : Below w.heap.size w w') : ImAt w' g m := fun i hi => by
  obtain ⟨ao, c, h1, h2⟩ := h i hi
  exact ⟨ao, c, cell_below h1 hb, h2.below hb⟩

theorem OwnM.grownT {w w1 : World} {B B' n : Nat} {x v : Value} {m : List (List Int)} {ys : List Value} {e' : TypeId} {o : Obj} (h : OwnM w B x m) (h1 : 42 ≠ e') (h2 : 3 ≠ e') (ht : w.ownsRow B' e' 1 v n ys) (hg : (w.alloc o).grownBy w1 v.ownBlock) : OwnM w1 B x m := by
  have hb : Below w.heap.size w (w.alloc o) := (Below.refl _ _).alloc (Nat.le_refl _) _
  obtain ⟨vs, h⟩ := h
  exact ⟨vs, row_kept (ownsRow_below h.top hb) (ownsRow_below ht hb) h1 hg, fun i hi => row_kept (ownsRow_below (h.rows i hi) hb) (ownsRow_below ht hb) h2 hg, h.apart⟩

/-- a list of images under way: the first one is the matrix itself, the others are the call's own -/
structure SymO (w : World) (B : Nat) (ao : Option Addr) (c : Nat) (m : List (List Int)) (v : Value) (K : Nat) (vs : List Value) : Prop where
  top : w.ownsRow B 22 1 v K vs
  pos : 1 ≤ K
  zero : vs.getD 0 undef = .slice ao m.length c
  each : ∀ i, 1 ≤ i → i < K → OwnM w B (vs.getD i undef) (im m i)
theorem SymO.below {w w' : World} {B c K : Nat} {ao : Option Addr} {m : List (List Int)} {v : Value} {vs : List Value} (h : SymO w B ao c m v K vs) (hb : Below w.heap.size w w') : SymO w' B ao c m v K vs :=
  ⟨ownsRow_below h.top hb, h.pos, h.zero, fun i h1 h2 => (h.each i h1 h2).below hb⟩
theorem SymO.len {w : World} {B c K : Nat} {ao : Option Addr} {m : List (List Int)} {v : Value} {vs : List Value} (h : SymO w B ao c m v K vs) : vs.length = K := by simpa using h.top.1
theorem SymO.read {w : World} {B c K : Nat} {ao : Option Addr} {m : List (List Int)} {v : Value} {vs : List Value} (h : SymO w B ao c m v K vs) (hsq : square m) (hm : MatAt w ao m) {i : Nat} (hi : i < K) : ∃ a d, vs.getD i undef = .slice a m.length d ∧ MatAt w a (im m i) := by
  by_cases h0 : i = 0
  · subst h0; exact ⟨ao, c, h.zero, by rw [im_zero]; exact hm⟩
  · obtain ⟨a, d, e, _, _, hmm⟩ := (h.each i (by omega) hi).read
    exact ⟨a, d, by rw [e, (sq_im hsq i).1], hmm⟩
theorem SymO.snoc {w w1 : World} {B c K : Nat} {ao : Option Addr} {m : List (List Int)} {v v' u : Value} {vs : List Value} {o : Obj} (h : SymO w B ao c m v K vs) (hB : B ≤ w.heap.size) (hu : OwnM w B u (im m K))
    (h1 : w1.ownsRow B 22 1 v' (K + 1) (vs ++ [u])) (hg : (w.alloc o).grownBy w1 v.ownBlock) : SymO w1 B ao c m v' (K + 1) (vs ++ [u]) ∧ Below B w w1 := by
  have hl := h.len
  have hp := h.pos
  have hget : ∀ i, (vs ++ [u]).getD i undef = if i = K then u else vs.getD i undef := fun i => by
    simp only [List.getD]
    split
    · next e => subst e; rw [List.getElem?_append_right (by omega), hl]; simp
    · next e =>
      by_cases h2 : i < K
      · rw [List.getElem?_append_left (by omega)]
      · rw [List.getElem?_eq_none (by simp; omega), List.getElem?_eq_none (by omega)]
  refine ⟨⟨h1, by omega, by rw [hget, if_neg (by omega)]; exact h.zero, fun i hi1 hi2 => ?_⟩, Below.grown ((Below.refl B w).alloc hB o) hg (by simp; omega) (fun k hk => (World.ownsRow.lt h.top k hk).1)⟩
  rw [hget]
  split
  · next e => subst e; exact hu.grownT (by decide) (by decide) h.top hg
  · next e => exact (h.each i hi1 (by omega)).grownT (by decide) (by decide) h.top hg
theorem SymO.one (w : World) (ao : Option Addr) (c : Nat) (m : List (List Int)) : SymO (w.alloc (.cells #[.slice ao m.length c] 22)) w.heap.size ao c m (.slice (some ⟨w.heap.size, 0, none⟩) 1 1) 1 [.slice ao m.length c] :=
  ⟨⟨by simp, .inr ⟨w.heap.size, 1, _, rfl, Nat.le_refl _, heap_alloc_new w _, Nat.le_refl _, by decide, rfl, rfl⟩⟩, Nat.le_refl _, rfl, fun i h1 h2 => by omega⟩
theorem SymO.isAt {w : World} {B c K : Nat} {ao : Option Addr} {m : List (List Int)} {v : Value} {vs : List Value} (h : SymO w B ao c m v K vs) : ∃ g cap, v = .slice (some ⟨g, 0, none⟩) K cap ∧ K ≤ cap ∧ cap ≤ 9223372036854775807 ∧ B ≤ g := by
  rcases h.top.2 with ⟨_, h0⟩ | ⟨g, cap, cur, hv, hb, _, hn, hm, _⟩
  · have := h.pos; omega
  · exact ⟨g, cap, hv, hn, hm, hb⟩
theorem SymO.cellAt {w : World} {B c K g cap : Nat} {ao : Option Addr} {m : List (List Int)} {vs : List Value} (h : SymO w B ao c m (.slice (some ⟨g, 0, none⟩) K cap) K vs) {i : Nat} (hi : i < K) : w.cell? ⟨g, i, none⟩ = some (vs.getD i undef) := by
  have hl := h.len
  rw [World.ownsRow.cellAt h.top i (by omega), List.getD, List.getElem?_eq_getElem (by omega)]
  rfl

set_option maxRecDepth 100000 in
set_option maxHeartbeats 3200000 in
theorem smSymmetries_any (ao : Option Addr) (c : Nat) (m : List (List Int)) (w : World) (hsq : square m) (hm : MatAt w ao m) :
    Calls Tryd.prog 65 #[.slice ao m.length c] w fun e w' => ∃ g cap, e = .returned (.slice (some ⟨g, 0, none⟩) 8 cap) ∧ 8 ≤ cap ∧ cap ≤ 9223372036854775807 ∧ ImAt w' g m ∧ Below w.heap.size w w' := by
  obtain ⟨j0, hj, hy0, hy1, hy2⟩ := info_parts Tryd.info_intssW
  obtain ⟨n, hn⟩ : ∃ n, n = m.length := ⟨_, rfl⟩
  have HN := Lib.hid hn
  have hn6 : n ≤ 6 := by rw [hn]; exact hsq.2.1
  have hmx : n ≤ 9223372036854775807 := by omega
  have Hsq := Lib.hid hsq
  have Hm := Lib.hid hm
  have H0 := SymO.one w ao c m
  rw [← hn] at H0 ⊢
  have H0 := Lib.hid H0
  have HB0 := Lib.hid (show Below w.heap.size w (w.alloc (.cells #[.slice ao n c] 22)) from (Below.refl _ _).alloc (Nat.le_refl _) _)
  clear hsq hm hn
  go_enter Tryd.func65, Tryd.ntmps65
  go_wp2
  go_loopw [3, 4, 5] (fun all now i wr => ∃ (k : Nat) (vs : List Value), k ≤ 3 ∧ i = .int .i64 k ∧ SymO wr w.heap.size ao c m all (k + 1) vs ∧ now = vs.getD k undef ∧ Below w.heap.size w wr) (fun _ _ i _ => 3 - (intOf i).toNat)
  case atStart => exact ⟨0, _, Nat.zero_le _, rfl, H0.out, rfl, HB0.out⟩
  case round =>
    obtain ⟨k, vs, hk, rfl, hsy, rfl, hbr⟩ := hrel
    clear H0 HB0
    have Hsy := Lib.hid hsy
    have Hbr := Lib.hid hbr
    have hB := hbr.size
    clear hsy hbr
    by_cases hlt : k < 3
    · obtain ⟨a1, c1, e1, hm1⟩ := Hsy.out.read Hsq.out (Hm.out.below Hbr.out) (Nat.lt_succ_self k)
      rw [im_ltS (by omega)] at hm1
      have CC := sgClockwise_any a1 c1 (cwN m k) wr (Hsq.out.cwN k) hm1
      rw [cwN_len, ← HN.out] at CC
      have CC := Lib.hid CC
      rw [← HN.out] at e1
      rw [e1]
      clear hm1 e1
      go_wp2_with fail
      refine CC.out.mono ?_
      rintro e w2 ⟨u, rfl, hu, hb2⟩
      obtain ⟨a3, c3, hue, _, _, _⟩ := hu.read
      have hlen : (cw (cwN m k)).length = n := by rw [cw_len, cwN_len, HN.out]
      rw [hlen] at hue
      subst hue
      have Hu := Lib.hid (show OwnM w2 w.heap.size (.slice a3 n c3) (im m (k + 1)) from by rw [im_ltS (by omega)]; exact hu.base hB)
      have Hsy2 := Lib.hid (Hsy.out.below hb2)
      have Hb2 := Lib.hid (Hbr.out.trans (hb2.mono hB))
      have hB2 := Hb2.out.size
      clear hu hb2 hlen CC Hsy
      go_wp2_with (at_builtin; refine wpList_append_own _ rfl _ _ 29 rfl w.heap.size 22 j0 (.slice none 0 0) 1 24 Tryd.underlying29 hj hy0 hy1 hy2 rfl (by decide) _ _ _ rfl (World.ownsRow.alloc Hsy2.out.top _) ⟨w2.heap.size, 0, none⟩ 1 1 [.slice a3 n c3] rfl rfl ?c1 ?c2 ?c3 ?c4 ?c5 ?_)
      case c1 => exact cell_one_new _ _ _
      case c2 => intro u hu; simp at hu; subst hu; rfl
      case c3 => unfold maxLen; omega
      case c4 => omega
      case c5 => simp; omega
      intro v' w3 hown' hgrow _
      have hput := Hsy2.out.snoc hB2 Hu.out hown' hgrow
      have Hput := Lib.hid hput
      have Hnow := Lib.hid (show Value.slice a3 n c3 = (vs ++ [Value.slice a3 n c3]).getD (k + 1) undef from by
        have hl := Hsy2.out.len
        rw [List.getD, List.getElem?_append_right (by omega), hl, Nat.sub_self]
        rfl)
      clear hput hown' hgrow
      go_wp2
      go_roundw
      case rel => exact ⟨k + 1, _, by omega, by go_num, Hput.out.1, Hnow.out, Hb2.out.trans Hput.out.2⟩
      case measure => simp [intOf]; omega
    · obtain ⟨nv, hnv⟩ : ∃ nv, nv = vs.getD k undef := ⟨_, rfl⟩
      rw [← hnv]
      rw [show ((k : Nat) : Int) = 3 from by omega]
      clear hnv
      obtain rfl : k = 3 := by omega
      go_wp2
      go_loopw [3, 6] (fun all i wr => ∃ (t : Nat) (vs : List Value), t ≤ 4 ∧ i = .int .i64 t ∧ SymO wr w.heap.size ao c m all (4 + t) vs ∧ Below w.heap.size w wr) (fun _ i _ => 4 - (intOf i).toNat)
      case atStart => exact ⟨0, vs, Nat.zero_le _, rfl, Hsy.out, Hbr.out⟩
      case round =>
        obtain ⟨t, vs, ht, rfl, hsy, hbr⟩ := hrel
        clear Hsy Hbr hB
        have Hsy := Lib.hid hsy
        have Hbr := Lib.hid hbr
        have hB := hbr.size
        clear hsy hbr
        obtain ⟨g, cap, rfl, hcap, hcap2, _⟩ := Hsy.out.isAt
        by_cases htl : t < 4
        · obtain ⟨a1, c1, e1, hm1⟩ := Hsy.out.read Hsq.out (Hm.out.below Hbr.out) (show t < 4 + t by omega)
          have hcell := Hsy.out.cellAt (show t < 4 + t by omega)
          rw [im_ltS (by omega)] at hm1
          have CC := sgMirror_any a1 c1 (cwN m t) wr (Hsq.out.cwN t) hm1
          rw [cwN_len, ← HN.out] at CC
          have CC := Lib.hid CC
          rw [← HN.out] at e1
          rw [e1] at hcell
          clear hm1 e1
          go_wp2_with fail
          refine CC.out.mono ?_
          rintro e w2 ⟨u, rfl, hu, hb2⟩
          obtain ⟨a3, c3, hue, _, _, _⟩ := hu.read
          have hlen : (mir (cwN m t)).length = n := by rw [mir_len, cwN_len, HN.out]
          rw [hlen] at hue
          subst hue
          have Hu := Lib.hid (show OwnM w2 w.heap.size (.slice a3 n c3) (im m (4 + t)) from by rw [im_geS (by omega), show 4 + t - 4 = t from by omega]; exact hu.base hB)
          have Hsy2 := Lib.hid (Hsy.out.below hb2)
          have Hb2 := Lib.hid (Hbr.out.trans (hb2.mono hB))
          have hB2 := Hb2.out.size
          clear hu hb2 hlen CC Hsy hcell
          go_wp2_with (at_builtin; refine wpList_append_own _ rfl _ _ 29 rfl w.heap.size 22 j0 (.slice none 0 0) 1 24 Tryd.underlying29 hj hy0 hy1 hy2 rfl (by decide) _ _ _ rfl (World.ownsRow.alloc Hsy2.out.top _) ⟨w2.heap.size, 0, none⟩ 1 1 [.slice a3 n c3] rfl rfl ?c1 ?c2 ?c3 ?c4 ?c5 ?_)
          case c1 => exact cell_one_new _ _ _
          case c2 => intro u hu; simp at hu; subst hu; rfl
          case c3 => unfold maxLen; omega
          case c4 => omega
          case c5 => simp; omega
          intro v' w3 hown' hgrow _
          have hput := Hsy2.out.snoc hB2 Hu.out hown' hgrow
          have Hput := Lib.hid hput
          clear hput hown' hgrow
          go_wp2
          go_roundw
          case rel => exact ⟨t + 1, _, by omega, by go_num, Hput.out.1, Hb2.out.trans Hput.out.2⟩
          case measure => simp [intOf]; omega
        · obtain rfl : t = 4 := by omega
          have HI := Lib.hid (show ImAt wr g m from fun i hi => by
            obtain ⟨a1, c1, e1, hm1⟩ := Hsy.out.read Hsq.out (Hm.out.below Hbr.out) (show i < 4 + 4 by omega)
            exact ⟨a1, c1, by rw [Hsy.out.cellAt (by omega), e1], hm1⟩)
          clear Hsy
          go_wp2
          go_ret
          exact ⟨g, cap, rfl, hcap, hcap2, HI.out, Hbr.out⟩

theorem im_small {m : List (List Int)} (h : square m) (i : Nat) : Small (im m i) := by
  have hl := sq_im h i
  have hn := h.2.1
  exact ⟨by rw [hl.1]; omega, fun j hj => by rw [hl.1] at hj; rw [hl.2 j hj]; omega⟩
theorem smLk_yes {m : List (List Int)} {k : Nat} (h : im m k = m) : smLk m (k + 1) = smLk m k ++ [(k : Int)] := by simp [smLk, h]
theorem smLk_no {m : List (List Int)} {k : Nat} (h : ¬im m k = m) : smLk m (k + 1) = smLk m k := by simp [smLk, h]

set_option maxRecDepth 100000 in
set_option maxHeartbeats 1600000 in
theorem smOwn_any (ao : Option Addr) (c : Nat) (m : List (List Int)) (w : World) (hsq : square m) (hm : MatAt w ao m) :
    Calls Tryd.prog 52 #[.slice ao m.length c] w fun e w' => ∃ v, e = .returned v ∧ OwnI w' w.heap.size v (smLk m 8) ∧ Below w.heap.size w w' := by
  obtain ⟨n, hn⟩ : ∃ n, n = m.length := ⟨_, rfl⟩
  have HN := Lib.hid hn
  have hn6 : n ≤ 6 := by rw [hn]; exact hsq.2.1
  have hmx : n ≤ 9223372036854775807 := by omega
  have CS := smSymmetries_any ao c m w hsq hm
  have CW := Lib.hid (fun a1 c1 i w' (h1 : MatAt w' a1 (im m i)) (h2 : MatAt w' ao m) => weSame_any a1 ao c1 c (im m i) m w' (im_small hsq i) hsq.small h1 h2)
  have HI := Lib.hid (fun i => (sq_im hsq i).1)
  have Hm := Lib.hid hm
  rw [← hn] at CS ⊢
  have CS := Lib.hid CS
  clear hsq hm hn
  go_enter Tryd.func52, Tryd.ntmps52
  go_wp2_with fail
  refine CS.out.mono ?_
  rintro e w1 ⟨g, cap, rfl, hc1, hc2, hi1, hb1⟩
  have Hi1 := Lib.hid hi1
  have Hb1 := Lib.hid hb1
  clear hi1 hb1 CS
  go_wp2
  go_loopw [3, 9] (fun out i wr => ∃ k : Nat, k ≤ 8 ∧ i = .int .i64 k ∧ OwnI wr w1.heap.size out (smLk m k) ∧ Below w1.heap.size w1 wr) (fun _ i _ => 8 - (intOf i).toNat)
  case atStart => exact ⟨0, Nat.zero_le _, rfl, OwnI.nil _ _, Below.refl _ _⟩
  case round =>
    obtain ⟨k, hk, rfl, hown, hbr⟩ := hrel
    have Hown := Lib.hid hown
    have Hbr := Lib.hid hbr
    clear hown hbr
    by_cases hlt : k < 8
    · obtain ⟨a1, c1, hcell, hm1⟩ := Hi1.out.below Hbr.out k hlt
      have CW2 := CW.out a1 c1 k wr hm1 (Hm.out.below (Hb1.out.trans (Hbr.out.mono Hb1.out.size)))
      rw [HI.out k, ← HN.out] at CW2
      rw [← HN.out] at hcell
      have CW2 := Lib.hid CW2
      clear hm1
      by_cases he : im m k = m
      · have hb : (im m k == m) = true := by simpa using he
        have HS := Lib.hid (smLk_yes he)
        rw [hb] at CW2
        clear hb he
        go_wp2_with fail
        refine CW2.out.mono ?_
        rintro e w2 ⟨rfl, hq⟩
        have Ho2 := Lib.hid (Hown.out.below (hq.below _))
        have HB2 := Lib.hid (Hbr.out.trans ((hq.below _).mono Hbr.out.size))
        have hBl := Lib.hid (HB2.out.size)
        have hln := Lib.hid (show (smLk m k).length < 1048576 by have := smLk_len m k; omega)
        clear hq CW2 hcell Hown Hbr
        go_wp2_with (at_builtin; refine wpList_numT rfl _ _ rfl w1.heap.size _ (smLk m k) (k : Int) Ho2.out rfl rfl hBl.out hln.out ?_)
        intro v3 w3 hv3 hb3
        rw [← HS.out] at hv3
        have HV3 := Lib.hid hv3
        have HB3 := Lib.hid (HB2.out.trans hb3)
        clear hv3 hb3 Ho2 HB2
        go_wp2
        go_roundw
        case rel => exact ⟨k + 1, by omega, by go_num, HV3.out, HB3.out⟩
        case measure => simp [intOf]; omega
      · have hb : (im m k == m) = false := by simpa using he
        have HS := Lib.hid (smLk_no he)
        rw [hb] at CW2
        clear hb he
        go_wp2_with fail
        refine CW2.out.mono ?_
        rintro e w2 ⟨rfl, hq⟩
        have Ho2 := Lib.hid (Hown.out.below (hq.below _))
        have HB2 := Lib.hid (Hbr.out.trans ((hq.below _).mono Hbr.out.size))
        clear hq CW2 hcell Hown Hbr
        go_wp2
        go_roundw
        case rel => exact ⟨k + 1, by omega, by go_num, by rw [HS.out]; exact Ho2.out, HB2.out⟩
        case measure => simp [intOf]; omega
    · obtain rfl : k = 8 := by omega
      go_wp2
      go_ret
      exact ⟨_, rfl, Hown.out.base Hb1.out.size, Hb1.out.trans (Hbr.out.mono Hb1.out.size)⟩
end Go.Proofs.YtgdijjfipicodaaDoor

namespace Go.Proofs.YtgdijjfipicodaaDoor
open Go.RowKit

set_option maxRecDepth 100000 in
set_option maxHeartbeats 1600000 in
theorem weAll5_any (n : Nat) (w : World) (h1 : 1 ≤ n) (h5 : n ≤ 5) :
    Calls Tryd.prog 51 #[.int .i64 (n : Int)] w fun e w' => ∃ v vs, e = .returned v ∧ OwnRL w' w.heap.size v (allW n) vs ∧ Below w.heap.size w w' := by
  obtain ⟨i0, hi, hz0, hz1, hz2⟩ := info_parts Tryd.info_int
  have hrep : ∀ j, j < (List.replicate n (0 : Int)).length → gi (List.replicate n (0 : Int)) j = 0 := fun j hj => by rw [gi_lt hj]; simp
  have Hrep := Lib.hid hrep
  clear hrep
  go_enter Tryd.func51, Tryd.ntmps51
  go_wp2_with (at_make; refine wpList_make_full _ rfl _ _ 42 rfl w.heap.size 3 i0 (.int .i64 0) 1 Tryd.underlying42 hi hz0 hz1 _ _ _ _ n rfl rfl rfl rfl ?c1 ?c2 ?c3 ?_)
  case c1 => rw [hz2]; omega
  case c2 => unfold maxLen; omega
  case c3 => simp
  intro w1 hown hg
  have hb1 : Below w.heap.size w w1 := (Below.refl _ _).grown hg (Nat.le_refl _) (fun _ h => by cases h)
  have hown1 := OwnI.made hown
  have C := Lib.hid (weGoOn_any n h5 n [] (List.replicate n 0) none (some ⟨w.heap.size, 0, none⟩) 0 n w.heap.size [] w1 (by simp) (fun j hj => by rw [Hrep.out j hj]; omega) (by simp) hb1.size (OwnR.nil _ _) (by simpa using hown1))
  rw [List.length_replicate, List.length_nil] at C
  have Hb1 := Lib.hid hb1
  clear hown hg hb1 hown1
  go_wp2_with fail
  refine C.out.mono ?_
  rintro e w2 ⟨v, vs, rfl, hv, _, hb⟩
  have Hv := Lib.hid hv
  have Hb := Lib.hid (Hb1.out.trans (hb.mono Hb1.out.size))
  obtain ⟨va, vc, rfl, _, _⟩ := hv.head
  clear hv hb
  go_wp2
  go_ret
  exact ⟨_, vs, rfl, Hv.out, Hb.out⟩

/-- how many symmetries the first k matrices have together -/
def cuK (A : List (List (List Int))) : Nat → Nat
  | 0 => 0
  | k + 1 => cuK A k + (smLk (gt A k) 8).length
theorem cuK_le (A : List (List (List Int))) : ∀ k, cuK A k ≤ 8 * k
  | 0 => Nat.le_refl _
  | k + 1 => by
    have h1 := cuK_le A k
    have h2 := smLk_len (gt A k) 8
    unfold cuK
    omega
def cuV (n : Nat) : Nat := cuK (allW n) (allW n).length / 8

set_option maxRecDepth 100000 in
set_option maxHeartbeats 1600000 in
theorem specCountUpToAll_any (n : Int) (w : World) (_hz : -9223372036854775808 ≤ n ∧ n ≤ 9223372036854775807) :
    Calls Tryd.prog 23 #[.int .i64 n] w fun e w' => IRes (1 ≤ n ∧ n ≤ 5) (cuV n.toNat : Nat) e ∧ Below w.heap.size w w' := by
  by_cases hn : 1 ≤ n ∧ n ≤ 5
  · obtain ⟨N, rfl⟩ : ∃ N : Nat, n = N := ⟨n.toNat, by omega⟩
    have HV := Lib.hid (show ((N : Int)).toNat = N from rfl)
    rw [HV.out]
    have Hn := Lib.hid hn
    have CA := Lib.hid (fun w' => weAll5_any N w' (by omega) (by omega))
    have Hsq := Lib.hid (fun m hm => (allW_sq N (by omega) m hm).resolve_left (by omega))
    have hlen := allW_len5 N (by omega)
    have HR := Lib.hid (show cuV N = cuK (allW N) (allW N).length / 8 from rfl)
    obtain ⟨R, hR⟩ : ∃ R, R = cuV N := ⟨_, rfl⟩
    rw [← hR] at HR ⊢
    obtain ⟨A, hA⟩ : ∃ A, A = allW N := ⟨_, rfl⟩
    rw [← hA] at CA Hsq hlen HR
    have hAm : A.length ≤ 9223372036854775807 := by omega
    clear hn hR hA _hz
    go_enter Tryd.func23, Tryd.ntmps23
    go_wp2_with fail
    refine (l1In_any _ _ _ w).mono ?_
    rintro e w2 ⟨ha, rfl⟩
    obtain rfl := ha.is Hn.out
    clear ha
    go_wp2_with fail
    refine (CA.out _).mono ?_
    rintro e w3 ⟨v, vs, rfl, hv, hb⟩
    obtain ⟨ta, tc, rfl, _, _⟩ := hv.head
    have Hv := Lib.hid hv
    have Hb := Lib.hid hb
    clear hv hb CA
    go_wp2
    go_loopw [4, 13] (fun s i wr => ∃ k : Nat, k ≤ A.length ∧ i = .int .i64 k ∧ s = .int .i64 (cuK A k : Nat) ∧ Below w3.heap.size w3 wr) (fun _ i _ => A.length - (intOf i).toNat)
    case atStart => exact ⟨0, Nat.zero_le _, rfl, rfl, Below.refl _ _⟩
    case round =>
      obtain ⟨k, hk, rfl, rfl, hbr⟩ := hrel
      have Hbr := Lib.hid hbr
      clear hbr
      by_cases hlt : k < A.length
      · obtain ⟨b1, o1, r1, d1, e1, hc1, hm1, _, _⟩ := (Hv.out.below Hbr.out).at hlt
        have CO := smOwn_any r1 d1 (gt A k) wr (Hsq.out _ (gt_mem hlt)) hm1
        have hle := cuK_le A k
        have hl2 := smLk_len (gt A k) 8
        have HS := Lib.hid (show cuK A (k + 1) = cuK A k + (smLk (gt A k) 8).length from rfl)
        obtain ⟨s, hs⟩ : ∃ s, s = cuK A k := ⟨_, rfl⟩
        rw [← hs] at HS hle ⊢
        obtain ⟨L, hL⟩ : ∃ L, L = smLk (gt A k) 8 := ⟨_, rfl⟩
        rw [← hL] at HS hl2 CO
        obtain ⟨u, hu⟩ : ∃ u, u = (gt A k).length := ⟨_, rfl⟩
        rw [← hu] at hc1 CO
        have CO := Lib.hid CO
        subst e1
        clear hs hL hu hm1
        go_wp2_with fail
        refine CO.out.mono ?_
        rintro e w4 ⟨x, rfl, hx, hb4⟩
        obtain ⟨xa, xc, rfl, _, _, _⟩ := hx.read
        have Hb4 := Lib.hid (Hbr.out.trans (hb4.mono Hbr.out.size))
        have hadd : (s : Int) + (L.length : Int) = ((s + L.length : Nat) : Int) := by omega
        have hw : IntKind.i64.wrap ((s : Int) + (L.length : Int)) = ((s + L.length : Nat) : Int) := by rw [hadd]; exact w64 (by omega)
        obtain ⟨q, hq⟩ : ∃ q, q = s + L.length := ⟨_, rfl⟩
        rw [← hq] at hadd hw HS
        clear hx hb4 CO hq hc1
        go_wp2
        go_roundw
        case rel => exact ⟨k + 1, by omega, by go_num, by rw [HS.out], Hb4.out⟩
        case measure => simp [intOf]; omega
      · obtain rfl : k = A.length := by omega
        have hle := cuK_le A A.length
        obtain ⟨s, hs⟩ : ∃ s, s = cuK A A.length := ⟨_, rfl⟩
        rw [← hs] at HR hle ⊢
        have hd : (s : Int) / 8 = (R : Int) := by rw [HR.out]; omega
        have hRle : R ≤ s := by rw [HR.out]; omega
        have hwR : IntKind.i64.wrap (R : Int) = (R : Int) := w64 (by omega)
        clear hs
        go_wp2
        go_ret2
        exact ⟨IRes.yes Hn.out, Hb.out.trans (Hbr.out.mono Hb.out.size)⟩
  · have Hn := Lib.hid hn
    clear hn
    go_enter Tryd.func23, Tryd.ntmps23
    go_wp2_with fail
    refine (l1In_any _ _ _ w).mono ?_
    rintro e w2 ⟨ha, rfl⟩
    obtain rfl := ha.isnt Hn.out
    clear ha
    go_wp2
    go_ret2
    exact ⟨IRes.no Hn.out, Below.refl _ _⟩
end Go.Proofs.YtgdijjfipicodaaDoor

namespace Go.Proofs
open Go.Shelf
end Go.Proofs

namespace Go.Proofs.YtgdijjfipicodaaDoor
open Go.RowKit

/-- the answer of a comparison of two rows of n numbers -/
def RC (n : Nat) (x y : List Int) (e : Ending) : Prop :=
  (rless n x y ∧ e = .returned (.int .i64 (-1))) ∨ (x = y ∧ e = .returned (.int .i64 0)) ∨ (rless n y x ∧ e = .returned (.int .i64 1))
/-- .. of two tables -/
def MC (n : Nat) (a b : List (List Int)) (e : Ending) : Prop :=
  (mless n a b ∧ e = .returned (.int .i64 (-1))) ∨ (a = b ∧ e = .returned (.int .i64 0)) ∨ (mless n b a ∧ e = .returned (.int .i64 1))

end Go.Proofs.YtgdijjfipicodaaDoor

namespace Go.Proofs.YtgdijjfipicodaaDoor
open Go.RowKit

/-- an append to a row that the call owns: besides, the old row's cells are as they were -/
theorem run_append_keep {P : Program} (w : World) (base : Nat) (t ty e : TypeId) (i : TypeInfo) (z : Value) (bytes : Nat) (ht : P.underlying t = some (.slice e)) (hi : P.info? e = some i) (hz : i.zero = some z)
    (hsize : i.size = 1) (hby : i.bytes = bytes) (hzs : z.cells.size = 1) (g n cap : Nat) (xs : List Value) (hown : w.ownsRow base e 1 (.slice (some ⟨g, 0, none⟩) n cap) n xs)
    (ad : Addr) (m c : Nat) (news : List Value) (hl : news.length = m * 1) (hnews : ∀ j u, news[j]? = some u → w.cell? (ad.add j) = some u) (h1 : ∀ u ∈ news, u.oneCell' = true)
    (h63 : n + m ≤ maxLen) (hbytes : (n + m) * bytes ≤ 140737488355328) (hbase : base ≤ w.heap.size) :
    ∃ v' w', (Builtin.append_ #[t, t] ty #[.slice (some ⟨g, 0, none⟩) n cap, .slice (some ad) m c]).run P w = .ok v' w' ∧ w'.ownsRow base e 1 v' (n + m) (xs ++ news) ∧ w.grownBy w' (some g) ∧
      (∀ j u, xs[j]? = some u → w'.cell? ⟨g, j, none⟩ = some u) := by
  obtain ⟨v', w', hr, h2, h3, _⟩ := run_append_own (P := P) w base t ty e i z 1 bytes ht hi hz hsize hby hzs (by omega) _ n xs hown ad m c news hl hnews h1 h63 hbytes hbase
  refine ⟨v', w', hr, h2, h3, fun j u hu => ?_⟩
  have hold := hown.cells (g := g) rfl j u hu
  have hlt : g < w.heap.size := (hown.lt g rfl).2
  rw [Addr.add_lit, Nat.zero_add] at hold
  rcases hown.2 with ⟨h0, _⟩ | ⟨g', cap', cur, hv, hbg, hg, hnc, hcm, hcs, htake⟩
  · simp at h0
  · simp only [Value.slice.injEq, Option.some.injEq, Addr.mk.injEq, and_true, true_and] at hv
    obtain ⟨rfl, rfl⟩ := hv
    by_cases hroom : n + m ≤ cap
    · have hr2 := run_append_room (P := P) w t ty e i ht hi g n cap cur hg ad m c news (by rw [hsize]; exact hl) hnews h1 hroom (by rw [hsize, hcs, hl, ← Nat.add_mul]; exact Nat.mul_le_mul_right _ hroom)
      rw [hr] at hr2
      simp only [Result.ok.injEq] at hr2
      obtain ⟨rfl, rfl⟩ := hr2
      have := h2.cells (g := g) rfl j u (by rw [List.getElem?_append_left (List.getElem?_eq_some_iff.1 hu).1]; exact hu)
      rw [Addr.add_lit, Nat.zero_add] at this
      exact this
    · have holds : ∀ j u, xs[j]? = some u → w.cell? ((⟨g, 0, none⟩ : Addr).add j) = some u := hown.cells (g := g) rfl
      have hr2 := run_append_grow (P := P) w t ty e i z ht hi hz ⟨g, 0, none⟩ n cap xs (by rw [hsize]; exact hown.1) holds ad m c news (by rw [hsize]; exact hl) hnews (by omega) (by simp only [maxLen] at h63; omega) (growslice_fits (by omega) (by rw [hby]; exact hbytes))
      rw [hr] at hr2
      simp only [Result.ok.injEq] at hr2
      obtain ⟨rfl, rfl⟩ := hr2
      rw [World.cell?_of_block (heap_alloc_old w.drew _ hlt)]
      exact hold

theorem wpList_append_keep {P : Program} {w : World} {ops : Array Oper} {rest : List Oper} {o : Oper} {a : Act} {Q : Exit → Act → World → Prop} (hgd : o.guard = none) (s x : Operand) (t : TypeId)
    (ho : o.op = .call { callee := .builtin .append, args := #[s, x], argTypes := #[t, t] })
    (base : Nat) (e : TypeId) (i : TypeInfo) (z : Value) (bytes : Nat) (ht : P.underlying t = some (.slice e)) (hi : P.info? e = some i) (hz : i.zero = some z)
    (hsize : i.size = 1) (hby : i.bytes = bytes) (hzs : z.cells.size = 1) (g n cap : Nat) (xs : List Value) (hs : a.eval s = .slice (some ⟨g, 0, none⟩) n cap) (hown : w.ownsRow base e 1 (.slice (some ⟨g, 0, none⟩) n cap) n xs)
    (ad : Addr) (m c : Nat) (news : List Value) (hx : a.eval x = .slice (some ad) m c) (hl : news.length = m * 1) (hnews : ∀ j u, news[j]? = some u → w.cell? (ad.add j) = some u) (h1 : ∀ u ∈ news, u.oneCell' = true)
    (h63 : n + m ≤ maxLen) (hbytes : (n + m) * bytes ≤ 140737488355328) (hbase : base ≤ w.heap.size)
    (h : ∀ v' w', w'.ownsRow base e 1 v' (n + m) (xs ++ news) → w.grownBy w' (some g) → (∀ j u, xs[j]? = some u → w'.cell? ⟨g, j, none⟩ = some u) → wpList P ops Q rest (a.put o.dst v') w') : wpList P ops Q (o :: rest) a w := by
  refine wpList_plain hgd fun K hK => ?_
  obtain ⟨v', w', hr, h2, h3, h4⟩ := run_append_keep (P := P) w base t o.type e i z bytes ht hi hz hsize hby hzs g n cap xs hown ad m c news hl hnews h1 h63 hbytes hbase
  unfold Oper.wp execOp
  simp only [ho, resolve, invoke, builtin, Sem.run_bind, Sem.run_pure, Result.andThen_ok, List.map_toArray, List.map_cons, List.map_nil, hs, hx, hr]
  exact hK _ _ (h v' w' h2 h3 h4)

/-- rows of cells of other types lie in other blocks -/
theorem ownsRow_ne {w : World} {B B' n n' : Nat} {e e' : TypeId} {x v : Value} {xs ys : List Value} (h : w.ownsRow B e 1 x n xs) (k : w.ownsRow B' e' 1 v n' ys) (hne : e ≠ e') : ∀ g, x.ownBlock = some g → v.ownBlock ≠ some g := by
  intro g hg hv
  rcases h.2 with ⟨rfl, _⟩ | ⟨g1, cap1, cur1, rfl, _, h1, _⟩
  · simp [Value.ownBlock] at hg
  rcases k.2 with ⟨rfl, _⟩ | ⟨g2, cap2, cur2, rfl, _, h2, _⟩
  · simp [Value.ownBlock] at hv
  simp only [Value.ownBlock, Option.some.injEq] at hg hv
  subst hg hv
  rw [h1] at h2
  simp only [Option.some.injEq, Obj.cells.injEq] at h2
  exact hne h2.2.1

theorem OwnM.grown {w w1 : World} {B B' n : Nat} {x v : Value} {m : List (List Int)} {ys : List Value} {o : Obj} (h : OwnM w B x m) (ht : w.ownsRow B' 62 1 v n ys) (hg : (w.alloc o).grownBy w1 v.ownBlock) : OwnM w1 B x m := by
  have kept : ∀ (e : TypeId) (x : Value) (n : Nat) (xs : List Value), e ≠ 62 → w.ownsRow B e 1 x n xs → w1.ownsRow B e 1 x n xs := by
    intro e x n xs he hx
    refine (World.ownsRow.alloc hx o).kept hg ?_
    cases hb : x.ownBlock with
    | none => exact .inl rfl
    | some g => exact .inr (fun e' => ownsRow_ne hx ht he g hb e'.symm)
  obtain ⟨vs, h⟩ := h
  exact ⟨vs, kept _ _ _ _ (by decide) h.top, fun i hi => kept _ _ _ _ (by decide) (h.rows i hi), h.apart⟩

/-- a slice of n tables that the call owns from block B on -/
structure OwnG (w : World) (B : Nat) (v : Value) (n : Nat) (f : Nat → List (List Int)) (vs : List Value) : Prop where
  top : w.ownsRow B 62 1 v n vs
  each : ∀ i, i < n → OwnM w B (vs.getD i undef) (f i)

theorem OwnG.below {w w' : World} {B n : Nat} {v : Value} {f : Nat → List (List Int)} {vs : List Value} (h : OwnG w B v n f vs) (hb : Below w.heap.size w w') : OwnG w' B v n f vs :=
  ⟨ownsRow_below h.top hb, fun i hi => (h.each i hi).below hb⟩

theorem OwnG.isAt {w : World} {B n : Nat} {v : Value} {f : Nat → List (List Int)} {vs : List Value} (h : OwnG w B v n f vs) (hn : 0 < n) : ∃ g cap, v = .slice (some ⟨g, 0, none⟩) n cap ∧ n ≤ cap ∧ cap ≤ 9223372036854775807 ∧ B ≤ g := by
  rcases h.top.2 with ⟨_, h0⟩ | ⟨g, cap, cur, hv, hb, _, hn, hm, _⟩
  · omega
  · exact ⟨g, cap, hv, hn, hm, hb⟩

theorem OwnG.cellAt {w : World} {B g n c : Nat} {f : Nat → List (List Int)} {vs : List Value} (h : OwnG w B (.slice (some ⟨g, 0, none⟩) n c) n f vs) (i : Nat) (hi : i < n) : w.cell? ⟨g, i, none⟩ = some (vs.getD i undef) := by
  have hl : vs.length = n := by simpa using h.top.1
  rw [World.ownsRow.cellAt h.top i (by omega), List.getD, List.getElem?_eq_getElem (by omega)]
  rfl

theorem OwnG.snoc {w w1 : World} {B k : Nat} {v v' u : Value} {f : Nat → List (List Int)} {vs : List Value} {o : Obj} (h : OwnG w B v k f vs) (hB : B ≤ w.heap.size) (hu : OwnM w B u (f k))
    (h1 : w1.ownsRow B 62 1 v' (k + 1) (vs ++ [u])) (hg : (w.alloc o).grownBy w1 v.ownBlock) : OwnG w1 B v' (k + 1) f (vs ++ [u]) ∧ Below B w w1 := by
  have hl : vs.length = k := by simpa using h.top.1
  refine ⟨⟨h1, fun i hi => ?_⟩, Below.grown ((Below.refl B w).alloc hB o) hg (by simp; omega) (fun k hk => (World.ownsRow.lt h.top k hk).1)⟩
  have hget : (vs ++ [u]).getD i undef = if i = k then u else vs.getD i undef := by
    simp only [List.getD]
    split
    · next e => subst e; rw [List.getElem?_append_right (by omega), hl]; simp
    · next e => rw [List.getElem?_append_left (by omega)]
  rw [hget]
  split
  · next e => subst e; exact hu.grown h.top hg
  · next e => exact (h.each i (by omega)).grown h.top hg

theorem Tryd.info_grid : (Tryd.prog.info? 62).map (fun i => (i.zero, i.size, i.bytes)) = some (some (.slice none 0 0), 1, 24) := by kernel_rfl

/-- the first cells of a table as far as rows have been copied -/
def cpF (m : List (List Int)) (t i j : Nat) : Int := if i < t then gi (gr m i) j else 0

set_option maxRecDepth 100000 in
set_option maxHeartbeats 1600000 in
theorem copied_any (ao : Option Addr) (c : Nat) (m : List (List Int)) (w : World) (hsq : square m) (hm : MatAt w ao m) :
    Calls Tryd.prog 109 #[.slice ao m.length c] w fun e w' => ∃ v, e = .returned v ∧ OwnM w' w.heap.size v m ∧ Below w.heap.size w w' := by
  have hn := hsq.2.1
  have hmx : m.length ≤ 9223372036854775807 := by omega
  have Hsq := Lib.hid hsq
  have Hm := Lib.hid hm
  clear hsq hm
  go_enter Tryd.func109, Tryd.ntmps109
  go_wp2_with fail
  refine (newGrid_any m.length w (by omega)).mono ?_
  rintro e w1 ⟨vs, rfl, hv, hb⟩
  have Hv := Lib.hid hv
  have Hb := Lib.hid hb
  clear hv hb
  go_wp2
  go_loopw [11] (fun i wr => ∃ (t : Nat) (f : Nat → Nat → Int), t ≤ m.length ∧ i = .int .i64 t ∧ OwnP wr w.heap.size (.slice (some ⟨w.heap.size, 0, none⟩) m.length m.length) m.length (tab m.length m.length f) m.length vs ∧
      (∀ a b, a < m.length → b < m.length → f a b = cpF m t a b) ∧ Below w.heap.size w wr) (fun i _ => m.length - (intOf i).toNat)
  case atStart => exact ⟨0, _, Nat.zero_le _, rfl, Hv.out, fun a b _ _ => rfl, Hb.out⟩
  case round =>
    obtain ⟨t, f, ht, rfl, hown, heq, hbr⟩ := hrel
    clear Hv Hb
    have Heq := Lib.hid heq
    clear heq
    by_cases hlt : t < m.length
    · obtain ⟨b1, o1, r1, d1, e1, hc1, hr1, _, _⟩ := (Hm.out.below hbr) t hlt
      have hrl : (gr m t).length = m.length := Hsq.out.2.2 t hlt
      obtain ⟨b3, o3, e3, _⟩ := hr1 0 (by omega)
      have hd := hown.cellAt t (by omega)
      obtain ⟨g, cap, hvs, _, _, _, _⟩ := hown.at2 (i := t) (j := 0) (by omega) (by omega)
      rw [hvs] at hd
      subst e1 e3
      rw [hrl] at hc1
      have Hown := Lib.hid hown
      have Hbr := Lib.hid hbr
      have Hvs := Lib.hid hvs
      have Hr1 := Lib.hid hr1
      have Hrl := Lib.hid hrl
      clear hown hbr hvs hr1 hrl
      have H1 := Lib.hid (show t < m.length by omega)
      have H2 := Lib.hid (show 0 + (gr m t).length ≤ m.length by rw [Hrl.out]; omega)
      have H3 := Lib.hid (show (gr m t).length ≤ m.length by rw [Hrl.out]; omega)
      go_wp2_with ((with_reducible refine wpList_copy_grid (o := ⟨some 21, _, _, _, _, _⟩) ?gA1 (.tmp 19) (.tmp 20) ?gA2 Hown.out t 0 H1.out (gr m t) H2.out g cap Hvs.out m.length cap d1 b3 o3 ?gA3 H3.out ?hsA Hr1.out ?_))
      case gA1 => rfl
      case gA2 => rfl
      case gA3 => rfl
      case hsA => rw [Hrl.out]; rfl
      intro w4 hown4 hb4
      have Hown4 := Lib.hid hown4
      have Hb4 := Lib.hid (Hbr.out.trans hb4)
      clear hown4 hb4
      go_wp2
      go_roundw
      case rel =>
        refine ⟨t + 1, _, by omega, by go_num, Hown4.out, fun a b ha hb => ?_, Hb4.out⟩
        rw [Hrl.out, Heq.out a b ha hb]
        unfold cpF
        by_cases e : a = t
        · subst e
          rw [if_pos (show a < a + 1 by omega), if_pos (show a = a ∧ b < m.length from ⟨rfl, hb⟩)]
        · rw [if_neg (fun h => e h.1)]
          by_cases e5 : a < t
          · rw [if_pos e5, if_pos (show a < t + 1 by omega)]
          · rw [if_neg e5, if_neg (show ¬ a < t + 1 by omega)]
      case measure => simp [intOf]; omega
    · obtain rfl : t = m.length := by omega
      have e : m = tab m.length m.length f := eq_tab rfl Hsq.out.2.2 (fun i j hi hj => by rw [Heq.out i j hi hj]; unfold cpF; rw [if_pos hi])
      have hfin : OwnM wr w.heap.size (.slice (some ⟨w.heap.size, 0, none⟩) m.length m.length) m := ⟨vs, by rw [← e] at hown; exact hown⟩
      have Hfin := Lib.hid hfin
      have Hbr := Lib.hid hbr
      clear hown hfin hbr e
      go_wp2
      go_ret
      exact ⟨_, rfl, Hfin.out, Hbr.out⟩
end Go.Proofs.YtgdijjfipicodaaDoor

