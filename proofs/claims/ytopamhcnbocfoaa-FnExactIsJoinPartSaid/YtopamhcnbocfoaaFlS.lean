/- Contracts of the model: whether a cell can be flipped, and how; all cells that can. Conditions: tables of up to seven rows. -/
import Derived.Test.YtopamhcnbocfoaaFlM
import Derived.Test.YtopamhcnbocfoaaDiff
namespace Go.Proofs.Ytopamhcnbocfoaa
open Go.RowKit

theorem ints_four (w : World) (x1 x2 x3 x4 : Int) (e : TypeId) : IntsAt (w.alloc (.cells #[.int .i64 x1, .int .i64 x2, .int .i64 x3, .int .i64 x4] e)) (some ⟨w.heap.size, 0, none⟩) [x1, x2, x3, x4] := fun k hk => by
  refine ⟨w.heap.size, 0, rfl, ?_⟩
  rw [Nat.zero_add, cell_of_row _ _ k _ _ _ (heap_alloc_new w _)]
  have : k = 0 ∨ k = 1 ∨ k = 2 ∨ k = 3 := by simp at hk; omega
  rcases this with rfl | rfl | rfl | rfl <;> rfl
theorem allIn_four {a b c d t : Int} : allIn [a, b, c, d] t t ↔ a = t ∧ b = t ∧ c = t ∧ d = t := by
  constructor
  · intro h
    have h0 := h 0 (by simp)
    have h1 := h 1 (by simp)
    have h2 := h 2 (by simp)
    have h3 := h 3 (by simp)
    simp [gi] at h0 h1 h2 h3
    omega
  · rintro ⟨rfl, rfl, rfl, rfl⟩ k hk
    have : k = 0 ∨ k = 1 ∨ k = 2 ∨ k = 3 := by simp at hk; omega
    rcases this with rfl | rfl | rfl | rfl <;> simp [gi]

set_option maxRecDepth 100000 in
set_option maxHeartbeats 1600000 in
theorem heWay_any (N : Nat) (ao : Option Addr) (c : Nat) (H : List (List Int)) (i j : Nat) (w : World) (hN : N ≤ 7) (hH : Tab N H) (hi0 : 1 ≤ i) (hi : i + 1 < N) (hj0 : 1 ≤ j) (hj : j + 1 < N) (hm : MatAt w ao H) :
    Calls Try.prog 102 #[.slice ao N c, .int .i64 (i : Int), .int .i64 (j : Int)] w fun e w' => e = .returned (.int .i64 (way (fun a b => gi (gr H a) b) i j)) ∧ Below w.heap.size w w' := by
  obtain ⟨p, hp⟩ : ∃ p, p = i - 1 := ⟨_, rfl⟩
  obtain ⟨q, hq⟩ : ∃ q, q = j - 1 := ⟨_, rfl⟩
  obtain ⟨p2, hp2⟩ : ∃ p2, p2 = i + 1 := ⟨_, rfl⟩
  obtain ⟨q2, hq2⟩ : ∃ q2, q2 = j + 1 := ⟨_, rfl⟩
  have hway : way (fun a b => gi (gr H a) b) i j = if gi (gr H p) j = gi (gr H i) j + 1 ∧ gi (gr H i) q = gi (gr H i) j + 1 ∧ gi (gr H i) q2 = gi (gr H i) j + 1 ∧ gi (gr H p2) j = gi (gr H i) j + 1 then 1
      else if gi (gr H p) j = gi (gr H i) j - 1 ∧ gi (gr H i) q = gi (gr H i) j - 1 ∧ gi (gr H i) q2 = gi (gr H i) j - 1 ∧ gi (gr H p2) j = gi (gr H i) j - 1 then -1 else 0 := by subst hp hq hp2 hq2; rfl
  obtain ⟨b1, o1, r1, d1, e1, hc1, hx1, _, _⟩ := hm p (by rw [hH.len]; omega)
  obtain ⟨b2, o2, r2, d2, e2, hc2, hx2, _, _⟩ := hm i (by rw [hH.len]; omega)
  obtain ⟨b3, o3, r3, d3, e3, hc3, hx3, _, _⟩ := hm p2 (by rw [hH.len]; omega)
  rw [hH.row p (by omega)] at hc1
  rw [hH.row i (by omega)] at hc2
  rw [hH.row p2 (by omega)] at hc3
  obtain ⟨c1b, c1o, f1, g1⟩ := hx1 j (by rw [hH.row p (by omega)]; omega)
  obtain ⟨c2b, c2o, f2, g2⟩ := hx2 j (by rw [hH.row i (by omega)]; omega)
  obtain ⟨c3b, c3o, f3, g3⟩ := hx3 j (by rw [hH.row p2 (by omega)]; omega)
  obtain ⟨c4b, c4o, f4, g4⟩ := hx2 q (by rw [hH.row i (by omega)]; omega)
  obtain ⟨c5b, c5o, f5, g5⟩ := hx2 q2 (by rw [hH.row i (by omega)]; omega)
  rw [f2] at f4 f5
  simp only [Option.some.injEq, Addr.mk.injEq, and_true] at f4 f5
  obtain ⟨rfl, rfl⟩ := f4
  obtain ⟨rfl, rfl⟩ := f5
  rw [e1] at e2 e3
  simp only [Option.some.injEq, Addr.mk.injEq, and_true] at e2 e3
  obtain ⟨rfl, rfl⟩ := e2
  obtain ⟨rfl, rfl⟩ := e3
  subst e1 f1 f2 f3
  have n0 := hH.num i j (by omega) (by omega)
  have n1 := hH.num p j (by omega) (by omega)
  have n2 := hH.num p2 j (by omega) (by omega)
  have n3 := hH.num i q (by omega) (by omega)
  have n4 := hH.num i q2 (by omega) (by omega)
  generalize way (fun a b => gi (gr H a) b) i j = z at hway ⊢
  generalize gi (gr H i) j = x at hway g2 n0
  generalize gi (gr H p) j = x1 at hway g1 n1
  generalize gi (gr H p2) j = x2 at hway g3 n2
  generalize gi (gr H i) q = x3 at hway g4 n3
  generalize gi (gr H i) q2 = x4 at hway g5 n4
  have k1 : IntKind.i64.wrap ((i : Int) - 1) = (p : Int) := by rw [w64 (by omega)]; omega
  have k2 : IntKind.i64.wrap ((j : Int) - 1) = (q : Int) := by rw [w64 (by omega)]; omega
  have k3 : IntKind.i64.wrap ((i : Int) + 1) = (p2 : Int) := by rw [w64 (by omega)]; omega
  have k4 : IntKind.i64.wrap ((j : Int) + 1) = (q2 : Int) := by rw [w64 (by omega)]; omega
  have k5 : IntKind.i64.wrap (x + 1) = x + 1 := w64 (by omega)
  have k6 : IntKind.i64.wrap (x - 1) = x - 1 := w64 (by omega)
  have m1 : (p : Int) < N := by omega
  have m2 : (q : Int) < N := by omega
  have m3 : (i : Int) < N := by omega
  have m4 : (j : Int) < N := by omega
  have m5 : (p2 : Int) < N := by omega
  have m6 : (q2 : Int) < N := by omega
  clear hi0 hi hj0 hj hp hq hp2 hq2
  have Hway := Lib.hid hway
  have Hn := Lib.hid (show -90 ≤ x ∧ x ≤ 90 ∧ -90 ≤ x1 ∧ x1 ≤ 90 ∧ -90 ≤ x2 ∧ x2 ≤ 90 ∧ -90 ≤ x3 ∧ x3 ≤ 90 ∧ -90 ≤ x4 ∧ x4 ≤ 90 by omega)
  clear hway hx1 hx2 hx3 hm hH n0 n1 n2 n3 n4
  go_enter Try.func102, Try.ntmps102
  go_upto_region 2 with fail
  go_region_held (fun w' => w'.cell? ⟨b1, o1 + p, none⟩ = some (.slice (some ⟨c1b, c1o, none⟩) N d1) ∧ w'.cell? ⟨b1, o1 + i, none⟩ = some (.slice (some ⟨c2b, c2o, none⟩) N d2) ∧ w'.cell? ⟨b1, o1 + p2, none⟩ = some (.slice (some ⟨c3b, c3o, none⟩) N d3) ∧
      w'.cell? ⟨c1b, c1o + j, none⟩ = some (.int .i64 x1) ∧ w'.cell? ⟨c3b, c3o + j, none⟩ = some (.int .i64 x2) ∧ w'.cell? ⟨c2b, c2o + q, none⟩ = some (.int .i64 x3) ∧ w'.cell? ⟨c2b, c2o + q2, none⟩ = some (.int .i64 x4)) (go_keep) (fail)
  all_goals
    go_wp2_with fail
    generalize hW : World.drew _ = w1
    have hI : IntsAt w1 (some ⟨w.heap.size, 0, none⟩) [x1, x2, x3, x4] := by rw [← hW]; exact ints_four w x1 x2 x3 x4 _
    have hb : Below w.heap.size w w1 := by rw [← hW]; exact below_drewN ((Below.refl _ _).alloc (Nat.le_refl _) _) 1
    have HI := Lib.hid hI
    have HB := Lib.hid hb
    clear hW hI hb
    refine (l1All_any (some ⟨w.heap.size, 0, none⟩) 4 [x1, x2, x3, x4] (x + 1) (x + 1) w1 (by simp) HI.out).mono ?_
    rintro e w2 ⟨ha, rfl⟩
    by_cases hu : x1 = x + 1 ∧ x2 = x + 1 ∧ x3 = x + 1 ∧ x4 = x + 1
    · obtain rfl := ha.is (allIn_four.2 hu)
      have Hu := Lib.hid hu
      clear ha hu
      go_wp2
      go_ret
      exact ⟨by rw [Hway.out, if_pos ⟨Hu.out.1, Hu.out.2.2.1, Hu.out.2.2.2, Hu.out.2.1⟩]; rfl, HB.out⟩
    · obtain rfl := ha.isnt (fun h => hu (allIn_four.1 h))
      have Hu := Lib.hid hu
      clear ha hu
      go_wp2_with fail
      refine (l1All_any (some ⟨w.heap.size, 0, none⟩) 4 [x1, x2, x3, x4] (x - 1) (x - 1) w1 (by simp) HI.out).mono ?_
      rintro e w2 ⟨ha, rfl⟩
      by_cases hd : x1 = x - 1 ∧ x2 = x - 1 ∧ x3 = x - 1 ∧ x4 = x - 1
      · obtain rfl := ha.is (allIn_four.2 hd)
        have Hd := Lib.hid hd
        clear ha hd
        go_wp2
        go_ret
        exact ⟨by rw [Hway.out, if_neg (fun h => Hu.out ⟨h.1, h.2.2.2, h.2.1, h.2.2.1⟩), if_pos ⟨Hd.out.1, Hd.out.2.2.1, Hd.out.2.2.2, Hd.out.2.1⟩]; rfl, HB.out⟩
      · obtain rfl := ha.isnt (fun h => hd (allIn_four.1 h))
        have Hd := Lib.hid hd
        clear ha hd
        go_wp2
        go_ret
        exact ⟨by rw [Hway.out, if_neg (fun h => Hu.out ⟨h.1, h.2.2.2, h.2.1, h.2.2.1⟩), if_neg (fun h => Hd.out ⟨h.1, h.2.2.2, h.2.1, h.2.2.1⟩)]; rfl, HB.out⟩
end Go.Proofs.Ytopamhcnbocfoaa
