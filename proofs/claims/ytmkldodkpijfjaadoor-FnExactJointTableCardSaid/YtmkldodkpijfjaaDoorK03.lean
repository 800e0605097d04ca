/- Parts of proofs: contracts and plain facts. Conditions: as each says. -/
import Derived.Test.YtmkldodkpijfjaaDoorK02
import Derived.Laws.AppendOwnNone
import Derived.Laws.BitsAllLaws
import Derived.Laws.Bits128
import Derived.Test.YtmkldodkpijfjaaDoorTie
import Derived.Test.YtmkldodkpijfjaaDoorCards
import Derived.Shelf.Vars
import Derived.Lay
import Derived.SevenTiedAt
import Derived.HandedShaped
import Derived.ProofKit
import Derived.LaidMore
import Derived.Stop.Joined
namespace Go.Proofs.YtmkldodkpijfjaaDoor
open Go.RowKit

def sumF (f : Nat → Int) : Nat → Int
  | 0 => 0
  | k + 1 => sumF f k + f k

theorem sumF_congr {f g : Nat → Int} {k : Nat} (h : ∀ i, i < k → f i = g i) : sumF f k = sumF g k := by
  induction k with
  | zero => rfl
  | succ k ih => simp only [sumF]; rw [ih (fun i hi => h i (by omega)), h k (by omega)]

/-- sums of numbers of at most B -/
theorem sumF_bound {f : Nat → Int} {B : Int} : ∀ {k : Nat}, (∀ i, i < k → -B ≤ f i ∧ f i ≤ B) → -(k * B) ≤ sumF f k ∧ sumF f k ≤ k * B
  | 0, _ => by simp [sumF]
  | k + 1, h => by
    have h1 := sumF_bound (k := k) (fun i hi => h i (by omega))
    have h2 := h k (by omega)
    simp only [sumF]
    have e : ((k + 1 : Nat) : Int) * B = k * B + B := by
      rw [show ((k + 1 : Nat) : Int) = (k : Int) + 1 from by omega, Int.add_mul, Int.one_mul]
    omega

theorem good_entry {m : List (List Int)} (h : good m) {i j : Nat} (hi : i < m.length) (hj : j < m.length) : -1 ≤ gi (gr m i) j ∧ gi (gr m i) j ≤ 1 := by
  have hl := h.1.2.2 i hi
  have h1 := (h.2.1 i hi).1 j (by omega)
  have h2 := (h.2.1 i hi).1 (j + 1) (by omega)
  simp only [sumK] at h2
  omega

def isNeg (x : Int) : Int := if x < 0 then 1 else 0
def isM1 (x : Int) : Int := if x = -1 then 1 else 0

/-- the sum over all numbers of a table of n rows of n numbers -/
def sum2 (f : Int → Int) (m : List (List Int)) : Int := sumF (fun i => sumF (fun j => f (gi (gr m i) j)) m.length) m.length

/-- how many minus ones -/
def mcount (m : List (List Int)) : Int := sum2 isNeg m

theorem mcount_m1 {m : List (List Int)} (h : good m) : sum2 isM1 m = mcount m := by
  refine sumF_congr fun i hi => sumF_congr fun j hj => ?_
  have := good_entry h hi hj
  unfold isM1 isNeg
  by_cases e : gi (gr m i) j = -1
  · rw [if_pos e, if_pos (by omega)]
  · rw [if_neg e, if_neg (by omega)]

def idI (x : Int) : Int := x
theorem m1_bound (xs : List Int) (k : Nat) (hk : k ≤ 1000000) : -1000000 ≤ sumF (fun i => isM1 (gi xs i)) k ∧ sumF (fun i => isM1 (gi xs i)) k ≤ 1000000 := by
  have := sumF_bound (f := fun i => isM1 (gi xs i)) (B := 1) (k := k) (fun i _ => by unfold isM1; split <;> omega)
  omega

theorem rowm1_bound (m : List (List Int)) {n k : Nat} (hn : n ≤ 6) (hk : k ≤ 6) : -1000000 ≤ sumF (fun i => sumF (fun j => isM1 (gi (gr m i) j)) n) k ∧ sumF (fun i => sumF (fun j => isM1 (gi (gr m i) j)) n) k ≤ 1000000 := by
  have := sumF_bound (f := fun i => sumF (fun j => isM1 (gi (gr m i) j)) n) (B := 6) (k := k) (fun i _ => by
    have := sumF_bound (f := fun j => isM1 (gi (gr m i) j)) (B := 1) (k := n) (fun j _ => by unfold isM1; split <;> omega)
    omega)
  omega

theorem neg_bound (m : List (List Int)) {n k : Nat} (hn : n ≤ 6) (hk : k ≤ 6) : 0 ≤ sumF (fun i => sumF (fun j => isNeg (gi (gr m i) j)) n) k ∧ sumF (fun i => sumF (fun j => isNeg (gi (gr m i) j)) n) k ≤ 36 := by
  have h0 : ∀ (xs : List Int) t, 0 ≤ sumF (fun j => isNeg (gi xs j)) t ∧ sumF (fun j => isNeg (gi xs j)) t ≤ t := by
    intro xs t
    induction t with
    | zero => simp [sumF]
    | succ t ih =>
      have : 0 ≤ isNeg (gi xs t) ∧ isNeg (gi xs t) ≤ 1 := by unfold isNeg; split <;> omega
      simp only [sumF]
      omega
  have h1 : ∀ t, 0 ≤ sumF (fun i => sumF (fun j => isNeg (gi (gr m i) j)) n) t ∧ sumF (fun i => sumF (fun j => isNeg (gi (gr m i) j)) n) t ≤ t * 6 := by
    intro t
    induction t with
    | zero => simp [sumF]
    | succ t ih =>
      have := h0 (gr m t) n
      simp only [sumF]
      omega
  have := h1 k
  omega
theorem neg_bound1 (xs : List Int) {t : Nat} : 0 ≤ sumF (fun j => isNeg (gi xs j)) t ∧ sumF (fun j => isNeg (gi xs j)) t ≤ t := by
  induction t with
  | zero => simp [sumF]
  | succ t ih =>
    have : 0 ≤ isNeg (gi xs t) ∧ isNeg (gi xs t) ≤ 1 := by unfold isNeg; split <;> omega
    simp only [sumF]
    omega

set_option maxRecDepth 100000 in
set_option maxHeartbeats 800000 in
theorem sgMinus_any (ao : Option Addr) (c : Nat) (m : List (List Int)) (w : World) (hsq : square m) (hm : MatAt w ao m) :
    Calls Tryd.prog 38 #[.slice ao m.length c] w fun e w' => e = .returned (.int .i64 (mcount m)) ∧ w = w' := by
  have hn := hsq.2.1
  have hmx : m.length ≤ 9223372036854775807 := by omega
  have Hm := Lib.hid hm
  have Hsq := Lib.hid hsq
  clear hm hsq
  go_enter Tryd.func38, Tryd.ntmps38
  go_wp2
  go_loop [3, 10] (fun s i => ∃ k : Nat, k ≤ m.length ∧ i = .int .i64 k ∧ s = .int .i64 (sumF (fun i => sumF (fun j => isNeg (gi (gr m i) j)) m.length) k)) (fun _ i => m.length - (intOf i).toNat)
  case atStart => exact ⟨0, Nat.zero_le _, rfl, rfl⟩
  case round =>
    obtain ⟨k, hk, rfl, rfl⟩ := hrel
    have hbk := neg_bound m hn (show k ≤ 6 by omega)
    by_cases hlt : k < m.length
    · obtain ⟨b1, o1, r1, d1, rfl, hc1, hr1, _, _⟩ := Hm.out k hlt
      rw [Hsq.out.2.2 k hlt] at hc1
      have Hr1 := Lib.hid hr1
      have e1 : sumF (fun i => sumF (fun j => isNeg (gi (gr m i) j)) m.length) (k + 1) = sumF (fun i => sumF (fun j => isNeg (gi (gr m i) j)) m.length) k + sumF (fun j => isNeg (gi (gr m k) j)) m.length := rfl
      have E1 := Lib.hid e1
      clear hr1 e1
      obtain ⟨s, hs⟩ : ∃ s, s = sumF (fun i => sumF (fun j => isNeg (gi (gr m i) j)) m.length) k := ⟨_, rfl⟩
      rw [← hs] at hbk ⊢
      have Hs := Lib.hid hs
      clear hs
      go_wp2
      go_loop [3, 16] (fun s' i => ∃ t : Nat, t ≤ m.length ∧ i = .int .i64 t ∧ s' = .int .i64 (s + sumF (fun j => isNeg (gi (gr m k) j)) t)) (fun _ i => m.length - (intOf i).toNat)
      case atStart => exact ⟨0, Nat.zero_le _, rfl, by simp [sumF]⟩
      case round =>
        obtain ⟨t, ht, rfl, rfl⟩ := hrel
        have hbt := neg_bound1 (gr m k) (t := t)
        by_cases htl : t < m.length
        · obtain ⟨b2, o2, rfl, hc2⟩ := Hr1.out t (by rw [Hsq.out.2.2 k hlt]; exact htl)
          have e2 : sumF (fun j => isNeg (gi (gr m k) j)) (t + 1) = sumF (fun j => isNeg (gi (gr m k) j)) t + isNeg (gi (gr m k) t) := rfl
          have E2 := Lib.hid e2
          clear e2
          obtain ⟨u, hu⟩ : ∃ u, u = sumF (fun j => isNeg (gi (gr m k) j)) t := ⟨_, rfl⟩
          rw [← hu] at hbt ⊢
          have Hu := Lib.hid hu
          clear hu
          by_cases hx : gi (gr m k) t < 0
          · have e3 : isNeg (gi (gr m k) t) = 1 := if_pos hx
            have E3 := Lib.hid e3
            clear e3
            go_wp2
            go_round
            case rel => exact ⟨t + 1, by omega, by go_num, by rw [E2.out, ← Hu.out, E3.out]; go_num⟩
            case measure => simp [intOf]; omega
          · have e3 : isNeg (gi (gr m k) t) = 0 := if_neg hx
            have E3 := Lib.hid e3
            clear e3
            go_wp2
            go_round
            case rel => exact ⟨t + 1, by omega, by go_num, by rw [E2.out, ← Hu.out, E3.out]; go_num⟩
            case measure => simp [intOf]; omega
        · obtain rfl : t = m.length := by omega
          go_wp2
          go_round
          case rel => exact ⟨k + 1, by omega, by go_num, by rw [E1.out, ← Hs.out]⟩
          case measure => simp [intOf]; omega
    · obtain rfl : k = m.length := by omega
      go_wp2
      go_ret
      exact ⟨rfl, rfl⟩
end Go.Proofs.YtmkldodkpijfjaaDoor

namespace Go.Proofs.YtmkldodkpijfjaaDoor
open Go.RowKit

/-- the answer of a function that hands back a number and whether there is one -/
def IRes (p : Prop) (x : Int) (e : Ending) : Prop := ∃ y b, e = .returned (.tuple #[.int .i64 y, .bool b]) ∧ ((p ∧ b = true ∧ y = x) ∨ (¬p ∧ b = false ∧ y = 0))
theorem IRes.yes {p : Prop} {x : Int} (h : p) : IRes p x (.returned (.tuple #[.int .i64 x, .bool true])) := ⟨x, true, rfl, .inl ⟨h, rfl, rfl⟩⟩
theorem IRes.no {p : Prop} {x : Int} (h : ¬p) : IRes p x (.returned (.tuple #[.int .i64 0, .bool false])) := ⟨0, false, rfl, .inr ⟨h, rfl, rfl⟩⟩
theorem ires_same {p : Prop} {x y y' : Int} {b b' : Bool} (h : (p ∧ b = true ∧ y = x) ∨ (¬p ∧ b = false ∧ y = 0)) (h' : (p ∧ b' = true ∧ y' = x) ∨ (¬p ∧ b' = false ∧ y' = 0)) : b = b' ∧ y = y' := by
  rcases h with ⟨h1, rfl, rfl⟩ | ⟨h1, rfl, rfl⟩ <;> rcases h' with ⟨k1, rfl, rfl⟩ | ⟨k1, rfl, rfl⟩
  · exact ⟨rfl, rfl⟩
  · exact absurd h1 k1
  · exact absurd k1 h1
  · exact ⟨rfl, rfl⟩
/-- .. a bool and whether there is one -/
def BRes (p q : Prop) (e : Ending) : Prop := ∃ y b, e = .returned (.tuple #[.bool y, .bool b]) ∧ ((p ∧ b = true ∧ (y = true ↔ q)) ∨ (¬p ∧ b = false ∧ y = false))
theorem bres_same {p q : Prop} {y y' b b' : Bool} (h : (p ∧ b = true ∧ (y = true ↔ q)) ∨ (¬p ∧ b = false ∧ y = false)) (h' : (p ∧ b' = true ∧ (y' = true ↔ q)) ∨ (¬p ∧ b' = false ∧ y' = false)) : b = b' ∧ y = y' := by
  rcases h with ⟨h1, rfl, h2⟩ | ⟨h1, rfl, rfl⟩ <;> rcases h' with ⟨k1, rfl, k2⟩ | ⟨k1, rfl, rfl⟩
  · have := h2.trans k2.symm
    refine ⟨rfl, ?_⟩
    cases y <;> cases y' <;> simp_all
  · exact absurd h1 k1
  · exact absurd k1 h1
  · exact ⟨rfl, rfl⟩

/-- the first number that isn't 0 of a line whose signs alternate is 1 -/
theorem first_one {xs : List Int} (h : lineOk xs) : ∃ j, j < xs.length ∧ gi xs j = 1 ∧ ∀ i, i < j → gi xs i = 0 := by
  have key : ∀ k, k ≤ xs.length → (∃ j, j < k ∧ gi xs j = 1 ∧ ∀ i, i < j → gi xs i = 0) ∨ (sumK xs k = 0 ∧ ∀ i, i < k → gi xs i = 0) := by
    intro k
    induction k with
    | zero => exact fun _ => .inr ⟨rfl, fun i hi => absurd hi (by omega)⟩
    | succ k ih =>
      intro hk
      rcases ih (by omega) with ⟨j, hj, h1, h2⟩ | ⟨h1, h2⟩
      · exact .inl ⟨j, by omega, h1, h2⟩
      · have hb := h.1 (k + 1) hk
        simp only [sumK] at hb
        by_cases e : gi xs k = 0
        · refine .inr ⟨by simp only [sumK]; omega, fun i hi => ?_⟩
          by_cases e2 : i = k
          · subst e2; exact e
          · exact h2 i (by omega)
        · exact .inl ⟨k, by omega, by omega, h2⟩
  rcases key xs.length (Nat.le_refl _) with h1 | ⟨h1, _⟩
  · exact h1
  · have := h.2
    omega

/-- .. its index -/
def IsFirst (xs : List Int) (j : Nat) : Prop := j < xs.length ∧ gi xs j = 1 ∧ ∀ i, i < j → gi xs i = 0
theorem first_unique {xs : List Int} {j j' : Nat} (h : IsFirst xs j) (h' : IsFirst xs j') : j = j' := by
  rcases Nat.lt_trichotomy j j' with hl | hl | hl
  · have := h'.2.2 j hl; have := h.2.1; omega
  · exact hl
  · have := h.2.2 j' hl; have := h'.2.1; omega

/-- the answer of the first column's functions -/
def CRes (m : List (List Int)) (e : Ending) : Prop := (good m ∧ ∃ j, IsFirst (gr m 0) j ∧ e = .returned (.tuple #[.int .i64 (j : Int), .bool true])) ∨ (¬good m ∧ e = .returned (.tuple #[.int .i64 0, .bool false]))

/-- whatever both hand back is the same number -/
theorem cres_ires {m : List (List Int)} {e : Ending} (h : CRes m e) : ∀ j, IsFirst (gr m 0) j → IRes (good m) (j : Int) e := by
  intro j hj
  rcases h with ⟨hg, j', hj', rfl⟩ | ⟨hg, rfl⟩
  · obtain rfl := first_unique hj hj'
    exact IRes.yes hg
  · exact IRes.no hg

/-- the column of the first 1, where there is one -/
theorem cres_some (m : List (List Int)) : ∃ x : Int, ∀ e, CRes m e → IRes (good m) x e := by
  by_cases hg : good m
  · obtain ⟨j, hj⟩ := first_one (hg.2.1 0 (by have := hg.1.1; omega))
    exact ⟨j, fun e h => cres_ires h j hj⟩
  · refine ⟨0, fun e h => ?_⟩
    rcases h with ⟨h1, _⟩ | ⟨_, rfl⟩
    · exact absurd h1 hg
    · exact IRes.no hg
end Go.Proofs.YtmkldodkpijfjaaDoor

namespace Go.Proofs.YtmkldodkpijfjaaDoor
open Go.RowKit

theorem gi_take {xs : List Int} {k i : Nat} (h : i < k) : gi (xs.take k) i = gi xs i := by
  simp only [gi, List.getD, List.getElem?_take]
  rw [if_pos h]
theorem gr_take {m : List (List Int)} {k i : Nat} (h : i < k) : gr (m.take k) i = gr m i := by
  simp only [gr, List.getD, List.getElem?_take]
  rw [if_pos h]
theorem gr_drop (m : List (List Int)) (k i : Nat) : gr (m.drop k) i = gr m (k + i) := by simp [gr, List.getD]

theorem IntsAt.take {w : World} {ao : Option Addr} {xs : List Int} (h : IntsAt w ao xs) (k : Nat) : IntsAt w ao (xs.take k) := by
  intro i hi
  have hi' : i < k ∧ i < xs.length := by rw [List.length_take] at hi; omega
  obtain ⟨b, o, e, hc⟩ := h i hi'.2
  exact ⟨b, o, e, by rw [gi_take hi'.1]; exact hc⟩
theorem MatAt.take {w : World} {ao : Option Addr} {m : List (List Int)} (h : MatAt w ao m) (k : Nat) : MatAt w ao (m.take k) := by
  intro i hi
  have hi' : i < k ∧ i < m.length := by rw [List.length_take] at hi; omega
  obtain ⟨b, o, r, c, e, hc, hr, h1, h2⟩ := h i hi'.2
  rw [gr_take hi'.1]
  exact ⟨b, o, r, c, e, hc, hr, h1, h2⟩
theorem MatAt.drop {w : World} {b o : Nat} {m : List (List Int)} (h : MatAt w (some ⟨b, o, none⟩) m) (k : Nat) : MatAt w (some ⟨b, o + k, none⟩) (m.drop k) := by
  intro i hi
  rw [List.length_drop] at hi
  obtain ⟨b', o', r, c, e, hc, hr, h1, h2⟩ := h (k + i) (by omega)
  simp only [Option.some.injEq, Addr.mk.injEq, and_true] at e
  obtain ⟨rfl, rfl⟩ := e
  rw [gr_drop]
  exact ⟨b, o + k, r, c, rfl, by rw [Nat.add_assoc]; exact hc, hr, h1, h2⟩

/-- the numbers of some rows in their first columns -/
def bsum (m : List (List Int)) (cols : Nat) : Int := sumF (fun i => sumF (fun j => gi (gr m i) j) cols) m.length

/-- all numbers are 0, 1 or -1, no row has more than 6, none fewer than the columns -/
def Tame (m : List (List Int)) (cols : Nat) : Prop := m.length ≤ 6 ∧ cols ≤ 6 ∧ ∀ i, i < m.length → cols ≤ (gr m i).length ∧ (gr m i).length ≤ 6 ∧ 0 < (gr m i).length ∧ ∀ j, j < (gr m i).length → -1 ≤ gi (gr m i) j ∧ gi (gr m i) j ≤ 1

theorem row_bound {f : Nat → Int} {n k : Nat} (hn : n ≤ 6) (h : ∀ j, j < n → -1 ≤ f j ∧ f j ≤ 1) (hk : k ≤ n) : -6 ≤ sumF f k ∧ sumF f k ≤ 6 := by
  have := sumF_bound (f := f) (B := 1) (k := k) (fun i hi => h i (by omega))
  omega

theorem block_bound {m : List (List Int)} {cols : Nat} (h : Tame m cols) {k : Nat} (hk : k ≤ m.length) : -36 ≤ sumF (fun i => sumF (fun j => gi (gr m i) j) cols) k ∧ sumF (fun i => sumF (fun j => gi (gr m i) j) cols) k ≤ 36 := by
  have h1 := h.1
  have := sumF_bound (f := fun i => sumF (fun j => gi (gr m i) j) cols) (B := 6) (k := k) (fun i hi => by
    have hr := h.2.2 i (by omega)
    exact row_bound (f := fun j => gi (gr m i) j) hr.2.1 hr.2.2.2 hr.1)
  omega

end Go.Proofs.YtmkldodkpijfjaaDoor

namespace Go.Proofs.YtmkldodkpijfjaaDoor
open Go.RowKit

theorem ints_cells {w : World} {ad : Addr} {xs : List Int} {o : Obj} (h : IntsAt w (some ad) xs) : ∀ j u, (xs.map (Value.int .i64))[j]? = some u → (w.alloc o).cell? (ad.add j) = some u := by
  intro j u hj
  have hjl : j < xs.length := by
    have := (List.getElem?_eq_some_iff.1 hj).1
    simpa using this
  obtain ⟨b, o', e, hc⟩ := h j hjl
  cases e
  have e : (xs.map (Value.int .i64))[j]? = some (Value.int .i64 (gi xs j)) := by simp [gi, List.getD, hjl]
  rw [e] at hj
  cases hj
  rw [Addr.add_lit]
  exact Lib.cell?_alloc_some _ hc

set_option maxRecDepth 100000 in
set_option maxHeartbeats 400000 in
theorem l1Own_any (ao : Option Addr) (c : Nat) (xs : List Int) (w : World) (hn : xs.length ≤ 1048576) (hc0 : ao = none → c = 0) (hx : IntsAt w ao xs) :
    Calls Tryd.prog 71 #[.slice ao xs.length c] w fun e w' => ∃ v, e = .returned v ∧ OwnI w' w.heap.size v xs ∧ Below w.heap.size w w' := by
  obtain ⟨i0, hi, hz0, hz1, hz2⟩ := info_parts Tryd.info_int
  cases ao with
  | none =>
    obtain rfl : xs = [] := by
      cases xs with
      | nil => rfl
      | cons a r => obtain ⟨b, o, e, _⟩ := hx 0 (by simp); cases e
    obtain rfl := hc0 rfl
    clear hx
    go_enter Tryd.func71, Tryd.ntmps71
    go_wp2_with (at_builtin; refine wpList_append_own_none rfl _ _ 22 rfl w.heap.size 3 i0 1 Tryd.underlying22 hi _ _ _ rfl (World.ownsRow_made w #[] 0 (Nat.le_refl _) (Nat.zero_le _) rfl) rfl ?_)
    go_wp2
    go_ret
    exact ⟨_, rfl, World.ownsRow_made w #[] 0 (Nat.le_refl _) (Nat.zero_le _) rfl, (Below.refl _ _).alloc (Nat.le_refl _) _⟩
  | some ad =>
    have A := Lib.hid hx
    clear hx
    go_enter Tryd.func71, Tryd.ntmps71
    go_wp2_with (at_builtin; refine wpList_append_own _ rfl _ _ 22 rfl w.heap.size 3 i0 (.int .i64 0) 1 8 Tryd.underlying22 hi hz0 hz1 hz2 rfl (by decide) _ _ _ rfl (World.ownsRow_made w #[] 0 (Nat.le_refl _) (Nat.zero_le _) rfl) ad xs.length c (xs.map (Value.int .i64)) rfl ?qc1 ?qc2 ?qc3 ?qc4 ?qc5 ?qc6 ?_)
    case qc1 => simp
    case qc2 => exact ints_cells A.out
    case qc3 => intro u hu; obtain ⟨x, _, rfl⟩ := List.mem_map.1 hu; rfl
    case qc4 => unfold maxLen; omega
    case qc5 => omega
    case qc6 => simp
    intro v' w1 hown hgrow hnil
    go_wp2
    go_ret
    refine ⟨v', rfl, by simpa [OwnI] using hown, ?_⟩
    exact ((Below.refl _ w).alloc (Nat.le_refl _) _).grown hgrow (by simp) (by intro k hk; simp [Value.ownBlock] at hk; omega)

/-- a slice that is written out -/
theorem ownsRow_built {e : TypeId} {base : Nat} (w : World) (vs : List Value) (hb : base ≤ w.heap.size) (hm : vs.length ≤ 9223372036854775807) :
    (w.alloc (.cells vs.toArray e)).ownsRow base e 1 (.slice (some ⟨w.heap.size, 0, none⟩) vs.length vs.length) vs.length vs :=
  ⟨by simp, .inr ⟨w.heap.size, vs.length, vs.toArray, rfl, hb, heap_alloc_new w _, Nat.le_refl _, hm, by simp, by simp⟩⟩

def slLen : Value → Nat
  | .slice _ n _ => n
  | _ => 0

/-- rows ahead of which a new one has been put: what append leaves of a slice of one row behind which all others come -/
theorem OwnP.front {w w1 : World} {B n : Nat} {v v' u : Value} {m : List (List Int)} {xs : List Int} {vs : List Value} (h : OwnP w B v n m n vs) (hu : OwnI w B u xs)
    (hne : ∀ j, j < n → ∀ g, (vs.getD j undef).ownBlock = some g → u.ownBlock ≠ some g)
    (h1 : w1.ownsRow B 22 1 v' (1 + n) ([u] ++ vs)) (hb : Below w.heap.size w w1) : OwnP w1 B v' (n + 1) (xs :: m) (n + 1) (u :: vs) := by
  refine ⟨by rw [Nat.add_comm]; exact h1, fun i hi => ?_, fun i j hij hj g hg => ?_⟩
  · cases i with
    | zero => exact hu.below hb
    | succ i =>
      have := (h.rows i (by omega)).below hb
      simpa [gr_cons_succ] using this
  · obtain ⟨j, rfl⟩ : ∃ k, j = k + 1 := ⟨j - 1, by omega⟩
    cases i with
    | zero =>
      intro hg2
      exact hne j (by omega) g (by simpa using hg2) (by simpa using hg)
    | succ i =>
      have := h.apart i j (by omega) (by omega) g (by simpa using hg)
      simpa using this
end Go.Proofs.YtmkldodkpijfjaaDoor

namespace Go.Proofs.YtmkldodkpijfjaaDoor
open Go.RowKit

theorem ones64_run (x x1 x2 x3 x4 x5 x6 x7 : Int) (w : World)
    (h1 : IntKind.u64.wrap (bits .and .u64 (x / 2) 6148914691236517205 + bits .and .u64 x 6148914691236517205) = x1)
    (h2 : IntKind.u64.wrap (bits .and .u64 (x1 / 4) 3689348814741910323 + bits .and .u64 x1 3689348814741910323) = x2)
    (h3 : bits .and .u64 (IntKind.u64.wrap (x2 / 16 + x2)) 1085102592571150095 = x3)
    (h4 : IntKind.u64.wrap (x3 + x3 / 256) = x4)
    (h5 : IntKind.u64.wrap (x4 + x4 / 65536) = x5)
    (h6 : IntKind.u64.wrap (x5 + x5 / 4294967296) = x6)
    (h7 : bits .and .i64 (wrap64 x6) 127 = x7) :
    Calls Tryd.prog 115 #[.int .u64 x] w fun e w' => e = .returned (.int .i64 x7) ∧ w = w' := by
  go_enter Tryd.func115, Tryd.ntmps115
  go_wp2
  go_ret
  exact ⟨rfl, rfl⟩

theorem ones64_any {xs : List Int} (h : Rise xs) (hl : xs.length ≤ 6) (w : World) :
    Calls Tryd.prog 115 #[.int .u64 (mask xs : Nat)] w fun e w' => e = .returned (.int .i64 xs.length) ∧ w = w' := by
  have hx := mask_lt16 h
  have hp := pc_mask h hl
  generalize mask xs = x at hx hp ⊢
  have andle : ∀ a b : Nat, Nat.land a b ≤ a := fun a b => @Nat.and_le_left a b
  have wr : ∀ a : Nat, a < 1000000 → IntKind.u64.wrap (a : Int) = (a : Int) := fun a ha => by rw [IntKind.wrap_u64]; omega
  have an1 : ∀ a : Nat, a < 1000000 → bits .and .u64 (a : Int) 6148914691236517205 = ((Nat.land a 6148914691236517205 : Nat) : Int) := fun a ha => u64_and_nat a 6148914691236517205 (by omega) (by omega)
  have an2 : ∀ a : Nat, a < 1000000 → bits .and .u64 (a : Int) 3689348814741910323 = ((Nat.land a 3689348814741910323 : Nat) : Int) := fun a ha => u64_and_nat a 3689348814741910323 (by omega) (by omega)
  have an3 : ∀ a : Nat, a < 1000000 → bits .and .u64 (a : Int) 1085102592571150095 = ((Nat.land a 1085102592571150095 : Nat) : Int) := fun a ha => u64_and_nat a 1085102592571150095 (by omega) (by omega)
  unfold pcF at hp
  simp only at hp
  have b0 : Nat.div x 2 ≤ 32767 := by show x / 2 ≤ _; omega
  have b1a := andle (Nat.div x 2) 6148914691236517205
  have b1b := andle x 6148914691236517205
  generalize e1 : Nat.add (Nat.land (Nat.div x 2) 6148914691236517205) (Nat.land x 6148914691236517205) = x1 at hp
  have b1 : x1 ≤ 98302 := by rw [← e1]; exact Nat.le_trans (Nat.add_le_add b1a b1b) (by omega)
  have b2a := andle (Nat.div x1 4) 3689348814741910323
  have b2b := andle x1 3689348814741910323
  have b2d : Nat.div x1 4 ≤ 24575 := by show x1 / 4 ≤ _; omega
  generalize e2 : Nat.add (Nat.land (Nat.div x1 4) 3689348814741910323) (Nat.land x1 3689348814741910323) = x2 at hp
  have b2 : x2 ≤ 122877 := by rw [← e2]; exact Nat.le_trans (Nat.add_le_add b2a b2b) (by omega)
  have b3a := andle (Nat.add (Nat.div x2 16) x2) 1085102592571150095
  have b3d : Nat.add (Nat.div x2 16) x2 ≤ 130556 := by show x2 / 16 + x2 ≤ _; omega
  generalize e3 : Nat.land (Nat.add (Nat.div x2 16) x2) 1085102592571150095 = x3 at hp
  have b3 : x3 ≤ 130556 := by rw [← e3]; omega
  generalize e4 : Nat.add x3 (Nat.div x3 256) = x4 at hp
  have b4 : x4 ≤ 131100 := by rw [← e4]; show x3 + x3 / 256 ≤ _; omega
  generalize e5 : Nat.add x4 (Nat.div x4 65536) = x5 at hp
  have b5 : x5 ≤ 131200 := by rw [← e5]; show x4 + x4 / 65536 ≤ _; omega
  generalize e6 : Nat.add x5 (Nat.div x5 4294967296) = x6 at hp
  have b6 : x6 ≤ 131300 := by rw [← e6]; show x5 + x5 / 4294967296 ≤ _; omega
  refine ones64_run x x1 x2 x3 x4 x5 x6 xs.length w ?_ ?_ ?_ ?_ ?_ ?_ ?_
  · rw [show ((x : Int) / 2) = ((Nat.div x 2 : Nat) : Int) by show _ = ((x / 2 : Nat) : Int); omega, an1 _ (by omega), an1 _ (by omega), ← e1]
    exact wr (_ + _) (by omega)
  · rw [show ((x1 : Int) / 4) = ((Nat.div x1 4 : Nat) : Int) by show _ = ((x1 / 4 : Nat) : Int); omega, an2 _ (by omega), an2 _ (by omega), ← e2]
    exact wr (_ + _) (by omega)
  · rw [show ((x2 : Int) / 16 + x2) = ((Nat.add (Nat.div x2 16) x2 : Nat) : Int) by show _ = ((x2 / 16 + x2 : Nat) : Int); omega, wr _ (by omega), an3 _ (by omega), ← e3]
  · rw [show ((x3 : Int) + x3 / 256) = ((Nat.add x3 (Nat.div x3 256) : Nat) : Int) by show _ = ((x3 + x3 / 256 : Nat) : Int); omega, e4, wr _ (by omega)]
  · rw [show ((x4 : Int) + x4 / 65536) = ((Nat.add x4 (Nat.div x4 65536) : Nat) : Int) by show _ = ((x4 + x4 / 65536 : Nat) : Int); omega, e5, wr _ (by omega)]
  · rw [show ((x5 : Int) + x5 / 4294967296) = ((Nat.add x5 (Nat.div x5 4294967296) : Nat) : Int) by show _ = ((x5 + x5 / 4294967296 : Nat) : Int); omega, e6, wr _ (by omega)]
  · rw [show wrap64 (x6 : Int) = (x6 : Int) by unfold wrap64; omega]
    rw [i64_and127, ← hp]
    have : Nat.land x6 127 = x6 % 128 := nat_mask7 x6
    omega

theorem onesCount_any {xs : List Int} (h : Rise xs) (hl : xs.length ≤ 6) (w : World) :
    Calls Tryd.prog 109 #[.int .u64 (mask xs : Nat)] w fun e w' => e = .returned (.int .i64 xs.length) ∧ w = w' := by
  have hh := ones64_any h hl w
  obtain ⟨x, hx⟩ : ∃ x : Int, x = (mask xs : Nat) := ⟨_, rfl⟩
  rw [← hx] at hh ⊢
  have H := Lib.hid hh
  clear hh hx
  go_enter Tryd.func109, Tryd.ntmps109
  go_wp2_with fail
  refine H.out.mono ?_
  rintro e w2 ⟨rfl, rfl⟩
  go_wp2
  go_ret
  exact ⟨rfl, rfl⟩

theorem size_any {xs : List Int} (h : Rise xs) (hl : xs.length ≤ 6) (w : World) :
    Calls Tryd.prog 98 #[.int .u64 (mask xs : Nat)] w fun e w' => e = .returned (.int .i64 xs.length) ∧ w = w' := by
  have hh := onesCount_any h hl w
  obtain ⟨x, hx⟩ : ∃ x : Int, x = (mask xs : Nat) := ⟨_, rfl⟩
  rw [← hx] at hh ⊢
  have H := Lib.hid hh
  clear hh hx
  go_enter Tryd.func98, Tryd.ntmps98
  go_wp2_with fail
  refine H.out.mono ?_
  rintro e w2 ⟨rfl, rfl⟩
  go_wp2
  go_ret
  exact ⟨rfl, rfl⟩

theorem tz64_run (x y z q i v : Int) (w : World) (hx : x ≠ 0) (h1 : IntKind.u64.wrap (-x) = y) (h2 : bits .and .u64 x y = z) (h3 : IntKind.u64.wrap (z * 285870213051353865) = q)
    (h4 : q / 288230376151711744 = i) (h5 : 0 ≤ i) (h6 : i < 64) (hc : w.cell? ⟨1, i.toNat, none⟩ = some (.int .u8 v)) (hv0 : 0 ≤ v) (hv1 : v ≤ 255) :
    Calls Tryd.prog 111 #[.int .u64 x] w fun e w' => e = .returned (.int .i64 v) ∧ w = w' := by
  have hb : (x == 0) = false := by simpa using hx
  clear hx
  go_enter Tryd.func111, Tryd.ntmps111
  go_wp2
  go_ret
  exact ⟨rfl, rfl⟩
/-- the table's cells at the places of single bits -/
def dbAt (i : Nat) : Nat := (2 ^ i * 285870213051353865) % 18446744073709551616 / 288230376151711744
def Dj (w : World) : Prop := ∀ i, i < 16 → w.cell? ⟨1, dbAt i, none⟩ = some (.int .u8 (i : Int))
theorem Dj.below {w w' : World} {B : Nat} (h : Dj w) (hb : Below B w w') (hB : w.heap.size ≤ B) : Dj w' := fun i hi => by
  have := h i hi
  rw [hb.cell (Nat.lt_of_lt_of_le (World.block_lt_of_cell? _ _ this) hB)]
  exact this
theorem Dj.next {w w' : World} (h : Dj w) (hb : Below w.heap.size w w') : Dj w' := h.below hb (Nat.le_refl _)
theorem dbAt_lt : ∀ i, i < 16 → dbAt i < 64 := by decide

theorem tz64_any {x : Int} {r : List Int} (h : Rise (x :: r)) (w : World) (hD : Dj w) :
    Calls Tryd.prog 111 #[.int .u64 (mask (x :: r) : Nat)] w fun e w' => e = .returned (.int .i64 x) ∧ w = w' := by
  have hx := h.2 x (by simp)
  have hm := mask_lt16 h
  have hlow := mask_low h.1 hx.1 (fun y hy => (h.2 y hy).2)
  obtain ⟨q, _, hq⟩ := mask_head h.1 hx.1
  have hpos : 0 < mask (x :: r) := by rw [hq]; have := Nat.two_pow_pos x.toNat; omega
  have hc := hD x.toNat (by omega)
  have hlt := dbAt_lt x.toNat (by omega)
  have hp15 : 2 ^ x.toNat ≤ 2 ^ 15 := Nat.pow_le_pow_right (by omega) (by omega)
  rw [Int.toNat_of_nonneg hx.1] at hc
  clear hq
  generalize mask (x :: r) = m at *
  refine tz64_run (m : Int) ((18446744073709551616 - m : Nat) : Int) ((2 ^ x.toNat : Nat) : Int) (((2 ^ x.toNat * 285870213051353865) % 18446744073709551616 : Nat) : Int) (dbAt x.toNat : Nat) x w (by omega) ?_ ?_ ?_ ?_ (by omega) (by omega) ?_ hx.1 (by omega)
  · rw [IntKind.wrap_u64]; omega
  · rw [u64_and_nat _ _ (by omega) (by omega), hlow]
  · rw [IntKind.wrap_u64]; omega
  · unfold dbAt; omega
  · rw [Int.toNat_natCast]; exact hc

theorem trailing_any {x : Int} {r : List Int} (h : Rise (x :: r)) (w : World) (hD : Dj w) :
    Calls Tryd.prog 99 #[.int .u64 (mask (x :: r) : Nat)] w fun e w' => e = .returned (.int .i64 x) ∧ w = w' := by
  have hh := tz64_any h w hD
  obtain ⟨m, hm⟩ : ∃ m : Int, m = (mask (x :: r) : Nat) := ⟨_, rfl⟩
  rw [← hm] at hh ⊢
  have H := Lib.hid hh
  clear hh hm hD
  go_enter Tryd.func99, Tryd.ntmps99
  go_wp2_with fail
  refine H.out.mono ?_
  rintro e w2 ⟨rfl, rfl⟩
  go_wp2
  go_ret
  exact ⟨rfl, rfl⟩

set_option maxRecDepth 100000 in
set_option maxHeartbeats 800000 in
theorem row_any {xs : List Int} (h : Rise xs) (hl : xs.length ≤ 6) (w : World) (hD : Dj w) :
    Calls Tryd.prog 67 #[.int .u64 (mask xs : Nat)] w fun e w' => ∃ v, e = .returned v ∧ OwnI w' w.heap.size v xs ∧ Below w.heap.size w w' := by
  obtain ⟨i0, hi, hz0, hz1, hz2⟩ := info_parts Tryd.info_int
  have hs := size_any h hl w
  obtain ⟨m, hm⟩ : ∃ m : Int, m = (mask xs : Nat) := ⟨_, rfl⟩
  rw [← hm] at hs ⊢
  have Hs := Lib.hid hs
  have Hm := Lib.hid hm
  have H := Lib.hid h
  have HD := Lib.hid hD
  clear hs hm h hD
  go_enter Tryd.func67, Tryd.ntmps67
  go_wp2_with fail
  refine Hs.out.mono ?_
  rintro e w2 ⟨rfl, rfl⟩
  go_wp2_with (at_make; refine wpList_make_own _ rfl _ _ 22 rfl w.heap.size 3 i0 (.int .i64 0) 1 Tryd.underlying22 hi hz0 hz1 _ _ _ xs.length rfl rfl rfl ?c1 ?c2 ?c3 ?_)
  case c1 => rw [hz2]; omega
  case c2 => unfold maxLen; omega
  case c3 => simp
  intro w1 hown hg
  have hb1 : Below w.heap.size w w1 := (Below.refl _ _).grown hg (Nat.le_refl _) (fun _ h => by cases h)
  have hown1 : OwnI w1 w.heap.size (.slice (some ⟨w.heap.size, 0, none⟩) 0 xs.length) [] := hown
  clear hown hg
  go_wp2
  go_loopw [3, 4] (fun out rest wr => ∃ (pre suf : List Int), pre ++ suf = xs ∧ rest = .int .u64 (mask suf : Nat) ∧ OwnI wr w.heap.size out pre ∧ Below w.heap.size w wr) (fun out _ _ => xs.length - slLen out)
  case atStart => exact ⟨[], xs, rfl, by rw [Hm.out], hown1, hb1⟩
  case round =>
    obtain ⟨pre, suf, hps, rfl, hown, hbr⟩ := hrel
    clear hown1 hb1
    cases suf with
    | nil =>
      go_wp2
      go_ret
      rw [List.append_nil] at hps
      subst hps
      exact ⟨_, rfl, hown, hbr⟩
    | cons x r =>
      have hr : Rise (x :: r) := by
        have := H.out
        rw [← hps] at this
        exact ⟨(up_append this.1).2.1, fun y hy => this.2 y (by simp [hy])⟩
      have hx := hr.2 x (by simp)
      have hpos : mask (x :: r) ≠ 0 := by
        obtain ⟨q, _, hq⟩ := mask_head hr.1 hx.1
        rw [hq]
        have := Nat.two_pow_pos x.toNat
        omega
      have hlt := mask_lt16 hr
      have e1 : bits .and .u64 ((mask (x :: r) : Nat) : Int) (IntKind.u64.wrap (((mask (x :: r) : Nat) : Int) - 1)) = ((mask r : Nat) : Int) := by
        have h1 : IntKind.u64.wrap (((mask (x :: r) : Nat) : Int) - 1) = ((mask (x :: r) - 1 : Nat) : Int) := by rw [IntKind.wrap_u64]; omega
        rw [h1, u64_and_nat _ _ (by omega) (by omega), mask_rest hr.1 hx.1]
      have hb : (((mask (x :: r) : Nat) : Int) != 0) = true := by simp; exact hpos
      have hcall := trailing_any hr wr (HD.out.next hbr)
      obtain ⟨m1, hm1⟩ : ∃ m : Int, m = (mask (x :: r) : Nat) := ⟨_, rfl⟩
      obtain ⟨m2, hm2⟩ : ∃ m : Int, m = (mask r : Nat) := ⟨_, rfl⟩
      rw [← hm1, ← hm2] at e1
      rw [← hm1] at hb hcall ⊢
      have hlen : pre.length + (r.length + 1) ≤ 6 := by have := congrArg List.length hps; simp at this; omega
      have hlen2 : pre.length + (r.length + 1) = xs.length := by have := congrArg List.length hps; simpa using this
      have Hc := Lib.hid hcall
      have Hm2 := Lib.hid hm2
      have Hown := Lib.hid hown
      have Hbr := Lib.hid hbr
      have HB := Lib.hid hbr.size
      have E1 := Lib.hid e1
      have Hps := Lib.hid hps
      clear hcall hm1 hm2 hown hbr hr hpos hlt e1 hps
      obtain ⟨ao, co, rfl, hco, hco2, _⟩ := Hown.out.read
      go_wp2_with fail
      refine Hc.out.mono ?_
      rintro e w2 ⟨rfl, rfl⟩
      go_wp2_with (at_builtin; refine wpList_append_own _ rfl _ _ 22 rfl w.heap.size 3 i0 (.int .i64 0) 1 8 Tryd.underlying22 hi hz0 hz1 hz2 rfl (by decide) _ _ _ rfl (World.ownsRow.alloc Hown.out _) ⟨wr.heap.size, 0, none⟩ 1 1 [.int .i64 x] rfl rfl ?e1 ?e2 ?e3 ?e4 ?e5 ?_)
      case e1 => exact cell_one_new _ _ _
      case e2 => intro u hu; simp at hu; subst hu; rfl
      case e3 => unfold maxLen; omega
      case e4 => omega
      case e5 => have := HB.out; simp; omega
      intro v' w3 hown' hgrow _
      have hput := Hown.out.snoc HB.out hown' hgrow
      obtain ⟨ao', co', rfl, _, _, _⟩ := hput.1.read
      have Hput := Lib.hid hput
      clear hput hown' hgrow
      go_wp2
      go_roundw
      case rel => exact ⟨pre ++ [x], r, by rw [List.append_assoc]; exact Hps.out, by rw [E1.out, Hm2.out], Hput.out.1, Hbr.out.trans Hput.out.2⟩
      case measure => simp [slLen]; omega
end Go.Proofs.YtmkldodkpijfjaaDoor

namespace Go.Proofs.YtmkldodkpijfjaaDoor
open Go.ChangeShapes Go.WideShapes Go.ChangeAt Go.RowKit Go.Deep

def laid2 : List (String × DataW Unit) := [("math/bits.deBruijn32tab", Rows.laid_math_bits_deBruijn32tab), ("math/bits.deBruijn64tab", Rows.laid_math_bits_deBruijn64tab)]
def tab64 : List Int := [0, 1, 56, 2, 57, 49, 28, 3, 61, 58, 42, 50, 38, 29, 17, 4, 62, 47, 59, 36, 45, 43, 51, 22, 53, 39, 33, 30, 24, 18, 12, 5, 63, 55, 48, 27, 60, 41, 37, 16, 46, 35, 44, 21, 52, 32, 23, 11, 54, 26, 40, 15, 34, 20, 31, 10, 25, 14, 19, 9, 13, 8, 7, 6]
theorem tab64_is : (Rows.laid_math_bits_deBruijn64tab : DataW Unit) = .agg (tab64.map fun n => .lit (.int .u8 n)) := rfl
theorem tab64_at : ∀ i, i < 16 → tab64.getD (dbAt i) 0 = i := by decide

theorem tab_cell {W : World} (h : laidMetH Tryd.prog laid2 W) (j : Nat) (hr : j < 64) : W.cell? ⟨1, j, none⟩ = some (.int .u8 (tab64.getD j 0)) := by
  rw [MakeChecks.laidMetH_plain _ _ _ (by kernel_rfl)] at h
  obtain ⟨ps, hps, _, _⟩ := h
  obtain ⟨_, _, _, _, _, _, _, _, _, _, ⟨g, t, cs, fuel, p, q, hg, ht, hv, hd, _, _⟩, _⟩ := hps
  obtain rfl := Option.some.inj ((show Tryd.prog.globalNamed "math/bits.deBruijn64tab" = some 1 by kernel_rfl).symm.trans hg)
  obtain rfl := Option.some.inj ((show (Tryd.prog.globals[1]?).map (·.type) = some 107 by kernel_rfl).symm.trans ht)
  obtain ⟨xs, m, _, ex, _, hl, hel⟩ := DataW.trod_array Tryd.underlying107 hd
  have c5 : Tryd.prog.cellsOf 5 = 1 := by kernel_rfl
  have hE := hel (j) hr
  rw [c5, Nat.mul_one, List.getElem?_eq_getElem (by omega)] at hE
  obtain ⟨z, e1, e2, _⟩ := DataW.trod_int Tryd.underlying5 hE
  have hlen : tab64.length = 64 := by kernel_rfl
  rw [tab64_is] at ex
  have e3 : (xs.map (·.1)) = tab64.map fun n => .lit (.int .u8 n) := (DataW.agg.inj (Prod.mk.inj ex).1).symm
  have e4 : (xs.map (·.1))[j]? = (tab64.map fun n => (DataW.lit (.int .u8 n) : DataW Unit))[j]? := by rw [e3]
  rw [List.getElem?_map, List.getElem?_map, List.getElem?_eq_getElem (by omega : j < xs.length), List.getElem?_eq_getElem (by omega : j < tab64.length), e2] at e4
  have hz : z = tab64.getD (j) 0 := by
    simp only [Option.map_some, Option.some.injEq, DataW.lit.injEq, Lit.int.injEq, true_and] at e4
    rw [e4, List.getD, List.getElem?_eq_getElem (by omega : j < tab64.length)]; rfl
  rw [World.var?_cell hg hv (j), ← hz]
  have : cs.toList[j]? = some (.int .u8 z) := by
    have h0 : ((cs.toList.drop (j)).take 1)[0]? = some (.int .u8 z) := by rw [e1]; rfl
    simpa using h0
  simpa using this
theorem dj_of_laid {W : World} (h : laidMetH Tryd.prog laid2 W) : Dj W := by
  intro i hi
  have := tab_cell h (dbAt i) (dbAt_lt i hi)
  rw [tab64_at i hi] at this
  exact this
end Go.Proofs.YtmkldodkpijfjaaDoor

namespace Go.Proofs.YtmkldodkpijfjaaDoor
open Go.RowKit

def okX (sums row : List Int) (sum x : Int) : Prop := (0 ≤ sum + x ∧ sum + x ≤ 1) ∧ 0 ≤ gi sums row.length + x ∧ gi sums row.length + x ≤ 1
instance (sums row : List Int) (sum x : Int) : Decidable (okX sums row sum x) := by unfold okX; infer_instance
/-- the rows that go on a row: d numbers more -/
def rowsW (sums : List Int) : Nat → List Int → Int → List (List Int)
  | 0, row, sum => if sum = 1 then [row] else []
  | d + 1, row, sum => (List.range 3).flatMap fun k : Nat => if okX sums row sum ((k : Int) - 1) then rowsW sums d (row ++ [(k : Int) - 1]) (sum + ((k : Int) - 1)) else []
/-- .. up to the k-th number -/
def rowsP (sums : List Int) (d : Nat) (row : List Int) (sum : Int) (k : Nat) : List (List Int) :=
  (List.range k).flatMap fun k : Nat => if okX sums row sum ((k : Int) - 1) then rowsW sums d (row ++ [(k : Int) - 1]) (sum + ((k : Int) - 1)) else []
theorem rowsP_zero (sums : List Int) (d : Nat) (row : List Int) (sum : Int) : rowsP sums d row sum 0 = [] := rfl
theorem rowsP_yes {sums : List Int} {d : Nat} {row : List Int} {sum : Int} {k : Nat} (h : okX sums row sum ((k : Int) - 1)) : rowsP sums d row sum (k + 1) = rowsP sums d row sum k ++ rowsW sums d (row ++ [(k : Int) - 1]) (sum + ((k : Int) - 1)) := by
  unfold rowsP
  rw [List.range_succ, List.flatMap_append]
  simp [h]
theorem rowsP_no {sums : List Int} {d : Nat} {row : List Int} {sum : Int} {k : Nat} (h : ¬okX sums row sum ((k : Int) - 1)) : rowsP sums d row sum (k + 1) = rowsP sums d row sum k := by
  unfold rowsP
  rw [List.range_succ, List.flatMap_append]
  simp [h]
theorem rowsP_end (sums : List Int) (d : Nat) (row : List Int) (sum : Int) : rowsP sums d row sum 3 = rowsW sums (d + 1) row sum := rfl
theorem flatL_len {α β : Type} (g : α → List β) (B : Nat) : ∀ l : List α, (∀ x, x ∈ l → (g x).length ≤ B) → (l.flatMap g).length ≤ l.length * B
  | [], _ => by simp
  | a :: l, h => by
    have h1 := flatL_len g B l (fun x hx => h x (by simp [hx]))
    have h2 := h a (by simp)
    rw [List.flatMap_cons, List.length_append, List.length_cons, Nat.add_mul]
    omega
theorem rowsW_le (sums : List Int) : ∀ (d : Nat) (row : List Int) (sum : Int), (rowsW sums d row sum).length ≤ 3 ^ d
  | 0, row, sum => by unfold rowsW; split <;> simp
  | d + 1, row, sum => by
    rw [Nat.pow_succ, Nat.mul_comm]
    refine Nat.le_trans (flatL_len _ (3 ^ d) _ fun k _ => ?_) (by simp)
    split
    · exact rowsW_le sums d _ _
    · simp
theorem rowsP_le (sums : List Int) (d : Nat) (row : List Int) (sum : Int) {k : Nat} (hk : k ≤ 3) : (rowsP sums d row sum k).length ≤ 3 ^ (d + 1) := by
  rw [Nat.pow_succ, Nat.mul_comm]
  refine Nat.le_trans (flatL_len _ (3 ^ d) _ fun k _ => ?_) (by rw [List.length_range]; exact Nat.mul_le_mul_right _ hk)
  split
  · exact rowsW_le sums d _ _
  · simp
theorem rowsW_mem (sums : List Int) : ∀ (d : Nat) (row : List Int) (sum : Int) (r : List Int), r ∈ rowsW sums d row sum →
    r.length = row.length + d ∧ (∀ j, j < row.length → gi r j = gi row j) ∧ ∀ j, row.length ≤ j → j < row.length + d → -1 ≤ gi r j ∧ gi r j ≤ 1 ∧ 0 ≤ gi sums j + gi r j ∧ gi sums j + gi r j ≤ 1
  | 0, row, sum, r, h => by
    unfold rowsW at h
    split at h
    · simp only [List.mem_singleton] at h
      subst h
      exact ⟨rfl, fun _ _ => rfl, fun j h1 h2 => absurd h1 (by omega)⟩
    · simp at h
  | d + 1, row, sum, r, h => by
    unfold rowsW at h
    rw [List.mem_flatMap] at h
    obtain ⟨k, hk, h⟩ := h
    have hk3 : k < 3 := by simpa using hk
    split at h
    · next hok =>
      obtain ⟨h1, h2, h3⟩ := rowsW_mem sums d _ _ r h
      rw [List.length_append] at h1 h2 h3
      simp only [List.length_cons, List.length_nil] at h1 h2 h3
      have hlast : gi r row.length = (k : Int) - 1 := by
        rw [h2 row.length (by omega)]
        simp [gi, List.getD]
      refine ⟨by omega, fun j hj => ?_, fun j hj1 hj2 => ?_⟩
      · rw [h2 j (by omega)]
        simp [gi, List.getD, List.getElem?_append_left hj]
      · by_cases e : j = row.length
        · subst e
          rw [hlast]
          have := hok.2
          exact ⟨by omega, by omega, this.1, this.2⟩
        · exact h3 j (by omega) (by omega)
    · simp at h

def addL (sums row : List Int) : List Int := (List.range sums.length).map fun j => gi sums j + gi row j
theorem addL_len (sums row : List Int) : (addL sums row).length = sums.length := by simp [addL]
theorem gi_addL {sums row : List Int} {j : Nat} (h : j < sums.length) : gi (addL sums row) j = gi sums j + gi row j := gi_row h
/-- the first t sums added to -/
def addP (sums row : List Int) (t : Nat) : List Int := (List.range sums.length).map fun j => gi sums j + (if j < t then gi row j else 0)
theorem addP_len (sums row : List Int) (t : Nat) : (addP sums row t).length = sums.length := by simp [addP]
theorem gi_addP {sums row : List Int} {t j : Nat} (h : j < sums.length) : gi (addP sums row t) j = gi sums j + (if j < t then gi row j else 0) := gi_row h
theorem addP_zero (sums row : List Int) : addP sums row 0 = sums := ext_gi (addP_len _ _ _) fun j hj => by
  rw [addP_len] at hj
  rw [gi_addP hj, if_neg (by omega)]
  omega
theorem addP_end (sums row : List Int) : addP sums row sums.length = addL sums row := ext_gi (by rw [addP_len, addL_len]) fun j hj => by
  rw [addP_len] at hj
  rw [gi_addP hj, gi_addL hj, if_pos hj]
theorem addP_set {sums row : List Int} {t : Nat} (ht : t < sums.length) : (addP sums row t).set t (gi sums t + gi row t) = addP sums row (t + 1) := by
  refine ext_gi (by rw [List.length_set, addP_len, addP_len]) fun j hj => ?_
  rw [List.length_set, addP_len] at hj
  rw [gi_set (by rw [addP_len]; exact ht), gi_addP (t := t) hj, gi_addP (t := t + 1) hj]
  by_cases e : j = t
  · subst e; rw [if_pos rfl, if_pos (by omega)]
  · rw [if_neg e]
    have : (j < t + 1) = (j < t) := propext (by omega)
    simp only [this]

/-- sums of columns that are 0 or 1 -/
def bits01 (sums : List Int) : Prop := ∀ j, j < sums.length → 0 ≤ gi sums j ∧ gi sums j ≤ 1
theorem bits01.add {sums : List Int} {r : List Int} (hr : r ∈ rowsW sums sums.length [] 0) : bits01 (addL sums r) := fun j hj => by
  rw [addL_len] at hj
  obtain ⟨_, _, h3⟩ := rowsW_mem sums sums.length [] 0 r hr
  have := h3 j (by simp) (by simpa using hj)
  rw [gi_addL hj]
  exact ⟨this.2.2.1, this.2.2.2⟩
def allOne (sums : List Int) : Bool := sums.all fun x => decide (x = 1)
theorem allOne_iff {sums : List Int} : allOne sums = true ↔ ∀ j, j < sums.length → gi sums j = 1 := by
  unfold allOne
  rw [List.all_eq_true]
  constructor
  · intro h j hj
    exact of_decide_eq_true (h _ (gi_mem hj))
  · intro h x hx
    obtain ⟨i, hi, rfl⟩ := List.mem_iff_getElem.1 hx
    have := h i hi
    rw [gi_lt hi] at this
    exact decide_eq_true this
/-- the matrices that go on some rows: d rows more -/
def goW : Nat → List (List Int) → List Int → List (List (List Int))
  | 0, rows, sums => if allOne sums = true then [rows] else []
  | d + 1, rows, sums => (rowsW sums sums.length [] 0).flatMap fun row => goW d (rows ++ [row]) (addL sums row)
/-- .. up to the k-th row -/
def goP (d : Nat) (rows : List (List Int)) (sums : List Int) (k : Nat) : List (List (List Int)) := ((rowsW sums sums.length [] 0).take k).flatMap fun row => goW d (rows ++ [row]) (addL sums row)
theorem goP_zero (d : Nat) (rows : List (List Int)) (sums : List Int) : goP d rows sums 0 = [] := by simp [goP]
theorem goP_step {d : Nat} {rows : List (List Int)} {sums : List Int} {k : Nat} (h : k < (rowsW sums sums.length [] 0).length) :
    goP d rows sums (k + 1) = goP d rows sums k ++ goW d (rows ++ [gr (rowsW sums sums.length [] 0) k]) (addL sums (gr (rowsW sums sums.length [] 0) k)) := by
  unfold goP
  rw [List.take_add_one, List.flatMap_append, List.getElem?_eq_getElem h, gr_lt h]
  simp
theorem goP_end (d : Nat) (rows : List (List Int)) (sums : List Int) : goP d rows sums (rowsW sums sums.length [] 0).length = goW (d + 1) rows sums := by
  unfold goP
  rw [List.take_length]
  rfl
theorem goW_le : ∀ (d : Nat) (rows : List (List Int)) (sums : List Int), sums.length ≤ 5 → (goW d rows sums).length ≤ 243 ^ d
  | 0, rows, sums, _ => by unfold goW; split <;> simp
  | d + 1, rows, sums, h => by
    unfold goW
    rw [Nat.pow_succ, Nat.mul_comm]
    refine Nat.le_trans (flatL_len _ (243 ^ d) _ fun r _ => goW_le d _ _ (by rw [addL_len]; exact h)) (Nat.mul_le_mul_right _ ?_)
    refine Nat.le_trans (rowsW_le _ _ _ _) (Nat.le_trans (Nat.pow_le_pow_right (by omega) h) (by decide))
theorem goP_le (d : Nat) (rows : List (List Int)) (sums : List Int) (k : Nat) (h : sums.length ≤ 5) : (goP d rows sums k).length ≤ 243 ^ (d + 1) := by
  unfold goP
  rw [Nat.pow_succ, Nat.mul_comm]
  refine Nat.le_trans (flatL_len _ (243 ^ d) _ fun r _ => goW_le d _ _ (by rw [addL_len]; exact h)) (Nat.mul_le_mul_right _ ?_)
  rw [List.length_take]
  refine Nat.le_trans (Nat.min_le_right _ _) (Nat.le_trans (rowsW_le _ _ _ _) (Nat.le_trans (Nat.pow_le_pow_right (by omega) h) (by decide)))
/-- all sign matrices with n rows, in order -/
def allW (n : Nat) : List (List (List Int)) := goW n [] (List.replicate n 0)
instance (xs : List Int) : Decidable (lineOk xs) := by unfold lineOk; infer_instance
instance (m : List (List Int)) : Decidable (rowsOk m) := by unfold rowsOk; infer_instance
instance (m : List (List Int)) : Decidable (square m) := by unfold square; infer_instance
instance (m : List (List Int)) : Decidable (good m) := by unfold good; infer_instance
theorem allW_good : ∀ n, n < 5 → ∀ m, m ∈ allW n → n = 0 ∨ (m.length = n ∧ good m) := by decide +kernel
theorem allW_len : ∀ n, n < 5 → (allW n).length ≤ 42 := by decide +kernel
end Go.Proofs.YtmkldodkpijfjaaDoor

