/- Sums over lines and tables, by the program's generic function and by the model's loops; minus ones; the first column. Conditions: as each says. -/
import Derived.Test.YtmkldodkpijfjaaSpecC
namespace Go.Proofs.Ytmkldodkpijfjaa
open Go.RowKit

def sumF (f : Nat → Int) : Nat → Int
  | 0 => 0
  | k + 1 => sumF f k + f k

theorem sumF_congr {f g : Nat → Int} {k : Nat} (h : ∀ i, i < k → f i = g i) : sumF f k = sumF g k := by
  induction k with
  | zero => rfl
  | succ k ih => simp only [sumF]; rw [ih (fun i hi => h i (by omega)), h k (by omega)]

/-- sums of numbers of at most B -/
theorem sumF_bound {f : Nat → Int} {B : Int} : ∀ {k : Nat}, (∀ i, i < k → -B ≤ f i ∧ f i ≤ B) → -(k * B) ≤ sumF f k ∧ sumF f k ≤ k * B
  | 0, _ => by simp [sumF]
  | k + 1, h => by
    have h1 := sumF_bound (k := k) (fun i hi => h i (by omega))
    have h2 := h k (by omega)
    simp only [sumF]
    have e : ((k + 1 : Nat) : Int) * B = k * B + B := by
      rw [show ((k + 1 : Nat) : Int) = (k : Int) + 1 from by omega, Int.add_mul, Int.one_mul]
    omega

theorem good_entry {m : List (List Int)} (h : good m) {i j : Nat} (hi : i < m.length) (hj : j < m.length) : -1 ≤ gi (gr m i) j ∧ gi (gr m i) j ≤ 1 := by
  have hl := h.1.2.2 i hi
  have h1 := (h.2.1 i hi).1 j (by omega)
  have h2 := (h.2.1 i hi).1 (j + 1) (by omega)
  simp only [sumK] at h2
  omega

def isNeg (x : Int) : Int := if x < 0 then 1 else 0
def isM1 (x : Int) : Int := if x = -1 then 1 else 0

/-- the sum over all numbers of a table of n rows of n numbers -/
def sum2 (f : Int → Int) (m : List (List Int)) : Int := sumF (fun i => sumF (fun j => f (gi (gr m i) j)) m.length) m.length

/-- how many minus ones -/
def mcount (m : List (List Int)) : Int := sum2 isNeg m

theorem mcount_m1 {m : List (List Int)} (h : good m) : sum2 isM1 m = mcount m := by
  refine sumF_congr fun i hi => sumF_congr fun j hj => ?_
  have := good_entry h hi hj
  unfold isM1 isNeg
  by_cases e : gi (gr m i) j = -1
  · rw [if_pos e, if_pos (by omega)]
  · rw [if_neg e, if_neg (by omega)]

set_option maxRecDepth 100000 in
set_option maxHeartbeats 400000 in
theorem itself_any (x : Int) (w : World) :
    Calls Try.prog 64 #[.int .i64 x] w fun e w' => e = .returned (.int .i64 x) ∧ w = w' := by
  go_enter Try.func64, Try.ntmps64
  go_wp2
  go_ret
  exact ⟨rfl, rfl⟩

def idI (x : Int) : Int := x
theorem itself_id (x : Int) (w : World) : Calls Try.prog 64 #[.int .i64 x] w fun e w' => e = .returned (.int .i64 (idI x)) ∧ w = w' := itself_any x w

set_option maxRecDepth 100000 in
set_option maxHeartbeats 800000 in
theorem sumOfInt_itself (ao : Option Addr) (c : Nat) (xs : List Int) (w : World)
    (hn : xs.length ≤ 1048576) (hbd : ∀ k, k ≤ xs.length → -1000000 ≤ sumF (fun i => idI (gi xs i)) k ∧ sumF (fun i => idI (gi xs i)) k ≤ 1000000) (hx : IntsAt w ao xs) :
    Calls Try.prog 63 #[.slice ao xs.length c, .func (.func 64) #[] #[]] w fun e w' => e = .returned (.int .i64 (sumF (fun i => idI (gi xs i)) xs.length)) ∧ w = w' := by
  have hmx : xs.length ≤ 9223372036854775807 := by omega
  have Hx := Lib.hid hx
  have Hbd := Lib.hid hbd
  clear hx hbd
  go_enter Try.func63, Try.ntmps63
  go_wp2
  go_loop [5, 10] (fun s i => ∃ k : Nat, k ≤ xs.length ∧ i = .int .i64 k ∧ s = .int .i64 (sumF (fun i => idI (gi xs i)) k)) (fun _ i => xs.length - (intOf i).toNat)
  case atStart => exact ⟨0, Nat.zero_le _, rfl, rfl⟩
  case round =>
    obtain ⟨k, hk, rfl, rfl⟩ := hrel
    by_cases hlt : k < xs.length
    · obtain ⟨b1, o1, rfl, hc1⟩ := Hx.out k hlt
      have e1 : sumF (fun i => idI (gi xs i)) (k + 1) = sumF (fun i => idI (gi xs i)) k + idI (gi xs k) := rfl
      have hb1 := Hbd.out k hk
      have hb2 := Hbd.out (k + 1) (by omega)
      rw [e1] at hb2
      have E1 := Lib.hid e1
      clear e1
      obtain ⟨s, hs⟩ : ∃ s, s = sumF (fun i => idI (gi xs i)) k := ⟨_, rfl⟩
      obtain ⟨y, hy⟩ : ∃ y, y = idI (gi xs k) := ⟨_, rfl⟩
      have hh := itself_id (gi xs k) w
      rw [← hs, ← hy] at hb2
      rw [← hs] at hb1 ⊢
      have HH2 := Lib.hid hh
      have Hs := Lib.hid hs
      have Hy := Lib.hid hy
      clear hh hs hy
      go_wp2_with fail
      refine HH2.out.mono ?_
      rintro e w2 ⟨rfl, rfl⟩
      rw [← Hy.out]
      go_wp2
      go_round
      case rel => exact ⟨k + 1, by omega, by go_num, by rw [E1.out, ← Hs.out, ← Hy.out]⟩
      case measure => simp [intOf]; omega
    · obtain rfl : k = xs.length := by omega
      go_wp2
      go_ret
      exact ⟨rfl, rfl⟩

set_option maxRecDepth 100000 in
set_option maxHeartbeats 800000 in
theorem sumOfRows_block (F : Nat → Int) (ao : Option Addr) (c : Nat) (m : List (List Int)) (cb : Nat) (w : World) (hn : m.length ≤ 1048576)
    (hbd : ∀ k, k ≤ m.length → -1000000 ≤ sumF F k ∧ sumF F k ≤ 1000000) (hx : MatAt w ao m)
    (H : ∀ i, i < m.length → ∀ r c, IntsAt w r (gr m i) → (gr m i).length ≤ c → c ≤ 9223372036854775807 → Calls Try.prog 62 #[.slice r (gr m i).length c, .pointer (some ⟨cb, 0, none⟩)] w fun e w' => e = .returned (.int .i64 (F i)) ∧ w = w') :
    Calls Try.prog 61 #[.slice ao m.length c, .func (.func 62) #[] #[.pointer (some ⟨cb, 0, none⟩)]] w fun e w' => e = .returned (.int .i64 (sumF F m.length)) ∧ w = w' := by
  have hmx : m.length ≤ 9223372036854775807 := by omega
  have Hx := Lib.hid hx
  have Hbd := Lib.hid hbd
  have HH := Lib.hid H
  clear hx hbd H
  go_enter Try.func61, Try.ntmps61
  go_wp2
  go_loop [5, 10] (fun s i => ∃ k : Nat, k ≤ m.length ∧ i = .int .i64 k ∧ s = .int .i64 (sumF F k)) (fun _ i => m.length - (intOf i).toNat)
  case atStart => exact ⟨0, Nat.zero_le _, rfl, rfl⟩
  case round =>
    obtain ⟨k, hk, rfl, rfl⟩ := hrel
    by_cases hlt : k < m.length
    · obtain ⟨b1, o1, r1, d1, rfl, hc1, hr1, hd1, hd2⟩ := Hx.out k hlt
      have e1 : sumF F (k + 1) = sumF F k + F k := rfl
      have hb1 := Hbd.out k hk
      have hb2 := Hbd.out (k + 1) (by omega)
      rw [e1] at hb2
      have hh := HH.out k hlt r1 d1 hr1 hd1 hd2
      have E1 := Lib.hid e1
      clear e1
      obtain ⟨s, hs⟩ : ∃ s, s = sumF F k := ⟨_, rfl⟩
      obtain ⟨y, hy⟩ : ∃ y, y = F k := ⟨_, rfl⟩
      rw [← hs, ← hy] at hb2
      rw [← hs] at hb1 ⊢
      have HH2 := Lib.hid hh
      have Hs := Lib.hid hs
      have Hy := Lib.hid hy
      clear hh hs hy hr1
      go_wp2_with fail
      refine HH2.out.mono ?_
      rintro e w2 ⟨rfl, rfl⟩
      rw [← Hy.out]
      go_wp2
      go_round
      case rel => exact ⟨k + 1, by omega, by go_num, by rw [E1.out, ← Hs.out, ← Hy.out]⟩
      case measure => simp [intOf]; omega
    · obtain rfl : k = m.length := by omega
      go_wp2
      go_ret
      exact ⟨rfl, rfl⟩


theorem m1_bound (xs : List Int) (k : Nat) (hk : k ≤ 1000000) : -1000000 ≤ sumF (fun i => isM1 (gi xs i)) k ∧ sumF (fun i => isM1 (gi xs i)) k ≤ 1000000 := by
  have := sumF_bound (f := fun i => isM1 (gi xs i)) (B := 1) (k := k) (fun i _ => by unfold isM1; split <;> omega)
  omega

theorem rowm1_bound (m : List (List Int)) {n k : Nat} (hn : n ≤ 6) (hk : k ≤ 6) : -1000000 ≤ sumF (fun i => sumF (fun j => isM1 (gi (gr m i) j)) n) k ∧ sumF (fun i => sumF (fun j => isM1 (gi (gr m i) j)) n) k ≤ 1000000 := by
  have := sumF_bound (f := fun i => sumF (fun j => isM1 (gi (gr m i) j)) n) (B := 6) (k := k) (fun i _ => by
    have := sumF_bound (f := fun j => isM1 (gi (gr m i) j)) (B := 1) (k := n) (fun j _ => by unfold isM1; split <;> omega)
    omega)
  omega

theorem neg_bound (m : List (List Int)) {n k : Nat} (hn : n ≤ 6) (hk : k ≤ 6) : 0 ≤ sumF (fun i => sumF (fun j => isNeg (gi (gr m i) j)) n) k ∧ sumF (fun i => sumF (fun j => isNeg (gi (gr m i) j)) n) k ≤ 36 := by
  have h0 : ∀ (xs : List Int) t, 0 ≤ sumF (fun j => isNeg (gi xs j)) t ∧ sumF (fun j => isNeg (gi xs j)) t ≤ t := by
    intro xs t
    induction t with
    | zero => simp [sumF]
    | succ t ih =>
      have : 0 ≤ isNeg (gi xs t) ∧ isNeg (gi xs t) ≤ 1 := by unfold isNeg; split <;> omega
      simp only [sumF]
      omega
  have h1 : ∀ t, 0 ≤ sumF (fun i => sumF (fun j => isNeg (gi (gr m i) j)) n) t ∧ sumF (fun i => sumF (fun j => isNeg (gi (gr m i) j)) n) t ≤ t * 6 := by
    intro t
    induction t with
    | zero => simp [sumF]
    | succ t ih =>
      have := h0 (gr m t) n
      simp only [sumF]
      omega
  have := h1 k
  omega
theorem neg_bound1 (xs : List Int) {t : Nat} : 0 ≤ sumF (fun j => isNeg (gi xs j)) t ∧ sumF (fun j => isNeg (gi xs j)) t ≤ t := by
  induction t with
  | zero => simp [sumF]
  | succ t ih =>
    have : 0 ≤ isNeg (gi xs t) ∧ isNeg (gi xs t) ≤ 1 := by unfold isNeg; split <;> omega
    simp only [sumF]
    omega

end Go.Proofs.Ytmkldodkpijfjaa
