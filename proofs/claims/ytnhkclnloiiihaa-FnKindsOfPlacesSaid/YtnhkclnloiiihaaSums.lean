/- Sums over lines and tables, by the program's generic function and by the model's loops; minus ones; the first column. Conditions: as each says. -/
import Derived.Test.YtnhkclnloiiihaaSpecC
namespace Go.Proofs.Ytnhkclnloiiihaa
open Go.RowKit

def sumF (f : Nat → Int) : Nat → Int
  | 0 => 0
  | k + 1 => sumF f k + f k

theorem sumF_congr {f g : Nat → Int} {k : Nat} (h : ∀ i, i < k → f i = g i) : sumF f k = sumF g k := by
  induction k with
  | zero => rfl
  | succ k ih => simp only [sumF]; rw [ih (fun i hi => h i (by omega)), h k (by omega)]

/-- sums of numbers of at most B -/
theorem sumF_bound {f : Nat → Int} {B : Int} : ∀ {k : Nat}, (∀ i, i < k → -B ≤ f i ∧ f i ≤ B) → -(k * B) ≤ sumF f k ∧ sumF f k ≤ k * B
  | 0, _ => by simp [sumF]
  | k + 1, h => by
    have h1 := sumF_bound (k := k) (fun i hi => h i (by omega))
    have h2 := h k (by omega)
    simp only [sumF]
    have e : ((k + 1 : Nat) : Int) * B = k * B + B := by
      rw [show ((k + 1 : Nat) : Int) = (k : Int) + 1 from by omega, Int.add_mul, Int.one_mul]
    omega

theorem good_entry {m : List (List Int)} (h : good m) {i j : Nat} (hi : i < m.length) (hj : j < m.length) : -1 ≤ gi (gr m i) j ∧ gi (gr m i) j ≤ 1 := by
  have hl := h.1.2.2 i hi
  have h1 := (h.2.1 i hi).1 j (by omega)
  have h2 := (h.2.1 i hi).1 (j + 1) (by omega)
  simp only [sumK] at h2
  omega

def isNeg (x : Int) : Int := if x < 0 then 1 else 0
def isM1 (x : Int) : Int := if x = -1 then 1 else 0

/-- the sum over all numbers of a table of n rows of n numbers -/
def sum2 (f : Int → Int) (m : List (List Int)) : Int := sumF (fun i => sumF (fun j => f (gi (gr m i) j)) m.length) m.length

/-- how many minus ones -/
def mcount (m : List (List Int)) : Int := sum2 isNeg m

theorem mcount_m1 {m : List (List Int)} (h : good m) : sum2 isM1 m = mcount m := by
  refine sumF_congr fun i hi => sumF_congr fun j hj => ?_
  have := good_entry h hi hj
  unfold isM1 isNeg
  by_cases e : gi (gr m i) j = -1
  · rw [if_pos e, if_pos (by omega)]
  · rw [if_neg e, if_neg (by omega)]

set_option maxRecDepth 100000 in
set_option maxHeartbeats 400000 in
theorem oneIfMinus_any (x : Int) (w : World) :
    Calls Try.prog 192 #[.int .i64 x] w fun e w' => e = .returned (.int .i64 (isM1 x)) ∧ w = w' := by
  unfold isM1
  by_cases h : x = -1
  · rw [if_pos h]
    have hb : (x == -1) = true := by simp [h]
    have H := Lib.hid h
    clear h
    go_enter Try.func192, Try.ntmps192
    go_wp2
    go_ret
    exact ⟨rfl, rfl⟩
  · rw [if_neg h]
    have hb : (x == -1) = false := by simp [h]
    go_enter Try.func192, Try.ntmps192
    go_wp2
    go_ret
    exact ⟨rfl, rfl⟩

set_option maxRecDepth 100000 in
set_option maxHeartbeats 400000 in
theorem itself_any (x : Int) (w : World) :
    Calls Try.prog 186 #[.int .i64 x] w fun e w' => e = .returned (.int .i64 x) ∧ w = w' := by
  go_enter Try.func186, Try.ntmps186
  go_wp2
  go_ret
  exact ⟨rfl, rfl⟩

set_option maxRecDepth 100000 in
set_option maxHeartbeats 800000 in
theorem sumOfInt_oneIfMinus (ao : Option Addr) (c : Nat) (xs : List Int) (w : World)
    (hn : xs.length ≤ 1048576) (hbd : ∀ k, k ≤ xs.length → -1000000 ≤ sumF (fun i => isM1 (gi xs i)) k ∧ sumF (fun i => isM1 (gi xs i)) k ≤ 1000000) (hx : IntsAt w ao xs) :
    Calls Try.prog 185 #[.slice ao xs.length c, .func (.func 192) #[] #[]] w fun e w' => e = .returned (.int .i64 (sumF (fun i => isM1 (gi xs i)) xs.length)) ∧ w = w' := by
  have hmx : xs.length ≤ 9223372036854775807 := by omega
  have Hx := Lib.hid hx
  have Hbd := Lib.hid hbd
  clear hx hbd
  go_enter Try.func185, Try.ntmps185
  go_wp2
  go_loop [5, 10] (fun s i => ∃ k : Nat, k ≤ xs.length ∧ i = .int .i64 k ∧ s = .int .i64 (sumF (fun i => isM1 (gi xs i)) k)) (fun _ i => xs.length - (intOf i).toNat)
  case atStart => exact ⟨0, Nat.zero_le _, rfl, rfl⟩
  case round =>
    obtain ⟨k, hk, rfl, rfl⟩ := hrel
    by_cases hlt : k < xs.length
    · obtain ⟨b1, o1, rfl, hc1⟩ := Hx.out k hlt
      have e1 : sumF (fun i => isM1 (gi xs i)) (k + 1) = sumF (fun i => isM1 (gi xs i)) k + isM1 (gi xs k) := rfl
      have hb1 := Hbd.out k hk
      have hb2 := Hbd.out (k + 1) (by omega)
      rw [e1] at hb2
      have E1 := Lib.hid e1
      clear e1
      obtain ⟨s, hs⟩ : ∃ s, s = sumF (fun i => isM1 (gi xs i)) k := ⟨_, rfl⟩
      obtain ⟨y, hy⟩ : ∃ y, y = isM1 (gi xs k) := ⟨_, rfl⟩
      have hh := oneIfMinus_any (gi xs k) w
      rw [← hs, ← hy] at hb2
      rw [← hs] at hb1 ⊢
      have HH2 := Lib.hid hh
      have Hs := Lib.hid hs
      have Hy := Lib.hid hy
      clear hh hs hy
      go_wp2_with fail
      refine HH2.out.mono ?_
      rintro e w2 ⟨rfl, rfl⟩
      rw [← Hy.out]
      go_wp2
      go_round
      case rel => exact ⟨k + 1, by omega, by go_num, by rw [E1.out, ← Hs.out, ← Hy.out]⟩
      case measure => simp [intOf]; omega
    · obtain rfl : k = xs.length := by omega
      go_wp2
      go_ret
      exact ⟨rfl, rfl⟩

def idI (x : Int) : Int := x
theorem itself_id (x : Int) (w : World) : Calls Try.prog 186 #[.int .i64 x] w fun e w' => e = .returned (.int .i64 (idI x)) ∧ w = w' := itself_any x w

set_option maxRecDepth 100000 in
set_option maxHeartbeats 800000 in
theorem sumOfInt_itself (ao : Option Addr) (c : Nat) (xs : List Int) (w : World)
    (hn : xs.length ≤ 1048576) (hbd : ∀ k, k ≤ xs.length → -1000000 ≤ sumF (fun i => idI (gi xs i)) k ∧ sumF (fun i => idI (gi xs i)) k ≤ 1000000) (hx : IntsAt w ao xs) :
    Calls Try.prog 185 #[.slice ao xs.length c, .func (.func 186) #[] #[]] w fun e w' => e = .returned (.int .i64 (sumF (fun i => idI (gi xs i)) xs.length)) ∧ w = w' := by
  have hmx : xs.length ≤ 9223372036854775807 := by omega
  have Hx := Lib.hid hx
  have Hbd := Lib.hid hbd
  clear hx hbd
  go_enter Try.func185, Try.ntmps185
  go_wp2
  go_loop [5, 10] (fun s i => ∃ k : Nat, k ≤ xs.length ∧ i = .int .i64 k ∧ s = .int .i64 (sumF (fun i => idI (gi xs i)) k)) (fun _ i => xs.length - (intOf i).toNat)
  case atStart => exact ⟨0, Nat.zero_le _, rfl, rfl⟩
  case round =>
    obtain ⟨k, hk, rfl, rfl⟩ := hrel
    by_cases hlt : k < xs.length
    · obtain ⟨b1, o1, rfl, hc1⟩ := Hx.out k hlt
      have e1 : sumF (fun i => idI (gi xs i)) (k + 1) = sumF (fun i => idI (gi xs i)) k + idI (gi xs k) := rfl
      have hb1 := Hbd.out k hk
      have hb2 := Hbd.out (k + 1) (by omega)
      rw [e1] at hb2
      have E1 := Lib.hid e1
      clear e1
      obtain ⟨s, hs⟩ : ∃ s, s = sumF (fun i => idI (gi xs i)) k := ⟨_, rfl⟩
      obtain ⟨y, hy⟩ : ∃ y, y = idI (gi xs k) := ⟨_, rfl⟩
      have hh := itself_id (gi xs k) w
      rw [← hs, ← hy] at hb2
      rw [← hs] at hb1 ⊢
      have HH2 := Lib.hid hh
      have Hs := Lib.hid hs
      have Hy := Lib.hid hy
      clear hh hs hy
      go_wp2_with fail
      refine HH2.out.mono ?_
      rintro e w2 ⟨rfl, rfl⟩
      rw [← Hy.out]
      go_wp2
      go_round
      case rel => exact ⟨k + 1, by omega, by go_num, by rw [E1.out, ← Hs.out, ← Hy.out]⟩
      case measure => simp [intOf]; omega
    · obtain rfl : k = xs.length := by omega
      go_wp2
      go_ret
      exact ⟨rfl, rfl⟩

set_option maxRecDepth 100000 in
set_option maxHeartbeats 800000 in
theorem sumOfRows_minus (F : Nat → Int) (ao : Option Addr) (c : Nat) (m : List (List Int)) (w : World) (hn : m.length ≤ 1048576)
    (hbd : ∀ k, k ≤ m.length → -1000000 ≤ sumF F k ∧ sumF F k ≤ 1000000) (hx : MatAt w ao m)
    (H : ∀ i, i < m.length → ∀ r c, IntsAt w r (gr m i) → (gr m i).length ≤ c → c ≤ 9223372036854775807 → Calls Try.prog 191 #[.slice r (gr m i).length c] w fun e w' => e = .returned (.int .i64 (F i)) ∧ w = w') :
    Calls Try.prog 183 #[.slice ao m.length c, .func (.func 191) #[] #[]] w fun e w' => e = .returned (.int .i64 (sumF F m.length)) ∧ w = w' := by
  have hmx : m.length ≤ 9223372036854775807 := by omega
  have Hx := Lib.hid hx
  have Hbd := Lib.hid hbd
  have HH := Lib.hid H
  clear hx hbd H
  go_enter Try.func183, Try.ntmps183
  go_wp2
  go_loop [5, 10] (fun s i => ∃ k : Nat, k ≤ m.length ∧ i = .int .i64 k ∧ s = .int .i64 (sumF F k)) (fun _ i => m.length - (intOf i).toNat)
  case atStart => exact ⟨0, Nat.zero_le _, rfl, rfl⟩
  case round =>
    obtain ⟨k, hk, rfl, rfl⟩ := hrel
    by_cases hlt : k < m.length
    · obtain ⟨b1, o1, r1, d1, rfl, hc1, hr1, hd1, hd2⟩ := Hx.out k hlt
      have e1 : sumF F (k + 1) = sumF F k + F k := rfl
      have hb1 := Hbd.out k hk
      have hb2 := Hbd.out (k + 1) (by omega)
      rw [e1] at hb2
      have hh := HH.out k hlt r1 d1 hr1 hd1 hd2
      have E1 := Lib.hid e1
      clear e1
      obtain ⟨s, hs⟩ : ∃ s, s = sumF F k := ⟨_, rfl⟩
      obtain ⟨y, hy⟩ : ∃ y, y = F k := ⟨_, rfl⟩
      rw [← hs, ← hy] at hb2
      rw [← hs] at hb1 ⊢
      have HH2 := Lib.hid hh
      have Hs := Lib.hid hs
      have Hy := Lib.hid hy
      clear hh hs hy hr1
      go_wp2_with fail
      refine HH2.out.mono ?_
      rintro e w2 ⟨rfl, rfl⟩
      rw [← Hy.out]
      go_wp2
      go_round
      case rel => exact ⟨k + 1, by omega, by go_num, by rw [E1.out, ← Hs.out, ← Hy.out]⟩
      case measure => simp [intOf]; omega
    · obtain rfl : k = m.length := by omega
      go_wp2
      go_ret
      exact ⟨rfl, rfl⟩

set_option maxRecDepth 100000 in
set_option maxHeartbeats 800000 in
theorem sumOfRows_block (F : Nat → Int) (ao : Option Addr) (c : Nat) (m : List (List Int)) (cb : Nat) (w : World) (hn : m.length ≤ 1048576)
    (hbd : ∀ k, k ≤ m.length → -1000000 ≤ sumF F k ∧ sumF F k ≤ 1000000) (hx : MatAt w ao m)
    (H : ∀ i, i < m.length → ∀ r c, IntsAt w r (gr m i) → (gr m i).length ≤ c → c ≤ 9223372036854775807 → Calls Try.prog 184 #[.slice r (gr m i).length c, .pointer (some ⟨cb, 0, none⟩)] w fun e w' => e = .returned (.int .i64 (F i)) ∧ w = w') :
    Calls Try.prog 183 #[.slice ao m.length c, .func (.func 184) #[] #[.pointer (some ⟨cb, 0, none⟩)]] w fun e w' => e = .returned (.int .i64 (sumF F m.length)) ∧ w = w' := by
  have hmx : m.length ≤ 9223372036854775807 := by omega
  have Hx := Lib.hid hx
  have Hbd := Lib.hid hbd
  have HH := Lib.hid H
  clear hx hbd H
  go_enter Try.func183, Try.ntmps183
  go_wp2
  go_loop [5, 10] (fun s i => ∃ k : Nat, k ≤ m.length ∧ i = .int .i64 k ∧ s = .int .i64 (sumF F k)) (fun _ i => m.length - (intOf i).toNat)
  case atStart => exact ⟨0, Nat.zero_le _, rfl, rfl⟩
  case round =>
    obtain ⟨k, hk, rfl, rfl⟩ := hrel
    by_cases hlt : k < m.length
    · obtain ⟨b1, o1, r1, d1, rfl, hc1, hr1, hd1, hd2⟩ := Hx.out k hlt
      have e1 : sumF F (k + 1) = sumF F k + F k := rfl
      have hb1 := Hbd.out k hk
      have hb2 := Hbd.out (k + 1) (by omega)
      rw [e1] at hb2
      have hh := HH.out k hlt r1 d1 hr1 hd1 hd2
      have E1 := Lib.hid e1
      clear e1
      obtain ⟨s, hs⟩ : ∃ s, s = sumF F k := ⟨_, rfl⟩
      obtain ⟨y, hy⟩ : ∃ y, y = F k := ⟨_, rfl⟩
      rw [← hs, ← hy] at hb2
      rw [← hs] at hb1 ⊢
      have HH2 := Lib.hid hh
      have Hs := Lib.hid hs
      have Hy := Lib.hid hy
      clear hh hs hy hr1
      go_wp2_with fail
      refine HH2.out.mono ?_
      rintro e w2 ⟨rfl, rfl⟩
      rw [← Hy.out]
      go_wp2
      go_round
      case rel => exact ⟨k + 1, by omega, by go_num, by rw [E1.out, ← Hs.out, ← Hy.out]⟩
      case measure => simp [intOf]; omega
    · obtain rfl : k = m.length := by omega
      go_wp2
      go_ret
      exact ⟨rfl, rfl⟩


theorem m1_bound (xs : List Int) (k : Nat) (hk : k ≤ 1000000) : -1000000 ≤ sumF (fun i => isM1 (gi xs i)) k ∧ sumF (fun i => isM1 (gi xs i)) k ≤ 1000000 := by
  have := sumF_bound (f := fun i => isM1 (gi xs i)) (B := 1) (k := k) (fun i _ => by unfold isM1; split <;> omega)
  omega

theorem rowm1_bound (m : List (List Int)) {n k : Nat} (hn : n ≤ 6) (hk : k ≤ 6) : -1000000 ≤ sumF (fun i => sumF (fun j => isM1 (gi (gr m i) j)) n) k ∧ sumF (fun i => sumF (fun j => isM1 (gi (gr m i) j)) n) k ≤ 1000000 := by
  have := sumF_bound (f := fun i => sumF (fun j => isM1 (gi (gr m i) j)) n) (B := 6) (k := k) (fun i _ => by
    have := sumF_bound (f := fun j => isM1 (gi (gr m i) j)) (B := 1) (k := n) (fun j _ => by unfold isM1; split <;> omega)
    omega)
  omega

set_option maxRecDepth 100000 in
set_option maxHeartbeats 800000 in
theorem minusOnes1_any (ao : Option Addr) (c : Nat) (xs : List Int) (w : World) (hn : xs.length ≤ 6) (hx : IntsAt w ao xs) :
    Calls Try.prog 191 #[.slice ao xs.length c] w fun e w' => e = .returned (.int .i64 (sumF (fun i => isM1 (gi xs i)) xs.length)) ∧ w = w' := by
  have Hx := Lib.hid hx
  clear hx
  go_enter Try.func191, Try.ntmps191
  go_wp2_with fail
  refine (sumOfInt_oneIfMinus ao c xs w (by omega) (fun k hk => m1_bound xs k (by omega)) Hx.out).mono ?_
  rintro e w2 ⟨rfl, rfl⟩
  go_wp2
  go_ret
  exact ⟨rfl, rfl⟩

set_option maxRecDepth 100000 in
set_option maxHeartbeats 800000 in
theorem minusOnes_any (ao : Option Addr) (c : Nat) (m : List (List Int)) (w : World) (hg : good m) (hm : MatAt w ao m) :
    Calls Try.prog 138 #[.slice ao m.length c] w fun e w' => e = .returned (.int .i64 (mcount m)) ∧ w = w' := by
  have Hm := Lib.hid hm
  have hn := hg.1.2.1
  have hrow := hg.1.2.2
  have Hg := Lib.hid hg
  have Hrow := Lib.hid hrow
  clear hm hg hrow
  go_enter Try.func138, Try.ntmps138
  go_wp2_with fail
  refine (sumOfRows_minus (fun i => sumF (fun j => isM1 (gi (gr m i) j)) m.length) ao c m w (by omega) (fun k hk => rowm1_bound m hn (by omega)) Hm.out (fun i hi r d hr _ _ => ?_)).mono ?_
  · have := minusOnes1_any r d (gr m i) w (by rw [Hrow.out i hi]; exact hn) hr
    rw [Hrow.out i hi] at this ⊢
    exact this
  rintro e w2 ⟨rfl, rfl⟩
  go_wp2
  go_ret
  exact ⟨by rw [← mcount_m1 Hg.out]; rfl, rfl⟩

theorem neg_bound (m : List (List Int)) {n k : Nat} (hn : n ≤ 6) (hk : k ≤ 6) : 0 ≤ sumF (fun i => sumF (fun j => isNeg (gi (gr m i) j)) n) k ∧ sumF (fun i => sumF (fun j => isNeg (gi (gr m i) j)) n) k ≤ 36 := by
  have h0 : ∀ (xs : List Int) t, 0 ≤ sumF (fun j => isNeg (gi xs j)) t ∧ sumF (fun j => isNeg (gi xs j)) t ≤ t := by
    intro xs t
    induction t with
    | zero => simp [sumF]
    | succ t ih =>
      have : 0 ≤ isNeg (gi xs t) ∧ isNeg (gi xs t) ≤ 1 := by unfold isNeg; split <;> omega
      simp only [sumF]
      omega
  have h1 : ∀ t, 0 ≤ sumF (fun i => sumF (fun j => isNeg (gi (gr m i) j)) n) t ∧ sumF (fun i => sumF (fun j => isNeg (gi (gr m i) j)) n) t ≤ t * 6 := by
    intro t
    induction t with
    | zero => simp [sumF]
    | succ t ih =>
      have := h0 (gr m t) n
      simp only [sumF]
      omega
  have := h1 k
  omega
theorem neg_bound1 (xs : List Int) {t : Nat} : 0 ≤ sumF (fun j => isNeg (gi xs j)) t ∧ sumF (fun j => isNeg (gi xs j)) t ≤ t := by
  induction t with
  | zero => simp [sumF]
  | succ t ih =>
    have : 0 ≤ isNeg (gi xs t) ∧ isNeg (gi xs t) ≤ 1 := by unfold isNeg; split <;> omega
    simp only [sumF]
    omega

set_option maxRecDepth 100000 in
set_option maxHeartbeats 800000 in
theorem sgMinus_any (ao : Option Addr) (c : Nat) (m : List (List Int)) (w : World) (hsq : square m) (hm : MatAt w ao m) :
    Calls Try.prog 140 #[.slice ao m.length c] w fun e w' => e = .returned (.int .i64 (mcount m)) ∧ w = w' := by
  have hn := hsq.2.1
  have hmx : m.length ≤ 9223372036854775807 := by omega
  have Hm := Lib.hid hm
  have Hsq := Lib.hid hsq
  clear hm hsq
  go_enter Try.func140, Try.ntmps140
  go_wp2
  go_loop [3, 10] (fun s i => ∃ k : Nat, k ≤ m.length ∧ i = .int .i64 k ∧ s = .int .i64 (sumF (fun i => sumF (fun j => isNeg (gi (gr m i) j)) m.length) k)) (fun _ i => m.length - (intOf i).toNat)
  case atStart => exact ⟨0, Nat.zero_le _, rfl, rfl⟩
  case round =>
    obtain ⟨k, hk, rfl, rfl⟩ := hrel
    have hbk := neg_bound m hn (show k ≤ 6 by omega)
    by_cases hlt : k < m.length
    · obtain ⟨b1, o1, r1, d1, rfl, hc1, hr1, _, _⟩ := Hm.out k hlt
      rw [Hsq.out.2.2 k hlt] at hc1
      have Hr1 := Lib.hid hr1
      have e1 : sumF (fun i => sumF (fun j => isNeg (gi (gr m i) j)) m.length) (k + 1) = sumF (fun i => sumF (fun j => isNeg (gi (gr m i) j)) m.length) k + sumF (fun j => isNeg (gi (gr m k) j)) m.length := rfl
      have E1 := Lib.hid e1
      clear hr1 e1
      obtain ⟨s, hs⟩ : ∃ s, s = sumF (fun i => sumF (fun j => isNeg (gi (gr m i) j)) m.length) k := ⟨_, rfl⟩
      rw [← hs] at hbk ⊢
      have Hs := Lib.hid hs
      clear hs
      go_wp2
      go_loop [3, 16] (fun s' i => ∃ t : Nat, t ≤ m.length ∧ i = .int .i64 t ∧ s' = .int .i64 (s + sumF (fun j => isNeg (gi (gr m k) j)) t)) (fun _ i => m.length - (intOf i).toNat)
      case atStart => exact ⟨0, Nat.zero_le _, rfl, by simp [sumF]⟩
      case round =>
        obtain ⟨t, ht, rfl, rfl⟩ := hrel
        have hbt := neg_bound1 (gr m k) (t := t)
        by_cases htl : t < m.length
        · obtain ⟨b2, o2, rfl, hc2⟩ := Hr1.out t (by rw [Hsq.out.2.2 k hlt]; exact htl)
          have e2 : sumF (fun j => isNeg (gi (gr m k) j)) (t + 1) = sumF (fun j => isNeg (gi (gr m k) j)) t + isNeg (gi (gr m k) t) := rfl
          have E2 := Lib.hid e2
          clear e2
          obtain ⟨u, hu⟩ : ∃ u, u = sumF (fun j => isNeg (gi (gr m k) j)) t := ⟨_, rfl⟩
          rw [← hu] at hbt ⊢
          have Hu := Lib.hid hu
          clear hu
          by_cases hx : gi (gr m k) t < 0
          · have e3 : isNeg (gi (gr m k) t) = 1 := if_pos hx
            have E3 := Lib.hid e3
            clear e3
            go_wp2
            go_round
            case rel => exact ⟨t + 1, by omega, by go_num, by rw [E2.out, ← Hu.out, E3.out]; go_num⟩
            case measure => simp [intOf]; omega
          · have e3 : isNeg (gi (gr m k) t) = 0 := if_neg hx
            have E3 := Lib.hid e3
            clear e3
            go_wp2
            go_round
            case rel => exact ⟨t + 1, by omega, by go_num, by rw [E2.out, ← Hu.out, E3.out]; go_num⟩
            case measure => simp [intOf]; omega
        · obtain rfl : t = m.length := by omega
          go_wp2
          go_round
          case rel => exact ⟨k + 1, by omega, by go_num, by rw [E1.out, ← Hs.out]⟩
          case measure => simp [intOf]; omega
    · obtain rfl : k = m.length := by omega
      go_wp2
      go_ret
      exact ⟨rfl, rfl⟩
end Go.Proofs.Ytnhkclnloiiihaa
