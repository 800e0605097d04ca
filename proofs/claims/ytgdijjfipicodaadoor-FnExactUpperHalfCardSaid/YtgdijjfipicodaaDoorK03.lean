/- Parts of proofs: contracts and plain facts. Conditions: as each says. -/
import Derived.Test.YtgdijjfipicodaaDoorK02
import Derived.StillTailTactics
import Derived.Deep.Cut
import Derived.Laws.CopyOwn
namespace Go.Proofs.YtgdijjfipicodaaDoor
open Go.RowKit

/-- the sum of the numbers in the first a rows and b columns -/
def S2 (m : List (List Int)) (a b : Nat) : Int := sumF (fun i => sumF (fun j => gi (gr m i) j) b) a
/-- corner sums -/
def cs (m : List (List Int)) : List (List Int) := tab m.length m.length fun i j => S2 m (i + 1) (j + 1)
theorem cs_len (m : List (List Int)) : (cs m).length = m.length := tab_len _ _ _
theorem S2_succ (m : List (List Int)) (a b : Nat) : S2 m (a + 1) b = S2 m a b + sumF (fun j => gi (gr m a) j) b := rfl
theorem bsum_take {m : List (List Int)} {a b : Nat} (ha : a ≤ m.length) : bsum (m.take a) b = S2 m a b := by
  unfold bsum S2
  rw [show (m.take a).length = a from by rw [List.length_take]; omega]
  exact sumF_congr fun i hi => by rw [gr_take hi]

theorem good.tame {m : List (List Int)} (h : good m) {cols : Nat} (hc : cols ≤ m.length) : Tame m cols := by
  have hn := h.1.2.1
  have h1 := h.1.1
  refine ⟨hn, by omega, fun i hi => ?_⟩
  have hl := h.1.2.2 i hi
  refine ⟨by omega, by omega, by omega, fun j hj => good_entry h hi (by omega)⟩
theorem Tame.take {m : List (List Int)} {cols : Nat} (h : Tame m cols) (k : Nat) : Tame (m.take k) cols := by
  refine ⟨by rw [List.length_take]; have := h.1; omega, h.2.1, fun i hi => ?_⟩
  rw [List.length_take] at hi
  rw [gr_take (by omega)]
  exact h.2.2 i (by omega)
theorem Tame.drop {m : List (List Int)} {cols : Nat} (h : Tame m cols) (k : Nat) : Tame (m.drop k) cols := by
  refine ⟨by rw [List.length_drop]; have := h.1; omega, h.2.1, fun i hi => ?_⟩
  rw [List.length_drop] at hi
  rw [gr_drop]
  exact h.2.2 (k + i) (by omega)

theorem S2_bound {m : List (List Int)} (h : good m) {a b : Nat} (ha : a ≤ m.length) (hb : b ≤ m.length) : -36 ≤ S2 m a b ∧ S2 m a b ≤ 36 := block_bound (h.tame hb) ha

end Go.Proofs.YtgdijjfipicodaaDoor

namespace Go.Proofs.YtgdijjfipicodaaDoor
open Go.RowKit

theorem OwnP.drewN {w : World} {B n k : Nat} {v : Value} {m : List (List Int)} {vs : List Value} (h : OwnP w B v n m k vs) (q : Nat) : OwnP (w.drewN q) B v n m k vs := ⟨h.top, h.rows, h.apart⟩
theorem OwnP.drew {w : World} {B n k : Nat} {v : Value} {m : List (List Int)} {vs : List Value} (h : OwnP w B v n m k vs) : OwnP w.drew B v n m k vs := ⟨h.top, h.rows, h.apart⟩

theorem rowsum_bound {m : List (List Int)} (h : good m) {a b : Nat} (ha : a < m.length) (hb : b ≤ m.length) : -6 ≤ sumF (fun j => gi (gr m a) j) b ∧ sumF (fun j => gi (gr m a) j) b ≤ 6 :=
  row_bound (f := fun j => gi (gr m a) j) (n := m.length) h.1.2.1 (fun _ hj => good_entry h ha hj) hb

theorem cs_small {m : List (List Int)} (h : square m) : Small (cs m) := ⟨by rw [cs_len]; have := h.2.1; omega, fun i hi => by rw [cs_len] at hi; unfold cs; rw [tab_row hi]; have := h.2.1; omega⟩
end Go.Proofs.YtgdijjfipicodaaDoor

namespace Go.Proofs.YtgdijjfipicodaaDoor
open Go.RowKit

/-- a number of a table, 0 beside it -/
def atC (c : List (List Int)) (i j : Int) : Int := if i < 0 then 0 else if j < 0 then 0 else gi (gr c i.toNat) j.toNat
theorem atC_nat (c : List (List Int)) (i j : Nat) : atC c (i : Int) (j : Int) = gi (gr c i) j := by
  unfold atC
  rw [if_neg (by omega), if_neg (by omega), Int.toNat_natCast, Int.toNat_natCast]

theorem cellD {w : World} {a : Addr} {v : Value} (h : w.cell? a = some v) : ({ w with drawn := w.drawn + 1 } : World).cell? a = some v := h
theorem MatAt.drewD {w : World} {ao : Option Addr} {m : List (List Int)} (h : MatAt w ao m) : MatAt { w with drawn := w.drawn + 1 } ao m := h

/-- the numbers of a table are in 0..n -/
def inRange (c : List (List Int)) : Prop := ∀ i j, i < c.length → j < c.length → 0 ≤ gi (gr c i) j ∧ gi (gr c i) j ≤ c.length

/-- differences of corner sums -/
def df (c : List (List Int)) (i j : Nat) : Int := atC c i j - atC c ((i : Int) - 1) j - atC c i ((j : Int) - 1) + atC c ((i : Int) - 1) ((j : Int) - 1)
def dm (c : List (List Int)) : List (List Int) := tab c.length c.length (df c)
theorem dm_len (c : List (List Int)) : (dm c).length = c.length := tab_len _ _ _

theorem atC_range {c : List (List Int)} (h : inRange c) {i j : Int} (hi : -1 ≤ i ∧ i < c.length) (hj : -1 ≤ j ∧ j < c.length) : 0 ≤ atC c i j ∧ atC c i j ≤ c.length := by
  unfold atC
  split
  · omega
  · split
    · omega
    · exact h i.toNat j.toNat (by omega) (by omega)

theorem w64 {n : Int} (h : -9223372036854775808 ≤ n ∧ n ≤ 9223372036854775807) : IntKind.i64.wrap n = n := by
  exact IntWalk.i64_in n h

/-- .. or not far from it -/
def inWide (c : List (List Int)) : Prop := ∀ i j, i < c.length → j < c.length → -100 ≤ gi (gr c i) j ∧ gi (gr c i) j ≤ 100
theorem atC_wide {c : List (List Int)} (h : inWide c) {i j : Int} (hi : -1 ≤ i ∧ i < c.length) (hj : -1 ≤ j ∧ j < c.length) : -100 ≤ atC c i j ∧ atC c i j ≤ 100 := by
  unfold atC
  split
  · omega
  · split
    · omega
    · exact h i.toNat j.toNat (by omega) (by omega)

end Go.Proofs.YtgdijjfipicodaaDoor

namespace Go.Proofs.YtgdijjfipicodaaDoor
open Go.RowKit

/-- differences of corner sums, as int wraps them -/
def dfW (c : List (List Int)) (i j : Nat) : Int :=
  IntKind.i64.wrap (IntKind.i64.wrap (IntKind.i64.wrap (gi (gr c i) j - atC c ((i : Int) - 1) j) - atC c i ((j : Int) - 1)) + atC c ((i : Int) - 1) ((j : Int) - 1))
def dmW (c : List (List Int)) : List (List Int) := tab c.length c.length (dfW c)
theorem dmW_len (c : List (List Int)) : (dmW c).length = c.length := tab_len _ _ _

theorem sumF_add (f g : Nat → Int) (k : Nat) : sumF (fun i => f i + g i) k = sumF f k + sumF g k := by
  induction k with
  | zero => rfl
  | succ k ih => simp only [sumF]; omega
theorem sumF_zero (k : Nat) : sumF (fun _ => 0) k = 0 := by
  induction k with
  | zero => rfl
  | succ k ih => simp only [sumF]; omega
theorem S2_swap (m : List (List Int)) (a b : Nat) : S2 m a b = sumF (fun j => sumF (fun i => gi (gr m i) j) a) b := by
  induction a with
  | zero => show (0 : Int) = sumF (fun _ => 0) b; rw [sumF_zero]
  | succ a ih =>
    rw [S2_succ, ih, ← sumF_add]
    rfl
theorem sumK_sumF (xs : List Int) (k : Nat) : sumK xs k = sumF (fun i => gi xs i) k := by
  induction k with
  | zero => rfl
  | succ k ih => simp only [sumK, sumF]; rw [ih]
theorem S2_cols {m : List (List Int)} {a b : Nat} (ha : a ≤ m.length) (hb : b ≤ m.length) : S2 m a b = sumF (fun j => sumK (gr (tr m) j) a) b := by
  rw [S2_swap]
  refine sumF_congr fun j hj => ?_
  rw [sumK_sumF]
  exact sumF_congr fun i hi => (gi_tr (by omega) (by omega)).symm
theorem S2_range {m : List (List Int)} (h : good m) {a b : Nat} (ha : a ≤ m.length) (hb : b ≤ m.length) : 0 ≤ S2 m a b ∧ S2 m a b ≤ b := by
  rw [S2_cols ha hb]
  have : ∀ k, k ≤ b → 0 ≤ sumF (fun j => sumK (gr (tr m) j) a) k ∧ sumF (fun j => sumK (gr (tr m) j) a) k ≤ k := by
    intro k
    induction k with
    | zero => simp [sumF]
    | succ k ih =>
      intro hk
      have h1 := ih (by omega)
      have h2 := (h.2.2 k (by rw [tr_len]; omega)).1 a (by rw [tr_row (by omega)]; exact ha)
      simp only [sumF]
      omega
  exact this b (Nat.le_refl _)
theorem S2_step (m : List (List Int)) (i j : Nat) : S2 m (i + 1) (j + 1) = S2 m i (j + 1) + S2 m (i + 1) j - S2 m i j + gi (gr m i) j := by
  rw [S2_succ, S2_succ]
  simp only [sumF]
  omega
theorem S2_zero_col (m : List (List Int)) (a : Nat) : S2 m a 0 = 0 := by
  show sumF (fun _ => (0 : Int)) a = 0
  exact sumF_zero a

theorem wrap_eq (n : Int) : IntKind.i64.wrap n = (n + 9223372036854775808) % 18446744073709551616 - 9223372036854775808 := by
  rw [IntKind.wrap_i64]

theorem wrap_core {x A B C d : Int} (hx : -9223372036854775808 ≤ x ∧ x ≤ 9223372036854775807) (hA : -36 ≤ A ∧ A ≤ 36) (hB : -36 ≤ B ∧ B ≤ 36) (hC : -36 ≤ C ∧ C ≤ 36) (hd : -1 ≤ d ∧ d ≤ 1)
    (h : d = IntKind.i64.wrap (IntKind.i64.wrap (IntKind.i64.wrap (x - A) - B) + C)) : x = A + B - C + d := by
  rw [wrap_eq, wrap_eq, wrap_eq] at h
  omega

theorem dmW_sums {c : List (List Int)} (hsq : square c) (hwf : WfM c) (hg : good (dmW c)) : ∀ i, i < c.length → ∀ j, j < c.length → gi (gr c i) j = S2 (dmW c) (i + 1) (j + 1) := by
  intro i
  induction i with
  | zero =>
    intro h0 j
    induction j with
    | zero =>
      intro hj
      have hd := good_entry hg (i := 0) (j := 0) (by rw [dmW_len]; exact h0) (by rw [dmW_len]; exact hj)
      have e : gi (gr (dmW c) 0) 0 = dfW c 0 0 := gi_tab h0 hj
      have hx := hwf 0 h0 0 (by rw [hsq.2.2 0 h0]; exact hj)
      rw [S2_step, S2_zero_col, S2_zero_col]
      have := wrap_core hx (A := 0) (B := 0) (C := 0) (by omega) (by omega) (by omega) hd (by rw [e]; rfl)
      show _ = 0 + 0 - 0 + _
      omega
    | succ j ih =>
      intro hj
      have ih := ih (by omega)
      have hd := good_entry hg (i := 0) (j := j + 1) (by rw [dmW_len]; exact h0) (by rw [dmW_len]; exact hj)
      have e : gi (gr (dmW c) 0) (j + 1) = dfW c 0 (j + 1) := gi_tab h0 hj
      have hx := hwf 0 h0 (j + 1) (by rw [hsq.2.2 0 h0]; exact hj)
      have hb := S2_bound hg (a := 0 + 1) (b := j + 1) (by rw [dmW_len]; omega) (by rw [dmW_len]; omega)
      have eB : atC c ((0 : Nat) : Int) (((j + 1 : Nat) : Int) - 1) = S2 (dmW c) (0 + 1) (j + 1) := by
        rw [show (((j + 1 : Nat) : Int) - 1) = (j : Int) from by omega, atC_nat, ih]
      rw [S2_step]
      have := wrap_core hx (A := 0) (B := S2 (dmW c) (0 + 1) (j + 1)) (C := 0) (by omega) hb (by omega) hd (by rw [e, ← eB]; rfl)
      show _ = 0 + _ - 0 + _
      omega
  | succ i ihi =>
    intro hi j
    have ihi := ihi (by omega)
    induction j with
    | zero =>
      intro hj
      have hd := good_entry hg (i := i + 1) (j := 0) (by rw [dmW_len]; exact hi) (by rw [dmW_len]; exact hj)
      have e : gi (gr (dmW c) (i + 1)) 0 = dfW c (i + 1) 0 := gi_tab hi hj
      have hx := hwf (i + 1) hi 0 (by rw [hsq.2.2 (i + 1) hi]; exact hj)
      have hb := S2_bound hg (a := i + 1) (b := 0 + 1) (by rw [dmW_len]; omega) (by rw [dmW_len]; omega)
      have eA : atC c (((i + 1 : Nat) : Int) - 1) ((0 : Nat) : Int) = S2 (dmW c) (i + 1) (0 + 1) := by
        rw [show (((i + 1 : Nat) : Int) - 1) = (i : Int) from by omega, atC_nat, ihi 0 hj]
      have z1 : atC c ((i + 1 : Nat) : Int) (((0 : Nat) : Int) - 1) = 0 := by unfold atC; rw [if_neg (by omega), if_pos (by omega)]
      have z2 : atC c (((i + 1 : Nat) : Int) - 1) (((0 : Nat) : Int) - 1) = 0 := by unfold atC; rw [if_neg (by omega), if_pos (by omega)]
      rw [S2_step, S2_zero_col, S2_zero_col]
      have := wrap_core hx (A := S2 (dmW c) (i + 1) (0 + 1)) (B := 0) (C := 0) hb (by omega) (by omega) hd (by rw [e]; unfold dfW; rw [eA, z1, z2])
      omega
    | succ j ihj =>
      intro hj
      have ihj := ihj (by omega)
      have hd := good_entry hg (i := i + 1) (j := j + 1) (by rw [dmW_len]; exact hi) (by rw [dmW_len]; exact hj)
      have e : gi (gr (dmW c) (i + 1)) (j + 1) = dfW c (i + 1) (j + 1) := gi_tab hi hj
      have hx := hwf (i + 1) hi (j + 1) (by rw [hsq.2.2 (i + 1) hi]; exact hj)
      have b1 := S2_bound hg (a := i + 1) (b := j + 1 + 1) (by rw [dmW_len]; omega) (by rw [dmW_len]; omega)
      have b2 := S2_bound hg (a := i + 1 + 1) (b := j + 1) (by rw [dmW_len]; omega) (by rw [dmW_len]; omega)
      have b3 := S2_bound hg (a := i + 1) (b := j + 1) (by rw [dmW_len]; omega) (by rw [dmW_len]; omega)
      have eA : atC c (((i + 1 : Nat) : Int) - 1) ((j + 1 : Nat) : Int) = S2 (dmW c) (i + 1) (j + 1 + 1) := by
        rw [show (((i + 1 : Nat) : Int) - 1) = (i : Int) from by omega, atC_nat, ihi (j + 1) hj]
      have eB : atC c ((i + 1 : Nat) : Int) (((j + 1 : Nat) : Int) - 1) = S2 (dmW c) (i + 1 + 1) (j + 1) := by
        rw [show (((j + 1 : Nat) : Int) - 1) = (j : Int) from by omega, atC_nat, ihj]
      have eC : atC c (((i + 1 : Nat) : Int) - 1) (((j + 1 : Nat) : Int) - 1) = S2 (dmW c) (i + 1) (j + 1) := by
        rw [show (((i + 1 : Nat) : Int) - 1) = (i : Int) from by omega, show (((j + 1 : Nat) : Int) - 1) = (j : Int) from by omega, atC_nat, ihi j (by omega)]
      rw [S2_step]
      have := wrap_core hx b1 b2 b3 hd (by rw [e]; unfold dfW; rw [eA, eB, eC])
      omega

theorem dmW_dm {c : List (List Int)} (hsq : square c) (h : inRange c) : dmW c = dm c := by
  have hn := hsq.2.1
  refine eq_tab (dmW_len c) (fun i hi => tab_row hi) fun i j hi hj => ?_
  rw [show gi (gr (dmW c) i) j = dfW c i j from gi_tab hi hj]
  have h1 := atC_range h (i := i) (j := j) (by omega) (by omega)
  have h2 := atC_range h (i := (i : Int) - 1) (j := j) (by omega) (by omega)
  have h3 := atC_range h (i := i) (j := (j : Int) - 1) (by omega) (by omega)
  have h4 := atC_range h (i := (i : Int) - 1) (j := (j : Int) - 1) (by omega) (by omega)
  unfold dfW df
  rw [← atC_nat]
  rw [w64 (n := atC c i j - atC c ((i : Int) - 1) j) (by omega), w64 (n := atC c i j - atC c ((i : Int) - 1) j - atC c i ((j : Int) - 1)) (by omega), w64 (by omega)]

/-- corner sums of a sign matrix -/
def isCorners (c : List (List Int)) : Prop := square c ∧ inRange c ∧ good (dm c)
theorem corners_iff {c : List (List Int)} (hwf : WfM c) : square c ∧ good (dmW c) ↔ isCorners c := by
  constructor
  · rintro ⟨hsq, hg⟩
    have hr : inRange c := by
      intro i j hi hj
      rw [dmW_sums hsq hwf hg i hi j hj]
      have := S2_range hg (a := i + 1) (b := j + 1) (by rw [dmW_len]; omega) (by rw [dmW_len]; omega)
      omega
    exact ⟨hsq, hr, by rw [← dmW_dm hsq hr]; exact hg⟩
  · rintro ⟨hsq, hr, hg⟩
    exact ⟨hsq, by rw [dmW_dm hsq hr]; exact hg⟩

theorem wf_dmW {c : List (List Int)} : WfM (dmW c) := by
  intro i hi j hj
  rw [dmW_len] at hi
  have hj' : j < c.length := by have := tab_row (n := c.length) (c := c.length) (f := dfW c) hi; unfold dmW at hj; omega
  rw [show gi (gr (dmW c) i) j = dfW c i j from gi_tab hi hj']
  unfold dfW
  rw [wrap_eq (_ + _)]
  omega
theorem square_dmW {c : List (List Int)} (h : square c) : square (dmW c) := ⟨by rw [dmW_len]; exact h.1, by rw [dmW_len]; exact h.2.1, fun i hi => by rw [dmW_len] at hi ⊢; exact tab_row hi⟩

/-- all numbers lie between two bounds -/
def allIn (xs : List Int) (lo hi : Int) : Prop := ∀ i, i < xs.length → lo ≤ gi xs i ∧ gi xs i ≤ hi

set_option maxRecDepth 100000 in
set_option maxHeartbeats 800000 in
theorem l1All_any (ao : Option Addr) (c : Nat) (xs : List Int) (lo hi : Int) (w : World) (hn : xs.length ≤ 1048576) (hx : IntsAt w ao xs) :
    Calls Tryd.prog 92 #[.slice ao xs.length c, .int .i64 lo, .int .i64 hi] w fun e w' => Ans (allIn xs lo hi) e ∧ w = w' := by
  have hmx : xs.length ≤ 9223372036854775807 := by omega
  have Hx := Lib.hid hx
  clear hx
  go_enter Tryd.func92, Tryd.ntmps92
  go_wp2
  go_loop [11] (fun i => ∃ k : Nat, k ≤ xs.length ∧ i = .int .i64 k ∧ ∀ j, j < k → lo ≤ gi xs j ∧ gi xs j ≤ hi) (fun i => xs.length - (intOf i).toNat)
  case atStart => exact ⟨0, Nat.zero_le _, rfl, fun j hj => absurd hj (by omega)⟩
  case round =>
    obtain ⟨k, hk, rfl, hd⟩ := hrel
    have Hd := Lib.hid hd
    clear hd
    by_cases hlt : k < xs.length
    · obtain ⟨b1, o1, rfl, hc1⟩ := Hx.out k hlt
      go_wp2_with fail
      refine (l1In_any _ _ _ w).mono ?_
      rintro e w2 ⟨ha, rfl⟩
      by_cases hin : lo ≤ gi xs k ∧ gi xs k ≤ hi
      · have Hin := Lib.hid hin
        clear hin
        obtain rfl := ha.is Hin.out
        clear ha
        go_wp2
        go_round
        case rel =>
          refine ⟨k + 1, by omega, by go_num, fun j hj => ?_⟩
          by_cases e : j = k
          · subst e; exact Hin.out
          · exact Hd.out j (by omega)
        case measure => simp [intOf]; omega
      · have Hin := Lib.hid hin
        clear hin
        obtain rfl := ha.isnt Hin.out
        clear ha
        go_wp2
        go_ret
        exact ⟨Ans.no fun h => Hin.out (h k hlt), rfl⟩
    · obtain rfl : k = xs.length := by omega
      go_wp2
      go_ret
      exact ⟨Ans.yes Hd.out, rfl⟩

theorem dm_small {m : List (List Int)} (h : square m) : Small (dm m) := ⟨by rw [dm_len]; have := h.2.1; omega, fun i hi => by rw [dm_len] at hi; unfold dm; rw [tab_row hi]; have := h.2.1; omega⟩
end Go.Proofs.YtgdijjfipicodaaDoor

namespace Go.Proofs.YtgdijjfipicodaaDoor
open Go.RowKit

/-- the table with 1 in row i at column p[i] -/
def pm (p : List Int) : List (List Int) := tab p.length p.length fun i j => if gi p i = j then 1 else 0
theorem pm_len (p : List Int) : (pm p).length = p.length := tab_len _ _ _
theorem gi_pm {p : List Int} {i j : Nat} (hi : i < p.length) (hj : j < p.length) : gi (gr (pm p) i) j = if gi p i = j then 1 else 0 := gi_tab hi hj
def isPerm (p : List Int) : Prop := 1 ≤ p.length ∧ p.length ≤ 6 ∧ allIn p 0 (p.length - 1) ∧ ∀ i j, i < j → j < p.length → gi p i ≠ gi p j

theorem pm_square {p : List Int} (h1 : 1 ≤ p.length) (h2 : p.length ≤ 6) : square (pm p) := ⟨by rw [pm_len]; exact h1, by rw [pm_len]; exact h2, fun i hi => by rw [pm_len] at hi ⊢; exact tab_row hi⟩

theorem one_sum {x : Int} {f : Nat → Int} (hf : ∀ j, f j = if x = j then 1 else 0) (k : Nat) : sumF f k = if 0 ≤ x ∧ x < k then 1 else 0 := by
  induction k with
  | zero => rw [if_neg (by omega)]; rfl
  | succ k ih =>
    simp only [sumF]
    rw [ih, hf k]
    by_cases h1 : x = k
    · rw [if_neg (by omega), if_pos h1, if_pos (by omega)]; rfl
    · rw [if_neg h1]
      by_cases h2 : 0 ≤ x ∧ x < k
      · rw [if_pos h2, if_pos (by omega)]; rfl
      · rw [if_neg h2, if_neg (by omega)]; rfl

theorem pm_rowsum {p : List Int} {i k : Nat} (hi : i < p.length) (hk : k ≤ p.length) : sumK (gr (pm p) i) k = if 0 ≤ gi p i ∧ gi p i < k then 1 else 0 := by
  rw [sumK_sumF, sumF_congr (g := fun j => if gi p i = j then 1 else 0) (fun j hj => gi_pm hi (by omega))]
  exact one_sum (fun _ => rfl) k

theorem pm_colsum {p : List Int} {j k : Nat} (hj : j < p.length) (hk : k ≤ p.length) (hd : ∀ i i', i < i' → i' < p.length → gi p i ≠ gi p i') :
    0 ≤ sumK (gr (tr (pm p)) j) k ∧ sumK (gr (tr (pm p)) j) k ≤ 1 ∧ (1 ≤ sumK (gr (tr (pm p)) j) k → ∃ i, i < k ∧ gi p i = j) := by
  induction k with
  | zero => simp [sumK]
  | succ k ih =>
    obtain ⟨h1, h2, h3⟩ := ih (by omega)
    have e : gi (gr (tr (pm p)) j) k = if gi p k = j then 1 else 0 := by rw [gi_tr (by rw [pm_len]; exact hj) (by rw [pm_len]; omega), gi_pm (by omega) hj]
    simp only [sumK]
    rw [e]
    by_cases hp : gi p k = j
    · rw [if_pos hp]
      have : ¬ 1 ≤ sumK (gr (tr (pm p)) j) k := fun h => by
        obtain ⟨i, hi, hij⟩ := h3 h
        exact hd i k hi (by omega) (hij.trans hp.symm)
      exact ⟨by omega, by omega, fun _ => ⟨k, by omega, hp⟩⟩
    · rw [if_neg hp]
      refine ⟨by omega, by omega, fun h => ?_⟩
      obtain ⟨i, hi, hij⟩ := h3 (by omega)
      exact ⟨i, by omega, hij⟩

theorem all_one {f : Nat → Int} : ∀ {k : Nat}, (∀ i, i < k → f i ≤ 1) → sumF f k = k → ∀ i, i < k → f i = 1
  | 0, _, _ => fun i hi => absurd hi (by omega)
  | k + 1, h, he => by
    have h0 : sumF f k ≤ k := by
      have : ∀ t, t ≤ k → sumF f t ≤ t := by
        intro t
        induction t with
        | zero => simp [sumF]
        | succ t ih => intro ht; have := ih (by omega); have := h t (by omega); simp only [sumF]; omega
      exact this k (Nat.le_refl _)
    have h1 := h k (by omega)
    simp only [sumF] at he
    intro i hi
    by_cases e : i = k
    · subst e; omega
    · exact all_one (k := k) (fun i hi => h i (by omega)) (by omega) i (by omega)

theorem pm_good {p : List Int} (h : isPerm p) : good (pm p) := by
  obtain ⟨h1, h2, h3, h4⟩ := h
  have hrow : rowsOk (pm p) := by
    intro i hi
    rw [pm_len] at hi
    have hl : (gr (pm p) i).length = p.length := tab_row hi
    refine ⟨fun k hk => ?_, ?_⟩
    · rw [hl] at hk
      rw [pm_rowsum hi hk]
      split <;> omega
    · rw [hl, pm_rowsum hi (Nat.le_refl _), if_pos]
      have := h3 i hi
      omega
  have hcol : ∀ j, j < p.length → sumK (gr (tr (pm p)) j) p.length = 1 := by
    refine all_one (f := fun j => sumK (gr (tr (pm p)) j) p.length) (fun j hj => (pm_colsum hj (Nat.le_refl _) h4).2.1) ?_
    have e1 := S2_cols (m := pm p) (a := p.length) (b := p.length) (by rw [pm_len]; exact Nat.le_refl _) (by rw [pm_len]; exact Nat.le_refl _)
    rw [← e1]
    show sumF (fun i => sumF (fun j => gi (gr (pm p) i) j) p.length) p.length = p.length
    rw [sumF_congr (g := fun _ => 1) (fun i hi => by
      have := (hrow i (by rw [pm_len]; exact hi)).2
      rw [show (gr (pm p) i).length = p.length from tab_row hi, sumK_sumF] at this
      exact this)]
    have : ∀ k : Nat, sumF (fun _ => (1 : Int)) k = k := by
      intro k
      induction k with
      | zero => rfl
      | succ k ih => simp only [sumF]; omega
    exact this _
  refine ⟨pm_square h1 h2, hrow, fun j hj => ?_⟩
  rw [tr_len, pm_len] at hj
  have hl : (gr (tr (pm p)) j).length = p.length := by rw [tr_row (by rw [pm_len]; exact hj), pm_len]
  refine ⟨fun k hk => ?_, by rw [hl]; exact hcol j hj⟩
  rw [hl] at hk
  have := pm_colsum hj hk h4
  omega

theorem perm_of_good {p : List Int} (hin : allIn p 0 (p.length - 1)) (hg : good (pm p)) : isPerm p := by
  have h1 := hg.1.1
  have h2 := hg.1.2.1
  rw [pm_len] at h1 h2
  refine ⟨h1, h2, hin, fun i i' hii hi' he => ?_⟩
  have hp := hin i' hi'
  obtain ⟨j, hj⟩ := Int.eq_ofNat_of_zero_le hp.1
  have hjl : j < p.length := by omega
  have hc := hg.2.2 j (by rw [tr_len, pm_len]; exact hjl)
  have hl : (gr (tr (pm p)) j).length = p.length := by rw [tr_row (by rw [pm_len]; exact hjl), pm_len]
  have g1 : gi (gr (tr (pm p)) j) i = 1 := by rw [gi_tr (by rw [pm_len]; exact hjl) (by rw [pm_len]; omega), gi_pm (by omega) hjl, if_pos (by rw [he]; exact hj)]
  have g2 : gi (gr (tr (pm p)) j) i' = 1 := by rw [gi_tr (by rw [pm_len]; exact hjl) (by rw [pm_len]; omega), gi_pm (by omega) hjl, if_pos hj]
  have pos : ∀ k, k < p.length → 0 ≤ gi (gr (tr (pm p)) j) k := fun k hk => by
    rw [gi_tr (by rw [pm_len]; exact hjl) (by rw [pm_len]; omega), gi_pm hk hjl]
    split <;> omega
  have mono : ∀ a b, a ≤ b → b ≤ p.length → sumK (gr (tr (pm p)) j) a ≤ sumK (gr (tr (pm p)) j) b := by
    intro a b hab
    induction b with
    | zero => intro _; obtain rfl : a = 0 := by omega
              exact Int.le_refl _
    | succ b ih =>
      intro hb
      by_cases e : a = b + 1
      · subst e; exact Int.le_refl _
      · have := ih (by omega) (by omega)
        have := pos b (by omega)
        simp only [sumK]
        omega
  have a1 := (hc.1 i (by omega)).1
  have a2 := (hc.1 (i' + 1) (by omega)).2
  have a3 := mono (i + 1) i' (by omega) (by omega)
  simp only [sumK] at a2 a3
  omega

/-- the numbers are told apart as far as k -/
def has (xs : List Int) (x : Int) : Prop := ∃ j, j < xs.length ∧ gi xs j = x

theorem pm_small {p : List Int} (h : isPerm p) : Small (pm p) := (pm_good h).1.small
end Go.Proofs.YtgdijjfipicodaaDoor

namespace Go.Proofs.YtgdijjfipicodaaDoor
open Go.RowKit

def q4 (m : List (List Int)) (i k j t : Nat) : Int := sumF (fun l => gi (gr m i) j * gi (gr m k) l) t
def q3 (m : List (List Int)) (i k t : Nat) : Int := sumF (fun j => q4 m i k j j) t
def q2 (m : List (List Int)) (i t : Nat) : Int := sumF (fun k => q3 m i (i + 1 + k) m.length) t
def q1 (m : List (List Int)) (t : Nat) : Int := sumF (fun i => q2 m i (m.length - (i + 1))) t
def inv (m : List (List Int)) : Int := q1 m m.length

theorem unit_mul {x y : Int} {B : Int} (hx : -1 ≤ x ∧ x ≤ 1) (hy : -B ≤ y ∧ y ≤ B) : -B ≤ x * y ∧ x * y ≤ B := by
  have : x = -1 ∨ x = 0 ∨ x = 1 := by omega
  rcases this with rfl | rfl | rfl
  · rw [Int.neg_one_mul]; omega
  · rw [Int.zero_mul]; omega
  · rw [Int.one_mul]; exact hy

theorem q4_b {m : List (List Int)} (h : good m) {i k j t : Nat} (hi : i < m.length) (hk : k < m.length) (hj : j < m.length) (ht : t ≤ m.length) : -6 ≤ q4 m i k j t ∧ q4 m i k j t ≤ 6 := by
  have hn := h.1.2.1
  have := sumF_bound (f := fun l => gi (gr m i) j * gi (gr m k) l) (B := 1) (k := t) (fun l hl => unit_mul (good_entry h hi hj) (good_entry h hk (by omega)))
  unfold q4
  omega
theorem q3_b {m : List (List Int)} (h : good m) {i k t : Nat} (hi : i < m.length) (hk : k < m.length) (ht : t ≤ m.length) : -36 ≤ q3 m i k t ∧ q3 m i k t ≤ 36 := by
  have hn := h.1.2.1
  have := sumF_bound (f := fun j => q4 m i k j j) (B := 6) (k := t) (fun j hj => q4_b h hi hk (by omega) (by omega))
  unfold q3
  omega
theorem q2_b {m : List (List Int)} (h : good m) {i t : Nat} (hi : i < m.length) (ht : i + 1 + t ≤ m.length) : -216 ≤ q2 m i t ∧ q2 m i t ≤ 216 := by
  have hn := h.1.2.1
  have := sumF_bound (f := fun k => q3 m i (i + 1 + k) m.length) (B := 36) (k := t) (fun k hk => q3_b h hi (by omega) (Nat.le_refl _))
  unfold q2
  omega
theorem q1_b {m : List (List Int)} (h : good m) {t : Nat} (ht : t ≤ m.length) : -1296 ≤ q1 m t ∧ q1 m t ≤ 1296 := by
  have hn := h.1.2.1
  have := sumF_bound (f := fun i => q2 m i (m.length - (i + 1))) (B := 216) (k := t) (fun i hi => q2_b h (by omega) (by omega))
  unfold q1
  omega

theorem sumF_mul (c : Int) (f : Nat → Int) (k : Nat) : sumF (fun i => c * f i) k = c * sumF f k := by
  induction k with
  | zero => simp [sumF]
  | succ k ih => simp only [sumF]; rw [ih, Int.mul_add]
theorem sumF_swap (f : Nat → Nat → Int) (p q : Nat) : sumF (fun a => sumF (fun b => f a b) q) p = sumF (fun b => sumF (fun a => f a b) p) q := by
  induction p with
  | zero => show (0 : Int) = sumF (fun _ => 0) q; rw [sumF_zero]
  | succ p ih => show sumF (fun a => sumF (fun b => f a b) q) p + sumF (fun b => f p b) q = _; rw [ih, ← sumF_add]; rfl

/-- the program's sums -/
def u2 (m : List (List Int)) (i t : Nat) : Int := sumF (fun j => gi (gr m i) j * bsum (m.drop (i + 1)) j) t
def u1 (m : List (List Int)) (t : Nat) : Int := sumF (fun i => u2 m i m.length) t

theorem u2_q2 {m : List (List Int)} {i : Nat} : u2 m i m.length = q2 m i (m.length - (i + 1)) := by
  unfold u2 q2 q3 q4
  rw [sumF_swap]
  refine sumF_congr fun j _ => ?_
  rw [show sumF (fun a => sumF (fun l => gi (gr m i) j * gi (gr m (i + 1 + a)) l) j) (m.length - (i + 1)) = sumF (fun a => gi (gr m i) j * sumF (fun l => gi (gr m (i + 1 + a)) l) j) (m.length - (i + 1)) from
    sumF_congr fun a _ => sumF_mul _ _ _, sumF_mul]
  congr 1
  unfold bsum
  rw [List.length_drop]
  exact sumF_congr fun a _ => by rw [gr_drop]
theorem u1_inv (m : List (List Int)) : u1 m m.length = inv m := sumF_congr fun _ _ => u2_q2

theorem bs_b {m : List (List Int)} (h : good m) {i j : Nat} (hj : j ≤ m.length) : -36 ≤ bsum (m.drop i) j ∧ bsum (m.drop i) j ≤ 36 := block_bound ((h.tame hj).drop i) (Nat.le_refl _)
theorem u2_b {m : List (List Int)} (h : good m) {i t : Nat} (hi : i < m.length) (ht : t ≤ m.length) : -216 ≤ u2 m i t ∧ u2 m i t ≤ 216 := by
  have hn := h.1.2.1
  have := sumF_bound (f := fun j => gi (gr m i) j * bsum (m.drop (i + 1)) j) (B := 36) (k := t) (fun j hj => unit_mul (good_entry h hi (by omega)) (bs_b h (by omega)))
  unfold u2
  omega
theorem u1_b {m : List (List Int)} (h : good m) {t : Nat} (ht : t ≤ m.length) : -1296 ≤ u1 m t ∧ u1 m t ≤ 1296 := by
  have hn := h.1.2.1
  have := sumF_bound (f := fun i => u2 m i m.length) (B := 216) (k := t) (fun i hi => u2_b h (by omega) (Nat.le_refl _))
  unfold u1
  omega

end Go.Proofs.YtgdijjfipicodaaDoor

namespace Go.Proofs.YtgdijjfipicodaaDoor
open Go.RowKit

theorem row_get {xs : List Int} {j : Nat} (h : j < xs.length) : (xs.map (Value.int .i64))[j]? = some (.int .i64 (gi xs j)) := by simp [gi, List.getD, h]

/-- integers copied into a row of an owned grid, from place off on -/
theorem wpList_copy_grid {w : World} {ops : Array Oper} {rest : List Oper} {o : Oper} {a : Act} {QQ : Exit → Act → World → Prop} (hgd : o.guard = none) (d s : Operand)
    (ho : o.op = .call { callee := .builtin .copy, args := #[d, s], argTypes := #[42, 42] }) {B n c : Nat} {v : Value} {f : Nat → Nat → Int} {vs : List Value} (hown : OwnP w B v n (tab n c f) n vs)
    (i off : Nat) (hi : i < n) (xs : List Int) (hfit : off + xs.length ≤ c) (g cap : Nat) (hvs : vs.getD i undef = .slice (some ⟨g, 0, none⟩) c cap) (dLen dCap sCap b2 o2 : Nat)
    (hd : a.eval d = .slice (some ⟨g, off, none⟩) dLen dCap) (hmin : xs.length ≤ dLen) (hs : a.eval s = .slice (some ⟨b2, o2, none⟩) xs.length sCap) (hx : IntsAt w (some ⟨b2, o2, none⟩) xs)
    (h : ∀ w', OwnP w' B v n (tab n c fun a b => if a = i ∧ off ≤ b ∧ b < off + xs.length then gi xs (b - off) else f a b) n vs → Below B w w' → wpList Tryd.prog ops QQ rest (a.put o.dst (goInt xs.length)) w') :
    wpList Tryd.prog ops QQ (o :: rest) a w := by
  have hrow := hown.rows i hi
  have hrow0 := hrow
  rw [hvs] at hrow
  have hB : B ≤ g := (hrow0.lt g (by rw [hvs]; rfl)).1
  rcases hrow.2 with ⟨h0, _⟩ | ⟨g', cap', cur, hv2, _, hh, hnc, hcm, hcs, htk⟩
  · simp at h0
  simp only [Value.slice.injEq, Option.some.injEq, Addr.mk.injEq, and_true] at hv2
  obtain ⟨rfl, hrl, rfl⟩ := hv2
  have hlen : (gr (tab n c f) i).length = c := tab_row hi
  rw [hlen] at hnc htk
  simp only [Nat.mul_one] at hcs htk
  refine wpList_copy_own hgd d s 42 42 ho 3 Tryd.underlying42 (by kernel_rfl) g off dLen dCap ⟨b2, o2, none⟩ xs.length sCap hd hs cur 3 hh (xs.map (Value.int .i64)) (by rw [List.length_map]; exact (Nat.min_eq_left hmin).symm) ?_ (by rw [List.length_map]; omega) ?_ ?_
  · intro j u hu
    rw [List.getElem?_map] at hu
    cases hj : xs[j]? with
    | none => rw [hj] at hu; cases hu
    | some x =>
      rw [hj] at hu
      have hjl : j < xs.length := (List.getElem?_eq_some_iff.1 hj).1
      obtain ⟨b, o', e, hc⟩ := hx j hjl
      simp only [Option.some.injEq, Addr.mk.injEq, and_true] at e
      obtain ⟨rfl, rfl⟩ := e
      rw [Addr.add_lit, hc, ← hu]
      simp [gi, List.getD, hj]
  · intro u hu
    obtain ⟨_, _, rfl⟩ := List.mem_map.1 hu
    rfl
  have hgo : (goInt (xs.map (Value.int .i64)).length) = goInt xs.length := by rw [List.length_map]
  rw [hgo]
  have hb : Below B w (w.setRow g (cur.toList.take off ++ (xs.map (Value.int .i64) ++ cur.toList.drop (off + (xs.map (Value.int .i64)).length))).toArray) := below_setRow (Below.refl _ _) hB _
  refine h _ ⟨?_, fun a' ha => ?_, hown.apart⟩ hb
  · refine ⟨hown.top.1, ?_⟩
    rcases hown.top.2 with h0 | ⟨g', cap', cur', hv2, hg2, hh2, r⟩
    · exact .inl h0
    · refine .inr ⟨g', cap', cur', hv2, hg2, ?_, r⟩
      rw [setRow_other w g g' _ (fun e => hrow.ne_row hown.top g rfl (by rw [hv2, e]; rfl))]
      exact hh2
  · by_cases e : a' = i
    · subst e
      have hl2 : (gr (tab n c fun a b => if a = a' ∧ off ≤ b ∧ b < off + xs.length then gi xs (b - off) else f a b) a').length = c := tab_row ha
      rw [hvs]
      refine ⟨by simp, .inr ⟨g, cap, _, by rw [hl2], hB, setRow_heap w g _ _ 3 _ hh, by rw [hl2]; exact hnc, hcm, ?_, ?_⟩⟩
      · simp only [List.size_toArray, List.length_append, List.length_take, List.length_map, List.length_drop, Array.length_toList]
        omega
      · rw [hl2, Nat.mul_one]
        refine List.ext_getElem? fun j => ?_
        rw [List.getElem?_take]
        by_cases hj : j < c
        · rw [if_pos hj, row_get (xs := gr (tab n c fun a b => if a = a' ∧ off ≤ b ∧ b < off + xs.length then gi xs (b - off) else f a b) a') (by rw [hl2]; exact hj), gi_tab ha hj]
          have hcurj : ∀ t, t < c → cur.toList[t]? = some (.int .i64 (f a' t)) := by
            intro t ht
            have h1 : (cur.toList.take c)[t]? = ((gr (tab n c f) a').map (Value.int .i64))[t]? := by rw [htk]
            rw [List.getElem?_take, if_pos ht, row_get (by rw [hlen]; exact ht), gi_tab ha ht] at h1
            exact h1
          by_cases h1 : j < off
          · rw [List.getElem?_append_left (by rw [List.length_take, Array.length_toList]; omega), List.getElem?_take, if_pos h1, hcurj j hj, if_neg (fun h => by omega)]
          · have hlt : (cur.toList.take off).length = off := by rw [List.length_take, Array.length_toList]; omega
            rw [List.getElem?_append_right (by omega), hlt]
            by_cases h2 : j < off + xs.length
            · rw [List.getElem?_append_left (by rw [List.length_map]; omega), row_get (by omega), if_pos ⟨rfl, by omega, h2⟩]
            · rw [List.getElem?_append_right (by rw [List.length_map]; omega), List.getElem?_drop, List.length_map, show off + xs.length + (j - off - xs.length) = j from by omega, hcurj j hj, if_neg (fun h => by omega)]
        · rw [if_neg hj, List.getElem?_eq_none (by rw [List.length_map, hl2]; omega)]
    · have hr := hown.rows a' ha
      have e2 : gr (tab n c fun a b => if a = i ∧ off ≤ b ∧ b < off + xs.length then gi xs (b - off) else f a b) a' = gr (tab n c f) a' := by
        refine ext_gi (by rw [tab_row ha, tab_row ha]) fun b hb => ?_
        rw [tab_row ha] at hb
        rw [gi_tab ha hb, gi_tab ha hb, if_neg (fun h => e h.1)]
      rw [e2]
      refine ⟨hr.1, ?_⟩
      rcases hr.2 with h0 | ⟨g', cap', cur', hv2, hg2, hh2, r⟩
      · exact .inl h0
      · refine .inr ⟨g', cap', cur', hv2, hg2, ?_, r⟩
        rw [setRow_other w g g' _ (fun e3 => ?_)]
        · exact hh2
        · subst e3
          rcases Nat.lt_or_gt_of_ne e with hlt | hlt
          · exact hown.apart a' i hlt hi g' (by rw [hv2]; rfl) (by rw [hvs]; rfl)
          · exact hown.apart i a' hlt ha g' (by rw [hvs]; rfl) (by rw [hv2]; rfl)


/-- integers copied into a row of an owned grid, from place off on; what is copied from may be longer -/
theorem wpList_copy_grid2 {w : World} {ops : Array Oper} {rest : List Oper} {o : Oper} {a : Act} {QQ : Exit → Act → World → Prop} (hgd : o.guard = none) (d s : Operand)
    (ho : o.op = .call { callee := .builtin .copy, args := #[d, s], argTypes := #[42, 42] }) {B n c : Nat} {v : Value} {f : Nat → Nat → Int} {vs : List Value} (hown : OwnP w B v n (tab n c f) n vs)
    (i off : Nat) (hi : i < n) (xs : List Int) (hfit : off + xs.length ≤ c) (g cap : Nat) (hvs : vs.getD i undef = .slice (some ⟨g, 0, none⟩) c cap) (dLen dCap sLen sCap b2 o2 : Nat)
    (hd : a.eval d = .slice (some ⟨g, off, none⟩) dLen dCap) (hmin : xs.length = Nat.min sLen dLen) (hs : a.eval s = .slice (some ⟨b2, o2, none⟩) sLen sCap) (hx : IntsAt w (some ⟨b2, o2, none⟩) xs)
    (h : ∀ w', OwnP w' B v n (tab n c fun a b => if a = i ∧ off ≤ b ∧ b < off + xs.length then gi xs (b - off) else f a b) n vs → Below B w w' → wpList Tryd.prog ops QQ rest (a.put o.dst (goInt xs.length)) w') :
    wpList Tryd.prog ops QQ (o :: rest) a w := by
  have hrow := hown.rows i hi
  have hrow0 := hrow
  rw [hvs] at hrow
  have hB : B ≤ g := (hrow0.lt g (by rw [hvs]; rfl)).1
  rcases hrow.2 with ⟨h0, _⟩ | ⟨g', cap', cur, hv2, _, hh, hnc, hcm, hcs, htk⟩
  · simp at h0
  simp only [Value.slice.injEq, Option.some.injEq, Addr.mk.injEq, and_true] at hv2
  obtain ⟨rfl, hrl, rfl⟩ := hv2
  have hlen : (gr (tab n c f) i).length = c := tab_row hi
  rw [hlen] at hnc htk
  simp only [Nat.mul_one] at hcs htk
  refine wpList_copy_own hgd d s 42 42 ho 3 Tryd.underlying42 (by kernel_rfl) g off dLen dCap ⟨b2, o2, none⟩ sLen sCap hd hs cur 3 hh (xs.map (Value.int .i64)) (by rw [List.length_map]; exact hmin) ?_ (by rw [List.length_map]; omega) ?_ ?_
  · intro j u hu
    rw [List.getElem?_map] at hu
    cases hj : xs[j]? with
    | none => rw [hj] at hu; cases hu
    | some x =>
      rw [hj] at hu
      have hjl : j < xs.length := (List.getElem?_eq_some_iff.1 hj).1
      obtain ⟨b, o', e, hc⟩ := hx j hjl
      simp only [Option.some.injEq, Addr.mk.injEq, and_true] at e
      obtain ⟨rfl, rfl⟩ := e
      rw [Addr.add_lit, hc, ← hu]
      simp [gi, List.getD, hj]
  · intro u hu
    obtain ⟨_, _, rfl⟩ := List.mem_map.1 hu
    rfl
  have hgo : (goInt (xs.map (Value.int .i64)).length) = goInt xs.length := by rw [List.length_map]
  rw [hgo]
  have hb : Below B w (w.setRow g (cur.toList.take off ++ (xs.map (Value.int .i64) ++ cur.toList.drop (off + (xs.map (Value.int .i64)).length))).toArray) := below_setRow (Below.refl _ _) hB _
  refine h _ ⟨?_, fun a' ha => ?_, hown.apart⟩ hb
  · refine ⟨hown.top.1, ?_⟩
    rcases hown.top.2 with h0 | ⟨g', cap', cur', hv2, hg2, hh2, r⟩
    · exact .inl h0
    · refine .inr ⟨g', cap', cur', hv2, hg2, ?_, r⟩
      rw [setRow_other w g g' _ (fun e => hrow.ne_row hown.top g rfl (by rw [hv2, e]; rfl))]
      exact hh2
  · by_cases e : a' = i
    · subst e
      have hl2 : (gr (tab n c fun a b => if a = a' ∧ off ≤ b ∧ b < off + xs.length then gi xs (b - off) else f a b) a').length = c := tab_row ha
      rw [hvs]
      refine ⟨by simp, .inr ⟨g, cap, _, by rw [hl2], hB, setRow_heap w g _ _ 3 _ hh, by rw [hl2]; exact hnc, hcm, ?_, ?_⟩⟩
      · simp only [List.size_toArray, List.length_append, List.length_take, List.length_map, List.length_drop, Array.length_toList]
        omega
      · rw [hl2, Nat.mul_one]
        refine List.ext_getElem? fun j => ?_
        rw [List.getElem?_take]
        by_cases hj : j < c
        · rw [if_pos hj, row_get (xs := gr (tab n c fun a b => if a = a' ∧ off ≤ b ∧ b < off + xs.length then gi xs (b - off) else f a b) a') (by rw [hl2]; exact hj), gi_tab ha hj]
          have hcurj : ∀ t, t < c → cur.toList[t]? = some (.int .i64 (f a' t)) := by
            intro t ht
            have h1 : (cur.toList.take c)[t]? = ((gr (tab n c f) a').map (Value.int .i64))[t]? := by rw [htk]
            rw [List.getElem?_take, if_pos ht, row_get (by rw [hlen]; exact ht), gi_tab ha ht] at h1
            exact h1
          by_cases h1 : j < off
          · rw [List.getElem?_append_left (by rw [List.length_take, Array.length_toList]; omega), List.getElem?_take, if_pos h1, hcurj j hj, if_neg (fun h => by omega)]
          · have hlt : (cur.toList.take off).length = off := by rw [List.length_take, Array.length_toList]; omega
            rw [List.getElem?_append_right (by omega), hlt]
            by_cases h2 : j < off + xs.length
            · rw [List.getElem?_append_left (by rw [List.length_map]; omega), row_get (by omega), if_pos ⟨rfl, by omega, h2⟩]
            · rw [List.getElem?_append_right (by rw [List.length_map]; omega), List.getElem?_drop, List.length_map, show off + xs.length + (j - off - xs.length) = j from by omega, hcurj j hj, if_neg (fun h => by omega)]
        · rw [if_neg hj, List.getElem?_eq_none (by rw [List.length_map, hl2]; omega)]
    · have hr := hown.rows a' ha
      have e2 : gr (tab n c fun a b => if a = i ∧ off ≤ b ∧ b < off + xs.length then gi xs (b - off) else f a b) a' = gr (tab n c f) a' := by
        refine ext_gi (by rw [tab_row ha, tab_row ha]) fun b hb => ?_
        rw [tab_row ha] at hb
        rw [gi_tab ha hb, gi_tab ha hb, if_neg (fun h => e h.1)]
      rw [e2]
      refine ⟨hr.1, ?_⟩
      rcases hr.2 with h0 | ⟨g', cap', cur', hv2, hg2, hh2, r⟩
      · exact .inl h0
      · refine .inr ⟨g', cap', cur', hv2, hg2, ?_, r⟩
        rw [setRow_other w g g' _ (fun e3 => ?_)]
        · exact hh2
        · subst e3
          rcases Nat.lt_or_gt_of_ne e with hlt | hlt
          · exact hown.apart a' i hlt hi g' (by rw [hv2]; rfl) (by rw [hvs]; rfl)
          · exact hown.apart i a' hlt ha g' (by rw [hvs]; rfl) (by rw [hv2]; rfl)

end Go.Proofs.YtgdijjfipicodaaDoor

namespace Go.Proofs.YtgdijjfipicodaaDoor
open Go.RowKit

/-- one matrix in the first rows and columns, another in the last ones, 0 elsewhere -/
def stF (m k : List (List Int)) (i j : Nat) : Int :=
  if i < m.length then (if j < m.length then gi (gr m i) j else 0) else if m.length ≤ j then gi (gr k (i - m.length)) (j - m.length) else 0
def st (m k : List (List Int)) : List (List Int) := tab (m.length + k.length) (m.length + k.length) (stF m k)
theorem st_len (m k : List (List Int)) : (st m k).length = m.length + k.length := tab_len _ _ _
def stackable (m k : List (List Int)) : Prop := good m ∧ good k ∧ m.length + k.length ≤ 6
theorem st_small {m k : List (List Int)} (h : stackable m k) : Small (st m k) := ⟨by rw [st_len]; have := h.2.2; omega, fun i hi => by rw [st_len] at hi; unfold st; rw [tab_row hi]; have := h.2.2; omega⟩

end Go.Proofs.YtgdijjfipicodaaDoor

