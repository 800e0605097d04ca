/- Parts of proofs: contracts and plain facts. Conditions: as each says. -/
import Derived.Test.YtgdijjfipicodaaDoorK09
import Derived.Deep.Cut
import Derived.Laws.AppendOwnNone
import Derived.Lib.AppendZeros
import Derived.Laws.OwnMore
import Derived.Maps.AppendAt
namespace Go.Proofs.YtgdijjfipicodaaDoor

/-- the sum over the numbers of a row, of what f tells of a place and a number; over some rows -/
def sumR (f : Nat → Int → Int) (row : List Int) : Int := sumF (fun i => f i (gi row i)) row.length
def sumT (f : Nat → Int → Int) (rows : List (List Int)) (k : Nat) : Int := sumF (fun j => sumR f (gr rows j)) k

def fOne (_ : Nat) (_ : Int) : Int := 1
def fSpec (i : Nat) (x : Int) : Int := if x ≤ i then 1 else 0
def fEq (n : Int) (_ : Nat) (x : Int) : Int := if x = n then 1 else 0
def fId (_ : Nat) (x : Int) : Int := x

theorem sumR_one (row : List Int) : sumR fOne row = row.length := by
  unfold sumR fOne
  generalize row.length = n
  induction n with
  | zero => rfl
  | succ n ih => simp only [sumF]; rw [ih]; omega

theorem gi_app_left {a b : List Int} {i : Nat} (h : i < a.length) : gi (a ++ b) i = gi a i := by simp [gi, List.getD, List.getElem?_append_left h]
theorem gi_app_right {a b : List Int} {i : Nat} : gi (a ++ b) (a.length + i) = gi b i := by simp [gi, List.getD, List.getElem?_append_right]
theorem sumF_app (F : Nat → Int) (a b : Nat) : sumF F (a + b) = sumF F a + sumF (fun i => F (a + i)) b := by
  induction b with
  | zero => simp [sumF]
  | succ b ih => rw [← Nat.add_assoc]; simp only [sumF]; rw [ih]; omega

/-- numbers without their places: sums over rows put together -/
theorem sumR_app (f : Int → Int) (a b : List Int) : sumR (fun _ => f) (a ++ b) = sumR (fun _ => f) a + sumR (fun _ => f) b := by
  unfold sumR
  rw [List.length_append, sumF_app]
  congr 1
  · exact sumF_congr fun i hi => by rw [gi_app_left hi]
  · exact sumF_congr fun i hi => by rw [gi_app_right]
theorem take_flat {rows : List (List Int)} {k : Nat} (h : k < rows.length) : (rows.take (k + 1)).flatten = (rows.take k).flatten ++ gr rows k := by
  rw [List.take_succ_eq_append_getElem h, List.flatten_append, gr_lt h]
  simp
theorem sumR_flat (f : Int → Int) (rows : List (List Int)) : ∀ k, k ≤ rows.length → sumR (fun _ => f) (rows.take k).flatten = sumT (fun _ => f) rows k
  | 0, _ => by simp [sumR, sumT, sumF]
  | k + 1, h => by
    rw [take_flat (by omega), sumR_app, sumR_flat f rows k (by omega)]
    rfl
theorem sumR_flatten (f : Int → Int) (rows : List (List Int)) : sumR (fun _ => f) rows.flatten = sumT (fun _ => f) rows rows.length := by
  have := sumR_flat f rows rows.length (Nat.le_refl _)
  rwa [List.take_length] at this
theorem flat_len {rows : List (List Int)} {B : Nat} (h : ∀ i, i < rows.length → (gr rows i).length ≤ B) : ∀ k, k ≤ rows.length → (rows.take k).flatten.length ≤ k * B
  | 0, _ => by simp
  | k + 1, hk => by
    rw [take_flat (by omega), List.length_append, Nat.succ_mul]
    have := flat_len h k (by omega)
    have := h k (by omega)
    omega

/-- each number tells 0 to B -/
theorem sumR_part_bd {f : Nat → Int → Int} {row : List Int} {B : Int} (h : ∀ i, i < row.length → 0 ≤ f i (gi row i) ∧ f i (gi row i) ≤ B) : ∀ k, k ≤ row.length → 0 ≤ sumF (fun i => f i (gi row i)) k ∧ sumF (fun i => f i (gi row i)) k ≤ k * B
  | 0, _ => by simp [sumF]
  | k + 1, hk => by
    have ih := sumR_part_bd h k (by omega)
    have := h k (by omega)
    simp only [sumF]
    have e : ((k + 1 : Nat) : Int) * B = k * B + B := by rw [show ((k + 1 : Nat) : Int) = (k : Int) + 1 from by omega, Int.add_mul, Int.one_mul]
    omega
theorem sumT_bd {f : Nat → Int → Int} {rows : List (List Int)} {B : Int} (h : ∀ j, j < rows.length → 0 ≤ sumR f (gr rows j) ∧ sumR f (gr rows j) ≤ B) : ∀ k, k ≤ rows.length → 0 ≤ sumT f rows k ∧ sumT f rows k ≤ k * B
  | 0, _ => by simp [sumT, sumF]
  | k + 1, hk => by
    have ih := sumT_bd h k (by omega)
    have := h k (by omega)
    unfold sumT at ih ⊢
    simp only [sumF]
    have e : ((k + 1 : Nat) : Int) * B = k * B + B := by rw [show ((k + 1 : Nat) : Int) = (k : Int) + 1 from by omega, Int.add_mul, Int.one_mul]
    omega
theorem sumT_step (f : Nat → Int → Int) (rows : List (List Int)) (k : Nat) : sumT f rows (k + 1) = sumT f rows k + sumR f (gr rows k) := rfl

/-- what is told of the parts of partitions for 6 is 0 to 6 -/
def Tells (f : Nat → Int → Int) : Prop := ∀ i x, 1 ≤ x → x ≤ 6 → 0 ≤ f i x ∧ f i x ≤ 6
theorem tells_one : Tells fOne := fun _ _ _ _ => by unfold fOne; omega
theorem tells_spec : Tells fSpec := fun i x _ _ => by unfold fSpec; by_cases h : x ≤ (i : Int) <;> simp [h]
theorem tells_eq (n : Int) : Tells (fEq n) := fun i x _ _ => by unfold fEq; by_cases h : x = n <;> simp [h]
theorem tells_id : Tells fId := fun _ x _ _ => by unfold fId; omega
theorem DpGood.row_bd {f : Nat → Int → Int} (hf : Tells f) {rows : List (List Int)} (h : DpGood rows 6) {j : Nat} (hj : j < rows.length) : ∀ k, k ≤ (gr rows j).length → 0 ≤ sumF (fun i => f i (gi (gr rows j) i)) k ∧ sumF (fun i => f i (gi (gr rows j) i)) k ≤ 30 := by
  intro k hk
  have h1 := sumR_part_bd (f := f) (row := gr rows j) (B := 6) (fun i hi => hf i _ ((h.2 j hj).1.2.2.1 i hi).1 (by have := ((h.2 j hj).1.2.2.1 i hi).2; omega)) k hk
  have := (h.bounds (by omega)).2 j hj
  omega
theorem DpGood.sum_bd {f : Nat → Int → Int} (hf : Tells f) {rows : List (List Int)} (h : DpGood rows 6) : ∀ k, k ≤ rows.length → 0 ≤ sumT f rows k ∧ sumT f rows k ≤ 150 := by
  intro k hk
  have h1 := sumT_bd (f := f) (rows := rows) (B := 30) (fun j hj => h.row_bd hf hj _ (Nat.le_refl _)) k hk
  have := (h.bounds (by omega)).1
  omega
end Go.Proofs.YtgdijjfipicodaaDoor

namespace Go.Proofs.YtgdijjfipicodaaDoor
open Go.RowKit

theorem OwnP.drewN {w : World} {B n k : Nat} {v : Value} {m : List (List Int)} {vs : List Value} (h : OwnP w B v n m k vs) (q : Nat) : OwnP (w.drewN q) B v n m k vs := ⟨h.top, h.rows, h.apart⟩
theorem OwnP.drew {w : World} {B n k : Nat} {v : Value} {m : List (List Int)} {vs : List Value} (h : OwnP w B v n m k vs) : OwnP w.drew B v n m k vs := ⟨h.top, h.rows, h.apart⟩

theorem rowsum_bound {m : List (List Int)} (h : good m) {a b : Nat} (ha : a < m.length) (hb : b ≤ m.length) : -6 ≤ sumF (fun j => gi (gr m a) j) b ∧ sumF (fun j => gi (gr m a) j) b ≤ 6 :=
  row_bound (f := fun j => gi (gr m a) j) (n := m.length) h.1.2.1 (fun _ hj => good_entry h ha hj) hb

theorem cs_small {m : List (List Int)} (h : square m) : Small (cs m) := ⟨by rw [cs_len]; have := h.2.1; omega, fun i hi => by rw [cs_len] at hi; unfold cs; rw [tab_row hi]; have := h.2.1; omega⟩
end Go.Proofs.YtgdijjfipicodaaDoor

namespace Go.Proofs.YtgdijjfipicodaaDoor
open Go.RowKit

/-- a number of a table, 0 beside it -/
def atC (c : List (List Int)) (i j : Int) : Int := if i < 0 then 0 else if j < 0 then 0 else gi (gr c i.toNat) j.toNat
theorem atC_nat (c : List (List Int)) (i j : Nat) : atC c (i : Int) (j : Int) = gi (gr c i) j := by
  unfold atC
  rw [if_neg (by omega), if_neg (by omega), Int.toNat_natCast, Int.toNat_natCast]

theorem cellD {w : World} {a : Addr} {v : Value} (h : w.cell? a = some v) : ({ w with drawn := w.drawn + 1 } : World).cell? a = some v := h
theorem MatAt.drewD {w : World} {ao : Option Addr} {m : List (List Int)} (h : MatAt w ao m) : MatAt { w with drawn := w.drawn + 1 } ao m := h

/-- the numbers of a table are in 0..n -/
def inRange (c : List (List Int)) : Prop := ∀ i j, i < c.length → j < c.length → 0 ≤ gi (gr c i) j ∧ gi (gr c i) j ≤ c.length

/-- differences of corner sums -/
def df (c : List (List Int)) (i j : Nat) : Int := atC c i j - atC c ((i : Int) - 1) j - atC c i ((j : Int) - 1) + atC c ((i : Int) - 1) ((j : Int) - 1)
def dm (c : List (List Int)) : List (List Int) := tab c.length c.length (df c)
theorem dm_len (c : List (List Int)) : (dm c).length = c.length := tab_len _ _ _

theorem atC_range {c : List (List Int)} (h : inRange c) {i j : Int} (hi : -1 ≤ i ∧ i < c.length) (hj : -1 ≤ j ∧ j < c.length) : 0 ≤ atC c i j ∧ atC c i j ≤ c.length := by
  unfold atC
  split
  · omega
  · split
    · omega
    · exact h i.toNat j.toNat (by omega) (by omega)

theorem w64 {n : Int} (h : -9223372036854775808 ≤ n ∧ n ≤ 9223372036854775807) : IntKind.i64.wrap n = n := by
  exact IntWalk.i64_in n h

/-- .. or not far from it -/
def inWide (c : List (List Int)) : Prop := ∀ i j, i < c.length → j < c.length → -100 ≤ gi (gr c i) j ∧ gi (gr c i) j ≤ 100
theorem atC_wide {c : List (List Int)} (h : inWide c) {i j : Int} (hi : -1 ≤ i ∧ i < c.length) (hj : -1 ≤ j ∧ j < c.length) : -100 ≤ atC c i j ∧ atC c i j ≤ 100 := by
  unfold atC
  split
  · omega
  · split
    · omega
    · exact h i.toNat j.toNat (by omega) (by omega)

end Go.Proofs.YtgdijjfipicodaaDoor

namespace Go.Proofs.YtgdijjfipicodaaDoor
open Go.RowKit

/-- differences of corner sums, as int wraps them -/
def dfW (c : List (List Int)) (i j : Nat) : Int :=
  IntKind.i64.wrap (IntKind.i64.wrap (IntKind.i64.wrap (gi (gr c i) j - atC c ((i : Int) - 1) j) - atC c i ((j : Int) - 1)) + atC c ((i : Int) - 1) ((j : Int) - 1))
def dmW (c : List (List Int)) : List (List Int) := tab c.length c.length (dfW c)
theorem dmW_len (c : List (List Int)) : (dmW c).length = c.length := tab_len _ _ _

theorem sumF_add (f g : Nat → Int) (k : Nat) : sumF (fun i => f i + g i) k = sumF f k + sumF g k := by
  induction k with
  | zero => rfl
  | succ k ih => simp only [sumF]; omega
theorem sumF_zero (k : Nat) : sumF (fun _ => 0) k = 0 := by
  induction k with
  | zero => rfl
  | succ k ih => simp only [sumF]; omega
theorem S2_swap (m : List (List Int)) (a b : Nat) : S2 m a b = sumF (fun j => sumF (fun i => gi (gr m i) j) a) b := by
  induction a with
  | zero => show (0 : Int) = sumF (fun _ => 0) b; rw [sumF_zero]
  | succ a ih =>
    rw [S2_succ, ih, ← sumF_add]
    rfl
theorem sumK_sumF (xs : List Int) (k : Nat) : sumK xs k = sumF (fun i => gi xs i) k := by
  induction k with
  | zero => rfl
  | succ k ih => simp only [sumK, sumF]; rw [ih]
theorem S2_cols {m : List (List Int)} {a b : Nat} (ha : a ≤ m.length) (hb : b ≤ m.length) : S2 m a b = sumF (fun j => sumK (gr (tr m) j) a) b := by
  rw [S2_swap]
  refine sumF_congr fun j hj => ?_
  rw [sumK_sumF]
  exact sumF_congr fun i hi => (gi_tr (by omega) (by omega)).symm
theorem S2_range {m : List (List Int)} (h : good m) {a b : Nat} (ha : a ≤ m.length) (hb : b ≤ m.length) : 0 ≤ S2 m a b ∧ S2 m a b ≤ b := by
  rw [S2_cols ha hb]
  have : ∀ k, k ≤ b → 0 ≤ sumF (fun j => sumK (gr (tr m) j) a) k ∧ sumF (fun j => sumK (gr (tr m) j) a) k ≤ k := by
    intro k
    induction k with
    | zero => simp [sumF]
    | succ k ih =>
      intro hk
      have h1 := ih (by omega)
      have h2 := (h.2.2 k (by rw [tr_len]; omega)).1 a (by rw [tr_row (by omega)]; exact ha)
      simp only [sumF]
      omega
  exact this b (Nat.le_refl _)
theorem S2_step (m : List (List Int)) (i j : Nat) : S2 m (i + 1) (j + 1) = S2 m i (j + 1) + S2 m (i + 1) j - S2 m i j + gi (gr m i) j := by
  rw [S2_succ, S2_succ]
  simp only [sumF]
  omega
theorem S2_zero_col (m : List (List Int)) (a : Nat) : S2 m a 0 = 0 := by
  show sumF (fun _ => (0 : Int)) a = 0
  exact sumF_zero a

theorem wrap_eq (n : Int) : IntKind.i64.wrap n = (n + 9223372036854775808) % 18446744073709551616 - 9223372036854775808 := by
  rw [IntKind.wrap_i64]

theorem wrap_core {x A B C d : Int} (hx : -9223372036854775808 ≤ x ∧ x ≤ 9223372036854775807) (hA : -36 ≤ A ∧ A ≤ 36) (hB : -36 ≤ B ∧ B ≤ 36) (hC : -36 ≤ C ∧ C ≤ 36) (hd : -1 ≤ d ∧ d ≤ 1)
    (h : d = IntKind.i64.wrap (IntKind.i64.wrap (IntKind.i64.wrap (x - A) - B) + C)) : x = A + B - C + d := by
  rw [wrap_eq, wrap_eq, wrap_eq] at h
  omega

theorem dmW_sums {c : List (List Int)} (hsq : square c) (hwf : WfM c) (hg : good (dmW c)) : ∀ i, i < c.length → ∀ j, j < c.length → gi (gr c i) j = S2 (dmW c) (i + 1) (j + 1) := by
  intro i
  induction i with
  | zero =>
    intro h0 j
    induction j with
    | zero =>
      intro hj
      have hd := good_entry hg (i := 0) (j := 0) (by rw [dmW_len]; exact h0) (by rw [dmW_len]; exact hj)
      have e : gi (gr (dmW c) 0) 0 = dfW c 0 0 := gi_tab h0 hj
      have hx := hwf 0 h0 0 (by rw [hsq.2.2 0 h0]; exact hj)
      rw [S2_step, S2_zero_col, S2_zero_col]
      have := wrap_core hx (A := 0) (B := 0) (C := 0) (by omega) (by omega) (by omega) hd (by rw [e]; rfl)
      show _ = 0 + 0 - 0 + _
      omega
    | succ j ih =>
      intro hj
      have ih := ih (by omega)
      have hd := good_entry hg (i := 0) (j := j + 1) (by rw [dmW_len]; exact h0) (by rw [dmW_len]; exact hj)
      have e : gi (gr (dmW c) 0) (j + 1) = dfW c 0 (j + 1) := gi_tab h0 hj
      have hx := hwf 0 h0 (j + 1) (by rw [hsq.2.2 0 h0]; exact hj)
      have hb := S2_bound hg (a := 0 + 1) (b := j + 1) (by rw [dmW_len]; omega) (by rw [dmW_len]; omega)
      have eB : atC c ((0 : Nat) : Int) (((j + 1 : Nat) : Int) - 1) = S2 (dmW c) (0 + 1) (j + 1) := by
        rw [show (((j + 1 : Nat) : Int) - 1) = (j : Int) from by omega, atC_nat, ih]
      rw [S2_step]
      have := wrap_core hx (A := 0) (B := S2 (dmW c) (0 + 1) (j + 1)) (C := 0) (by omega) hb (by omega) hd (by rw [e, ← eB]; rfl)
      show _ = 0 + _ - 0 + _
      omega
  | succ i ihi =>
    intro hi j
    have ihi := ihi (by omega)
    induction j with
    | zero =>
      intro hj
      have hd := good_entry hg (i := i + 1) (j := 0) (by rw [dmW_len]; exact hi) (by rw [dmW_len]; exact hj)
      have e : gi (gr (dmW c) (i + 1)) 0 = dfW c (i + 1) 0 := gi_tab hi hj
      have hx := hwf (i + 1) hi 0 (by rw [hsq.2.2 (i + 1) hi]; exact hj)
      have hb := S2_bound hg (a := i + 1) (b := 0 + 1) (by rw [dmW_len]; omega) (by rw [dmW_len]; omega)
      have eA : atC c (((i + 1 : Nat) : Int) - 1) ((0 : Nat) : Int) = S2 (dmW c) (i + 1) (0 + 1) := by
        rw [show (((i + 1 : Nat) : Int) - 1) = (i : Int) from by omega, atC_nat, ihi 0 hj]
      have z1 : atC c ((i + 1 : Nat) : Int) (((0 : Nat) : Int) - 1) = 0 := by unfold atC; rw [if_neg (by omega), if_pos (by omega)]
      have z2 : atC c (((i + 1 : Nat) : Int) - 1) (((0 : Nat) : Int) - 1) = 0 := by unfold atC; rw [if_neg (by omega), if_pos (by omega)]
      rw [S2_step, S2_zero_col, S2_zero_col]
      have := wrap_core hx (A := S2 (dmW c) (i + 1) (0 + 1)) (B := 0) (C := 0) hb (by omega) (by omega) hd (by rw [e]; unfold dfW; rw [eA, z1, z2])
      omega
    | succ j ihj =>
      intro hj
      have ihj := ihj (by omega)
      have hd := good_entry hg (i := i + 1) (j := j + 1) (by rw [dmW_len]; exact hi) (by rw [dmW_len]; exact hj)
      have e : gi (gr (dmW c) (i + 1)) (j + 1) = dfW c (i + 1) (j + 1) := gi_tab hi hj
      have hx := hwf (i + 1) hi (j + 1) (by rw [hsq.2.2 (i + 1) hi]; exact hj)
      have b1 := S2_bound hg (a := i + 1) (b := j + 1 + 1) (by rw [dmW_len]; omega) (by rw [dmW_len]; omega)
      have b2 := S2_bound hg (a := i + 1 + 1) (b := j + 1) (by rw [dmW_len]; omega) (by rw [dmW_len]; omega)
      have b3 := S2_bound hg (a := i + 1) (b := j + 1) (by rw [dmW_len]; omega) (by rw [dmW_len]; omega)
      have eA : atC c (((i + 1 : Nat) : Int) - 1) ((j + 1 : Nat) : Int) = S2 (dmW c) (i + 1) (j + 1 + 1) := by
        rw [show (((i + 1 : Nat) : Int) - 1) = (i : Int) from by omega, atC_nat, ihi (j + 1) hj]
      have eB : atC c ((i + 1 : Nat) : Int) (((j + 1 : Nat) : Int) - 1) = S2 (dmW c) (i + 1 + 1) (j + 1) := by
        rw [show (((j + 1 : Nat) : Int) - 1) = (j : Int) from by omega, atC_nat, ihj]
      have eC : atC c (((i + 1 : Nat) : Int) - 1) (((j + 1 : Nat) : Int) - 1) = S2 (dmW c) (i + 1) (j + 1) := by
        rw [show (((i + 1 : Nat) : Int) - 1) = (i : Int) from by omega, show (((j + 1 : Nat) : Int) - 1) = (j : Int) from by omega, atC_nat, ihi j (by omega)]
      rw [S2_step]
      have := wrap_core hx b1 b2 b3 hd (by rw [e]; unfold dfW; rw [eA, eB, eC])
      omega

theorem dmW_dm {c : List (List Int)} (hsq : square c) (h : inRange c) : dmW c = dm c := by
  have hn := hsq.2.1
  refine eq_tab (dmW_len c) (fun i hi => tab_row hi) fun i j hi hj => ?_
  rw [show gi (gr (dmW c) i) j = dfW c i j from gi_tab hi hj]
  have h1 := atC_range h (i := i) (j := j) (by omega) (by omega)
  have h2 := atC_range h (i := (i : Int) - 1) (j := j) (by omega) (by omega)
  have h3 := atC_range h (i := i) (j := (j : Int) - 1) (by omega) (by omega)
  have h4 := atC_range h (i := (i : Int) - 1) (j := (j : Int) - 1) (by omega) (by omega)
  unfold dfW df
  rw [← atC_nat]
  rw [w64 (n := atC c i j - atC c ((i : Int) - 1) j) (by omega), w64 (n := atC c i j - atC c ((i : Int) - 1) j - atC c i ((j : Int) - 1)) (by omega), w64 (by omega)]

/-- corner sums of a sign matrix -/
def isCorners (c : List (List Int)) : Prop := square c ∧ inRange c ∧ good (dm c)
theorem corners_iff {c : List (List Int)} (hwf : WfM c) : square c ∧ good (dmW c) ↔ isCorners c := by
  constructor
  · rintro ⟨hsq, hg⟩
    have hr : inRange c := by
      intro i j hi hj
      rw [dmW_sums hsq hwf hg i hi j hj]
      have := S2_range hg (a := i + 1) (b := j + 1) (by rw [dmW_len]; omega) (by rw [dmW_len]; omega)
      omega
    exact ⟨hsq, hr, by rw [← dmW_dm hsq hr]; exact hg⟩
  · rintro ⟨hsq, hr, hg⟩
    exact ⟨hsq, by rw [dmW_dm hsq hr]; exact hg⟩

theorem wf_dmW {c : List (List Int)} : WfM (dmW c) := by
  intro i hi j hj
  rw [dmW_len] at hi
  have hj' : j < c.length := by have := tab_row (n := c.length) (c := c.length) (f := dfW c) hi; unfold dmW at hj; omega
  rw [show gi (gr (dmW c) i) j = dfW c i j from gi_tab hi hj']
  unfold dfW
  rw [wrap_eq (_ + _)]
  omega
theorem square_dmW {c : List (List Int)} (h : square c) : square (dmW c) := ⟨by rw [dmW_len]; exact h.1, by rw [dmW_len]; exact h.2.1, fun i hi => by rw [dmW_len] at hi ⊢; exact tab_row hi⟩

/-- all numbers lie between two bounds -/
def allIn (xs : List Int) (lo hi : Int) : Prop := ∀ i, i < xs.length → lo ≤ gi xs i ∧ gi xs i ≤ hi

set_option maxRecDepth 100000 in
set_option maxHeartbeats 800000 in
theorem l1All_any (ao : Option Addr) (c : Nat) (xs : List Int) (lo hi : Int) (w : World) (hn : xs.length ≤ 1048576) (hx : IntsAt w ao xs) :
    Calls Tryd.prog 92 #[.slice ao xs.length c, .int .i64 lo, .int .i64 hi] w fun e w' => Ans (allIn xs lo hi) e ∧ w = w' := by
  have hmx : xs.length ≤ 9223372036854775807 := by omega
  have Hx := Lib.hid hx
  clear hx
  go_enter Tryd.func92, Tryd.ntmps92
  go_wp2
  go_loop [11] (fun i => ∃ k : Nat, k ≤ xs.length ∧ i = .int .i64 k ∧ ∀ j, j < k → lo ≤ gi xs j ∧ gi xs j ≤ hi) (fun i => xs.length - (intOf i).toNat)
  case atStart => exact ⟨0, Nat.zero_le _, rfl, fun j hj => absurd hj (by omega)⟩
  case round =>
    obtain ⟨k, hk, rfl, hd⟩ := hrel
    have Hd := Lib.hid hd
    clear hd
    by_cases hlt : k < xs.length
    · obtain ⟨b1, o1, rfl, hc1⟩ := Hx.out k hlt
      go_wp2_with fail
      refine (l1In_any _ _ _ w).mono ?_
      rintro e w2 ⟨ha, rfl⟩
      by_cases hin : lo ≤ gi xs k ∧ gi xs k ≤ hi
      · have Hin := Lib.hid hin
        clear hin
        obtain rfl := ha.is Hin.out
        clear ha
        go_wp2
        go_round
        case rel =>
          refine ⟨k + 1, by omega, by go_num, fun j hj => ?_⟩
          by_cases e : j = k
          · subst e; exact Hin.out
          · exact Hd.out j (by omega)
        case measure => simp [intOf]; omega
      · have Hin := Lib.hid hin
        clear hin
        obtain rfl := ha.isnt Hin.out
        clear ha
        go_wp2
        go_ret
        exact ⟨Ans.no fun h => Hin.out (h k hlt), rfl⟩
    · obtain rfl : k = xs.length := by omega
      go_wp2
      go_ret
      exact ⟨Ans.yes Hd.out, rfl⟩

theorem dm_small {m : List (List Int)} (h : square m) : Small (dm m) := ⟨by rw [dm_len]; have := h.2.1; omega, fun i hi => by rw [dm_len] at hi; unfold dm; rw [tab_row hi]; have := h.2.1; omega⟩
end Go.Proofs.YtgdijjfipicodaaDoor

namespace Go.Proofs.YtgdijjfipicodaaDoor
open Go.RowKit

/-- appending a slice of integers, whatever its address, to one that the call owns -/
theorem wpList_appendI {w : World} {ops : Array Oper} {rest : List Oper} {o : Oper} {a : Act} {Q : Exit → Act → World → Prop} (hgd : o.guard = none) (s x : Operand)
    (ho : o.op = .call { callee := .builtin .append, args := #[s, x], argTypes := #[42, 42] })
    (base : Nat) (v : Value) (xs : List Int) (hs : a.eval s = v) (hown : OwnI w base v xs)
    (ao : Option Addr) (c : Nat) (ys : List Int) (hx : a.eval x = .slice ao ys.length c) (hc : ao = none → c = 0 ∧ ys = []) (hys : IntsAt w ao ys)
    (h63 : xs.length + ys.length ≤ 1048576) (hbase : base ≤ w.heap.size)
    (h : ∀ v' w', OwnI w' base v' (xs ++ ys) → w.grownBy w' v.ownBlock → Below base w w' → wpList Tryd.prog ops Q rest (a.put o.dst v') w') : wpList Tryd.prog ops Q (o :: rest) a w := by
  obtain ⟨i0, hi, hz0, hz1, hz2⟩ := info_parts Tryd.info_int
  cases ao with
  | none =>
    obtain ⟨rfl, rfl⟩ := hc rfl
    exact wpList_append_own_none hgd s x 42 ho base 3 i0 1 Tryd.underlying42 hi v xs.length _ hs hown hx (h v w (by rw [List.append_nil]; exact hown) (World.grownBy.refl _ _) (Below.refl _ _))
  | some ad =>
    refine wpList_append_own _ hgd s x 42 ho base 3 i0 (.int .i64 0) 1 8 Tryd.underlying42 hi hz0 hz1 hz2 rfl (by decide) v xs.length _ hs hown ad ys.length c (ys.map (Value.int .i64)) hx (by simp) ?_ (by intro u hu; obtain ⟨y, _, rfl⟩ := List.mem_map.1 hu; rfl) (by unfold maxLen; omega) (by omega) hbase ?_
    · intro j u hj
      have hjl : j < ys.length := by
        have := (List.getElem?_eq_some_iff.1 hj).1
        simpa using this
      obtain ⟨b, o', e, hcell⟩ := hys j hjl
      cases e
      have e : (ys.map (Value.int .i64))[j]? = some (Value.int .i64 (gi ys j)) := by simp [gi, List.getD, hjl]
      rw [e] at hj
      cases hj
      rw [Addr.add_lit]
      exact hcell
    · intro v' w' h1 h2 _
      refine h v' w' ?_ h2 (Below.grown (Below.refl _ _) h2 hbase (fun k hk => (World.ownsRow.lt hown k hk).1))
      unfold OwnI
      rw [List.length_append, List.map_append]
      exact h1

/-- rows that are empty and have no address have no room either -/
def NilRows (w : World) (ao : Option Addr) (rows : List (List Int)) : Prop := ∀ k b o r c, k < rows.length → ao = some ⟨b, o, none⟩ → w.cell? ⟨b, o + k, none⟩ = some (.slice r (gr rows k).length c) → r = none → c = 0 ∧ gr rows k = []
theorem nilRows_full {w : World} {ao : Option Addr} {rows : List (List Int)} (hm : MatAt w ao rows) (h : ∀ k, k < rows.length → 1 ≤ (gr rows k).length) : NilRows w ao rows := by
  intro k b o r c hk e hc hr
  obtain ⟨b1, o1, r1, d1, e1, hc1, hr1, _, _⟩ := hm k hk
  rw [e] at e1
  simp only [Option.some.injEq, Addr.mk.injEq, and_true] at e1
  obtain ⟨rfl, rfl⟩ := e1
  rw [hc1] at hc
  simp only [Option.some.injEq, Value.slice.injEq] at hc
  obtain ⟨b2, o2, e2, _⟩ := hr1 0 (h k hk)
  rw [hc.1, hr] at e2
  cases e2

def lenT (rows : List (List Int)) (k : Nat) : Nat := (rows.take k).flatten.length
theorem lenT_succ {rows : List (List Int)} {k : Nat} (h : k < rows.length) : lenT rows (k + 1) = lenT rows k + (gr rows k).length := by
  unfold lenT
  rw [take_flat h, List.length_append]
theorem lenT_mono {rows : List (List Int)} {k : Nat} (h : k ≤ rows.length) : lenT rows k ≤ rows.flatten.length := by
  unfold lenT
  have := List.take_append_drop k rows
  conv => rhs; rw [← this]
  rw [List.flatten_append, List.length_append]
  omega

end Go.Proofs.YtgdijjfipicodaaDoor

namespace Go.Proofs.YtgdijjfipicodaaDoor
open Go.RowKit

theorem OwnP.more {w : World} {B : Nat} {v : Value} {M : List (List Int)} {r : List Int} {vs : List Value} (h : OwnP w B v M.length M M.length vs) : OwnP w B v M.length (M ++ [r]) M.length vs :=
  ⟨h.top, fun i hi => by rw [gr_lt (by simp; omega), List.getElem_append_left hi, ← gr_lt hi]; exact h.rows i hi, h.apart⟩
theorem gr_last (M : List (List Int)) (r : List Int) : gr (M ++ [r]) M.length = r := by
  rw [gr_lt (by simp)]
  simp
end Go.Proofs.YtgdijjfipicodaaDoor

namespace Go.Proofs.YtgdijjfipicodaaDoor
open Go.RowKit

/-- the blocks from lo up to hi are as they were -/
def Same (lo hi : Nat) (w w' : World) : Prop := ∀ g, lo ≤ g → g < hi → w'.heap[g]? = w.heap[g]?
theorem Same.refl (lo hi : Nat) (w : World) : Same lo hi w w := fun _ _ _ => rfl
theorem Same.trans {lo hi : Nat} {a b c : World} (h : Same lo hi a b) (k : Same lo hi b c) : Same lo hi a c := fun g h1 h2 => (k g h1 h2).trans (h g h1 h2)
theorem Same.of_below {lo hi B : Nat} {w w' : World} (h : Below B w w') (hB : hi ≤ B) : Same lo hi w w' := fun g _ h2 => h.block g (by omega)
theorem Same.of_grown {lo hi : Nat} {w w' : World} {row : Option Nat} (h : w.grownBy w' row) (hs : hi ≤ w.heap.size) (hr : ∀ g, row = some g → g < lo ∨ hi ≤ g) : Same lo hi w w' :=
  fun g h1 h2 => h.block g (by omega) (fun e => by have := hr g e.symm; omega)
theorem ownsRow_same {w w' : World} {B : Nat} {e : TypeId} {v : Value} {n : Nat} {xs : List Value} (h : w.ownsRow B e 1 v n xs) (hs : Same B w.heap.size w w') : w'.ownsRow B e 1 v n xs := by
  refine ⟨h.1, ?_⟩
  rcases h.2 with h0 | ⟨g, cap, cur, rfl, hg, hh, r⟩
  · exact .inl h0
  · exact .inr ⟨g, cap, cur, rfl, hg, by rw [hs g hg (lt_of_block hh)]; exact hh, r⟩
theorem OwnP.same {w w' : World} {B n k : Nat} {v : Value} {m : List (List Int)} {vs : List Value} (h : OwnP w B v n m k vs) (hs : Same B w.heap.size w w') : OwnP w' B v n m k vs :=
  ⟨ownsRow_same h.top hs, fun i hi => ownsRow_same (h.rows i hi) hs, h.apart⟩
/-- a row of an owned table: where its slice lies, and that it is owned -/
theorem OwnP.rowAt {w : World} {B n c : Nat} {ao : Option Addr} {m : List (List Int)} {vs : List Value} (h : OwnP w B (.slice ao n c) n m n vs) {i : Nat} (hi : i < n) :
    ∃ b o r d, ao = some ⟨b, o, none⟩ ∧ w.cell? ⟨b, o + i, none⟩ = some (.slice r (gr m i).length d) ∧ vs.getD i undef = .slice r (gr m i).length d ∧ OwnI w B (.slice r (gr m i).length d) (gr m i) ∧ (gr m i).length ≤ d ∧ d ≤ 9223372036854775807 := by
  obtain ⟨ao', c', hv, _, _, hcells⟩ := ownsRow_read h.top
  obtain ⟨rfl, -, rfl⟩ := (Value.slice.injEq _ _ _ _ _ _).mp hv
  obtain ⟨b, o, e, hc⟩ := hcells i hi
  have hrow := h.rows i hi
  obtain ⟨r, d, hr, h1, h2, _⟩ := hrow.read
  rw [hr] at hc hrow
  exact ⟨b, o, r, d, e, hc, hr, hrow, h1, h2⟩
theorem OwnI.same_at {w w' : World} {B n c : Nat} {ao : Option Addr} {xs : List Int} (h : OwnI w B (.slice ao n c) xs) (hs : Same B w.heap.size w w') : IntsAt w' ao xs := own_at (ownsRow_same h hs)
end Go.Proofs.YtgdijjfipicodaaDoor

namespace Go.Proofs.YtgdijjfipicodaaDoor
open Go.RowKit

theorem gr_appl {m k : List (List Int)} {i : Nat} (h : i < m.length) : gr (m ++ k) i = gr m i := by
  rw [gr_lt (by simp; omega), gr_lt h, List.getElem_append_left h]
theorem gr_appr {m k : List (List Int)} {i : Nat} (h : i < k.length) : gr (m ++ k) (m.length + i) = gr k i := by
  rw [gr_lt (by simp; omega), gr_lt h, List.getElem_append_right (by omega)]
  simp

/-- a table that a call owns, its rows apart -/
def OwnT (w : World) (B : Nat) (v : Value) (m : List (List Int)) (vs : List Value) : Prop := OwnP w B v m.length m m.length vs
theorem OwnT.below {w w' : World} {B : Nat} {v : Value} {m : List (List Int)} {vs : List Value} (h : OwnT w B v m vs) (hb : Below w.heap.size w w') : OwnT w' B v m vs := OwnP.below h hb
theorem OwnT.base {w : World} {B B' : Nat} {v : Value} {m : List (List Int)} {vs : List Value} (h : OwnT w B v m vs) (hB : B' ≤ B) : OwnT w B' v m vs := OwnP.base h hB
theorem OwnT.nil (w : World) (B : Nat) : OwnT w B (.slice none 0 0) [] [] := ⟨World.ownsRow_nil _ _ _ _, fun i hi => absurd hi (by simp), fun i j _ hj => absurd hj (by simp)⟩
theorem OwnT.toM {w : World} {B : Nat} {v : Value} {m : List (List Int)} {vs : List Value} (h : OwnT w B v m vs) : OwnM w B v m := ⟨vs, h⟩
theorem OwnT.read {w : World} {B : Nat} {v : Value} {m : List (List Int)} {vs : List Value} (h : OwnT w B v m vs) : ∃ ao c, v = .slice ao m.length c ∧ m.length ≤ c ∧ c ≤ 9223372036854775807 ∧ MatAt w ao m := h.toM.read
theorem OwnT.len {w : World} {B : Nat} {v : Value} {m : List (List Int)} {vs : List Value} (h : OwnT w B v m vs) : vs.length = m.length := by simpa using h.top.1
/-- the rows' blocks -/
theorem OwnT.old {w : World} {B : Nat} {v : Value} {m : List (List Int)} {vs : List Value} (h : OwnT w B v m vs) : ∀ i, i < m.length → ∀ g, (vs.getD i undef).ownBlock = some g → B ≤ g ∧ g < w.heap.size := fun i hi g hg => (h.rows i hi).lt g hg
theorem OwnI.kept_tab {w w1 : World} {B B' n : Nat} {x u : Value} {ys : List Int} {vs : List Value} (hx : OwnI w B x ys) (ht : w.ownsRow B' 42 1 u n vs) (hg : w.grownBy w1 u.ownBlock) : OwnI w1 B x ys := by
  refine World.ownsRow.kept hx hg ?_
  cases hb : x.ownBlock with
  | none => exact .inl rfl
  | some g => exact .inr (fun e => hx.ne_row ht g hb e.symm)
theorem OwnT.cells {w : World} {B n : Nat} {ad : Addr} {m : List (List Int)} {vs : List Value} {c : Nat} (h : OwnT w B (.slice (some ad) n c) m vs) : (∀ j u, vs[j]? = some u → w.cell? (ad.add j) = some u) ∧ (∀ u ∈ vs, u.oneCell' = true) := by
  have hl := h.len
  obtain ⟨ao, c', e, _, _, hc⟩ := ownsRow_read h.top
  cases e
  refine ⟨fun j u hj => ?_, fun u hu => ?_⟩
  · have hjl : j < vs.length := (List.getElem?_eq_some_iff.1 hj).1
    obtain ⟨b3, o3, e3, hc3⟩ := hc j (by omega)
    cases e3
    rw [Addr.add_lit, hc3, List.getD, hj]
    rfl
  · obtain ⟨i, hi, rfl⟩ := List.mem_iff_getElem.1 hu
    have := (h.rows i (by omega)).read
    rw [List.getD, List.getElem?_eq_getElem hi] at this
    obtain ⟨_, _, e, _⟩ := this
    rw [show vs[i] = (some vs[i]).getD undef from rfl, e]
    rfl
/-- a table behind which the rows of another one, younger, have been put -/
theorem OwnT.join {w w1 : World} {B B' : Nat} {v v' u : Value} {m k : List (List Int)} {vs us : List Value} (h : OwnT w B v m vs) (hk : OwnT w B' u k us) (hBB : B ≤ B')
    (hold : ∀ i, i < m.length → ∀ g, (vs.getD i undef).ownBlock = some g → g < B')
    (h1 : w1.ownsRow B 42 1 v' (m.length + k.length) (vs ++ us)) (kept : ∀ (x : Value) (ys : List Int), OwnI w B x ys → OwnI w1 B x ys) : OwnT w1 B v' (m ++ k) (vs ++ us) := by
  have hl := h.len
  have hl2 := hk.len
  have gl : ∀ i, i < m.length → (vs ++ us).getD i undef = vs.getD i undef := fun i hi => by
    simp only [List.getD]; rw [List.getElem?_append_left (by omega)]
  have grr : ∀ i, m.length ≤ i → (vs ++ us).getD i undef = us.getD (i - m.length) undef := fun i hi => by
    simp only [List.getD]; rw [List.getElem?_append_right (by omega), hl]
  refine ⟨by rw [List.length_append]; exact h1, fun i hi => ?_, fun i j hij hj g hg => ?_⟩
  · rw [List.length_append] at hi
    by_cases hi2 : i < m.length
    · rw [gl i hi2, gr_appl hi2]
      exact kept _ _ (h.rows i hi2)
    · rw [grr i (by omega), show i = m.length + (i - m.length) from by omega, gr_appr (by omega), show m.length + (i - m.length) - m.length = i - m.length from by omega]
      exact kept _ _ ((hk.rows (i - m.length) (by omega)).base hBB)
  · rw [List.length_append] at hj
    by_cases hj2 : j < m.length
    · rw [gl i (by omega)] at hg
      rw [gl j hj2]
      exact h.apart i j hij hj2 g hg
    · rw [grr j (by omega)]
      by_cases hi2 : i < m.length
      · rw [gl i hi2] at hg
        intro hg2
        have a := hold i hi2 g hg
        have b := ((hk.rows (j - m.length) (by omega)).lt g hg2).1
        omega
      · rw [grr i (by omega)] at hg
        exact hk.apart (i - m.length) (j - m.length) (by omega) (by omega) g hg

/-- a number is appended to a row -/
theorem wpList_numT {w : World} {ops : Array Oper} {rest : List Oper} {o : Oper} {a : Act} {Q : Exit → Act → World → Prop} (hgd : o.guard = none) (s x : Operand)
    (ho : o.op = .call { callee := .builtin .append, args := #[s, x], argTypes := #[42, 42] })
    (B : Nat) (v : Value) (xs : List Int) (y : Int) (h : OwnI w B v xs) (hs : a.eval s = v) (hx : a.eval x = .slice (some ⟨w.heap.size, 0, none⟩) 1 1) (hB : B ≤ w.heap.size) (hl : xs.length < 1048576)
    (K : ∀ v' w1, OwnI w1 B v' (xs ++ [y]) → Below B w w1 → wpList Tryd.prog ops Q rest (a.put o.dst v') w1) : wpList Tryd.prog ops Q (o :: rest) a (w.alloc (.cells #[.int .i64 y] 3)) := by
  obtain ⟨i0, hi, hz0, hz1, hz2⟩ := info_parts Tryd.info_int
  refine wpList_append_own _ hgd s x 42 ho B 3 i0 (.int .i64 0) 1 8 Tryd.underlying42 hi hz0 hz1 hz2 rfl (by decide) v xs.length _ hs (World.ownsRow.alloc h _) ⟨w.heap.size, 0, none⟩ 1 1 [.int .i64 y] hx rfl ?_ ?_ (by unfold maxLen; omega) (by omega) (by simp; omega) ?_
  · exact cell_one_new _ _ _
  · intro u hu; simp at hu; subst hu; rfl
  · intro v' w1 h1 h2 _
    have := h.snoc hB h1 h2
    exact K v' w1 this.1 this.2

/-- a row is appended to a table -/
theorem wpList_rowT {w : World} {ops : Array Oper} {rest : List Oper} {o : Oper} {a : Act} {Q : Exit → Act → World → Prop} (hgd : o.guard = none) (s x : Operand)
    (ho : o.op = .call { callee := .builtin .append, args := #[s, x], argTypes := #[22, 22] })
    (B : Nat) (v u : Value) (m : List (List Int)) (vs : List Value) (row : List Int) (h : OwnT w B v m vs) (hu : OwnI w B u row) (hs : a.eval s = v) (hx : a.eval x = .slice (some ⟨w.heap.size, 0, none⟩) 1 1)
    (hne : ∀ j, j < m.length → ∀ g, (vs.getD j undef).ownBlock = some g → u.ownBlock ≠ some g) (hB : B ≤ w.heap.size) (hl : m.length < 1048576)
    (K : ∀ v' w1, OwnT w1 B v' (m ++ [row]) (vs ++ [u]) → OwnI w1 B u row → Below B w w1 → wpList Tryd.prog ops Q rest (a.put o.dst v') w1) : wpList Tryd.prog ops Q (o :: rest) a (w.alloc (.cells #[u] 42)) := by
  obtain ⟨j0, hj, hy0, hy1, hy2⟩ := info_parts Tryd.info_ints
  refine wpList_append_own _ hgd s x 22 ho B 42 j0 (.slice none 0 0) 1 24 Tryd.underlying22 hj hy0 hy1 hy2 rfl (by decide) v m.length _ hs (World.ownsRow.alloc h.top _) ⟨w.heap.size, 0, none⟩ 1 1 [u] hx rfl ?_ ?_ (by unfold maxLen; omega) (by omega) (by simp; omega) ?_
  · exact cell_one_new _ _ _
  · intro z hz; simp at hz; subst hz; obtain ⟨_, _, e, _⟩ := hu.read; rw [e]; rfl
  · intro v' w1 h1 h2 _
    have ho : OwnT (w.alloc (.cells #[u] 42)) B v m vs := OwnP.below h ((Below.refl _ _).alloc (Nat.le_refl _) _)
    have hu2 : OwnI (w.alloc (.cells #[u] 42)) B u row := hu.below ((Below.refl _ _).alloc (Nat.le_refl _) _)
    have hkept : ∀ (x : Value) (ys : List Int), OwnI w B x ys → OwnI w1 B x ys := fun x ys hx => (hx.below ((Below.refl _ _).alloc (Nat.le_refl _) (.cells #[u] 42))).kept_tab ho.top h2
    refine K v' w1 ?_ (hkept _ _ hu) (Below.grown ((Below.refl B w).alloc hB _) h2 (by simp; omega) (fun k hk => (World.ownsRow.lt h.top k hk).1))
    have hlv := h.len
    have gl : ∀ i, i < m.length → (vs ++ [u]).getD i undef = vs.getD i undef := fun i hi => by
      simp only [List.getD]; rw [List.getElem?_append_left (by omega)]
    have gu : (vs ++ [u]).getD m.length undef = u := by
      simp only [List.getD]; rw [List.getElem?_append_right (by omega), hlv]; simp
    refine ⟨by rw [List.length_append]; exact h1, fun i hi => ?_, fun i j hij hj g hg => ?_⟩
    · rw [List.length_append, List.length_singleton] at hi
      by_cases hi2 : i < m.length
      · rw [gl i hi2, gr_appl hi2]
        exact hkept _ _ (h.rows i hi2)
      · obtain rfl : i = m.length := by omega
        have e : gr (m ++ [row]) m.length = row := by
          have := gr_appr (m := m) (k := [row]) (i := 0) (by simp)
          rw [Nat.add_zero] at this
          exact this
        rw [gu, e]
        exact hkept _ _ hu
    · rw [List.length_append, List.length_singleton] at hj
      rw [gl i (by omega)] at hg
      by_cases hj2 : j < m.length
      · rw [gl j hj2]
        exact h.apart i j hij hj2 g hg
      · obtain rfl : j = m.length := by omega
        rw [gu]
        exact hne i (by omega) g hg

/-- the rows of a younger table are appended to a table -/
theorem wpList_rowsT {w : World} {ops : Array Oper} {rest : List Oper} {o : Oper} {a : Act} {Q : Exit → Act → World → Prop} (hgd : o.guard = none) (s x : Operand)
    (ho : o.op = .call { callee := .builtin .append, args := #[s, x], argTypes := #[22, 22] })
    (B B' : Nat) (v u : Value) (m k : List (List Int)) (vs us : List Value) (h : OwnT w B v m vs) (hk : OwnT w B' u k us) (hs : a.eval s = v) (hx : a.eval x = u) (hBB : B ≤ B') (hold : ∀ i, i < m.length → ∀ g, (vs.getD i undef).ownBlock = some g → g < B')
    (hB : B ≤ w.heap.size) (hl : m.length + k.length ≤ 1048576)
    (K : ∀ v' w1, OwnT w1 B v' (m ++ k) (vs ++ us) → Below B w w1 → wpList Tryd.prog ops Q rest (a.put o.dst v') w1) : wpList Tryd.prog ops Q (o :: rest) a w := by
  obtain ⟨j0, hj, hy0, hy1, hy2⟩ := info_parts Tryd.info_ints
  obtain ⟨sa, sc, rfl, _, _, _⟩ := hk.read
  cases sa with
  | none =>
    have hM0 : k = [] ∧ sc = 0 := by
      rcases hk.top.2 with ⟨h1, h2⟩ | ⟨g, cap, cur, h1, _⟩
      · simp at h1; exact ⟨List.eq_nil_of_length_eq_zero h2, h1.2⟩
      · simp at h1
    obtain ⟨rfl, rfl⟩ := hM0
    have hus : us = [] := List.eq_nil_of_length_eq_zero hk.len
    subst hus
    refine wpList_append_own_none hgd s x 22 ho B 42 j0 1 Tryd.underlying22 hj v m.length vs hs h.top hx ?_
    exact K v w (by rw [List.append_nil, List.append_nil]; exact h) (Below.refl _ _)
  | some ad =>
    have hcl := hk.cells
    refine wpList_append_own _ hgd s x 22 ho B 42 j0 (.slice none 0 0) 1 24 Tryd.underlying22 hj hy0 hy1 hy2 rfl (by decide) v m.length vs hs h.top ad k.length sc us hx (by rw [hk.len]; omega) hcl.1 hcl.2 (by unfold maxLen; omega) (by omega) hB ?_
    intro v' w1 h1 h2 _
    exact K v' w1 (h.join hk hBB hold h1 (fun x ys hx => hx.kept_tab h.top h2)) (Below.grown (Below.refl _ _) h2 hB (fun k hk => (World.ownsRow.lt h.top k hk).1))
end Go.Proofs.YtgdijjfipicodaaDoor

namespace Go.Proofs.YtgdijjfipicodaaDoor
open Go.RowKit

theorem OwnI.nil_of {w : World} {B n c : Nat} {ao : Option Addr} {xs : List Int} (h : OwnI w B (.slice ao n c) xs) : ao = none → c = 0 ∧ xs = [] := by
  rintro rfl
  rcases h.2 with ⟨h0, h1⟩ | ⟨g, cap, cur, hv, _⟩
  · simp only [Value.slice.injEq] at h0
    exact ⟨h0.2.2, List.eq_nil_of_length_eq_zero h1⟩
  · simp at hv
/-- a slice that reads as a table -/
def ReadsT (w : World) (v : Value) (m : List (List Int)) : Prop := ∃ ao c, v = .slice ao m.length c ∧ m.length ≤ c ∧ c ≤ 9223372036854775807 ∧ MatAt w ao m
theorem ReadsT.read {w : World} {v : Value} {m : List (List Int)} (h : ReadsT w v m) : ∃ ao c, v = .slice ao m.length c ∧ m.length ≤ c ∧ c ≤ 9223372036854775807 ∧ MatAt w ao m := h
theorem OwnT.reads {w : World} {B : Nat} {v : Value} {m : List (List Int)} {vs : List Value} (h : OwnT w B v m vs) : ReadsT w v m := h.read
theorem ReadsT.nil (w : World) : ReadsT w (.slice none 0 0) [] := ⟨none, 0, rfl, Nat.le_refl _, by omega, MatAt.nil _ _⟩
/-- ([][]int, bool), the table only read -/
def VRes (p : Prop) (r : List (List Int)) (w : World) (e : Ending) : Prop :=
  ∃ v b r', e = .returned (.tuple #[v, .bool b]) ∧ ReadsT w v r' ∧ ((p ∧ b = true ∧ r' = r) ∨ (¬p ∧ b = false ∧ r' = []))
theorem VRes.yes {p : Prop} {r : List (List Int)} {w : World} {v : Value} (h : p) (ho : ReadsT w v r) : VRes p r w (.returned (.tuple #[v, .bool true])) := ⟨v, true, r, rfl, ho, .inl ⟨h, rfl, rfl⟩⟩
theorem VRes.no {p : Prop} {r : List (List Int)} {w : World} (h : ¬p) : VRes p r w (.returned (.tuple #[.slice none 0 0, .bool false])) := ⟨_, false, [], rfl, ReadsT.nil _, .inr ⟨h, rfl, rfl⟩⟩

/-- the slice is the call's own, its rows are any that someone owns -/
structure OwnV (w : World) (B : Nat) (v : Value) (m : List (List Int)) (vs : List Value) : Prop where
  top : w.ownsRow B 42 1 v m.length vs
  rows : ∀ i, i < m.length → OwnI w 0 (vs.getD i undef) (gr m i)
theorem OwnV.below {w w' : World} {B : Nat} {v : Value} {m : List (List Int)} {vs : List Value} (h : OwnV w B v m vs) (hb : Below w.heap.size w w') : OwnV w' B v m vs := ⟨ownsRow_below h.top hb, fun i hi => (h.rows i hi).below hb⟩
theorem OwnV.base {w : World} {B B' : Nat} {v : Value} {m : List (List Int)} {vs : List Value} (h : OwnV w B v m vs) (hB : B' ≤ B) : OwnV w B' v m vs := ⟨ownsRow_base h.top hB, h.rows⟩
theorem OwnV.nil (w : World) (B : Nat) : OwnV w B (.slice none 0 0) [] [] := ⟨World.ownsRow_nil _ _ _ _, fun i hi => absurd hi (by simp)⟩
theorem OwnV.len {w : World} {B : Nat} {v : Value} {m : List (List Int)} {vs : List Value} (h : OwnV w B v m vs) : vs.length = m.length := by simpa using h.top.1
theorem OwnT.toV {w : World} {B : Nat} {v : Value} {m : List (List Int)} {vs : List Value} (h : OwnT w B v m vs) : OwnV w B v m vs := ⟨h.top, fun i hi => (h.rows i hi).base (Nat.zero_le _)⟩
theorem OwnV.rowAt {w : World} {B n c : Nat} {ao : Option Addr} {m : List (List Int)} {vs : List Value} (h : OwnV w B (.slice ao n c) m vs) {i : Nat} (hi : i < m.length) :
    ∃ b o r d, ao = some ⟨b, o, none⟩ ∧ w.cell? ⟨b, o + i, none⟩ = some (.slice r (gr m i).length d) ∧ vs.getD i undef = .slice r (gr m i).length d ∧ IntsAt w r (gr m i) ∧ (gr m i).length ≤ d ∧ d ≤ 9223372036854775807 := by
  obtain ⟨ao', c', e, _, _, hc⟩ := ownsRow_read h.top
  cases e
  obtain ⟨b, o, e, hcell⟩ := hc i hi
  cases e
  obtain ⟨r, d, e2, h1, h2, h3⟩ := (h.rows i hi).read
  exact ⟨b, o, r, d, rfl, by rw [hcell, e2], e2, h3, h1, h2⟩
theorem OwnV.read {w : World} {B : Nat} {v : Value} {m : List (List Int)} {vs : List Value} (h : OwnV w B v m vs) : ReadsT w v m := by
  obtain ⟨ao, c, rfl, h1, h2, _⟩ := ownsRow_read h.top
  refine ⟨ao, c, rfl, h1, h2, fun i hi => ?_⟩
  obtain ⟨b, o, r, d, e, hc, _, hi2, h3, h4⟩ := h.rowAt hi
  exact ⟨b, o, r, d, e, hc, hi2, h3, h4⟩
theorem OwnV.cells {w : World} {B n : Nat} {ad : Addr} {m : List (List Int)} {vs : List Value} {c : Nat} (h : OwnV w B (.slice (some ad) n c) m vs) : (∀ j u, vs[j]? = some u → w.cell? (ad.add j) = some u) ∧ (∀ u ∈ vs, u.oneCell' = true) := by
  have hl := h.len
  obtain ⟨ao, c', e, _, _, hc⟩ := ownsRow_read h.top
  cases e
  refine ⟨fun j u hj => ?_, fun u hu => ?_⟩
  · have hjl : j < vs.length := (List.getElem?_eq_some_iff.1 hj).1
    obtain ⟨b3, o3, e3, hc3⟩ := hc j (by omega)
    cases e3
    rw [Addr.add_lit, hc3, List.getD, hj]
    rfl
  · obtain ⟨i, hi, rfl⟩ := List.mem_iff_getElem.1 hu
    have := (h.rows i (by omega)).read
    rw [List.getD, List.getElem?_eq_getElem hi] at this
    obtain ⟨_, _, e, _⟩ := this
    rw [show vs[i] = (some vs[i]).getD undef from rfl, e]
    rfl
theorem OwnV.join {w w1 : World} {B B' : Nat} {v v' u : Value} {m k : List (List Int)} {vs us : List Value} (h : OwnV w B v m vs) (hl2 : us.length = k.length) (hk : ∀ i, i < k.length → OwnI w B' (us.getD i undef) (gr k i))
    (h1 : w1.ownsRow B 42 1 v' (m.length + k.length) (vs ++ us)) (kept : ∀ (x : Value) (ys : List Int), OwnI w 0 x ys → OwnI w1 0 x ys) : OwnV w1 B v' (m ++ k) (vs ++ us) := by
  have hl := h.len
  refine ⟨by rw [List.length_append]; exact h1, fun i hi => ?_⟩
  rw [List.length_append] at hi
  by_cases hi2 : i < m.length
  · have e : (vs ++ us).getD i undef = vs.getD i undef := by simp only [List.getD]; rw [List.getElem?_append_left (by omega)]
    rw [e, gr_appl hi2]
    exact kept _ _ (h.rows i hi2)
  · have e : (vs ++ us).getD i undef = us.getD (i - m.length) undef := by simp only [List.getD]; rw [List.getElem?_append_right (by omega), hl]
    rw [e, show i = m.length + (i - m.length) from by omega, gr_appr (by omega), show m.length + (i - m.length) - m.length = i - m.length from by omega]
    exact kept _ _ ((hk (i - m.length) (by omega)).base (Nat.zero_le _))

/-- a row is appended to a table -/
theorem wpList_rowV {w : World} {ops : Array Oper} {rest : List Oper} {o : Oper} {a : Act} {Q : Exit → Act → World → Prop} (hgd : o.guard = none) (s x : Operand)
    (ho : o.op = .call { callee := .builtin .append, args := #[s, x], argTypes := #[22, 22] })
    (B B' : Nat) (v u : Value) (m : List (List Int)) (vs : List Value) (row : List Int) (h : OwnV w B v m vs) (hu : OwnI w B' u row) (hs : a.eval s = v) (hx : a.eval x = .slice (some ⟨w.heap.size, 0, none⟩) 1 1)
    (hB : B ≤ w.heap.size) (hl : m.length < 1048576)
    (K : ∀ v' w1, OwnV w1 B v' (m ++ [row]) (vs ++ [u]) → Below B w w1 → wpList Tryd.prog ops Q rest (a.put o.dst v') w1) : wpList Tryd.prog ops Q (o :: rest) a (w.alloc (.cells #[u] 42)) := by
  obtain ⟨j0, hj, hy0, hy1, hy2⟩ := info_parts Tryd.info_ints
  refine wpList_append_own _ hgd s x 22 ho B 42 j0 (.slice none 0 0) 1 24 Tryd.underlying22 hj hy0 hy1 hy2 rfl (by decide) v m.length _ hs (World.ownsRow.alloc h.top _) ⟨w.heap.size, 0, none⟩ 1 1 [u] hx rfl ?_ ?_ (by unfold maxLen; omega) (by omega) (by simp; omega) ?_
  · exact cell_one_new _ _ _
  · intro z hz; simp at hz; subst hz; obtain ⟨_, _, e, _⟩ := hu.read; rw [e]; rfl
  · intro v' w1 h1 h2 _
    have ho : OwnV (w.alloc (.cells #[u] 42)) B v m vs := h.below ((Below.refl _ _).alloc (Nat.le_refl _) _)
    refine K v' w1 ?_ (Below.grown ((Below.refl B w).alloc hB _) h2 (by simp; omega) (fun k hk => (World.ownsRow.lt h.top k hk).1))
    refine h.join (B' := B') (u := u) (by simp) (fun i hi => ?_) h1 (fun x ys hx => (hx.below ((Below.refl _ _).alloc (Nat.le_refl _) (.cells #[u] 42))).kept_tab ho.top h2)
    obtain rfl : i = 0 := by simp at hi; omega
    exact hu

/-- the rows of another table are appended to a table -/
theorem wpList_rowsV {w : World} {ops : Array Oper} {rest : List Oper} {o : Oper} {a : Act} {Q : Exit → Act → World → Prop} (hgd : o.guard = none) (s x : Operand)
    (ho : o.op = .call { callee := .builtin .append, args := #[s, x], argTypes := #[22, 22] })
    (B B' : Nat) (v u : Value) (m k : List (List Int)) (vs us : List Value) (h : OwnV w B v m vs) (hk : OwnV w B' u k us) (hs : a.eval s = v) (hx : a.eval x = u)
    (hB : B ≤ w.heap.size) (hl : m.length + k.length ≤ 1048576)
    (K : ∀ v' w1, OwnV w1 B v' (m ++ k) (vs ++ us) → Below B w w1 → wpList Tryd.prog ops Q rest (a.put o.dst v') w1) : wpList Tryd.prog ops Q (o :: rest) a w := by
  obtain ⟨j0, hj, hy0, hy1, hy2⟩ := info_parts Tryd.info_ints
  obtain ⟨sa, sc, rfl, _, _, _⟩ := hk.read
  cases sa with
  | none =>
    have hM0 : k = [] ∧ sc = 0 := by
      rcases hk.top.2 with ⟨h1, h2⟩ | ⟨g, cap, cur, h1, _⟩
      · simp at h1; exact ⟨List.eq_nil_of_length_eq_zero h2, h1.2⟩
      · simp at h1
    obtain ⟨rfl, rfl⟩ := hM0
    have hus : us = [] := List.eq_nil_of_length_eq_zero hk.len
    subst hus
    refine wpList_append_own_none hgd s x 22 ho B 42 j0 1 Tryd.underlying22 hj v m.length vs hs h.top hx ?_
    exact K v w (by rw [List.append_nil, List.append_nil]; exact h) (Below.refl _ _)
  | some ad =>
    have hcl := hk.cells
    refine wpList_append_own _ hgd s x 22 ho B 42 j0 (.slice none 0 0) 1 24 Tryd.underlying22 hj hy0 hy1 hy2 rfl (by decide) v m.length vs hs h.top ad k.length sc us hx (by rw [hk.len]; omega) hcl.1 hcl.2 (by unfold maxLen; omega) (by omega) hB ?_
    intro v' w1 h1 h2 _
    exact K v' w1 (h.join (u := .slice (some ad) k.length sc) hk.len hk.rows h1 (fun x ys hx => hx.kept_tab h.top h2)) (Below.grown (Below.refl _ _) h2 hB (fun k hk => (World.ownsRow.lt h.top k hk).1))
end Go.Proofs.YtgdijjfipicodaaDoor

namespace Go.Proofs.YtgdijjfipicodaaDoor
open Go.RowKit

theorem OwnV.kept {w w1 : World} {B B' n' : Nat} {x v : Value} {m : List (List Int)} {vs ys : List Value} {e' : TypeId} (h : OwnV w B x m vs) (k : w.ownsRow B' e' 1 v n' ys) (h1 : 42 ≠ e') (h2 : 3 ≠ e') (hg : w.grownBy w1 v.ownBlock) : OwnV w1 B x m vs :=
  ⟨row_kept h.top k h1 hg, fun i hi => row_kept (h.rows i hi) k h2 hg⟩
/-- the list is the call's own, its tables are any that someone owns -/
structure OwnW (w : World) (B : Nat) (v : Value) (ts : List (List (List Int))) (vs : List Value) : Prop where
  top : w.ownsRow B 22 1 v ts.length vs
  each : ∀ i, i < ts.length → ∃ us, OwnV w 0 (vs.getD i undef) (gt ts i) us
theorem OwnW.below {w w' : World} {B : Nat} {v : Value} {ts : List (List (List Int))} {vs : List Value} (h : OwnW w B v ts vs) (hb : Below w.heap.size w w') : OwnW w' B v ts vs := ⟨ownsRow_below h.top hb, fun i hi => ⟨_, (h.each i hi).choose_spec.below hb⟩⟩
theorem OwnW.base {w : World} {B B' : Nat} {v : Value} {ts : List (List (List Int))} {vs : List Value} (h : OwnW w B v ts vs) (hB : B' ≤ B) : OwnW w B' v ts vs := ⟨ownsRow_base h.top hB, h.each⟩
theorem OwnW.nil (w : World) (B : Nat) : OwnW w B (.slice none 0 0) [] [] := ⟨World.ownsRow_nil _ _ _ _, fun i hi => absurd hi (by simp)⟩
theorem OwnW.len {w : World} {B : Nat} {v : Value} {ts : List (List (List Int))} {vs : List Value} (h : OwnW w B v ts vs) : vs.length = ts.length := by simpa using h.top.1
theorem OwnW.head {w : World} {B : Nat} {v : Value} {ts : List (List (List Int))} {vs : List Value} (h : OwnW w B v ts vs) : ∃ ao c, v = .slice ao ts.length c ∧ ts.length ≤ c ∧ c ≤ 9223372036854775807 := by
  obtain ⟨ao, c, e, h1, h2, _⟩ := ownsRow_read h.top
  exact ⟨ao, c, e, h1, h2⟩
/-- tables put behind -/
theorem OwnW.join {w w1 : World} {B : Nat} {v v' : Value} {ts ks : List (List (List Int))} {vs us : List Value} (h : OwnW w B v ts vs) (hl : us.length = ks.length) (hk : ∀ i, i < ks.length → ∃ xs, OwnV w 0 (us.getD i undef) (gt ks i) xs)
    (h1 : w1.ownsRow B 22 1 v' (ts.length + ks.length) (vs ++ us)) (hg : w.grownBy w1 v.ownBlock) : OwnW w1 B v' (ts ++ ks) (vs ++ us) := by
  refine ⟨by rw [List.length_append]; exact h1, fun i hi => ?_⟩
  rw [List.length_append] at hi
  have hvl := h.len
  by_cases hi2 : i < ts.length
  · rw [getD_left (by omega), gt_app_left hi2]
    obtain ⟨xs, hx⟩ := h.each i hi2
    exact ⟨xs, hx.kept h.top (by decide) (by decide) hg⟩
  · obtain ⟨j, rfl⟩ : ∃ j, i = ts.length + j := ⟨i - ts.length, by omega⟩
    rw [getD_right (by omega), hvl, show ts.length + j - ts.length = j from by omega, gt_app_right (by omega)]
    obtain ⟨xs, hx⟩ := hk j (by omega)
    exact ⟨xs, hx.kept h.top (by decide) (by decide) hg⟩
theorem OwnW.cells {w : World} {B n c : Nat} {ad : Addr} {ts : List (List (List Int))} {vs : List Value} (h : OwnW w B (.slice (some ad) n c) ts vs) : (∀ j u, vs[j]? = some u → w.cell? (ad.add j) = some u) ∧ (∀ u ∈ vs, u.oneCell' = true) := by
  have hl := h.len
  obtain ⟨ao, c', e, _, _, hc⟩ := ownsRow_read h.top
  cases e
  refine ⟨fun j u hj => ?_, fun u hu => ?_⟩
  · have hjl : j < vs.length := (List.getElem?_eq_some_iff.1 hj).1
    obtain ⟨b3, o3, e3, hc3⟩ := hc j (by omega)
    cases e3
    rw [Addr.add_lit, hc3, List.getD, hj]
    rfl
  · obtain ⟨i, hi, rfl⟩ := List.mem_iff_getElem.1 hu
    obtain ⟨_, hx⟩ := h.each i (by omega)
    have := hx.read
    rw [List.getD, List.getElem?_eq_getElem hi] at this
    obtain ⟨_, _, e, _⟩ := this
    rw [show vs[i] = (some vs[i]).getD undef from rfl, e]
    rfl
/-- reading one of the tables -/
theorem OwnW.at {w : World} {B n c : Nat} {ao : Option Addr} {ts : List (List (List Int))} {vs : List Value} (h : OwnW w B (.slice ao n c) ts vs) {i : Nat} (hi : i < ts.length) :
    ∃ b o r d, ao = some ⟨b, o, none⟩ ∧ w.cell? ⟨b, o + i, none⟩ = some (.slice r (gt ts i).length d) ∧ MatAt w r (gt ts i) ∧ (gt ts i).length ≤ d ∧ d ≤ 9223372036854775807 := by
  obtain ⟨ao', c', e, _, _, hc⟩ := ownsRow_read h.top
  cases e
  obtain ⟨b, o, e, hcell⟩ := hc i hi
  obtain ⟨us, hx⟩ := h.each i hi
  obtain ⟨r, d, hr, h3, h4, hm⟩ := hx.read
  exact ⟨b, o, r, d, e, by rw [hcell, hr], hm, h3, h4⟩
/-- a list that is written out, of one table -/
theorem OwnW.one {w : World} {B B' : Nat} {u : Value} {m : List (List Int)} {us : List Value} (h : OwnV w B' u m us) (hB : B ≤ w.heap.size) : OwnW (w.alloc (.cells #[u] 22)) B (.slice (some ⟨w.heap.size, 0, none⟩) 1 1) [m] [u] ∧ Below B w (w.alloc (.cells #[u] 22)) := by
  have hb : Below w.heap.size w (w.alloc (.cells #[u] 22)) := (Below.refl _ _).alloc (Nat.le_refl _) _
  refine ⟨⟨⟨by simp, .inr ⟨w.heap.size, 1, _, rfl, hB, heap_alloc_new w _, Nat.le_refl _, by decide, rfl, rfl⟩⟩, fun i hi => ?_⟩, (Below.refl _ _).alloc hB _⟩
  obtain rfl : i = 0 := by simp at hi; omega
  exact ⟨us, (h.below hb).base (Nat.zero_le _)⟩

/-- the tables of another list are appended to a list -/
theorem wpList_tabsW {w : World} {ops : Array Oper} {rest : List Oper} {o : Oper} {a : Act} {Q : Exit → Act → World → Prop} (hgd : o.guard = none) (s x : Operand)
    (ho : o.op = .call { callee := .builtin .append, args := #[s, x], argTypes := #[29, 29] })
    (B B' : Nat) (v u : Value) (m k : List (List (List Int))) (vs us : List Value) (h : OwnW w B v m vs) (hk : OwnW w B' u k us) (hs : a.eval s = v) (hx : a.eval x = u)
    (hB : B ≤ w.heap.size) (hl : m.length + k.length ≤ 5860000000000)
    (K : ∀ v' w1, OwnW w1 B v' (m ++ k) (vs ++ us) → w.grownBy w1 v.ownBlock → Below B w w1 → wpList Tryd.prog ops Q rest (a.put o.dst v') w1) : wpList Tryd.prog ops Q (o :: rest) a w := by
  obtain ⟨j0, hj, hy0, hy1, hy2⟩ := info_parts Tryd.info_intssW
  obtain ⟨sa, sc, rfl, _, _⟩ := hk.head
  cases sa with
  | none =>
    have hM0 : k = [] ∧ sc = 0 := by
      rcases hk.top.2 with ⟨h1, h2⟩ | ⟨g, cap, cur, h1, _⟩
      · simp at h1; exact ⟨List.eq_nil_of_length_eq_zero h2, h1.2⟩
      · simp at h1
    obtain ⟨rfl, rfl⟩ := hM0
    have hus : us = [] := List.eq_nil_of_length_eq_zero hk.len
    subst hus
    refine wpList_append_own_none hgd s x 29 ho B 22 j0 1 Tryd.underlying29 hj v m.length vs hs h.top hx ?_
    exact K v w (by rw [List.append_nil, List.append_nil]; exact h) (World.grownBy.refl _ _) (Below.refl _ _)
  | some ad =>
    have hcl := hk.cells
    refine wpList_append_own _ hgd s x 29 ho B 22 j0 (.slice none 0 0) 1 24 Tryd.underlying29 hj hy0 hy1 hy2 rfl (by decide) v m.length vs hs h.top ad k.length sc us hx (by rw [hk.len]; omega) hcl.1 hcl.2 (by unfold maxLen; omega) (by omega) hB ?_
    intro v' w1 h1 h2 _
    exact K v' w1 (h.join hk.len hk.each h1 h2) h2 (Below.grown (Below.refl _ _) h2 hB (fun k hk => (World.ownsRow.lt h.top k hk).1))
end Go.Proofs.YtgdijjfipicodaaDoor

