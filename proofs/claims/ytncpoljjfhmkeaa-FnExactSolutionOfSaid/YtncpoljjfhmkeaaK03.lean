/- Parts of proofs: contracts and plain facts. Conditions: as each says. -/
import Derived.Test.YtncpoljjfhmkeaaK02
import Derived.Deep.Cut
import Derived.Shelf.Strings.Builder1
import Derived.Shelf.Strings.BuilderK
import Derived.Shelf.Small.Wraps
import Derived.Ground.Names2Prog
import Derived.Ground.NamesProg
import Derived.Test.YtncpoljjfhmkeaaProg
import Derived.Laws.AppendOwnNone
namespace Go.Proofs.Ytncpoljjfhmkeaa
open Go.RowKit

theorem OwnP.drewN {w : World} {B n k : Nat} {v : Value} {m : List (List Int)} {vs : List Value} (h : OwnP w B v n m k vs) (q : Nat) : OwnP (w.drewN q) B v n m k vs := ⟨h.top, h.rows, h.apart⟩
theorem OwnP.drew {w : World} {B n k : Nat} {v : Value} {m : List (List Int)} {vs : List Value} (h : OwnP w B v n m k vs) : OwnP w.drew B v n m k vs := ⟨h.top, h.rows, h.apart⟩

theorem rowsum_bound {m : List (List Int)} (h : good m) {a b : Nat} (ha : a < m.length) (hb : b ≤ m.length) : -6 ≤ sumF (fun j => gi (gr m a) j) b ∧ sumF (fun j => gi (gr m a) j) b ≤ 6 :=
  row_bound (f := fun j => gi (gr m a) j) (n := m.length) h.1.2.1 (fun _ hj => good_entry h ha hj) hb

theorem cs_small {m : List (List Int)} (h : square m) : Small (cs m) := ⟨by rw [cs_len]; have := h.2.1; omega, fun i hi => by rw [cs_len] at hi; unfold cs; rw [tab_row hi]; have := h.2.1; omega⟩
end Go.Proofs.Ytncpoljjfhmkeaa

namespace Go.Proofs.Ytncpoljjfhmkeaa
open Go.RowKit

/-- a number of a table, 0 beside it -/
def atC (c : List (List Int)) (i j : Int) : Int := if i < 0 then 0 else if j < 0 then 0 else gi (gr c i.toNat) j.toNat
theorem atC_nat (c : List (List Int)) (i j : Nat) : atC c (i : Int) (j : Int) = gi (gr c i) j := by
  unfold atC
  rw [if_neg (by omega), if_neg (by omega), Int.toNat_natCast, Int.toNat_natCast]

theorem cellD {w : World} {a : Addr} {v : Value} (h : w.cell? a = some v) : ({ w with drawn := w.drawn + 1 } : World).cell? a = some v := h
theorem MatAt.drewD {w : World} {ao : Option Addr} {m : List (List Int)} (h : MatAt w ao m) : MatAt { w with drawn := w.drawn + 1 } ao m := h

/-- the numbers of a table are in 0..n -/
def inRange (c : List (List Int)) : Prop := ∀ i j, i < c.length → j < c.length → 0 ≤ gi (gr c i) j ∧ gi (gr c i) j ≤ c.length

/-- differences of corner sums -/
def df (c : List (List Int)) (i j : Nat) : Int := atC c i j - atC c ((i : Int) - 1) j - atC c i ((j : Int) - 1) + atC c ((i : Int) - 1) ((j : Int) - 1)
def dm (c : List (List Int)) : List (List Int) := tab c.length c.length (df c)
theorem dm_len (c : List (List Int)) : (dm c).length = c.length := tab_len _ _ _

theorem atC_range {c : List (List Int)} (h : inRange c) {i j : Int} (hi : -1 ≤ i ∧ i < c.length) (hj : -1 ≤ j ∧ j < c.length) : 0 ≤ atC c i j ∧ atC c i j ≤ c.length := by
  unfold atC
  split
  · omega
  · split
    · omega
    · exact h i.toNat j.toNat (by omega) (by omega)

theorem w64 {n : Int} (h : -9223372036854775808 ≤ n ∧ n ≤ 9223372036854775807) : IntKind.i64.wrap n = n := by
  exact IntWalk.i64_in n h

/-- .. or not far from it -/
def inWide (c : List (List Int)) : Prop := ∀ i j, i < c.length → j < c.length → -100 ≤ gi (gr c i) j ∧ gi (gr c i) j ≤ 100
theorem atC_wide {c : List (List Int)} (h : inWide c) {i j : Int} (hi : -1 ≤ i ∧ i < c.length) (hj : -1 ≤ j ∧ j < c.length) : -100 ≤ atC c i j ∧ atC c i j ≤ 100 := by
  unfold atC
  split
  · omega
  · split
    · omega
    · exact h i.toNat j.toNat (by omega) (by omega)

end Go.Proofs.Ytncpoljjfhmkeaa

namespace Go.Proofs.Ytncpoljjfhmkeaa
open Go.RowKit

/-- differences of corner sums, as int wraps them -/
def dfW (c : List (List Int)) (i j : Nat) : Int :=
  IntKind.i64.wrap (IntKind.i64.wrap (IntKind.i64.wrap (gi (gr c i) j - atC c ((i : Int) - 1) j) - atC c i ((j : Int) - 1)) + atC c ((i : Int) - 1) ((j : Int) - 1))
def dmW (c : List (List Int)) : List (List Int) := tab c.length c.length (dfW c)
theorem dmW_len (c : List (List Int)) : (dmW c).length = c.length := tab_len _ _ _

theorem sumF_add (f g : Nat → Int) (k : Nat) : sumF (fun i => f i + g i) k = sumF f k + sumF g k := by
  induction k with
  | zero => rfl
  | succ k ih => simp only [sumF]; omega
theorem sumF_zero (k : Nat) : sumF (fun _ => 0) k = 0 := by
  induction k with
  | zero => rfl
  | succ k ih => simp only [sumF]; omega
theorem S2_swap (m : List (List Int)) (a b : Nat) : S2 m a b = sumF (fun j => sumF (fun i => gi (gr m i) j) a) b := by
  induction a with
  | zero => show (0 : Int) = sumF (fun _ => 0) b; rw [sumF_zero]
  | succ a ih =>
    rw [S2_succ, ih, ← sumF_add]
    rfl
theorem sumK_sumF (xs : List Int) (k : Nat) : sumK xs k = sumF (fun i => gi xs i) k := by
  induction k with
  | zero => rfl
  | succ k ih => simp only [sumK, sumF]; rw [ih]
theorem S2_cols {m : List (List Int)} {a b : Nat} (ha : a ≤ m.length) (hb : b ≤ m.length) : S2 m a b = sumF (fun j => sumK (gr (tr m) j) a) b := by
  rw [S2_swap]
  refine sumF_congr fun j hj => ?_
  rw [sumK_sumF]
  exact sumF_congr fun i hi => (gi_tr (by omega) (by omega)).symm
theorem S2_range {m : List (List Int)} (h : good m) {a b : Nat} (ha : a ≤ m.length) (hb : b ≤ m.length) : 0 ≤ S2 m a b ∧ S2 m a b ≤ b := by
  rw [S2_cols ha hb]
  have : ∀ k, k ≤ b → 0 ≤ sumF (fun j => sumK (gr (tr m) j) a) k ∧ sumF (fun j => sumK (gr (tr m) j) a) k ≤ k := by
    intro k
    induction k with
    | zero => simp [sumF]
    | succ k ih =>
      intro hk
      have h1 := ih (by omega)
      have h2 := (h.2.2 k (by rw [tr_len]; omega)).1 a (by rw [tr_row (by omega)]; exact ha)
      simp only [sumF]
      omega
  exact this b (Nat.le_refl _)
theorem S2_step (m : List (List Int)) (i j : Nat) : S2 m (i + 1) (j + 1) = S2 m i (j + 1) + S2 m (i + 1) j - S2 m i j + gi (gr m i) j := by
  rw [S2_succ, S2_succ]
  simp only [sumF]
  omega
theorem S2_zero_col (m : List (List Int)) (a : Nat) : S2 m a 0 = 0 := by
  show sumF (fun _ => (0 : Int)) a = 0
  exact sumF_zero a

theorem wrap_eq (n : Int) : IntKind.i64.wrap n = (n + 9223372036854775808) % 18446744073709551616 - 9223372036854775808 := by
  rw [IntKind.wrap_i64]

theorem wrap_core {x A B C d : Int} (hx : -9223372036854775808 ≤ x ∧ x ≤ 9223372036854775807) (hA : -36 ≤ A ∧ A ≤ 36) (hB : -36 ≤ B ∧ B ≤ 36) (hC : -36 ≤ C ∧ C ≤ 36) (hd : -1 ≤ d ∧ d ≤ 1)
    (h : d = IntKind.i64.wrap (IntKind.i64.wrap (IntKind.i64.wrap (x - A) - B) + C)) : x = A + B - C + d := by
  rw [wrap_eq, wrap_eq, wrap_eq] at h
  omega

theorem dmW_sums {c : List (List Int)} (hsq : square c) (hwf : WfM c) (hg : good (dmW c)) : ∀ i, i < c.length → ∀ j, j < c.length → gi (gr c i) j = S2 (dmW c) (i + 1) (j + 1) := by
  intro i
  induction i with
  | zero =>
    intro h0 j
    induction j with
    | zero =>
      intro hj
      have hd := good_entry hg (i := 0) (j := 0) (by rw [dmW_len]; exact h0) (by rw [dmW_len]; exact hj)
      have e : gi (gr (dmW c) 0) 0 = dfW c 0 0 := gi_tab h0 hj
      have hx := hwf 0 h0 0 (by rw [hsq.2.2 0 h0]; exact hj)
      rw [S2_step, S2_zero_col, S2_zero_col]
      have := wrap_core hx (A := 0) (B := 0) (C := 0) (by omega) (by omega) (by omega) hd (by rw [e]; rfl)
      show _ = 0 + 0 - 0 + _
      omega
    | succ j ih =>
      intro hj
      have ih := ih (by omega)
      have hd := good_entry hg (i := 0) (j := j + 1) (by rw [dmW_len]; exact h0) (by rw [dmW_len]; exact hj)
      have e : gi (gr (dmW c) 0) (j + 1) = dfW c 0 (j + 1) := gi_tab h0 hj
      have hx := hwf 0 h0 (j + 1) (by rw [hsq.2.2 0 h0]; exact hj)
      have hb := S2_bound hg (a := 0 + 1) (b := j + 1) (by rw [dmW_len]; omega) (by rw [dmW_len]; omega)
      have eB : atC c ((0 : Nat) : Int) (((j + 1 : Nat) : Int) - 1) = S2 (dmW c) (0 + 1) (j + 1) := by
        rw [show (((j + 1 : Nat) : Int) - 1) = (j : Int) from by omega, atC_nat, ih]
      rw [S2_step]
      have := wrap_core hx (A := 0) (B := S2 (dmW c) (0 + 1) (j + 1)) (C := 0) (by omega) hb (by omega) hd (by rw [e, ← eB]; rfl)
      show _ = 0 + _ - 0 + _
      omega
  | succ i ihi =>
    intro hi j
    have ihi := ihi (by omega)
    induction j with
    | zero =>
      intro hj
      have hd := good_entry hg (i := i + 1) (j := 0) (by rw [dmW_len]; exact hi) (by rw [dmW_len]; exact hj)
      have e : gi (gr (dmW c) (i + 1)) 0 = dfW c (i + 1) 0 := gi_tab hi hj
      have hx := hwf (i + 1) hi 0 (by rw [hsq.2.2 (i + 1) hi]; exact hj)
      have hb := S2_bound hg (a := i + 1) (b := 0 + 1) (by rw [dmW_len]; omega) (by rw [dmW_len]; omega)
      have eA : atC c (((i + 1 : Nat) : Int) - 1) ((0 : Nat) : Int) = S2 (dmW c) (i + 1) (0 + 1) := by
        rw [show (((i + 1 : Nat) : Int) - 1) = (i : Int) from by omega, atC_nat, ihi 0 hj]
      have z1 : atC c ((i + 1 : Nat) : Int) (((0 : Nat) : Int) - 1) = 0 := by unfold atC; rw [if_neg (by omega), if_pos (by omega)]
      have z2 : atC c (((i + 1 : Nat) : Int) - 1) (((0 : Nat) : Int) - 1) = 0 := by unfold atC; rw [if_neg (by omega), if_pos (by omega)]
      rw [S2_step, S2_zero_col, S2_zero_col]
      have := wrap_core hx (A := S2 (dmW c) (i + 1) (0 + 1)) (B := 0) (C := 0) hb (by omega) (by omega) hd (by rw [e]; unfold dfW; rw [eA, z1, z2])
      omega
    | succ j ihj =>
      intro hj
      have ihj := ihj (by omega)
      have hd := good_entry hg (i := i + 1) (j := j + 1) (by rw [dmW_len]; exact hi) (by rw [dmW_len]; exact hj)
      have e : gi (gr (dmW c) (i + 1)) (j + 1) = dfW c (i + 1) (j + 1) := gi_tab hi hj
      have hx := hwf (i + 1) hi (j + 1) (by rw [hsq.2.2 (i + 1) hi]; exact hj)
      have b1 := S2_bound hg (a := i + 1) (b := j + 1 + 1) (by rw [dmW_len]; omega) (by rw [dmW_len]; omega)
      have b2 := S2_bound hg (a := i + 1 + 1) (b := j + 1) (by rw [dmW_len]; omega) (by rw [dmW_len]; omega)
      have b3 := S2_bound hg (a := i + 1) (b := j + 1) (by rw [dmW_len]; omega) (by rw [dmW_len]; omega)
      have eA : atC c (((i + 1 : Nat) : Int) - 1) ((j + 1 : Nat) : Int) = S2 (dmW c) (i + 1) (j + 1 + 1) := by
        rw [show (((i + 1 : Nat) : Int) - 1) = (i : Int) from by omega, atC_nat, ihi (j + 1) hj]
      have eB : atC c ((i + 1 : Nat) : Int) (((j + 1 : Nat) : Int) - 1) = S2 (dmW c) (i + 1 + 1) (j + 1) := by
        rw [show (((j + 1 : Nat) : Int) - 1) = (j : Int) from by omega, atC_nat, ihj]
      have eC : atC c (((i + 1 : Nat) : Int) - 1) (((j + 1 : Nat) : Int) - 1) = S2 (dmW c) (i + 1) (j + 1) := by
        rw [show (((i + 1 : Nat) : Int) - 1) = (i : Int) from by omega, show (((j + 1 : Nat) : Int) - 1) = (j : Int) from by omega, atC_nat, ihi j (by omega)]
      rw [S2_step]
      have := wrap_core hx b1 b2 b3 hd (by rw [e]; unfold dfW; rw [eA, eB, eC])
      omega

theorem dmW_dm {c : List (List Int)} (hsq : square c) (h : inRange c) : dmW c = dm c := by
  have hn := hsq.2.1
  refine eq_tab (dmW_len c) (fun i hi => tab_row hi) fun i j hi hj => ?_
  rw [show gi (gr (dmW c) i) j = dfW c i j from gi_tab hi hj]
  have h1 := atC_range h (i := i) (j := j) (by omega) (by omega)
  have h2 := atC_range h (i := (i : Int) - 1) (j := j) (by omega) (by omega)
  have h3 := atC_range h (i := i) (j := (j : Int) - 1) (by omega) (by omega)
  have h4 := atC_range h (i := (i : Int) - 1) (j := (j : Int) - 1) (by omega) (by omega)
  unfold dfW df
  rw [← atC_nat]
  rw [w64 (n := atC c i j - atC c ((i : Int) - 1) j) (by omega), w64 (n := atC c i j - atC c ((i : Int) - 1) j - atC c i ((j : Int) - 1)) (by omega), w64 (by omega)]

/-- corner sums of a sign matrix -/
def isCorners (c : List (List Int)) : Prop := square c ∧ inRange c ∧ good (dm c)
theorem corners_iff {c : List (List Int)} (hwf : WfM c) : square c ∧ good (dmW c) ↔ isCorners c := by
  constructor
  · rintro ⟨hsq, hg⟩
    have hr : inRange c := by
      intro i j hi hj
      rw [dmW_sums hsq hwf hg i hi j hj]
      have := S2_range hg (a := i + 1) (b := j + 1) (by rw [dmW_len]; omega) (by rw [dmW_len]; omega)
      omega
    exact ⟨hsq, hr, by rw [← dmW_dm hsq hr]; exact hg⟩
  · rintro ⟨hsq, hr, hg⟩
    exact ⟨hsq, by rw [dmW_dm hsq hr]; exact hg⟩

theorem wf_dmW {c : List (List Int)} : WfM (dmW c) := by
  intro i hi j hj
  rw [dmW_len] at hi
  have hj' : j < c.length := by have := tab_row (n := c.length) (c := c.length) (f := dfW c) hi; unfold dmW at hj; omega
  rw [show gi (gr (dmW c) i) j = dfW c i j from gi_tab hi hj']
  unfold dfW
  rw [wrap_eq (_ + _)]
  omega
theorem square_dmW {c : List (List Int)} (h : square c) : square (dmW c) := ⟨by rw [dmW_len]; exact h.1, by rw [dmW_len]; exact h.2.1, fun i hi => by rw [dmW_len] at hi ⊢; exact tab_row hi⟩

/-- all numbers lie between two bounds -/
def allIn (xs : List Int) (lo hi : Int) : Prop := ∀ i, i < xs.length → lo ≤ gi xs i ∧ gi xs i ≤ hi

set_option maxRecDepth 100000 in
set_option maxHeartbeats 800000 in
theorem l1All_any (ao : Option Addr) (c : Nat) (xs : List Int) (lo hi : Int) (w : World) (hn : xs.length ≤ 1048576) (hx : IntsAt w ao xs) :
    Calls Try.prog 61 #[.slice ao xs.length c, .int .i64 lo, .int .i64 hi] w fun e w' => Ans (allIn xs lo hi) e ∧ w = w' := by
  have hmx : xs.length ≤ 9223372036854775807 := by omega
  have Hx := Lib.hid hx
  clear hx
  go_enter Try.func61, Try.ntmps61
  go_wp2
  go_loop [11] (fun i => ∃ k : Nat, k ≤ xs.length ∧ i = .int .i64 k ∧ ∀ j, j < k → lo ≤ gi xs j ∧ gi xs j ≤ hi) (fun i => xs.length - (intOf i).toNat)
  case atStart => exact ⟨0, Nat.zero_le _, rfl, fun j hj => absurd hj (by omega)⟩
  case round =>
    obtain ⟨k, hk, rfl, hd⟩ := hrel
    have Hd := Lib.hid hd
    clear hd
    by_cases hlt : k < xs.length
    · obtain ⟨b1, o1, rfl, hc1⟩ := Hx.out k hlt
      go_wp2_with fail
      refine (l1In_any _ _ _ w).mono ?_
      rintro e w2 ⟨ha, rfl⟩
      by_cases hin : lo ≤ gi xs k ∧ gi xs k ≤ hi
      · have Hin := Lib.hid hin
        clear hin
        obtain rfl := ha.is Hin.out
        clear ha
        go_wp2
        go_round
        case rel =>
          refine ⟨k + 1, by omega, by go_num, fun j hj => ?_⟩
          by_cases e : j = k
          · subst e; exact Hin.out
          · exact Hd.out j (by omega)
        case measure => simp [intOf]; omega
      · have Hin := Lib.hid hin
        clear hin
        obtain rfl := ha.isnt Hin.out
        clear ha
        go_wp2
        go_ret
        exact ⟨Ans.no fun h => Hin.out (h k hlt), rfl⟩
    · obtain rfl : k = xs.length := by omega
      go_wp2
      go_ret
      exact ⟨Ans.yes Hd.out, rfl⟩

theorem dm_small {m : List (List Int)} (h : square m) : Small (dm m) := ⟨by rw [dm_len]; have := h.2.1; omega, fun i hi => by rw [dm_len] at hi; unfold dm; rw [tab_row hi]; have := h.2.1; omega⟩
end Go.Proofs.Ytncpoljjfhmkeaa

namespace Go.Proofs
open Go.Shelf
def Try.lays122_ren : Go.Shelf.Ren := ⟨fun | 122 => 116 | 215 => 128 | n => n, fun | 3 => 3 | 4 => 4 | n => n, fun | n => n⟩
theorem Try.lays122 : Go.Proofs.Lays.n122 Try.prog Try.lays122_ren := {
  mixed := by kernel_rfl
  f122 := Try.func116.trans (congrArg some (by kernel_rfl))
  f215 := Try.func128.trans (congrArg some (by kernel_rfl))
  t3 := Try.underlying3
  a3 := Try.isAgg3
  z3 := Try.sizeOf3
  v3 := Try.zeroValue3
  t4 := Try.underlying4
  a4 := Try.isAgg4
  z4 := Try.sizeOf4
  v4 := Try.zeroValue4 }
open Go.RowKit in
theorem Try.cmp_Compare_int (x y : Int) (w : World) :
    Calls Try.prog 116 #[.int .i64 x, .int .i64 y] w fun e w' => e = .returned (.int .i64 (Lib.compareInt x y)) ∧ w' = w := Any.cmp_Compare_int Try.lays122 x y w
#print axioms Try.cmp_Compare_int
end Go.Proofs

namespace Go.Proofs.Ytncpoljjfhmkeaa
open Go.RowKit

def bstr (l : List UInt8) : ByteArray := ⟨l.toArray⟩
/-- a number's sign as a byte -/
def sgc (x : Int) : UInt8 := if x = 1 then 43 else if x = -1 then 45 else 48
def rowB (xs : List Int) : Nat → List UInt8
  | 0 => []
  | k + 1 => rowB xs k ++ [sgc (gi xs k)]
def sepB (k : Nat) : List UInt8 := if k = 0 then [] else [47]
/-- the text of the first rows -/
def txtB (m : List (List Int)) : Nat → List UInt8
  | 0 => []
  | k + 1 => (txtB m k ++ sepB k) ++ rowB (gr m k) (gr m k).length

theorem rowB_len (xs : List Int) : ∀ k, (rowB xs k).length = k
  | 0 => rfl
  | k + 1 => by simp [rowB, rowB_len xs k]
theorem sepB_len (k : Nat) : (sepB k).length ≤ 1 := by unfold sepB; split <;> simp
theorem txtB_len (m : List (List Int)) : ∀ k, (∀ i, i < k → (gr m i).length ≤ 6) → (txtB m k).length ≤ 7 * k
  | 0, _ => by simp [txtB]
  | k + 1, h => by
    have h1 := txtB_len m k (fun i hi => h i (by omega))
    have h2 := h k (by omega)
    have h3 := sepB_len k
    simp only [txtB, List.length_append, rowB_len]
    omega

theorem add_one (x : List UInt8) (c : UInt8) (h : x.length ≤ 1000) (w : World) : (Op.stringOp .add (bstr x) ⟨#[c]⟩).run Try.prog w = .ok (.string (bstr (x ++ [c]))) w := by
  have := run_string_add_lists (P := Try.prog) w x [c] (by omega) (by simp)
  exact this

theorem cells_one (x : List UInt8) (c : UInt8) : Lib.byteCells x ++ [.int .u8 (c.toNat : Int)] = Lib.byteCells (x ++ [c]) := by simp [Lib.byteCells]

/-- the answer of a function that hands back a text and whether there is one -/
def SRes (p : Prop) (x : ByteArray) (e : Ending) : Prop := ∃ y b, e = .returned (.tuple #[.string y, .bool b]) ∧ ((p ∧ b = true ∧ y = x) ∨ (¬p ∧ b = false ∧ y = ⟨#[]⟩))
theorem SRes.yes {p : Prop} {x : ByteArray} (h : p) : SRes p x (.returned (.tuple #[.string x, .bool true])) := ⟨x, true, rfl, .inl ⟨h, rfl, rfl⟩⟩
theorem SRes.no {p : Prop} {x : ByteArray} (h : ¬p) : SRes p x (.returned (.tuple #[.string ⟨#[]⟩, .bool false])) := ⟨_, false, rfl, .inr ⟨h, rfl, rfl⟩⟩
theorem sres_same {p : Prop} {x y y' : ByteArray} {b b' : Bool} (h : (p ∧ b = true ∧ y = x) ∨ (¬p ∧ b = false ∧ y = ⟨#[]⟩)) (h' : (p ∧ b' = true ∧ y' = x) ∨ (¬p ∧ b' = false ∧ y' = ⟨#[]⟩)) : b = b' ∧ y = y' := by
  rcases h with ⟨h1, rfl, rfl⟩ | ⟨h1, rfl, rfl⟩ <;> rcases h' with ⟨k1, rfl, rfl⟩ | ⟨k1, rfl, rfl⟩
  · exact ⟨rfl, rfl⟩
  · exact absurd h1 k1
  · exact absurd k1 h1
  · exact ⟨rfl, rfl⟩

theorem index_sign (x : Int) (h : -1 ≤ x ∧ x ≤ 1) (w : World) : (Instr.index 9 (.string ⟨#[45, 48, 43]⟩) (.int .i64 (x + 1))).run Try.prog w = .ok (.int .u8 ((sgc x).toNat : Int)) w := by
  rw [run_index_string w 9 _ .i64 (x + 1) Try.underlying9]
  have hx : x = -1 ∨ x = 0 ∨ x = 1 := by omega
  rcases hx with rfl | rfl | rfl <;> rfl

end Go.Proofs.Ytncpoljjfhmkeaa

namespace Go.Proofs.Ytncpoljjfhmkeaa
open Go.RowKit

/-- the first k ends keep what a pattern asks -/
def patTo (p : List Int) (k : Nat) : Prop := ∀ i, i < k → (gi p i ≠ i ∧ gi p (gi p i).toNat = i) ∧ ∀ j : Nat, i < j → (j : Int) < gi p i → (i : Int) < gi p j ∧ gi p j < gi p i
theorem isPat.all {p : List Int} (h : isPat p) : allIn p 0 ((p.length : Int) - 1) := fun i hi => by have := h.inside i hi; omega
theorem isPat.to {p : List Int} (h : isPat p) : patTo p p.length := fun i hi => ⟨h.other i hi, h.apart i hi⟩
theorem isPat.of {p : List Int} (h1 : p.length % 2 = 0) (h2 : 2 ≤ p.length) (h3 : p.length ≤ 12) (h4 : allIn p 0 ((p.length : Int) - 1)) (h5 : patTo p p.length) : isPat p :=
  ⟨h1, h2, h3, fun i hi => by have := h4 i hi; omega, fun i hi => (h5 i hi).1, fun i hi => (h5 i hi).2⟩

set_option maxRecDepth 100000 in
set_option maxHeartbeats 1600000 in
theorem loIsPattern_any (ao : Option Addr) (c : Nat) (p : List Int) (w : World) (hn : p.length ≤ 1048576) (hx : IntsAt w ao p) :
    Calls Try.prog 56 #[.slice ao p.length c] w fun e w' => Ans (isPat p) e ∧ w = w' := by
  have hmx : p.length ≤ 9223372036854775807 := by omega
  have Hx := Lib.hid hx
  clear hx
  by_cases hev : p.length % 2 = 0
  · have hb0 : ((p.length : Int) % 2 == 1) = false := by simp; omega
    have Hev := Lib.hid hev
    clear hev
    by_cases h26 : 2 ≤ p.length ∧ p.length ≤ 12
    · obtain ⟨h2, h12⟩ := h26
      go_enter Try.func56, Try.ntmps56
      go_wp2_with fail
      refine (l1In_any _ _ _ w).mono ?_
      rintro e w2 ⟨ha, rfl⟩
      obtain rfl := ha.is ⟨by omega, by omega⟩
      clear ha
      go_wp2_with fail
      refine (l1All_any ao c p _ _ w hn Hx.out).mono ?_
      rintro e w2 ⟨ha, rfl⟩
      by_cases hall : allIn p 0 ((p.length : Int) - 1)
      · have Hall := Lib.hid hall
        clear hall
        obtain rfl := ha.is Hall.out
        clear ha
        go_wp2
        go_loop [27] (fun i => ∃ k : Nat, k ≤ p.length ∧ i = .int .i64 k ∧ patTo p k) (fun i => p.length - (intOf i).toNat)
        case atStart => exact ⟨0, Nat.zero_le _, rfl, fun i hi => absurd hi (by omega)⟩
        case round =>
          obtain ⟨k, hk, rfl, hd⟩ := hrel
          have Hd := Lib.hid hd
          clear hd
          by_cases hlt : k < p.length
          · obtain ⟨b1, o1, rfl, hc1⟩ := Hx.out k hlt
            have hin := Hall.out k hlt
            obtain ⟨x, hxe⟩ : ∃ x : Nat, gi p k = x := ⟨(gi p k).toNat, by omega⟩
            rw [hxe] at hc1 hin
            obtain ⟨b2, o2, e2, hc2⟩ := Hx.out x (by omega)
            cases e2
            have Hxe := Lib.hid hxe
            clear hxe
            by_cases h1 : x = k
            · have hb : ((x : Int) == (k : Int)) = true := by simp; omega
              have H1 := Lib.hid h1
              clear h1 hc2
              go_wp2
              go_ret
              exact ⟨Ans.no fun h => (h.other k hlt).1 (by rw [Hxe.out, H1.out]), rfl⟩
            · have hb : ((x : Int) == (k : Int)) = false := by simp; omega
              have H1 := Lib.hid h1
              clear h1
              by_cases h3 : gi p x = k
              · have H3 := Lib.hid h3
                rw [h3] at hc2
                have hb2 : ((k : Int) != (k : Int)) = false := by simp
                clear h3
                go_wp2
                go_loop [5] (fun j => ∃ t : Nat, k + 1 ≤ t ∧ (t ≤ x ∨ t = k + 1) ∧ j = .int .i64 t ∧ ∀ s : Nat, k < s → s < t → (k : Int) < gi p s ∧ gi p s < x) (fun j => x - (intOf j).toNat)
                case atStart => exact ⟨k + 1, Nat.le_refl _, .inr rfl, by go_num, fun s h1 h2 => absurd h1 (by omega)⟩
                case round =>
                  obtain ⟨t, ht1, ht2, rfl, hs⟩ := hrel
                  have Hs := Lib.hid hs
                  clear hs
                  by_cases htx : t < x
                  · obtain ⟨b3, o3, e3, hc3⟩ := Hx.out t (by omega)
                    cases e3
                    go_wp2_with fail
                    refine (l1In_any _ _ _ w).mono ?_
                    rintro e w2 ⟨ha, rfl⟩
                    by_cases hr : (k : Int) + 1 ≤ gi p t ∧ gi p t ≤ (x : Int) - 1
                    · have Hr := Lib.hid hr
                      clear hr
                      obtain rfl := ha.is Hr.out
                      clear ha
                      go_wp2
                      go_round
                      case rel =>
                        refine ⟨t + 1, by omega, .inl (by omega), by go_num, fun s h1 h2 => ?_⟩
                        by_cases e : s = t
                        · subst e; have := Hr.out; omega
                        · exact Hs.out s h1 (by omega)
                      case measure => simp [intOf]; omega
                    · have Hr := Lib.hid hr
                      clear hr
                      obtain rfl := ha.isnt Hr.out
                      clear ha
                      go_wp2
                      go_ret
                      refine ⟨Ans.no fun h => Hr.out ?_, rfl⟩
                      have := h.apart k hlt t (by omega) (by rw [Hxe.out]; omega)
                      rw [Hxe.out] at this
                      omega
                  · go_wp2
                    go_round
                    case rel =>
                      refine ⟨k + 1, by omega, by go_num, fun i hi => ?_⟩
                      by_cases e : i = k
                      · subst e
                        refine ⟨⟨by rw [Hxe.out]; have := H1.out; omega, by rw [Hxe.out, Int.toNat_natCast]; exact H3.out⟩, fun j h1 h2 => ?_⟩
                        rw [Hxe.out] at h2 ⊢
                        exact Hs.out j h1 (by omega)
                      · exact Hd.out i (by omega)
                    case measure => simp [intOf]; omega
              · have hb2 : (gi p x != (k : Int)) = true := by simp; omega
                have H3 := Lib.hid h3
                obtain ⟨y, hy⟩ : ∃ y, y = gi p x := ⟨_, rfl⟩
                rw [← hy] at hc2 hb2
                clear h3 hy
                go_wp2
                go_ret
                refine ⟨Ans.no fun h => H3.out ?_, rfl⟩
                have := (h.other k hlt).2
                rw [Hxe.out, Int.toNat_natCast] at this
                exact this
          · obtain rfl : k = p.length := by omega
            go_wp2
            go_ret
            exact ⟨Ans.yes (isPat.of Hev.out h2 h12 Hall.out Hd.out), rfl⟩
      · have Hall := Lib.hid hall
        clear hall
        obtain rfl := ha.isnt Hall.out
        clear ha
        go_wp2
        go_ret
        exact ⟨Ans.no fun h => Hall.out h.all, rfl⟩
    · have h26' : ¬(1 ≤ (p.length : Int) / 2 ∧ (p.length : Int) / 2 ≤ 6) := by have := Hev.out; omega
      have H26 := Lib.hid h26
      clear h26
      go_enter Try.func56, Try.ntmps56
      go_wp2_with fail
      refine (l1In_any _ _ _ w).mono ?_
      rintro e w2 ⟨ha, rfl⟩
      obtain rfl := ha.isnt h26'
      clear ha h26'
      go_wp2
      go_ret
      exact ⟨Ans.no fun h => H26.out ⟨h.lo, h.hi⟩, rfl⟩
  · have hb0 : ((p.length : Int) % 2 == 1) = true := by simp; omega
    have Hev := Lib.hid hev
    clear hev
    go_enter Try.func56, Try.ntmps56
    go_wp2
    go_ret
    exact ⟨Ans.no fun h => Hev.out h.even, rfl⟩

/-- the brackets of the first ends, as bytes -/
def brkB (p : List Int) : Nat → List UInt8
  | 0 => []
  | k + 1 => brkB p k ++ [if gi p k > k then 40 else 41]
theorem brkB_len (p : List Int) : ∀ k, (brkB p k).length = k
  | 0 => rfl
  | k + 1 => by simp [brkB, brkB_len p k]

end Go.Proofs.Ytncpoljjfhmkeaa

namespace Go.Proofs.Ytncpoljjfhmkeaa
open Go.RowKit

theorem ints_cells {w : World} {ad : Addr} {xs : List Int} {o : Obj} (h : IntsAt w (some ad) xs) : ∀ j u, (xs.map (Value.int .i64))[j]? = some u → (w.alloc o).cell? (ad.add j) = some u := by
  intro j u hj
  have hjl : j < xs.length := by
    have := (List.getElem?_eq_some_iff.1 hj).1
    simpa using this
  obtain ⟨b, o', e, hc⟩ := h j hjl
  cases e
  have e : (xs.map (Value.int .i64))[j]? = some (Value.int .i64 (gi xs j)) := by simp [gi, List.getD, hjl]
  rw [e] at hj
  cases hj
  rw [Addr.add_lit]
  exact Lib.cell?_alloc_some _ hc

set_option maxRecDepth 100000 in
set_option maxHeartbeats 400000 in
theorem l1Own_any (ao : Option Addr) (c : Nat) (xs : List Int) (w : World) (hn : xs.length ≤ 1048576) (hc0 : ao = none → c = 0) (hx : IntsAt w ao xs) :
    Calls Try.prog 62 #[.slice ao xs.length c] w fun e w' => ∃ v, e = .returned v ∧ OwnI w' w.heap.size v xs ∧ Below w.heap.size w w' := by
  obtain ⟨i0, hi, hz0, hz1, hz2⟩ := info_parts Try.info_int
  cases ao with
  | none =>
    obtain rfl : xs = [] := by
      cases xs with
      | nil => rfl
      | cons a r => obtain ⟨b, o, e, _⟩ := hx 0 (by simp); cases e
    obtain rfl := hc0 rfl
    clear hx
    go_enter Try.func62, Try.ntmps62
    go_wp2_with (at_builtin; refine wpList_append_own_none rfl _ _ 22 rfl w.heap.size 3 i0 1 Try.underlying22 hi _ _ _ rfl (World.ownsRow_made w #[] 0 (Nat.le_refl _) (Nat.zero_le _) rfl) rfl ?_)
    go_wp2
    go_ret
    exact ⟨_, rfl, World.ownsRow_made w #[] 0 (Nat.le_refl _) (Nat.zero_le _) rfl, (Below.refl _ _).alloc (Nat.le_refl _) _⟩
  | some ad =>
    have A := Lib.hid hx
    clear hx
    go_enter Try.func62, Try.ntmps62
    go_wp2_with (at_builtin; refine wpList_append_own _ rfl _ _ 22 rfl w.heap.size 3 i0 (.int .i64 0) 1 8 Try.underlying22 hi hz0 hz1 hz2 rfl (by decide) _ _ _ rfl (World.ownsRow_made w #[] 0 (Nat.le_refl _) (Nat.zero_le _) rfl) ad xs.length c (xs.map (Value.int .i64)) rfl ?qc1 ?qc2 ?qc3 ?qc4 ?qc5 ?qc6 ?_)
    case qc1 => simp
    case qc2 => exact ints_cells A.out
    case qc3 => intro u hu; obtain ⟨x, _, rfl⟩ := List.mem_map.1 hu; rfl
    case qc4 => unfold maxLen; omega
    case qc5 => omega
    case qc6 => simp
    intro v' w1 hown hgrow hnil
    go_wp2
    go_ret
    refine ⟨v', rfl, by simpa [OwnI] using hown, ?_⟩
    exact ((Below.refl _ w).alloc (Nat.le_refl _) _).grown hgrow (by simp) (by intro k hk; simp [Value.ownBlock] at hk; omega)

set_option maxRecDepth 100000 in
set_option maxHeartbeats 400000 in
theorem sClone_any (ao : Option Addr) (c : Nat) (xs : List Int) (w : World) (hn : xs.length ≤ 1048576) (hx : IntsAt w ao xs) :
    Calls Try.prog 65 #[.slice ao xs.length c] w fun e w' => ∃ v, e = .returned v ∧ OwnI w' w.heap.size v xs ∧ Below w.heap.size w w' := by
  obtain ⟨i0, hi, hz0, hz1, hz2⟩ := info_parts Try.info_int
  have q22 : ∀ (w : World) (a : Option Addr) (n c n' c' : Nat), (binOp .eql 22 (.slice a n c) (.slice none n' c')).run Try.prog w = .ok (.bool a.isNone) w := fun w a n c n' c' => Lib.run_eql_slice_nil w _ _ a n c n' c' Try.underlying22
  cases ao with
  | none =>
    obtain rfl : xs = [] := by
      cases xs with
      | nil => rfl
      | cons a r => obtain ⟨b, o, e, _⟩ := hx 0 (by simp); cases e
    clear hx
    go_enter Try.func65, Try.ntmps65
    go_wp2
    go_ret
    exact ⟨_, rfl, OwnI.nil _ _, Below.refl _ _⟩
  | some ad =>
    have A := Lib.hid hx
    clear hx
    go_enter Try.func65, Try.ntmps65
    go_wp2_with (at_builtin; refine wpList_append_own _ rfl _ _ 22 rfl w.heap.size 3 i0 (.int .i64 0) 1 8 Try.underlying22 hi hz0 hz1 hz2 rfl (by decide) _ _ _ rfl (World.ownsRow_made w #[] 0 (Nat.le_refl _) (Nat.zero_le _) rfl) ad xs.length c (xs.map (Value.int .i64)) rfl ?qc1 ?qc2 ?qc3 ?qc4 ?qc5 ?qc6 ?_)
    case qc1 => simp
    case qc2 => exact ints_cells A.out
    case qc3 => intro u hu; obtain ⟨x, _, rfl⟩ := List.mem_map.1 hu; rfl
    case qc4 => unfold maxLen; omega
    case qc5 => omega
    case qc6 => simp
    intro v' w1 hown hgrow hnil
    go_wp2
    go_ret
    refine ⟨v', rfl, by simpa [OwnI] using hown, ?_⟩
    exact ((Below.refl _ w).alloc (Nat.le_refl _) _).grown hgrow (by simp) (by intro k hk; simp [Value.ownBlock] at hk; omega)

/-- a slice that is written out -/
theorem ownsRow_built {e : TypeId} {base : Nat} (w : World) (vs : List Value) (hb : base ≤ w.heap.size) (hm : vs.length ≤ 9223372036854775807) :
    (w.alloc (.cells vs.toArray e)).ownsRow base e 1 (.slice (some ⟨w.heap.size, 0, none⟩) vs.length vs.length) vs.length vs :=
  ⟨by simp, .inr ⟨w.heap.size, vs.length, vs.toArray, rfl, hb, heap_alloc_new w _, Nat.le_refl _, hm, by simp, by simp⟩⟩

def slLen : Value → Nat
  | .slice _ n _ => n
  | _ => 0

/-- rows ahead of which a new one has been put: what append leaves of a slice of one row behind which all others come -/
theorem OwnP.front {w w1 : World} {B n : Nat} {v v' u : Value} {m : List (List Int)} {xs : List Int} {vs : List Value} (h : OwnP w B v n m n vs) (hu : OwnI w B u xs)
    (hne : ∀ j, j < n → ∀ g, (vs.getD j undef).ownBlock = some g → u.ownBlock ≠ some g)
    (h1 : w1.ownsRow B 22 1 v' (1 + n) ([u] ++ vs)) (hb : Below w.heap.size w w1) : OwnP w1 B v' (n + 1) (xs :: m) (n + 1) (u :: vs) := by
  refine ⟨by rw [Nat.add_comm]; exact h1, fun i hi => ?_, fun i j hij hj g hg => ?_⟩
  · cases i with
    | zero => exact hu.below hb
    | succ i =>
      have := (h.rows i (by omega)).below hb
      simpa [gr_cons_succ] using this
  · obtain ⟨j, rfl⟩ : ∃ k, j = k + 1 := ⟨j - 1, by omega⟩
    cases i with
    | zero =>
      intro hg2
      exact hne j (by omega) g (by simpa using hg2) (by simpa using hg)
    | succ i =>
      have := h.apart i j (by omega) (by omega) g (by simpa using hg)
      simpa using this
end Go.Proofs.Ytncpoljjfhmkeaa

namespace Go.Proofs.Ytncpoljjfhmkeaa
open Go.RowKit

theorem l1Most_any (a b : Int) (w : World) : Calls Try.prog 84 #[.int .i64 a, .int .i64 b] w fun e w' => e = .returned (.int .i64 (max a b)) ∧ w' = w := by
  by_cases h : b < a
  · have hm : max a b = a := by omega
    rw [hm]
    have hd : decide (b < a) = true := by simpa using h
    clear hm
    go_enter Try.func84, Try.ntmps84
    go_wp2
    go_ret
    exact ⟨rfl, rfl⟩
  · have hm : max a b = b := by omega
    rw [hm]
    have hd : decide (b < a) = false := by simpa using h
    clear hm
    go_enter Try.func84, Try.ntmps84
    go_wp2
    go_ret
    exact ⟨rfl, rfl⟩


set_option maxRecDepth 100000 in
set_option maxHeartbeats 400000 in
theorem l1Same_any (a1 a2 : Option Addr) (c1 c2 : Nat) (xs ys : List Int) (w : World) (hn : xs.length ≤ 1048576) (hn2 : ys.length ≤ 1048576) (h1 : IntsAt w a1 xs) (h2 : IntsAt w a2 ys) :
    Calls Try.prog 86 #[.slice a1 xs.length c1, .slice a2 ys.length c2] w fun e w' => e = .returned (.bool (xs == ys)) ∧ Q w w' := by
  have hm1 : xs.length ≤ 9223372036854775807 := by omega
  have hm2 : ys.length ≤ 9223372036854775807 := by omega
  have H1 := Lib.hid h1
  have H2 := Lib.hid h2
  clear h1 h2
  by_cases hl : ys.length = xs.length
  · have Hl := Lib.hid hl
    have hb : ((xs.length : Int) != (ys.length : Int)) = false := by simp; omega
    go_enter Try.func86, Try.ntmps86
    go_wp2
    go_loopw [13] (fun i wr => ∃ k : Nat, k ≤ xs.length ∧ i = .int .i64 k ∧ (∀ j, j < k → gi xs j = gi ys j) ∧ Q w wr) (fun i _ => xs.length - (intOf i).toNat)
    case atStart => exact ⟨0, Nat.zero_le _, rfl, fun j hj => absurd hj (by omega), Q.refl _⟩
    case round =>
      obtain ⟨k, hk, rfl, hr, hbr⟩ := hrel
      by_cases hlt : k < xs.length
      · obtain ⟨b1, o1, rfl, hc1⟩ := H1.out.below (hbr.below _) k hlt
        obtain ⟨b2, o2, rfl, hc2⟩ := H2.out.below (hbr.below _) k (by omega)
        have Hr := Lib.hid hr
        have Hbr := Lib.hid hbr
        by_cases e : gi xs k = gi ys k
        · have He := Lib.hid e
          rw [← e] at hc2
          obtain ⟨x, hx⟩ : ∃ x, x = gi xs k := ⟨_, rfl⟩
          rw [← hx] at hc1 hc2
          clear hx e hr hbr
          go_wp2
          go_quiet (fail)
          go_wp2
          go_roundw
          case rel => exact ⟨k + 1, by omega, by go_num, fun j hj => by
            by_cases ej : j = k
            · subst ej; exact He.out
            · exact Hr.out j (by omega), Hbr.out.drewN _⟩
          case measure => simp [intOf]; omega
        · have Hs := Lib.hid (show (xs == ys) = false by
            rw [beq_eq_false_iff_ne]
            intro h
            exact e (by rw [h]))
          have hne : (gi xs k != gi ys k) = true := by simpa using e
          obtain ⟨x, hx⟩ : ∃ x, x = gi xs k := ⟨_, rfl⟩
          obtain ⟨y, hy⟩ : ∃ y, y = gi ys k := ⟨_, rfl⟩
          rw [← hx] at hc1 hne
          rw [← hy] at hc2 hne
          clear hx hy e hr hbr
          go_wp2
          go_quiet (fail)
          go_wp2
          go_ret
          exact ⟨by rw [Hs.out]; rfl, Hbr.out.drewN _⟩
      · obtain rfl : k = xs.length := by omega
        have Hs := Lib.hid (show (xs == ys) = true by
          rw [beq_iff_eq]
          exact ext_gi Hl.out.symm hr)
        have Hbr := Lib.hid hbr
        clear hr hbr
        go_wp2
        go_ret
        exact ⟨by rw [Hs.out]; rfl, Hbr.out⟩
  · have Hs := Lib.hid (show (xs == ys) = false by
      rw [beq_eq_false_iff_ne]
      intro h
      exact hl (by rw [h]))
    have hb : ((xs.length : Int) != (ys.length : Int)) = true := by simp; omega
    go_enter Try.func86, Try.ntmps86
    go_wp2
    go_ret
    exact ⟨by rw [Hs.out]; rfl, Q.refl _⟩

end Go.Proofs.Ytncpoljjfhmkeaa

