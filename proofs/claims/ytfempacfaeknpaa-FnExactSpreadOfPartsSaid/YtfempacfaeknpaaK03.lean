/- Parts of proofs: contracts and plain facts. Conditions: as each says. -/
import Derived.Test.YtfempacfaeknpaaK02
import Derived.Laws.AppendOwnNone
import Derived.StillTailTactics
import Derived.Deep.Cut
namespace Go.Proofs.Ytfempacfaeknpaa
open Go.RowKit

/-- the rows backwards -/
def mir (m : List (List Int)) : List (List Int) := tab m.length m.length fun i j => gi (gr m i) (m.length - 1 - j)
theorem mir_len (m : List (List Int)) : (mir m).length = m.length := tab_len _ _ _
theorem mir_row {m : List (List Int)} {i : Nat} (h : i < m.length) : (gr (mir m) i).length = m.length := tab_row h
theorem gi_mir {m : List (List Int)} {i j : Nat} (hi : i < m.length) (hj : j < m.length) : gi (gr (mir m) i) j = gi (gr m i) (m.length - 1 - j) := gi_tab hi hj
theorem square.mir {m : List (List Int)} (h : square m) : square (mir m) := ⟨by rw [mir_len]; exact h.1, by rw [mir_len]; exact h.2.1, fun i hi => by rw [mir_len] at hi ⊢; exact mir_row hi⟩
/-- turned clockwise -/
def cw (m : List (List Int)) : List (List Int) := mir (tr m)
theorem cw_len (m : List (List Int)) : (cw m).length = m.length := by unfold cw; rw [mir_len, tr_len]
theorem cw_row {m : List (List Int)} {i : Nat} (h : i < m.length) : (gr (cw m) i).length = m.length := by unfold cw; rw [mir_row (by rw [tr_len]; exact h), tr_len]
theorem gi_cw {m : List (List Int)} {i j : Nat} (hi : i < m.length) (hj : j < m.length) : gi (gr (cw m) i) j = gi (gr m (m.length - 1 - j)) i := by
  unfold cw
  rw [gi_mir (by rw [tr_len]; exact hi) (by rw [tr_len]; exact hj), tr_len, gi_tr hi (by omega)]
theorem square.cw {m : List (List Int)} (h : square m) : square (cw m) := h.tr.mir

/-- the answer of a function that hands back a table and whether there is one -/
def MRes (p : Prop) (r : List (List Int)) (w : World) (B : Nat) (e : Ending) : Prop :=
  ∃ v b r', e = .returned (.tuple #[v, .bool b]) ∧ OwnM w B v r' ∧ ((p ∧ b = true ∧ r' = r) ∨ (¬p ∧ b = false ∧ r' = []))
theorem MRes.yes {p : Prop} {r : List (List Int)} {w : World} {B : Nat} {v : Value} (h : p) (ho : OwnM w B v r) : MRes p r w B (.returned (.tuple #[v, .bool true])) := ⟨v, true, r, rfl, ho, .inl ⟨h, rfl, rfl⟩⟩
theorem MRes.no {p : Prop} {r : List (List Int)} {w : World} {B : Nat} (h : ¬p) : MRes p r w B (.returned (.tuple #[.slice none 0 0, .bool false])) := ⟨_, false, [], rfl, OwnM.nil _ _, .inr ⟨h, rfl, rfl⟩⟩


end Go.Proofs.Ytfempacfaeknpaa

namespace Go.Proofs.Ytfempacfaeknpaa
open Go.RowKit

theorem OwnP.only {w w' : World} {S : Nat → Prop} {B n k : Nat} {v : Value} {m : List (List Int)} {vs : List Value} (h : OwnP w B v n m k vs) (ho : OnlyW S w w') (hS : ∀ g, S g → g < B) : OwnP w' B v n m k vs := by
  refine ⟨ownsRow_only h.top ho (fun g hg hs => ?_), fun i hi => ownsRow_only (h.rows i hi) ho (fun g hg hs => ?_), h.apart⟩
  · have h1 := (World.ownsRow.lt h.top g hg).1
    have h2 := hS g hs
    omega
  · have h1 := ((h.rows i hi).lt g hg).1
    have h2 := hS g hs
    omega

/-- the blocks of the rows -/
theorem OwnP.span {w : World} {B n : Nat} {v : Value} {m : List (List Int)} {vs : List Value} (h : OwnP w B v n m n vs) {g : Nat} (hg : ∃ i, i < n ∧ (vs.getD i undef).ownBlock = some g) : B ≤ g ∧ g < w.heap.size := by
  obtain ⟨i, hi, e⟩ := hg
  exact (h.rows i hi).lt g e

theorem OwnP.at {w : World} {B n c : Nat} {ao : Option Addr} {m : List (List Int)} {vs : List Value} (h : OwnP w B (.slice ao n c) n m n vs) (hn : m.length = n) : MatAt w ao m := by
  subst hn
  obtain ⟨ao', c', hv, _, _, hm⟩ := OwnM.read ⟨vs, h⟩
  obtain ⟨rfl, -, rfl⟩ := (Value.slice.injEq _ _ _ _ _ _).mp hv
  exact hm

theorem OwnM.open {w : World} {B : Nat} {v : Value} {m : List (List Int)} (h : OwnM w B v m) : ∃ ao c vs, v = .slice ao m.length c ∧ OwnP w B (.slice ao m.length c) m.length m m.length vs ∧ m.length ≤ c ∧ c ≤ 9223372036854775807 := by
  obtain ⟨ao, c, hv, h1, h2, _⟩ := h.read
  obtain ⟨vs, h⟩ := h
  exact ⟨ao, c, vs, hv, by rw [← hv]; exact h, h1, h2⟩

theorem mres_same {p : Prop} {r q : List (List Int)} {b : Bool} (h : (p ∧ b = true ∧ q = r) ∨ (¬p ∧ b = false ∧ q = [])) :
    ∀ (b' : Bool) (q' : List (List Int)), ((p ∧ b' = true ∧ q' = r) ∨ (¬p ∧ b' = false ∧ q' = [])) → b = b' ∧ q = q' := by
  intro b' q' h'
  rcases h with ⟨h1, rfl, rfl⟩ | ⟨h1, rfl, rfl⟩ <;> rcases h' with ⟨k1, rfl, rfl⟩ | ⟨k1, rfl, rfl⟩
  · exact ⟨rfl, rfl⟩
  · exact absurd h1 k1
  · exact absurd k1 h1
  · exact ⟨rfl, rfl⟩

theorem own_at {w : World} {B n c : Nat} {ao : Option Addr} {xs : List Int} (h : OwnI w B (.slice ao n c) xs) : IntsAt w ao xs := by
  obtain ⟨ao', c', hv, _, _, hx⟩ := h.read
  obtain ⟨rfl, -, rfl⟩ := (Value.slice.injEq _ _ _ _ _ _).mp hv
  exact hx

/-- the last t numbers of row k, backwards -/
def backTo (m : List (List Int)) (k t : Nat) : List Int := (List.range t).map fun i => gi (gr m k) (m.length - 1 - i)
theorem backTo_succ (m : List (List Int)) (k t : Nat) : backTo m k (t + 1) = backTo m k t ++ [gi (gr m k) (m.length - 1 - t)] := by simp [backTo, List.range_succ]
theorem backTo_len (m : List (List Int)) (k t : Nat) : (backTo m k t).length = t := by simp [backTo]
theorem backTo_mir {m : List (List Int)} {k : Nat} (hk : k < m.length) : backTo m k m.length = gr (mir m) k := by unfold mir; rw [gr_tab hk]; rfl

end Go.Proofs.Ytfempacfaeknpaa

namespace Go.Proofs.Ytfempacfaeknpaa
open Go.RowKit

def sumF (f : Nat → Int) : Nat → Int
  | 0 => 0
  | k + 1 => sumF f k + f k

theorem sumF_congr {f g : Nat → Int} {k : Nat} (h : ∀ i, i < k → f i = g i) : sumF f k = sumF g k := by
  induction k with
  | zero => rfl
  | succ k ih => simp only [sumF]; rw [ih (fun i hi => h i (by omega)), h k (by omega)]

/-- sums of numbers of at most B -/
theorem sumF_bound {f : Nat → Int} {B : Int} : ∀ {k : Nat}, (∀ i, i < k → -B ≤ f i ∧ f i ≤ B) → -(k * B) ≤ sumF f k ∧ sumF f k ≤ k * B
  | 0, _ => by simp [sumF]
  | k + 1, h => by
    have h1 := sumF_bound (k := k) (fun i hi => h i (by omega))
    have h2 := h k (by omega)
    simp only [sumF]
    have e : ((k + 1 : Nat) : Int) * B = k * B + B := by
      rw [show ((k + 1 : Nat) : Int) = (k : Int) + 1 from by omega, Int.add_mul, Int.one_mul]
    omega

theorem good_entry {m : List (List Int)} (h : good m) {i j : Nat} (hi : i < m.length) (hj : j < m.length) : -1 ≤ gi (gr m i) j ∧ gi (gr m i) j ≤ 1 := by
  have hl := h.1.2.2 i hi
  have h1 := (h.2.1 i hi).1 j (by omega)
  have h2 := (h.2.1 i hi).1 (j + 1) (by omega)
  simp only [sumK] at h2
  omega

def isNeg (x : Int) : Int := if x < 0 then 1 else 0
def isM1 (x : Int) : Int := if x = -1 then 1 else 0

/-- the sum over all numbers of a table of n rows of n numbers -/
def sum2 (f : Int → Int) (m : List (List Int)) : Int := sumF (fun i => sumF (fun j => f (gi (gr m i) j)) m.length) m.length

/-- how many minus ones -/
def mcount (m : List (List Int)) : Int := sum2 isNeg m

theorem mcount_m1 {m : List (List Int)} (h : good m) : sum2 isM1 m = mcount m := by
  refine sumF_congr fun i hi => sumF_congr fun j hj => ?_
  have := good_entry h hi hj
  unfold isM1 isNeg
  by_cases e : gi (gr m i) j = -1
  · rw [if_pos e, if_pos (by omega)]
  · rw [if_neg e, if_neg (by omega)]

set_option maxRecDepth 100000 in
set_option maxHeartbeats 400000 in
theorem itself_any (x : Int) (w : World) :
    Calls Try.prog 111 #[.int .i64 x] w fun e w' => e = .returned (.int .i64 x) ∧ w = w' := by
  go_enter Try.func111, Try.ntmps111
  go_wp2
  go_ret
  exact ⟨rfl, rfl⟩

def idI (x : Int) : Int := x
theorem itself_id (x : Int) (w : World) : Calls Try.prog 111 #[.int .i64 x] w fun e w' => e = .returned (.int .i64 (idI x)) ∧ w = w' := itself_any x w

set_option maxRecDepth 100000 in
set_option maxHeartbeats 800000 in
theorem sumOfInt_itself (ao : Option Addr) (c : Nat) (xs : List Int) (w : World)
    (hn : xs.length ≤ 1048576) (hbd : ∀ k, k ≤ xs.length → -1000000 ≤ sumF (fun i => idI (gi xs i)) k ∧ sumF (fun i => idI (gi xs i)) k ≤ 1000000) (hx : IntsAt w ao xs) :
    Calls Try.prog 108 #[.slice ao xs.length c, .func (.func 111) #[] #[]] w fun e w' => e = .returned (.int .i64 (sumF (fun i => idI (gi xs i)) xs.length)) ∧ w = w' := by
  have hmx : xs.length ≤ 9223372036854775807 := by omega
  have Hx := Lib.hid hx
  have Hbd := Lib.hid hbd
  clear hx hbd
  go_enter Try.func108, Try.ntmps108
  go_wp2
  go_loop [5, 10] (fun s i => ∃ k : Nat, k ≤ xs.length ∧ i = .int .i64 k ∧ s = .int .i64 (sumF (fun i => idI (gi xs i)) k)) (fun _ i => xs.length - (intOf i).toNat)
  case atStart => exact ⟨0, Nat.zero_le _, rfl, rfl⟩
  case round =>
    obtain ⟨k, hk, rfl, rfl⟩ := hrel
    by_cases hlt : k < xs.length
    · obtain ⟨b1, o1, rfl, hc1⟩ := Hx.out k hlt
      have e1 : sumF (fun i => idI (gi xs i)) (k + 1) = sumF (fun i => idI (gi xs i)) k + idI (gi xs k) := rfl
      have hb1 := Hbd.out k hk
      have hb2 := Hbd.out (k + 1) (by omega)
      rw [e1] at hb2
      have E1 := Lib.hid e1
      clear e1
      obtain ⟨s, hs⟩ : ∃ s, s = sumF (fun i => idI (gi xs i)) k := ⟨_, rfl⟩
      obtain ⟨y, hy⟩ : ∃ y, y = idI (gi xs k) := ⟨_, rfl⟩
      have hh := itself_id (gi xs k) w
      rw [← hs, ← hy] at hb2
      rw [← hs] at hb1 ⊢
      have HH2 := Lib.hid hh
      have Hs := Lib.hid hs
      have Hy := Lib.hid hy
      clear hh hs hy
      go_wp2_with fail
      refine HH2.out.mono ?_
      rintro e w2 ⟨rfl, rfl⟩
      rw [← Hy.out]
      go_wp2
      go_round
      case rel => exact ⟨k + 1, by omega, by go_num, by rw [E1.out, ← Hs.out, ← Hy.out]⟩
      case measure => simp [intOf]; omega
    · obtain rfl : k = xs.length := by omega
      go_wp2
      go_ret
      exact ⟨rfl, rfl⟩

theorem m1_bound (xs : List Int) (k : Nat) (hk : k ≤ 1000000) : -1000000 ≤ sumF (fun i => isM1 (gi xs i)) k ∧ sumF (fun i => isM1 (gi xs i)) k ≤ 1000000 := by
  have := sumF_bound (f := fun i => isM1 (gi xs i)) (B := 1) (k := k) (fun i _ => by unfold isM1; split <;> omega)
  omega

theorem rowm1_bound (m : List (List Int)) {n k : Nat} (hn : n ≤ 6) (hk : k ≤ 6) : -1000000 ≤ sumF (fun i => sumF (fun j => isM1 (gi (gr m i) j)) n) k ∧ sumF (fun i => sumF (fun j => isM1 (gi (gr m i) j)) n) k ≤ 1000000 := by
  have := sumF_bound (f := fun i => sumF (fun j => isM1 (gi (gr m i) j)) n) (B := 6) (k := k) (fun i _ => by
    have := sumF_bound (f := fun j => isM1 (gi (gr m i) j)) (B := 1) (k := n) (fun j _ => by unfold isM1; split <;> omega)
    omega)
  omega

theorem neg_bound (m : List (List Int)) {n k : Nat} (hn : n ≤ 6) (hk : k ≤ 6) : 0 ≤ sumF (fun i => sumF (fun j => isNeg (gi (gr m i) j)) n) k ∧ sumF (fun i => sumF (fun j => isNeg (gi (gr m i) j)) n) k ≤ 36 := by
  have h0 : ∀ (xs : List Int) t, 0 ≤ sumF (fun j => isNeg (gi xs j)) t ∧ sumF (fun j => isNeg (gi xs j)) t ≤ t := by
    intro xs t
    induction t with
    | zero => simp [sumF]
    | succ t ih =>
      have : 0 ≤ isNeg (gi xs t) ∧ isNeg (gi xs t) ≤ 1 := by unfold isNeg; split <;> omega
      simp only [sumF]
      omega
  have h1 : ∀ t, 0 ≤ sumF (fun i => sumF (fun j => isNeg (gi (gr m i) j)) n) t ∧ sumF (fun i => sumF (fun j => isNeg (gi (gr m i) j)) n) t ≤ t * 6 := by
    intro t
    induction t with
    | zero => simp [sumF]
    | succ t ih =>
      have := h0 (gr m t) n
      simp only [sumF]
      omega
  have := h1 k
  omega
theorem neg_bound1 (xs : List Int) {t : Nat} : 0 ≤ sumF (fun j => isNeg (gi xs j)) t ∧ sumF (fun j => isNeg (gi xs j)) t ≤ t := by
  induction t with
  | zero => simp [sumF]
  | succ t ih =>
    have : 0 ≤ isNeg (gi xs t) ∧ isNeg (gi xs t) ≤ 1 := by unfold isNeg; split <;> omega
    simp only [sumF]
    omega

set_option maxRecDepth 100000 in
set_option maxHeartbeats 800000 in
theorem sgMinus_any (ao : Option Addr) (c : Nat) (m : List (List Int)) (w : World) (hsq : square m) (hm : MatAt w ao m) :
    Calls Try.prog 116 #[.slice ao m.length c] w fun e w' => e = .returned (.int .i64 (mcount m)) ∧ w = w' := by
  have hn := hsq.2.1
  have hmx : m.length ≤ 9223372036854775807 := by omega
  have Hm := Lib.hid hm
  have Hsq := Lib.hid hsq
  clear hm hsq
  go_enter Try.func116, Try.ntmps116
  go_wp2
  go_loop [3, 10] (fun s i => ∃ k : Nat, k ≤ m.length ∧ i = .int .i64 k ∧ s = .int .i64 (sumF (fun i => sumF (fun j => isNeg (gi (gr m i) j)) m.length) k)) (fun _ i => m.length - (intOf i).toNat)
  case atStart => exact ⟨0, Nat.zero_le _, rfl, rfl⟩
  case round =>
    obtain ⟨k, hk, rfl, rfl⟩ := hrel
    have hbk := neg_bound m hn (show k ≤ 6 by omega)
    by_cases hlt : k < m.length
    · obtain ⟨b1, o1, r1, d1, rfl, hc1, hr1, _, _⟩ := Hm.out k hlt
      rw [Hsq.out.2.2 k hlt] at hc1
      have Hr1 := Lib.hid hr1
      have e1 : sumF (fun i => sumF (fun j => isNeg (gi (gr m i) j)) m.length) (k + 1) = sumF (fun i => sumF (fun j => isNeg (gi (gr m i) j)) m.length) k + sumF (fun j => isNeg (gi (gr m k) j)) m.length := rfl
      have E1 := Lib.hid e1
      clear hr1 e1
      obtain ⟨s, hs⟩ : ∃ s, s = sumF (fun i => sumF (fun j => isNeg (gi (gr m i) j)) m.length) k := ⟨_, rfl⟩
      rw [← hs] at hbk ⊢
      have Hs := Lib.hid hs
      clear hs
      go_wp2
      go_loop [3, 16] (fun s' i => ∃ t : Nat, t ≤ m.length ∧ i = .int .i64 t ∧ s' = .int .i64 (s + sumF (fun j => isNeg (gi (gr m k) j)) t)) (fun _ i => m.length - (intOf i).toNat)
      case atStart => exact ⟨0, Nat.zero_le _, rfl, by simp [sumF]⟩
      case round =>
        obtain ⟨t, ht, rfl, rfl⟩ := hrel
        have hbt := neg_bound1 (gr m k) (t := t)
        by_cases htl : t < m.length
        · obtain ⟨b2, o2, rfl, hc2⟩ := Hr1.out t (by rw [Hsq.out.2.2 k hlt]; exact htl)
          have e2 : sumF (fun j => isNeg (gi (gr m k) j)) (t + 1) = sumF (fun j => isNeg (gi (gr m k) j)) t + isNeg (gi (gr m k) t) := rfl
          have E2 := Lib.hid e2
          clear e2
          obtain ⟨u, hu⟩ : ∃ u, u = sumF (fun j => isNeg (gi (gr m k) j)) t := ⟨_, rfl⟩
          rw [← hu] at hbt ⊢
          have Hu := Lib.hid hu
          clear hu
          by_cases hx : gi (gr m k) t < 0
          · have e3 : isNeg (gi (gr m k) t) = 1 := if_pos hx
            have E3 := Lib.hid e3
            clear e3
            go_wp2
            go_round
            case rel => exact ⟨t + 1, by omega, by go_num, by rw [E2.out, ← Hu.out, E3.out]; go_num⟩
            case measure => simp [intOf]; omega
          · have e3 : isNeg (gi (gr m k) t) = 0 := if_neg hx
            have E3 := Lib.hid e3
            clear e3
            go_wp2
            go_round
            case rel => exact ⟨t + 1, by omega, by go_num, by rw [E2.out, ← Hu.out, E3.out]; go_num⟩
            case measure => simp [intOf]; omega
        · obtain rfl : t = m.length := by omega
          go_wp2
          go_round
          case rel => exact ⟨k + 1, by omega, by go_num, by rw [E1.out, ← Hs.out]⟩
          case measure => simp [intOf]; omega
    · obtain rfl : k = m.length := by omega
      go_wp2
      go_ret
      exact ⟨rfl, rfl⟩
end Go.Proofs.Ytfempacfaeknpaa

namespace Go.Proofs.Ytfempacfaeknpaa

/-- the sum over the numbers of a row, of what f tells of a place and a number; over some rows -/
def sumR (f : Nat → Int → Int) (row : List Int) : Int := sumF (fun i => f i (gi row i)) row.length
def sumT (f : Nat → Int → Int) (rows : List (List Int)) (k : Nat) : Int := sumF (fun j => sumR f (gr rows j)) k

def fOne (_ : Nat) (_ : Int) : Int := 1
def fSpec (i : Nat) (x : Int) : Int := if x ≤ i then 1 else 0
def fEq (n : Int) (_ : Nat) (x : Int) : Int := if x = n then 1 else 0
def fId (_ : Nat) (x : Int) : Int := x

theorem sumR_one (row : List Int) : sumR fOne row = row.length := by
  unfold sumR fOne
  generalize row.length = n
  induction n with
  | zero => rfl
  | succ n ih => simp only [sumF]; rw [ih]; omega

theorem gi_app_left {a b : List Int} {i : Nat} (h : i < a.length) : gi (a ++ b) i = gi a i := by simp [gi, List.getD, List.getElem?_append_left h]
theorem gi_app_right {a b : List Int} {i : Nat} : gi (a ++ b) (a.length + i) = gi b i := by simp [gi, List.getD, List.getElem?_append_right]
theorem sumF_app (F : Nat → Int) (a b : Nat) : sumF F (a + b) = sumF F a + sumF (fun i => F (a + i)) b := by
  induction b with
  | zero => simp [sumF]
  | succ b ih => rw [← Nat.add_assoc]; simp only [sumF]; rw [ih]; omega

/-- numbers without their places: sums over rows put together -/
theorem sumR_app (f : Int → Int) (a b : List Int) : sumR (fun _ => f) (a ++ b) = sumR (fun _ => f) a + sumR (fun _ => f) b := by
  unfold sumR
  rw [List.length_append, sumF_app]
  congr 1
  · exact sumF_congr fun i hi => by rw [gi_app_left hi]
  · exact sumF_congr fun i hi => by rw [gi_app_right]
theorem take_flat {rows : List (List Int)} {k : Nat} (h : k < rows.length) : (rows.take (k + 1)).flatten = (rows.take k).flatten ++ gr rows k := by
  rw [List.take_succ_eq_append_getElem h, List.flatten_append, gr_lt h]
  simp
theorem sumR_flat (f : Int → Int) (rows : List (List Int)) : ∀ k, k ≤ rows.length → sumR (fun _ => f) (rows.take k).flatten = sumT (fun _ => f) rows k
  | 0, _ => by simp [sumR, sumT, sumF]
  | k + 1, h => by
    rw [take_flat (by omega), sumR_app, sumR_flat f rows k (by omega)]
    rfl
theorem sumR_flatten (f : Int → Int) (rows : List (List Int)) : sumR (fun _ => f) rows.flatten = sumT (fun _ => f) rows rows.length := by
  have := sumR_flat f rows rows.length (Nat.le_refl _)
  rwa [List.take_length] at this
theorem flat_len {rows : List (List Int)} {B : Nat} (h : ∀ i, i < rows.length → (gr rows i).length ≤ B) : ∀ k, k ≤ rows.length → (rows.take k).flatten.length ≤ k * B
  | 0, _ => by simp
  | k + 1, hk => by
    rw [take_flat (by omega), List.length_append, Nat.succ_mul]
    have := flat_len h k (by omega)
    have := h k (by omega)
    omega

/-- each number tells 0 to B -/
theorem sumR_part_bd {f : Nat → Int → Int} {row : List Int} {B : Int} (h : ∀ i, i < row.length → 0 ≤ f i (gi row i) ∧ f i (gi row i) ≤ B) : ∀ k, k ≤ row.length → 0 ≤ sumF (fun i => f i (gi row i)) k ∧ sumF (fun i => f i (gi row i)) k ≤ k * B
  | 0, _ => by simp [sumF]
  | k + 1, hk => by
    have ih := sumR_part_bd h k (by omega)
    have := h k (by omega)
    simp only [sumF]
    have e : ((k + 1 : Nat) : Int) * B = k * B + B := by rw [show ((k + 1 : Nat) : Int) = (k : Int) + 1 from by omega, Int.add_mul, Int.one_mul]
    omega
theorem sumT_bd {f : Nat → Int → Int} {rows : List (List Int)} {B : Int} (h : ∀ j, j < rows.length → 0 ≤ sumR f (gr rows j) ∧ sumR f (gr rows j) ≤ B) : ∀ k, k ≤ rows.length → 0 ≤ sumT f rows k ∧ sumT f rows k ≤ k * B
  | 0, _ => by simp [sumT, sumF]
  | k + 1, hk => by
    have ih := sumT_bd h k (by omega)
    have := h k (by omega)
    unfold sumT at ih ⊢
    simp only [sumF]
    have e : ((k + 1 : Nat) : Int) * B = k * B + B := by rw [show ((k + 1 : Nat) : Int) = (k : Int) + 1 from by omega, Int.add_mul, Int.one_mul]
    omega
theorem sumT_step (f : Nat → Int → Int) (rows : List (List Int)) (k : Nat) : sumT f rows (k + 1) = sumT f rows k + sumR f (gr rows k) := rfl

/-- what is told of the parts of partitions for 6 is 0 to 6 -/
def Tells (f : Nat → Int → Int) : Prop := ∀ i x, 1 ≤ x → x ≤ 6 → 0 ≤ f i x ∧ f i x ≤ 6
theorem tells_one : Tells fOne := fun _ _ _ _ => by unfold fOne; omega
theorem tells_spec : Tells fSpec := fun i x _ _ => by unfold fSpec; by_cases h : x ≤ (i : Int) <;> simp [h]
theorem tells_eq (n : Int) : Tells (fEq n) := fun i x _ _ => by unfold fEq; by_cases h : x = n <;> simp [h]
theorem tells_id : Tells fId := fun _ x _ _ => by unfold fId; omega
theorem DpGood.row_bd {f : Nat → Int → Int} (hf : Tells f) {rows : List (List Int)} (h : DpGood rows 6) {j : Nat} (hj : j < rows.length) : ∀ k, k ≤ (gr rows j).length → 0 ≤ sumF (fun i => f i (gi (gr rows j) i)) k ∧ sumF (fun i => f i (gi (gr rows j) i)) k ≤ 30 := by
  intro k hk
  have h1 := sumR_part_bd (f := f) (row := gr rows j) (B := 6) (fun i hi => hf i _ ((h.2 j hj).1.2.2.1 i hi).1 (by have := ((h.2 j hj).1.2.2.1 i hi).2; omega)) k hk
  have := (h.bounds (by omega)).2 j hj
  omega
theorem DpGood.sum_bd {f : Nat → Int → Int} (hf : Tells f) {rows : List (List Int)} (h : DpGood rows 6) : ∀ k, k ≤ rows.length → 0 ≤ sumT f rows k ∧ sumT f rows k ≤ 150 := by
  intro k hk
  have h1 := sumT_bd (f := f) (rows := rows) (B := 30) (fun j hj => h.row_bd hf hj _ (Nat.le_refl _)) k hk
  have := (h.bounds (by omega)).1
  omega
end Go.Proofs.Ytfempacfaeknpaa

namespace Go.Proofs.Ytfempacfaeknpaa
open Go.RowKit

/-- the answer of a function that hands back a number and whether there is one -/
def IRes (p : Prop) (x : Int) (e : Ending) : Prop := ∃ y b, e = .returned (.tuple #[.int .i64 y, .bool b]) ∧ ((p ∧ b = true ∧ y = x) ∨ (¬p ∧ b = false ∧ y = 0))
theorem IRes.yes {p : Prop} {x : Int} (h : p) : IRes p x (.returned (.tuple #[.int .i64 x, .bool true])) := ⟨x, true, rfl, .inl ⟨h, rfl, rfl⟩⟩
theorem IRes.no {p : Prop} {x : Int} (h : ¬p) : IRes p x (.returned (.tuple #[.int .i64 0, .bool false])) := ⟨0, false, rfl, .inr ⟨h, rfl, rfl⟩⟩
theorem ires_same {p : Prop} {x y y' : Int} {b b' : Bool} (h : (p ∧ b = true ∧ y = x) ∨ (¬p ∧ b = false ∧ y = 0)) (h' : (p ∧ b' = true ∧ y' = x) ∨ (¬p ∧ b' = false ∧ y' = 0)) : b = b' ∧ y = y' := by
  rcases h with ⟨h1, rfl, rfl⟩ | ⟨h1, rfl, rfl⟩ <;> rcases h' with ⟨k1, rfl, rfl⟩ | ⟨k1, rfl, rfl⟩
  · exact ⟨rfl, rfl⟩
  · exact absurd h1 k1
  · exact absurd k1 h1
  · exact ⟨rfl, rfl⟩
/-- .. a bool and whether there is one -/
def BRes (p q : Prop) (e : Ending) : Prop := ∃ y b, e = .returned (.tuple #[.bool y, .bool b]) ∧ ((p ∧ b = true ∧ (y = true ↔ q)) ∨ (¬p ∧ b = false ∧ y = false))
theorem bres_same {p q : Prop} {y y' b b' : Bool} (h : (p ∧ b = true ∧ (y = true ↔ q)) ∨ (¬p ∧ b = false ∧ y = false)) (h' : (p ∧ b' = true ∧ (y' = true ↔ q)) ∨ (¬p ∧ b' = false ∧ y' = false)) : b = b' ∧ y = y' := by
  rcases h with ⟨h1, rfl, h2⟩ | ⟨h1, rfl, rfl⟩ <;> rcases h' with ⟨k1, rfl, k2⟩ | ⟨k1, rfl, rfl⟩
  · have := h2.trans k2.symm
    refine ⟨rfl, ?_⟩
    cases y <;> cases y' <;> simp_all
  · exact absurd h1 k1
  · exact absurd k1 h1
  · exact ⟨rfl, rfl⟩

/-- the first number that isn't 0 of a line whose signs alternate is 1 -/
theorem first_one {xs : List Int} (h : lineOk xs) : ∃ j, j < xs.length ∧ gi xs j = 1 ∧ ∀ i, i < j → gi xs i = 0 := by
  have key : ∀ k, k ≤ xs.length → (∃ j, j < k ∧ gi xs j = 1 ∧ ∀ i, i < j → gi xs i = 0) ∨ (sumK xs k = 0 ∧ ∀ i, i < k → gi xs i = 0) := by
    intro k
    induction k with
    | zero => exact fun _ => .inr ⟨rfl, fun i hi => absurd hi (by omega)⟩
    | succ k ih =>
      intro hk
      rcases ih (by omega) with ⟨j, hj, h1, h2⟩ | ⟨h1, h2⟩
      · exact .inl ⟨j, by omega, h1, h2⟩
      · have hb := h.1 (k + 1) hk
        simp only [sumK] at hb
        by_cases e : gi xs k = 0
        · refine .inr ⟨by simp only [sumK]; omega, fun i hi => ?_⟩
          by_cases e2 : i = k
          · subst e2; exact e
          · exact h2 i (by omega)
        · exact .inl ⟨k, by omega, by omega, h2⟩
  rcases key xs.length (Nat.le_refl _) with h1 | ⟨h1, _⟩
  · exact h1
  · have := h.2
    omega

/-- .. its index -/
def IsFirst (xs : List Int) (j : Nat) : Prop := j < xs.length ∧ gi xs j = 1 ∧ ∀ i, i < j → gi xs i = 0
theorem first_unique {xs : List Int} {j j' : Nat} (h : IsFirst xs j) (h' : IsFirst xs j') : j = j' := by
  rcases Nat.lt_trichotomy j j' with hl | hl | hl
  · have := h'.2.2 j hl; have := h.2.1; omega
  · exact hl
  · have := h.2.2 j' hl; have := h'.2.1; omega

/-- the answer of the first column's functions -/
def CRes (m : List (List Int)) (e : Ending) : Prop := (good m ∧ ∃ j, IsFirst (gr m 0) j ∧ e = .returned (.tuple #[.int .i64 (j : Int), .bool true])) ∨ (¬good m ∧ e = .returned (.tuple #[.int .i64 0, .bool false]))

/-- whatever both hand back is the same number -/
theorem cres_ires {m : List (List Int)} {e : Ending} (h : CRes m e) : ∀ j, IsFirst (gr m 0) j → IRes (good m) (j : Int) e := by
  intro j hj
  rcases h with ⟨hg, j', hj', rfl⟩ | ⟨hg, rfl⟩
  · obtain rfl := first_unique hj hj'
    exact IRes.yes hg
  · exact IRes.no hg

/-- the column of the first 1, where there is one -/
theorem cres_some (m : List (List Int)) : ∃ x : Int, ∀ e, CRes m e → IRes (good m) x e := by
  by_cases hg : good m
  · obtain ⟨j, hj⟩ := first_one (hg.2.1 0 (by have := hg.1.1; omega))
    exact ⟨j, fun e h => cres_ires h j hj⟩
  · refine ⟨0, fun e h => ?_⟩
    rcases h with ⟨h1, _⟩ | ⟨_, rfl⟩
    · exact absurd h1 hg
    · exact IRes.no hg
end Go.Proofs.Ytfempacfaeknpaa

namespace Go.Proofs.Ytfempacfaeknpaa
open Go.RowKit

theorem gi_take {xs : List Int} {k i : Nat} (h : i < k) : gi (xs.take k) i = gi xs i := by
  simp only [gi, List.getD, List.getElem?_take]
  rw [if_pos h]
theorem gr_take {m : List (List Int)} {k i : Nat} (h : i < k) : gr (m.take k) i = gr m i := by
  simp only [gr, List.getD, List.getElem?_take]
  rw [if_pos h]
theorem gr_drop (m : List (List Int)) (k i : Nat) : gr (m.drop k) i = gr m (k + i) := by simp [gr, List.getD]

theorem IntsAt.take {w : World} {ao : Option Addr} {xs : List Int} (h : IntsAt w ao xs) (k : Nat) : IntsAt w ao (xs.take k) := by
  intro i hi
  have hi' : i < k ∧ i < xs.length := by rw [List.length_take] at hi; omega
  obtain ⟨b, o, e, hc⟩ := h i hi'.2
  exact ⟨b, o, e, by rw [gi_take hi'.1]; exact hc⟩
theorem MatAt.take {w : World} {ao : Option Addr} {m : List (List Int)} (h : MatAt w ao m) (k : Nat) : MatAt w ao (m.take k) := by
  intro i hi
  have hi' : i < k ∧ i < m.length := by rw [List.length_take] at hi; omega
  obtain ⟨b, o, r, c, e, hc, hr, h1, h2⟩ := h i hi'.2
  rw [gr_take hi'.1]
  exact ⟨b, o, r, c, e, hc, hr, h1, h2⟩
theorem MatAt.drop {w : World} {b o : Nat} {m : List (List Int)} (h : MatAt w (some ⟨b, o, none⟩) m) (k : Nat) : MatAt w (some ⟨b, o + k, none⟩) (m.drop k) := by
  intro i hi
  rw [List.length_drop] at hi
  obtain ⟨b', o', r, c, e, hc, hr, h1, h2⟩ := h (k + i) (by omega)
  simp only [Option.some.injEq, Addr.mk.injEq, and_true] at e
  obtain ⟨rfl, rfl⟩ := e
  rw [gr_drop]
  exact ⟨b, o + k, r, c, rfl, by rw [Nat.add_assoc]; exact hc, hr, h1, h2⟩

/-- the numbers of some rows in their first columns -/
def bsum (m : List (List Int)) (cols : Nat) : Int := sumF (fun i => sumF (fun j => gi (gr m i) j) cols) m.length

/-- all numbers are 0, 1 or -1, no row has more than 6, none fewer than the columns -/
def Tame (m : List (List Int)) (cols : Nat) : Prop := m.length ≤ 6 ∧ cols ≤ 6 ∧ ∀ i, i < m.length → cols ≤ (gr m i).length ∧ (gr m i).length ≤ 6 ∧ 0 < (gr m i).length ∧ ∀ j, j < (gr m i).length → -1 ≤ gi (gr m i) j ∧ gi (gr m i) j ≤ 1

theorem row_bound {f : Nat → Int} {n k : Nat} (hn : n ≤ 6) (h : ∀ j, j < n → -1 ≤ f j ∧ f j ≤ 1) (hk : k ≤ n) : -6 ≤ sumF f k ∧ sumF f k ≤ 6 := by
  have := sumF_bound (f := f) (B := 1) (k := k) (fun i hi => h i (by omega))
  omega

theorem block_bound {m : List (List Int)} {cols : Nat} (h : Tame m cols) {k : Nat} (hk : k ≤ m.length) : -36 ≤ sumF (fun i => sumF (fun j => gi (gr m i) j) cols) k ∧ sumF (fun i => sumF (fun j => gi (gr m i) j) cols) k ≤ 36 := by
  have h1 := h.1
  have := sumF_bound (f := fun i => sumF (fun j => gi (gr m i) j) cols) (B := 6) (k := k) (fun i hi => by
    have hr := h.2.2 i (by omega)
    exact row_bound (f := fun j => gi (gr m i) j) hr.2.1 hr.2.2.2 hr.1)
  omega

end Go.Proofs.Ytfempacfaeknpaa

namespace Go.Proofs.Ytfempacfaeknpaa
open Go.RowKit

theorem ints_cells {w : World} {ad : Addr} {xs : List Int} {o : Obj} (h : IntsAt w (some ad) xs) : ∀ j u, (xs.map (Value.int .i64))[j]? = some u → (w.alloc o).cell? (ad.add j) = some u := by
  intro j u hj
  have hjl : j < xs.length := by
    have := (List.getElem?_eq_some_iff.1 hj).1
    simpa using this
  obtain ⟨b, o', e, hc⟩ := h j hjl
  cases e
  have e : (xs.map (Value.int .i64))[j]? = some (Value.int .i64 (gi xs j)) := by simp [gi, List.getD, hjl]
  rw [e] at hj
  cases hj
  rw [Addr.add_lit]
  exact Lib.cell?_alloc_some _ hc

set_option maxRecDepth 100000 in
set_option maxHeartbeats 400000 in
theorem l1Own_any (ao : Option Addr) (c : Nat) (xs : List Int) (w : World) (hn : xs.length ≤ 1048576) (hc0 : ao = none → c = 0) (hx : IntsAt w ao xs) :
    Calls Try.prog 99 #[.slice ao xs.length c] w fun e w' => ∃ v, e = .returned v ∧ OwnI w' w.heap.size v xs ∧ Below w.heap.size w w' := by
  obtain ⟨i0, hi, hz0, hz1, hz2⟩ := info_parts Try.info_int
  cases ao with
  | none =>
    obtain rfl : xs = [] := by
      cases xs with
      | nil => rfl
      | cons a r => obtain ⟨b, o, e, _⟩ := hx 0 (by simp); cases e
    obtain rfl := hc0 rfl
    clear hx
    go_enter Try.func99, Try.ntmps99
    go_wp2_with (at_builtin; refine wpList_append_own_none rfl _ _ 42 rfl w.heap.size 3 i0 1 Try.underlying42 hi _ _ _ rfl (World.ownsRow_made w #[] 0 (Nat.le_refl _) (Nat.zero_le _) rfl) rfl ?_)
    go_wp2
    go_ret
    exact ⟨_, rfl, World.ownsRow_made w #[] 0 (Nat.le_refl _) (Nat.zero_le _) rfl, (Below.refl _ _).alloc (Nat.le_refl _) _⟩
  | some ad =>
    have A := Lib.hid hx
    clear hx
    go_enter Try.func99, Try.ntmps99
    go_wp2_with (at_builtin; refine wpList_append_own _ rfl _ _ 42 rfl w.heap.size 3 i0 (.int .i64 0) 1 8 Try.underlying42 hi hz0 hz1 hz2 rfl (by decide) _ _ _ rfl (World.ownsRow_made w #[] 0 (Nat.le_refl _) (Nat.zero_le _) rfl) ad xs.length c (xs.map (Value.int .i64)) rfl ?qc1 ?qc2 ?qc3 ?qc4 ?qc5 ?qc6 ?_)
    case qc1 => simp
    case qc2 => exact ints_cells A.out
    case qc3 => intro u hu; obtain ⟨x, _, rfl⟩ := List.mem_map.1 hu; rfl
    case qc4 => unfold maxLen; omega
    case qc5 => omega
    case qc6 => simp
    intro v' w1 hown hgrow hnil
    go_wp2
    go_ret
    refine ⟨v', rfl, by simpa [OwnI] using hown, ?_⟩
    exact ((Below.refl _ w).alloc (Nat.le_refl _) _).grown hgrow (by simp) (by intro k hk; simp [Value.ownBlock] at hk; omega)

set_option maxRecDepth 100000 in
set_option maxHeartbeats 400000 in
theorem sClone_any (ao : Option Addr) (c : Nat) (xs : List Int) (w : World) (hn : xs.length ≤ 1048576) (hx : IntsAt w ao xs) :
    Calls Try.prog 101 #[.slice ao xs.length c] w fun e w' => ∃ v, e = .returned v ∧ OwnI w' w.heap.size v xs ∧ Below w.heap.size w w' := by
  obtain ⟨i0, hi, hz0, hz1, hz2⟩ := info_parts Try.info_int
  have q22 : ∀ (w : World) (a : Option Addr) (n c n' c' : Nat), (binOp .eql 42 (.slice a n c) (.slice none n' c')).run Try.prog w = .ok (.bool a.isNone) w := fun w a n c n' c' => Lib.run_eql_slice_nil w _ _ a n c n' c' Try.underlying42
  cases ao with
  | none =>
    obtain rfl : xs = [] := by
      cases xs with
      | nil => rfl
      | cons a r => obtain ⟨b, o, e, _⟩ := hx 0 (by simp); cases e
    clear hx
    go_enter Try.func101, Try.ntmps101
    go_wp2
    go_ret
    exact ⟨_, rfl, OwnI.nil _ _, Below.refl _ _⟩
  | some ad =>
    have A := Lib.hid hx
    clear hx
    go_enter Try.func101, Try.ntmps101
    go_wp2_with (at_builtin; refine wpList_append_own _ rfl _ _ 42 rfl w.heap.size 3 i0 (.int .i64 0) 1 8 Try.underlying42 hi hz0 hz1 hz2 rfl (by decide) _ _ _ rfl (World.ownsRow_made w #[] 0 (Nat.le_refl _) (Nat.zero_le _) rfl) ad xs.length c (xs.map (Value.int .i64)) rfl ?qc1 ?qc2 ?qc3 ?qc4 ?qc5 ?qc6 ?_)
    case qc1 => simp
    case qc2 => exact ints_cells A.out
    case qc3 => intro u hu; obtain ⟨x, _, rfl⟩ := List.mem_map.1 hu; rfl
    case qc4 => unfold maxLen; omega
    case qc5 => omega
    case qc6 => simp
    intro v' w1 hown hgrow hnil
    go_wp2
    go_ret
    refine ⟨v', rfl, by simpa [OwnI] using hown, ?_⟩
    exact ((Below.refl _ w).alloc (Nat.le_refl _) _).grown hgrow (by simp) (by intro k hk; simp [Value.ownBlock] at hk; omega)

/-- a slice that is written out -/
theorem ownsRow_built {e : TypeId} {base : Nat} (w : World) (vs : List Value) (hb : base ≤ w.heap.size) (hm : vs.length ≤ 9223372036854775807) :
    (w.alloc (.cells vs.toArray e)).ownsRow base e 1 (.slice (some ⟨w.heap.size, 0, none⟩) vs.length vs.length) vs.length vs :=
  ⟨by simp, .inr ⟨w.heap.size, vs.length, vs.toArray, rfl, hb, heap_alloc_new w _, Nat.le_refl _, hm, by simp, by simp⟩⟩

def slLen : Value → Nat
  | .slice _ n _ => n
  | _ => 0

/-- rows ahead of which a new one has been put: what append leaves of a slice of one row behind which all others come -/
theorem OwnP.front {w w1 : World} {B n : Nat} {v v' u : Value} {m : List (List Int)} {xs : List Int} {vs : List Value} (h : OwnP w B v n m n vs) (hu : OwnI w B u xs)
    (hne : ∀ j, j < n → ∀ g, (vs.getD j undef).ownBlock = some g → u.ownBlock ≠ some g)
    (h1 : w1.ownsRow B 42 1 v' (1 + n) ([u] ++ vs)) (hb : Below w.heap.size w w1) : OwnP w1 B v' (n + 1) (xs :: m) (n + 1) (u :: vs) := by
  refine ⟨by rw [Nat.add_comm]; exact h1, fun i hi => ?_, fun i j hij hj g hg => ?_⟩
  · cases i with
    | zero => exact hu.below hb
    | succ i =>
      have := (h.rows i (by omega)).below hb
      simpa [gr_cons_succ] using this
  · obtain ⟨j, rfl⟩ : ∃ k, j = k + 1 := ⟨j - 1, by omega⟩
    cases i with
    | zero =>
      intro hg2
      exact hne j (by omega) g (by simpa using hg2) (by simpa using hg)
    | succ i =>
      have := h.apart i j (by omega) (by omega) g (by simpa using hg)
      simpa using this
end Go.Proofs.Ytfempacfaeknpaa

namespace Go.Proofs.Ytfempacfaeknpaa
open Go.RowKit

/-- the sum of the numbers in the first a rows and b columns -/
def S2 (m : List (List Int)) (a b : Nat) : Int := sumF (fun i => sumF (fun j => gi (gr m i) j) b) a
/-- corner sums -/
def cs (m : List (List Int)) : List (List Int) := tab m.length m.length fun i j => S2 m (i + 1) (j + 1)
theorem cs_len (m : List (List Int)) : (cs m).length = m.length := tab_len _ _ _
theorem S2_succ (m : List (List Int)) (a b : Nat) : S2 m (a + 1) b = S2 m a b + sumF (fun j => gi (gr m a) j) b := rfl
theorem bsum_take {m : List (List Int)} {a b : Nat} (ha : a ≤ m.length) : bsum (m.take a) b = S2 m a b := by
  unfold bsum S2
  rw [show (m.take a).length = a from by rw [List.length_take]; omega]
  exact sumF_congr fun i hi => by rw [gr_take hi]

theorem good.tame {m : List (List Int)} (h : good m) {cols : Nat} (hc : cols ≤ m.length) : Tame m cols := by
  have hn := h.1.2.1
  have h1 := h.1.1
  refine ⟨hn, by omega, fun i hi => ?_⟩
  have hl := h.1.2.2 i hi
  refine ⟨by omega, by omega, by omega, fun j hj => good_entry h hi (by omega)⟩
theorem Tame.take {m : List (List Int)} {cols : Nat} (h : Tame m cols) (k : Nat) : Tame (m.take k) cols := by
  refine ⟨by rw [List.length_take]; have := h.1; omega, h.2.1, fun i hi => ?_⟩
  rw [List.length_take] at hi
  rw [gr_take (by omega)]
  exact h.2.2 i (by omega)
theorem Tame.drop {m : List (List Int)} {cols : Nat} (h : Tame m cols) (k : Nat) : Tame (m.drop k) cols := by
  refine ⟨by rw [List.length_drop]; have := h.1; omega, h.2.1, fun i hi => ?_⟩
  rw [List.length_drop] at hi
  rw [gr_drop]
  exact h.2.2 (k + i) (by omega)

theorem S2_bound {m : List (List Int)} (h : good m) {a b : Nat} (ha : a ≤ m.length) (hb : b ≤ m.length) : -36 ≤ S2 m a b ∧ S2 m a b ≤ 36 := block_bound (h.tame hb) ha

end Go.Proofs.Ytfempacfaeknpaa

namespace Go.Proofs.Ytfempacfaeknpaa
open Go.RowKit

theorem OwnP.drewN {w : World} {B n k : Nat} {v : Value} {m : List (List Int)} {vs : List Value} (h : OwnP w B v n m k vs) (q : Nat) : OwnP (w.drewN q) B v n m k vs := ⟨h.top, h.rows, h.apart⟩
theorem OwnP.drew {w : World} {B n k : Nat} {v : Value} {m : List (List Int)} {vs : List Value} (h : OwnP w B v n m k vs) : OwnP w.drew B v n m k vs := ⟨h.top, h.rows, h.apart⟩

theorem rowsum_bound {m : List (List Int)} (h : good m) {a b : Nat} (ha : a < m.length) (hb : b ≤ m.length) : -6 ≤ sumF (fun j => gi (gr m a) j) b ∧ sumF (fun j => gi (gr m a) j) b ≤ 6 :=
  row_bound (f := fun j => gi (gr m a) j) (n := m.length) h.1.2.1 (fun _ hj => good_entry h ha hj) hb

theorem cs_small {m : List (List Int)} (h : square m) : Small (cs m) := ⟨by rw [cs_len]; have := h.2.1; omega, fun i hi => by rw [cs_len] at hi; unfold cs; rw [tab_row hi]; have := h.2.1; omega⟩
end Go.Proofs.Ytfempacfaeknpaa

