/- Parts of proofs: contracts and plain facts. Conditions: as each says. -/
import Derived.Test.YtfempacfaeknpaaK16
import Derived.Deep.RegionWith
namespace Go.Proofs.Ytfempacfaeknpaa
open Go.RowKit

/-- a ratio without a common divisor -/
def nrm (p q : Nat) : Nat × Nat := (p / Nat.gcd p q, q / Nat.gcd p q)
def Cop (a : Nat × Nat) : Prop := Nat.gcd a.1 a.2 = 1 ∧ 0 < a.2
theorem nrm_mul {k : Nat} (hk : 0 < k) (p q : Nat) : nrm (k * p) (k * q) = nrm p q := by
  unfold nrm
  rw [Nat.gcd_mul_left, Nat.mul_div_mul_left _ _ hk, Nat.mul_div_mul_left _ _ hk]
theorem nrm_id {a : Nat × Nat} (h : Cop a) : nrm a.1 a.2 = a := by
  unfold nrm
  rw [h.1, Nat.div_one, Nat.div_one]
theorem nrm_parts {p q : Nat} (hq : 0 < q) : 0 < Nat.gcd p q ∧ p = Nat.gcd p q * (nrm p q).1 ∧ q = Nat.gcd p q * (nrm p q).2 ∧ Cop (nrm p q) := by
  have hg : 0 < Nat.gcd p q := Nat.gcd_pos_of_pos_right _ hq
  have h1 : p = Nat.gcd p q * (p / Nat.gcd p q) := (Nat.mul_div_cancel' (Nat.gcd_dvd_left p q)).symm
  have h2 : q = Nat.gcd p q * (q / Nat.gcd p q) := (Nat.mul_div_cancel' (Nat.gcd_dvd_right p q)).symm
  refine ⟨hg, h1, h2, ?_, ?_⟩
  · show Nat.gcd (p / Nat.gcd p q) (q / Nat.gcd p q) = 1
    have h3 : Nat.gcd (Nat.gcd p q * (p / Nat.gcd p q)) (Nat.gcd p q * (q / Nat.gcd p q)) = Nat.gcd p q := by rw [← h1, ← h2]
    rw [Nat.gcd_mul_left] at h3
    exact Nat.eq_of_mul_eq_mul_left hg (by rw [h3, Nat.mul_one])
  · show 0 < q / Nat.gcd p q
    rcases Nat.eq_zero_or_pos (q / Nat.gcd p q) with h | h
    · rw [h, Nat.mul_zero] at h2; omega
    · exact h
theorem nrm_cop {p q : Nat} (hq : 0 < q) : Cop (nrm p q) := (nrm_parts hq).2.2.2
theorem nrm_le (p q : Nat) : (nrm p q).1 ≤ p ∧ (nrm p q).2 ≤ q := ⟨Nat.div_le_self _ _, Nat.div_le_self _ _⟩
theorem nrm_times {p q : Nat} (hq : 0 < q) (x y : Nat) : nrm ((nrm p q).1 * x) ((nrm p q).2 * y) = nrm (p * x) (q * y) := by
  obtain ⟨hg, h1, h2, _⟩ := nrm_parts (p := p) hq
  obtain ⟨g, hgg⟩ : ∃ g, g = Nat.gcd p q := ⟨_, rfl⟩
  obtain ⟨a, ha⟩ : ∃ a, a = nrm p q := ⟨_, rfl⟩
  rw [← hgg] at hg h1 h2
  rw [← ha] at h1 h2 ⊢
  rw [h1, h2, Nat.mul_assoc, Nat.mul_assoc, nrm_mul hg]
/-- products, sums, one divided by another -/
def tm (a b : Nat × Nat) : Nat × Nat := nrm (a.1 * b.1) (a.2 * b.2)
def pl (a b : Nat × Nat) : Nat × Nat := nrm (a.1 * b.2 + b.1 * a.2) (a.2 * b.2)
def ov (a b : Nat × Nat) : Nat × Nat := nrm (a.1 * b.2) (a.2 * b.1)
theorem tm_cop {a b : Nat × Nat} (ha : Cop a) (hb : Cop b) : Cop (tm a b) := nrm_cop (Nat.mul_pos ha.2 hb.2)
theorem pl_cop {a b : Nat × Nat} (ha : Cop a) (hb : Cop b) : Cop (pl a b) := nrm_cop (Nat.mul_pos ha.2 hb.2)
theorem ov_cop {a b : Nat × Nat} (ha : Cop a) (hb : 0 < b.1) : Cop (ov a b) := nrm_cop (Nat.mul_pos ha.2 hb)
theorem cop_swap {b : Nat × Nat} (h : Cop b) (hb : 0 < b.1) : Cop (b.2, b.1) := ⟨by rw [Nat.gcd_comm]; exact h.1, hb⟩
theorem cop_one (x : Nat) : Cop (x, 1) := ⟨Nat.gcd_one_right x, Nat.one_pos⟩
theorem gcd_of_dvd {a b p s : Nat} (h : Nat.gcd a b = 1) (hp : p ∣ a) (hs : s ∣ b) : Nat.gcd p s = 1 := by
  have : Nat.gcd p s ∣ Nat.gcd a b := Nat.dvd_gcd (Nat.dvd_trans (Nat.gcd_dvd_left _ _) hp) (Nat.dvd_trans (Nat.gcd_dvd_right _ _) hs)
  rw [h] at this
  exact Nat.dvd_one.1 this
/-- a product made of two ratios across -/
theorem tm_cross {a b : Nat × Nat} (ha : Cop a) (hb : Cop b) : ((nrm a.1 b.2).1 * (nrm b.1 a.2).1, (nrm a.1 b.2).2 * (nrm b.1 a.2).2) = tm a b := by
  obtain ⟨g1, p1, q1, c1⟩ := nrm_parts (p := a.1) hb.2
  obtain ⟨g2, p2, q2, c2⟩ := nrm_parts (p := b.1) ha.2
  obtain ⟨G, hG⟩ : ∃ G, G = Nat.gcd a.1 b.2 := ⟨_, rfl⟩
  obtain ⟨H, hH⟩ : ∃ H, H = Nat.gcd b.1 a.2 := ⟨_, rfl⟩
  obtain ⟨⟨p, q⟩, hx⟩ : ∃ x, x = nrm a.1 b.2 := ⟨_, rfl⟩
  obtain ⟨⟨r, s⟩, hy⟩ : ∃ y, y = nrm b.1 a.2 := ⟨_, rfl⟩
  rw [← hG] at g1 p1 q1
  rw [← hH] at g2 p2 q2
  rw [← hx] at p1 q1 c1 ⊢
  rw [← hy] at p2 q2 c2 ⊢
  simp only at p1 q1 p2 q2 ⊢
  have k1 : Nat.gcd p s = 1 := gcd_of_dvd ha.1 ⟨G, by rw [p1, Nat.mul_comm]⟩ ⟨H, by rw [q2, Nat.mul_comm]⟩
  have k2 : Nat.gcd r q = 1 := gcd_of_dvd hb.1 ⟨H, by rw [p2, Nat.mul_comm]⟩ ⟨G, by rw [q1, Nat.mul_comm]⟩
  have k3 : Nat.gcd p q = 1 := c1.1
  have k4 : Nat.gcd r s = 1 := c2.1
  have hc : Nat.gcd (p * r) (q * s) = 1 := by
    have e1 : Nat.Coprime p (q * s) := Nat.Coprime.mul_right k3 k1
    have e2 : Nat.Coprime r (q * s) := Nat.Coprime.mul_right k2 k4
    exact Nat.Coprime.mul_left e1 e2
  have hpos : 0 < q * s := Nat.mul_pos c1.2 c2.2
  have e : tm a b = nrm (p * r) (q * s) := by
    unfold tm
    rw [p1, q1, p2, q2, show G * p * (H * r) = (G * H) * (p * r) from by simp [Nat.mul_assoc, Nat.mul_left_comm, Nat.mul_comm], show H * s * (G * q) = (G * H) * (q * s) from by simp [Nat.mul_assoc, Nat.mul_left_comm, Nat.mul_comm], nrm_mul (Nat.mul_pos g1 g2)]
  rw [e]
  exact (nrm_id (a := (p * r, q * s)) ⟨hc, hpos⟩).symm
theorem tm_whole {p q : Nat} (hq : 0 < q) (x : Nat) : tm (nrm p q) (x, 1) = nrm (p * x) q := by
  unfold tm
  simp only
  rw [nrm_times hq x 1, Nat.mul_one]
theorem ov_whole {p q : Nat} (hq : 0 < q) (x : Nat) : ov (nrm p q) (x, 1) = nrm p (q * x) := by
  unfold ov
  simp only
  rw [nrm_times hq 1 x, Nat.mul_one]
end Go.Proofs.Ytfempacfaeknpaa

namespace Go.Proofs.Ytfempacfaeknpaa
open Go.RowKit

/-- a table: 1 to 4 rows of as many numbers in 1..4 -/
def isTab (t : List (List Int)) : Prop := (1 ≤ t.length ∧ t.length ≤ 4) ∧ ∀ i, i < t.length → (gr t i).length = t.length ∧ allIn (gr t i) 1 4
/-- a number of a table as a natural one -/
def eN (t : List (List Int)) (i j : Nat) : Nat := (gi (gr t i) j).toNat
theorem eN_eq {t : List (List Int)} (h : isTab t) {i j : Nat} (hi : i < t.length) (hj : j < t.length) : gi (gr t i) j = (eN t i j : Int) ∧ 1 ≤ eN t i j ∧ eN t i j ≤ 4 := by
  obtain ⟨h1, h2⟩ := h.2 i hi
  have := h2 j (by omega)
  unfold eN
  omega
/-- the product of the numbers where the matrix has s, in the first j places of row k -/
def accN (s : Int) (m t : List (List Int)) (k : Nat) : Nat → Nat
  | 0 => 1
  | j + 1 => accN s m t k j * (if gi (gr m k) j = s then eN t k j else 1)
def accR (s : Int) (m t : List (List Int)) : Nat → Nat
  | 0 => 1
  | k + 1 => accR s m t k * accN s m t k m.length
def prd (s : Int) (m t : List (List Int)) (k j : Nat) : Nat := accR s m t k * accN s m t k j
theorem prd_zero (s : Int) (m t : List (List Int)) : prd s m t 0 0 = 1 := rfl
theorem prd_yes {s : Int} {m t : List (List Int)} {k j : Nat} (h : gi (gr m k) j = s) : prd s m t k (j + 1) = prd s m t k j * eN t k j := by
  unfold prd; rw [accN, if_pos h, Nat.mul_assoc]
theorem prd_no {s : Int} {m t : List (List Int)} {k j : Nat} (h : gi (gr m k) j ≠ s) : prd s m t k (j + 1) = prd s m t k j := by
  unfold prd; rw [accN, if_neg h, Nat.mul_one]
theorem prd_row (s : Int) (m t : List (List Int)) (k : Nat) : prd s m t k m.length = prd s m t (k + 1) 0 := by
  unfold prd; rw [accR, accN, Nat.mul_one]
theorem prd_end (s : Int) (m t : List (List Int)) : prd s m t m.length 0 = accR s m t m.length := by unfold prd; rw [accN, Nat.mul_one]
theorem accN_bd {s : Int} {m t : List (List Int)} (h : isTab t) {k : Nat} (hk : k < t.length) : ∀ {j : Nat}, j ≤ t.length → 1 ≤ accN s m t k j ∧ accN s m t k j ≤ 4 ^ j
  | 0, _ => by simp [accN]
  | j + 1, hj => by
    have ih := accN_bd (s := s) (m := m) h hk (j := j) (by omega)
    have he := (eN_eq h hk (show j < t.length by omega)).2
    rw [accN, Nat.pow_succ]
    split
    · exact ⟨Nat.mul_le_mul ih.1 he.1, Nat.mul_le_mul ih.2 he.2⟩
    · exact ⟨by omega, Nat.mul_le_mul ih.2 (by omega)⟩
theorem accR_bd {s : Int} {m t : List (List Int)} (h : isTab t) (hm : m.length = t.length) : ∀ {k : Nat}, k ≤ t.length → 1 ≤ accR s m t k ∧ accR s m t k ≤ 256 ^ k
  | 0, _ => by simp [accR]
  | k + 1, hk => by
    have ih := accR_bd (s := s) h hm (k := k) (by omega)
    have h2 := accN_bd (s := s) (m := m) h (show k < t.length by omega) (j := t.length) (Nat.le_refl _)
    have h3 : 4 ^ t.length ≤ 256 := Nat.le_trans (Nat.pow_le_pow_right (by omega) h.1.2) (by decide)
    rw [accR, hm, Nat.pow_succ]
    exact ⟨Nat.mul_le_mul ih.1 h2.1, Nat.mul_le_mul ih.2 (Nat.le_trans h2.2 h3)⟩
theorem prd_bd {s : Int} {m t : List (List Int)} (h : isTab t) (hm : m.length = t.length) {k j : Nat} (hk : k < t.length) (hj : j ≤ t.length) : 1 ≤ prd s m t k j ∧ prd s m t k j ≤ 1099511627776 := by
  have h1 := accR_bd (s := s) h hm (k := k) (by omega)
  have h2 := accN_bd (s := s) (m := m) h hk hj
  have h3 : 4 ^ j ≤ 256 := Nat.le_trans (Nat.pow_le_pow_right (by omega) (show j ≤ 4 by have := h.1.2; omega)) (by decide)
  have h4 : 256 ^ k ≤ 4294967296 := Nat.le_trans (Nat.pow_le_pow_right (by omega) (show k ≤ 4 by have := h.1.2; omega)) (by decide)
  unfold prd
  exact ⟨Nat.mul_le_mul h1.1 h2.1, Nat.le_trans (Nat.mul_le_mul (Nat.le_trans h1.2 h4) (Nat.le_trans h2.2 h3)) (by decide)⟩
theorem accR_small {s : Int} {m t : List (List Int)} (h : isTab t) (hm : m.length = t.length) : 1 ≤ accR s m t m.length ∧ accR s m t m.length ≤ 4294967296 := by
  have h1 := accR_bd (s := s) h hm (k := m.length) (by omega)
  exact ⟨h1.1, Nat.le_trans h1.2 (Nat.le_trans (Nat.pow_le_pow_right (by omega) (show m.length ≤ 4 by have := h.1.2; omega)) (by decide))⟩
/-- the ratio of both products -/
def pwR (m t : List (List Int)) : Nat × Nat := nrm (accR 1 m t m.length) (accR (-1) m t m.length)
def okPw (m t : List (List Int)) : Prop := (good m ∧ isTab t) ∧ m.length = t.length
end Go.Proofs.Ytfempacfaeknpaa

namespace Go.Proofs.Ytfempacfaeknpaa
open Go.RowKit

/-- a ratio as a struct of two numbers; a variable with one -/
def rtA (a : Nat × Nat) : Array Value := #[.int .i64 (a.1 : Int), .int .i64 (a.2 : Int)]
theorem rt_one (a : Nat × Nat) : (rtA a).all (·.oneCell') = true := by simp [rtA, Value.oneCell']
theorem rt_same (a b : Nat × Nat) : (rtA a).size = (rtA b).size := rfl
theorem wpList_buildRn {P : Program} {ops : Array Oper} {rest : List Oper} {o : Oper} {a : Act} {w : World} {Q : Exit → Act → World → Prop} (hg : o.guard = none) (t : TypeId) (xs : Array (Nat × Operand)) (ho : o.op = .build t xs)
    (vs : List (Nat × Value)) (hv : (xs.map fun (i, x) => (i, a.eval x)).toList = vs) (cells : Array Value) (hb : P.built t vs = some cells)
    (h : wpList P ops Q rest (a.put o.dst (.agg cells)) w) : wpList P ops Q (o :: rest) a w := by
  refine wpList_build hg t _ ho (by rw [hv, hb]; rfl) ?_
  rw [hv, hb]
  exact h

end Go.Proofs.Ytfempacfaeknpaa

namespace Go.Proofs.Ytfempacfaeknpaa
open Go.RowKit

theorem rt3_below (w : World) (o1 o2 o3 : Obj) : Below w.heap.size w (((w.alloc o1).alloc o2).alloc o3) := (((Below.refl _ w).alloc (Nat.le_refl _) o1).alloc (by simp) o2).alloc (by simp; omega) o3
theorem wrapN {n : Nat} (h : n ≤ 4000000000000000000) : IntKind.i64.wrap (n : Int) = (n : Int) := w64 (by omega)

end Go.Proofs.Ytfempacfaeknpaa

namespace Go.Proofs.Ytfempacfaeknpaa
open Go.RowKit

theorem OwnP.setElse {w : World} {B n k : Nat} {v : Value} {m : List (List Int)} {vs : List Value} (h : OwnP w B v n m k vs) {a : Addr} (ht : v.ownBlock ≠ some a.block) (hr : ∀ i, i < k → (vs.getD i undef).ownBlock ≠ some a.block) (u : Value) : OwnP (w.setCell a u) B v n m k vs :=
  ⟨Go.ownsRow_setCell_other h.top ht u, fun i hi => (h.rows i hi).setOther (hr i hi) u, h.apart⟩

end Go.Proofs.Ytfempacfaeknpaa

namespace Go.Proofs.Ytfempacfaeknpaa
open Go.RowKit

/-- the answer of a function that hands back a list of numbers and whether there is one -/
def LRes (p : Prop) (r : List Int) (w : World) (B : Nat) (e : Ending) : Prop :=
  ∃ v b r', e = .returned (.tuple #[v, .bool b]) ∧ OwnI w B v r' ∧ ((p ∧ b = true ∧ r' = r) ∨ (¬p ∧ b = false ∧ r' = []))
theorem LRes.yes {p : Prop} {r : List Int} {w : World} {B : Nat} {v : Value} (h : p) (ho : OwnI w B v r) : LRes p r w B (.returned (.tuple #[v, .bool true])) := ⟨v, true, r, rfl, ho, .inl ⟨h, rfl, rfl⟩⟩
theorem LRes.no {p : Prop} {r : List Int} {w : World} {B : Nat} (h : ¬p) : LRes p r w B (.returned (.tuple #[.slice none 0 0, .bool false])) := ⟨_, false, [], rfl, OwnI.nil _ _, .inr ⟨h, rfl, rfl⟩⟩

theorem lres_same {p : Prop} {r ra rb : List Int} {a b : Bool} (h : (p ∧ a = true ∧ ra = r) ∨ (¬p ∧ a = false ∧ ra = [])) (k : (p ∧ b = true ∧ rb = r) ∨ (¬p ∧ b = false ∧ rb = [])) : b = a ∧ rb = ra := by
  rcases k with ⟨h1, h2, h3⟩ | ⟨h1, h2, h3⟩ <;> rcases h with ⟨k1, k2, k3⟩ | ⟨k1, k2, k3⟩
  · exact ⟨h2.trans k2.symm, h3.trans k3.symm⟩
  · exact absurd h1 k1
  · exact absurd k1 h1
  · exact ⟨h2.trans k2.symm, h3.trans k3.symm⟩
end Go.Proofs.Ytfempacfaeknpaa

namespace Go.Proofs.Ytfempacfaeknpaa
open Go.RowKit

/-- six numbers in an array -/
def kcL (f : Nat → Int) : List Value := (List.range 6).map fun k => .int .i64 (f k)
def kc (f : Nat → Int) : Array Value := (kcL f).toArray
theorem kc_size (f : Nat → Int) : (kc f).size = 6 := by simp [kc, kcL]
theorem kc_at (f : Nat → Int) {k : Nat} (hk : k < 6) : (kc f)[k]? = some (.int .i64 (f k)) := by
  simp only [kc, kcL, List.getElem?_toArray, List.getElem?_map]
  rw [List.getElem?_range hk]
  rfl
theorem kc_congr {f g : Nat → Int} (h : ∀ k, k < 6 → f k = g k) : kc f = kc g := by
  unfold kc kcL
  congr 1
  refine List.map_congr_left fun k hk => ?_
  rw [List.mem_range] at hk
  rw [h k hk]
theorem kc_set (f : Nat → Int) {k : Nat} (hk : k < 6) (x : Int) : (kc f).setIfInBounds k (.int .i64 x) = kc (fun q => if q = k then x else f q) := by
  apply Array.ext_getElem?
  intro j
  rw [Array.getElem?_setIfInBounds]
  by_cases e : k = j
  · subst e
    rw [if_pos rfl, if_pos (by rw [kc_size]; exact hk), kc_at _ hk, if_pos rfl]
  · rw [if_neg e]
    by_cases hj : j < 6
    · rw [kc_at _ hj, kc_at _ hj, if_neg (fun h => e h.symm)]
    · rw [Array.getElem?_eq_none (by rw [kc_size]; omega), Array.getElem?_eq_none (by rw [kc_size]; omega)]
theorem kc_one (f : Nat → Int) : (kc f).all (·.oneCell') = true := by
  rw [Array.all_eq_true]
  intro i hi
  have hi6 : i < 6 := by rw [kc_size] at hi; exact hi
  have := kc_at f hi6
  rw [Array.getElem?_eq_getElem hi] at this
  rw [Option.some.inj this]
  rfl
theorem kc_same (f g : Nat → Int) : (kc f).size = (kc g).size := by rw [kc_size, kc_size]
end Go.Proofs.Ytfempacfaeknpaa

namespace Go.Proofs.Ytfempacfaeknpaa
open Go.RowKit

theorem ints_new (w : World) (xs : List Int) : IntsAt (w.alloc (.cells (xs.map (Value.int .i64)).toArray 3)) (some ⟨w.heap.size, 0, none⟩) xs := fun i hi => ⟨w.heap.size, 0, rfl, by
  rw [Nat.zero_add, cell_new]
  simp [gi, List.getD, hi]⟩

set_option maxRecDepth 100000 in
set_option maxHeartbeats 800000 in
theorem iAllIn_any (ao : Option Addr) (c : Nat) (xs : List Int) (lo hi : Int) (w : World) (hn : xs.length ≤ 1048576) (hx : IntsAt w ao xs) :
    Calls Try.prog 63 #[.int .i64 lo, .int .i64 hi, .slice ao xs.length c] w fun e w' => Ans (allIn xs lo hi) e ∧ w = w' := by
  have hmx : xs.length ≤ 9223372036854775807 := by omega
  have Hx := Lib.hid hx
  clear hx
  go_enter Try.func63, Try.ntmps63
  go_wp2
  go_loop [11] (fun i => ∃ k : Nat, k ≤ xs.length ∧ i = .int .i64 k ∧ ∀ j, j < k → lo ≤ gi xs j ∧ gi xs j ≤ hi) (fun i => xs.length - (intOf i).toNat)
  case atStart => exact ⟨0, Nat.zero_le _, rfl, fun j hj => absurd hj (by omega)⟩
  case round =>
    obtain ⟨k, hk, rfl, hd⟩ := hrel
    have Hd := Lib.hid hd
    clear hd
    by_cases hlt : k < xs.length
    · obtain ⟨b1, o1, rfl, hc1⟩ := Hx.out k hlt
      have Hno := Lib.hid (fun (h : ¬(lo ≤ gi xs k ∧ gi xs k ≤ hi)) (h2 : allIn xs lo hi) => h (h2 k hlt))
      have Hyes := Lib.hid (show (lo ≤ gi xs k ∧ gi xs k ≤ hi) → ∀ j, j < k + 1 → lo ≤ gi xs j ∧ gi xs j ≤ hi from fun h j hj => by
        by_cases e : j = k
        · subst e; exact h
        · exact Hd.out j (by omega))
      obtain ⟨x, hx⟩ : ∃ x, x = gi xs k := ⟨_, rfl⟩
      rw [← hx] at hc1 Hno Hyes
      clear hx
      by_cases h1 : x < lo
      · have hd1 : decide (x < lo) = true := by simpa using h1
        have H := Lib.hid (Hno.out (fun h => by omega))
        clear Hno Hyes h1
        go_wp2
        go_ret
        exact ⟨Ans.no H.out, rfl⟩
      · have hd1 : decide (x < lo) = false := by simpa using h1
        by_cases h2 : hi < x
        · have hd2 : decide (hi < x) = true := by simpa using h2
          have H := Lib.hid (Hno.out (fun h => by omega))
          clear Hno Hyes h1 h2
          go_wp2
          go_ret
          exact ⟨Ans.no H.out, rfl⟩
        · have hd2 : decide (hi < x) = false := by simpa using h2
          have H := Lib.hid (Hyes.out ⟨by omega, by omega⟩)
          clear Hno Hyes h1 h2
          go_wp2
          go_round
          case rel => exact ⟨k + 1, by omega, by go_num, H.out⟩
          case measure => simp [intOf]; omega
    · obtain rfl : k = xs.length := by omega
      go_wp2
      go_ret
      exact ⟨Ans.yes Hd.out, rfl⟩

theorem allIn_oneW (x lo hi : Int) : allIn [x] lo hi ↔ lo ≤ x ∧ x ≤ hi := by
  refine ⟨fun h => h 0 (by simp), fun h i hi => ?_⟩
  obtain rfl : i = 0 := by simpa using hi
  exact h
theorem allIn_three (a b c lo hi : Int) : allIn [a, b, c] lo hi ↔ (lo ≤ a ∧ a ≤ hi) ∧ (lo ≤ b ∧ b ≤ hi) ∧ lo ≤ c ∧ c ≤ hi := by
  constructor
  · intro h; exact ⟨h 0 (by simp), h 1 (by simp), h 2 (by simp)⟩
  · rintro ⟨h1, h2, h3⟩ i hi
    have hi3 : i < 3 := by simpa using hi
    match i, hi3 with
    | 0, _ => exact h1
    | 1, _ => exact h2
    | 2, _ => exact h3

def isFac (a b c : Int) : Prop := (0 ≤ a ∧ a ≤ 5) ∧ (0 ≤ b ∧ b ≤ 5) ∧ 0 ≤ c ∧ c ≤ 5
/-- what the kinds are worth in pairs -/
def wtP (a b c : Int) : Nat → Int
  | 0 => a
  | 1 => b
  | 2 => b
  | 3 => a
  | 4 => 1
  | _ => c
theorem wpList_buildTn {P : Program} {ops : Array Oper} {rest : List Oper} {o : Oper} {a : Act} {w : World} {Q : Exit → Act → World → Prop} (hg : o.guard = none) (t : TypeId) (xs : Array (Nat × Operand)) (ho : o.op = .build t xs)
    (vs : List (Nat × Value)) (hv : (xs.map fun (i, x) => (i, a.eval x)).toList = vs) (cells : Array Value) (hb : P.built t vs = some cells)
    (h : wpList P ops Q rest (a.put o.dst (.agg cells)) w) : wpList P ops Q (o :: rest) a w := by
  refine wpList_build hg t _ ho (by rw [hv, hb]; rfl) ?_
  rw [hv, hb]
  exact h
/-- the weight of a matrix by pairs of kinds -/
def wVal (m : List (List Int)) (a b c : Int) : Int := pw a (cN m 0 + cN m 3) * pw b (cN m 1 + cN m 2) * pw c (cN m 5)
theorem prodW_pairs (m : List (List Int)) (a b c : Int) : prodW (wtP a b c) (cN m) 6 = wVal m a b c := by
  simp only [prodW, wtP, wVal, pw_one, pw_add, Int.one_mul, Int.mul_one]
  simp only [Int.mul_assoc, Int.mul_left_comm, Int.mul_comm]
theorem wtP_le {a b c : Int} (h : isFac a b c) : ∀ q, q < 6 → 0 ≤ wtP a b c q ∧ wtP a b c q ≤ 10 := by
  intro q hq
  obtain ⟨h1, h2, h3⟩ := h
  obtain rfl | rfl | rfl | rfl | rfl | rfl : q = 0 ∨ q = 1 ∨ q = 2 ∨ q = 3 ∨ q = 4 ∨ q = 5 := by omega
  all_goals simp only [wtP]; omega
def okWt (m : List (List Int)) (a b c : Int) : Prop := (good m ∧ m.length ≤ 4) ∧ isFac a b c

end Go.Proofs.Ytfempacfaeknpaa

namespace Go.Proofs.Ytfempacfaeknpaa
open Go.RowKit

end Go.Proofs.Ytfempacfaeknpaa

namespace Go.Proofs.Ytfempacfaeknpaa
open Go.RowKit

/-- it returns a ratio and true if p, else the zero ratio and false -/
def RtRes (p : Prop) (r : Nat × Nat) (e : Ending) : Prop := ∃ y b, e = .returned (.tuple #[.agg (rtA y), .bool b]) ∧ ((p ∧ b = true ∧ y = r) ∨ (¬p ∧ b = false ∧ y = (0, 0)))
theorem RtRes.yes {p : Prop} {r : Nat × Nat} (h : p) : RtRes p r (.returned (.tuple #[.agg (rtA r), .bool true])) := ⟨r, true, rfl, .inl ⟨h, rfl, rfl⟩⟩
theorem RtRes.no {p : Prop} {r : Nat × Nat} (h : ¬p) : RtRes p r (.returned (.tuple #[.agg (rtA (0, 0)), .bool false])) := ⟨(0, 0), false, rfl, .inr ⟨h, rfl, rfl⟩⟩
theorem rtres_same {p : Prop} {r y y' : Nat × Nat} {b b' : Bool} (h : (p ∧ b = true ∧ y = r) ∨ (¬p ∧ b = false ∧ y = (0, 0))) (h' : (p ∧ b' = true ∧ y' = r) ∨ (¬p ∧ b' = false ∧ y' = (0, 0))) : b = b' ∧ y = y' := by
  rcases h with ⟨h1, h2, h3⟩ | ⟨h1, h2, h3⟩ <;> rcases h' with ⟨k1, k2, k3⟩ | ⟨k1, k2, k3⟩
  · exact ⟨h2.trans k2.symm, h3.trans k3.symm⟩
  · exact absurd h1 k1
  · exact absurd k1 h1
  · exact ⟨h2.trans k2.symm, h3.trans k3.symm⟩

end Go.Proofs.Ytfempacfaeknpaa

namespace Go.Proofs.Ytfempacfaeknpaa
open Go.RowKit

def inR (n : Int) : Prop := 1 ≤ n ∧ n ≤ 8

/-- choices, factor by factor -/
def ch (n : Nat) : Nat → Nat
  | 0 => 1
  | i + 1 => ch n i * (n - i) / (i + 1)
def cI : Nat → Nat
  | 0 => 1
  | k + 1 => if k = 0 then 1 else cI k * ch (3 * k + 1) k / ch (2 * k) k

theorem ch_b : ∀ n, n < 23 → ∀ i, i < 8 → ch n i ≤ 1000000000 ∧ ch n i * (n - i) ≤ 1000000000 := by decide +kernel
theorem cI_b : ∀ k, k < 8 → cI k ≤ 1000000000 ∧ cI k * ch (3 * k + 1) k ≤ 1000000000000000 ∧ 1 ≤ ch (2 * k) k := by decide +kernel

set_option maxRecDepth 100000 in
set_option maxHeartbeats 800000 in
theorem choicesOf_any (k n : Nat) (w : World) (hk : k ≤ 7) (hkn : k ≤ n) (hn : n ≤ 22) :
    Calls Try.prog 75 #[.int .i64 (k : Int), .int .i64 (n : Int)] w fun e w' => e = .returned (.int .i64 (ch n k : Nat)) ∧ w = w' := by
  go_enter Try.func75, Try.ntmps75
  go_wp2
  go_loop [5, 8] (fun s i => ∃ t : Nat, t ≤ k ∧ i = .int .i64 t ∧ s = .int .i64 (ch n t : Nat)) (fun _ i => k - (intOf i).toNat)
  case atStart => exact ⟨0, Nat.zero_le _, rfl, rfl⟩
  case round =>
    obtain ⟨t, ht, rfl, rfl⟩ := hrel
    by_cases hlt : t < k
    · have hb := ch_b n (by omega) t (by omega)
      have e1 : ch n (t + 1) = ch n t * (n - t) / (t + 1) := rfl
      have E1 := Lib.hid e1
      clear e1
      obtain ⟨s, hs⟩ : ∃ s, s = ch n t := ⟨_, rfl⟩
      obtain ⟨p, hp⟩ : ∃ p, p = ch n t * (n - t) := ⟨_, rfl⟩
      rw [← hs] at hb
      rw [← hs]
      have hp1 : (s : Int) * ((n : Int) - (t : Int)) = (p : Int) := by rw [hp, ← hs, show ((n : Int) - (t : Int)) = ((n - t : Nat) : Int) from by omega, Int.natCast_mul]
      have hpb : p ≤ 1000000000 := by rw [hp, ← hs]; exact hb.2
      have hsb := hb.1
      obtain ⟨q, hq⟩ : ∃ q, q = p / (t + 1) := ⟨_, rfl⟩
      have hq1 : (p : Int) / ((t : Int) + 1) = (q : Int) := by rw [hq, Int.natCast_ediv]; rfl
      have hqb : q ≤ 1000000000 := by rw [hq]; exact Nat.le_trans (Nat.div_le_self _ _) hpb
      have Hp := Lib.hid hp
      have Hs := Lib.hid hs
      have Hq := Lib.hid hq
      clear hb hp hs hq
      go_wp2
      go_round
      case rel =>
        refine ⟨t + 1, by omega, by go_num, ?_⟩
        rw [E1.out, ← Hp.out, ← Hq.out]
      case measure => simp [intOf]; omega
    · obtain rfl : t = k := by omega
      go_wp2
      go_ret
      exact ⟨rfl, rfl⟩

def stepA (s : Nat × Nat) (x : Nat) : Nat × Nat := (s.1 * (x / Nat.gcd x s.2), s.2 / Nat.gcd x s.2)
def stepB (s : Nat × Nat) (x : Nat) : Nat × Nat := (s.1 / Nat.gcd s.1 x, s.2 * (x / Nat.gcd s.1 x))
def itA (s : Nat × Nat) (x0 : Nat) : Nat → Nat × Nat
  | 0 => s
  | t + 1 => stepA (itA s x0 t) (x0 + t)
def itB (s : Nat × Nat) (x0 : Nat) : Nat → Nat × Nat
  | 0 => s
  | t + 1 => stepB (itB s x0 t) (x0 + t)
def outer (n : Nat) : Nat → Nat × Nat
  | 0 => (1, 1)
  | k + 1 => itB (itA (outer n k) (n + k + 1) (2 * k + 1 - n)) (3 * k + 2) (n - (2 * k + 1))

def okS (s : Nat × Nat) : Bool := decide (s.1 ≤ 1000000000000000000) && decide (s.2 ≤ 1000000000000000000) && decide (1 ≤ s.1) && decide (1 ≤ s.2)
theorem itA_ok : ∀ n, n < 9 → ∀ k, k < n → ∀ t, t < 9 → t ≤ 2 * k + 1 - n → okS (itA (outer n k) (n + k + 1) t) = true := by decide +kernel
theorem itB_ok : ∀ n, n < 9 → ∀ k, k < n → ∀ t, t < 9 → t ≤ n - (2 * k + 1) → okS (itB (itA (outer n k) (n + k + 1) (2 * k + 1 - n)) (3 * k + 2) t) = true := by decide +kernel
theorem outer_ok : ∀ n, n < 9 → okS (outer n n) = true := by decide +kernel
theorem outer_cI : ∀ n, n < 9 → 1 ≤ n → (outer n n).1 / (outer n n).2 = cI n := by decide +kernel

theorem okS_b {s : Nat × Nat} (h : okS s = true) : s.1 ≤ 1000000000000000000 ∧ s.2 ≤ 1000000000000000000 ∧ 1 ≤ s.1 ∧ 1 ≤ s.2 := by
  unfold okS at h
  simp only [Bool.and_eq_true, decide_eq_true_eq] at h
  omega

end Go.Proofs.Ytfempacfaeknpaa

namespace Go.Proofs.Ytfempacfaeknpaa
open Go.RowKit

set_option maxRecDepth 100000 in
set_option maxHeartbeats 400000 in
theorem l1Same_any (a1 a2 : Option Addr) (c1 c2 : Nat) (xs ys : List Int) (w : World) (hn : xs.length ≤ 1048576) (hn2 : ys.length ≤ 1048576) (h1 : IntsAt w a1 xs) (h2 : IntsAt w a2 ys) :
    Calls Try.prog 122 #[.slice a1 xs.length c1, .slice a2 ys.length c2] w fun e w' => e = .returned (.bool (xs == ys)) ∧ Q w w' := by
  have hm1 : xs.length ≤ 9223372036854775807 := by omega
  have hm2 : ys.length ≤ 9223372036854775807 := by omega
  have H1 := Lib.hid h1
  have H2 := Lib.hid h2
  clear h1 h2
  by_cases hl : ys.length = xs.length
  · have Hl := Lib.hid hl
    have hb : ((xs.length : Int) != (ys.length : Int)) = false := by simp; omega
    go_enter Try.func122, Try.ntmps122
    go_wp2
    go_loopw [13] (fun i wr => ∃ k : Nat, k ≤ xs.length ∧ i = .int .i64 k ∧ (∀ j, j < k → gi xs j = gi ys j) ∧ Q w wr) (fun i _ => xs.length - (intOf i).toNat)
    case atStart => exact ⟨0, Nat.zero_le _, rfl, fun j hj => absurd hj (by omega), Q.refl _⟩
    case round =>
      obtain ⟨k, hk, rfl, hr, hbr⟩ := hrel
      by_cases hlt : k < xs.length
      · obtain ⟨b1, o1, rfl, hc1⟩ := H1.out.below (hbr.below _) k hlt
        obtain ⟨b2, o2, rfl, hc2⟩ := H2.out.below (hbr.below _) k (by omega)
        have Hr := Lib.hid hr
        have Hbr := Lib.hid hbr
        by_cases e : gi xs k = gi ys k
        · have He := Lib.hid e
          rw [← e] at hc2
          obtain ⟨x, hx⟩ : ∃ x, x = gi xs k := ⟨_, rfl⟩
          rw [← hx] at hc1 hc2
          clear hx e hr hbr
          go_wp2
          go_quiet (fail)
          go_wp2
          go_roundw
          case rel => exact ⟨k + 1, by omega, by go_num, fun j hj => by
            by_cases ej : j = k
            · subst ej; exact He.out
            · exact Hr.out j (by omega), Hbr.out.drewN _⟩
          case measure => simp [intOf]; omega
        · have Hs := Lib.hid (show (xs == ys) = false by
            rw [beq_eq_false_iff_ne]
            intro h
            exact e (by rw [h]))
          have hne : (gi xs k != gi ys k) = true := by simpa using e
          obtain ⟨x, hx⟩ : ∃ x, x = gi xs k := ⟨_, rfl⟩
          obtain ⟨y, hy⟩ : ∃ y, y = gi ys k := ⟨_, rfl⟩
          rw [← hx] at hc1 hne
          rw [← hy] at hc2 hne
          clear hx hy e hr hbr
          go_wp2
          go_quiet (fail)
          go_wp2
          go_ret
          exact ⟨by rw [Hs.out]; rfl, Hbr.out.drewN _⟩
      · obtain rfl : k = xs.length := by omega
        have Hs := Lib.hid (show (xs == ys) = true by
          rw [beq_iff_eq]
          exact ext_gi Hl.out.symm hr)
        have Hbr := Lib.hid hbr
        clear hr hbr
        go_wp2
        go_ret
        exact ⟨by rw [Hs.out]; rfl, Hbr.out⟩
  · have Hs := Lib.hid (show (xs == ys) = false by
      rw [beq_eq_false_iff_ne]
      intro h
      exact hl (by rw [h]))
    have hb : ((xs.length : Int) != (ys.length : Int)) = true := by simp; omega
    go_enter Try.func122, Try.ntmps122
    go_wp2
    go_ret
    exact ⟨by rw [Hs.out]; rfl, Q.refl _⟩

end Go.Proofs.Ytfempacfaeknpaa

namespace Go.Proofs.Ytfempacfaeknpaa
open Go.RowKit

set_option maxRecDepth 100000 in
set_option maxHeartbeats 800000 in
theorem weSide_any (n : Int) (w : World) : Calls Try.prog 112 #[.int .i64 n] w fun e w' => Ans (1 ≤ n ∧ n ≤ 4) e ∧ w = w' := by
  go_enter Try.func112, Try.ntmps112
  go_wp2_with fail
  refine (l1In_any n 1 4 w).mono ?_
  rintro e w2 ⟨⟨b, rfl, hb⟩, rfl⟩
  have Hb := Lib.hid hb
  clear hb
  go_wp2
  go_ret
  exact ⟨⟨b, rfl, Hb.out⟩, rfl⟩

end Go.Proofs.Ytfempacfaeknpaa

