/- Parts of proofs: contracts and plain facts. Conditions: as each says. -/
import Derived.Test.YtgdijjfipicodaaDoorK13
namespace Go.Proofs.YtgdijjfipicodaaDoor
open Go.RowKit Go.Maps

/-- a function that scores a step from a row to one above it -/
def Scores (f : FuncId) (sc : List Int → List Int → Int) : Prop := ∀ (xs ys : List Int) (w : World), Rise xs → xs.length ≤ 6 → ys ∈ above xs → Dj w →
  Calls Tryd.prog f #[.int .u64 (mask xs : Nat), .int .u64 (mask ys : Nat)] w fun e w' => e = .returned (.int .i64 (sc xs ys)) ∧ Below w.heap.size w w'

theorem grown_of_below {a w : World} (h : Below a.heap.size a w) : a.grownBy w none := ⟨h.os, h.tape, h.output, h.size, fun k hk _ => h.block k hk⟩
theorem Dj.grown {a w : World} {b : Nat} (h : Dj a) (hg : a.grownBy w (some b)) (hb : 2 < b) : Dj w := fun i hi => hg.cell (h i hi) (fun e => by simp at e; omega)
theorem i64_wrap (n : Int) : IntKind.i64.wrap n = wrap64 n := by
  unfold wrap64
  simp [IntKind.wrap, IntKind.bits, IntKind.signed]
  omega


/-- where one can stand behind j steps -/
theorem reach_succ (sc : List Int → List Int → Int) (xs : List Int) (j : Nat) : reach sc xs (j + 1) = stepR sc (reach sc xs j) := rfl
def SmallSc (sc : List Int → List Int → Int) : Prop := ∀ xs ys, Rise xs → xs.length ≤ 6 → ys ∈ above xs → 0 ≤ sc xs ys ∧ sc xs ys ≤ 15
theorem reach_ok {sc : List Int → List Int → Int} (hb : SmallSc sc) {xs : List Int} (hr : Rise xs) (h6 : xs.length ≤ 6) : ∀ j, ∀ p ∈ reach sc xs j, Rise p.1 ∧ p.1.length + j = xs.length ∧ 0 ≤ p.2 ∧ p.2 ≤ 15 * j
  | 0, p, hp => by
    simp [reach] at hp
    subst hp
    exact ⟨hr, rfl, by simp, by simp⟩
  | j + 1, p, hp => by
    rw [reach_succ] at hp
    obtain ⟨q, hq, hm⟩ := List.mem_flatMap.1 hp
    obtain ⟨ys, hy, rfl⟩ := List.mem_map.1 hm
    obtain ⟨a, b, c, d⟩ := reach_ok hb hr h6 j q hq
    obtain ⟨e, f⟩ := above_mem a hy
    have := hb q.1 ys a (by omega) hy
    exact ⟨e, by simp only; omega, by simp only; omega, by simp only; omega⟩
theorem reach_vk {sc : List Int → List Int → Int} (hb : SmallSc sc) {xs : List Int} (hr : Rise xs) (h6 : xs.length ≤ 6) {j : Nat} {p : Pos} (hp : p ∈ reach sc xs j) : vk p ∧ p.1.length ≤ 6 := by
  obtain ⟨a, b, c, d⟩ := reach_ok hb hr h6 j p hp
  exact ⟨⟨a, by omega, by omega⟩, by omega⟩
def triN (n : Nat) : Nat → Nat
  | 0 => 0
  | j + 1 => triN n j + (n - 1 - j)
theorem triN_le : ∀ n, n ≤ 6 → ∀ j, j ≤ 6 → triN n j ≤ 15 := by decide
theorem reach_len {sc : List Int → List Int → Int} (hb : SmallSc sc) {xs : List Int} (hr : Rise xs) (h6 : xs.length ≤ 6) : ∀ j, (reach sc xs j).length ≤ 16 ^ triN xs.length j
  | 0 => by simp [reach, triN]
  | j + 1 => by
    have h1 := reach_len hb hr h6 j
    rw [reach_succ, triN, Nat.pow_add]
    unfold stepR
    refine flatMap_le h1 (fun p hp => ?_)
    obtain ⟨a, b, _, _⟩ := reach_ok hb hr h6 j p hp
    rw [List.length_map]
    have := above_len a
    rw [show p.1.length - 1 = xs.length - 1 - j from by omega] at this
    exact this
theorem reach_short {sc : List Int → List Int → Int} (hb : SmallSc sc) {xs : List Int} (hr : Rise xs) (h6 : xs.length ≤ 6) {j : Nat} (hj : j ≤ 6) : (reach sc xs j).length < 9223372036854775807 := by
  have h1 := reach_len hb hr h6 j
  have h2 : 16 ^ triN xs.length j ≤ 16 ^ 15 := Nat.pow_le_pow_right (by omega) (triN_le _ h6 _ hj)
  omega
theorem Dj.lt {w : World} (h : Dj w) : 2 < w.heap.size := World.block_lt_of_cell? _ _ (h 0 (by omega))

end Go.Proofs.YtgdijjfipicodaaDoor

namespace Go.Proofs.YtgdijjfipicodaaDoor
open Go.RowKit Go.Maps
open Go.WideMaps (KeyLaw)

end Go.Proofs.YtgdijjfipicodaaDoor

namespace Go.Proofs.YtgdijjfipicodaaDoor
open Go.RowKit Go.Maps
open Go.WideMaps (KeyLaw)


end Go.Proofs.YtgdijjfipicodaaDoor

namespace Go.Proofs.YtgdijjfipicodaaDoor
/-- the rows behind: rem is what is left of the row, L the number of the row before, p the last number chosen -/
def bh (n : Int) : List Int → Int → Int → List (List Int)
  | [], L, p => (rng (max L (p + 1)) (n - 1)).map fun x => [x]
  | a :: r, L, p => (rng (max L (p + 1)) a).flatMap fun x => (bh n r a x).map fun ys => x :: ys
def behind (n : Int) (row : List Int) : List (List Int) := bh n row 0 (-1)
theorem bh_mem {n : Int} {row : List Int} {L p : Int} (hL : 0 ≤ L) (hr : ∀ x ∈ row, 0 ≤ x ∧ x < n) {ys : List Int} (h : ys ∈ bh n row L p) : Up (p :: ys) ∧ (∀ y ∈ ys, 0 ≤ y ∧ y < n) ∧ ys.length = row.length + 1 := by
  induction row generalizing L p ys with
  | nil =>
    simp only [bh, List.mem_map, mem_rng] at h
    obtain ⟨x, hx, rfl⟩ := h
    refine ⟨⟨by omega, trivial⟩, fun y hy => ?_, rfl⟩
    simp at hy; subst hy
    omega
  | cons a r ih =>
    simp only [bh, List.mem_flatMap, List.mem_map, mem_rng] at h
    obtain ⟨x, hx, zs, hz, rfl⟩ := h
    have ha := hr a (by simp)
    obtain ⟨h1, h2, h3⟩ := ih ha.1 (fun y hy => hr y (by simp [hy])) hz
    refine ⟨⟨by omega, h1⟩, fun y hy => ?_, by simp [h3]⟩
    rcases List.mem_cons.1 hy with rfl | hy
    · omega
    · exact h2 y hy
/-- rows of columns of a matrix with n rows -/
def ColsN (n : Nat) (row : List Int) : Prop := Up row ∧ ∀ x ∈ row, 0 ≤ x ∧ x < n
theorem ColsN.rise {n : Nat} {row : List Int} (h : ColsN n row) (hn : n ≤ 16) : Rise row := ⟨h.1, fun x hx => by have := h.2 x hx; omega⟩
theorem behind_mem {n : Nat} {row : List Int} (h : ColsN n row) {ys : List Int} (hy : ys ∈ behind n row) : ColsN n ys ∧ ys.length = row.length + 1 := by
  obtain ⟨h1, h2, h3⟩ := bh_mem (by omega) h.2 hy
  exact ⟨⟨h1.tail, h2⟩, h3⟩
theorem bh_len {n : Nat} (hn : n ≤ 6) {row : List Int} (hr : ∀ x ∈ row, 0 ≤ x ∧ x < n) {L p : Int} (hL : 0 ≤ L) : (bh n row L p).length ≤ 6 ^ (row.length + 1) := by
  have rl : ∀ a b : Int, 0 ≤ a → b ≤ 5 → (rng a b).length ≤ 6 := fun a b ha hb => by unfold rng; simp; omega
  induction row generalizing L p with
  | nil =>
    simp only [bh, List.length_map]
    exact Nat.le_trans (rl _ _ (by omega) (by omega)) (by simp)
  | cons a r ih =>
    simp only [bh]
    have ha := hr a (by simp)
    refine Nat.le_trans (flatMap_le (k := 6 ^ (r.length + 1)) (rl _ _ (by omega) (by omega)) (fun x _ => ?_)) (by simp [Nat.pow_succ, Nat.mul_comm])
    rw [List.length_map]
    exact ih (fun y hy => hr y (by simp [hy])) ha.1
theorem behind_len {n : Nat} (hn : n ≤ 6) {row : List Int} (h : ColsN n row) (hl : row.length ≤ 6) : (behind n row).length ≤ 1048576 := by
  have h1 := bh_len hn h.2 (L := 0) (p := -1) (by omega)
  have h2 : 6 ^ (row.length + 1) ≤ 6 ^ 7 := Nat.pow_le_pow_right (by omega) (by omega)
  unfold behind
  omega
theorem ColsN.len {n : Nat} {row : List Int} (h : ColsN n row) : row.length ≤ n := by
  have lo : ∀ k, k < row.length → (k : Int) ≤ gi row k := by
    intro k
    induction k with
    | zero => intro hk; exact (h.2 _ (gi_mem hk)).1
    | succ k ih =>
      intro hk
      have a := ih (by omega)
      have b := (up_iff _).1 h.1 (k + 1) hk (by omega)
      rw [show k + 1 - 1 = k from rfl] at b
      omega
  by_cases h0 : row.length = 0
  · omega
  · have := lo (row.length - 1) (by omega)
    have := (h.2 _ (gi_mem (show row.length - 1 < row.length by omega))).2
    omega

/-- ways on to all n columns -/
def waysBN (n : Nat) : Nat → List Int → Int
  | 0, _ => 1
  | d + 1, row => sumL (behind n row) (waysBN n d)
def waysB (n : Nat) (row : List Int) : Int := waysBN n (n - row.length) row
theorem waysB_full {n : Nat} {row : List Int} (h : row.length = n) : waysB n row = 1 := by unfold waysB; rw [h, Nat.sub_self]; rfl
theorem waysB_more {n : Nat} {row : List Int} (hc : ColsN n row) (h : row.length < n) : waysB n row = sumL (behind n row) (waysB n) := by
  unfold waysB
  obtain ⟨d, hd⟩ : ∃ d, n - row.length = d + 1 := ⟨n - row.length - 1, by omega⟩
  rw [hd, waysBN]
  refine sumL_congr fun ys hy => ?_
  have := (behind_mem hc hy).2
  rw [show n - ys.length = d from by omega]

/-- of the rows that go on 'first', those whose next number is below v -/
def bhPart (n : Int) (row first : List Int) (lo v : Int) : List (List Int) :=
  match row.drop first.length with
  | [] => (rng lo (v - 1)).map fun x => first ++ [x]
  | a :: r => (rng lo (v - 1)).flatMap fun x => (bh n r a x).map fun ys => (first ++ [x]) ++ ys
/-- .. whose next number is v -/
def bhNext (n : Int) (row first : List Int) (v : Int) : List (List Int) :=
  match row.drop first.length with
  | [] => [first ++ [v]]
  | a :: r => (bh n r a v).map fun ys => (first ++ [v]) ++ ys
theorem bhPart_start (n : Int) (row first : List Int) (lo : Int) : bhPart n row first lo lo = [] := by
  unfold bhPart
  rw [rng_nil (by omega)]
  split <;> rfl
theorem bhPart_step {n : Int} {row first : List Int} {lo v : Int} (h : lo ≤ v) : bhPart n row first lo (v + 1) = bhPart n row first lo v ++ bhNext n row first v := by
  unfold bhPart bhNext
  rw [show v + 1 - 1 = v from by omega, rng_snoc h]
  split <;> simp
end Go.Proofs.YtgdijjfipicodaaDoor

namespace Go.Proofs.YtgdijjfipicodaaDoor
def addT (p : Pos) (c : Int) : List Ent → List Ent
  | [] => [(p, c)]
  | x :: r => if x.1 = p then (x.1, x.2 + c) :: r else x :: addT p c r
theorem potL_addT (p : Pos) (c : Int) (φ : Pos → Int) : ∀ T, potL (addT p c T) φ = potL T φ + c * φ p
  | [] => by simp [addT, potL, sumL]
  | x :: r => by
    unfold addT
    split
    · next e => unfold potL; rw [sumL_cons, sumL_cons]; simp only; rw [e, Int.add_mul]; omega
    · have := potL_addT p c φ r
      unfold potL at *
      rw [sumL_cons, sumL_cons, this]
      omega
/-- what each place passes on to its children, equal places as one -/
def expandT (ch : Pos → List Pos) (T : List Ent) : List Ent := T.foldl (fun acc x => (ch x.1).foldl (fun acc q => addT q x.2 acc) acc) []
theorem potL_inner (c : Int) (φ : Pos → Int) : ∀ (qs : List Pos) (acc : List Ent), potL (qs.foldl (fun acc q => addT q c acc) acc) φ = potL acc φ + c * sumL qs φ
  | [], acc => by simp [sumL]
  | q :: r, acc => by
    rw [List.foldl_cons, potL_inner c φ r, potL_addT, sumL_cons, Int.mul_add]
    omega
theorem potL_outer (ch : Pos → List Pos) (φ : Pos → Int) : ∀ (T acc : List Ent), potL (T.foldl (fun acc x => (ch x.1).foldl (fun acc q => addT q x.2 acc) acc) acc) φ = potL acc φ + potL T (fun p => sumL (ch p) φ)
  | [], acc => by simp [potL, sumL]
  | x :: r, acc => by
    rw [List.foldl_cons, potL_outer ch φ r, potL_inner]
    unfold potL
    rw [sumL_cons]
    simp only
    omega
theorem potL_expand (ch : Pos → List Pos) (T : List Ent) (φ : Pos → Int) : potL (expandT ch T) φ = potL T (fun p => sumL (ch p) φ) := by
  unfold expandT
  rw [potL_outer]
  simp [potL, sumL]
def iterT (ch : Pos → List Pos) : Nat → List Ent → List Ent
  | 0, T => T
  | j + 1, T => iterT ch j (expandT ch T)
def upCh (sc : List Int → List Int → Int) (p : Pos) : List Pos := (above p.1).map fun ys => (ys, p.2 + sc p.1 ys)
theorem sumL_map {α β : Type} (l : List α) (g : α → β) (f : β → Int) : sumL (l.map g) f = sumL l (fun x => f (g x)) := by
  unfold sumL; rw [List.map_map]; rfl
theorem climb_tab (sc : List Int → List Int → Int) (φ : List Int → Int → Int) : ∀ (j : Nat) (T : List Ent), potL T (fun p => climbW sc φ j p.1 p.2) = potL (iterT (upCh sc) j T) (fun p => φ p.1 p.2)
  | 0, T => rfl
  | j + 1, T => by
    rw [iterT, ← climb_tab sc φ j, potL_expand]
    unfold potL
    refine sumL_congr fun x _ => ?_
    simp only [climbW, upCh, sumL_map]
theorem climb_tab0 (sc : List Int → List Int → Int) (φ : List Int → Int → Int) (j : Nat) (xs : List Int) : climbW sc φ j xs 0 = potL (iterT (upCh sc) j [((xs, 0), 1)]) (fun p => φ p.1 p.2) := by
  rw [← climb_tab]
  simp [potL, sumL]
def dnCh (n : Nat) (p : Pos) : List Pos := (behind n p.1).map fun ys => (ys, p.2)
theorem ways_tab (n : Nat) : ∀ (d : Nat) (T : List Ent), potL T (fun p => waysBN n d p.1) = potL (iterT (dnCh n) d T) (fun _ => 1)
  | 0, T => rfl
  | d + 1, T => by
    rw [iterT, ← ways_tab n d, potL_expand]
    unfold potL
    refine sumL_congr fun x _ => ?_
    simp only [waysBN, dnCh, sumL_map]
theorem ways_tab0 (n : Nat) (d : Nat) (row : List Int) : waysBN n d row = potL (iterT (dnCh n) d [((row, 0), 1)]) (fun _ => 1) := by
  rw [← ways_tab]
  simp [potL, sumL]
def topSc (_ ys : List Int) : Int := if 1 < ys.length then 0 else gi ys 0
def hits (i : Int) : List Int → Int → Int := fun _ s => if s = i then 1 else 0
def firstA (n : Nat) : List Int := (List.range n).map fun i : Nat => climbW topSc (hits (i : Int)) (n - 1) (iota n) 0
def firstB (n : Nat) : List Int := (List.range n).map fun i : Nat => waysB n [(i : Int)]
def firstC (n : Nat) : Bool := let T := iterT (upCh topSc) (n - 1) [((iota n, 0), 1)]
  (List.range n).all fun i => potL T (fun p => hits (i : Int) p.1 p.2) == potL (iterT (dnCh n) (n - 1) [(([(i : Int)], 0), 1)]) (fun _ => 1)
set_option maxRecDepth 1000000 in
theorem first_ok : firstC 1 = true ∧ firstC 2 = true ∧ firstC 3 = true ∧ firstC 4 = true ∧ firstC 5 = true ∧ firstC 6 = true := by decide +kernel
theorem first_same {n : Nat} (h1 : 1 ≤ n) (h6 : n ≤ 6) : firstA n = firstB n := by
  have hc : firstC n = true := by
    obtain ⟨a, b, c, d, e, f⟩ := first_ok
    rcases (by omega : n = 1 ∨ n = 2 ∨ n = 3 ∨ n = 4 ∨ n = 5 ∨ n = 6) with rfl | rfl | rfl | rfl | rfl | rfl
    · exact a
    · exact b
    · exact c
    · exact d
    · exact e
    · exact f
  unfold firstA firstB
  refine List.map_congr_left fun i hi => ?_
  have := List.all_eq_true.1 hc i hi
  rw [climb_tab0]
  unfold waysB
  rw [show n - [(i : Int)].length = n - 1 from rfl, ways_tab0]
  simpa using this
end Go.Proofs.YtgdijjfipicodaaDoor

namespace Go.Proofs.YtgdijjfipicodaaDoor
open Go.RowKit

theorem i64_or_nat (a b : Nat) (ha : a < 65536) (hb : b < 65536) : bits .or .i64 (a : Int) (b : Int) = ((a ||| b : Nat) : Int) := by
  have h1 : (BitVec.ofInt 64 (a : Int)).toNat = a := ofInt_u64 a (by omega)
  have h2 : (BitVec.ofInt 64 (b : Int)).toNat = b := ofInt_u64 b (by omega)
  have h3 : a ||| b < 65536 := Nat.or_lt_two_pow (n := 16) ha hb
  show IntKind.i64.wrap (((BitVec.ofInt 64 (a : Int) ||| BitVec.ofInt 64 (b : Int)).toNat : Nat) : Int) = _
  rw [BitVec.toNat_or, h1, h2]
  exact i64_small (by omega) (by omega)

theorem grown_of_below' {a w : World} (h : Below a.heap.size a w) : a.grownBy w none := ⟨h.os, h.tape, h.output, h.size, fun k hk _ => h.block k hk⟩
/-- what is known is right -/
def KnowsT (xs : List Int) : Prop := ∀ ys, Rise ys → 2 ≤ ys.length → ys.length ≤ 6 → gi xs (mask ys) > 0 → gi xs (mask ys) = wrap64 (ways ys)
theorem KnowsT.set {xs : List Int} (h : KnowsT xs) (hl : xs.length = 65536) {ys : List Int} (hy : Rise ys) : KnowsT (xs.set (mask ys) (wrap64 (ways ys))) := by
  intro zs hz h2 h6
  rw [gi_set (by rw [hl]; exact mask_lt16 hy)]
  by_cases e : mask zs = mask ys
  · have e2 : zs = ys := mask_inj hz.1 (fun x hx => (hz.2 x hx).1) hy.1 (fun x hx => (hy.2 x hx).1) e
    subst e2
    intro _
    rw [if_pos rfl]
  · rw [if_neg e]
    exact h zs hz h2 h6
theorem wrap_add (a b : Int) : wrap64 (wrap64 a + wrap64 b) = wrap64 (a + b) := by unfold wrap64; omega
theorem wrap_add_left (a b : Int) : wrap64 (wrap64 a + b) = wrap64 (a + b) := by unfold wrap64; omega

/-- the sum of the first k -/
def sumTake (L : List (List Int)) (k : Nat) : Int := sumL (L.take k) ways
theorem sumTake_succ {L : List (List Int)} {k : Nat} (h : k < L.length) : sumTake L (k + 1) = sumTake L k + ways (gr L k) := by
  unfold sumTake
  rw [List.take_succ_eq_append_getElem h, sumL_append, gr_lt h]
  simp [sumL]

theorem gi_zero (n i : Nat) : gi (List.replicate n 0) i = 0 := by
  unfold gi
  rw [List.getD, List.getElem?_replicate]
  split <;> rfl
theorem knows_zero (n : Nat) : KnowsT (List.replicate n 0) := fun ys _ _ _ h => by rw [gi_zero] at h; omega

end Go.Proofs.YtgdijjfipicodaaDoor

namespace Go.Proofs.YtgdijjfipicodaaDoor
open Go.RowKit
/-- how many climbs from all n columns have each of the first k scores -/
def scoreL (sc : List Int → List Int → Int) (n k : Nat) : List Int := (List.range k).map fun i : Nat => wrap64 (climbW sc (hits (i : Int)) (n - 1) (iota n) 0)
end Go.Proofs.YtgdijjfipicodaaDoor

namespace Go.Proofs.YtgdijjfipicodaaDoor
open Go.RowKit Go.Maps

end Go.Proofs.YtgdijjfipicodaaDoor

