/- Parts of proofs: contracts and plain facts. Conditions: as each says. -/
import Derived.Test.YtmonhmbnbhaemaaDoorK08
import Derived.Lib.SliceRun
namespace Go.Proofs.YtmonhmbnbhaemaaDoor
open Go.RowKit Go.Maps

/-- a function that scores a step from a row to one above it -/
def Scores (f : FuncId) (sc : List Int → List Int → Int) : Prop := ∀ (xs ys : List Int) (w : World), Rise xs → xs.length ≤ 6 → ys ∈ above xs → Dj w →
  Calls Tryd.prog f #[.int .u64 (mask xs : Nat), .int .u64 (mask ys : Nat)] w fun e w' => e = .returned (.int .i64 (sc xs ys)) ∧ Below w.heap.size w w'

theorem grown_of_below {a w : World} (h : Below a.heap.size a w) : a.grownBy w none := ⟨h.os, h.tape, h.output, h.size, fun k hk _ => h.block k hk⟩
theorem Dj.grown {a w : World} {b : Nat} (h : Dj a) (hg : a.grownBy w (some b)) (hb : 1 < b) : Dj w := fun i hi => hg.cell (h i hi) (fun e => by simp at e; omega)
theorem i64_wrap (n : Int) : IntKind.i64.wrap n = wrap64 n := by
  unfold wrap64
  simp [IntKind.wrap, IntKind.bits, IntKind.signed]
  omega


/-- where one can stand behind j steps -/
theorem reach_succ (sc : List Int → List Int → Int) (xs : List Int) (j : Nat) : reach sc xs (j + 1) = stepR sc (reach sc xs j) := rfl
def SmallSc (sc : List Int → List Int → Int) : Prop := ∀ xs ys, Rise xs → xs.length ≤ 6 → ys ∈ above xs → 0 ≤ sc xs ys ∧ sc xs ys ≤ 15
theorem reach_ok {sc : List Int → List Int → Int} (hb : SmallSc sc) {xs : List Int} (hr : Rise xs) (h6 : xs.length ≤ 6) : ∀ j, ∀ p ∈ reach sc xs j, Rise p.1 ∧ p.1.length + j = xs.length ∧ 0 ≤ p.2 ∧ p.2 ≤ 15 * j
  | 0, p, hp => by
    simp [reach] at hp
    subst hp
    exact ⟨hr, rfl, by simp, by simp⟩
  | j + 1, p, hp => by
    rw [reach_succ] at hp
    obtain ⟨q, hq, hm⟩ := List.mem_flatMap.1 hp
    obtain ⟨ys, hy, rfl⟩ := List.mem_map.1 hm
    obtain ⟨a, b, c, d⟩ := reach_ok hb hr h6 j q hq
    obtain ⟨e, f⟩ := above_mem a hy
    have := hb q.1 ys a (by omega) hy
    exact ⟨e, by simp only; omega, by simp only; omega, by simp only; omega⟩
theorem reach_vk {sc : List Int → List Int → Int} (hb : SmallSc sc) {xs : List Int} (hr : Rise xs) (h6 : xs.length ≤ 6) {j : Nat} {p : Pos} (hp : p ∈ reach sc xs j) : vk p ∧ p.1.length ≤ 6 := by
  obtain ⟨a, b, c, d⟩ := reach_ok hb hr h6 j p hp
  exact ⟨⟨a, by omega, by omega⟩, by omega⟩
def triN (n : Nat) : Nat → Nat
  | 0 => 0
  | j + 1 => triN n j + (n - 1 - j)
theorem triN_le : ∀ n, n ≤ 6 → ∀ j, j ≤ 6 → triN n j ≤ 15 := by decide
theorem reach_len {sc : List Int → List Int → Int} (hb : SmallSc sc) {xs : List Int} (hr : Rise xs) (h6 : xs.length ≤ 6) : ∀ j, (reach sc xs j).length ≤ 16 ^ triN xs.length j
  | 0 => by simp [reach, triN]
  | j + 1 => by
    have h1 := reach_len hb hr h6 j
    rw [reach_succ, triN, Nat.pow_add]
    unfold stepR
    refine flatMap_le h1 (fun p hp => ?_)
    obtain ⟨a, b, _, _⟩ := reach_ok hb hr h6 j p hp
    rw [List.length_map]
    have := above_len a
    rw [show p.1.length - 1 = xs.length - 1 - j from by omega] at this
    exact this
theorem reach_short {sc : List Int → List Int → Int} (hb : SmallSc sc) {xs : List Int} (hr : Rise xs) (h6 : xs.length ≤ 6) {j : Nat} (hj : j ≤ 6) : (reach sc xs j).length < 9223372036854775807 := by
  have h1 := reach_len hb hr h6 j
  have h2 : 16 ^ triN xs.length j ≤ 16 ^ 15 := Nat.pow_le_pow_right (by omega) (triN_le _ h6 _ hj)
  omega
theorem Dj.lt {w : World} (h : Dj w) : 1 < w.heap.size := World.block_lt_of_cell? _ _ (h 0 (by omega))

end Go.Proofs.YtmonhmbnbhaemaaDoor

namespace Go.Proofs.YtmonhmbnbhaemaaDoor
open Go.RowKit Go.Maps
open Go.WideMaps (KeyLaw)

end Go.Proofs.YtmonhmbnbhaemaaDoor

namespace Go.Proofs.YtmonhmbnbhaemaaDoor
open Go.RowKit Go.Maps
open Go.WideMaps (KeyLaw)


end Go.Proofs.YtmonhmbnbhaemaaDoor

namespace Go.Proofs.YtmonhmbnbhaemaaDoor
/-- the rows behind: rem is what is left of the row, L the number of the row before, p the last number chosen -/
def bh (n : Int) : List Int → Int → Int → List (List Int)
  | [], L, p => (rng (max L (p + 1)) (n - 1)).map fun x => [x]
  | a :: r, L, p => (rng (max L (p + 1)) a).flatMap fun x => (bh n r a x).map fun ys => x :: ys
def behind (n : Int) (row : List Int) : List (List Int) := bh n row 0 (-1)
theorem bh_mem {n : Int} {row : List Int} {L p : Int} (hL : 0 ≤ L) (hr : ∀ x ∈ row, 0 ≤ x ∧ x < n) {ys : List Int} (h : ys ∈ bh n row L p) : Up (p :: ys) ∧ (∀ y ∈ ys, 0 ≤ y ∧ y < n) ∧ ys.length = row.length + 1 := by
  induction row generalizing L p ys with
  | nil =>
    simp only [bh, List.mem_map, mem_rng] at h
    obtain ⟨x, hx, rfl⟩ := h
    refine ⟨⟨by omega, trivial⟩, fun y hy => ?_, rfl⟩
    simp at hy; subst hy
    omega
  | cons a r ih =>
    simp only [bh, List.mem_flatMap, List.mem_map, mem_rng] at h
    obtain ⟨x, hx, zs, hz, rfl⟩ := h
    have ha := hr a (by simp)
    obtain ⟨h1, h2, h3⟩ := ih ha.1 (fun y hy => hr y (by simp [hy])) hz
    refine ⟨⟨by omega, h1⟩, fun y hy => ?_, by simp [h3]⟩
    rcases List.mem_cons.1 hy with rfl | hy
    · omega
    · exact h2 y hy
/-- rows of columns of a matrix with n rows -/
def ColsN (n : Nat) (row : List Int) : Prop := Up row ∧ ∀ x ∈ row, 0 ≤ x ∧ x < n
theorem ColsN.rise {n : Nat} {row : List Int} (h : ColsN n row) (hn : n ≤ 16) : Rise row := ⟨h.1, fun x hx => by have := h.2 x hx; omega⟩
theorem behind_mem {n : Nat} {row : List Int} (h : ColsN n row) {ys : List Int} (hy : ys ∈ behind n row) : ColsN n ys ∧ ys.length = row.length + 1 := by
  obtain ⟨h1, h2, h3⟩ := bh_mem (by omega) h.2 hy
  exact ⟨⟨h1.tail, h2⟩, h3⟩
theorem bh_len {n : Nat} (hn : n ≤ 6) {row : List Int} (hr : ∀ x ∈ row, 0 ≤ x ∧ x < n) {L p : Int} (hL : 0 ≤ L) : (bh n row L p).length ≤ 6 ^ (row.length + 1) := by
  have rl : ∀ a b : Int, 0 ≤ a → b ≤ 5 → (rng a b).length ≤ 6 := fun a b ha hb => by unfold rng; simp; omega
  induction row generalizing L p with
  | nil =>
    simp only [bh, List.length_map]
    exact Nat.le_trans (rl _ _ (by omega) (by omega)) (by simp)
  | cons a r ih =>
    simp only [bh]
    have ha := hr a (by simp)
    refine Nat.le_trans (flatMap_le (k := 6 ^ (r.length + 1)) (rl _ _ (by omega) (by omega)) (fun x _ => ?_)) (by simp [Nat.pow_succ, Nat.mul_comm])
    rw [List.length_map]
    exact ih (fun y hy => hr y (by simp [hy])) ha.1
theorem behind_len {n : Nat} (hn : n ≤ 6) {row : List Int} (h : ColsN n row) (hl : row.length ≤ 6) : (behind n row).length ≤ 1048576 := by
  have h1 := bh_len hn h.2 (L := 0) (p := -1) (by omega)
  have h2 : 6 ^ (row.length + 1) ≤ 6 ^ 7 := Nat.pow_le_pow_right (by omega) (by omega)
  unfold behind
  omega
theorem ColsN.len {n : Nat} {row : List Int} (h : ColsN n row) : row.length ≤ n := by
  have lo : ∀ k, k < row.length → (k : Int) ≤ gi row k := by
    intro k
    induction k with
    | zero => intro hk; exact (h.2 _ (gi_mem hk)).1
    | succ k ih =>
      intro hk
      have a := ih (by omega)
      have b := (up_iff _).1 h.1 (k + 1) hk (by omega)
      rw [show k + 1 - 1 = k from rfl] at b
      omega
  by_cases h0 : row.length = 0
  · omega
  · have := lo (row.length - 1) (by omega)
    have := (h.2 _ (gi_mem (show row.length - 1 < row.length by omega))).2
    omega

/-- ways on to all n columns -/
def waysBN (n : Nat) : Nat → List Int → Int
  | 0, _ => 1
  | d + 1, row => sumL (behind n row) (waysBN n d)
def waysB (n : Nat) (row : List Int) : Int := waysBN n (n - row.length) row
theorem waysB_full {n : Nat} {row : List Int} (h : row.length = n) : waysB n row = 1 := by unfold waysB; rw [h, Nat.sub_self]; rfl
theorem waysB_more {n : Nat} {row : List Int} (hc : ColsN n row) (h : row.length < n) : waysB n row = sumL (behind n row) (waysB n) := by
  unfold waysB
  obtain ⟨d, hd⟩ : ∃ d, n - row.length = d + 1 := ⟨n - row.length - 1, by omega⟩
  rw [hd, waysBN]
  refine sumL_congr fun ys hy => ?_
  have := (behind_mem hc hy).2
  rw [show n - ys.length = d from by omega]

/-- of the rows that go on 'first', those whose next number is below v -/
def bhPart (n : Int) (row first : List Int) (lo v : Int) : List (List Int) :=
  match row.drop first.length with
  | [] => (rng lo (v - 1)).map fun x => first ++ [x]
  | a :: r => (rng lo (v - 1)).flatMap fun x => (bh n r a x).map fun ys => (first ++ [x]) ++ ys
/-- .. whose next number is v -/
def bhNext (n : Int) (row first : List Int) (v : Int) : List (List Int) :=
  match row.drop first.length with
  | [] => [first ++ [v]]
  | a :: r => (bh n r a v).map fun ys => (first ++ [v]) ++ ys
theorem bhPart_start (n : Int) (row first : List Int) (lo : Int) : bhPart n row first lo lo = [] := by
  unfold bhPart
  rw [rng_nil (by omega)]
  split <;> rfl
theorem bhPart_step {n : Int} {row first : List Int} {lo v : Int} (h : lo ≤ v) : bhPart n row first lo (v + 1) = bhPart n row first lo v ++ bhNext n row first v := by
  unfold bhPart bhNext
  rw [show v + 1 - 1 = v from by omega, rng_snoc h]
  split <;> simp
end Go.Proofs.YtmonhmbnbhaemaaDoor

namespace Go.Proofs.YtmonhmbnbhaemaaDoor
def addT (p : Pos) (c : Int) : List Ent → List Ent
  | [] => [(p, c)]
  | x :: r => if x.1 = p then (x.1, x.2 + c) :: r else x :: addT p c r
theorem potL_addT (p : Pos) (c : Int) (φ : Pos → Int) : ∀ T, potL (addT p c T) φ = potL T φ + c * φ p
  | [] => by simp [addT, potL, sumL]
  | x :: r => by
    unfold addT
    split
    · next e => unfold potL; rw [sumL_cons, sumL_cons]; simp only; rw [e, Int.add_mul]; omega
    · have := potL_addT p c φ r
      unfold potL at *
      rw [sumL_cons, sumL_cons, this]
      omega
/-- what each place passes on to its children, equal places as one -/
def expandT (ch : Pos → List Pos) (T : List Ent) : List Ent := T.foldl (fun acc x => (ch x.1).foldl (fun acc q => addT q x.2 acc) acc) []
theorem potL_inner (c : Int) (φ : Pos → Int) : ∀ (qs : List Pos) (acc : List Ent), potL (qs.foldl (fun acc q => addT q c acc) acc) φ = potL acc φ + c * sumL qs φ
  | [], acc => by simp [sumL]
  | q :: r, acc => by
    rw [List.foldl_cons, potL_inner c φ r, potL_addT, sumL_cons, Int.mul_add]
    omega
theorem potL_outer (ch : Pos → List Pos) (φ : Pos → Int) : ∀ (T acc : List Ent), potL (T.foldl (fun acc x => (ch x.1).foldl (fun acc q => addT q x.2 acc) acc) acc) φ = potL acc φ + potL T (fun p => sumL (ch p) φ)
  | [], acc => by simp [potL, sumL]
  | x :: r, acc => by
    rw [List.foldl_cons, potL_outer ch φ r, potL_inner]
    unfold potL
    rw [sumL_cons]
    simp only
    omega
theorem potL_expand (ch : Pos → List Pos) (T : List Ent) (φ : Pos → Int) : potL (expandT ch T) φ = potL T (fun p => sumL (ch p) φ) := by
  unfold expandT
  rw [potL_outer]
  simp [potL, sumL]
def iterT (ch : Pos → List Pos) : Nat → List Ent → List Ent
  | 0, T => T
  | j + 1, T => iterT ch j (expandT ch T)
def upCh (sc : List Int → List Int → Int) (p : Pos) : List Pos := (above p.1).map fun ys => (ys, p.2 + sc p.1 ys)
theorem sumL_map {α β : Type} (l : List α) (g : α → β) (f : β → Int) : sumL (l.map g) f = sumL l (fun x => f (g x)) := by
  unfold sumL; rw [List.map_map]; rfl
theorem climb_tab (sc : List Int → List Int → Int) (φ : List Int → Int → Int) : ∀ (j : Nat) (T : List Ent), potL T (fun p => climbW sc φ j p.1 p.2) = potL (iterT (upCh sc) j T) (fun p => φ p.1 p.2)
  | 0, T => rfl
  | j + 1, T => by
    rw [iterT, ← climb_tab sc φ j, potL_expand]
    unfold potL
    refine sumL_congr fun x _ => ?_
    simp only [climbW, upCh, sumL_map]
theorem climb_tab0 (sc : List Int → List Int → Int) (φ : List Int → Int → Int) (j : Nat) (xs : List Int) : climbW sc φ j xs 0 = potL (iterT (upCh sc) j [((xs, 0), 1)]) (fun p => φ p.1 p.2) := by
  rw [← climb_tab]
  simp [potL, sumL]
def dnCh (n : Nat) (p : Pos) : List Pos := (behind n p.1).map fun ys => (ys, p.2)
theorem ways_tab (n : Nat) : ∀ (d : Nat) (T : List Ent), potL T (fun p => waysBN n d p.1) = potL (iterT (dnCh n) d T) (fun _ => 1)
  | 0, T => rfl
  | d + 1, T => by
    rw [iterT, ← ways_tab n d, potL_expand]
    unfold potL
    refine sumL_congr fun x _ => ?_
    simp only [waysBN, dnCh, sumL_map]
theorem ways_tab0 (n : Nat) (d : Nat) (row : List Int) : waysBN n d row = potL (iterT (dnCh n) d [((row, 0), 1)]) (fun _ => 1) := by
  rw [← ways_tab]
  simp [potL, sumL]
def topSc (_ ys : List Int) : Int := if 1 < ys.length then 0 else gi ys 0
def hits (i : Int) : List Int → Int → Int := fun _ s => if s = i then 1 else 0
def firstA (n : Nat) : List Int := (List.range n).map fun i : Nat => climbW topSc (hits (i : Int)) (n - 1) (iota n) 0
def firstB (n : Nat) : List Int := (List.range n).map fun i : Nat => waysB n [(i : Int)]
def firstC (n : Nat) : Bool := let T := iterT (upCh topSc) (n - 1) [((iota n, 0), 1)]
  (List.range n).all fun i => potL T (fun p => hits (i : Int) p.1 p.2) == potL (iterT (dnCh n) (n - 1) [(([(i : Int)], 0), 1)]) (fun _ => 1)
set_option maxRecDepth 1000000 in
theorem first_ok : firstC 1 = true ∧ firstC 2 = true ∧ firstC 3 = true ∧ firstC 4 = true ∧ firstC 5 = true ∧ firstC 6 = true := by decide +kernel
theorem first_same {n : Nat} (h1 : 1 ≤ n) (h6 : n ≤ 6) : firstA n = firstB n := by
  have hc : firstC n = true := by
    obtain ⟨a, b, c, d, e, f⟩ := first_ok
    rcases (by omega : n = 1 ∨ n = 2 ∨ n = 3 ∨ n = 4 ∨ n = 5 ∨ n = 6) with rfl | rfl | rfl | rfl | rfl | rfl
    · exact a
    · exact b
    · exact c
    · exact d
    · exact e
    · exact f
  unfold firstA firstB
  refine List.map_congr_left fun i hi => ?_
  have := List.all_eq_true.1 hc i hi
  rw [climb_tab0]
  unfold waysB
  rw [show n - [(i : Int)].length = n - 1 from rfl, ways_tab0]
  simpa using this
end Go.Proofs.YtmonhmbnbhaemaaDoor

namespace Go.Proofs.YtmonhmbnbhaemaaDoor
open Go.RowKit

theorem i64_or_nat (a b : Nat) (ha : a < 65536) (hb : b < 65536) : bits .or .i64 (a : Int) (b : Int) = ((a ||| b : Nat) : Int) := by
  have h1 : (BitVec.ofInt 64 (a : Int)).toNat = a := ofInt_u64 a (by omega)
  have h2 : (BitVec.ofInt 64 (b : Int)).toNat = b := ofInt_u64 b (by omega)
  have h3 : a ||| b < 65536 := Nat.or_lt_two_pow (n := 16) ha hb
  show IntKind.i64.wrap (((BitVec.ofInt 64 (a : Int) ||| BitVec.ofInt 64 (b : Int)).toNat : Nat) : Int) = _
  rw [BitVec.toNat_or, h1, h2]
  exact i64_small (by omega) (by omega)

theorem grown_of_below' {a w : World} (h : Below a.heap.size a w) : a.grownBy w none := ⟨h.os, h.tape, h.output, h.size, fun k hk _ => h.block k hk⟩
/-- what is known is right -/
def KnowsT (xs : List Int) : Prop := ∀ ys, Rise ys → 2 ≤ ys.length → ys.length ≤ 6 → gi xs (mask ys) > 0 → gi xs (mask ys) = wrap64 (ways ys)
theorem KnowsT.set {xs : List Int} (h : KnowsT xs) (hl : xs.length = 65536) {ys : List Int} (hy : Rise ys) : KnowsT (xs.set (mask ys) (wrap64 (ways ys))) := by
  intro zs hz h2 h6
  rw [gi_set (by rw [hl]; exact mask_lt16 hy)]
  by_cases e : mask zs = mask ys
  · have e2 : zs = ys := mask_inj hz.1 (fun x hx => (hz.2 x hx).1) hy.1 (fun x hx => (hy.2 x hx).1) e
    subst e2
    intro _
    rw [if_pos rfl]
  · rw [if_neg e]
    exact h zs hz h2 h6
theorem wrap_add (a b : Int) : wrap64 (wrap64 a + wrap64 b) = wrap64 (a + b) := by unfold wrap64; omega
theorem wrap_add_left (a b : Int) : wrap64 (wrap64 a + b) = wrap64 (a + b) := by unfold wrap64; omega

/-- the sum of the first k -/
def sumTake (L : List (List Int)) (k : Nat) : Int := sumL (L.take k) ways
theorem sumTake_succ {L : List (List Int)} {k : Nat} (h : k < L.length) : sumTake L (k + 1) = sumTake L k + ways (gr L k) := by
  unfold sumTake
  rw [List.take_succ_eq_append_getElem h, sumL_append, gr_lt h]
  simp [sumL]

theorem gi_zero (n i : Nat) : gi (List.replicate n 0) i = 0 := by
  unfold gi
  rw [List.getD, List.getElem?_replicate]
  split <;> rfl
theorem knows_zero (n : Nat) : KnowsT (List.replicate n 0) := fun ys _ _ _ h => by rw [gi_zero] at h; omega

end Go.Proofs.YtmonhmbnbhaemaaDoor

namespace Go.Proofs.YtmonhmbnbhaemaaDoor
open Go.RowKit
/-- how many climbs from all n columns have each of the first k scores -/
def scoreL (sc : List Int → List Int → Int) (n k : Nat) : List Int := (List.range k).map fun i : Nat => wrap64 (climbW sc (hits (i : Int)) (n - 1) (iota n) 0)
end Go.Proofs.YtmonhmbnbhaemaaDoor

namespace Go.Proofs.YtmonhmbnbhaemaaDoor
open Go.RowKit Go.Maps

end Go.Proofs.YtmonhmbnbhaemaaDoor

namespace Go.Proofs.YtmonhmbnbhaemaaDoor
open Go.RowKit

theorem l1Most_any (a b : Int) (w : World) : Calls Tryd.prog 48 #[.int .i64 a, .int .i64 b] w fun e w' => e = .returned (.int .i64 (max a b)) ∧ w' = w := by
  by_cases h : b < a
  · have hm : max a b = a := by omega
    rw [hm]
    have hd : decide (b < a) = true := by simpa using h
    clear hm
    go_enter Tryd.func48, Tryd.ntmps48
    go_wp2
    go_ret
    exact ⟨rfl, rfl⟩
  · have hm : max a b = b := by omega
    rw [hm]
    have hd : decide (b < a) = false := by simpa using h
    clear hm
    go_enter Tryd.func48, Tryd.ntmps48
    go_wp2
    go_ret
    exact ⟨rfl, rfl⟩


theorem l1Abs_any (a : Int) (w : World) (h1 : -9223372036854775807 ≤ a) (h2 : a ≤ 9223372036854775807) : Calls Tryd.prog 35 #[.int .i64 a] w fun e w' => e = .returned (.int .i64 (max a (-a))) ∧ w' = w := by
  have hc := l1Most_any a (-a) w
  have HC := Lib.hid hc
  clear hc
  go_enter Tryd.func35, Tryd.ntmps35
  go_wp2_with fail
  refine HC.out.mono ?_
  rintro e w2 ⟨rfl, rfl⟩
  go_wp2
  go_ret
  exact ⟨rfl, rfl⟩

end Go.Proofs.YtmonhmbnbhaemaaDoor

namespace Go.Proofs.YtmonhmbnbhaemaaDoor
open Go.RowKit

def bhLow (row fs : List Int) : Int := max (if fs.length = 0 then 0 else gi row (fs.length - 1)) (lst fs + 1)
def bhHigh (n : Nat) (row fs : List Int) : Int := if fs.length < row.length then gi row fs.length else (n : Int) - 1
/-- the rows that go on 'first' -/
def bhRes (n : Nat) (row fs : List Int) : List (List Int) := if fs.length = row.length + 1 then [fs] else (bh n (row.drop fs.length) (if fs.length = 0 then 0 else gi row (fs.length - 1)) (lst fs)).map fun ys => fs ++ ys
theorem bhNext_res {n : Nat} {row fs : List Int} {v : Int} (h : fs.length ≤ row.length) : bhNext n row fs v = bhRes n row (fs ++ [v]) := by
  unfold bhNext bhRes
  by_cases e : fs.length = row.length
  · rw [if_pos (by simp; omega), List.drop_of_length_le (by omega)]
  · rw [if_neg (by simp; omega), List.drop_eq_getElem_cons (by omega : fs.length < row.length)]
    simp only [List.length_append, List.length_cons, List.length_nil, lst_snoc]
    rw [if_neg (by omega), show fs.length + (0 + 1) - 1 = fs.length from by omega, show fs.length + (0 + 1) = fs.length + 1 from by omega, gi_lt (by omega : fs.length < row.length)]
theorem bhPart_end {n : Nat} {row fs : List Int} (h : fs.length ≤ row.length) : bhPart n row fs (bhLow row fs) (bhHigh n row fs + 1) = bhRes n row fs := by
  unfold bhPart bhRes bhLow bhHigh
  rw [if_neg (by omega : ¬ fs.length = row.length + 1)]
  by_cases e : fs.length = row.length
  · rw [List.drop_of_length_le (by omega), if_neg (by omega : ¬ fs.length < row.length)]
    simp only [bh, List.map_map]
    rw [show (n : Int) - 1 + 1 - 1 = n - 1 from by omega]
    rfl
  · rw [List.drop_eq_getElem_cons (by omega : fs.length < row.length), if_pos (by omega : fs.length < row.length), gi_lt (by omega : fs.length < row.length)]
    simp only [bh, List.map_flatMap, List.map_map, Function.comp_def, List.append_assoc, List.cons_append, List.nil_append]
    rw [show row[fs.length] + 1 - 1 = row[fs.length] from by omega]
theorem bhRes_len {n : Nat} (hn : n ≤ 6) {row fs : List Int} (hr : ColsN n row) (hl : row.length ≤ 6) : (bhRes n row fs).length ≤ 1048576 := by
  unfold bhRes
  split
  · simp
  · rw [List.length_map]
    have h1 := bh_len hn (row := row.drop fs.length) (fun x hx => hr.2 x (List.mem_of_mem_drop hx)) (L := if fs.length = 0 then 0 else gi row (fs.length - 1)) (p := lst fs) (by
      split
      · omega
      · by_cases hh : fs.length - 1 < row.length
        · exact (hr.2 _ (gi_mem hh)).1
        · simp [gi, List.getD, hh])
    have h2 : 6 ^ ((row.drop fs.length).length + 1) ≤ 6 ^ 7 := Nat.pow_le_pow_right (by omega) (by rw [List.length_drop]; omega)
    omega
theorem bhPart_len {n : Nat} (hn : n ≤ 6) {row fs : List Int} (hr : ColsN n row) (hl : row.length ≤ 6) (h : fs.length ≤ row.length) {v : Int} (hv : v ≤ bhHigh n row fs + 1) : (bhPart n row fs (bhLow row fs) v).length ≤ 1048576 := by
  have hx := bhRes_len hn (fs := fs) hr hl
  rw [← bhPart_end h] at hx
  clear hx
  have hlo : 0 ≤ bhLow row fs := by unfold bhLow; split <;> first | omega | (have := hr.2 _ (gi_mem (show fs.length - 1 < row.length by omega)); omega)
  have hhi : bhHigh n row fs ≤ 5 := by
    unfold bhHigh
    split
    · next h => have := hr.2 _ (gi_mem h); omega
    · omega
  have rl : (rng (bhLow row fs) (v - 1)).length ≤ 6 := by unfold rng; simp; omega
  unfold bhPart
  split
  · rw [List.length_map]; omega
  · next a r e =>
    have ha : a ∈ row := List.mem_of_mem_drop (by rw [e]; simp)
    refine Nat.le_trans (flatMap_le (k := 6 ^ 6) rl (fun x _ => ?_)) (by omega)
    rw [List.length_map]
    have hrl : r.length + 1 ≤ 6 := by have := congrArg List.length e; rw [List.length_drop] at this; simp at this; omega
    exact Nat.le_trans (bh_len hn (fun y hy => hr.2 y (List.mem_of_mem_drop (by rw [e]; simp [hy]))) (hr.2 a ha).1) (Nat.pow_le_pow_right (by omega) (by omega))
theorem bhPart_nil {n : Int} {row fs : List Int} {lo v : Int} (h : v ≤ lo) : bhPart n row fs lo v = [] := by
  unfold bhPart
  rw [rng_nil (by omega)]
  split <;> rfl

end Go.Proofs.YtmonhmbnbhaemaaDoor

namespace Go.Proofs.YtmonhmbnbhaemaaDoor
open Go.RowKit

/-- what is known is right -/
def KnowsW (n : Nat) (xs : List Int) : Prop := ∀ ys, ColsN n ys → gi xs (mask ys) > 0 → gi xs (mask ys) = wrap64 (waysB n ys)
theorem KnowsW.set {n : Nat} {xs : List Int} (h : KnowsW n xs) (hl : xs.length = 2 ^ n) {ys : List Int} (hy : ColsN n ys) : KnowsW n (xs.set (mask ys) (wrap64 (waysB n ys))) := by
  intro zs hz
  rw [gi_set (by rw [hl]; exact mask_lt hy.2)]
  by_cases e : mask zs = mask ys
  · have e2 : zs = ys := mask_inj hz.1 (fun x hx => (hz.2 x hx).1) hy.1 (fun x hx => (hy.2 x hx).1) e
    subst e2
    intro _
    rw [if_pos rfl]
  · rw [if_neg e]
    exact h zs hz
theorem knowsW_zero (n m : Nat) : KnowsW n (List.replicate m 0) := fun ys _ h => by rw [gi_zero] at h; omega
def sumTakeB (n : Nat) (L : List (List Int)) (k : Nat) : Int := sumL (L.take k) (waysB n)
theorem sumTakeB_succ {N : Nat} {L : List (List Int)} {k : Nat} (h : k < L.length) : sumTakeB N L (k + 1) = sumTakeB N L k + waysB N (gr L k) := by
  unfold sumTakeB
  rw [List.take_succ_eq_append_getElem h, sumL_append, gr_lt h]
  simp [sumL]

end Go.Proofs.YtmonhmbnbhaemaaDoor

namespace Go.Proofs.YtmonhmbnbhaemaaDoor
open Go.RowKit

theorem above_pos {xs ys : List Int} (hr : Rise xs) (hy : ys ∈ above xs) : 1 ≤ ys.length := by
  have h := (above_mem hr hy).2
  by_cases h2 : xs.length < 2
  · rw [above_one h2] at hy; cases hy
  · omega

theorem topSc_small : SmallSc topSc := by
  intro xs ys hr _ hy
  unfold topSc
  split
  · omega
  · exact (above_mem hr hy).1.2 _ (gi_mem (above_pos hr hy))
theorem top_lim {n : Nat} (h6 : n ≤ 6) : ∀ p ∈ reach topSc (iota n) (n - 1), p.2 ≤ ((n - 1 : Nat) : Int) := by
  have key : ∀ j, ∀ p ∈ reach topSc (iota n) j, (∀ x ∈ p.1, x < (n : Int)) ∧ Rise p.1 ∧ (p.2 = 0 ∨ (p.1.length ≤ 1 ∧ p.2 ≤ ((n - 1 : Nat) : Int))) := by
    intro j
    induction j with
    | zero =>
      intro p hp
      simp [reach] at hp
      subst hp
      exact ⟨fun x hx => (mem_iota.1 hx).2, ⟨up_iota n, fun x hx => by have := mem_iota.1 hx; omega⟩, .inl rfl⟩
    | succ j ih =>
      intro p hp
      rw [reach_succ] at hp
      obtain ⟨q, hq, hm⟩ := List.mem_flatMap.1 hp
      obtain ⟨ys, hy, rfl⟩ := List.mem_map.1 hm
      obtain ⟨h1, h2, h3⟩ := ih q hq
      have hlt : ∀ x ∈ ys, x < (n : Int) := fun x hx => by
        unfold above at hy
        split at hy
        · cases hy
        · obtain ⟨_, _, h5, _⟩ := ab_mem hy
          obtain ⟨a, ha, hle⟩ := h5 x hx
          have := h1 a ha
          omega
      have hry := (above_mem h2 hy).1
      have hql : 2 ≤ q.1.length := by have := above_pos h2 hy; have := (above_mem h2 hy).2; omega
      have hq0 : q.2 = 0 := by rcases h3 with h | h <;> omega
      refine ⟨hlt, hry, ?_⟩
      simp only [hq0, Int.zero_add]
      unfold topSc
      split
      · exact .inl rfl
      · refine .inr ⟨by omega, ?_⟩
        have := hlt _ (gi_mem (above_pos h2 hy))
        omega
  intro p hp
  rcases (key _ p hp).2.2 with h | h
  · omega
  · exact h.2

def inN (n : Int) : Prop := 1 ≤ n ∧ n ≤ 6
def firstW (n : Nat) : List Int := (firstB n).map wrap64
theorem scoreL_first {n : Nat} (h1 : 1 ≤ n) (h6 : n ≤ 6) : scoreL topSc n (n - 1 + 1) = firstW n := by
  unfold firstW
  rw [← first_same h1 h6]
  unfold scoreL firstA
  rw [List.map_map, show n - 1 + 1 = n from by omega]
  rfl

end Go.Proofs.YtmonhmbnbhaemaaDoor

namespace Go.Proofs.YtmonhmbnbhaemaaDoor
open Go.RowKit

def eqAt (row above : List Int) (i : Nat) : Int := if gi above i = gi row i then 1 else 0
def eqn (row above : List Int) (k : Nat) : Int := sumF (eqAt row above) k
theorem eqAt_01 (row above : List Int) (i : Nat) : 0 ≤ eqAt row above i ∧ eqAt row above i ≤ 1 := by unfold eqAt; split <;> omega
theorem eqn_bd (row above : List Int) : ∀ k, 0 ≤ eqn row above k ∧ eqn row above k ≤ k
  | 0 => by simp [eqn, sumF]
  | k + 1 => by
    have h1 := eqn_bd row above k
    have h2 := eqAt_01 row above k
    have e : eqn row above (k + 1) = eqn row above k + eqAt row above k := rfl
    omega

/-- .. in the first k rows but one -/
def desc (t : List (List Int)) (k : Nat) : Int := sumF (fun i => eqn (gr t (i + 1)) (gr t i) (gr t i).length) k
theorem desc_bd {t : List (List Int)} (h : isTri t) : ∀ k, k < t.length → 0 ≤ desc t k ∧ desc t k ≤ k * 6
  | 0, _ => by simp [desc, sumF]
  | k + 1, hk => by
    have h1 := desc_bd h k (by omega)
    have h2 := eqn_bd (gr t (k + 1)) (gr t k) (gr t k).length
    have h3 := (h.2.2 k (by omega)).1
    have h4 := h.2.1
    have e : desc t (k + 1) = desc t k + eqn (gr t (k + 1)) (gr t k) (gr t k).length := rfl
    omega

end Go.Proofs.YtmonhmbnbhaemaaDoor

namespace Go.Proofs.YtmonhmbnbhaemaaDoor
open Go.RowKit Go.Maps
open Go.WideMaps (KeyLaw)

end Go.Proofs.YtmonhmbnbhaemaaDoor

namespace Go.Proofs.YtmonhmbnbhaemaaDoor
open Go.RowKit Go.Maps
open Go.WideMaps (KeyLaw)


end Go.Proofs.YtmonhmbnbhaemaaDoor

namespace Go.Proofs.YtmonhmbnbhaemaaDoor
open Go.RowKit Go.Maps

end Go.Proofs.YtmonhmbnbhaemaaDoor

namespace Go.Proofs.YtmonhmbnbhaemaaDoor
open Go.RowKit Go.Maps
open Go.WideMaps (KeyLaw)

end Go.Proofs.YtmonhmbnbhaemaaDoor

namespace Go.Proofs.YtmonhmbnbhaemaaDoor
open Go.RowKit Go.Maps
open Go.WideMaps (KeyLaw)


end Go.Proofs.YtmonhmbnbhaemaaDoor

namespace Go.Proofs.YtmonhmbnbhaemaaDoor
open Go.RowKit Go.Maps

end Go.Proofs.YtmonhmbnbhaemaaDoor

namespace Go.Proofs.YtmonhmbnbhaemaaDoor
open Go.RowKit

theorem Up.filter {xs : List Int} (h : Up xs) (p : Int → Bool) : Up (xs.filter p) := by
  induction xs with
  | nil => exact h
  | cons a r ih =>
    rw [List.filter_cons]
    split
    · exact Up.of (ih h.tail) fun x hx => h.lt x (List.mem_filter.1 hx).1
    · exact ih h.tail
/-- the numbers of ys that xs lacks -/
def lacks (xs ys : List Int) : List Int := ys.filter fun y => !xs.contains y
theorem lacks_rise {xs ys : List Int} (h : Rise ys) : Rise (lacks xs ys) := ⟨h.1.filter _, fun x hx => h.2 x (List.mem_filter.1 hx).1⟩
theorem lacks_len (xs ys : List Int) : (lacks xs ys).length ≤ ys.length := List.length_filter_le _ _
theorem mask_lacks {xs ys : List Int} (hx : Rise xs) (hy : Rise ys) : bits .andNot .u64 ((mask ys : Nat) : Int) ((mask xs : Nat) : Int) = ((mask (lacks xs ys) : Nat) : Int) := by
  have h1 := mask_lt16 hx
  have h2 := mask_lt16 hy
  rw [u64_andNot_nat _ _ (by omega) (by omega)]
  congr 1
  apply Nat.eq_of_testBit_eq
  intro i
  rw [Nat.testBit_and, show 18446744073709551615 - mask xs = 2 ^ 64 - (mask xs + 1) from by omega, Nat.testBit_two_pow_sub_succ (by omega), testBit_mask (fun x hx' => (hy.2 x hx').1), testBit_mask (fun x hx' => (hx.2 x hx').1), testBit_mask (fun x hx' => ((lacks_rise hy).2 x hx').1)]
  unfold lacks
  by_cases hm : (i : Int) ∈ ys
  · have := (hy.2 _ hm).2
    have hi : i < 64 := by omega
    by_cases hn : (i : Int) ∈ xs <;> simp [hm, hn, hi]
  · simp [hm]

def lostSc (xs ys : List Int) : Int := (lacks xs ys).length
def movedSc (xs ys : List Int) : Int := ys.length - eqn xs ys ys.length

theorem lost_small : SmallSc lostSc := by
  intro xs ys hr h6 hy
  obtain ⟨hry, hly⟩ := above_mem hr hy
  have := lacks_len xs ys
  unfold lostSc
  omega
theorem moved_small : SmallSc movedSc := by
  intro xs ys hr h6 hy
  obtain ⟨hry, hly⟩ := above_mem hr hy
  have := eqn_bd xs ys ys.length
  unfold movedSc
  omega
def limC (sc : List Int → List Int → Int) (n g : Nat) : Bool := (reach sc (iota n) (n - 1)).all fun p => decide (p.2 ≤ (g : Int))
set_option maxRecDepth 1000000 in
theorem lost_ok : limC lostSc 1 0 = true ∧ limC lostSc 2 0 = true ∧ limC lostSc 3 1 = true ∧ limC lostSc 4 2 = true ∧ limC lostSc 5 4 = true := by decide +kernel
set_option maxRecDepth 1000000 in
theorem moved_ok : limC movedSc 1 0 = true ∧ limC movedSc 2 1 = true ∧ limC movedSc 3 3 = true ∧ limC movedSc 4 6 = true ∧ limC movedSc 5 10 = true := by decide +kernel
theorem limC_lim {sc : List Int → List Int → Int} {n g : Nat} (h : limC sc n g = true) : ∀ p ∈ reach sc (iota n) (n - 1), p.2 ≤ (g : Int) := fun p hp => by
  have := List.all_eq_true.1 h p hp
  simpa using this
end Go.Proofs.YtmonhmbnbhaemaaDoor

namespace Go.Proofs.YtmonhmbnbhaemaaDoor
open Go.RowKit

def bump (d : Int) (c : List Int) (v : Int) : List Int := c.set v.toNat (wrap64 (gi c v.toNat + d))
theorem bump_len (d : Int) (c : List Int) (v : Int) : (bump d c v).length = c.length := by simp [bump]
/-- the row of signs between two rows of columns -/
def stepF (n : Nat) (xs ys : List Int) : List Int := xs.foldl (bump (-1)) (ys.foldl (bump 1) (List.replicate n 0))
/-- the minus ones among the first k -/
def minusF (st : List Int) : Nat → Int
  | 0 => 0
  | k + 1 => if gi st k < 0 then wrap64 (minusF st k + 1) else minusF st k
/-- what the sign x of column k adds, by the first j numbers of the row -/
def addIn (xs : List Int) (k : Nat) (x acc : Int) : Nat → Int
  | 0 => acc
  | j + 1 => if (k : Int) < gi xs j then wrap64 (addIn xs k x acc j + x) else addIn xs k x acc j
def addF (xs st : List Int) : Nat → Int
  | 0 => 0
  | k + 1 => addIn xs k (gi st k) (addF xs st k) xs.length
def nextMinus (n : Nat) (xs ys : List Int) (s : Int) : Int := wrap64 (s + minusF (stepF n xs ys) (stepF n xs ys).length)
def nextAdd (n : Nat) (xs ys : List Int) (s : Int) : Int := wrap64 (s + addF xs (stepF n xs ys) (stepF n xs ys).length)
abbrev Nx := Nat → List Int → List Int → Int → Int
/-- the counts with those added that are reached from a row at a score -/
def spreadF (nx : Nx) (n : Nat) : Nat → List Int → Int → List Int → List Int
  | 0, _, s, c => bump 1 c s
  | d + 1, xs, s, c => (behind n xs).foldl (fun c ys => spreadF nx n d ys (nx n xs ys s) c) c
theorem spreadF_len (nx : Nx) (n : Nat) : ∀ (d : Nat) (xs : List Int) (s : Int) (c : List Int), (spreadF nx n d xs s c).length = c.length
  | 0, _, s, c => bump_len _ _ _
  | d + 1, xs, s, c => by
    rw [spreadF]
    generalize behind (n : Int) xs = L
    induction L generalizing c with
    | nil => rfl
    | cons y r ih => rw [List.foldl_cons, ih, spreadF_len nx n d]
/-- no score leaves the table -/
def okF (nx : Nx) (n : Nat) : Nat → List Int → Int → Bool
  | 0, _, s => decide (0 ≤ s) && decide (s ≤ (n * n : Nat))
  | d + 1, xs, s => (behind n xs).all fun ys => okF nx n d ys (nx n xs ys s)
/-- the last place with a positive number -/
def lastF (c : List Int) : Nat → Nat
  | 0 => 0
  | k + 1 => if 0 < gi c k then k else lastF c k
theorem lastF_lt (c : List Int) : ∀ k, 0 < k → lastF c k < k
  | 0, h => absurd h (by omega)
  | k + 1, _ => by
    unfold lastF
    split
    · omega
    · by_cases h : 0 < k
      · have := lastF_lt c k h; omega
      · obtain rfl : k = 0 := by omega
        simp [lastF]
def countsF (nx : Nx) (n : Nat) : List Int := spreadF nx n n [] 0 (List.replicate (n * n + 1) 0)
def trimF (c : List Int) : List Int := c.take (lastF c c.length + 1)
def scoreT (sc : List Int → List Int → Int) (n k : Nat) : List Int := let T := iterT (upCh sc) (n - 1) [((iota n, 0), 1)]
  (List.range k).map fun i : Nat => wrap64 (potL T (fun p => hits (i : Int) p.1 p.2))
theorem scoreT_is (sc : List Int → List Int → Int) (n k : Nat) : scoreL sc n k = scoreT sc n k := by
  unfold scoreL scoreT
  refine List.map_congr_left fun i _ => ?_
  rw [climb_tab0]
def sameC (sc : List Int → List Int → Int) (nx : Nx) (n g : Nat) : Bool := okF nx n n [] 0 && (trimF (countsF nx n) == scoreT sc n (g + 1))
set_option maxRecDepth 1000000 in
theorem lost_same : sameC lostSc nextMinus 1 0 = true ∧ sameC lostSc nextMinus 2 0 = true ∧ sameC lostSc nextMinus 3 1 = true ∧ sameC lostSc nextMinus 4 2 = true ∧ sameC lostSc nextMinus 5 4 = true := by decide +kernel
set_option maxRecDepth 1000000 in
theorem moved_same : sameC movedSc nextAdd 1 0 = true ∧ sameC movedSc nextAdd 2 1 = true ∧ sameC movedSc nextAdd 3 3 = true ∧ sameC movedSc nextAdd 4 6 = true ∧ sameC movedSc nextAdd 5 10 = true := by decide +kernel
end Go.Proofs.YtmonhmbnbhaemaaDoor

namespace Go.Proofs.YtmonhmbnbhaemaaDoor
open Go.RowKit

theorem foldl_take {f : List Int → Int → List Int} {z : List Int} {xs : List Int} {k : Nat} (h : k < xs.length) : (xs.take (k + 1)).foldl f z = f ((xs.take k).foldl f z) (gi xs k) := by
  rw [take_succ_gi h, List.foldl_append]
  rfl
theorem bumps_len (d : Int) (xs : List Int) (z : List Int) : (xs.foldl (bump d) z).length = z.length := by
  induction xs generalizing z with
  | nil => rfl
  | cons a r ih => rw [List.foldl_cons, ih, bump_len]
theorem stepF_len (n : Nat) (xs ys : List Int) : (stepF n xs ys).length = n := by unfold stepF; rw [bumps_len, bumps_len, List.length_replicate]

end Go.Proofs.YtmonhmbnbhaemaaDoor

namespace Go.Proofs.YtmonhmbnbhaemaaDoor
open Go.RowKit

/-- the first number that differs is the lesser one -/
def rowLess : List Int → List Int → Bool
  | [], _ => false
  | a :: r, bs => if a = bs.headD 0 then rowLess r bs.tail else decide (a < bs.headD 0)
/-- a row put into its place -/
def putIn (n : Nat) (s : List Int) (L : List (List Int)) (y : List Int) : List (List Int) :=
  let t := stepF n s y
  let p := L.takeWhile fun z => rowLess (stepF n s z) t
  p ++ y :: L.drop p.length
def nextL (n : Nat) (s : List Int) : List (List Int) := (behind n s).foldl (putIn n s) []
/-- the columns that are not in s -/
def compl (n : Nat) (s : List Int) : List Int := (iota n).filter fun x => !s.contains x
def subs : List Int → List (List Int)
  | [] => [[]]
  | a :: r => (subs r).map (a :: ·) ++ subs r
theorem mem_subs {s l : List Int} (h : s.Sublist l) : s ∈ subs l := by
  induction h with
  | slnil => simp [subs]
  | cons a _ ih => simp [subs, ih]
  | cons_cons a _ ih => simp [subs, ih]
def chainC (n : Nat) : Bool := (subs (iota n)).all fun s => decide (n - 1 ≤ s.length) || ((nextL n s).map (compl n) == above (compl n s))
def waysC (n : Nat) : Bool := (subs (iota n)).all fun s => decide (n ≤ s.length) || (potL (iterT (dnCh n) (n - s.length) [((s, 0), 1)]) (fun _ => 1) == potL (iterT (upCh fun _ _ => 0) (n - s.length - 1) [((compl n s, 0), 1)]) (fun _ => 1))
set_option maxRecDepth 1000000 in
theorem chain_ok : chainC 1 = true ∧ chainC 2 = true ∧ chainC 3 = true ∧ chainC 4 = true ∧ chainC 5 = true := by decide +kernel
set_option maxRecDepth 1000000 in
theorem chain_ok6 : chainC 6 = true := by decide +kernel
set_option maxRecDepth 1000000 in
theorem ways_ok : waysC 1 = true ∧ waysC 2 = true ∧ waysC 3 = true ∧ waysC 4 = true ∧ waysC 5 = true ∧ waysC 6 = true := by decide +kernel
theorem chain_all {n : Nat} (h1 : 1 ≤ n) (h6 : n ≤ 6) : chainC n = true := by
  obtain ⟨a, b, c, d, e⟩ := chain_ok
  rcases (by omega : n = 1 ∨ n = 2 ∨ n = 3 ∨ n = 4 ∨ n = 5 ∨ n = 6) with rfl | rfl | rfl | rfl | rfl | rfl
  · exact a
  · exact b
  · exact c
  · exact d
  · exact e
  · exact chain_ok6
theorem ways_all {n : Nat} (h1 : 1 ≤ n) (h6 : n ≤ 6) : waysC n = true := by
  obtain ⟨a, b, c, d, e, f⟩ := ways_ok
  rcases (by omega : n = 1 ∨ n = 2 ∨ n = 3 ∨ n = 4 ∨ n = 5 ∨ n = 6) with rfl | rfl | rfl | rfl | rfl | rfl
  · exact a
  · exact b
  · exact c
  · exact d
  · exact e
  · exact f
theorem chain_at {n : Nat} (h1 : 1 ≤ n) (h6 : n ≤ 6) {s : List Int} (hs : s.Sublist (iota n)) (hl : s.length + 1 < n) : (nextL n s).map (compl n) = above (compl n s) := by
  have h := List.all_eq_true.1 (chain_all h1 h6) s (mem_subs hs)
  simp only [Bool.or_eq_true, decide_eq_true_eq, beq_iff_eq] at h
  rcases h with h | h
  · omega
  · exact h
end Go.Proofs.YtmonhmbnbhaemaaDoor

namespace Go.Proofs.YtmonhmbnbhaemaaDoor
open Go.RowKit

theorem gr_reverse {m : List (List Int)} {i : Nat} (h : i < m.length) : gr m.reverse i = gr m (m.length - 1 - i) := by
  rw [gr_lt (by rw [List.length_reverse]; exact h), gr_lt (by omega), List.getElem_reverse]
theorem colR_reverse (m : List (List Int)) (j : Nat) : ∀ k, k ≤ m.length → colR m.reverse j k + colR m j (m.length - k) = colR m j m.length
  | 0, _ => by simp [colR]
  | k + 1, h => by
    have ih := colR_reverse m j k (by omega)
    have e : m.length - k = (m.length - (k + 1)) + 1 := by omega
    rw [e, colR] at ih
    rw [colR, gr_reverse (by omega), show m.length - 1 - k = m.length - (k + 1) from by omega]
    omega
theorem colR_full {m : List (List Int)} (h : good m) {j : Nat} (hj : j < m.length) : colR m j m.length = 1 := by
  rw [colR_tr hj _ (Nat.le_refl _)]
  have h1 := (h.2.2 j (by rw [tr_len]; exact hj)).2
  rw [tr_row hj] at h1
  exact h1
/-- the rows of the triangle of a matrix upside down -/
theorem triRow_reverse {m : List (List Int)} (h : good m) {k : Nat} (hk : k ≤ m.length) : triRow m.reverse k = compl m.length (triRow m (m.length - k)) := by
  have hx : ∀ {x : Int}, x ∈ triRow m.reverse k ↔ x ∈ compl m.length (triRow m (m.length - k)) := by
    intro x
    unfold triRow compl
    rw [List.length_reverse, mem_colsF, List.mem_filter, mem_iota]
    constructor
    · rintro ⟨j, rfl, hj, hf⟩
      refine ⟨by omega, ?_⟩
      have h1 := colR_reverse m j k hk
      rw [colR_full h hj] at h1
      simp only [decide_eq_true_eq] at hf
      have hn : (j : Int) ∉ colsF m.length fun j => decide (colR m j (m.length - k) = 1) := by
        rw [mem_colsF]
        rintro ⟨i, e, _, hi⟩
        obtain rfl : j = i := by omega
        simp only [decide_eq_true_eq] at hi
        omega
      simp [hn]
    · rintro ⟨⟨h0, hn⟩, hc⟩
      refine ⟨x.toNat, by omega, by omega, ?_⟩
      have hj : x.toNat < m.length := by omega
      have h1 := colR_reverse m x.toNat k hk
      rw [colR_full h hj] at h1
      have h2 := colR_01 h hj (show m.length - k ≤ m.length by omega)
      have h3 : colR m x.toNat (m.length - k) ≠ 1 := by
        intro e
        have : x ∈ colsF m.length fun j => decide (colR m j (m.length - k) = 1) := mem_colsF.2 ⟨x.toNat, by omega, hj, by simpa using e⟩
        simp [this] at hc
      simp only [decide_eq_true_eq]
      omega
  have hu1 : Up (triRow m.reverse k) := colsF_up _ _
  have hu2 : Up (compl m.length (triRow m (m.length - k))) := (up_iota _).filter _
  refine mask_inj hu1 (fun y hy => ?_) hu2 (fun y hy => ?_) ?_
  · obtain ⟨j, rfl, _, _⟩ := mem_colsF.1 hy; omega
  · exact (mem_iota.1 (List.mem_filter.1 hy).1).1
  · apply Nat.eq_of_testBit_eq
    intro i
    rw [testBit_mask (fun y hy => by obtain ⟨j, rfl, _, _⟩ := mem_colsF.1 hy; omega), testBit_mask (xs := compl m.length (triRow m (m.length - k))) (fun y hy => (mem_iota.1 (List.mem_filter.1 hy).1).1)]
    exact decide_eq_decide.2 hx
end Go.Proofs.YtmonhmbnbhaemaaDoor

namespace Go.Proofs.YtmonhmbnbhaemaaDoor
open Go.RowKit

set_option maxRecDepth 100000 in
set_option maxHeartbeats 400000 in
theorem sCloneM_any (b o n c : Nat) (news : List Value) (w : World) (hn : n ≤ 1048576) (hl : news.length = n) (hc : ∀ j u, news[j]? = some u → w.cell? ⟨b, o + j, none⟩ = some u) (h1 : ∀ u ∈ news, u.oneCell' = true) :
    Calls Tryd.prog 54 #[.slice (some ⟨b, o, none⟩) n c] w fun e w' => ∃ v, e = .returned v ∧ w'.ownsRow w.heap.size 33 1 v n news ∧ Below w.heap.size w w' := by
  obtain ⟨j0, hj, hy0, hy1, hy2⟩ := info_parts Tryd.info_ints
  have Hc := Lib.hid hc
  have H1 := Lib.hid h1
  have Hl := Lib.hid hl
  clear hc h1 hl
  have q22 : ∀ (w : World) (a : Option Addr) (n c n' c' : Nat), (binOp .eql 22 (.slice a n c) (.slice none n' c')).run Tryd.prog w = .ok (.bool a.isNone) w := fun w a n c n' c' => Lib.run_eql_slice_nil w _ _ a n c n' c' Tryd.underlying22
  go_enter Tryd.func54, Tryd.ntmps54
  go_wp2_with (at_builtin; refine wpList_append_own _ rfl _ _ 22 rfl w.heap.size 33 j0 (.slice none 0 0) 1 24 Tryd.underlying22 hj hy0 hy1 hy2 rfl (by decide) _ _ _ rfl (World.ownsRow_made w #[] 0 (Nat.le_refl _) (Nat.zero_le _) rfl) ⟨b, o, none⟩ n c news rfl ?e1 ?e2 ?e3 ?e4 ?e5 ?e6 ?_)
  case e1 => rw [Hl.out]; omega
  case e2 =>
    intro j u hj
    rw [Addr.add_lit]
    exact Lib.cell?_alloc_some _ (Hc.out j u hj)
  case e3 => exact H1.out
  case e4 => unfold maxLen; omega
  case e5 => omega
  case e6 => simp
  intro v' w1 hown hgrow _
  have Hown := Lib.hid (show w1.ownsRow w.heap.size 33 1 v' n news by simpa using hown)
  have Hb := Lib.hid (((Below.refl w.heap.size w).alloc (Nat.le_refl _) _).grown hgrow (by simp) (by intro k hk; simp [Value.ownBlock] at hk; omega))
  clear hown hgrow
  go_wp2
  go_ret
  exact ⟨_, rfl, Hown.out, Hb.out⟩
end Go.Proofs.YtmonhmbnbhaemaaDoor

