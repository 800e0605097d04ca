/- Climbs and ways on reckoned by tables, equal places as one. No conditions. -/
import Derived.Test.YtcifcombbdblgaaDoorPotG
import Derived.Test.YtcifcombbdblgaaDoorBehM
namespace Go.Proofs.YtcifcombbdblgaaDoor
def addT (p : Pos) (c : Int) : List Ent → List Ent
  | [] => [(p, c)]
  | x :: r => if x.1 = p then (x.1, x.2 + c) :: r else x :: addT p c r
theorem potL_addT (p : Pos) (c : Int) (φ : Pos → Int) : ∀ T, potL (addT p c T) φ = potL T φ + c * φ p
  | [] => by simp [addT, potL, sumL]
  | x :: r => by
    unfold addT
    split
    · next e => unfold potL; rw [sumL_cons, sumL_cons]; simp only; rw [e, Int.add_mul]; omega
    · have := potL_addT p c φ r
      unfold potL at *
      rw [sumL_cons, sumL_cons, this]
      omega
/-- what each place passes on to its children, equal places as one -/
def expandT (ch : Pos → List Pos) (T : List Ent) : List Ent := T.foldl (fun acc x => (ch x.1).foldl (fun acc q => addT q x.2 acc) acc) []
theorem potL_inner (c : Int) (φ : Pos → Int) : ∀ (qs : List Pos) (acc : List Ent), potL (qs.foldl (fun acc q => addT q c acc) acc) φ = potL acc φ + c * sumL qs φ
  | [], acc => by simp [sumL]
  | q :: r, acc => by
    rw [List.foldl_cons, potL_inner c φ r, potL_addT, sumL_cons, Int.mul_add]
    omega
theorem potL_outer (ch : Pos → List Pos) (φ : Pos → Int) : ∀ (T acc : List Ent), potL (T.foldl (fun acc x => (ch x.1).foldl (fun acc q => addT q x.2 acc) acc) acc) φ = potL acc φ + potL T (fun p => sumL (ch p) φ)
  | [], acc => by simp [potL, sumL]
  | x :: r, acc => by
    rw [List.foldl_cons, potL_outer ch φ r, potL_inner]
    unfold potL
    rw [sumL_cons]
    simp only
    omega
theorem potL_expand (ch : Pos → List Pos) (T : List Ent) (φ : Pos → Int) : potL (expandT ch T) φ = potL T (fun p => sumL (ch p) φ) := by
  unfold expandT
  rw [potL_outer]
  simp [potL, sumL]
def iterT (ch : Pos → List Pos) : Nat → List Ent → List Ent
  | 0, T => T
  | j + 1, T => iterT ch j (expandT ch T)
def upCh (sc : List Int → List Int → Int) (p : Pos) : List Pos := (above p.1).map fun ys => (ys, p.2 + sc p.1 ys)
theorem sumL_map {α β : Type} (l : List α) (g : α → β) (f : β → Int) : sumL (l.map g) f = sumL l (fun x => f (g x)) := by
  unfold sumL; rw [List.map_map]; rfl
theorem climb_tab (sc : List Int → List Int → Int) (φ : List Int → Int → Int) : ∀ (j : Nat) (T : List Ent), potL T (fun p => climbW sc φ j p.1 p.2) = potL (iterT (upCh sc) j T) (fun p => φ p.1 p.2)
  | 0, T => rfl
  | j + 1, T => by
    rw [iterT, ← climb_tab sc φ j, potL_expand]
    unfold potL
    refine sumL_congr fun x _ => ?_
    simp only [climbW, upCh, sumL_map]
theorem climb_tab0 (sc : List Int → List Int → Int) (φ : List Int → Int → Int) (j : Nat) (xs : List Int) : climbW sc φ j xs 0 = potL (iterT (upCh sc) j [((xs, 0), 1)]) (fun p => φ p.1 p.2) := by
  rw [← climb_tab]
  simp [potL, sumL]
def dnCh (n : Nat) (p : Pos) : List Pos := (behind n p.1).map fun ys => (ys, p.2)
theorem ways_tab (n : Nat) : ∀ (d : Nat) (T : List Ent), potL T (fun p => waysBN n d p.1) = potL (iterT (dnCh n) d T) (fun _ => 1)
  | 0, T => rfl
  | d + 1, T => by
    rw [iterT, ← ways_tab n d, potL_expand]
    unfold potL
    refine sumL_congr fun x _ => ?_
    simp only [waysBN, dnCh, sumL_map]
theorem ways_tab0 (n : Nat) (d : Nat) (row : List Int) : waysBN n d row = potL (iterT (dnCh n) d [((row, 0), 1)]) (fun _ => 1) := by
  rw [← ways_tab]
  simp [potL, sumL]
def topSc (_ ys : List Int) : Int := if 1 < ys.length then 0 else gi ys 0
def hits (i : Int) : List Int → Int → Int := fun _ s => if s = i then 1 else 0
def firstA (n : Nat) : List Int := (List.range n).map fun i : Nat => climbW topSc (hits (i : Int)) (n - 1) (iota n) 0
def firstB (n : Nat) : List Int := (List.range n).map fun i : Nat => waysB n [(i : Int)]
def firstC (n : Nat) : Bool := let T := iterT (upCh topSc) (n - 1) [((iota n, 0), 1)]
  (List.range n).all fun i => potL T (fun p => hits (i : Int) p.1 p.2) == potL (iterT (dnCh n) (n - 1) [(([(i : Int)], 0), 1)]) (fun _ => 1)
set_option maxRecDepth 1000000 in
theorem first_ok : firstC 1 = true ∧ firstC 2 = true ∧ firstC 3 = true ∧ firstC 4 = true ∧ firstC 5 = true ∧ firstC 6 = true := by decide +kernel
theorem first_same {n : Nat} (h1 : 1 ≤ n) (h6 : n ≤ 6) : firstA n = firstB n := by
  have hc : firstC n = true := by
    obtain ⟨a, b, c, d, e, f⟩ := first_ok
    rcases (by omega : n = 1 ∨ n = 2 ∨ n = 3 ∨ n = 4 ∨ n = 5 ∨ n = 6) with rfl | rfl | rfl | rfl | rfl | rfl
    · exact a
    · exact b
    · exact c
    · exact d
    · exact e
    · exact f
  unfold firstA firstB
  refine List.map_congr_left fun i hi => ?_
  have := List.all_eq_true.1 hc i hi
  rw [climb_tab0]
  unfold waysB
  rw [show n - [(i : Int)].length = n - 1 from rfl, ways_tab0]
  simpa using this
end Go.Proofs.YtcifcombbdblgaaDoor
