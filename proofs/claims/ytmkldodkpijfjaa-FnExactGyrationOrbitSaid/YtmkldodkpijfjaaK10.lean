/- Parts of proofs: contracts and plain facts. Conditions: as each says. -/
import Derived.Test.YtmkldodkpijfjaaK09
import Derived.Deep.RegionWith
namespace Go.Proofs.Ytmkldodkpijfjaa
open Go.RowKit

/-- the inner cells of row i with a column less than t; of the rows less than s -/
def rowCells (i t : Nat) : List (Nat × Nat) := ((List.range t).filter fun j => decide (1 ≤ j)).map fun j => (i, j)
def allCells (n s : Nat) : List (Nat × Nat) := (List.range s).flatMap fun i => if 1 ≤ i then rowCells i n else []
theorem rowCells_succ (i t : Nat) (h : 1 ≤ t) : rowCells i (t + 1) = rowCells i t ++ [(i, t)] := by
  simp [rowCells, List.range_succ, List.filter_append, h]
theorem rowCells_one (i : Nat) : rowCells i 1 = [] := by simp [rowCells, List.range_succ]
theorem allCells_succ (n s : Nat) (h : 1 ≤ s) : allCells n (s + 1) = allCells n s ++ rowCells s n := by
  simp [allCells, List.range_succ, h]
theorem allCells_one (n : Nat) : allCells n 1 = [] := by simp [allCells, List.range_succ]
theorem mem_rowCells {i t : Nat} {c : Nat × Nat} (h : c ∈ rowCells i t) : c.1 = i ∧ 1 ≤ c.2 ∧ c.2 < t := by
  simp [rowCells] at h
  obtain ⟨j, ⟨h1, h2⟩, rfl⟩ := h
  exact ⟨rfl, h2, h1⟩
theorem mem_allCells {n s : Nat} {c : Nat × Nat} (h : c ∈ allCells n s) : 1 ≤ c.1 ∧ c.1 < s ∧ 1 ≤ c.2 ∧ c.2 < n := by
  simp only [allCells, List.mem_flatMap, List.mem_range] at h
  obtain ⟨i, hi, hc⟩ := h
  by_cases h1 : 1 ≤ i
  · rw [if_pos h1] at hc
    have := mem_rowCells hc
    omega
  · rw [if_neg h1] at hc
    cases hc
theorem rowCells_len (i t : Nat) : (rowCells i t).length ≤ t := by
  unfold rowCells
  rw [List.length_map]
  exact Nat.le_trans (List.length_filter_le _ _) (by rw [List.length_range]; exact Nat.le_refl _)
theorem allCells_len (n : Nat) : ∀ s, (allCells n s).length ≤ s * n
  | 0 => by simp [allCells]
  | s + 1 => by
    have h := allCells_len n s
    by_cases h1 : 1 ≤ s
    · rw [allCells_succ n s h1, List.length_append, Nat.succ_mul]
      have := rowCells_len s n
      omega
    · obtain rfl : s = 0 := by omega
      rw [allCells_one]
      exact Nat.zero_le _
/-- those where a flip adds 2 v -/
def flipsL (f : Nat → Nat → Int) (v : Int) (cs : List (Nat × Nat)) : List (Nat × Nat) := cs.filter fun c => decide (way f c.1 c.2 = v)
/-- cells as lists of two numbers -/
def cellM (cs : List (Nat × Nat)) : List (List Int) := cs.map fun c => [(c.1 : Int), (c.2 : Int)]
theorem cellM_len (cs : List (Nat × Nat)) : (cellM cs).length = cs.length := by simp [cellM]
theorem flipsL_snoc (f : Nat → Nat → Int) (v : Int) (cs : List (Nat × Nat)) (c : Nat × Nat) : flipsL f v (cs ++ [c]) = if way f c.1 c.2 = v then flipsL f v cs ++ [c] else flipsL f v cs := by
  unfold flipsL
  rw [List.filter_append]
  by_cases h : way f c.1 c.2 = v <;> simp [h]
theorem flipsL_len (f : Nat → Nat → Int) (v : Int) (cs : List (Nat × Nat)) : (flipsL f v cs).length ≤ cs.length := List.length_filter_le _ _
theorem flipsL_congr {f g : Nat → Nat → Int} {v : Int} {cs : List (Nat × Nat)} (h : ∀ c ∈ cs, way f c.1 c.2 = way g c.1 c.2) : flipsL f v cs = flipsL g v cs := by
  unfold flipsL
  exact List.filter_congr fun c hc => by rw [h c hc]
theorem way_congr {f g : Nat → Nat → Int} {i j : Nat} (h0 : f i j = g i j) (h1 : f (i - 1) j = g (i - 1) j) (h2 : f i (j - 1) = g i (j - 1)) (h3 : f i (j + 1) = g i (j + 1)) (h4 : f (i + 1) j = g (i + 1) j) : way f i j = way g i j := by
  have e1 : up1 f i j ↔ up1 g i j := by unfold up1; rw [h0, h1, h2, h3, h4]
  have e2 : down1 f i j ↔ down1 g i j := by unfold down1; rw [h0, h1, h2, h3, h4]
  unfold way
  simp only [e1, e2]

def crow (c : Nat × Nat) : List Value := [.int .i64 (c.1 : Int), .int .i64 (c.2 : Int)]
/-- a slice of cells that the call owns from block B on -/
def OwnC (w : World) (B : Nat) (v : Value) (cs : List (Nat × Nat)) : Prop := w.ownsRow B 104 2 v cs.length (cs.flatMap crow)
theorem OwnC.nil (w : World) (B : Nat) : OwnC w B (.slice none 0 0) [] := World.ownsRow_nil _ _ _ _
end Go.Proofs.Ytmkldodkpijfjaa

namespace Go.Proofs.Ytmkldodkpijfjaa
open Go.RowKit

theorem ints_four (w : World) (x1 x2 x3 x4 : Int) (e : TypeId) : IntsAt (w.alloc (.cells #[.int .i64 x1, .int .i64 x2, .int .i64 x3, .int .i64 x4] e)) (some ⟨w.heap.size, 0, none⟩) [x1, x2, x3, x4] := fun k hk => by
  refine ⟨w.heap.size, 0, rfl, ?_⟩
  rw [Nat.zero_add, cell_of_row _ _ k _ _ _ (heap_alloc_new w _)]
  have : k = 0 ∨ k = 1 ∨ k = 2 ∨ k = 3 := by simp at hk; omega
  rcases this with rfl | rfl | rfl | rfl <;> rfl
theorem allIn_four {a b c d t : Int} : allIn [a, b, c, d] t t ↔ a = t ∧ b = t ∧ c = t ∧ d = t := by
  constructor
  · intro h
    have h0 := h 0 (by simp)
    have h1 := h 1 (by simp)
    have h2 := h 2 (by simp)
    have h3 := h 3 (by simp)
    simp [gi] at h0 h1 h2 h3
    omega
  · rintro ⟨rfl, rfl, rfl, rfl⟩ k hk
    have : k = 0 ∨ k = 1 ∨ k = 2 ∨ k = 3 := by simp at hk; omega
    rcases this with rfl | rfl | rfl | rfl <;> simp [gi]

set_option maxRecDepth 100000 in
set_option maxHeartbeats 1600000 in
theorem heWay_any (N : Nat) (ao : Option Addr) (c : Nat) (H : List (List Int)) (i j : Nat) (w : World) (hN : N ≤ 7) (hH : Tab N H) (hi0 : 1 ≤ i) (hi : i + 1 < N) (hj0 : 1 ≤ j) (hj : j + 1 < N) (hm : MatAt w ao H) :
    Calls Try.prog 79 #[.slice ao N c, .int .i64 (i : Int), .int .i64 (j : Int)] w fun e w' => e = .returned (.int .i64 (way (fun a b => gi (gr H a) b) i j)) ∧ Below w.heap.size w w' := by
  obtain ⟨p, hp⟩ : ∃ p, p = i - 1 := ⟨_, rfl⟩
  obtain ⟨q, hq⟩ : ∃ q, q = j - 1 := ⟨_, rfl⟩
  obtain ⟨p2, hp2⟩ : ∃ p2, p2 = i + 1 := ⟨_, rfl⟩
  obtain ⟨q2, hq2⟩ : ∃ q2, q2 = j + 1 := ⟨_, rfl⟩
  have hway : way (fun a b => gi (gr H a) b) i j = if gi (gr H p) j = gi (gr H i) j + 1 ∧ gi (gr H i) q = gi (gr H i) j + 1 ∧ gi (gr H i) q2 = gi (gr H i) j + 1 ∧ gi (gr H p2) j = gi (gr H i) j + 1 then 1
      else if gi (gr H p) j = gi (gr H i) j - 1 ∧ gi (gr H i) q = gi (gr H i) j - 1 ∧ gi (gr H i) q2 = gi (gr H i) j - 1 ∧ gi (gr H p2) j = gi (gr H i) j - 1 then -1 else 0 := by subst hp hq hp2 hq2; rfl
  obtain ⟨b1, o1, r1, d1, e1, hc1, hx1, _, _⟩ := hm p (by rw [hH.len]; omega)
  obtain ⟨b2, o2, r2, d2, e2, hc2, hx2, _, _⟩ := hm i (by rw [hH.len]; omega)
  obtain ⟨b3, o3, r3, d3, e3, hc3, hx3, _, _⟩ := hm p2 (by rw [hH.len]; omega)
  rw [hH.row p (by omega)] at hc1
  rw [hH.row i (by omega)] at hc2
  rw [hH.row p2 (by omega)] at hc3
  obtain ⟨c1b, c1o, f1, g1⟩ := hx1 j (by rw [hH.row p (by omega)]; omega)
  obtain ⟨c2b, c2o, f2, g2⟩ := hx2 j (by rw [hH.row i (by omega)]; omega)
  obtain ⟨c3b, c3o, f3, g3⟩ := hx3 j (by rw [hH.row p2 (by omega)]; omega)
  obtain ⟨c4b, c4o, f4, g4⟩ := hx2 q (by rw [hH.row i (by omega)]; omega)
  obtain ⟨c5b, c5o, f5, g5⟩ := hx2 q2 (by rw [hH.row i (by omega)]; omega)
  rw [f2] at f4 f5
  simp only [Option.some.injEq, Addr.mk.injEq, and_true] at f4 f5
  obtain ⟨rfl, rfl⟩ := f4
  obtain ⟨rfl, rfl⟩ := f5
  rw [e1] at e2 e3
  simp only [Option.some.injEq, Addr.mk.injEq, and_true] at e2 e3
  obtain ⟨rfl, rfl⟩ := e2
  obtain ⟨rfl, rfl⟩ := e3
  subst e1 f1 f2 f3
  have n0 := hH.num i j (by omega) (by omega)
  have n1 := hH.num p j (by omega) (by omega)
  have n2 := hH.num p2 j (by omega) (by omega)
  have n3 := hH.num i q (by omega) (by omega)
  have n4 := hH.num i q2 (by omega) (by omega)
  generalize way (fun a b => gi (gr H a) b) i j = z at hway ⊢
  generalize gi (gr H i) j = x at hway g2 n0
  generalize gi (gr H p) j = x1 at hway g1 n1
  generalize gi (gr H p2) j = x2 at hway g3 n2
  generalize gi (gr H i) q = x3 at hway g4 n3
  generalize gi (gr H i) q2 = x4 at hway g5 n4
  have k1 : IntKind.i64.wrap ((i : Int) - 1) = (p : Int) := by rw [w64 (by omega)]; omega
  have k2 : IntKind.i64.wrap ((j : Int) - 1) = (q : Int) := by rw [w64 (by omega)]; omega
  have k3 : IntKind.i64.wrap ((i : Int) + 1) = (p2 : Int) := by rw [w64 (by omega)]; omega
  have k4 : IntKind.i64.wrap ((j : Int) + 1) = (q2 : Int) := by rw [w64 (by omega)]; omega
  have k5 : IntKind.i64.wrap (x + 1) = x + 1 := w64 (by omega)
  have k6 : IntKind.i64.wrap (x - 1) = x - 1 := w64 (by omega)
  have m1 : (p : Int) < N := by omega
  have m2 : (q : Int) < N := by omega
  have m3 : (i : Int) < N := by omega
  have m4 : (j : Int) < N := by omega
  have m5 : (p2 : Int) < N := by omega
  have m6 : (q2 : Int) < N := by omega
  clear hi0 hi hj0 hj hp hq hp2 hq2
  have Hway := Lib.hid hway
  have Hn := Lib.hid (show -90 ≤ x ∧ x ≤ 90 ∧ -90 ≤ x1 ∧ x1 ≤ 90 ∧ -90 ≤ x2 ∧ x2 ≤ 90 ∧ -90 ≤ x3 ∧ x3 ≤ 90 ∧ -90 ≤ x4 ∧ x4 ≤ 90 by omega)
  clear hway hx1 hx2 hx3 hm hH n0 n1 n2 n3 n4
  go_enter Try.func79, Try.ntmps79
  go_upto_region 2 with fail
  go_region_held (fun w' => w'.cell? ⟨b1, o1 + p, none⟩ = some (.slice (some ⟨c1b, c1o, none⟩) N d1) ∧ w'.cell? ⟨b1, o1 + i, none⟩ = some (.slice (some ⟨c2b, c2o, none⟩) N d2) ∧ w'.cell? ⟨b1, o1 + p2, none⟩ = some (.slice (some ⟨c3b, c3o, none⟩) N d3) ∧
      w'.cell? ⟨c1b, c1o + j, none⟩ = some (.int .i64 x1) ∧ w'.cell? ⟨c3b, c3o + j, none⟩ = some (.int .i64 x2) ∧ w'.cell? ⟨c2b, c2o + q, none⟩ = some (.int .i64 x3) ∧ w'.cell? ⟨c2b, c2o + q2, none⟩ = some (.int .i64 x4)) (go_keep) (fail)
  all_goals
    go_wp2_with fail
    generalize hW : World.drew _ = w1
    have hI : IntsAt w1 (some ⟨w.heap.size, 0, none⟩) [x1, x2, x3, x4] := by rw [← hW]; exact ints_four w x1 x2 x3 x4 _
    have hb : Below w.heap.size w w1 := by rw [← hW]; exact below_drewN ((Below.refl _ _).alloc (Nat.le_refl _) _) 1
    have HI := Lib.hid hI
    have HB := Lib.hid hb
    clear hW hI hb
    refine (l1All_any (some ⟨w.heap.size, 0, none⟩) 4 [x1, x2, x3, x4] (x + 1) (x + 1) w1 (by simp) HI.out).mono ?_
    rintro e w2 ⟨ha, rfl⟩
    by_cases hu : x1 = x + 1 ∧ x2 = x + 1 ∧ x3 = x + 1 ∧ x4 = x + 1
    · obtain rfl := ha.is (allIn_four.2 hu)
      have Hu := Lib.hid hu
      clear ha hu
      go_wp2
      go_ret
      exact ⟨by rw [Hway.out, if_pos ⟨Hu.out.1, Hu.out.2.2.1, Hu.out.2.2.2, Hu.out.2.1⟩]; rfl, HB.out⟩
    · obtain rfl := ha.isnt (fun h => hu (allIn_four.1 h))
      have Hu := Lib.hid hu
      clear ha hu
      go_wp2_with fail
      refine (l1All_any (some ⟨w.heap.size, 0, none⟩) 4 [x1, x2, x3, x4] (x - 1) (x - 1) w1 (by simp) HI.out).mono ?_
      rintro e w2 ⟨ha, rfl⟩
      by_cases hd : x1 = x - 1 ∧ x2 = x - 1 ∧ x3 = x - 1 ∧ x4 = x - 1
      · obtain rfl := ha.is (allIn_four.2 hd)
        have Hd := Lib.hid hd
        clear ha hd
        go_wp2
        go_ret
        exact ⟨by rw [Hway.out, if_neg (fun h => Hu.out ⟨h.1, h.2.2.2, h.2.1, h.2.2.1⟩), if_pos ⟨Hd.out.1, Hd.out.2.2.1, Hd.out.2.2.2, Hd.out.2.1⟩]; rfl, HB.out⟩
      · obtain rfl := ha.isnt (fun h => hd (allIn_four.1 h))
        have Hd := Lib.hid hd
        clear ha hd
        go_wp2
        go_ret
        exact ⟨by rw [Hway.out, if_neg (fun h => Hu.out ⟨h.1, h.2.2.2, h.2.1, h.2.2.1⟩), if_neg (fun h => Hd.out ⟨h.1, h.2.2.2, h.2.1, h.2.2.1⟩)]; rfl, HB.out⟩
end Go.Proofs.Ytmkldodkpijfjaa

namespace Go.Proofs.Ytmkldodkpijfjaa
open Go.RowKit

/-- a list of two numbers that are a cell of a matrix with n rows -/
def okCell (n : Nat) (r : List Int) : Prop := r.length = 2 ∧ 0 < gi r 0 ∧ gi r 0 < n ∧ 0 < gi r 1 ∧ gi r 1 < n
instance (n : Nat) (r : List Int) : Decidable (okCell n r) := by unfold okCell; infer_instance
/-- corner sums behind the flip of a cell -/
def flipC (c : Nat → Nat → Int) (i j : Nat) : Nat → Nat → Int := setC c i j (c i j - way (hOf c) i j)
/-- .. behind the flips of cells, one after the other -/
def runC (n : Nat) (c : Nat → Nat → Int) : List (List Int) → Option (Nat → Nat → Int)
  | [] => some c
  | r :: rs => if okCell n r ∧ way (hOf c) (gi r 0).toNat (gi r 1).toNat ≠ 0 then runC n (flipC c (gi r 0).toNat (gi r 1).toNat) rs else none
theorem runC_snoc (n : Nat) : ∀ (rs : List (List Int)) (c : Nat → Nat → Int) (r : List Int), runC n c (rs ++ [r]) = (runC n c rs).bind fun d => runC n d [r]
  | [], c, r => rfl
  | s :: rs, c, r => by
    show (if _ then runC n _ (rs ++ [r]) else none) = (if _ then runC n _ rs else none).bind _
    split
    · exact runC_snoc n rs _ r
    · rfl
theorem runC_crn {n : Nat} : ∀ (rs : List (List Int)) (c d : Nat → Nat → Int), Crn n c → runC n c rs = some d → Crn n d
  | [], c, d, h, e => by
    obtain rfl : c = d := by simpa [runC] using e
    exact h
  | s :: rs, c, d, h, e => by
    unfold runC at e
    split at e
    · next h1 =>
      obtain ⟨⟨_, h2, h3, h4, h5⟩, h6⟩ := h1
      exact runC_crn rs _ d (h.flip (by omega) (by omega) (by omega) (by omega) h6) e
    · cases e
theorem runC_none {n : Nat} {c : Nat → Nat → Int} {path : List (List Int)} {k : Nat} (h : runC n c (path.take k) = none) : runC n c path = none := by
  have key : ∀ (a b : List (List Int)) (c : Nat → Nat → Int), runC n c a = none → runC n c (a ++ b) = none := by
    intro a
    induction a with
    | nil => intro b c h; cases h
    | cons s a ih =>
      intro b c h
      unfold runC at h
      show (if _ then runC n _ (a ++ b) else none) = none
      split at h
      · next h1 => rw [if_pos h1]; exact ih b _ h
      · next h1 => rw [if_neg h1]
  have := key (path.take k) (path.drop k) c h
  rwa [List.take_append_drop] at this
/-- a flip in the program's terrain -/
theorem pad_flip {n : Nat} (c : Nat → Nat → Int) {i j : Nat} (hi0 : 1 ≤ i) (hi : i < n) (hj0 : 1 ≤ j) (hj : j < n) (a b : Nat) :
    upd (pad n (hOf c)) i j (pad n (hOf c) i j + 2 * way (pad n (hOf c)) i j) a b = pad n (hOf (flipC c i j)) a b := by
  have key : ∀ i j, i ≤ n → j ≤ n → pad n (hOf c) i j = hOf c i j := fun i j hi hj => by
    unfold pad
    rw [if_pos ⟨hi, hj⟩]
  have hw : way (pad n (hOf c)) i j = way (hOf c) i j := way_congr (key _ _ (by omega) (by omega)) (key _ _ (by omega) (by omega)) (key _ _ (by omega) (by omega)) (key _ _ (by omega) (by omega)) (key _ _ (by omega) (by omega))
  rw [hw, key i j (by omega) (by omega)]
  unfold upd flipC pad
  by_cases e : a = i ∧ b = j
  · obtain ⟨rfl, rfl⟩ := e
    rw [if_pos ⟨rfl, rfl⟩, if_pos ⟨by omega, by omega⟩, hOf_setC, if_pos ⟨rfl, rfl⟩]
    unfold hOf
    omega
  · rw [if_neg e, hOf_setC, if_neg e]
end Go.Proofs.Ytmkldodkpijfjaa

namespace Go.Proofs.Ytmkldodkpijfjaa
open Go.RowKit

/-- an inner cell of a table of heights -/
def inn (n : Nat) (p : Nat × Nat) : Prop := 1 ≤ p.1 ∧ p.1 < n ∧ 1 ≤ p.2 ∧ p.2 < n
instance (n : Nat) (p : Nat × Nat) : Decidable (inn n p) := by unfold inn; infer_instance
def okB (n x y : Int) : Bool := decide (0 < x ∧ x < n ∧ 0 < y ∧ y < n)
theorem okB_true {n x y : Int} : okB n x y = true ↔ 0 < x ∧ x < n ∧ 0 < y ∧ y < n := by unfold okB; exact decide_eq_true_iff
theorem okB_yes {n x y : Int} (h : 0 < x ∧ x < n ∧ 0 < y ∧ y < n) : okB n x y = true := okB_true.2 h
theorem okB_no {n x y : Int} (h : ¬ (0 < x ∧ x < n ∧ 0 < y ∧ y < n)) : okB n x y = false := by
  cases e : okB n x y
  · rfl
  · exact absurd (okB_true.1 e) h

/-- equal inside the table -/
def eqC (n : Nat) (a b : Nat → Nat → Int) : Prop := ∀ i j, i ≤ n → j ≤ n → a i j = b i j
theorem eqC.refl (n : Nat) (a : Nat → Nat → Int) : eqC n a a := fun _ _ _ _ => rfl
theorem eqC.symm {n : Nat} {a b : Nat → Nat → Int} (h : eqC n a b) : eqC n b a := fun i j hi hj => (h i j hi hj).symm
theorem eqC.trans {n : Nat} {a b c : Nat → Nat → Int} (h : eqC n a b) (k : eqC n b c) : eqC n a c := fun i j hi hj => (h i j hi hj).trans (k i j hi hj)

/-- behind toggles -/
def togL (c : Nat → Nat → Int) (ps : List (Nat × Nat)) : Nat → Nat → Int := ps.foldl (fun c p => flipC c p.1 p.2) c
theorem togL_nil (c : Nat → Nat → Int) : togL c [] = c := rfl
theorem togL_cons (c : Nat → Nat → Int) (p : Nat × Nat) (ps : List (Nat × Nat)) : togL c (p :: ps) = togL (flipC c p.1 p.2) ps := rfl
theorem togL_append (c : Nat → Nat → Int) (ps qs : List (Nat × Nat)) : togL c (ps ++ qs) = togL (togL c ps) qs := List.foldl_append
theorem togL_snoc (c : Nat → Nat → Int) (ps : List (Nat × Nat)) (p : Nat × Nat) : togL c (ps ++ [p]) = flipC (togL c ps) p.1 p.2 := by rw [togL_append]; rfl
theorem flipC_still {c : Nat → Nat → Int} {i j : Nat} (h : way (hOf c) i j = 0) : flipC c i j = c := by
  funext a b
  unfold flipC setC
  rw [h]
  by_cases e : a = i ∧ b = j
  · rw [if_pos e, e.1, e.2]; omega
  · rw [if_neg e]
theorem Crn.tog {n : Nat} {c : Nat → Nat → Int} (h : Crn n c) {p : Nat × Nat} (hp : inn n p) : Crn n (flipC c p.1 p.2) := by
  obtain ⟨h1, h2, h3, h4⟩ := hp
  by_cases hw : way (hOf c) p.1 p.2 = 0
  · rw [flipC_still hw]; exact h
  · exact h.flip (by omega) h2 (by omega) h4 hw
theorem Crn.togL {n : Nat} : ∀ (ps : List (Nat × Nat)) {c : Nat → Nat → Int}, Crn n c → (∀ p ∈ ps, inn n p) → Crn n (togL c ps)
  | [], _c, h, _ => h
  | p :: ps, _c, h, hp => Crn.togL ps (h.tog (hp p (List.mem_cons_self ..))) (fun q hq => hp q (List.mem_cons_of_mem _ hq))
theorem way_eqC {n : Nat} {a b : Nat → Nat → Int} (h : eqC n a b) {p : Nat × Nat} (hp : inn n p) : way (hOf a) p.1 p.2 = way (hOf b) p.1 p.2 := by
  obtain ⟨h1, h2, h3, h4⟩ := hp
  have k : ∀ i j, i ≤ n → j ≤ n → hOf a i j = hOf b i j := fun i j hi hj => by unfold hOf; rw [h i j hi hj]
  exact way_congr (k _ _ (by omega) (by omega)) (k _ _ (by omega) (by omega)) (k _ _ (by omega) (by omega)) (k _ _ (by omega) (by omega)) (k _ _ (by omega) (by omega))
theorem flipC_eqC {n : Nat} {a b : Nat → Nat → Int} (h : eqC n a b) {p : Nat × Nat} (hp : inn n p) : eqC n (flipC a p.1 p.2) (flipC b p.1 p.2) := fun i j hi hj => by
  unfold flipC setC
  rw [way_eqC h hp, h p.1 p.2 (by have := hp.2.1; omega) (by have := hp.2.2.2; omega), h i j hi hj]
theorem togL_eqC {n : Nat} : ∀ (ps : List (Nat × Nat)) {a b : Nat → Nat → Int}, eqC n a b → (∀ p ∈ ps, inn n p) → eqC n (togL a ps) (togL b ps)
  | [], _a, _b, h, _ => h
  | p :: ps, _a, _b, h, hp => togL_eqC ps (flipC_eqC h (hp p (List.mem_cons_self ..))) (fun q hq => hp q (List.mem_cons_of_mem _ hq))

/-- the matrix behind toggles -/
def gyM (m : List (List Int)) (ps : List (Nat × Nat)) : List (List Int) := unC m.length (togL (S2 m) ps)
theorem gyM_len (m : List (List Int)) (ps : List (Nat × Nat)) : (gyM m ps).length = m.length := unC_len _ _
theorem gyM_nil {m : List (List Int)} (h : good m) : gyM m [] = m := unC_S2 h.1
theorem gyM_good {m : List (List Int)} (h : good m) {ps : List (Nat × Nat)} (hp : ∀ p ∈ ps, inn m.length p) : good (gyM m ps) := crn_good ((good_crn h).togL ps hp) h.1.1 h.1.2.1
theorem gyM_small {m : List (List Int)} (h : good m) (ps : List (Nat × Nat)) : Small (gyM m ps) := unC_small _ h.1.2.1
theorem S2_gyM {m : List (List Int)} (h : good m) {ps : List (Nat × Nat)} (hp : ∀ p ∈ ps, inn m.length p) : eqC m.length (S2 (gyM m ps)) (togL (S2 m) ps) :=
  S2_unC ((good_crn h).togL ps hp).top ((good_crn h).togL ps hp).left
theorem gyM_append {m : List (List Int)} (h : good m) {ps qs : List (Nat × Nat)} (hp : ∀ p ∈ ps, inn m.length p) (hq : ∀ p ∈ qs, inn m.length p) : gyM (gyM m ps) qs = gyM m (ps ++ qs) := by
  show unC (gyM m ps).length (togL (S2 (gyM m ps)) qs) = unC m.length (togL (S2 m) (ps ++ qs))
  rw [gyM_len, togL_append]
  exact unC_congr (togL_eqC qs (S2_gyM h hp) hq)

/-- the cells of a colour among some -/
def colL (col : Int) (ps : List (Nat × Nat)) : List (Nat × Nat) := ps.filter fun p => decide (((p.1 : Int) + (p.2 : Int)) % 2 = col)
theorem colL_snoc (col : Int) (ps : List (Nat × Nat)) (p : Nat × Nat) : colL col (ps ++ [p]) = if ((p.1 : Int) + (p.2 : Int)) % 2 = col then colL col ps ++ [p] else colL col ps := by
  unfold colL
  rw [List.filter_append]
  by_cases h : ((p.1 : Int) + (p.2 : Int)) % 2 = col <;> simp [h]
theorem colL_mem {col : Int} {ps : List (Nat × Nat)} {p : Nat × Nat} (h : p ∈ colL col ps) : p ∈ ps := (List.mem_filter.1 h).1
theorem colL_len (col : Int) (ps : List (Nat × Nat)) : (colL col ps).length ≤ ps.length := List.length_filter_le _ _
theorem colL_inn {n s t : Nat} (hs : s ≤ n) (ht : t ≤ n) (hs1 : 1 ≤ s) {col : Int} : ∀ p ∈ colL col (allCells n s ++ rowCells s t), p.1 < n + 1 ∧ 1 ≤ p.1 ∧ 1 ≤ p.2 ∧ p.2 < n := fun p hp => by
  rcases List.mem_append.1 (colL_mem hp) with h | h
  · have := mem_allCells h; omega
  · have := mem_rowCells h; omega
theorem allCells_inn {n : Nat} : ∀ p ∈ allCells n n, inn n p := fun p hp => by
  have := mem_allCells hp
  unfold inn
  omega
theorem cells_inn {n s t : Nat} (_hs : s ≤ n) (ht : t ≤ n) (hs1 : 1 ≤ s) (hsn : s < n) : ∀ p ∈ allCells n s ++ rowCells s t, inn n p := fun p hp => by
  unfold inn
  rcases List.mem_append.1 hp with h | h
  · have := mem_allCells h; omega
  · have := mem_rowCells h; omega
theorem cells_inn' {n s : Nat} (hs : s ≤ n) : ∀ p ∈ allCells n s, inn n p := fun p hp => by
  unfold inn
  have := mem_allCells hp
  omega
/-- a toggle in the program's terrain -/
theorem pad_tog {n : Nat} (c : Nat → Nat → Int) {p : Nat × Nat} (hp : inn n p) (a b : Nat) :
    upd (pad n (hOf c)) p.1 p.2 (pad n (hOf c) p.1 p.2 + 2 * way (pad n (hOf c)) p.1 p.2) a b = pad n (hOf (flipC c p.1 p.2)) a b := pad_flip c hp.1 hp.2.1 hp.2.2.1 hp.2.2.2 a b
theorem pad_eqC {n : Nat} {a b : Nat → Nat → Int} (h : eqC n a b) : pad n (hOf a) = pad n (hOf b) := by
  funext i j
  unfold pad
  split
  · next e => unfold hOf; rw [h i j e.1 e.2]
  · rfl
theorem way_pad {n : Nat} (c : Nat → Nat → Int) {p : Nat × Nat} (hp : inn n p) : way (pad n (hOf c)) p.1 p.2 = way (hOf c) p.1 p.2 := by
  obtain ⟨h1, h2, h3, h4⟩ := hp
  have key : ∀ i j, i ≤ n → j ≤ n → pad n (hOf c) i j = hOf c i j := fun i j hi hj => by
    unfold pad
    rw [if_pos ⟨hi, hj⟩]
  exact way_congr (key _ _ (by omega) (by omega)) (key _ _ (by omega) (by omega)) (key _ _ (by omega) (by omega)) (key _ _ (by omega) (by omega)) (key _ _ (by omega) (by omega))
theorem way_htT {n : Nat} (c : Nat → Nat → Int) {p : Nat × Nat} (hp : inn n p) : way (fun a b => gi (gr (htT n c) a) b) p.1 p.2 = way (hOf c) p.1 p.2 := by
  obtain ⟨h1, h2, h3, h4⟩ := hp
  have key : ∀ i j, i ≤ n → j ≤ n → gi (gr (htT n c) i) j = hOf c i j := fun i j hi hj => gi_htT hi hj
  exact way_congr (key _ _ (by omega) (by omega)) (key _ _ (by omega) (by omega)) (key _ _ (by omega) (by omega)) (key _ _ (by omega) (by omega)) (key _ _ (by omega) (by omega))

/-- a number of a table is put in -/
def setM (m : List (List Int)) (i j : Nat) (x : Int) : List (List Int) := m.set i ((gr m i).set j x)
theorem setM_len (m : List (List Int)) (i j : Nat) (x : Int) : (setM m i j x).length = m.length := by simp [setM]
theorem gr_setM {m : List (List Int)} {i j : Nat} {x : Int} (hi : i < m.length) (a : Nat) : gr (setM m i j x) a = if a = i then (gr m i).set j x else gr m a := by
  simp only [gr, setM, List.getD, List.getElem?_set]
  by_cases e : i = a
  · subst e; simp [hi]
  · rw [if_neg e, if_neg (fun h => e h.symm)]
/-- .. of a table of heights: a flip -/
theorem setM_htT {n : Nat} (c : Nat → Nat → Int) {p : Nat × Nat} (hp : inn n p) : setM (htT n c) p.1 p.2 (hOf c p.1 p.2 + 2 * way (hOf c) p.1 p.2) = htT n (flipC c p.1 p.2) := by
  obtain ⟨h1, h2, h3, h4⟩ := hp
  refine ext_gr (by rw [setM_len, htT_len, htT_len]) fun a ha => ?_
  rw [setM_len, htT_len] at ha
  rw [gr_setM (by rw [htT_len]; omega)]
  have hrow : ∀ (d : Nat → Nat → Int) a, a < n + 1 → (gr (htT n d) a).length = n + 1 := fun d a ha => tab_row ha
  by_cases e : a = p.1
  · subst e
    rw [if_pos rfl]
    refine ext_gi (by rw [List.length_set, hrow _ _ ha, hrow _ _ ha]) fun b hb => ?_
    rw [List.length_set, hrow _ _ ha] at hb
    rw [gi_set (by rw [hrow _ _ ha]; omega), gi_htT (by omega) (by omega), gi_htT (by omega) (by omega)]
    unfold flipC
    rw [hOf_setC]
    by_cases e2 : b = p.2
    · subst e2
      rw [if_pos rfl, if_pos ⟨rfl, rfl⟩]
      unfold hOf
      omega
    · rw [if_neg e2, if_neg (fun h => e2 h.2)]
  · rw [if_neg e]
    refine ext_gi (by rw [hrow _ _ ha, hrow _ _ ha]) fun b hb => ?_
    rw [hrow _ _ ha] at hb
    rw [gi_htT (by omega) (by omega), gi_htT (by omega) (by omega)]
    unfold flipC
    rw [hOf_setC, if_neg (fun h => e h.1)]
end Go.Proofs.Ytmkldodkpijfjaa

namespace Go.Proofs.Ytmkldodkpijfjaa
open Go.RowKit

theorem OwnP.storeAt {w : World} {B n : Nat} {v : Value} {m : List (List Int)} {vs : List Value} (h : OwnP w B v n m n vs) (hn : m.length = n) {i j g l c : Nat} (hi : i < n)
    (hv : vs.getD i undef = .slice (some ⟨g, 0, none⟩) l c) (x : Int) : OwnP (w.setCell ⟨g, j, none⟩ (.int .i64 x)) B v n (setM m i j x) n vs := by
  have hri := h.rows i hi
  have hb : (vs.getD i undef).ownBlock = some g := by rw [hv]; rfl
  have ht : v.ownBlock ≠ some g := hri.ne_row h.top g hb
  refine ⟨ownsRow_setCell_other h.top ht _, fun k hk => ?_, h.apart⟩
  rw [gr_setM (by omega)]
  by_cases e : k = i
  · subst e
    rw [if_pos rfl, hv]
    rw [hv] at hri
    exact hri.store j x
  · rw [if_neg e]
    refine (h.rows k hk).setOther (fun hk' => ?_) _
    rcases Nat.lt_or_gt_of_ne e with hlt | hgt
    · exact h.apart k i hlt hi g hk' hb
    · exact h.apart i k hgt hk g hb hk'

/-- the row of an owned table: where it lies -/
theorem OwnP.rowIs {w : World} {B n : Nat} {v : Value} {m : List (List Int)} {vs : List Value} (h : OwnP w B v n m n vs) {i : Nat} (hi : i < n) (hl : 0 < (gr m i).length) :
    ∃ g c, vs.getD i undef = .slice (some ⟨g, 0, none⟩) (gr m i).length c ∧ B ≤ g ∧ g < w.heap.size ∧ (gr m i).length ≤ c := by
  have hr := h.rows i hi
  obtain ⟨ao, c, e, h1, h2, _⟩ := hr.read
  rw [e] at hr
  obtain ⟨g, rfl, hB, hz⟩ := hr.isAt hl
  exact ⟨g, c, e, hB, hz, h1⟩
end Go.Proofs.Ytmkldodkpijfjaa

namespace Go.Proofs.Ytmkldodkpijfjaa
open Go.RowKit

/-- where a number of an owned table of heights lies -/
theorem OwnP.numAt {w : World} {B N cp i j : Nat} {ao : Option Addr} {H : List (List Int)} {vs : List Value} (h : OwnP w B (.slice ao N cp) N H N vs) (hH : Tab N H) (hi : i < N) (hj : j < N) :
    ∃ b o g cr, ao = some ⟨b, o, none⟩ ∧ vs.getD i undef = .slice (some ⟨g, 0, none⟩) N cr ∧ B ≤ g ∧
      ∀ w', OwnP w' B (.slice ao N cp) N H N vs → w'.cell? ⟨b, o + i, none⟩ = some (.slice (some ⟨g, 0, none⟩) N cr) ∧ w'.cell? ⟨g, j, none⟩ = some (.int .i64 (gi (gr H i) j)) ∧ w'.frozen? ⟨g, j, none⟩ = false := by
  obtain ⟨ao', c', e, _, _, hc⟩ := ownsRow_read h.top
  simp only [Value.slice.injEq, true_and] at e
  obtain ⟨rfl, rfl⟩ := e
  obtain ⟨b, o, rfl, _⟩ := hc i hi
  obtain ⟨g, cr, hv, hB, _, _⟩ := h.rowIs hi (by rw [hH.row i hi]; omega)
  rw [hH.row i hi] at hv
  refine ⟨b, o, g, cr, rfl, hv, hB, fun w' h' => ?_⟩
  obtain ⟨ao', c', e, _, _, hc'⟩ := ownsRow_read h'.top
  simp only [Value.slice.injEq, true_and] at e
  obtain ⟨rfl, rfl⟩ := e
  obtain ⟨b', o', e', hcell⟩ := hc' i hi
  simp only [Option.some.injEq, Addr.mk.injEq, and_true] at e'
  obtain ⟨rfl, rfl⟩ := e'
  have hr := h'.rows i hi
  rw [hv] at hr hcell
  exact ⟨hcell, hr.cellAt j hj, hr.frozenAt j⟩

set_option maxRecDepth 100000 in
set_option maxHeartbeats 1600000 in
theorem gyToggle_any (n N B cp i j : Nat) (ao : Option Addr) (vs : List Value) (c : Nat → Nat → Int) (w : World) (hN : N = n + 1) (hn : n ≤ 6) (hc : Crn n c) (hp : inn n (i, j)) (hB : B ≤ w.heap.size)
    (hH : OwnP w B (.slice ao N cp) N (htT n c) N vs) :
    Calls Try.prog 76 #[.slice ao N cp, .int .i64 (i : Int), .int .i64 (j : Int)] w fun e w' => e = .returned (.slice ao N cp) ∧ OwnP w' B (.slice ao N cp) N (htT n (flipC c i j)) N vs ∧ Below B w w' := by
  have hT : Tab N (htT n c) := by rw [hN]; exact htT_tab hc hn
  obtain ⟨hi1, hi2, hj1, hj2⟩ := hp
  simp only at hi1 hi2 hj1 hj2
  obtain ⟨b, o, g, cr, rfl, hv, hBg, hcells⟩ := hH.numAt hT (i := i) (j := j) (by omega) (by omega)
  have hx : gi (gr (htT n c) i) j = hOf c i j := gi_htT (by omega) (by omega)
  rw [hx] at hcells
  have hb := hc.hbound (show i ≤ n by omega) (show j ≤ n by omega)
  have hcall : ∀ w', Below w.heap.size w w' → Calls Try.prog 79 #[.slice (some ⟨b, o, none⟩) N cp, .int .i64 (i : Int), .int .i64 (j : Int)] w' fun e w2 => e = .returned (.int .i64 (way (hOf c) i j)) ∧ Below w'.heap.size w' w2 := fun w' hb' => by
    have := heWay_any N (some ⟨b, o, none⟩) cp (htT n c) i j w' (by omega) hT hi1 (by omega) hj1 (by omega) ((hH.at (by rw [htT_len, hN])).below hb')
    have e : way (fun a b => gi (gr (htT n c) a) b) i j = way (hOf c) i j := way_htT c (p := (i, j)) ⟨hi1, hi2, hj1, hj2⟩
    rwa [e] at this
  have hw : -1 ≤ way (hOf c) i j ∧ way (hOf c) i j ≤ 1 := by unfold way; split <;> (try split) <;> omega
  have hpost : ∀ w2, Below w.heap.size w w2 → OwnP (w2.setCell ⟨g, j, none⟩ (.int .i64 (hOf c i j + 2 * way (hOf c) i j))) B (.slice (some ⟨b, o, none⟩) N cp) N (htT n (flipC c i j)) N vs := fun w2 hb2 => by
    have h2 := (hH.below hb2).storeAt (by rw [htT_len, hN]) (i := i) (j := j) (show i < N by omega) hv (hOf c i j + 2 * way (hOf c) i j)
    rwa [setM_htT c (p := (i, j)) ⟨hi1, hi2, hj1, hj2⟩] at h2
  obtain ⟨x, hxx⟩ : ∃ x, x = hOf c i j := ⟨_, rfl⟩
  obtain ⟨y, hyy⟩ : ∃ y, y = way (hOf c) i j := ⟨_, rfl⟩
  rw [← hxx] at hcells hpost hb
  rw [← hyy] at hcall hpost hw
  have hf := hcells w hH
  have Hcells := Lib.hid (fun (w' : World) (hb' : Below w.heap.size w w') => hcells w' (hH.below hb'))
  have Hcall := Lib.hid hcall
  have Hpost := Lib.hid hpost
  have k1 : IntKind.i64.wrap (2 * y) = 2 * y := w64 (by omega)
  have k2 : IntKind.i64.wrap (x + 2 * y) = x + 2 * y := w64 (by omega)
  have m1 : (i : Int) < N := by omega
  have m2 : (j : Int) < N := by omega
  obtain ⟨f1, f2, f3⟩ := hf
  have HB := Lib.hid hB
  have HBg := Lib.hid hBg
  clear hH hT hx hcells hcall hpost hxx hyy hv hi1 hi2 hj1 hj2 hc hB hBg hb hw hN
  go_enter Try.func76, Try.ntmps76
  go_upto_region 1 with fail
  go_region_with (go_at_call 79; refine (Hcall.out _ ?_).mono ?_; exact below_drewN (Below.refl _ _) 1; rintro e w2 ⟨rfl, hb2⟩; have Hb2 := Lib.hid ((below_drewN (Below.refl w.heap.size w) 1).trans hb2); obtain ⟨g1, g2, g3⟩ := Hcells.out w2 Hb2.out; clear hb2)
  all_goals
    have HO := Lib.hid (Hpost.out w2 Hb2.out)
    have HW := Lib.hid ((Hb2.out.mono HB.out).setCell (p := ⟨g, j, none⟩) HBg.out (.int .i64 (x + 2 * y)))
    go_wp2
    go_ret
    exact ⟨rfl, HO.out, HW.out⟩

theorem mod2 (s t : Nat) : ((s : Int) + t) % 2 = (((s, t) : Nat × Nat).1 + ((s, t) : Nat × Nat).2) % 2 := rfl

set_option maxRecDepth 100000 in
set_option maxHeartbeats 1600000 in
theorem gyColour_any (n N B cp : Nat) (ao : Option Addr) (vs : List Value) (c : Nat → Nat → Int) (col : Int) (w : World) (hN : N = n + 1) (hn1 : 1 ≤ n) (hn : n ≤ 6) (hc : Crn n c) (hB : B ≤ w.heap.size)
    (hH : OwnP w B (.slice ao N cp) N (htT n c) N vs) :
    Calls Try.prog 71 #[.slice ao N cp, .int .i64 col] w fun e w' => e = .returned (.slice ao N cp) ∧ OwnP w' B (.slice ao N cp) N (htT n (togL c (colL col (allCells n n)))) N vs ∧ Below B w w' := by
  have HN := Lib.hid hN
  have HH := Lib.hid hH
  have HB := Lib.hid hB
  have kN : IntKind.i64.wrap ((N : Int) - 1) = (n : Int) := by rw [w64 (by omega)]; omega
  clear hN hH hB
  go_enter Try.func71, Try.ntmps71
  go_wp2
  go_loopw [0, 5] (fun h i wr => ∃ s : Nat, 1 ≤ s ∧ s ≤ n ∧ i = .int .i64 s ∧ h = .slice ao N cp ∧ OwnP wr B (.slice ao N cp) N (htT n (togL c (colL col (allCells n s)))) N vs ∧ Below B w wr) (fun _ i _ => n - (intOf i).toNat)
  case atStart => exact ⟨1, by omega, hn1, rfl, rfl, by rw [allCells_one]; exact HH.out, Below.refl _ _⟩
  case round =>
    obtain ⟨s, hs1, hs, rfl, rfl, hown, hbr⟩ := hrel
    have Hown := Lib.hid hown
    have Hbr := Lib.hid hbr
    clear hown hbr
    by_cases hlt : s < n
    · go_wp2
      go_loopw [0, 6] (fun h j wr => ∃ t : Nat, 1 ≤ t ∧ t ≤ n ∧ j = .int .i64 t ∧ h = .slice ao N cp ∧ OwnP wr B (.slice ao N cp) N (htT n (togL c (colL col (allCells n s ++ rowCells s t)))) N vs ∧ Below B w wr) (fun _ j _ => n - (intOf j).toNat)
      case atStart => exact ⟨1, by omega, hn1, by go_num, rfl, by rw [rowCells_one, List.append_nil]; exact Hown.out, Hbr.out⟩
      case round =>
        obtain ⟨t, ht1, ht, rfl, rfl, hown, hbr⟩ := hrel
        have Hown := Lib.hid hown
        have Hbr := Lib.hid hbr
        clear hown hbr
        by_cases htl : t < n
        · have hsn := colL_snoc col (allCells n s ++ rowCells s t) (s, t)
          rw [← mod2, List.append_assoc, ← rowCells_succ s t ht1] at hsn
          have hcr : Crn n (togL c (colL col (allCells n s ++ rowCells s t))) := hc.togL _ (fun p hp => cells_inn hs ht hs1 hlt p (colL_mem hp))
          have Hcr := Lib.hid hcr
          have Hsn := Lib.hid hsn
          clear hcr hsn
          by_cases hw : ((s : Int) + t) % 2 = col
          · have hb : (((s : Int) + t) % 2 == col) = true := by simpa using hw
            rw [if_pos hw] at Hsn
            clear hw
            go_wp2_with fail
            refine (gyToggle_any n N B cp s t ao vs _ wr HN.out hn Hcr.out ⟨hs1, hlt, ht1, htl⟩ (Nat.le_trans HB.out Hbr.out.size) Hown.out).mono ?_
            rintro e w2 ⟨rfl, ho, hb2⟩
            have Ho := Lib.hid ho
            have Hb2 := Lib.hid (Hbr.out.trans hb2)
            clear ho hb2
            go_wp2
            go_roundw
            case rel => exact ⟨t + 1, by omega, by omega, by go_num, rfl, by rw [Hsn.out, togL_snoc]; exact Ho.out, Hb2.out⟩
            case measure => simp [intOf]; omega
          · have hb : (((s : Int) + t) % 2 == col) = false := by simpa using hw
            rw [if_neg hw] at Hsn
            clear hw
            go_wp2
            go_roundw
            case rel => exact ⟨t + 1, by omega, by omega, by go_num, rfl, by rw [Hsn.out]; exact Hown.out, Hbr.out⟩
            case measure => simp [intOf]; omega
        · obtain rfl : t = n := by omega
          go_wp2
          go_roundw
          case rel => exact ⟨s + 1, by omega, by omega, by go_num, rfl, by rw [allCells_succ _ s hs1]; exact Hown.out, Hbr.out⟩
          case measure => simp [intOf]; omega
    · obtain rfl : s = n := by omega
      go_wp2
      go_ret
      exact ⟨rfl, Hown.out, Hbr.out⟩

set_option maxRecDepth 100000 in
set_option maxHeartbeats 1600000 in
theorem gyFlip_any (ao : Option Addr) (cp : Nat) (m : List (List Int)) (col : Int) (w : World) (hg : good m) (hm : MatAt w ao m) :
    Calls Try.prog 59 #[.slice ao m.length cp, .int .i64 col] w fun e w' => ∃ v, e = .returned v ∧ OwnM w' w.heap.size v (gyM m (colL col (allCells m.length m.length))) ∧ Below w.heap.size w w' := by
  have hn1 := hg.1.1
  have hn := hg.1.2.1
  have Hg := Lib.hid hg
  have Hm := Lib.hid hm
  have Hcr := Lib.hid (good_crn hg)
  clear hg hm
  go_enter Try.func59, Try.ntmps59
  go_wp2_with fail
  refine (heOf_any ao cp m w Hg.out Hm.out).mono ?_
  rintro e w1 ⟨v, rfl, hv, hb1⟩
  obtain ⟨a1, c1, vs, rfl, hvo, hc1, hc2⟩ := hv.open
  have Hl := Lib.hid (ht_len m)
  rw [ht_len] at hvo hc1 ⊢
  obtain ⟨N, hN⟩ : ∃ N, N = m.length + 1 := ⟨_, rfl⟩
  rw [← hN] at hvo hc1 ⊢
  have HN := Lib.hid hN
  have Hvo := Lib.hid hvo
  have Hb1 := Lib.hid hb1
  clear hN hvo hb1 hv
  go_wp2_with fail
  refine (gyColour_any m.length N w.heap.size c1 a1 vs (S2 m) col w1 HN.out hn1 hn Hcr.out Hb1.out.size Hvo.out).mono ?_
  rintro e w2 ⟨rfl, ho, hb2⟩
  have Hb2 := Lib.hid (Hb1.out.trans hb2)
  have hmat : MatAt w2 a1 (htT m.length (togL (S2 m) (colL col (allCells m.length m.length)))) := ho.at (by rw [htT_len, HN.out])
  have Hmat := Lib.hid hmat
  have Hcr2 := Lib.hid (Hcr.out.togL (colL col (allCells m.length m.length)) (fun p hp => allCells_inn p (colL_mem hp)))
  have hcall := heFrom_any a1 c1 m.length (togL (S2 m) (colL col (allCells m.length m.length))) w2 Hcr2.out hn1 hn Hmat.out
  rw [← HN.out] at hcall
  have Hcall := Lib.hid hcall
  clear ho hb2 hmat hcall
  go_wp2_with fail
  refine Hcall.out.mono ?_
  rintro e w3 ⟨v, rfl, hv, hb3⟩
  have Hv := Lib.hid (hv.base Hb2.out.size)
  have Hb3 := Lib.hid (Hb2.out.trans (hb3.mono Hb2.out.size))
  clear hv hb3
  go_wp2
  go_ret
  exact ⟨_, rfl, Hv.out, Hb3.out⟩
end Go.Proofs.Ytmkldodkpijfjaa

namespace Go.Proofs.Ytmkldodkpijfjaa
open Go.RowKit

/-- the cells of flips, one after the other -/
def colsL (n : Nat) (cols : List Int) : List (Nat × Nat) := cols.flatMap fun col => colL col (allCells n n)
theorem colsL_inn {n : Nat} {cols : List Int} : ∀ p ∈ colsL n cols, inn n p := fun p hp => by
  obtain ⟨c, _, h⟩ := List.mem_flatMap.1 hp
  exact allCells_inn p (colL_mem h)
theorem colsL_cons (n : Nat) (a : Int) (cols : List Int) : colsL n (a :: cols) = colL a (allCells n n) ++ colsL n cols := rfl
theorem colsL_append (n : Nat) (a b : List Int) : colsL n (a ++ b) = colsL n a ++ colsL n b := List.flatMap_append
/-- the matrix behind flips -/
def gyC (m : List (List Int)) (cols : List Int) : List (List Int) := gyM m (colsL m.length cols)
theorem gyC_len (m : List (List Int)) (cols : List Int) : (gyC m cols).length = m.length := gyM_len _ _
theorem gyC_good {m : List (List Int)} (h : good m) (cols : List Int) : good (gyC m cols) := gyM_good h colsL_inn
theorem gyC_append {m : List (List Int)} (h : good m) (a b : List Int) : gyC (gyC m a) b = gyC m (a ++ b) := by
  unfold gyC
  rw [gyM_len, gyM_append h colsL_inn colsL_inn, colsL_append]
theorem gyC_one (m : List (List Int)) (a : Int) : gyM m (colL a (allCells m.length m.length)) = gyC m [a] := by unfold gyC colsL; simp
theorem gyC_small {m : List (List Int)} (h : good m) (cols : List Int) : Small (gyC m cols) := gyM_small h _

theorem gyFlip_gyC (ao : Option Addr) (cp : Nat) (m : List (List Int)) (cols : List Int) (col : Int) (k : Nat) (hk : k = m.length) (w : World) (hg : good m) (hm : MatAt w ao (gyC m cols)) :
    Calls Try.prog 59 #[.slice ao k cp, .int .i64 col] w fun e w' => ∃ v, e = .returned v ∧ OwnM w' w.heap.size v (gyC m (cols ++ [col])) ∧ Below w.heap.size w w' := by
  have h := gyFlip_any ao cp (gyC m cols) col w (gyC_good hg cols) hm
  rw [gyC_one, gyC_append hg, gyC_len, ← hk] at h
  exact h

def fcOk (m : List (List Int)) (col : Int) : Prop := good m ∧ (0 ≤ col ∧ col ≤ 1)

set_option maxRecDepth 100000 in
set_option maxHeartbeats 800000 in
theorem gyNext_any (ao : Option Addr) (cp : Nat) (m : List (List Int)) (w : World) (hg : good m) (hm : MatAt w ao m) :
    Calls Try.prog 46 #[.slice ao m.length cp] w fun e w' => ∃ v, e = .returned v ∧ OwnM w' w.heap.size v (gyC m [0, 1]) ∧ Below w.heap.size w w' := by
  have hcall := gyFlip_any ao cp m 0 w hg hm
  rw [gyC_one] at hcall
  have Hcall := Lib.hid hcall
  have Hg := Lib.hid hg
  clear hcall hg hm
  go_enter Try.func46, Try.ntmps46
  go_wp2_with fail
  refine Hcall.out.mono ?_
  rintro e w1 ⟨v, rfl, hv, hb1⟩
  obtain ⟨a1, c1, rfl, _, _, hm1⟩ := hv.read
  have hcall2 := gyFlip_gyC a1 c1 m [0] 1 (gyC m [0]).length (gyC_len _ _) w1 Hg.out hm1
  have Hcall2 := Lib.hid hcall2
  have Hb1 := Lib.hid hb1
  clear hcall2 hv hb1 hm1 Hcall
  go_wp2_with fail
  refine Hcall2.out.mono ?_
  rintro e w2 ⟨v, rfl, hv, hb2⟩
  have Hv := Lib.hid (hv.base Hb1.out.size)
  have Hb2 := Lib.hid (Hb1.out.trans (hb2.mono Hb1.out.size))
  clear hv hb2
  go_wp2
  go_ret
  exact ⟨v, rfl, Hv.out, Hb2.out⟩

end Go.Proofs.Ytmkldodkpijfjaa

