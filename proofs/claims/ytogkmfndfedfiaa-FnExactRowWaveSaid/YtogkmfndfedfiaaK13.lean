/- Parts of proofs: contracts and plain facts. Conditions: as each says. -/
import Derived.Test.YtogkmfndfedfiaaK12
namespace Go.Proofs.Ytogkmfndfedfiaa
open Go.RowKit

/-- an inner cell of a table of heights -/
def inn (n : Nat) (p : Nat × Nat) : Prop := 1 ≤ p.1 ∧ p.1 < n ∧ 1 ≤ p.2 ∧ p.2 < n
instance (n : Nat) (p : Nat × Nat) : Decidable (inn n p) := by unfold inn; infer_instance
def okB (n x y : Int) : Bool := decide (0 < x ∧ x < n ∧ 0 < y ∧ y < n)
theorem okB_true {n x y : Int} : okB n x y = true ↔ 0 < x ∧ x < n ∧ 0 < y ∧ y < n := by unfold okB; exact decide_eq_true_iff
theorem okB_yes {n x y : Int} (h : 0 < x ∧ x < n ∧ 0 < y ∧ y < n) : okB n x y = true := okB_true.2 h
theorem okB_no {n x y : Int} (h : ¬ (0 < x ∧ x < n ∧ 0 < y ∧ y < n)) : okB n x y = false := by
  cases e : okB n x y
  · rfl
  · exact absurd (okB_true.1 e) h

/-- equal inside the table -/
def eqC (n : Nat) (a b : Nat → Nat → Int) : Prop := ∀ i j, i ≤ n → j ≤ n → a i j = b i j
theorem eqC.refl (n : Nat) (a : Nat → Nat → Int) : eqC n a a := fun _ _ _ _ => rfl
theorem eqC.symm {n : Nat} {a b : Nat → Nat → Int} (h : eqC n a b) : eqC n b a := fun i j hi hj => (h i j hi hj).symm
theorem eqC.trans {n : Nat} {a b c : Nat → Nat → Int} (h : eqC n a b) (k : eqC n b c) : eqC n a c := fun i j hi hj => (h i j hi hj).trans (k i j hi hj)

/-- behind toggles -/
def togL (c : Nat → Nat → Int) (ps : List (Nat × Nat)) : Nat → Nat → Int := ps.foldl (fun c p => flipC c p.1 p.2) c
theorem togL_nil (c : Nat → Nat → Int) : togL c [] = c := rfl
theorem togL_cons (c : Nat → Nat → Int) (p : Nat × Nat) (ps : List (Nat × Nat)) : togL c (p :: ps) = togL (flipC c p.1 p.2) ps := rfl
theorem togL_append (c : Nat → Nat → Int) (ps qs : List (Nat × Nat)) : togL c (ps ++ qs) = togL (togL c ps) qs := List.foldl_append
theorem togL_snoc (c : Nat → Nat → Int) (ps : List (Nat × Nat)) (p : Nat × Nat) : togL c (ps ++ [p]) = flipC (togL c ps) p.1 p.2 := by rw [togL_append]; rfl
theorem flipC_still {c : Nat → Nat → Int} {i j : Nat} (h : way (hOf c) i j = 0) : flipC c i j = c := by
  funext a b
  unfold flipC setC
  rw [h]
  by_cases e : a = i ∧ b = j
  · rw [if_pos e, e.1, e.2]; omega
  · rw [if_neg e]
theorem Crn.tog {n : Nat} {c : Nat → Nat → Int} (h : Crn n c) {p : Nat × Nat} (hp : inn n p) : Crn n (flipC c p.1 p.2) := by
  obtain ⟨h1, h2, h3, h4⟩ := hp
  by_cases hw : way (hOf c) p.1 p.2 = 0
  · rw [flipC_still hw]; exact h
  · exact h.flip (by omega) h2 (by omega) h4 hw
theorem Crn.togL {n : Nat} : ∀ (ps : List (Nat × Nat)) {c : Nat → Nat → Int}, Crn n c → (∀ p ∈ ps, inn n p) → Crn n (togL c ps)
  | [], c, h, _ => h
  | p :: ps, c, h, hp => Crn.togL ps (h.tog (hp p (List.mem_cons_self ..))) (fun q hq => hp q (List.mem_cons_of_mem _ hq))
theorem way_eqC {n : Nat} {a b : Nat → Nat → Int} (h : eqC n a b) {p : Nat × Nat} (hp : inn n p) : way (hOf a) p.1 p.2 = way (hOf b) p.1 p.2 := by
  obtain ⟨h1, h2, h3, h4⟩ := hp
  have k : ∀ i j, i ≤ n → j ≤ n → hOf a i j = hOf b i j := fun i j hi hj => by unfold hOf; rw [h i j hi hj]
  exact way_congr (k _ _ (by omega) (by omega)) (k _ _ (by omega) (by omega)) (k _ _ (by omega) (by omega)) (k _ _ (by omega) (by omega)) (k _ _ (by omega) (by omega))
theorem flipC_eqC {n : Nat} {a b : Nat → Nat → Int} (h : eqC n a b) {p : Nat × Nat} (hp : inn n p) : eqC n (flipC a p.1 p.2) (flipC b p.1 p.2) := fun i j hi hj => by
  unfold flipC setC
  rw [way_eqC h hp, h p.1 p.2 (by have := hp.2.1; omega) (by have := hp.2.2.2; omega), h i j hi hj]
theorem togL_eqC {n : Nat} : ∀ (ps : List (Nat × Nat)) {a b : Nat → Nat → Int}, eqC n a b → (∀ p ∈ ps, inn n p) → eqC n (togL a ps) (togL b ps)
  | [], a, b, h, _ => h
  | p :: ps, a, b, h, hp => togL_eqC ps (flipC_eqC h (hp p (List.mem_cons_self ..))) (fun q hq => hp q (List.mem_cons_of_mem _ hq))

/-- the matrix behind toggles -/
def gyM (m : List (List Int)) (ps : List (Nat × Nat)) : List (List Int) := unC m.length (togL (S2 m) ps)
theorem gyM_len (m : List (List Int)) (ps : List (Nat × Nat)) : (gyM m ps).length = m.length := unC_len _ _
theorem gyM_nil {m : List (List Int)} (h : good m) : gyM m [] = m := unC_S2 h.1
theorem gyM_good {m : List (List Int)} (h : good m) {ps : List (Nat × Nat)} (hp : ∀ p ∈ ps, inn m.length p) : good (gyM m ps) := crn_good ((good_crn h).togL ps hp) h.1.1 h.1.2.1
theorem gyM_small {m : List (List Int)} (h : good m) (ps : List (Nat × Nat)) : Small (gyM m ps) := unC_small _ h.1.2.1
theorem S2_gyM {m : List (List Int)} (h : good m) {ps : List (Nat × Nat)} (hp : ∀ p ∈ ps, inn m.length p) : eqC m.length (S2 (gyM m ps)) (togL (S2 m) ps) :=
  S2_unC ((good_crn h).togL ps hp).top ((good_crn h).togL ps hp).left
theorem gyM_append {m : List (List Int)} (h : good m) {ps qs : List (Nat × Nat)} (hp : ∀ p ∈ ps, inn m.length p) (hq : ∀ p ∈ qs, inn m.length p) : gyM (gyM m ps) qs = gyM m (ps ++ qs) := by
  show unC (gyM m ps).length (togL (S2 (gyM m ps)) qs) = unC m.length (togL (S2 m) (ps ++ qs))
  rw [gyM_len, togL_append]
  exact unC_congr (togL_eqC qs (S2_gyM h hp) hq)

/-- the cells of a colour among some -/
def colL (col : Int) (ps : List (Nat × Nat)) : List (Nat × Nat) := ps.filter fun p => decide (((p.1 : Int) + (p.2 : Int)) % 2 = col)
theorem colL_snoc (col : Int) (ps : List (Nat × Nat)) (p : Nat × Nat) : colL col (ps ++ [p]) = if ((p.1 : Int) + (p.2 : Int)) % 2 = col then colL col ps ++ [p] else colL col ps := by
  unfold colL
  rw [List.filter_append]
  by_cases h : ((p.1 : Int) + (p.2 : Int)) % 2 = col <;> simp [h]
theorem colL_mem {col : Int} {ps : List (Nat × Nat)} {p : Nat × Nat} (h : p ∈ colL col ps) : p ∈ ps := (List.mem_filter.1 h).1
theorem colL_len (col : Int) (ps : List (Nat × Nat)) : (colL col ps).length ≤ ps.length := List.length_filter_le _ _
theorem colL_inn {n s t : Nat} (hs : s ≤ n) (ht : t ≤ n) (hs1 : 1 ≤ s) {col : Int} : ∀ p ∈ colL col (allCells n s ++ rowCells s t), p.1 < n + 1 ∧ 1 ≤ p.1 ∧ 1 ≤ p.2 ∧ p.2 < n := fun p hp => by
  rcases List.mem_append.1 (colL_mem hp) with h | h
  · have := mem_allCells h; omega
  · have := mem_rowCells h; omega
theorem allCells_inn {n : Nat} : ∀ p ∈ allCells n n, inn n p := fun p hp => by
  have := mem_allCells hp
  unfold inn
  omega
theorem cells_inn {n s t : Nat} (hs : s ≤ n) (ht : t ≤ n) (hs1 : 1 ≤ s) (hsn : s < n) : ∀ p ∈ allCells n s ++ rowCells s t, inn n p := fun p hp => by
  unfold inn
  rcases List.mem_append.1 hp with h | h
  · have := mem_allCells h; omega
  · have := mem_rowCells h; omega
theorem cells_inn' {n s : Nat} (hs : s ≤ n) : ∀ p ∈ allCells n s, inn n p := fun p hp => by
  unfold inn
  have := mem_allCells hp
  omega
/-- a toggle in the program's terrain -/
theorem pad_tog {n : Nat} (c : Nat → Nat → Int) {p : Nat × Nat} (hp : inn n p) (a b : Nat) :
    upd (pad n (hOf c)) p.1 p.2 (pad n (hOf c) p.1 p.2 + 2 * way (pad n (hOf c)) p.1 p.2) a b = pad n (hOf (flipC c p.1 p.2)) a b := pad_flip c hp.1 hp.2.1 hp.2.2.1 hp.2.2.2 a b
theorem pad_eqC {n : Nat} {a b : Nat → Nat → Int} (h : eqC n a b) : pad n (hOf a) = pad n (hOf b) := by
  funext i j
  unfold pad
  split
  · next e => unfold hOf; rw [h i j e.1 e.2]
  · rfl
theorem way_pad {n : Nat} (c : Nat → Nat → Int) {p : Nat × Nat} (hp : inn n p) : way (pad n (hOf c)) p.1 p.2 = way (hOf c) p.1 p.2 := by
  obtain ⟨h1, h2, h3, h4⟩ := hp
  have key : ∀ i j, i ≤ n → j ≤ n → pad n (hOf c) i j = hOf c i j := fun i j hi hj => by
    unfold pad
    rw [if_pos ⟨hi, hj⟩]
  exact way_congr (key _ _ (by omega) (by omega)) (key _ _ (by omega) (by omega)) (key _ _ (by omega) (by omega)) (key _ _ (by omega) (by omega)) (key _ _ (by omega) (by omega))
theorem way_htT {n : Nat} (c : Nat → Nat → Int) {p : Nat × Nat} (hp : inn n p) : way (fun a b => gi (gr (htT n c) a) b) p.1 p.2 = way (hOf c) p.1 p.2 := by
  obtain ⟨h1, h2, h3, h4⟩ := hp
  have key : ∀ i j, i ≤ n → j ≤ n → gi (gr (htT n c) i) j = hOf c i j := fun i j hi hj => gi_htT hi hj
  exact way_congr (key _ _ (by omega) (by omega)) (key _ _ (by omega) (by omega)) (key _ _ (by omega) (by omega)) (key _ _ (by omega) (by omega)) (key _ _ (by omega) (by omega))

/-- a number of a table is put in -/
def setM (m : List (List Int)) (i j : Nat) (x : Int) : List (List Int) := m.set i ((gr m i).set j x)
theorem setM_len (m : List (List Int)) (i j : Nat) (x : Int) : (setM m i j x).length = m.length := by simp [setM]
theorem gr_setM {m : List (List Int)} {i j : Nat} {x : Int} (hi : i < m.length) (a : Nat) : gr (setM m i j x) a = if a = i then (gr m i).set j x else gr m a := by
  simp only [gr, setM, List.getD, List.getElem?_set]
  by_cases e : i = a
  · subst e; simp [hi]
  · rw [if_neg e, if_neg (fun h => e h.symm)]
/-- .. of a table of heights: a flip -/
theorem setM_htT {n : Nat} (c : Nat → Nat → Int) {p : Nat × Nat} (hp : inn n p) : setM (htT n c) p.1 p.2 (hOf c p.1 p.2 + 2 * way (hOf c) p.1 p.2) = htT n (flipC c p.1 p.2) := by
  obtain ⟨h1, h2, h3, h4⟩ := hp
  refine ext_gr (by rw [setM_len, htT_len, htT_len]) fun a ha => ?_
  rw [setM_len, htT_len] at ha
  rw [gr_setM (by rw [htT_len]; omega)]
  have hrow : ∀ (d : Nat → Nat → Int) a, a < n + 1 → (gr (htT n d) a).length = n + 1 := fun d a ha => tab_row ha
  by_cases e : a = p.1
  · subst e
    rw [if_pos rfl]
    refine ext_gi (by rw [List.length_set, hrow _ _ ha, hrow _ _ ha]) fun b hb => ?_
    rw [List.length_set, hrow _ _ ha] at hb
    rw [gi_set (by rw [hrow _ _ ha]; omega), gi_htT (by omega) (by omega), gi_htT (by omega) (by omega)]
    unfold flipC
    rw [hOf_setC]
    by_cases e2 : b = p.2
    · subst e2
      rw [if_pos rfl, if_pos ⟨rfl, rfl⟩]
      unfold hOf
      omega
    · rw [if_neg e2, if_neg (fun h => e2 h.2)]
  · rw [if_neg e]
    refine ext_gi (by rw [hrow _ _ ha, hrow _ _ ha]) fun b hb => ?_
    rw [hrow _ _ ha] at hb
    rw [gi_htT (by omega) (by omega), gi_htT (by omega) (by omega)]
    unfold flipC
    rw [hOf_setC, if_neg (fun h => e h.1)]
end Go.Proofs.Ytogkmfndfedfiaa

