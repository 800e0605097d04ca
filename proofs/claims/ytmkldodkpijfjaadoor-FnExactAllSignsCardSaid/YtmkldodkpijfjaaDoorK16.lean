/- Parts of proofs: contracts and plain facts. Conditions: as each says. -/
import Derived.Test.YtmkldodkpijfjaaDoorK15
import Derived.Laws.AppendOwnNone
import Derived.Maps.AppendAt
namespace Go.Proofs.YtmkldodkpijfjaaDoor
open Go.RowKit

theorem Tryd.info_intssW : (Tryd.prog.info? 28).map (fun i => (i.zero, i.size, i.bytes)) = some (some (.slice none 0 0), 1, 24) := by kernel_rfl
/-- the table at an index -/
def gt (ts : List (List (List Int))) (i : Nat) : List (List Int) := ts.getD i []
theorem gt_lt {ts : List (List (List Int))} {i : Nat} (h : i < ts.length) : gt ts i = ts[i] := by simp [gt, List.getD, h]
theorem gt_mem {ts : List (List (List Int))} {i : Nat} (h : i < ts.length) : gt ts i ∈ ts := by rw [gt_lt h]; exact List.getElem_mem _
theorem gt_app_left {a b : List (List (List Int))} {i : Nat} (h : i < a.length) : gt (a ++ b) i = gt a i := by
  rw [gt_lt (by simp; omega), gt_lt h, List.getElem_append_left h]
theorem gt_app_right {a b : List (List (List Int))} {i : Nat} (h : i < b.length) : gt (a ++ b) (a.length + i) = gt b i := by
  rw [gt_lt (by simp; omega), gt_lt h, List.getElem_append_right (by omega)]
  simp
theorem gr_app_left {a b : List (List Int)} {i : Nat} (h : i < a.length) : gr (a ++ b) i = gr a i := by
  rw [gr_lt (by simp; omega), gr_lt h, List.getElem_append_left h]
theorem gr_app_right {a b : List (List Int)} {i : Nat} (h : i < b.length) : gr (a ++ b) (a.length + i) = gr b i := by
  rw [gr_lt (by simp; omega), gr_lt h, List.getElem_append_right (by omega)]
  simp
theorem getD_left {a b : List Value} {i : Nat} (h : i < a.length) : (a ++ b).getD i undef = a.getD i undef := by
  simp only [List.getD]; rw [List.getElem?_append_left h]
theorem getD_right {a b : List Value} {i : Nat} (h : a.length ≤ i) : (a ++ b).getD i undef = b.getD (i - a.length) undef := by
  simp only [List.getD]; rw [List.getElem?_append_right h]

theorem row_apart {w : World} {B B' n n' : Nat} {e e' : TypeId} {x v : Value} {xs ys : List Value} (h : w.ownsRow B e 1 x n xs) (k : w.ownsRow B' e' 1 v n' ys) (hne : e ≠ e') : ∀ g, x.ownBlock = some g → v.ownBlock ≠ some g := by
  intro g hg hv
  rcases h.2 with ⟨rfl, _⟩ | ⟨g1, cap1, cur1, rfl, _, h1, _⟩
  · simp [Value.ownBlock] at hg
  rcases k.2 with ⟨rfl, _⟩ | ⟨g2, cap2, cur2, rfl, _, h2, _⟩
  · simp [Value.ownBlock] at hv
  simp only [Value.ownBlock, Option.some.injEq] at hg hv
  subst hg hv
  rw [h1] at h2
  simp only [Option.some.injEq, Obj.cells.injEq] at h2
  exact hne h2.2.1
/-- what a slice of other elements than the one that grows owns is kept -/
theorem row_kept {w w1 : World} {B B' n n' : Nat} {e e' : TypeId} {x v : Value} {xs ys : List Value} (h : w.ownsRow B e 1 x n xs) (k : w.ownsRow B' e' 1 v n' ys) (hne : e ≠ e') (hg : w.grownBy w1 v.ownBlock) : w1.ownsRow B e 1 x n xs := by
  refine World.ownsRow.kept h hg ?_
  cases hb : x.ownBlock with
  | none => exact .inl rfl
  | some g => exact .inr (fun e' => row_apart h k hne g hb e'.symm)

/-- a slice of rows, each owned -/
structure OwnR (w : World) (B : Nat) (v : Value) (m : List (List Int)) (vs : List Value) : Prop where
  top : w.ownsRow B 22 1 v m.length vs
  rows : ∀ i, i < m.length → OwnI w B (vs.getD i undef) (gr m i)
theorem OwnR.below {w w' : World} {B : Nat} {v : Value} {m : List (List Int)} {vs : List Value} (h : OwnR w B v m vs) (hb : Below w.heap.size w w') : OwnR w' B v m vs := ⟨ownsRow_below h.top hb, fun i hi => (h.rows i hi).below hb⟩
theorem OwnR.base {w : World} {B B' : Nat} {v : Value} {m : List (List Int)} {vs : List Value} (h : OwnR w B v m vs) (hB : B' ≤ B) : OwnR w B' v m vs := ⟨ownsRow_base h.top hB, fun i hi => (h.rows i hi).base hB⟩
theorem OwnR.nil (w : World) (B : Nat) : OwnR w B (.slice none 0 0) [] [] := ⟨World.ownsRow_nil _ _ _ _, fun i hi => absurd hi (by simp)⟩
theorem OwnR.len {w : World} {B : Nat} {v : Value} {m : List (List Int)} {vs : List Value} (h : OwnR w B v m vs) : vs.length = m.length := by simpa using h.top.1
theorem OwnR.read {w : World} {B : Nat} {v : Value} {m : List (List Int)} {vs : List Value} (h : OwnR w B v m vs) : ∃ ao c, v = .slice ao m.length c ∧ m.length ≤ c ∧ c ≤ 9223372036854775807 ∧ MatAt w ao m := by
  obtain ⟨ao, c, hv, h1, h2, hc⟩ := ownsRow_read h.top
  refine ⟨ao, c, hv, h1, h2, fun i hi => ?_⟩
  obtain ⟨b, o, e, hcell⟩ := hc i hi
  obtain ⟨r, c', hr, h3, h4, hx⟩ := (h.rows i hi).read
  exact ⟨b, o, r, c', e, by rw [hcell, hr], hx, h3, h4⟩
theorem OwnP.toR {w : World} {B : Nat} {v : Value} {m : List (List Int)} {vs : List Value} (h : OwnP w B v m.length m m.length vs) : OwnR w B v m vs := ⟨h.top, h.rows⟩
theorem OwnR.kept {w w1 : World} {B B' n' : Nat} {x v : Value} {m : List (List Int)} {vs ys : List Value} {e' : TypeId} (h : OwnR w B x m vs) (k : w.ownsRow B' e' 1 v n' ys) (h1 : 22 ≠ e') (h2 : 3 ≠ e') (hg : w.grownBy w1 v.ownBlock) : OwnR w1 B x m vs :=
  ⟨row_kept h.top k h1 hg, fun i hi => row_kept (h.rows i hi) k h2 hg⟩
/-- rows put behind -/
theorem OwnR.join {w w1 : World} {B : Nat} {v v' : Value} {m k : List (List Int)} {vs us : List Value} (h : OwnR w B v m vs) (hl : us.length = k.length) (hk : ∀ i, i < k.length → OwnI w B (us.getD i undef) (gr k i))
    (h1 : w1.ownsRow B 22 1 v' (m.length + k.length) (vs ++ us)) (hg : w.grownBy w1 v.ownBlock) : OwnR w1 B v' (m ++ k) (vs ++ us) := by
  refine ⟨by rw [List.length_append]; exact h1, fun i hi => ?_⟩
  rw [List.length_append] at hi
  have hvl := h.len
  by_cases hi2 : i < m.length
  · rw [getD_left (by omega), gr_app_left hi2]
    exact row_kept (h.rows i hi2) h.top (by decide) hg
  · obtain ⟨j, rfl⟩ : ∃ j, i = m.length + j := ⟨i - m.length, by omega⟩
    rw [getD_right (by omega), hvl, show m.length + j - m.length = j from by omega, gr_app_right (by omega)]
    exact row_kept (hk j (by omega)) h.top (by decide) hg
theorem OwnR.cells {w : World} {B n c : Nat} {ad : Addr} {m : List (List Int)} {vs : List Value} (h : OwnR w B (.slice (some ad) n c) m vs) : (∀ j u, vs[j]? = some u → w.cell? (ad.add j) = some u) ∧ (∀ u ∈ vs, u.oneCell' = true) := by
  have hl := h.len
  obtain ⟨ao, c', e, _, _, hc⟩ := ownsRow_read h.top
  cases e
  refine ⟨fun j u hj => ?_, fun u hu => ?_⟩
  · have hjl : j < vs.length := (List.getElem?_eq_some_iff.1 hj).1
    obtain ⟨b3, o3, e3, hc3⟩ := hc j (by omega)
    cases e3
    rw [Addr.add_lit, hc3, List.getD, hj]
    rfl
  · obtain ⟨i, hi, rfl⟩ := List.mem_iff_getElem.1 hu
    have := (h.rows i (by omega)).read
    rw [List.getD, List.getElem?_eq_getElem hi] at this
    obtain ⟨_, _, e, _⟩ := this
    rw [show vs[i] = (some vs[i]).getD undef from rfl, e]
    rfl

/-- a list of such tables -/
structure OwnRL (w : World) (B : Nat) (v : Value) (ts : List (List (List Int))) (vs : List Value) : Prop where
  top : w.ownsRow B 28 1 v ts.length vs
  each : ∀ i, i < ts.length → ∃ us, OwnR w B (vs.getD i undef) (gt ts i) us
theorem OwnRL.below {w w' : World} {B : Nat} {v : Value} {ts : List (List (List Int))} {vs : List Value} (h : OwnRL w B v ts vs) (hb : Below w.heap.size w w') : OwnRL w' B v ts vs := ⟨ownsRow_below h.top hb, fun i hi => ⟨_, (h.each i hi).choose_spec.below hb⟩⟩
theorem OwnRL.base {w : World} {B B' : Nat} {v : Value} {ts : List (List (List Int))} {vs : List Value} (h : OwnRL w B v ts vs) (hB : B' ≤ B) : OwnRL w B' v ts vs := ⟨ownsRow_base h.top hB, fun i hi => ⟨_, (h.each i hi).choose_spec.base hB⟩⟩
theorem OwnRL.nil (w : World) (B : Nat) : OwnRL w B (.slice none 0 0) [] [] := ⟨World.ownsRow_nil _ _ _ _, fun i hi => absurd hi (by simp)⟩
theorem OwnRL.len {w : World} {B : Nat} {v : Value} {ts : List (List (List Int))} {vs : List Value} (h : OwnRL w B v ts vs) : vs.length = ts.length := by simpa using h.top.1
theorem OwnRL.head {w : World} {B : Nat} {v : Value} {ts : List (List (List Int))} {vs : List Value} (h : OwnRL w B v ts vs) : ∃ ao c, v = .slice ao ts.length c ∧ ts.length ≤ c ∧ c ≤ 9223372036854775807 := by
  obtain ⟨ao, c, e, h1, h2, _⟩ := ownsRow_read h.top
  exact ⟨ao, c, e, h1, h2⟩
/-- tables put behind -/
theorem OwnRL.join {w w1 : World} {B : Nat} {v v' : Value} {ts ks : List (List (List Int))} {vs us : List Value} (h : OwnRL w B v ts vs) (hl : us.length = ks.length) (hk : ∀ i, i < ks.length → ∃ xs, OwnR w B (us.getD i undef) (gt ks i) xs)
    (h1 : w1.ownsRow B 28 1 v' (ts.length + ks.length) (vs ++ us)) (hg : w.grownBy w1 v.ownBlock) : OwnRL w1 B v' (ts ++ ks) (vs ++ us) := by
  refine ⟨by rw [List.length_append]; exact h1, fun i hi => ?_⟩
  rw [List.length_append] at hi
  have hvl := h.len
  by_cases hi2 : i < ts.length
  · rw [getD_left (by omega), gt_app_left hi2]
    obtain ⟨xs, hx⟩ := h.each i hi2
    exact ⟨xs, hx.kept h.top (by decide) (by decide) hg⟩
  · obtain ⟨j, rfl⟩ : ∃ j, i = ts.length + j := ⟨i - ts.length, by omega⟩
    rw [getD_right (by omega), hvl, show ts.length + j - ts.length = j from by omega, gt_app_right (by omega)]
    obtain ⟨xs, hx⟩ := hk j (by omega)
    exact ⟨xs, hx.kept h.top (by decide) (by decide) hg⟩
theorem OwnRL.cells {w : World} {B n c : Nat} {ad : Addr} {ts : List (List (List Int))} {vs : List Value} (h : OwnRL w B (.slice (some ad) n c) ts vs) : (∀ j u, vs[j]? = some u → w.cell? (ad.add j) = some u) ∧ (∀ u ∈ vs, u.oneCell' = true) := by
  have hl := h.len
  obtain ⟨ao, c', e, _, _, hc⟩ := ownsRow_read h.top
  cases e
  refine ⟨fun j u hj => ?_, fun u hu => ?_⟩
  · have hjl : j < vs.length := (List.getElem?_eq_some_iff.1 hj).1
    obtain ⟨b3, o3, e3, hc3⟩ := hc j (by omega)
    cases e3
    rw [Addr.add_lit, hc3, List.getD, hj]
    rfl
  · obtain ⟨i, hi, rfl⟩ := List.mem_iff_getElem.1 hu
    obtain ⟨_, hx⟩ := h.each i (by omega)
    have := hx.read
    rw [List.getD, List.getElem?_eq_getElem hi] at this
    obtain ⟨_, _, e, _⟩ := this
    rw [show vs[i] = (some vs[i]).getD undef from rfl, e]
    rfl
/-- reading one of the tables -/
theorem OwnRL.at {w : World} {B n c : Nat} {ao : Option Addr} {ts : List (List (List Int))} {vs : List Value} (h : OwnRL w B (.slice ao n c) ts vs) {i : Nat} (hi : i < ts.length) :
    ∃ b o r d, ao = some ⟨b, o, none⟩ ∧ w.cell? ⟨b, o + i, none⟩ = some (.slice r (gt ts i).length d) ∧ MatAt w r (gt ts i) ∧ (gt ts i).length ≤ d ∧ d ≤ 9223372036854775807 := by
  obtain ⟨ao', c', e, _, _, hc⟩ := ownsRow_read h.top
  cases e
  obtain ⟨b, o, e, hcell⟩ := hc i hi
  obtain ⟨us, hx⟩ := h.each i hi
  obtain ⟨r, d, hr, h3, h4, hm⟩ := hx.read
  exact ⟨b, o, r, d, e, by rw [hcell, hr], hm, h3, h4⟩
end Go.Proofs.YtmkldodkpijfjaaDoor

namespace Go.Proofs.YtmkldodkpijfjaaDoor
open Go.RowKit

def okX (sums row : List Int) (sum x : Int) : Prop := (0 ≤ sum + x ∧ sum + x ≤ 1) ∧ 0 ≤ gi sums row.length + x ∧ gi sums row.length + x ≤ 1
instance (sums row : List Int) (sum x : Int) : Decidable (okX sums row sum x) := by unfold okX; infer_instance
/-- the rows that go on a row: d numbers more -/
def rowsW (sums : List Int) : Nat → List Int → Int → List (List Int)
  | 0, row, sum => if sum = 1 then [row] else []
  | d + 1, row, sum => (List.range 3).flatMap fun k : Nat => if okX sums row sum ((k : Int) - 1) then rowsW sums d (row ++ [(k : Int) - 1]) (sum + ((k : Int) - 1)) else []
/-- .. up to the k-th number -/
def rowsP (sums : List Int) (d : Nat) (row : List Int) (sum : Int) (k : Nat) : List (List Int) :=
  (List.range k).flatMap fun k : Nat => if okX sums row sum ((k : Int) - 1) then rowsW sums d (row ++ [(k : Int) - 1]) (sum + ((k : Int) - 1)) else []
theorem rowsP_zero (sums : List Int) (d : Nat) (row : List Int) (sum : Int) : rowsP sums d row sum 0 = [] := rfl
theorem rowsP_yes {sums : List Int} {d : Nat} {row : List Int} {sum : Int} {k : Nat} (h : okX sums row sum ((k : Int) - 1)) : rowsP sums d row sum (k + 1) = rowsP sums d row sum k ++ rowsW sums d (row ++ [(k : Int) - 1]) (sum + ((k : Int) - 1)) := by
  unfold rowsP
  rw [List.range_succ, List.flatMap_append]
  simp [h]
theorem rowsP_no {sums : List Int} {d : Nat} {row : List Int} {sum : Int} {k : Nat} (h : ¬okX sums row sum ((k : Int) - 1)) : rowsP sums d row sum (k + 1) = rowsP sums d row sum k := by
  unfold rowsP
  rw [List.range_succ, List.flatMap_append]
  simp [h]
theorem rowsP_end (sums : List Int) (d : Nat) (row : List Int) (sum : Int) : rowsP sums d row sum 3 = rowsW sums (d + 1) row sum := rfl
theorem flatL_len {α β : Type} (g : α → List β) (B : Nat) : ∀ l : List α, (∀ x, x ∈ l → (g x).length ≤ B) → (l.flatMap g).length ≤ l.length * B
  | [], _ => by simp
  | a :: l, h => by
    have h1 := flatL_len g B l (fun x hx => h x (by simp [hx]))
    have h2 := h a (by simp)
    rw [List.flatMap_cons, List.length_append, List.length_cons, Nat.add_mul]
    omega
theorem rowsW_le (sums : List Int) : ∀ (d : Nat) (row : List Int) (sum : Int), (rowsW sums d row sum).length ≤ 3 ^ d
  | 0, row, sum => by unfold rowsW; split <;> simp
  | d + 1, row, sum => by
    rw [Nat.pow_succ, Nat.mul_comm]
    refine Nat.le_trans (flatL_len _ (3 ^ d) _ fun k _ => ?_) (by simp)
    split
    · exact rowsW_le sums d _ _
    · simp
theorem rowsP_le (sums : List Int) (d : Nat) (row : List Int) (sum : Int) {k : Nat} (hk : k ≤ 3) : (rowsP sums d row sum k).length ≤ 3 ^ (d + 1) := by
  rw [Nat.pow_succ, Nat.mul_comm]
  refine Nat.le_trans (flatL_len _ (3 ^ d) _ fun k _ => ?_) (by rw [List.length_range]; exact Nat.mul_le_mul_right _ hk)
  split
  · exact rowsW_le sums d _ _
  · simp
theorem rowsW_mem (sums : List Int) : ∀ (d : Nat) (row : List Int) (sum : Int) (r : List Int), r ∈ rowsW sums d row sum →
    r.length = row.length + d ∧ (∀ j, j < row.length → gi r j = gi row j) ∧ ∀ j, row.length ≤ j → j < row.length + d → -1 ≤ gi r j ∧ gi r j ≤ 1 ∧ 0 ≤ gi sums j + gi r j ∧ gi sums j + gi r j ≤ 1
  | 0, row, sum, r, h => by
    unfold rowsW at h
    split at h
    · simp only [List.mem_singleton] at h
      subst h
      exact ⟨rfl, fun _ _ => rfl, fun j h1 h2 => absurd h1 (by omega)⟩
    · simp at h
  | d + 1, row, sum, r, h => by
    unfold rowsW at h
    rw [List.mem_flatMap] at h
    obtain ⟨k, hk, h⟩ := h
    have hk3 : k < 3 := by simpa using hk
    split at h
    · next hok =>
      obtain ⟨h1, h2, h3⟩ := rowsW_mem sums d _ _ r h
      rw [List.length_append] at h1 h2 h3
      simp only [List.length_cons, List.length_nil] at h1 h2 h3
      have hlast : gi r row.length = (k : Int) - 1 := by
        rw [h2 row.length (by omega)]
        simp [gi, List.getD]
      refine ⟨by omega, fun j hj => ?_, fun j hj1 hj2 => ?_⟩
      · rw [h2 j (by omega)]
        simp [gi, List.getD, List.getElem?_append_left hj]
      · by_cases e : j = row.length
        · subst e
          rw [hlast]
          have := hok.2
          exact ⟨by omega, by omega, this.1, this.2⟩
        · exact h3 j (by omega) (by omega)
    · simp at h

def addL (sums row : List Int) : List Int := (List.range sums.length).map fun j => gi sums j + gi row j
theorem addL_len (sums row : List Int) : (addL sums row).length = sums.length := by simp [addL]
theorem gi_addL {sums row : List Int} {j : Nat} (h : j < sums.length) : gi (addL sums row) j = gi sums j + gi row j := gi_row h
/-- the first t sums added to -/
def addP (sums row : List Int) (t : Nat) : List Int := (List.range sums.length).map fun j => gi sums j + (if j < t then gi row j else 0)
theorem addP_len (sums row : List Int) (t : Nat) : (addP sums row t).length = sums.length := by simp [addP]
theorem gi_addP {sums row : List Int} {t j : Nat} (h : j < sums.length) : gi (addP sums row t) j = gi sums j + (if j < t then gi row j else 0) := gi_row h
theorem addP_zero (sums row : List Int) : addP sums row 0 = sums := ext_gi (addP_len _ _ _) fun j hj => by
  rw [addP_len] at hj
  rw [gi_addP hj, if_neg (by omega)]
  omega
theorem addP_end (sums row : List Int) : addP sums row sums.length = addL sums row := ext_gi (by rw [addP_len, addL_len]) fun j hj => by
  rw [addP_len] at hj
  rw [gi_addP hj, gi_addL hj, if_pos hj]
theorem addP_set {sums row : List Int} {t : Nat} (ht : t < sums.length) : (addP sums row t).set t (gi sums t + gi row t) = addP sums row (t + 1) := by
  refine ext_gi (by rw [List.length_set, addP_len, addP_len]) fun j hj => ?_
  rw [List.length_set, addP_len] at hj
  rw [gi_set (by rw [addP_len]; exact ht), gi_addP (t := t) hj, gi_addP (t := t + 1) hj]
  by_cases e : j = t
  · subst e; rw [if_pos rfl, if_pos (by omega)]
  · rw [if_neg e]
    have : (j < t + 1) = (j < t) := propext (by omega)
    simp only [this]

/-- sums of columns that are 0 or 1 -/
def bits01 (sums : List Int) : Prop := ∀ j, j < sums.length → 0 ≤ gi sums j ∧ gi sums j ≤ 1
theorem bits01.add {sums : List Int} {r : List Int} (hr : r ∈ rowsW sums sums.length [] 0) : bits01 (addL sums r) := fun j hj => by
  rw [addL_len] at hj
  obtain ⟨_, _, h3⟩ := rowsW_mem sums sums.length [] 0 r hr
  have := h3 j (by simp) (by simpa using hj)
  rw [gi_addL hj]
  exact ⟨this.2.2.1, this.2.2.2⟩
def allOne (sums : List Int) : Bool := sums.all fun x => decide (x = 1)
theorem allOne_iff {sums : List Int} : allOne sums = true ↔ ∀ j, j < sums.length → gi sums j = 1 := by
  unfold allOne
  rw [List.all_eq_true]
  constructor
  · intro h j hj
    exact of_decide_eq_true (h _ (gi_mem hj))
  · intro h x hx
    obtain ⟨i, hi, rfl⟩ := List.mem_iff_getElem.1 hx
    have := h i hi
    rw [gi_lt hi] at this
    exact decide_eq_true this
/-- the matrices that go on some rows: d rows more -/
def goW : Nat → List (List Int) → List Int → List (List (List Int))
  | 0, rows, sums => if allOne sums = true then [rows] else []
  | d + 1, rows, sums => (rowsW sums sums.length [] 0).flatMap fun row => goW d (rows ++ [row]) (addL sums row)
/-- .. up to the k-th row -/
def goP (d : Nat) (rows : List (List Int)) (sums : List Int) (k : Nat) : List (List (List Int)) := ((rowsW sums sums.length [] 0).take k).flatMap fun row => goW d (rows ++ [row]) (addL sums row)
theorem goP_zero (d : Nat) (rows : List (List Int)) (sums : List Int) : goP d rows sums 0 = [] := by simp [goP]
theorem goP_step {d : Nat} {rows : List (List Int)} {sums : List Int} {k : Nat} (h : k < (rowsW sums sums.length [] 0).length) :
    goP d rows sums (k + 1) = goP d rows sums k ++ goW d (rows ++ [gr (rowsW sums sums.length [] 0) k]) (addL sums (gr (rowsW sums sums.length [] 0) k)) := by
  unfold goP
  rw [List.take_add_one, List.flatMap_append, List.getElem?_eq_getElem h, gr_lt h]
  simp
theorem goP_end (d : Nat) (rows : List (List Int)) (sums : List Int) : goP d rows sums (rowsW sums sums.length [] 0).length = goW (d + 1) rows sums := by
  unfold goP
  rw [List.take_length]
  rfl
theorem goW_le : ∀ (d : Nat) (rows : List (List Int)) (sums : List Int), sums.length ≤ 5 → (goW d rows sums).length ≤ 243 ^ d
  | 0, rows, sums, _ => by unfold goW; split <;> simp
  | d + 1, rows, sums, h => by
    unfold goW
    rw [Nat.pow_succ, Nat.mul_comm]
    refine Nat.le_trans (flatL_len _ (243 ^ d) _ fun r _ => goW_le d _ _ (by rw [addL_len]; exact h)) (Nat.mul_le_mul_right _ ?_)
    refine Nat.le_trans (rowsW_le _ _ _ _) (Nat.le_trans (Nat.pow_le_pow_right (by omega) h) (by decide))
theorem goP_le (d : Nat) (rows : List (List Int)) (sums : List Int) (k : Nat) (h : sums.length ≤ 5) : (goP d rows sums k).length ≤ 243 ^ (d + 1) := by
  unfold goP
  rw [Nat.pow_succ, Nat.mul_comm]
  refine Nat.le_trans (flatL_len _ (243 ^ d) _ fun r _ => goW_le d _ _ (by rw [addL_len]; exact h)) (Nat.mul_le_mul_right _ ?_)
  rw [List.length_take]
  refine Nat.le_trans (Nat.min_le_right _ _) (Nat.le_trans (rowsW_le _ _ _ _) (Nat.le_trans (Nat.pow_le_pow_right (by omega) h) (by decide)))
/-- all sign matrices with n rows, in order -/
def allW (n : Nat) : List (List (List Int)) := goW n [] (List.replicate n 0)
instance (xs : List Int) : Decidable (lineOk xs) := by unfold lineOk; infer_instance
instance (m : List (List Int)) : Decidable (rowsOk m) := by unfold rowsOk; infer_instance
instance (m : List (List Int)) : Decidable (square m) := by unfold square; infer_instance
instance (m : List (List Int)) : Decidable (good m) := by unfold good; infer_instance
theorem allW_good : ∀ n, n < 5 → ∀ m, m ∈ allW n → n = 0 ∨ (m.length = n ∧ good m) := by decide +kernel
theorem allW_len : ∀ n, n < 5 → (allW n).length ≤ 42 := by decide +kernel
end Go.Proofs.YtmkldodkpijfjaaDoor

namespace Go.Proofs.YtmkldodkpijfjaaDoor
open Go.RowKit

/-- all triangles whose last row is xs, of d + 1 numbers -/
def trisD : Nat → List Int → List (List (List Int))
  | 0, xs => [[xs]]
  | d + 1, xs => (above xs).flatMap fun ys => (trisD d ys).map fun t => t ++ [xs]
def trisP (d : Nat) (xs : List Int) (k : Nat) : List (List (List Int)) := ((above xs).take k).flatMap fun ys => (trisD d ys).map fun t => t ++ [xs]
def trisQ (d : Nat) (xs : List Int) (k t : Nat) : List (List (List Int)) := trisP d xs k ++ ((trisD d (gr (above xs) k)).take t).map fun t => t ++ [xs]
theorem trisP_zero (d : Nat) (xs : List Int) : trisP d xs 0 = [] := by simp [trisP]
theorem trisQ_zero (d : Nat) (xs : List Int) (k : Nat) : trisQ d xs k 0 = trisP d xs k := by simp [trisQ]
theorem trisQ_step {d : Nat} {xs : List Int} {k t : Nat} (h : t < (trisD d (gr (above xs) k)).length) : trisQ d xs k (t + 1) = trisQ d xs k t ++ [gt (trisD d (gr (above xs) k)) t ++ [xs]] := by
  unfold trisQ
  rw [List.take_add_one, List.map_append, List.getElem?_eq_getElem h, gt_lt h]
  simp
theorem trisQ_end {d : Nat} {xs : List Int} {k : Nat} (h : k < (above xs).length) : trisQ d xs k (trisD d (gr (above xs) k)).length = trisP d xs (k + 1) := by
  unfold trisQ trisP
  rw [List.take_length, List.take_add_one (i := k), List.flatMap_append, List.getElem?_eq_getElem h, gr_lt h]
  simp
theorem trisP_end (d : Nat) (xs : List Int) : trisP d xs (above xs).length = trisD (d + 1) xs := by
  unfold trisP
  rw [List.take_length]
  rfl
def trB : Nat → Nat
  | 0 => 1
  | d + 1 => 16 ^ (d + 1) * trB d
theorem trisD_le : ∀ (d : Nat) (xs : List Int), Rise xs → xs.length = d + 1 → (trisD d xs).length ≤ trB d
  | 0, xs, _, _ => by simp [trisD, trB]
  | d + 1, xs, hr, hl => by
    unfold trisD
    refine Nat.le_trans (flatL_len _ (trB d) _ fun ys hy => ?_) ?_
    · rw [List.length_map]
      obtain ⟨h1, h2⟩ := above_mem hr hy
      exact trisD_le d ys h1 (by omega)
    · rw [trB]
      refine Nat.mul_le_mul_right _ ?_
      have := above_len hr
      rw [hl] at this
      exact this
theorem trisQ_le {d : Nat} {xs : List Int} (hr : Rise xs) (hl : xs.length = d + 2) {k t : Nat} (hk : k < (above xs).length) : (trisQ d xs k t).length ≤ trB (d + 1) := by
  have h1 : (trisQ d xs k t).length ≤ (trisP d xs (k + 1)).length := by
    rw [← trisQ_end hk]
    unfold trisQ
    rw [List.length_append, List.length_append, List.length_map, List.length_map, List.length_take, List.take_length]
    omega
  refine Nat.le_trans h1 ?_
  have h2 : (trisP d xs (k + 1)).length ≤ ((above xs).take (k + 1)).length * trB d := flatL_len _ (trB d) _ fun ys hy => by
    rw [List.length_map]
    obtain ⟨h1, h2⟩ := above_mem hr (List.mem_of_mem_take hy)
    exact trisD_le d ys h1 (by omega)
  refine Nat.le_trans h2 ?_
  rw [trB]
  refine Nat.mul_le_mul_right _ ?_
  have h3 := above_len hr
  rw [hl] at h3
  rw [List.length_take]
  exact Nat.le_trans (Nat.min_le_right _ _) h3
theorem trB_le : ∀ d, d < 5 → trB d ≤ 1099511627776 := by decide +kernel
theorem trisD_len : ∀ (d : Nat) (xs : List Int), Rise xs → xs.length = d + 1 → ∀ t, t ∈ trisD d xs → t.length = d + 1
  | 0, xs, _, _, t, h => by simp [trisD] at h; rw [h]; rfl
  | d + 1, xs, hr, hl, t, h => by
    unfold trisD at h
    rw [List.mem_flatMap] at h
    obtain ⟨ys, hy, h⟩ := h
    rw [List.mem_map] at h
    obtain ⟨t', ht', rfl⟩ := h
    obtain ⟨h1, h2⟩ := above_mem hr hy
    rw [List.length_append, trisD_len d ys h1 (by omega) t' ht']
    rfl

/-- the last row of triangles of sign matrices -/
def fullR (n : Nat) : List Int := (List.range n).map fun j : Nat => (j : Int)
theorem fullR_len (n : Nat) : (fullR n).length = n := by simp [fullR]
theorem fullR_ok : ∀ n, n < 7 → mask (fullR n) = 2 ^ n - 1 := by decide +kernel
theorem fullR_up (n : Nat) : Up (fullR n) := by
  unfold fullR
  rw [up_iff]
  intro k hk _
  rw [List.length_map, List.length_range] at hk
  have h1 : gi ((List.range n).map fun j : Nat => (j : Int)) k = (k : Int) := gi_row hk
  have h2 : gi ((List.range n).map fun j : Nat => (j : Int)) (k - 1) = ((k - 1 : Nat) : Int) := gi_row (by omega)
  rw [h1, h2]
  omega
theorem fullR_rise {n : Nat} (h : n ≤ 16) : Rise (fullR n) := ⟨fullR_up n, fun x hx => by
  simp only [fullR, List.mem_map, List.mem_range] at hx
  obtain ⟨j, hj, rfl⟩ := hx
  omega⟩
instance (t : List (List Int)) : Decidable (colsOk t) := by unfold colsOk; infer_instance
theorem tris_cols : ∀ n, n < 6 → ∀ t, t ∈ trisD (n - 1) (fullR n) → n = 0 ∨ (t.length = n ∧ colsOk t) := by decide +kernel
/-- all sign matrices with n rows, as the program makes them of triangles -/
def allI (n : Nat) : List (List (List Int)) := (trisD (n - 1) (fullR n)).map fun t => (fromTab t).reverse
theorem allI_W : ∀ n, n < 5 → n = 0 ∨ allI n = allW n := by decide +kernel
end Go.Proofs.YtmkldodkpijfjaaDoor

namespace Go.Proofs.YtmkldodkpijfjaaDoor
open Go.RowKit

theorem ownsRow_raise {w : World} {B B' : Nat} {e : TypeId} {v : Value} {n : Nat} {xs : List Value} (h : w.ownsRow B e 1 v n xs) (hb : ∀ g, v.ownBlock = some g → B' ≤ g) : w.ownsRow B' e 1 v n xs := by
  refine ⟨h.1, ?_⟩
  rcases h.2 with h0 | ⟨g, cap, cur, rfl, hg, r⟩
  · exact .inl h0
  · exact .inr ⟨g, cap, cur, rfl, hb g rfl, r⟩
theorem wSmall {x : Int} (h : -1000 ≤ x ∧ x ≤ 1000) : IntKind.i64.wrap x = x := by
  rw [IntKind.wrap_i64]
  omega
theorem wSmall64 {x : Int} (h : -1000 ≤ x ∧ x ≤ 1000) : wrap64 x = x := by
  unfold wrap64
  omega
theorem OwnI.none_cap {w : World} {B n c : Nat} {ao : Option Addr} {xs : List Int} (h : OwnI w B (.slice ao n c) xs) : ao = none → c = 0 := by
  intro e
  rcases h.2 with ⟨h0, _⟩ | ⟨g, cap, cur, hv, _⟩
  · simp only [Value.slice.injEq] at h0; exact h0.2.2
  · simp only [Value.slice.injEq] at hv; rw [e] at hv; simp at hv

set_option maxRecDepth 100000 in
set_option maxHeartbeats 6400000 in
theorem weRows_any (sums : List Int) (h01 : bits01 sums) (hn : sums.length ≤ 5) (a1 : Option Addr) (c1 : Nat) : ∀ (d : Nat) (row : List Int) (sum : Int) (a2 : Option Addr) (c2 B : Nat) (w : World), row.length + d = sums.length → 0 ≤ sum ∧ sum ≤ 1 → B ≤ w.heap.size → IntsAt w a1 sums → OwnI w B (.slice a2 row.length c2) row →
    Calls Tryd.prog 102 #[.slice a1 sums.length c1, .slice a2 row.length c2, .int .i64 sum] w fun e w' => ∃ v vs, e = .returned v ∧ OwnR w' B v (rowsW sums d row sum) vs ∧ (∀ g, v.ownBlock = some g → w.heap.size ≤ g) ∧ Below w.heap.size w w' := by
  intro d
  induction d with
  | zero =>
    intro row sum a2 c2 B w hd hs hB h1 h2
    have hl : ((row.length : Int) == (sums.length : Int)) = true := by simp; omega
    have hx1 : row.length ≤ 9223372036854775807 := by omega
    have hx2 : sums.length ≤ 9223372036854775807 := by omega
    have hb1 : Below w.heap.size w (w.alloc (.cells #[.slice a2 row.length c2] 22)) := (Below.refl _ _).alloc (Nat.le_refl _) _
    have hres : OwnR (w.alloc (.cells #[.slice a2 row.length c2] 22)) B (.slice (some ⟨w.heap.size, 0, none⟩) 1 1) [row] [.slice a2 row.length c2] :=
      ⟨ownsRow_built w [.slice a2 row.length c2] hB (by simp), fun i hi => by obtain rfl : i = 0 := (by simpa using hi); exact h2.below hb1⟩
    have Hres := Lib.hid hres
    have Hb := Lib.hid hb1
    obtain ⟨r, hr⟩ : ∃ r, r = row.length := ⟨_, rfl⟩
    rw [← hr] at hl hx1 Hb Hres ⊢
    clear h1 h2 hd hb1 hres hr
    by_cases e1 : sum = 1
    · have hb : (sum == 1) = true := by simpa using e1
      have HV := Lib.hid (show rowsW sums 0 row sum = [row] by unfold rowsW; rw [if_pos e1])
      clear e1
      go_enter Tryd.func102, Tryd.ntmps102
      go_wp2
      go_ret
      exact ⟨_, _, rfl, by rw [HV.out]; exact Hres.out, fun g hg => by simp [Value.ownBlock] at hg; omega, Hb.out⟩
    · have hb : (sum == 1) = false := by simpa using e1
      have HV := Lib.hid (show rowsW sums 0 row sum = [] by unfold rowsW; rw [if_neg e1])
      clear e1
      go_enter Tryd.func102, Tryd.ntmps102
      go_wp2
      go_ret
      exact ⟨_, _, rfl, by rw [HV.out]; exact OwnR.nil _ _, fun g hg => by simp [Value.ownBlock] at hg, Below.refl _ _⟩
  | succ d ih =>
    intro row sum a2 c2 B w hd hs hB h1 h2
    have hl : ((row.length : Int) == (sums.length : Int)) = false := by simp; omega
    have hx1 : row.length ≤ 9223372036854775807 := by omega
    have hx2 : sums.length ≤ 9223372036854775807 := by omega
    have hlt : row.length < sums.length := by omega
    obtain ⟨j0, hj, hy0, hy1, hy2⟩ := info_parts Tryd.info_ints
    obtain ⟨i0, hi, hz0, hz1, hz2⟩ := info_parts Tryd.info_int
    obtain ⟨b0, o0, e0, hc0⟩ := h1 row.length hlt
    subst e0
    have hs01 := h01 row.length hlt
    obtain ⟨s, hsv⟩ : ∃ s, s = gi sums row.length := ⟨_, rfl⟩
    rw [← hsv] at hc0 hs01
    have Hd := Lib.hid hd
    have H1 := Lib.hid h1
    have H2 := Lib.hid h2
    have Hih := Lib.hid ih
    have Hsv := Lib.hid hsv
    have Hok := Lib.hid (show ∀ x : Int, okX sums row sum x ↔ (0 ≤ sum + x ∧ sum + x ≤ 1) ∧ 0 ≤ s + x ∧ s + x ≤ 1 from fun x => by unfold okX; rw [← hsv])
    have HBl := Lib.hid hB
    clear h1 h2 ih hd hsv
    go_enter Tryd.func102, Tryd.ntmps102
    go_wp2
    go_loopw [7, 8] (fun out i wr => ∃ (k : Nat) (x : Int) (vs : List Value), k ≤ 3 ∧ i = .int .i64 x ∧ x = (k : Int) - 1 ∧ OwnR wr B out (rowsP sums d row sum k) vs ∧ (∀ g, out.ownBlock = some g → w.heap.size ≤ g) ∧ Below w.heap.size w wr) (fun _ i _ => (2 - intOf i).toNat)
    case atStart => exact ⟨0, -1, [], by omega, rfl, rfl, OwnR.nil _ _, fun g hg => by simp [Value.ownBlock] at hg, Below.refl _ _⟩
    case round =>
      obtain ⟨k, x, vs, hk, rfl, hxk, hown, htop, hbr⟩ := hrel
      have hc0' := cell_below hc0 hbr
      have Hown := Lib.hid hown
      have Htop := Lib.hid htop
      have Hbr := Lib.hid hbr
      have HB := Lib.hid hbr.size
      have Hxk := Lib.hid hxk
      have hxb : -1 ≤ x ∧ x ≤ 2 := by omega
      clear hown htop hbr
      by_cases hk3 : k < 3
      · have hx1' : x ≤ 1 := by omega
        have hdx : decide (x ≤ 1) = true := by simpa using hx1'
        obtain ⟨u, hu⟩ : ∃ u, u = sum + x := ⟨_, rfl⟩
        obtain ⟨v, hv⟩ : ∃ v, v = s + x := ⟨_, rfl⟩
        obtain ⟨x', hx'⟩ : ∃ x', x' = x + 1 := ⟨_, rfl⟩
        have Hx' := Lib.hid hx'
        have hw1 : wrap64 (sum + x) = u := by rw [hu]; exact wSmall64 (by omega)
        have hw2 : wrap64 (s + x) = v := by rw [hv]; exact wSmall64 (by omega)
        have hw3 : wrap64 (x + 1) = x' := by rw [hx']; exact wSmall64 (by omega)
        have Hw3 := Lib.hid hw3
        have Hokx := Lib.hid (Hok.out x)
        rw [← hu, ← hv] at Hokx
        have Hu := Lib.hid hu
        clear hxk hu hv hx' hk hxb
        by_cases h1 : 0 ≤ u ∧ u ≤ 1
        · have H1in := Lib.hid h1
          clear h1
          go_wp2_with fail
          refine (l1In_any _ _ _ wr).mono ?_
          rintro e w2 ⟨ha, rfl⟩
          obtain rfl := ha.is H1in.out
          clear ha
          by_cases h2 : 0 ≤ v ∧ v ≤ 1
          · have H2in := Lib.hid h2
            clear h2
            have HP := Lib.hid (rowsP_yes (d := d) (k := k) (by rw [← Hxk.out]; exact Hokx.out.2 ⟨H1in.out, H2in.out⟩))
            rw [← Hxk.out, ← Hu.out] at HP
            go_wp2_with fail
            refine (l1In_any _ _ _ wr).mono ?_
            rintro e w2 ⟨ha, rfl⟩
            obtain rfl := ha.is H2in.out
            clear ha
            have Hl1 := Lib.hid (l1Own_any a2 c2 row wr (by omega) H2.out.none_cap (own_at (H2.out.below Hbr.out)))
            go_wp2_with fail
            refine Hl1.out.mono ?_
            rintro e w2 ⟨f1, rfl, hf1, hb2⟩
            obtain ⟨fa, fc, hff, _, _, _⟩ := hf1.read
            obtain ⟨fl, hfl⟩ : ∃ fl, fl = row.length := ⟨_, rfl⟩
            rw [← hfl] at hff
            subst hff
            have HF1 := Lib.hid hf1
            have Hb2 := Lib.hid hb2
            have HB2 := Lib.hid hb2.size
            have Hfl := Lib.hid hfl
            have hflb : fl ≤ 6 := by omega
            clear hf1 hb2 hfl Hl1
            go_wp2_with (at_builtin; refine wpList_append_own _ rfl _ _ 22 rfl wr.heap.size 3 i0 (.int .i64 0) 1 8 Tryd.underlying22 hi hz0 hz1 hz2 rfl (by decide) _ fl _ rfl (by have := World.ownsRow.alloc HF1.out (.cells #[.int .i64 x] 3); rw [← Hfl.out] at this; exact this) ⟨w2.heap.size, 0, none⟩ 1 1 [.int .i64 x] rfl rfl ?e1 ?e2 ?e3 ?e4 ?e5 ?_)
            case e1 => exact cell_one_new _ _ _
            case e2 => intro u hu; simp at hu; subst hu; rfl
            case e3 => unfold maxLen; omega
            case e4 => omega
            case e5 => have := HB2.out; simp; omega
            intro v' w3 hown' hgrow _
            rw [Hfl.out] at hown'
            have hput := HF1.out.snoc HB2.out hown' hgrow
            obtain ⟨ga, gc, hgg, hgc, hgc2, hgr⟩ := hput.1.read
            have h13 := Hb2.out.trans hput.2
            have hlen1 : (row ++ [x]).length = row.length + 1 := by simp
            have hor : OwnI w3 B (.slice ga (row ++ [x]).length gc) (row ++ [x]) := by rw [← hgg]; exact hput.1.base (Nat.le_trans HBl.out HB.out)
            have hrec := Hih.out (row ++ [x]) u ga gc B w3 (by have := Hd.out; rw [hlen1]; omega) H1in.out (Nat.le_trans HBl.out (Nat.le_trans HB.out h13.size)) ((H1.out.below Hbr.out).below h13) hor
            rw [hlen1] at hrec hgg
            obtain ⟨fl1, hfl1⟩ : ∃ fl1, fl1 = row.length + 1 := ⟨_, rfl⟩
            rw [← hfl1] at hgg hrec
            subst hgg
            have Hrec := Lib.hid hrec
            have Hput := Lib.hid h13
            clear hown' hgrow hput hgc hgc2 hgr hor hrec hfl1 h13 hlen1 HF1 Hb2 HB2 Hfl hflb
            go_wp2_with fail
            refine Hrec.out.mono ?_
            rintro e w4 ⟨sub, us, rfl, hsub, hst, hb4⟩
            obtain ⟨M, hM⟩ : ∃ M, M = rowsW sums d (row ++ [x]) u := ⟨_, rfl⟩
            obtain ⟨P0, hP0⟩ : ∃ P0, P0 = rowsP sums d row sum k := ⟨_, rfl⟩
            have hMl : M.length ≤ 1000000 := by rw [hM]; exact Nat.le_trans (rowsW_le _ _ _ _) (Nat.le_trans (Nat.pow_le_pow_right (by omega) (show d ≤ 5 by have := Hd.out; omega)) (by decide))
            have hPl : P0.length ≤ 1000000 := by rw [hP0]; exact Nat.le_trans (rowsP_le _ _ _ _ (by omega)) (Nat.le_trans (Nat.pow_le_pow_right (by omega) (show d + 1 ≤ 5 by have := Hd.out; omega)) (by decide))
            rw [← hM] at hsub HP
            rw [← hP0] at Hown HP
            obtain ⟨sa, sc, rfl, hs1, hs2, _⟩ := hsub.read
            have hb34 := Hput.out.trans (hb4.mono Hput.out.size)
            have Hown4 := Lib.hid (Hown.out.below hb34)
            have Hb4 := Lib.hid (Hbr.out.trans (hb34.mono HB.out))
            have HB4 := Lib.hid Hb4.out.size
            have Hsub := Lib.hid hsub
            obtain ⟨oa, oc, hoo, _, _, _⟩ := ownsRow_read Hown4.out.top
            obtain ⟨Ml, hMl2⟩ : ∃ Ml, Ml = M.length := ⟨_, rfl⟩
            obtain ⟨Pl, hPl2⟩ : ∃ Pl, Pl = P0.length := ⟨_, rfl⟩
            rw [← hPl2] at hoo hPl
            rw [← hMl2] at hMl hs1
            have HMl := Lib.hid hMl2
            have HPl := Lib.hid hPl2
            clear hsub hst hb4 hM hP0 hPl2 hb34 Hrec Hput
            subst hoo
            have Htop4 := Lib.hid (ownsRow_raise Hown4.out.top Htop.out)
            cases sa with
            | none =>
              have hM0 : M = [] := by
                rcases Hsub.out.top.2 with ⟨h1, h2⟩ | ⟨g, cap, cur, h1, _⟩
                · exact List.eq_nil_of_length_eq_zero h2
                · simp at h1
              have hsc : sc = 0 := by
                rcases Hsub.out.top.2 with ⟨h1, h2⟩ | ⟨g, cap, cur, h1, _⟩
                · simp at h1; exact h1.2
                · simp at h1
              subst hM0 hsc
              obtain rfl : Ml = 0 := by rw [hMl2]; rfl
              clear hs1 hs2 hMl hMl2 HMl
              go_wp2_with (at_builtin; refine wpList_append_own_none rfl _ _ 28 rfl w.heap.size 22 j0 1 Tryd.underlying28 hj _ _ _ rfl (by have := Htop4.out; rw [← HPl.out] at this; exact this) rfl ?_)
              go_wp2
              go_roundw
              case rel => exact ⟨k + 1, x', vs, by omega, by rw [Hw3.out], by have := Hxk.out; have := Hx'.out; omega, by rw [HP.out, List.append_nil]; exact Hown4.out, Htop.out, Hb4.out⟩
              case measure => simp [intOf]; have := Hx'.out; omega
            | some ad =>
              have Hcl := Lib.hid Hsub.out.cells
              have Hus := Lib.hid Hsub.out.len
              rw [← hMl2]
              clear hMl2 hs1 hs2
              go_wp2_with (at_builtin; refine wpList_append_own _ rfl _ _ 28 rfl w.heap.size 22 j0 (.slice none 0 0) 1 24 Tryd.underlying28 hj hy0 hy1 hy2 rfl (by decide) _ Pl vs rfl (by have := Htop4.out; rw [← HPl.out] at this; exact this) ad Ml sc us rfl ?f1 ?f2 ?f3 ?f4 ?f5 ?f6 ?_)
              case f1 => rw [Hus.out, HMl.out]; omega
              case f2 => exact Hcl.out.1
              case f3 => exact Hcl.out.2
              case f4 => unfold maxLen; omega
              case f5 => omega
              case f6 => exact HB4.out
              intro v'' w5 hown5 hgrow5 _
              have hjoin := Hown4.out.join (k := M) Hus.out Hsub.out.rows (by have := ownsRow_base hown5 HBl.out; rw [HPl.out, HMl.out] at this; exact this) hgrow5
              have hb5 : Below w.heap.size w4 w5 := Below.grown (Below.refl _ _) hgrow5 HB4.out (fun k hk => Htop.out k hk)
              have htop5 : ∀ g, v''.ownBlock = some g → w.heap.size ≤ g := fun g hg => (World.ownsRow.lt hown5 g hg).1
              have Hjoin := Lib.hid hjoin
              have Hb5 := Lib.hid (Hb4.out.trans hb5)
              have Htop5 := Lib.hid htop5
              clear hown5 hgrow5 hjoin hb5 htop5
              go_wp2
              go_roundw
              case rel => exact ⟨k + 1, x', _, by omega, by rw [Hw3.out], by have := Hxk.out; have := Hx'.out; omega, by rw [HP.out]; exact Hjoin.out, Htop5.out, Hb5.out⟩
              case measure => simp [intOf]; have := Hx'.out; omega
          · have H2in := Lib.hid h2
            clear h2
            have HP := Lib.hid (rowsP_no (d := d) (k := k) (fun h => by rw [← Hxk.out] at h; exact H2in.out (Hokx.out.1 h).2))
            go_wp2_with fail
            refine (l1In_any _ _ _ wr).mono ?_
            rintro e w2 ⟨ha, rfl⟩
            obtain rfl := ha.isnt H2in.out
            clear ha
            go_wp2
            go_roundw
            case rel => exact ⟨k + 1, x', vs, by omega, by rw [Hw3.out], by have := Hxk.out; have := Hx'.out; omega, by rw [HP.out]; exact Hown.out, Htop.out, Hbr.out⟩
            case measure => simp [intOf]; have := Hx'.out; omega
        · have H1in := Lib.hid h1
          clear h1
          have HP := Lib.hid (rowsP_no (d := d) (k := k) (fun h => by rw [← Hxk.out] at h; exact H1in.out (Hokx.out.1 h).1))
          go_wp2_with fail
          refine (l1In_any _ _ _ wr).mono ?_
          rintro e w2 ⟨ha, rfl⟩
          obtain rfl := ha.isnt H1in.out
          clear ha
          go_wp2
          go_roundw
          case rel => exact ⟨k + 1, x', vs, by omega, by rw [Hw3.out], by have := Hxk.out; have := Hx'.out; omega, by rw [HP.out]; exact Hown.out, Htop.out, Hbr.out⟩
          case measure => simp [intOf]; have := Hx'.out; omega
      · obtain rfl : k = 3 := by omega
        have hx2' : x = 2 := by omega
        subst hx2'
        clear hxk Hxk
        go_wp2
        go_ret
        exact ⟨_, vs, rfl, by rw [← rowsP_end]; exact Hown.out, Htop.out, Hbr.out⟩
end Go.Proofs.YtmkldodkpijfjaaDoor

