/- Parts of proofs: contracts and plain facts. Conditions: as each says. -/
import Derived.Test.YtgdijjfipicodaaDoorK13
import Derived.Laws.CopyOwn
namespace Go.Proofs.YtgdijjfipicodaaDoor
open Go.RowKit

/-- the table with 1 in row i at column p[i] -/
def pm (p : List Int) : List (List Int) := tab p.length p.length fun i j => if gi p i = j then 1 else 0
theorem pm_len (p : List Int) : (pm p).length = p.length := tab_len _ _ _
theorem gi_pm {p : List Int} {i j : Nat} (hi : i < p.length) (hj : j < p.length) : gi (gr (pm p) i) j = if gi p i = j then 1 else 0 := gi_tab hi hj
def isPerm (p : List Int) : Prop := 1 ≤ p.length ∧ p.length ≤ 6 ∧ allIn p 0 (p.length - 1) ∧ ∀ i j, i < j → j < p.length → gi p i ≠ gi p j

theorem pm_square {p : List Int} (h1 : 1 ≤ p.length) (h2 : p.length ≤ 6) : square (pm p) := ⟨by rw [pm_len]; exact h1, by rw [pm_len]; exact h2, fun i hi => by rw [pm_len] at hi ⊢; exact tab_row hi⟩

theorem one_sum {x : Int} {f : Nat → Int} (hf : ∀ j, f j = if x = j then 1 else 0) (k : Nat) : sumF f k = if 0 ≤ x ∧ x < k then 1 else 0 := by
  induction k with
  | zero => rw [if_neg (by omega)]; rfl
  | succ k ih =>
    simp only [sumF]
    rw [ih, hf k]
    by_cases h1 : x = k
    · rw [if_neg (by omega), if_pos h1, if_pos (by omega)]; rfl
    · rw [if_neg h1]
      by_cases h2 : 0 ≤ x ∧ x < k
      · rw [if_pos h2, if_pos (by omega)]; rfl
      · rw [if_neg h2, if_neg (by omega)]; rfl

theorem pm_rowsum {p : List Int} {i k : Nat} (hi : i < p.length) (hk : k ≤ p.length) : sumK (gr (pm p) i) k = if 0 ≤ gi p i ∧ gi p i < k then 1 else 0 := by
  rw [sumK_sumF, sumF_congr (g := fun j => if gi p i = j then 1 else 0) (fun j hj => gi_pm hi (by omega))]
  exact one_sum (fun _ => rfl) k

theorem pm_colsum {p : List Int} {j k : Nat} (hj : j < p.length) (hk : k ≤ p.length) (hd : ∀ i i', i < i' → i' < p.length → gi p i ≠ gi p i') :
    0 ≤ sumK (gr (tr (pm p)) j) k ∧ sumK (gr (tr (pm p)) j) k ≤ 1 ∧ (1 ≤ sumK (gr (tr (pm p)) j) k → ∃ i, i < k ∧ gi p i = j) := by
  induction k with
  | zero => simp [sumK]
  | succ k ih =>
    obtain ⟨h1, h2, h3⟩ := ih (by omega)
    have e : gi (gr (tr (pm p)) j) k = if gi p k = j then 1 else 0 := by rw [gi_tr (by rw [pm_len]; exact hj) (by rw [pm_len]; omega), gi_pm (by omega) hj]
    simp only [sumK]
    rw [e]
    by_cases hp : gi p k = j
    · rw [if_pos hp]
      have : ¬ 1 ≤ sumK (gr (tr (pm p)) j) k := fun h => by
        obtain ⟨i, hi, hij⟩ := h3 h
        exact hd i k hi (by omega) (hij.trans hp.symm)
      exact ⟨by omega, by omega, fun _ => ⟨k, by omega, hp⟩⟩
    · rw [if_neg hp]
      refine ⟨by omega, by omega, fun h => ?_⟩
      obtain ⟨i, hi, hij⟩ := h3 (by omega)
      exact ⟨i, by omega, hij⟩

theorem all_one {f : Nat → Int} : ∀ {k : Nat}, (∀ i, i < k → f i ≤ 1) → sumF f k = k → ∀ i, i < k → f i = 1
  | 0, _, _ => fun i hi => absurd hi (by omega)
  | k + 1, h, he => by
    have h0 : sumF f k ≤ k := by
      have : ∀ t, t ≤ k → sumF f t ≤ t := by
        intro t
        induction t with
        | zero => simp [sumF]
        | succ t ih => intro ht; have := ih (by omega); have := h t (by omega); simp only [sumF]; omega
      exact this k (Nat.le_refl _)
    have h1 := h k (by omega)
    simp only [sumF] at he
    intro i hi
    by_cases e : i = k
    · subst e; omega
    · exact all_one (k := k) (fun i hi => h i (by omega)) (by omega) i (by omega)

theorem pm_good {p : List Int} (h : isPerm p) : good (pm p) := by
  obtain ⟨h1, h2, h3, h4⟩ := h
  have hrow : rowsOk (pm p) := by
    intro i hi
    rw [pm_len] at hi
    have hl : (gr (pm p) i).length = p.length := tab_row hi
    refine ⟨fun k hk => ?_, ?_⟩
    · rw [hl] at hk
      rw [pm_rowsum hi hk]
      split <;> omega
    · rw [hl, pm_rowsum hi (Nat.le_refl _), if_pos]
      have := h3 i hi
      omega
  have hcol : ∀ j, j < p.length → sumK (gr (tr (pm p)) j) p.length = 1 := by
    refine all_one (f := fun j => sumK (gr (tr (pm p)) j) p.length) (fun j hj => (pm_colsum hj (Nat.le_refl _) h4).2.1) ?_
    have e1 := S2_cols (m := pm p) (a := p.length) (b := p.length) (by rw [pm_len]; exact Nat.le_refl _) (by rw [pm_len]; exact Nat.le_refl _)
    rw [← e1]
    show sumF (fun i => sumF (fun j => gi (gr (pm p) i) j) p.length) p.length = p.length
    rw [sumF_congr (g := fun _ => 1) (fun i hi => by
      have := (hrow i (by rw [pm_len]; exact hi)).2
      rw [show (gr (pm p) i).length = p.length from tab_row hi, sumK_sumF] at this
      exact this)]
    have : ∀ k : Nat, sumF (fun _ => (1 : Int)) k = k := by
      intro k
      induction k with
      | zero => rfl
      | succ k ih => simp only [sumF]; omega
    exact this _
  refine ⟨pm_square h1 h2, hrow, fun j hj => ?_⟩
  rw [tr_len, pm_len] at hj
  have hl : (gr (tr (pm p)) j).length = p.length := by rw [tr_row (by rw [pm_len]; exact hj), pm_len]
  refine ⟨fun k hk => ?_, by rw [hl]; exact hcol j hj⟩
  rw [hl] at hk
  have := pm_colsum hj hk h4
  omega

theorem perm_of_good {p : List Int} (hin : allIn p 0 (p.length - 1)) (hg : good (pm p)) : isPerm p := by
  have h1 := hg.1.1
  have h2 := hg.1.2.1
  rw [pm_len] at h1 h2
  refine ⟨h1, h2, hin, fun i i' hii hi' he => ?_⟩
  have hp := hin i' hi'
  obtain ⟨j, hj⟩ := Int.eq_ofNat_of_zero_le hp.1
  have hjl : j < p.length := by omega
  have hc := hg.2.2 j (by rw [tr_len, pm_len]; exact hjl)
  have hl : (gr (tr (pm p)) j).length = p.length := by rw [tr_row (by rw [pm_len]; exact hjl), pm_len]
  have g1 : gi (gr (tr (pm p)) j) i = 1 := by rw [gi_tr (by rw [pm_len]; exact hjl) (by rw [pm_len]; omega), gi_pm (by omega) hjl, if_pos (by rw [he]; exact hj)]
  have g2 : gi (gr (tr (pm p)) j) i' = 1 := by rw [gi_tr (by rw [pm_len]; exact hjl) (by rw [pm_len]; omega), gi_pm (by omega) hjl, if_pos hj]
  have pos : ∀ k, k < p.length → 0 ≤ gi (gr (tr (pm p)) j) k := fun k hk => by
    rw [gi_tr (by rw [pm_len]; exact hjl) (by rw [pm_len]; omega), gi_pm hk hjl]
    split <;> omega
  have mono : ∀ a b, a ≤ b → b ≤ p.length → sumK (gr (tr (pm p)) j) a ≤ sumK (gr (tr (pm p)) j) b := by
    intro a b hab
    induction b with
    | zero => intro _; obtain rfl : a = 0 := by omega
              exact Int.le_refl _
    | succ b ih =>
      intro hb
      by_cases e : a = b + 1
      · subst e; exact Int.le_refl _
      · have := ih (by omega) (by omega)
        have := pos b (by omega)
        simp only [sumK]
        omega
  have a1 := (hc.1 i (by omega)).1
  have a2 := (hc.1 (i' + 1) (by omega)).2
  have a3 := mono (i + 1) i' (by omega) (by omega)
  simp only [sumK] at a2 a3
  omega

/-- the numbers are told apart as far as k -/
def has (xs : List Int) (x : Int) : Prop := ∃ j, j < xs.length ∧ gi xs j = x

theorem pm_small {p : List Int} (h : isPerm p) : Small (pm p) := (pm_good h).1.small
end Go.Proofs.YtgdijjfipicodaaDoor

namespace Go.Proofs.YtgdijjfipicodaaDoor
open Go.RowKit

def q4 (m : List (List Int)) (i k j t : Nat) : Int := sumF (fun l => gi (gr m i) j * gi (gr m k) l) t
def q3 (m : List (List Int)) (i k t : Nat) : Int := sumF (fun j => q4 m i k j j) t
def q2 (m : List (List Int)) (i t : Nat) : Int := sumF (fun k => q3 m i (i + 1 + k) m.length) t
def q1 (m : List (List Int)) (t : Nat) : Int := sumF (fun i => q2 m i (m.length - (i + 1))) t
def inv (m : List (List Int)) : Int := q1 m m.length

theorem unit_mul {x y : Int} {B : Int} (hx : -1 ≤ x ∧ x ≤ 1) (hy : -B ≤ y ∧ y ≤ B) : -B ≤ x * y ∧ x * y ≤ B := by
  have : x = -1 ∨ x = 0 ∨ x = 1 := by omega
  rcases this with rfl | rfl | rfl
  · rw [Int.neg_one_mul]; omega
  · rw [Int.zero_mul]; omega
  · rw [Int.one_mul]; exact hy

theorem q4_b {m : List (List Int)} (h : good m) {i k j t : Nat} (hi : i < m.length) (hk : k < m.length) (hj : j < m.length) (ht : t ≤ m.length) : -6 ≤ q4 m i k j t ∧ q4 m i k j t ≤ 6 := by
  have hn := h.1.2.1
  have := sumF_bound (f := fun l => gi (gr m i) j * gi (gr m k) l) (B := 1) (k := t) (fun l hl => unit_mul (good_entry h hi hj) (good_entry h hk (by omega)))
  unfold q4
  omega
theorem q3_b {m : List (List Int)} (h : good m) {i k t : Nat} (hi : i < m.length) (hk : k < m.length) (ht : t ≤ m.length) : -36 ≤ q3 m i k t ∧ q3 m i k t ≤ 36 := by
  have hn := h.1.2.1
  have := sumF_bound (f := fun j => q4 m i k j j) (B := 6) (k := t) (fun j hj => q4_b h hi hk (by omega) (by omega))
  unfold q3
  omega
theorem q2_b {m : List (List Int)} (h : good m) {i t : Nat} (hi : i < m.length) (ht : i + 1 + t ≤ m.length) : -216 ≤ q2 m i t ∧ q2 m i t ≤ 216 := by
  have hn := h.1.2.1
  have := sumF_bound (f := fun k => q3 m i (i + 1 + k) m.length) (B := 36) (k := t) (fun k hk => q3_b h hi (by omega) (Nat.le_refl _))
  unfold q2
  omega
theorem q1_b {m : List (List Int)} (h : good m) {t : Nat} (ht : t ≤ m.length) : -1296 ≤ q1 m t ∧ q1 m t ≤ 1296 := by
  have hn := h.1.2.1
  have := sumF_bound (f := fun i => q2 m i (m.length - (i + 1))) (B := 216) (k := t) (fun i hi => q2_b h (by omega) (by omega))
  unfold q1
  omega

theorem sumF_mul (c : Int) (f : Nat → Int) (k : Nat) : sumF (fun i => c * f i) k = c * sumF f k := by
  induction k with
  | zero => simp [sumF]
  | succ k ih => simp only [sumF]; rw [ih, Int.mul_add]
theorem sumF_swap (f : Nat → Nat → Int) (p q : Nat) : sumF (fun a => sumF (fun b => f a b) q) p = sumF (fun b => sumF (fun a => f a b) p) q := by
  induction p with
  | zero => show (0 : Int) = sumF (fun _ => 0) q; rw [sumF_zero]
  | succ p ih => show sumF (fun a => sumF (fun b => f a b) q) p + sumF (fun b => f p b) q = _; rw [ih, ← sumF_add]; rfl

/-- the program's sums -/
def u2 (m : List (List Int)) (i t : Nat) : Int := sumF (fun j => gi (gr m i) j * bsum (m.drop (i + 1)) j) t
def u1 (m : List (List Int)) (t : Nat) : Int := sumF (fun i => u2 m i m.length) t

theorem u2_q2 {m : List (List Int)} {i : Nat} : u2 m i m.length = q2 m i (m.length - (i + 1)) := by
  unfold u2 q2 q3 q4
  rw [sumF_swap]
  refine sumF_congr fun j _ => ?_
  rw [show sumF (fun a => sumF (fun l => gi (gr m i) j * gi (gr m (i + 1 + a)) l) j) (m.length - (i + 1)) = sumF (fun a => gi (gr m i) j * sumF (fun l => gi (gr m (i + 1 + a)) l) j) (m.length - (i + 1)) from
    sumF_congr fun a _ => sumF_mul _ _ _, sumF_mul]
  congr 1
  unfold bsum
  rw [List.length_drop]
  exact sumF_congr fun a _ => by rw [gr_drop]
theorem u1_inv (m : List (List Int)) : u1 m m.length = inv m := sumF_congr fun _ _ => u2_q2

theorem bs_b {m : List (List Int)} (h : good m) {i j : Nat} (hj : j ≤ m.length) : -36 ≤ bsum (m.drop i) j ∧ bsum (m.drop i) j ≤ 36 := block_bound ((h.tame hj).drop i) (Nat.le_refl _)
theorem u2_b {m : List (List Int)} (h : good m) {i t : Nat} (hi : i < m.length) (ht : t ≤ m.length) : -216 ≤ u2 m i t ∧ u2 m i t ≤ 216 := by
  have hn := h.1.2.1
  have := sumF_bound (f := fun j => gi (gr m i) j * bsum (m.drop (i + 1)) j) (B := 36) (k := t) (fun j hj => unit_mul (good_entry h hi (by omega)) (bs_b h (by omega)))
  unfold u2
  omega
theorem u1_b {m : List (List Int)} (h : good m) {t : Nat} (ht : t ≤ m.length) : -1296 ≤ u1 m t ∧ u1 m t ≤ 1296 := by
  have hn := h.1.2.1
  have := sumF_bound (f := fun i => u2 m i m.length) (B := 216) (k := t) (fun i hi => u2_b h (by omega) (Nat.le_refl _))
  unfold u1
  omega

end Go.Proofs.YtgdijjfipicodaaDoor

namespace Go.Proofs.YtgdijjfipicodaaDoor
open Go.RowKit

theorem row_get {xs : List Int} {j : Nat} (h : j < xs.length) : (xs.map (Value.int .i64))[j]? = some (.int .i64 (gi xs j)) := by simp [gi, List.getD, h]

/-- integers copied into a row of an owned grid, from place off on -/
theorem wpList_copy_grid {w : World} {ops : Array Oper} {rest : List Oper} {o : Oper} {a : Act} {QQ : Exit → Act → World → Prop} (hgd : o.guard = none) (d s : Operand)
    (ho : o.op = .call { callee := .builtin .copy, args := #[d, s], argTypes := #[42, 42] }) {B n c : Nat} {v : Value} {f : Nat → Nat → Int} {vs : List Value} (hown : OwnP w B v n (tab n c f) n vs)
    (i off : Nat) (hi : i < n) (xs : List Int) (hfit : off + xs.length ≤ c) (g cap : Nat) (hvs : vs.getD i undef = .slice (some ⟨g, 0, none⟩) c cap) (dLen dCap sCap b2 o2 : Nat)
    (hd : a.eval d = .slice (some ⟨g, off, none⟩) dLen dCap) (hmin : xs.length ≤ dLen) (hs : a.eval s = .slice (some ⟨b2, o2, none⟩) xs.length sCap) (hx : IntsAt w (some ⟨b2, o2, none⟩) xs)
    (h : ∀ w', OwnP w' B v n (tab n c fun a b => if a = i ∧ off ≤ b ∧ b < off + xs.length then gi xs (b - off) else f a b) n vs → Below B w w' → wpList Tryd.prog ops QQ rest (a.put o.dst (goInt xs.length)) w') :
    wpList Tryd.prog ops QQ (o :: rest) a w := by
  have hrow := hown.rows i hi
  have hrow0 := hrow
  rw [hvs] at hrow
  have hB : B ≤ g := (hrow0.lt g (by rw [hvs]; rfl)).1
  rcases hrow.2 with ⟨h0, _⟩ | ⟨g', cap', cur, hv2, _, hh, hnc, hcm, hcs, htk⟩
  · simp at h0
  simp only [Value.slice.injEq, Option.some.injEq, Addr.mk.injEq, and_true] at hv2
  obtain ⟨rfl, hrl, rfl⟩ := hv2
  have hlen : (gr (tab n c f) i).length = c := tab_row hi
  rw [hlen] at hnc htk
  simp only [Nat.mul_one] at hcs htk
  refine wpList_copy_own hgd d s 42 42 ho 3 Tryd.underlying42 (by kernel_rfl) g off dLen dCap ⟨b2, o2, none⟩ xs.length sCap hd hs cur 3 hh (xs.map (Value.int .i64)) (by rw [List.length_map]; exact (Nat.min_eq_left hmin).symm) ?_ (by rw [List.length_map]; omega) ?_ ?_
  · intro j u hu
    rw [List.getElem?_map] at hu
    cases hj : xs[j]? with
    | none => rw [hj] at hu; cases hu
    | some x =>
      rw [hj] at hu
      have hjl : j < xs.length := (List.getElem?_eq_some_iff.1 hj).1
      obtain ⟨b, o', e, hc⟩ := hx j hjl
      simp only [Option.some.injEq, Addr.mk.injEq, and_true] at e
      obtain ⟨rfl, rfl⟩ := e
      rw [Addr.add_lit, hc, ← hu]
      simp [gi, List.getD, hj]
  · intro u hu
    obtain ⟨_, _, rfl⟩ := List.mem_map.1 hu
    rfl
  have hgo : (goInt (xs.map (Value.int .i64)).length) = goInt xs.length := by rw [List.length_map]
  rw [hgo]
  have hb : Below B w (w.setRow g (cur.toList.take off ++ (xs.map (Value.int .i64) ++ cur.toList.drop (off + (xs.map (Value.int .i64)).length))).toArray) := below_setRow (Below.refl _ _) hB _
  refine h _ ⟨?_, fun a' ha => ?_, hown.apart⟩ hb
  · refine ⟨hown.top.1, ?_⟩
    rcases hown.top.2 with h0 | ⟨g', cap', cur', hv2, hg2, hh2, r⟩
    · exact .inl h0
    · refine .inr ⟨g', cap', cur', hv2, hg2, ?_, r⟩
      rw [setRow_other w g g' _ (fun e => hrow.ne_row hown.top g rfl (by rw [hv2, e]; rfl))]
      exact hh2
  · by_cases e : a' = i
    · subst e
      have hl2 : (gr (tab n c fun a b => if a = a' ∧ off ≤ b ∧ b < off + xs.length then gi xs (b - off) else f a b) a').length = c := tab_row ha
      rw [hvs]
      refine ⟨by simp, .inr ⟨g, cap, _, by rw [hl2], hB, setRow_heap w g _ _ 3 _ hh, by rw [hl2]; exact hnc, hcm, ?_, ?_⟩⟩
      · simp only [List.size_toArray, List.length_append, List.length_take, List.length_map, List.length_drop, Array.length_toList]
        omega
      · rw [hl2, Nat.mul_one]
        refine List.ext_getElem? fun j => ?_
        rw [List.getElem?_take]
        by_cases hj : j < c
        · rw [if_pos hj, row_get (xs := gr (tab n c fun a b => if a = a' ∧ off ≤ b ∧ b < off + xs.length then gi xs (b - off) else f a b) a') (by rw [hl2]; exact hj), gi_tab ha hj]
          have hcurj : ∀ t, t < c → cur.toList[t]? = some (.int .i64 (f a' t)) := by
            intro t ht
            have h1 : (cur.toList.take c)[t]? = ((gr (tab n c f) a').map (Value.int .i64))[t]? := by rw [htk]
            rw [List.getElem?_take, if_pos ht, row_get (by rw [hlen]; exact ht), gi_tab ha ht] at h1
            exact h1
          by_cases h1 : j < off
          · rw [List.getElem?_append_left (by rw [List.length_take, Array.length_toList]; omega), List.getElem?_take, if_pos h1, hcurj j hj, if_neg (fun h => by omega)]
          · have hlt : (cur.toList.take off).length = off := by rw [List.length_take, Array.length_toList]; omega
            rw [List.getElem?_append_right (by omega), hlt]
            by_cases h2 : j < off + xs.length
            · rw [List.getElem?_append_left (by rw [List.length_map]; omega), row_get (by omega), if_pos ⟨rfl, by omega, h2⟩]
            · rw [List.getElem?_append_right (by rw [List.length_map]; omega), List.getElem?_drop, List.length_map, show off + xs.length + (j - off - xs.length) = j from by omega, hcurj j hj, if_neg (fun h => by omega)]
        · rw [if_neg hj, List.getElem?_eq_none (by rw [List.length_map, hl2]; omega)]
    · have hr := hown.rows a' ha
      have e2 : gr (tab n c fun a b => if a = i ∧ off ≤ b ∧ b < off + xs.length then gi xs (b - off) else f a b) a' = gr (tab n c f) a' := by
        refine ext_gi (by rw [tab_row ha, tab_row ha]) fun b hb => ?_
        rw [tab_row ha] at hb
        rw [gi_tab ha hb, gi_tab ha hb, if_neg (fun h => e h.1)]
      rw [e2]
      refine ⟨hr.1, ?_⟩
      rcases hr.2 with h0 | ⟨g', cap', cur', hv2, hg2, hh2, r⟩
      · exact .inl h0
      · refine .inr ⟨g', cap', cur', hv2, hg2, ?_, r⟩
        rw [setRow_other w g g' _ (fun e3 => ?_)]
        · exact hh2
        · subst e3
          rcases Nat.lt_or_gt_of_ne e with hlt | hlt
          · exact hown.apart a' i hlt hi g' (by rw [hv2]; rfl) (by rw [hvs]; rfl)
          · exact hown.apart i a' hlt ha g' (by rw [hvs]; rfl) (by rw [hv2]; rfl)


/-- integers copied into a row of an owned grid, from place off on; what is copied from may be longer -/
theorem wpList_copy_grid2 {w : World} {ops : Array Oper} {rest : List Oper} {o : Oper} {a : Act} {QQ : Exit → Act → World → Prop} (hgd : o.guard = none) (d s : Operand)
    (ho : o.op = .call { callee := .builtin .copy, args := #[d, s], argTypes := #[42, 42] }) {B n c : Nat} {v : Value} {f : Nat → Nat → Int} {vs : List Value} (hown : OwnP w B v n (tab n c f) n vs)
    (i off : Nat) (hi : i < n) (xs : List Int) (hfit : off + xs.length ≤ c) (g cap : Nat) (hvs : vs.getD i undef = .slice (some ⟨g, 0, none⟩) c cap) (dLen dCap sLen sCap b2 o2 : Nat)
    (hd : a.eval d = .slice (some ⟨g, off, none⟩) dLen dCap) (hmin : xs.length = Nat.min sLen dLen) (hs : a.eval s = .slice (some ⟨b2, o2, none⟩) sLen sCap) (hx : IntsAt w (some ⟨b2, o2, none⟩) xs)
    (h : ∀ w', OwnP w' B v n (tab n c fun a b => if a = i ∧ off ≤ b ∧ b < off + xs.length then gi xs (b - off) else f a b) n vs → Below B w w' → wpList Tryd.prog ops QQ rest (a.put o.dst (goInt xs.length)) w') :
    wpList Tryd.prog ops QQ (o :: rest) a w := by
  have hrow := hown.rows i hi
  have hrow0 := hrow
  rw [hvs] at hrow
  have hB : B ≤ g := (hrow0.lt g (by rw [hvs]; rfl)).1
  rcases hrow.2 with ⟨h0, _⟩ | ⟨g', cap', cur, hv2, _, hh, hnc, hcm, hcs, htk⟩
  · simp at h0
  simp only [Value.slice.injEq, Option.some.injEq, Addr.mk.injEq, and_true] at hv2
  obtain ⟨rfl, hrl, rfl⟩ := hv2
  have hlen : (gr (tab n c f) i).length = c := tab_row hi
  rw [hlen] at hnc htk
  simp only [Nat.mul_one] at hcs htk
  refine wpList_copy_own hgd d s 42 42 ho 3 Tryd.underlying42 (by kernel_rfl) g off dLen dCap ⟨b2, o2, none⟩ sLen sCap hd hs cur 3 hh (xs.map (Value.int .i64)) (by rw [List.length_map]; exact hmin) ?_ (by rw [List.length_map]; omega) ?_ ?_
  · intro j u hu
    rw [List.getElem?_map] at hu
    cases hj : xs[j]? with
    | none => rw [hj] at hu; cases hu
    | some x =>
      rw [hj] at hu
      have hjl : j < xs.length := (List.getElem?_eq_some_iff.1 hj).1
      obtain ⟨b, o', e, hc⟩ := hx j hjl
      simp only [Option.some.injEq, Addr.mk.injEq, and_true] at e
      obtain ⟨rfl, rfl⟩ := e
      rw [Addr.add_lit, hc, ← hu]
      simp [gi, List.getD, hj]
  · intro u hu
    obtain ⟨_, _, rfl⟩ := List.mem_map.1 hu
    rfl
  have hgo : (goInt (xs.map (Value.int .i64)).length) = goInt xs.length := by rw [List.length_map]
  rw [hgo]
  have hb : Below B w (w.setRow g (cur.toList.take off ++ (xs.map (Value.int .i64) ++ cur.toList.drop (off + (xs.map (Value.int .i64)).length))).toArray) := below_setRow (Below.refl _ _) hB _
  refine h _ ⟨?_, fun a' ha => ?_, hown.apart⟩ hb
  · refine ⟨hown.top.1, ?_⟩
    rcases hown.top.2 with h0 | ⟨g', cap', cur', hv2, hg2, hh2, r⟩
    · exact .inl h0
    · refine .inr ⟨g', cap', cur', hv2, hg2, ?_, r⟩
      rw [setRow_other w g g' _ (fun e => hrow.ne_row hown.top g rfl (by rw [hv2, e]; rfl))]
      exact hh2
  · by_cases e : a' = i
    · subst e
      have hl2 : (gr (tab n c fun a b => if a = a' ∧ off ≤ b ∧ b < off + xs.length then gi xs (b - off) else f a b) a').length = c := tab_row ha
      rw [hvs]
      refine ⟨by simp, .inr ⟨g, cap, _, by rw [hl2], hB, setRow_heap w g _ _ 3 _ hh, by rw [hl2]; exact hnc, hcm, ?_, ?_⟩⟩
      · simp only [List.size_toArray, List.length_append, List.length_take, List.length_map, List.length_drop, Array.length_toList]
        omega
      · rw [hl2, Nat.mul_one]
        refine List.ext_getElem? fun j => ?_
        rw [List.getElem?_take]
        by_cases hj : j < c
        · rw [if_pos hj, row_get (xs := gr (tab n c fun a b => if a = a' ∧ off ≤ b ∧ b < off + xs.length then gi xs (b - off) else f a b) a') (by rw [hl2]; exact hj), gi_tab ha hj]
          have hcurj : ∀ t, t < c → cur.toList[t]? = some (.int .i64 (f a' t)) := by
            intro t ht
            have h1 : (cur.toList.take c)[t]? = ((gr (tab n c f) a').map (Value.int .i64))[t]? := by rw [htk]
            rw [List.getElem?_take, if_pos ht, row_get (by rw [hlen]; exact ht), gi_tab ha ht] at h1
            exact h1
          by_cases h1 : j < off
          · rw [List.getElem?_append_left (by rw [List.length_take, Array.length_toList]; omega), List.getElem?_take, if_pos h1, hcurj j hj, if_neg (fun h => by omega)]
          · have hlt : (cur.toList.take off).length = off := by rw [List.length_take, Array.length_toList]; omega
            rw [List.getElem?_append_right (by omega), hlt]
            by_cases h2 : j < off + xs.length
            · rw [List.getElem?_append_left (by rw [List.length_map]; omega), row_get (by omega), if_pos ⟨rfl, by omega, h2⟩]
            · rw [List.getElem?_append_right (by rw [List.length_map]; omega), List.getElem?_drop, List.length_map, show off + xs.length + (j - off - xs.length) = j from by omega, hcurj j hj, if_neg (fun h => by omega)]
        · rw [if_neg hj, List.getElem?_eq_none (by rw [List.length_map, hl2]; omega)]
    · have hr := hown.rows a' ha
      have e2 : gr (tab n c fun a b => if a = i ∧ off ≤ b ∧ b < off + xs.length then gi xs (b - off) else f a b) a' = gr (tab n c f) a' := by
        refine ext_gi (by rw [tab_row ha, tab_row ha]) fun b hb => ?_
        rw [tab_row ha] at hb
        rw [gi_tab ha hb, gi_tab ha hb, if_neg (fun h => e h.1)]
      rw [e2]
      refine ⟨hr.1, ?_⟩
      rcases hr.2 with h0 | ⟨g', cap', cur', hv2, hg2, hh2, r⟩
      · exact .inl h0
      · refine .inr ⟨g', cap', cur', hv2, hg2, ?_, r⟩
        rw [setRow_other w g g' _ (fun e3 => ?_)]
        · exact hh2
        · subst e3
          rcases Nat.lt_or_gt_of_ne e with hlt | hlt
          · exact hown.apart a' i hlt hi g' (by rw [hv2]; rfl) (by rw [hvs]; rfl)
          · exact hown.apart i a' hlt ha g' (by rw [hvs]; rfl) (by rw [hv2]; rfl)

end Go.Proofs.YtgdijjfipicodaaDoor

namespace Go.Proofs.YtgdijjfipicodaaDoor
open Go.RowKit

/-- one matrix in the first rows and columns, another in the last ones, 0 elsewhere -/
def stF (m k : List (List Int)) (i j : Nat) : Int :=
  if i < m.length then (if j < m.length then gi (gr m i) j else 0) else if m.length ≤ j then gi (gr k (i - m.length)) (j - m.length) else 0
def st (m k : List (List Int)) : List (List Int) := tab (m.length + k.length) (m.length + k.length) (stF m k)
theorem st_len (m k : List (List Int)) : (st m k).length = m.length + k.length := tab_len _ _ _
def stackable (m k : List (List Int)) : Prop := good m ∧ good k ∧ m.length + k.length ≤ 6
theorem st_small {m k : List (List Int)} (h : stackable m k) : Small (st m k) := ⟨by rw [st_len]; have := h.2.2; omega, fun i hi => by rw [st_len] at hi; unfold st; rw [tab_row hi]; have := h.2.2; omega⟩

end Go.Proofs.YtgdijjfipicodaaDoor

namespace Go.Proofs.YtgdijjfipicodaaDoor
open Go.RowKit

/-- the first difference of two rows of n numbers is a lesser number in the first one -/
def rless (n : Nat) (x y : List Int) : Prop := ∃ j, j < n ∧ (∀ i, i < j → gi x i = gi y i) ∧ gi x j < gi y j
/-- .. of two tables of n rows: a lesser row -/
def mless (n : Nat) (a b : List (List Int)) : Prop := ∃ i, i < n ∧ (∀ k, k < i → gr a k = gr b k) ∧ rless n (gr a i) (gr b i)

theorem rless_irrefl {n : Nat} {x : List Int} : ¬ rless n x x := fun ⟨_, _, _, h⟩ => by omega
theorem rless_trans {n : Nat} {x y z : List Int} (h : rless n x y) (k : rless n y z) : rless n x z := by
  obtain ⟨j, hj, h1, h2⟩ := h
  obtain ⟨i, hi, k1, k2⟩ := k
  rcases Nat.lt_trichotomy i j with e | e | e
  · exact ⟨i, hi, fun t ht => (h1 t (by omega)).trans (k1 t ht), by rw [h1 i e]; exact k2⟩
  · subst e; exact ⟨i, hi, fun t ht => (h1 t ht).trans (k1 t ht), by omega⟩
  · exact ⟨j, hj, fun t ht => (h1 t ht).trans (k1 t (by omega)), by rw [← k1 j e]; exact h2⟩
theorem rless_asymm {n : Nat} {x y : List Int} (h : rless n x y) : ¬ rless n y x := fun k => rless_irrefl (rless_trans h k)
theorem rless_total {n : Nat} {x y : List Int} (hx : x.length = n) (hy : y.length = n) : rless n x y ∨ x = y ∨ rless n y x := by
  have key : ∀ k, k ≤ n → (∀ i, i < k → gi x i = gi y i) ∨ rless n x y ∨ rless n y x := by
    intro k
    induction k with
    | zero => exact fun _ => .inl fun i hi => absurd hi (by omega)
    | succ k ih =>
      intro hk
      rcases ih (by omega) with h | h
      · rcases Int.lt_trichotomy (gi x k) (gi y k) with e | e | e
        · exact .inr (.inl ⟨k, by omega, h, e⟩)
        · refine .inl fun i hi => ?_
          by_cases e2 : i = k
          · subst e2; exact e
          · exact h i (by omega)
        · exact .inr (.inr ⟨k, by omega, fun i hi => (h i hi).symm, e⟩)
      · exact .inr h
  rcases key n (Nat.le_refl _) with h | h | h
  · exact .inr (.inl (ext_gi (by rw [hx, hy]) (fun i hi => h i (by omega))))
  · exact .inl h
  · exact .inr (.inr h)

theorem mless_irrefl {n : Nat} {a : List (List Int)} : ¬ mless n a a := fun ⟨_, _, _, h⟩ => rless_irrefl h
theorem mless_trans {n : Nat} {a b c : List (List Int)} (h : mless n a b) (k : mless n b c) : mless n a c := by
  obtain ⟨j, hj, h1, h2⟩ := h
  obtain ⟨i, hi, k1, k2⟩ := k
  rcases Nat.lt_trichotomy i j with e | e | e
  · exact ⟨i, hi, fun t ht => (h1 t (by omega)).trans (k1 t ht), by rw [h1 i e]; exact k2⟩
  · subst e; exact ⟨i, hi, fun t ht => (h1 t ht).trans (k1 t ht), rless_trans h2 k2⟩
  · exact ⟨j, hj, fun t ht => (h1 t ht).trans (k1 t (by omega)), by rw [← k1 j e]; exact h2⟩
theorem mless_asymm {n : Nat} {a b : List (List Int)} (h : mless n a b) : ¬ mless n b a := fun k => mless_irrefl (mless_trans h k)

/-- a table of n rows of n numbers -/
def sq (n : Nat) (a : List (List Int)) : Prop := a.length = n ∧ ∀ i, i < n → (gr a i).length = n
theorem square.sq {m : List (List Int)} (h : square m) : Go.Proofs.YtgdijjfipicodaaDoor.sq m.length m := ⟨rfl, h.2.2⟩

theorem mless_total {n : Nat} {a b : List (List Int)} (ha : sq n a) (hb : sq n b) : mless n a b ∨ a = b ∨ mless n b a := by
  have key : ∀ k, k ≤ n → (∀ i, i < k → gr a i = gr b i) ∨ mless n a b ∨ mless n b a := by
    intro k
    induction k with
    | zero => exact fun _ => .inl fun i hi => absurd hi (by omega)
    | succ k ih =>
      intro hk
      rcases ih (by omega) with h | h
      · rcases rless_total (ha.2 k (by omega)) (hb.2 k (by omega)) with e | e | e
        · exact .inr (.inl ⟨k, by omega, h, e⟩)
        · refine .inl fun i hi => ?_
          by_cases e2 : i = k
          · subst e2; exact e
          · exact h i (by omega)
        · exact .inr (.inr ⟨k, by omega, fun i hi => (h i hi).symm, e⟩)
      · exact .inr h
  rcases key n (Nat.le_refl _) with h | h | h
  · exact .inr (.inl (ext_gr (by rw [ha.1, hb.1]) (fun i hi => h i (by rw [ha.1] at hi; exact hi))))
  · exact .inl h
  · exact .inr (.inr h)

/-- the least one of the first k tables of a row of tables -/
def IsMin (n k : Nat) (f : Nat → List (List Int)) (r : List (List Int)) : Prop := (∃ i, i < k ∧ f i = r) ∧ ∀ i, i < k → ¬ mless n (f i) r

theorem IsMin.one (n : Nat) (f : Nat → List (List Int)) : IsMin n 1 f (f 0) := by
  refine ⟨⟨0, by omega, rfl⟩, fun i hi => ?_⟩
  obtain rfl : i = 0 := by omega
  exact mless_irrefl
theorem IsMin.less {n k : Nat} {f : Nat → List (List Int)} {r : List (List Int)} (h : IsMin n k f r) (hl : mless n (f k) r) : IsMin n (k + 1) f (f k) :=
  ⟨⟨k, by omega, rfl⟩, fun i hi hi2 => by
    by_cases e : i = k
    · subst e; exact mless_irrefl hi2
    · exact h.2 i (by omega) (mless_trans hi2 hl)⟩
theorem IsMin.more {n k : Nat} {f : Nat → List (List Int)} {r : List (List Int)} (h : IsMin n k f r) (hl : ¬ mless n (f k) r) : IsMin n (k + 1) f r := by
  obtain ⟨i, hi, he⟩ := h.1
  refine ⟨⟨i, by omega, he⟩, fun j hj => ?_⟩
  by_cases e : j = k
  · subst e; exact hl
  · exact h.2 j (by omega)
theorem IsMin.unique {n k k' : Nat} {f g : Nat → List (List Int)} {r r' : List (List Int)} (h : IsMin n k f r) (h' : IsMin n k' g r') (hf : ∀ i, i < k → sq n (f i)) (hg : ∀ i, i < k' → sq n (g i))
    (h1 : ∀ i, i < k → ∃ j, j < k' ∧ g j = f i) (h2 : ∀ i, i < k' → ∃ j, j < k ∧ f j = g i) : r = r' := by
  obtain ⟨i, hi, rfl⟩ := h.1
  obtain ⟨j, hj, rfl⟩ := h'.1
  rcases mless_total (hf i hi) (hg j hj) with e | e | e
  · obtain ⟨t, ht, et⟩ := h1 i hi
    exact absurd (et ▸ e) (h'.2 t ht)
  · exact e
  · obtain ⟨t, ht, et⟩ := h2 j hj
    exact absurd (et ▸ e) (h.2 t ht)

/-- turned k times -/
def cwN (m : List (List Int)) : Nat → List (List Int)
  | 0 => m
  | k + 1 => cw (cwN m k)
theorem cwN_len (m : List (List Int)) : ∀ k, (cwN m k).length = m.length
  | 0 => rfl
  | k + 1 => by rw [cwN, cw_len, cwN_len m k]
theorem square.cwN {m : List (List Int)} (h : square m) : ∀ k, square (Go.Proofs.YtgdijjfipicodaaDoor.cwN m k)
  | 0 => h
  | k + 1 => (h.cwN k).cw
theorem cw4 {m : List (List Int)} (h : square m) : cwN m 4 = m := by
  have l1 := cw_len m
  have l2 := cw_len (cw m)
  have l3 := cw_len (cw (cw m))
  refine ext_gr (cwN_len m 4) fun i hi => ?_
  rw [cwN_len] at hi
  have hr := (h.cwN 4).2.2 i (by rw [cwN_len]; exact hi)
  rw [cwN_len] at hr
  refine ext_gi (by rw [hr, h.2.2 i hi]) fun j hj => ?_
  rw [hr] at hj
  show gi (gr (cw (cw (cw (cw m)))) i) j = _
  rw [gi_cw (by omega) (by omega), gi_cw (by omega) (by omega), gi_cw (by omega) (by omega), gi_cw (by omega) (by omega)]
  rw [show m.length - 1 - ((cw (cw m)).length - 1 - i) = i from by omega, show (cw m).length - 1 - ((cw (cw (cw m))).length - 1 - j) = j from by omega]

/-- the images as the program lists them -/
def im (m : List (List Int)) (i : Nat) : List (List Int) := if i < 4 then cwN m i else mir (cwN m (i - 4))
/-- .. as the model comes by them -/
def sp (m : List (List Int)) (i : Nat) : List (List Int) := if i % 2 = 1 then cwN m (i / 2 + 1) else if i = 0 then m else mir (cwN m (i / 2))

theorem sq_cwN {m : List (List Int)} (h : square m) (k : Nat) : sq m.length (cwN m k) := by
  have := (h.cwN k).sq
  rw [cwN_len] at this
  exact this
theorem sq_mir {m : List (List Int)} (h : square m) (k : Nat) : sq m.length (mir (cwN m k)) := by
  have := (h.cwN k).mir.sq
  rw [mir_len, cwN_len] at this
  exact this
theorem sq_im {m : List (List Int)} (h : square m) (i : Nat) : sq m.length (im m i) := by
  unfold im
  split
  · exact sq_cwN h i
  · exact sq_mir h _
theorem sq_sp {m : List (List Int)} (h : square m) (i : Nat) : sq m.length (sp m i) := by
  unfold sp
  split
  · exact sq_cwN h _
  · split
    · exact h.sq
    · exact sq_mir h _

/-- the least image -/
def lstM (m r : List (List Int)) : Prop := IsMin m.length 8 (im m) r
theorem lst_sp {m r : List (List Int)} (h : square m) (k : IsMin m.length 9 (sp m) r) : ∀ r', lstM m r' → r = r' := by
  intro r' h'
  refine IsMin.unique k h' (fun i _ => sq_sp h i) (fun i _ => sq_im h i) (fun i hi => ?_) (fun i hi => ?_)
  · have e4 := cw4 h
    have : i = 0 ∨ i = 1 ∨ i = 2 ∨ i = 3 ∨ i = 4 ∨ i = 5 ∨ i = 6 ∨ i = 7 ∨ i = 8 := by omega
    rcases this with rfl | rfl | rfl | rfl | rfl | rfl | rfl | rfl | rfl
    · exact ⟨0, by omega, by simp [im, sp, cwN]⟩
    · exact ⟨1, by omega, by simp [im, sp]⟩
    · exact ⟨5, by omega, by simp [im, sp]⟩
    · exact ⟨2, by omega, by simp [im, sp]⟩
    · exact ⟨6, by omega, by simp [im, sp]⟩
    · exact ⟨3, by omega, by simp [im, sp]⟩
    · exact ⟨7, by omega, by simp [im, sp]⟩
    · exact ⟨0, by omega, by simp [im, sp, e4]; rfl⟩
    · exact ⟨4, by omega, by simp [im, sp, e4]; rfl⟩
  · have e4 := cw4 h
    have : i = 0 ∨ i = 1 ∨ i = 2 ∨ i = 3 ∨ i = 4 ∨ i = 5 ∨ i = 6 ∨ i = 7 := by omega
    rcases this with rfl | rfl | rfl | rfl | rfl | rfl | rfl | rfl
    · exact ⟨0, by omega, by simp [im, sp, cwN]⟩
    · exact ⟨1, by omega, by simp [im, sp]⟩
    · exact ⟨3, by omega, by simp [im, sp]⟩
    · exact ⟨5, by omega, by simp [im, sp]⟩
    · exact ⟨8, by omega, by simp [im, sp, e4]; rfl⟩
    · exact ⟨2, by omega, by simp [im, sp]⟩
    · exact ⟨4, by omega, by simp [im, sp]⟩
    · exact ⟨6, by omega, by simp [im, sp]⟩
theorem lst_one {m r r' : List (List Int)} (h : square m) (k : lstM m r) (k' : lstM m r') : r = r' :=
  IsMin.unique k k' (fun i _ => sq_im h i) (fun i _ => sq_im h i) (fun i hi => ⟨i, hi, rfl⟩) (fun i hi => ⟨i, hi, rfl⟩)
end Go.Proofs.YtgdijjfipicodaaDoor

namespace Go.Proofs.YtgdijjfipicodaaDoor

/-- the numbers, among the first k, of the symmetries that a matrix has -/
def smLk (m : List (List Int)) : Nat → List Int
  | 0 => []
  | k + 1 => if im m k = m then smLk m k ++ [(k : Int)] else smLk m k
theorem smLk_len (m : List (List Int)) : ∀ k, (smLk m k).length ≤ k
  | 0 => Nat.le_refl _
  | k + 1 => by
    have := smLk_len m k
    unfold smLk
    split
    · simp; omega
    · omega
theorem smLk_mem (m : List (List Int)) (x : Nat) : ∀ k, ((x : Int) ∈ smLk m k ↔ x < k ∧ im m x = m)
  | 0 => by simp [smLk]
  | k + 1 => by
    have ih := smLk_mem m x k
    unfold smLk
    split
    · next h =>
      rw [List.mem_append, ih, List.mem_singleton]
      constructor
      · rintro (⟨h1, h2⟩ | h1)
        · exact ⟨by omega, h2⟩
        · have : x = k := by omega
          subst this
          exact ⟨by omega, h⟩
      · rintro ⟨h1, h2⟩
        by_cases e : x = k
        · exact .inr (by omega)
        · exact .inl ⟨by omega, h2⟩
    · next h =>
      rw [ih]
      constructor
      · rintro ⟨h1, h2⟩
        exact ⟨by omega, h2⟩
      · rintro ⟨h1, h2⟩
        refine ⟨?_, h2⟩
        by_cases e : x = k
        · subst e; exact absurd h2 h
        · omega
theorem im_ltS {m : List (List Int)} {i : Nat} (h : i < 4) : im m i = cwN m i := by unfold im; rw [if_pos h]
theorem im_geS {m : List (List Int)} {i : Nat} (h : 4 ≤ i) : im m i = mir (cwN m (i - 4)) := by unfold im; rw [if_neg (by omega)]
theorem im_zero (m : List (List Int)) : im m 0 = m := by simp [im, cwN]
/-- a matrix is of a kind -/
def ofK (m : List (List Int)) (k : Nat) : Prop :=
  if k = 0 then im m 2 = m else if k = 1 then im m 1 = m else if k = 2 then im m 4 = m else if k = 3 then im m 5 = m else im m 4 = m ∧ im m 6 = m
instance (m : List (List Int)) (k : Nat) : Decidable (ofK m k) := by unfold ofK; infer_instance
/-- to transpose is to turn once and then to mirror -/
theorem im_five {m : List (List Int)} (h : square m) : im m 5 = tr m := by
  have e : im m 5 = mir (mir (tr m)) := by simp [im, cwN, cw]
  rw [e]
  refine ext_gr (by rw [mir_len, mir_len]) fun i hi => ?_
  rw [mir_len, mir_len, tr_len] at hi
  have h1 : (gr (mir (mir (tr m))) i).length = m.length := by rw [mir_row (by rw [mir_len, tr_len]; exact hi), mir_len, tr_len]
  refine ext_gi (by rw [h1, tr_row hi]) fun j hj => ?_
  rw [h1] at hj
  unfold mir
  rw [gi_tab (by rw [tab_len, tr_len]; exact hi) (by rw [tab_len, tr_len]; exact hj), tab_len, gi_tab (by rw [tr_len]; exact hi) (by rw [tr_len]; omega), tr_len, show m.length - 1 - (m.length - 1 - j) = j from by omega]
end Go.Proofs.YtgdijjfipicodaaDoor

