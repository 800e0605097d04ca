/- Parts of proofs: contracts and plain facts. Conditions: as each says. -/
import Derived.Test.YtmkldodkpijfjaaK10
import Derived.Laws.OwnMore
import Derived.Laws.AppendOwnNone
namespace Go.Proofs.Ytmkldodkpijfjaa
open Go.RowKit

/-- cells of one colour, no one twice: their toggles don't meet -/
def sameCol (ps : List (Nat × Nat)) : Prop := ps.Nodup ∧ ∀ p ∈ ps, ∀ q ∈ ps, (p.1 + p.2) % 2 = (q.1 + q.2) % 2
theorem sameCol.tail {p : Nat × Nat} {ps : List (Nat × Nat)} (h : sameCol (p :: ps)) : sameCol ps := ⟨(List.nodup_cons.1 h.1).2, fun a ha b hb => h.2 a (List.mem_cons_of_mem _ ha) b (List.mem_cons_of_mem _ hb)⟩
theorem way_far {c : Nat → Nat → Int} {i j : Nat} {p : Nat × Nat} (hi : 1 ≤ i) (hj : 1 ≤ j) (hc : (p.1 + p.2) % 2 = (i + j) % 2) (hne : p ≠ (i, j)) : way (hOf (flipC c p.1 p.2)) i j = way (hOf c) i j := by
  have hne' : ¬ (i = p.1 ∧ j = p.2) := fun h => hne (by rw [h.1, h.2])
  have k : ∀ a b, ¬ (a = p.1 ∧ b = p.2) → hOf (flipC c p.1 p.2) a b = hOf c a b := fun a b h => by
    unfold flipC
    rw [hOf_setC, if_neg h]
  refine way_congr (k _ _ hne') (k _ _ ?_) (k _ _ ?_) (k _ _ ?_) (k _ _ ?_)
  all_goals
    rintro ⟨h1, h2⟩
    omega
/-- what toggles of one colour leave at each place -/
theorem togL_at : ∀ (ps : List (Nat × Nat)) (c : Nat → Nat → Int), sameCol ps → (∀ p ∈ ps, 1 ≤ p.1 ∧ 1 ≤ p.2) → ∀ a b, togL c ps a b = if (a, b) ∈ ps then c a b - way (hOf c) a b else c a b
  | [], c, _, _, a, b => by simp [togL_nil]
  | p :: ps, c, h, hp, a, b => by
    rw [togL_cons, togL_at ps _ h.tail (fun q hq => hp q (List.mem_cons_of_mem _ hq)) a b]
    have hnd := (List.nodup_cons.1 h.1).1
    by_cases e : (a, b) = p
    · subst e
      rw [if_neg hnd, if_pos (List.mem_cons_self ..)]
      unfold flipC setC
      rw [if_pos ⟨rfl, rfl⟩]
    · have hv : flipC c p.1 p.2 a b = c a b := by
        unfold flipC setC
        rw [if_neg (fun h => e (by rw [h.1, h.2]))]
      by_cases hm : (a, b) ∈ ps
      · have hq := hp (a, b) (List.mem_cons_of_mem _ hm)
        rw [if_pos hm, if_pos (List.mem_cons_of_mem _ hm), hv, way_far hq.1 hq.2 (h.2 p (List.mem_cons_self ..) (a, b) (List.mem_cons_of_mem _ hm)) (fun h => e h.symm)]
      · rw [if_neg hm, if_neg (fun k => (List.mem_cons.1 k).elim (fun k => e k) hm), hv]
theorem way_back {c : Nat → Nat → Int} {n : Nat} (_hc : Crn n c) {d : Nat → Nat → Int} {p : Nat × Nat} (hp : inn n p) (h0 : d p.1 p.2 = c p.1 p.2 - way (hOf c) p.1 p.2) (h1 : d (p.1 - 1) p.2 = c (p.1 - 1) p.2) (h2 : d p.1 (p.2 - 1) = c p.1 (p.2 - 1)) (h3 : d p.1 (p.2 + 1) = c p.1 (p.2 + 1)) (h4 : d (p.1 + 1) p.2 = c (p.1 + 1) p.2) :
    way (hOf d) p.1 p.2 = - way (hOf c) p.1 p.2 := by
  obtain ⟨i, j⟩ := p
  obtain ⟨hi1, hi2, hj1, hj2⟩ := hp
  simp only at *
  have e0 : hOf d i j = hOf c i j + 2 * way (hOf c) i j := by unfold hOf; rw [h0]; unfold hOf; omega
  have e1 : hOf d (i - 1) j = hOf c (i - 1) j := by unfold hOf; rw [h1]
  have e2 : hOf d i (j - 1) = hOf c i (j - 1) := by unfold hOf; rw [h2]
  have e3 : hOf d i (j + 1) = hOf c i (j + 1) := by unfold hOf; rw [h3]
  have e4 : hOf d (i + 1) j = hOf c (i + 1) j := by unfold hOf; rw [h4]
  by_cases hu : up1 (hOf c) i j
  · have hw : way (hOf c) i j = 1 := if_pos hu
    rw [hw] at e0 ⊢
    unfold up1 at hu
    have n1 : ¬ up1 (hOf d) i j := fun k => by unfold up1 at k; omega
    have n2 : down1 (hOf d) i j := by unfold down1; omega
    unfold way
    rw [if_neg n1, if_pos n2]
  · by_cases hd : down1 (hOf c) i j
    · have hw : way (hOf c) i j = -1 := by unfold way; rw [if_neg hu, if_pos hd]
      rw [hw] at e0 ⊢
      unfold down1 at hd
      have n1 : up1 (hOf d) i j := by unfold up1; omega
      unfold way
      rw [if_pos n1]
      rfl
    · have hw : way (hOf c) i j = 0 := by unfold way; rw [if_neg hu, if_neg hd]
      rw [hw] at e0 ⊢
      rw [way_congr (g := hOf c) (by omega) e1 e2 e3 e4, hw]
      rfl

/-- the flip of a colour undoes itself -/
theorem togL_twice {n : Nat} {c : Nat → Nat → Int} (hc : Crn n c) {ps : List (Nat × Nat)} (hs : sameCol ps) (hp : ∀ p ∈ ps, inn n p) (a b : Nat) : togL (togL c ps) ps a b = c a b := by
  have hp' : ∀ p ∈ ps, 1 ≤ p.1 ∧ 1 ≤ p.2 := fun p h => ⟨(hp p h).1, (hp p h).2.2.1⟩
  have h1 := togL_at ps c hs hp'
  rw [togL_at ps (togL c ps) hs hp' a b, h1 a b]
  by_cases hm : (a, b) ∈ ps
  · rw [if_pos hm, if_pos hm]
    have hin := hp _ hm
    have far : ∀ x y, (x + y) % 2 ≠ (a + b) % 2 → togL c ps x y = c x y := fun x y hxy => by
      rw [h1 x y, if_neg (fun h => hxy (hs.2 _ h _ hm))]
    obtain ⟨i1, i2, j1, j2⟩ := hin
    simp only at i1 i2 j1 j2
    have hb := way_back hc (d := togL c ps) (p := (a, b)) ⟨i1, i2, j1, j2⟩ (by rw [h1, if_pos hm]) (far _ _ (by simp only; omega)) (far _ _ (by simp only; omega)) (far _ _ (by simp only; omega)) (far _ _ (by simp only; omega))
    simp only at hb
    rw [hb]
    omega
  · rw [if_neg hm, if_neg hm]

theorem rowCells_nodup (i t : Nat) : (rowCells i t).Nodup := by
  unfold rowCells
  exact List.Pairwise.map _ (fun a b h k => h (Prod.mk.inj k).2) (List.Pairwise.filter _ List.nodup_range)
theorem allCells_nodup (n : Nat) : ∀ s, (allCells n s).Nodup
  | 0 => by simp [allCells]
  | s + 1 => by
    by_cases h : 1 ≤ s
    · rw [allCells_succ n s h, List.nodup_append]
      refine ⟨allCells_nodup n s, rowCells_nodup s n, fun a ha b hb e => ?_⟩
      subst e
      have h1 := mem_allCells ha
      have h2 := mem_rowCells hb
      omega
    · obtain rfl : s = 0 := by omega
      rw [allCells_one]
      exact List.nodup_nil
theorem colL_same (n : Nat) (col : Int) : sameCol (colL col (allCells n n)) := by
  refine ⟨List.Pairwise.filter _ (allCells_nodup n n), fun p hp q hq => ?_⟩
  have h1 := (List.mem_filter.1 hp).2
  have h2 := (List.mem_filter.1 hq).2
  simp only [decide_eq_true_eq] at h1 h2
  omega

/-- a matrix behind a gyration, behind one back -/
def nx (m : List (List Int)) : List (List Int) := gyC m [0, 1]
def pv (m : List (List Int)) : List (List Int) := gyC m [1, 0]
theorem gyC_twice {m : List (List Int)} (h : good m) (col : Int) : gyC (gyC m [col]) [col] = m := by
  rw [gyC_append h]
  show unC m.length (togL (S2 m) (colsL m.length [col, col])) = m
  have e : colsL m.length [col, col] = colL col (allCells m.length m.length) ++ colL col (allCells m.length m.length) := by simp [colsL]
  rw [e, togL_append]
  have h2 := unC_congr (n := m.length) (a := togL (togL (S2 m) (colL col (allCells m.length m.length))) (colL col (allCells m.length m.length))) (b := S2 m) (fun i j _ _ => togL_twice (good_crn h) (colL_same _ col) (fun p hp => allCells_inn p (colL_mem hp)) i j)
  rw [h2, unC_S2 h.1]
theorem pv_nx {m : List (List Int)} (h : good m) : pv (nx m) = m := by
  unfold pv nx
  rw [show ([0, 1] : List Int) = [0] ++ [1] from rfl, ← gyC_append h, show ([1, 0] : List Int) = [1] ++ [0] from rfl, ← gyC_append (gyC_good (gyC_good h [0]) [1]), gyC_twice (gyC_good h [0]), gyC_twice h]
theorem nx_good {m : List (List Int)} (h : good m) : good (nx m) := gyC_good h _
theorem nx_len (m : List (List Int)) : (nx m).length = m.length := gyC_len _ _

def nxN (m : List (List Int)) : Nat → List (List Int)
  | 0 => m
  | k + 1 => nx (nxN m k)
theorem nxN_good {m : List (List Int)} (h : good m) : ∀ k, good (nxN m k)
  | 0 => h
  | k + 1 => nx_good (nxN_good h k)
theorem nxN_len (m : List (List Int)) : ∀ k, (nxN m k).length = m.length
  | 0 => rfl
  | k + 1 => by show (nx (nxN m k)).length = _; rw [nx_len, nxN_len m k]
theorem nxN_back {m : List (List Int)} (h : good m) : ∀ (i j : Nat), nxN m i = nxN m (i + j) → nxN m j = m
  | 0, j, e => by rw [Nat.zero_add] at e; exact e.symm
  | i + 1, j, e => by
    have e1 : nx (nxN m i) = nx (nxN m (i + j)) := by rw [show i + 1 + j = (i + j) + 1 from by omega] at e; exact e
    have e2 := congrArg pv e1
    rw [pv_nx (nxN_good h i), pv_nx (nxN_good h (i + j))] at e2
    exact nxN_back h i j e2

theorem pigeon : ∀ (B : Nat) (f : Nat → Nat), (∀ k, k ≤ B → f k < B) → ∃ i j, i < j ∧ j ≤ B ∧ f i = f j
  | 0, f, h => absurd (h 0 (Nat.le_refl _)) (by omega)
  | B + 1, f, h => by
    by_cases hx : ∃ k, k ≤ B ∧ f k = f (B + 1)
    · obtain ⟨k, hk, e⟩ := hx
      exact ⟨k, B + 1, by omega, Nat.le_refl _, e⟩
    · have hx' : ∀ k, k ≤ B → f k ≠ f (B + 1) := fun k hk e => hx ⟨k, hk, e⟩
      obtain ⟨i, j, hij, hj, e⟩ := pigeon B (fun k => if f k = B then f (B + 1) else f k) (fun k hk => by
        have h1 := h k (by omega)
        have h2 := h (B + 1) (Nat.le_refl _)
        have h3 := hx' k hk
        show (if f k = B then f (B + 1) else f k) < B
        split
        · next e => omega
        · next e => omega)
      refine ⟨i, j, hij, by omega, ?_⟩
      have h1 := hx' i (by omega)
      have h2 := hx' j hj
      split at e <;> split at e <;> omega

/-- bits as a number -/
def codeF (f : Nat → Int) : Nat → Nat
  | 0 => 0
  | N + 1 => (f 0).toNat + 2 * codeF (fun k => f (k + 1)) N
theorem codeF_lt : ∀ (N : Nat) (f : Nat → Int), (∀ k, k < N → 0 ≤ f k ∧ f k ≤ 1) → codeF f N < 2 ^ N
  | 0, f, _ => by simp [codeF]
  | N + 1, f, h => by
    have h0 := h 0 (by omega)
    have h1 := codeF_lt N (fun k => f (k + 1)) (fun k hk => h (k + 1) (by omega))
    rw [Nat.pow_succ]
    show (f 0).toNat + 2 * codeF (fun k => f (k + 1)) N < 2 ^ N * 2
    omega
theorem codeF_inj : ∀ (N : Nat) (f g : Nat → Int), (∀ k, k < N → 0 ≤ f k ∧ f k ≤ 1) → (∀ k, k < N → 0 ≤ g k ∧ g k ≤ 1) → codeF f N = codeF g N → ∀ k, k < N → f k = g k
  | 0, f, g, _, _, _, k, hk => absurd hk (by omega)
  | N + 1, f, g, hf, hg, e, k, hk => by
    have f0 := hf 0 (by omega)
    have g0 := hg 0 (by omega)
    have e' : (f 0).toNat + 2 * codeF (fun k => f (k + 1)) N = (g 0).toNat + 2 * codeF (fun k => g (k + 1)) N := e
    rcases k with _ | k
    · omega
    · exact codeF_inj N (fun k => f (k + 1)) (fun k => g (k + 1)) (fun k hk => hf (k + 1) (by omega)) (fun k hk => hg (k + 1) (by omega)) (by omega) k (by omega)

def bitF (m : List (List Int)) (n k : Nat) : Int := S2 m (k / (n - 1) + 1) (k % (n - 1) + 1) - S2 m (k / (n - 1)) (k % (n - 1) + 1)
theorem bitF_bit {m : List (List Int)} (h : good m) {n : Nat} (hn : m.length = n) {k : Nat} (hk : k < n * (n - 1)) : 0 ≤ bitF m n k ∧ bitF m n k ≤ 1 := by
  have h1 : 0 < n - 1 := by
    rcases Nat.eq_zero_or_pos (n - 1) with e | e
    · rw [e] at hk; omega
    · exact e
  have h2 : k / (n - 1) < n := (Nat.div_lt_iff_lt_mul h1).2 hk
  have h3 := Nat.mod_lt k h1
  have := (good_crn h).down (k / (n - 1)) (k % (n - 1) + 1) (by omega) (by omega)
  unfold bitF
  omega
theorem bits_same {m k : List (List Int)} (hm : good m) (hk : good k) {n : Nat} (hn : m.length = n) (hn2 : k.length = n) (h : ∀ t, t < n * (n - 1) → bitF m n t = bitF k n t) : m = k := by
  have cm := good_crn hm
  have ck := good_crn hk
  rw [hn] at cm
  rw [hn2] at ck
  have key : ∀ i j, i ≤ n → j ≤ n → S2 m i j = S2 k i j := by
    intro i j hi hj
    by_cases hj0 : j = 0
    · subst hj0; rw [cm.left i hi, ck.left i hi]
    · by_cases hjn : j = n
      · subst hjn; rw [cm.right i hi, ck.right i hi]
      · induction i with
        | zero => rw [cm.top j hj, ck.top j hj]
        | succ i ih =>
          have hlt : i * (n - 1) + (j - 1) < n * (n - 1) := by
            have : (i + 1) * (n - 1) ≤ n * (n - 1) := Nat.mul_le_mul_right _ hi
            rw [Nat.succ_mul] at this
            omega
          have hb := h (i * (n - 1) + (j - 1)) hlt
          unfold bitF at hb
          have e1 : (i * (n - 1) + (j - 1)) / (n - 1) = i := by
            rw [Nat.mul_comm, Nat.mul_add_div (by omega), Nat.div_eq_of_lt (by omega)]
            omega
          have e2 : (i * (n - 1) + (j - 1)) % (n - 1) = j - 1 := by
            rw [Nat.mul_comm, Nat.mul_add_mod, Nat.mod_eq_of_lt (by omega)]
          rw [e1, e2, show j - 1 + 1 = j from by omega] at hb
          have := ih (by omega)
          omega
  rw [← unC_S2 hm.1, ← unC_S2 hk.1, hn, hn2]
  exact unC_congr key

/-- p is the length of the orbit -/
def IsPer (m : List (List Int)) (p : Nat) : Prop := 1 ≤ p ∧ p ≤ 1073741824 ∧ nxN m p = m ∧ ∀ q, 1 ≤ q → q < p → nxN m q ≠ m
theorem least_ex (P : Nat → Prop) : ∀ p, P p → ∃ q, q ≤ p ∧ P q ∧ ∀ r, r < q → ¬ P r := by
  intro p
  induction p using Nat.strongRecOn with
  | ind p ih =>
    intro hp
    by_cases h : ∃ r, r < p ∧ P r
    · obtain ⟨r, hr, hPr⟩ := h
      obtain ⟨q, hq, h1, h2⟩ := ih r hr hPr
      exact ⟨q, by omega, h1, h2⟩
    · exact ⟨p, Nat.le_refl _, hp, fun r hr hPr => h ⟨r, hr, hPr⟩⟩
theorem per_ex {m : List (List Int)} (h : good m) : ∃ p, IsPer m p := by
  have hn := h.1.2.1
  have hN : m.length * (m.length - 1) ≤ 30 := by
    have : m.length * (m.length - 1) ≤ 6 * 5 := Nat.mul_le_mul hn (by omega)
    omega
  have hB : 2 ^ (m.length * (m.length - 1)) ≤ 1073741824 := Nat.le_trans (Nat.pow_le_pow_right (by omega) hN) (by decide)
  obtain ⟨i, j, hij, hj, e⟩ := pigeon (2 ^ (m.length * (m.length - 1))) (fun k => codeF (bitF (nxN m k) m.length) (m.length * (m.length - 1))) (fun k _ => codeF_lt _ _ (fun t ht => bitF_bit (nxN_good h k) (nxN_len m k) ht))
  have e2 := bits_same (nxN_good h i) (nxN_good h j) (nxN_len m i) (nxN_len m j) (codeF_inj _ _ _ (fun t ht => bitF_bit (nxN_good h i) (nxN_len m i) ht) (fun t ht => bitF_bit (nxN_good h j) (nxN_len m j) ht) e)
  have e3 := nxN_back h i (j - i) (by rw [show i + (j - i) = j from by omega]; exact e2)
  obtain ⟨q, hq, ⟨h1, h2⟩, h3⟩ := least_ex (fun p => 1 ≤ p ∧ nxN m p = m) (j - i) ⟨by omega, e3⟩
  exact ⟨q, h1, by omega, h2, fun r hr1 hr2 hr => h3 r hr2 ⟨hr1, hr⟩⟩
theorem per_all (m : List (List Int)) : ∃ p, good m → IsPer m p := by
  by_cases h : good m
  · obtain ⟨p, hp⟩ := per_ex h
    exact ⟨p, fun _ => hp⟩
  · exact ⟨0, fun k => absurd k h⟩
end Go.Proofs.Ytmkldodkpijfjaa

namespace Go.Proofs.Ytmkldodkpijfjaa
open Go.RowKit

theorem OwnP.more {w : World} {B : Nat} {v : Value} {M : List (List Int)} {r : List Int} {vs : List Value} (h : OwnP w B v M.length M M.length vs) : OwnP w B v M.length (M ++ [r]) M.length vs :=
  ⟨h.top, fun i hi => by rw [gr_lt (by simp; omega), List.getElem_append_left hi, ← gr_lt hi]; exact h.rows i hi, h.apart⟩
theorem gr_last (M : List (List Int)) (r : List Int) : gr (M ++ [r]) M.length = r := by
  rw [gr_lt (by simp)]
  simp
end Go.Proofs.Ytmkldodkpijfjaa

namespace Go.Proofs.Ytmkldodkpijfjaa
open Go.RowKit

theorem ownsRow_neq {w : World} {B B' n n' : Nat} {e e' : TypeId} {x v : Value} {xs ys : List Value} (h : w.ownsRow B e 1 x n xs) (k : w.ownsRow B' e' 1 v n' ys) (hne : e ≠ e') : ∀ g, x.ownBlock = some g → v.ownBlock ≠ some g := by
  intro g hg hv
  rcases h.2 with ⟨rfl, _⟩ | ⟨g1, cap1, cur1, rfl, _, h1, _⟩
  · simp [Value.ownBlock] at hg
  rcases k.2 with ⟨rfl, _⟩ | ⟨g2, cap2, cur2, rfl, _, h2, _⟩
  · simp [Value.ownBlock] at hv
  simp only [Value.ownBlock, Option.some.injEq] at hg hv
  subst hg hv
  rw [h1] at h2
  simp only [Option.some.injEq, Obj.cells.injEq] at h2
  exact hne h2.2.1

theorem OwnM.grownL {w w1 : World} {B B' n : Nat} {x v : Value} {m : List (List Int)} {ys : List Value} {o : Obj} (h : OwnM w B x m) (ht : w.ownsRow B' 22 1 v n ys) (hg : (w.alloc o).grownBy w1 v.ownBlock) : OwnM w1 B x m := by
  have kept : ∀ (e : TypeId) (x : Value) (n : Nat) (xs : List Value), e ≠ 22 → w.ownsRow B e 1 x n xs → w1.ownsRow B e 1 x n xs := by
    intro e x n xs he hx
    refine (World.ownsRow.alloc hx o).kept hg ?_
    cases hb : x.ownBlock with
    | none => exact .inl rfl
    | some g => exact .inr (fun e' => ownsRow_neq hx ht he g hb e'.symm)
  obtain ⟨vs, h⟩ := h
  exact ⟨vs, kept _ _ _ _ (by decide) h.top, fun i hi => kept _ _ _ _ (by decide) (h.rows i hi), h.apart⟩

/-- a slice of k tables that the call owns from block B on -/
structure OwnLf (w : World) (B : Nat) (v : Value) (k : Nat) (f : Nat → List (List Int)) (vs : List Value) : Prop where
  top : w.ownsRow B 22 1 v k vs
  each : ∀ i, i < k → OwnM w B (vs.getD i undef) (f i)

theorem OwnLf.below {w w' : World} {B n : Nat} {v : Value} {f : Nat → List (List Int)} {vs : List Value} (h : OwnLf w B v n f vs) (hb : Below w.heap.size w w') : OwnLf w' B v n f vs :=
  ⟨ownsRow_below h.top hb, fun i hi => (h.each i hi).below hb⟩
theorem OwnLf.base {w : World} {B B' n : Nat} {v : Value} {f : Nat → List (List Int)} {vs : List Value} (h : OwnLf w B v n f vs) (hB : B' ≤ B) : OwnLf w B' v n f vs :=
  ⟨ownsRow_base h.top hB, fun i hi => (h.each i hi).base hB⟩
theorem OwnLf.nil (w : World) (B : Nat) (f : Nat → List (List Int)) : OwnLf w B (.slice none 0 0) 0 f [] := ⟨World.ownsRow_nil _ _ _ _, fun i hi => absurd hi (by omega)⟩
theorem OwnLf.head {w : World} {B n : Nat} {v : Value} {f : Nat → List (List Int)} {vs : List Value} (h : OwnLf w B v n f vs) : ∃ ao c, v = .slice ao n c ∧ n ≤ c ∧ c ≤ 9223372036854775807 := by
  obtain ⟨ao, c, e, h1, h2, _⟩ := ownsRow_read h.top
  exact ⟨ao, c, e, h1, h2⟩
theorem OwnLf.snoc {w w1 : World} {B k : Nat} {v v' u : Value} {f : Nat → List (List Int)} {vs : List Value} {o : Obj} (h : OwnLf w B v k f vs) (hB : B ≤ w.heap.size) (hu : OwnM w B u (f k))
    (h1 : w1.ownsRow B 22 1 v' (k + 1) (vs ++ [u])) (hg : (w.alloc o).grownBy w1 v.ownBlock) : OwnLf w1 B v' (k + 1) f (vs ++ [u]) ∧ Below B w w1 := by
  have hl : vs.length = k := by simpa using h.top.1
  refine ⟨⟨h1, fun i hi => ?_⟩, Below.grown ((Below.refl B w).alloc hB o) hg (by simp; omega) (fun k hk => (World.ownsRow.lt h.top k hk).1)⟩
  have hget : (vs ++ [u]).getD i undef = if i = k then u else vs.getD i undef := by
    simp only [List.getD]
    split
    · next e => subst e; rw [List.getElem?_append_right (by omega), hl]; simp
    · next e => rw [List.getElem?_append_left (by omega)]
  rw [hget]
  split
  · next e => subst e; exact hu.grownL h.top hg
  · next e => exact (h.each i (by omega)).grownL h.top hg
theorem Try.info_intss : (Try.prog.info? 22).map (fun i => (i.zero, i.size, i.bytes)) = some (some (.slice none 0 0), 1, 24) := by kernel_rfl
def lenV : Value → Nat
  | .slice _ n _ => n
  | _ => 0
/-- it returns the first p tables, and true, if P; else nothing and false -/
def GRes (P : Prop) (p : Nat) (f : Nat → List (List Int)) (w : World) (B : Nat) (e : Ending) : Prop :=
  ∃ v b k vs, e = .returned (.tuple #[v, .bool b]) ∧ OwnLf w B v k f vs ∧ ((P ∧ b = true ∧ k = p) ∨ (¬P ∧ b = false ∧ k = 0))
theorem GRes.yes {P : Prop} {p : Nat} {f : Nat → List (List Int)} {w : World} {B : Nat} {v : Value} {vs : List Value} (h : P) (ho : OwnLf w B v p f vs) : GRes P p f w B (.returned (.tuple #[v, .bool true])) := ⟨v, true, p, vs, rfl, ho, .inl ⟨h, rfl, rfl⟩⟩
theorem GRes.no {P : Prop} {p : Nat} {f : Nat → List (List Int)} {w : World} {B : Nat} (h : ¬P) : GRes P p f w B (.returned (.tuple #[.slice none 0 0, .bool false])) := ⟨_, false, 0, [], rfl, OwnLf.nil _ _ _, .inr ⟨h, rfl, rfl⟩⟩
/-- .., the rows of all tables apart -/
structure OrbL (w : World) (B : Nat) (v : Value) (k : Nat) (f : Nat → List (List Int)) (vs : List Value) (uss : List (List Value)) : Prop where
  top : w.ownsRow B 22 1 v k vs
  num : uss.length = k
  each : ∀ i, i < k → OwnP w B (vs.getD i undef) (f i).length (f i) (f i).length (uss.getD i [])
  apart : ∀ i j, i < j → j < k → ∀ a b, a < (f i).length → b < (f j).length → ∀ g, ((uss.getD i []).getD a undef).ownBlock = some g → ((uss.getD j []).getD b undef).ownBlock ≠ some g
theorem OrbL.toLf {w : World} {B k : Nat} {v : Value} {f : Nat → List (List Int)} {vs : List Value} {uss : List (List Value)} (h : OrbL w B v k f vs uss) : OwnLf w B v k f vs := ⟨h.top, fun i hi => ⟨_, h.each i hi⟩⟩
theorem OrbL.below {w w' : World} {B k : Nat} {v : Value} {f : Nat → List (List Int)} {vs : List Value} {uss : List (List Value)} (h : OrbL w B v k f vs uss) (hb : Below w.heap.size w w') : OrbL w' B v k f vs uss :=
  ⟨ownsRow_below h.top hb, h.num, fun i hi => (h.each i hi).below hb, h.apart⟩
theorem OrbL.base {w : World} {B B' k : Nat} {v : Value} {f : Nat → List (List Int)} {vs : List Value} {uss : List (List Value)} (h : OrbL w B v k f vs uss) (hB : B' ≤ B) : OrbL w B' v k f vs uss :=
  ⟨ownsRow_base h.top hB, h.num, fun i hi => (h.each i hi).base hB, h.apart⟩
theorem OrbL.nil (w : World) (B : Nat) (f : Nat → List (List Int)) : OrbL w B (.slice none 0 0) 0 f [] [] := ⟨World.ownsRow_nil _ _ _ _, rfl, fun i hi => absurd hi (by omega), fun i j _ hj => absurd hj (by omega)⟩
theorem OrbL.head {w : World} {B k : Nat} {v : Value} {f : Nat → List (List Int)} {vs : List Value} {uss : List (List Value)} (h : OrbL w B v k f vs uss) : ∃ ao c, v = .slice ao k c ∧ k ≤ c ∧ c ≤ 9223372036854775807 := h.toLf.head
theorem OrbL.snoc {w w1 : World} {B B1 k : Nat} {v v' u : Value} {f : Nat → List (List Int)} {vs us : List Value} {uss : List (List Value)} {o : Obj} (h : OrbL w B v k f vs uss) (hB : B ≤ w.heap.size) (hu : OwnP w B1 u (f k).length (f k) (f k).length us) (hBB : B ≤ B1)
    (hold : ∀ i, i < k → ∀ a, a < (f i).length → ∀ g, ((uss.getD i []).getD a undef).ownBlock = some g → g < B1)
    (h1 : w1.ownsRow B 22 1 v' (k + 1) (vs ++ [u])) (hg : (w.alloc o).grownBy w1 v.ownBlock) : OrbL w1 B v' (k + 1) f (vs ++ [u]) (uss ++ [us]) ∧ Below B w w1 := by
  have hl : vs.length = k := by simpa using h.top.1
  have hn := h.num
  have kept : ∀ (e : TypeId) (x : Value) (n : Nat) (xs : List Value), e ≠ 22 → w.ownsRow B e 1 x n xs → w1.ownsRow B e 1 x n xs := by
    intro e x n xs he hx
    refine (World.ownsRow.alloc hx o).kept hg ?_
    cases hb : x.ownBlock with
    | none => exact .inl rfl
    | some g => exact .inr (fun e' => ownsRow_neq hx h.top he g hb e'.symm)
  have keptP : ∀ (x : Value) (m : List (List Int)) (xs : List Value), OwnP w B x m.length m m.length xs → OwnP w1 B x m.length m m.length xs := fun x m xs hx =>
    ⟨kept _ _ _ _ (by decide) hx.top, fun i hi => kept _ _ _ _ (by decide) (hx.rows i hi), hx.apart⟩
  have getv : ∀ i, (vs ++ [u]).getD i undef = if i = k then u else vs.getD i undef := fun i => by
    simp only [List.getD]
    split
    · next e => subst e; rw [List.getElem?_append_right (by omega), hl]; simp
    · next e =>
      by_cases hi : i < k
      · rw [List.getElem?_append_left (by omega)]
      · rw [List.getElem?_append_right (by omega), hl, List.getElem?_eq_none (l := [u]) (by simp; omega), List.getElem?_eq_none (l := vs) (by omega)]
  have getu : ∀ i, i < k + 1 → (uss ++ [us]).getD i [] = if i = k then us else uss.getD i [] := fun i hi => by
    simp only [List.getD]
    split
    · next e => subst e; rw [List.getElem?_append_right (by omega), hn]; simp
    · next e => rw [List.getElem?_append_left (by omega)]
  refine ⟨⟨h1, by simp [hn], fun i hi => ?_, fun i j hij hj a b ha hb g hg1 hg2 => ?_⟩, Below.grown ((Below.refl B w).alloc hB o) hg (by simp; omega) (fun k hk => (World.ownsRow.lt h.top k hk).1)⟩
  · rw [getv, getu i hi]
    split
    · next e => subst e; exact keptP _ _ _ (hu.base hBB)
    · next e => exact keptP _ _ _ (h.each i (by omega))
  · rw [getu i (by omega), if_neg (by omega)] at hg1
    rw [getu j hj] at hg2
    by_cases e : j = k
    · rw [if_pos e] at hg2
      subst e
      have a1 := hold i hij a ha g hg1
      have a2 := ((hu.rows b hb).lt g hg2).1
      omega
    · rw [if_neg e] at hg2
      exact h.apart i j hij (by omega) a b ha hb g hg1 hg2
/-- .., told with the rows apart -/
def GResA (P : Prop) (p : Nat) (f : Nat → List (List Int)) (w : World) (B : Nat) (e : Ending) : Prop :=
  ∃ v b k vs uss, e = .returned (.tuple #[v, .bool b]) ∧ OrbL w B v k f vs uss ∧ ((P ∧ b = true ∧ k = p) ∨ (¬P ∧ b = false ∧ k = 0))
theorem GResA.yes {P : Prop} {p : Nat} {f : Nat → List (List Int)} {w : World} {B : Nat} {v : Value} {vs : List Value} {uss : List (List Value)} (h : P) (ho : OrbL w B v p f vs uss) : GResA P p f w B (.returned (.tuple #[v, .bool true])) := ⟨v, true, p, vs, uss, rfl, ho, .inl ⟨h, rfl, rfl⟩⟩
theorem GResA.no {P : Prop} {p : Nat} {f : Nat → List (List Int)} {w : World} {B : Nat} (h : ¬P) : GResA P p f w B (.returned (.tuple #[.slice none 0 0, .bool false])) := ⟨_, false, 0, [], [], rfl, OrbL.nil _ _ _, .inr ⟨h, rfl, rfl⟩⟩
theorem fin_of_per {m : List (List Int)} {p k : Nat} (h : IsPer m p) (hk : 1 ≤ k) (hkp : k ≤ p) (e : nxN m k = m) : k = p := by
  rcases Nat.lt_or_eq_of_le hkp with h1 | h1
  · exact absurd e (h.2.2.2 k hk h1)
  · exact h1
end Go.Proofs.Ytmkldodkpijfjaa

namespace Go.Proofs.Ytmkldodkpijfjaa
open Go.RowKit

theorem ints_cells {w : World} {ad : Addr} {xs : List Int} {o : Obj} (h : IntsAt w (some ad) xs) : ∀ j u, (xs.map (Value.int .i64))[j]? = some u → (w.alloc o).cell? (ad.add j) = some u := by
  intro j u hj
  have hjl : j < xs.length := by
    have := (List.getElem?_eq_some_iff.1 hj).1
    simpa using this
  obtain ⟨b, o', e, hc⟩ := h j hjl
  cases e
  have e : (xs.map (Value.int .i64))[j]? = some (Value.int .i64 (gi xs j)) := by simp [gi, List.getD, hjl]
  rw [e] at hj
  cases hj
  rw [Addr.add_lit]
  exact Lib.cell?_alloc_some _ hc

set_option maxRecDepth 100000 in
set_option maxHeartbeats 400000 in
theorem l1Own_any (ao : Option Addr) (c : Nat) (xs : List Int) (w : World) (hn : xs.length ≤ 1048576) (hc0 : ao = none → c = 0) (hx : IntsAt w ao xs) :
    Calls Try.prog 58 #[.slice ao xs.length c] w fun e w' => ∃ v, e = .returned v ∧ OwnI w' w.heap.size v xs ∧ Below w.heap.size w w' := by
  obtain ⟨i0, hi, hz0, hz1, hz2⟩ := info_parts Try.info_int
  cases ao with
  | none =>
    obtain rfl : xs = [] := by
      cases xs with
      | nil => rfl
      | cons a r => obtain ⟨b, o, e, _⟩ := hx 0 (by simp); cases e
    obtain rfl := hc0 rfl
    clear hx
    go_enter Try.func58, Try.ntmps58
    go_wp2_with (at_builtin; refine wpList_append_own_none rfl _ _ 38 rfl w.heap.size 3 i0 1 Try.underlying38 hi _ _ _ rfl (World.ownsRow_made w #[] 0 (Nat.le_refl _) (Nat.zero_le _) rfl) rfl ?_)
    go_wp2
    go_ret
    exact ⟨_, rfl, World.ownsRow_made w #[] 0 (Nat.le_refl _) (Nat.zero_le _) rfl, (Below.refl _ _).alloc (Nat.le_refl _) _⟩
  | some ad =>
    have A := Lib.hid hx
    clear hx
    go_enter Try.func58, Try.ntmps58
    go_wp2_with (at_builtin; refine wpList_append_own _ rfl _ _ 38 rfl w.heap.size 3 i0 (.int .i64 0) 1 8 Try.underlying38 hi hz0 hz1 hz2 rfl (by decide) _ _ _ rfl (World.ownsRow_made w #[] 0 (Nat.le_refl _) (Nat.zero_le _) rfl) ad xs.length c (xs.map (Value.int .i64)) rfl ?qc1 ?qc2 ?qc3 ?qc4 ?qc5 ?qc6 ?_)
    case qc1 => simp
    case qc2 => exact ints_cells A.out
    case qc3 => intro u hu; obtain ⟨x, _, rfl⟩ := List.mem_map.1 hu; rfl
    case qc4 => unfold maxLen; omega
    case qc5 => omega
    case qc6 => simp
    intro v' w1 hown hgrow hnil
    go_wp2
    go_ret
    refine ⟨v', rfl, by simpa [OwnI] using hown, ?_⟩
    exact ((Below.refl _ w).alloc (Nat.le_refl _) _).grown hgrow (by simp) (by intro k hk; simp [Value.ownBlock] at hk; omega)

/-- a slice that is written out -/
theorem ownsRow_built {e : TypeId} {base : Nat} (w : World) (vs : List Value) (hb : base ≤ w.heap.size) (hm : vs.length ≤ 9223372036854775807) :
    (w.alloc (.cells vs.toArray e)).ownsRow base e 1 (.slice (some ⟨w.heap.size, 0, none⟩) vs.length vs.length) vs.length vs :=
  ⟨by simp, .inr ⟨w.heap.size, vs.length, vs.toArray, rfl, hb, heap_alloc_new w _, Nat.le_refl _, hm, by simp, by simp⟩⟩

def slLen : Value → Nat
  | .slice _ n _ => n
  | _ => 0

/-- rows ahead of which a new one has been put: what append leaves of a slice of one row behind which all others come -/
theorem OwnP.front {w w1 : World} {B n : Nat} {v v' u : Value} {m : List (List Int)} {xs : List Int} {vs : List Value} (h : OwnP w B v n m n vs) (hu : OwnI w B u xs)
    (hne : ∀ j, j < n → ∀ g, (vs.getD j undef).ownBlock = some g → u.ownBlock ≠ some g)
    (h1 : w1.ownsRow B 38 1 v' (1 + n) ([u] ++ vs)) (hb : Below w.heap.size w w1) : OwnP w1 B v' (n + 1) (xs :: m) (n + 1) (u :: vs) := by
  refine ⟨by rw [Nat.add_comm]; exact h1, fun i hi => ?_, fun i j hij hj g hg => ?_⟩
  · cases i with
    | zero => exact hu.below hb
    | succ i =>
      have := (h.rows i (by omega)).below hb
      simpa [gr_cons_succ] using this
  · obtain ⟨j, rfl⟩ : ∃ k, j = k + 1 := ⟨j - 1, by omega⟩
    cases i with
    | zero =>
      intro hg2
      exact hne j (by omega) g (by simpa using hg2) (by simpa using hg)
    | succ i =>
      have := h.apart i j (by omega) (by omega) g (by simpa using hg)
      simpa using this
end Go.Proofs.Ytmkldodkpijfjaa

namespace Go.Proofs.Ytmkldodkpijfjaa
open Go.RowKit

set_option maxRecDepth 100000 in
set_option maxHeartbeats 1600000 in
theorem gyOwn_any (ao : Option Addr) (cp : Nat) (m : List (List Int)) (w : World) (hg : good m) (hm : MatAt w ao m) :
    Calls Try.prog 45 #[.slice ao m.length cp] w fun e w' => ∃ v, e = .returned v ∧ OwnM w' w.heap.size v m ∧ Below w.heap.size w w' := by
  obtain ⟨j0, hj, hy0, hy1, hy2⟩ := info_parts Try.info_ints
  have hn := hg.1.2.1
  have Hm := Lib.hid hm
  have Hrow := Lib.hid hg.1.2.2
  have hpos := hg.1.1
  obtain ⟨n, hnn⟩ : ∃ n, n = m.length := ⟨_, rfl⟩
  rw [← hnn] at hn hpos ⊢
  have Hn := Lib.hid hnn
  clear hm hg hnn
  go_enter Try.func45, Try.ntmps45
  go_wp2
  go_loopw [3, 8] (fun out i wr => ∃ t : Nat, t ≤ n ∧ i = .int .i64 t ∧ OwnM wr w.heap.size out (m.take t) ∧ Below w.heap.size w wr) (fun _ i _ => n - (intOf i).toNat)
  case atStart => exact ⟨0, Nat.zero_le _, rfl, by rw [List.take_zero]; exact OwnM.nil _ _, Below.refl _ _⟩
  case round =>
    obtain ⟨t, ht, rfl, hown, hbr⟩ := hrel
    have Hbr := Lib.hid hbr
    have HZr := Lib.hid hbr.size
    by_cases hlt : t < n
    · have hlt' : t < m.length := by rw [← Hn.out]; exact hlt
      obtain ⟨b, o, r, rc, rfl, hrow, hr, hrc, _⟩ := (Hm.out.below hbr) t hlt'
      have hrl : (gr m t).length = n := by rw [Hrow.out t hlt', Hn.out]
      obtain ⟨row, hrw⟩ : ∃ row, row = gr m t := ⟨_, rfl⟩
      have hsn : m.take (t + 1) = m.take t ++ [row] := by rw [hrw, List.take_add_one, List.getElem?_eq_getElem hlt', gr_lt hlt']; rfl
      rw [← hrw] at hrow hr hrl hrc
      rw [hrl] at hrow hrc
      have hcall := l1Own_any r rc row wr (by omega) (fun e => by obtain ⟨_, _, e2, _⟩ := hr 0 (by omega); rw [e] at e2; cases e2) hr
      rw [hrl] at hcall
      have Hcall := Lib.hid hcall
      obtain ⟨q, hq⟩ : ∃ q, q = m.take t := ⟨_, rfl⟩
      rw [← hq] at hown hsn
      obtain ⟨vs, hown⟩ := hown
      have htl : q.length = t := by rw [hq, List.length_take]; omega
      have Hown := Lib.hid hown
      have Htl := Lib.hid htl
      have Hsn := Lib.hid hsn
      clear hlt' hr hrl hrw hsn hcall hown hbr htl hrc hq
      go_wp2_with fail
      refine Hcall.out.mono ?_
      rintro e w3 ⟨u, rfl, hu, hb3⟩
      obtain ⟨ua, uc, rfl, _, _, _⟩ := hu.read
      have Hu := Lib.hid hu
      have Hown3 := Lib.hid ((Hown.out.below hb3).more (r := row))
      have Hfr := Lib.hid (Hown.out.fresh hu (Nat.le_refl _))
      have Hb3 := Lib.hid (Hbr.out.trans (hb3.mono HZr.out))
      have HZ3 := Lib.hid Hb3.out.size
      clear hu hb3 Hcall
      go_wp2_with (at_builtin; refine wpList_append_own _ rfl _ _ 22 rfl w.heap.size 38 j0 (.slice none 0 0) 1 24 Try.underlying22 hj hy0 hy1 hy2 rfl (by decide) _ _ _ rfl (World.ownsRow.alloc Hown3.out.top _) ⟨w3.heap.size, 0, none⟩ 1 1 [.slice ua row.length uc] rfl rfl ?d1 ?d2 ?d3 ?d4 ?d5 ?_)
      case d1 => exact cell_one_new _ _ _
      case d2 => intro u hu; simp at hu; subst hu; rfl
      case d3 => have := Htl.out; unfold maxLen; omega
      case d4 => have := Htl.out; omega
      case d5 => have := HZ3.out; simp; omega
      intro v' w5 hown' hgrow _
      have hput := Hown3.out.snoc HZ3.out (by rw [gr_last]; exact Hu.out.base HZr.out) Hfr.out hown' hgrow
      have Hput := Lib.hid hput
      have Hb5 := Lib.hid (Hb3.out.trans hput.2)
      clear hput hown' hgrow
      go_wp2
      go_roundw
      case rel => exact ⟨t + 1, by omega, by go_num, by rw [Hsn.out]; exact ⟨_, by rw [List.length_append]; exact Hput.out.1⟩, Hb5.out⟩
      case measure => simp [intOf]; omega
    · obtain rfl : t = n := by omega
      have hfull : m.take t = m := by rw [Hn.out]; exact List.take_length
      rw [hfull] at hown
      have Hown := Lib.hid hown
      clear hown hbr hfull
      go_wp2
      go_ret
      exact ⟨_, rfl, Hown.out, Hbr.out⟩

theorem gyNext_nx (ao : Option Addr) (cp k : Nat) (m : List (List Int)) (w : World) (hk : k = m.length) (hg : good m) (hm : MatAt w ao m) :
    Calls Try.prog 46 #[.slice ao k cp] w fun e w' => ∃ v, e = .returned v ∧ OwnM w' w.heap.size v (nx m) ∧ Below w.heap.size w w' := by
  subst hk
  exact gyNext_any ao cp m w hg hm

set_option maxRecDepth 100000 in
set_option maxHeartbeats 3200000 in
theorem gyOrbit_any (ao : Option Addr) (cp : Nat) (m : List (List Int)) (p : Nat) (w : World) (hg : good m) (hp : IsPer m p) (hm : MatAt w ao m) :
    Calls Try.prog 26 #[.slice ao m.length cp] w fun e w' => GRes (p ≤ 1000) p (nxN m) w' w.heap.size e ∧ Below w.heap.size w w' := by
  obtain ⟨j0, hj, hy0, hy1, hy2⟩ := info_parts Try.info_intss
  have Hg := Lib.hid hg
  have Hp := Lib.hid hp
  have Hm := Lib.hid hm
  have hp1 := hp.1
  have Hown0 := Lib.hid (gyOwn_any ao cp m w hg hm)
  obtain ⟨n, hnn⟩ : ∃ n, n = m.length := ⟨_, rfl⟩
  rw [← hnn] at Hown0 ⊢
  have Hn := Lib.hid hnn
  clear hg hp hm hnn
  go_enter Try.func26, Try.ntmps26
  go_wp2_with fail
  refine Hown0.out.mono ?_
  rintro e w1 ⟨v1, rfl, hv1, hb1⟩
  obtain ⟨a1, c1, rfl, _, _, _⟩ := hv1.read
  have hal : Below w1.heap.size w1 (w1.alloc (.cells #[.slice a1 m.length c1] 22)) := (Below.refl _ _).alloc (Nat.le_refl _) _
  have Hlist := Lib.hid (show OwnLf (w1.alloc (.cells #[.slice a1 m.length c1] 22)) w.heap.size (.slice (some ⟨w1.heap.size, 0, none⟩) 1 1) 1 (nxN m) [.slice a1 m.length c1] from
    ⟨ownsRow_base (World.ownsRow_lit w1 #[.slice a1 m.length c1] 1 (Nat.le_refl _) (by unfold maxLen; omega) rfl) hb1.size, fun i hi => by (have e : i = 0 := by omega); subst e; exact hv1.below hal⟩)
  have Hb1 := Lib.hid (hb1.trans (hal.mono hb1.size))
  have HZ1 := Lib.hid Hb1.out.size
  have Hnx := Lib.hid (gyNext_nx ao cp n m (w1.alloc (.cells #[.slice a1 m.length c1] 22)) Hn.out Hg.out (Hm.out.below Hb1.out))
  clear hv1 hb1 hal Hown0
  go_wp2_with fail
  refine Hnx.out.mono ?_
  rintro e w2 ⟨v2, rfl, hv2, hb2⟩
  have Hl2 := Lib.hid (Hlist.out.below hb2)
  have Hv2 := Lib.hid (hv2.base HZ1.out)
  have Hb2 := Lib.hid (Hb1.out.trans (hb2.mono HZ1.out))
  clear hv2 hb2 Hnx Hlist
  go_wp2
  go_loopw [4, 5] (fun out now wr => ∃ (k : Nat) (vs : List Value), 1 ≤ k ∧ k ≤ p ∧ k ≤ 1000 ∧ OwnLf wr w.heap.size out k (nxN m) vs ∧ OwnM wr w.heap.size now (nxN m k) ∧ Below w.heap.size w wr) (fun out _ _ => p - lenV out)
  case atStart => exact ⟨1, _, Nat.le_refl _, hp1, by omega, Hl2.out, Hv2.out, Hb2.out⟩
  case round =>
    obtain ⟨k, vs, hk1, hkp, hk, hlist, hnow, hbr⟩ := hrel
    obtain ⟨la, lc, rfl, _, _⟩ := hlist.head
    obtain ⟨na, nc, rfl, _, _, hmn⟩ := hnow.read
    have hgk := nxN_good Hg.out k
    have hsame := heSame_any na ao nc cp (nxN m k) m wr ⟨by have := hgk.1.2.1; omega, fun i hi => by rw [hgk.1.2.2 i hi]; have := hgk.1.2.1; omega⟩ ⟨by have := Hg.out.1.2.1; omega, fun i hi => by rw [Hg.out.1.2.2 i hi]; have := Hg.out.1.2.1; omega⟩ hmn (Hm.out.below hbr)
    have Hlist := Lib.hid hlist
    have Hnow := Lib.hid hnow
    have Hbr := Lib.hid hbr
    have HZr := Lib.hid hbr.size
    rw [nxN_len, ← Hn.out] at hsame
    have Hsame := Lib.hid hsame
    have Hgk := Lib.hid hgk
    have Hnl := Lib.hid (nxN_len m k)
    clear hlist hnow hbr hsame hgk hmn
    rw [Hnl.out, ← Hn.out]
    go_wp2_with fail
    refine Hsame.out.mono ?_
    rintro e w3 ⟨ha, hb3⟩
    have Hlist3 := Lib.hid (Hlist.out.below hb3)
    have Hnow3 := Lib.hid (Hnow.out.below hb3)
    have Hb3 := Lib.hid (Hbr.out.trans (hb3.mono HZr.out))
    have HZ3 := Lib.hid Hb3.out.size
    clear hb3 Hsame Hlist Hnow
    by_cases he : nxN m k = m
    · have hkp2 := fin_of_per Hp.out hk1 hkp he
      obtain rfl := ha.is he
      subst hkp2
      clear ha he
      go_wp2
      go_ret2
      exact ⟨GRes.yes hk Hlist3.out, Hb3.out⟩
    · obtain rfl := ha.isnt he
      have hlt : k < p := by
        rcases Nat.lt_or_eq_of_le hkp with h1 | h1
        · exact h1
        · subst h1; exact absurd Hp.out.2.2.1 he
      clear ha he
      by_cases h1000 : k = 1000
      · have hq : ((k : Int) == 1000) = true := by simp; omega
        have H1000 := Lib.hid h1000
        clear h1000
        go_wp2
        go_ret2
        exact ⟨GRes.no (by have := H1000.out; omega), Hb3.out⟩
      · have hq : ((k : Int) == 1000) = false := by simp; omega
        have Hlt := Lib.hid (show k + 1 ≤ 1000 by omega)
        clear h1000
        have Hnow4 := Lib.hid Hnow3.out
        go_wp2_with (at_builtin; refine wpList_append_own _ rfl _ _ 31 rfl w.heap.size 22 j0 (.slice none 0 0) 1 24 Try.underlying31 hj hy0 hy1 hy2 rfl (by decide) _ _ _ rfl (World.ownsRow.alloc Hlist3.out.top _) ⟨w3.heap.size, 0, none⟩ 1 1 [.slice na n nc] rfl rfl ?d1 ?d2 ?d3 ?d4 ?d5 ?_)
        case d1 => exact cell_one_new _ _ _
        case d2 => intro u hu; simp at hu; subst hu; rfl
        case d3 => unfold maxLen; omega
        case d4 => omega
        case d5 => have := HZ3.out; simp; omega
        intro v' w5 hown' hgrow _
        have hnow3 : OwnM w3 w.heap.size (.slice na n nc) (nxN m k) := by
          have h := Hnow3.out
          rwa [Hnl.out, ← Hn.out] at h
        have hput := Hlist3.out.snoc HZ3.out hnow3 hown' hgrow
        have hnow5 := hnow3.grownL Hlist3.out.top hgrow
        obtain ⟨na2, nc2, e2, _, _, hmn5⟩ := hnow5.read
        simp only [Value.slice.injEq] at e2
        obtain ⟨rfl, -, rfl⟩ := e2
        have Hput := Lib.hid hput
        have Hb5 := Lib.hid (Hb3.out.trans hput.2)
        have HZ5 := Lib.hid Hb5.out.size
        have Hcall := Lib.hid (gyNext_nx na nc n (nxN m k) w5 (by rw [Hnl.out, Hn.out]) Hgk.out hmn5)
        clear hput hown' hgrow hnow3 hnow5 hmn5
        go_wp2_with fail
        refine Hcall.out.mono ?_
        rintro e w6 ⟨v6, rfl, hv6, hb6⟩
        have Hv6 := Lib.hid (hv6.base HZ5.out)
        have Hl6 := Lib.hid (Hput.out.1.below hb6)
        have Hb6 := Lib.hid (Hb5.out.trans (hb6.mono HZ5.out))
        obtain ⟨la6, lc6, hv6e, _, _⟩ := Hl6.out.head
        subst hv6e
        clear hv6 hb6 Hcall
        go_wp2
        go_roundw
        case rel => exact ⟨k + 1, _, by omega, by omega, Hlt.out, Hl6.out, Hv6.out, Hb6.out⟩
        case measure => simp [lenV]; omega

def orOk (m : List (List Int)) (p : Nat) : Prop := good m ∧ p ≤ 1000

set_option maxRecDepth 100000 in
set_option maxHeartbeats 1600000 in
theorem specGyrationOrbit_any (ao : Option Addr) (cp : Nat) (m : List (List Int)) (w : World) (hs : Small m) (hm : MatAt w ao m) (p : Nat) (hp : good m → IsPer m p) :
    Calls Try.prog 11 #[.slice ao m.length cp] w fun e w' => GRes (orOk m p) p (nxN m) w' w.heap.size e ∧ Below w.heap.size w w' := by
  have Hs := Lib.hid hs
  have Hm := Lib.hid hm
  have Hp := Lib.hid hp
  clear hs hm hp
  go_enter Try.func11, Try.ntmps11
  go_wp2_with fail
  refine (sgGood_any ao cp m w Hs.out Hm.out).mono ?_
  rintro e w1 ⟨ha, hb⟩
  have Hb := Lib.hid hb
  have HB := Lib.hid hb.size
  clear hb
  by_cases hg : good m
  · have Hg := Lib.hid hg
    obtain rfl := ha.is hg
    have Hcall := Lib.hid (gyOrbit_any ao cp m p w1 hg (Hp.out hg) (Hm.out.below Hb.out))
    clear ha hg
    go_wp2_with fail
    refine Hcall.out.mono ?_
    rintro e w2 ⟨⟨v, b, k, vs, rfl, hl, hr⟩, hb2⟩
    have Hl := Lib.hid (hl.base HB.out)
    have Hr := Lib.hid hr
    have Hb2 := Lib.hid (Hb.out.trans (hb2.mono HB.out))
    clear hl hr hb2
    go_wp2
    go_ret2
    exact ⟨⟨v, b, k, vs, rfl, Hl.out, by
      rcases Hr.out with ⟨h1, h2, h3⟩ | ⟨h1, h2, h3⟩
      · exact .inl ⟨⟨Hg.out, h1⟩, h2, h3⟩
      · exact .inr ⟨fun h => h1 h.2, h2, h3⟩⟩, Hb2.out⟩
  · have Hg := Lib.hid hg
    obtain rfl := ha.isnt hg
    clear ha hg
    go_wp2
    go_ret2
    exact ⟨GRes.no (fun h => Hg.out h.1), Hb.out⟩

end Go.Proofs.Ytmkldodkpijfjaa

namespace Go.Proofs.Ytmkldodkpijfjaa
open Go.RowKit

set_option maxRecDepth 100000 in
set_option maxHeartbeats 3200000 in
theorem stepAt_any (n : Int) (f : Nat → Nat → Int) (i j : Nat) (w : World) (hi0 : 1 ≤ i) (hi : i + 1 < 7) (hj0 : 1 ≤ j) (hj : j + 1 < 7) (hf : Near f) :
    Calls Try.prog 104 #[.agg (tc n f), .agg (cl i j)] w fun e w' => e = .returned (.int .i64 (2 * way f i j)) ∧ Below w.heap.size w w' := by
  have Hf := Lib.hid hf
  clear hf
  go_enter Try.func104, Try.ntmps104
  go_upto_region 1 with (first | (refine wpList_boxT rfl 47 _ rfl _ rfl ?_) | (refine wpList_boxT rfl 104 _ rfl _ rfl ?_))
  generalize hW : World.alloc (World.alloc w _) _ = w1
  have hT : TerrAt w1 w.heap.size n f := by rw [← hW]; exact tc_bot w _ _ _ _
  have hC : CellAt w1 (w.heap.size + 1) i j := by rw [← hW]; exact tc_top w _ _ _
  have hB : Below w.heap.size w w1 := by rw [← hW]; exact two_below w _ _
  clear hW
  have b0 := Hf.out i j (by omega) (by omega)
  refine wp_region_held_drew (S := fun w' => TerrAt w' w.heap.size n f ∧ CellAt w' (w.heap.size + 1) i j ∧ Below w.heap.size w w') (by kernel_rfl) ⟨hT, hC, below_drewN hB 1⟩ (fun hHeld => ?_)
  clear hT hC hB
  refine wpAnyH_take (i := 0) (oi := ⟨some 7, _, _, _, _, _⟩) (v := .agg (tl n f).toArray) rfl (by kernel_rfl) (by kernel_rfl) (by kernel_rfl) (fun _ _ _ h => h) (yieldsIf_load_mid (by rfl) _ _ rfl w.heap.size 0 rfl (tl n f) _ (fun w hw => hw.1.rangeT) Try.underlying47 rfl (Try.size_terrl n f)) hHeld ?_
  simp only [Act.put, List.setIfInBounds_toArray, List.set_cons_zero, List.set_cons_succ]
  refine wpAnyH_take (i := 1) (oi := ⟨some 8, _, _, _, _, _⟩) (v := .agg [.int .i64 (i : Int), .int .i64 (j : Int)].toArray) rfl (by kernel_rfl) (by kernel_rfl) (by kernel_rfl) (fun _ _ _ h => h) (yieldsIf_load_mid (by rfl) _ _ rfl (w.heap.size + 1) 0 rfl [.int .i64 (i : Int), .int .i64 (j : Int)] _ (fun w hw => hw.2.1.range) Try.underlying104 rfl (Try.size_celll i j)) hHeld ?_
  simp only [Act.put, List.setIfInBounds_toArray, List.set_cons_zero, List.set_cons_succ]
  refine wpAnyH_take (i := 4) (oi := ⟨some 11, _, _, _, _, _⟩) (v := .agg (tl n f).toArray) rfl (by kernel_rfl) (by kernel_rfl) (by kernel_rfl) (fun _ _ _ h => h) (yieldsIf_load_mid (by rfl) _ _ rfl w.heap.size 0 rfl (tl n f) _ (fun w hw => hw.1.rangeT) Try.underlying47 rfl (Try.size_terrl n f)) hHeld ?_
  simp only [Act.put, List.setIfInBounds_toArray, List.set_cons_zero, List.set_cons_succ]
  refine wpAnyH_take (i := 5) (oi := ⟨some 12, _, _, _, _, _⟩) (v := .agg [.int .i64 (i : Int), .int .i64 (j : Int)].toArray) rfl (by kernel_rfl) (by kernel_rfl) (by kernel_rfl) (fun _ _ _ h => h) (yieldsIf_load_mid (by rfl) _ _ rfl (w.heap.size + 1) 0 rfl [.int .i64 (i : Int), .int .i64 (j : Int)] _ (fun w hw => hw.2.1.range) Try.underlying104 rfl (Try.size_celll i j)) hHeld ?_
  simp only [Act.put, List.setIfInBounds_toArray, List.set_cons_zero, List.set_cons_succ]
  refine wpAnyH_ready (rs := [2]) (by kernel_rfl) (by simp) (AllReadyH.cons (o := ⟨some 9, _, _, _, _, _⟩) rfl (fun KK hKK => ?_) AllReadyH.nil)
  rw [if_pos (by rfl)]
  have Hheld := Lib.hid hHeld
  clear hHeld
  go_wp2_with (go_at_call 105; refine (at_any n f i j _ (by omega) (by omega)).mono ?_; rintro e w2 ⟨rfl, hb⟩)
  refine hKK.out _ _ ⟨Hheld.out.1.below hb, Hheld.out.2.1.below hb, Hheld.out.2.2.trans (hb.mono Hheld.out.2.2.size)⟩ (fun hHeld => ?_)
  clear hb Hheld hKK KK
  have k1 : IntKind.i64.wrap (f i j + 1) = f i j + 1 := w64 (by omega)
  have k2 : IntKind.i64.wrap (f i j - 1) = f i j - 1 := w64 (by omega)
  refine wpAnyH_take (i := 3) (oi := ⟨some 10, _, _, _, _, _⟩) (v := .int .i64 (f i j + 1)) rfl (by kernel_rfl) (by kernel_rfl) (by kernel_rfl) (fun _ _ _ h => h) (Or.inl ⟨by rfl, ?y1⟩) hHeld ?_
  case y1 => intro w hSw; go_simp
  simp only [Act.put, List.setIfInBounds_toArray, List.set_cons_zero, List.set_cons_succ]
  refine wpAnyH_ready (rs := [6]) (by kernel_rfl) (by simp) (AllReadyH.cons (o := ⟨some 13, _, _, _, _, _⟩) rfl (fun KK hKK => ?_) AllReadyH.nil)
  rw [if_pos (by rfl)]
  have Hheld := Lib.hid hHeld
  clear hHeld
  go_wp2_with (go_at_call 105; refine (at_any n f i j _ (by omega) (by omega)).mono ?_; rintro e w2 ⟨rfl, hb⟩)
  refine hKK.out _ _ ⟨Hheld.out.1.below hb, Hheld.out.2.1.below hb, Hheld.out.2.2.trans (hb.mono Hheld.out.2.2.size)⟩ (fun hHeld => ?_)
  clear hb Hheld hKK KK
  refine wpAnyH_take (i := 7) (oi := ⟨some 14, _, _, _, _, _⟩) (v := .int .i64 (f i j - 1)) rfl (by kernel_rfl) (by kernel_rfl) (by kernel_rfl) (fun _ _ _ h => h) (Or.inl ⟨by rfl, ?y1⟩) hHeld ?_
  case y1 => intro w hSw; go_simp
  simp only [Act.put, List.setIfInBounds_toArray, List.set_cons_zero, List.set_cons_succ]
  refine wpAnyH_take (i := 8) (oi := ⟨some 5, _, _, _, _, _⟩) (v := .int .i64 (f i j + 1)) rfl (by kernel_rfl) (by kernel_rfl) (by kernel_rfl) (fun _ _ _ h => h) (Or.inl ⟨by rfl, ?y1⟩) hHeld ?_
  case y1 => intro w hSw; go_simp
  simp only [Act.put, List.setIfInBounds_toArray, List.set_cons_zero, List.set_cons_succ]
  refine wpAnyH_take (i := 9) (oi := ⟨some 6, _, _, _, _, _⟩) (v := .int .i64 (f i j - 1)) rfl (by kernel_rfl) (by kernel_rfl) (by kernel_rfl) (fun _ _ _ h => h) (Or.inl ⟨by rfl, ?y1⟩) hHeld ?_
  case y1 => intro w hSw; go_simp
  simp only [Act.put, List.setIfInBounds_toArray, List.set_cons_zero, List.set_cons_succ]
  refine wpAnyH_done (by kernel_rfl) ?_ _
  obtain ⟨hT, hC, hB⟩ := hHeld
  clear k1 k2
  have HT := Lib.hid hT
  have HC := Lib.hid hC
  have HB := Lib.hid hB
  have HZ := Lib.hid hB.size
  have hcall := fun w' => around_any n f i j w' hi0 hi hj0 hj
  have a1 := Hf.out (i - 1) j (by omega) (by omega)
  have a2 := Hf.out i (j - 1) (by omega) (by omega)
  have a3 := Hf.out i (j + 1) (by omega) (by omega)
  have a4 := Hf.out (i + 1) j (by omega) (by omega)
  have hway : way f i j = if f (i - 1) j = f i j + 1 ∧ f i (j - 1) = f i j + 1 ∧ f i (j + 1) = f i j + 1 ∧ f (i + 1) j = f i j + 1 then 1 else if f (i - 1) j = f i j - 1 ∧ f i (j - 1) = f i j - 1 ∧ f i (j + 1) = f i j - 1 ∧ f (i + 1) j = f i j - 1 then -1 else 0 := rfl
  generalize f (i - 1) j = x1 at hcall a1 hway
  generalize f i (j - 1) = x2 at hcall a2 hway
  generalize f i (j + 1) = x3 at hcall a3 hway
  generalize f (i + 1) j = x4 at hcall a4 hway
  obtain ⟨x, hx⟩ : ∃ x, x = f i j := ⟨_, rfl⟩
  rw [← hx] at hway b0 ⊢
  have hA : Fits x1 ∧ Fits x2 ∧ Fits x3 ∧ Fits x4 ∧ Fits (x + 1) ∧ Fits (x - 1) := by unfold Fits; omega
  have hE1 := fun w' => Try.eq_four hA.1 hA.2.1 hA.2.2.1 hA.2.2.2.1 hA.2.2.2.2.1 hA.2.2.2.2.1 hA.2.2.2.2.1 hA.2.2.2.2.1 w'
  have hE2 := fun w' => Try.eq_four hA.1 hA.2.1 hA.2.2.1 hA.2.2.2.1 hA.2.2.2.2.2 hA.2.2.2.2.2 hA.2.2.2.2.2 hA.2.2.2.2.2 w'
  clear hA a1 a2 a3 a4
  have Hcall := Lib.hid hcall
  have Hway := Lib.hid hway
  clear hT hC hB hcall hway hx
  by_cases hu : x1 = x + 1 ∧ x2 = x + 1 ∧ x3 = x + 1 ∧ x4 = x + 1
  · rw [decide_eq_true hu] at hE1
    have HE1 := Lib.hid hE1
    have Hu := Lib.hid hu
    clear hu hE1 hE2
    go_wp2_with (first
      | (refine wpList_loadG rfl 47 _ rfl w.heap.size rfl _ _ HT.out Try.underlying47 rfl (Try.size_terr _ _) ?_)
      | (refine wpList_loadG rfl 104 _ rfl (w.heap.size + 1) rfl _ _ HC.out Try.underlying104 rfl (Try.size_cell _ _) ?_)
      | (go_at_call 106; refine (Hcall.out _).mono ?_; rintro e w9 ⟨rfl, hb9⟩)
      | (refine wpList_eqA rfl 112 112 _ _ rfl (fl4 x1 x2 x3 x4).toArray (fl4 (x + 1) (x + 1) (x + 1) (x + 1)).toArray rfl rfl Try.guard_four true (HE1.out _) ?_))
    have Hb9 := Lib.hid (HB.out.trans (hb9.mono HZ.out))
    clear hb9
    go_ret
    exact ⟨by rw [Hway.out, if_pos Hu.out]; rfl, Hb9.out⟩
  · rw [decide_eq_false hu] at hE1
    have HE1 := Lib.hid hE1
    have Hu := Lib.hid hu
    clear hu hE1
    by_cases hd : x1 = x - 1 ∧ x2 = x - 1 ∧ x3 = x - 1 ∧ x4 = x - 1
    all_goals
      first
        | rw [decide_eq_true hd] at hE2
        | rw [decide_eq_false hd] at hE2
      have HE2 := Lib.hid hE2
      have Hd := Lib.hid hd
      clear hd hE2
      go_wp2_with (first
        | (refine wpList_loadG rfl 47 _ rfl w.heap.size rfl _ _ HT.out Try.underlying47 rfl (Try.size_terr _ _) ?_)
        | (refine wpList_loadG rfl 104 _ rfl (w.heap.size + 1) rfl _ _ HC.out Try.underlying104 rfl (Try.size_cell _ _) ?_)
        | (go_at_call 106; refine (Hcall.out _).mono ?_; rintro e w9 ⟨rfl, hb9⟩)
        | (refine wpList_eqA rfl 112 112 _ _ rfl (fl4 x1 x2 x3 x4).toArray (fl4 (x + 1) (x + 1) (x + 1) (x + 1)).toArray rfl rfl Try.guard_four _ (HE1.out _) ?_)
        | (refine wpList_eqA rfl 112 112 _ _ rfl (fl4 x1 x2 x3 x4).toArray (fl4 (x - 1) (x - 1) (x - 1) (x - 1)).toArray rfl rfl Try.guard_four _ (HE2.out _) ?_))
      have Hb9 := Lib.hid (HB.out.trans (hb9.mono HZ.out))
      clear hb9
      go_ret
      first
        | exact ⟨by rw [Hway.out, if_neg Hu.out, if_pos Hd.out]; rfl, Hb9.out⟩
        | exact ⟨by rw [Hway.out, if_neg Hu.out, if_neg Hd.out]; rfl, Hb9.out⟩
end Go.Proofs.Ytmkldodkpijfjaa

