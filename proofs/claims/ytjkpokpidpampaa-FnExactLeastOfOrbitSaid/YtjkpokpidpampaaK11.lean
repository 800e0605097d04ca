/- Parts of proofs: contracts and plain facts. Conditions: as each says. -/
import Derived.Test.YtjkpokpidpampaaK10
import Derived.Laws.CopyOwn
import Derived.Shelf.Strings.Builder1
import Derived.Shelf.Strings.BuilderK
import Derived.Shelf.Small.Wraps
import Derived.Ground.Names2Prog
import Derived.Ground.NamesProg
import Derived.Test.YtjkpokpidpampaaProg
namespace Go.Proofs.Ytjkpokpidpampaa
open Go.RowKit

/-- cells of one colour, no one twice: their toggles don't meet -/
def sameCol (ps : List (Nat × Nat)) : Prop := ps.Nodup ∧ ∀ p ∈ ps, ∀ q ∈ ps, (p.1 + p.2) % 2 = (q.1 + q.2) % 2
theorem sameCol.tail {p : Nat × Nat} {ps : List (Nat × Nat)} (h : sameCol (p :: ps)) : sameCol ps := ⟨(List.nodup_cons.1 h.1).2, fun a ha b hb => h.2 a (List.mem_cons_of_mem _ ha) b (List.mem_cons_of_mem _ hb)⟩
theorem way_far {c : Nat → Nat → Int} {i j : Nat} {p : Nat × Nat} (hi : 1 ≤ i) (hj : 1 ≤ j) (hc : (p.1 + p.2) % 2 = (i + j) % 2) (hne : p ≠ (i, j)) : way (hOf (flipC c p.1 p.2)) i j = way (hOf c) i j := by
  have hne' : ¬ (i = p.1 ∧ j = p.2) := fun h => hne (by rw [h.1, h.2])
  have k : ∀ a b, ¬ (a = p.1 ∧ b = p.2) → hOf (flipC c p.1 p.2) a b = hOf c a b := fun a b h => by
    unfold flipC
    rw [hOf_setC, if_neg h]
  refine way_congr (k _ _ hne') (k _ _ ?_) (k _ _ ?_) (k _ _ ?_) (k _ _ ?_)
  all_goals
    rintro ⟨h1, h2⟩
    omega
/-- what toggles of one colour leave at each place -/
theorem togL_at : ∀ (ps : List (Nat × Nat)) (c : Nat → Nat → Int), sameCol ps → (∀ p ∈ ps, 1 ≤ p.1 ∧ 1 ≤ p.2) → ∀ a b, togL c ps a b = if (a, b) ∈ ps then c a b - way (hOf c) a b else c a b
  | [], c, _, _, a, b => by simp [togL_nil]
  | p :: ps, c, h, hp, a, b => by
    rw [togL_cons, togL_at ps _ h.tail (fun q hq => hp q (List.mem_cons_of_mem _ hq)) a b]
    have hnd := (List.nodup_cons.1 h.1).1
    by_cases e : (a, b) = p
    · subst e
      rw [if_neg hnd, if_pos (List.mem_cons_self ..)]
      unfold flipC setC
      rw [if_pos ⟨rfl, rfl⟩]
    · have hv : flipC c p.1 p.2 a b = c a b := by
        unfold flipC setC
        rw [if_neg (fun h => e (by rw [h.1, h.2]))]
      by_cases hm : (a, b) ∈ ps
      · have hq := hp (a, b) (List.mem_cons_of_mem _ hm)
        rw [if_pos hm, if_pos (List.mem_cons_of_mem _ hm), hv, way_far hq.1 hq.2 (h.2 p (List.mem_cons_self ..) (a, b) (List.mem_cons_of_mem _ hm)) (fun h => e h.symm)]
      · rw [if_neg hm, if_neg (fun k => (List.mem_cons.1 k).elim (fun k => e k) hm), hv]
theorem way_back {c : Nat → Nat → Int} {n : Nat} (_hc : Crn n c) {d : Nat → Nat → Int} {p : Nat × Nat} (hp : inn n p) (h0 : d p.1 p.2 = c p.1 p.2 - way (hOf c) p.1 p.2) (h1 : d (p.1 - 1) p.2 = c (p.1 - 1) p.2) (h2 : d p.1 (p.2 - 1) = c p.1 (p.2 - 1)) (h3 : d p.1 (p.2 + 1) = c p.1 (p.2 + 1)) (h4 : d (p.1 + 1) p.2 = c (p.1 + 1) p.2) :
    way (hOf d) p.1 p.2 = - way (hOf c) p.1 p.2 := by
  obtain ⟨i, j⟩ := p
  obtain ⟨hi1, hi2, hj1, hj2⟩ := hp
  simp only at *
  have e0 : hOf d i j = hOf c i j + 2 * way (hOf c) i j := by unfold hOf; rw [h0]; unfold hOf; omega
  have e1 : hOf d (i - 1) j = hOf c (i - 1) j := by unfold hOf; rw [h1]
  have e2 : hOf d i (j - 1) = hOf c i (j - 1) := by unfold hOf; rw [h2]
  have e3 : hOf d i (j + 1) = hOf c i (j + 1) := by unfold hOf; rw [h3]
  have e4 : hOf d (i + 1) j = hOf c (i + 1) j := by unfold hOf; rw [h4]
  by_cases hu : up1 (hOf c) i j
  · have hw : way (hOf c) i j = 1 := if_pos hu
    rw [hw] at e0 ⊢
    unfold up1 at hu
    have n1 : ¬ up1 (hOf d) i j := fun k => by unfold up1 at k; omega
    have n2 : down1 (hOf d) i j := by unfold down1; omega
    unfold way
    rw [if_neg n1, if_pos n2]
  · by_cases hd : down1 (hOf c) i j
    · have hw : way (hOf c) i j = -1 := by unfold way; rw [if_neg hu, if_pos hd]
      rw [hw] at e0 ⊢
      unfold down1 at hd
      have n1 : up1 (hOf d) i j := by unfold up1; omega
      unfold way
      rw [if_pos n1]
      rfl
    · have hw : way (hOf c) i j = 0 := by unfold way; rw [if_neg hu, if_neg hd]
      rw [hw] at e0 ⊢
      rw [way_congr (g := hOf c) (by omega) e1 e2 e3 e4, hw]
      rfl

/-- the flip of a colour undoes itself -/
theorem togL_twice {n : Nat} {c : Nat → Nat → Int} (hc : Crn n c) {ps : List (Nat × Nat)} (hs : sameCol ps) (hp : ∀ p ∈ ps, inn n p) (a b : Nat) : togL (togL c ps) ps a b = c a b := by
  have hp' : ∀ p ∈ ps, 1 ≤ p.1 ∧ 1 ≤ p.2 := fun p h => ⟨(hp p h).1, (hp p h).2.2.1⟩
  have h1 := togL_at ps c hs hp'
  rw [togL_at ps (togL c ps) hs hp' a b, h1 a b]
  by_cases hm : (a, b) ∈ ps
  · rw [if_pos hm, if_pos hm]
    have hin := hp _ hm
    have far : ∀ x y, (x + y) % 2 ≠ (a + b) % 2 → togL c ps x y = c x y := fun x y hxy => by
      rw [h1 x y, if_neg (fun h => hxy (hs.2 _ h _ hm))]
    obtain ⟨i1, i2, j1, j2⟩ := hin
    simp only at i1 i2 j1 j2
    have hb := way_back hc (d := togL c ps) (p := (a, b)) ⟨i1, i2, j1, j2⟩ (by rw [h1, if_pos hm]) (far _ _ (by simp only; omega)) (far _ _ (by simp only; omega)) (far _ _ (by simp only; omega)) (far _ _ (by simp only; omega))
    simp only at hb
    rw [hb]
    omega
  · rw [if_neg hm, if_neg hm]

theorem rowCells_nodup (i t : Nat) : (rowCells i t).Nodup := by
  unfold rowCells
  exact List.Pairwise.map _ (fun a b h k => h (Prod.mk.inj k).2) (List.Pairwise.filter _ List.nodup_range)
theorem allCells_nodup (n : Nat) : ∀ s, (allCells n s).Nodup
  | 0 => by simp [allCells]
  | s + 1 => by
    by_cases h : 1 ≤ s
    · rw [allCells_succ n s h, List.nodup_append]
      refine ⟨allCells_nodup n s, rowCells_nodup s n, fun a ha b hb e => ?_⟩
      subst e
      have h1 := mem_allCells ha
      have h2 := mem_rowCells hb
      omega
    · obtain rfl : s = 0 := by omega
      rw [allCells_one]
      exact List.nodup_nil
theorem colL_same (n : Nat) (col : Int) : sameCol (colL col (allCells n n)) := by
  refine ⟨List.Pairwise.filter _ (allCells_nodup n n), fun p hp q hq => ?_⟩
  have h1 := (List.mem_filter.1 hp).2
  have h2 := (List.mem_filter.1 hq).2
  simp only [decide_eq_true_eq] at h1 h2
  omega

/-- a matrix behind a gyration, behind one back -/
def nx (m : List (List Int)) : List (List Int) := gyC m [0, 1]
def pv (m : List (List Int)) : List (List Int) := gyC m [1, 0]
theorem gyC_twice {m : List (List Int)} (h : good m) (col : Int) : gyC (gyC m [col]) [col] = m := by
  rw [gyC_append h]
  show unC m.length (togL (S2 m) (colsL m.length [col, col])) = m
  have e : colsL m.length [col, col] = colL col (allCells m.length m.length) ++ colL col (allCells m.length m.length) := by simp [colsL]
  rw [e, togL_append]
  have h2 := unC_congr (n := m.length) (a := togL (togL (S2 m) (colL col (allCells m.length m.length))) (colL col (allCells m.length m.length))) (b := S2 m) (fun i j _ _ => togL_twice (good_crn h) (colL_same _ col) (fun p hp => allCells_inn p (colL_mem hp)) i j)
  rw [h2, unC_S2 h.1]
theorem pv_nx {m : List (List Int)} (h : good m) : pv (nx m) = m := by
  unfold pv nx
  rw [show ([0, 1] : List Int) = [0] ++ [1] from rfl, ← gyC_append h, show ([1, 0] : List Int) = [1] ++ [0] from rfl, ← gyC_append (gyC_good (gyC_good h [0]) [1]), gyC_twice (gyC_good h [0]), gyC_twice h]
theorem nx_good {m : List (List Int)} (h : good m) : good (nx m) := gyC_good h _
theorem nx_len (m : List (List Int)) : (nx m).length = m.length := gyC_len _ _

def nxN (m : List (List Int)) : Nat → List (List Int)
  | 0 => m
  | k + 1 => nx (nxN m k)
theorem nxN_good {m : List (List Int)} (h : good m) : ∀ k, good (nxN m k)
  | 0 => h
  | k + 1 => nx_good (nxN_good h k)
theorem nxN_len (m : List (List Int)) : ∀ k, (nxN m k).length = m.length
  | 0 => rfl
  | k + 1 => by show (nx (nxN m k)).length = _; rw [nx_len, nxN_len m k]
theorem nxN_back {m : List (List Int)} (h : good m) : ∀ (i j : Nat), nxN m i = nxN m (i + j) → nxN m j = m
  | 0, j, e => by rw [Nat.zero_add] at e; exact e.symm
  | i + 1, j, e => by
    have e1 : nx (nxN m i) = nx (nxN m (i + j)) := by rw [show i + 1 + j = (i + j) + 1 from by omega] at e; exact e
    have e2 := congrArg pv e1
    rw [pv_nx (nxN_good h i), pv_nx (nxN_good h (i + j))] at e2
    exact nxN_back h i j e2

theorem pigeon : ∀ (B : Nat) (f : Nat → Nat), (∀ k, k ≤ B → f k < B) → ∃ i j, i < j ∧ j ≤ B ∧ f i = f j
  | 0, f, h => absurd (h 0 (Nat.le_refl _)) (by omega)
  | B + 1, f, h => by
    by_cases hx : ∃ k, k ≤ B ∧ f k = f (B + 1)
    · obtain ⟨k, hk, e⟩ := hx
      exact ⟨k, B + 1, by omega, Nat.le_refl _, e⟩
    · have hx' : ∀ k, k ≤ B → f k ≠ f (B + 1) := fun k hk e => hx ⟨k, hk, e⟩
      obtain ⟨i, j, hij, hj, e⟩ := pigeon B (fun k => if f k = B then f (B + 1) else f k) (fun k hk => by
        have h1 := h k (by omega)
        have h2 := h (B + 1) (Nat.le_refl _)
        have h3 := hx' k hk
        show (if f k = B then f (B + 1) else f k) < B
        split
        · next e => omega
        · next e => omega)
      refine ⟨i, j, hij, by omega, ?_⟩
      have h1 := hx' i (by omega)
      have h2 := hx' j hj
      split at e <;> split at e <;> omega

/-- bits as a number -/
def codeF (f : Nat → Int) : Nat → Nat
  | 0 => 0
  | N + 1 => (f 0).toNat + 2 * codeF (fun k => f (k + 1)) N
theorem codeF_lt : ∀ (N : Nat) (f : Nat → Int), (∀ k, k < N → 0 ≤ f k ∧ f k ≤ 1) → codeF f N < 2 ^ N
  | 0, f, _ => by simp [codeF]
  | N + 1, f, h => by
    have h0 := h 0 (by omega)
    have h1 := codeF_lt N (fun k => f (k + 1)) (fun k hk => h (k + 1) (by omega))
    rw [Nat.pow_succ]
    show (f 0).toNat + 2 * codeF (fun k => f (k + 1)) N < 2 ^ N * 2
    omega
theorem codeF_inj : ∀ (N : Nat) (f g : Nat → Int), (∀ k, k < N → 0 ≤ f k ∧ f k ≤ 1) → (∀ k, k < N → 0 ≤ g k ∧ g k ≤ 1) → codeF f N = codeF g N → ∀ k, k < N → f k = g k
  | 0, f, g, _, _, _, k, hk => absurd hk (by omega)
  | N + 1, f, g, hf, hg, e, k, hk => by
    have f0 := hf 0 (by omega)
    have g0 := hg 0 (by omega)
    have e' : (f 0).toNat + 2 * codeF (fun k => f (k + 1)) N = (g 0).toNat + 2 * codeF (fun k => g (k + 1)) N := e
    rcases k with _ | k
    · omega
    · exact codeF_inj N (fun k => f (k + 1)) (fun k => g (k + 1)) (fun k hk => hf (k + 1) (by omega)) (fun k hk => hg (k + 1) (by omega)) (by omega) k (by omega)

def bitF (m : List (List Int)) (n k : Nat) : Int := S2 m (k / (n - 1) + 1) (k % (n - 1) + 1) - S2 m (k / (n - 1)) (k % (n - 1) + 1)
theorem bitF_bit {m : List (List Int)} (h : good m) {n : Nat} (hn : m.length = n) {k : Nat} (hk : k < n * (n - 1)) : 0 ≤ bitF m n k ∧ bitF m n k ≤ 1 := by
  have h1 : 0 < n - 1 := by
    rcases Nat.eq_zero_or_pos (n - 1) with e | e
    · rw [e] at hk; omega
    · exact e
  have h2 : k / (n - 1) < n := (Nat.div_lt_iff_lt_mul h1).2 hk
  have h3 := Nat.mod_lt k h1
  have := (good_crn h).down (k / (n - 1)) (k % (n - 1) + 1) (by omega) (by omega)
  unfold bitF
  omega
theorem bits_same {m k : List (List Int)} (hm : good m) (hk : good k) {n : Nat} (hn : m.length = n) (hn2 : k.length = n) (h : ∀ t, t < n * (n - 1) → bitF m n t = bitF k n t) : m = k := by
  have cm := good_crn hm
  have ck := good_crn hk
  rw [hn] at cm
  rw [hn2] at ck
  have key : ∀ i j, i ≤ n → j ≤ n → S2 m i j = S2 k i j := by
    intro i j hi hj
    by_cases hj0 : j = 0
    · subst hj0; rw [cm.left i hi, ck.left i hi]
    · by_cases hjn : j = n
      · subst hjn; rw [cm.right i hi, ck.right i hi]
      · induction i with
        | zero => rw [cm.top j hj, ck.top j hj]
        | succ i ih =>
          have hlt : i * (n - 1) + (j - 1) < n * (n - 1) := by
            have : (i + 1) * (n - 1) ≤ n * (n - 1) := Nat.mul_le_mul_right _ hi
            rw [Nat.succ_mul] at this
            omega
          have hb := h (i * (n - 1) + (j - 1)) hlt
          unfold bitF at hb
          have e1 : (i * (n - 1) + (j - 1)) / (n - 1) = i := by
            rw [Nat.mul_comm, Nat.mul_add_div (by omega), Nat.div_eq_of_lt (by omega)]
            omega
          have e2 : (i * (n - 1) + (j - 1)) % (n - 1) = j - 1 := by
            rw [Nat.mul_comm, Nat.mul_add_mod, Nat.mod_eq_of_lt (by omega)]
          rw [e1, e2, show j - 1 + 1 = j from by omega] at hb
          have := ih (by omega)
          omega
  rw [← unC_S2 hm.1, ← unC_S2 hk.1, hn, hn2]
  exact unC_congr key

/-- p is the length of the orbit -/
def IsPer (m : List (List Int)) (p : Nat) : Prop := 1 ≤ p ∧ p ≤ 1073741824 ∧ nxN m p = m ∧ ∀ q, 1 ≤ q → q < p → nxN m q ≠ m
theorem least_ex (P : Nat → Prop) : ∀ p, P p → ∃ q, q ≤ p ∧ P q ∧ ∀ r, r < q → ¬ P r := by
  intro p
  induction p using Nat.strongRecOn with
  | ind p ih =>
    intro hp
    by_cases h : ∃ r, r < p ∧ P r
    · obtain ⟨r, hr, hPr⟩ := h
      obtain ⟨q, hq, h1, h2⟩ := ih r hr hPr
      exact ⟨q, by omega, h1, h2⟩
    · exact ⟨p, Nat.le_refl _, hp, fun r hr hPr => h ⟨r, hr, hPr⟩⟩
theorem per_ex {m : List (List Int)} (h : good m) : ∃ p, IsPer m p := by
  have hn := h.1.2.1
  have hN : m.length * (m.length - 1) ≤ 30 := by
    have : m.length * (m.length - 1) ≤ 6 * 5 := Nat.mul_le_mul hn (by omega)
    omega
  have hB : 2 ^ (m.length * (m.length - 1)) ≤ 1073741824 := Nat.le_trans (Nat.pow_le_pow_right (by omega) hN) (by decide)
  obtain ⟨i, j, hij, hj, e⟩ := pigeon (2 ^ (m.length * (m.length - 1))) (fun k => codeF (bitF (nxN m k) m.length) (m.length * (m.length - 1))) (fun k _ => codeF_lt _ _ (fun t ht => bitF_bit (nxN_good h k) (nxN_len m k) ht))
  have e2 := bits_same (nxN_good h i) (nxN_good h j) (nxN_len m i) (nxN_len m j) (codeF_inj _ _ _ (fun t ht => bitF_bit (nxN_good h i) (nxN_len m i) ht) (fun t ht => bitF_bit (nxN_good h j) (nxN_len m j) ht) e)
  have e3 := nxN_back h i (j - i) (by rw [show i + (j - i) = j from by omega]; exact e2)
  obtain ⟨q, hq, ⟨h1, h2⟩, h3⟩ := least_ex (fun p => 1 ≤ p ∧ nxN m p = m) (j - i) ⟨by omega, e3⟩
  exact ⟨q, h1, by omega, h2, fun r hr1 hr2 hr => h3 r hr2 ⟨hr1, hr⟩⟩
theorem per_all (m : List (List Int)) : ∃ p, good m → IsPer m p := by
  by_cases h : good m
  · obtain ⟨p, hp⟩ := per_ex h
    exact ⟨p, fun _ => hp⟩
  · exact ⟨0, fun k => absurd k h⟩
end Go.Proofs.Ytjkpokpidpampaa

namespace Go.Proofs.Ytjkpokpidpampaa
open Go.RowKit

/-- the table with 1 in row i at column p[i] -/
def pm (p : List Int) : List (List Int) := tab p.length p.length fun i j => if gi p i = j then 1 else 0
theorem pm_len (p : List Int) : (pm p).length = p.length := tab_len _ _ _
theorem gi_pm {p : List Int} {i j : Nat} (hi : i < p.length) (hj : j < p.length) : gi (gr (pm p) i) j = if gi p i = j then 1 else 0 := gi_tab hi hj
def isPerm (p : List Int) : Prop := 1 ≤ p.length ∧ p.length ≤ 6 ∧ allIn p 0 (p.length - 1) ∧ ∀ i j, i < j → j < p.length → gi p i ≠ gi p j

theorem pm_square {p : List Int} (h1 : 1 ≤ p.length) (h2 : p.length ≤ 6) : square (pm p) := ⟨by rw [pm_len]; exact h1, by rw [pm_len]; exact h2, fun i hi => by rw [pm_len] at hi ⊢; exact tab_row hi⟩

theorem one_sum {x : Int} {f : Nat → Int} (hf : ∀ j, f j = if x = j then 1 else 0) (k : Nat) : sumF f k = if 0 ≤ x ∧ x < k then 1 else 0 := by
  induction k with
  | zero => rw [if_neg (by omega)]; rfl
  | succ k ih =>
    simp only [sumF]
    rw [ih, hf k]
    by_cases h1 : x = k
    · rw [if_neg (by omega), if_pos h1, if_pos (by omega)]; rfl
    · rw [if_neg h1]
      by_cases h2 : 0 ≤ x ∧ x < k
      · rw [if_pos h2, if_pos (by omega)]; rfl
      · rw [if_neg h2, if_neg (by omega)]; rfl

theorem pm_rowsum {p : List Int} {i k : Nat} (hi : i < p.length) (hk : k ≤ p.length) : sumK (gr (pm p) i) k = if 0 ≤ gi p i ∧ gi p i < k then 1 else 0 := by
  rw [sumK_sumF, sumF_congr (g := fun j => if gi p i = j then 1 else 0) (fun j hj => gi_pm hi (by omega))]
  exact one_sum (fun _ => rfl) k

theorem pm_colsum {p : List Int} {j k : Nat} (hj : j < p.length) (hk : k ≤ p.length) (hd : ∀ i i', i < i' → i' < p.length → gi p i ≠ gi p i') :
    0 ≤ sumK (gr (tr (pm p)) j) k ∧ sumK (gr (tr (pm p)) j) k ≤ 1 ∧ (1 ≤ sumK (gr (tr (pm p)) j) k → ∃ i, i < k ∧ gi p i = j) := by
  induction k with
  | zero => simp [sumK]
  | succ k ih =>
    obtain ⟨h1, h2, h3⟩ := ih (by omega)
    have e : gi (gr (tr (pm p)) j) k = if gi p k = j then 1 else 0 := by rw [gi_tr (by rw [pm_len]; exact hj) (by rw [pm_len]; omega), gi_pm (by omega) hj]
    simp only [sumK]
    rw [e]
    by_cases hp : gi p k = j
    · rw [if_pos hp]
      have : ¬ 1 ≤ sumK (gr (tr (pm p)) j) k := fun h => by
        obtain ⟨i, hi, hij⟩ := h3 h
        exact hd i k hi (by omega) (hij.trans hp.symm)
      exact ⟨by omega, by omega, fun _ => ⟨k, by omega, hp⟩⟩
    · rw [if_neg hp]
      refine ⟨by omega, by omega, fun h => ?_⟩
      obtain ⟨i, hi, hij⟩ := h3 (by omega)
      exact ⟨i, by omega, hij⟩

theorem all_one {f : Nat → Int} : ∀ {k : Nat}, (∀ i, i < k → f i ≤ 1) → sumF f k = k → ∀ i, i < k → f i = 1
  | 0, _, _ => fun i hi => absurd hi (by omega)
  | k + 1, h, he => by
    have h0 : sumF f k ≤ k := by
      have : ∀ t, t ≤ k → sumF f t ≤ t := by
        intro t
        induction t with
        | zero => simp [sumF]
        | succ t ih => intro ht; have := ih (by omega); have := h t (by omega); simp only [sumF]; omega
      exact this k (Nat.le_refl _)
    have h1 := h k (by omega)
    simp only [sumF] at he
    intro i hi
    by_cases e : i = k
    · subst e; omega
    · exact all_one (k := k) (fun i hi => h i (by omega)) (by omega) i (by omega)

theorem pm_good {p : List Int} (h : isPerm p) : good (pm p) := by
  obtain ⟨h1, h2, h3, h4⟩ := h
  have hrow : rowsOk (pm p) := by
    intro i hi
    rw [pm_len] at hi
    have hl : (gr (pm p) i).length = p.length := tab_row hi
    refine ⟨fun k hk => ?_, ?_⟩
    · rw [hl] at hk
      rw [pm_rowsum hi hk]
      split <;> omega
    · rw [hl, pm_rowsum hi (Nat.le_refl _), if_pos]
      have := h3 i hi
      omega
  have hcol : ∀ j, j < p.length → sumK (gr (tr (pm p)) j) p.length = 1 := by
    refine all_one (f := fun j => sumK (gr (tr (pm p)) j) p.length) (fun j hj => (pm_colsum hj (Nat.le_refl _) h4).2.1) ?_
    have e1 := S2_cols (m := pm p) (a := p.length) (b := p.length) (by rw [pm_len]; exact Nat.le_refl _) (by rw [pm_len]; exact Nat.le_refl _)
    rw [← e1]
    show sumF (fun i => sumF (fun j => gi (gr (pm p) i) j) p.length) p.length = p.length
    rw [sumF_congr (g := fun _ => 1) (fun i hi => by
      have := (hrow i (by rw [pm_len]; exact hi)).2
      rw [show (gr (pm p) i).length = p.length from tab_row hi, sumK_sumF] at this
      exact this)]
    have : ∀ k : Nat, sumF (fun _ => (1 : Int)) k = k := by
      intro k
      induction k with
      | zero => rfl
      | succ k ih => simp only [sumF]; omega
    exact this _
  refine ⟨pm_square h1 h2, hrow, fun j hj => ?_⟩
  rw [tr_len, pm_len] at hj
  have hl : (gr (tr (pm p)) j).length = p.length := by rw [tr_row (by rw [pm_len]; exact hj), pm_len]
  refine ⟨fun k hk => ?_, by rw [hl]; exact hcol j hj⟩
  rw [hl] at hk
  have := pm_colsum hj hk h4
  omega

theorem perm_of_good {p : List Int} (hin : allIn p 0 (p.length - 1)) (hg : good (pm p)) : isPerm p := by
  have h1 := hg.1.1
  have h2 := hg.1.2.1
  rw [pm_len] at h1 h2
  refine ⟨h1, h2, hin, fun i i' hii hi' he => ?_⟩
  have hp := hin i' hi'
  obtain ⟨j, hj⟩ := Int.eq_ofNat_of_zero_le hp.1
  have hjl : j < p.length := by omega
  have hc := hg.2.2 j (by rw [tr_len, pm_len]; exact hjl)
  have hl : (gr (tr (pm p)) j).length = p.length := by rw [tr_row (by rw [pm_len]; exact hjl), pm_len]
  have g1 : gi (gr (tr (pm p)) j) i = 1 := by rw [gi_tr (by rw [pm_len]; exact hjl) (by rw [pm_len]; omega), gi_pm (by omega) hjl, if_pos (by rw [he]; exact hj)]
  have g2 : gi (gr (tr (pm p)) j) i' = 1 := by rw [gi_tr (by rw [pm_len]; exact hjl) (by rw [pm_len]; omega), gi_pm (by omega) hjl, if_pos hj]
  have pos : ∀ k, k < p.length → 0 ≤ gi (gr (tr (pm p)) j) k := fun k hk => by
    rw [gi_tr (by rw [pm_len]; exact hjl) (by rw [pm_len]; omega), gi_pm hk hjl]
    split <;> omega
  have mono : ∀ a b, a ≤ b → b ≤ p.length → sumK (gr (tr (pm p)) j) a ≤ sumK (gr (tr (pm p)) j) b := by
    intro a b hab
    induction b with
    | zero => intro _; obtain rfl : a = 0 := by omega
              exact Int.le_refl _
    | succ b ih =>
      intro hb
      by_cases e : a = b + 1
      · subst e; exact Int.le_refl _
      · have := ih (by omega) (by omega)
        have := pos b (by omega)
        simp only [sumK]
        omega
  have a1 := (hc.1 i (by omega)).1
  have a2 := (hc.1 (i' + 1) (by omega)).2
  have a3 := mono (i + 1) i' (by omega) (by omega)
  simp only [sumK] at a2 a3
  omega

/-- the numbers are told apart as far as k -/
def has (xs : List Int) (x : Int) : Prop := ∃ j, j < xs.length ∧ gi xs j = x

theorem pm_small {p : List Int} (h : isPerm p) : Small (pm p) := (pm_good h).1.small
end Go.Proofs.Ytjkpokpidpampaa

namespace Go.Proofs.Ytjkpokpidpampaa
open Go.RowKit

def q4 (m : List (List Int)) (i k j t : Nat) : Int := sumF (fun l => gi (gr m i) j * gi (gr m k) l) t
def q3 (m : List (List Int)) (i k t : Nat) : Int := sumF (fun j => q4 m i k j j) t
def q2 (m : List (List Int)) (i t : Nat) : Int := sumF (fun k => q3 m i (i + 1 + k) m.length) t
def q1 (m : List (List Int)) (t : Nat) : Int := sumF (fun i => q2 m i (m.length - (i + 1))) t
def inv (m : List (List Int)) : Int := q1 m m.length

theorem unit_mul {x y : Int} {B : Int} (hx : -1 ≤ x ∧ x ≤ 1) (hy : -B ≤ y ∧ y ≤ B) : -B ≤ x * y ∧ x * y ≤ B := by
  have : x = -1 ∨ x = 0 ∨ x = 1 := by omega
  rcases this with rfl | rfl | rfl
  · rw [Int.neg_one_mul]; omega
  · rw [Int.zero_mul]; omega
  · rw [Int.one_mul]; exact hy

theorem q4_b {m : List (List Int)} (h : good m) {i k j t : Nat} (hi : i < m.length) (hk : k < m.length) (hj : j < m.length) (ht : t ≤ m.length) : -6 ≤ q4 m i k j t ∧ q4 m i k j t ≤ 6 := by
  have hn := h.1.2.1
  have := sumF_bound (f := fun l => gi (gr m i) j * gi (gr m k) l) (B := 1) (k := t) (fun l hl => unit_mul (good_entry h hi hj) (good_entry h hk (by omega)))
  unfold q4
  omega
theorem q3_b {m : List (List Int)} (h : good m) {i k t : Nat} (hi : i < m.length) (hk : k < m.length) (ht : t ≤ m.length) : -36 ≤ q3 m i k t ∧ q3 m i k t ≤ 36 := by
  have hn := h.1.2.1
  have := sumF_bound (f := fun j => q4 m i k j j) (B := 6) (k := t) (fun j hj => q4_b h hi hk (by omega) (by omega))
  unfold q3
  omega
theorem q2_b {m : List (List Int)} (h : good m) {i t : Nat} (hi : i < m.length) (ht : i + 1 + t ≤ m.length) : -216 ≤ q2 m i t ∧ q2 m i t ≤ 216 := by
  have hn := h.1.2.1
  have := sumF_bound (f := fun k => q3 m i (i + 1 + k) m.length) (B := 36) (k := t) (fun k hk => q3_b h hi (by omega) (Nat.le_refl _))
  unfold q2
  omega
theorem q1_b {m : List (List Int)} (h : good m) {t : Nat} (ht : t ≤ m.length) : -1296 ≤ q1 m t ∧ q1 m t ≤ 1296 := by
  have hn := h.1.2.1
  have := sumF_bound (f := fun i => q2 m i (m.length - (i + 1))) (B := 216) (k := t) (fun i hi => q2_b h (by omega) (by omega))
  unfold q1
  omega

theorem sumF_mul (c : Int) (f : Nat → Int) (k : Nat) : sumF (fun i => c * f i) k = c * sumF f k := by
  induction k with
  | zero => simp [sumF]
  | succ k ih => simp only [sumF]; rw [ih, Int.mul_add]
theorem sumF_swap (f : Nat → Nat → Int) (p q : Nat) : sumF (fun a => sumF (fun b => f a b) q) p = sumF (fun b => sumF (fun a => f a b) p) q := by
  induction p with
  | zero => show (0 : Int) = sumF (fun _ => 0) q; rw [sumF_zero]
  | succ p ih => show sumF (fun a => sumF (fun b => f a b) q) p + sumF (fun b => f p b) q = _; rw [ih, ← sumF_add]; rfl

/-- the program's sums -/
def u2 (m : List (List Int)) (i t : Nat) : Int := sumF (fun j => gi (gr m i) j * bsum (m.drop (i + 1)) j) t
def u1 (m : List (List Int)) (t : Nat) : Int := sumF (fun i => u2 m i m.length) t

theorem u2_q2 {m : List (List Int)} {i : Nat} : u2 m i m.length = q2 m i (m.length - (i + 1)) := by
  unfold u2 q2 q3 q4
  rw [sumF_swap]
  refine sumF_congr fun j _ => ?_
  rw [show sumF (fun a => sumF (fun l => gi (gr m i) j * gi (gr m (i + 1 + a)) l) j) (m.length - (i + 1)) = sumF (fun a => gi (gr m i) j * sumF (fun l => gi (gr m (i + 1 + a)) l) j) (m.length - (i + 1)) from
    sumF_congr fun a _ => sumF_mul _ _ _, sumF_mul]
  congr 1
  unfold bsum
  rw [List.length_drop]
  exact sumF_congr fun a _ => by rw [gr_drop]
theorem u1_inv (m : List (List Int)) : u1 m m.length = inv m := sumF_congr fun _ _ => u2_q2

theorem bs_b {m : List (List Int)} (h : good m) {i j : Nat} (hj : j ≤ m.length) : -36 ≤ bsum (m.drop i) j ∧ bsum (m.drop i) j ≤ 36 := block_bound ((h.tame hj).drop i) (Nat.le_refl _)
theorem u2_b {m : List (List Int)} (h : good m) {i t : Nat} (hi : i < m.length) (ht : t ≤ m.length) : -216 ≤ u2 m i t ∧ u2 m i t ≤ 216 := by
  have hn := h.1.2.1
  have := sumF_bound (f := fun j => gi (gr m i) j * bsum (m.drop (i + 1)) j) (B := 36) (k := t) (fun j hj => unit_mul (good_entry h hi (by omega)) (bs_b h (by omega)))
  unfold u2
  omega
theorem u1_b {m : List (List Int)} (h : good m) {t : Nat} (ht : t ≤ m.length) : -1296 ≤ u1 m t ∧ u1 m t ≤ 1296 := by
  have hn := h.1.2.1
  have := sumF_bound (f := fun i => u2 m i m.length) (B := 216) (k := t) (fun i hi => u2_b h (by omega) (Nat.le_refl _))
  unfold u1
  omega

end Go.Proofs.Ytjkpokpidpampaa

namespace Go.Proofs.Ytjkpokpidpampaa
open Go.RowKit

/-- one matrix in the first rows and columns, another in the last ones, 0 elsewhere -/
def stF (m k : List (List Int)) (i j : Nat) : Int :=
  if i < m.length then (if j < m.length then gi (gr m i) j else 0) else if m.length ≤ j then gi (gr k (i - m.length)) (j - m.length) else 0
def st (m k : List (List Int)) : List (List Int) := tab (m.length + k.length) (m.length + k.length) (stF m k)
theorem st_len (m k : List (List Int)) : (st m k).length = m.length + k.length := tab_len _ _ _
def stackable (m k : List (List Int)) : Prop := good m ∧ good k ∧ m.length + k.length ≤ 6
theorem st_small {m k : List (List Int)} (h : stackable m k) : Small (st m k) := ⟨by rw [st_len]; have := h.2.2; omega, fun i hi => by rw [st_len] at hi; unfold st; rw [tab_row hi]; have := h.2.2; omega⟩

end Go.Proofs.Ytjkpokpidpampaa

namespace Go.Proofs.Ytjkpokpidpampaa
open Go.RowKit

/-- the first difference of two rows of n numbers is a lesser number in the first one -/
def rless (n : Nat) (x y : List Int) : Prop := ∃ j, j < n ∧ (∀ i, i < j → gi x i = gi y i) ∧ gi x j < gi y j
/-- .. of two tables of n rows: a lesser row -/
def mless (n : Nat) (a b : List (List Int)) : Prop := ∃ i, i < n ∧ (∀ k, k < i → gr a k = gr b k) ∧ rless n (gr a i) (gr b i)

theorem rless_irrefl {n : Nat} {x : List Int} : ¬ rless n x x := fun ⟨_, _, _, h⟩ => by omega
theorem rless_trans {n : Nat} {x y z : List Int} (h : rless n x y) (k : rless n y z) : rless n x z := by
  obtain ⟨j, hj, h1, h2⟩ := h
  obtain ⟨i, hi, k1, k2⟩ := k
  rcases Nat.lt_trichotomy i j with e | e | e
  · exact ⟨i, hi, fun t ht => (h1 t (by omega)).trans (k1 t ht), by rw [h1 i e]; exact k2⟩
  · subst e; exact ⟨i, hi, fun t ht => (h1 t ht).trans (k1 t ht), by omega⟩
  · exact ⟨j, hj, fun t ht => (h1 t ht).trans (k1 t (by omega)), by rw [← k1 j e]; exact h2⟩
theorem rless_asymm {n : Nat} {x y : List Int} (h : rless n x y) : ¬ rless n y x := fun k => rless_irrefl (rless_trans h k)
theorem rless_total {n : Nat} {x y : List Int} (hx : x.length = n) (hy : y.length = n) : rless n x y ∨ x = y ∨ rless n y x := by
  have key : ∀ k, k ≤ n → (∀ i, i < k → gi x i = gi y i) ∨ rless n x y ∨ rless n y x := by
    intro k
    induction k with
    | zero => exact fun _ => .inl fun i hi => absurd hi (by omega)
    | succ k ih =>
      intro hk
      rcases ih (by omega) with h | h
      · rcases Int.lt_trichotomy (gi x k) (gi y k) with e | e | e
        · exact .inr (.inl ⟨k, by omega, h, e⟩)
        · refine .inl fun i hi => ?_
          by_cases e2 : i = k
          · subst e2; exact e
          · exact h i (by omega)
        · exact .inr (.inr ⟨k, by omega, fun i hi => (h i hi).symm, e⟩)
      · exact .inr h
  rcases key n (Nat.le_refl _) with h | h | h
  · exact .inr (.inl (ext_gi (by rw [hx, hy]) (fun i hi => h i (by omega))))
  · exact .inl h
  · exact .inr (.inr h)

theorem mless_irrefl {n : Nat} {a : List (List Int)} : ¬ mless n a a := fun ⟨_, _, _, h⟩ => rless_irrefl h
theorem mless_trans {n : Nat} {a b c : List (List Int)} (h : mless n a b) (k : mless n b c) : mless n a c := by
  obtain ⟨j, hj, h1, h2⟩ := h
  obtain ⟨i, hi, k1, k2⟩ := k
  rcases Nat.lt_trichotomy i j with e | e | e
  · exact ⟨i, hi, fun t ht => (h1 t (by omega)).trans (k1 t ht), by rw [h1 i e]; exact k2⟩
  · subst e; exact ⟨i, hi, fun t ht => (h1 t ht).trans (k1 t ht), rless_trans h2 k2⟩
  · exact ⟨j, hj, fun t ht => (h1 t ht).trans (k1 t (by omega)), by rw [← k1 j e]; exact h2⟩
theorem mless_asymm {n : Nat} {a b : List (List Int)} (h : mless n a b) : ¬ mless n b a := fun k => mless_irrefl (mless_trans h k)

/-- a table of n rows of n numbers -/
def sq (n : Nat) (a : List (List Int)) : Prop := a.length = n ∧ ∀ i, i < n → (gr a i).length = n
theorem square.sq {m : List (List Int)} (h : square m) : Go.Proofs.Ytjkpokpidpampaa.sq m.length m := ⟨rfl, h.2.2⟩

theorem mless_total {n : Nat} {a b : List (List Int)} (ha : sq n a) (hb : sq n b) : mless n a b ∨ a = b ∨ mless n b a := by
  have key : ∀ k, k ≤ n → (∀ i, i < k → gr a i = gr b i) ∨ mless n a b ∨ mless n b a := by
    intro k
    induction k with
    | zero => exact fun _ => .inl fun i hi => absurd hi (by omega)
    | succ k ih =>
      intro hk
      rcases ih (by omega) with h | h
      · rcases rless_total (ha.2 k (by omega)) (hb.2 k (by omega)) with e | e | e
        · exact .inr (.inl ⟨k, by omega, h, e⟩)
        · refine .inl fun i hi => ?_
          by_cases e2 : i = k
          · subst e2; exact e
          · exact h i (by omega)
        · exact .inr (.inr ⟨k, by omega, fun i hi => (h i hi).symm, e⟩)
      · exact .inr h
  rcases key n (Nat.le_refl _) with h | h | h
  · exact .inr (.inl (ext_gr (by rw [ha.1, hb.1]) (fun i hi => h i (by rw [ha.1] at hi; exact hi))))
  · exact .inl h
  · exact .inr (.inr h)

/-- the least one of the first k tables of a row of tables -/
def IsMin (n k : Nat) (f : Nat → List (List Int)) (r : List (List Int)) : Prop := (∃ i, i < k ∧ f i = r) ∧ ∀ i, i < k → ¬ mless n (f i) r

theorem IsMin.one (n : Nat) (f : Nat → List (List Int)) : IsMin n 1 f (f 0) := by
  refine ⟨⟨0, by omega, rfl⟩, fun i hi => ?_⟩
  obtain rfl : i = 0 := by omega
  exact mless_irrefl
theorem IsMin.less {n k : Nat} {f : Nat → List (List Int)} {r : List (List Int)} (h : IsMin n k f r) (hl : mless n (f k) r) : IsMin n (k + 1) f (f k) :=
  ⟨⟨k, by omega, rfl⟩, fun i hi hi2 => by
    by_cases e : i = k
    · subst e; exact mless_irrefl hi2
    · exact h.2 i (by omega) (mless_trans hi2 hl)⟩
theorem IsMin.more {n k : Nat} {f : Nat → List (List Int)} {r : List (List Int)} (h : IsMin n k f r) (hl : ¬ mless n (f k) r) : IsMin n (k + 1) f r := by
  obtain ⟨i, hi, he⟩ := h.1
  refine ⟨⟨i, by omega, he⟩, fun j hj => ?_⟩
  by_cases e : j = k
  · subst e; exact hl
  · exact h.2 j (by omega)
theorem IsMin.unique {n k k' : Nat} {f g : Nat → List (List Int)} {r r' : List (List Int)} (h : IsMin n k f r) (h' : IsMin n k' g r') (hf : ∀ i, i < k → sq n (f i)) (hg : ∀ i, i < k' → sq n (g i))
    (h1 : ∀ i, i < k → ∃ j, j < k' ∧ g j = f i) (h2 : ∀ i, i < k' → ∃ j, j < k ∧ f j = g i) : r = r' := by
  obtain ⟨i, hi, rfl⟩ := h.1
  obtain ⟨j, hj, rfl⟩ := h'.1
  rcases mless_total (hf i hi) (hg j hj) with e | e | e
  · obtain ⟨t, ht, et⟩ := h1 i hi
    exact absurd (et ▸ e) (h'.2 t ht)
  · exact e
  · obtain ⟨t, ht, et⟩ := h2 j hj
    exact absurd (et ▸ e) (h.2 t ht)

/-- turned k times -/
def cwN (m : List (List Int)) : Nat → List (List Int)
  | 0 => m
  | k + 1 => cw (cwN m k)
theorem cwN_len (m : List (List Int)) : ∀ k, (cwN m k).length = m.length
  | 0 => rfl
  | k + 1 => by rw [cwN, cw_len, cwN_len m k]
theorem square.cwN {m : List (List Int)} (h : square m) : ∀ k, square (Go.Proofs.Ytjkpokpidpampaa.cwN m k)
  | 0 => h
  | k + 1 => (h.cwN k).cw
theorem cw4 {m : List (List Int)} (h : square m) : cwN m 4 = m := by
  have l1 := cw_len m
  have l2 := cw_len (cw m)
  have l3 := cw_len (cw (cw m))
  refine ext_gr (cwN_len m 4) fun i hi => ?_
  rw [cwN_len] at hi
  have hr := (h.cwN 4).2.2 i (by rw [cwN_len]; exact hi)
  rw [cwN_len] at hr
  refine ext_gi (by rw [hr, h.2.2 i hi]) fun j hj => ?_
  rw [hr] at hj
  show gi (gr (cw (cw (cw (cw m)))) i) j = _
  rw [gi_cw (by omega) (by omega), gi_cw (by omega) (by omega), gi_cw (by omega) (by omega), gi_cw (by omega) (by omega)]
  rw [show m.length - 1 - ((cw (cw m)).length - 1 - i) = i from by omega, show (cw m).length - 1 - ((cw (cw (cw m))).length - 1 - j) = j from by omega]

/-- the images as the program lists them -/
def im (m : List (List Int)) (i : Nat) : List (List Int) := if i < 4 then cwN m i else mir (cwN m (i - 4))
/-- .. as the model comes by them -/
def sp (m : List (List Int)) (i : Nat) : List (List Int) := if i % 2 = 1 then cwN m (i / 2 + 1) else if i = 0 then m else mir (cwN m (i / 2))

theorem sq_cwN {m : List (List Int)} (h : square m) (k : Nat) : sq m.length (cwN m k) := by
  have := (h.cwN k).sq
  rw [cwN_len] at this
  exact this
theorem sq_mir {m : List (List Int)} (h : square m) (k : Nat) : sq m.length (mir (cwN m k)) := by
  have := (h.cwN k).mir.sq
  rw [mir_len, cwN_len] at this
  exact this
theorem sq_im {m : List (List Int)} (h : square m) (i : Nat) : sq m.length (im m i) := by
  unfold im
  split
  · exact sq_cwN h i
  · exact sq_mir h _
theorem sq_sp {m : List (List Int)} (h : square m) (i : Nat) : sq m.length (sp m i) := by
  unfold sp
  split
  · exact sq_cwN h _
  · split
    · exact h.sq
    · exact sq_mir h _

/-- the least image -/
def lstM (m r : List (List Int)) : Prop := IsMin m.length 8 (im m) r
theorem lst_sp {m r : List (List Int)} (h : square m) (k : IsMin m.length 9 (sp m) r) : ∀ r', lstM m r' → r = r' := by
  intro r' h'
  refine IsMin.unique k h' (fun i _ => sq_sp h i) (fun i _ => sq_im h i) (fun i hi => ?_) (fun i hi => ?_)
  · have e4 := cw4 h
    have : i = 0 ∨ i = 1 ∨ i = 2 ∨ i = 3 ∨ i = 4 ∨ i = 5 ∨ i = 6 ∨ i = 7 ∨ i = 8 := by omega
    rcases this with rfl | rfl | rfl | rfl | rfl | rfl | rfl | rfl | rfl
    · exact ⟨0, by omega, by simp [im, sp, cwN]⟩
    · exact ⟨1, by omega, by simp [im, sp]⟩
    · exact ⟨5, by omega, by simp [im, sp]⟩
    · exact ⟨2, by omega, by simp [im, sp]⟩
    · exact ⟨6, by omega, by simp [im, sp]⟩
    · exact ⟨3, by omega, by simp [im, sp]⟩
    · exact ⟨7, by omega, by simp [im, sp]⟩
    · exact ⟨0, by omega, by simp [im, sp, e4]; rfl⟩
    · exact ⟨4, by omega, by simp [im, sp, e4]; rfl⟩
  · have e4 := cw4 h
    have : i = 0 ∨ i = 1 ∨ i = 2 ∨ i = 3 ∨ i = 4 ∨ i = 5 ∨ i = 6 ∨ i = 7 := by omega
    rcases this with rfl | rfl | rfl | rfl | rfl | rfl | rfl | rfl
    · exact ⟨0, by omega, by simp [im, sp, cwN]⟩
    · exact ⟨1, by omega, by simp [im, sp]⟩
    · exact ⟨3, by omega, by simp [im, sp]⟩
    · exact ⟨5, by omega, by simp [im, sp]⟩
    · exact ⟨8, by omega, by simp [im, sp, e4]; rfl⟩
    · exact ⟨2, by omega, by simp [im, sp]⟩
    · exact ⟨4, by omega, by simp [im, sp]⟩
    · exact ⟨6, by omega, by simp [im, sp]⟩
theorem lst_one {m r r' : List (List Int)} (h : square m) (k : lstM m r) (k' : lstM m r') : r = r' :=
  IsMin.unique k k' (fun i _ => sq_im h i) (fun i _ => sq_im h i) (fun i hi => ⟨i, hi, rfl⟩) (fun i hi => ⟨i, hi, rfl⟩)
end Go.Proofs.Ytjkpokpidpampaa

namespace Go.Proofs.Ytjkpokpidpampaa
open Go.RowKit

theorem isMin_ex (n : Nat) (f : Nat → List (List Int)) : ∀ k, ∃ r, IsMin n (k + 1) f r
  | 0 => ⟨_, IsMin.one n f⟩
  | k + 1 => by
    obtain ⟨r, hr⟩ := isMin_ex n f k
    by_cases h : mless n (f (k + 1)) r
    · exact ⟨_, hr.less h⟩
    · exact ⟨r, hr.more h⟩
theorem sq_nxN {m : List (List Int)} (hg : good m) (k : Nat) : sq m.length (nxN m k) := by
  have h := (nxN_good hg k).1
  have hl := nxN_len m k
  exact ⟨hl, fun i hi => by rw [h.2.2 i (by rw [hl]; exact hi), hl]⟩
/-- x is the least of the p matrices -/
def LoIs (m : List (List Int)) (p : Nat) (x : List (List Int)) : Prop := IsMin m.length p (nxN m) x
theorem LoIs.one {m x y : List (List Int)} {p : Nat} (hg : good m) (h : LoIs m p x) (h' : IsMin m.length p (nxN m) y) : y = x :=
  IsMin.unique h' h (fun i _ => sq_nxN hg i) (fun i _ => sq_nxN hg i) (fun i hi => ⟨i, hi, rfl⟩) (fun i hi => ⟨i, hi, rfl⟩)
theorem LoIs.small {m x : List (List Int)} {p : Nat} (hg : good m) (h : LoIs m p x) : Small x := by
  obtain ⟨i, _, rfl⟩ := h.1
  exact (nxN_good hg i).1.small
/-- the period and the least one -/
theorem lo_ex (m : List (List Int)) : ∃ p x, (good m → IsPer m p) ∧ (good m → LoIs m p x) := by
  obtain ⟨p, hp⟩ := per_all m
  by_cases hg : good m
  · have h1 := (hp hg).1
    obtain ⟨x, hx⟩ := isMin_ex m.length (nxN m) (p - 1)
    exact ⟨p, x, hp, fun _ => by unfold LoIs; rwa [show p - 1 + 1 = p from by omega] at hx⟩
  · exact ⟨p, [], hp, fun h => absurd h hg⟩
end Go.Proofs.Ytjkpokpidpampaa

namespace Go.Proofs
open Go.Shelf
def Try.lays122_ren : Go.Shelf.Ren := ⟨fun | 122 => 60 | 215 => 74 | n => n, fun | 3 => 3 | 4 => 4 | n => n, fun | n => n⟩
theorem Try.lays122 : Go.Proofs.Lays.n122 Try.prog Try.lays122_ren := {
  mixed := by kernel_rfl
  f122 := Try.func60.trans (congrArg some (by kernel_rfl))
  f215 := Try.func74.trans (congrArg some (by kernel_rfl))
  t3 := Try.underlying3
  a3 := Try.isAgg3
  z3 := Try.sizeOf3
  v3 := Try.zeroValue3
  t4 := Try.underlying4
  a4 := Try.isAgg4
  z4 := Try.sizeOf4
  v4 := Try.zeroValue4 }
open Go.RowKit in
theorem Try.cmp_Compare_int (x y : Int) (w : World) :
    Calls Try.prog 60 #[.int .i64 x, .int .i64 y] w fun e w' => e = .returned (.int .i64 (Lib.compareInt x y)) ∧ w' = w := Any.cmp_Compare_int Try.lays122 x y w
#print axioms Try.cmp_Compare_int
end Go.Proofs

