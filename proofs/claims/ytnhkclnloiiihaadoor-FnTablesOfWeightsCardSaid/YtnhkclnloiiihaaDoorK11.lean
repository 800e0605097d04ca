/- Parts of proofs: contracts and plain facts. Conditions: as each says. -/
import Derived.Test.YtnhkclnloiiihaaDoorK10
import Derived.Laws.BitsAllLaws
namespace Go.Proofs.YtnhkclnloiiihaaDoor

/-- the numbers a..b -/
def rng (a b : Int) : List Int := (List.range (b - a + 1).toNat).map fun i : Nat => a + (i : Int)
theorem mem_rng {a b x : Int} : x ∈ rng a b ↔ a ≤ x ∧ x ≤ b := by
  unfold rng
  simp only [List.mem_map, List.mem_range]
  constructor
  · rintro ⟨i, hi, rfl⟩; omega
  · intro h; exact ⟨(x - a).toNat, by omega, by omega⟩
theorem rng_nil {a b : Int} (h : b < a) : rng a b = [] := by
  unfold rng
  rw [show (b - a + 1).toNat = 0 from by omega]; rfl
theorem rng_cons {a b : Int} (h : a ≤ b) : rng a b = a :: rng (a + 1) b := by
  unfold rng
  rw [show (b - a + 1).toNat = (b - (a + 1) + 1).toNat + 1 from by omega, List.range_succ_eq_map]
  simp [Function.comp_def]
  intro i hi; omega
theorem rng_snoc {a b : Int} (h : a ≤ b) : rng a b = rng a (b - 1) ++ [b] := by
  unfold rng
  rw [show (b - a + 1).toNat = (b - 1 - a + 1).toNat + 1 from by omega, List.range_succ]
  simp
  omega

/-- a row: numbers in 0..15 that rise, 1 to 6 of them -/
def isRowP (xs : List Int) : Prop := 1 ≤ xs.length ∧ xs.length ≤ 6 ∧ ∀ k, k < xs.length → (0 ≤ gi xs k ∧ gi xs k ≤ 15) ∧ (0 < k → gi xs (k - 1) < gi xs k)
/-- a row fits under the one above -/
def fitsP (row above : List Int) : Prop := ∀ k, k < above.length → gi row k ≤ gi above k ∧ gi above k ≤ gi row (k + 1)
def isTri (t : List (List Int)) : Prop := 1 ≤ t.length ∧ t.length ≤ 6 ∧ ∀ i, i < t.length → (gr t i).length = i + 1 ∧ isRowP (gr t i) ∧ (0 < i → fitsP (gr t i) (gr t (i - 1)))

/-- numbers that rise strictly, as a recursion -/
def Up : List Int → Prop
  | [] => True
  | [_] => True
  | a :: b :: r => a < b ∧ Up (b :: r)
theorem Up.tail {a : Int} {r : List Int} (h : Up (a :: r)) : Up r := by
  cases r with
  | nil => trivial
  | cons b r => exact h.2
theorem Up.lt {a : Int} {r : List Int} (h : Up (a :: r)) : ∀ x ∈ r, a < x := by
  induction r generalizing a with
  | nil => intro x hx; cases hx
  | cons b r ih =>
    intro x hx
    rcases List.mem_cons.1 hx with rfl | hx
    · exact h.1
    · have := ih h.2 x hx
      have := h.1
      omega
theorem Up.of {a : Int} {r : List Int} (h : Up r) (k : ∀ x ∈ r, a < x) : Up (a :: r) := by
  cases r with
  | nil => trivial
  | cons b r => exact ⟨k b (by simp), h⟩
theorem up_append {xs ys : List Int} (h : Up (xs ++ ys)) : Up xs ∧ Up ys ∧ ∀ x ∈ xs, ∀ y ∈ ys, x < y := by
  induction xs with
  | nil => exact ⟨trivial, h, fun x hx => by cases hx⟩
  | cons a r ih =>
    obtain ⟨h1, h2, h3⟩ := ih h.tail
    have h4 := Up.lt h
    refine ⟨Up.of h1 (fun x hx => h4 x (by simp [hx])), h2, fun x hx y hy => ?_⟩
    rcases List.mem_cons.1 hx with rfl | hx
    · exact h4 y (by simp [hy])
    · exact h3 x hx y hy
theorem up_join {xs ys : List Int} (h1 : Up xs) (h2 : Up ys) (h3 : ∀ x ∈ xs, ∀ y ∈ ys, x < y) : Up (xs ++ ys) := by
  induction xs with
  | nil => exact h2
  | cons a r ih =>
    refine Up.of (ih h1.tail (fun x hx => h3 x (by simp [hx]))) (fun x hx => ?_)
    rcases List.mem_append.1 hx with hx | hx
    · exact Up.lt h1 x hx
    · exact h3 a (by simp) x hx

theorem up_iff (xs : List Int) : Up xs ↔ ∀ k, k < xs.length → 0 < k → gi xs (k - 1) < gi xs k := by
  induction xs with
  | nil => exact ⟨fun _ k hk => absurd hk (by simp), fun _ => trivial⟩
  | cons a r ih =>
    cases r with
    | nil => exact ⟨fun _ k hk h0 => absurd hk (by simp; omega), fun _ => trivial⟩
    | cons b r =>
      constructor
      · intro h k hk h0
        obtain ⟨k, rfl⟩ : ∃ j, k = j + 1 := ⟨k - 1, by omega⟩
        cases k with
        | zero => exact h.1
        | succ k =>
          have := (ih.1 h.2) (k + 1) (by simp at hk ⊢; omega) (by omega)
          exact this
      · intro h
        refine ⟨h 1 (by simp) (by omega), ih.2 fun k hk h0 => ?_⟩
        have := h (k + 1) (by simp at hk ⊢; omega) (by omega)
        obtain ⟨k, rfl⟩ : ∃ j, k = j + 1 := ⟨k - 1, by omega⟩
        exact this

/-- numbers in 0..15 that rise -/
def Rise (xs : List Int) : Prop := Up xs ∧ ∀ x ∈ xs, 0 ≤ x ∧ x ≤ 15
theorem mem_gi {xs : List Int} {x : Int} (h : x ∈ xs) : ∃ k, k < xs.length ∧ gi xs k = x := by
  obtain ⟨k, hk, rfl⟩ := List.mem_iff_getElem.1 h
  exact ⟨k, hk, gi_lt hk⟩
theorem isRowP_iff (xs : List Int) : isRowP xs ↔ 1 ≤ xs.length ∧ xs.length ≤ 6 ∧ Rise xs := by
  unfold isRowP Rise
  rw [up_iff]
  constructor
  · rintro ⟨h1, h2, h3⟩
    refine ⟨h1, h2, fun k hk h0 => (h3 k hk).2 h0, fun x hx => ?_⟩
    obtain ⟨k, hk, rfl⟩ := mem_gi hx
    exact (h3 k hk).1
  · rintro ⟨h1, h2, h3, h4⟩
    exact ⟨h1, h2, fun k hk => ⟨h4 _ (gi_mem hk), h3 k hk⟩⟩

/-- the rows above xs whose numbers are beyond p, in order -/
def ab : List Int → Int → List (List Int)
  | [], _ => [[]]
  | [_], _ => [[]]
  | a :: b :: r, p => ((rng a b).filter fun x => decide (p < x)).flatMap fun x => (ab (b :: r) x).map fun ys => x :: ys
def above (xs : List Int) : List (List Int) := if xs.length < 2 then [] else ab xs (-1)

def lst (xs : List Int) : Int := xs.getLast?.getD (-1)
theorem lst_snoc (xs : List Int) (x : Int) : lst (xs ++ [x]) = x := by simp [lst]
theorem lst_nil : lst [] = -1 := rfl

/-- each beginning lengthened by each number in lo..hi beyond it -/
def leng (bs : List (List Int)) (lo hi : Int) : List (List Int) := bs.flatMap fun b => ((rng lo hi).filter fun v => decide (lst b < v)).map fun v => b ++ [v]
def bfs : List Int → List (List Int) → List (List Int)
  | [], bs => bs
  | [_], bs => bs
  | a :: b :: r, bs => bfs (b :: r) (leng bs a b)

theorem bfs_ab (xs : List Int) (bs : List (List Int)) : bfs xs bs = bs.flatMap fun b => (ab xs (lst b)).map fun ys => b ++ ys := by
  induction xs generalizing bs with
  | nil => simp [bfs, ab]
  | cons a r ih =>
    cases r with
    | nil => simp [bfs, ab]
    | cons b r =>
      simp only [bfs, ih, ab, leng]
      simp only [List.flatMap_assoc, List.flatMap_map, List.map_flatMap, lst_snoc, List.map_map, Function.comp_def, List.append_assoc, List.cons_append, List.nil_append]

theorem bfs_above {xs : List Int} (h : 2 ≤ xs.length) : bfs xs [[]] = above xs := by
  rw [bfs_ab, above, if_neg (by omega)]
  simp [lst_nil]

/-- what stands above rises and lies between -/
theorem ab_mem {xs : List Int} {p : Int} {ys : List Int} (h : ys ∈ ab xs p) : Up (p :: ys) ∧ (∀ y ∈ ys, ∃ a ∈ xs, a ≤ y) ∧ (∀ y ∈ ys, ∃ a ∈ xs, y ≤ a) ∧ ys.length = xs.length - 1 := by
  induction xs generalizing p ys with
  | nil => simp [ab] at h; subst h; simp [Up]
  | cons a r ih =>
    cases r with
    | nil => simp [ab] at h; subst h; simp [Up]
    | cons b r =>
      simp only [ab, List.mem_flatMap, List.mem_filter, decide_eq_true_eq, List.mem_map, mem_rng] at h
      obtain ⟨x, ⟨⟨h1, h2⟩, h3⟩, zs, hz, rfl⟩ := h
      obtain ⟨i1, i2, i3, i4⟩ := ih hz
      refine ⟨⟨h3, i1⟩, fun y hy => ?_, fun y hy => ?_, by simp at i4 ⊢; omega⟩
      · rcases List.mem_cons.1 hy with rfl | hy
        · exact ⟨a, by simp, h1⟩
        · obtain ⟨c, hc, hle⟩ := i2 y hy
          exact ⟨c, by simp at hc ⊢; exact .inr hc, hle⟩
      · rcases List.mem_cons.1 hy with rfl | hy
        · exact ⟨b, by simp, h2⟩
        · obtain ⟨c, hc, hle⟩ := i3 y hy
          exact ⟨c, by simp at hc ⊢; exact .inr hc, hle⟩

theorem above_mem {xs ys : List Int} (hx : Rise xs) (h : ys ∈ above xs) : Rise ys ∧ ys.length + 1 = xs.length := by
  unfold above at h
  split at h
  · cases h
  · next h2 =>
    obtain ⟨h1, h3, h4, h5⟩ := ab_mem h
    refine ⟨⟨h1.tail, fun y hy => ?_⟩, by omega⟩
    obtain ⟨a, ha, hle⟩ := h3 y hy
    obtain ⟨b, hb, hle2⟩ := h4 y hy
    have := hx.2 a ha
    have := hx.2 b hb
    omega

theorem above_one {xs : List Int} (h : xs.length < 2) : above xs = [] := by rw [above, if_pos h]

/-- there are no more than so many -/
theorem rng_filter_le {a b : Int} (ha : 0 ≤ a) (hb : b ≤ 15) (f : Int → Bool) : ((rng a b).filter f).length ≤ 16 := by
  refine Nat.le_trans (List.length_filter_le _ _) ?_
  unfold rng
  simp
  omega
theorem flatMap_le {α β : Type} {l : List α} {f : α → List β} {n k : Nat} (h1 : l.length ≤ n) (h2 : ∀ x ∈ l, (f x).length ≤ k) : (l.flatMap f).length ≤ n * k := by
  induction l generalizing n with
  | nil => simp
  | cons a r ih =>
    simp only [List.flatMap_cons, List.length_append]
    have := ih (n := r.length) (Nat.le_refl _) (fun x hx => h2 x (by simp [hx]))
    have := h2 a (by simp)
    have : (r.length + 1) * k ≤ n * k := Nat.mul_le_mul_right _ (by simpa using h1)
    rw [Nat.add_mul] at this
    omega
theorem ab_len {xs : List Int} (h : ∀ x ∈ xs, 0 ≤ x ∧ x ≤ 15) (p : Int) : (ab xs p).length ≤ 16 ^ (xs.length - 1) := by
  induction xs generalizing p with
  | nil => simp [ab]
  | cons a r ih =>
    cases r with
    | nil => simp [ab]
    | cons b r =>
      simp only [ab]
      have h1 := h a (by simp)
      have h2 := h b (by simp)
      refine Nat.le_trans (flatMap_le (k := 16 ^ r.length) (rng_filter_le (by omega) (by omega) _) (fun x _ => ?_)) (by simp [Nat.pow_succ, Nat.mul_comm])
      rw [List.length_map]
      exact ih (fun x hx => h x (by simp [hx])) x
theorem above_len {xs : List Int} (h : Rise xs) : (above xs).length ≤ 16 ^ (xs.length - 1) := by
  unfold above
  split
  · simp
  · exact ab_len h.2 _

/-- sums over lists -/
def sumL {α : Type} (l : List α) (f : α → Int) : Int := (l.map f).sum
theorem sumL_nil {α : Type} (f : α → Int) : sumL [] f = 0 := rfl
theorem sumL_cons {α : Type} (a : α) (l : List α) (f : α → Int) : sumL (a :: l) f = f a + sumL l f := by simp [sumL]
theorem sumL_append {α : Type} (l k : List α) (f : α → Int) : sumL (l ++ k) f = sumL l f + sumL k f := by simp [sumL]
theorem sumL_congr {α : Type} {l : List α} {f g : α → Int} (h : ∀ x ∈ l, f x = g x) : sumL l f = sumL l g := by
  unfold sumL
  rw [List.map_congr_left h]
theorem sumL_perm {α : Type} {l k : List α} (h : l.Perm k) (f : α → Int) : sumL l f = sumL k f := by
  induction h with
  | nil => rfl
  | cons a _ ih => rw [sumL_cons, sumL_cons, ih]
  | swap a b l => simp only [sumL_cons]; omega
  | trans _ _ h1 h2 => rw [h1, h2]

/-- ways from a row up to rows of one number -/
def waysN : Nat → List Int → Int
  | 0, _ => 1
  | n + 1, xs => sumL (above xs) (waysN n)
def ways (xs : List Int) : Int := waysN (xs.length - 1) xs
theorem ways_one {xs : List Int} (h : xs.length < 2) : ways xs = 1 := by unfold ways; rw [show xs.length - 1 = 0 from by omega]; rfl
theorem ways_more {xs : List Int} (hx : Rise xs) (h : 2 ≤ xs.length) : ways xs = sumL (above xs) ways := by
  unfold ways
  obtain ⟨n, hn⟩ : ∃ n, xs.length - 1 = n + 1 := ⟨xs.length - 2, by omega⟩
  rw [hn, waysN]
  refine sumL_congr fun ys hy => ?_
  have := (above_mem hx hy).2
  rw [show ys.length - 1 = n from by omega]

/-- .. j steps up, a score on the way, weighed at the end -/
def climbW (sc : List Int → List Int → Int) (φ : List Int → Int → Int) : Nat → List Int → Int → Int
  | 0, xs, s => φ xs s
  | j + 1, xs, s => sumL (above xs) fun ys => climbW sc φ j ys (s + sc xs ys)
/-- .. where one can stand -/
def reach (sc : List Int → List Int → Int) (xs : List Int) : Nat → List (List Int × Int)
  | 0 => [(xs, 0)]
  | j + 1 => (reach sc xs j).flatMap fun p => (above p.1).map fun ys => (ys, p.2 + sc p.1 ys)

theorem climb_ways (sc : List Int → List Int → Int) {xs : List Int} (s : Int) : ∀ {j : Nat}, climbW sc (fun _ _ => 1) j xs s = waysN j xs
  | 0 => rfl
  | j + 1 => by
    simp only [climbW, waysN]
    exact sumL_congr fun ys _ => climb_ways sc _

/-- a set of numbers -/
def mask : List Int → Nat
  | [] => 0
  | x :: r => 2 ^ x.toNat ||| mask r

end Go.Proofs.YtnhkclnloiiihaaDoor

namespace Go.Proofs.YtnhkclnloiiihaaDoor
theorem mask_nil : mask [] = 0 := rfl
theorem testBit_mask {xs : List Int} (h : ∀ x ∈ xs, 0 ≤ x) (i : Nat) : (mask xs).testBit i = decide ((i : Int) ∈ xs) := by
  induction xs with
  | nil => simp [mask]
  | cons a r ih =>
    have ha := h a (by simp)
    rw [mask, Nat.testBit_or, Nat.testBit_two_pow, ih (fun x hx => h x (by simp [hx]))]
    by_cases e : a.toNat = i
    · have : (i : Int) = a := by omega
      simp [e, this]
    · have : ¬ (i : Int) = a := by omega
      simp [e, this]
theorem mask_append (xs ys : List Int) : mask (xs ++ ys) = mask xs ||| mask ys := by
  induction xs with
  | nil => simp [mask]
  | cons a r ih => rw [List.cons_append, mask, mask, ih, Nat.or_assoc]
theorem mask_snoc (xs : List Int) (v : Int) : mask (xs ++ [v]) = mask xs ||| 2 ^ v.toNat := by
  rw [mask_append]; simp [mask]
theorem mask_lt {xs : List Int} {n : Nat} (h : ∀ x ∈ xs, 0 ≤ x ∧ x < n) : mask xs < 2 ^ n := by
  induction xs with
  | nil => simp [mask, Nat.two_pow_pos]
  | cons a r ih =>
    rw [mask]
    have := h a (by simp)
    exact Nat.or_lt_two_pow (Nat.pow_lt_pow_right (by omega) (by omega)) (ih (fun x hx => h x (by simp [hx])))
theorem mask_lt16 {xs : List Int} (h : Rise xs) : mask xs < 65536 := mask_lt (n := 16) (fun x hx => by have := h.2 x hx; omega)
theorem lst_mem {xs : List Int} (h : xs ≠ []) : lst xs ∈ xs := by
  unfold lst
  rw [List.getLast?_eq_some_getLast h]
  exact List.getLast_mem h
theorem le_lst {xs : List Int} (h : Up xs) : ∀ x ∈ xs, x ≤ lst xs := by
  intro x hx
  have hne : xs ≠ [] := by intro e; subst e; cases hx
  have e := List.dropLast_concat_getLast hne
  have e2 : lst xs = xs.getLast hne := by unfold lst; rw [List.getLast?_eq_some_getLast hne]; rfl
  rw [← e] at h hx
  obtain ⟨_, _, h3⟩ := up_append h
  rcases List.mem_append.1 hx with hx | hx
  · have := h3 x hx _ (by simp : xs.getLast hne ∈ [xs.getLast hne]); omega
  · simp at hx; omega
theorem mask_test {xs : List Int} (h : Up xs) (h0 : ∀ x ∈ xs, 0 ≤ x) {v : Int} (hv : 0 ≤ v) : mask xs < 2 ^ v.toNat ↔ lst xs < v := by
  constructor
  · intro hm
    by_cases hne : xs = []
    · subst hne; simp [lst]; omega
    · have hl := lst_mem hne
      have h1 := h0 _ hl
      by_cases hc : lst xs < v
      · exact hc
      · exfalso
        have hb : (mask xs).testBit (lst xs).toNat = true := by
          rw [testBit_mask h0]; simp [Int.toNat_of_nonneg h1, hl]
        have := Nat.ge_two_pow_of_testBit hb
        have : 2 ^ v.toNat ≤ 2 ^ (lst xs).toNat := Nat.pow_le_pow_right (by omega) (by omega)
        omega
  · intro hl
    refine mask_lt fun x hx => ⟨h0 x hx, ?_⟩
    have := le_lst h x hx
    omega
theorem mask_inj {xs ys : List Int} (hx : Up xs) (hx0 : ∀ x ∈ xs, 0 ≤ x) (hy : Up ys) (hy0 : ∀ x ∈ ys, 0 ≤ x) (h : mask xs = mask ys) : xs = ys := by
  have hm : ∀ z : Int, z ∈ xs ↔ z ∈ ys := by
    intro z
    by_cases hz : 0 ≤ z
    · have h1 := testBit_mask hx0 z.toNat
      have h2 := testBit_mask hy0 z.toNat
      rw [h, h2, Int.toNat_of_nonneg hz] at h1
      simpa using h1.symm
    · exact ⟨fun k => absurd (hx0 z k) hz, fun k => absurd (hy0 z k) hz⟩
  clear h hx0 hy0
  induction xs generalizing ys with
  | nil =>
    cases ys with
    | nil => rfl
    | cons b s => exact absurd ((hm b).2 (by simp)) (by simp)
  | cons a r ih =>
    cases ys with
    | nil => exact absurd ((hm a).1 (by simp)) (by simp)
    | cons b s =>
      have l1 := Up.lt hx
      have l2 := Up.lt hy
      have e : a = b := by
        rcases List.mem_cons.1 ((hm a).1 (by simp)) with e | h1
        · exact e
        · rcases List.mem_cons.1 ((hm b).2 (by simp)) with e | h2
          · exact e.symm
          · have := l1 b h2; have := l2 a h1; omega
      subst e
      rw [ih hx.tail hy.tail (fun z => ?_)]
      constructor
      · intro hz
        rcases List.mem_cons.1 ((hm z).1 (by simp [hz])) with rfl | h1
        · exact absurd (l1 z hz) (by omega)
        · exact h1
      · intro hz
        rcases List.mem_cons.1 ((hm z).2 (by simp [hz])) with rfl | h1
        · exact absurd (l2 z hz) (by omega)
        · exact h1

/-- what lies beyond x is a multiple -/
theorem mask_beyond {r : List Int} {n : Nat} (h : ∀ y ∈ r, (n : Int) ≤ y) : ∃ q, mask r = 2 ^ n * q := by
  induction r with
  | nil => exact ⟨0, by simp [mask]⟩
  | cons a r ih =>
    obtain ⟨q, hq⟩ := ih (fun y hy => h y (by simp [hy]))
    have ha := h a (by simp)
    refine ⟨2 ^ (a.toNat - n) ||| q, ?_⟩
    rw [mask, hq]
    apply Nat.eq_of_testBit_eq
    intro i
    simp only [Nat.testBit_or, Nat.testBit_two_pow_mul, Nat.testBit_two_pow]
    by_cases hi : n ≤ i
    · simp [hi]; congr 1; simp; omega
    · simp [hi]; omega
theorem mask_head {x : Int} {r : List Int} (h : Up (x :: r)) (hx : 0 ≤ x) : ∃ q, mask r = 2 ^ (x.toNat + 1) * q ∧ mask (x :: r) = 2 ^ (x.toNat + 1) * q + 2 ^ x.toNat := by
  obtain ⟨q, hq⟩ := mask_beyond (r := r) (n := x.toNat + 1) (fun y hy => by have := Up.lt h y hy; omega)
  refine ⟨q, hq, ?_⟩
  rw [mask, hq]
  have : 2 ^ x.toNat < 2 ^ (x.toNat + 1) := Nat.pow_lt_pow_right (by omega) (by omega)
  rw [Nat.or_comm, ← Nat.two_pow_add_eq_or_of_lt this]
theorem mask_rest {x : Int} {r : List Int} (h : Up (x :: r)) (hx : 0 ≤ x) : mask (x :: r) &&& (mask (x :: r) - 1) = mask r := by
  obtain ⟨q, h1, h2⟩ := mask_head h hx
  have hp : 0 < 2 ^ x.toNat := Nat.two_pow_pos _
  have hlt : 2 ^ x.toNat < 2 ^ (x.toNat + 1) := Nat.pow_lt_pow_right (by omega) (by omega)
  rw [h2, h1, show 2 ^ (x.toNat + 1) * q + 2 ^ x.toNat - 1 = 2 ^ (x.toNat + 1) * q + (2 ^ x.toNat - 1) from by omega]
  apply Nat.eq_of_testBit_eq
  intro i
  rw [Nat.testBit_and, Nat.testBit_two_pow_mul_add _ hlt, Nat.testBit_two_pow_mul_add _ (by omega), Nat.testBit_two_pow_mul]
  by_cases hi : i < x.toNat + 1
  · simp only [hi, if_true, Nat.testBit_two_pow, Nat.testBit_two_pow_sub_one]
    by_cases e : x.toNat = i
    · subst e; simp; intro; omega
    · simp [e]; omega
  · simp [hi]; omega
theorem mask_low {x : Int} {r : List Int} (h : Up (x :: r)) (hx : 0 ≤ x) (hr : ∀ y ∈ x :: r, y ≤ 15) : mask (x :: r) &&& (18446744073709551616 - mask (x :: r)) = 2 ^ x.toNat := by
  obtain ⟨q, h1, h2⟩ := mask_head h hx
  have hx15 := hr x (by simp)
  have hm : mask (x :: r) < 2 ^ 16 := mask_lt (fun y hy => ⟨by rcases List.mem_cons.1 hy with rfl | hy; exact hx; have := Up.lt h y hy; omega, by have := hr y hy; omega⟩)
  have hlt : 2 ^ x.toNat < 2 ^ (x.toNat + 1) := Nat.pow_lt_pow_right (by omega) (by omega)
  have hq : q < 2 ^ (63 - x.toNat) := by
    have e : (2:Nat) ^ 64 = 2 ^ (x.toNat + 1) * 2 ^ (63 - x.toNat) := by rw [← Nat.pow_add]; congr 1; omega
    have : 2 ^ (x.toNat + 1) * q < 2 ^ (x.toNat + 1) * 2 ^ (63 - x.toNat) := by rw [← e]; omega
    exact Nat.lt_of_mul_lt_mul_left this
  have e2 : 18446744073709551616 - mask (x :: r) = 2 ^ (x.toNat + 1) * (2 ^ (63 - x.toNat) - (q + 1)) + 2 ^ x.toNat := by
    have e : (18446744073709551616:Nat) = 2 ^ (x.toNat + 1) * 2 ^ (63 - x.toNat) := by rw [← Nat.pow_add, show x.toNat + 1 + (63 - x.toNat) = 64 from by omega]
    rw [h2, Nat.mul_sub, ← e, Nat.mul_add]
    have : 2 ^ (x.toNat + 1) * (q + 1) ≤ 18446744073709551616 := by rw [e]; exact Nat.mul_le_mul_left _ (by omega)
    rw [Nat.mul_add] at this
    have e3 : 2 ^ (x.toNat + 1) = 2 ^ x.toNat + 2 ^ x.toNat := by rw [Nat.pow_succ]; omega
    omega
  rw [e2, h2]
  apply Nat.eq_of_testBit_eq
  intro i
  rw [Nat.testBit_and, Nat.testBit_two_pow_mul_add _ hlt, Nat.testBit_two_pow_mul_add _ hlt, Nat.testBit_two_pow]
  by_cases hi : i < x.toNat + 1
  · simp [hi]
  · simp only [hi, if_false, Nat.testBit_two_pow_sub_succ hq]
    have : ¬ x.toNat = i := by omega
    simp [this]
    intro a _; exact a
/-- the formula of the library for the number of ones -/
def pcF (x0 : Nat) : Nat :=
  let x1 := Nat.add (Nat.land (Nat.div x0 2) 6148914691236517205) (Nat.land x0 6148914691236517205)
  let x2 := Nat.add (Nat.land (Nat.div x1 4) 3689348814741910323) (Nat.land x1 3689348814741910323)
  let x3 := Nat.land (Nat.add (Nat.div x2 16) x2) 1085102592571150095
  let x4 := Nat.add x3 (Nat.div x3 256)
  let x5 := Nat.add x4 (Nat.div x4 65536)
  let x6 := Nat.add x5 (Nat.div x5 4294967296)
  Nat.land x6 127
/-- it is right at every set of up to 6 of the k first numbers, beside the set x of c others -/
def pcGo : Nat → Nat → Nat → Bool
  | 0, x, c => Nat.beq (pcF x) c
  | k + 1, x, c => (pcGo k x c).and (match Nat.beq c 6 with | true => true | false => pcGo k (Nat.add x (Nat.pow 2 k)) (Nat.succ c))
set_option maxRecDepth 100000 in
theorem pc_all : pcGo 16 0 0 = true := by decide +kernel
theorem pc_go {k x c : Nat} {xs : List Int} (h : pcGo k x c = true) (hu : Up xs) (hx : ∀ y ∈ xs, 0 ≤ y ∧ y < k) (hl : xs.length + c ≤ 6) : pcF (x + mask xs) = c + xs.length := by
  induction k generalizing x c xs with
  | zero =>
    have : xs = [] := by
      cases xs with
      | nil => rfl
      | cons a r => have := hx a (by simp); omega
    subst this
    have := Nat.eq_of_beq_eq_true h
    simpa [mask] using this
  | succ k ih =>
    simp only [pcGo, Bool.and] at h
    obtain ⟨h1, h2⟩ : pcGo k x c = true ∧ (match Nat.beq c 6 with | true => true | false => pcGo k (Nat.add x (Nat.pow 2 k)) (Nat.succ c)) = true := by
      revert h; cases pcGo k x c <;> simp
    by_cases hm : (k : Int) ∈ xs
    · have hne : xs ≠ [] := by intro e; subst e; cases hm
      have e := List.dropLast_concat_getLast hne
      generalize xs.dropLast = ys at e
      generalize xs.getLast hne = v at e
      subst e
      obtain ⟨u1, _, u3⟩ := up_append hu
      have hv : v = k := by
        rcases List.mem_append.1 hm with hm | hm
        · have := u3 _ hm v (by simp); have := hx v (by simp); omega
        · simp at hm; exact hm.symm
      subst hv
      have hc : Nat.beq c 6 = false := by
        cases hb : Nat.beq c 6
        · rfl
        · have := Nat.eq_of_beq_eq_true hb; simp at hl; omega
      rw [hc] at h2
      have hy : ∀ y ∈ ys, 0 ≤ y ∧ y < k := fun y hy => ⟨(hx y (by simp [hy])).1, by have := u3 y hy k (by simp); omega⟩
      have := ih h2 u1 hy (by simp at hl; omega)
      have em : mask (ys ++ [(k : Int)]) = 2 ^ k + mask ys := by
        rw [mask_snoc, Int.toNat_natCast, Nat.or_comm]
        have := Nat.two_pow_add_eq_or_of_lt (mask_lt hy) 1
        simpa using this.symm
      rw [em, ← Nat.add_assoc]
      refine Eq.trans this ?_
      simp; omega
    · exact ih h1 hu (fun y hy => ⟨(hx y hy).1, by have := (hx y hy).2; have : y ≠ k := fun e => hm (e ▸ hy); omega⟩) hl
theorem pc_mask {xs : List Int} (h : Rise xs) (hl : xs.length ≤ 6) : pcF (mask xs) = xs.length := by
  have := pc_go (x := 0) (c := 0) pc_all h.1 (fun y hy => by have := h.2 y hy; omega) hl
  simpa using this
end Go.Proofs.YtnhkclnloiiihaaDoor

namespace Go.Proofs.YtnhkclnloiiihaaDoor
/-- how many of the first k numbers are j -/
def occ (xs : List Int) (j : Int) : Nat → Int
  | 0 => 0
  | k + 1 => occ xs j k + (if gi xs k = j then 1 else 0)
theorem occ_bd (xs : List Int) (j : Int) : ∀ k, 0 ≤ occ xs j k ∧ occ xs j k ≤ k
  | 0 => by simp [occ]
  | k + 1 => by have := occ_bd xs j k; simp only [occ]; split <;> omega
/-- all numbers of a triangle are at most the last one of its last row -/
theorem tri_le {t : List (List Int)} (h : isTri t) : ∀ d i, i + d + 1 = t.length → ∀ k, k ≤ i → gi (gr t i) k ≤ gi (gr t (t.length - 1)) (t.length - 1)
  | 0, i, hi, k, hk => by
    have hl := (h.2.2 i (by omega)).1
    have hr := ((isRowP_iff _).1 (h.2.2 i (by omega)).2.1).2.2
    rw [show t.length - 1 = i from by omega]
    rcases Nat.lt_or_ge k i with hki | hki
    · have hup := (up_iff _).1 hr.1
      have mono : ∀ d k, k + d < (gr t i).length → gi (gr t i) k ≤ gi (gr t i) (k + d) := by
        intro d
        induction d with
        | zero => intro k _; exact Int.le_refl _
        | succ d ih =>
          intro k hkd
          have h1 := ih k (by omega)
          have h2 := hup (k + (d + 1)) hkd (by omega)
          rw [show k + (d + 1) - 1 = k + d from by omega] at h2
          omega
      have := mono (i - k) k (by omega)
      rwa [show k + (i - k) = i from by omega] at this
    · rw [show k = i from by omega]; exact Int.le_refl _
  | d + 1, i, hi, k, hk => by
    have h1 := (h.2.2 (i + 1) (by omega)).2.2 (by omega)
    have hl := (h.2.2 i (by omega)).1
    have h2 := (h1 k (by rw [show i + 1 - 1 = i from rfl]; omega)).2
    rw [show i + 1 - 1 = i from rfl] at h2
    have h3 := tri_le h d (i + 1) (by omega) (k + 1) (by omega)
    omega
/-- 0, 1, .., n - 1 -/
def iota (n : Nat) : List Int := rng 0 ((n : Int) - 1)
theorem iota_len (n : Nat) : (iota n).length = n := by unfold iota rng; simp
theorem gi_iota {n i : Nat} (h : i < n) : gi (iota n) i = i := by
  rw [gi_lt (by rw [iota_len]; exact h)]
  simp [iota, rng]
theorem up_iota (n : Nat) : Up (iota n) := by
  rw [up_iff]
  intro k hk h0
  rw [iota_len] at hk
  rw [gi_iota hk, gi_iota (by omega)]
  omega
theorem mem_iota {n : Nat} {x : Int} : x ∈ iota n ↔ 0 ≤ x ∧ x < n := by unfold iota; rw [mem_rng]; omega
theorem mask_iota (n : Nat) : mask (iota n) = 2 ^ n - 1 := by
  apply Nat.eq_of_testBit_eq
  intro i
  rw [testBit_mask (fun x hx => (mem_iota.1 hx).1), Nat.testBit_two_pow_sub_one]
  congr 1
  rw [mem_iota]
  simp
/-- a row of n numbers is 0, 1, .. exactly if its last number is n - 1 -/
theorem row_full {xs : List Int} (h : isRowP xs) : mask xs = 2 ^ xs.length - 1 ↔ gi xs (xs.length - 1) = (xs.length : Int) - 1 := by
  obtain ⟨h1, h2, hu, hr⟩ := (isRowP_iff _).1 h
  rw [← mask_iota]
  constructor
  · intro hm
    have e := mask_inj hu (fun x hx => (hr x hx).1) (up_iota _) (fun x hx => (mem_iota.1 hx).1) hm
    generalize hn : xs.length = n at *
    rw [e, gi_iota (by omega)]
    omega
  · intro hl
    congr 1
    refine ext_gi (by rw [iota_len]) fun i hi => ?_
    rw [gi_iota hi]
    have hup := (up_iff _).1 hu
    have lo : ∀ k, k < xs.length → (k : Int) ≤ gi xs k := by
      intro k
      induction k with
      | zero => intro hk; exact (hr _ (gi_mem hk)).1
      | succ k ih =>
        intro hk
        have a := ih (by omega)
        have b := hup (k + 1) hk (by omega)
        rw [show k + 1 - 1 = k from rfl] at b
        omega
    have hi2 : ∀ d k, k + d + 1 = xs.length → gi xs k ≤ k := by
      intro d
      induction d with
      | zero => intro k hk; rw [show xs.length - 1 = k from by omega] at hl; omega
      | succ d ih =>
        intro k hk
        have a := ih (k + 1) (by omega)
        have b := hup (k + 1) (by omega) (by omega)
        rw [show k + 1 - 1 = k from rfl] at b
        omega
    have := lo i hi
    have := hi2 (xs.length - 1 - i) i (by omega)
    omega
/-- the numbers of the sign matrix of a triangle -/
def signAt (t : List (List Int)) (i j : Nat) : Int := occ (gr t i) j (gr t i).length - (if 0 < i then occ (gr t (i - 1)) j (gr t (i - 1)).length else 0)
def fromT (t : List (List Int)) : List (List Int) := (List.range t.length).map fun i => (List.range t.length).map fun j => signAt t i j
/-- a triangle whose last row is that of sign matrices -/
def fullTri (t : List (List Int)) : Prop := isTri t ∧ gi (gr t (t.length - 1)) (t.length - 1) = (t.length : Int) - 1
theorem full_lt {t : List (List Int)} (h : fullTri t) {i k : Nat} (hi : i < t.length) (hk : k < (gr t i).length) : 0 ≤ gi (gr t i) k ∧ gi (gr t i) k < t.length := by
  have hl := (h.1.2.2 i hi).1
  have := tri_le h.1 (t.length - 1 - i) i (by omega) k (by omega)
  have := ((h.1.2.2 i hi).2.1.2.2 k hk).1.1
  have := h.2
  omega
end Go.Proofs.YtnhkclnloiiihaaDoor

namespace Go.Proofs.YtnhkclnloiiihaaDoor
open Go.RowKit

theorem take_succ_gi {xs : List Int} {k : Nat} (h : k < xs.length) : xs.take (k + 1) = xs.take k ++ [gi xs k] := by
  rw [gi_lt h, List.take_succ_eq_append_getElem h]

theorem shl_one {x : Int} (h0 : 0 ≤ x) (h1 : x ≤ 15) : IntKind.u64.wrap (2 ^ x.toNat) = ((2 ^ x.toNat : Nat) : Int) := by
  rw [IntKind.wrap_u64]
  have : 2 ^ x.toNat ≤ 2 ^ 15 := Nat.pow_le_pow_right (by omega) (by omega)
  rw [show ((2 : Int) ^ x.toNat) = ((2 ^ x.toNat : Nat) : Int) by simp]
  generalize 2 ^ x.toNat = q at this
  omega

set_option maxRecDepth 100000 in
set_option maxHeartbeats 400000 in
theorem setOf_any (ao : Option Addr) (c : Nat) (xs : List Int) (w : World) (hn : xs.length ≤ 1048576) (hr : ∀ x ∈ xs, 0 ≤ x ∧ x ≤ 15) (hx : IntsAt w ao xs) :
    Calls Tryd.prog 71 #[.slice ao xs.length c] w fun e w' => e = .returned (.int .u64 (mask xs : Nat)) ∧ w = w' := by
  have hmx : xs.length ≤ 9223372036854775807 := by omega
  have Hx := Lib.hid hx
  have Hr := Lib.hid hr
  clear hx hr
  go_enter Tryd.func71, Tryd.ntmps71
  go_wp2
  go_loop [3, 8] (fun s i => ∃ k : Nat, k ≤ xs.length ∧ i = .int .i64 k ∧ s = .int .u64 (mask (xs.take k) : Nat)) (fun _ i => xs.length - (intOf i).toNat)
  case atStart => exact ⟨0, Nat.zero_le _, rfl, rfl⟩
  case round =>
    obtain ⟨k, hk, rfl, rfl⟩ := hrel
    by_cases hlt : k < xs.length
    · obtain ⟨b, o, rfl, hc⟩ := Hx.out k hlt
      have hb := Hr.out _ (gi_mem hlt)
      have h1 : mask (xs.take k) < 65536 := mask_lt (n := 16) (fun y hy => by have := Hr.out y (List.mem_of_mem_take hy); omega)
      have h2 : 2 ^ (gi xs k).toNat ≤ 2 ^ 15 := Nat.pow_le_pow_right (by omega) (by omega)
      have e1 := shl_one hb.1 hb.2
      have e2 : bits .or .u64 ((mask (xs.take k) : Nat) : Int) (IntKind.u64.wrap (2 ^ (gi xs k).toNat)) = ((mask (xs.take (k + 1)) : Nat) : Int) := by
        rw [e1, u64_or_nat _ _ (by omega) (by omega), take_succ_gi hlt, mask_snoc]
      have hb0 := hb.1
      obtain ⟨x, hxv⟩ : ∃ x, x = gi xs k := ⟨_, rfl⟩
      have hb15 := hb.2
      rw [← hxv] at hc e2 hb0 hb15
      obtain ⟨s, hs⟩ : ∃ s : Int, s = ((mask (xs.take k) : Nat) : Int) := ⟨_, rfl⟩
      rw [← hs] at e2 ⊢
      have E2 := Lib.hid e2
      clear hs hxv h1 h2 hb e1 e2
      go_wp2
      go_round
      case rel => exact ⟨k + 1, by omega, by go_num, by rw [E2.out]⟩
      case measure => simp [intOf]; omega
    · obtain rfl : k = xs.length := by omega
      rw [List.take_length]
      go_wp2
      go_ret
      exact ⟨rfl, rfl⟩

theorem allColumns_any (n : Nat) (w : World) (hn : n ≤ 15) :
    Calls Tryd.prog 85 #[.int .i64 (n : Int)] w fun e w' => e = .returned (.int .u64 ((2 ^ n - 1 : Nat) : Int)) ∧ w = w' := by
  have e1 := shl_one (x := (n : Int)) (by omega) (by omega)
  rw [Int.toNat_natCast] at e1
  have E : IntKind.u64.wrap (IntKind.u64.wrap (2 ^ n) - 1) = ((2 ^ n - 1 : Nat) : Int) := by
    have h2 : 2 ^ n ≤ 2 ^ 15 := Nat.pow_le_pow_right (by omega) (by omega)
    have h3 : 0 < 2 ^ n := Nat.two_pow_pos n
    rw [e1, IntKind.wrap_u64, Int.emod_eq_of_lt (by omega) (by omega)]
    omega
  have E2 := Lib.hid E
  clear e1 E
  go_enter Tryd.func85, Tryd.ntmps85
  go_wp2
  go_ret
  exact ⟨by rw [← E2.out]; rfl, rfl⟩
end Go.Proofs.YtnhkclnloiiihaaDoor

