/- Rows of triangles, the rows above a row, ways up from it, sets of numbers: plain facts on lists of integers. No conditions. -/
import Derived.Test.YtopamhcnbocfoaaMath1
namespace Go.Proofs.Ytopamhcnbocfoaa

/-- the numbers a..b -/
def rng (a b : Int) : List Int := (List.range (b - a + 1).toNat).map fun i : Nat => a + (i : Int)
theorem mem_rng {a b x : Int} : x ∈ rng a b ↔ a ≤ x ∧ x ≤ b := by
  unfold rng
  simp only [List.mem_map, List.mem_range]
  constructor
  · rintro ⟨i, hi, rfl⟩; omega
  · intro h; exact ⟨(x - a).toNat, by omega, by omega⟩
theorem rng_nil {a b : Int} (h : b < a) : rng a b = [] := by
  unfold rng
  rw [show (b - a + 1).toNat = 0 from by omega]; rfl
theorem rng_cons {a b : Int} (h : a ≤ b) : rng a b = a :: rng (a + 1) b := by
  unfold rng
  rw [show (b - a + 1).toNat = (b - (a + 1) + 1).toNat + 1 from by omega, List.range_succ_eq_map]
  simp [Function.comp_def]
  intro i hi; omega
theorem rng_snoc {a b : Int} (h : a ≤ b) : rng a b = rng a (b - 1) ++ [b] := by
  unfold rng
  rw [show (b - a + 1).toNat = (b - 1 - a + 1).toNat + 1 from by omega, List.range_succ]
  simp
  omega

/-- a row: numbers in 0..15 that rise, 1 to 6 of them -/
def isRowP (xs : List Int) : Prop := 1 ≤ xs.length ∧ xs.length ≤ 6 ∧ ∀ k, k < xs.length → (0 ≤ gi xs k ∧ gi xs k ≤ 15) ∧ (0 < k → gi xs (k - 1) < gi xs k)
/-- a row fits under the one above -/
def fitsP (row above : List Int) : Prop := ∀ k, k < above.length → gi row k ≤ gi above k ∧ gi above k ≤ gi row (k + 1)
def isTri (t : List (List Int)) : Prop := 1 ≤ t.length ∧ t.length ≤ 6 ∧ ∀ i, i < t.length → (gr t i).length = i + 1 ∧ isRowP (gr t i) ∧ (0 < i → fitsP (gr t i) (gr t (i - 1)))

/-- numbers that rise strictly, as a recursion -/
def Up : List Int → Prop
  | [] => True
  | [_] => True
  | a :: b :: r => a < b ∧ Up (b :: r)
theorem Up.tail {a : Int} {r : List Int} (h : Up (a :: r)) : Up r := by
  cases r with
  | nil => trivial
  | cons b r => exact h.2
theorem Up.lt {a : Int} {r : List Int} (h : Up (a :: r)) : ∀ x ∈ r, a < x := by
  induction r generalizing a with
  | nil => intro x hx; cases hx
  | cons b r ih =>
    intro x hx
    rcases List.mem_cons.1 hx with rfl | hx
    · exact h.1
    · have := ih h.2 x hx
      have := h.1
      omega
theorem Up.of {a : Int} {r : List Int} (h : Up r) (k : ∀ x ∈ r, a < x) : Up (a :: r) := by
  cases r with
  | nil => trivial
  | cons b r => exact ⟨k b (by simp), h⟩
theorem up_append {xs ys : List Int} (h : Up (xs ++ ys)) : Up xs ∧ Up ys ∧ ∀ x ∈ xs, ∀ y ∈ ys, x < y := by
  induction xs with
  | nil => exact ⟨trivial, h, fun x hx => by cases hx⟩
  | cons a r ih =>
    obtain ⟨h1, h2, h3⟩ := ih h.tail
    have h4 := Up.lt h
    refine ⟨Up.of h1 (fun x hx => h4 x (by simp [hx])), h2, fun x hx y hy => ?_⟩
    rcases List.mem_cons.1 hx with rfl | hx
    · exact h4 y (by simp [hy])
    · exact h3 x hx y hy
theorem up_join {xs ys : List Int} (h1 : Up xs) (h2 : Up ys) (h3 : ∀ x ∈ xs, ∀ y ∈ ys, x < y) : Up (xs ++ ys) := by
  induction xs with
  | nil => exact h2
  | cons a r ih =>
    refine Up.of (ih h1.tail (fun x hx => h3 x (by simp [hx]))) (fun x hx => ?_)
    rcases List.mem_append.1 hx with hx | hx
    · exact Up.lt h1 x hx
    · exact h3 a (by simp) x hx

theorem up_iff (xs : List Int) : Up xs ↔ ∀ k, k < xs.length → 0 < k → gi xs (k - 1) < gi xs k := by
  induction xs with
  | nil => exact ⟨fun _ k hk => absurd hk (by simp), fun _ => trivial⟩
  | cons a r ih =>
    cases r with
    | nil => exact ⟨fun _ k hk h0 => absurd hk (by simp; omega), fun _ => trivial⟩
    | cons b r =>
      constructor
      · intro h k hk h0
        obtain ⟨k, rfl⟩ : ∃ j, k = j + 1 := ⟨k - 1, by omega⟩
        cases k with
        | zero => exact h.1
        | succ k =>
          have := (ih.1 h.2) (k + 1) (by simp at hk ⊢; omega) (by omega)
          exact this
      · intro h
        refine ⟨h 1 (by simp) (by omega), ih.2 fun k hk h0 => ?_⟩
        have := h (k + 1) (by simp at hk ⊢; omega) (by omega)
        obtain ⟨k, rfl⟩ : ∃ j, k = j + 1 := ⟨k - 1, by omega⟩
        exact this

/-- numbers in 0..15 that rise -/
def Rise (xs : List Int) : Prop := Up xs ∧ ∀ x ∈ xs, 0 ≤ x ∧ x ≤ 15
theorem mem_gi {xs : List Int} {x : Int} (h : x ∈ xs) : ∃ k, k < xs.length ∧ gi xs k = x := by
  obtain ⟨k, hk, rfl⟩ := List.mem_iff_getElem.1 h
  exact ⟨k, hk, gi_lt hk⟩
theorem isRowP_iff (xs : List Int) : isRowP xs ↔ 1 ≤ xs.length ∧ xs.length ≤ 6 ∧ Rise xs := by
  unfold isRowP Rise
  rw [up_iff]
  constructor
  · rintro ⟨h1, h2, h3⟩
    refine ⟨h1, h2, fun k hk h0 => (h3 k hk).2 h0, fun x hx => ?_⟩
    obtain ⟨k, hk, rfl⟩ := mem_gi hx
    exact (h3 k hk).1
  · rintro ⟨h1, h2, h3, h4⟩
    exact ⟨h1, h2, fun k hk => ⟨h4 _ (gi_mem hk), h3 k hk⟩⟩

/-- the rows above xs whose numbers are beyond p, in order -/
def ab : List Int → Int → List (List Int)
  | [], _ => [[]]
  | [_], _ => [[]]
  | a :: b :: r, p => ((rng a b).filter fun x => decide (p < x)).flatMap fun x => (ab (b :: r) x).map fun ys => x :: ys
def above (xs : List Int) : List (List Int) := if xs.length < 2 then [] else ab xs (-1)

def lst (xs : List Int) : Int := xs.getLast?.getD (-1)
theorem lst_snoc (xs : List Int) (x : Int) : lst (xs ++ [x]) = x := by simp [lst]
theorem lst_nil : lst [] = -1 := rfl

/-- each beginning lengthened by each number in lo..hi beyond it -/
def leng (bs : List (List Int)) (lo hi : Int) : List (List Int) := bs.flatMap fun b => ((rng lo hi).filter fun v => decide (lst b < v)).map fun v => b ++ [v]
def bfs : List Int → List (List Int) → List (List Int)
  | [], bs => bs
  | [_], bs => bs
  | a :: b :: r, bs => bfs (b :: r) (leng bs a b)

theorem bfs_ab (xs : List Int) (bs : List (List Int)) : bfs xs bs = bs.flatMap fun b => (ab xs (lst b)).map fun ys => b ++ ys := by
  induction xs generalizing bs with
  | nil => simp [bfs, ab]
  | cons a r ih =>
    cases r with
    | nil => simp [bfs, ab]
    | cons b r =>
      simp only [bfs, ih, ab, leng]
      simp only [List.flatMap_assoc, List.flatMap_map, List.map_flatMap, lst_snoc, List.map_map, Function.comp_def, List.append_assoc, List.cons_append, List.nil_append]

theorem bfs_above {xs : List Int} (h : 2 ≤ xs.length) : bfs xs [[]] = above xs := by
  rw [bfs_ab, above, if_neg (by omega)]
  simp [lst_nil]

/-- what stands above rises and lies between -/
theorem ab_mem {xs : List Int} {p : Int} {ys : List Int} (h : ys ∈ ab xs p) : Up (p :: ys) ∧ (∀ y ∈ ys, ∃ a ∈ xs, a ≤ y) ∧ (∀ y ∈ ys, ∃ a ∈ xs, y ≤ a) ∧ ys.length = xs.length - 1 := by
  induction xs generalizing p ys with
  | nil => simp [ab] at h; subst h; simp [Up]
  | cons a r ih =>
    cases r with
    | nil => simp [ab] at h; subst h; simp [Up]
    | cons b r =>
      simp only [ab, List.mem_flatMap, List.mem_filter, decide_eq_true_eq, List.mem_map, mem_rng] at h
      obtain ⟨x, ⟨⟨h1, h2⟩, h3⟩, zs, hz, rfl⟩ := h
      obtain ⟨i1, i2, i3, i4⟩ := ih hz
      refine ⟨⟨h3, i1⟩, fun y hy => ?_, fun y hy => ?_, by simp at i4 ⊢; omega⟩
      · rcases List.mem_cons.1 hy with rfl | hy
        · exact ⟨a, by simp, h1⟩
        · obtain ⟨c, hc, hle⟩ := i2 y hy
          exact ⟨c, by simp at hc ⊢; exact .inr hc, hle⟩
      · rcases List.mem_cons.1 hy with rfl | hy
        · exact ⟨b, by simp, h2⟩
        · obtain ⟨c, hc, hle⟩ := i3 y hy
          exact ⟨c, by simp at hc ⊢; exact .inr hc, hle⟩

theorem above_mem {xs ys : List Int} (hx : Rise xs) (h : ys ∈ above xs) : Rise ys ∧ ys.length + 1 = xs.length := by
  unfold above at h
  split at h
  · cases h
  · next h2 =>
    obtain ⟨h1, h3, h4, h5⟩ := ab_mem h
    refine ⟨⟨h1.tail, fun y hy => ?_⟩, by omega⟩
    obtain ⟨a, ha, hle⟩ := h3 y hy
    obtain ⟨b, hb, hle2⟩ := h4 y hy
    have := hx.2 a ha
    have := hx.2 b hb
    omega

theorem above_one {xs : List Int} (h : xs.length < 2) : above xs = [] := by rw [above, if_pos h]

/-- there are no more than so many -/
theorem rng_filter_le {a b : Int} (ha : 0 ≤ a) (hb : b ≤ 15) (f : Int → Bool) : ((rng a b).filter f).length ≤ 16 := by
  refine Nat.le_trans (List.length_filter_le _ _) ?_
  unfold rng
  simp
  omega
theorem flatMap_le {α β : Type} {l : List α} {f : α → List β} {n k : Nat} (h1 : l.length ≤ n) (h2 : ∀ x ∈ l, (f x).length ≤ k) : (l.flatMap f).length ≤ n * k := by
  induction l generalizing n with
  | nil => simp
  | cons a r ih =>
    simp only [List.flatMap_cons, List.length_append]
    have := ih (n := r.length) (Nat.le_refl _) (fun x hx => h2 x (by simp [hx]))
    have := h2 a (by simp)
    have : (r.length + 1) * k ≤ n * k := Nat.mul_le_mul_right _ (by simpa using h1)
    rw [Nat.add_mul] at this
    omega
theorem ab_len {xs : List Int} (h : ∀ x ∈ xs, 0 ≤ x ∧ x ≤ 15) (p : Int) : (ab xs p).length ≤ 16 ^ (xs.length - 1) := by
  induction xs generalizing p with
  | nil => simp [ab]
  | cons a r ih =>
    cases r with
    | nil => simp [ab]
    | cons b r =>
      simp only [ab]
      have h1 := h a (by simp)
      have h2 := h b (by simp)
      refine Nat.le_trans (flatMap_le (k := 16 ^ r.length) (rng_filter_le (by omega) (by omega) _) (fun x _ => ?_)) (by simp [Nat.pow_succ, Nat.mul_comm])
      rw [List.length_map]
      exact ih (fun x hx => h x (by simp [hx])) x
theorem above_len {xs : List Int} (h : Rise xs) : (above xs).length ≤ 16 ^ (xs.length - 1) := by
  unfold above
  split
  · simp
  · exact ab_len h.2 _

/-- sums over lists -/
def sumL {α : Type} (l : List α) (f : α → Int) : Int := (l.map f).sum
theorem sumL_nil {α : Type} (f : α → Int) : sumL [] f = 0 := rfl
theorem sumL_cons {α : Type} (a : α) (l : List α) (f : α → Int) : sumL (a :: l) f = f a + sumL l f := by simp [sumL]
theorem sumL_append {α : Type} (l k : List α) (f : α → Int) : sumL (l ++ k) f = sumL l f + sumL k f := by simp [sumL]
theorem sumL_congr {α : Type} {l : List α} {f g : α → Int} (h : ∀ x ∈ l, f x = g x) : sumL l f = sumL l g := by
  unfold sumL
  rw [List.map_congr_left h]
theorem sumL_perm {α : Type} {l k : List α} (h : l.Perm k) (f : α → Int) : sumL l f = sumL k f := by
  induction h with
  | nil => rfl
  | cons a _ ih => rw [sumL_cons, sumL_cons, ih]
  | swap a b l => simp only [sumL_cons]; omega
  | trans _ _ h1 h2 => rw [h1, h2]

/-- ways from a row up to rows of one number -/
def waysN : Nat → List Int → Int
  | 0, _ => 1
  | n + 1, xs => sumL (above xs) (waysN n)
def ways (xs : List Int) : Int := waysN (xs.length - 1) xs
theorem ways_one {xs : List Int} (h : xs.length < 2) : ways xs = 1 := by unfold ways; rw [show xs.length - 1 = 0 from by omega]; rfl
theorem ways_more {xs : List Int} (hx : Rise xs) (h : 2 ≤ xs.length) : ways xs = sumL (above xs) ways := by
  unfold ways
  obtain ⟨n, hn⟩ : ∃ n, xs.length - 1 = n + 1 := ⟨xs.length - 2, by omega⟩
  rw [hn, waysN]
  refine sumL_congr fun ys hy => ?_
  have := (above_mem hx hy).2
  rw [show ys.length - 1 = n from by omega]

/-- .. j steps up, a score on the way, weighed at the end -/
def climbW (sc : List Int → List Int → Int) (φ : List Int → Int → Int) : Nat → List Int → Int → Int
  | 0, xs, s => φ xs s
  | j + 1, xs, s => sumL (above xs) fun ys => climbW sc φ j ys (s + sc xs ys)
/-- .. where one can stand -/
def reach (sc : List Int → List Int → Int) (xs : List Int) : Nat → List (List Int × Int)
  | 0 => [(xs, 0)]
  | j + 1 => (reach sc xs j).flatMap fun p => (above p.1).map fun ys => (ys, p.2 + sc p.1 ys)

theorem climb_ways (sc : List Int → List Int → Int) {xs : List Int} (s : Int) : ∀ {j : Nat}, climbW sc (fun _ _ => 1) j xs s = waysN j xs
  | 0 => rfl
  | j + 1 => by
    simp only [climbW, waysN]
    exact sumL_congr fun ys _ => climb_ways sc _

/-- a set of numbers -/
def mask : List Int → Nat
  | [] => 0
  | x :: r => 2 ^ x.toNat ||| mask r

end Go.Proofs.Ytopamhcnbocfoaa
