/- Patterns joined at their points, their small arcs and nests, and their ranks in the list of all patterns. No conditions. -/
import Derived.Test.YtncpoljjfhmkeaaPat
import Derived.Test.YtncpoljjfhmkeaaAllM
namespace Go.Proofs.Ytncpoljjfhmkeaa

/-- points linked in pairs -/
structure Lk (p : List Int) : Prop where
  lo : 2 ≤ p.length
  hi : p.length ≤ 12
  inside : ∀ i, i < p.length → 0 ≤ gi p i ∧ gi p i < p.length
  other : ∀ i, i < p.length → gi p i ≠ i ∧ gi p (gi p i).toNat = i
theorem isPat.lk {p : List Int} (h : isPat p) : Lk p := ⟨h.lo, h.hi, h.inside, h.other⟩

/-- the next point, round the circle -/
def nx (p : List Int) (i : Nat) : Nat := (i + 1) % p.length
theorem Lk.nx_lt {p : List Int} (h : Lk p) (i : Nat) : nx p i < p.length := Nat.mod_lt _ (by have := h.lo; omega)
theorem Lk.nx_ne {p : List Int} (h : Lk p) {i : Nat} (hi : i < p.length) : nx p i ≠ i := by
  have h2 := h.lo
  unfold nx
  by_cases e : i + 1 = p.length
  · rw [e, Nat.mod_self]; omega
  · rw [Nat.mod_eq_of_lt (by omega)]; omega

/-- joined at a point: those to which the point and the next one were linked are linked, then the two themselves -/
def joinL (p : List Int) (i : Nat) : List Int :=
  (((p.set (gi p i).toNat (gi p (nx p i))).set (gi p (nx p i)).toNat (gi p i)).set i (nx p i : Int)).set (nx p i) (i : Int)
/-- .. in the model's order -/
def joinS (p : List Int) (i : Nat) : List Int :=
  (((p.set i (nx p i : Int)).set (nx p i) (i : Int)).set (gi p i).toNat (gi p (nx p i))).set (gi p (nx p i)).toNat (gi p i)

theorem joinL_len (p : List Int) (i : Nat) : (joinL p i).length = p.length := by simp [joinL]
theorem joinS_len (p : List Int) (i : Nat) : (joinS p i).length = p.length := by simp [joinS]

theorem Lk.gi_joinL {p : List Int} (h : Lk p) {i : Nat} (hi : i < p.length) (x : Nat) :
    gi (joinL p i) x = if x = nx p i then (i : Int) else if x = i then (nx p i : Int) else if x = (gi p (nx p i)).toNat then gi p i else if x = (gi p i).toNat then gi p (nx p i) else gi p x := by
  have h1 := h.inside i hi
  have h2 := h.inside _ (h.nx_lt i)
  have h3 := h.nx_lt i
  unfold joinL
  rw [gi_set (by simp only [List.length_set]; exact h3), gi_set (by simp only [List.length_set]; exact hi), gi_set (by simp only [List.length_set]; omega), gi_set (by omega)]
theorem Lk.gi_joinS {p : List Int} (h : Lk p) {i : Nat} (hi : i < p.length) (x : Nat) :
    gi (joinS p i) x = if x = (gi p (nx p i)).toNat then gi p i else if x = (gi p i).toNat then gi p (nx p i) else if x = nx p i then (i : Int) else if x = i then (nx p i : Int) else gi p x := by
  have h1 := h.inside i hi
  have h2 := h.inside _ (h.nx_lt i)
  have h3 := h.nx_lt i
  unfold joinS
  rw [gi_set (by simp only [List.length_set]; omega), gi_set (by simp only [List.length_set]; omega), gi_set (by simp only [List.length_set]; exact h3), gi_set (by exact hi)]

/-- what the two points and their other ones are to each other -/
theorem Lk.four {p : List Int} (h : Lk p) {i : Nat} (hi : i < p.length) :
    ∃ k A B : Nat, nx p i = k ∧ gi p i = A ∧ gi p k = B ∧ k < p.length ∧ A < p.length ∧ B < p.length ∧ k ≠ i ∧ A ≠ i ∧ B ≠ k ∧ gi p A = i ∧ gi p B = k := by
  have h1 := h.inside i hi
  have h2 := h.inside _ (h.nx_lt i)
  have o1 := h.other i hi
  have o2 := h.other _ (h.nx_lt i)
  have e1 : gi p i = ((gi p i).toNat : Int) := by omega
  have e2 : gi p (nx p i) = ((gi p (nx p i)).toNat : Int) := by omega
  exact ⟨nx p i, (gi p i).toNat, (gi p (nx p i)).toNat, rfl, e1, e2, h.nx_lt i, by omega, by omega, h.nx_ne hi, by omega, by omega, o1.2, o2.2⟩

theorem Lk.join {p : List Int} (h : Lk p) {i : Nat} (hi : i < p.length) : Lk (joinL p i) := by
  obtain ⟨k, A, B, hk, hA, hB, k1, A1, B1, ki, Ai, Bk, gA, gB⟩ := h.four hi
  have G := h.gi_joinL hi
  rw [hk, hA, hB, Int.toNat_natCast, Int.toNat_natCast] at G
  have hl := joinL_len p i
  refine ⟨by rw [hl]; exact h.lo, by rw [hl]; exact h.hi, fun x hx => ?_, fun x hx => ?_⟩
  · rw [hl] at hx ⊢
    rw [G x]
    have := h.inside x hx
    repeat' split <;> omega
  · rw [hl] at hx
    have ox := h.other x hx
    have nx1 := h.inside x hx
    rw [G x]
    by_cases x1 : x = k
    · rw [if_pos x1]
      refine ⟨by omega, ?_⟩
      rw [Int.toNat_natCast, G i, if_neg (fun e => ki e.symm), if_pos rfl]
      omega
    rw [if_neg x1]
    by_cases x2 : x = i
    · rw [if_pos x2]
      refine ⟨by omega, ?_⟩
      rw [Int.toNat_natCast, G k, if_pos rfl]
      omega
    rw [if_neg x2]
    by_cases x3 : x = B
    · rw [if_pos x3]
      have a1 : A ≠ k := fun e => x2 (by rw [e, hB] at gA; omega)
      have a2 : A ≠ B := fun e => ki (by rw [e, gB] at gA; omega)
      refine ⟨by omega, ?_⟩
      rw [Int.toNat_natCast, G A, if_neg a1, if_neg Ai, if_neg a2, if_pos rfl]
      omega
    rw [if_neg x3]
    by_cases x4 : x = A
    · rw [if_pos x4]
      have a1 : B ≠ i := fun e => x1 (by rw [e, hA] at gB; omega)
      refine ⟨by omega, ?_⟩
      rw [Int.toNat_natCast, G B, if_neg Bk, if_neg a1, if_pos rfl]
      omega
    rw [if_neg x4]
    obtain ⟨y, hy⟩ : ∃ y : Nat, gi p x = y := ⟨(gi p x).toNat, by omega⟩
    rw [hy, Int.toNat_natCast] at ox ⊢
    have y1 : y ≠ k := fun e => x3 (by rw [e, hB] at ox; omega)
    have y2 : y ≠ i := fun e => x4 (by rw [e, hA] at ox; omega)
    have y3 : y ≠ B := fun e => x1 (by rw [e, gB] at ox; omega)
    have y4 : y ≠ A := fun e => x2 (by rw [e, gA] at ox; omega)
    refine ⟨ox.1, ?_⟩
    rw [G y, if_neg y1, if_neg y2, if_neg y3, if_neg y4]
    exact ox.2

/-- linked already: nothing changes -/
theorem Lk.join_same {p : List Int} (h : Lk p) {i : Nat} (hi : i < p.length) (hs : gi p i = nx p i) : joinL p i = p := by
  obtain ⟨k, A, B, hk, hA, hB, k1, A1, B1, ki, Ai, Bk, gA, gB⟩ := h.four hi
  have G := h.gi_joinL hi
  rw [hk, hA, hB, Int.toNat_natCast, Int.toNat_natCast] at G
  rw [hk, hA] at hs
  obtain rfl : A = k := by omega
  rw [hB] at gA
  obtain rfl : B = i := by omega
  refine ext_gi (joinL_len _ _) fun x hx => ?_
  rw [G x]
  repeat' split
  all_goals first | (rename_i e; subst e; omega) | omega | rfl
theorem Lk.join_model {p : List Int} (h : Lk p) {i : Nat} (hi : i < p.length) (hs : gi p i ≠ nx p i) : joinS p i = joinL p i := by
  obtain ⟨k, A, B, hk, hA, hB, k1, A1, B1, ki, Ai, Bk, gA, gB⟩ := h.four hi
  have G := h.gi_joinL hi
  have H := h.gi_joinS hi
  rw [hk, hA, hB, Int.toNat_natCast, Int.toNat_natCast] at G H
  rw [hk, hA] at hs
  have a1 : A ≠ k := by omega
  have b1 : B ≠ i := fun e => a1 (by rw [e, hA] at gB; omega)
  have a2 : A ≠ B := fun e => ki (by rw [e, gB] at gA; omega)
  refine ext_gi (by rw [joinL_len, joinS_len]) fun x hx => ?_
  rw [G x, H x]
  repeat' split
  all_goals omega

/-- joined at the points of a word, one after the other -/
def joinT (p ws : List Int) : Nat → List Int
  | 0 => p
  | k + 1 => joinL (joinT p ws k) (gi ws k).toNat
theorem joinT_len (p ws : List Int) : ∀ k, (joinT p ws k).length = p.length
  | 0 => rfl
  | k + 1 => by rw [joinT, joinL_len, joinT_len p ws k]
theorem Lk.run {p ws : List Int} (h : Lk p) (hw : ∀ k, k < ws.length → 0 ≤ gi ws k ∧ gi ws k < p.length) : ∀ k, k ≤ ws.length → Lk (joinT p ws k)
  | 0, _ => h
  | k + 1, hk => by
    have hi := hw k (by omega)
    exact (Lk.run h hw k (by omega)).join (by rw [joinT_len]; omega)

/-- the small arcs before k -/
def arcsL (p : List Int) : Nat → List Int
  | 0 => []
  | k + 1 => if gi p k = nx p k then arcsL p k ++ [(k : Int)] else arcsL p k
theorem arcsL_len (p : List Int) : ∀ k, (arcsL p k).length ≤ k
  | 0 => by simp [arcsL]
  | k + 1 => by
    have := arcsL_len p k
    unfold arcsL
    split
    · rw [List.length_append]; simpa using this
    · omega

/-- how many links are open behind k points, and the most that have been -/
def nestF (p : List Int) : Nat → Int × Int
  | 0 => (0, 0)
  | k + 1 => if gi p k > k then ((nestF p k).1 + 1, max (nestF p k).2 ((nestF p k).1 + 1)) else ((nestF p k).1 - 1, (nestF p k).2)
theorem nestF_in (p : List Int) : ∀ k : Nat, -(k : Int) ≤ (nestF p k).1 ∧ (nestF p k).1 ≤ k ∧ (nestF p k).1 ≤ (nestF p k).2 ∧ 0 ≤ (nestF p k).2 ∧ (nestF p k).2 ≤ k
  | 0 => by simp [nestF]
  | k + 1 => by
    have := nestF_in p k
    unfold nestF
    split <;> simp only [] <;> omega

/-- the first index of a list -/
def rk (l : List (List Int)) (p : List Int) : Nat := l.findIdx (· == p)
theorem rk_lt {l : List (List Int)} {p : List Int} (h : p ∈ l) : rk l p < l.length := List.findIdx_lt_length_of_exists ⟨p, h, by simp⟩
theorem rk_at {l : List (List Int)} {p : List Int} (h : p ∈ l) : gr l (rk l p) = p := by
  have := List.findIdx_getElem (w := rk_lt h)
  rw [gr_lt (rk_lt h)]
  exact eq_of_beq this
theorem rk_before {l : List (List Int)} {p : List Int} {j : Nat} (h : j < rk l p) : gr l j ≠ p := by
  have := List.not_of_lt_findIdx h
  have hl : j < l.length := Nat.lt_of_lt_of_le h List.findIdx_le_length
  rw [gr_lt hl]
  simpa using this
theorem rk_none {l : List (List Int)} {p : List Int} (h : p ∉ l) {j : Nat} (hj : j < l.length) : gr l j ≠ p := fun e => h (e ▸ gr_mem hj)
theorem rk_is {l : List (List Int)} {p : List Int} {k : Nat} (hk : k < l.length) (h1 : gr l k = p) (h2 : ∀ j, j < k → gr l j ≠ p) : rk l p = k := by
  rcases Nat.lt_trichotomy (rk l p) k with h | h | h
  · exact absurd (rk_at (h1 ▸ gr_mem hk)) (h2 _ h)
  · exact h
  · exact absurd h1 (rk_before h)

/-- all texts of brackets -/
def strs : Nat → List (List Int)
  | 0 => [[]]
  | k + 1 => (strs k).flatMap fun s => [40 :: s, 41 :: s]
theorem strs_all : ∀ (k : Nat) (s : List Int), s.length = k → (∀ x, x ∈ s → x = 40 ∨ x = 41) → s ∈ strs k
  | 0, s, h, _ => by
    obtain rfl := List.eq_nil_of_length_eq_zero h
    simp [strs]
  | k + 1, s, h, hx => by
    cases s with
    | nil => simp at h
    | cons a s =>
      have := strs_all k s (by simpa using h) (fun x hm => hx x (List.mem_cons_of_mem _ hm))
      unfold strs
      rw [List.mem_flatMap]
      refine ⟨s, this, ?_⟩
      rcases hx a (List.mem_cons_self ..) with rfl | rfl <;> simp
def readIn (n : Nat) (s : List Int) : Bool := match runP n (gi s) n with
  | some (P, []) => (patP 6 (n / 2)).contains P
  | _ => true
theorem read_all : ∀ k, k < 5 → (strs (2 * k)).all (readIn (2 * k)) = true := by decide +kernel

/-- the list of all patterns is complete -/
theorem isPat.mem {p : List Int} (h : isPat p) (h8 : p.length ≤ 8) : p ∈ patP 6 (p.length / 2) := by
  have he := h.even
  obtain ⟨k, hk⟩ : ∃ k, p.length = 2 * k := ⟨p.length / 2, by omega⟩
  have hs := strs_all p.length ((List.range p.length).map (brk p)) (by simp) (by
    intro x hx
    obtain ⟨e, _, rfl⟩ := List.mem_map.1 hx
    unfold brk
    split <;> simp)
  have hr := read_all k (by omega)
  rw [← hk, List.all_eq_true] at hr
  have h1 := hr _ hs
  have hc : runP p.length (gi ((List.range p.length).map (brk p))) p.length = some (p, []) := by
    rw [← pat_read h]
    refine runP_congr _ fun x hx => ?_
    rw [gi_lt (by simpa using hx)]
    simp
  unfold readIn at h1
  rw [hc] at h1
  simpa using h1

/-- joining keeps to the list -/
theorem join_all : ∀ n, n < 5 → ((patP 6 n).all fun p => p.length == 2 * n && (List.range (2 * n)).all fun i => (patP 6 n).contains (joinL p i)) = true := by decide +kernel
theorem join_mem {n : Nat} (hn : n < 5) {p : List Int} (hp : p ∈ patP 6 n) {i : Nat} (hi : i < 2 * n) : joinL p i ∈ patP 6 n := by
  have := join_all n hn
  rw [List.all_eq_true] at this
  have := this p hp
  rw [Bool.and_eq_true, List.all_eq_true] at this
  simpa using this.2 i (by simpa using hi)
theorem patP_len {n : Nat} (hn : n < 5) {p : List Int} (hp : p ∈ patP 6 n) : p.length = 2 * n := by
  have := join_all n hn
  rw [List.all_eq_true] at this
  have := this p hp
  rw [Bool.and_eq_true] at this
  simpa using this.1
def lkB (p : List Int) : Bool := (List.range p.length).all fun i => decide (0 ≤ gi p i) && decide (gi p i < p.length) && decide (gi p i ≠ i) && decide (gi p (gi p i).toNat = i)
theorem lkB_all : ∀ n, n < 5 → (patP 6 n).all lkB = true := by decide +kernel
theorem patP_lk {n : Nat} (h1 : 1 ≤ n) (hn : n < 5) {p : List Int} (hp : p ∈ patP 6 n) : Lk p := by
  have hl := patP_len hn hp
  have := lkB_all n hn
  rw [List.all_eq_true] at this
  have := this p hp
  unfold lkB at this
  rw [List.all_eq_true] at this
  refine ⟨by omega, by omega, fun i hi => ?_, fun i hi => ?_⟩ <;>
  · have := this i (by simpa using hi)
    simp only [Bool.and_eq_true, decide_eq_true_eq] at this
    first | exact ⟨this.1.1.1, this.1.1.2⟩ | exact ⟨this.1.2, this.2⟩
/-- Catalan numbers -/
def catN (n : Nat) : Nat := (patP 6 n).length
theorem catN_le : ∀ n, n < 5 → catN n ≤ 14 := by decide +kernel
theorem catN_pos : ∀ n, n < 5 → 1 ≤ catN n := by decide +kernel
end Go.Proofs.Ytncpoljjfhmkeaa
