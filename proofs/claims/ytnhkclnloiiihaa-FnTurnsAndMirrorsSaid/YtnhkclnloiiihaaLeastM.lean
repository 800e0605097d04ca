/- The order of tables row by row; the eight images of a matrix; which of some tables is the least. No program here. -/
import Derived.Test.YtnhkclnloiiihaaStk
namespace Go.Proofs.Ytnhkclnloiiihaa
open Go.RowKit

/-- the first difference of two rows of n numbers is a lesser number in the first one -/
def rless (n : Nat) (x y : List Int) : Prop := ∃ j, j < n ∧ (∀ i, i < j → gi x i = gi y i) ∧ gi x j < gi y j
/-- .. of two tables of n rows: a lesser row -/
def mless (n : Nat) (a b : List (List Int)) : Prop := ∃ i, i < n ∧ (∀ k, k < i → gr a k = gr b k) ∧ rless n (gr a i) (gr b i)

theorem rless_irrefl {n : Nat} {x : List Int} : ¬ rless n x x := fun ⟨_, _, _, h⟩ => by omega
theorem rless_trans {n : Nat} {x y z : List Int} (h : rless n x y) (k : rless n y z) : rless n x z := by
  obtain ⟨j, hj, h1, h2⟩ := h
  obtain ⟨i, hi, k1, k2⟩ := k
  rcases Nat.lt_trichotomy i j with e | e | e
  · exact ⟨i, hi, fun t ht => (h1 t (by omega)).trans (k1 t ht), by rw [h1 i e]; exact k2⟩
  · subst e; exact ⟨i, hi, fun t ht => (h1 t ht).trans (k1 t ht), by omega⟩
  · exact ⟨j, hj, fun t ht => (h1 t ht).trans (k1 t (by omega)), by rw [← k1 j e]; exact h2⟩
theorem rless_asymm {n : Nat} {x y : List Int} (h : rless n x y) : ¬ rless n y x := fun k => rless_irrefl (rless_trans h k)
theorem rless_total {n : Nat} {x y : List Int} (hx : x.length = n) (hy : y.length = n) : rless n x y ∨ x = y ∨ rless n y x := by
  have key : ∀ k, k ≤ n → (∀ i, i < k → gi x i = gi y i) ∨ rless n x y ∨ rless n y x := by
    intro k
    induction k with
    | zero => exact fun _ => .inl fun i hi => absurd hi (by omega)
    | succ k ih =>
      intro hk
      rcases ih (by omega) with h | h
      · rcases Int.lt_trichotomy (gi x k) (gi y k) with e | e | e
        · exact .inr (.inl ⟨k, by omega, h, e⟩)
        · refine .inl fun i hi => ?_
          by_cases e2 : i = k
          · subst e2; exact e
          · exact h i (by omega)
        · exact .inr (.inr ⟨k, by omega, fun i hi => (h i hi).symm, e⟩)
      · exact .inr h
  rcases key n (Nat.le_refl _) with h | h | h
  · exact .inr (.inl (ext_gi (by rw [hx, hy]) (fun i hi => h i (by omega))))
  · exact .inl h
  · exact .inr (.inr h)

theorem mless_irrefl {n : Nat} {a : List (List Int)} : ¬ mless n a a := fun ⟨_, _, _, h⟩ => rless_irrefl h
theorem mless_trans {n : Nat} {a b c : List (List Int)} (h : mless n a b) (k : mless n b c) : mless n a c := by
  obtain ⟨j, hj, h1, h2⟩ := h
  obtain ⟨i, hi, k1, k2⟩ := k
  rcases Nat.lt_trichotomy i j with e | e | e
  · exact ⟨i, hi, fun t ht => (h1 t (by omega)).trans (k1 t ht), by rw [h1 i e]; exact k2⟩
  · subst e; exact ⟨i, hi, fun t ht => (h1 t ht).trans (k1 t ht), rless_trans h2 k2⟩
  · exact ⟨j, hj, fun t ht => (h1 t ht).trans (k1 t (by omega)), by rw [← k1 j e]; exact h2⟩
theorem mless_asymm {n : Nat} {a b : List (List Int)} (h : mless n a b) : ¬ mless n b a := fun k => mless_irrefl (mless_trans h k)

/-- a table of n rows of n numbers -/
def sq (n : Nat) (a : List (List Int)) : Prop := a.length = n ∧ ∀ i, i < n → (gr a i).length = n
theorem square.sq {m : List (List Int)} (h : square m) : Go.Proofs.Ytnhkclnloiiihaa.sq m.length m := ⟨rfl, h.2.2⟩

theorem mless_total {n : Nat} {a b : List (List Int)} (ha : sq n a) (hb : sq n b) : mless n a b ∨ a = b ∨ mless n b a := by
  have key : ∀ k, k ≤ n → (∀ i, i < k → gr a i = gr b i) ∨ mless n a b ∨ mless n b a := by
    intro k
    induction k with
    | zero => exact fun _ => .inl fun i hi => absurd hi (by omega)
    | succ k ih =>
      intro hk
      rcases ih (by omega) with h | h
      · rcases rless_total (ha.2 k (by omega)) (hb.2 k (by omega)) with e | e | e
        · exact .inr (.inl ⟨k, by omega, h, e⟩)
        · refine .inl fun i hi => ?_
          by_cases e2 : i = k
          · subst e2; exact e
          · exact h i (by omega)
        · exact .inr (.inr ⟨k, by omega, fun i hi => (h i hi).symm, e⟩)
      · exact .inr h
  rcases key n (Nat.le_refl _) with h | h | h
  · exact .inr (.inl (ext_gr (by rw [ha.1, hb.1]) (fun i hi => h i (by rw [ha.1] at hi; exact hi))))
  · exact .inl h
  · exact .inr (.inr h)

/-- the least one of the first k tables of a row of tables -/
def IsMin (n k : Nat) (f : Nat → List (List Int)) (r : List (List Int)) : Prop := (∃ i, i < k ∧ f i = r) ∧ ∀ i, i < k → ¬ mless n (f i) r

theorem IsMin.one (n : Nat) (f : Nat → List (List Int)) : IsMin n 1 f (f 0) := by
  refine ⟨⟨0, by omega, rfl⟩, fun i hi => ?_⟩
  obtain rfl : i = 0 := by omega
  exact mless_irrefl
theorem IsMin.less {n k : Nat} {f : Nat → List (List Int)} {r : List (List Int)} (h : IsMin n k f r) (hl : mless n (f k) r) : IsMin n (k + 1) f (f k) :=
  ⟨⟨k, by omega, rfl⟩, fun i hi hi2 => by
    by_cases e : i = k
    · subst e; exact mless_irrefl hi2
    · exact h.2 i (by omega) (mless_trans hi2 hl)⟩
theorem IsMin.more {n k : Nat} {f : Nat → List (List Int)} {r : List (List Int)} (h : IsMin n k f r) (hl : ¬ mless n (f k) r) : IsMin n (k + 1) f r := by
  obtain ⟨i, hi, he⟩ := h.1
  refine ⟨⟨i, by omega, he⟩, fun j hj => ?_⟩
  by_cases e : j = k
  · subst e; exact hl
  · exact h.2 j (by omega)
theorem IsMin.unique {n k k' : Nat} {f g : Nat → List (List Int)} {r r' : List (List Int)} (h : IsMin n k f r) (h' : IsMin n k' g r') (hf : ∀ i, i < k → sq n (f i)) (hg : ∀ i, i < k' → sq n (g i))
    (h1 : ∀ i, i < k → ∃ j, j < k' ∧ g j = f i) (h2 : ∀ i, i < k' → ∃ j, j < k ∧ f j = g i) : r = r' := by
  obtain ⟨i, hi, rfl⟩ := h.1
  obtain ⟨j, hj, rfl⟩ := h'.1
  rcases mless_total (hf i hi) (hg j hj) with e | e | e
  · obtain ⟨t, ht, et⟩ := h1 i hi
    exact absurd (et ▸ e) (h'.2 t ht)
  · exact e
  · obtain ⟨t, ht, et⟩ := h2 j hj
    exact absurd (et ▸ e) (h.2 t ht)

/-- turned k times -/
def cwN (m : List (List Int)) : Nat → List (List Int)
  | 0 => m
  | k + 1 => cw (cwN m k)
theorem cwN_len (m : List (List Int)) : ∀ k, (cwN m k).length = m.length
  | 0 => rfl
  | k + 1 => by rw [cwN, cw_len, cwN_len m k]
theorem square.cwN {m : List (List Int)} (h : square m) : ∀ k, square (Go.Proofs.Ytnhkclnloiiihaa.cwN m k)
  | 0 => h
  | k + 1 => (h.cwN k).cw
theorem cw4 {m : List (List Int)} (h : square m) : cwN m 4 = m := by
  have l1 := cw_len m
  have l2 := cw_len (cw m)
  have l3 := cw_len (cw (cw m))
  refine ext_gr (cwN_len m 4) fun i hi => ?_
  rw [cwN_len] at hi
  have hr := (h.cwN 4).2.2 i (by rw [cwN_len]; exact hi)
  rw [cwN_len] at hr
  refine ext_gi (by rw [hr, h.2.2 i hi]) fun j hj => ?_
  rw [hr] at hj
  show gi (gr (cw (cw (cw (cw m)))) i) j = _
  rw [gi_cw (by omega) (by omega), gi_cw (by omega) (by omega), gi_cw (by omega) (by omega), gi_cw (by omega) (by omega)]
  rw [show m.length - 1 - ((cw (cw m)).length - 1 - i) = i from by omega, show (cw m).length - 1 - ((cw (cw (cw m))).length - 1 - j) = j from by omega]

/-- the images as the program lists them -/
def im (m : List (List Int)) (i : Nat) : List (List Int) := if i < 4 then cwN m i else mir (cwN m (i - 4))
/-- .. as the model comes by them -/
def sp (m : List (List Int)) (i : Nat) : List (List Int) := if i % 2 = 1 then cwN m (i / 2 + 1) else if i = 0 then m else mir (cwN m (i / 2))

theorem sq_cwN {m : List (List Int)} (h : square m) (k : Nat) : sq m.length (cwN m k) := by
  have := (h.cwN k).sq
  rw [cwN_len] at this
  exact this
theorem sq_mir {m : List (List Int)} (h : square m) (k : Nat) : sq m.length (mir (cwN m k)) := by
  have := (h.cwN k).mir.sq
  rw [mir_len, cwN_len] at this
  exact this
theorem sq_im {m : List (List Int)} (h : square m) (i : Nat) : sq m.length (im m i) := by
  unfold im
  split
  · exact sq_cwN h i
  · exact sq_mir h _
theorem sq_sp {m : List (List Int)} (h : square m) (i : Nat) : sq m.length (sp m i) := by
  unfold sp
  split
  · exact sq_cwN h _
  · split
    · exact h.sq
    · exact sq_mir h _

/-- the least image -/
def lstM (m r : List (List Int)) : Prop := IsMin m.length 8 (im m) r
theorem lst_sp {m r : List (List Int)} (h : square m) (k : IsMin m.length 9 (sp m) r) : ∀ r', lstM m r' → r = r' := by
  intro r' h'
  refine IsMin.unique k h' (fun i _ => sq_sp h i) (fun i _ => sq_im h i) (fun i hi => ?_) (fun i hi => ?_)
  · have e4 := cw4 h
    have : i = 0 ∨ i = 1 ∨ i = 2 ∨ i = 3 ∨ i = 4 ∨ i = 5 ∨ i = 6 ∨ i = 7 ∨ i = 8 := by omega
    rcases this with rfl | rfl | rfl | rfl | rfl | rfl | rfl | rfl | rfl
    · exact ⟨0, by omega, by simp [im, sp, cwN]⟩
    · exact ⟨1, by omega, by simp [im, sp]⟩
    · exact ⟨5, by omega, by simp [im, sp]⟩
    · exact ⟨2, by omega, by simp [im, sp]⟩
    · exact ⟨6, by omega, by simp [im, sp]⟩
    · exact ⟨3, by omega, by simp [im, sp]⟩
    · exact ⟨7, by omega, by simp [im, sp]⟩
    · exact ⟨0, by omega, by simp [im, sp, e4]; rfl⟩
    · exact ⟨4, by omega, by simp [im, sp, e4]; rfl⟩
  · have e4 := cw4 h
    have : i = 0 ∨ i = 1 ∨ i = 2 ∨ i = 3 ∨ i = 4 ∨ i = 5 ∨ i = 6 ∨ i = 7 := by omega
    rcases this with rfl | rfl | rfl | rfl | rfl | rfl | rfl | rfl
    · exact ⟨0, by omega, by simp [im, sp, cwN]⟩
    · exact ⟨1, by omega, by simp [im, sp]⟩
    · exact ⟨3, by omega, by simp [im, sp]⟩
    · exact ⟨5, by omega, by simp [im, sp]⟩
    · exact ⟨8, by omega, by simp [im, sp, e4]; rfl⟩
    · exact ⟨2, by omega, by simp [im, sp]⟩
    · exact ⟨4, by omega, by simp [im, sp]⟩
    · exact ⟨6, by omega, by simp [im, sp]⟩
theorem lst_one {m r r' : List (List Int)} (h : square m) (k : lstM m r) (k' : lstM m r') : r = r' :=
  IsMin.unique k k' (fun i _ => sq_im h i) (fun i _ => sq_im h i) (fun i hi => ⟨i, hi, rfl⟩) (fun i hi => ⟨i, hi, rfl⟩)
end Go.Proofs.Ytnhkclnloiiihaa
