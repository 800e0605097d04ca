/- Parts of proofs: contracts and plain facts. Conditions: as each says. -/
import Derived.Test.YtgdijjfipicodaaDoorK03
namespace Go.Proofs.YtgdijjfipicodaaDoor
open Go.RowKit

/-- the first difference of two rows of n numbers is a lesser number in the first one -/
def rless (n : Nat) (x y : List Int) : Prop := ∃ j, j < n ∧ (∀ i, i < j → gi x i = gi y i) ∧ gi x j < gi y j
/-- .. of two tables of n rows: a lesser row -/
def mless (n : Nat) (a b : List (List Int)) : Prop := ∃ i, i < n ∧ (∀ k, k < i → gr a k = gr b k) ∧ rless n (gr a i) (gr b i)

theorem rless_irrefl {n : Nat} {x : List Int} : ¬ rless n x x := fun ⟨_, _, _, h⟩ => by omega
theorem rless_trans {n : Nat} {x y z : List Int} (h : rless n x y) (k : rless n y z) : rless n x z := by
  obtain ⟨j, hj, h1, h2⟩ := h
  obtain ⟨i, hi, k1, k2⟩ := k
  rcases Nat.lt_trichotomy i j with e | e | e
  · exact ⟨i, hi, fun t ht => (h1 t (by omega)).trans (k1 t ht), by rw [h1 i e]; exact k2⟩
  · subst e; exact ⟨i, hi, fun t ht => (h1 t ht).trans (k1 t ht), by omega⟩
  · exact ⟨j, hj, fun t ht => (h1 t ht).trans (k1 t (by omega)), by rw [← k1 j e]; exact h2⟩
theorem rless_asymm {n : Nat} {x y : List Int} (h : rless n x y) : ¬ rless n y x := fun k => rless_irrefl (rless_trans h k)
theorem rless_total {n : Nat} {x y : List Int} (hx : x.length = n) (hy : y.length = n) : rless n x y ∨ x = y ∨ rless n y x := by
  have key : ∀ k, k ≤ n → (∀ i, i < k → gi x i = gi y i) ∨ rless n x y ∨ rless n y x := by
    intro k
    induction k with
    | zero => exact fun _ => .inl fun i hi => absurd hi (by omega)
    | succ k ih =>
      intro hk
      rcases ih (by omega) with h | h
      · rcases Int.lt_trichotomy (gi x k) (gi y k) with e | e | e
        · exact .inr (.inl ⟨k, by omega, h, e⟩)
        · refine .inl fun i hi => ?_
          by_cases e2 : i = k
          · subst e2; exact e
          · exact h i (by omega)
        · exact .inr (.inr ⟨k, by omega, fun i hi => (h i hi).symm, e⟩)
      · exact .inr h
  rcases key n (Nat.le_refl _) with h | h | h
  · exact .inr (.inl (ext_gi (by rw [hx, hy]) (fun i hi => h i (by omega))))
  · exact .inl h
  · exact .inr (.inr h)

theorem mless_irrefl {n : Nat} {a : List (List Int)} : ¬ mless n a a := fun ⟨_, _, _, h⟩ => rless_irrefl h
theorem mless_trans {n : Nat} {a b c : List (List Int)} (h : mless n a b) (k : mless n b c) : mless n a c := by
  obtain ⟨j, hj, h1, h2⟩ := h
  obtain ⟨i, hi, k1, k2⟩ := k
  rcases Nat.lt_trichotomy i j with e | e | e
  · exact ⟨i, hi, fun t ht => (h1 t (by omega)).trans (k1 t ht), by rw [h1 i e]; exact k2⟩
  · subst e; exact ⟨i, hi, fun t ht => (h1 t ht).trans (k1 t ht), rless_trans h2 k2⟩
  · exact ⟨j, hj, fun t ht => (h1 t ht).trans (k1 t (by omega)), by rw [← k1 j e]; exact h2⟩
theorem mless_asymm {n : Nat} {a b : List (List Int)} (h : mless n a b) : ¬ mless n b a := fun k => mless_irrefl (mless_trans h k)

/-- a table of n rows of n numbers -/
def sq (n : Nat) (a : List (List Int)) : Prop := a.length = n ∧ ∀ i, i < n → (gr a i).length = n
theorem square.sq {m : List (List Int)} (h : square m) : Go.Proofs.YtgdijjfipicodaaDoor.sq m.length m := ⟨rfl, h.2.2⟩

theorem mless_total {n : Nat} {a b : List (List Int)} (ha : sq n a) (hb : sq n b) : mless n a b ∨ a = b ∨ mless n b a := by
  have key : ∀ k, k ≤ n → (∀ i, i < k → gr a i = gr b i) ∨ mless n a b ∨ mless n b a := by
    intro k
    induction k with
    | zero => exact fun _ => .inl fun i hi => absurd hi (by omega)
    | succ k ih =>
      intro hk
      rcases ih (by omega) with h | h
      · rcases rless_total (ha.2 k (by omega)) (hb.2 k (by omega)) with e | e | e
        · exact .inr (.inl ⟨k, by omega, h, e⟩)
        · refine .inl fun i hi => ?_
          by_cases e2 : i = k
          · subst e2; exact e
          · exact h i (by omega)
        · exact .inr (.inr ⟨k, by omega, fun i hi => (h i hi).symm, e⟩)
      · exact .inr h
  rcases key n (Nat.le_refl _) with h | h | h
  · exact .inr (.inl (ext_gr (by rw [ha.1, hb.1]) (fun i hi => h i (by rw [ha.1] at hi; exact hi))))
  · exact .inl h
  · exact .inr (.inr h)

/-- the least one of the first k tables of a row of tables -/
def IsMin (n k : Nat) (f : Nat → List (List Int)) (r : List (List Int)) : Prop := (∃ i, i < k ∧ f i = r) ∧ ∀ i, i < k → ¬ mless n (f i) r

theorem IsMin.one (n : Nat) (f : Nat → List (List Int)) : IsMin n 1 f (f 0) := by
  refine ⟨⟨0, by omega, rfl⟩, fun i hi => ?_⟩
  obtain rfl : i = 0 := by omega
  exact mless_irrefl
theorem IsMin.less {n k : Nat} {f : Nat → List (List Int)} {r : List (List Int)} (h : IsMin n k f r) (hl : mless n (f k) r) : IsMin n (k + 1) f (f k) :=
  ⟨⟨k, by omega, rfl⟩, fun i hi hi2 => by
    by_cases e : i = k
    · subst e; exact mless_irrefl hi2
    · exact h.2 i (by omega) (mless_trans hi2 hl)⟩
theorem IsMin.more {n k : Nat} {f : Nat → List (List Int)} {r : List (List Int)} (h : IsMin n k f r) (hl : ¬ mless n (f k) r) : IsMin n (k + 1) f r := by
  obtain ⟨i, hi, he⟩ := h.1
  refine ⟨⟨i, by omega, he⟩, fun j hj => ?_⟩
  by_cases e : j = k
  · subst e; exact hl
  · exact h.2 j (by omega)
theorem IsMin.unique {n k k' : Nat} {f g : Nat → List (List Int)} {r r' : List (List Int)} (h : IsMin n k f r) (h' : IsMin n k' g r') (hf : ∀ i, i < k → sq n (f i)) (hg : ∀ i, i < k' → sq n (g i))
    (h1 : ∀ i, i < k → ∃ j, j < k' ∧ g j = f i) (h2 : ∀ i, i < k' → ∃ j, j < k ∧ f j = g i) : r = r' := by
  obtain ⟨i, hi, rfl⟩ := h.1
  obtain ⟨j, hj, rfl⟩ := h'.1
  rcases mless_total (hf i hi) (hg j hj) with e | e | e
  · obtain ⟨t, ht, et⟩ := h1 i hi
    exact absurd (et ▸ e) (h'.2 t ht)
  · exact e
  · obtain ⟨t, ht, et⟩ := h2 j hj
    exact absurd (et ▸ e) (h.2 t ht)

/-- turned k times -/
def cwN (m : List (List Int)) : Nat → List (List Int)
  | 0 => m
  | k + 1 => cw (cwN m k)
theorem cwN_len (m : List (List Int)) : ∀ k, (cwN m k).length = m.length
  | 0 => rfl
  | k + 1 => by rw [cwN, cw_len, cwN_len m k]
theorem square.cwN {m : List (List Int)} (h : square m) : ∀ k, square (Go.Proofs.YtgdijjfipicodaaDoor.cwN m k)
  | 0 => h
  | k + 1 => (h.cwN k).cw
theorem cw4 {m : List (List Int)} (h : square m) : cwN m 4 = m := by
  have l1 := cw_len m
  have l2 := cw_len (cw m)
  have l3 := cw_len (cw (cw m))
  refine ext_gr (cwN_len m 4) fun i hi => ?_
  rw [cwN_len] at hi
  have hr := (h.cwN 4).2.2 i (by rw [cwN_len]; exact hi)
  rw [cwN_len] at hr
  refine ext_gi (by rw [hr, h.2.2 i hi]) fun j hj => ?_
  rw [hr] at hj
  show gi (gr (cw (cw (cw (cw m)))) i) j = _
  rw [gi_cw (by omega) (by omega), gi_cw (by omega) (by omega), gi_cw (by omega) (by omega), gi_cw (by omega) (by omega)]
  rw [show m.length - 1 - ((cw (cw m)).length - 1 - i) = i from by omega, show (cw m).length - 1 - ((cw (cw (cw m))).length - 1 - j) = j from by omega]

/-- the images as the program lists them -/
def im (m : List (List Int)) (i : Nat) : List (List Int) := if i < 4 then cwN m i else mir (cwN m (i - 4))
/-- .. as the model comes by them -/
def sp (m : List (List Int)) (i : Nat) : List (List Int) := if i % 2 = 1 then cwN m (i / 2 + 1) else if i = 0 then m else mir (cwN m (i / 2))

theorem sq_cwN {m : List (List Int)} (h : square m) (k : Nat) : sq m.length (cwN m k) := by
  have := (h.cwN k).sq
  rw [cwN_len] at this
  exact this
theorem sq_mir {m : List (List Int)} (h : square m) (k : Nat) : sq m.length (mir (cwN m k)) := by
  have := (h.cwN k).mir.sq
  rw [mir_len, cwN_len] at this
  exact this
theorem sq_im {m : List (List Int)} (h : square m) (i : Nat) : sq m.length (im m i) := by
  unfold im
  split
  · exact sq_cwN h i
  · exact sq_mir h _
theorem sq_sp {m : List (List Int)} (h : square m) (i : Nat) : sq m.length (sp m i) := by
  unfold sp
  split
  · exact sq_cwN h _
  · split
    · exact h.sq
    · exact sq_mir h _

/-- the least image -/
def lstM (m r : List (List Int)) : Prop := IsMin m.length 8 (im m) r
theorem lst_sp {m r : List (List Int)} (h : square m) (k : IsMin m.length 9 (sp m) r) : ∀ r', lstM m r' → r = r' := by
  intro r' h'
  refine IsMin.unique k h' (fun i _ => sq_sp h i) (fun i _ => sq_im h i) (fun i hi => ?_) (fun i hi => ?_)
  · have e4 := cw4 h
    have : i = 0 ∨ i = 1 ∨ i = 2 ∨ i = 3 ∨ i = 4 ∨ i = 5 ∨ i = 6 ∨ i = 7 ∨ i = 8 := by omega
    rcases this with rfl | rfl | rfl | rfl | rfl | rfl | rfl | rfl | rfl
    · exact ⟨0, by omega, by simp [im, sp, cwN]⟩
    · exact ⟨1, by omega, by simp [im, sp]⟩
    · exact ⟨5, by omega, by simp [im, sp]⟩
    · exact ⟨2, by omega, by simp [im, sp]⟩
    · exact ⟨6, by omega, by simp [im, sp]⟩
    · exact ⟨3, by omega, by simp [im, sp]⟩
    · exact ⟨7, by omega, by simp [im, sp]⟩
    · exact ⟨0, by omega, by simp [im, sp, e4]; rfl⟩
    · exact ⟨4, by omega, by simp [im, sp, e4]; rfl⟩
  · have e4 := cw4 h
    have : i = 0 ∨ i = 1 ∨ i = 2 ∨ i = 3 ∨ i = 4 ∨ i = 5 ∨ i = 6 ∨ i = 7 := by omega
    rcases this with rfl | rfl | rfl | rfl | rfl | rfl | rfl | rfl
    · exact ⟨0, by omega, by simp [im, sp, cwN]⟩
    · exact ⟨1, by omega, by simp [im, sp]⟩
    · exact ⟨3, by omega, by simp [im, sp]⟩
    · exact ⟨5, by omega, by simp [im, sp]⟩
    · exact ⟨8, by omega, by simp [im, sp, e4]; rfl⟩
    · exact ⟨2, by omega, by simp [im, sp]⟩
    · exact ⟨4, by omega, by simp [im, sp]⟩
    · exact ⟨6, by omega, by simp [im, sp]⟩
theorem lst_one {m r r' : List (List Int)} (h : square m) (k : lstM m r) (k' : lstM m r') : r = r' :=
  IsMin.unique k k' (fun i _ => sq_im h i) (fun i _ => sq_im h i) (fun i hi => ⟨i, hi, rfl⟩) (fun i hi => ⟨i, hi, rfl⟩)
end Go.Proofs.YtgdijjfipicodaaDoor

namespace Go.Proofs.YtgdijjfipicodaaDoor

/-- the numbers, among the first k, of the symmetries that a matrix has -/
def smLk (m : List (List Int)) : Nat → List Int
  | 0 => []
  | k + 1 => if im m k = m then smLk m k ++ [(k : Int)] else smLk m k
theorem smLk_len (m : List (List Int)) : ∀ k, (smLk m k).length ≤ k
  | 0 => Nat.le_refl _
  | k + 1 => by
    have := smLk_len m k
    unfold smLk
    split
    · simp; omega
    · omega
theorem smLk_mem (m : List (List Int)) (x : Nat) : ∀ k, ((x : Int) ∈ smLk m k ↔ x < k ∧ im m x = m)
  | 0 => by simp [smLk]
  | k + 1 => by
    have ih := smLk_mem m x k
    unfold smLk
    split
    · next h =>
      rw [List.mem_append, ih, List.mem_singleton]
      constructor
      · rintro (⟨h1, h2⟩ | h1)
        · exact ⟨by omega, h2⟩
        · have : x = k := by omega
          subst this
          exact ⟨by omega, h⟩
      · rintro ⟨h1, h2⟩
        by_cases e : x = k
        · exact .inr (by omega)
        · exact .inl ⟨by omega, h2⟩
    · next h =>
      rw [ih]
      constructor
      · rintro ⟨h1, h2⟩
        exact ⟨by omega, h2⟩
      · rintro ⟨h1, h2⟩
        refine ⟨?_, h2⟩
        by_cases e : x = k
        · subst e; exact absurd h2 h
        · omega
theorem im_ltS {m : List (List Int)} {i : Nat} (h : i < 4) : im m i = cwN m i := by unfold im; rw [if_pos h]
theorem im_geS {m : List (List Int)} {i : Nat} (h : 4 ≤ i) : im m i = mir (cwN m (i - 4)) := by unfold im; rw [if_neg (by omega)]
theorem im_zero (m : List (List Int)) : im m 0 = m := by simp [im, cwN]
/-- a matrix is of a kind -/
def ofK (m : List (List Int)) (k : Nat) : Prop :=
  if k = 0 then im m 2 = m else if k = 1 then im m 1 = m else if k = 2 then im m 4 = m else if k = 3 then im m 5 = m else im m 4 = m ∧ im m 6 = m
instance (m : List (List Int)) (k : Nat) : Decidable (ofK m k) := by unfold ofK; infer_instance
/-- to transpose is to turn once and then to mirror -/
theorem im_five {m : List (List Int)} (h : square m) : im m 5 = tr m := by
  have e : im m 5 = mir (mir (tr m)) := by simp [im, cwN, cw]
  rw [e]
  refine ext_gr (by rw [mir_len, mir_len]) fun i hi => ?_
  rw [mir_len, mir_len, tr_len] at hi
  have h1 : (gr (mir (mir (tr m))) i).length = m.length := by rw [mir_row (by rw [mir_len, tr_len]; exact hi), mir_len, tr_len]
  refine ext_gi (by rw [h1, tr_row hi]) fun j hj => ?_
  rw [h1] at hj
  unfold mir
  rw [gi_tab (by rw [tab_len, tr_len]; exact hi) (by rw [tab_len, tr_len]; exact hj), tab_len, gi_tab (by rw [tr_len]; exact hi) (by rw [tr_len]; omega), tr_len, show m.length - 1 - (m.length - 1 - j) = j from by omega]
end Go.Proofs.YtgdijjfipicodaaDoor

namespace Go.Proofs.YtgdijjfipicodaaDoor
open Go.RowKit

theorem l1Most_any (a b : Int) (w : World) : Calls Tryd.prog 112 #[.int .i64 a, .int .i64 b] w fun e w' => e = .returned (.int .i64 (max a b)) ∧ w' = w := by
  by_cases h : b < a
  · have hm : max a b = a := by omega
    rw [hm]
    have hd : decide (b < a) = true := by simpa using h
    clear hm
    go_enter Tryd.func112, Tryd.ntmps112
    go_wp2
    go_ret
    exact ⟨rfl, rfl⟩
  · have hm : max a b = b := by omega
    rw [hm]
    have hd : decide (b < a) = false := by simpa using h
    clear hm
    go_enter Tryd.func112, Tryd.ntmps112
    go_wp2
    go_ret
    exact ⟨rfl, rfl⟩


set_option maxRecDepth 100000 in
set_option maxHeartbeats 400000 in
theorem l1Same_any (a1 a2 : Option Addr) (c1 c2 : Nat) (xs ys : List Int) (w : World) (hn : xs.length ≤ 1048576) (hn2 : ys.length ≤ 1048576) (h1 : IntsAt w a1 xs) (h2 : IntsAt w a2 ys) :
    Calls Tryd.prog 87 #[.slice a1 xs.length c1, .slice a2 ys.length c2] w fun e w' => e = .returned (.bool (xs == ys)) ∧ Q w w' := by
  have hm1 : xs.length ≤ 9223372036854775807 := by omega
  have hm2 : ys.length ≤ 9223372036854775807 := by omega
  have H1 := Lib.hid h1
  have H2 := Lib.hid h2
  clear h1 h2
  by_cases hl : ys.length = xs.length
  · have Hl := Lib.hid hl
    have hb : ((xs.length : Int) != (ys.length : Int)) = false := by simp; omega
    go_enter Tryd.func87, Tryd.ntmps87
    go_wp2
    go_loopw [13] (fun i wr => ∃ k : Nat, k ≤ xs.length ∧ i = .int .i64 k ∧ (∀ j, j < k → gi xs j = gi ys j) ∧ Q w wr) (fun i _ => xs.length - (intOf i).toNat)
    case atStart => exact ⟨0, Nat.zero_le _, rfl, fun j hj => absurd hj (by omega), Q.refl _⟩
    case round =>
      obtain ⟨k, hk, rfl, hr, hbr⟩ := hrel
      by_cases hlt : k < xs.length
      · obtain ⟨b1, o1, rfl, hc1⟩ := H1.out.below (hbr.below _) k hlt
        obtain ⟨b2, o2, rfl, hc2⟩ := H2.out.below (hbr.below _) k (by omega)
        have Hr := Lib.hid hr
        have Hbr := Lib.hid hbr
        by_cases e : gi xs k = gi ys k
        · have He := Lib.hid e
          rw [← e] at hc2
          obtain ⟨x, hx⟩ : ∃ x, x = gi xs k := ⟨_, rfl⟩
          rw [← hx] at hc1 hc2
          clear hx e hr hbr
          go_wp2
          go_quiet (fail)
          go_wp2
          go_roundw
          case rel => exact ⟨k + 1, by omega, by go_num, fun j hj => by
            by_cases ej : j = k
            · subst ej; exact He.out
            · exact Hr.out j (by omega), Hbr.out.drewN _⟩
          case measure => simp [intOf]; omega
        · have Hs := Lib.hid (show (xs == ys) = false by
            rw [beq_eq_false_iff_ne]
            intro h
            exact e (by rw [h]))
          have hne : (gi xs k != gi ys k) = true := by simpa using e
          obtain ⟨x, hx⟩ : ∃ x, x = gi xs k := ⟨_, rfl⟩
          obtain ⟨y, hy⟩ : ∃ y, y = gi ys k := ⟨_, rfl⟩
          rw [← hx] at hc1 hne
          rw [← hy] at hc2 hne
          clear hx hy e hr hbr
          go_wp2
          go_quiet (fail)
          go_wp2
          go_ret
          exact ⟨by rw [Hs.out]; rfl, Hbr.out.drewN _⟩
      · obtain rfl : k = xs.length := by omega
        have Hs := Lib.hid (show (xs == ys) = true by
          rw [beq_iff_eq]
          exact ext_gi Hl.out.symm hr)
        have Hbr := Lib.hid hbr
        clear hr hbr
        go_wp2
        go_ret
        exact ⟨by rw [Hs.out]; rfl, Hbr.out⟩
  · have Hs := Lib.hid (show (xs == ys) = false by
      rw [beq_eq_false_iff_ne]
      intro h
      exact hl (by rw [h]))
    have hb : ((xs.length : Int) != (ys.length : Int)) = true := by simp; omega
    go_enter Tryd.func87, Tryd.ntmps87
    go_wp2
    go_ret
    exact ⟨by rw [Hs.out]; rfl, Q.refl _⟩

end Go.Proofs.YtgdijjfipicodaaDoor

namespace Go.Proofs.YtgdijjfipicodaaDoor
open Go.RowKit

set_option maxRecDepth 100000 in
set_option maxHeartbeats 800000 in
theorem sEqualI_any (a1 a2 : Option Addr) (c1 c2 : Nat) (xs ys : List Int) (w : World) (hn : xs.length ≤ 1048576) (hn2 : ys.length ≤ 1048576) (h1 : IntsAt w a1 xs) (h2 : IntsAt w a2 ys) :
    Calls Tryd.prog 101 #[.slice a1 xs.length c1, .slice a2 ys.length c2] w fun e w' => e = .returned (.bool (xs == ys)) ∧ Q w w' := by
  have hm1 : xs.length ≤ 9223372036854775807 := by omega
  have hm2 : ys.length ≤ 9223372036854775807 := by omega
  have H1 := Lib.hid h1
  have H2 := Lib.hid h2
  clear h1 h2
  by_cases hl : ys.length = xs.length
  · have Hl := Lib.hid hl
    have hb : ((xs.length : Int) != (ys.length : Int)) = false := by simp; omega
    go_enter Tryd.func101, Tryd.ntmps101
    go_wp2
    go_loopw [13] (fun i wr => ∃ k : Nat, k ≤ xs.length ∧ i = .int .i64 k ∧ (∀ j, j < k → gi xs j = gi ys j) ∧ Q w wr) (fun i _ => xs.length - (intOf i).toNat)
    case atStart => exact ⟨0, Nat.zero_le _, rfl, fun j hj => absurd hj (by omega), Q.refl _⟩
    case round =>
      obtain ⟨k, hk, rfl, hr, hbr⟩ := hrel
      by_cases hlt : k < xs.length
      · obtain ⟨b1, o1, rfl, hc1⟩ := H1.out.below (hbr.below _) k hlt
        obtain ⟨b2, o2, rfl, hc2⟩ := H2.out.below (hbr.below _) k (by omega)
        have Hr := Lib.hid hr
        have Hbr := Lib.hid hbr
        by_cases e : gi xs k = gi ys k
        · have He := Lib.hid e
          rw [← e] at hc2
          obtain ⟨x, hx⟩ : ∃ x, x = gi xs k := ⟨_, rfl⟩
          rw [← hx] at hc1 hc2
          clear hx e hr hbr
          go_wp2
          go_quiet (fail)
          go_wp2
          go_roundw
          case rel => exact ⟨k + 1, by omega, by go_num, fun j hj => by
            by_cases ej : j = k
            · subst ej; exact He.out
            · exact Hr.out j (by omega), Hbr.out.drewN _⟩
          case measure => simp [intOf]; omega
        · have Hs := Lib.hid (show (xs == ys) = false by
            rw [beq_eq_false_iff_ne]
            intro h
            exact e (by rw [h]))
          have hne : (gi xs k != gi ys k) = true := by simpa using e
          obtain ⟨x, hx⟩ : ∃ x, x = gi xs k := ⟨_, rfl⟩
          obtain ⟨y, hy⟩ : ∃ y, y = gi ys k := ⟨_, rfl⟩
          rw [← hx] at hc1 hne
          rw [← hy] at hc2 hne
          clear hx hy e hr hbr
          go_wp2
          go_quiet (fail)
          go_wp2
          go_ret
          exact ⟨by rw [Hs.out]; rfl, Hbr.out.drewN _⟩
      · obtain rfl : k = xs.length := by omega
        have Hs := Lib.hid (show (xs == ys) = true by
          rw [beq_iff_eq]
          exact ext_gi Hl.out.symm hr)
        have Hbr := Lib.hid hbr
        clear hr hbr
        go_wp2
        go_ret
        exact ⟨by rw [Hs.out]; rfl, Hbr.out⟩
  · have Hs := Lib.hid (show (xs == ys) = false by
      rw [beq_eq_false_iff_ne]
      intro h
      exact hl (by rw [h]))
    have hb : ((xs.length : Int) != (ys.length : Int)) = true := by simp; omega
    go_enter Tryd.func101, Tryd.ntmps101
    go_wp2
    go_ret
    exact ⟨by rw [Hs.out]; rfl, Q.refl _⟩

set_option maxRecDepth 100000 in
set_option maxHeartbeats 800000 in
theorem sEqualFunc_any (a1 a2 : Option Addr) (c1 c2 : Nat) (m n : List (List Int)) (w : World) (hs1 : Small m) (hs2 : Small n) (h1 : MatAt w a1 m) (h2 : MatAt w a2 n) :
    Calls Tryd.prog 100 #[.slice a1 m.length c1, .slice a2 n.length c2, .func (.func 101) #[] #[]] w fun e w' => e = .returned (.bool (m == n)) ∧ Q w w' := by
  have hm1 : m.length ≤ 9223372036854775807 := by have := hs1.1; omega
  have hm2 : n.length ≤ 9223372036854775807 := by have := hs2.1; omega
  have H1 := Lib.hid h1
  have H2 := Lib.hid h2
  have S1 := Lib.hid hs1.2
  have S2' := Lib.hid hs2.2
  clear h1 h2 hs1 hs2
  by_cases hl : n.length = m.length
  · have Hl := Lib.hid hl
    have hb : ((m.length : Int) != (n.length : Int)) = false := by simp; omega
    clear hl
    go_enter Tryd.func100, Tryd.ntmps100
    go_wp2
    go_loopw [17] (fun i wr => ∃ k : Nat, k ≤ m.length ∧ i = .int .i64 k ∧ (∀ j, j < k → gr m j = gr n j) ∧ Q w wr) (fun i _ => m.length - (intOf i).toNat)
    case atStart => exact ⟨0, Nat.zero_le _, rfl, fun j hj => absurd hj (by omega), Q.refl _⟩
    case round =>
      obtain ⟨k, hk, rfl, hr, hbr⟩ := hrel
      by_cases hlt : k < m.length
      · obtain ⟨b1, o1, r1, d1, rfl, hc1, hx1, _, _⟩ := H1.out.below (hbr.below _) k hlt
        obtain ⟨b2, o2, r2, d2, rfl, hc2, hx2, _, _⟩ := H2.out.below (hbr.below _) k (by have := Hl.out; omega)
        have hltn : k < n.length := by have := Hl.out; omega
        have Hr := Lib.hid hr
        have Hbr := Lib.hid hbr
        have C := Lib.hid (sEqualI_any r1 r2 d1 d2 (gr m k) (gr n k) wr (S1.out k hlt) (S2'.out k (by have := Hl.out; omega)) hx1 hx2)
        have hl1 := S1.out k hlt
        have hl2 := S2'.out k (by have := Hl.out; omega)
        obtain ⟨l1, e1⟩ : ∃ l, l = (gr m k).length := ⟨_, rfl⟩
        obtain ⟨l2, e2⟩ : ∃ l, l = (gr n k).length := ⟨_, rfl⟩
        rw [← e1] at hc1 C hl1
        rw [← e2] at hc2 C hl2
        clear hx1 hx2 hr hbr e1 e2
        by_cases e : gr m k = gr n k
        · have He := Lib.hid e
          have hb2 : (gr m k == gr n k) = true := by simpa using e
          rw [hb2] at C
          clear e hb2
          go_wp2_with fail
          refine C.out.mono ?_
          rintro e w2 ⟨rfl, hq⟩
          have Hq := Lib.hid (Hbr.out.trans hq)
          clear hq hc1 hc2
          go_wp2
          go_roundw
          case rel => exact ⟨k + 1, by omega, by go_num, fun j hj => by
            by_cases ej : j = k
            · subst ej; exact He.out
            · exact Hr.out j (by omega), Hq.out⟩
          case measure => simp [intOf]; omega
        · have Hs := Lib.hid (show (m == n) = false by
            rw [beq_eq_false_iff_ne]
            intro h
            exact e (by rw [h]))
          have hb2 : (gr m k == gr n k) = false := by simpa using e
          rw [hb2] at C
          clear e hb2
          go_wp2_with fail
          refine C.out.mono ?_
          rintro e w2 ⟨rfl, hq⟩
          have Hq := Lib.hid (Hbr.out.trans hq)
          clear hq hc1 hc2
          go_wp2
          go_ret
          exact ⟨by rw [Hs.out]; rfl, Hq.out⟩
      · obtain rfl : k = m.length := by omega
        have Hs := Lib.hid (show (m == n) = true by
          rw [beq_iff_eq]
          exact ext_gr Hl.out.symm hr)
        have Hbr := Lib.hid hbr
        clear hr hbr
        go_wp2
        go_ret
        exact ⟨by rw [Hs.out]; rfl, Hbr.out⟩
  · have Hs := Lib.hid (show (m == n) = false by
      rw [beq_eq_false_iff_ne]
      intro h
      exact hl (by rw [h]))
    have hb : ((m.length : Int) != (n.length : Int)) = true := by simp; omega
    go_enter Tryd.func100, Tryd.ntmps100
    go_wp2
    go_ret
    exact ⟨by rw [Hs.out]; rfl, Q.refl _⟩

set_option maxRecDepth 100000 in
set_option maxHeartbeats 800000 in
theorem weSame_any (a1 a2 : Option Addr) (c1 c2 : Nat) (m n : List (List Int)) (w : World) (hs1 : Small m) (hs2 : Small n) (h1 : MatAt w a1 m) (h2 : MatAt w a2 n) :
    Calls Tryd.prog 66 #[.slice a1 m.length c1, .slice a2 n.length c2] w fun e w' => e = .returned (.bool (m == n)) ∧ Q w w' := by
  have hm1 : m.length ≤ 9223372036854775807 := by have := hs1.1; omega
  have hm2 : n.length ≤ 9223372036854775807 := by have := hs2.1; omega
  have H1 := Lib.hid h1
  have H2 := Lib.hid h2
  have S1 := Lib.hid hs1.2
  have S2' := Lib.hid hs2.2
  clear h1 h2 hs1 hs2
  by_cases hl : n.length = m.length
  · have Hl := Lib.hid hl
    have hb : ((m.length : Int) != (n.length : Int)) = false := by simp; omega
    clear hl
    go_enter Tryd.func66, Tryd.ntmps66
    go_wp2
    go_loopw [14] (fun i wr => ∃ k : Nat, k ≤ m.length ∧ i = .int .i64 k ∧ (∀ j, j < k → gr m j = gr n j) ∧ Q w wr) (fun i _ => m.length - (intOf i).toNat)
    case atStart => exact ⟨0, Nat.zero_le _, rfl, fun j hj => absurd hj (by omega), Q.refl _⟩
    case round =>
      obtain ⟨k, hk, rfl, hr, hbr⟩ := hrel
      by_cases hlt : k < m.length
      · obtain ⟨b1, o1, r1, d1, rfl, hc1, hx1, _, _⟩ := H1.out.below (hbr.below _) k hlt
        obtain ⟨b2, o2, r2, d2, rfl, hc2, hx2, _, _⟩ := H2.out.below (hbr.below _) k (by have := Hl.out; omega)
        have hltn : k < n.length := by have := Hl.out; omega
        have Hr := Lib.hid hr
        have Hbr := Lib.hid hbr
        have C := Lib.hid (l1Same_any r1 r2 d1 d2 (gr m k) (gr n k) wr (S1.out k hlt) (S2'.out k (by have := Hl.out; omega)) hx1 hx2)
        have hl1 := S1.out k hlt
        have hl2 := S2'.out k (by have := Hl.out; omega)
        obtain ⟨l1, e1⟩ : ∃ l, l = (gr m k).length := ⟨_, rfl⟩
        obtain ⟨l2, e2⟩ : ∃ l, l = (gr n k).length := ⟨_, rfl⟩
        rw [← e1] at hc1 C hl1
        rw [← e2] at hc2 C hl2
        clear hx1 hx2 hr hbr e1 e2
        by_cases e : gr m k = gr n k
        · have He := Lib.hid e
          have hb2 : (gr m k == gr n k) = true := by simpa using e
          rw [hb2] at C
          clear e hb2
          go_wp2_with fail
          refine C.out.mono ?_
          rintro e w2 ⟨rfl, hq⟩
          have Hq := Lib.hid (Hbr.out.trans hq)
          clear hq hc1 hc2
          go_wp2
          go_roundw
          case rel => exact ⟨k + 1, by omega, by go_num, fun j hj => by
            by_cases ej : j = k
            · subst ej; exact He.out
            · exact Hr.out j (by omega), Hq.out⟩
          case measure => simp [intOf]; omega
        · have Hs := Lib.hid (show (m == n) = false by
            rw [beq_eq_false_iff_ne]
            intro h
            exact e (by rw [h]))
          have hb2 : (gr m k == gr n k) = false := by simpa using e
          rw [hb2] at C
          clear e hb2
          go_wp2_with fail
          refine C.out.mono ?_
          rintro e w2 ⟨rfl, hq⟩
          have Hq := Lib.hid (Hbr.out.trans hq)
          clear hq hc1 hc2
          go_wp2
          go_ret
          exact ⟨by rw [Hs.out]; rfl, Hq.out⟩
      · obtain rfl : k = m.length := by omega
        have Hs := Lib.hid (show (m == n) = true by
          rw [beq_iff_eq]
          exact ext_gr Hl.out.symm hr)
        have Hbr := Lib.hid hbr
        clear hr hbr
        go_wp2
        go_ret
        exact ⟨by rw [Hs.out]; rfl, Hbr.out⟩
  · have Hs := Lib.hid (show (m == n) = false by
      rw [beq_eq_false_iff_ne]
      intro h
      exact hl (by rw [h]))
    have hb : ((m.length : Int) != (n.length : Int)) = true := by simp; omega
    go_enter Tryd.func66, Tryd.ntmps66
    go_wp2
    go_ret
    exact ⟨by rw [Hs.out]; rfl, Q.refl _⟩

set_option maxRecDepth 100000 in
set_option maxHeartbeats 800000 in
theorem equalTables_any (a1 a2 : Option Addr) (c1 c2 : Nat) (m n : List (List Int)) (w : World) (hs1 : Small m) (hs2 : Small n) (h1 : MatAt w a1 m) (h2 : MatAt w a2 n) :
    Calls Tryd.prog 81 #[.slice a1 m.length c1, .slice a2 n.length c2] w fun e w' => e = .returned (.bool (m == n)) ∧ Q w w' := by
  have C := Lib.hid (sEqualFunc_any a1 a2 c1 c2 m n w hs1 hs2 h1 h2)
  obtain ⟨b, hb⟩ : ∃ b, b = (m == n) := ⟨_, rfl⟩
  rw [← hb] at C ⊢
  clear hs1 hs2 h1 h2 hb
  go_enter Tryd.func81, Tryd.ntmps81
  go_wp2_with fail
  refine C.out.mono ?_
  rintro e w2 ⟨rfl, hq⟩
  have Hq := Lib.hid hq
  clear hq
  go_wp2
  go_ret
  exact ⟨rfl, Hq.out⟩
end Go.Proofs.YtgdijjfipicodaaDoor

namespace Go.Proofs.YtgdijjfipicodaaDoor

/-- numbers are a row of parts up to n -/
def DpRow (row : List Int) (n : Nat) : Prop :=
  1 ≤ row.length ∧ row.length < n ∧ (∀ i, i < row.length → 1 ≤ gi row i ∧ gi row i ≤ n) ∧ (row.length : Int) < gi row 0 ∧ ∀ i, i < row.length → 1 ≤ i → gi row i ≤ gi row (i - 1)
/-- a row can stand below another one -/
def DpBel (row above : List Int) : Prop :=
  row.length < above.length ∧ gi row 0 ≤ above.length ∧ ∀ i, i < row.length → gi row i < gi above (i + 1)
/-- rows are a descending plane partition, by the model -/
def DpGood (rows : List (List Int)) (n : Nat) : Prop :=
  rows.length ≤ n ∧ ∀ k, k < rows.length → DpRow (gr rows k) n ∧ (0 < k → DpBel (gr rows k) (gr rows (k - 1)))

/-- limits allow a row -/
def Allow (l row : List Int) : Prop :=
  1 ≤ row.length ∧ row.length ≤ l.length ∧ (row.length : Int) < gi row 0 ∧ ∀ i, i < row.length → 1 ≤ gi row i ∧ gi row i ≤ gi l i ∧ (0 < i → gi row i ≤ gi row (i - 1))
instance (l row : List Int) : Decidable (Allow l row) := by unfold Allow; exact inferInstance

def lim1 (n : Nat) : List Int := List.replicate (n - 1) (n : Int)
def limB (row : List Int) : List Int := (List.range (row.length - 1)).map fun i => min (row.length : Int) (gi row (i + 1) - 1)
def limAt (n : Nat) (rows : List (List Int)) (k : Nat) : List Int := if k = 0 then lim1 n else limB (gr rows (k - 1))
/-- the first k rows are allowed, each by the one before, by the program -/
def ChainTo (n : Nat) (rows : List (List Int)) (k : Nat) : Prop := ∀ j, j < k → Allow (limAt n rows j) (gr rows j)

theorem lim1_len (n : Nat) : (lim1 n).length = n - 1 := by simp [lim1]
theorem gi_lim1 {n i : Nat} (h : i < n - 1) : gi (lim1 n) i = n := by
  rw [gi_lt (by rw [lim1_len]; exact h)]
  simp [lim1]
theorem limB_len (row : List Int) : (limB row).length = row.length - 1 := by simp [limB]
theorem gi_limB {row : List Int} {i : Nat} (h : i < row.length - 1) : gi (limB row) i = min (row.length : Int) (gi row (i + 1) - 1) := by
  rw [gi_lt (by rw [limB_len]; exact h)]
  simp [limB]

theorem allow_first (row : List Int) {n : Nat} (hn : 1 ≤ n) : Allow (lim1 n) row ↔ DpRow row n := by
  unfold Allow DpRow
  rw [lim1_len]
  constructor
  · rintro ⟨h1, h2, h3, h4⟩
    refine ⟨h1, by omega, fun i hi => ?_, h3, fun i hi h1 => (h4 i hi).2.2 (by omega)⟩
    have := h4 i hi
    rw [gi_lim1 (by omega)] at this
    exact ⟨this.1, this.2.1⟩
  · rintro ⟨h1, h2, h3, h4, h5⟩
    refine ⟨h1, by omega, h4, fun i hi => ?_⟩
    have := h3 i hi
    rw [gi_lim1 (by omega)]
    exact ⟨this.1, this.2, fun h0 => h5 i hi h0⟩

/-- parts of a row do not rise -/
theorem DpRow.le_first {row : List Int} {n : Nat} (h : DpRow row n) : ∀ i, i < row.length → gi row i ≤ gi row 0 := by
  intro i
  induction i with
  | zero => intro _; exact Int.le_refl _
  | succ i ih =>
    intro hi
    have h1 := h.2.2.2.2 (i + 1) hi (by omega)
    have h2 := ih (by omega)
    simp only [Nat.add_sub_cancel] at h1
    omega

theorem allow_below (row above : List Int) {n : Nat} (ha : DpRow above n) : Allow (limB above) row ↔ DpRow row n ∧ DpBel row above := by
  unfold Allow
  rw [limB_len]
  constructor
  · rintro ⟨h1, h2, h3, h4⟩
    have h5 : ∀ i, i < row.length → 1 ≤ gi row i ∧ gi row i ≤ above.length ∧ gi row i < gi above (i + 1) ∧ (0 < i → gi row i ≤ gi row (i - 1)) := by
      intro i hi
      have := h4 i hi
      rw [gi_limB (by omega)] at this
      omega
    refine ⟨⟨h1, by have := ha.2.1; omega, fun i hi => ?_, h3, fun i hi h0 => (h5 i hi).2.2.2 h0⟩, by omega, (h5 0 (by omega)).2.1, fun i hi => (h5 i hi).2.2.1⟩
    have := h5 i hi
    have := ha.2.2.1 (i + 1) (by omega)
    omega
  · rintro ⟨hr, h1, h2, h3⟩
    refine ⟨hr.1, by omega, hr.2.2.2.1, fun i hi => ?_⟩
    rw [gi_limB (by omega)]
    have h4 := hr.2.2.1 i hi
    have h5 := h3 i hi
    have h6 := hr.le_first i hi
    exact ⟨h4.1, by omega, fun h0 => hr.2.2.2.2 i hi h0⟩

theorem chain_rows {n : Nat} (hn : 1 ≤ n) {rows : List (List Int)} {k : Nat} (h : ChainTo n rows k) : ∀ j, j < k → DpRow (gr rows j) n ∧ (0 < j → DpBel (gr rows j) (gr rows (j - 1))) := by
  intro j
  induction j with
  | zero =>
    intro hj
    have := h 0 hj
    simp only [limAt, if_pos] at this
    exact ⟨(allow_first _ hn).1 this, fun h0 => absurd h0 (by omega)⟩
  | succ j ih =>
    intro hj
    have h1 := ih (by omega)
    have := h (j + 1) hj
    simp only [limAt, if_neg (Nat.succ_ne_zero j), Nat.add_sub_cancel] at this
    have h2 := (allow_below _ _ h1.1).1 this
    exact ⟨h2.1, fun _ => by simpa using h2.2⟩

/-- lengths fall -/
theorem rows_fall {n k : Nat} {rows : List (List Int)} (h : ∀ j, j < k → DpRow (gr rows j) n ∧ (0 < j → DpBel (gr rows j) (gr rows (j - 1)))) : ∀ j, j < k → (gr rows j).length + j + 1 ≤ n := by
  intro j
  induction j with
  | zero => intro hj; have := (h 0 hj).1.2.1; omega
  | succ j ih =>
    intro hj
    have h1 := ih (by omega)
    have h2 := ((h (j + 1) hj).2 (by omega)).1
    simp only [Nat.add_sub_cancel] at h2
    omega

theorem good_chain {n : Nat} (hn : 1 ≤ n) (rows : List (List Int)) : DpGood rows n ↔ ChainTo n rows rows.length := by
  constructor
  · rintro ⟨_, h⟩ j hj
    unfold limAt
    by_cases e : j = 0
    · subst e
      rw [if_pos rfl]
      exact (allow_first _ hn).2 (h 0 hj).1
    · rw [if_neg e]
      exact (allow_below _ _ (h (j - 1) (by omega)).1).2 ⟨(h j hj).1, (h j hj).2 (by omega)⟩
  · intro h
    have hr := chain_rows hn h
    refine ⟨?_, hr⟩
    by_cases e : rows.length = 0
    · omega
    have h1 := rows_fall hr (rows.length - 1) (by omega)
    omega

/-- at most 5 rows of at most 5 parts -/
theorem DpGood.bounds {rows : List (List Int)} {n : Nat} (h : DpGood rows n) (hn : 1 ≤ n) : rows.length < n ∧ ∀ i, i < rows.length → (gr rows i).length < n := by
  have hf := rows_fall h.2
  refine ⟨?_, fun i hi => by have := hf i hi; omega⟩
  by_cases e : rows.length = 0
  · omega
  have := hf (rows.length - 1) (by omega)
  have h2 := (h.2 (rows.length - 1) (by omega)).1.1
  omega
end Go.Proofs.YtgdijjfipicodaaDoor

namespace Go.Proofs.YtgdijjfipicodaaDoor

/-- the sum over the numbers of a row, of what f tells of a place and a number; over some rows -/
def sumR (f : Nat → Int → Int) (row : List Int) : Int := sumF (fun i => f i (gi row i)) row.length
def sumT (f : Nat → Int → Int) (rows : List (List Int)) (k : Nat) : Int := sumF (fun j => sumR f (gr rows j)) k

def fOne (_ : Nat) (_ : Int) : Int := 1
def fSpec (i : Nat) (x : Int) : Int := if x ≤ i then 1 else 0
def fEq (n : Int) (_ : Nat) (x : Int) : Int := if x = n then 1 else 0
def fId (_ : Nat) (x : Int) : Int := x

theorem sumR_one (row : List Int) : sumR fOne row = row.length := by
  unfold sumR fOne
  generalize row.length = n
  induction n with
  | zero => rfl
  | succ n ih => simp only [sumF]; rw [ih]; omega

theorem gi_app_left {a b : List Int} {i : Nat} (h : i < a.length) : gi (a ++ b) i = gi a i := by simp [gi, List.getD, List.getElem?_append_left h]
theorem gi_app_right {a b : List Int} {i : Nat} : gi (a ++ b) (a.length + i) = gi b i := by simp [gi, List.getD, List.getElem?_append_right]
theorem sumF_app (F : Nat → Int) (a b : Nat) : sumF F (a + b) = sumF F a + sumF (fun i => F (a + i)) b := by
  induction b with
  | zero => simp [sumF]
  | succ b ih => rw [← Nat.add_assoc]; simp only [sumF]; rw [ih]; omega

/-- numbers without their places: sums over rows put together -/
theorem sumR_app (f : Int → Int) (a b : List Int) : sumR (fun _ => f) (a ++ b) = sumR (fun _ => f) a + sumR (fun _ => f) b := by
  unfold sumR
  rw [List.length_append, sumF_app]
  congr 1
  · exact sumF_congr fun i hi => by rw [gi_app_left hi]
  · exact sumF_congr fun i hi => by rw [gi_app_right]
theorem take_flat {rows : List (List Int)} {k : Nat} (h : k < rows.length) : (rows.take (k + 1)).flatten = (rows.take k).flatten ++ gr rows k := by
  rw [List.take_succ_eq_append_getElem h, List.flatten_append, gr_lt h]
  simp
theorem sumR_flat (f : Int → Int) (rows : List (List Int)) : ∀ k, k ≤ rows.length → sumR (fun _ => f) (rows.take k).flatten = sumT (fun _ => f) rows k
  | 0, _ => by simp [sumR, sumT, sumF]
  | k + 1, h => by
    rw [take_flat (by omega), sumR_app, sumR_flat f rows k (by omega)]
    rfl
theorem sumR_flatten (f : Int → Int) (rows : List (List Int)) : sumR (fun _ => f) rows.flatten = sumT (fun _ => f) rows rows.length := by
  have := sumR_flat f rows rows.length (Nat.le_refl _)
  rwa [List.take_length] at this
theorem flat_len {rows : List (List Int)} {B : Nat} (h : ∀ i, i < rows.length → (gr rows i).length ≤ B) : ∀ k, k ≤ rows.length → (rows.take k).flatten.length ≤ k * B
  | 0, _ => by simp
  | k + 1, hk => by
    rw [take_flat (by omega), List.length_append, Nat.succ_mul]
    have := flat_len h k (by omega)
    have := h k (by omega)
    omega

/-- each number tells 0 to B -/
theorem sumR_part_bd {f : Nat → Int → Int} {row : List Int} {B : Int} (h : ∀ i, i < row.length → 0 ≤ f i (gi row i) ∧ f i (gi row i) ≤ B) : ∀ k, k ≤ row.length → 0 ≤ sumF (fun i => f i (gi row i)) k ∧ sumF (fun i => f i (gi row i)) k ≤ k * B
  | 0, _ => by simp [sumF]
  | k + 1, hk => by
    have ih := sumR_part_bd h k (by omega)
    have := h k (by omega)
    simp only [sumF]
    have e : ((k + 1 : Nat) : Int) * B = k * B + B := by rw [show ((k + 1 : Nat) : Int) = (k : Int) + 1 from by omega, Int.add_mul, Int.one_mul]
    omega
theorem sumT_bd {f : Nat → Int → Int} {rows : List (List Int)} {B : Int} (h : ∀ j, j < rows.length → 0 ≤ sumR f (gr rows j) ∧ sumR f (gr rows j) ≤ B) : ∀ k, k ≤ rows.length → 0 ≤ sumT f rows k ∧ sumT f rows k ≤ k * B
  | 0, _ => by simp [sumT, sumF]
  | k + 1, hk => by
    have ih := sumT_bd h k (by omega)
    have := h k (by omega)
    unfold sumT at ih ⊢
    simp only [sumF]
    have e : ((k + 1 : Nat) : Int) * B = k * B + B := by rw [show ((k + 1 : Nat) : Int) = (k : Int) + 1 from by omega, Int.add_mul, Int.one_mul]
    omega
theorem sumT_step (f : Nat → Int → Int) (rows : List (List Int)) (k : Nat) : sumT f rows (k + 1) = sumT f rows k + sumR f (gr rows k) := rfl

/-- what is told of the parts of partitions for 6 is 0 to 6 -/
def Tells (f : Nat → Int → Int) : Prop := ∀ i x, 1 ≤ x → x ≤ 6 → 0 ≤ f i x ∧ f i x ≤ 6
theorem tells_one : Tells fOne := fun _ _ _ _ => by unfold fOne; omega
theorem tells_spec : Tells fSpec := fun i x _ _ => by unfold fSpec; by_cases h : x ≤ (i : Int) <;> simp [h]
theorem tells_eq (n : Int) : Tells (fEq n) := fun i x _ _ => by unfold fEq; by_cases h : x = n <;> simp [h]
theorem tells_id : Tells fId := fun _ x _ _ => by unfold fId; omega
theorem DpGood.row_bd {f : Nat → Int → Int} (hf : Tells f) {rows : List (List Int)} (h : DpGood rows 6) {j : Nat} (hj : j < rows.length) : ∀ k, k ≤ (gr rows j).length → 0 ≤ sumF (fun i => f i (gi (gr rows j) i)) k ∧ sumF (fun i => f i (gi (gr rows j) i)) k ≤ 30 := by
  intro k hk
  have h1 := sumR_part_bd (f := f) (row := gr rows j) (B := 6) (fun i hi => hf i _ ((h.2 j hj).1.2.2.1 i hi).1 (by have := ((h.2 j hj).1.2.2.1 i hi).2; omega)) k hk
  have := (h.bounds (by omega)).2 j hj
  omega
theorem DpGood.sum_bd {f : Nat → Int → Int} (hf : Tells f) {rows : List (List Int)} (h : DpGood rows 6) : ∀ k, k ≤ rows.length → 0 ≤ sumT f rows k ∧ sumT f rows k ≤ 150 := by
  intro k hk
  have h1 := sumT_bd (f := f) (rows := rows) (B := 30) (fun j hj => h.row_bd hf hj _ (Nat.le_refl _)) k hk
  have := (h.bounds (by omega)).1
  omega
end Go.Proofs.YtgdijjfipicodaaDoor

