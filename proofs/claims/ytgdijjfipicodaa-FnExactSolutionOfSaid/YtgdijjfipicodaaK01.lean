/- Parts of proofs: contracts and plain facts. Conditions: as each says. -/
import Derived.Test.YtgdijjfipicodaaK00
import Derived.BigQuiet
import Derived.Deep.QuietTactic
namespace Go.Proofs.Ytgdijjfipicodaa

/-- a list is a pattern of 1 to 6 lines: its ends are joined in pairs, and no two lines cross -/
structure isPat (p : List Int) : Prop where
  even : p.length % 2 = 0
  lo : 2 ≤ p.length
  hi : p.length ≤ 12
  inside : ∀ i, i < p.length → 0 ≤ gi p i ∧ gi p i < p.length
  other : ∀ i, i < p.length → gi p i ≠ i ∧ gi p (gi p i).toNat = i
  apart : ∀ i : Nat, i < p.length → ∀ j : Nat, i < j → (j : Int) < gi p i → (i : Int) < gi p j ∧ gi p j < gi p i

/-- the bracket of an end -/
def brk (p : List Int) (e : Nat) : Int := if gi p e > e then 40 else 41

/-- one byte of a text read: the pattern so far, and the ends that wait for their other one -/
def stepP (b : Int) (e : Nat) (st : List Int × List Int) : Option (List Int × List Int) :=
  if b = 40 then some (st.1, st.2 ++ [(e : Int)])
  else if b = 41 then
    match st.2.getLast? with
    | none => none
    | some f => some ((st.1.set e f).set f.toNat e, st.2.dropLast)
  else none

def runP (n : Nat) (s : Nat → Int) : Nat → Option (List Int × List Int)
  | 0 => some (List.replicate n 0, [])
  | e + 1 => (runP n s e).bind (stepP (s e) e)

/-- what has been read up to e -/
structure PInv (n : Nat) (s : Nat → Int) (e : Nat) (P S : List Int) : Prop where
  len : P.length = n
  asc : S.Pairwise (· < ·)
  mem : ∀ x, x ∈ S → 0 ≤ x ∧ x < e
  done : ∀ x : Nat, x < e → (x : Int) ∉ S → 0 ≤ gi P x ∧ gi P x < e ∧ gi P x ≠ x ∧ gi P x ∉ S ∧ gi P (gi P x).toNat = x ∧ (∀ j : Nat, x < j → (j : Int) < gi P x → (j : Int) ∉ S ∧ (x : Int) < gi P j ∧ gi P j < gi P x)
  opn : ∀ x : Nat, x < e → (x : Int) ∈ S → s x = 40
  cls : ∀ x : Nat, x < e → (x : Int) ∉ S → (gi P x > x → s x = 40) ∧ (gi P x < x → s x = 41)
  par : (S.length : Int) % 2 = e % 2

theorem last_split {S : List Int} {f : Int} (h : S.getLast? = some f) : S = S.dropLast ++ [f] := by
  have hne : S ≠ [] := by rintro rfl; simp at h
  have := List.dropLast_concat_getLast hne
  rw [List.getLast?_eq_some_getLast hne] at h
  simp only [Option.some.injEq] at h
  rw [h] at this
  exact this.symm

theorem PInv.step {n : Nat} {s : Nat → Int} {e : Nat} {P S P' S' : List Int} (h : PInv n s e P S) (he : e < n) (hs : stepP (s e) e (P, S) = some (P', S')) : PInv n s (e + 1) P' S' := by
  unfold stepP at hs
  split at hs
  · next hb =>
    simp only [Option.some.injEq, Prod.mk.injEq] at hs
    obtain ⟨rfl, rfl⟩ := hs
    refine ⟨h.len, ?_, ?_, ?_, ?_, ?_, ?_⟩
    · rw [List.pairwise_append]
      exact ⟨h.asc, by simp, fun a ha b hb => by simp at hb; subst hb; exact (h.mem a ha).2⟩
    · intro x hx
      simp at hx
      rcases hx with hx | rfl
      · have := h.mem x hx; omega
      · omega
    · intro x hx hn
      simp at hn
      have hxe : x < e := by omega
      obtain ⟨a1, a2, a3, a4, a5, a6⟩ := h.done x hxe hn.1
      refine ⟨a1, by omega, a3, ?_, a5, fun j h1 h2 => ?_⟩
      · simp; exact ⟨a4, by omega⟩
      · obtain ⟨b1, b2⟩ := a6 j h1 h2
        refine ⟨?_, b2⟩
        simp; exact ⟨b1, by omega⟩
    · intro x hx hm
      simp at hm
      by_cases e1 : x = e
      · rw [e1]; exact hb
      · exact h.opn x (by omega) (by rcases hm with hm | hm; exact hm; omega)
    · intro x hx hn
      simp at hn
      exact h.cls x (by omega) hn.1
    · simp
      have := h.par
      omega
  · split at hs
    · next hb40 hb =>
      cases hl : S.getLast? with
      | none => rw [hl] at hs; simp at hs
      | some f =>
        rw [hl] at hs
        simp only [Option.some.injEq, Prod.mk.injEq] at hs
        obtain ⟨rfl, rfl⟩ := hs
        have hS := last_split hl
        generalize S.dropLast = A at hS ⊢
        subst hS
        obtain ⟨f0, f1⟩ := h.mem f (by simp)
        have hasc := h.asc
        rw [List.pairwise_append] at hasc
        have hlt : ∀ a, a ∈ A → a < f := fun a ha => hasc.2.2 a ha f (by simp)
        clear hl
        have hl := h.len
        obtain ⟨g, rfl⟩ : ∃ g : Nat, f = g := ⟨f.toNat, by omega⟩
        rw [Int.toNat_natCast]
        have hg : ∀ x, gi ((P.set e (g : Int)).set g (e : Int)) x = if x = g then (e : Int) else if x = e then (g : Int) else gi P x := by
          intro x
          rw [gi_set (by rw [List.length_set]; omega), gi_set (by omega)]
        have hmem : ∀ x : Int, x ∉ A ++ [(g : Int)] ↔ x ∉ A ∧ x ≠ g := by intro x; simp
        refine ⟨by simp [hl], hasc.1, fun x hx => ?_, ?_, ?_, ?_, ?_⟩
        · have := h.mem x (by simp [hx]); omega
        · intro x hx hn
          by_cases x1 : x = g
          · subst x1
            rw [hg x, if_pos rfl]
            refine ⟨by omega, by omega, by omega, ?_, ?_, fun j j1 j2 => ?_⟩
            · intro hm; have := (h.mem _ (List.mem_append_left _ hm)).2; omega
            · rw [Int.toNat_natCast, hg e, if_neg (by omega), if_pos rfl]
            · have hjA : (j : Int) ∉ A := fun hm => by have := hlt _ hm; omega
              have hjS : (j : Int) ∉ A ++ [(x : Int)] := (hmem _).2 ⟨hjA, by omega⟩
              obtain ⟨a1, a2, a3, a4, a5, a6⟩ := h.done j (by omega) hjS
              rw [hg j, if_neg (by omega), if_neg (by omega)]
              refine ⟨hjA, ?_, a2⟩
              have a4' := (hmem _).1 a4
              rcases Int.lt_trichotomy (gi P j) x with hc | hc | hc
              · exfalso
                obtain ⟨k, hk⟩ : ∃ k : Nat, gi P j = k := ⟨(gi P j).toNat, by omega⟩
                rw [hk] at a5 a4 hc a2
                rw [Int.toNat_natCast] at a5
                have hkd := h.done k (by omega) a4
                have := hkd.2.2.2.2.2 x (by omega) (by rw [a5]; omega)
                exact this.1 (by simp)
              · exact absurd hc a4'.2
              · exact hc
          · by_cases x2 : x = e
            · subst x2
              rw [hg x, if_neg x1, if_pos rfl]
              refine ⟨by omega, by omega, by omega, fun hm => ?_, ?_, fun j j1 j2 => by omega⟩
              · have := hlt _ hm; omega
              · rw [Int.toNat_natCast, hg g, if_pos rfl]
            · have hxS : (x : Int) ∉ A ++ [(g : Int)] := (hmem _).2 ⟨hn, by omega⟩
              obtain ⟨a1, a2, a3, a4, a5, a6⟩ := h.done x (by omega) hxS
              have a4' := (hmem _).1 a4
              rw [hg x, if_neg x1, if_neg x2]
              refine ⟨a1, by omega, a3, a4'.1, ?_, fun j j1 j2 => ?_⟩
              · rw [hg (gi P x).toNat, if_neg (by omega), if_neg (by omega)]; exact a5
              · obtain ⟨b1, b2, b3⟩ := a6 j j1 j2
                have b1' := (hmem _).1 b1
                rw [hg j, if_neg (by omega), if_neg (by omega)]
                exact ⟨b1'.1, b2, b3⟩
        · intro x hx hm
          have := (h.mem x (by simp [hm])).2
          exact h.opn x (by omega) (by simp [hm])
        · intro x hx hn
          by_cases x1 : x = g
          · subst x1
            rw [hg x, if_pos rfl]
            exact ⟨fun _ => h.opn x (by omega) (by simp), fun _ => by omega⟩
          · by_cases x2 : x = e
            · subst x2
              rw [hg x, if_neg x1, if_pos rfl]
              exact ⟨fun _ => by omega, fun _ => hb⟩
            · rw [hg x, if_neg x1, if_neg x2]
              exact h.cls x (by omega) ((hmem _).2 ⟨hn, by omega⟩)
        · have := h.par
          simp at this ⊢
          omega
    · simp at hs

theorem PInv.run {n : Nat} {s : Nat → Int} : ∀ (e : Nat) (P S : List Int), e ≤ n → runP n s e = some (P, S) → PInv n s e P S := by
  intro e
  induction e with
  | zero =>
    intro P S _ h
    simp only [runP, Option.some.injEq, Prod.mk.injEq] at h
    obtain ⟨rfl, rfl⟩ := h
    exact ⟨by simp, by simp, by simp, fun x hx => absurd hx (by omega), fun x hx => absurd hx (by omega), fun x hx => absurd hx (by omega), by simp⟩
  | succ e ih =>
    intro P S he h
    rw [runP, Option.bind_eq_some_iff] at h
    obtain ⟨⟨P0, S0⟩, h0, h1⟩ := h
    exact (ih P0 S0 (by omega) h0).step (by omega) h1

/-- what a whole text is read as is a pattern, and the text is its brackets -/
theorem run_pat {n : Nat} {s : Nat → Int} {P : List Int} (h2 : 2 ≤ n) (h12 : n ≤ 12) (h : runP n s n = some (P, [])) : isPat P ∧ P.length = n ∧ ∀ e, e < n → s e = brk P e := by
  have hi := PInv.run n P [] (Nat.le_refl _) h
  have hl := hi.len
  have hpar := hi.par
  refine ⟨⟨by simp at hpar; omega, by omega, by omega, fun i h1 => ?_, fun i h1 => ?_, fun i h1 j h3 h4 => ?_⟩, hl, fun e he => ?_⟩
  · have := hi.done i (by omega) (by simp); omega
  · have := hi.done i (by omega) (by simp); exact ⟨this.2.2.1, this.2.2.2.2.1⟩
  · have := (hi.done i (by omega) (by simp)).2.2.2.2.2 j h3 h4; exact this.2
  · have h1 := (hi.done e he (by simp)).2.2.1
    have h3 := hi.cls e he (by simp)
    unfold brk
    split
    · exact h3.1 (by omega)
    · exact h3.2 (by omega)

/-- the reading of a pattern's brackets -/
structure RInv (p : List Int) (e : Nat) (P S : List Int) : Prop where
  len : P.length = p.length
  asc : S.Pairwise (· < ·)
  mem : ∀ x, x ∈ S ↔ 0 ≤ x ∧ x < e ∧ e ≤ gi p x.toNat
  done : ∀ x : Nat, x < e → gi p x < e → gi P x = gi p x

theorem RInv.step {p : List Int} (hp : isPat p) {e : Nat} {P S : List Int} (h : RInv p e P S) (he : e < p.length) : ∃ P' S', stepP (brk p e) e (P, S) = some (P', S') ∧ RInv p (e + 1) P' S' := by
  have hin := hp.inside e he
  obtain ⟨hne, hoth⟩ := hp.other e he
  unfold brk
  split
  · next hgt =>
    refine ⟨P, S ++ [(e : Int)], by simp [stepP], h.len, ?_, fun x => ?_, fun x hx hlt => ?_⟩
    · rw [List.pairwise_append]
      exact ⟨h.asc, by simp, fun a ha b hb => by simp at hb; subst hb; exact ((h.mem a).1 ha).2.1⟩
    · simp only [List.mem_append, List.mem_singleton]
      rw [h.mem]
      constructor
      · rintro (hx | rfl)
        · refine ⟨hx.1, by omega, ?_⟩
          have hxe := hp.other x.toNat (by omega)
          have : gi p x.toNat ≠ e := fun h0 => by rw [h0, Int.toNat_natCast] at hxe; omega
          omega
        · refine ⟨by omega, by omega, ?_⟩
          rw [Int.toNat_natCast]; omega
      · rintro ⟨h1, h2, h3⟩
        by_cases h4 : x = e
        · exact .inr h4
        · exact .inl ⟨h1, by omega, by omega⟩
    · by_cases hxe : x = e
      · subst hxe; omega
      · have : gi p x ≠ e := fun h0 => by
          have hxo := hp.other x (by omega)
          rw [h0, Int.toNat_natCast] at hxo; omega
        exact h.done x (by omega) (by omega)
  · next hle =>
    obtain ⟨g, hg⟩ : ∃ g : Nat, gi p e = g := ⟨(gi p e).toNat, by omega⟩
    rw [hg, Int.toNat_natCast] at hoth
    have hgS : (g : Int) ∈ S := (h.mem _).2 ⟨by omega, by omega, by rw [Int.toNat_natCast, hoth]; omega⟩
    cases hl : S.getLast? with
    | none =>
      rw [List.getLast?_eq_none_iff] at hl
      subst hl
      simp at hgS
    | some f =>
      have hS := last_split hl
      have hS2 : ∀ x, x ∈ S ↔ x ∈ S.dropLast ∨ x = f := fun x => by
        conv => lhs; rw [hS]
        simp
      have hasc := h.asc
      rw [hS, List.pairwise_append] at hasc
      have hlt : ∀ a, a ∈ S.dropLast → a < f := fun a ha => hasc.2.2 a ha f (by simp)
      have hf := (h.mem f).1 ((hS2 f).2 (.inr rfl))
      obtain rfl : f = g := by
        rcases (hS2 _).1 hgS with hA | hA
        · exfalso
          have h1 := hlt _ hA
          obtain ⟨y, rfl⟩ : ∃ y : Nat, f = y := ⟨f.toNat, by omega⟩
          rw [Int.toNat_natCast] at hf
          have h2 := hp.apart g (by omega) y (by omega) (by rw [hoth]; omega)
          rw [hoth] at h2
          omega
        · exact hA.symm
      have hPl := h.len
      refine ⟨(P.set e (g : Int)).set (g : Int).toNat e, S.dropLast, by simp [stepP, hl], by simp [hPl], hasc.1, fun x => ?_, fun x hx hlt' => ?_⟩
      · constructor
        · intro hx
          have h1 := hlt x hx
          have h2 := (h.mem x).1 ((hS2 x).2 (.inl hx))
          refine ⟨h2.1, by omega, ?_⟩
          have : gi p x.toNat ≠ e := fun h0 => by
            have h3 := hp.other x.toNat (by omega)
            rw [h0, Int.toNat_natCast, hg] at h3; omega
          omega
        · rintro ⟨h1, h2, h3⟩
          have hxe : x ≠ e := fun h0 => by rw [h0, Int.toNat_natCast] at h3; omega
          rcases (hS2 x).1 ((h.mem x).2 ⟨h1, by omega, by omega⟩) with h4 | h4
          · exact h4
          · exfalso
            rw [h4, Int.toNat_natCast, hoth] at h3
            omega
      · rw [Int.toNat_natCast, gi_set (by rw [List.length_set]; omega), gi_set (by omega)]
        by_cases x1 : x = g
        · rw [if_pos x1, x1, hoth]
        · rw [if_neg x1]
          by_cases x2 : x = e
          · rw [if_pos x2, x2, hg]
          · rw [if_neg x2]
            have : gi p x ≠ e := fun h0 => by
              have h3 := hp.other x (by omega)
              rw [h0, Int.toNat_natCast, hg] at h3; omega
            exact h.done x (by omega) (by omega)

/-- a pattern's brackets are read as the pattern -/
theorem pat_run {p : List Int} (hp : isPat p) : ∀ e, e ≤ p.length → ∃ P S, runP p.length (brk p) e = some (P, S) ∧ RInv p e P S := by
  intro e
  induction e with
  | zero =>
    intro _
    refine ⟨_, _, rfl, by simp, by simp, fun x => ?_, fun x hx => absurd hx (by omega)⟩
    constructor
    · intro h; simp at h
    · intro h; omega
  | succ e ih =>
    intro he
    obtain ⟨P, S, h1, h2⟩ := ih (by omega)
    obtain ⟨P', S', h3, h4⟩ := h2.step hp (by omega)
    exact ⟨P', S', by rw [runP, h1]; exact h3, h4⟩

theorem pat_read {p : List Int} (hp : isPat p) : runP p.length (brk p) p.length = some (p, []) := by
  obtain ⟨P, S, h1, h2⟩ := pat_run hp p.length (Nat.le_refl _)
  have hS : S = [] := by
    cases S with
    | nil => rfl
    | cons x t =>
      exfalso
      have h3 := (h2.mem x).1 (by simp)
      have := hp.inside x.toNat (by omega)
      omega
  have hP : P = p := ext_gi h2.len fun i hi => h2.done i (by rw [h2.len] at hi; exact hi) (hp.inside i (by rw [h2.len] at hi; exact hi)).2
  rw [h1, hS, hP]

theorem runP_congr {n : Nat} {s t : Nat → Int} : ∀ e, (∀ x, x < e → s x = t x) → runP n s e = runP n t e := by
  intro e
  induction e with
  | zero => intro _; rfl
  | succ e ih => intro h; rw [runP, runP, ih (fun x hx => h x (by omega)), h e (by omega)]
end Go.Proofs.Ytgdijjfipicodaa

namespace Go.Proofs.Ytgdijjfipicodaa

/-- a line around a pattern, and another pattern behind it -/
def encl (a b : List Int) : List Int := ((a.length + 1 : Nat) : Int) :: a.map (fun x => 1 + x) ++ 0 :: b.map (fun x => ((a.length + 1 : Nat) : Int) + 1 + x)
/-- all patterns of n lines: the first number is fuel -/
def patP : Nat → Nat → List (List Int)
  | _, 0 => [[]]
  | 0, _ + 1 => []
  | f + 1, n + 1 => (List.range (n + 1)).flatMap fun k => (patP f k).flatMap fun a => (patP f (n - k)).map fun b => encl a b
/-- the same as lists of numbers from an offset on -/
def patO : Nat → Nat → Nat → List (List Int)
  | _, 0, _ => [[]]
  | 0, _ + 1, _ => []
  | f + 1, n + 1, o => (List.range (n + 1)).flatMap fun k => (patO f k (o + 1)).flatMap fun a => (patO f (n - k) (o + 2 * k + 2)).map fun b => ((o + 2 * k + 1 : Nat) : Int) :: a ++ (o : Int) :: b

theorem pat_same : ∀ n, n < 7 → patO 6 n 0 = patP 6 n := by decide +kernel

def rowsIn (m : List (List Int)) (l : Nat) (hi : Int) : Bool := m.all fun r => r.length == l && r.all fun x => decide (0 ≤ x) && decide (x ≤ hi)
theorem patP_ok : ∀ f, f < 7 → ∀ n, n < f + 1 → rowsIn (patP f n) (2 * n) 12 = true ∧ (patP f n).length ≤ 132 := by decide +kernel
theorem patO_ok : ∀ f, f < 7 → ∀ n, n < f + 1 → ∀ o, o < 13 → rowsIn (patO f n o) (2 * n) 40 = true ∧ (patO f n o).length ≤ 132 := by decide +kernel
theorem rowsIn_at {m : List (List Int)} {l : Nat} {hi : Int} (h : rowsIn m l hi = true) {i : Nat} (hi' : i < m.length) : (gr m i).length = l ∧ ∀ j, j < l → 0 ≤ gi (gr m i) j ∧ gi (gr m i) j ≤ hi := by
  unfold rowsIn at h
  rw [List.all_eq_true] at h
  have h1 := h _ (gr_mem hi')
  simp only [Bool.and_eq_true, beq_iff_eq, List.all_eq_true, decide_eq_true_eq] at h1
  exact ⟨h1.1, fun j hj => h1.2 _ (gi_mem (by rw [h1.1]; exact hj))⟩
theorem encl_len (a b : List Int) : (encl a b).length = a.length + b.length + 2 := by simp [encl]; omega
/-- the lists up to the line with k inside, and of that up to the pattern s inside, and of that up to t behind -/
def partP (f n k s t : Nat) : List (List Int) :=
  ((List.range k).flatMap fun k => (patP f k).flatMap fun a => (patP f (n - k)).map fun b => encl a b) ++
  ((List.range s).flatMap fun i => (patP f (n - k)).map fun b => encl (gr (patP f k) i) b) ++
  ((List.range t).map fun j => encl (gr (patP f k) s) (gr (patP f (n - k)) j))
theorem partP_zero (f n k : Nat) : partP f n k 0 0 = (List.range k).flatMap fun k => (patP f k).flatMap fun a => (patP f (n - k)).map fun b => encl a b := by simp [partP]
theorem partP_t (f n k s t : Nat) : partP f n k s (t + 1) = partP f n k s t ++ [encl (gr (patP f k) s) (gr (patP f (n - k)) t)] := by simp [partP, List.range_succ]
theorem range_gr {α : Type} (g : List Int → α) (m : List (List Int)) : (List.range m.length).map (fun i => g (gr m i)) = m.map g := by
  apply List.ext_getElem?
  intro i
  rw [List.getElem?_map, List.getElem?_map]
  by_cases h : i < m.length
  · rw [List.getElem?_range h, Option.map_some, List.getElem?_eq_getElem h, Option.map_some, gr_lt h]
  · rw [List.getElem?_eq_none (by simpa using h), List.getElem?_eq_none (by simpa using h)]; rfl
theorem partP_s (f n k s : Nat) : partP f n k s (patP f (n - k)).length = partP f n k (s + 1) 0 := by
  unfold partP
  rw [range_gr (fun b => encl (gr (patP f k) s) b)]
  simp [List.range_succ]
theorem partP_k (f n k : Nat) : partP f n k (patP f k).length 0 = partP f n (k + 1) 0 0 := by
  rw [partP_zero, List.range_succ, List.flatMap_append]
  unfold partP
  have := range_gr (fun a => (patP f (n - k)).map fun b => encl a b) (patP f k)
  rw [List.flatMap_def (l := List.range (patP f k).length), this]
  simp [List.flatMap_def]
theorem partP_end (f n : Nat) : partP f n (n + 1) 0 0 = patP (f + 1) (n + 1) := by rw [partP_zero]; rfl
theorem flat_le {α β : Type} (g : α → List β) (B : Nat) : ∀ l : List α, (∀ x, x ∈ l → (g x).length ≤ B) → (l.flatMap g).length ≤ l.length * B
  | [], _ => by simp
  | a :: l, h => by
    have h1 := flat_le g B l (fun x hx => h x (by simp [hx]))
    have h2 := h a (by simp)
    rw [List.flatMap_cons, List.length_append, List.length_cons, Nat.add_mul]
    omega
theorem partP_len {f n k s t : Nat} (hf : f < 7) (hn : n ≤ f) (hk : k ≤ n) (hs : s ≤ 132) (ht : t ≤ 132) : (partP f n k s t).length ≤ 200000 := by
  have hp : ∀ d, d ≤ f → (patP f d).length ≤ 132 := fun d hd => (patP_ok f hf d (by omega)).2
  unfold partP
  rw [List.length_append, List.length_append]
  have h1 := flat_le (fun k => (patP f k).flatMap fun a => (patP f (n - k)).map fun b => encl a b) (132 * 132) (List.range k) (fun x hx => by
    have hx' : x < k := by simpa using hx
    have h2 := flat_le (fun a => (patP f (n - x)).map fun b => encl a b) 132 (patP f x) (fun a _ => by rw [List.length_map]; exact hp _ (by omega))
    have h3 := hp x (by omega)
    exact Nat.le_trans h2 (Nat.mul_le_mul_right _ h3))
  have h2 := flat_le (fun i => (patP f (n - k)).map fun b => encl (gr (patP f k) i) b) 132 (List.range s) (fun x _ => by rw [List.length_map]; exact hp _ (by omega))
  rw [List.length_range] at h1 h2
  rw [List.length_map, List.length_range]
  have h3 : k * (132 * 132) ≤ 6 * (132 * 132) := Nat.mul_le_mul_right _ (by omega)
  have h4 : s * 132 ≤ 132 * 132 := Nat.mul_le_mul_right _ hs
  omega
theorem rowsIn_small {m : List (List Int)} {l : Nat} {hi : Int} (h : rowsIn m l hi = true) (h1 : m.length ≤ 1048576) (h2 : l ≤ 1048576) : ∀ i, i < m.length → (gr m i).length ≤ 1048576 := fun i hi' => by rw [(rowsIn_at h hi').1]; exact h2
end Go.Proofs.Ytgdijjfipicodaa

namespace Go.Proofs.Ytgdijjfipicodaa

/-- points linked in pairs -/
structure Lk (p : List Int) : Prop where
  lo : 2 ≤ p.length
  hi : p.length ≤ 12
  inside : ∀ i, i < p.length → 0 ≤ gi p i ∧ gi p i < p.length
  other : ∀ i, i < p.length → gi p i ≠ i ∧ gi p (gi p i).toNat = i
theorem isPat.lk {p : List Int} (h : isPat p) : Lk p := ⟨h.lo, h.hi, h.inside, h.other⟩

/-- the next point, round the circle -/
def nx (p : List Int) (i : Nat) : Nat := (i + 1) % p.length
theorem Lk.nx_lt {p : List Int} (h : Lk p) (i : Nat) : nx p i < p.length := Nat.mod_lt _ (by have := h.lo; omega)
theorem Lk.nx_ne {p : List Int} (h : Lk p) {i : Nat} (hi : i < p.length) : nx p i ≠ i := by
  have h2 := h.lo
  unfold nx
  by_cases e : i + 1 = p.length
  · rw [e, Nat.mod_self]; omega
  · rw [Nat.mod_eq_of_lt (by omega)]; omega

/-- joined at a point: those to which the point and the next one were linked are linked, then the two themselves -/
def joinL (p : List Int) (i : Nat) : List Int :=
  (((p.set (gi p i).toNat (gi p (nx p i))).set (gi p (nx p i)).toNat (gi p i)).set i (nx p i : Int)).set (nx p i) (i : Int)
/-- .. in the model's order -/
def joinS (p : List Int) (i : Nat) : List Int :=
  (((p.set i (nx p i : Int)).set (nx p i) (i : Int)).set (gi p i).toNat (gi p (nx p i))).set (gi p (nx p i)).toNat (gi p i)

theorem joinL_len (p : List Int) (i : Nat) : (joinL p i).length = p.length := by simp [joinL]
theorem joinS_len (p : List Int) (i : Nat) : (joinS p i).length = p.length := by simp [joinS]

theorem Lk.gi_joinL {p : List Int} (h : Lk p) {i : Nat} (hi : i < p.length) (x : Nat) :
    gi (joinL p i) x = if x = nx p i then (i : Int) else if x = i then (nx p i : Int) else if x = (gi p (nx p i)).toNat then gi p i else if x = (gi p i).toNat then gi p (nx p i) else gi p x := by
  have h1 := h.inside i hi
  have h2 := h.inside _ (h.nx_lt i)
  have h3 := h.nx_lt i
  unfold joinL
  rw [gi_set (by simp only [List.length_set]; exact h3), gi_set (by simp only [List.length_set]; exact hi), gi_set (by simp only [List.length_set]; omega), gi_set (by omega)]
theorem Lk.gi_joinS {p : List Int} (h : Lk p) {i : Nat} (hi : i < p.length) (x : Nat) :
    gi (joinS p i) x = if x = (gi p (nx p i)).toNat then gi p i else if x = (gi p i).toNat then gi p (nx p i) else if x = nx p i then (i : Int) else if x = i then (nx p i : Int) else gi p x := by
  have h1 := h.inside i hi
  have h2 := h.inside _ (h.nx_lt i)
  have h3 := h.nx_lt i
  unfold joinS
  rw [gi_set (by simp only [List.length_set]; omega), gi_set (by simp only [List.length_set]; omega), gi_set (by simp only [List.length_set]; exact h3), gi_set (by exact hi)]

/-- what the two points and their other ones are to each other -/
theorem Lk.four {p : List Int} (h : Lk p) {i : Nat} (hi : i < p.length) :
    ∃ k A B : Nat, nx p i = k ∧ gi p i = A ∧ gi p k = B ∧ k < p.length ∧ A < p.length ∧ B < p.length ∧ k ≠ i ∧ A ≠ i ∧ B ≠ k ∧ gi p A = i ∧ gi p B = k := by
  have h1 := h.inside i hi
  have h2 := h.inside _ (h.nx_lt i)
  have o1 := h.other i hi
  have o2 := h.other _ (h.nx_lt i)
  have e1 : gi p i = ((gi p i).toNat : Int) := by omega
  have e2 : gi p (nx p i) = ((gi p (nx p i)).toNat : Int) := by omega
  exact ⟨nx p i, (gi p i).toNat, (gi p (nx p i)).toNat, rfl, e1, e2, h.nx_lt i, by omega, by omega, h.nx_ne hi, by omega, by omega, o1.2, o2.2⟩

theorem Lk.join {p : List Int} (h : Lk p) {i : Nat} (hi : i < p.length) : Lk (joinL p i) := by
  obtain ⟨k, A, B, hk, hA, hB, k1, A1, B1, ki, Ai, Bk, gA, gB⟩ := h.four hi
  have G := h.gi_joinL hi
  rw [hk, hA, hB, Int.toNat_natCast, Int.toNat_natCast] at G
  have hl := joinL_len p i
  refine ⟨by rw [hl]; exact h.lo, by rw [hl]; exact h.hi, fun x hx => ?_, fun x hx => ?_⟩
  · rw [hl] at hx ⊢
    rw [G x]
    have := h.inside x hx
    repeat' split <;> omega
  · rw [hl] at hx
    have ox := h.other x hx
    have nx1 := h.inside x hx
    rw [G x]
    by_cases x1 : x = k
    · rw [if_pos x1]
      refine ⟨by omega, ?_⟩
      rw [Int.toNat_natCast, G i, if_neg (fun e => ki e.symm), if_pos rfl]
      omega
    rw [if_neg x1]
    by_cases x2 : x = i
    · rw [if_pos x2]
      refine ⟨by omega, ?_⟩
      rw [Int.toNat_natCast, G k, if_pos rfl]
      omega
    rw [if_neg x2]
    by_cases x3 : x = B
    · rw [if_pos x3]
      have a1 : A ≠ k := fun e => x2 (by rw [e, hB] at gA; omega)
      have a2 : A ≠ B := fun e => ki (by rw [e, gB] at gA; omega)
      refine ⟨by omega, ?_⟩
      rw [Int.toNat_natCast, G A, if_neg a1, if_neg Ai, if_neg a2, if_pos rfl]
      omega
    rw [if_neg x3]
    by_cases x4 : x = A
    · rw [if_pos x4]
      have a1 : B ≠ i := fun e => x1 (by rw [e, hA] at gB; omega)
      refine ⟨by omega, ?_⟩
      rw [Int.toNat_natCast, G B, if_neg Bk, if_neg a1, if_pos rfl]
      omega
    rw [if_neg x4]
    obtain ⟨y, hy⟩ : ∃ y : Nat, gi p x = y := ⟨(gi p x).toNat, by omega⟩
    rw [hy, Int.toNat_natCast] at ox ⊢
    have y1 : y ≠ k := fun e => x3 (by rw [e, hB] at ox; omega)
    have y2 : y ≠ i := fun e => x4 (by rw [e, hA] at ox; omega)
    have y3 : y ≠ B := fun e => x1 (by rw [e, gB] at ox; omega)
    have y4 : y ≠ A := fun e => x2 (by rw [e, gA] at ox; omega)
    refine ⟨ox.1, ?_⟩
    rw [G y, if_neg y1, if_neg y2, if_neg y3, if_neg y4]
    exact ox.2

/-- linked already: nothing changes -/
theorem Lk.join_same {p : List Int} (h : Lk p) {i : Nat} (hi : i < p.length) (hs : gi p i = nx p i) : joinL p i = p := by
  obtain ⟨k, A, B, hk, hA, hB, k1, A1, B1, ki, Ai, Bk, gA, gB⟩ := h.four hi
  have G := h.gi_joinL hi
  rw [hk, hA, hB, Int.toNat_natCast, Int.toNat_natCast] at G
  rw [hk, hA] at hs
  obtain rfl : A = k := by omega
  rw [hB] at gA
  obtain rfl : B = i := by omega
  refine ext_gi (joinL_len _ _) fun x hx => ?_
  rw [G x]
  repeat' split
  all_goals first | (rename_i e; subst e; omega) | omega | rfl
theorem Lk.join_model {p : List Int} (h : Lk p) {i : Nat} (hi : i < p.length) (hs : gi p i ≠ nx p i) : joinS p i = joinL p i := by
  obtain ⟨k, A, B, hk, hA, hB, k1, A1, B1, ki, Ai, Bk, gA, gB⟩ := h.four hi
  have G := h.gi_joinL hi
  have H := h.gi_joinS hi
  rw [hk, hA, hB, Int.toNat_natCast, Int.toNat_natCast] at G H
  rw [hk, hA] at hs
  have a1 : A ≠ k := by omega
  have b1 : B ≠ i := fun e => a1 (by rw [e, hA] at gB; omega)
  have a2 : A ≠ B := fun e => ki (by rw [e, gB] at gA; omega)
  refine ext_gi (by rw [joinL_len, joinS_len]) fun x hx => ?_
  rw [G x, H x]
  repeat' split
  all_goals omega

/-- joined at the points of a word, one after the other -/
def joinT (p ws : List Int) : Nat → List Int
  | 0 => p
  | k + 1 => joinL (joinT p ws k) (gi ws k).toNat
theorem joinT_len (p ws : List Int) : ∀ k, (joinT p ws k).length = p.length
  | 0 => rfl
  | k + 1 => by rw [joinT, joinL_len, joinT_len p ws k]
theorem Lk.run {p ws : List Int} (h : Lk p) (hw : ∀ k, k < ws.length → 0 ≤ gi ws k ∧ gi ws k < p.length) : ∀ k, k ≤ ws.length → Lk (joinT p ws k)
  | 0, _ => h
  | k + 1, hk => by
    have hi := hw k (by omega)
    exact (Lk.run h hw k (by omega)).join (by rw [joinT_len]; omega)

/-- the small arcs before k -/
def arcsL (p : List Int) : Nat → List Int
  | 0 => []
  | k + 1 => if gi p k = nx p k then arcsL p k ++ [(k : Int)] else arcsL p k
theorem arcsL_len (p : List Int) : ∀ k, (arcsL p k).length ≤ k
  | 0 => by simp [arcsL]
  | k + 1 => by
    have := arcsL_len p k
    unfold arcsL
    split
    · rw [List.length_append]; simpa using this
    · omega

/-- how many links are open behind k points, and the most that have been -/
def nestF (p : List Int) : Nat → Int × Int
  | 0 => (0, 0)
  | k + 1 => if gi p k > k then ((nestF p k).1 + 1, max (nestF p k).2 ((nestF p k).1 + 1)) else ((nestF p k).1 - 1, (nestF p k).2)
theorem nestF_in (p : List Int) : ∀ k : Nat, -(k : Int) ≤ (nestF p k).1 ∧ (nestF p k).1 ≤ k ∧ (nestF p k).1 ≤ (nestF p k).2 ∧ 0 ≤ (nestF p k).2 ∧ (nestF p k).2 ≤ k
  | 0 => by simp [nestF]
  | k + 1 => by
    have := nestF_in p k
    unfold nestF
    split <;> simp only [] <;> omega

/-- the first index of a list -/
def rk (l : List (List Int)) (p : List Int) : Nat := l.findIdx (· == p)
theorem rk_lt {l : List (List Int)} {p : List Int} (h : p ∈ l) : rk l p < l.length := List.findIdx_lt_length_of_exists ⟨p, h, by simp⟩
theorem rk_at {l : List (List Int)} {p : List Int} (h : p ∈ l) : gr l (rk l p) = p := by
  have := List.findIdx_getElem (w := rk_lt h)
  rw [gr_lt (rk_lt h)]
  exact eq_of_beq this
theorem rk_before {l : List (List Int)} {p : List Int} {j : Nat} (h : j < rk l p) : gr l j ≠ p := by
  have := List.not_of_lt_findIdx h
  have hl : j < l.length := Nat.lt_of_lt_of_le h List.findIdx_le_length
  rw [gr_lt hl]
  simpa using this
theorem rk_none {l : List (List Int)} {p : List Int} (h : p ∉ l) {j : Nat} (hj : j < l.length) : gr l j ≠ p := fun e => h (e ▸ gr_mem hj)
theorem rk_is {l : List (List Int)} {p : List Int} {k : Nat} (hk : k < l.length) (h1 : gr l k = p) (h2 : ∀ j, j < k → gr l j ≠ p) : rk l p = k := by
  rcases Nat.lt_trichotomy (rk l p) k with h | h | h
  · exact absurd (rk_at (h1 ▸ gr_mem hk)) (h2 _ h)
  · exact h
  · exact absurd h1 (rk_before h)

/-- all texts of brackets -/
def strs : Nat → List (List Int)
  | 0 => [[]]
  | k + 1 => (strs k).flatMap fun s => [40 :: s, 41 :: s]
theorem strs_all : ∀ (k : Nat) (s : List Int), s.length = k → (∀ x, x ∈ s → x = 40 ∨ x = 41) → s ∈ strs k
  | 0, s, h, _ => by
    obtain rfl := List.eq_nil_of_length_eq_zero h
    simp [strs]
  | k + 1, s, h, hx => by
    cases s with
    | nil => simp at h
    | cons a s =>
      have := strs_all k s (by simpa using h) (fun x hm => hx x (List.mem_cons_of_mem _ hm))
      unfold strs
      rw [List.mem_flatMap]
      refine ⟨s, this, ?_⟩
      rcases hx a (List.mem_cons_self ..) with rfl | rfl <;> simp
def readIn (n : Nat) (s : List Int) : Bool := match runP n (gi s) n with
  | some (P, []) => (patP 6 (n / 2)).contains P
  | _ => true
theorem read_all : ∀ k, k < 5 → (strs (2 * k)).all (readIn (2 * k)) = true := by decide +kernel

/-- the list of all patterns is complete -/
theorem isPat.mem {p : List Int} (h : isPat p) (h8 : p.length ≤ 8) : p ∈ patP 6 (p.length / 2) := by
  have he := h.even
  obtain ⟨k, hk⟩ : ∃ k, p.length = 2 * k := ⟨p.length / 2, by omega⟩
  have hs := strs_all p.length ((List.range p.length).map (brk p)) (by simp) (by
    intro x hx
    obtain ⟨e, _, rfl⟩ := List.mem_map.1 hx
    unfold brk
    split <;> simp)
  have hr := read_all k (by omega)
  rw [← hk, List.all_eq_true] at hr
  have h1 := hr _ hs
  have hc : runP p.length (gi ((List.range p.length).map (brk p))) p.length = some (p, []) := by
    rw [← pat_read h]
    refine runP_congr _ fun x hx => ?_
    rw [gi_lt (by simpa using hx)]
    simp
  unfold readIn at h1
  rw [hc] at h1
  simpa using h1

/-- joining keeps to the list -/
theorem join_all : ∀ n, n < 5 → ((patP 6 n).all fun p => p.length == 2 * n && (List.range (2 * n)).all fun i => (patP 6 n).contains (joinL p i)) = true := by decide +kernel
theorem join_mem {n : Nat} (hn : n < 5) {p : List Int} (hp : p ∈ patP 6 n) {i : Nat} (hi : i < 2 * n) : joinL p i ∈ patP 6 n := by
  have := join_all n hn
  rw [List.all_eq_true] at this
  have := this p hp
  rw [Bool.and_eq_true, List.all_eq_true] at this
  simpa using this.2 i (by simpa using hi)
theorem patP_len {n : Nat} (hn : n < 5) {p : List Int} (hp : p ∈ patP 6 n) : p.length = 2 * n := by
  have := join_all n hn
  rw [List.all_eq_true] at this
  have := this p hp
  rw [Bool.and_eq_true] at this
  simpa using this.1
def lkB (p : List Int) : Bool := (List.range p.length).all fun i => decide (0 ≤ gi p i) && decide (gi p i < p.length) && decide (gi p i ≠ i) && decide (gi p (gi p i).toNat = i)
theorem lkB_all : ∀ n, n < 5 → (patP 6 n).all lkB = true := by decide +kernel
theorem patP_lk {n : Nat} (h1 : 1 ≤ n) (hn : n < 5) {p : List Int} (hp : p ∈ patP 6 n) : Lk p := by
  have hl := patP_len hn hp
  have := lkB_all n hn
  rw [List.all_eq_true] at this
  have := this p hp
  unfold lkB at this
  rw [List.all_eq_true] at this
  refine ⟨by omega, by omega, fun i hi => ?_, fun i hi => ?_⟩ <;>
  · have := this i (by simpa using hi)
    simp only [Bool.and_eq_true, decide_eq_true_eq] at this
    first | exact ⟨this.1.1.1, this.1.1.2⟩ | exact ⟨this.1.2, this.2⟩
/-- Catalan numbers -/
def catN (n : Nat) : Nat := (patP 6 n).length
theorem catN_le : ∀ n, n < 5 → catN n ≤ 14 := by decide +kernel
theorem catN_pos : ∀ n, n < 5 → 1 ≤ catN n := by decide +kernel
end Go.Proofs.Ytgdijjfipicodaa

namespace Go.Proofs.Ytgdijjfipicodaa
open Go.RowKit

def szL (left : Int) (n : Nat) : Int := if left - n < 0 then -1 else left - n

set_option maxRecDepth 100000 in
set_option maxHeartbeats 400000 in
theorem szIntS_any (ao : Option Addr) (n c : Nat) (left : Int) (w : World) (hn : n ≤ 9223372036854775807) (h0 : 0 ≤ left) (h1 : left ≤ 1048576) :
    Calls Try.prog 35 #[.slice ao n c, .int .i64 left] w fun e w' => e = .returned (.int .i64 (szL left n)) ∧ w = w' := by
  unfold szL
  by_cases h : left - n < 0
  · rw [if_pos h]
    go_enter Try.func35, Try.ntmps35
    go_wp2
    go_ret
    exact ⟨rfl, rfl⟩
  · rw [if_neg h]
    go_enter Try.func35, Try.ntmps35
    go_wp2
    go_ret
    exact ⟨rfl, rfl⟩

-- toIntS: a copy
set_option maxRecDepth 100000 in
set_option maxHeartbeats 400000 in
theorem toIntS_any (ao : Option Addr) (c : Nat) (xs : List Int) (w : World) (hn : xs.length ≤ 1048576) (hx : IntsAt w ao xs) :
    Calls Try.prog 38 #[.slice ao xs.length c] w fun e w' => ∃ v, e = .returned v ∧ OwnI w' w.heap.size v xs ∧ Below w.heap.size w w' := by
  obtain ⟨i0, hi, hz0, hz1, hz2⟩ := info_parts Try.info_int
  have hmx : xs.length ≤ 9223372036854775807 := by omega
  go_enter Try.func38, Try.ntmps38
  go_wp2_with (at_make; refine wpList_make_full _ rfl _ _ 24 rfl w.heap.size 3 i0 (.int .i64 0) 1 Try.underlying24 hi hz0 hz1 _ _ _ _ xs.length rfl rfl rfl rfl ?c1 ?c2 ?c3 ?_)
  case c1 => rw [hz2]; omega
  case c2 => unfold maxLen; omega
  case c3 => simp
  intro w1 hown hg
  have hb1 : Below w.heap.size w w1 := (Below.refl _ _).grown hg (Nat.le_refl _) (fun _ h => by cases h)
  have hx1 := hx.below hb1
  have hown1 := OwnI.made hown
  clear hown hg
  go_wp2
  go_loopw [4] (fun i wr => ∃ (k : Nat) (ys : List Int), k ≤ xs.length ∧ i = .int .i64 k ∧ OwnI wr w.heap.size (.slice (some ⟨w.heap.size, 0, none⟩) xs.length xs.length) ys ∧ (∀ j, j < k → gi ys j = gi xs j) ∧ Below w.heap.size w wr)
    (fun i _ => xs.length - (intOf i).toNat)
  case atStart => exact ⟨0, _, Nat.zero_le _, rfl, hown1, fun j hj => absurd hj (by omega), hb1⟩
  case round =>
    obtain ⟨k, ys, hk, rfl, hown, heq, hbr⟩ := hrel
    clear hx1 hown1 hb1
    by_cases hlt : k < xs.length
    · obtain ⟨b, o, rfl, hc⟩ := hx.below hbr k hlt
      have hd := hown.cellAt k hlt
      have hf := hown.frozenAt k
      have Hst := Lib.hid (hown.store k (gi xs k))
      have Hl := Lib.hid hown.len
      have Heq := Lib.hid heq
      have Hbs := Lib.hid (hbr.setCell (p := ⟨w.heap.size, k, none⟩) (Nat.le_refl _) (.int .i64 (gi xs k)))
      clear heq hown hx
      go_wp2
      go_roundw
      case rel =>
        refine ⟨k + 1, _, by omega, by go_num, Hst.out, fun j hj => ?_, Hbs.out⟩
        rw [gi_set (by rw [Hl.out]; exact hlt)]
        split
        · next e => rw [e]
        · exact Heq.out j (by omega)
      case measure => simp [intOf]; omega
    · obtain rfl : k = xs.length := by omega
      go_wp2
      go_ret
      obtain rfl : ys = xs := ext_gi hown.len (fun j hj => heq j (by rw [hown.len] at hj; exact hj))
      exact ⟨_, rfl, hown, hbr⟩

-- toIntSS: a copy, row by row
set_option maxRecDepth 100000 in
set_option maxHeartbeats 400000 in
theorem toIntSS_any (ao : Option Addr) (c : Nat) (m : List (List Int)) (w : World) (hs : Small m) (hm : MatAt w ao m) :
    Calls Try.prog 12 #[.slice ao m.length c] w fun e w' => ∃ v, e = .returned v ∧ OwnM w' w.heap.size v m ∧ Below w.heap.size w w' := by
  obtain ⟨i0, hi, hz0, hz1, hz2⟩ := info_parts Try.info_ints
  obtain ⟨hn, hrow⟩ := hs
  have hmx : m.length ≤ 9223372036854775807 := by omega
  go_enter Try.func12, Try.ntmps12
  go_wp2_with (at_make; refine wpList_make_full _ rfl _ _ 22 rfl w.heap.size 24 i0 (.slice none 0 0) 1 Try.underlying22 hi hz0 hz1 _ _ _ _ m.length rfl rfl rfl rfl ?c1 ?c2 ?c3 ?_)
  case c1 => rw [hz2]; omega
  case c2 => unfold maxLen; omega
  case c3 => simp
  intro w1 hown hg
  have hb1 : Below w.heap.size w w1 := (Below.refl _ _).grown hg (Nat.le_refl _) (fun _ h => by cases h)
  have hown1 := OwnP.made (m := m) hown
  clear hown hg
  go_wp2
  go_loopw [4] (fun i wr => ∃ (k : Nat) (vs : List Value), k ≤ m.length ∧ i = .int .i64 k ∧ OwnP wr w.heap.size (.slice (some ⟨w.heap.size, 0, none⟩) m.length m.length) m.length m k vs ∧ Below w.heap.size w wr)
    (fun i _ => m.length - (intOf i).toNat)
  case atStart => exact ⟨0, _, Nat.zero_le _, rfl, hown1, hb1⟩
  case round =>
    obtain ⟨k, vs, hk, rfl, hown, hbr⟩ := hrel
    clear hown1 hb1
    by_cases hlt : k < m.length
    · obtain ⟨b, o, r, c', rfl, hc, hr, hc1, hc2⟩ := hm.below hbr k hlt
      have hrl := hrow k hlt
      have hB := hbr.size
      obtain ⟨cur, hcur⟩ := ownsRow_block hown.top
      have hgl := lt_of_block hcur
      have Hown := Lib.hid hown
      have Hcur := Lib.hid hcur
      have Hm := Lib.hid hm
      have Hrow := Lib.hid hrow
      clear hown hm hrow hcur
      go_wp2_with fail
      refine (toIntS_any r c' (gr m k) wr hrl hr).mono ?_
      rintro e w2 ⟨v, rfl, hv, hb2⟩
      have hown2 := Hown.out.below hb2
      have hd := hown2.cellAt k hlt
      have hf : w2.frozen? ⟨w.heap.size, k, none⟩ = false := World.ownsRow.frozenAt hown2.top k
      have Hput := Lib.hid (hown2.put hlt (hv.base hB) (Hown.out.fresh hv (Nat.le_refl _)))
      have Hbs := Lib.hid ((hbr.trans (hb2.mono hB)).setCell (p := ⟨w.heap.size, k, none⟩) (Nat.le_refl _) v)
      obtain ⟨rv, cv, rfl, _, _, _⟩ := hv.read
      clear hown2 hv hb2
      go_wp2
      go_roundw
      case rel => exact ⟨k + 1, _, by omega, by go_num, Hput.out, Hbs.out⟩
      case measure => simp [intOf]; omega
    · obtain rfl : k = m.length := by omega
      go_wp2
      go_ret
      exact ⟨_, rfl, ⟨_, hown⟩, hbr⟩
end Go.Proofs.Ytgdijjfipicodaa

