/- Patterns of ends joined in pairs without crossings, and the reading of their brackets with a stack. No conditions. -/
import Derived.Test.YtncpoljjfhmkeaaMath1
namespace Go.Proofs.Ytncpoljjfhmkeaa

/-- a list is a pattern of 1 to 6 lines: its ends are joined in pairs, and no two lines cross -/
structure isPat (p : List Int) : Prop where
  even : p.length % 2 = 0
  lo : 2 ≤ p.length
  hi : p.length ≤ 12
  inside : ∀ i, i < p.length → 0 ≤ gi p i ∧ gi p i < p.length
  other : ∀ i, i < p.length → gi p i ≠ i ∧ gi p (gi p i).toNat = i
  apart : ∀ i : Nat, i < p.length → ∀ j : Nat, i < j → (j : Int) < gi p i → (i : Int) < gi p j ∧ gi p j < gi p i

/-- the bracket of an end -/
def brk (p : List Int) (e : Nat) : Int := if gi p e > e then 40 else 41

/-- one byte of a text read: the pattern so far, and the ends that wait for their other one -/
def stepP (b : Int) (e : Nat) (st : List Int × List Int) : Option (List Int × List Int) :=
  if b = 40 then some (st.1, st.2 ++ [(e : Int)])
  else if b = 41 then
    match st.2.getLast? with
    | none => none
    | some f => some ((st.1.set e f).set f.toNat e, st.2.dropLast)
  else none

def runP (n : Nat) (s : Nat → Int) : Nat → Option (List Int × List Int)
  | 0 => some (List.replicate n 0, [])
  | e + 1 => (runP n s e).bind (stepP (s e) e)

/-- what has been read up to e -/
structure PInv (n : Nat) (s : Nat → Int) (e : Nat) (P S : List Int) : Prop where
  len : P.length = n
  asc : S.Pairwise (· < ·)
  mem : ∀ x, x ∈ S → 0 ≤ x ∧ x < e
  done : ∀ x : Nat, x < e → (x : Int) ∉ S → 0 ≤ gi P x ∧ gi P x < e ∧ gi P x ≠ x ∧ gi P x ∉ S ∧ gi P (gi P x).toNat = x ∧ (∀ j : Nat, x < j → (j : Int) < gi P x → (j : Int) ∉ S ∧ (x : Int) < gi P j ∧ gi P j < gi P x)
  opn : ∀ x : Nat, x < e → (x : Int) ∈ S → s x = 40
  cls : ∀ x : Nat, x < e → (x : Int) ∉ S → (gi P x > x → s x = 40) ∧ (gi P x < x → s x = 41)
  par : (S.length : Int) % 2 = e % 2

theorem last_split {S : List Int} {f : Int} (h : S.getLast? = some f) : S = S.dropLast ++ [f] := by
  have hne : S ≠ [] := by rintro rfl; simp at h
  have := List.dropLast_concat_getLast hne
  rw [List.getLast?_eq_some_getLast hne] at h
  simp only [Option.some.injEq] at h
  rw [h] at this
  exact this.symm

theorem PInv.step {n : Nat} {s : Nat → Int} {e : Nat} {P S P' S' : List Int} (h : PInv n s e P S) (he : e < n) (hs : stepP (s e) e (P, S) = some (P', S')) : PInv n s (e + 1) P' S' := by
  unfold stepP at hs
  split at hs
  · next hb =>
    simp only [Option.some.injEq, Prod.mk.injEq] at hs
    obtain ⟨rfl, rfl⟩ := hs
    refine ⟨h.len, ?_, ?_, ?_, ?_, ?_, ?_⟩
    · rw [List.pairwise_append]
      exact ⟨h.asc, by simp, fun a ha b hb => by simp at hb; subst hb; exact (h.mem a ha).2⟩
    · intro x hx
      simp at hx
      rcases hx with hx | rfl
      · have := h.mem x hx; omega
      · omega
    · intro x hx hn
      simp at hn
      have hxe : x < e := by omega
      obtain ⟨a1, a2, a3, a4, a5, a6⟩ := h.done x hxe hn.1
      refine ⟨a1, by omega, a3, ?_, a5, fun j h1 h2 => ?_⟩
      · simp; exact ⟨a4, by omega⟩
      · obtain ⟨b1, b2⟩ := a6 j h1 h2
        refine ⟨?_, b2⟩
        simp; exact ⟨b1, by omega⟩
    · intro x hx hm
      simp at hm
      by_cases e1 : x = e
      · rw [e1]; exact hb
      · exact h.opn x (by omega) (by rcases hm with hm | hm; exact hm; omega)
    · intro x hx hn
      simp at hn
      exact h.cls x (by omega) hn.1
    · simp
      have := h.par
      omega
  · split at hs
    · next hb40 hb =>
      cases hl : S.getLast? with
      | none => rw [hl] at hs; simp at hs
      | some f =>
        rw [hl] at hs
        simp only [Option.some.injEq, Prod.mk.injEq] at hs
        obtain ⟨rfl, rfl⟩ := hs
        have hS := last_split hl
        generalize S.dropLast = A at hS ⊢
        subst hS
        obtain ⟨f0, f1⟩ := h.mem f (by simp)
        have hasc := h.asc
        rw [List.pairwise_append] at hasc
        have hlt : ∀ a, a ∈ A → a < f := fun a ha => hasc.2.2 a ha f (by simp)
        clear hl
        have hl := h.len
        obtain ⟨g, rfl⟩ : ∃ g : Nat, f = g := ⟨f.toNat, by omega⟩
        rw [Int.toNat_natCast]
        have hg : ∀ x, gi ((P.set e (g : Int)).set g (e : Int)) x = if x = g then (e : Int) else if x = e then (g : Int) else gi P x := by
          intro x
          rw [gi_set (by rw [List.length_set]; omega), gi_set (by omega)]
        have hmem : ∀ x : Int, x ∉ A ++ [(g : Int)] ↔ x ∉ A ∧ x ≠ g := by intro x; simp
        refine ⟨by simp [hl], hasc.1, fun x hx => ?_, ?_, ?_, ?_, ?_⟩
        · have := h.mem x (by simp [hx]); omega
        · intro x hx hn
          by_cases x1 : x = g
          · subst x1
            rw [hg x, if_pos rfl]
            refine ⟨by omega, by omega, by omega, ?_, ?_, fun j j1 j2 => ?_⟩
            · intro hm; have := (h.mem _ (List.mem_append_left _ hm)).2; omega
            · rw [Int.toNat_natCast, hg e, if_neg (by omega), if_pos rfl]
            · have hjA : (j : Int) ∉ A := fun hm => by have := hlt _ hm; omega
              have hjS : (j : Int) ∉ A ++ [(x : Int)] := (hmem _).2 ⟨hjA, by omega⟩
              obtain ⟨a1, a2, a3, a4, a5, a6⟩ := h.done j (by omega) hjS
              rw [hg j, if_neg (by omega), if_neg (by omega)]
              refine ⟨hjA, ?_, a2⟩
              have a4' := (hmem _).1 a4
              rcases Int.lt_trichotomy (gi P j) x with hc | hc | hc
              · exfalso
                obtain ⟨k, hk⟩ : ∃ k : Nat, gi P j = k := ⟨(gi P j).toNat, by omega⟩
                rw [hk] at a5 a4 hc a2
                rw [Int.toNat_natCast] at a5
                have hkd := h.done k (by omega) a4
                have := hkd.2.2.2.2.2 x (by omega) (by rw [a5]; omega)
                exact this.1 (by simp)
              · exact absurd hc a4'.2
              · exact hc
          · by_cases x2 : x = e
            · subst x2
              rw [hg x, if_neg x1, if_pos rfl]
              refine ⟨by omega, by omega, by omega, fun hm => ?_, ?_, fun j j1 j2 => by omega⟩
              · have := hlt _ hm; omega
              · rw [Int.toNat_natCast, hg g, if_pos rfl]
            · have hxS : (x : Int) ∉ A ++ [(g : Int)] := (hmem _).2 ⟨hn, by omega⟩
              obtain ⟨a1, a2, a3, a4, a5, a6⟩ := h.done x (by omega) hxS
              have a4' := (hmem _).1 a4
              rw [hg x, if_neg x1, if_neg x2]
              refine ⟨a1, by omega, a3, a4'.1, ?_, fun j j1 j2 => ?_⟩
              · rw [hg (gi P x).toNat, if_neg (by omega), if_neg (by omega)]; exact a5
              · obtain ⟨b1, b2, b3⟩ := a6 j j1 j2
                have b1' := (hmem _).1 b1
                rw [hg j, if_neg (by omega), if_neg (by omega)]
                exact ⟨b1'.1, b2, b3⟩
        · intro x hx hm
          have := (h.mem x (by simp [hm])).2
          exact h.opn x (by omega) (by simp [hm])
        · intro x hx hn
          by_cases x1 : x = g
          · subst x1
            rw [hg x, if_pos rfl]
            exact ⟨fun _ => h.opn x (by omega) (by simp), fun _ => by omega⟩
          · by_cases x2 : x = e
            · subst x2
              rw [hg x, if_neg x1, if_pos rfl]
              exact ⟨fun _ => by omega, fun _ => hb⟩
            · rw [hg x, if_neg x1, if_neg x2]
              exact h.cls x (by omega) ((hmem _).2 ⟨hn, by omega⟩)
        · have := h.par
          simp at this ⊢
          omega
    · simp at hs

theorem PInv.run {n : Nat} {s : Nat → Int} : ∀ (e : Nat) (P S : List Int), e ≤ n → runP n s e = some (P, S) → PInv n s e P S := by
  intro e
  induction e with
  | zero =>
    intro P S _ h
    simp only [runP, Option.some.injEq, Prod.mk.injEq] at h
    obtain ⟨rfl, rfl⟩ := h
    exact ⟨by simp, by simp, by simp, fun x hx => absurd hx (by omega), fun x hx => absurd hx (by omega), fun x hx => absurd hx (by omega), by simp⟩
  | succ e ih =>
    intro P S he h
    rw [runP, Option.bind_eq_some_iff] at h
    obtain ⟨⟨P0, S0⟩, h0, h1⟩ := h
    exact (ih P0 S0 (by omega) h0).step (by omega) h1

/-- what a whole text is read as is a pattern, and the text is its brackets -/
theorem run_pat {n : Nat} {s : Nat → Int} {P : List Int} (h2 : 2 ≤ n) (h12 : n ≤ 12) (h : runP n s n = some (P, [])) : isPat P ∧ P.length = n ∧ ∀ e, e < n → s e = brk P e := by
  have hi := PInv.run n P [] (Nat.le_refl _) h
  have hl := hi.len
  have hpar := hi.par
  refine ⟨⟨by simp at hpar; omega, by omega, by omega, fun i h1 => ?_, fun i h1 => ?_, fun i h1 j h3 h4 => ?_⟩, hl, fun e he => ?_⟩
  · have := hi.done i (by omega) (by simp); omega
  · have := hi.done i (by omega) (by simp); exact ⟨this.2.2.1, this.2.2.2.2.1⟩
  · have := (hi.done i (by omega) (by simp)).2.2.2.2.2 j h3 h4; exact this.2
  · have h1 := (hi.done e he (by simp)).2.2.1
    have h3 := hi.cls e he (by simp)
    unfold brk
    split
    · exact h3.1 (by omega)
    · exact h3.2 (by omega)

/-- the reading of a pattern's brackets -/
structure RInv (p : List Int) (e : Nat) (P S : List Int) : Prop where
  len : P.length = p.length
  asc : S.Pairwise (· < ·)
  mem : ∀ x, x ∈ S ↔ 0 ≤ x ∧ x < e ∧ e ≤ gi p x.toNat
  done : ∀ x : Nat, x < e → gi p x < e → gi P x = gi p x

theorem RInv.step {p : List Int} (hp : isPat p) {e : Nat} {P S : List Int} (h : RInv p e P S) (he : e < p.length) : ∃ P' S', stepP (brk p e) e (P, S) = some (P', S') ∧ RInv p (e + 1) P' S' := by
  have hin := hp.inside e he
  obtain ⟨hne, hoth⟩ := hp.other e he
  unfold brk
  split
  · next hgt =>
    refine ⟨P, S ++ [(e : Int)], by simp [stepP], h.len, ?_, fun x => ?_, fun x hx hlt => ?_⟩
    · rw [List.pairwise_append]
      exact ⟨h.asc, by simp, fun a ha b hb => by simp at hb; subst hb; exact ((h.mem a).1 ha).2.1⟩
    · simp only [List.mem_append, List.mem_singleton]
      rw [h.mem]
      constructor
      · rintro (hx | rfl)
        · refine ⟨hx.1, by omega, ?_⟩
          have hxe := hp.other x.toNat (by omega)
          have : gi p x.toNat ≠ e := fun h0 => by rw [h0, Int.toNat_natCast] at hxe; omega
          omega
        · refine ⟨by omega, by omega, ?_⟩
          rw [Int.toNat_natCast]; omega
      · rintro ⟨h1, h2, h3⟩
        by_cases h4 : x = e
        · exact .inr h4
        · exact .inl ⟨h1, by omega, by omega⟩
    · by_cases hxe : x = e
      · subst hxe; omega
      · have : gi p x ≠ e := fun h0 => by
          have hxo := hp.other x (by omega)
          rw [h0, Int.toNat_natCast] at hxo; omega
        exact h.done x (by omega) (by omega)
  · next hle =>
    obtain ⟨g, hg⟩ : ∃ g : Nat, gi p e = g := ⟨(gi p e).toNat, by omega⟩
    rw [hg, Int.toNat_natCast] at hoth
    have hgS : (g : Int) ∈ S := (h.mem _).2 ⟨by omega, by omega, by rw [Int.toNat_natCast, hoth]; omega⟩
    cases hl : S.getLast? with
    | none =>
      rw [List.getLast?_eq_none_iff] at hl
      subst hl
      simp at hgS
    | some f =>
      have hS := last_split hl
      have hS2 : ∀ x, x ∈ S ↔ x ∈ S.dropLast ∨ x = f := fun x => by
        conv => lhs; rw [hS]
        simp
      have hasc := h.asc
      rw [hS, List.pairwise_append] at hasc
      have hlt : ∀ a, a ∈ S.dropLast → a < f := fun a ha => hasc.2.2 a ha f (by simp)
      have hf := (h.mem f).1 ((hS2 f).2 (.inr rfl))
      obtain rfl : f = g := by
        rcases (hS2 _).1 hgS with hA | hA
        · exfalso
          have h1 := hlt _ hA
          obtain ⟨y, rfl⟩ : ∃ y : Nat, f = y := ⟨f.toNat, by omega⟩
          rw [Int.toNat_natCast] at hf
          have h2 := hp.apart g (by omega) y (by omega) (by rw [hoth]; omega)
          rw [hoth] at h2
          omega
        · exact hA.symm
      have hPl := h.len
      refine ⟨(P.set e (g : Int)).set (g : Int).toNat e, S.dropLast, by simp [stepP, hl], by simp [hPl], hasc.1, fun x => ?_, fun x hx hlt' => ?_⟩
      · constructor
        · intro hx
          have h1 := hlt x hx
          have h2 := (h.mem x).1 ((hS2 x).2 (.inl hx))
          refine ⟨h2.1, by omega, ?_⟩
          have : gi p x.toNat ≠ e := fun h0 => by
            have h3 := hp.other x.toNat (by omega)
            rw [h0, Int.toNat_natCast, hg] at h3; omega
          omega
        · rintro ⟨h1, h2, h3⟩
          have hxe : x ≠ e := fun h0 => by rw [h0, Int.toNat_natCast] at h3; omega
          rcases (hS2 x).1 ((h.mem x).2 ⟨h1, by omega, by omega⟩) with h4 | h4
          · exact h4
          · exfalso
            rw [h4, Int.toNat_natCast, hoth] at h3
            omega
      · rw [Int.toNat_natCast, gi_set (by rw [List.length_set]; omega), gi_set (by omega)]
        by_cases x1 : x = g
        · rw [if_pos x1, x1, hoth]
        · rw [if_neg x1]
          by_cases x2 : x = e
          · rw [if_pos x2, x2, hg]
          · rw [if_neg x2]
            have : gi p x ≠ e := fun h0 => by
              have h3 := hp.other x (by omega)
              rw [h0, Int.toNat_natCast, hg] at h3; omega
            exact h.done x (by omega) (by omega)

/-- a pattern's brackets are read as the pattern -/
theorem pat_run {p : List Int} (hp : isPat p) : ∀ e, e ≤ p.length → ∃ P S, runP p.length (brk p) e = some (P, S) ∧ RInv p e P S := by
  intro e
  induction e with
  | zero =>
    intro _
    refine ⟨_, _, rfl, by simp, by simp, fun x => ?_, fun x hx => absurd hx (by omega)⟩
    constructor
    · intro h; simp at h
    · intro h; omega
  | succ e ih =>
    intro he
    obtain ⟨P, S, h1, h2⟩ := ih (by omega)
    obtain ⟨P', S', h3, h4⟩ := h2.step hp (by omega)
    exact ⟨P', S', by rw [runP, h1]; exact h3, h4⟩

theorem pat_read {p : List Int} (hp : isPat p) : runP p.length (brk p) p.length = some (p, []) := by
  obtain ⟨P, S, h1, h2⟩ := pat_run hp p.length (Nat.le_refl _)
  have hS : S = [] := by
    cases S with
    | nil => rfl
    | cons x t =>
      exfalso
      have h3 := (h2.mem x).1 (by simp)
      have := hp.inside x.toNat (by omega)
      omega
  have hP : P = p := ext_gi h2.len fun i hi => h2.done i (by rw [h2.len] at hi; exact hi) (hp.inside i (by rw [h2.len] at hi; exact hi)).2
  rw [h1, hS, hP]

theorem runP_congr {n : Nat} {s t : Nat → Int} : ∀ e, (∀ x, x < e → s x = t x) → runP n s e = runP n t e := by
  intro e
  induction e with
  | zero => intro _; rfl
  | succ e ih => intro h; rw [runP, runP, ih (fun x hx => h x (by omega)), h e (by omega)]
end Go.Proofs.Ytncpoljjfhmkeaa
