/- Texts cut at strokes and read back as tables of signs. No program here. Conditions: none. -/
import Derived.Test.YtiocbogdiaalgaaDoorText
import Derived.Lib.Split
import Derived.Lib.IndexBytes
namespace Go.Proofs.YtiocbogdiaalgaaDoor
open Go.RowKit

/-- a text cut at each stroke -/
def cut : List UInt8 → List (List UInt8)
  | [] => [[]]
  | b :: r => if b = 47 then [] :: cut r else (b :: (cut r).headD []) :: (cut r).tail

theorem cut_ex (l : List UInt8) : ∃ p ps, cut l = p :: ps := by
  cases l with
  | nil => exact ⟨_, _, rfl⟩
  | cons b r => unfold cut; split <;> exact ⟨_, _, rfl⟩
theorem cut_pos (l : List UInt8) : 1 ≤ (cut l).length := by
  obtain ⟨p, ps, e⟩ := cut_ex l
  rw [e]; simp
theorem cut_app (u y : List UInt8) : cut (u ++ 47 :: y) = cut u ++ cut y := by
  induction u with
  | nil => simp [cut]
  | cons b r ih =>
    obtain ⟨p, ps, e⟩ := cut_ex r
    simp only [List.cons_append, cut]
    by_cases h : b = 47
    · rw [if_pos h, if_pos h, ih]; rfl
    · rw [if_neg h, if_neg h, ih, e]; rfl
theorem cut_plain {x : List UInt8} (h : ∀ b ∈ x, b ≠ 47) : cut x = [x] := by
  induction x with
  | nil => rfl
  | cons b r ih => rw [cut, if_neg (h b (by simp)), ih (fun c hc => h c (by simp [hc]))]; rfl
theorem cut_at {x : List UInt8} (h : ∀ b ∈ x, b ≠ 47) (y : List UInt8) : cut (x ++ 47 :: y) = x :: cut y := by rw [cut_app, cut_plain h]; rfl
theorem cut_len (l : List UInt8) : (cut l).length ≤ l.length + 1 := by
  induction l with
  | nil => simp [cut]
  | cons b r ih =>
    obtain ⟨p, ps, e⟩ := cut_ex r
    rw [e] at ih
    unfold cut
    split
    · rw [e]; simp at ih ⊢; omega
    · rw [e]; simp at ih ⊢; omega
theorem cut_piece (l : List UInt8) : ∀ p ∈ cut l, p.length ≤ l.length := by
  induction l with
  | nil => simp [cut]
  | cons b r ih =>
    obtain ⟨q, qs, e⟩ := cut_ex r
    rw [e] at ih
    unfold cut
    rw [e]
    intro p hp
    split at hp
    · rcases List.mem_cons.1 hp with rfl | hp
      · simp
      · have := ih p hp; simp; omega
    · rcases List.mem_cons.1 hp with rfl | hp
      · have := ih q (by simp); simp; omega
      · have := ih p (by simp only [List.tail_cons] at hp; simp [hp]); simp; omega

def join : List (List UInt8) → List UInt8
  | [] => []
  | [p] => p
  | p :: q :: r => p ++ 47 :: join (q :: r)
theorem join_cut (l : List UInt8) : join (cut l) = l := by
  induction l with
  | nil => rfl
  | cons b r ih =>
    obtain ⟨p, ps, e⟩ := cut_ex r
    rw [e] at ih
    unfold cut
    split
    · next h => subst h; rw [e]; show [] ++ 47 :: join (p :: ps) = _; rw [ih]; rfl
    · rw [e]
      show join ((b :: p) :: ps) = _
      cases ps with
      | nil => simp only [join] at ih ⊢; rw [ih]
      | cons q qs => simp only [join, List.cons_append] at ih ⊢; rw [ih]
theorem cut_inj {l l' : List UInt8} (h : cut l = cut l') : l = l' := by rw [← join_cut l, h, join_cut]

/-- the sign that a byte stands for -/
def val (c : UInt8) : Int := if c = 45 then -1 else if c = 43 then 1 else 0
def rowV (p : List UInt8) : List Int := p.map val
/-- the table that a text stands for -/
def mv (l : List UInt8) : List (List Int) := (cut l).map rowV
theorem mv_len (l : List UInt8) : (mv l).length = (cut l).length := by simp [mv]
theorem gr_mv {l : List UInt8} {k : Nat} (h : k < (cut l).length) : gr (mv l) k = rowV ((cut l)[k]) := by
  rw [gr_lt (by rw [mv_len]; exact h)]
  simp [mv]
theorem val_sgc {x : Int} (h : -1 ≤ x ∧ x ≤ 1) : val (sgc x) = x := by
  have : x = -1 ∨ x = 0 ∨ x = 1 := by omega
  rcases this with rfl | rfl | rfl <;> decide
theorem val_le (c : UInt8) : -1 ≤ val c ∧ val c ≤ 1 := by
  unfold val
  split
  · omega
  · split <;> omega
theorem sgc_ne (x : Int) : sgc x ≠ 47 := by
  unfold sgc
  split
  · decide
  · split <;> decide
theorem rowB_all (xs : List Int) : rowB xs xs.length = xs.map sgc := by
  have key : ∀ k, k ≤ xs.length → rowB xs k = (xs.take k).map sgc := by
    intro k
    induction k with
    | zero => intro _; simp [rowB]
    | succ k ih =>
      intro hk
      rw [rowB, ih (by omega), List.take_add_one, List.map_append, List.getElem?_eq_getElem (by omega), gi_lt (by omega)]
      rfl
  rw [key _ (Nat.le_refl _), List.take_length]
theorem sgc_row (xs : List Int) : ∀ b ∈ xs.map sgc, b ≠ 47 := by
  intro b hb
  obtain ⟨x, _, rfl⟩ := List.mem_map.1 hb
  exact sgc_ne x
theorem cut_txt (m : List (List Int)) : ∀ k, cut (txtB m (k + 1)) = (List.range (k + 1)).map fun i => (gr m i).map sgc
  | 0 => by
    show cut (([] ++ sepB 0) ++ rowB (gr m 0) (gr m 0).length) = _
    rw [rowB_all]
    show cut ((gr m 0).map sgc) = _
    rw [cut_plain (sgc_row _)]
    rfl
  | k + 1 => by
    rw [txtB, rowB_all, show sepB (k + 1) = [47] from by simp [sepB], List.append_assoc]
    show cut (txtB m (k + 1) ++ 47 :: (gr m (k + 1)).map sgc) = _
    rw [cut_app, cut_txt m k, cut_plain (sgc_row _), List.range_succ (n := k + 1), List.map_append]
    rfl
theorem cut_txt_all {m : List (List Int)} (h : 1 ≤ m.length) : cut (txtB m m.length) = m.map fun r => r.map sgc := by
  obtain ⟨k, hk⟩ : ∃ k, m.length = k + 1 := ⟨m.length - 1, by omega⟩
  rw [hk, cut_txt]
  apply List.ext_getElem
  · simp [hk]
  · intro i h1 h2
    simp only [List.length_map, List.length_range] at h1
    simp only [List.getElem_map, List.getElem_range]
    rw [gr_lt (by omega)]

/-- the text is that of a sign matrix -/
def parses (l : List UInt8) : Prop := good (mv l) ∧ txtB (mv l) (mv l).length = l
theorem map_self {α : Type} {l : List α} {f : α → α} (h : l.map f = l) : ∀ p ∈ l, f p = p := by
  have : l.map f = l.map id := by rw [h, List.map_id]
  exact fun p hp => List.map_inj_left.1 this p hp
theorem parses_chars {l : List UInt8} (h : parses l) : ∀ p ∈ cut l, ∀ c ∈ p, sgc (val c) = c := by
  have e := cut_txt_all (m := mv l) h.1.1.1
  rw [h.2] at e
  have e2 : (cut l).map (fun p => (rowV p).map sgc) = cut l := by
    rw [mv, List.map_map] at e
    exact e.symm
  intro p hp c hc
  have e3 := map_self e2 p hp
  have e4 : p.map (fun c => sgc (val c)) = p := by rw [rowV, List.map_map] at e3; exact e3
  exact map_self e4 c hc
theorem parses_of_chars {l : List UInt8} (hg : good (mv l)) (h : ∀ p ∈ cut l, ∀ c ∈ p, sgc (val c) = c) : parses l := by
  refine ⟨hg, cut_inj ?_⟩
  rw [cut_txt_all hg.1.1, mv, List.map_map]
  have : (cut l).map ((fun r => List.map sgc r) ∘ rowV) = (cut l).map id := by
    refine List.map_inj_left.2 fun p hp => ?_
    show (p.map val).map sgc = p
    rw [List.map_map]
    have : p.map (sgc ∘ val) = p.map id := List.map_inj_left.2 fun c hc => h p hp c hc
    rw [this, List.map_id]
  rw [this, List.map_id]
theorem not_parses_many {l : List UInt8} (h : 6 < (cut l).length) : ¬ parses l := fun hp => by
  have := hp.1.1.2.1
  rw [mv_len] at this
  omega
theorem not_parses_long {l : List UInt8} {k : Nat} (h : k < (cut l).length) (h2 : 6 < ((cut l)[k]).length) : ¬ parses l := fun hp => by
  have h3 := hp.1.1.2.2 k (by rw [mv_len]; exact h)
  have h4 := hp.1.1.2.1
  rw [gr_mv h, rowV, List.length_map] at h3
  omega
theorem not_parses_len {l : List UInt8} {k : Nat} (h : k < (cut l).length) (h2 : ((cut l)[k]).length ≠ (cut l).length) : ¬ parses l := fun hp => by
  have h3 := hp.1.1.2.2 k (by rw [mv_len]; exact h)
  rw [gr_mv h, rowV, List.length_map, mv_len] at h3
  exact h2 h3

/-- the library's first stroke, and the text behind it -/
theorem idx_cases (l : List UInt8) : (Lib.indexByte l 47 = -1 ∧ cut l = [l]) ∨ ∃ i : Nat, Lib.indexByte l 47 = i ∧ cut l = l.take i :: cut (l.drop (i + 1)) := by
  induction l with
  | nil => exact .inl ⟨rfl, rfl⟩
  | cons b r ih =>
    by_cases h : b = 47
    · subst h
      exact .inr ⟨0, by simp [Lib.indexByte], by simp [cut]⟩
    · have hb : (b == 47) = false := by simp [h]
      rcases ih with ⟨h1, h2⟩ | ⟨i, h1, h2⟩
      · exact .inl ⟨by simp [Lib.indexByte, hb, h1], by rw [cut, if_neg h, h2]; rfl⟩
      · refine .inr ⟨i + 1, ?_, ?_⟩
        · have h3 : ((i : Int) == -1) = false := by simp
          simp only [Lib.indexByte, hb, h1, h3]
          simp
        · rw [cut, if_neg h, h2]; rfl
theorem splitK_cut : ∀ (k : Nat) (l : List UInt8), (cut l).length ≤ k + 1 → Lib.splitK [47] 0 k l = cut l
  | 0, l, h => by
    rcases idx_cases l with ⟨_, h2⟩ | ⟨i, _, h2⟩
    · rw [h2]; rfl
    · have := cut_pos (l.drop (i + 1))
      rw [h2] at h; simp only [List.length_cons] at h; omega
  | k + 1, l, h => by
    unfold Lib.splitK
    rw [Lib.index_one]
    rcases idx_cases l with ⟨h1, h2⟩ | ⟨i, h1, h2⟩
    · rw [h1, h2]; rfl
    · have h3 : ((i : Int) == -1) = false := by simp
      rw [h2] at h
      rw [h1, h3, h2]
      simp only [Bool.false_eq_true, if_false, Int.toNat_natCast, List.length_singleton, Nat.add_zero]
      rw [splitK_cut k _ (by simpa using h)]
theorem splitK_long : ∀ (k : Nat) (l : List UInt8), k + 1 ≤ (cut l).length → (Lib.splitK [47] 0 k l).length = k + 1
  | 0, l, _ => rfl
  | k + 1, l, h => by
    unfold Lib.splitK
    rw [Lib.index_one]
    rcases idx_cases l with ⟨h1, h2⟩ | ⟨i, h1, h2⟩
    · rw [h2] at h; simp at h
    · have h3 : ((i : Int) == -1) = false := by simp
      rw [h2] at h
      rw [h1, h3]
      simp only [Bool.false_eq_true, if_false, Int.toNat_natCast, Nat.add_zero, List.length_cons]
      rw [splitK_long k _ (by simpa using h)]
theorem idx3 (c : UInt8) : (sgc (val c) = c ∧ Lib.indexByte [45, 48, 43] c = val c + 1) ∨ (sgc (val c) ≠ c ∧ Lib.indexByte [45, 48, 43] c = -1) := by
  by_cases h1 : c = 45
  · subst h1; exact .inl (by decide)
  by_cases h2 : c = 43
  · subst h2; exact .inl (by decide)
  by_cases h3 : c = 48
  · subst h3; exact .inl (by decide)
  refine .inr ⟨?_, ?_⟩
  · have : val c = 0 := by unfold val; rw [if_neg h1, if_neg h2]
    rw [this]
    exact fun h => h3 h.symm
  · have e1 : ((45 : UInt8) == c) = false := by simp; exact fun h => h1 h.symm
    have e2 : ((43 : UInt8) == c) = false := by simp; exact fun h => h2 h.symm
    have e3 : ((48 : UInt8) == c) = false := by simp; exact fun h => h3 h.symm
    simp [Lib.indexByte, e1, e2, e3]
end Go.Proofs.YtiocbogdiaalgaaDoor
