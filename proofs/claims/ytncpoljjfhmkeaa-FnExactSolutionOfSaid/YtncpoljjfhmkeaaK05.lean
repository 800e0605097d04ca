/- Parts of proofs: contracts and plain facts. Conditions: as each says. -/
import Derived.Test.YtncpoljjfhmkeaaK04
import Derived.Lib.Split
import Derived.Lib.IndexBytes
import Derived.Laws.Strings2
import Derived.Laws.Strings3
import Derived.WalkSmall
namespace Go.Proofs.Ytncpoljjfhmkeaa
open Go.RowKit

/-- a text cut at each stroke -/
def cut : List UInt8 → List (List UInt8)
  | [] => [[]]
  | b :: r => if b = 47 then [] :: cut r else (b :: (cut r).headD []) :: (cut r).tail

theorem cut_ex (l : List UInt8) : ∃ p ps, cut l = p :: ps := by
  cases l with
  | nil => exact ⟨_, _, rfl⟩
  | cons b r => unfold cut; split <;> exact ⟨_, _, rfl⟩
theorem cut_pos (l : List UInt8) : 1 ≤ (cut l).length := by
  obtain ⟨p, ps, e⟩ := cut_ex l
  rw [e]; simp
theorem cut_app (u y : List UInt8) : cut (u ++ 47 :: y) = cut u ++ cut y := by
  induction u with
  | nil => simp [cut]
  | cons b r ih =>
    obtain ⟨p, ps, e⟩ := cut_ex r
    simp only [List.cons_append, cut]
    by_cases h : b = 47
    · rw [if_pos h, if_pos h, ih]; rfl
    · rw [if_neg h, if_neg h, ih, e]; rfl
theorem cut_plain {x : List UInt8} (h : ∀ b ∈ x, b ≠ 47) : cut x = [x] := by
  induction x with
  | nil => rfl
  | cons b r ih => rw [cut, if_neg (h b (by simp)), ih (fun c hc => h c (by simp [hc]))]; rfl
theorem cut_at {x : List UInt8} (h : ∀ b ∈ x, b ≠ 47) (y : List UInt8) : cut (x ++ 47 :: y) = x :: cut y := by rw [cut_app, cut_plain h]; rfl
theorem cut_len (l : List UInt8) : (cut l).length ≤ l.length + 1 := by
  induction l with
  | nil => simp [cut]
  | cons b r ih =>
    obtain ⟨p, ps, e⟩ := cut_ex r
    rw [e] at ih
    unfold cut
    split
    · rw [e]; simp at ih ⊢; omega
    · rw [e]; simp at ih ⊢; omega
theorem cut_piece (l : List UInt8) : ∀ p ∈ cut l, p.length ≤ l.length := by
  induction l with
  | nil => simp [cut]
  | cons b r ih =>
    obtain ⟨q, qs, e⟩ := cut_ex r
    rw [e] at ih
    unfold cut
    rw [e]
    intro p hp
    split at hp
    · rcases List.mem_cons.1 hp with rfl | hp
      · simp
      · have := ih p hp; simp; omega
    · rcases List.mem_cons.1 hp with rfl | hp
      · have := ih q (by simp); simp; omega
      · have := ih p (by simp only [List.tail_cons] at hp; simp [hp]); simp; omega

def join : List (List UInt8) → List UInt8
  | [] => []
  | [p] => p
  | p :: q :: r => p ++ 47 :: join (q :: r)
theorem join_cut (l : List UInt8) : join (cut l) = l := by
  induction l with
  | nil => rfl
  | cons b r ih =>
    obtain ⟨p, ps, e⟩ := cut_ex r
    rw [e] at ih
    unfold cut
    split
    · next h => subst h; rw [e]; show [] ++ 47 :: join (p :: ps) = _; rw [ih]; rfl
    · rw [e]
      show join ((b :: p) :: ps) = _
      cases ps with
      | nil => simp only [join] at ih ⊢; rw [ih]
      | cons q qs => simp only [join, List.cons_append] at ih ⊢; rw [ih]
theorem cut_inj {l l' : List UInt8} (h : cut l = cut l') : l = l' := by rw [← join_cut l, h, join_cut]

/-- the sign that a byte stands for -/
def val (c : UInt8) : Int := if c = 45 then -1 else if c = 43 then 1 else 0
def rowV (p : List UInt8) : List Int := p.map val
/-- the table that a text stands for -/
def mv (l : List UInt8) : List (List Int) := (cut l).map rowV
theorem mv_len (l : List UInt8) : (mv l).length = (cut l).length := by simp [mv]
theorem gr_mv {l : List UInt8} {k : Nat} (h : k < (cut l).length) : gr (mv l) k = rowV ((cut l)[k]) := by
  rw [gr_lt (by rw [mv_len]; exact h)]
  simp [mv]
theorem val_sgc {x : Int} (h : -1 ≤ x ∧ x ≤ 1) : val (sgc x) = x := by
  have : x = -1 ∨ x = 0 ∨ x = 1 := by omega
  rcases this with rfl | rfl | rfl <;> decide
theorem val_le (c : UInt8) : -1 ≤ val c ∧ val c ≤ 1 := by
  unfold val
  split
  · omega
  · split <;> omega
theorem sgc_ne (x : Int) : sgc x ≠ 47 := by
  unfold sgc
  split
  · decide
  · split <;> decide
theorem rowB_all (xs : List Int) : rowB xs xs.length = xs.map sgc := by
  have key : ∀ k, k ≤ xs.length → rowB xs k = (xs.take k).map sgc := by
    intro k
    induction k with
    | zero => intro _; simp [rowB]
    | succ k ih =>
      intro hk
      rw [rowB, ih (by omega), List.take_add_one, List.map_append, List.getElem?_eq_getElem (by omega), gi_lt (by omega)]
      rfl
  rw [key _ (Nat.le_refl _), List.take_length]
theorem sgc_row (xs : List Int) : ∀ b ∈ xs.map sgc, b ≠ 47 := by
  intro b hb
  obtain ⟨x, _, rfl⟩ := List.mem_map.1 hb
  exact sgc_ne x
theorem cut_txt (m : List (List Int)) : ∀ k, cut (txtB m (k + 1)) = (List.range (k + 1)).map fun i => (gr m i).map sgc
  | 0 => by
    show cut (([] ++ sepB 0) ++ rowB (gr m 0) (gr m 0).length) = _
    rw [rowB_all]
    show cut ((gr m 0).map sgc) = _
    rw [cut_plain (sgc_row _)]
    rfl
  | k + 1 => by
    rw [txtB, rowB_all, show sepB (k + 1) = [47] from by simp [sepB], List.append_assoc]
    show cut (txtB m (k + 1) ++ 47 :: (gr m (k + 1)).map sgc) = _
    rw [cut_app, cut_txt m k, cut_plain (sgc_row _), List.range_succ (n := k + 1), List.map_append]
    rfl
theorem cut_txt_all {m : List (List Int)} (h : 1 ≤ m.length) : cut (txtB m m.length) = m.map fun r => r.map sgc := by
  obtain ⟨k, hk⟩ : ∃ k, m.length = k + 1 := ⟨m.length - 1, by omega⟩
  rw [hk, cut_txt]
  apply List.ext_getElem
  · simp [hk]
  · intro i h1 h2
    simp only [List.length_map, List.length_range] at h1
    simp only [List.getElem_map, List.getElem_range]
    rw [gr_lt (by omega)]

/-- the text is that of a sign matrix -/
def parses (l : List UInt8) : Prop := good (mv l) ∧ txtB (mv l) (mv l).length = l
theorem map_self {α : Type} {l : List α} {f : α → α} (h : l.map f = l) : ∀ p ∈ l, f p = p := by
  have : l.map f = l.map id := by rw [h, List.map_id]
  exact fun p hp => List.map_inj_left.1 this p hp
theorem parses_chars {l : List UInt8} (h : parses l) : ∀ p ∈ cut l, ∀ c ∈ p, sgc (val c) = c := by
  have e := cut_txt_all (m := mv l) h.1.1.1
  rw [h.2] at e
  have e2 : (cut l).map (fun p => (rowV p).map sgc) = cut l := by
    rw [mv, List.map_map] at e
    exact e.symm
  intro p hp c hc
  have e3 := map_self e2 p hp
  have e4 : p.map (fun c => sgc (val c)) = p := by rw [rowV, List.map_map] at e3; exact e3
  exact map_self e4 c hc
theorem parses_of_chars {l : List UInt8} (hg : good (mv l)) (h : ∀ p ∈ cut l, ∀ c ∈ p, sgc (val c) = c) : parses l := by
  refine ⟨hg, cut_inj ?_⟩
  rw [cut_txt_all hg.1.1, mv, List.map_map]
  have : (cut l).map ((fun r => List.map sgc r) ∘ rowV) = (cut l).map id := by
    refine List.map_inj_left.2 fun p hp => ?_
    show (p.map val).map sgc = p
    rw [List.map_map]
    have : p.map (sgc ∘ val) = p.map id := List.map_inj_left.2 fun c hc => h p hp c hc
    rw [this, List.map_id]
  rw [this, List.map_id]
theorem not_parses_many {l : List UInt8} (h : 6 < (cut l).length) : ¬ parses l := fun hp => by
  have := hp.1.1.2.1
  rw [mv_len] at this
  omega
theorem not_parses_long {l : List UInt8} {k : Nat} (h : k < (cut l).length) (h2 : 6 < ((cut l)[k]).length) : ¬ parses l := fun hp => by
  have h3 := hp.1.1.2.2 k (by rw [mv_len]; exact h)
  have h4 := hp.1.1.2.1
  rw [gr_mv h, rowV, List.length_map] at h3
  omega
theorem not_parses_len {l : List UInt8} {k : Nat} (h : k < (cut l).length) (h2 : ((cut l)[k]).length ≠ (cut l).length) : ¬ parses l := fun hp => by
  have h3 := hp.1.1.2.2 k (by rw [mv_len]; exact h)
  rw [gr_mv h, rowV, List.length_map, mv_len] at h3
  exact h2 h3

/-- the library's first stroke, and the text behind it -/
theorem idx_cases (l : List UInt8) : (Lib.indexByte l 47 = -1 ∧ cut l = [l]) ∨ ∃ i : Nat, Lib.indexByte l 47 = i ∧ cut l = l.take i :: cut (l.drop (i + 1)) := by
  induction l with
  | nil => exact .inl ⟨rfl, rfl⟩
  | cons b r ih =>
    by_cases h : b = 47
    · subst h
      exact .inr ⟨0, by simp [Lib.indexByte], by simp [cut]⟩
    · have hb : (b == 47) = false := by simp [h]
      rcases ih with ⟨h1, h2⟩ | ⟨i, h1, h2⟩
      · exact .inl ⟨by simp [Lib.indexByte, hb, h1], by rw [cut, if_neg h, h2]; rfl⟩
      · refine .inr ⟨i + 1, ?_, ?_⟩
        · have h3 : ((i : Int) == -1) = false := by simp
          simp only [Lib.indexByte, hb, h1, h3]
          simp
        · rw [cut, if_neg h, h2]; rfl
theorem splitK_cut : ∀ (k : Nat) (l : List UInt8), (cut l).length ≤ k + 1 → Lib.splitK [47] 0 k l = cut l
  | 0, l, h => by
    rcases idx_cases l with ⟨_, h2⟩ | ⟨i, _, h2⟩
    · rw [h2]; rfl
    · have := cut_pos (l.drop (i + 1))
      rw [h2] at h; simp only [List.length_cons] at h; omega
  | k + 1, l, h => by
    unfold Lib.splitK
    rw [Lib.index_one]
    rcases idx_cases l with ⟨h1, h2⟩ | ⟨i, h1, h2⟩
    · rw [h1, h2]; rfl
    · have h3 : ((i : Int) == -1) = false := by simp
      rw [h2] at h
      rw [h1, h3, h2]
      simp only [Bool.false_eq_true, if_false, Int.toNat_natCast, List.length_singleton, Nat.add_zero]
      rw [splitK_cut k _ (by simpa using h)]
theorem splitK_long : ∀ (k : Nat) (l : List UInt8), k + 1 ≤ (cut l).length → (Lib.splitK [47] 0 k l).length = k + 1
  | 0, l, _ => rfl
  | k + 1, l, h => by
    unfold Lib.splitK
    rw [Lib.index_one]
    rcases idx_cases l with ⟨h1, h2⟩ | ⟨i, h1, h2⟩
    · rw [h2] at h; simp at h
    · have h3 : ((i : Int) == -1) = false := by simp
      rw [h2] at h
      rw [h1, h3]
      simp only [Bool.false_eq_true, if_false, Int.toNat_natCast, Nat.add_zero, List.length_cons]
      rw [splitK_long k _ (by simpa using h)]
theorem idx3 (c : UInt8) : (sgc (val c) = c ∧ Lib.indexByte [45, 48, 43] c = val c + 1) ∨ (sgc (val c) ≠ c ∧ Lib.indexByte [45, 48, 43] c = -1) := by
  by_cases h1 : c = 45
  · subst h1; exact .inl (by decide)
  by_cases h2 : c = 43
  · subst h2; exact .inl (by decide)
  by_cases h3 : c = 48
  · subst h3; exact .inl (by decide)
  refine .inr ⟨?_, ?_⟩
  · have : val c = 0 := by unfold val; rw [if_neg h1, if_neg h2]
    rw [this]
    exact fun h => h3 h.symm
  · have e1 : ((45 : UInt8) == c) = false := by simp; exact fun h => h1 h.symm
    have e2 : ((43 : UInt8) == c) = false := by simp; exact fun h => h2 h.symm
    have e3 : ((48 : UInt8) == c) = false := by simp; exact fun h => h3 h.symm
    simp [Lib.indexByte, e1, e2, e3]
end Go.Proofs.Ytncpoljjfhmkeaa

namespace Go.Proofs.Ytncpoljjfhmkeaa
open Go.RowKit

/-- a slice of texts that the call owns from block B on -/
def OwnS (w : World) (B : Nat) (v : Value) (ps : List (List UInt8)) : Prop := w.ownsRow B 9 1 v ps.length (ps.map fun p => .string (bstr p))
theorem OwnS.below {w w' : World} {B : Nat} {v : Value} {ps : List (List UInt8)} (h : OwnS w B v ps) (hb : Below w.heap.size w w') : OwnS w' B v ps := ownsRow_below h hb
theorem OwnS.nil (w : World) (B : Nat) : OwnS w B (.slice none 0 0) [] := World.ownsRow_nil _ _ _ _
/-- the cells at an address hold these texts -/
def TextsAt (w : World) (ao : Option Addr) (ps : List (List UInt8)) : Prop :=
  ∀ i (h : i < ps.length), ∃ b o, ao = some ⟨b, o, none⟩ ∧ w.cell? ⟨b, o + i, none⟩ = some (.string (bstr ps[i]))
theorem TextsAt.below {w w' : World} {ao : Option Addr} {ps : List (List UInt8)} (h : TextsAt w ao ps) (hb : Below w.heap.size w w') : TextsAt w' ao ps := by
  intro i hi
  obtain ⟨b, o, e, hc⟩ := h i hi
  exact ⟨b, o, e, cell_below hc hb⟩
theorem OwnS.read {w : World} {B : Nat} {v : Value} {ps : List (List UInt8)} (h : OwnS w B v ps) : ∃ ao c, v = .slice ao ps.length c ∧ ps.length ≤ c ∧ c ≤ 9223372036854775807 ∧ TextsAt w ao ps := by
  obtain ⟨ao, c, hv, h1, h2, hc⟩ := ownsRow_read h
  refine ⟨ao, c, hv, h1, h2, fun i hi => ?_⟩
  obtain ⟨b, o, e, hcell⟩ := hc i hi
  exact ⟨b, o, e, by rw [hcell]; simp [List.getD, hi]⟩
theorem OwnS.snoc {w w1 : World} {B : Nat} {v v' : Value} {ps : List (List UInt8)} {p : List UInt8} {o : Obj} (h : OwnS w B v ps) (hB : B ≤ w.heap.size)
    (h1 : w1.ownsRow B 9 1 v' (ps.length + 1) ((ps.map fun p => .string (bstr p)) ++ [.string (bstr p)])) (hg : (w.alloc o).grownBy w1 v.ownBlock) : OwnS w1 B v' (ps ++ [p]) ∧ Below B w w1 := by
  refine ⟨by unfold OwnS; rw [List.length_append, List.map_append]; exact h1, ?_⟩
  refine Below.grown ((Below.refl B w).alloc hB o) hg (by simp; omega) (fun k hk => (World.ownsRow.lt h k hk).1)

theorem Try.info_string : (Try.prog.info? 9).map (fun i => (i.zero, i.size, i.bytes)) = some (some (.string ⟨#[]⟩), 1, 16) := by kernel_rfl

theorem bstr_size (l : List UInt8) : (bstr l).size = l.length := rfl
theorem str_at {l : List UInt8} {k : Nat} {b : UInt8} (h : l[k]? = some b) (w : World) : (Instr.index 9 (.string (bstr l)) (.int .i64 (k : Int))).run Try.prog w = .ok (.int .u8 (b.toNat : Int)) w := by
  have hk : k < l.length := (List.getElem?_eq_some_iff.1 h).1
  rw [run_index_string w 9 (bstr l) .i64 (k : Int) Try.underlying9, dif_pos ⟨by omega, by rw [bstr_size]; omega⟩]
  have he : l[k] = b := (List.getElem?_eq_some_iff.1 h).2
  subst he
  rfl
theorem str_cut {l : List UInt8} {a k : Nat} (ha : a ≤ k) (hk : k ≤ l.length) (w : World) : (Instr.slice 9 (.string (bstr l)) (some (.int .i64 (a : Int))) (some (.int .i64 (k : Int))) none).run Try.prog w = .ok (.string (bstr ((l.drop a).take (k - a)))) w := by
  rw [run_slice_string w 9 (bstr l) .i64 .i64 (a : Int) (k : Int) Try.underlying9 (by omega) (by omega) (by rw [bstr_size]; omega)]
  have := ByteArray.extract_mk l a k
  simp only [Int.toNat_natCast]
  exact congrArg (fun x => Result.ok (Value.string x) w) this
theorem str_from {l : List UInt8} {a : Nat} (ha : a ≤ l.length) (w : World) : (Instr.slice 9 (.string (bstr l)) (some (.int .i64 (a : Int))) none none).run Try.prog w = .ok (.string (bstr (l.drop a))) w := by
  rw [run_slice_string_from_if w 9 (bstr l) .i64 (a : Int) Try.underlying9, if_pos ⟨by omega, by rw [bstr_size]; omega⟩]
  have h1 := ByteArray.extract_mk l a l.length
  have h2 : (l.drop a).take (l.length - a) = l.drop a := List.take_of_length_le (by simp)
  rw [h2] at h1
  simp only [Int.toNat_natCast, bstr_size]
  exact congrArg (fun x => Result.ok (Value.string x) w) h1
theorem nat_beq {b : UInt8} {n : Nat} (c : UInt8) (h : c.toNat = n) : ((b.toNat : Int) == (n : Int)) = decide (b = c) := by
  subst h
  by_cases e : b = c
  · subst e; simp
  · have : b.toNat ≠ c.toNat := fun h => e (UInt8.toNat_inj.1 h)
    simp [e]
    omega

theorem drop_at {l : List UInt8} {k : Nat} {b : UInt8} (h : l[k]? = some b) : l.drop k = b :: l.drop (k + 1) := by
  have hk : k < l.length := (List.getElem?_eq_some_iff.1 h).1
  rw [List.drop_eq_getElem_cons hk]
  rw [(List.getElem?_eq_some_iff.1 h).2]
theorem no_in {l : List UInt8} {a k : Nat} (h : ∀ j, a ≤ j → j < k → l[j]? ≠ some 47) : ∀ b ∈ (l.drop a).take (k - a), b ≠ 47 := by
  intro b hb e
  subst e
  obtain ⟨i, hi⟩ := List.mem_iff_getElem?.1 hb
  rw [List.getElem?_take] at hi
  split at hi
  · next h1 => rw [List.getElem?_drop] at hi; exact h (a + i) (by omega) (by omega) hi
  · cases hi
theorem cut_drop {l : List UInt8} {a k : Nat} (ha : a ≤ k) (hk : l[k]? = some 47) (h : ∀ j, a ≤ j → j < k → l[j]? ≠ some 47) : cut (l.drop a) = (l.drop a).take (k - a) :: cut (l.drop (k + 1)) := by
  have e : l.drop a = (l.drop a).take (k - a) ++ 47 :: l.drop (k + 1) := by
    conv => lhs; rw [← List.take_append_drop (k - a) (l.drop a)]
    rw [List.drop_drop, show a + (k - a) = k from by omega, drop_at hk]
  conv => lhs; rw [e]
  exact cut_at (no_in h) _
theorem cut_last {l : List UInt8} {a : Nat} (h : ∀ j, a ≤ j → j < l.length → l[j]? ≠ some 47) : cut (l.drop a) = [l.drop a] := by
  have := no_in h
  rw [List.take_of_length_le (by simp)] at this
  exact cut_plain this

end Go.Proofs.Ytncpoljjfhmkeaa

namespace Go.Proofs.Ytncpoljjfhmkeaa
open Go.RowKit

/-- a text's bytes as numbers -/
def byt (l : List UInt8) (k : Nat) : Int := ((l.getD k 0).toNat : Int)
def reads (l : List UInt8) : Prop := 2 ≤ l.length ∧ l.length ≤ 12 ∧ ∃ P, runP l.length (byt l) l.length = some (P, [])
def readP (l : List UInt8) : List Int := match runP l.length (byt l) l.length with
  | some (P, _) => P
  | none => []

theorem byt_at {l : List UInt8} {k : Nat} {b : UInt8} (h : l[k]? = some b) : byt l k = (b.toNat : Int) := by unfold byt; rw [List.getD, h]; rfl
theorem run_none {n : Nat} {s : Nat → Int} {k : Nat} (h : runP n s k = none) : ∀ d, runP n s (k + d) = none := by
  intro d
  induction d with
  | zero => exact h
  | succ d ih => rw [← Nat.add_assoc, runP, ih]; rfl
theorem run_len {n : Nat} {s : Nat → Int} : ∀ k P S, runP n s k = some (P, S) → P.length = n ∧ S.length ≤ k := by
  intro k
  induction k with
  | zero =>
    intro P S h
    simp only [runP, Option.some.injEq, Prod.mk.injEq] at h
    obtain ⟨rfl, rfl⟩ := h
    simp
  | succ k ih =>
    intro P S h
    rw [runP, Option.bind_eq_some_iff] at h
    obtain ⟨⟨P0, S0⟩, h0, h1⟩ := h
    have h2 := ih P0 S0 h0
    unfold stepP at h1
    split at h1
    · simp only [Option.some.injEq, Prod.mk.injEq] at h1
      obtain ⟨rfl, rfl⟩ := h1
      simp; omega
    · split at h1
      · split at h1
        · simp at h1
        · simp only [Option.some.injEq, Prod.mk.injEq] at h1
          obtain ⟨rfl, rfl⟩ := h1
          simp; omega
      · simp at h1
theorem not_reads {l : List UInt8} {k : Nat} (hk : k ≤ l.length) (h : runP l.length (byt l) k = none) : ¬ reads l := by
  rintro ⟨_, _, P, hP⟩
  have := run_none h (l.length - k)
  rw [show k + (l.length - k) = l.length from by omega, hP] at this
  cases this
theorem run_open {n : Nat} {s : Nat → Int} {k : Nat} {P S : List Int} (h : runP n s k = some (P, S)) (hs : s k = 40) : runP n s (k + 1) = some (P, S ++ [(k : Int)]) := by
  rw [runP, h]; simp [stepP, hs]
theorem run_shut {n : Nat} {s : Nat → Int} {k : Nat} {P A : List Int} {f : Int} (h : runP n s k = some (P, A ++ [f])) (hs : s k = 41) : runP n s (k + 1) = some ((P.set k f).set f.toNat k, A) := by
  rw [runP, h]; simp [stepP, hs]
theorem run_shut_none {n : Nat} {s : Nat → Int} {k : Nat} {P : List Int} (h : runP n s k = some (P, [])) (hs : s k = 41) : runP n s (k + 1) = none := by
  rw [runP, h]; simp [stepP, hs]
theorem run_other {n : Nat} {s : Nat → Int} {k : Nat} {P S : List Int} (h : runP n s k = some (P, S)) (h1 : s k ≠ 40) (h2 : s k ≠ 41) : runP n s (k + 1) = none := by
  rw [runP, h]; simp [stepP, h1, h2]
theorem readP_of {l : List UInt8} {P : List Int} (h : runP l.length (byt l) l.length = some (P, [])) : readP l = P := by unfold readP; rw [h]
theorem run_mem {n : Nat} {s : Nat → Int} {k : Nat} {P A : List Int} {f : Int} (hk : k ≤ n) (h : runP n s k = some (P, A ++ [f])) : ∃ g : Nat, f = g ∧ g < k := by
  have := (PInv.run k P _ hk h).mem f (by simp)
  exact ⟨f.toNat, by omega, by omega⟩
theorem OwnI.pop {w : World} {B q cap : Nat} {A : List Int} {f : Int} (h : OwnI w B (.slice (some ⟨q, 0, none⟩) (A.length + 1) cap) (A ++ [f])) : OwnI w B (.slice (some ⟨q, 0, none⟩) A.length cap) A := by
  unfold OwnI at h ⊢
  rw [List.length_append, List.map_append] at h
  exact ownsRow_pop (last := [Value.int .i64 f]) (by simp) h

end Go.Proofs.Ytncpoljjfhmkeaa

namespace Go.Proofs.Ytncpoljjfhmkeaa
open Go.RowKit

set_option maxRecDepth 100000 in
set_option maxHeartbeats 3200000 in
theorem implParsePattern_any (l : List UInt8) (w : World) (hl : l.length ≤ 1048576) :
    Calls Try.prog 94 #[.string (bstr l)] w fun e w' => LRes (reads l) (readP l) w' w.heap.size e ∧ Below w.heap.size w w' := by
  obtain ⟨i0, hi, hz0, hz1, hz2⟩ := info_parts Try.info_int
  have hsz := bstr_size l
  by_cases h212 : 2 ≤ l.length ∧ l.length ≤ 12
  · obtain ⟨h2, h12⟩ := h212
    have hq2 : decide ((l.length : Int) < 2) = false := by simp; omega
    go_enter Try.func94, Try.ntmps94
    go_wp2_with (at_make; refine wpList_make_full _ rfl _ _ 22 rfl w.heap.size 3 i0 (.int .i64 0) 1 Try.underlying22 hi hz0 hz1 _ _ _ _ l.length rfl rfl rfl rfl ?c1 ?c2 ?c3 ?_)
    case c1 => rw [hz2]; omega
    case c2 => unfold maxLen; omega
    case c3 => simp
    intro w1 hown hg
    have hb1 : Below w.heap.size w w1 := (Below.refl _ _).grown hg (Nat.le_refl _) (fun _ h => by cases h)
    have hown1 := OwnI.made hown
    have hlt1 : w.heap.size + 1 ≤ w1.heap.size := (hown1.lt w.heap.size rfl).2
    have Hown1 := Lib.hid hown1
    have Hb1 := Lib.hid hb1
    clear hown hg hown1 hb1
    go_wp2
    go_loopw [5, 21] (fun op i wr => ∃ (k : Nat) (P S : List Int), k ≤ l.length ∧ i = .int .i64 k ∧ runP l.length (byt l) k = some (P, S) ∧ OwnI wr w.heap.size (.slice (some ⟨w.heap.size, 0, none⟩) l.length l.length) P ∧
      OwnI wr (w.heap.size + 1) op S ∧ w.heap.size + 1 ≤ wr.heap.size ∧ Below w.heap.size w wr) (fun _ i _ => l.length - (intOf i).toNat)
    case atStart => exact ⟨0, _, [], Nat.zero_le _, rfl, rfl, Hown1.out, OwnI.nil _ _, hlt1, Hb1.out⟩
    case round =>
      obtain ⟨k, P, S, hk, rfl, hrun, hP, hS, hsz1, hbr⟩ := hrel
      have Hrun := Lib.hid hrun
      have HP := Lib.hid hP
      have Hbr := Lib.hid hbr
      have hPl := hP.len
      obtain ⟨oa, oc, rfl, hoc1, hoc2, _⟩ := hS.read
      have HS := Lib.hid hS
      have hSl := (run_len k P S hrun).2
      clear hrun hP hS hbr Hown1 Hb1 hlt1
      by_cases hlt : k < l.length
      · obtain ⟨b, hb⟩ : ∃ b, l[k]? = some b := ⟨_, List.getElem?_eq_getElem hlt⟩
        have hix := str_at hb
        have hbt := byt_at hb
        obtain ⟨x, hx⟩ : ∃ x : Int, x = (b.toNat : Int) := ⟨_, rfl⟩
        simp only [← hx] at hix
        rw [← hx] at hbt
        have hx0 : 0 ≤ x ∧ x ≤ 255 := by have := b.toNat_lt; omega
        have Hbt := Lib.hid hbt
        clear hb hx hbt
        by_cases h40 : x = 40
        · subst h40
          have H40 := Lib.hid (run_open Hrun.out Hbt.out)
          go_wp2_with (at_builtin; refine wpList_append_own _ rfl _ _ 22 rfl (w.heap.size + 1) 3 i0 (.int .i64 0) 1 8 Try.underlying22 hi hz0 hz1 hz2 rfl (by decide) _ _ _ rfl (World.ownsRow.alloc HS.out _) ⟨wr.heap.size, 0, none⟩ 1 1 [.int .i64 (k : Int)] rfl rfl ?c1 ?c2 ?c3 ?c4 ?c5 ?_)
          case c1 => exact cell_one_new _ _ _
          case c2 => intro u hu; simp at hu; subst hu; rfl
          case c3 => unfold maxLen; omega
          case c4 => omega
          case c5 => simp; omega
          intro v' w2 hown' hgrow _
          have hne : (Value.slice (some ⟨w.heap.size, 0, none⟩) l.length l.length).ownBlock ≠ (Value.slice oa S.length oc).ownBlock := by
            intro h
            have := (HS.out.lt w.heap.size h.symm).1
            omega
          obtain ⟨hS2, hb2⟩ := HS.out.snoc (by omega) hown' hgrow
          have hP2 : OwnI w2 w.heap.size (.slice (some ⟨w.heap.size, 0, none⟩) l.length l.length) P := World.ownsRow.kept (World.ownsRow.alloc HP.out _) hgrow (.inr hne)
          have HS2 := Lib.hid hS2
          have HP2 := Lib.hid hP2
          have Hb2 := Lib.hid (Hbr.out.trans (hb2.mono (Nat.le_succ _)))
          have hsz2 : w.heap.size + 1 ≤ w2.heap.size := by have := hb2.size; omega
          clear hown' hgrow hne hS2 hP2 hb2
          go_wp2
          go_roundw
          case rel => exact ⟨k + 1, _, _, by omega, by go_num, H40.out, HP2.out, HS2.out, hsz2, Hb2.out⟩
          case measure => simp [intOf]; omega
        · have hb40 : (x == 40) = false := by simp [h40]
          by_cases h41 : x = 41
          · subst h41
            by_cases hS0 : S = []
            · subst hS0
              have H41 := Lib.hid (run_shut_none Hrun.out Hbt.out)
              go_wp2
              go_ret2
              exact ⟨LRes.no (not_reads (by omega) H41.out), Hbr.out⟩
            · obtain ⟨A, f, rfl⟩ : ∃ A f, S = A ++ [f] := ⟨S.dropLast, S.getLast hS0, (List.dropLast_concat_getLast hS0).symm⟩
              obtain ⟨g, rfl, hgk⟩ := run_mem hk Hrun.out
              have H41 := Lib.hid (run_shut Hrun.out Hbt.out)
              have hAl : (A ++ [(g : Int)]).length = A.length + 1 := by simp
              have hS1 := HS.out
              rw [hAl] at hS1 hoc1 ⊢
              obtain ⟨q, rfl, hq1, _⟩ := hS1.isAt (by omega)
              have hcq := hS1.cellAt A.length (by omega)
              have hgi : gi (A ++ [(g : Int)]) A.length = (g : Int) := by rw [gi_lt (by simp)]; simp
              rw [hgi] at hcq
              have hd1 := HP.out.cellAt k hlt
              have hf1 := HP.out.frozenAt k
              have hP1 := HP.out.store k (g : Int)
              have hd2 := hP1.cellAt g (by omega)
              have hf2 := hP1.frozenAt g
              have hP2 := hP1.store g (k : Int)
              have hne : ∀ j : Nat, (Value.slice (some ⟨q, 0, none⟩) A.length oc).ownBlock ≠ some (⟨w.heap.size, j, none⟩ : Addr).block := by
                intro j h
                simp [Value.ownBlock] at h
                omega
              have hS2 := ((hS1.pop).setOther (hne k) (.int .i64 (g : Int))).setOther (hne g) (.int .i64 (k : Int))
              have HS2 := Lib.hid hS2
              have HP2 := Lib.hid hP2
              have Hb2 := Lib.hid ((Hbr.out.setCell (p := ⟨w.heap.size, k, none⟩) (Nat.le_refl _) (.int .i64 (g : Int))).setCell (p := ⟨w.heap.size, g, none⟩) (Nat.le_refl _) (.int .i64 (k : Int)))
              rw [Int.toNat_natCast] at H41
              have hAl2 : A.length ≤ 12 := by omega
              clear hS1 hgi hP1 hP2 hne hS2 hAl hS0 HS HP Hrun
              go_wp2
              go_roundw
              case rel => exact ⟨k + 1, _, _, by omega, by go_num, H41.out, HP2.out, HS2.out, by simpa using hsz1, Hb2.out⟩
              case measure => simp [intOf]; omega
          · have hb41 : (x == 41) = false := by simp [h41]
            have H41 := Lib.hid (run_other Hrun.out (by rw [Hbt.out]; exact h40) (by rw [Hbt.out]; exact h41))
            go_wp2
            go_ret2
            exact ⟨LRes.no (not_reads (by omega) H41.out), Hbr.out⟩
      · obtain rfl : k = l.length := by omega
        by_cases hS0 : S = []
        · subst hS0
          have Hy := Lib.hid (show reads l from ⟨h2, h12, _, Hrun.out⟩)
          go_wp2
          go_ret2
          exact ⟨LRes.yes (v := .slice (some ⟨w.heap.size, 0, none⟩) l.length l.length) Hy.out (by rw [readP_of Hrun.out]; exact HP.out), Hbr.out⟩
        · have hpos : 0 < S.length := List.length_pos_iff.2 hS0
          go_wp2
          go_ret2
          refine ⟨LRes.no ?_, Hbr.out⟩
          rintro ⟨_, _, P', hP'⟩
          rw [Hrun.out] at hP'
          simp only [Option.some.injEq, Prod.mk.injEq] at hP'
          exact hS0 hP'.2
  · by_cases h2 : 2 ≤ l.length
    · have hq2 : decide ((l.length : Int) < 2) = false := by simp; omega
      have hq12 : decide (12 < (l.length : Int)) = true := by simp; omega
      have H := Lib.hid h212
      clear h212
      go_enter Try.func94, Try.ntmps94
      go_wp2
      go_ret2
      exact ⟨LRes.no fun h => H.out ⟨h.1, h.2.1⟩, Below.refl _ _⟩
    · have hq2 : decide ((l.length : Int) < 2) = true := by simp; omega
      have H := Lib.hid h212
      clear h212
      go_enter Try.func94, Try.ntmps94
      go_wp2
      go_ret2
      exact ⟨LRes.no fun h => H.out ⟨h.1, h.2.1⟩, Below.refl _ _⟩

theorem readP_few {l : List UInt8} (h : reads l) : (readP l).length ≤ 1048576 := by
  obtain ⟨_, h12, P, hP⟩ := h
  rw [readP_of hP, (run_len _ _ _ hP).1]
  omega

/-- bytes that a call owns from block B on -/
def OwnU (w : World) (B : Nat) (v : Value) (l : List UInt8) : Prop := w.ownsRow B 5 1 v l.length (l.map fun b => Value.int .u8 (b.toNat : Int))

theorem Try.info_uint8 : (Try.prog.info? 5).map (fun i => (i.zero, i.size, i.bytes)) = some (some (.int .u8 0), 1, 1) := by kernel_rfl

theorem OwnU.made {w : World} {B g n : Nat} (h : w.ownsRow B 5 1 (.slice (some ⟨g, 0, none⟩) n n) n (madeCells #[Value.int .u8 0] n).toList) : OwnU w B (.slice (some ⟨g, 0, none⟩) n n) (List.replicate n 0) := by
  unfold OwnU
  rw [List.length_replicate, List.map_replicate, show (((0 : UInt8).toNat : Nat) : Int) = 0 from rfl, ← toList_madeCells_one]
  exact h
theorem OwnU.len {w : World} {B n c : Nat} {ao : Option Addr} {l : List UInt8} (h : OwnU w B (.slice ao n c) l) : l.length = n := by
  rcases h.2 with ⟨h0, h1⟩ | ⟨g, cap, cur, hv, _⟩
  · simp only [Value.slice.injEq] at h0; omega
  · simp only [Value.slice.injEq] at hv; omega
theorem OwnU.store {w : World} {B g n c : Nat} {l : List UInt8} (h : OwnU w B (.slice (some ⟨g, 0, none⟩) n c) l) (i : Nat) (x : UInt8) :
    OwnU (w.setCell ⟨g, i, none⟩ (.int .u8 (x.toNat : Int))) B (.slice (some ⟨g, 0, none⟩) n c) (l.set i x) := by
  have hl := h.len
  subst hl
  have := (World.ownsRow.stored h i (.int .u8 (x.toNat : Int))).1
  unfold OwnU
  rw [List.length_set, List.map_set]
  exact this
theorem OwnU.cellAt {w : World} {B g n c : Nat} {l : List UInt8} (h : OwnU w B (.slice (some ⟨g, 0, none⟩) n c) l) (i : Nat) (hi : i < n) : w.cell? ⟨g, i, none⟩ = some (.int .u8 ((l.getD i 0).toNat : Int)) := by
  have hl := h.len
  subst hl
  rw [World.ownsRow.cellAt h i (by omega)]
  simp [List.getD, hi]
theorem OwnU.frozenAt {w : World} {B g n c : Nat} {l : List UInt8} (h : OwnU w B (.slice (some ⟨g, 0, none⟩) n c) l) (i : Nat) : w.frozen? ⟨g, i, none⟩ = false := by
  have hl := h.len
  subst hl
  exact World.ownsRow.frozenAt h i

/-- the bracket of an end as a byte -/
def bk (p : List Int) (e : Nat) : UInt8 := if gi p e > e then 40 else 41
theorem brkB_at (p : List Int) : ∀ k j, j < k → (brkB p k).getD j 0 = bk p j := by
  intro k
  induction k with
  | zero => intro j h; omega
  | succ k ih =>
    intro j h
    have hl := brkB_len p k
    by_cases e : j < k
    · have := ih j e
      simp only [brkB, List.getD, List.getElem?_append_left (show j < (brkB p k).length by omega)] at this ⊢
      exact this
    · obtain rfl : j = k := by omega
      simp [brkB, List.getD, List.getElem?_append_right (show (brkB p j).length ≤ j by omega), hl, bk]
theorem bytes_ext {l l' : List UInt8} (h : l.length = l'.length) (e : ∀ i, i < l.length → l.getD i 0 = l'.getD i 0) : l = l' := by
  apply List.ext_getElem h
  intro i h1 h2
  have := e i h1
  simpa [List.getD, h1, h2] using this
theorem getD_set {l : List UInt8} {i j : Nat} {x : UInt8} (h : i < l.length) : (l.set i x).getD j 0 = if j = i then x else l.getD j 0 := by
  by_cases e : j = i
  · subst e; simp [List.getD, h]
  · rw [if_neg e]; simp [List.getD, List.getElem?_set, Ne.symm e]

set_option maxRecDepth 100000 in
set_option maxHeartbeats 1600000 in
theorem brackets_any (ao : Option Addr) (c : Nat) (p : List Int) (w : World) (hn : p.length ≤ 1048576) (hx : IntsAt w ao p) :
    Calls Try.prog 95 #[.slice ao p.length c] w fun e w' => e = .returned (.string (bstr (brkB p p.length))) ∧ Below w.heap.size w w' := by
  obtain ⟨i0, hi, hz0, hz1, hz2⟩ := info_parts Try.info_uint8
  have hmx : p.length ≤ 9223372036854775807 := by omega
  have Hx := Lib.hid hx
  clear hx
  go_enter Try.func95, Try.ntmps95
  go_wp2_with (at_make; refine wpList_make_full _ rfl _ _ 97 rfl w.heap.size 5 i0 (.int .u8 0) 1 Try.underlying97 hi hz0 hz1 _ _ _ _ p.length rfl rfl rfl rfl ?c1 ?c2 ?c3 ?_)
  case c1 => rw [hz2]; omega
  case c2 => unfold maxLen; omega
  case c3 => simp
  intro w1 hown hg
  have hb1 : Below w.heap.size w w1 := (Below.refl _ _).grown hg (Nat.le_refl _) (fun _ h => by cases h)
  have Hown1 := Lib.hid (OwnU.made hown)
  have Hb1 := Lib.hid hb1
  clear hown hg hb1
  go_wp2
  go_loopw [11] (fun i wr => ∃ (k : Nat) (bs : List UInt8), k ≤ p.length ∧ i = .int .i64 k ∧ OwnU wr w.heap.size (.slice (some ⟨w.heap.size, 0, none⟩) p.length p.length) bs ∧ (∀ j, j < k → bs.getD j 0 = bk p j) ∧ Below w.heap.size w wr) (fun i _ => p.length - (intOf i).toNat)
  case atStart => exact ⟨0, _, Nat.zero_le _, rfl, Hown1.out, fun j hj => absurd hj (by omega), Hb1.out⟩
  case round =>
    obtain ⟨k, bs, hk, rfl, hown, heq, hbr⟩ := hrel
    have Heq := Lib.hid heq
    clear heq Hown1 Hb1
    by_cases hlt : k < p.length
    · obtain ⟨b1, o1, rfl, hc1⟩ := Hx.out.below hbr k hlt
      have hc1' : (wr.setCell ⟨w.heap.size, k, none⟩ (.int .u8 41)).cell? ⟨b1, o1 + k, none⟩ = some (.int .i64 (gi p k)) := by
        obtain ⟨b2, o2, e2, hc2⟩ := Hx.out k hlt
        cases e2
        exact cell_below hc2 (hbr.setCell (p := ⟨w.heap.size, k, none⟩) (Nat.le_refl _) _)
      have hl := hown.len
      have hd1 := hown.cellAt k hlt
      have hf1 := hown.frozenAt k
      have h41 := hown.store k 41
      rw [show (((41 : UInt8).toNat : Nat) : Int) = 41 from rfl] at h41
      have hd2 := h41.cellAt k hlt
      have hf2 := h41.frozenAt k
      have h40 := h41.store k 40
      rw [show (((40 : UInt8).toNat : Nat) : Int) = 40 from rfl] at h40
      have hb41 := hbr.setCell (p := ⟨w.heap.size, k, none⟩) (Nat.le_refl _) (.int .u8 41)
      have H41 := Lib.hid h41
      have H40 := Lib.hid h40
      have HB41 := Lib.hid hb41
      have HB40 := Lib.hid (hb41.setCell (p := ⟨w.heap.size, k, none⟩) (Nat.le_refl _) (.int .u8 40))
      have Hl := Lib.hid hl
      have Hbk := Lib.hid (show bk p k = if gi p k > k then 40 else 41 from rfl)
      obtain ⟨x, hxe⟩ : ∃ x, x = gi p k := ⟨_, rfl⟩
      rw [← hxe] at hc1 hc1' Hbk
      clear hown hbr h41 h40 hb41 hl hxe
      by_cases hgt : x > (k : Int)
      · rw [if_pos hgt] at Hbk
        go_wp2
        go_roundw
        case rel =>
          refine ⟨k + 1, _, by omega, by go_num, H40.out, fun j hj => ?_, HB40.out⟩
          rw [getD_set (by rw [List.length_set, Hl.out]; exact hlt), getD_set (by rw [Hl.out]; exact hlt)]
          by_cases e : j = k
          · subst e; rw [if_pos rfl, Hbk.out]
          · rw [if_neg e, if_neg e]; exact Heq.out j (by omega)
        case measure => simp [intOf]; omega
      · rw [if_neg hgt] at Hbk
        go_wp2
        go_roundw
        case rel =>
          refine ⟨k + 1, _, by omega, by go_num, H41.out, fun j hj => ?_, HB41.out⟩
          rw [getD_set (by rw [Hl.out]; exact hlt)]
          by_cases e : j = k
          · subst e; rw [if_pos rfl, Hbk.out]
          · rw [if_neg e]; exact Heq.out j (by omega)
        case measure => simp [intOf]; omega
    · obtain rfl : k = p.length := by omega
      have hl := hown.len
      have he : bs = brkB p p.length := bytes_ext (by rw [hl, brkB_len]) fun i hi => by rw [hl] at hi; rw [Heq.out i hi, brkB_at p _ i hi]
      have hcv := run_convert_bytes_back (P := Try.prog) wr 97 9 5 ⟨w.heap.size, 0, none⟩ p.length bs Try.underlying97 Try.underlying5 Try.underlying9 (fun j hj => by
        have := hown.cellAt j (by rw [hl] at hj; exact hj)
        simp only [List.getD, List.getElem?_eq_getElem hj, Option.getD_some] at this
        rw [Addr.add_lit, Nat.zero_add]
        exact this)
      rw [hl] at hcv
      have He := Lib.hid he
      have Hbr := Lib.hid hbr
      clear hown hbr he hl
      go_wp2
      go_ret
      exact ⟨by rw [← He.out]; rfl, Hbr.out⟩

set_option maxRecDepth 100000 in
set_option maxHeartbeats 800000 in
theorem sEqualInts_any (a1 a2 : Option Addr) (c1 c2 : Nat) (xs ys : List Int) (w : World) (hn : xs.length ≤ 1048576) (hn2 : ys.length ≤ 1048576) (h1 : IntsAt w a1 xs) (h2 : IntsAt w a2 ys) :
    Calls Try.prog 89 #[.slice a1 xs.length c1, .slice a2 ys.length c2] w fun e w' => e = .returned (.bool (xs == ys)) ∧ Q w w' := by
  have hm1 : xs.length ≤ 9223372036854775807 := by omega
  have hm2 : ys.length ≤ 9223372036854775807 := by omega
  have H1 := Lib.hid h1
  have H2 := Lib.hid h2
  clear h1 h2
  by_cases hl : ys.length = xs.length
  · have Hl := Lib.hid hl
    have hb : ((xs.length : Int) != (ys.length : Int)) = false := by simp; omega
    go_enter Try.func89, Try.ntmps89
    go_wp2
    go_loopw [13] (fun i wr => ∃ k : Nat, k ≤ xs.length ∧ i = .int .i64 k ∧ (∀ j, j < k → gi xs j = gi ys j) ∧ Q w wr) (fun i _ => xs.length - (intOf i).toNat)
    case atStart => exact ⟨0, Nat.zero_le _, rfl, fun j hj => absurd hj (by omega), Q.refl _⟩
    case round =>
      obtain ⟨k, hk, rfl, hr, hbr⟩ := hrel
      by_cases hlt : k < xs.length
      · obtain ⟨b1, o1, rfl, hc1⟩ := H1.out.below (hbr.below _) k hlt
        obtain ⟨b2, o2, rfl, hc2⟩ := H2.out.below (hbr.below _) k (by omega)
        have Hr := Lib.hid hr
        have Hbr := Lib.hid hbr
        by_cases e : gi xs k = gi ys k
        · have He := Lib.hid e
          rw [← e] at hc2
          obtain ⟨x, hx⟩ : ∃ x, x = gi xs k := ⟨_, rfl⟩
          rw [← hx] at hc1 hc2
          clear hx e hr hbr
          go_wp2
          go_quiet (fail)
          go_wp2
          go_roundw
          case rel => exact ⟨k + 1, by omega, by go_num, fun j hj => by
            by_cases ej : j = k
            · subst ej; exact He.out
            · exact Hr.out j (by omega), Hbr.out.drewN _⟩
          case measure => simp [intOf]; omega
        · have Hs := Lib.hid (show (xs == ys) = false by
            rw [beq_eq_false_iff_ne]
            intro h
            exact e (by rw [h]))
          have hne : (gi xs k != gi ys k) = true := by simpa using e
          obtain ⟨x, hx⟩ : ∃ x, x = gi xs k := ⟨_, rfl⟩
          obtain ⟨y, hy⟩ : ∃ y, y = gi ys k := ⟨_, rfl⟩
          rw [← hx] at hc1 hne
          rw [← hy] at hc2 hne
          clear hx hy e hr hbr
          go_wp2
          go_quiet (fail)
          go_wp2
          go_ret
          exact ⟨by rw [Hs.out]; rfl, Hbr.out.drewN _⟩
      · obtain rfl : k = xs.length := by omega
        have Hs := Lib.hid (show (xs == ys) = true by
          rw [beq_iff_eq]
          exact ext_gi Hl.out.symm hr)
        have Hbr := Lib.hid hbr
        clear hr hbr
        go_wp2
        go_ret
        exact ⟨by rw [Hs.out]; rfl, Hbr.out⟩
  · have Hs := Lib.hid (show (xs == ys) = false by
      rw [beq_eq_false_iff_ne]
      intro h
      exact hl (by rw [h]))
    have hb : ((xs.length : Int) != (ys.length : Int)) = true := by simp; omega
    go_enter Try.func89, Try.ntmps89
    go_wp2
    go_ret
    exact ⟨by rw [Hs.out]; rfl, Q.refl _⟩

set_option maxRecDepth 100000 in
set_option maxHeartbeats 800000 in
theorem implIsPattern_any (ao : Option Addr) (c : Nat) (p : List Int) (w : World) (hn : p.length ≤ 1048576) (hwf : WfI p) (hx : IntsAt w ao p) :
    Calls Try.prog 63 #[.slice ao p.length c] w fun e w' => Ans (isPat p) e ∧ Below w.heap.size w w' := by
  have Hx := Lib.hid hx
  clear hx hwf
  go_enter Try.func63, Try.ntmps63
  go_wp2_with fail
  refine (brackets_any ao c p w hn Hx.out).mono ?_
  rintro e w1 ⟨rfl, hb1⟩
  have Hb1 := Lib.hid hb1
  have Hz1 := Lib.hid hb1.size
  clear hb1
  go_wp2_with fail
  refine (implParsePattern_any (brkB p p.length) w1 (by rw [brkB_len]; exact hn)).mono ?_
  rintro e w2 ⟨⟨v, b, r, rfl, hv, hr⟩, hb2⟩
  have Hb2 := Lib.hid (Hb1.out.trans (hb2.mono Hz1.out))
  obtain ⟨va, vc, rfl, _, _, hm⟩ := hv.read
  have Hm := Lib.hid hm
  clear hv hb2 hm
  have hbyt : ∀ e, e < p.length → byt (brkB p p.length) e = brk p e := by
    intro e he
    unfold byt
    rw [brkB_at p _ e he]
    unfold bk brk
    split <;> rfl
  have Hbyt := Lib.hid hbyt
  clear hbyt
  cases b
  · have Hno := Lib.hid (show ¬ isPat p by
      intro hp
      rcases hr with ⟨_, h, _⟩ | ⟨h, _, _⟩
      · cases h
      · refine h ⟨by rw [brkB_len]; exact hp.lo, by rw [brkB_len]; exact hp.hi, p, ?_⟩
        rw [brkB_len, runP_congr p.length Hbyt.out]
        exact pat_read hp)
    clear hr
    go_wp2
    go_ret
    exact ⟨Ans.no Hno.out, Hb2.out⟩
  · have hr2 : reads (brkB p p.length) ∧ r = readP (brkB p p.length) := by
      rcases hr with ⟨h, _, h3⟩ | ⟨_, h, _⟩
      · exact ⟨h, h3⟩
      · cases h
    obtain ⟨⟨h2, h12, P, hP⟩, hrP⟩ := hr2
    rw [readP_of hP] at hrP
    subst hrP
    rw [brkB_len] at h2 h12 hP
    obtain ⟨hp, hPl, hbr⟩ := run_pat h2 h12 hP
    have hiff : (r == p) = true ↔ isPat p := by
      constructor
      · intro h
        rw [beq_iff_eq] at h
        rw [← h]
        exact hp
      · intro h
        have h3 := pat_read h
        rw [← runP_congr p.length Hbyt.out, hP] at h3
        simp only [Option.some.injEq, Prod.mk.injEq] at h3
        rw [beq_iff_eq]
        exact h3.1
    have Hiff := Lib.hid hiff
    have hrl : r.length ≤ 1048576 := by omega
    clear hr hP hp hbr hiff hPl
    go_wp2_with fail
    refine (sEqualInts_any va ao vc c r p w2 hrl hn Hm.out (Hx.out.below Hb2.out)).mono ?_
    rintro e w3 ⟨rfl, hq⟩
    have Hq := Lib.hid (Hb2.out.trans (hq.below _))
    clear hq
    obtain ⟨b, hb⟩ : ∃ b, b = (r == p) := ⟨_, rfl⟩
    rw [← hb] at Hiff ⊢
    clear hb
    cases b
    · go_wp2
      go_ret
      exact ⟨⟨false, rfl, by simpa using Hiff.out⟩, Hq.out⟩
    · go_wp2
      go_ret
      exact ⟨⟨true, rfl, by simpa using Hiff.out⟩, Hq.out⟩

end Go.Proofs.Ytncpoljjfhmkeaa

