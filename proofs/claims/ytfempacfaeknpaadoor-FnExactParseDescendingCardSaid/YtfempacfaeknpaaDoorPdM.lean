/- Mathematics: texts of descending plane partitions, read in two ways. No condition. -/
import Derived.Test.YtfempacfaeknpaaDoorParseM
import Derived.Test.YtfempacfaeknpaaDoorDpM
namespace Go.Proofs.YtfempacfaeknpaaDoor
open Go.RowKit

/-- the digit that a byte stands for, or -1 -/
def dg (b : UInt8) : Int := if 48 ≤ b.toNat ∧ b.toNat ≤ 57 then (b.toNat : Int) - 48 else -1
/-- a byte's distance from the digit 0 -/
def de (b : UInt8) : Int := (b.toNat : Int) - 48
def rowD (p : List UInt8) : List Int := p.map dg
def rowE (p : List UInt8) : List Int := p.map de
def md (l : List UInt8) : List (List Int) := (cut l).map rowD
/-- the text is one of a descending plane partition -/
def pdOk (l : List UInt8) : Prop := l = [45] ∨ DpGood (md l) 6
def pdOf (l : List UInt8) : List (List Int) := if l = [45] then [] else md l

theorem gr_map {f : List UInt8 → List Int} {ps : List (List UInt8)} {k : Nat} (h : k < ps.length) : gr (ps.map f) k = f ps[k] := by
  rw [gr_lt (by simpa using h)]
  simp
theorem good_len {rows : List (List Int)} (h : DpGood rows 6) : rows.length ≤ 5 ∧ ∀ k, k < rows.length → (gr rows k).length ≤ 5 := by
  have h1 := rows_fall (n := 6) (k := rows.length) (rows := rows) h.2
  refine ⟨?_, fun k hk => by have := h1 k hk; omega⟩
  by_cases e : rows.length ≤ 5
  · exact e
  · have h2 := h1 5 (by omega)
    have h3 := (h.2 5 (by omega)).1.1
    omega
/-- readings that agree on the digits 1 to 6 agree on what is good -/
theorem good_same {f g : UInt8 → Int} (hfg : ∀ b, 1 ≤ f b → f b ≤ 6 → g b = f b) {ps : List (List UInt8)} (h : DpGood (ps.map fun p => p.map f) 6) : (ps.map fun p => p.map g) = ps.map fun p => p.map f := by
  refine List.map_inj_left.2 fun p hp => List.map_inj_left.2 fun b hb => ?_
  obtain ⟨k, hk, rfl⟩ := List.mem_iff_getElem.1 hp
  obtain ⟨j, hj, rfl⟩ := List.mem_iff_getElem.1 hb
  have h1 := (h.2 k (by simpa using hk)).1.2.2.1
  rw [gr_map (f := fun p => p.map f) hk] at h1
  have h2 := h1 j (by simpa using hj)
  rw [gi_lt (by simpa using hj)] at h2
  simp only [List.getElem_map] at h2
  exact hfg _ h2.1 (by omega)
theorem de_dg (b : UInt8) (h1 : 1 ≤ de b) (h6 : de b ≤ 6) : dg b = de b := by
  unfold de at h1 h6 ⊢
  unfold dg
  rw [if_pos ⟨by omega, by omega⟩]
theorem dg_de (b : UInt8) (h1 : 1 ≤ dg b) (_h6 : dg b ≤ 6) : de b = dg b := by
  unfold dg at h1 ⊢
  unfold de
  split at h1
  · next h => rw [if_pos h]
  · omega
theorem good_de {ps : List (List UInt8)} (h : DpGood (ps.map rowE) 6) : ps.map rowD = ps.map rowE := good_same de_dg h
theorem good_dg {ps : List (List UInt8)} (h : DpGood (ps.map rowD) 6) : ps.map rowE = ps.map rowD := good_same dg_de h
theorem good_iff (ps : List (List UInt8)) : DpGood (ps.map rowE) 6 ↔ DpGood (ps.map rowD) 6 :=
  ⟨fun h => by rw [good_de h]; exact h, fun h => by rw [good_dg h]; exact h⟩
theorem join_le : ∀ (ps : List (List UInt8)), (∀ p ∈ ps, p.length ≤ 5) → (join ps).length ≤ 6 * ps.length
  | [], _ => by simp [join]
  | [p], h => by have := h p (by simp); simp [join]; omega
  | p :: q :: r, h => by
    have h1 := h p (by simp)
    have h2 := join_le (q :: r) fun x hx => h x (List.mem_cons_of_mem _ hx)
    simp only [join, List.length_append, List.length_cons] at h2 ⊢
    omega
theorem md_len (l : List UInt8) : (md l).length = (cut l).length := by simp [md]
theorem good_short {l : List UInt8} (h : DpGood (md l) 6) : l.length ≤ 30 := by
  have hb := good_len h
  rw [md_len] at hb
  have h1 := join_le (cut l) fun p hp => by
    obtain ⟨k, hk, rfl⟩ := List.mem_iff_getElem.1 hp
    have := hb.2 k hk
    rw [md, gr_map hk, rowD, List.length_map] at this
    exact this
  rw [join_cut] at h1
  omega
theorem good_few {l : List UInt8} (h : DpGood (md l) 6) : (cut l).length ≤ 5 := by
  have hb := (good_len h).1
  rw [md_len] at hb
  exact hb
theorem bad_many {rows : List (List Int)} (h : 5 < rows.length) : ¬ DpGood rows 6 := fun hg => by
  have := (good_len hg).1
  omega
theorem pd_dash {l : List UInt8} (h : l = [45]) : pdOk l ∧ pdOf l = [] := ⟨.inl h, if_pos h⟩
theorem pd_yes {l : List UInt8} (h : l ≠ [45]) (hg : DpGood (md l) 6) : pdOk l ∧ pdOf l = md l := ⟨.inr hg, if_neg h⟩
theorem pd_no {l : List UInt8} (h : l ≠ [45]) (hg : ¬ DpGood (md l) 6) : ¬ pdOk l := fun k => k.elim h hg
theorem dg_bd (b : UInt8) : -1 ≤ dg b ∧ dg b ≤ 9 := by unfold dg; split <;> omega
theorem de_bd (b : UInt8) : -48 ≤ de b ∧ de b ≤ 207 := by have := b.toNat_lt; unfold de; omega
theorem rowE_len (p : List UInt8) : (rowE p).length = p.length := by simp [rowE]
theorem rowD_len (p : List UInt8) : (rowD p).length = p.length := by simp [rowD]
theorem map_small {f : List UInt8 → List Int} (hf : ∀ p, (f p).length = p.length) {ps : List (List UInt8)} (h1 : ps.length ≤ 1048576) (h2 : ∀ p ∈ ps, p.length ≤ 1048576) : Small (ps.map f) := by
  refine ⟨by simpa using h1, fun i hi => ?_⟩
  rw [List.length_map] at hi
  rw [gr_map hi, hf]
  exact h2 _ (List.getElem_mem hi)
theorem rowE_wf (ps : List (List UInt8)) : WfM (ps.map rowE) := by
  intro i hi j hj
  rw [List.length_map] at hi
  rw [gr_map hi] at hj ⊢
  rw [gi_lt hj]
  simp only [rowE, List.getElem_map]
  have := de_bd (ps[i][j]'(by simpa [rowE] using hj))
  omega
theorem rowD_snoc {p : List UInt8} {k : Nat} {b : UInt8} (h : p[k]? = some b) : rowD (p.take (k + 1)) = rowD (p.take k) ++ [dg b] := by
  obtain ⟨hk, hb⟩ := List.getElem?_eq_some_iff.1 h
  rw [List.take_succ_eq_append_getElem hk, rowD, List.map_append, hb]
  rfl
theorem map_snoc {f : List UInt8 → List Int} {ps : List (List UInt8)} {k : Nat} (h : k < ps.length) : (ps.take (k + 1)).map f = (ps.take k).map f ++ [f ps[k]] := by
  rw [List.take_succ_eq_append_getElem h, List.map_append]
  rfl
end Go.Proofs.YtfempacfaeknpaaDoor
