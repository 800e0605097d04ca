/- Mathematics: determinants along the first row, as an int computes them. No condition. -/
import Derived.Test.YtfempacfaeknpaaOwnT
namespace Go.Proofs.Ytfempacfaeknpaa

def dropC (j : Nat) (r : List Int) : List Int := r.take j ++ r.drop (j + 1)
def minor (t : List (List Int)) (j : Nat) : List (List Int) := t.tail.map (dropC j)
def sgnD (k : Nat) : Int := if k % 2 = 0 then 1 else -1
/-- the sum over the first k numbers of the first row, det telling the determinants of the smaller tables -/
def dS (det : List (List Int) → Int) (t : List (List Int)) : Nat → Int
  | 0 => 0
  | k + 1 => IntKind.i64.wrap (dS det t k + IntKind.i64.wrap (IntKind.i64.wrap (sgnD k * gi (gr t 0) k) * det (minor t k)))
def detW : Nat → List (List Int) → Int
  | 0, _ => 1
  | f + 1, t => dS (detW f) t (f + 1)
/-- a square table of n rows -/
def Sq (n : Nat) (t : List (List Int)) : Prop := t.length = n ∧ ∀ i, i < n → (gr t i).length = n
theorem dropC_len {j : Nat} {r : List Int} (h : j < r.length) : (dropC j r).length = r.length - 1 := by
  unfold dropC
  rw [List.length_append, List.length_take, List.length_drop]
  omega
theorem gr_tail (t : List (List Int)) (i : Nat) : gr t.tail i = gr t (i + 1) := by
  cases t with
  | nil => simp [gr]
  | cons a t => rw [List.tail_cons, gr_cons_succ]
theorem gr_map {f : List Int → List Int} {t : List (List Int)} {i : Nat} (h : i < t.length) : gr (t.map f) i = f (gr t i) := by
  rw [gr_lt (by simpa using h), gr_lt h, List.getElem_map]
theorem Sq.minor {n : Nat} {t : List (List Int)} (h : Sq (n + 1) t) {j : Nat} (hj : j < n + 1) : Sq n (minor t j) := by
  have hl : t.tail.length = n := by rw [List.length_tail, h.1]; omega
  refine ⟨by unfold Proofs.Ytfempacfaeknpaa.minor; rw [List.length_map, hl], fun i hi => ?_⟩
  unfold Proofs.Ytfempacfaeknpaa.minor
  rw [gr_map (by omega), gr_tail, dropC_len (by rw [h.2 (i + 1) (by omega)]; exact hj), h.2 (i + 1) (by omega)]
  omega
theorem sgnD_succ (k : Nat) : sgnD (k + 1) = - sgnD k := by
  unfold sgnD
  by_cases h : k % 2 = 0
  · rw [if_pos h, if_neg (by omega)]
  · rw [if_neg h, if_pos (by omega)]; rfl
theorem sgnD_is (k : Nat) : sgnD k = 1 ∨ sgnD k = -1 := by
  unfold sgnD
  split <;> simp
end Go.Proofs.Ytfempacfaeknpaa
