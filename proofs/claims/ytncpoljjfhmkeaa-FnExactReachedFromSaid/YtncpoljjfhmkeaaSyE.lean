/- All patterns are reached by joining: by a list that grows, and by marks that are set. No conditions. -/
import Derived.Test.YtncpoljjfhmkeaaSyM
namespace Go.Proofs.Ytncpoljjfhmkeaa

/-- the list that grows -/
def stepR (l : List (List Int)) (k i : Nat) : List (List Int) := if joinL (gr l k) i ∈ l then l else l ++ [joinL (gr l k) i]
def rowR (l : List (List Int)) (k : Nat) : Nat → List (List Int)
  | 0 => l
  | i + 1 => stepR (rowR l k i) k i
def outR (p : List Int) (m : Nat) : Nat → List (List Int)
  | 0 => [p]
  | k + 1 => rowR (outR p m k) k m
theorem stepR_len (l : List (List Int)) (k i : Nat) : l.length ≤ (stepR l k i).length := by
  unfold stepR
  split
  · exact Nat.le_refl _
  · rw [List.length_append]; omega
theorem rowR_mono (l : List (List Int)) (k : Nat) : ∀ i j, i ≤ j → (rowR l k i).length ≤ (rowR l k j).length
  | i, 0, h => by obtain rfl : i = 0 := by omega
                  exact Nat.le_refl _
  | i, j + 1, h => by
    by_cases e : i = j + 1
    · rw [e]; exact Nat.le_refl _
    · exact Nat.le_trans (rowR_mono l k i j (by omega)) (stepR_len _ _ _)
theorem rowR_len (l : List (List Int)) (k i : Nat) : l.length ≤ (rowR l k i).length := rowR_mono l k 0 i (by omega)
theorem outR_mono (p : List Int) (m : Nat) : ∀ i j, i ≤ j → (outR p m i).length ≤ (outR p m j).length
  | i, 0, h => by obtain rfl : i = 0 := by omega
                  exact Nat.le_refl _
  | i, j + 1, h => by
    by_cases e : i = j + 1
    · rw [e]; exact Nat.le_refl _
    · exact Nat.le_trans (outR_mono p m i j (by omega)) (rowR_len _ _ _)
theorem stepR_in {n : Nat} (hn : n < 5) {l : List (List Int)} {k i : Nat} (hl : ∀ x, x ∈ l → x ∈ patP 6 n) (hk : k < l.length) (hi : i < 2 * n) : ∀ x, x ∈ stepR l k i → x ∈ patP 6 n := by
  intro x hx
  unfold stepR at hx
  split at hx
  · exact hl x hx
  · rcases List.mem_append.1 hx with h | h
    · exact hl x h
    · rw [List.mem_singleton.1 h]
      exact join_mem hn (hl _ (gr_mem hk)) hi
theorem rowR_in {n : Nat} (hn : n < 5) {l : List (List Int)} {k : Nat} (hl : ∀ x, x ∈ l → x ∈ patP 6 n) (hk : k < l.length) : ∀ i, i ≤ 2 * n → ∀ x, x ∈ rowR l k i → x ∈ patP 6 n
  | 0, _ => hl
  | i + 1, hi => stepR_in hn (rowR_in hn hl hk i (by omega)) (Nat.lt_of_lt_of_le hk (rowR_len l k i)) (by omega)

/-- .. with the look whether it goes on -/
def outC (p : List Int) (m : Nat) : Nat → List (List Int) × Bool
  | 0 => ([p], true)
  | k + 1 => (rowR (outC p m k).1 k m, (outC p m k).2 && decide (k < (outC p m k).1.length))
theorem outC_fst (p : List Int) (m : Nat) : ∀ k, (outC p m k).1 = outR p m k
  | 0 => rfl
  | k + 1 => by unfold outC outR; rw [outC_fst p m k]
theorem outC_snd (p : List Int) (m : Nat) : ∀ K, (outC p m K).2 = true → ∀ k, k < K → k < (outR p m k).length
  | 0, _, k, hk => absurd hk (by omega)
  | K + 1, h, k, hk => by
    unfold outC at h
    rw [Bool.and_eq_true, decide_eq_true_eq, outC_fst] at h
    by_cases e : k = K
    · rw [e]; exact h.2
    · exact outC_snd p m K h.1 k (by omega)
def nodB : List (List Int) → Bool
  | [] => true
  | x :: r => !r.contains x && nodB r
theorem nodB_is : ∀ l : List (List Int), nodB l = true → l.Nodup
  | [], _ => List.nodup_nil
  | x :: r, h => by
    unfold nodB at h
    rw [Bool.and_eq_true] at h
    rw [List.nodup_cons]
    exact ⟨by simpa using h.1, nodB_is r h.2⟩
set_option maxRecDepth 100000 in
theorem reach_all : ∀ n, n < 5 → n = 0 ∨ ((patP 6 n).all fun p => (outC p (2 * n) (catN n)).2 && (outC p (2 * n) (catN n)).1.isPerm (patP 6 n)) = true := by decide +kernel
theorem patP_nodB : ∀ n, n < 5 → nodB (patP 6 n) = true := by decide +kernel
theorem patP_nodup {n : Nat} (h : n < 5) : (patP 6 n).Nodup := nodB_is _ (patP_nodB n h)
theorem reach_is {n : Nat} (h1 : 1 ≤ n) (h4 : n < 5) {p : List Int} (hp : p ∈ patP 6 n) :
    (∀ k, k < catN n → k < (outR p (2 * n) k).length) ∧ (outR p (2 * n) (catN n)).Perm (patP 6 n) := by
  have h := (reach_all n h4).resolve_left (by omega)
  rw [List.all_eq_true] at h
  have := h p hp
  rw [Bool.and_eq_true, outC_fst] at this
  exact ⟨outC_snd _ _ _ this.1, List.isPerm_iff.1 this.2⟩
theorem outR_in {n : Nat} (h1 : 1 ≤ n) (h4 : n < 5) {p : List Int} (hp : p ∈ patP 6 n) : ∀ k, k ≤ catN n → ∀ x, x ∈ outR p (2 * n) k → x ∈ patP 6 n
  | 0, _ => fun x hx => by rw [List.mem_singleton.1 hx]; exact hp
  | k + 1, hk => rowR_in h4 (outR_in h1 h4 hp k (by omega)) ((reach_is h1 h4 hp).1 k (by omega)) _ (Nat.le_refl _)
theorem outR_end {n : Nat} (h1 : 1 ≤ n) (h4 : n < 5) {p : List Int} (hp : p ∈ patP 6 n) : (outR p (2 * n) (catN n)).length = catN n := (reach_is h1 h4 hp).2.length_eq

/-- the marks -/
def gb (S : List Bool) (i : Nat) : Bool := S.getD i false
def nxR (l : List (List Int)) (k i : Nat) : Nat := rk l (joinL (gr l k) i)
def bSt (l : List (List Int)) (k i : Nat) (s : List Bool × Bool) : List Bool × Bool := if gb s.1 k = true ∧ gb s.1 (nxR l k i) = false then (s.1.set (nxR l k i) true, true) else s
def bRow (l : List (List Int)) (k : Nat) (s : List Bool × Bool) : Nat → List Bool × Bool
  | 0 => s
  | i + 1 => bSt l k i (bRow l k s i)
def bPass (l : List (List Int)) (m : Nat) (s : List Bool × Bool) : Nat → List Bool × Bool
  | 0 => s
  | k + 1 => bRow l k (bPass l m s k) m
def bSeq (l : List (List Int)) (m : Nat) (S : List Bool) : Nat → List Bool × Bool
  | 0 => (S, true)
  | t + 1 => bPass l m ((bSeq l m S t).1, false) l.length
def bFirst (l : List (List Int)) (p : List Int) : List Bool := (List.replicate l.length false).set (rk l p) true
theorem bSt_len (l : List (List Int)) (k i : Nat) (s : List Bool × Bool) : (bSt l k i s).1.length = s.1.length := by unfold bSt; split <;> simp
theorem bRow_len (l : List (List Int)) (k : Nat) (s : List Bool × Bool) : ∀ i, (bRow l k s i).1.length = s.1.length
  | 0 => rfl
  | i + 1 => by unfold bRow; rw [bSt_len, bRow_len l k s i]
theorem bPass_len (l : List (List Int)) (m : Nat) (s : List Bool × Bool) : ∀ k, (bPass l m s k).1.length = s.1.length
  | 0 => rfl
  | k + 1 => by unfold bPass; rw [bRow_len, bPass_len l m s k]
theorem bSeq_len (l : List (List Int)) (m : Nat) (S : List Bool) : ∀ t, (bSeq l m S t).1.length = S.length
  | 0 => rfl
  | t + 1 => by unfold bSeq; rw [bPass_len, bSeq_len l m S t]
def bMs (s : List Bool × Bool) : Nat := 2 * s.1.countP (fun b => !b) + (if s.2 then 1 else 0)
def bOk (l : List (List Int)) (m : Nat) (S : List Bool) (t : Nat) : Bool := if (bSeq l m S t).2 then decide (bMs (bSeq l m S (t + 1)) < bMs (bSeq l m S t)) else (bSeq l m S t).1 == List.replicate l.length true
set_option maxRecDepth 100000 in
theorem marks_all : ∀ n, n < 5 → n = 0 ∨ ((patP 6 n).all fun p => (List.range 5).all (bOk (patP 6 n) (2 * n) (bFirst (patP 6 n) p)) && !(bSeq (patP 6 n) (2 * n) (bFirst (patP 6 n) p) 4).2) = true := by decide +kernel
theorem marks_is {n : Nat} (h1 : 1 ≤ n) (h4 : n < 5) {p : List Int} (hp : p ∈ patP 6 n) :
    (∀ t, t < 5 → bOk (patP 6 n) (2 * n) (bFirst (patP 6 n) p) t = true) ∧ (bSeq (patP 6 n) (2 * n) (bFirst (patP 6 n) p) 4).2 = false := by
  have h := (marks_all n h4).resolve_left (by omega)
  rw [List.all_eq_true] at h
  have := h p hp
  rw [Bool.and_eq_true, List.all_eq_true] at this
  exact ⟨fun t ht => this.1 t (by simpa using ht), by simpa using this.2⟩
end Go.Proofs.Ytncpoljjfhmkeaa
