/- Parts of proofs: contracts and plain facts. Conditions: as each says. -/
import Derived.Test.YtjkpokpidpampaaDoorK17
namespace Go.Proofs.YtjkpokpidpampaaDoor
open Go.RowKit

/-- the first number that differs is the lesser one -/
def rowLess : List Int → List Int → Bool
  | [], _ => false
  | a :: r, bs => if a = bs.headD 0 then rowLess r bs.tail else decide (a < bs.headD 0)
/-- a row put into its place -/
def putIn (n : Nat) (s : List Int) (L : List (List Int)) (y : List Int) : List (List Int) :=
  let t := stepF n s y
  let p := L.takeWhile fun z => rowLess (stepF n s z) t
  p ++ y :: L.drop p.length
def nextL (n : Nat) (s : List Int) : List (List Int) := (behind n s).foldl (putIn n s) []
/-- the columns that are not in s -/
def compl (n : Nat) (s : List Int) : List Int := (iota n).filter fun x => !s.contains x
def subs : List Int → List (List Int)
  | [] => [[]]
  | a :: r => (subs r).map (a :: ·) ++ subs r
theorem mem_subs {s l : List Int} (h : s.Sublist l) : s ∈ subs l := by
  induction h with
  | slnil => simp [subs]
  | cons a _ ih => simp [subs, ih]
  | cons_cons a _ ih => simp [subs, ih]
def chainC (n : Nat) : Bool := (subs (iota n)).all fun s => decide (n - 1 ≤ s.length) || ((nextL n s).map (compl n) == above (compl n s))
def waysC (n : Nat) : Bool := (subs (iota n)).all fun s => decide (n ≤ s.length) || (potL (iterT (dnCh n) (n - s.length) [((s, 0), 1)]) (fun _ => 1) == potL (iterT (upCh fun _ _ => 0) (n - s.length - 1) [((compl n s, 0), 1)]) (fun _ => 1))
set_option maxRecDepth 1000000 in
theorem chain_ok : chainC 1 = true ∧ chainC 2 = true ∧ chainC 3 = true ∧ chainC 4 = true ∧ chainC 5 = true := by decide +kernel
set_option maxRecDepth 1000000 in
theorem chain_ok6 : chainC 6 = true := by decide +kernel
set_option maxRecDepth 1000000 in
theorem ways_ok : waysC 1 = true ∧ waysC 2 = true ∧ waysC 3 = true ∧ waysC 4 = true ∧ waysC 5 = true ∧ waysC 6 = true := by decide +kernel
theorem chain_all {n : Nat} (h1 : 1 ≤ n) (h6 : n ≤ 6) : chainC n = true := by
  obtain ⟨a, b, c, d, e⟩ := chain_ok
  rcases (by omega : n = 1 ∨ n = 2 ∨ n = 3 ∨ n = 4 ∨ n = 5 ∨ n = 6) with rfl | rfl | rfl | rfl | rfl | rfl
  · exact a
  · exact b
  · exact c
  · exact d
  · exact e
  · exact chain_ok6
theorem ways_all {n : Nat} (h1 : 1 ≤ n) (h6 : n ≤ 6) : waysC n = true := by
  obtain ⟨a, b, c, d, e, f⟩ := ways_ok
  rcases (by omega : n = 1 ∨ n = 2 ∨ n = 3 ∨ n = 4 ∨ n = 5 ∨ n = 6) with rfl | rfl | rfl | rfl | rfl | rfl
  · exact a
  · exact b
  · exact c
  · exact d
  · exact e
  · exact f
theorem chain_at {n : Nat} (h1 : 1 ≤ n) (h6 : n ≤ 6) {s : List Int} (hs : s.Sublist (iota n)) (hl : s.length + 1 < n) : (nextL n s).map (compl n) = above (compl n s) := by
  have h := List.all_eq_true.1 (chain_all h1 h6) s (mem_subs hs)
  simp only [Bool.or_eq_true, decide_eq_true_eq, beq_iff_eq] at h
  rcases h with h | h
  · omega
  · exact h
end Go.Proofs.YtjkpokpidpampaaDoor

