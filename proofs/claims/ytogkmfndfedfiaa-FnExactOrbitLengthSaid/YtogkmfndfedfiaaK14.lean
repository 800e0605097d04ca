/- Parts of proofs: contracts and plain facts. Conditions: as each says. -/
import Derived.Test.YtogkmfndfedfiaaK13
namespace Go.Proofs.Ytogkmfndfedfiaa
open Go.RowKit

theorem OwnP.storeAt {w : World} {B n : Nat} {v : Value} {m : List (List Int)} {vs : List Value} (h : OwnP w B v n m n vs) (hn : m.length = n) {i j g l c : Nat} (hi : i < n)
    (hv : vs.getD i undef = .slice (some ⟨g, 0, none⟩) l c) (x : Int) : OwnP (w.setCell ⟨g, j, none⟩ (.int .i64 x)) B v n (setM m i j x) n vs := by
  have hri := h.rows i hi
  have hb : (vs.getD i undef).ownBlock = some g := by rw [hv]; rfl
  have ht : v.ownBlock ≠ some g := hri.ne_row h.top g hb
  refine ⟨ownsRow_setCell_other h.top ht _, fun k hk => ?_, h.apart⟩
  rw [gr_setM (by omega)]
  by_cases e : k = i
  · subst e
    rw [if_pos rfl, hv]
    rw [hv] at hri
    exact hri.store j x
  · rw [if_neg e]
    refine (h.rows k hk).setOther (fun hk' => ?_) _
    rcases Nat.lt_or_gt_of_ne e with hlt | hgt
    · exact h.apart k i hlt hi g hk' hb
    · exact h.apart i k hgt hk g hb hk'

/-- the row of an owned table: where it lies -/
theorem OwnP.rowIs {w : World} {B n : Nat} {v : Value} {m : List (List Int)} {vs : List Value} (h : OwnP w B v n m n vs) {i : Nat} (hi : i < n) (hl : 0 < (gr m i).length) :
    ∃ g c, vs.getD i undef = .slice (some ⟨g, 0, none⟩) (gr m i).length c ∧ B ≤ g ∧ g < w.heap.size ∧ (gr m i).length ≤ c := by
  have hr := h.rows i hi
  obtain ⟨ao, c, e, h1, h2, _⟩ := hr.read
  rw [e] at hr
  obtain ⟨g, rfl, hB, hz⟩ := hr.isAt hl
  exact ⟨g, c, e, hB, hz, h1⟩
end Go.Proofs.Ytogkmfndfedfiaa

