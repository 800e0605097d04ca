/- Parts of proofs: contracts and plain facts. Conditions: as each says. -/
import Derived.Test.YtjkpokpidpampaaDoorK14
namespace Go.Proofs.YtjkpokpidpampaaDoor
open Go.RowKit Go.Maps
open Go.WideMaps (KeyLaw)


end Go.Proofs.YtjkpokpidpampaaDoor

namespace Go.Proofs.YtjkpokpidpampaaDoor
open Go.RowKit Go.Maps

end Go.Proofs.YtjkpokpidpampaaDoor

namespace Go.Proofs.YtjkpokpidpampaaDoor
open Go.RowKit Go.Maps
open Go.WideMaps (KeyLaw)

end Go.Proofs.YtjkpokpidpampaaDoor

namespace Go.Proofs.YtjkpokpidpampaaDoor
open Go.RowKit Go.Maps
open Go.WideMaps (KeyLaw)


end Go.Proofs.YtjkpokpidpampaaDoor

namespace Go.Proofs.YtjkpokpidpampaaDoor
open Go.RowKit Go.Maps

end Go.Proofs.YtjkpokpidpampaaDoor

namespace Go.Proofs.YtjkpokpidpampaaDoor
open Go.RowKit

theorem Up.filter {xs : List Int} (h : Up xs) (p : Int → Bool) : Up (xs.filter p) := by
  induction xs with
  | nil => exact h
  | cons a r ih =>
    rw [List.filter_cons]
    split
    · exact Up.of (ih h.tail) fun x hx => h.lt x (List.mem_filter.1 hx).1
    · exact ih h.tail
/-- the numbers of ys that xs lacks -/
def lacks (xs ys : List Int) : List Int := ys.filter fun y => !xs.contains y
theorem lacks_rise {xs ys : List Int} (h : Rise ys) : Rise (lacks xs ys) := ⟨h.1.filter _, fun x hx => h.2 x (List.mem_filter.1 hx).1⟩
theorem lacks_len (xs ys : List Int) : (lacks xs ys).length ≤ ys.length := List.length_filter_le _ _
theorem mask_lacks {xs ys : List Int} (hx : Rise xs) (hy : Rise ys) : bits .andNot .u64 ((mask ys : Nat) : Int) ((mask xs : Nat) : Int) = ((mask (lacks xs ys) : Nat) : Int) := by
  have h1 := mask_lt16 hx
  have h2 := mask_lt16 hy
  rw [u64_andNot_nat _ _ (by omega) (by omega)]
  congr 1
  apply Nat.eq_of_testBit_eq
  intro i
  rw [Nat.testBit_and, show 18446744073709551615 - mask xs = 2 ^ 64 - (mask xs + 1) from by omega, Nat.testBit_two_pow_sub_succ (by omega), testBit_mask (fun x hx' => (hy.2 x hx').1), testBit_mask (fun x hx' => (hx.2 x hx').1), testBit_mask (fun x hx' => ((lacks_rise hy).2 x hx').1)]
  unfold lacks
  by_cases hm : (i : Int) ∈ ys
  · have := (hy.2 _ hm).2
    have hi : i < 64 := by omega
    by_cases hn : (i : Int) ∈ xs <;> simp [hm, hn, hi]
  · simp [hm]

def lostSc (xs ys : List Int) : Int := (lacks xs ys).length
def movedSc (xs ys : List Int) : Int := ys.length - eqn xs ys ys.length

theorem lost_small : SmallSc lostSc := by
  intro xs ys hr h6 hy
  obtain ⟨hry, hly⟩ := above_mem hr hy
  have := lacks_len xs ys
  unfold lostSc
  omega
theorem moved_small : SmallSc movedSc := by
  intro xs ys hr h6 hy
  obtain ⟨hry, hly⟩ := above_mem hr hy
  have := eqn_bd xs ys ys.length
  unfold movedSc
  omega
def limC (sc : List Int → List Int → Int) (n g : Nat) : Bool := (reach sc (iota n) (n - 1)).all fun p => decide (p.2 ≤ (g : Int))
set_option maxRecDepth 1000000 in
theorem lost_ok : limC lostSc 1 0 = true ∧ limC lostSc 2 0 = true ∧ limC lostSc 3 1 = true ∧ limC lostSc 4 2 = true ∧ limC lostSc 5 4 = true := by decide +kernel
set_option maxRecDepth 1000000 in
theorem moved_ok : limC movedSc 1 0 = true ∧ limC movedSc 2 1 = true ∧ limC movedSc 3 3 = true ∧ limC movedSc 4 6 = true ∧ limC movedSc 5 10 = true := by decide +kernel
theorem limC_lim {sc : List Int → List Int → Int} {n g : Nat} (h : limC sc n g = true) : ∀ p ∈ reach sc (iota n) (n - 1), p.2 ≤ (g : Int) := fun p hp => by
  have := List.all_eq_true.1 h p hp
  simpa using this
end Go.Proofs.YtjkpokpidpampaaDoor

