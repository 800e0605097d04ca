/- Parts of proofs: contracts and plain facts. Conditions: as each says. -/
import Derived.Test.YtmkldodkpijfjaaDoorK09
namespace Go.Proofs.YtmkldodkpijfjaaDoor
open Go.RowKit

theorem Up.filter {xs : List Int} (h : Up xs) (p : Int → Bool) : Up (xs.filter p) := by
  induction xs with
  | nil => exact h
  | cons a r ih =>
    rw [List.filter_cons]
    split
    · exact Up.of (ih h.tail) fun x hx => h.lt x (List.mem_filter.1 hx).1
    · exact ih h.tail
/-- the numbers of ys that xs lacks -/
def lacks (xs ys : List Int) : List Int := ys.filter fun y => !xs.contains y
theorem lacks_rise {xs ys : List Int} (h : Rise ys) : Rise (lacks xs ys) := ⟨h.1.filter _, fun x hx => h.2 x (List.mem_filter.1 hx).1⟩
theorem lacks_len (xs ys : List Int) : (lacks xs ys).length ≤ ys.length := List.length_filter_le _ _
theorem mask_lacks {xs ys : List Int} (hx : Rise xs) (hy : Rise ys) : bits .andNot .u64 ((mask ys : Nat) : Int) ((mask xs : Nat) : Int) = ((mask (lacks xs ys) : Nat) : Int) := by
  have h1 := mask_lt16 hx
  have h2 := mask_lt16 hy
  rw [u64_andNot_nat _ _ (by omega) (by omega)]
  congr 1
  apply Nat.eq_of_testBit_eq
  intro i
  rw [Nat.testBit_and, show 18446744073709551615 - mask xs = 2 ^ 64 - (mask xs + 1) from by omega, Nat.testBit_two_pow_sub_succ (by omega), testBit_mask (fun x hx' => (hy.2 x hx').1), testBit_mask (fun x hx' => (hx.2 x hx').1), testBit_mask (fun x hx' => ((lacks_rise hy).2 x hx').1)]
  unfold lacks
  by_cases hm : (i : Int) ∈ ys
  · have := (hy.2 _ hm).2
    have hi : i < 64 := by omega
    by_cases hn : (i : Int) ∈ xs <;> simp [hm, hn, hi]
  · simp [hm]

def lostSc (xs ys : List Int) : Int := (lacks xs ys).length
def movedSc (xs ys : List Int) : Int := ys.length - eqn xs ys ys.length

theorem lostColumns_any : Scores 75 lostSc := by
  intro xs ys w hr h6 hy hD
  obtain ⟨hry, hly⟩ := above_mem hr hy
  have hsz := size_any (lacks_rise (xs := xs) hry) (by have := lacks_len xs ys; omega) w
  have hb := mask_lacks hr hry
  unfold lostSc
  obtain ⟨a, ha⟩ : ∃ a : Int, a = (mask xs : Nat) := ⟨_, rfl⟩
  obtain ⟨b, hb'⟩ : ∃ b : Int, b = (mask ys : Nat) := ⟨_, rfl⟩
  obtain ⟨c, hc⟩ : ∃ c : Int, c = (mask (lacks xs ys) : Nat) := ⟨_, rfl⟩
  rw [← hc] at hsz hb
  rw [← ha, ← hb'] at hb
  rw [← ha, ← hb']
  have Hsz := Lib.hid hsz
  clear ha hb' hc hsz hD hr hy hry
  go_enter Tryd.func75, Tryd.ntmps75
  go_wp2_with fail
  refine Hsz.out.mono ?_
  rintro e w2 ⟨rfl, rfl⟩
  go_wp2
  go_ret
  exact ⟨rfl, Below.refl _ _⟩

set_option maxRecDepth 100000 in
set_option maxHeartbeats 400000 in
theorem movedNumbers_any : Scores 78 movedSc := by
  intro xs ys w hr h6 hy hD
  obtain ⟨hry, hly⟩ := above_mem hr hy
  have hsz := size_any hry (by omega) w
  have hrow := row_any hr h6 w hD
  have hrow2 := fun w2 (h : Dj w2) => row_any hry (by omega) w2 h
  unfold movedSc
  obtain ⟨a, ha⟩ : ∃ a : Int, a = (mask xs : Nat) := ⟨_, rfl⟩
  obtain ⟨b, hb⟩ : ∃ b : Int, b = (mask ys : Nat) := ⟨_, rfl⟩
  rw [← hb] at hsz
  rw [← ha] at hrow
  rw [← hb] at hrow2
  rw [← ha, ← hb]
  have Hsz := Lib.hid hsz
  have Hrow := Lib.hid hrow
  have Hrow2 := Lib.hid hrow2
  have HD := Lib.hid hD
  have hbd := eqn_bd xs ys ys.length
  have Hx6 := Lib.hid (show xs.length ≤ 6 ∧ ys.length ≤ xs.length from ⟨h6, by omega⟩)
  have hl5 : ys.length ≤ 6 := by omega
  clear ha hb hsz hrow hrow2 hD hr hy hry hly
  obtain ⟨q, hq⟩ : ∃ q, q = eqn xs ys ys.length := ⟨_, rfl⟩
  rw [← hq] at hbd ⊢
  have Hq := Lib.hid hq
  clear hq
  go_enter Tryd.func78, Tryd.ntmps78
  go_wp2_with fail
  refine Hsz.out.mono ?_
  rintro e w2 ⟨rfl, rfl⟩
  go_wp2_with fail
  refine Hrow.out.mono ?_
  rintro e w1 ⟨v, rfl, hv, hb1⟩
  obtain ⟨a1, c1, rfl, _, _, hm1⟩ := hv.read
  have Hm1 := Lib.hid hm1
  have B1 := Lib.hid hb1
  clear hv hm1 hb1
  go_wp2_with fail
  refine (Hrow2.out w1 (HD.out.next B1.out)).mono ?_
  rintro e w2 ⟨v, rfl, hv, hb1⟩
  obtain ⟨a2, c2, rfl, _, _, hm2⟩ := hv.read
  have Hm2 := Lib.hid hm2
  have B2 := Lib.hid (B1.out.trans (hb1.mono B1.out.size))
  have Hm1' := Lib.hid (Hm1.out.below hb1)
  clear hv hm2 hb1 Hm1 B1
  have Hc := Lib.hid (equalNumbers_any a1 a2 c1 c2 xs ys w2 (by have := Hx6.out.1; omega) Hx6.out.2 Hm1'.out Hm2.out)
  go_wp2_with fail
  refine Hc.out.mono ?_
  rintro e w3 ⟨rfl, rfl⟩
  rw [← Hq.out]
  go_wp2
  go_ret
  exact ⟨rfl, B2.out⟩

theorem lost_small : SmallSc lostSc := by
  intro xs ys hr h6 hy
  obtain ⟨hry, hly⟩ := above_mem hr hy
  have := lacks_len xs ys
  unfold lostSc
  omega
theorem moved_small : SmallSc movedSc := by
  intro xs ys hr h6 hy
  obtain ⟨hry, hly⟩ := above_mem hr hy
  have := eqn_bd xs ys ys.length
  unfold movedSc
  omega
def limC (sc : List Int → List Int → Int) (n g : Nat) : Bool := (reach sc (iota n) (n - 1)).all fun p => decide (p.2 ≤ (g : Int))
set_option maxRecDepth 1000000 in
theorem lost_ok : limC lostSc 1 0 = true ∧ limC lostSc 2 0 = true ∧ limC lostSc 3 1 = true ∧ limC lostSc 4 2 = true ∧ limC lostSc 5 4 = true := by decide +kernel
set_option maxRecDepth 1000000 in
theorem moved_ok : limC movedSc 1 0 = true ∧ limC movedSc 2 1 = true ∧ limC movedSc 3 3 = true ∧ limC movedSc 4 6 = true ∧ limC movedSc 5 10 = true := by decide +kernel
theorem limC_lim {sc : List Int → List Int → Int} {n g : Nat} (h : limC sc n g = true) : ∀ p ∈ reach sc (iota n) (n - 1), p.2 ≤ (g : Int) := fun p hp => by
  have := List.all_eq_true.1 h p hp
  simpa using this
end Go.Proofs.YtmkldodkpijfjaaDoor

