/- Contracts: how many sign matrices have the 1 of the first row in each column, by the program and by the model. Condition: the table of math/bits. -/
import Derived.Test.YtcifcombbdblgaaDoorByTopColumn
import Derived.Test.YtcifcombbdblgaaDoorWays
namespace Go.Proofs.YtcifcombbdblgaaDoor
open Go.RowKit

/-- the answer of a function that hands back a list of numbers and whether there is one -/
def LRes (p : Prop) (r : List Int) (w : World) (B : Nat) (e : Ending) : Prop :=
  ∃ v b r', e = .returned (.tuple #[v, .bool b]) ∧ OwnI w B v r' ∧ ((p ∧ b = true ∧ r' = r) ∨ (¬p ∧ b = false ∧ r' = []))
theorem LRes.yes {p : Prop} {r : List Int} {w : World} {B : Nat} {v : Value} (h : p) (ho : OwnI w B v r) : LRes p r w B (.returned (.tuple #[v, .bool true])) := ⟨v, true, r, rfl, ho, .inl ⟨h, rfl, rfl⟩⟩
theorem LRes.no {p : Prop} {r : List Int} {w : World} {B : Nat} (h : ¬p) : LRes p r w B (.returned (.tuple #[.slice none 0 0, .bool false])) := ⟨_, false, [], rfl, OwnI.nil _ _, .inr ⟨h, rfl, rfl⟩⟩

theorem lres_same {p : Prop} {r ra rb : List Int} {a b : Bool} (h : (p ∧ a = true ∧ ra = r) ∨ (¬p ∧ a = false ∧ ra = [])) (k : (p ∧ b = true ∧ rb = r) ∨ (¬p ∧ b = false ∧ rb = [])) : b = a ∧ rb = ra := by
  rcases k with ⟨h1, h2, h3⟩ | ⟨h1, h2, h3⟩ <;> rcases h with ⟨k1, k2, k3⟩ | ⟨k1, k2, k3⟩
  · exact ⟨h2.trans k2.symm, h3.trans k3.symm⟩
  · exact absurd h1 k1
  · exact absurd k1 h1
  · exact ⟨h2.trans k2.symm, h3.trans k3.symm⟩

theorem above_pos {xs ys : List Int} (hr : Rise xs) (hy : ys ∈ above xs) : 1 ≤ ys.length := by
  have h := (above_mem hr hy).2
  by_cases h2 : xs.length < 2
  · rw [above_one h2] at hy; cases hy
  · omega

theorem topColumn_any : Scores 74 topSc := by
  intro xs ys w hr h6 hy hD
  obtain ⟨hry, hly⟩ := above_mem hr hy
  have hpos := above_pos hr hy
  have hsz := size_any hry (by omega) w
  have hrow := row_any hry (by omega) w hD
  obtain ⟨a, ha⟩ : ∃ a : Int, a = (mask xs : Nat) := ⟨_, rfl⟩
  obtain ⟨b, hb⟩ : ∃ b : Int, b = (mask ys : Nat) := ⟨_, rfl⟩
  rw [← hb] at hsz hrow
  rw [← ha, ← hb]
  have Hsz := Lib.hid hsz
  have Hrow := Lib.hid hrow
  clear ha hb hsz hrow hD hr hy hry
  unfold topSc
  by_cases h1 : 1 < ys.length
  · rw [if_pos h1]
    have hd : decide ((1 : Int) < (ys.length : Int)) = true := by simp; omega
    go_enter Tryd.func74, Tryd.ntmps74
    go_wp2_with fail
    refine Hsz.out.mono ?_
    rintro e w2 ⟨rfl, rfl⟩
    go_wp2
    go_ret
    exact ⟨rfl, Below.refl _ _⟩
  · rw [if_neg h1]
    have hd : decide ((1 : Int) < (ys.length : Int)) = false := by simp; omega
    go_enter Tryd.func74, Tryd.ntmps74
    go_wp2_with fail
    refine Hsz.out.mono ?_
    rintro e w2 ⟨rfl, rfl⟩
    go_wp2_with fail
    refine Hrow.out.mono ?_
    rintro e w2 ⟨v, rfl, hv, hb2⟩
    obtain ⟨ra, rc, rfl, _, _, _⟩ := hv.read
    obtain ⟨g, rfl, _, _⟩ := hv.isAt (by omega)
    have hc := hv.cellAt 0 (by omega)
    have Hb2 := Lib.hid hb2
    clear hv hb2
    obtain ⟨x, hx⟩ : ∃ x, x = gi ys 0 := ⟨_, rfl⟩
    rw [← hx] at hc
    have Hx := Lib.hid hx
    clear hx
    go_wp2
    go_ret
    exact ⟨by rw [Hx.out]; rfl, Hb2.out⟩

theorem topSc_small : SmallSc topSc := by
  intro xs ys hr _ hy
  unfold topSc
  split
  · omega
  · exact (above_mem hr hy).1.2 _ (gi_mem (above_pos hr hy))
theorem top_lim {n : Nat} (h6 : n ≤ 6) : ∀ p ∈ reach topSc (iota n) (n - 1), p.2 ≤ ((n - 1 : Nat) : Int) := by
  have key : ∀ j, ∀ p ∈ reach topSc (iota n) j, (∀ x ∈ p.1, x < (n : Int)) ∧ Rise p.1 ∧ (p.2 = 0 ∨ (p.1.length ≤ 1 ∧ p.2 ≤ ((n - 1 : Nat) : Int))) := by
    intro j
    induction j with
    | zero =>
      intro p hp
      simp [reach] at hp
      subst hp
      exact ⟨fun x hx => (mem_iota.1 hx).2, ⟨up_iota n, fun x hx => by have := mem_iota.1 hx; omega⟩, .inl rfl⟩
    | succ j ih =>
      intro p hp
      rw [reach_succ] at hp
      obtain ⟨q, hq, hm⟩ := List.mem_flatMap.1 hp
      obtain ⟨ys, hy, rfl⟩ := List.mem_map.1 hm
      obtain ⟨h1, h2, h3⟩ := ih q hq
      have hlt : ∀ x ∈ ys, x < (n : Int) := fun x hx => by
        unfold above at hy
        split at hy
        · cases hy
        · obtain ⟨_, _, h5, _⟩ := ab_mem hy
          obtain ⟨a, ha, hle⟩ := h5 x hx
          have := h1 a ha
          omega
      have hry := (above_mem h2 hy).1
      have hql : 2 ≤ q.1.length := by have := above_pos h2 hy; have := (above_mem h2 hy).2; omega
      have hq0 : q.2 = 0 := by rcases h3 with h | h <;> omega
      refine ⟨hlt, hry, ?_⟩
      simp only [hq0, Int.zero_add]
      unfold topSc
      split
      · exact .inl rfl
      · refine .inr ⟨by omega, ?_⟩
        have := hlt _ (gi_mem (above_pos h2 hy))
        omega
  intro p hp
  rcases (key _ p hp).2.2 with h | h
  · omega
  · exact h.2

def inN (n : Int) : Prop := 1 ≤ n ∧ n ≤ 6
def firstW (n : Nat) : List Int := (firstB n).map wrap64
theorem scoreL_first {n : Nat} (h1 : 1 ≤ n) (h6 : n ≤ 6) : scoreL topSc n (n - 1 + 1) = firstW n := by
  unfold firstW
  rw [← first_same h1 h6]
  unfold scoreL firstA
  rw [List.map_map, show n - 1 + 1 = n from by omega]
  rfl

set_option maxHeartbeats 800000 in
theorem implCountByFirst_any (n : Int) (w : World) (_ : -9223372036854775808 ≤ n ∧ n ≤ 9223372036854775807) (hD : Dj w) :
    Calls Tryd.prog 39 #[.int .i64 n] w fun e w' => LRes (inN n) (firstW n.toNat) w' w.heap.size e ∧ Below w.heap.size w w' := by
  by_cases h1 : 1 ≤ n
  · by_cases h6 : n ≤ 6
    · obtain ⟨N, rfl⟩ : ∃ N : Nat, n = (N : Int) := ⟨n.toNat, by omega⟩
      have hc := byScore_topColumn topSc topColumn_any topSc_small N (N - 1) (by omega) (by omega) (by omega) (top_lim (by omega)) w hD
      rw [scoreL_first (by omega) (by omega)] at hc
      have hw : ((N - 1 : Nat) : Int) = (N : Int) - 1 := by omega
      rw [hw] at hc
      have Hc := Lib.hid hc
      have hd6 : decide ((6 : Int) < (N : Int)) = false := by simp; omega
      clear hw hc hD
      go_enter Tryd.func39, Tryd.ntmps39
      go_wp2_with fail
      refine Hc.out.mono ?_
      rintro e w1 ⟨v, rfl, hv, hb⟩
      have Hv := Lib.hid hv
      have Hb := Lib.hid hb
      clear hv hb
      go_wp2
      go_ret2
      exact ⟨LRes.yes ⟨h1, h6⟩ (by rw [Int.toNat_natCast]; exact Hv.out), Hb.out⟩
    · have hd6 : decide ((6 : Int) < n) = true := by simp; omega
      go_enter Tryd.func39, Tryd.ntmps39
      go_wp2
      go_ret2
      exact ⟨LRes.no fun h => by have := h.2; omega, Below.refl _ _⟩
  · go_enter Tryd.func39, Tryd.ntmps39
    go_wp2
    go_ret2
    exact ⟨LRes.no fun h => by have := h.1; omega, Below.refl _ _⟩
end Go.Proofs.YtcifcombbdblgaaDoor
