/- Contracts of the program: a list of patterns is sorted. Conditions: as each says. -/
import Derived.Test.YtncpoljjfhmkeaaSySo
import Derived.Test.YtncpoljjfhmkeaaSyE
import Derived.Test.YtncpoljjfhmkeaaSyK
import Derived.Test.YtncpoljjfhmkeaaLeastM
import Derived.Test.YtncpoljjfhmkeaaShelf
namespace Go.Proofs.Ytncpoljjfhmkeaa
open Go.RowKit

/-- the answer of a comparison of two patterns -/
def RCp (n : Nat) (x y : List Int) (z : Int) : Prop := (rless n x y ∧ z = -1) ∨ (x = y ∧ z = 0) ∨ (rless n y x ∧ z = 1)

set_option maxRecDepth 100000 in
set_option maxHeartbeats 1600000 in
theorem pCompare_any (ao bo : Option Addr) (c d : Nat) (xs ys : List Int) (w : World) (hn : xs.length ≤ 12) (hl : ys.length = xs.length) (hx : IntsAt w ao xs) (hy : IntsAt w bo ys) :
    Calls Try.prog 106 #[.slice ao xs.length c, .slice bo ys.length d] w fun e w' => (∃ z, e = .returned (.int .i64 z) ∧ RCp xs.length xs ys z) ∧ w = w' := by
  have hmx : xs.length ≤ 9223372036854775807 := by omega
  rw [hl]
  have Hx := Lib.hid hx
  have Hy := Lib.hid hy
  have Hl := Lib.hid hl
  clear hx hy hl
  go_enter Try.func106, Try.ntmps106
  go_wp2
  go_loop [11] (fun i => ∃ k : Nat, k ≤ xs.length ∧ i = .int .i64 k ∧ ∀ j, j < k → gi xs j = gi ys j) (fun i => xs.length - (intOf i).toNat)
  case atStart => exact ⟨0, Nat.zero_le _, rfl, fun j hj => absurd hj (by omega)⟩
  case round =>
    obtain ⟨k, hk, rfl, heq⟩ := hrel
    have Heq := Lib.hid heq
    clear heq
    by_cases hlt : k < xs.length
    · obtain ⟨b1, o1, rfl, hc1⟩ := Hx.out k hlt
      obtain ⟨b2, o2, rfl, hc2⟩ := Hy.out k (by rw [Hl.out]; exact hlt)
      have hcmp := Try.cmp_Compare_int (gi xs k) (gi ys k) w
      rcases Int.lt_trichotomy (gi xs k) (gi ys k) with h | h | h
      · have hr : rless xs.length xs ys := ⟨k, hlt, Heq.out, h⟩
        rw [show Lib.compareInt (gi xs k) (gi ys k) = -1 from by simp [Lib.compareInt, h]] at hcmp
        have Hr := Lib.hid hr
        have Hc := Lib.hid hcmp
        clear hr hcmp h
        go_wp2_with fail
        refine Hc.out.mono ?_
        rintro e w2 ⟨rfl, rfl⟩
        go_wp2
        go_ret
        exact ⟨⟨_, rfl, .inl ⟨Hr.out, rfl⟩⟩, rfl⟩
      · rw [show Lib.compareInt (gi xs k) (gi ys k) = 0 from by simp [Lib.compareInt, h]] at hcmp
        have Hh := Lib.hid h
        have Hc := Lib.hid hcmp
        clear hcmp h
        go_wp2_with fail
        refine Hc.out.mono ?_
        rintro e w2 ⟨rfl, rfl⟩
        go_wp2
        go_round
        case rel => exact ⟨k + 1, by omega, by go_num, fun j hj => by
          by_cases e : j = k
          · subst e; exact Hh.out
          · exact Heq.out j (by omega)⟩
        case measure => simp [intOf]; omega
      · have hr : rless xs.length ys xs := ⟨k, hlt, fun i hi => (Heq.out i hi).symm, h⟩
        rw [show Lib.compareInt (gi xs k) (gi ys k) = 1 from by simp [Lib.compareInt]; omega] at hcmp
        have Hr := Lib.hid hr
        have Hc := Lib.hid hcmp
        clear hr hcmp h
        go_wp2_with fail
        refine Hc.out.mono ?_
        rintro e w2 ⟨rfl, rfl⟩
        go_wp2
        go_ret
        exact ⟨⟨_, rfl, .inr (.inr ⟨Hr.out, rfl⟩)⟩, rfl⟩
    · obtain rfl : k = xs.length := by omega
      have hz := Lib.hid (ext_gi Hl.out.symm Heq.out)
      go_wp2
      go_ret
      exact ⟨⟨_, rfl, .inr (.inl ⟨hz.out, rfl⟩)⟩, rfl⟩

/-- the list of all patterns is in order -/
def lexB (n : Nat) (x y : List Int) : Bool := (List.range n).any fun j => (List.range j).all (fun i => gi x i == gi y i) && decide (gi x j < gi y j)
theorem lexB_is {n : Nat} {x y : List Int} (h : lexB n x y = true) : rless n x y := by
  unfold lexB at h
  rw [List.any_eq_true] at h
  obtain ⟨j, hj, h⟩ := h
  rw [Bool.and_eq_true, List.all_eq_true] at h
  refine ⟨j, by simpa using hj, fun i hi => ?_, by simpa using h.2⟩
  have := h.1 i (by simpa using hi)
  simpa using this
theorem patP_lexB : ∀ n, n < 5 → ((List.range (catN n)).all fun j => (List.range j).all fun i => lexB (2 * n) (gr (patP 6 n) i) (gr (patP 6 n) j)) = true := by decide +kernel
theorem patP_lex {n : Nat} (h : n < 5) {i j : Nat} (hij : i < j) (hj : j < catN n) : rless (2 * n) (gr (patP 6 n) i) (gr (patP 6 n) j) := by
  have h1 := patP_lexB n h
  rw [List.all_eq_true] at h1
  have h2 := h1 j (by simpa using hj)
  rw [List.all_eq_true] at h2
  exact lexB_is (h2 i (by simpa using hij))
/-- .. which of two ranks is less -/
def sgn (a b : Nat) : Int := if a < b then -1 else if b < a then 1 else 0
theorem cmp_rank {n : Nat} (h : n < 5) {x y : List Int} {z : Int} (hx : x ∈ patP 6 n) (hy : y ∈ patP 6 n) (hz : RCp (2 * n) x y z) : z = sgn (rk (patP 6 n) x) (rk (patP 6 n) y) := by
  have hxl := rk_lt hx
  have hyl := rk_lt hy
  unfold sgn
  rcases Nat.lt_trichotomy (rk (patP 6 n) x) (rk (patP 6 n) y) with e | e | e
  · have h2 := patP_lex h e hyl
    rw [rk_at hx, rk_at hy] at h2
    rw [if_pos e]
    rcases hz with ⟨_, h3⟩ | ⟨h3, _⟩ | ⟨h3, _⟩
    · exact h3
    · rw [h3] at h2; exact absurd h2 rless_irrefl
    · exact absurd h3 (rless_asymm h2)
  · have e2 : x = y := by rw [← rk_at hx, ← rk_at hy, e]
    rw [if_neg (by omega), if_neg (by omega)]
    rcases hz with ⟨h3, _⟩ | ⟨_, h3⟩ | ⟨h3, _⟩
    · rw [e2] at h3; exact absurd h3 rless_irrefl
    · exact h3
    · rw [e2] at h3; exact absurd h3 rless_irrefl
  · have h2 := patP_lex h e hxl
    rw [rk_at hx, rk_at hy] at h2
    rw [if_neg (by omega), if_pos e]
    rcases hz with ⟨h3, _⟩ | ⟨h3, _⟩ | ⟨_, h3⟩
    · exact absurd h3 (rless_asymm h2)
    · rw [h3] at h2; exact absurd h2 rless_irrefl
    · exact h3

/-- what a sort leaves: blocks other than the row's are as they were -/
theorem sw_heap {α : Type} [Inhabited α] (enc : α → Value) (w : World) (g m : Nat) (dk : Array α) (os : Array Obj) {k : Nat} (hk : k ≠ g) (hl : k < w.heap.size) : (sortWorld enc w g 0 m dk os).heap[k]? = w.heap[k]? := by
  unfold sortWorld
  rw [Go.Sort.heap_grow_old _ _ (by rw [size_putRow]; exact hl)]
  simp only [Go.Sort.putRow, Go.Sort.mapBlock, Array.getElem?_modify]
  rw [if_neg (fun e => hk e.symm)]
  rfl
theorem sw_cell {α : Type} [Inhabited α] (enc : α → Value) (w : World) (g m : Nat) (dk : Array α) (os : Array Obj) {a : Addr} {v : Value} (hk : a.block ≠ g) (h : w.cell? a = some v) : (sortWorld enc w g 0 m dk os).cell? a = some v := by
  have hl := World.block_lt_of_cell? _ _ h
  unfold World.cell? at h ⊢
  rw [sw_heap enc w g m dk os hk hl]
  exact h
theorem sw_below {α : Type} [Inhabited α] (enc : α → Value) (w : World) (g m B : Nat) (dk : Array α) (os : Array Obj) (hB : B ≤ g) (hg : g < w.heap.size) : Below B w (sortWorld enc w g 0 m dk os) :=
  ⟨rfl, rfl, rfl, by unfold sortWorld; rw [Go.Sort.size_grow, size_putRow]; exact Nat.le_add_right _ _, fun k hk => sw_heap enc w g m dk os (by omega) (by omega)⟩
theorem sw_own {α : Type} [Inhabited α] (enc : α → Value) (w : World) (g m : Nat) (dk : Array α) (os : Array Obj) {B : Nat} {v : Value} {xs : List Int} (h : OwnI w B v xs) (hv : v.ownBlock ≠ some g) : OwnI (sortWorld enc w g 0 m dk os) B v xs := by
  refine ⟨h.1, ?_⟩
  rcases h.2 with h0 | ⟨g', cap, cur, rfl, hg, hh, r⟩
  · exact .inl h0
  · refine .inr ⟨g', cap, cur, rfl, hg, ?_, r⟩
    rw [sw_heap enc w g m dk os (fun e => hv (by rw [e]; rfl)) (lt_of_block hh)]
    exact hh
theorem sw_row {α : Type} [Inhabited α] (enc : α → Value) (w : World) (g m : Nat) (dk : Array α) (os : Array Obj) {B N cap : Nat} {vs : List Value} (h : w.ownsRow B 22 1 (.slice (some ⟨g, 0, none⟩) N cap) N vs) (hs : dk.size = N) :
    (sortWorld enc w g 0 m dk os).ownsRow B 22 1 (.slice (some ⟨g, 0, none⟩) N cap) N (dk.toList.map enc) := by
  rcases h.2 with ⟨h0, _⟩ | ⟨g', cap', cur, hv, hB, hh, hn, hm, hsz, ht⟩
  · simp at h0
  · simp only [Value.slice.injEq, Option.some.injEq, Addr.mk.injEq, and_true, true_and] at hv
    obtain ⟨rfl, rfl⟩ := hv
    refine ⟨by simp [hs], .inr ⟨g, cap, Go.Sort.putCells enc 0 dk cur, rfl, hB, ?_, hn, hm, by simp [Go.Sort.putCells, hsz], ?_⟩⟩
    · unfold sortWorld
      rw [Go.Sort.heap_grow_old _ _ (by rw [size_putRow]; exact lt_of_block hh)]
      simp only [Go.Sort.putRow, Go.Sort.mapBlock, Array.getElem?_modify, if_true]
      have e : (Go.Sort.ahead w m).heap[g]? = w.heap[g]? := rfl
      rw [e, hh]
      rfl
    · apply List.ext_getElem?
      intro k
      simp only [Go.Sort.putCells, Array.toList_mapIdx, List.getElem?_take, List.getElem?_mapIdx, List.getElem?_map]
      by_cases hk : k < N
      · have hk2 : k < cur.toList.length := by simp; omega
        rw [if_pos (by omega), List.getElem?_eq_getElem hk2, List.getElem?_eq_getElem (by simp; omega)]
        simp only [Option.map_some]
        rw [if_pos (by omega)]
        simp [hs, hk]
      · rw [if_neg (by omega), List.getElem?_eq_none (by simp; omega)]
        rfl
end Go.Proofs.Ytncpoljjfhmkeaa
