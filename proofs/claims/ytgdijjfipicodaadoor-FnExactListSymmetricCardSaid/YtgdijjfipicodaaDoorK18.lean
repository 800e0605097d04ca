/- Parts of proofs: contracts and plain facts. Conditions: as each says. -/
import Derived.Test.YtgdijjfipicodaaDoorK17
import Derived.Test.YtgdijjfipicodaaDoorRows
import Derived.Deep.RegionWith
import Derived.ProofKit
import Derived.OpenShut
import Derived.ShutString
import Derived.ChangeOld
import Derived.Deep.Matrix
import Derived.Test.YtgdijjfipicodaaDoorTie
import Derived.Test.YtgdijjfipicodaaDoorCards
import Derived.Shelf.Vars
import Derived.Lay
import Derived.SevenTiedAt
import Derived.HandedShaped
import Derived.LaidMore
import Derived.Stop.Joined
namespace Go.Proofs.YtgdijjfipicodaaDoor

/-- the matrix with a left half: the column in the middle has signs in turn -/
def lhF (rows : List (List Int)) (i j : Nat) : Int :=
  if j < rows.length / 2 then gi (gr rows i) j else if j = rows.length / 2 then 1 - ((i % 2 : Nat) : Int) * 2 else gi (gr rows i) (rows.length - 1 - j)
def lhM (rows : List (List Int)) : List (List Int) := tab rows.length rows.length (lhF rows)
/-- the rows can be a left half by their sizes -/
def lhP (rows : List (List Int)) : Prop := 1 ≤ rows.length ∧ rows.length ≤ 6 ∧ rows.length % 2 = 1 ∧ ∀ i, i < rows.length → (gr rows i).length = rows.length / 2
/-- as the model makes it: the number in the middle is told by the sum -/
def lsF (rows : List (List Int)) (i j : Nat) : Int :=
  if j < rows.length / 2 then gi (gr rows i) j else if j = rows.length / 2 then 1 - 2 * sumK (gr rows i) (rows.length / 2) else gi (gr rows i) (rows.length - 1 - j)
def lsM (rows : List (List Int)) : List (List Int) := tab rows.length rows.length (lsF rows)
def lsOk (rows : List (List Int)) : Prop := ∀ i, i < rows.length → ∀ j, j < rows.length / 2 → -1 ≤ gi (gr rows i) j ∧ gi (gr rows i) j ≤ 1

theorem lhM_len (rows : List (List Int)) : (lhM rows).length = rows.length := tab_len _ _ _
theorem lsM_len (rows : List (List Int)) : (lsM rows).length = rows.length := tab_len _ _ _

theorem line_step {xs : List Int} (h : lineOk xs) {j : Nat} (hj : j < xs.length) : -1 ≤ gi xs j ∧ gi xs j ≤ 1 := by
  have h1 := h.1 j (by omega)
  have h2 := h.1 (j + 1) (by omega)
  rw [sumK] at h2
  omega

/-- the sum of a mirrored row -/
theorem lh_sum {rows : List (List Int)} {f : Nat → Nat → Int} (h6 : rows.length ≤ 6) (hodd : rows.length % 2 = 1) {i : Nat} (hi : i < rows.length) (c : Int)
    (hf1 : ∀ j, j < rows.length / 2 → f i j = gi (gr rows i) j) (hf2 : f i (rows.length / 2) = c) (hf3 : ∀ j, rows.length / 2 < j → f i j = gi (gr rows i) (rows.length - 1 - j)) :
    sumK (gr (tab rows.length rows.length f) i) rows.length = 2 * sumK (gr rows i) (rows.length / 2) + c := by
  have hg : ∀ j, j < rows.length → gi (gr (tab rows.length rows.length f) i) j = f i j := fun j hj => gi_tab hi hj
  have hn : rows.length = 1 ∨ rows.length = 3 ∨ rows.length = 5 := by omega
  rcases hn with hn | hn | hn
  · rw [hn] at hf1 hf2 hf3 hg ⊢
    simp only [sumK, show (1 : Nat) / 2 = 0 from rfl] at hf2 ⊢
    rw [hg 0 (by omega), hf2]; omega
  · rw [hn] at hf1 hf2 hf3 hg ⊢
    simp only [sumK, show (3 : Nat) / 2 = 1 from rfl] at hf1 hf2 hf3 ⊢
    rw [hg 0 (by omega), hg 1 (by omega), hg 2 (by omega), hf1 0 (by omega), hf2, hf3 2 (by omega)]
    simp only [show (3 : Nat) - 1 - 2 = 0 from rfl]
    omega
  · rw [hn] at hf1 hf2 hf3 hg ⊢
    simp only [sumK, show (5 : Nat) / 2 = 2 from rfl] at hf1 hf2 hf3 ⊢
    rw [hg 0 (by omega), hg 1 (by omega), hg 2 (by omega), hg 3 (by omega), hg 4 (by omega), hf1 0 (by omega), hf1 1 (by omega), hf2, hf3 3 (by omega), hf3 4 (by omega)]
    simp only [show (5 : Nat) - 1 - 3 = 1 from rfl, show (5 : Nat) - 1 - 4 = 0 from rfl]
    omega

theorem lh_mid (rows : List (List Int)) (i : Nat) : lhF rows i (rows.length / 2) = 1 - ((i % 2 : Nat) : Int) * 2 := by
  unfold lhF
  rw [if_neg (by omega), if_pos rfl]
theorem ls_mid (rows : List (List Int)) (i : Nat) : lsF rows i (rows.length / 2) = 1 - 2 * sumK (gr rows i) (rows.length / 2) := by
  unfold lsF
  rw [if_neg (by omega), if_pos rfl]

/-- where the program makes a sign matrix, the model makes the same -/
theorem lh_good {rows : List (List Int)} (hp : lhP rows) (hg : good (lhM rows)) : lsOk rows ∧ lsM rows = lhM rows := by
  obtain ⟨h1, h6, hodd, hlen⟩ := hp
  have hrow : ∀ i, i < rows.length → lineOk (gr (lhM rows) i) := fun i hi => hg.2.1 i (by rw [lhM_len]; exact hi)
  refine ⟨fun i hi j hj => ?_, ?_⟩
  · have := line_step (hrow i hi) (j := j) (by unfold lhM; rw [tab_row hi]; omega)
    unfold lhM at this
    rw [gi_tab hi (by omega)] at this
    unfold lhF at this
    rw [if_pos hj] at this
    exact this
  · refine (eq_tab (tab_len _ _ _) (fun i hi => tab_row hi) fun i j hi hj => ?_)
    unfold lsM
    rw [gi_tab hi hj]
    have hs := (hrow i hi).2
    rw [show (gr (lhM rows) i).length = rows.length from by unfold lhM; exact tab_row hi] at hs
    have hs2 := lh_sum (f := lhF rows) h6 hodd hi _ (fun j hj => by unfold lhF; rw [if_pos hj]) (lh_mid rows i) (fun j hj => by unfold lhF; rw [if_neg (by omega), if_neg (by omega)])
    unfold lhM at hs
    rw [hs2] at hs
    unfold lsF lhF
    split
    · rfl
    · split
      · omega
      · rfl

/-- .. and the other way round -/
theorem ls_good {rows : List (List Int)} (hp : lhP rows) (hg : good (lsM rows)) : lsM rows = lhM rows := by
  obtain ⟨h1, h6, hodd, hlen⟩ := hp
  have hcol : lineOk (gr (tr (lsM rows)) (rows.length / 2)) := hg.2.2 _ (by rw [tr_len, lsM_len]; omega)
  have hval : ∀ i, i < rows.length → gi (gr (tr (lsM rows)) (rows.length / 2)) i = 1 - 2 * sumK (gr rows i) (rows.length / 2) := by
    intro i hi
    rw [gi_tr (by rw [lsM_len]; omega) (by rw [lsM_len]; exact hi)]
    unfold lsM
    rw [gi_tab hi (by omega), ls_mid]
  have hcl : (gr (tr (lsM rows)) (rows.length / 2)).length = rows.length := by rw [tr_row (by rw [lsM_len]; omega), lsM_len]
  have hpart : ∀ k, k ≤ rows.length → sumK (gr (tr (lsM rows)) (rows.length / 2)) k = ((k % 2 : Nat) : Int) := by
    intro k
    induction k with
    | zero => intro _; rfl
    | succ k ih =>
      intro hk
      have h2 := hcol.1 (k + 1) (by omega)
      rw [sumK, ih (by omega), hval k (by omega)] at h2 ⊢
      omega
  refine (eq_tab (tab_len _ _ _) (fun i hi => tab_row hi) fun i j hi hj => ?_)
  unfold lsM
  rw [gi_tab hi hj]
  have e1 := hpart i (by omega)
  have e2 := hpart (i + 1) (by omega)
  rw [sumK, e1, hval i hi] at e2
  unfold lsF lhF
  split
  · rfl
  · split
    · omega
    · rfl

/-- both sides succeed alike -/
theorem lh_iff (rows : List (List Int)) : (lhP rows ∧ good (lhM rows)) ↔ (lhP rows ∧ lsOk rows ∧ good (lsM rows)) :=
  ⟨fun h => ⟨h.1, (lh_good h.1 h.2).1, by rw [(lh_good h.1 h.2).2]; exact h.2⟩, fun h => ⟨h.1, by rw [← ls_good h.1 h.2.2]; exact h.2.2⟩⟩

/-- the matrix with an upper half -/
def uhF (rows : List (List Int)) (i j : Nat) : Int := if i < rows.length then gi (gr rows i) j else gi (gr rows (2 * rows.length - 1 - i)) (2 * rows.length - 1 - j)
def uhM (rows : List (List Int)) : List (List Int) := tab (2 * rows.length) (2 * rows.length) (uhF rows)
def uhP (rows : List (List Int)) : Prop := 1 ≤ rows.length ∧ rows.length ≤ 3 ∧ ∀ i, i < rows.length → (gr rows i).length = 2 * rows.length
/-- as the model makes it -/
def usM (rows : List (List Int)) : List (List Int) := rows ++ (rows.map List.reverse).reverse
theorem usM_len (rows : List (List Int)) : (usM rows).length = 2 * rows.length := by simp [usM]; omega
theorem usM_low {rows : List (List Int)} {i : Nat} (hi : i < rows.length) : gr (usM rows) i = gr rows i := by
  unfold usM gr
  rw [List.getD, List.getD, List.getElem?_append_left hi]
theorem gi_rev {xs : List Int} {j : Nat} (hj : j < xs.length) : gi xs.reverse j = gi xs (xs.length - 1 - j) := by
  rw [gi_lt (by simpa using hj), gi_lt (by omega), List.getElem_reverse]
theorem usM_high {rows : List (List Int)} {i : Nat} (hi : rows.length ≤ i) (hi2 : i < 2 * rows.length) : gr (usM rows) i = (gr rows (2 * rows.length - 1 - i)).reverse := by
  rw [gr_lt (by rw [usM_len]; exact hi2), gr_lt (by omega)]
  unfold usM
  rw [List.getElem_append_right hi, List.getElem_reverse, List.getElem_map]
  congr 2
  simp
  omega

theorem us_eq {rows : List (List Int)} (h : ∀ i, i < rows.length → (gr rows i).length = 2 * rows.length) : usM rows = uhM rows := by
  refine eq_tab (usM_len _) (fun i hi => ?_) fun i j hi hj => ?_
  · by_cases e : i < rows.length
    · rw [usM_low e, h i e]
    · rw [usM_high (by omega) hi, List.length_reverse, h _ (by omega)]
  · unfold uhF
    by_cases e : i < rows.length
    · rw [if_pos e, usM_low e]
    · rw [if_neg e, usM_high (by omega) hi, gi_rev (by rw [h _ (by omega)]; exact hj), h _ (by omega)]

theorem uh_iff (rows : List (List Int)) : (uhP rows ∧ good (uhM rows)) ↔ ((1 ≤ rows.length ∧ rows.length ≤ 3) ∧ good (usM rows)) := by
  constructor
  · rintro ⟨⟨h1, h3, hl⟩, hg⟩
    exact ⟨⟨h1, h3⟩, by rw [us_eq hl]; exact hg⟩
  · rintro ⟨⟨h1, h3⟩, hg⟩
    have hl : ∀ i, i < rows.length → (gr rows i).length = 2 * rows.length := by
      intro i hi
      have := hg.1.2.2 i (by rw [usM_len]; omega)
      rw [usM_low hi, usM_len] at this
      exact this
    exact ⟨⟨h1, h3, hl⟩, by rw [← us_eq hl]; exact hg⟩
end Go.Proofs.YtgdijjfipicodaaDoor

namespace Go.Proofs.YtgdijjfipicodaaDoor
open Go.RowKit

def ptA (v : Value) (n : Int) : Array Value := #[v, .int .i64 n]
theorem pt_one (a : Option Addr) (l c : Nat) (n : Int) : (ptA (.slice a l c) n).all (·.oneCell') = true := by simp [ptA, Value.oneCell']
theorem pt_same (u v : Value) (n k : Int) : (ptA u n).size = (ptA v k).size := rfl
end Go.Proofs.YtgdijjfipicodaaDoor

namespace Go.Proofs.YtgdijjfipicodaaDoor
open Go.RowKit

set_option maxRecDepth 100000 in
set_option maxHeartbeats 800000 in
theorem allIn_any (lo hi : Int) (ao : Option Addr) (c : Nat) (xs : List Int) (w : World) (hn : xs.length ≤ 1048576) (hx : IntsAt w ao xs) :
    Calls Tryd.prog 49 #[.int .i64 lo, .int .i64 hi, .slice ao xs.length c] w fun e w' => Ans (allIn xs lo hi) e ∧ w = w' := by
  have hmx : xs.length ≤ 9223372036854775807 := by omega
  have Hx := Lib.hid hx
  clear hx
  go_enter Tryd.func49, Tryd.ntmps49
  go_wp2
  go_loop [11] (fun i => ∃ k : Nat, k ≤ xs.length ∧ i = .int .i64 k ∧ ∀ j, j < k → lo ≤ gi xs j ∧ gi xs j ≤ hi) (fun i => xs.length - (intOf i).toNat)
  case atStart => exact ⟨0, Nat.zero_le _, rfl, fun j hj => absurd hj (by omega)⟩
  case round =>
    obtain ⟨k, hk, rfl, hd⟩ := hrel
    have Hd := Lib.hid hd
    clear hd
    by_cases hlt : k < xs.length
    · obtain ⟨b1, o1, rfl, hc1⟩ := Hx.out k hlt
      by_cases h1 : gi xs k < lo
      · have d1 : decide (gi xs k < lo) = true := by simp [h1]
        have Hn := Lib.hid (show ¬ allIn xs lo hi from fun h => by have := (h k hlt).1; omega)
        clear h1
        go_wp2
        go_ret
        exact ⟨Ans.no Hn.out, rfl⟩
      · have d1 : decide (gi xs k < lo) = false := by simp; omega
        by_cases h2 : hi < gi xs k
        · have d2 : decide (hi < gi xs k) = true := by simp [h2]
          have Hn := Lib.hid (show ¬ allIn xs lo hi from fun h => by have := (h k hlt).2; omega)
          clear h1 h2
          go_wp2
          go_ret
          exact ⟨Ans.no Hn.out, rfl⟩
        · have d2 : decide (hi < gi xs k) = false := by simp; omega
          have Hin := Lib.hid (show lo ≤ gi xs k ∧ gi xs k ≤ hi by omega)
          clear h1 h2
          go_wp2
          go_round
          case rel =>
            refine ⟨k + 1, by omega, by go_num, fun j hj => ?_⟩
            by_cases e : j = k
            · subst e; exact Hin.out
            · exact Hd.out j (by omega)
          case measure => simp [intOf]; omega
    · obtain rfl : k = xs.length := by omega
      go_wp2
      go_ret
      exact ⟨Ans.yes Hd.out, rfl⟩

end Go.Proofs.YtgdijjfipicodaaDoor

namespace Go.Proofs.YtgdijjfipicodaaDoor
open Go.RowKit

theorem allIn_oneH {n lo hi : Int} : allIn [n] lo hi ↔ lo ≤ n ∧ n ≤ hi := by
  constructor
  · intro h
    exact h 0 (by simp)
  · intro h k hk
    obtain rfl : k = 0 := by simp at hk; omega
    exact h
theorem ints_oneH (w : World) (n : Int) : IntsAt (w.alloc (.cells #[.int .i64 n] 3)) (some ⟨w.heap.size, 0, none⟩) [n] := by
  intro k hk
  obtain rfl : k = 0 := by simp at hk; omega
  refine ⟨w.heap.size, 0, rfl, ?_⟩
  rw [cell_of_row _ _ 0 _ _ _ (heap_alloc_new w _)]
  rfl
theorem wfI_tab {n c : Nat} {f : Nat → Nat → Int} (h : ∀ i j, i < n → j < c → -9223372036854775808 ≤ f i j ∧ f i j ≤ 9223372036854775807) : WfM (tab n c f) := by
  intro i hi j hj
  rw [tab_len] at hi
  rw [tab_row hi] at hj
  rw [gi_tab hi hj]
  exact h i j hi hj

/-- integers copied into a row of an owned grid, from a slice that may be nil -/
theorem wpList_copy_gridZ {w : World} {ops : Array Oper} {rest : List Oper} {o : Oper} {a : Act} {QQ : Exit → Act → World → Prop} (hgd : o.guard = none) (d s : Operand)
    (ho : o.op = .call { callee := .builtin .copy, args := #[d, s], argTypes := #[42, 42] }) {B n c : Nat} {v : Value} {f : Nat → Nat → Int} {vs : List Value} (hown : OwnP w B v n (tab n c f) n vs)
    (i off : Nat) (hi : i < n) (xs : List Int) (hfit : off + xs.length ≤ c) (g cap : Nat) (hvs : vs.getD i undef = .slice (some ⟨g, 0, none⟩) c cap) (dLen dCap sCap : Nat) (sp : Option Addr)
    (hd : a.eval d = .slice (some ⟨g, off, none⟩) dLen dCap) (hmin : xs.length ≤ dLen) (hs : a.eval s = .slice sp xs.length sCap) (hx : IntsAt w sp xs)
    (h : ∀ w', OwnP w' B v n (tab n c fun a b => if a = i ∧ off ≤ b ∧ b < off + xs.length then gi xs (b - off) else f a b) n vs → Below B w w' → wpList Tryd.prog ops QQ rest (a.put o.dst (goInt xs.length)) w') :
    wpList Tryd.prog ops QQ (o :: rest) a w := by
  by_cases h0 : xs.length = 0
  · refine wpList_copy_nothing hgd d s 42 42 ho 3 Tryd.underlying42 (by kernel_rfl) (some ⟨g, off, none⟩) sp dLen dCap xs.length sCap hd hs (by rw [h0]; exact Nat.zero_min _) ?_
    have e : (fun a b => if a = i ∧ off ≤ b ∧ b < off + xs.length then gi xs (b - off) else f a b) = f := by
      funext a b
      rw [if_neg (by omega)]
    have k := h w (by rw [e]; exact hown) (Below.refl _ _)
    rw [h0] at k
    exact k
  · obtain ⟨b2, o2, e, _⟩ := hx 0 (by omega)
    subst e
    exact wpList_copy_grid hgd d s ho hown i off hi xs hfit g cap hvs dLen dCap sCap b2 o2 hd hmin hs hx h

theorem lhF_wf {rows : List (List Int)} (hwf : WfM rows) (h : lhP rows) : WfM (lhM rows) := by
  refine wfI_tab fun i j hi hj => ?_
  unfold lhF
  have hl := h.2.2.2 i hi
  split
  · exact hwf i hi j (by omega)
  · split
    · omega
    · exact hwf i hi _ (by have := h.2.2.1; omega)
theorem lhM_small {rows : List (List Int)} (h : lhP rows) : Small (lhM rows) := ⟨by rw [lhM_len]; have := h.2.1; omega, fun i hi => by rw [lhM_len] at hi; unfold lhM; rw [tab_row hi]; have := h.2.1; omega⟩
theorem lhM_tab {rows : List (List Int)} {f : Nat → Nat → Int} (h : ∀ a b, a < rows.length → b < rows.length → f a b = lhF rows a b) : tab rows.length rows.length f = lhM rows :=
  eq_tab (tab_len _ _ _) (fun i hi => tab_row hi) fun i j hi hj => by rw [gi_tab hi hj, h i j hi hj]

end Go.Proofs.YtgdijjfipicodaaDoor

namespace Go.Proofs.YtgdijjfipicodaaDoor
open Go.ChangeShapes Go.WideShapes Go.ChangeAt Go.RowKit Go.Deep

theorem Tryd.own : ownKnob Tryd.prog.godebug = none := by kernel_rfl
theorem Tryd.laidOut : laidOutB Tryd.prog = true := by kernel_rfl
theorem Tryd.cells_int : Tryd.prog.cellsOf 3 = 1 := by kernel_rfl
theorem Tryd.cells_ints : Tryd.prog.cellsOf 42 = 1 := by kernel_rfl

theorem at_zero {w : World} {a : Addr} {v : Value} (h : w.cell? (a.add 0) = some v) : ∃ b o, a = ⟨b, o, none⟩ := by
  have hs := World.cell?_spot h
  obtain ⟨b, o, s⟩ := a
  exact ⟨b, o, by simpa [Addr.add] using hs⟩

/-- a slice of integers that came in -/
theorem open_ints_arg {H : Type} {enc : TypeId × Value → H} {w : World} {ao : Option Addr} {n c : Nat} {d : DataW H} {p : List MemPlace}
    (h : DataW.Trod enc Tryd.prog w 0 (fun _ => true) true 42 (.slice ao n c) d p) :
    ∃ xs : List Int, xs.length = n ∧ n ≤ 9223372036854775807 ∧ WfI xs ∧ IntsAt w ao xs := by
  obtain ⟨fuel, hf⟩ := h
  rcases open_ints Tryd.underlying42 Tryd.underlying3 Tryd.cells_int hf with ⟨hcs, _⟩ | ⟨x, l, c', zs, hcs, _, hl, hm, hz, _, hcell, hwz⟩
  · simp [Value.cells] at hcs
    obtain ⟨rfl, rfl, rfl⟩ := hcs
    exact ⟨[], rfl, by omega, fun i hi => absurd hi (by simp), IntsAt.nil _ _⟩
  · simp [Value.cells] at hcs
    obtain ⟨rfl, rfl, rfl⟩ := hcs
    simp only [if_true] at hz
    have hlen : (zs.take n).length = n := by rw [List.length_take]; omega
    have hgi : ∀ i, i < n → gi (zs.take n) i = zs.getD i 0 := fun i hi => by simp [gi, List.getD, hi]
    have hm' : c ≤ 9223372036854775807 := by simpa [maxLen] using hm
    refine ⟨zs.take n, hlen, by omega, fun i hi => ?_, fun i hi => ?_⟩
    · rw [hlen] at hi
      rw [hgi i hi]
      exact range_i64 hwz i
    · rw [hlen] at hi
      have hc := hcell i (by omega)
      obtain ⟨b, o, rfl⟩ := at_zero (hcell 0 (by omega))
      rw [Addr.add_lit] at hc
      exact ⟨b, o, rfl, by rw [hgi i hi]; exact hc⟩

/-- a slice of slices of integers that came in -/
theorem open_mat_arg {H : Type} {enc : TypeId × Value → H} {w : World} {ao : Option Addr} {n c : Nat} {d : DataW H} {p : List MemPlace}
    (h : DataW.Trod enc Tryd.prog w 0 (fun _ => true) true 22 (.slice ao n c) d p) :
    ∃ m : List (List Int), m.length = n ∧ n ≤ 9223372036854775807 ∧ WfM m ∧ (∀ i, i < m.length → (gr m i).length ≤ 9223372036854775807) ∧ MatAt w ao m := by
  obtain ⟨fuel, hf⟩ := h
  rcases open_int_rows Tryd.underlying22 Tryd.underlying42 Tryd.underlying3 Tryd.cells_ints Tryd.cells_int hf with ⟨hcs, _⟩ | ⟨x, l, c', A, L, C, Z, hcs, _, hl, hm, _, hrows⟩
  · simp [Value.cells] at hcs
    obtain ⟨rfl, rfl, rfl⟩ := hcs
    exact ⟨[], rfl, by omega, fun i hi => absurd hi (by simp), fun i hi => absurd hi (by simp), MatAt.nil _ _⟩
  · simp [Value.cells] at hcs
    obtain ⟨rfl, rfl, rfl⟩ := hcs
    have hm' : c ≤ 9223372036854775807 := by simpa [maxLen] using hm
    obtain ⟨m, hmd⟩ : ∃ m : List (List Int), m = (List.range n).map fun r => (Z r).take (L r) := ⟨_, rfl⟩
    have hlen : m.length = n := by rw [hmd]; simp
    have hgr : ∀ r, r < n → gr m r = (Z r).take (L r) := fun r hr => by rw [gr_lt (by omega)]; simp [hmd]
    have hL : ∀ r, r < n → (gr m r).length = L r ∧ L r ≤ C r ∧ C r ≤ 9223372036854775807 ∧ ∀ i, i < L r → gi (gr m r) i = (Z r).getD i 0 := by
      intro r hr
      obtain ⟨_, h1, h2, h3, _⟩ := hrows r (by omega)
      rw [hgr r hr]
      exact ⟨by rw [List.length_take]; omega, h1, by simpa [maxLen] using h2, fun i hi => by simp [gi, List.getD, hi]⟩
    refine ⟨m, hlen, by omega, fun r hr i hi => ?_, fun r hr => ?_, fun r hr => ?_⟩
    · rw [hlen] at hr
      obtain ⟨e, _, _, hg⟩ := hL r hr
      rw [e] at hi
      rw [hg i hi]
      exact range_i64 (hrows r (by omega)).2.2.2.2.1 i
    · rw [hlen] at hr
      obtain ⟨e, h1, h2, _⟩ := hL r hr
      omega
    · rw [hlen] at hr
      obtain ⟨e, h1, h2, hg⟩ := hL r hr
      obtain ⟨hc, _, _, hz, _, hnil, hcell⟩ := hrows r (by omega)
      obtain ⟨b, o, rfl⟩ := at_zero (hrows 0 (by omega)).1
      rw [Addr.add_lit] at hc
      refine ⟨b, o, A r, C r, rfl, by rw [e]; exact hc, fun i hi => ?_, by omega, h2⟩
      rw [e] at hi
      cases hA : A r with
      | none => have := hnil hA; omega
      | some a' =>
        have hc' := (hcell a' hA).2 i (by omega)
        obtain ⟨b', o', rfl⟩ := at_zero ((hcell a' hA).2 0 (by omega))
        rw [Addr.add_lit] at hc'
        exact ⟨b', o', rfl, by rw [hg i hi]; exact hc'⟩
end Go.Proofs.YtgdijjfipicodaaDoor

namespace Go.Proofs.YtgdijjfipicodaaDoor
open Go.ChangeShapes Go.WideShapes Go.ChangeAt Go.RowKit Go.Deep

def laid2 : List (String × DataW Unit) := [("math/bits.deBruijn32tab", Rows.laid_math_bits_deBruijn32tab), ("math/bits.deBruijn64tab", Rows.laid_math_bits_deBruijn64tab)]
def tab64 : List Int := [0, 1, 56, 2, 57, 49, 28, 3, 61, 58, 42, 50, 38, 29, 17, 4, 62, 47, 59, 36, 45, 43, 51, 22, 53, 39, 33, 30, 24, 18, 12, 5, 63, 55, 48, 27, 60, 41, 37, 16, 46, 35, 44, 21, 52, 32, 23, 11, 54, 26, 40, 15, 34, 20, 31, 10, 25, 14, 19, 9, 13, 8, 7, 6]
theorem tab64_is : (Rows.laid_math_bits_deBruijn64tab : DataW Unit) = .agg (tab64.map fun n => .lit (.int .u8 n)) := rfl
theorem tab64_at : ∀ i, i < 16 → tab64.getD (dbAt i) 0 = i := by decide

theorem tab_cell {W : World} (h : laidMetH Tryd.prog laid2 W) (j : Nat) (hr : j < 64) : W.cell? ⟨2, j, none⟩ = some (.int .u8 (tab64.getD j 0)) := by
  rw [MakeChecks.laidMetH_plain _ _ _ (by kernel_rfl)] at h
  obtain ⟨ps, hps, _, _⟩ := h
  obtain ⟨_, _, _, _, _, _, _, _, _, _, ⟨g, t, cs, fuel, p, q, hg, ht, hv, hd, _, _⟩, _⟩ := hps
  obtain rfl := Option.some.inj ((show Tryd.prog.globalNamed "math/bits.deBruijn64tab" = some 2 by kernel_rfl).symm.trans hg)
  obtain rfl := Option.some.inj ((show (Tryd.prog.globals[2]?).map (·.type) = some 103 by kernel_rfl).symm.trans ht)
  obtain ⟨xs, m, _, ex, _, hl, hel⟩ := DataW.trod_array Tryd.underlying103 hd
  have c5 : Tryd.prog.cellsOf 5 = 1 := by kernel_rfl
  have hE := hel (j) hr
  rw [c5, Nat.mul_one, List.getElem?_eq_getElem (by omega)] at hE
  obtain ⟨z, e1, e2, _⟩ := DataW.trod_int Tryd.underlying5 hE
  have hlen : tab64.length = 64 := by kernel_rfl
  rw [tab64_is] at ex
  have e3 : (xs.map (·.1)) = tab64.map fun n => .lit (.int .u8 n) := (DataW.agg.inj (Prod.mk.inj ex).1).symm
  have e4 : (xs.map (·.1))[j]? = (tab64.map fun n => (DataW.lit (.int .u8 n) : DataW Unit))[j]? := by rw [e3]
  rw [List.getElem?_map, List.getElem?_map, List.getElem?_eq_getElem (by omega : j < xs.length), List.getElem?_eq_getElem (by omega : j < tab64.length), e2] at e4
  have hz : z = tab64.getD (j) 0 := by
    simp only [Option.map_some, Option.some.injEq, DataW.lit.injEq, Lit.int.injEq, true_and] at e4
    rw [e4, List.getD, List.getElem?_eq_getElem (by omega : j < tab64.length)]; rfl
  rw [World.var?_cell hg hv (j), ← hz]
  have : cs.toList[j]? = some (.int .u8 z) := by
    have h0 : ((cs.toList.drop (j)).take 1)[0]? = some (.int .u8 z) := by rw [e1]; rfl
    simpa using h0
  simpa using this
theorem dj_of_laid {W : World} (h : laidMetH Tryd.prog laid2 W) : Dj W := by
  intro i hi
  have := tab_cell h (dbAt i) (dbAt_lt i hi)
  rw [tab64_at i hi] at this
  exact this
end Go.Proofs.YtgdijjfipicodaaDoor

namespace Go.Proofs.YtgdijjfipicodaaDoor
open Go.ChangeShapes Go.WideShapes Go.ChangeAt Go.RowKit Go.Deep

/-- the symmetries that a kind asks for -/
def kindL : Nat → List Int
  | 0 => [2]
  | 1 => [1]
  | 2 => [4]
  | 3 => [5]
  | _ => [4, 6]
/-- the variable reads so -/
def Sk (w : World) : Prop := ∀ k, k < 5 → ∃ ao c, w.cell? ⟨0, k, none⟩ = some (.slice ao (kindL k).length c) ∧ IntsAt w ao (kindL k)
theorem Sk.below {w w' : World} (h : Sk w) (hb : Below w.heap.size w w') : Sk w' := fun k hk => by
  obtain ⟨ao, c, h1, h2⟩ := h k hk
  exact ⟨ao, c, cell_below h1 hb, h2.below hb⟩
def laidK : List (String × DataW Unit) := [("loop.example/g01123/impl.symmetriesOfKind", Rows.laid_loop_example_g01123_impl_symmetriesOfKind)]
def laid3 : List (String × DataW Unit) := [("math/bits.deBruijn32tab", Rows.laid_math_bits_deBruijn32tab), ("math/bits.deBruijn64tab", Rows.laid_math_bits_deBruijn64tab), ("loop.example/g01123/impl.symmetriesOfKind", Rows.laid_loop_example_g01123_impl_symmetriesOfKind)]
def kindD (k : Nat) : DataW Unit := .slice (lits .i64 (kindL k)) []
theorem kind_is : (Rows.laid_loop_example_g01123_impl_symmetriesOfKind : DataW Unit) = .agg [kindD 0, kindD 1, kindD 2, kindD 3, kindD 4] := rfl
theorem lits_inj {k : IntKind} : ∀ {xs ys : List Int}, (lits k xs : List (DataW Unit)) = lits k ys → xs = ys
  | [], [], _ => rfl
  | [], y :: ys, h => by simp [lits] at h
  | x :: xs, [], h => by simp [lits] at h
  | x :: xs, y :: ys, h => by
    simp only [lits, List.map_cons, List.cons.injEq, DataW.lit.injEq, Lit.int.injEq, true_and] at h
    rw [h.1, lits_inj (k := k) (xs := xs) (ys := ys) h.2]
theorem kind_read {W : World} {base fuel : Nat} {spare : Nat → Bool} {held : Bool} {cs : List Value} {k : Nat} {y : DataW Unit × List MemPlace} {enc : TypeId × Value → Unit}
    (hd : DataW.trod enc Tryd.prog W base spare held fuel 42 cs = some y) (hy : y.1 = kindD k) : ∃ ao c, cs = [.slice ao (kindL k).length c] ∧ IntsAt W ao (kindL k) := by
  rcases open_ints Tryd.underlying42 Tryd.underlying3 Tryd.cells_int hd with ⟨_, e⟩ | ⟨a, len, cap, zs, hcs, _, hl, _, hz, hx, hcell, _⟩
  · rw [e] at hy
    simp [kindD] at hy
  · rw [hx] at hy
    simp only [kindD, DataW.slice.injEq] at hy
    have h1 : zs.take len = kindL k := lits_inj hy.1
    have hzl : len ≤ zs.length := by rw [hz]; split <;> omega
    have h2 : (kindL k).length = len := by rw [← h1, List.length_take]; omega
    refine ⟨some a, cap, by rw [hcs, h2], fun i hi => ?_⟩
    have hc := hcell i (by omega)
    obtain ⟨b, o, rfl⟩ := at_zero (hcell 0 (by omega))
    rw [Addr.add_lit] at hc
    refine ⟨b, o, rfl, ?_⟩
    rw [hc, ← h1]
    simp [gi, List.getD, List.getElem?_take, show i < len by omega]
theorem kind_all {W : World} {base fuel : Nat} {spare : Nat → Bool} {held : Bool} {cs : List Value} {pl : List MemPlace} {enc : TypeId × Value → Unit} (hcell : ∀ j, W.cell? ⟨0, j, none⟩ = cs[j]?)
    (hd : DataW.trod enc Tryd.prog W base spare held fuel 66 cs = some (Rows.laid_loop_example_g01123_impl_symmetriesOfKind, pl)) : Sk W := by
  intro k hk
  obtain ⟨xs, m, _, ex, _, hl, hel⟩ := DataW.trod_array Tryd.underlying66 hd
  have c5 : Tryd.prog.cellsOf 42 = 1 := by kernel_rfl
  have hE := hel k hk
  rw [c5, Nat.mul_one, List.getElem?_eq_getElem (by omega)] at hE
  rw [kind_is] at ex
  have e3 : (xs.map (·.1)) = [kindD 0, kindD 1, kindD 2, kindD 3, kindD 4] := (DataW.agg.inj (Prod.mk.inj ex).1).symm
  have e4 : (xs.map (·.1))[k]? = [kindD 0, kindD 1, kindD 2, kindD 3, kindD 4][k]? := by rw [e3]
  rw [List.getElem?_map, List.getElem?_eq_getElem (by omega : k < xs.length)] at e4
  have e5 : (xs[k]'(by omega)).1 = kindD k := by
    have hk5 : k = 0 ∨ k = 1 ∨ k = 2 ∨ k = 3 ∨ k = 4 := by omega
    rcases hk5 with rfl | rfl | rfl | rfl | rfl <;> simpa using e4
  obtain ⟨ao, c, h1, h2⟩ := kind_read hE e5
  refine ⟨ao, c, ?_, h2⟩
  rw [hcell k]
  have h0 : ((cs.drop k).take 1)[0]? = some (.slice ao (kindL k).length c) := by rw [h1]; rfl
  simpa using h0
theorem sk_of_laid {W : World} (h : laidMetH Tryd.prog laidK W) : Sk W := by
  rw [MakeChecks.laidMetH_plain _ _ _ (by kernel_rfl)] at h
  obtain ⟨ps, hps, _, _⟩ := h
  obtain ⟨g, t, cs, fuel, p, q, hg, ht, hv, hd, _, _⟩ := hps
  obtain rfl := Option.some.inj ((show Tryd.prog.globalNamed "loop.example/g01123/impl.symmetriesOfKind" = some 0 by kernel_rfl).symm.trans hg)
  obtain rfl := Option.some.inj ((show (Tryd.prog.globals[0]?).map (·.type) = some 66 by kernel_rfl).symm.trans ht)
  exact kind_all (fun j => by rw [World.var?_cell hg hv j]; simp) hd
theorem sk_of_laid3 {W : World} (h : laidMetH Tryd.prog laid3 W) : Sk W := by
  rw [MakeChecks.laidMetH_plain _ _ _ (by kernel_rfl)] at h
  obtain ⟨ps, hps, _, _⟩ := h
  obtain ⟨_, _, _, _, _, _, _, _, _, _, ⟨_, _, _, _, _, _, _, _, _, _, ⟨g, t, cs, fuel, p, q, hg, ht, hv, hd, _, _⟩, _⟩, _⟩ := hps
  obtain rfl := Option.some.inj ((show Tryd.prog.globalNamed "loop.example/g01123/impl.symmetriesOfKind" = some 0 by kernel_rfl).symm.trans hg)
  obtain rfl := Option.some.inj ((show (Tryd.prog.globals[0]?).map (·.type) = some 66 by kernel_rfl).symm.trans ht)
  exact kind_all (fun j => by rw [World.var?_cell hg hv j]; simp) hd
theorem tab_cell3 {W : World} (h : laidMetH Tryd.prog laid3 W) (j : Nat) (hr : j < 64) : W.cell? ⟨2, j, none⟩ = some (.int .u8 (tab64.getD j 0)) := by
  rw [MakeChecks.laidMetH_plain _ _ _ (by kernel_rfl)] at h
  obtain ⟨ps, hps, _, _⟩ := h
  obtain ⟨_, _, _, _, _, _, _, _, _, _, ⟨g, t, cs, fuel, p, q, hg, ht, hv, hd, _, _⟩, _⟩ := hps
  obtain rfl := Option.some.inj ((show Tryd.prog.globalNamed "math/bits.deBruijn64tab" = some 2 by kernel_rfl).symm.trans hg)
  obtain rfl := Option.some.inj ((show (Tryd.prog.globals[2]?).map (·.type) = some 103 by kernel_rfl).symm.trans ht)
  obtain ⟨xs, m, _, ex, _, hl, hel⟩ := DataW.trod_array Tryd.underlying103 hd
  have c5 : Tryd.prog.cellsOf 5 = 1 := by kernel_rfl
  have hE := hel (j) hr
  rw [c5, Nat.mul_one, List.getElem?_eq_getElem (by omega)] at hE
  obtain ⟨z, e1, e2, _⟩ := DataW.trod_int Tryd.underlying5 hE
  have hlen : tab64.length = 64 := by kernel_rfl
  rw [tab64_is] at ex
  have e3 : (xs.map (·.1)) = tab64.map fun n => .lit (.int .u8 n) := (DataW.agg.inj (Prod.mk.inj ex).1).symm
  have e4 : (xs.map (·.1))[j]? = (tab64.map fun n => (DataW.lit (.int .u8 n) : DataW Unit))[j]? := by rw [e3]
  rw [List.getElem?_map, List.getElem?_map, List.getElem?_eq_getElem (by omega : j < xs.length), List.getElem?_eq_getElem (by omega : j < tab64.length), e2] at e4
  have hz : z = tab64.getD (j) 0 := by
    simp only [Option.map_some, Option.some.injEq, DataW.lit.injEq, Lit.int.injEq, true_and] at e4
    rw [e4, List.getD, List.getElem?_eq_getElem (by omega : j < tab64.length)]; rfl
  rw [World.var?_cell hg hv (j), ← hz]
  have : cs.toList[j]? = some (.int .u8 z) := by
    have h0 : ((cs.toList.drop (j)).take 1)[0]? = some (.int .u8 z) := by rw [e1]; rfl
    simpa using h0
  simpa using this
theorem dj_of_laid3 {W : World} (h : laidMetH Tryd.prog laid3 W) : Dj W := by
  intro i hi
  have := tab_cell3 h (dbAt i) (dbAt_lt i hi)
  rw [tab64_at i hi] at this
  exact this
end Go.Proofs.YtgdijjfipicodaaDoor

