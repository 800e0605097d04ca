/- Parts of proofs: contracts and plain facts. Conditions: as each says. -/
import Derived.Test.YtmkldodkpijfjaaDoorK19
import Derived.Laws.AppendOwnNone
import Derived.Lib.AppendZeros
import Derived.Laws.OwnMore
import Derived.Maps.AppendAt
namespace Go.Proofs.YtmkldodkpijfjaaDoor
open Go.RowKit

/-- differences of corner sums, as int wraps them -/
def dfW (c : List (List Int)) (i j : Nat) : Int :=
  IntKind.i64.wrap (IntKind.i64.wrap (IntKind.i64.wrap (gi (gr c i) j - atC c ((i : Int) - 1) j) - atC c i ((j : Int) - 1)) + atC c ((i : Int) - 1) ((j : Int) - 1))
def dmW (c : List (List Int)) : List (List Int) := tab c.length c.length (dfW c)
theorem dmW_len (c : List (List Int)) : (dmW c).length = c.length := tab_len _ _ _

theorem sumF_add (f g : Nat → Int) (k : Nat) : sumF (fun i => f i + g i) k = sumF f k + sumF g k := by
  induction k with
  | zero => rfl
  | succ k ih => simp only [sumF]; omega
theorem sumF_zero (k : Nat) : sumF (fun _ => 0) k = 0 := by
  induction k with
  | zero => rfl
  | succ k ih => simp only [sumF]; omega
theorem S2_swap (m : List (List Int)) (a b : Nat) : S2 m a b = sumF (fun j => sumF (fun i => gi (gr m i) j) a) b := by
  induction a with
  | zero => show (0 : Int) = sumF (fun _ => 0) b; rw [sumF_zero]
  | succ a ih =>
    rw [S2_succ, ih, ← sumF_add]
    rfl
theorem sumK_sumF (xs : List Int) (k : Nat) : sumK xs k = sumF (fun i => gi xs i) k := by
  induction k with
  | zero => rfl
  | succ k ih => simp only [sumK, sumF]; rw [ih]
theorem S2_cols {m : List (List Int)} {a b : Nat} (ha : a ≤ m.length) (hb : b ≤ m.length) : S2 m a b = sumF (fun j => sumK (gr (tr m) j) a) b := by
  rw [S2_swap]
  refine sumF_congr fun j hj => ?_
  rw [sumK_sumF]
  exact sumF_congr fun i hi => (gi_tr (by omega) (by omega)).symm
theorem S2_range {m : List (List Int)} (h : good m) {a b : Nat} (ha : a ≤ m.length) (hb : b ≤ m.length) : 0 ≤ S2 m a b ∧ S2 m a b ≤ b := by
  rw [S2_cols ha hb]
  have : ∀ k, k ≤ b → 0 ≤ sumF (fun j => sumK (gr (tr m) j) a) k ∧ sumF (fun j => sumK (gr (tr m) j) a) k ≤ k := by
    intro k
    induction k with
    | zero => simp [sumF]
    | succ k ih =>
      intro hk
      have h1 := ih (by omega)
      have h2 := (h.2.2 k (by rw [tr_len]; omega)).1 a (by rw [tr_row (by omega)]; exact ha)
      simp only [sumF]
      omega
  exact this b (Nat.le_refl _)
theorem S2_step (m : List (List Int)) (i j : Nat) : S2 m (i + 1) (j + 1) = S2 m i (j + 1) + S2 m (i + 1) j - S2 m i j + gi (gr m i) j := by
  rw [S2_succ, S2_succ]
  simp only [sumF]
  omega
theorem S2_zero_col (m : List (List Int)) (a : Nat) : S2 m a 0 = 0 := by
  show sumF (fun _ => (0 : Int)) a = 0
  exact sumF_zero a

theorem wrap_eq (n : Int) : IntKind.i64.wrap n = (n + 9223372036854775808) % 18446744073709551616 - 9223372036854775808 := by
  rw [IntKind.wrap_i64]

theorem wrap_core {x A B C d : Int} (hx : -9223372036854775808 ≤ x ∧ x ≤ 9223372036854775807) (hA : -36 ≤ A ∧ A ≤ 36) (hB : -36 ≤ B ∧ B ≤ 36) (hC : -36 ≤ C ∧ C ≤ 36) (hd : -1 ≤ d ∧ d ≤ 1)
    (h : d = IntKind.i64.wrap (IntKind.i64.wrap (IntKind.i64.wrap (x - A) - B) + C)) : x = A + B - C + d := by
  rw [wrap_eq, wrap_eq, wrap_eq] at h
  omega

theorem dmW_sums {c : List (List Int)} (hsq : square c) (hwf : WfM c) (hg : good (dmW c)) : ∀ i, i < c.length → ∀ j, j < c.length → gi (gr c i) j = S2 (dmW c) (i + 1) (j + 1) := by
  intro i
  induction i with
  | zero =>
    intro h0 j
    induction j with
    | zero =>
      intro hj
      have hd := good_entry hg (i := 0) (j := 0) (by rw [dmW_len]; exact h0) (by rw [dmW_len]; exact hj)
      have e : gi (gr (dmW c) 0) 0 = dfW c 0 0 := gi_tab h0 hj
      have hx := hwf 0 h0 0 (by rw [hsq.2.2 0 h0]; exact hj)
      rw [S2_step, S2_zero_col, S2_zero_col]
      have := wrap_core hx (A := 0) (B := 0) (C := 0) (by omega) (by omega) (by omega) hd (by rw [e]; rfl)
      show _ = 0 + 0 - 0 + _
      omega
    | succ j ih =>
      intro hj
      have ih := ih (by omega)
      have hd := good_entry hg (i := 0) (j := j + 1) (by rw [dmW_len]; exact h0) (by rw [dmW_len]; exact hj)
      have e : gi (gr (dmW c) 0) (j + 1) = dfW c 0 (j + 1) := gi_tab h0 hj
      have hx := hwf 0 h0 (j + 1) (by rw [hsq.2.2 0 h0]; exact hj)
      have hb := S2_bound hg (a := 0 + 1) (b := j + 1) (by rw [dmW_len]; omega) (by rw [dmW_len]; omega)
      have eB : atC c ((0 : Nat) : Int) (((j + 1 : Nat) : Int) - 1) = S2 (dmW c) (0 + 1) (j + 1) := by
        rw [show (((j + 1 : Nat) : Int) - 1) = (j : Int) from by omega, atC_nat, ih]
      rw [S2_step]
      have := wrap_core hx (A := 0) (B := S2 (dmW c) (0 + 1) (j + 1)) (C := 0) (by omega) hb (by omega) hd (by rw [e, ← eB]; rfl)
      show _ = 0 + _ - 0 + _
      omega
  | succ i ihi =>
    intro hi j
    have ihi := ihi (by omega)
    induction j with
    | zero =>
      intro hj
      have hd := good_entry hg (i := i + 1) (j := 0) (by rw [dmW_len]; exact hi) (by rw [dmW_len]; exact hj)
      have e : gi (gr (dmW c) (i + 1)) 0 = dfW c (i + 1) 0 := gi_tab hi hj
      have hx := hwf (i + 1) hi 0 (by rw [hsq.2.2 (i + 1) hi]; exact hj)
      have hb := S2_bound hg (a := i + 1) (b := 0 + 1) (by rw [dmW_len]; omega) (by rw [dmW_len]; omega)
      have eA : atC c (((i + 1 : Nat) : Int) - 1) ((0 : Nat) : Int) = S2 (dmW c) (i + 1) (0 + 1) := by
        rw [show (((i + 1 : Nat) : Int) - 1) = (i : Int) from by omega, atC_nat, ihi 0 hj]
      have z1 : atC c ((i + 1 : Nat) : Int) (((0 : Nat) : Int) - 1) = 0 := by unfold atC; rw [if_neg (by omega), if_pos (by omega)]
      have z2 : atC c (((i + 1 : Nat) : Int) - 1) (((0 : Nat) : Int) - 1) = 0 := by unfold atC; rw [if_neg (by omega), if_pos (by omega)]
      rw [S2_step, S2_zero_col, S2_zero_col]
      have := wrap_core hx (A := S2 (dmW c) (i + 1) (0 + 1)) (B := 0) (C := 0) hb (by omega) (by omega) hd (by rw [e]; unfold dfW; rw [eA, z1, z2])
      omega
    | succ j ihj =>
      intro hj
      have ihj := ihj (by omega)
      have hd := good_entry hg (i := i + 1) (j := j + 1) (by rw [dmW_len]; exact hi) (by rw [dmW_len]; exact hj)
      have e : gi (gr (dmW c) (i + 1)) (j + 1) = dfW c (i + 1) (j + 1) := gi_tab hi hj
      have hx := hwf (i + 1) hi (j + 1) (by rw [hsq.2.2 (i + 1) hi]; exact hj)
      have b1 := S2_bound hg (a := i + 1) (b := j + 1 + 1) (by rw [dmW_len]; omega) (by rw [dmW_len]; omega)
      have b2 := S2_bound hg (a := i + 1 + 1) (b := j + 1) (by rw [dmW_len]; omega) (by rw [dmW_len]; omega)
      have b3 := S2_bound hg (a := i + 1) (b := j + 1) (by rw [dmW_len]; omega) (by rw [dmW_len]; omega)
      have eA : atC c (((i + 1 : Nat) : Int) - 1) ((j + 1 : Nat) : Int) = S2 (dmW c) (i + 1) (j + 1 + 1) := by
        rw [show (((i + 1 : Nat) : Int) - 1) = (i : Int) from by omega, atC_nat, ihi (j + 1) hj]
      have eB : atC c ((i + 1 : Nat) : Int) (((j + 1 : Nat) : Int) - 1) = S2 (dmW c) (i + 1 + 1) (j + 1) := by
        rw [show (((j + 1 : Nat) : Int) - 1) = (j : Int) from by omega, atC_nat, ihj]
      have eC : atC c (((i + 1 : Nat) : Int) - 1) (((j + 1 : Nat) : Int) - 1) = S2 (dmW c) (i + 1) (j + 1) := by
        rw [show (((i + 1 : Nat) : Int) - 1) = (i : Int) from by omega, show (((j + 1 : Nat) : Int) - 1) = (j : Int) from by omega, atC_nat, ihi j (by omega)]
      rw [S2_step]
      have := wrap_core hx b1 b2 b3 hd (by rw [e]; unfold dfW; rw [eA, eB, eC])
      omega

theorem dmW_dm {c : List (List Int)} (hsq : square c) (h : inRange c) : dmW c = dm c := by
  have hn := hsq.2.1
  refine eq_tab (dmW_len c) (fun i hi => tab_row hi) fun i j hi hj => ?_
  rw [show gi (gr (dmW c) i) j = dfW c i j from gi_tab hi hj]
  have h1 := atC_range h (i := i) (j := j) (by omega) (by omega)
  have h2 := atC_range h (i := (i : Int) - 1) (j := j) (by omega) (by omega)
  have h3 := atC_range h (i := i) (j := (j : Int) - 1) (by omega) (by omega)
  have h4 := atC_range h (i := (i : Int) - 1) (j := (j : Int) - 1) (by omega) (by omega)
  unfold dfW df
  rw [← atC_nat]
  rw [w64 (n := atC c i j - atC c ((i : Int) - 1) j) (by omega), w64 (n := atC c i j - atC c ((i : Int) - 1) j - atC c i ((j : Int) - 1)) (by omega), w64 (by omega)]

/-- corner sums of a sign matrix -/
def isCorners (c : List (List Int)) : Prop := square c ∧ inRange c ∧ good (dm c)
theorem corners_iff {c : List (List Int)} (hwf : WfM c) : square c ∧ good (dmW c) ↔ isCorners c := by
  constructor
  · rintro ⟨hsq, hg⟩
    have hr : inRange c := by
      intro i j hi hj
      rw [dmW_sums hsq hwf hg i hi j hj]
      have := S2_range hg (a := i + 1) (b := j + 1) (by rw [dmW_len]; omega) (by rw [dmW_len]; omega)
      omega
    exact ⟨hsq, hr, by rw [← dmW_dm hsq hr]; exact hg⟩
  · rintro ⟨hsq, hr, hg⟩
    exact ⟨hsq, by rw [dmW_dm hsq hr]; exact hg⟩

theorem wf_dmW {c : List (List Int)} : WfM (dmW c) := by
  intro i hi j hj
  rw [dmW_len] at hi
  have hj' : j < c.length := by have := tab_row (n := c.length) (c := c.length) (f := dfW c) hi; unfold dmW at hj; omega
  rw [show gi (gr (dmW c) i) j = dfW c i j from gi_tab hi hj']
  unfold dfW
  rw [wrap_eq (_ + _)]
  omega
theorem square_dmW {c : List (List Int)} (h : square c) : square (dmW c) := ⟨by rw [dmW_len]; exact h.1, by rw [dmW_len]; exact h.2.1, fun i hi => by rw [dmW_len] at hi ⊢; exact tab_row hi⟩

/-- all numbers lie between two bounds -/
def allIn (xs : List Int) (lo hi : Int) : Prop := ∀ i, i < xs.length → lo ≤ gi xs i ∧ gi xs i ≤ hi

set_option maxRecDepth 100000 in
set_option maxHeartbeats 800000 in
theorem l1All_any (ao : Option Addr) (c : Nat) (xs : List Int) (lo hi : Int) (w : World) (hn : xs.length ≤ 1048576) (hx : IntsAt w ao xs) :
    Calls Tryd.prog 101 #[.slice ao xs.length c, .int .i64 lo, .int .i64 hi] w fun e w' => Ans (allIn xs lo hi) e ∧ w = w' := by
  have hmx : xs.length ≤ 9223372036854775807 := by omega
  have Hx := Lib.hid hx
  clear hx
  go_enter Tryd.func101, Tryd.ntmps101
  go_wp2
  go_loop [11] (fun i => ∃ k : Nat, k ≤ xs.length ∧ i = .int .i64 k ∧ ∀ j, j < k → lo ≤ gi xs j ∧ gi xs j ≤ hi) (fun i => xs.length - (intOf i).toNat)
  case atStart => exact ⟨0, Nat.zero_le _, rfl, fun j hj => absurd hj (by omega)⟩
  case round =>
    obtain ⟨k, hk, rfl, hd⟩ := hrel
    have Hd := Lib.hid hd
    clear hd
    by_cases hlt : k < xs.length
    · obtain ⟨b1, o1, rfl, hc1⟩ := Hx.out k hlt
      go_wp2_with fail
      refine (l1In_any _ _ _ w).mono ?_
      rintro e w2 ⟨ha, rfl⟩
      by_cases hin : lo ≤ gi xs k ∧ gi xs k ≤ hi
      · have Hin := Lib.hid hin
        clear hin
        obtain rfl := ha.is Hin.out
        clear ha
        go_wp2
        go_round
        case rel =>
          refine ⟨k + 1, by omega, by go_num, fun j hj => ?_⟩
          by_cases e : j = k
          · subst e; exact Hin.out
          · exact Hd.out j (by omega)
        case measure => simp [intOf]; omega
      · have Hin := Lib.hid hin
        clear hin
        obtain rfl := ha.isnt Hin.out
        clear ha
        go_wp2
        go_ret
        exact ⟨Ans.no fun h => Hin.out (h k hlt), rfl⟩
    · obtain rfl : k = xs.length := by omega
      go_wp2
      go_ret
      exact ⟨Ans.yes Hd.out, rfl⟩

theorem dm_small {m : List (List Int)} (h : square m) : Small (dm m) := ⟨by rw [dm_len]; have := h.2.1; omega, fun i hi => by rw [dm_len] at hi; unfold dm; rw [tab_row hi]; have := h.2.1; omega⟩
end Go.Proofs.YtmkldodkpijfjaaDoor

namespace Go.Proofs.YtmkldodkpijfjaaDoor
open Go.RowKit

/-- appending a slice of integers, whatever its address, to one that the call owns -/
theorem wpList_appendI {w : World} {ops : Array Oper} {rest : List Oper} {o : Oper} {a : Act} {Q : Exit → Act → World → Prop} (hgd : o.guard = none) (s x : Operand)
    (ho : o.op = .call { callee := .builtin .append, args := #[s, x], argTypes := #[22, 22] })
    (base : Nat) (v : Value) (xs : List Int) (hs : a.eval s = v) (hown : OwnI w base v xs)
    (ao : Option Addr) (c : Nat) (ys : List Int) (hx : a.eval x = .slice ao ys.length c) (hc : ao = none → c = 0 ∧ ys = []) (hys : IntsAt w ao ys)
    (h63 : xs.length + ys.length ≤ 1048576) (hbase : base ≤ w.heap.size)
    (h : ∀ v' w', OwnI w' base v' (xs ++ ys) → w.grownBy w' v.ownBlock → Below base w w' → wpList Tryd.prog ops Q rest (a.put o.dst v') w') : wpList Tryd.prog ops Q (o :: rest) a w := by
  obtain ⟨i0, hi, hz0, hz1, hz2⟩ := info_parts Tryd.info_int
  cases ao with
  | none =>
    obtain ⟨rfl, rfl⟩ := hc rfl
    exact wpList_append_own_none hgd s x 22 ho base 3 i0 1 Tryd.underlying22 hi v xs.length _ hs hown hx (h v w (by rw [List.append_nil]; exact hown) (World.grownBy.refl _ _) (Below.refl _ _))
  | some ad =>
    refine wpList_append_own _ hgd s x 22 ho base 3 i0 (.int .i64 0) 1 8 Tryd.underlying22 hi hz0 hz1 hz2 rfl (by decide) v xs.length _ hs hown ad ys.length c (ys.map (Value.int .i64)) hx (by simp) ?_ (by intro u hu; obtain ⟨y, _, rfl⟩ := List.mem_map.1 hu; rfl) (by unfold maxLen; omega) (by omega) hbase ?_
    · intro j u hj
      have hjl : j < ys.length := by
        have := (List.getElem?_eq_some_iff.1 hj).1
        simpa using this
      obtain ⟨b, o', e, hcell⟩ := hys j hjl
      cases e
      have e : (ys.map (Value.int .i64))[j]? = some (Value.int .i64 (gi ys j)) := by simp [gi, List.getD, hjl]
      rw [e] at hj
      cases hj
      rw [Addr.add_lit]
      exact hcell
    · intro v' w' h1 h2 _
      refine h v' w' ?_ h2 (Below.grown (Below.refl _ _) h2 hbase (fun k hk => (World.ownsRow.lt hown k hk).1))
      unfold OwnI
      rw [List.length_append, List.map_append]
      exact h1

/-- rows that are empty and have no address have no room either -/
def NilRows (w : World) (ao : Option Addr) (rows : List (List Int)) : Prop := ∀ k b o r c, k < rows.length → ao = some ⟨b, o, none⟩ → w.cell? ⟨b, o + k, none⟩ = some (.slice r (gr rows k).length c) → r = none → c = 0 ∧ gr rows k = []
theorem nilRows_full {w : World} {ao : Option Addr} {rows : List (List Int)} (hm : MatAt w ao rows) (h : ∀ k, k < rows.length → 1 ≤ (gr rows k).length) : NilRows w ao rows := by
  intro k b o r c hk e hc hr
  obtain ⟨b1, o1, r1, d1, e1, hc1, hr1, _, _⟩ := hm k hk
  rw [e] at e1
  simp only [Option.some.injEq, Addr.mk.injEq, and_true] at e1
  obtain ⟨rfl, rfl⟩ := e1
  rw [hc1] at hc
  simp only [Option.some.injEq, Value.slice.injEq] at hc
  obtain ⟨b2, o2, e2, _⟩ := hr1 0 (h k hk)
  rw [hc.1, hr] at e2
  cases e2

def lenT (rows : List (List Int)) (k : Nat) : Nat := (rows.take k).flatten.length
theorem lenT_succ {rows : List (List Int)} {k : Nat} (h : k < rows.length) : lenT rows (k + 1) = lenT rows k + (gr rows k).length := by
  unfold lenT
  rw [take_flat h, List.length_append]
theorem lenT_mono {rows : List (List Int)} {k : Nat} (h : k ≤ rows.length) : lenT rows k ≤ rows.flatten.length := by
  unfold lenT
  have := List.take_append_drop k rows
  conv => rhs; rw [← this]
  rw [List.flatten_append, List.length_append]
  omega

end Go.Proofs.YtmkldodkpijfjaaDoor

namespace Go.Proofs.YtmkldodkpijfjaaDoor
open Go.RowKit

theorem OwnP.more {w : World} {B : Nat} {v : Value} {M : List (List Int)} {r : List Int} {vs : List Value} (h : OwnP w B v M.length M M.length vs) : OwnP w B v M.length (M ++ [r]) M.length vs :=
  ⟨h.top, fun i hi => by rw [gr_lt (by simp; omega), List.getElem_append_left hi, ← gr_lt hi]; exact h.rows i hi, h.apart⟩
theorem gr_last (M : List (List Int)) (r : List Int) : gr (M ++ [r]) M.length = r := by
  rw [gr_lt (by simp)]
  simp
end Go.Proofs.YtmkldodkpijfjaaDoor

namespace Go.Proofs.YtmkldodkpijfjaaDoor
open Go.RowKit

/-- the blocks from lo up to hi are as they were -/
def Same (lo hi : Nat) (w w' : World) : Prop := ∀ g, lo ≤ g → g < hi → w'.heap[g]? = w.heap[g]?
theorem Same.refl (lo hi : Nat) (w : World) : Same lo hi w w := fun _ _ _ => rfl
theorem Same.trans {lo hi : Nat} {a b c : World} (h : Same lo hi a b) (k : Same lo hi b c) : Same lo hi a c := fun g h1 h2 => (k g h1 h2).trans (h g h1 h2)
theorem Same.of_below {lo hi B : Nat} {w w' : World} (h : Below B w w') (hB : hi ≤ B) : Same lo hi w w' := fun g _ h2 => h.block g (by omega)
theorem Same.of_grown {lo hi : Nat} {w w' : World} {row : Option Nat} (h : w.grownBy w' row) (hs : hi ≤ w.heap.size) (hr : ∀ g, row = some g → g < lo ∨ hi ≤ g) : Same lo hi w w' :=
  fun g h1 h2 => h.block g (by omega) (fun e => by have := hr g e.symm; omega)
theorem ownsRow_same {w w' : World} {B : Nat} {e : TypeId} {v : Value} {n : Nat} {xs : List Value} (h : w.ownsRow B e 1 v n xs) (hs : Same B w.heap.size w w') : w'.ownsRow B e 1 v n xs := by
  refine ⟨h.1, ?_⟩
  rcases h.2 with h0 | ⟨g, cap, cur, rfl, hg, hh, r⟩
  · exact .inl h0
  · exact .inr ⟨g, cap, cur, rfl, hg, by rw [hs g hg (lt_of_block hh)]; exact hh, r⟩
theorem OwnP.same {w w' : World} {B n k : Nat} {v : Value} {m : List (List Int)} {vs : List Value} (h : OwnP w B v n m k vs) (hs : Same B w.heap.size w w') : OwnP w' B v n m k vs :=
  ⟨ownsRow_same h.top hs, fun i hi => ownsRow_same (h.rows i hi) hs, h.apart⟩
/-- a row of an owned table: where its slice lies, and that it is owned -/
theorem OwnP.rowAt {w : World} {B n c : Nat} {ao : Option Addr} {m : List (List Int)} {vs : List Value} (h : OwnP w B (.slice ao n c) n m n vs) {i : Nat} (hi : i < n) :
    ∃ b o r d, ao = some ⟨b, o, none⟩ ∧ w.cell? ⟨b, o + i, none⟩ = some (.slice r (gr m i).length d) ∧ vs.getD i undef = .slice r (gr m i).length d ∧ OwnI w B (.slice r (gr m i).length d) (gr m i) ∧ (gr m i).length ≤ d ∧ d ≤ 9223372036854775807 := by
  obtain ⟨ao', c', hv, _, _, hcells⟩ := ownsRow_read h.top
  obtain ⟨rfl, -, rfl⟩ := (Value.slice.injEq _ _ _ _ _ _).mp hv
  obtain ⟨b, o, e, hc⟩ := hcells i hi
  have hrow := h.rows i hi
  obtain ⟨r, d, hr, h1, h2, _⟩ := hrow.read
  rw [hr] at hc hrow
  exact ⟨b, o, r, d, e, hc, hr, hrow, h1, h2⟩
theorem OwnI.same_at {w w' : World} {B n c : Nat} {ao : Option Addr} {xs : List Int} (h : OwnI w B (.slice ao n c) xs) (hs : Same B w.heap.size w w') : IntsAt w' ao xs := own_at (ownsRow_same h hs)
end Go.Proofs.YtmkldodkpijfjaaDoor

namespace Go.Proofs.YtmkldodkpijfjaaDoor
open Go.RowKit

theorem gr_appl {m k : List (List Int)} {i : Nat} (h : i < m.length) : gr (m ++ k) i = gr m i := by
  rw [gr_lt (by simp; omega), gr_lt h, List.getElem_append_left h]
theorem gr_appr {m k : List (List Int)} {i : Nat} (h : i < k.length) : gr (m ++ k) (m.length + i) = gr k i := by
  rw [gr_lt (by simp; omega), gr_lt h, List.getElem_append_right (by omega)]
  simp

/-- a table that a call owns, its rows apart -/
def OwnT (w : World) (B : Nat) (v : Value) (m : List (List Int)) (vs : List Value) : Prop := OwnP w B v m.length m m.length vs
theorem OwnT.below {w w' : World} {B : Nat} {v : Value} {m : List (List Int)} {vs : List Value} (h : OwnT w B v m vs) (hb : Below w.heap.size w w') : OwnT w' B v m vs := OwnP.below h hb
theorem OwnT.base {w : World} {B B' : Nat} {v : Value} {m : List (List Int)} {vs : List Value} (h : OwnT w B v m vs) (hB : B' ≤ B) : OwnT w B' v m vs := OwnP.base h hB
theorem OwnT.nil (w : World) (B : Nat) : OwnT w B (.slice none 0 0) [] [] := ⟨World.ownsRow_nil _ _ _ _, fun i hi => absurd hi (by simp), fun i j _ hj => absurd hj (by simp)⟩
theorem OwnT.toM {w : World} {B : Nat} {v : Value} {m : List (List Int)} {vs : List Value} (h : OwnT w B v m vs) : OwnM w B v m := ⟨vs, h⟩
theorem OwnT.read {w : World} {B : Nat} {v : Value} {m : List (List Int)} {vs : List Value} (h : OwnT w B v m vs) : ∃ ao c, v = .slice ao m.length c ∧ m.length ≤ c ∧ c ≤ 9223372036854775807 ∧ MatAt w ao m := h.toM.read
theorem OwnT.len {w : World} {B : Nat} {v : Value} {m : List (List Int)} {vs : List Value} (h : OwnT w B v m vs) : vs.length = m.length := by simpa using h.top.1
/-- the rows' blocks -/
theorem OwnT.old {w : World} {B : Nat} {v : Value} {m : List (List Int)} {vs : List Value} (h : OwnT w B v m vs) : ∀ i, i < m.length → ∀ g, (vs.getD i undef).ownBlock = some g → B ≤ g ∧ g < w.heap.size := fun i hi g hg => (h.rows i hi).lt g hg
theorem OwnI.kept_tab {w w1 : World} {B B' n : Nat} {x u : Value} {ys : List Int} {vs : List Value} (hx : OwnI w B x ys) (ht : w.ownsRow B' 22 1 u n vs) (hg : w.grownBy w1 u.ownBlock) : OwnI w1 B x ys := by
  refine World.ownsRow.kept hx hg ?_
  cases hb : x.ownBlock with
  | none => exact .inl rfl
  | some g => exact .inr (fun e => hx.ne_row ht g hb e.symm)
theorem OwnT.cells {w : World} {B n : Nat} {ad : Addr} {m : List (List Int)} {vs : List Value} {c : Nat} (h : OwnT w B (.slice (some ad) n c) m vs) : (∀ j u, vs[j]? = some u → w.cell? (ad.add j) = some u) ∧ (∀ u ∈ vs, u.oneCell' = true) := by
  have hl := h.len
  obtain ⟨ao, c', e, _, _, hc⟩ := ownsRow_read h.top
  cases e
  refine ⟨fun j u hj => ?_, fun u hu => ?_⟩
  · have hjl : j < vs.length := (List.getElem?_eq_some_iff.1 hj).1
    obtain ⟨b3, o3, e3, hc3⟩ := hc j (by omega)
    cases e3
    rw [Addr.add_lit, hc3, List.getD, hj]
    rfl
  · obtain ⟨i, hi, rfl⟩ := List.mem_iff_getElem.1 hu
    have := (h.rows i (by omega)).read
    rw [List.getD, List.getElem?_eq_getElem hi] at this
    obtain ⟨_, _, e, _⟩ := this
    rw [show vs[i] = (some vs[i]).getD undef from rfl, e]
    rfl
/-- a table behind which the rows of another one, younger, have been put -/
theorem OwnT.join {w w1 : World} {B B' : Nat} {v v' u : Value} {m k : List (List Int)} {vs us : List Value} (h : OwnT w B v m vs) (hk : OwnT w B' u k us) (hBB : B ≤ B')
    (hold : ∀ i, i < m.length → ∀ g, (vs.getD i undef).ownBlock = some g → g < B')
    (h1 : w1.ownsRow B 22 1 v' (m.length + k.length) (vs ++ us)) (kept : ∀ (x : Value) (ys : List Int), OwnI w B x ys → OwnI w1 B x ys) : OwnT w1 B v' (m ++ k) (vs ++ us) := by
  have hl := h.len
  have hl2 := hk.len
  have gl : ∀ i, i < m.length → (vs ++ us).getD i undef = vs.getD i undef := fun i hi => by
    simp only [List.getD]; rw [List.getElem?_append_left (by omega)]
  have grr : ∀ i, m.length ≤ i → (vs ++ us).getD i undef = us.getD (i - m.length) undef := fun i hi => by
    simp only [List.getD]; rw [List.getElem?_append_right (by omega), hl]
  refine ⟨by rw [List.length_append]; exact h1, fun i hi => ?_, fun i j hij hj g hg => ?_⟩
  · rw [List.length_append] at hi
    by_cases hi2 : i < m.length
    · rw [gl i hi2, gr_appl hi2]
      exact kept _ _ (h.rows i hi2)
    · rw [grr i (by omega), show i = m.length + (i - m.length) from by omega, gr_appr (by omega), show m.length + (i - m.length) - m.length = i - m.length from by omega]
      exact kept _ _ ((hk.rows (i - m.length) (by omega)).base hBB)
  · rw [List.length_append] at hj
    by_cases hj2 : j < m.length
    · rw [gl i (by omega)] at hg
      rw [gl j hj2]
      exact h.apart i j hij hj2 g hg
    · rw [grr j (by omega)]
      by_cases hi2 : i < m.length
      · rw [gl i hi2] at hg
        intro hg2
        have a := hold i hi2 g hg
        have b := ((hk.rows (j - m.length) (by omega)).lt g hg2).1
        omega
      · rw [grr i (by omega)] at hg
        exact hk.apart (i - m.length) (j - m.length) (by omega) (by omega) g hg

/-- a number is appended to a row -/
theorem wpList_numT {w : World} {ops : Array Oper} {rest : List Oper} {o : Oper} {a : Act} {Q : Exit → Act → World → Prop} (hgd : o.guard = none) (s x : Operand)
    (ho : o.op = .call { callee := .builtin .append, args := #[s, x], argTypes := #[22, 22] })
    (B : Nat) (v : Value) (xs : List Int) (y : Int) (h : OwnI w B v xs) (hs : a.eval s = v) (hx : a.eval x = .slice (some ⟨w.heap.size, 0, none⟩) 1 1) (hB : B ≤ w.heap.size) (hl : xs.length < 1048576)
    (K : ∀ v' w1, OwnI w1 B v' (xs ++ [y]) → Below B w w1 → wpList Tryd.prog ops Q rest (a.put o.dst v') w1) : wpList Tryd.prog ops Q (o :: rest) a (w.alloc (.cells #[.int .i64 y] 3)) := by
  obtain ⟨i0, hi, hz0, hz1, hz2⟩ := info_parts Tryd.info_int
  refine wpList_append_own _ hgd s x 22 ho B 3 i0 (.int .i64 0) 1 8 Tryd.underlying22 hi hz0 hz1 hz2 rfl (by decide) v xs.length _ hs (World.ownsRow.alloc h _) ⟨w.heap.size, 0, none⟩ 1 1 [.int .i64 y] hx rfl ?_ ?_ (by unfold maxLen; omega) (by omega) (by simp; omega) ?_
  · exact cell_one_new _ _ _
  · intro u hu; simp at hu; subst hu; rfl
  · intro v' w1 h1 h2 _
    have := h.snoc hB h1 h2
    exact K v' w1 this.1 this.2

/-- a row is appended to a table -/
theorem wpList_rowT {w : World} {ops : Array Oper} {rest : List Oper} {o : Oper} {a : Act} {Q : Exit → Act → World → Prop} (hgd : o.guard = none) (s x : Operand)
    (ho : o.op = .call { callee := .builtin .append, args := #[s, x], argTypes := #[28, 28] })
    (B : Nat) (v u : Value) (m : List (List Int)) (vs : List Value) (row : List Int) (h : OwnT w B v m vs) (hu : OwnI w B u row) (hs : a.eval s = v) (hx : a.eval x = .slice (some ⟨w.heap.size, 0, none⟩) 1 1)
    (hne : ∀ j, j < m.length → ∀ g, (vs.getD j undef).ownBlock = some g → u.ownBlock ≠ some g) (hB : B ≤ w.heap.size) (hl : m.length < 1048576)
    (K : ∀ v' w1, OwnT w1 B v' (m ++ [row]) (vs ++ [u]) → OwnI w1 B u row → Below B w w1 → wpList Tryd.prog ops Q rest (a.put o.dst v') w1) : wpList Tryd.prog ops Q (o :: rest) a (w.alloc (.cells #[u] 22)) := by
  obtain ⟨j0, hj, hy0, hy1, hy2⟩ := info_parts Tryd.info_ints
  refine wpList_append_own _ hgd s x 28 ho B 22 j0 (.slice none 0 0) 1 24 Tryd.underlying28 hj hy0 hy1 hy2 rfl (by decide) v m.length _ hs (World.ownsRow.alloc h.top _) ⟨w.heap.size, 0, none⟩ 1 1 [u] hx rfl ?_ ?_ (by unfold maxLen; omega) (by omega) (by simp; omega) ?_
  · exact cell_one_new _ _ _
  · intro z hz; simp at hz; subst hz; obtain ⟨_, _, e, _⟩ := hu.read; rw [e]; rfl
  · intro v' w1 h1 h2 _
    have ho : OwnT (w.alloc (.cells #[u] 22)) B v m vs := OwnP.below h ((Below.refl _ _).alloc (Nat.le_refl _) _)
    have hu2 : OwnI (w.alloc (.cells #[u] 22)) B u row := hu.below ((Below.refl _ _).alloc (Nat.le_refl _) _)
    have hkept : ∀ (x : Value) (ys : List Int), OwnI w B x ys → OwnI w1 B x ys := fun x ys hx => (hx.below ((Below.refl _ _).alloc (Nat.le_refl _) (.cells #[u] 22))).kept_tab ho.top h2
    refine K v' w1 ?_ (hkept _ _ hu) (Below.grown ((Below.refl B w).alloc hB _) h2 (by simp; omega) (fun k hk => (World.ownsRow.lt h.top k hk).1))
    have hlv := h.len
    have gl : ∀ i, i < m.length → (vs ++ [u]).getD i undef = vs.getD i undef := fun i hi => by
      simp only [List.getD]; rw [List.getElem?_append_left (by omega)]
    have gu : (vs ++ [u]).getD m.length undef = u := by
      simp only [List.getD]; rw [List.getElem?_append_right (by omega), hlv]; simp
    refine ⟨by rw [List.length_append]; exact h1, fun i hi => ?_, fun i j hij hj g hg => ?_⟩
    · rw [List.length_append, List.length_singleton] at hi
      by_cases hi2 : i < m.length
      · rw [gl i hi2, gr_appl hi2]
        exact hkept _ _ (h.rows i hi2)
      · obtain rfl : i = m.length := by omega
        have e : gr (m ++ [row]) m.length = row := by
          have := gr_appr (m := m) (k := [row]) (i := 0) (by simp)
          rw [Nat.add_zero] at this
          exact this
        rw [gu, e]
        exact hkept _ _ hu
    · rw [List.length_append, List.length_singleton] at hj
      rw [gl i (by omega)] at hg
      by_cases hj2 : j < m.length
      · rw [gl j hj2]
        exact h.apart i j hij hj2 g hg
      · obtain rfl : j = m.length := by omega
        rw [gu]
        exact hne i (by omega) g hg

/-- the rows of a younger table are appended to a table -/
theorem wpList_rowsT {w : World} {ops : Array Oper} {rest : List Oper} {o : Oper} {a : Act} {Q : Exit → Act → World → Prop} (hgd : o.guard = none) (s x : Operand)
    (ho : o.op = .call { callee := .builtin .append, args := #[s, x], argTypes := #[28, 28] })
    (B B' : Nat) (v u : Value) (m k : List (List Int)) (vs us : List Value) (h : OwnT w B v m vs) (hk : OwnT w B' u k us) (hs : a.eval s = v) (hx : a.eval x = u) (hBB : B ≤ B') (hold : ∀ i, i < m.length → ∀ g, (vs.getD i undef).ownBlock = some g → g < B')
    (hB : B ≤ w.heap.size) (hl : m.length + k.length ≤ 1048576)
    (K : ∀ v' w1, OwnT w1 B v' (m ++ k) (vs ++ us) → Below B w w1 → wpList Tryd.prog ops Q rest (a.put o.dst v') w1) : wpList Tryd.prog ops Q (o :: rest) a w := by
  obtain ⟨j0, hj, hy0, hy1, hy2⟩ := info_parts Tryd.info_ints
  obtain ⟨sa, sc, rfl, _, _, _⟩ := hk.read
  cases sa with
  | none =>
    have hM0 : k = [] ∧ sc = 0 := by
      rcases hk.top.2 with ⟨h1, h2⟩ | ⟨g, cap, cur, h1, _⟩
      · simp at h1; exact ⟨List.eq_nil_of_length_eq_zero h2, h1.2⟩
      · simp at h1
    obtain ⟨rfl, rfl⟩ := hM0
    have hus : us = [] := List.eq_nil_of_length_eq_zero hk.len
    subst hus
    refine wpList_append_own_none hgd s x 28 ho B 22 j0 1 Tryd.underlying28 hj v m.length vs hs h.top hx ?_
    exact K v w (by rw [List.append_nil, List.append_nil]; exact h) (Below.refl _ _)
  | some ad =>
    have hcl := hk.cells
    refine wpList_append_own _ hgd s x 28 ho B 22 j0 (.slice none 0 0) 1 24 Tryd.underlying28 hj hy0 hy1 hy2 rfl (by decide) v m.length vs hs h.top ad k.length sc us hx (by rw [hk.len]; omega) hcl.1 hcl.2 (by unfold maxLen; omega) (by omega) hB ?_
    intro v' w1 h1 h2 _
    exact K v' w1 (h.join hk hBB hold h1 (fun x ys hx => hx.kept_tab h.top h2)) (Below.grown (Below.refl _ _) h2 hB (fun k hk => (World.ownsRow.lt h.top k hk).1))
end Go.Proofs.YtmkldodkpijfjaaDoor

namespace Go.Proofs.YtmkldodkpijfjaaDoor
open Go.RowKit

/-- a row is appended to a table (told which block changes) -/
theorem wpList_rowG {w : World} {ops : Array Oper} {rest : List Oper} {o : Oper} {a : Act} {Q : Exit → Act → World → Prop} (hgd : o.guard = none) (s x : Operand)
    (ho : o.op = .call { callee := .builtin .append, args := #[s, x], argTypes := #[28, 28] })
    (B : Nat) (v u : Value) (m : List (List Int)) (vs : List Value) (row : List Int) (h : OwnT w B v m vs) (hu : OwnI w B u row) (hs : a.eval s = v) (hx : a.eval x = .slice (some ⟨w.heap.size, 0, none⟩) 1 1)
    (hne : ∀ j, j < m.length → ∀ g, (vs.getD j undef).ownBlock = some g → u.ownBlock ≠ some g) (hB : B ≤ w.heap.size) (hl : m.length < 1048576)
    (K : ∀ v' w1, OwnT w1 B v' (m ++ [row]) (vs ++ [u]) → Below B w w1 → (w.alloc (.cells #[u] 22)).grownBy w1 v.ownBlock → wpList Tryd.prog ops Q rest (a.put o.dst v') w1) : wpList Tryd.prog ops Q (o :: rest) a (w.alloc (.cells #[u] 22)) := by
  obtain ⟨j0, hj, hy0, hy1, hy2⟩ := info_parts Tryd.info_ints
  refine wpList_append_own _ hgd s x 28 ho B 22 j0 (.slice none 0 0) 1 24 Tryd.underlying28 hj hy0 hy1 hy2 rfl (by decide) v m.length _ hs (World.ownsRow.alloc h.top _) ⟨w.heap.size, 0, none⟩ 1 1 [u] hx rfl ?_ ?_ (by unfold maxLen; omega) (by omega) (by simp; omega) ?_
  · exact cell_one_new _ _ _
  · intro z hz; simp at hz; subst hz; obtain ⟨_, _, e, _⟩ := hu.read; rw [e]; rfl
  · intro v' w1 h1 h2 _
    have ho : OwnT (w.alloc (.cells #[u] 22)) B v m vs := OwnP.below h ((Below.refl _ _).alloc (Nat.le_refl _) _)
    have hkept : ∀ (x : Value) (ys : List Int), OwnI w B x ys → OwnI w1 B x ys := fun x ys hx => (hx.below ((Below.refl _ _).alloc (Nat.le_refl _) (.cells #[u] 22))).kept_tab ho.top h2
    refine K v' w1 ?_ (Below.grown ((Below.refl B w).alloc hB _) h2 (by simp; omega) (fun k hk => (World.ownsRow.lt h.top k hk).1)) h2
    have hlv := h.len
    have gl : ∀ i, i < m.length → (vs ++ [u]).getD i undef = vs.getD i undef := fun i hi => by
      simp only [List.getD]; rw [List.getElem?_append_left (by omega)]
    have gu : (vs ++ [u]).getD m.length undef = u := by
      simp only [List.getD]; rw [List.getElem?_append_right (by omega), hlv]; simp
    refine ⟨by rw [List.length_append]; exact h1, fun i hi => ?_, fun i j hij hj g hg => ?_⟩
    · rw [List.length_append, List.length_singleton] at hi
      by_cases hi2 : i < m.length
      · rw [gl i hi2, gr_appl hi2]
        exact hkept _ _ (h.rows i hi2)
      · obtain rfl : i = m.length := by omega
        have e : gr (m ++ [row]) m.length = row := by
          have := gr_appr (m := m) (k := [row]) (i := 0) (by simp)
          rw [Nat.add_zero] at this
          exact this
        rw [gu, e]
        exact hkept _ _ hu
    · rw [List.length_append, List.length_singleton] at hj
      rw [gl i (by omega)] at hg
      by_cases hj2 : j < m.length
      · rw [gl j hj2]
        exact h.apart i j hij hj2 g hg
      · obtain rfl : j = m.length := by omega
        rw [gu]
        exact hne i hij g hg
/-- a row is kept where another block changes -/
theorem RowI.other {w w' : World} {kb : Nat} {ra : Option Addr} {xs : List Int} {row : Option Nat} (h : RowI w kb ra xs) (hg : w.grownBy w' row) (hne : ∀ b o, ra = some ⟨b, o, none⟩ → some b ≠ row) : RowI w' kb ra xs := ⟨fun i hi => by
  obtain ⟨b, o, e, hc⟩ := h.1 i hi
  exact ⟨b, o, e, hg.cell hc (hne b o e)⟩, h.2⟩
theorem grown_over {a b c : World} {kb : Nat} {row : Option Nat} (h : a.grownBy b (some kb)) (hg : b.grownBy c row) (hr : ∀ g, row = some g → a.heap.size ≤ g) : a.grownBy c (some kb) :=
  ⟨hg.os.trans h.os, hg.tape.trans h.tape, hg.output.trans h.output, Nat.le_trans h.size hg.size, fun k hk hne => (hg.block k (Nat.lt_of_lt_of_le hk h.size) (fun e => by have := hr k e.symm; omega)).trans (h.block k hk hne)⟩
theorem OwnI.other {w w' : World} {B kb n c : Nat} {ks : List Int} {row : Option Nat} (h : OwnI w B (.slice (some ⟨kb, 0, none⟩) n c) ks) (hg : w.grownBy w' row) (hne : row ≠ some kb) : OwnI w' B (.slice (some ⟨kb, 0, none⟩) n c) ks :=
  World.ownsRow.kept h hg (.inr (fun e => hne e.symm))

set_option maxRecDepth 100000 in
set_option maxHeartbeats 3200000 in
theorem trAt_any (n : Nat) (r : Int) (w : World) (h1 : 1 ≤ n) (h6 : n ≤ 6) (h0 : 0 ≤ r) (hr : r < (cI n : Nat)) :
    Calls Tryd.prog 64 #[.int .i64 (n : Int), .int .i64 r] w fun e w' => ∃ v, e = .returned v ∧ OwnM w' w.heap.size v (outM n r n) ∧ Below w.heap.size w w' := by
  have Hok := Lib.hid (fun k (hk : k ≤ n) => atSt_ok h1 h6 h0 hr k hk)
  have Hnx := Lib.hid (fun k (hk : k < n) => (atSt_next h1 h6 h0 hr hk).1)
  obtain ⟨SZ, hSZ⟩ : ∃ SZ : Nat, SZ = 2 ^ n := ⟨_, rfl⟩
  have hSb : SZ ≤ 64 := by have : 2 ^ n ≤ 2 ^ 6 := Nat.pow_le_pow_right (by omega) (by omega); omega
  have e1 : wrap64 ((2 : Int) ^ (n : Int).toNat) = (SZ : Int) := by
    have : ((2 : Int) ^ (n : Int).toNat) = ((2 ^ n : Nat) : Int) := by simp
    rw [this, ← hSZ]; unfold wrap64; omega
  have Hk := Lib.hid (fun w => trKnown_any (n : Int) SZ w (by omega) (by omega) e1 hSb)
  have HSZ := Lib.hid hSZ
  clear hSZ e1 hr h0
  go_enter Tryd.func64, Tryd.ntmps64
  go_wp2_with fail
  refine (Hk.out w).mono ?_
  rintro e w1 ⟨rfl, hown, hb1⟩
  have Hown := Lib.hid hown
  have hkb : w.heap.size < w1.heap.size := (hown.lt w.heap.size rfl).2
  obtain ⟨kb, hkbe⟩ : ∃ kb, kb = w.heap.size := ⟨_, rfl⟩
  rw [← hkbe] at Hown hkb
  have Hb1 := Lib.hid hb1
  have Hkbe := Lib.hid hkbe
  rw [← hkbe]
  clear hown hb1 hkbe
  go_wp2
  go_loopw [1, 6, 7] (fun q rv ov wr => ∃ (k : Nat) (ra : Option Addr) (rc : Nat) (vs : List Value) (ks : List Int), k ≤ n ∧ q = .int .i64 (atSt n r k).2 ∧ rv = .slice ra k rc ∧ RowI wr kb ra (atSt n r k).1 ∧ OwnT wr w1.heap.size ov (outM n r k) vs ∧
      OwnI wr kb (.slice (some ⟨kb, 0, none⟩) SZ SZ) ks ∧ KnowsW n ks ∧ w1.grownBy wr (some kb)) (fun _ _ ov _ => n - (match ov with | .slice _ l _ => l | _ => 0))
  case atStart => exact ⟨0, none, 0, [], _, Nat.zero_le _, rfl, rfl, RowI.nil _ _, OwnT.nil _ _, Hown.out, knowsW_zero _ _, World.grownBy.refl _ _⟩
  case round =>
    obtain ⟨k, ra, rc, vs, ks, hk, rfl, rfl, hri, hov, hownr, hkr, hg1⟩ := hrel
    obtain ⟨oa, oc, rfl, ho1, ho2, _⟩ := hov.read
    obtain ⟨wo, rfl⟩ : ∃ wo : World, wo = wr := ⟨_, rfl⟩
    have Hov := Lib.hid hov
    rw [outM_len] at Hov ho1 ⊢
    have Hri := Lib.hid hri
    have Hownr := Lib.hid hownr
    have Hkr := Lib.hid hkr
    have Hg1 := Lib.hid hg1
    clear hri hov hownr hkr hg1
    by_cases hlt : k < n
    · obtain ⟨hsub, hcol, hlen, hq0, hq1⟩ := Hok.out k hk
      have hyin := Hnx.out k hlt
      have hnext : atSt n r (k + 1) = chosenB n (nextL n (atSt n r k).1) (atSt n r k).2 := rfl
      have hout := outM_succ n r k
      have hri := Hri.out
      obtain ⟨s, hs⟩ : ∃ s, s = (atSt n r k).1 := ⟨_, rfl⟩
      obtain ⟨q0, hqe⟩ : ∃ q0, q0 = (atSt n r k).2 := ⟨_, rfl⟩
      obtain ⟨Y, hY⟩ : ∃ Y, Y = (atSt n r (k + 1)).1 := ⟨_, rfl⟩
      rw [← hs, ← hY] at hout
      rw [← hs] at hri hyin hsub hcol hlen
      rw [← hY] at hyin
      rw [← hs, ← hqe] at hnext
      rw [← hqe]
      have hnxt := trNextR_any n h6 s hcol (by omega) ra rc wo hri.1
      rw [hlen] at hnxt
      have Hnxt := Lib.hid hnxt
      have hal := next_len h6 hcol (by omega)
      have Hmem := Lib.hid (fun y hy => next_cols hcol (y := y) hy)
      have Hlen := Lib.hid hlen
      have Hcol := Lib.hid hcol
      have Hsub := Lib.hid hsub
      have HY := Lib.hid hY
      have Hs := Lib.hid hs
      have Hnext := Lib.hid hnext
      have Hout := Lib.hid hout
      have Hri := Lib.hid hri
      have Hyin := Lib.hid hyin
      clear hnxt hri hyin hsub hcol hlen hq0 hq1 hs hqe hY hnext hout
      go_wp2_with fail
      refine Hnxt.out.mono ?_
      rintro e w4 ⟨na, nc, rfl, hrn, hb4⟩
      obtain ⟨A, hA⟩ : ∃ A, A = nextL n s := ⟨_, rfl⟩
      rw [← hA] at hrn hal
      rw [← hA]
      have Hmem2 := Lib.hid (show ∀ y, y ∈ A → ColsN n y ∧ y.length = s.length + 1 by rw [hA]; exact Hmem.out)
      have Hnext2 := Lib.hid (show chosenB n A q0 = atSt n r (k + 1) by rw [hA]; exact Hnext.out.symm)
      have hamx : A.length ≤ 9223372036854775807 := by omega
      have hgk : kb < wo.heap.size := (Hownr.out.lt kb rfl).2
      have Hrn := Lib.hid hrn
      have Hri4 := Lib.hid (Hri.out.below hb4)
      have Hown4 := Lib.hid (Hownr.out.below hb4)
      have Hov4 := Lib.hid (Hov.out.below hb4)
      have Hg4 := Lib.hid (Hg1.out.trans ((grown_of_below' hb4).but (some kb)))
      have Hbt := Lib.hid (fun g (hg : (Value.slice oa k oc).ownBlock = some g) => World.ownsRow.lt Hov.out.top g hg)
      have Hbo := Lib.hid Hov.out.old
      have Hwr := Lib.hid hb4.size
      clear hrn hb4 hA Hmem Hnext Hnxt
      go_wp2
      go_loopw [1, 6, 7, 21] (fun q rv ov i wq => ∃ (j : Nat) (z : Int) (ks : List Int), rv = .slice ra k rc ∧ ov = .slice oa k oc ∧ j ≤ A.length ∧ i = .int .i64 j ∧ q = .int .i64 z ∧ chosenB n (A.drop j) z = atSt n r (k + 1) ∧ OwnI wq kb (.slice (some ⟨kb, 0, none⟩) SZ SZ) ks ∧ KnowsW n ks ∧ w4.grownBy wq (some kb)) (fun _ _ _ i _ => A.length - (intOf i).toNat)
      case atStart => exact ⟨0, q0, ks, rfl, rfl, Nat.zero_le _, rfl, rfl, Hnext2.out, Hown4.out, Hkr.out, World.grownBy.refl _ _⟩
      case round =>
        obtain ⟨j, z, ks2, rfl, rfl, hj, rfl, rfl, hz, hown5, hk5, hg5⟩ := hrel
        have Hz := Lib.hid hz
        have Hown5 := Lib.hid hown5
        have Hk5 := Lib.hid hk5
        have Hg5 := Lib.hid hg5
        clear hz hown5 hk5 hg5
        have hjl : j < A.length := by
          rcases Nat.lt_or_eq_of_le hj with h | h
          · exact h
          · exfalso
            have hz := Hz.out
            rw [h, List.drop_of_length_le (Nat.le_refl _), chosenB] at hz
            have := (Hok.out (k + 1) (by omega)).2.2.1
            rw [← hz] at this
            simp at this
        obtain ⟨b2, o2, r2, d2, rfl, _, hc2, hx2, hr2⟩ := Hrn.out.grown Hg5.out hgk j hjl
        have hyl := (Hmem2.out _ (gr_mem hjl)).2
        have hyc := (Hmem2.out _ (gr_mem hjl)).1
        have hb := chosenB_step (n := n) hjl z
        rw [Hz.out] at hb
        obtain ⟨y, hy⟩ : ∃ y, y = gr A j := ⟨_, rfl⟩
        rw [← hy] at hc2 hx2 hyl hyc hb
        have hway := trWays_any n h6 SZ HSZ.out (n - y.length) y r2 d2 kb kb SZ ks2 wr (by have := Hlen.out; omega) hyc hx2 (fun b o e => by have := hr2 b o e; omega) Hown5.out Hk5.out (Nat.le_refl _)
        have eyl : y.length = k + 1 := by have := Hlen.out; omega
        rw [eyl] at hc2 hway
        have Hry := Lib.hid (show RowI wr kb r2 y from ⟨hx2, fun b o e => by have := hr2 b o e; omega⟩)
        have Hr2 := Lib.hid hr2
        have Hyc := Lib.hid hyc
        have Heyl := Lib.hid eyl
        obtain ⟨u, hu⟩ : ∃ u, u = wrap64 (waysB n y) := ⟨_, rfl⟩
        rw [← hu] at hway hb
        have Hway := Lib.hid hway
        by_cases hzu : z < u
        · rw [if_pos hzu] at hb
          have hd : decide (z < u) = true := by simpa using hzu
          have Hfin := Lib.hid hb
          clear hway hb hx2 hr2 hyl hyc hy hu eyl hzu
          go_wp2_with fail
          refine Hway.out.mono ?_
          rintro e w7 ⟨ks3, rfl, hown7, hk7, hg7⟩
          have Hown7 := Lib.hid hown7
          have Hk7 := Lib.hid hk7
          have Hg57 := Hg5.out.trans hg7
          have Hg7 := Lib.hid Hg57
          have Hry7 := Lib.hid (Hry.out.grown hg7)
          have Hri7 := Lib.hid (Hri4.out.grown Hg57)
          have Hov7 := Lib.hid (show OwnT w7 w1.heap.size (.slice oa k oc) (outM n r k) vs from Hov4.out.kept Hg57 hkb)
          clear hown7 hk7 hg7 Hg57
          have Hst := Lib.hid (trStep_any ra r2 rc d2 n s y w7 (by omega) (by have := Hlen.out; omega) (by have := Heyl.out; omega) Hcol.out.2 Hyc.out.2 Hri7.out.1 Hry7.out.1)
          have hst := Hst.out
          rw [Hlen.out, Heyl.out] at hst
          have Hst := Lib.hid hst
          clear hst
          go_wp2_with fail
          refine Hst.out.mono ?_
          rintro e w8 ⟨u8, rfl, hu8, hb8⟩
          obtain ⟨ua, uc, rfl, hu1, hu2, _⟩ := hu8.read
          have Hu8 := Lib.hid (hu8.base (Hg4.out.trans Hg7.out).size)
          have Hov8 := Lib.hid (Hov7.out.below hb8)
          have Hry8 := Lib.hid (Hry7.out.below hb8)
          have Hown8 := Lib.hid (Hown7.out.below hb8)
          have Hg8 := Lib.hid (Hg7.out.trans ((grown_of_below' hb8).but (some kb)))
          have hs1 := (Hg4.out.trans Hg8.out).size
          have hs2 := Hg7.out.size
          have Hhe := Lib.hid (show ∀ j, j < (outM n r k).length → ∀ g, (vs.getD j undef).ownBlock = some g → (Value.slice ua (stepF n s y).length uc).ownBlock ≠ some g from fun j hj g hg hg2 => by
            have a := (Hbo.out j hj g hg).2
            have b := (hu8.lt g hg2).1
            have c := Hwr.out
            omega)
          clear hu8 hb8
          go_wp2_with (at_builtin; refine wpList_rowG rfl _ _ rfl w1.heap.size (.slice oa k oc) _ (outM n r k) vs (stepF n s y) Hov8.out Hu8.out rfl rfl Hhe.out hs1 (by rw [outM_len]; omega) ?_)
          intro v9 w9 hov9 hb9 hg9
          have hal8 : w8.grownBy (w8.alloc (.cells #[.slice ua (stepF n s y).length uc] 22)) (some kb) := (grown_of_below' ((Below.refl _ _).alloc (Nat.le_refl _) _)).but _
          have Hov9 := Lib.hid hov9
          have Hown9 := Lib.hid (OwnI.other (World.ownsRow.alloc Hown8.out _) hg9 (fun e => by have := (Hbt.out kb e).1; omega))
          have Hry9 := Lib.hid ((Hry8.out.grown hal8).other hg9 (fun b o e e2 => by have := Hr2.out b o e; have := (Hbt.out b e2.symm).2; omega))
          have Hg9 := Lib.hid (grown_over ((Hg4.out.trans Hg8.out).trans hal8) hg9 (fun g e => (Hbt.out g e).1))
          obtain ⟨pa, pc, rfl, _, _, _⟩ := hov9.read
          clear hov9 hb9 hg9 hal8
          go_wp2
          go_roundw
          case rel => exact ⟨k + 1, r2, d2, _, ks3, by omega, by rw [Hfin.out], rfl, by rw [Hfin.out]; exact Hry9.out, by rw [Hout.out, HY.out, Hfin.out]; exact Hov9.out, Hown9.out, Hk7.out, Hg9.out⟩
          case measure => simp [outM_len]; omega
        · rw [if_neg hzu] at hb
          have hd : decide (z < u) = false := by simpa using hzu
          have Hb := Lib.hid hb
          clear hway hb hx2 hr2 hyl hyc hy hu eyl hzu
          go_wp2_with fail
          refine Hway.out.mono ?_
          rintro e w7 ⟨ks3, rfl, hown7, hk7, hg7⟩
          have Hown7 := Lib.hid hown7
          have Hk7 := Lib.hid hk7
          have Hg7 := Lib.hid (Hg5.out.trans hg7)
          clear hown7 hk7 hg7
          go_wp2
          go_roundw
          case rel => exact ⟨j + 1, _, ks3, rfl, rfl, by omega, by go_num, rfl, Hb.out.symm, Hown7.out, Hk7.out, Hg7.out⟩
          case measure => first | (simp [intOf]; done) | (simp [intOf]; omega)
    · obtain rfl : k = n := by omega
      have HF := Lib.hid (show Below w.heap.size w wo from below_of_grown Hb1.out Hg1.out (by rw [Hkbe.out]; exact Nat.le_refl _) (Nat.le_of_lt hkb))
      have HO := Lib.hid (show OwnM wo w.heap.size (.slice oa k oc) (outM k r k) from ⟨vs, Hov.out.base Hb1.out.size⟩)
      go_wp2
      go_ret
      exact ⟨_, rfl, HO.out, HF.out⟩
end Go.Proofs.YtmkldodkpijfjaaDoor

