/- Parts of proofs: contracts and plain facts. Conditions: as each says. -/
import Derived.Test.YtnhkclnloiiihaaDoorK07
import Derived.Deep.RegionWith
namespace Go.Proofs.YtnhkclnloiiihaaDoor
open Go.RowKit

theorem run_index_kc (f : Nat → Int) {k : Nat} (hk : k < 6) (w : World) : (Instr.index 50 (.agg (kc f)) (.int .i64 (k : Int))).run Tryd.prog w = .ok (.int .i64 (f k)) w := by
  obtain rfl | rfl | rfl | rfl | rfl | rfl : k = 0 ∨ k = 1 ∨ k = 2 ∨ k = 3 ∨ k = 4 ∨ k = 5 := by omega
  all_goals kernel_rfl

theorem ints_new (w : World) (xs : List Int) : IntsAt (w.alloc (.cells (xs.map (Value.int .i64)).toArray 3)) (some ⟨w.heap.size, 0, none⟩) xs := fun i hi => ⟨w.heap.size, 0, rfl, by
  rw [Nat.zero_add, cell_new]
  simp [gi, List.getD, hi]⟩

set_option maxRecDepth 100000 in
set_option maxHeartbeats 800000 in
theorem iAllIn_any (ao : Option Addr) (c : Nat) (xs : List Int) (lo hi : Int) (w : World) (hn : xs.length ≤ 1048576) (hx : IntsAt w ao xs) :
    Calls Tryd.prog 97 #[.int .i64 lo, .int .i64 hi, .slice ao xs.length c] w fun e w' => Ans (allIn xs lo hi) e ∧ w = w' := by
  have hmx : xs.length ≤ 9223372036854775807 := by omega
  have Hx := Lib.hid hx
  clear hx
  go_enter Tryd.func97, Tryd.ntmps97
  go_wp2
  go_loop [11] (fun i => ∃ k : Nat, k ≤ xs.length ∧ i = .int .i64 k ∧ ∀ j, j < k → lo ≤ gi xs j ∧ gi xs j ≤ hi) (fun i => xs.length - (intOf i).toNat)
  case atStart => exact ⟨0, Nat.zero_le _, rfl, fun j hj => absurd hj (by omega)⟩
  case round =>
    obtain ⟨k, hk, rfl, hd⟩ := hrel
    have Hd := Lib.hid hd
    clear hd
    by_cases hlt : k < xs.length
    · obtain ⟨b1, o1, rfl, hc1⟩ := Hx.out k hlt
      have Hno := Lib.hid (fun (h : ¬(lo ≤ gi xs k ∧ gi xs k ≤ hi)) (h2 : allIn xs lo hi) => h (h2 k hlt))
      have Hyes := Lib.hid (show (lo ≤ gi xs k ∧ gi xs k ≤ hi) → ∀ j, j < k + 1 → lo ≤ gi xs j ∧ gi xs j ≤ hi from fun h j hj => by
        by_cases e : j = k
        · subst e; exact h
        · exact Hd.out j (by omega))
      obtain ⟨x, hx⟩ : ∃ x, x = gi xs k := ⟨_, rfl⟩
      rw [← hx] at hc1 Hno Hyes
      clear hx
      by_cases h1 : x < lo
      · have hd1 : decide (x < lo) = true := by simpa using h1
        have H := Lib.hid (Hno.out (fun h => by omega))
        clear Hno Hyes h1
        go_wp2
        go_ret
        exact ⟨Ans.no H.out, rfl⟩
      · have hd1 : decide (x < lo) = false := by simpa using h1
        by_cases h2 : hi < x
        · have hd2 : decide (hi < x) = true := by simpa using h2
          have H := Lib.hid (Hno.out (fun h => by omega))
          clear Hno Hyes h1 h2
          go_wp2
          go_ret
          exact ⟨Ans.no H.out, rfl⟩
        · have hd2 : decide (hi < x) = false := by simpa using h2
          have H := Lib.hid (Hyes.out ⟨by omega, by omega⟩)
          clear Hno Hyes h1 h2
          go_wp2
          go_round
          case rel => exact ⟨k + 1, by omega, by go_num, H.out⟩
          case measure => simp [intOf]; omega
    · obtain rfl : k = xs.length := by omega
      go_wp2
      go_ret
      exact ⟨Ans.yes Hd.out, rfl⟩

theorem allIn_oneW (x lo hi : Int) : allIn [x] lo hi ↔ lo ≤ x ∧ x ≤ hi := by
  refine ⟨fun h => h 0 (by simp), fun h i hi => ?_⟩
  obtain rfl : i = 0 := by simpa using hi
  exact h
theorem allIn_three (a b c lo hi : Int) : allIn [a, b, c] lo hi ↔ (lo ≤ a ∧ a ≤ hi) ∧ (lo ≤ b ∧ b ≤ hi) ∧ lo ≤ c ∧ c ≤ hi := by
  constructor
  · intro h; exact ⟨h 0 (by simp), h 1 (by simp), h 2 (by simp)⟩
  · rintro ⟨h1, h2, h3⟩ i hi
    have hi3 : i < 3 := by simpa using hi
    match i, hi3 with
    | 0, _ => exact h1
    | 1, _ => exact h2
    | 2, _ => exact h3

set_option maxRecDepth 100000 in
set_option maxHeartbeats 800000 in
theorem canBeWeighted_any (n : Int) (w : World) :
    Calls Tryd.prog 56 #[.int .i64 n] w fun e w' => Ans (1 ≤ n ∧ n ≤ 4) e ∧ Below w.heap.size w w' := by
  go_enter Tryd.func56, Tryd.ntmps56
  go_wp2_with fail
  refine (iAllIn_any (some ⟨w.heap.size, 0, none⟩) 1 [n] 1 4 _ (by simp) (ints_new w [n])).mono ?_
  rintro e w2 ⟨ha, rfl⟩
  obtain ⟨b, rfl, hb⟩ := ha.iff (allIn_oneW n 1 4)
  have Hb := Lib.hid hb
  clear ha hb
  go_wp2
  go_ret
  exact ⟨⟨b, rfl, Hb.out⟩, (Below.refl _ _).alloc (Nat.le_refl _) _⟩

def isFac (a b c : Int) : Prop := (0 ≤ a ∧ a ≤ 5) ∧ (0 ≤ b ∧ b ≤ 5) ∧ 0 ≤ c ∧ c ≤ 5
/-- what the kinds are worth in pairs -/
def wtP (a b c : Int) : Nat → Int
  | 0 => a
  | 1 => b
  | 2 => b
  | 3 => a
  | 4 => 1
  | _ => c
theorem kc_wtP (a b c : Int) : Tryd.prog.built 50 [(0, .int .i64 a), (1, .int .i64 b), (2, .int .i64 b), (3, .int .i64 a), (4, .int .i64 1), (5, .int .i64 c)] = some (kc (wtP a b c)) := by kernel_rfl
theorem wpList_buildTn {P : Program} {ops : Array Oper} {rest : List Oper} {o : Oper} {a : Act} {w : World} {Q : Exit → Act → World → Prop} (hg : o.guard = none) (t : TypeId) (xs : Array (Nat × Operand)) (ho : o.op = .build t xs)
    (vs : List (Nat × Value)) (hv : (xs.map fun (i, x) => (i, a.eval x)).toList = vs) (cells : Array Value) (hb : P.built t vs = some cells)
    (h : wpList P ops Q rest (a.put o.dst (.agg cells)) w) : wpList P ops Q (o :: rest) a w := by
  refine wpList_build hg t _ ho (by rw [hv, hb]; rfl) ?_
  rw [hv, hb]
  exact h
/-- the weight of a matrix by pairs of kinds -/
def wVal (m : List (List Int)) (a b c : Int) : Int := pw a (cN m 0 + cN m 3) * pw b (cN m 1 + cN m 2) * pw c (cN m 5)
theorem prodW_pairs (m : List (List Int)) (a b c : Int) : prodW (wtP a b c) (cN m) 6 = wVal m a b c := by
  simp only [prodW, wtP, wVal, pw_one, pw_add, Int.one_mul, Int.mul_one]
  simp only [Int.mul_assoc, Int.mul_left_comm, Int.mul_comm]
theorem wtP_le {a b c : Int} (h : isFac a b c) : ∀ q, q < 6 → 0 ≤ wtP a b c q ∧ wtP a b c q ≤ 10 := by
  intro q hq
  obtain ⟨h1, h2, h3⟩ := h
  obtain rfl | rfl | rfl | rfl | rfl | rfl : q = 0 ∨ q = 1 ∨ q = 2 ∨ q = 3 ∨ q = 4 ∨ q = 5 := by omega
  all_goals simp only [wtP]; omega
def okWt (m : List (List Int)) (a b c : Int) : Prop := (good m ∧ m.length ≤ 4) ∧ isFac a b c

end Go.Proofs.YtnhkclnloiiihaaDoor

namespace Go.Proofs.YtnhkclnloiiihaaDoor
open Go.RowKit

end Go.Proofs.YtnhkclnloiiihaaDoor

namespace Go.Proofs.YtnhkclnloiiihaaDoor
open Go.RowKit

theorem nums_new (w : World) (xs : List Int) : IntsAt (w.alloc (.cells (xs.map (Value.int .i64)).toArray 3)) (some ⟨w.heap.size, 0, none⟩) xs := fun i hi => ⟨w.heap.size, 0, rfl, by
  rw [Nat.zero_add, cell_new]
  simp [gi, List.getD, hi]⟩

set_option maxRecDepth 100000 in
set_option maxHeartbeats 800000 in
theorem numsIn_any (ao : Option Addr) (c : Nat) (xs : List Int) (lo hi : Int) (w : World) (hn : xs.length ≤ 1048576) (hx : IntsAt w ao xs) :
    Calls Tryd.prog 97 #[.int .i64 lo, .int .i64 hi, .slice ao xs.length c] w fun e w' => Ans (allIn xs lo hi) e ∧ w = w' := by
  have hmx : xs.length ≤ 9223372036854775807 := by omega
  have Hx := Lib.hid hx
  clear hx
  go_enter Tryd.func97, Tryd.ntmps97
  go_wp2
  go_loop [11] (fun i => ∃ k : Nat, k ≤ xs.length ∧ i = .int .i64 k ∧ ∀ j, j < k → lo ≤ gi xs j ∧ gi xs j ≤ hi) (fun i => xs.length - (intOf i).toNat)
  case atStart => exact ⟨0, Nat.zero_le _, rfl, fun j hj => absurd hj (by omega)⟩
  case round =>
    obtain ⟨k, hk, rfl, hd⟩ := hrel
    have Hd := Lib.hid hd
    clear hd
    by_cases hlt : k < xs.length
    · obtain ⟨b1, o1, rfl, hc1⟩ := Hx.out k hlt
      have Hno := Lib.hid (fun (h : ¬(lo ≤ gi xs k ∧ gi xs k ≤ hi)) (h2 : allIn xs lo hi) => h (h2 k hlt))
      have Hyes := Lib.hid (show (lo ≤ gi xs k ∧ gi xs k ≤ hi) → ∀ j, j < k + 1 → lo ≤ gi xs j ∧ gi xs j ≤ hi from fun h j hj => by
        by_cases e : j = k
        · subst e; exact h
        · exact Hd.out j (by omega))
      obtain ⟨x, hx⟩ : ∃ x, x = gi xs k := ⟨_, rfl⟩
      rw [← hx] at hc1 Hno Hyes
      clear hx
      by_cases h1 : x < lo
      · have hd1 : decide (x < lo) = true := by simpa using h1
        have H := Lib.hid (Hno.out (fun h => by omega))
        clear Hno Hyes h1
        go_wp2
        go_ret
        exact ⟨Ans.no H.out, rfl⟩
      · have hd1 : decide (x < lo) = false := by simpa using h1
        by_cases h2 : hi < x
        · have hd2 : decide (hi < x) = true := by simpa using h2
          have H := Lib.hid (Hno.out (fun h => by omega))
          clear Hno Hyes h1 h2
          go_wp2
          go_ret
          exact ⟨Ans.no H.out, rfl⟩
        · have hd2 : decide (hi < x) = false := by simpa using h2
          have H := Lib.hid (Hyes.out ⟨by omega, by omega⟩)
          clear Hno Hyes h1 h2
          go_wp2
          go_round
          case rel => exact ⟨k + 1, by omega, by go_num, H.out⟩
          case measure => simp [intOf]; omega
    · obtain rfl : k = xs.length := by omega
      go_wp2
      go_ret
      exact ⟨Ans.yes Hd.out, rfl⟩

theorem allIn_num (x lo hi : Int) : allIn [x] lo hi ↔ lo ≤ x ∧ x ≤ hi := by
  refine ⟨fun h => h 0 (by simp), fun h i hi => ?_⟩
  obtain rfl : i = 0 := by simpa using hi
  exact h

end Go.Proofs.YtnhkclnloiiihaaDoor

namespace Go.Proofs.YtnhkclnloiiihaaDoor
open Go.RowKit

/-- it returns a ratio and true if p, else the zero ratio and false -/
def RtRes (p : Prop) (r : Nat × Nat) (e : Ending) : Prop := ∃ y b, e = .returned (.tuple #[.agg (rtA y), .bool b]) ∧ ((p ∧ b = true ∧ y = r) ∨ (¬p ∧ b = false ∧ y = (0, 0)))
theorem RtRes.yes {p : Prop} {r : Nat × Nat} (h : p) : RtRes p r (.returned (.tuple #[.agg (rtA r), .bool true])) := ⟨r, true, rfl, .inl ⟨h, rfl, rfl⟩⟩
theorem RtRes.no {p : Prop} {r : Nat × Nat} (h : ¬p) : RtRes p r (.returned (.tuple #[.agg (rtA (0, 0)), .bool false])) := ⟨(0, 0), false, rfl, .inr ⟨h, rfl, rfl⟩⟩
theorem rtres_same {p : Prop} {r y y' : Nat × Nat} {b b' : Bool} (h : (p ∧ b = true ∧ y = r) ∨ (¬p ∧ b = false ∧ y = (0, 0))) (h' : (p ∧ b' = true ∧ y' = r) ∨ (¬p ∧ b' = false ∧ y' = (0, 0))) : b = b' ∧ y = y' := by
  rcases h with ⟨h1, h2, h3⟩ | ⟨h1, h2, h3⟩ <;> rcases h' with ⟨k1, k2, k3⟩ | ⟨k1, k2, k3⟩
  · exact ⟨h2.trans k2.symm, h3.trans k3.symm⟩
  · exact absurd h1 k1
  · exact absurd k1 h1
  · exact ⟨h2.trans k2.symm, h3.trans k3.symm⟩

end Go.Proofs.YtnhkclnloiiihaaDoor

namespace Go.Proofs.YtnhkclnloiiihaaDoor
open Go.RowKit

set_option maxRecDepth 100000 in
set_option maxHeartbeats 800000 in
theorem weSide_any (n : Int) (w : World) : Calls Tryd.prog 60 #[.int .i64 n] w fun e w' => Ans (1 ≤ n ∧ n ≤ 4) e ∧ w = w' := by
  go_enter Tryd.func60, Tryd.ntmps60
  go_wp2_with fail
  refine (l1In_any n 1 4 w).mono ?_
  rintro e w2 ⟨⟨b, rfl, hb⟩, rfl⟩
  have Hb := Lib.hid hb
  clear hb
  go_wp2
  go_ret
  exact ⟨⟨b, rfl, Hb.out⟩, rfl⟩

end Go.Proofs.YtnhkclnloiiihaaDoor

namespace Go.Proofs.YtnhkclnloiiihaaDoor
open Go.RowKit

theorem OwnP.nil1 (w : World) (B : Nat) (m : List (List Int)) : OwnP w B (.slice none 0 0) 0 m 0 [] := ⟨World.ownsRow_nil _ _ _ _, fun i hi => absurd hi (by omega), fun i j _ hj => absurd hj (by omega)⟩
/-- the first kinds of a row -/
def kindRow (m : List (List Int)) (k t : Nat) : List Int := (List.range t).map fun b => kd m k b
theorem kindRow_len (m : List (List Int)) (k t : Nat) : (kindRow m k t).length = t := by simp [kindRow]
theorem kindRow_succ (m : List (List Int)) (k t : Nat) : kindRow m k (t + 1) = kindRow m k t ++ [kd m k t] := by simp [kindRow, List.range_succ]
theorem kindRow_full {m : List (List Int)} {k : Nat} (hk : k < m.length) : kindRow m k m.length = gr (kinds m) k := by unfold kinds; rw [gr_tab hk]; rfl

/-- what stands apart from one block is kept where that block alone turns -/
theorem OwnP.kept1 {w w1 : World} {B n k g : Nat} {v : Value} {m : List (List Int)} {vs : List Value} (h : OwnP w B v n m k vs) (hg : w.grownBy w1 (some g)) (hB : g < B) : OwnP w1 B v n m k vs := by
  have ap : ∀ (e : TypeId) (u : Value) (n : Nat) (xs : List Value), w.ownsRow B e 1 u n xs → w1.ownsRow B e 1 u n xs := fun e u n xs hx => by
    refine World.ownsRow.kept hx hg ?_
    cases hb : u.ownBlock with
    | none => exact .inl rfl
    | some g' => exact .inr (fun e => by cases e; have := (World.ownsRow.lt hx g hb).1; omega)
  exact ⟨ap _ _ _ _ h.top, fun i hi => ap _ _ _ _ (h.rows i hi), h.apart⟩

set_option maxRecDepth 100000 in
set_option maxHeartbeats 1600000 in
theorem weKinds_any (ao : Option Addr) (c : Nat) (m : List (List Int)) (w : World) (hg : good m) (hm : MatAt w ao m) :
    Calls Tryd.prog 149 #[.slice ao m.length c] w fun e w' => ∃ v, e = .returned v ∧ OwnM w' w.heap.size v (kinds m) ∧ Below w.heap.size w w' := by
  obtain ⟨i0, hi, hz0, hz1, hz2⟩ := info_parts Tryd.info_int
  obtain ⟨j0, hj, hy0, hy1, hy2⟩ := info_parts Tryd.info_ints
  have hn := hg.1.2.1
  have hmx : m.length ≤ 9223372036854775807 := by omega
  have Hg := Lib.hid hg
  have Hm := Lib.hid hm
  clear hg hm
  go_enter Tryd.func149, Tryd.ntmps149
  go_wp2_with (at_make; refine wpList_make_full _ rfl _ _ 28 rfl w.heap.size 3 i0 (.int .i64 0) 1 Tryd.underlying28 hi hz0 hz1 _ _ _ _ m.length rfl rfl rfl rfl ?c1 ?c2 ?c3 ?_)
  case c1 => rw [hz2]; omega
  case c2 => unfold maxLen; omega
  case c3 => simp
  intro w1 hown hgr
  have hb1 : Below w.heap.size w w1 := (Below.refl _ _).grown hgr (Nat.le_refl _) (fun _ h => by cases h)
  have hsum := OwnI.made hown
  rw [← colMid_zero m] at hsum
  have Hsum := Lib.hid hsum
  have Hb1 := Lib.hid hb1
  have HB1 := Lib.hid (show w.heap.size + 1 ≤ w1.heap.size from by have := (OwnI.lt hsum w.heap.size rfl).2; omega)
  clear hown hgr hb1 hsum
  go_wp2
  go_loopw [3, 16] (fun out i wr => ∃ (k : Nat) (vs : List Value), k ≤ m.length ∧ i = .int .i64 k ∧ OwnI wr w.heap.size (.slice (some ⟨w.heap.size, 0, none⟩) m.length m.length) (colMid m k 0) ∧ OwnP wr (w.heap.size + 1) out k (kinds m) k vs ∧ Below w.heap.size w wr ∧ w.heap.size + 1 ≤ wr.heap.size)
    (fun _ i _ => m.length - (intOf i).toNat)
  case atStart => exact ⟨0, [], Nat.zero_le _, rfl, Hsum.out, OwnP.nil1 _ _ _, Hb1.out, HB1.out⟩
  case round =>
    obtain ⟨k, vs, hk, rfl, hsum, hown, hbr, hsz⟩ := hrel
    clear Hsum Hb1 HB1
    by_cases hlt : k < m.length
    · obtain ⟨b1, o1, r1, d1, rfl, hc1, hx1, _, _⟩ := Hm.out k hlt
      have hrl : (gr m k).length = m.length := Hg.out.1.2.2 k hlt
      rw [hrl] at hc1
      have hc1' := cell_below hc1 hbr
      have Hrow := Lib.hid hx1
      have Hrl := Lib.hid hrl
      have Hown := Lib.hid hown
      have Hbr := Lib.hid hbr
      have Hsum := Lib.hid hsum
      have HO := Lib.hid hsz
      obtain ⟨wo, hwo⟩ : ∃ wo : World, wo = wr := ⟨_, rfl⟩
      subst hwo
      clear hx1 hrl hown hbr hsum hc1
      go_wp2
      go_loopw [7, 8, 22] (fun row before i wr => ∃ t : Nat, t ≤ m.length ∧ i = .int .i64 t ∧ before = .int .i64 (sumK (gr m k) t) ∧ OwnI wr w.heap.size (.slice (some ⟨w.heap.size, 0, none⟩) m.length m.length) (colMid m k t) ∧ OwnI wr wo.heap.size row (kindRow m k t) ∧ wo.grownBy wr (some w.heap.size))
        (fun _ _ i _ => m.length - (intOf i).toNat)
      case atStart => exact ⟨0, Nat.zero_le _, rfl, rfl, Hsum.out, OwnI.nil _ _, World.grownBy.refl _ _⟩
      case round =>
        obtain ⟨t, ht, rfl, rfl, hsum, hrow, hgb⟩ := hrel
        clear Hsum
        have hbt : Below w.heap.size w wr := Hbr.out.grown hgb (by omega) (fun k hk => by cases hk; exact Nat.le_refl _)
        by_cases htl : t < m.length
        · obtain ⟨b2, o2, rfl, hc2⟩ := Hrow.out.below hbt t (by rw [Hrl.out]; exact htl)
          have hcs := hsum.cellAt t htl
          rw [gi_colMid htl, if_neg (by omega)] at hcs
          have hfs := hsum.frozenAt t
          have h1 := rowS_01 Hg.out hlt (k := t) (by omega)
          have h1' := rowS_01 Hg.out hlt (k := t + 1) (by omega)
          have h2 := colS_01 Hg.out htl (k := k) (by omega)
          have h2' := colS_01 Hg.out htl (k := k + 1) (by omega)
          have s1 : sumK (gr m k) (t + 1) = sumK (gr m k) t + gi (gr m k) t := rfl
          have s2 : colS m t (k + 1) = colS m t k + gi (gr m k) t := rfl
          rw [s1] at h1'
          rw [s2] at h2'
          have hkd : kd m k t = kdV (gi (gr m k) t) (sumK (gr m k) t) (colS m t k) := rfl
          have hset : (colMid m k t).set t (colS m t k + gi (gr m k) t) = colMid m k (t + 1) := colMid_set htl
          have hsucc := kindRow_succ m k t
          have hRl0 := kindRow_len m k t
          obtain ⟨R, hR⟩ : ∃ R, R = kindRow m k t := ⟨_, rfl⟩
          rw [← hR] at hrow hsucc hRl0
          obtain ⟨x, hx⟩ : ∃ x, x = gi (gr m k) t := ⟨_, rfl⟩
          obtain ⟨y, hy⟩ : ∃ y, y = sumK (gr m k) t := ⟨_, rfl⟩
          obtain ⟨z, hz⟩ : ∃ z, z = colS m t k := ⟨_, rfl⟩
          rw [← hx] at hc2 hkd h1' h2' s1 s2 hset
          rw [← hy] at h1 h1' s1 hkd ⊢
          rw [← hz] at hcs h2 h2' hkd hset s2
          obtain ⟨q, hq⟩ : ∃ q, q = kdV x y z := ⟨_, rfl⟩
          rw [← hq] at hkd
          rw [hkd] at hsucc
          have HBs := Lib.hid (show wo.heap.size ≤ wr.heap.size from hgb.size)
          have HWo := Lib.hid (show w.heap.size < wo.heap.size by have := HO.out; omega)
          have Hsucc := Lib.hid hsucc
          have S1 := Lib.hid s1
          have Hset := Lib.hid hset
          have Hz := Lib.hid hz
          have Hrow1 := Lib.hid hrow
          have Hgb := Lib.hid hgb
          have Hsum := Lib.hid hsum
          have hRl : R.length ≤ 6 := by omega
          obtain ⟨ra, rc, hrr, _, _, _⟩ := hrow.read
          subst hrr
          -- after a kind has been appended
          have hafter : ∀ v' w3, w3.ownsRow wo.heap.size 3 1 v' (R.length + 1) (R.map (Value.int .i64) ++ [.int .i64 q]) → (wr.alloc (.cells #[.int .i64 q] 3)).grownBy w3 (Value.slice ra R.length rc).ownBlock →
              OwnI w3 wo.heap.size v' (kindRow m k (t + 1)) ∧ wo.grownBy (w3.setCell ⟨w.heap.size, t, none⟩ (.int .i64 (z + x))) (some w.heap.size) ∧ OwnI w3 w.heap.size (.slice (some ⟨w.heap.size, 0, none⟩) m.length m.length) (colMid m k t) := by
            intro v' w3 hown' hgrow
            have hput := Hrow1.out.snoc HBs.out hown' hgrow
            have hg2 : wo.grownBy w3 (some w.heap.size) := Hgb.out.andThen ((World.grownBy_alloc _ _ _).trans hgrow) (fun j hj => by
              have := (Hrow1.out.lt j hj).1
              exact .inl this)
            refine ⟨by rw [Hsucc.out]; exact hput.1, ⟨hg2.os, hg2.tape, hg2.output, by simpa [World.setCell] using hg2.size, fun b hb hne => (Below.heap_setCell _ _ _ _ (fun e => hne (by rw [e]))).trans (hg2.block b hb hne)⟩, ?_⟩
            exact World.ownsRow.kept (World.ownsRow.alloc Hsum.out _) hgrow (.inr (fun e => by have := (Hrow1.out.lt w.heap.size e.symm).1; have := HWo.out; omega))
          have Hafter := Lib.hid hafter
          clear hafter
          have H1 := Lib.hid h1
          have H2 := Lib.hid h2
          clear hRl0 hsum hrow hgb hbt hsucc hx hy hz hR s1 s2 hset hkd h1 h2
          by_cases e1 : x = 1
          · have hb1 : (x == 1) = true := by simpa using e1
            have hq4 : q = 4 := by rw [hq]; unfold kdV; rw [if_pos e1]
            subst hq4
            have E1 := Lib.hid e1
            clear hq e1
            go_wp2_with (at_builtin; refine wpList_append_own _ rfl _ _ 28 rfl wo.heap.size 3 i0 (.int .i64 0) 1 8 Tryd.underlying28 hi hz0 hz1 hz2 rfl (by decide) _ _ _ rfl (World.ownsRow.alloc Hrow1.out _) ⟨wr.heap.size, 0, none⟩ 1 1 [.int .i64 4] rfl rfl ?e1 ?e2 ?e3 ?e4 ?e5 ?_)
            case e1 => exact cell_one_new _ _ _
            case e2 => intro u hu; simp at hu; subst hu; rfl
            case e3 => unfold maxLen; omega
            case e4 => omega
            case e5 => have := HBs.out; simp; omega
            intro v' w3 hown' hgrow _
            obtain ⟨hrow3, hg3, hsum3⟩ := Hafter.out v' w3 hown' hgrow
            obtain ⟨ra', rc', hrr, _, _, _⟩ := hrow3.read
            have hst := hsum3.store t (z + x)
            rw [Hset.out] at hst
            have hcs3 := hsum3.cellAt t htl
            rw [gi_colMid htl, if_neg (by omega), ← Hz.out] at hcs3
            have hfs3 := hsum3.frozenAt t
            have hrow4 : OwnI (w3.setCell ⟨w.heap.size, t, none⟩ (.int .i64 (z + x))) wo.heap.size _ (kindRow m k (t + 1)) := hrow3.setOther (a := ⟨w.heap.size, t, none⟩) (fun e => by have := (hrow3.lt w.heap.size e).1; have := HWo.out; omega) _
            rw [kindRow_len] at hrr
            subst hrr
            have Hst := Lib.hid hst
            have Hrow4 := Lib.hid hrow4
            have Hg3 := Lib.hid hg3
            clear hown' hgrow hrow3 hg3 hsum3 hst hrow4 hcs hfs Hafter
            go_wp2
            go_roundw
            case rel => exact ⟨t + 1, by omega, by go_num, by rw [S1.out], Hst.out, Hrow4.out, Hg3.out⟩
            case measure => simp [intOf]; omega
          · have hb1 : (x == 1) = false := by simpa using e1
            by_cases e2 : x = -1
            · have hb2 : (x == -1) = true := by simpa using e2
              have hq5 : q = 5 := by rw [hq]; unfold kdV; rw [if_neg e1, if_pos e2]
              subst hq5
              clear hq e1 e2
              go_wp2_with (at_builtin; refine wpList_append_own _ rfl _ _ 28 rfl wo.heap.size 3 i0 (.int .i64 0) 1 8 Tryd.underlying28 hi hz0 hz1 hz2 rfl (by decide) _ _ _ rfl (World.ownsRow.alloc Hrow1.out _) ⟨wr.heap.size, 0, none⟩ 1 1 [.int .i64 5] rfl rfl ?e1 ?e2 ?e3 ?e4 ?e5 ?_)
              case e1 => exact cell_one_new _ _ _
              case e2 => intro u hu; simp at hu; subst hu; rfl
              case e3 => unfold maxLen; omega
              case e4 => omega
              case e5 => have := HBs.out; simp; omega
              intro v' w3 hown' hgrow _
              obtain ⟨hrow3, hg3, hsum3⟩ := Hafter.out v' w3 hown' hgrow
              obtain ⟨ra', rc', hrr, _, _, _⟩ := hrow3.read
              have hst := hsum3.store t (z + x)
              rw [Hset.out] at hst
              have hcs3 := hsum3.cellAt t htl
              rw [gi_colMid htl, if_neg (by omega), ← Hz.out] at hcs3
              have hfs3 := hsum3.frozenAt t
              have hrow4 : OwnI (w3.setCell ⟨w.heap.size, t, none⟩ (.int .i64 (z + x))) wo.heap.size _ (kindRow m k (t + 1)) := hrow3.setOther (a := ⟨w.heap.size, t, none⟩) (fun e => by have := (hrow3.lt w.heap.size e).1; have := HWo.out; omega) _
              rw [kindRow_len] at hrr
              subst hrr
              have Hst := Lib.hid hst
              have Hrow4 := Lib.hid hrow4
              have Hg3 := Lib.hid hg3
              clear hown' hgrow hrow3 hg3 hsum3 hst hrow4 hcs hfs Hafter
              go_wp2
              go_roundw
              case rel => exact ⟨t + 1, by omega, by go_num, by rw [S1.out], Hst.out, Hrow4.out, Hg3.out⟩
              case measure => simp [intOf]; omega
            · have hb2 : (x == -1) = false := by simpa using e2
              have hqd : q = 2 * y + z := by rw [hq]; unfold kdV; rw [if_neg e1, if_neg e2]
              have hy01 : 0 ≤ y ∧ y ≤ 1 := H1.out
              have hz01 : 0 ≤ z ∧ z ≤ 1 := H2.out
              subst hqd
              clear hq e1 e2
              go_wp2_with (at_builtin; refine wpList_append_own _ rfl _ _ 28 rfl wo.heap.size 3 i0 (.int .i64 0) 1 8 Tryd.underlying28 hi hz0 hz1 hz2 rfl (by decide) _ _ _ rfl (World.ownsRow.alloc Hrow1.out _) ⟨wr.heap.size, 0, none⟩ 1 1 [.int .i64 (2 * y + z)] rfl rfl ?e1 ?e2 ?e3 ?e4 ?e5 ?_)
              case e1 => exact cell_one_new _ _ _
              case e2 => intro u hu; simp at hu; subst hu; rfl
              case e3 => unfold maxLen; omega
              case e4 => omega
              case e5 => have := HBs.out; simp; omega
              intro v' w3 hown' hgrow _
              obtain ⟨hrow3, hg3, hsum3⟩ := Hafter.out v' w3 hown' hgrow
              obtain ⟨ra', rc', hrr, _, _, _⟩ := hrow3.read
              have hst := hsum3.store t (z + x)
              rw [Hset.out] at hst
              have hcs3 := hsum3.cellAt t htl
              rw [gi_colMid htl, if_neg (by omega), ← Hz.out] at hcs3
              have hfs3 := hsum3.frozenAt t
              have hrow4 : OwnI (w3.setCell ⟨w.heap.size, t, none⟩ (.int .i64 (z + x))) wo.heap.size _ (kindRow m k (t + 1)) := hrow3.setOther (a := ⟨w.heap.size, t, none⟩) (fun e => by have := (hrow3.lt w.heap.size e).1; have := HWo.out; omega) _
              rw [kindRow_len] at hrr
              subst hrr
              have Hst := Lib.hid hst
              have Hrow4 := Lib.hid hrow4
              have Hg3 := Lib.hid hg3
              clear hown' hgrow hrow3 hg3 hsum3 hst hrow4 hcs hfs Hafter
              go_wp2
              go_roundw
              case rel => exact ⟨t + 1, by omega, by go_num, by rw [S1.out], Hst.out, Hrow4.out, Hg3.out⟩
              case measure => simp [intOf]; omega
        · obtain rfl : t = m.length := by omega
          obtain ⟨ra, rc, hrr, _, _, _⟩ := hrow.read
          obtain ⟨rn, hrn⟩ : ∃ rn, rn = (kindRow m k m.length).length := ⟨_, rfl⟩
          rw [← hrn] at hrr
          subst hrr
          have hrowk : OwnI wr (w.heap.size + 1) (.slice ra rn rc) (gr (kinds m) k) := by rw [← kindRow_full hlt]; exact hrow.base (by omega)
          have hfr : ∀ j, j < k → ∀ g, (vs.getD j undef).ownBlock = some g → (Value.slice ra rn rc).ownBlock ≠ some g := fun j hj g hg hg' => by
            have h1 := (Hown.out.rows j hj).lt g hg
            have h2 := hrow.lt g hg'
            omega
          have Hown2 := Lib.hid (Hown.out.kept1 hgb (by omega))
          have Hrowk := Lib.hid hrowk
          have Hfr := Lib.hid hfr
          have Hgb := Lib.hid hgb
          have Hbt := Lib.hid (Hbr.out.grown hgb (by omega) (fun k hk => by cases hk; exact Nat.le_refl _))
          have Hsum := Lib.hid (show OwnI wr w.heap.size (.slice (some ⟨w.heap.size, 0, none⟩) m.length m.length) (colMid m (k + 1) 0) by rw [← colMid_next]; exact hsum)
          have HBs := Lib.hid (show w.heap.size + 1 ≤ wr.heap.size from Nat.le_trans hsz hgb.size)
          obtain ⟨oa, oc, hoo, _, _, _⟩ := ownsRow_read Hown2.out.top
          subst hoo
          clear hsum hrow hgb hrowk hfr hrn hc1'
          go_wp2_with (at_builtin; refine wpList_append_own _ rfl _ _ 25 rfl (w.heap.size + 1) 28 j0 (.slice none 0 0) 1 24 Tryd.underlying25 hj hy0 hy1 hy2 rfl (by decide) _ _ _ rfl (World.ownsRow.alloc Hown2.out.top _) ⟨wr.heap.size, 0, none⟩ 1 1 [.slice ra rn rc] rfl rfl ?f1 ?f2 ?f3 ?f4 ?f5 ?_)
          case f1 => exact cell_one_new _ _ _
          case f2 => intro u hu; simp at hu; subst hu; rfl
          case f3 => unfold maxLen; omega
          case f4 => omega
          case f5 => have := HBs.out; simp; omega
          intro v' w3 hown' hgrow _
          have hput := Hown2.out.snoc HBs.out Hrowk.out Hfr.out hown' hgrow
          have hsum3 : OwnI w3 w.heap.size (.slice (some ⟨w.heap.size, 0, none⟩) m.length m.length) (colMid m (k + 1) 0) :=
            World.ownsRow.kept (World.ownsRow.alloc Hsum.out _) hgrow (.inr (fun e => by have := (World.ownsRow.lt Hown2.out.top w.heap.size e.symm).1; omega))
          have Hput := Lib.hid hput
          have Hsum3 := Lib.hid hsum3
          clear hput hown' hgrow hsum3
          go_wp2
          go_roundw
          case rel => exact ⟨k + 1, _, by omega, by go_num, Hsum3.out, Hput.out.1, Hbt.out.trans (Hput.out.2.mono (by omega)), Nat.le_trans HBs.out Hput.out.2.size⟩
          case measure => simp [intOf]; omega
    · obtain rfl : k = m.length := by omega
      go_wp2
      go_ret
      exact ⟨_, rfl, ⟨vs, by rw [kinds_len]; exact hown.base (by omega)⟩, hbr⟩

end Go.Proofs.YtnhkclnloiiihaaDoor

namespace Go.Proofs.YtnhkclnloiiihaaDoor
open Go.RowKit

theorem cntL_zero : cntL (fun _ => 0) = List.replicate 6 0 := rfl
set_option maxRecDepth 100000 in
set_option maxHeartbeats 3200000 in
theorem weCounts_any (ao : Option Addr) (c : Nat) (m : List (List Int)) (w : World) (hg : good m) (hm : MatAt w ao m) :
    Calls Tryd.prog 117 #[.slice ao m.length c] w fun e w' => ∃ v, e = .returned v ∧ OwnI w' w.heap.size v (cntL (cntK m)) ∧ Below w.heap.size w w' := by
  obtain ⟨i0, hi, hz0, hz1, hz2⟩ := info_parts Tryd.info_int
  have hn := hg.1.2.1
  have hmx : m.length ≤ 9223372036854775807 := by omega
  have Hg := Lib.hid hg
  have Hm := Lib.hid hm
  clear hg hm
  go_enter Tryd.func117, Tryd.ntmps117
  go_wp2_with (at_make; refine wpList_make_full _ rfl _ _ 28 rfl w.heap.size 3 i0 (.int .i64 0) 1 Tryd.underlying28 hi hz0 hz1 _ _ _ _ 6 rfl rfl rfl rfl ?c1 ?c2 ?c3 ?_)
  case c1 => rw [hz2]; omega
  case c2 => unfold maxLen; omega
  case c3 => simp
  intro w1 hown hgr
  have hb1 : Below w.heap.size w w1 := (Below.refl _ _).grown hgr (Nat.le_refl _) (fun _ h => by cases h)
  have hsum := OwnI.made hown
  rw [← cntL_zero] at hsum
  have Hsum := Lib.hid hsum
  have HB := Lib.hid hb1
  have hsz : w.heap.size + 1 ≤ w1.heap.size := by have := (OwnI.lt hsum w.heap.size rfl).2; omega
  clear hown hgr hb1 hsum
  go_wp2_with fail
  refine (weKinds_any ao c m w1 Hg.out (Hm.out.below HB.out)).mono ?_
  rintro e w2 ⟨v, rfl, hv, hb⟩
  obtain ⟨ka, kcap, vsK, rfl, hp, hk1, hk2⟩ := hv.open
  rw [kinds_len] at hp hk1 ⊢
  have HP := Lib.hid hp
  have HC2 := Lib.hid (Hsum.out.below hb)
  have HB2 := Lib.hid (HB.out.trans (hb.mono (by omega)))
  have hsz2 : w.heap.size + 1 ≤ w2.heap.size := by have := hb.size; omega
  clear hv hb hp Hsum HB
  go_wp2
  go_loopw [12] (fun i wr => ∃ k : Nat, k ≤ m.length ∧ i = .int .i64 k ∧ OwnI wr w.heap.size (.slice (some ⟨w.heap.size, 0, none⟩) 6 6) (cntL (fun q => cntP m q k 0)) ∧ OnlyW (fun g => g = w.heap.size) w2 wr) (fun i _ => m.length - (intOf i).toNat)
  case atStart => exact ⟨0, Nat.zero_le _, rfl, HC2.out, OnlyW.refl _ _⟩
  case round =>
    obtain ⟨k, hk, rfl, hc, ho⟩ := hrel
    have Hc := Lib.hid hc
    have Ho := Lib.hid ho
    clear hc ho HC2
    by_cases hlt : k < m.length
    · obtain ⟨b1, o1, r1, d1, e0, hc0, hv0, _, _, _⟩ := (HP.out.only Ho.out (fun g e => by have := e; omega)).rowAt hlt
      have hrow2 := HP.out.rows k hlt
      rw [hv0] at hrow2
      rw [kinds_row hlt] at hc0 hrow2
      subst e0
      have Hrow := Lib.hid hrow2
      clear hv0 hrow2
      go_wp2
      go_loopw [18] (fun i wr => ∃ t : Nat, t ≤ m.length ∧ i = .int .i64 t ∧ OwnI wr w.heap.size (.slice (some ⟨w.heap.size, 0, none⟩) 6 6) (cntL (fun q => cntP m q k t)) ∧ OnlyW (fun g => g = w.heap.size) w2 wr) (fun i _ => m.length - (intOf i).toNat)
      case atStart => exact ⟨0, Nat.zero_le _, rfl, Hc.out, Ho.out⟩
      case round =>
        obtain ⟨t, ht, rfl, hc, ho⟩ := hrel
        clear Hc Ho
        by_cases htl : t < m.length
        · obtain ⟨b2, o2, e2, hc2⟩ := own_at (ownsRow_only Hrow.out ho (fun g hg e => by have := (Hrow.out.lt g hg).1; have := e; omega)) t (by rw [kinds_row hlt]; exact htl)
          rw [gi_kinds hlt htl] at hc2
          have hr := kd_range Hg.out hlt htl
          obtain ⟨q, hq⟩ : ∃ q : Nat, kd m k t = (q : Int) := ⟨(kd m k t).toNat, by omega⟩
          have hq6 : q < 6 := by omega
          have hbd := cntP_bd (m := m) q hn (k := k) (t := t) (by omega) (by omega)
          have hcq := hc.cellAt q hq6
          rw [cntL_gi _ hq6] at hcq
          have hfq := hc.frozenAt q
          have hst := hc.store q (cntP m q k t + 1)
          have hset : (cntL (fun q => cntP m q k t)).set q (cntP m q k t + 1) = cntL (fun q => cntP m q k (t + 1)) := cntL_set (fun q => cntP m q k t) (fun q => cntP m q k (t + 1)) q hq6 (by
            show cntP m q k (t + 1) = cntP m q k t + 1
            rw [cntP_step, hq]; unfold ind; rw [if_pos rfl]) (fun j hj e => by
            show cntP m j k (t + 1) = cntP m j k t
            rw [cntP_step, hq]; unfold ind; rw [if_neg (by omega)]; omega)
          rw [hset] at hst
          have Hos := Lib.hid (ho.setCell (p := ⟨w.heap.size, q, none⟩) rfl (.int .i64 (cntP m q k t + 1)))
          rw [hq] at hc2
          obtain ⟨x, hx⟩ : ∃ x, x = cntP m q k t := ⟨_, rfl⟩
          rw [← hx] at hcq hbd hst Hos
          have Hst := Lib.hid hst
          subst e2
          clear hst hset hx hq hr hc ho
          go_wp2
          go_roundw
          case rel => exact ⟨t + 1, by omega, by go_num, Hst.out, Hos.out⟩
          case measure => simp [intOf]; omega
        · obtain rfl : t = m.length := by omega
          have e : cntL (fun q => cntP m q k m.length) = cntL (fun q => cntP m q (k + 1) 0) := cntL_ext (fun q _ => cntP_row m q k)
          rw [e] at hc
          have Hc := Lib.hid hc
          have Ho := Lib.hid ho
          clear hc ho e
          go_wp2
          go_roundw
          case rel => exact ⟨k + 1, by omega, by go_num, Hc.out, Ho.out⟩
          case measure => simp [intOf]; omega
    · obtain rfl : k = m.length := by omega
      have e : cntL (fun q => cntP m q m.length 0) = cntL (cntK m) := cntL_ext (fun q _ => cntP_end m q)
      have HC := Lib.hid (show OwnI wr w.heap.size (.slice (some ⟨w.heap.size, 0, none⟩) 6 6) (cntL (cntK m)) by rw [← e]; exact Hc.out)
      have HB := Lib.hid (HB2.out.trans (Ho.out.below (B := w.heap.size) (fun g e => by have := e; omega)))
      clear Hc HP e
      go_wp2
      go_ret
      exact ⟨_, rfl, HC.out, HB.out⟩

end Go.Proofs.YtnhkclnloiiihaaDoor

