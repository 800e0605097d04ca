/- Parts of proofs: contracts and plain facts. Conditions: as each says. -/
import Derived.Test.YtifnhlnbofkloaaDoorK07
namespace Go.Proofs.YtifnhlnbofkloaaDoor
open Go.RowKit

theorem run_index_kc (f : Nat → Int) {k : Nat} (hk : k < 6) (w : World) : (Instr.index 65 (.agg (kc f)) (.int .i64 (k : Int))).run Tryd.prog w = .ok (.int .i64 (f k)) w := by
  obtain rfl | rfl | rfl | rfl | rfl | rfl : k = 0 ∨ k = 1 ∨ k = 2 ∨ k = 3 ∨ k = 4 ∨ k = 5 := by omega
  all_goals kernel_rfl

theorem ints_new (w : World) (xs : List Int) : IntsAt (w.alloc (.cells (xs.map (Value.int .i64)).toArray 3)) (some ⟨w.heap.size, 0, none⟩) xs := fun i hi => ⟨w.heap.size, 0, rfl, by
  rw [Nat.zero_add, cell_new]
  simp [gi, List.getD, hi]⟩

set_option maxRecDepth 100000 in
set_option maxHeartbeats 800000 in
theorem iAllIn_any (ao : Option Addr) (c : Nat) (xs : List Int) (lo hi : Int) (w : World) (hn : xs.length ≤ 1048576) (hx : IntsAt w ao xs) :
    Calls Tryd.prog 73 #[.int .i64 lo, .int .i64 hi, .slice ao xs.length c] w fun e w' => Ans (allIn xs lo hi) e ∧ w = w' := by
  have hmx : xs.length ≤ 9223372036854775807 := by omega
  have Hx := Lib.hid hx
  clear hx
  go_enter Tryd.func73, Tryd.ntmps73
  go_wp2
  go_loop [11] (fun i => ∃ k : Nat, k ≤ xs.length ∧ i = .int .i64 k ∧ ∀ j, j < k → lo ≤ gi xs j ∧ gi xs j ≤ hi) (fun i => xs.length - (intOf i).toNat)
  case atStart => exact ⟨0, Nat.zero_le _, rfl, fun j hj => absurd hj (by omega)⟩
  case round =>
    obtain ⟨k, hk, rfl, hd⟩ := hrel
    have Hd := Lib.hid hd
    clear hd
    by_cases hlt : k < xs.length
    · obtain ⟨b1, o1, rfl, hc1⟩ := Hx.out k hlt
      have Hno := Lib.hid (fun (h : ¬(lo ≤ gi xs k ∧ gi xs k ≤ hi)) (h2 : allIn xs lo hi) => h (h2 k hlt))
      have Hyes := Lib.hid (show (lo ≤ gi xs k ∧ gi xs k ≤ hi) → ∀ j, j < k + 1 → lo ≤ gi xs j ∧ gi xs j ≤ hi from fun h j hj => by
        by_cases e : j = k
        · subst e; exact h
        · exact Hd.out j (by omega))
      obtain ⟨x, hx⟩ : ∃ x, x = gi xs k := ⟨_, rfl⟩
      rw [← hx] at hc1 Hno Hyes
      clear hx
      by_cases h1 : x < lo
      · have hd1 : decide (x < lo) = true := by simpa using h1
        have H := Lib.hid (Hno.out (fun h => by omega))
        clear Hno Hyes h1
        go_wp2
        go_ret
        exact ⟨Ans.no H.out, rfl⟩
      · have hd1 : decide (x < lo) = false := by simpa using h1
        by_cases h2 : hi < x
        · have hd2 : decide (hi < x) = true := by simpa using h2
          have H := Lib.hid (Hno.out (fun h => by omega))
          clear Hno Hyes h1 h2
          go_wp2
          go_ret
          exact ⟨Ans.no H.out, rfl⟩
        · have hd2 : decide (hi < x) = false := by simpa using h2
          have H := Lib.hid (Hyes.out ⟨by omega, by omega⟩)
          clear Hno Hyes h1 h2
          go_wp2
          go_round
          case rel => exact ⟨k + 1, by omega, by go_num, H.out⟩
          case measure => simp [intOf]; omega
    · obtain rfl : k = xs.length := by omega
      go_wp2
      go_ret
      exact ⟨Ans.yes Hd.out, rfl⟩

theorem allIn_one (x lo hi : Int) : allIn [x] lo hi ↔ lo ≤ x ∧ x ≤ hi := ⟨fun h => h 0 (by simp), fun h i hi => by obtain rfl : i = 0 := by simpa using hi
                                                                                                                   exact h⟩
theorem allIn_three (a b c lo hi : Int) : allIn [a, b, c] lo hi ↔ (lo ≤ a ∧ a ≤ hi) ∧ (lo ≤ b ∧ b ≤ hi) ∧ lo ≤ c ∧ c ≤ hi := by
  constructor
  · intro h; exact ⟨h 0 (by simp), h 1 (by simp), h 2 (by simp)⟩
  · rintro ⟨h1, h2, h3⟩ i hi
    have hi3 : i < 3 := by simpa using hi
    match i, hi3 with
    | 0, _ => exact h1
    | 1, _ => exact h2
    | 2, _ => exact h3

set_option maxRecDepth 100000 in
set_option maxHeartbeats 800000 in
theorem canBeWeighted_any (n : Int) (w : World) :
    Calls Tryd.prog 59 #[.int .i64 n] w fun e w' => Ans (1 ≤ n ∧ n ≤ 4) e ∧ Below w.heap.size w w' := by
  go_enter Tryd.func59, Tryd.ntmps59
  go_wp2_with fail
  refine (iAllIn_any (some ⟨w.heap.size, 0, none⟩) 1 [n] 1 4 _ (by simp) (ints_new w [n])).mono ?_
  rintro e w2 ⟨ha, rfl⟩
  obtain ⟨b, rfl, hb⟩ := ha.iff (allIn_one n 1 4)
  have Hb := Lib.hid hb
  clear ha hb
  go_wp2
  go_ret
  exact ⟨⟨b, rfl, Hb.out⟩, (Below.refl _ _).alloc (Nat.le_refl _) _⟩

def isFac (a b c : Int) : Prop := (0 ≤ a ∧ a ≤ 5) ∧ (0 ≤ b ∧ b ≤ 5) ∧ 0 ≤ c ∧ c ≤ 5
set_option maxRecDepth 100000 in
set_option maxHeartbeats 800000 in
theorem areFactors_any (a b c : Int) (w : World) :
    Calls Tryd.prog 68 #[.int .i64 a, .int .i64 b, .int .i64 c] w fun e w' => Ans (isFac a b c) e ∧ Below w.heap.size w w' := by
  go_enter Tryd.func68, Tryd.ntmps68
  go_wp2_with fail
  refine (iAllIn_any (some ⟨w.heap.size, 0, none⟩) 3 [a, b, c] 0 5 _ (by simp) (ints_new w [a, b, c])).mono ?_
  rintro e w2 ⟨ha, rfl⟩
  obtain ⟨r, rfl, hb⟩ := ha.iff (allIn_three a b c 0 5)
  have Hb := Lib.hid hb
  clear ha hb
  go_wp2
  go_ret
  exact ⟨⟨r, rfl, Hb.out⟩, (Below.refl _ _).alloc (Nat.le_refl _) _⟩

set_option maxRecDepth 100000 in
set_option maxHeartbeats 800000 in
theorem power_any (x : Int) (k : Nat) (w : World) (hk : k ≤ 1000) (hb : ∀ j, j ≤ k → 0 ≤ pw x j ∧ pw x j ≤ 4000000000000000000) :
    Calls Tryd.prog 97 #[.int .i64 x, .int .i64 (k : Int)] w fun e w' => e = .returned (.int .i64 (pw x k)) ∧ w' = w := by
  have Hb := Lib.hid hb
  clear hb
  go_enter Tryd.func97, Tryd.ntmps97
  go_wp2
  go_loop [5, 7] (fun p i => ∃ t : Nat, t ≤ k ∧ i = .int .i64 t ∧ p = .int .i64 (pw x t)) (fun _ i => k - (intOf i).toNat)
  case atStart => exact ⟨0, Nat.zero_le _, rfl, rfl⟩
  case round =>
    obtain ⟨t, ht, rfl, rfl⟩ := hrel
    by_cases hlt : t < k
    · have h1 := Hb.out t (by omega)
      have h2 := Hb.out (t + 1) (by omega)
      have S := Lib.hid (pw_succ x t)
      rw [S.out] at h2
      obtain ⟨p, hp⟩ : ∃ p, p = pw x t := ⟨_, rfl⟩
      rw [← hp] at h1 h2 S ⊢
      obtain ⟨q, hq⟩ : ∃ q, q = p * x := ⟨_, rfl⟩
      have hw : IntKind.i64.wrap (p * x) = q := by rw [← hq]; exact w64 (by omega)
      rw [← hq] at S h2
      clear hp hq
      go_wp2
      go_round
      case rel => exact ⟨t + 1, by omega, by go_num, by rw [S.out]⟩
      case measure => simp [intOf]; omega
    · obtain rfl : t = k := by omega
      go_wp2
      go_ret
      exact ⟨rfl, rfl⟩
set_option maxRecDepth 100000 in
set_option maxHeartbeats 3200000 in
theorem weightOfPlaces1_any (ao : Option Addr) (c g : Nat) (wt : Nat → Int) (m : List (List Int)) (w : World) (hg : good m) (h4 : m.length ≤ 4) (hwt : ∀ q, q < 6 → 0 ≤ wt q ∧ wt q ≤ 10) (hm : MatAt w ao m) (hk : KcAt w g wt) :
    Calls Tryd.prog 113 #[.slice ao m.length c, .pointer (some ⟨g, 0, none⟩)] w fun e w' => e = .returned (.int .i64 (prodW wt (cN m) 6)) ∧ Below w.heap.size w w' := by
  have Hg := Lib.hid hg
  have Hm := Lib.hid hm
  have Hk := Lib.hid hk
  have Hwt := Lib.hid hwt
  have Hc := Lib.hid (sumC_cN hg h4)
  have hn := hg.1.2.1
  clear hg hm hk hwt
  go_enter Tryd.func113, Tryd.ntmps113
  go_wp2_with fail
  refine (countsOfKinds_any ao c m w Hg.out Hm.out).mono ?_
  rintro e w2 ⟨rfl, hb⟩
  have Hk2 := Lib.hid (Hk.out.below hb)
  have Hb := Lib.hid hb
  clear hb Hk
  go_wp2
  go_loop [4, 9] (fun p i => ∃ k : Nat, k ≤ 6 ∧ i = .int .i64 k ∧ p = .int .i64 (prodW wt (cN m) k)) (fun _ i => 6 - (intOf i).toNat)
  case atStart => exact ⟨0, Nat.zero_le _, rfl, rfl⟩
  case round =>
    obtain ⟨k, hk, rfl, rfl⟩ := hrel
    by_cases hlt : k < 6
    · have hix := run_index_kc (fun q => cntK m q) hlt
      rw [cN_eq hn k] at hix
      have hcw := Hk2.out.cell hlt
      have hw10 := Hwt.out k hlt
      have hc16 : cN m k ≤ 16 := by
        have h1 := Hc.out
        have h2 := sumC_mono (c := cN m) (show k + 1 ≤ 6 by omega)
        simp only [sumC] at h1 h2
        omega
      have hp1 := prodW_small Hwt.out Hc.out (k := k) (by omega)
      have hp2 := prodW_small Hwt.out Hc.out (k := k + 1) (by omega)
      have S := Lib.hid (show prodW wt (cN m) (k + 1) = prodW wt (cN m) k * pw (wt k) (cN m k) from rfl)
      rw [S.out] at hp2
      have C := Lib.hid (fun w => power_any (wt k) (cN m k) w (by omega) (fun j hj => by
        have := pw_small hw10 (k := j) (by omega)
        omega))
      obtain ⟨n, hn⟩ : ∃ n, n = cN m k := ⟨_, rfl⟩
      obtain ⟨x, hx⟩ : ∃ x, x = wt k := ⟨_, rfl⟩
      obtain ⟨p, hp⟩ : ∃ p, p = prodW wt (cN m) k := ⟨_, rfl⟩
      obtain ⟨y, hy⟩ : ∃ y, y = pw x n := ⟨_, rfl⟩
      rw [← hn] at hix hc16
      rw [← hx] at hcw
      rw [← hx, ← hn, ← hp, ← hy] at hp2 S
      rw [← hx, ← hn, ← hy] at C
      rw [← hp] at hp1 ⊢
      obtain ⟨z, hz⟩ : ∃ z, z = p * y := ⟨_, rfl⟩
      have hw : IntKind.i64.wrap (p * y) = z := by rw [← hz]; exact w64 (by omega)
      rw [← hz] at S hp2
      clear hn hx hp hy hz hw10
      go_wp2_with fail
      refine (C.out _).mono ?_
      rintro e w3 ⟨rfl, rfl⟩
      go_wp2
      go_round
      case rel => exact ⟨k + 1, by omega, by go_num, by rw [S.out]⟩
      case measure => simp [intOf]; omega
    · obtain rfl : k = 6 := by omega
      go_wp2
      go_ret
      exact ⟨rfl, Hb.out⟩

/-- a weight: a closure over what the kinds are worth -/
def wFun (g : Nat) : Value := .func (.func 113) #[] #[.pointer (some ⟨g, 0, none⟩)]
set_option maxRecDepth 100000 in
set_option maxHeartbeats 800000 in
theorem weightOfPlaces_any (wt : Nat → Int) (w : World) :
    Calls Tryd.prog 74 #[.agg (kc wt)] w fun e w' => e = .returned (wFun w.heap.size) ∧ KcAt w' w.heap.size wt ∧ Below w.heap.size w w' := by
  go_enter Tryd.func74, Tryd.ntmps74
  go_upto_region 1 with (refine wpList_boxT rfl 65 _ rfl _ rfl ?_)
  have H := Lib.hid (KcAt.new w wt)
  have HB := Lib.hid ((Below.refl _ w).alloc (Nat.le_refl _) (.cells (kc wt) 65))
  go_wp2
  go_ret
  exact ⟨rfl, H.out, HB.out⟩

/-- what the kinds are worth in pairs -/
def wtP (a b c : Int) : Nat → Int
  | 0 => a
  | 1 => b
  | 2 => b
  | 3 => a
  | 4 => 1
  | _ => c
theorem kc_wtP (a b c : Int) : Tryd.prog.built 65 [(0, .int .i64 a), (1, .int .i64 b), (2, .int .i64 b), (3, .int .i64 a), (4, .int .i64 1), (5, .int .i64 c)] = some (kc (wtP a b c)) := by kernel_rfl
theorem wpList_buildTn {P : Program} {ops : Array Oper} {rest : List Oper} {o : Oper} {a : Act} {w : World} {Q : Exit → Act → World → Prop} (hg : o.guard = none) (t : TypeId) (xs : Array (Nat × Operand)) (ho : o.op = .build t xs)
    (vs : List (Nat × Value)) (hv : (xs.map fun (i, x) => (i, a.eval x)).toList = vs) (cells : Array Value) (hb : P.built t vs = some cells)
    (h : wpList P ops Q rest (a.put o.dst (.agg cells)) w) : wpList P ops Q (o :: rest) a w := by
  refine wpList_build hg t _ ho (by rw [hv, hb]; rfl) ?_
  rw [hv, hb]
  exact h
set_option maxRecDepth 100000 in
set_option maxHeartbeats 800000 in
theorem weightOfPairs_any (a b c : Int) (w : World) :
    Calls Tryd.prog 69 #[.int .i64 a, .int .i64 b, .int .i64 c] w fun e w' => ∃ g, e = .returned (wFun g) ∧ KcAt w' g (wtP a b c) ∧ Below w.heap.size w w' := by
  go_enter Tryd.func69, Tryd.ntmps69
  go_wp2_with (refine wpList_buildTn rfl 65 _ rfl [(0, .int .i64 a), (1, .int .i64 b), (2, .int .i64 b), (3, .int .i64 a), (4, .int .i64 1), (5, .int .i64 c)] rfl (kc (wtP a b c)) (kc_wtP a b c) ?_)
  refine (weightOfPlaces_any (wtP a b c) w).mono ?_
  rintro e w2 ⟨rfl, hk, hb⟩
  have Hk := Lib.hid hk
  have Hb := Lib.hid hb
  clear hk hb
  go_wp2
  go_ret
  exact ⟨_, rfl, Hk.out, Hb.out⟩

/-- the weight of a matrix by pairs of kinds -/
def wVal (m : List (List Int)) (a b c : Int) : Int := pw a (cN m 0 + cN m 3) * pw b (cN m 1 + cN m 2) * pw c (cN m 5)
theorem prodW_pairs (m : List (List Int)) (a b c : Int) : prodW (wtP a b c) (cN m) 6 = wVal m a b c := by
  simp only [prodW, wtP, wVal, pw_one, pw_add, Int.one_mul, Int.mul_one]
  simp only [Int.mul_assoc, Int.mul_left_comm, Int.mul_comm]
theorem wtP_le {a b c : Int} (h : isFac a b c) : ∀ q, q < 6 → 0 ≤ wtP a b c q ∧ wtP a b c q ≤ 10 := by
  intro q hq
  obtain ⟨h1, h2, h3⟩ := h
  obtain rfl | rfl | rfl | rfl | rfl | rfl : q = 0 ∨ q = 1 ∨ q = 2 ∨ q = 3 ∨ q = 4 ∨ q = 5 := by omega
  all_goals simp only [wtP]; omega
def okWt (m : List (List Int)) (a b c : Int) : Prop := (good m ∧ m.length ≤ 4) ∧ isFac a b c

end Go.Proofs.YtifnhlnbofkloaaDoor

