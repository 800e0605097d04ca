/- Parts of proofs: contracts and plain facts. Conditions: as each says. -/
import Derived.Test.YtifnhlnbofkloaaDoorK09
namespace Go.Proofs.YtifnhlnbofkloaaDoor
open Go.RowKit

set_option maxRecDepth 100000 in
set_option maxHeartbeats 1600000 in
theorem isEntryTable_any (ao : Option Addr) (c : Nat) (t : List (List Int)) (w : World) (hs : Small t) (ht : MatAt w ao t) :
    Calls Tryd.prog 81 #[.slice ao t.length c] w fun e w' => Ans (isTab t) e ∧ Below w.heap.size w w' := by
  have hmx : t.length ≤ 9223372036854775807 := by have := hs.1; omega
  have Hs := Lib.hid hs
  have Ht := Lib.hid ht
  clear hs ht
  go_enter Tryd.func81, Tryd.ntmps81
  go_wp2_with fail
  refine (canBeWeighted_any (t.length : Int) w).mono ?_
  rintro e w1 ⟨ha, hb⟩
  have Hb := Lib.hid hb
  have HB := Lib.hid hb.size
  clear hb
  by_cases h4 : 1 ≤ t.length ∧ t.length ≤ 4
  · have H4 := Lib.hid h4
    obtain rfl := ha.is ⟨by omega, by omega⟩
    clear ha
    go_wp2_with fail
    refine (hasSize_any ao c t.length t.length t w1 Hs.out (Ht.out.below Hb.out) hmx hmx).mono ?_
    rintro e w2 ⟨ha, hb2⟩
    have Hb2 := Lib.hid (Hb.out.trans (hb2.mono HB.out))
    have HB2 := Lib.hid Hb2.out.size
    clear hb2
    by_cases hwd : wideAll t t.length
    · have Hwd := Lib.hid hwd
      obtain rfl := ha.is ⟨rfl, hwd⟩
      clear ha hwd
      go_wp2
      go_loop [20] (fun i => ∃ k : Nat, k ≤ t.length ∧ i = .int .i64 k ∧ ∀ j, j < k → allIn (gr t j) 1 4) (fun i => t.length - (intOf i).toNat)
      case atStart => exact ⟨0, Nat.zero_le _, rfl, fun j hj => absurd hj (by omega)⟩
      case round =>
        obtain ⟨k, hk, rfl, hd⟩ := hrel
        have Hd := Lib.hid hd
        clear hd
        by_cases hlt : k < t.length
        · obtain ⟨b1, o1, r1, d1, rfl, hc1, hx1, _, _⟩ := Ht.out.below Hb2.out k hlt
          have hrl : (gr t k).length = t.length := Hwd.out k hlt
          rw [hrl] at hc1
          have C := Lib.hid (iAllIn_any r1 d1 (gr t k) 1 4 w2 (by omega) hx1)
          rw [hrl] at C
          clear hx1 hrl
          go_wp2_with fail
          refine C.out.mono ?_
          rintro e w3 ⟨ha, rfl⟩
          by_cases hin : allIn (gr t k) 1 4
          · have Hin := Lib.hid hin
            clear hin
            obtain rfl := ha.is Hin.out
            clear ha
            go_wp2
            go_round
            case rel =>
              refine ⟨k + 1, by omega, by go_num, fun j hj => ?_⟩
              by_cases e : j = k
              · subst e; exact Hin.out
              · exact Hd.out j (by omega)
            case measure => simp [intOf]; omega
          · have Hin := Lib.hid hin
            clear hin
            obtain rfl := ha.isnt Hin.out
            clear ha
            go_wp2
            go_ret
            exact ⟨Ans.no fun h => Hin.out (h.2 k hlt).2, Hb2.out⟩
        · obtain rfl : k = t.length := by omega
          go_wp2
          go_ret
          exact ⟨Ans.yes ⟨H4.out, fun i hi => ⟨Hwd.out i hi, Hd.out i hi⟩⟩, Hb2.out⟩
    · have Hwd := Lib.hid hwd
      obtain rfl := ha.isnt (fun h => hwd h.2)
      clear ha hwd
      go_wp2
      go_ret
      exact ⟨Ans.no fun h => Hwd.out fun i hi => (h.2 i hi).1, Hb2.out⟩
  · have H4 := Lib.hid h4
    obtain rfl := ha.isnt (fun h => by omega)
    clear ha h4
    go_wp2
    go_ret
    exact ⟨Ans.no fun h => H4.out h.1, Hb.out⟩

/-- it returns a ratio and true if p, else the zero ratio and false -/
def RtRes (p : Prop) (r : Nat × Nat) (e : Ending) : Prop := ∃ y b, e = .returned (.tuple #[.agg (rtA y), .bool b]) ∧ ((p ∧ b = true ∧ y = r) ∨ (¬p ∧ b = false ∧ y = (0, 0)))
theorem RtRes.yes {p : Prop} {r : Nat × Nat} (h : p) : RtRes p r (.returned (.tuple #[.agg (rtA r), .bool true])) := ⟨r, true, rfl, .inl ⟨h, rfl, rfl⟩⟩
theorem RtRes.no {p : Prop} {r : Nat × Nat} (h : ¬p) : RtRes p r (.returned (.tuple #[.agg (rtA (0, 0)), .bool false])) := ⟨(0, 0), false, rfl, .inr ⟨h, rfl, rfl⟩⟩
theorem rtres_same {p : Prop} {r y y' : Nat × Nat} {b b' : Bool} (h : (p ∧ b = true ∧ y = r) ∨ (¬p ∧ b = false ∧ y = (0, 0))) (h' : (p ∧ b' = true ∧ y' = r) ∨ (¬p ∧ b' = false ∧ y' = (0, 0))) : b = b' ∧ y = y' := by
  rcases h with ⟨h1, h2, h3⟩ | ⟨h1, h2, h3⟩ <;> rcases h' with ⟨k1, k2, k3⟩ | ⟨k1, k2, k3⟩
  · exact ⟨h2.trans k2.symm, h3.trans k3.symm⟩
  · exact absurd h1 k1
  · exact absurd k1 h1
  · exact ⟨h2.trans k2.symm, h3.trans k3.symm⟩

end Go.Proofs.YtifnhlnbofkloaaDoor

namespace Go.Proofs.YtifnhlnbofkloaaDoor
open Go.RowKit

def inR (n : Int) : Prop := 1 ≤ n ∧ n ≤ 8

/-- choices, factor by factor -/
def ch (n : Nat) : Nat → Nat
  | 0 => 1
  | i + 1 => ch n i * (n - i) / (i + 1)
def cI : Nat → Nat
  | 0 => 1
  | k + 1 => if k = 0 then 1 else cI k * ch (3 * k + 1) k / ch (2 * k) k

theorem ch_b : ∀ n, n < 23 → ∀ i, i < 8 → ch n i ≤ 1000000000 ∧ ch n i * (n - i) ≤ 1000000000 := by decide +kernel
theorem cI_b : ∀ k, k < 8 → cI k ≤ 1000000000 ∧ cI k * ch (3 * k + 1) k ≤ 1000000000000000 ∧ 1 ≤ ch (2 * k) k := by decide +kernel

set_option maxRecDepth 100000 in
set_option maxHeartbeats 800000 in
theorem sgGcd_any (b : Nat) : ∀ (a : Nat) (w : World), a ≤ 4000000000000000000 → b ≤ 4000000000000000000 →
    Calls Tryd.prog 114 #[.int .i64 (a : Int), .int .i64 (b : Int)] w fun e w' => e = .returned (.int .i64 (Nat.gcd a b : Nat)) ∧ w = w' := by
  induction b using Nat.strongRecOn with
  | _ b ih =>
    intro a w ha hb
    by_cases h0 : b = 0
    · subst h0
      rw [Nat.gcd_zero_right]
      go_enter Tryd.func114, Tryd.ntmps114
      go_wp2_with fail
      go_ret
      exact ⟨rfl, rfl⟩
    · have hlt := Nat.mod_lt a (show b > 0 by omega)
      have hh := ih (a % b) hlt b w (by omega) (by omega)
      have hbb : ((b : Int) == 0) = false := by simp [h0]
      have hm : (a : Int) % (b : Int) = ((a % b : Nat) : Int) := by rw [Int.natCast_emod]
      have hg : Nat.gcd b (a % b) = Nat.gcd a b := by rw [Nat.gcd_comm b, ← Nat.gcd_rec, Nat.gcd_comm]
      rw [hg] at hh
      have HH := Lib.hid hh
      obtain ⟨r, hr⟩ : ∃ r, r = a % b := ⟨_, rfl⟩
      rw [← hr] at hm hlt
      have Hr := Lib.hid hr
      clear hh hr hg ih
      go_enter Tryd.func114, Tryd.ntmps114
      go_wp2_with fail
      rw [Hr.out]
      refine HH.out.mono ?_
      rintro e w2 ⟨rfl, rfl⟩
      go_wp2_with fail
      go_ret
      exact ⟨rfl, rfl⟩

def stepA (s : Nat × Nat) (x : Nat) : Nat × Nat := (s.1 * (x / Nat.gcd x s.2), s.2 / Nat.gcd x s.2)
def stepB (s : Nat × Nat) (x : Nat) : Nat × Nat := (s.1 / Nat.gcd s.1 x, s.2 * (x / Nat.gcd s.1 x))
def itA (s : Nat × Nat) (x0 : Nat) : Nat → Nat × Nat
  | 0 => s
  | t + 1 => stepA (itA s x0 t) (x0 + t)
def itB (s : Nat × Nat) (x0 : Nat) : Nat → Nat × Nat
  | 0 => s
  | t + 1 => stepB (itB s x0 t) (x0 + t)
def outer (n : Nat) : Nat → Nat × Nat
  | 0 => (1, 1)
  | k + 1 => itB (itA (outer n k) (n + k + 1) (2 * k + 1 - n)) (3 * k + 2) (n - (2 * k + 1))

def okS (s : Nat × Nat) : Bool := decide (s.1 ≤ 1000000000000000000) && decide (s.2 ≤ 1000000000000000000) && decide (1 ≤ s.1) && decide (1 ≤ s.2)
theorem itA_ok : ∀ n, n < 9 → ∀ k, k < n → ∀ t, t < 9 → t ≤ 2 * k + 1 - n → okS (itA (outer n k) (n + k + 1) t) = true := by decide +kernel
theorem itB_ok : ∀ n, n < 9 → ∀ k, k < n → ∀ t, t < 9 → t ≤ n - (2 * k + 1) → okS (itB (itA (outer n k) (n + k + 1) (2 * k + 1 - n)) (3 * k + 2) t) = true := by decide +kernel
theorem outer_ok : ∀ n, n < 9 → okS (outer n n) = true := by decide +kernel
theorem outer_cI : ∀ n, n < 9 → 1 ≤ n → (outer n n).1 / (outer n n).2 = cI n := by decide +kernel

theorem okS_b {s : Nat × Nat} (h : okS s = true) : s.1 ≤ 1000000000000000000 ∧ s.2 ≤ 1000000000000000000 ∧ 1 ≤ s.1 ∧ 1 ≤ s.2 := by
  unfold okS at h
  simp only [Bool.and_eq_true, decide_eq_true_eq] at h
  omega

end Go.Proofs.YtifnhlnbofkloaaDoor

namespace Go.Proofs.YtifnhlnbofkloaaDoor
open Go.RowKit

theorem l1Most_any (a b : Int) (w : World) : Calls Tryd.prog 131 #[.int .i64 a, .int .i64 b] w fun e w' => e = .returned (.int .i64 (max a b)) ∧ w' = w := by
  by_cases h : b < a
  · have hm : max a b = a := by omega
    rw [hm]
    have hd : decide (b < a) = true := by simpa using h
    clear hm
    go_enter Tryd.func131, Tryd.ntmps131
    go_wp2
    go_ret
    exact ⟨rfl, rfl⟩
  · have hm : max a b = b := by omega
    rw [hm]
    have hd : decide (b < a) = false := by simpa using h
    clear hm
    go_enter Tryd.func131, Tryd.ntmps131
    go_wp2
    go_ret
    exact ⟨rfl, rfl⟩


theorem l1Abs_any (a : Int) (w : World) (h1 : -9223372036854775807 ≤ a) (h2 : a ≤ 9223372036854775807) : Calls Tryd.prog 115 #[.int .i64 a] w fun e w' => e = .returned (.int .i64 (max a (-a))) ∧ w' = w := by
  have hc := l1Most_any a (-a) w
  have HC := Lib.hid hc
  clear hc
  go_enter Tryd.func115, Tryd.ntmps115
  go_wp2_with fail
  refine HC.out.mono ?_
  rintro e w2 ⟨rfl, rfl⟩
  go_wp2
  go_ret
  exact ⟨rfl, rfl⟩

end Go.Proofs.YtifnhlnbofkloaaDoor

namespace Go.Proofs.YtifnhlnbofkloaaDoor
open Go.RowKit

set_option maxRecDepth 100000 in
set_option maxHeartbeats 1600000 in
theorem weRatio_any (p q : Nat) (w : World) (hq0 : 0 < q) (hp : p ≤ 4000000000000000000) (hq : q ≤ 4000000000000000000) :
    Calls Tryd.prog 79 #[.int .i64 (p : Int), .int .i64 (q : Int)] w fun e w' => e = .returned (.agg (rtA (nrm p q))) ∧ Below w.heap.size w w' := by
  have hg0 := (nrm_parts (p := p) hq0).1
  have hgl : Nat.gcd p q ≤ q := Nat.gcd_le_right _ hq0
  have C := Lib.hid (fun w => sgGcd_any q p w hp hq)
  have CA := Lib.hid (show ∀ w, Calls Tryd.prog 115 #[.int .i64 (p : Int)] w fun e w' => e = .returned (.int .i64 (p : Int)) ∧ w' = w from fun w => by
    have := l1Abs_any (p : Int) w (by omega) (by omega)
    rw [show max (p : Int) (-(p : Int)) = (p : Int) by omega] at this
    exact this)
  have H1 := Lib.hid (show (p : Int) / (Nat.gcd p q : Nat) = ((nrm p q).1 : Int) from by unfold nrm; rw [Int.natCast_ediv])
  have H2 := Lib.hid (show (q : Int) / (Nat.gcd p q : Nat) = ((nrm p q).2 : Int) from by unfold nrm; rw [Int.natCast_ediv])
  have hl := nrm_le p q
  obtain ⟨g, hg⟩ : ∃ g, g = Nat.gcd p q := ⟨_, rfl⟩
  rw [← hg] at hg0 hgl C H1 H2
  obtain ⟨r, hr⟩ : ∃ r, r = nrm p q := ⟨_, rfl⟩
  rw [← hr] at H1 H2 hl ⊢
  obtain ⟨r1, r2⟩ := r
  simp only at H1 H2 hl
  clear hg hr
  have hgz : ¬ g = 0 := by omega
  have hw1 : IntKind.i64.wrap (r1 : Int) = (r1 : Int) := w64 (by omega)
  have hw2 : IntKind.i64.wrap (r2 : Int) = (r2 : Int) := w64 (by omega)
  go_enter Tryd.func79, Tryd.ntmps79
  go_upto_region 1 with (refine wpList_allocT rfl 45 rfl _ _ Tryd.info_rt ?_)
  generalize hW : World.alloc w _ = w1
  have HR := Lib.hid (show RtAt w1 w.heap.size (0, 0) by rw [← hW]; exact RtAt.new w (0, 0))
  have HB := Lib.hid (show Below w.heap.size w w1 by rw [← hW]; exact (Below.refl _ w).alloc (Nat.le_refl _) _)
  clear hW
  go_wp2_with fail
  refine (CA.out _).mono ?_
  rintro e w2 ⟨rfl, rfl⟩
  go_wp2_with fail
  refine (C.out _).mono ?_
  rintro e w3 ⟨rfl, rfl⟩
  have h1 := H1.out
  have h2 := H2.out
  clear C CA
  go_wp2
  refine wp_region_still_tail 6 (by kernel_rfl) (by kernel_rfl) ?_
  simp only [List.take_succ_cons, List.take_zero, List.drop_succ_cons, List.drop_zero]
  repeat still_step
  refine wpStill_nil ?_
  have HR3 := Lib.hid (show RtAt w2.drew w.heap.size (0, 0) from HR.out)
  change wpList _ _ _ _ _ w2.drew
  go_wp2_with (first | (refine wpList_buildRn rfl 45 _ rfl [(0, .int .i64 (r1 : Int)), (1, .int .i64 (r2 : Int))] rfl (rtA (r1, r2)) (Tryd.built_rt _ _) ?_) | (refine wpList_storeG rfl 45 _ _ rfl _ (rtA (r1, r2)) _ rfl rfl HR3.out (Tryd.size_rt _) (rt_same _ _) (rt_one _) ?_))
  have HR2 := Lib.hid (HR3.out.setRow (r1, r2))
  have HB2 := Lib.hid (below_setRowT (below_drewN HB.out 1) (Nat.le_refl _) (rtA (r1, r2)))
  refine bodyPost_ret (v := .agg (rtA (r1, r2))) ?_ rfl ⟨rfl, HB2.out⟩
  exact results_cell_one rfl _ _ w.heap.size _ rfl (Tryd.load_rt HR2.out)

set_option maxRecDepth 100000 in
set_option maxHeartbeats 800000 in
theorem weSide_any (n : Int) (w : World) : Calls Tryd.prog 55 #[.int .i64 n] w fun e w' => Ans (1 ≤ n ∧ n ≤ 4) e ∧ w = w' := by
  go_enter Tryd.func55, Tryd.ntmps55
  go_wp2_with fail
  refine (l1In_any n 1 4 w).mono ?_
  rintro e w2 ⟨⟨b, rfl, hb⟩, rfl⟩
  have Hb := Lib.hid hb
  clear hb
  go_wp2
  go_ret
  exact ⟨⟨b, rfl, Hb.out⟩, rfl⟩

set_option maxRecDepth 100000 in
set_option maxHeartbeats 1600000 in
theorem weTable_any (ao : Option Addr) (c : Nat) (t : List (List Int)) (w : World) (hs : Small t) (ht : MatAt w ao t) :
    Calls Tryd.prog 75 #[.slice ao t.length c] w fun e w' => Ans (isTab t) e ∧ w = w' := by
  have hmx : t.length ≤ 9223372036854775807 := by have := hs.1; omega
  have Hs := Lib.hid hs.2
  have Ht := Lib.hid ht
  clear hs ht
  go_enter Tryd.func75, Tryd.ntmps75
  go_wp2_with fail
  refine (weSide_any (t.length : Int) w).mono ?_
  rintro e w1 ⟨ha, rfl⟩
  by_cases h4 : 1 ≤ t.length ∧ t.length ≤ 4
  · have H4 := Lib.hid h4
    obtain rfl := ha.is ⟨by omega, by omega⟩
    clear ha
    go_wp2
    go_loop [11] (fun i => ∃ k : Nat, k ≤ t.length ∧ i = .int .i64 k ∧ ∀ j, j < k → (gr t j).length = t.length ∧ allIn (gr t j) 1 4) (fun i => t.length - (intOf i).toNat)
    case atStart => exact ⟨0, Nat.zero_le _, rfl, fun j hj => absurd hj (by omega)⟩
    case round =>
      obtain ⟨k, hk, rfl, hd⟩ := hrel
      have Hd := Lib.hid hd
      clear hd
      by_cases hlt : k < t.length
      · obtain ⟨b1, o1, r1, d1, rfl, hc1, hx1, _, _⟩ := Ht.out k hlt
        have hs1 := Hs.out k hlt
        by_cases hl : (gr t k).length = t.length
        · rw [hl] at hc1
          have C := Lib.hid (l1All_any r1 d1 (gr t k) 1 4 w hs1 hx1)
          rw [hl] at C
          have HL := Lib.hid hl
          have hne : ((t.length : Int) != (t.length : Int)) = false := by simp
          clear hx1 hl hs1
          go_wp2_with fail
          refine C.out.mono ?_
          rintro e w3 ⟨ha, rfl⟩
          by_cases hin : allIn (gr t k) 1 4
          · have Hin := Lib.hid hin
            clear hin
            obtain rfl := ha.is Hin.out
            clear ha
            go_wp2
            go_round
            case rel =>
              refine ⟨k + 1, by omega, by go_num, fun j hj => ?_⟩
              by_cases e : j = k
              · subst e; exact ⟨HL.out, Hin.out⟩
              · exact Hd.out j (by omega)
            case measure => simp [intOf]; omega
          · have Hin := Lib.hid hin
            clear hin
            obtain rfl := ha.isnt Hin.out
            clear ha
            go_wp2
            go_ret
            exact ⟨Ans.no fun h => Hin.out (h.2 k hlt).2, rfl⟩
        · have HL := Lib.hid hl
          have hne : (((gr t k).length : Int) != (t.length : Int)) = true := by simp; omega
          have hgx : (gr t k).length ≤ 9223372036854775807 := by omega
          clear hx1 hl hs1
          go_wp2
          go_ret
          exact ⟨Ans.no fun h => HL.out (h.2 k hlt).1, rfl⟩
      · obtain rfl : k = t.length := by omega
        go_wp2
        go_ret
        exact ⟨Ans.yes ⟨H4.out, fun i hi => Hd.out i hi⟩, rfl⟩
  · have H4 := Lib.hid h4
    obtain rfl := ha.isnt (fun h => by omega)
    clear ha h4
    go_wp2
    go_ret
    exact ⟨Ans.no fun h => H4.out h.1, rfl⟩
end Go.Proofs.YtifnhlnbofkloaaDoor

namespace Go.Proofs.YtifnhlnbofkloaaDoor
open Go.RowKit

theorem OwnP.nil1 (w : World) (B : Nat) (m : List (List Int)) : OwnP w B (.slice none 0 0) 0 m 0 [] := ⟨World.ownsRow_nil _ _ _ _, fun i hi => absurd hi (by omega), fun i j _ hj => absurd hj (by omega)⟩
/-- the first kinds of a row -/
def kindRow (m : List (List Int)) (k t : Nat) : List Int := (List.range t).map fun b => kd m k b
theorem kindRow_len (m : List (List Int)) (k t : Nat) : (kindRow m k t).length = t := by simp [kindRow]
theorem kindRow_succ (m : List (List Int)) (k t : Nat) : kindRow m k (t + 1) = kindRow m k t ++ [kd m k t] := by simp [kindRow, List.range_succ]
theorem kindRow_full {m : List (List Int)} {k : Nat} (hk : k < m.length) : kindRow m k m.length = gr (kinds m) k := by unfold kinds; rw [gr_tab hk]; rfl

/-- what stands apart from one block is kept where that block alone turns -/
theorem OwnP.kept1 {w w1 : World} {B n k g : Nat} {v : Value} {m : List (List Int)} {vs : List Value} (h : OwnP w B v n m k vs) (hg : w.grownBy w1 (some g)) (hB : g < B) : OwnP w1 B v n m k vs := by
  have ap : ∀ (e : TypeId) (u : Value) (n : Nat) (xs : List Value), w.ownsRow B e 1 u n xs → w1.ownsRow B e 1 u n xs := fun e u n xs hx => by
    refine World.ownsRow.kept hx hg ?_
    cases hb : u.ownBlock with
    | none => exact .inl rfl
    | some g' => exact .inr (fun e => by cases e; have := (World.ownsRow.lt hx g hb).1; omega)
  exact ⟨ap _ _ _ _ h.top, fun i hi => ap _ _ _ _ (h.rows i hi), h.apart⟩

set_option maxRecDepth 100000 in
set_option maxHeartbeats 1600000 in
theorem weKinds_any (ao : Option Addr) (c : Nat) (m : List (List Int)) (w : World) (hg : good m) (hm : MatAt w ao m) :
    Calls Tryd.prog 112 #[.slice ao m.length c] w fun e w' => ∃ v, e = .returned v ∧ OwnM w' w.heap.size v (kinds m) ∧ Below w.heap.size w w' := by
  obtain ⟨i0, hi, hz0, hz1, hz2⟩ := info_parts Tryd.info_int
  obtain ⟨j0, hj, hy0, hy1, hy2⟩ := info_parts Tryd.info_ints
  have hn := hg.1.2.1
  have hmx : m.length ≤ 9223372036854775807 := by omega
  have Hg := Lib.hid hg
  have Hm := Lib.hid hm
  clear hg hm
  go_enter Tryd.func112, Tryd.ntmps112
  go_wp2_with (at_make; refine wpList_make_full _ rfl _ _ 29 rfl w.heap.size 3 i0 (.int .i64 0) 1 Tryd.underlying29 hi hz0 hz1 _ _ _ _ m.length rfl rfl rfl rfl ?c1 ?c2 ?c3 ?_)
  case c1 => rw [hz2]; omega
  case c2 => unfold maxLen; omega
  case c3 => simp
  intro w1 hown hgr
  have hb1 : Below w.heap.size w w1 := (Below.refl _ _).grown hgr (Nat.le_refl _) (fun _ h => by cases h)
  have hsum := OwnI.made hown
  rw [← colMid_zero m] at hsum
  have Hsum := Lib.hid hsum
  have Hb1 := Lib.hid hb1
  have HB1 := Lib.hid (show w.heap.size + 1 ≤ w1.heap.size from by have := (OwnI.lt hsum w.heap.size rfl).2; omega)
  clear hown hgr hb1 hsum
  go_wp2
  go_loopw [3, 16] (fun out i wr => ∃ (k : Nat) (vs : List Value), k ≤ m.length ∧ i = .int .i64 k ∧ OwnI wr w.heap.size (.slice (some ⟨w.heap.size, 0, none⟩) m.length m.length) (colMid m k 0) ∧ OwnP wr (w.heap.size + 1) out k (kinds m) k vs ∧ Below w.heap.size w wr ∧ w.heap.size + 1 ≤ wr.heap.size)
    (fun _ i _ => m.length - (intOf i).toNat)
  case atStart => exact ⟨0, [], Nat.zero_le _, rfl, Hsum.out, OwnP.nil1 _ _ _, Hb1.out, HB1.out⟩
  case round =>
    obtain ⟨k, vs, hk, rfl, hsum, hown, hbr, hsz⟩ := hrel
    clear Hsum Hb1 HB1
    by_cases hlt : k < m.length
    · obtain ⟨b1, o1, r1, d1, rfl, hc1, hx1, _, _⟩ := Hm.out k hlt
      have hrl : (gr m k).length = m.length := Hg.out.1.2.2 k hlt
      rw [hrl] at hc1
      have hc1' := cell_below hc1 hbr
      have Hrow := Lib.hid hx1
      have Hrl := Lib.hid hrl
      have Hown := Lib.hid hown
      have Hbr := Lib.hid hbr
      have Hsum := Lib.hid hsum
      have HO := Lib.hid hsz
      obtain ⟨wo, hwo⟩ : ∃ wo : World, wo = wr := ⟨_, rfl⟩
      subst hwo
      clear hx1 hrl hown hbr hsum hc1
      go_wp2
      go_loopw [7, 8, 22] (fun row before i wr => ∃ t : Nat, t ≤ m.length ∧ i = .int .i64 t ∧ before = .int .i64 (sumK (gr m k) t) ∧ OwnI wr w.heap.size (.slice (some ⟨w.heap.size, 0, none⟩) m.length m.length) (colMid m k t) ∧ OwnI wr wo.heap.size row (kindRow m k t) ∧ wo.grownBy wr (some w.heap.size))
        (fun _ _ i _ => m.length - (intOf i).toNat)
      case atStart => exact ⟨0, Nat.zero_le _, rfl, rfl, Hsum.out, OwnI.nil _ _, World.grownBy.refl _ _⟩
      case round =>
        obtain ⟨t, ht, rfl, rfl, hsum, hrow, hgb⟩ := hrel
        clear Hsum
        have hbt : Below w.heap.size w wr := Hbr.out.grown hgb (by omega) (fun k hk => by cases hk; exact Nat.le_refl _)
        by_cases htl : t < m.length
        · obtain ⟨b2, o2, rfl, hc2⟩ := Hrow.out.below hbt t (by rw [Hrl.out]; exact htl)
          have hcs := hsum.cellAt t htl
          rw [gi_colMid htl, if_neg (by omega)] at hcs
          have hfs := hsum.frozenAt t
          have h1 := rowS_01 Hg.out hlt (k := t) (by omega)
          have h1' := rowS_01 Hg.out hlt (k := t + 1) (by omega)
          have h2 := colS_01 Hg.out htl (k := k) (by omega)
          have h2' := colS_01 Hg.out htl (k := k + 1) (by omega)
          have s1 : sumK (gr m k) (t + 1) = sumK (gr m k) t + gi (gr m k) t := rfl
          have s2 : colS m t (k + 1) = colS m t k + gi (gr m k) t := rfl
          rw [s1] at h1'
          rw [s2] at h2'
          have hkd : kd m k t = kdV (gi (gr m k) t) (sumK (gr m k) t) (colS m t k) := rfl
          have hset : (colMid m k t).set t (colS m t k + gi (gr m k) t) = colMid m k (t + 1) := colMid_set htl
          have hsucc := kindRow_succ m k t
          have hRl0 := kindRow_len m k t
          obtain ⟨R, hR⟩ : ∃ R, R = kindRow m k t := ⟨_, rfl⟩
          rw [← hR] at hrow hsucc hRl0
          obtain ⟨x, hx⟩ : ∃ x, x = gi (gr m k) t := ⟨_, rfl⟩
          obtain ⟨y, hy⟩ : ∃ y, y = sumK (gr m k) t := ⟨_, rfl⟩
          obtain ⟨z, hz⟩ : ∃ z, z = colS m t k := ⟨_, rfl⟩
          rw [← hx] at hc2 hkd h1' h2' s1 s2 hset
          rw [← hy] at h1 h1' s1 hkd ⊢
          rw [← hz] at hcs h2 h2' hkd hset s2
          obtain ⟨q, hq⟩ : ∃ q, q = kdV x y z := ⟨_, rfl⟩
          rw [← hq] at hkd
          rw [hkd] at hsucc
          have HBs := Lib.hid (show wo.heap.size ≤ wr.heap.size from hgb.size)
          have HWo := Lib.hid (show w.heap.size < wo.heap.size by have := HO.out; omega)
          have Hsucc := Lib.hid hsucc
          have S1 := Lib.hid s1
          have Hset := Lib.hid hset
          have Hz := Lib.hid hz
          have Hrow1 := Lib.hid hrow
          have Hgb := Lib.hid hgb
          have Hsum := Lib.hid hsum
          have hRl : R.length ≤ 6 := by omega
          obtain ⟨ra, rc, hrr, _, _, _⟩ := hrow.read
          subst hrr
          -- after a kind has been appended
          have hafter : ∀ v' w3, w3.ownsRow wo.heap.size 3 1 v' (R.length + 1) (R.map (Value.int .i64) ++ [.int .i64 q]) → (wr.alloc (.cells #[.int .i64 q] 3)).grownBy w3 (Value.slice ra R.length rc).ownBlock →
              OwnI w3 wo.heap.size v' (kindRow m k (t + 1)) ∧ wo.grownBy (w3.setCell ⟨w.heap.size, t, none⟩ (.int .i64 (z + x))) (some w.heap.size) ∧ OwnI w3 w.heap.size (.slice (some ⟨w.heap.size, 0, none⟩) m.length m.length) (colMid m k t) := by
            intro v' w3 hown' hgrow
            have hput := Hrow1.out.snoc HBs.out hown' hgrow
            have hg2 : wo.grownBy w3 (some w.heap.size) := Hgb.out.andThen ((World.grownBy_alloc _ _ _).trans hgrow) (fun j hj => by
              have := (Hrow1.out.lt j hj).1
              exact .inl this)
            refine ⟨by rw [Hsucc.out]; exact hput.1, ⟨hg2.os, hg2.tape, hg2.output, by simpa [World.setCell] using hg2.size, fun b hb hne => (Below.heap_setCell _ _ _ _ (fun e => hne (by rw [e]))).trans (hg2.block b hb hne)⟩, ?_⟩
            exact World.ownsRow.kept (World.ownsRow.alloc Hsum.out _) hgrow (.inr (fun e => by have := (Hrow1.out.lt w.heap.size e.symm).1; have := HWo.out; omega))
          have Hafter := Lib.hid hafter
          clear hafter
          have H1 := Lib.hid h1
          have H2 := Lib.hid h2
          clear hRl0 hsum hrow hgb hbt hsucc hx hy hz hR s1 s2 hset hkd h1 h2
          by_cases e1 : x = 1
          · have hb1 : (x == 1) = true := by simpa using e1
            have hq4 : q = 4 := by rw [hq]; unfold kdV; rw [if_pos e1]
            subst hq4
            have E1 := Lib.hid e1
            clear hq e1
            go_wp2_with (at_builtin; refine wpList_append_own _ rfl _ _ 29 rfl wo.heap.size 3 i0 (.int .i64 0) 1 8 Tryd.underlying29 hi hz0 hz1 hz2 rfl (by decide) _ _ _ rfl (World.ownsRow.alloc Hrow1.out _) ⟨wr.heap.size, 0, none⟩ 1 1 [.int .i64 4] rfl rfl ?e1 ?e2 ?e3 ?e4 ?e5 ?_)
            case e1 => exact cell_one_new _ _ _
            case e2 => intro u hu; simp at hu; subst hu; rfl
            case e3 => unfold maxLen; omega
            case e4 => omega
            case e5 => have := HBs.out; simp; omega
            intro v' w3 hown' hgrow _
            obtain ⟨hrow3, hg3, hsum3⟩ := Hafter.out v' w3 hown' hgrow
            obtain ⟨ra', rc', hrr, _, _, _⟩ := hrow3.read
            have hst := hsum3.store t (z + x)
            rw [Hset.out] at hst
            have hcs3 := hsum3.cellAt t htl
            rw [gi_colMid htl, if_neg (by omega), ← Hz.out] at hcs3
            have hfs3 := hsum3.frozenAt t
            have hrow4 : OwnI (w3.setCell ⟨w.heap.size, t, none⟩ (.int .i64 (z + x))) wo.heap.size _ (kindRow m k (t + 1)) := hrow3.setOther (a := ⟨w.heap.size, t, none⟩) (fun e => by have := (hrow3.lt w.heap.size e).1; have := HWo.out; omega) _
            rw [kindRow_len] at hrr
            subst hrr
            have Hst := Lib.hid hst
            have Hrow4 := Lib.hid hrow4
            have Hg3 := Lib.hid hg3
            clear hown' hgrow hrow3 hg3 hsum3 hst hrow4 hcs hfs Hafter
            go_wp2
            go_roundw
            case rel => exact ⟨t + 1, by omega, by go_num, by rw [S1.out], Hst.out, Hrow4.out, Hg3.out⟩
            case measure => simp [intOf]; omega
          · have hb1 : (x == 1) = false := by simpa using e1
            by_cases e2 : x = -1
            · have hb2 : (x == -1) = true := by simpa using e2
              have hq5 : q = 5 := by rw [hq]; unfold kdV; rw [if_neg e1, if_pos e2]
              subst hq5
              clear hq e1 e2
              go_wp2_with (at_builtin; refine wpList_append_own _ rfl _ _ 29 rfl wo.heap.size 3 i0 (.int .i64 0) 1 8 Tryd.underlying29 hi hz0 hz1 hz2 rfl (by decide) _ _ _ rfl (World.ownsRow.alloc Hrow1.out _) ⟨wr.heap.size, 0, none⟩ 1 1 [.int .i64 5] rfl rfl ?e1 ?e2 ?e3 ?e4 ?e5 ?_)
              case e1 => exact cell_one_new _ _ _
              case e2 => intro u hu; simp at hu; subst hu; rfl
              case e3 => unfold maxLen; omega
              case e4 => omega
              case e5 => have := HBs.out; simp; omega
              intro v' w3 hown' hgrow _
              obtain ⟨hrow3, hg3, hsum3⟩ := Hafter.out v' w3 hown' hgrow
              obtain ⟨ra', rc', hrr, _, _, _⟩ := hrow3.read
              have hst := hsum3.store t (z + x)
              rw [Hset.out] at hst
              have hcs3 := hsum3.cellAt t htl
              rw [gi_colMid htl, if_neg (by omega), ← Hz.out] at hcs3
              have hfs3 := hsum3.frozenAt t
              have hrow4 : OwnI (w3.setCell ⟨w.heap.size, t, none⟩ (.int .i64 (z + x))) wo.heap.size _ (kindRow m k (t + 1)) := hrow3.setOther (a := ⟨w.heap.size, t, none⟩) (fun e => by have := (hrow3.lt w.heap.size e).1; have := HWo.out; omega) _
              rw [kindRow_len] at hrr
              subst hrr
              have Hst := Lib.hid hst
              have Hrow4 := Lib.hid hrow4
              have Hg3 := Lib.hid hg3
              clear hown' hgrow hrow3 hg3 hsum3 hst hrow4 hcs hfs Hafter
              go_wp2
              go_roundw
              case rel => exact ⟨t + 1, by omega, by go_num, by rw [S1.out], Hst.out, Hrow4.out, Hg3.out⟩
              case measure => simp [intOf]; omega
            · have hb2 : (x == -1) = false := by simpa using e2
              have hqd : q = 2 * y + z := by rw [hq]; unfold kdV; rw [if_neg e1, if_neg e2]
              have hy01 : 0 ≤ y ∧ y ≤ 1 := H1.out
              have hz01 : 0 ≤ z ∧ z ≤ 1 := H2.out
              subst hqd
              clear hq e1 e2
              go_wp2_with (at_builtin; refine wpList_append_own _ rfl _ _ 29 rfl wo.heap.size 3 i0 (.int .i64 0) 1 8 Tryd.underlying29 hi hz0 hz1 hz2 rfl (by decide) _ _ _ rfl (World.ownsRow.alloc Hrow1.out _) ⟨wr.heap.size, 0, none⟩ 1 1 [.int .i64 (2 * y + z)] rfl rfl ?e1 ?e2 ?e3 ?e4 ?e5 ?_)
              case e1 => exact cell_one_new _ _ _
              case e2 => intro u hu; simp at hu; subst hu; rfl
              case e3 => unfold maxLen; omega
              case e4 => omega
              case e5 => have := HBs.out; simp; omega
              intro v' w3 hown' hgrow _
              obtain ⟨hrow3, hg3, hsum3⟩ := Hafter.out v' w3 hown' hgrow
              obtain ⟨ra', rc', hrr, _, _, _⟩ := hrow3.read
              have hst := hsum3.store t (z + x)
              rw [Hset.out] at hst
              have hcs3 := hsum3.cellAt t htl
              rw [gi_colMid htl, if_neg (by omega), ← Hz.out] at hcs3
              have hfs3 := hsum3.frozenAt t
              have hrow4 : OwnI (w3.setCell ⟨w.heap.size, t, none⟩ (.int .i64 (z + x))) wo.heap.size _ (kindRow m k (t + 1)) := hrow3.setOther (a := ⟨w.heap.size, t, none⟩) (fun e => by have := (hrow3.lt w.heap.size e).1; have := HWo.out; omega) _
              rw [kindRow_len] at hrr
              subst hrr
              have Hst := Lib.hid hst
              have Hrow4 := Lib.hid hrow4
              have Hg3 := Lib.hid hg3
              clear hown' hgrow hrow3 hg3 hsum3 hst hrow4 hcs hfs Hafter
              go_wp2
              go_roundw
              case rel => exact ⟨t + 1, by omega, by go_num, by rw [S1.out], Hst.out, Hrow4.out, Hg3.out⟩
              case measure => simp [intOf]; omega
        · obtain rfl : t = m.length := by omega
          obtain ⟨ra, rc, hrr, _, _, _⟩ := hrow.read
          obtain ⟨rn, hrn⟩ : ∃ rn, rn = (kindRow m k m.length).length := ⟨_, rfl⟩
          rw [← hrn] at hrr
          subst hrr
          have hrowk : OwnI wr (w.heap.size + 1) (.slice ra rn rc) (gr (kinds m) k) := by rw [← kindRow_full hlt]; exact hrow.base (by omega)
          have hfr : ∀ j, j < k → ∀ g, (vs.getD j undef).ownBlock = some g → (Value.slice ra rn rc).ownBlock ≠ some g := fun j hj g hg hg' => by
            have h1 := (Hown.out.rows j hj).lt g hg
            have h2 := hrow.lt g hg'
            omega
          have Hown2 := Lib.hid (Hown.out.kept1 hgb (by omega))
          have Hrowk := Lib.hid hrowk
          have Hfr := Lib.hid hfr
          have Hgb := Lib.hid hgb
          have Hbt := Lib.hid (Hbr.out.grown hgb (by omega) (fun k hk => by cases hk; exact Nat.le_refl _))
          have Hsum := Lib.hid (show OwnI wr w.heap.size (.slice (some ⟨w.heap.size, 0, none⟩) m.length m.length) (colMid m (k + 1) 0) by rw [← colMid_next]; exact hsum)
          have HBs := Lib.hid (show w.heap.size + 1 ≤ wr.heap.size from Nat.le_trans hsz hgb.size)
          obtain ⟨oa, oc, hoo, _, _, _⟩ := ownsRow_read Hown2.out.top
          subst hoo
          clear hsum hrow hgb hrowk hfr hrn hc1'
          go_wp2_with (at_builtin; refine wpList_append_own _ rfl _ _ 22 rfl (w.heap.size + 1) 29 j0 (.slice none 0 0) 1 24 Tryd.underlying22 hj hy0 hy1 hy2 rfl (by decide) _ _ _ rfl (World.ownsRow.alloc Hown2.out.top _) ⟨wr.heap.size, 0, none⟩ 1 1 [.slice ra rn rc] rfl rfl ?f1 ?f2 ?f3 ?f4 ?f5 ?_)
          case f1 => exact cell_one_new _ _ _
          case f2 => intro u hu; simp at hu; subst hu; rfl
          case f3 => unfold maxLen; omega
          case f4 => omega
          case f5 => have := HBs.out; simp; omega
          intro v' w3 hown' hgrow _
          have hput := Hown2.out.snoc HBs.out Hrowk.out Hfr.out hown' hgrow
          have hsum3 : OwnI w3 w.heap.size (.slice (some ⟨w.heap.size, 0, none⟩) m.length m.length) (colMid m (k + 1) 0) :=
            World.ownsRow.kept (World.ownsRow.alloc Hsum.out _) hgrow (.inr (fun e => by have := (World.ownsRow.lt Hown2.out.top w.heap.size e.symm).1; omega))
          have Hput := Lib.hid hput
          have Hsum3 := Lib.hid hsum3
          clear hput hown' hgrow hsum3
          go_wp2
          go_roundw
          case rel => exact ⟨k + 1, _, by omega, by go_num, Hsum3.out, Hput.out.1, Hbt.out.trans (Hput.out.2.mono (by omega)), Nat.le_trans HBs.out Hput.out.2.size⟩
          case measure => simp [intOf]; omega
    · obtain rfl : k = m.length := by omega
      go_wp2
      go_ret
      exact ⟨_, rfl, ⟨vs, by rw [kinds_len]; exact hown.base (by omega)⟩, hbr⟩

end Go.Proofs.YtifnhlnbofkloaaDoor

namespace Go.Proofs.YtifnhlnbofkloaaDoor
open Go.RowKit

theorem cntL_zero : cntL (fun _ => 0) = List.replicate 6 0 := rfl
set_option maxRecDepth 100000 in
set_option maxHeartbeats 3200000 in
theorem weCounts_any (ao : Option Addr) (c : Nat) (m : List (List Int)) (w : World) (hg : good m) (hm : MatAt w ao m) :
    Calls Tryd.prog 71 #[.slice ao m.length c] w fun e w' => ∃ v, e = .returned v ∧ OwnI w' w.heap.size v (cntL (cntK m)) ∧ Below w.heap.size w w' := by
  obtain ⟨i0, hi, hz0, hz1, hz2⟩ := info_parts Tryd.info_int
  have hn := hg.1.2.1
  have hmx : m.length ≤ 9223372036854775807 := by omega
  have Hg := Lib.hid hg
  have Hm := Lib.hid hm
  clear hg hm
  go_enter Tryd.func71, Tryd.ntmps71
  go_wp2_with (at_make; refine wpList_make_full _ rfl _ _ 29 rfl w.heap.size 3 i0 (.int .i64 0) 1 Tryd.underlying29 hi hz0 hz1 _ _ _ _ 6 rfl rfl rfl rfl ?c1 ?c2 ?c3 ?_)
  case c1 => rw [hz2]; omega
  case c2 => unfold maxLen; omega
  case c3 => simp
  intro w1 hown hgr
  have hb1 : Below w.heap.size w w1 := (Below.refl _ _).grown hgr (Nat.le_refl _) (fun _ h => by cases h)
  have hsum := OwnI.made hown
  rw [← cntL_zero] at hsum
  have Hsum := Lib.hid hsum
  have HB := Lib.hid hb1
  have hsz : w.heap.size + 1 ≤ w1.heap.size := by have := (OwnI.lt hsum w.heap.size rfl).2; omega
  clear hown hgr hb1 hsum
  go_wp2_with fail
  refine (weKinds_any ao c m w1 Hg.out (Hm.out.below HB.out)).mono ?_
  rintro e w2 ⟨v, rfl, hv, hb⟩
  obtain ⟨ka, kcap, vsK, rfl, hp, hk1, hk2⟩ := hv.open
  rw [kinds_len] at hp hk1 ⊢
  have HP := Lib.hid hp
  have HC2 := Lib.hid (Hsum.out.below hb)
  have HB2 := Lib.hid (HB.out.trans (hb.mono (by omega)))
  have hsz2 : w.heap.size + 1 ≤ w2.heap.size := by have := hb.size; omega
  clear hv hb hp Hsum HB
  go_wp2
  go_loopw [12] (fun i wr => ∃ k : Nat, k ≤ m.length ∧ i = .int .i64 k ∧ OwnI wr w.heap.size (.slice (some ⟨w.heap.size, 0, none⟩) 6 6) (cntL (fun q => cntP m q k 0)) ∧ OnlyW (fun g => g = w.heap.size) w2 wr) (fun i _ => m.length - (intOf i).toNat)
  case atStart => exact ⟨0, Nat.zero_le _, rfl, HC2.out, OnlyW.refl _ _⟩
  case round =>
    obtain ⟨k, hk, rfl, hc, ho⟩ := hrel
    have Hc := Lib.hid hc
    have Ho := Lib.hid ho
    clear hc ho HC2
    by_cases hlt : k < m.length
    · obtain ⟨b1, o1, r1, d1, e0, hc0, hv0, _, _, _⟩ := (HP.out.only Ho.out (fun g e => by have := e; omega)).rowAt hlt
      have hrow2 := HP.out.rows k hlt
      rw [hv0] at hrow2
      rw [kinds_row hlt] at hc0 hrow2
      subst e0
      have Hrow := Lib.hid hrow2
      clear hv0 hrow2
      go_wp2
      go_loopw [18] (fun i wr => ∃ t : Nat, t ≤ m.length ∧ i = .int .i64 t ∧ OwnI wr w.heap.size (.slice (some ⟨w.heap.size, 0, none⟩) 6 6) (cntL (fun q => cntP m q k t)) ∧ OnlyW (fun g => g = w.heap.size) w2 wr) (fun i _ => m.length - (intOf i).toNat)
      case atStart => exact ⟨0, Nat.zero_le _, rfl, Hc.out, Ho.out⟩
      case round =>
        obtain ⟨t, ht, rfl, hc, ho⟩ := hrel
        clear Hc Ho
        by_cases htl : t < m.length
        · obtain ⟨b2, o2, e2, hc2⟩ := own_at (ownsRow_only Hrow.out ho (fun g hg e => by have := (Hrow.out.lt g hg).1; have := e; omega)) t (by rw [kinds_row hlt]; exact htl)
          rw [gi_kinds hlt htl] at hc2
          have hr := kd_range Hg.out hlt htl
          obtain ⟨q, hq⟩ : ∃ q : Nat, kd m k t = (q : Int) := ⟨(kd m k t).toNat, by omega⟩
          have hq6 : q < 6 := by omega
          have hbd := cntP_bd (m := m) q hn (k := k) (t := t) (by omega) (by omega)
          have hcq := hc.cellAt q hq6
          rw [cntL_gi _ hq6] at hcq
          have hfq := hc.frozenAt q
          have hst := hc.store q (cntP m q k t + 1)
          have hset : (cntL (fun q => cntP m q k t)).set q (cntP m q k t + 1) = cntL (fun q => cntP m q k (t + 1)) := cntL_set (fun q => cntP m q k t) (fun q => cntP m q k (t + 1)) q hq6 (by
            show cntP m q k (t + 1) = cntP m q k t + 1
            rw [cntP_step, hq]; unfold ind; rw [if_pos rfl]) (fun j hj e => by
            show cntP m j k (t + 1) = cntP m j k t
            rw [cntP_step, hq]; unfold ind; rw [if_neg (by omega)]; omega)
          rw [hset] at hst
          have Hos := Lib.hid (ho.setCell (p := ⟨w.heap.size, q, none⟩) rfl (.int .i64 (cntP m q k t + 1)))
          rw [hq] at hc2
          obtain ⟨x, hx⟩ : ∃ x, x = cntP m q k t := ⟨_, rfl⟩
          rw [← hx] at hcq hbd hst Hos
          have Hst := Lib.hid hst
          subst e2
          clear hst hset hx hq hr hc ho
          go_wp2
          go_roundw
          case rel => exact ⟨t + 1, by omega, by go_num, Hst.out, Hos.out⟩
          case measure => simp [intOf]; omega
        · obtain rfl : t = m.length := by omega
          have e : cntL (fun q => cntP m q k m.length) = cntL (fun q => cntP m q (k + 1) 0) := cntL_ext (fun q _ => cntP_row m q k)
          rw [e] at hc
          have Hc := Lib.hid hc
          have Ho := Lib.hid ho
          clear hc ho e
          go_wp2
          go_roundw
          case rel => exact ⟨k + 1, by omega, by go_num, Hc.out, Ho.out⟩
          case measure => simp [intOf]; omega
    · obtain rfl : k = m.length := by omega
      have e : cntL (fun q => cntP m q m.length 0) = cntL (cntK m) := cntL_ext (fun q _ => cntP_end m q)
      have HC := Lib.hid (show OwnI wr w.heap.size (.slice (some ⟨w.heap.size, 0, none⟩) 6 6) (cntL (cntK m)) by rw [← e]; exact Hc.out)
      have HB := Lib.hid (HB2.out.trans (Ho.out.below (B := w.heap.size) (fun g e => by have := e; omega)))
      clear Hc HP e
      go_wp2
      go_ret
      exact ⟨_, rfl, HC.out, HB.out⟩

end Go.Proofs.YtifnhlnbofkloaaDoor

