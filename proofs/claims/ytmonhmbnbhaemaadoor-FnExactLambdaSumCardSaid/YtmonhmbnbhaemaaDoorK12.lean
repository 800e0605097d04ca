/- Parts of proofs: contracts and plain facts. Conditions: as each says. -/
import Derived.Test.YtmonhmbnbhaemaaDoorK11
namespace Go.Proofs.YtmonhmbnbhaemaaDoor
open Go.RowKit

def inR (n : Int) : Prop := 1 ≤ n ∧ n ≤ 8

/-- choices, factor by factor -/
def ch (n : Nat) : Nat → Nat
  | 0 => 1
  | i + 1 => ch n i * (n - i) / (i + 1)
def cI : Nat → Nat
  | 0 => 1
  | k + 1 => if k = 0 then 1 else cI k * ch (3 * k + 1) k / ch (2 * k) k

theorem ch_b : ∀ n, n < 23 → ∀ i, i < 8 → ch n i ≤ 1000000000 ∧ ch n i * (n - i) ≤ 1000000000 := by decide +kernel
theorem cI_b : ∀ k, k < 8 → cI k ≤ 1000000000 ∧ cI k * ch (3 * k + 1) k ≤ 1000000000000000 ∧ 1 ≤ ch (2 * k) k := by decide +kernel

set_option maxRecDepth 100000 in
set_option maxHeartbeats 800000 in
theorem sgGcd_any (b : Nat) : ∀ (a : Nat) (w : World), a ≤ 4000000000000000000 → b ≤ 4000000000000000000 →
    Calls Tryd.prog 34 #[.int .i64 (a : Int), .int .i64 (b : Int)] w fun e w' => e = .returned (.int .i64 (Nat.gcd a b : Nat)) ∧ w = w' := by
  induction b using Nat.strongRecOn with
  | _ b ih =>
    intro a w ha hb
    by_cases h0 : b = 0
    · subst h0
      rw [Nat.gcd_zero_right]
      go_enter Tryd.func34, Tryd.ntmps34
      go_wp2_with fail
      go_ret
      exact ⟨rfl, rfl⟩
    · have hlt := Nat.mod_lt a (show b > 0 by omega)
      have hh := ih (a % b) hlt b w (by omega) (by omega)
      have hbb : ((b : Int) == 0) = false := by simp [h0]
      have hm : (a : Int) % (b : Int) = ((a % b : Nat) : Int) := by rw [Int.natCast_emod]
      have hg : Nat.gcd b (a % b) = Nat.gcd a b := by rw [Nat.gcd_comm b, ← Nat.gcd_rec, Nat.gcd_comm]
      rw [hg] at hh
      have HH := Lib.hid hh
      obtain ⟨r, hr⟩ : ∃ r, r = a % b := ⟨_, rfl⟩
      rw [← hr] at hm hlt
      have Hr := Lib.hid hr
      clear hh hr hg ih
      go_enter Tryd.func34, Tryd.ntmps34
      go_wp2_with fail
      rw [Hr.out]
      refine HH.out.mono ?_
      rintro e w2 ⟨rfl, rfl⟩
      go_wp2_with fail
      go_ret
      exact ⟨rfl, rfl⟩

def stepA (s : Nat × Nat) (x : Nat) : Nat × Nat := (s.1 * (x / Nat.gcd x s.2), s.2 / Nat.gcd x s.2)
def stepB (s : Nat × Nat) (x : Nat) : Nat × Nat := (s.1 / Nat.gcd s.1 x, s.2 * (x / Nat.gcd s.1 x))
def itA (s : Nat × Nat) (x0 : Nat) : Nat → Nat × Nat
  | 0 => s
  | t + 1 => stepA (itA s x0 t) (x0 + t)
def itB (s : Nat × Nat) (x0 : Nat) : Nat → Nat × Nat
  | 0 => s
  | t + 1 => stepB (itB s x0 t) (x0 + t)
def outer (n : Nat) : Nat → Nat × Nat
  | 0 => (1, 1)
  | k + 1 => itB (itA (outer n k) (n + k + 1) (2 * k + 1 - n)) (3 * k + 2) (n - (2 * k + 1))

def okS (s : Nat × Nat) : Bool := decide (s.1 ≤ 1000000000000000000) && decide (s.2 ≤ 1000000000000000000) && decide (1 ≤ s.1) && decide (1 ≤ s.2)
theorem itA_ok : ∀ n, n < 9 → ∀ k, k < n → ∀ t, t < 9 → t ≤ 2 * k + 1 - n → okS (itA (outer n k) (n + k + 1) t) = true := by decide +kernel
theorem itB_ok : ∀ n, n < 9 → ∀ k, k < n → ∀ t, t < 9 → t ≤ n - (2 * k + 1) → okS (itB (itA (outer n k) (n + k + 1) (2 * k + 1 - n)) (3 * k + 2) t) = true := by decide +kernel
theorem outer_ok : ∀ n, n < 9 → okS (outer n n) = true := by decide +kernel
theorem outer_cI : ∀ n, n < 9 → 1 ≤ n → (outer n n).1 / (outer n n).2 = cI n := by decide +kernel

theorem okS_b {s : Nat × Nat} (h : okS s = true) : s.1 ≤ 1000000000000000000 ∧ s.2 ≤ 1000000000000000000 ∧ 1 ≤ s.1 ∧ 1 ≤ s.2 := by
  unfold okS at h
  simp only [Bool.and_eq_true, decide_eq_true_eq] at h
  omega

end Go.Proofs.YtmonhmbnbhaemaaDoor

namespace Go.Proofs.YtmonhmbnbhaemaaDoor
open Go.RowKit

set_option maxRecDepth 100000 in
set_option maxHeartbeats 1600000 in
theorem weRatio_any (p q : Nat) (w : World) (hq0 : 0 < q) (hp : p ≤ 4000000000000000000) (hq : q ≤ 4000000000000000000) :
    Calls Tryd.prog 18 #[.int .i64 (p : Int), .int .i64 (q : Int)] w fun e w' => e = .returned (.agg (rtA (nrm p q))) ∧ Below w.heap.size w w' := by
  have hg0 := (nrm_parts (p := p) hq0).1
  have hgl : Nat.gcd p q ≤ q := Nat.gcd_le_right _ hq0
  have C := Lib.hid (fun w => sgGcd_any q p w hp hq)
  have CA := Lib.hid (show ∀ w, Calls Tryd.prog 35 #[.int .i64 (p : Int)] w fun e w' => e = .returned (.int .i64 (p : Int)) ∧ w' = w from fun w => by
    have := l1Abs_any (p : Int) w (by omega) (by omega)
    rw [show max (p : Int) (-(p : Int)) = (p : Int) by omega] at this
    exact this)
  have H1 := Lib.hid (show (p : Int) / (Nat.gcd p q : Nat) = ((nrm p q).1 : Int) from by unfold nrm; rw [Int.natCast_ediv])
  have H2 := Lib.hid (show (q : Int) / (Nat.gcd p q : Nat) = ((nrm p q).2 : Int) from by unfold nrm; rw [Int.natCast_ediv])
  have hl := nrm_le p q
  obtain ⟨g, hg⟩ : ∃ g, g = Nat.gcd p q := ⟨_, rfl⟩
  rw [← hg] at hg0 hgl C H1 H2
  obtain ⟨r, hr⟩ : ∃ r, r = nrm p q := ⟨_, rfl⟩
  rw [← hr] at H1 H2 hl ⊢
  obtain ⟨r1, r2⟩ := r
  simp only at H1 H2 hl
  clear hg hr
  have hgz : ¬ g = 0 := by omega
  have hw1 : IntKind.i64.wrap (r1 : Int) = (r1 : Int) := w64 (by omega)
  have hw2 : IntKind.i64.wrap (r2 : Int) = (r2 : Int) := w64 (by omega)
  go_enter Tryd.func18, Tryd.ntmps18
  go_upto_region 1 with (refine wpList_allocT rfl 25 rfl _ _ Tryd.info_rt ?_)
  generalize hW : World.alloc w _ = w1
  have HR := Lib.hid (show RtAt w1 w.heap.size (0, 0) by rw [← hW]; exact RtAt.new w (0, 0))
  have HB := Lib.hid (show Below w.heap.size w w1 by rw [← hW]; exact (Below.refl _ w).alloc (Nat.le_refl _) _)
  clear hW
  go_wp2_with fail
  refine (CA.out _).mono ?_
  rintro e w2 ⟨rfl, rfl⟩
  go_wp2_with fail
  refine (C.out _).mono ?_
  rintro e w3 ⟨rfl, rfl⟩
  have h1 := H1.out
  have h2 := H2.out
  clear C CA
  go_wp2
  refine wp_region_still_tail 6 (by kernel_rfl) (by kernel_rfl) ?_
  simp only [List.take_succ_cons, List.take_zero, List.drop_succ_cons, List.drop_zero]
  repeat still_step
  refine wpStill_nil ?_
  have HR3 := Lib.hid (show RtAt w2.drew w.heap.size (0, 0) from HR.out)
  change wpList _ _ _ _ _ w2.drew
  go_wp2_with (first | (refine wpList_buildRn rfl 25 _ rfl [(0, .int .i64 (r1 : Int)), (1, .int .i64 (r2 : Int))] rfl (rtA (r1, r2)) (Tryd.built_rt _ _) ?_) | (refine wpList_storeG rfl 25 _ _ rfl _ (rtA (r1, r2)) _ rfl rfl HR3.out (Tryd.size_rt _) (rt_same _ _) (rt_one _) ?_))
  have HR2 := Lib.hid (HR3.out.setRow (r1, r2))
  have HB2 := Lib.hid (below_setRowT (below_drewN HB.out 1) (Nat.le_refl _) (rtA (r1, r2)))
  refine bodyPost_ret (v := .agg (rtA (r1, r2))) ?_ rfl ⟨rfl, HB2.out⟩
  exact results_cell_one rfl _ _ w.heap.size _ rfl (Tryd.load_rt HR2.out)

set_option maxRecDepth 100000 in
set_option maxHeartbeats 800000 in
theorem weSide_any (n : Int) (w : World) : Calls Tryd.prog 30 #[.int .i64 n] w fun e w' => Ans (1 ≤ n ∧ n ≤ 4) e ∧ w = w' := by
  go_enter Tryd.func30, Tryd.ntmps30
  go_wp2_with fail
  refine (l1In_any n 1 4 w).mono ?_
  rintro e w2 ⟨⟨b, rfl, hb⟩, rfl⟩
  have Hb := Lib.hid hb
  clear hb
  go_wp2
  go_ret
  exact ⟨⟨b, rfl, Hb.out⟩, rfl⟩

set_option maxRecDepth 100000 in
set_option maxHeartbeats 1600000 in
theorem weTable_any (ao : Option Addr) (c : Nat) (t : List (List Int)) (w : World) (hs : Small t) (ht : MatAt w ao t) :
    Calls Tryd.prog 11 #[.slice ao t.length c] w fun e w' => Ans (isTab t) e ∧ w = w' := by
  have hmx : t.length ≤ 9223372036854775807 := by have := hs.1; omega
  have Hs := Lib.hid hs.2
  have Ht := Lib.hid ht
  clear hs ht
  go_enter Tryd.func11, Tryd.ntmps11
  go_wp2_with fail
  refine (weSide_any (t.length : Int) w).mono ?_
  rintro e w1 ⟨ha, rfl⟩
  by_cases h4 : 1 ≤ t.length ∧ t.length ≤ 4
  · have H4 := Lib.hid h4
    obtain rfl := ha.is ⟨by omega, by omega⟩
    clear ha
    go_wp2
    go_loop [11] (fun i => ∃ k : Nat, k ≤ t.length ∧ i = .int .i64 k ∧ ∀ j, j < k → (gr t j).length = t.length ∧ allIn (gr t j) 1 4) (fun i => t.length - (intOf i).toNat)
    case atStart => exact ⟨0, Nat.zero_le _, rfl, fun j hj => absurd hj (by omega)⟩
    case round =>
      obtain ⟨k, hk, rfl, hd⟩ := hrel
      have Hd := Lib.hid hd
      clear hd
      by_cases hlt : k < t.length
      · obtain ⟨b1, o1, r1, d1, rfl, hc1, hx1, _, _⟩ := Ht.out k hlt
        have hs1 := Hs.out k hlt
        by_cases hl : (gr t k).length = t.length
        · rw [hl] at hc1
          have C := Lib.hid (l1All_any r1 d1 (gr t k) 1 4 w hs1 hx1)
          rw [hl] at C
          have HL := Lib.hid hl
          have hne : ((t.length : Int) != (t.length : Int)) = false := by simp
          clear hx1 hl hs1
          go_wp2_with fail
          refine C.out.mono ?_
          rintro e w3 ⟨ha, rfl⟩
          by_cases hin : allIn (gr t k) 1 4
          · have Hin := Lib.hid hin
            clear hin
            obtain rfl := ha.is Hin.out
            clear ha
            go_wp2
            go_round
            case rel =>
              refine ⟨k + 1, by omega, by go_num, fun j hj => ?_⟩
              by_cases e : j = k
              · subst e; exact ⟨HL.out, Hin.out⟩
              · exact Hd.out j (by omega)
            case measure => simp [intOf]; omega
          · have Hin := Lib.hid hin
            clear hin
            obtain rfl := ha.isnt Hin.out
            clear ha
            go_wp2
            go_ret
            exact ⟨Ans.no fun h => Hin.out (h.2 k hlt).2, rfl⟩
        · have HL := Lib.hid hl
          have hne : (((gr t k).length : Int) != (t.length : Int)) = true := by simp; omega
          have hgx : (gr t k).length ≤ 9223372036854775807 := by omega
          clear hx1 hl hs1
          go_wp2
          go_ret
          exact ⟨Ans.no fun h => HL.out (h.2 k hlt).1, rfl⟩
      · obtain rfl : k = t.length := by omega
        go_wp2
        go_ret
        exact ⟨Ans.yes ⟨H4.out, fun i hi => Hd.out i hi⟩, rfl⟩
  · have H4 := Lib.hid h4
    obtain rfl := ha.isnt (fun h => by omega)
    clear ha h4
    go_wp2
    go_ret
    exact ⟨Ans.no fun h => H4.out h.1, rfl⟩
end Go.Proofs.YtmonhmbnbhaemaaDoor

namespace Go.Proofs.YtmonhmbnbhaemaaDoor
open Go.RowKit

set_option maxRecDepth 100000 in
set_option maxHeartbeats 1600000 in
theorem wePlus_any (a b : Nat × Nat) (w : World) (hq0 : 0 < a.2 * b.2) (hp : a.1 * b.2 + b.1 * a.2 ≤ 4000000000000000000) (hq : a.2 * b.2 ≤ 4000000000000000000) :
    Calls Tryd.prog 16 #[.agg (rtA a), .agg (rtA b)] w fun e w' => e = .returned (.agg (rtA (pl a b))) ∧ Below w.heap.size w w' := by
  have C := Lib.hid (fun w => weRatio_any (a.1 * b.2 + b.1 * a.2) (a.2 * b.2) w hq0 hp hq)
  have HV := Lib.hid (show pl a b = nrm (a.1 * b.2 + b.1 * a.2) (a.2 * b.2) from rfl)
  obtain ⟨a1, a2⟩ := a
  obtain ⟨b1, b2⟩ := b
  simp only at hq0 hp hq
  obtain ⟨Y, hY⟩ : ∃ Y, Y = a2 * b2 := ⟨_, rfl⟩
  obtain ⟨X, hX⟩ : ∃ X, X = a1 * b2 + b1 * a2 := ⟨_, rfl⟩
  obtain ⟨U, hU⟩ : ∃ U, U = a1 * b2 := ⟨_, rfl⟩
  obtain ⟨V, hV⟩ : ∃ V, V = b1 * a2 := ⟨_, rfl⟩
  have e1 : (a1 : Int) * (b2 : Int) = (U : Int) := by rw [hU, Int.natCast_mul]
  have e3 : (b1 : Int) * (a2 : Int) = (V : Int) := by rw [hV, Int.natCast_mul]
  have e2 : (a2 : Int) * (b2 : Int) = (Y : Int) := by rw [hY, Int.natCast_mul]
  simp only at HV C
  rw [← hX, ← hY] at HV C
  rw [← hU, ← hV] at hX
  have e4 : (U : Int) + (V : Int) = (X : Int) := by rw [hX]; omega
  rw [← hU, ← hV, ← hX] at hp
  rw [← hY] at hq hq0
  have w1 := wrapN hp
  have w2 := wrapN hq
  have w3 := wrapN (show U ≤ 4000000000000000000 by omega)
  have w4 := wrapN (show V ≤ 4000000000000000000 by omega)
  clear hX hY hU hV
  go_enter Tryd.func16, Tryd.ntmps16
  go_upto_region 1 with (first | (refine wpList_boxT rfl 25 _ rfl _ rfl ?_) | (refine wpList_allocT rfl 25 rfl _ _ Tryd.info_rt ?_))
  generalize hW : World.alloc (World.alloc (World.alloc w _) _) _ = w1
  have h1 : RtAt w1 w.heap.size (a1, a2) := by rw [← hW]; exact rt3_0 w _ _ _
  have h2 : RtAt w1 (w.heap.size + 1) (b1, b2) := by rw [← hW]; exact rt3_1 w _ _ _
  have h3 : RtAt w1 (w.heap.size + 2) (0, 0) := by rw [← hW]; exact rt3_2 w _ _ _
  have hB : Below w.heap.size w w1 := by rw [← hW]; exact rt3_below w _ _ _
  clear hW
  have p1 : w1.cell? ⟨w.heap.size, 0, none⟩ = some (.int .i64 (a1 : Int)) := h1.c0
  have p2 : w1.cell? ⟨w.heap.size, 1, none⟩ = some (.int .i64 (a2 : Int)) := h1.c1
  have p3 : w1.cell? ⟨w.heap.size + 1, 0, none⟩ = some (.int .i64 (b1 : Int)) := h2.c0
  have p4 : w1.cell? ⟨w.heap.size + 1, 1, none⟩ = some (.int .i64 (b2 : Int)) := h2.c1
  have H3 := Lib.hid h3
  have HB := Lib.hid hB
  clear h1 h2 h3 hB
  go_wp2_with fail
  refine (C.out _).mono ?_
  rintro e w2 ⟨rfl, hb⟩
  have HR := Lib.hid (H3.out.below hb)
  have HB2 := Lib.hid (HB.out.trans (hb.mono HB.out.size))
  clear hb p1 p2 p3 p4 H3 HB
  go_wp2_with (refine wpList_storeG rfl 25 _ _ rfl _ (rtA (nrm X Y)) _ rfl rfl HR.out (Tryd.size_rt _) (rt_same _ _) (rt_one _) ?_)
  have HR2 := Lib.hid (HR.out.setRow (nrm X Y))
  have HB3 := Lib.hid (below_setRowT HB2.out (show w.heap.size ≤ w.heap.size + 2 by omega) (rtA (nrm X Y)))
  refine bodyPost_ret (v := .agg (rtA (nrm X Y))) ?_ rfl ⟨by rw [HV.out], HB3.out⟩
  exact results_cell_one rfl _ _ (w.heap.size + 2) _ rfl (Tryd.load_rt HR2.out)
end Go.Proofs.YtmonhmbnbhaemaaDoor

namespace Go.Proofs.YtmonhmbnbhaemaaDoor
open Go.RowKit

set_option maxRecDepth 100000 in
set_option maxHeartbeats 3200000 in
theorem wePowerOf_any (a1 a2 : Option Addr) (c1 c2 : Nat) (m t : List (List Int)) (w : World) (hok : okPw m t) (hm : MatAt w a1 m) (ht : MatAt w a2 t) :
    Calls Tryd.prog 19 #[.slice a1 m.length c1, .slice a2 t.length c2] w fun e w' => e = .returned (.agg (rtA (pwR m t))) ∧ Below w.heap.size w w' := by
  have hn := hok.1.1.1.2.1
  have hl := hok.2
  have h4 := hok.1.2.1
  have hmx : m.length ≤ 9223372036854775807 := by omega
  have Hok := Lib.hid hok
  have Hm := Lib.hid hm
  have Ht := Lib.hid ht
  have Hl := Lib.hid hl
  clear hok hm ht hl
  go_enter Tryd.func19, Tryd.ntmps19
  go_upto_region 1 with (refine wpList_allocT rfl 25 rfl _ _ Tryd.info_rt ?_)
  generalize hW : World.alloc w _ = w1
  have HR1 := Lib.hid (show RtAt w1 w.heap.size (0, 0) by rw [← hW]; exact RtAt.new w (0, 0))
  have HB1 := Lib.hid (show Below w.heap.size w w1 by rw [← hW]; exact (Below.refl _ w).alloc (Nat.le_refl _) _)
  clear hW
  go_wp2
  go_loop [5, 6, 13] (fun num den i => ∃ k : Nat, k ≤ m.length ∧ i = .int .i64 k ∧ num = .int .i64 (prd 1 m t k 0 : Nat) ∧ den = .int .i64 (prd (-1) m t k 0 : Nat)) (fun _ _ i => m.length - (intOf i).toNat)
  case atStart => exact ⟨0, Nat.zero_le _, rfl, rfl, rfl⟩
  case round =>
    obtain ⟨k, hk, rfl, rfl, rfl⟩ := hrel
    by_cases hlt : k < m.length
    · obtain ⟨b1, o1, r1, d1, e0, hc0, hx1, _, _⟩ := Hm.out.below HB1.out k hlt
      have hltt : k < t.length := by have := Hl.out; omega
      obtain ⟨b3, o3, r3, d3, e3, hc3, hx3, _, _⟩ := Ht.out.below HB1.out k hltt
      have hrl : (gr m k).length = m.length := Hok.out.1.1.1.2.2 k hlt
      have hrl3 : (gr t k).length = m.length := by rw [(Hok.out.1.2.2 k hltt).1, Hl.out]
      rw [hrl] at hc0
      rw [hrl3] at hc3
      subst e0
      subst e3
      have Hrow := Lib.hid hx1
      have Hrow3 := Lib.hid hx3
      have Hrl := Lib.hid hrl
      have Hrl3 := Lib.hid hrl3
      clear hx1 hx3 hrl hrl3
      go_wp2
      go_loop [5, 6, 20] (fun num den i => ∃ j : Nat, j ≤ m.length ∧ i = .int .i64 j ∧ num = .int .i64 (prd 1 m t k j : Nat) ∧ den = .int .i64 (prd (-1) m t k j : Nat)) (fun _ _ i => m.length - (intOf i).toNat)
      case atStart => exact ⟨0, Nat.zero_le _, rfl, rfl, rfl⟩
      case round =>
        obtain ⟨j, hj, rfl, rfl, rfl⟩ := hrel
        by_cases hjl : j < m.length
        · obtain ⟨b2, o2, e2, hc2⟩ := Hrow.out j (by rw [Hrl.out]; exact hjl)
          obtain ⟨b4, o4, e4, hc4⟩ := Hrow3.out j (by rw [Hrl3.out]; exact hjl)
          subst e2
          subst e4
          obtain ⟨hy, hy1, hy4⟩ := eN_eq Hok.out.1.2 hltt (show j < t.length by have := Hl.out; omega)
          rw [hy] at hc4
          have hN := prd_bd (s := 1) Hok.out.1.2 Hl.out hltt (show j ≤ t.length by have := Hl.out; omega)
          have hD := prd_bd (s := -1) Hok.out.1.2 Hl.out hltt (show j ≤ t.length by have := Hl.out; omega)
          have HS1 := Lib.hid (show gi (gr m k) j = 1 → prd 1 m t k (j + 1) = prd 1 m t k j * eN t k j ∧ prd (-1) m t k (j + 1) = prd (-1) m t k j from fun h => ⟨prd_yes h, prd_no (by rw [h]; decide)⟩)
          have HS2 := Lib.hid (show gi (gr m k) j = -1 → prd 1 m t k (j + 1) = prd 1 m t k j ∧ prd (-1) m t k (j + 1) = prd (-1) m t k j * eN t k j from fun h => ⟨prd_no (by rw [h]; decide), prd_yes h⟩)
          have HS0 := Lib.hid (show gi (gr m k) j ≠ 1 → gi (gr m k) j ≠ -1 → prd 1 m t k (j + 1) = prd 1 m t k j ∧ prd (-1) m t k (j + 1) = prd (-1) m t k j from fun h h' => ⟨prd_no h, prd_no h'⟩)
          obtain ⟨x, hx⟩ : ∃ x, x = gi (gr m k) j := ⟨_, rfl⟩
          obtain ⟨y, hyy⟩ : ∃ y, y = eN t k j := ⟨_, rfl⟩
          obtain ⟨N, hNN⟩ : ∃ N, N = prd 1 m t k j := ⟨_, rfl⟩
          obtain ⟨D, hDD⟩ : ∃ D, D = prd (-1) m t k j := ⟨_, rfl⟩
          rw [← hx] at hc2 HS0 HS1 HS2
          rw [← hyy] at hc4 hy1 hy4 HS1 HS2
          rw [← hNN] at hN HS0 HS1 HS2 ⊢
          rw [← hDD] at hD HS0 HS1 HS2 ⊢
          have hNy : N * y ≤ 4398046511104 := Nat.le_trans (Nat.mul_le_mul hN.2 hy4) (by omega)
          have hDy : D * y ≤ 4398046511104 := Nat.le_trans (Nat.mul_le_mul hD.2 hy4) (by omega)
          obtain ⟨P, hP⟩ : ∃ P, P = N * y := ⟨_, rfl⟩
          obtain ⟨R, hR⟩ : ∃ R, R = D * y := ⟨_, rfl⟩
          have m1 : (N : Int) * (y : Int) = (P : Int) := by rw [hP, Int.natCast_mul]
          have m2 : (D : Int) * (y : Int) = (R : Int) := by rw [hR, Int.natCast_mul]
          rw [← hP] at hNy HS1
          rw [← hR] at hDy HS2
          have v1 : IntKind.i64.wrap (P : Int) = (P : Int) := w64 (by omega)
          have v2 : IntKind.i64.wrap (R : Int) = (R : Int) := w64 (by omega)
          clear hx hyy hNN hDD hy hP hR
          by_cases e1 : x = 1
          · have hb1 : (x == 1) = true := by simpa using e1
            have HT := Lib.hid (HS1.out e1)
            clear e1 HS0 HS1 HS2
            go_wp2
            go_round
            case rel => exact ⟨j + 1, by omega, by go_num, by rw [HT.out.1], by rw [HT.out.2]⟩
            case measure => simp [intOf]; omega
          · have hb1 : (x == 1) = false := by simpa using e1
            by_cases e2 : x = -1
            · have hb2 : (x == -1) = true := by simpa using e2
              have HT := Lib.hid (HS2.out e2)
              clear e1 e2 HS0 HS1 HS2
              go_wp2
              go_round
              case rel => exact ⟨j + 1, by omega, by go_num, by rw [HT.out.1], by rw [HT.out.2]⟩
              case measure => simp [intOf]; omega
            · have hb2 : (x == -1) = false := by simpa using e2
              have HT := Lib.hid (HS0.out e1 e2)
              clear e1 e2 HS0 HS1 HS2
              go_wp2
              go_round
              case rel => exact ⟨j + 1, by omega, by go_num, by rw [HT.out.1], by rw [HT.out.2]⟩
              case measure => simp [intOf]; omega
        · obtain rfl : j = m.length := by omega
          rw [prd_row, prd_row]
          go_wp2
          go_round
          case rel => exact ⟨k + 1, by omega, by go_num, rfl, rfl⟩
          case measure => simp [intOf]; omega
    · obtain rfl : k = m.length := by omega
      rw [prd_end, prd_end]
      have b1 := accR_small (s := 1) Hok.out.1.2 Hl.out
      have b2 := accR_small (s := -1) Hok.out.1.2 Hl.out
      have C := Lib.hid (fun w => weRatio_any (accR 1 m t m.length) (accR (-1) m t m.length) w (by omega) (by omega) (by omega))
      have HV := Lib.hid (show pwR m t = nrm (accR 1 m t m.length) (accR (-1) m t m.length) from rfl)
      rw [← HV.out] at C
      generalize accR 1 m t m.length = X at C
      generalize accR (-1) m t m.length = Y at C
      clear b1 b2
      go_wp2_with fail
      refine (C.out _).mono ?_
      rintro e w2 ⟨rfl, hb⟩
      have HR := Lib.hid (HR1.out.below hb)
      have HB := Lib.hid (HB1.out.trans (hb.mono HB1.out.size))
      clear hb HR1 HB1
      go_wp2_with (refine wpList_storeG rfl 25 _ _ rfl _ (rtA (pwR m t)) _ rfl rfl HR.out (Tryd.size_rt _) (rt_same _ _) (rt_one _) ?_)
      have HR3 := Lib.hid (HR.out.setRow (pwR m t))
      have HB3 := Lib.hid (below_setRowT HB.out (Nat.le_refl _) (rtA (pwR m t)))
      refine bodyPost_ret (v := .agg (rtA (pwR m t))) ?_ rfl ⟨rfl, HB3.out⟩
      exact results_cell_one rfl _ _ w.heap.size _ rfl (Tryd.load_rt HR3.out)

end Go.Proofs.YtmonhmbnbhaemaaDoor

