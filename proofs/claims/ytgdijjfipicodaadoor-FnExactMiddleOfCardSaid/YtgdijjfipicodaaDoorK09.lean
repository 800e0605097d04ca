/- Parts of proofs: contracts and plain facts. Conditions: as each says. -/
import Derived.Test.YtgdijjfipicodaaDoorK08
import Derived.Laws.BitsAllLaws
import Derived.Laws.Bits128
import Derived.Test.YtgdijjfipicodaaDoorTie
import Derived.Test.YtgdijjfipicodaaDoorCards
import Derived.Shelf.Vars
import Derived.Lay
import Derived.SevenTiedAt
import Derived.HandedShaped
import Derived.ProofKit
import Derived.LaidMore
import Derived.Stop.Joined
namespace Go.Proofs.YtgdijjfipicodaaDoor
open Go.RowKit

theorem ones64_run (x x1 x2 x3 x4 x5 x6 x7 : Int) (w : World)
    (h1 : IntKind.u64.wrap (bits .and .u64 (x / 2) 6148914691236517205 + bits .and .u64 x 6148914691236517205) = x1)
    (h2 : IntKind.u64.wrap (bits .and .u64 (x1 / 4) 3689348814741910323 + bits .and .u64 x1 3689348814741910323) = x2)
    (h3 : bits .and .u64 (IntKind.u64.wrap (x2 / 16 + x2)) 1085102592571150095 = x3)
    (h4 : IntKind.u64.wrap (x3 + x3 / 256) = x4)
    (h5 : IntKind.u64.wrap (x4 + x4 / 65536) = x5)
    (h6 : IntKind.u64.wrap (x5 + x5 / 4294967296) = x6)
    (h7 : bits .and .i64 (wrap64 x6) 127 = x7) :
    Calls Tryd.prog 115 #[.int .u64 x] w fun e w' => e = .returned (.int .i64 x7) ∧ w = w' := by
  go_enter Tryd.func115, Tryd.ntmps115
  go_wp2
  go_ret
  exact ⟨rfl, rfl⟩

theorem ones64_any {xs : List Int} (h : Rise xs) (hl : xs.length ≤ 6) (w : World) :
    Calls Tryd.prog 115 #[.int .u64 (mask xs : Nat)] w fun e w' => e = .returned (.int .i64 xs.length) ∧ w = w' := by
  have hx := mask_lt16 h
  have hp := pc_mask h hl
  generalize mask xs = x at hx hp ⊢
  have andle : ∀ a b : Nat, Nat.land a b ≤ a := fun a b => @Nat.and_le_left a b
  have wr : ∀ a : Nat, a < 1000000 → IntKind.u64.wrap (a : Int) = (a : Int) := fun a ha => by rw [IntKind.wrap_u64]; omega
  have an1 : ∀ a : Nat, a < 1000000 → bits .and .u64 (a : Int) 6148914691236517205 = ((Nat.land a 6148914691236517205 : Nat) : Int) := fun a ha => u64_and_nat a 6148914691236517205 (by omega) (by omega)
  have an2 : ∀ a : Nat, a < 1000000 → bits .and .u64 (a : Int) 3689348814741910323 = ((Nat.land a 3689348814741910323 : Nat) : Int) := fun a ha => u64_and_nat a 3689348814741910323 (by omega) (by omega)
  have an3 : ∀ a : Nat, a < 1000000 → bits .and .u64 (a : Int) 1085102592571150095 = ((Nat.land a 1085102592571150095 : Nat) : Int) := fun a ha => u64_and_nat a 1085102592571150095 (by omega) (by omega)
  unfold pcF at hp
  simp only at hp
  have b0 : Nat.div x 2 ≤ 32767 := by show x / 2 ≤ _; omega
  have b1a := andle (Nat.div x 2) 6148914691236517205
  have b1b := andle x 6148914691236517205
  generalize e1 : Nat.add (Nat.land (Nat.div x 2) 6148914691236517205) (Nat.land x 6148914691236517205) = x1 at hp
  have b1 : x1 ≤ 98302 := by rw [← e1]; exact Nat.le_trans (Nat.add_le_add b1a b1b) (by omega)
  have b2a := andle (Nat.div x1 4) 3689348814741910323
  have b2b := andle x1 3689348814741910323
  have b2d : Nat.div x1 4 ≤ 24575 := by show x1 / 4 ≤ _; omega
  generalize e2 : Nat.add (Nat.land (Nat.div x1 4) 3689348814741910323) (Nat.land x1 3689348814741910323) = x2 at hp
  have b2 : x2 ≤ 122877 := by rw [← e2]; exact Nat.le_trans (Nat.add_le_add b2a b2b) (by omega)
  have b3a := andle (Nat.add (Nat.div x2 16) x2) 1085102592571150095
  have b3d : Nat.add (Nat.div x2 16) x2 ≤ 130556 := by show x2 / 16 + x2 ≤ _; omega
  generalize e3 : Nat.land (Nat.add (Nat.div x2 16) x2) 1085102592571150095 = x3 at hp
  have b3 : x3 ≤ 130556 := by rw [← e3]; omega
  generalize e4 : Nat.add x3 (Nat.div x3 256) = x4 at hp
  have b4 : x4 ≤ 131100 := by rw [← e4]; show x3 + x3 / 256 ≤ _; omega
  generalize e5 : Nat.add x4 (Nat.div x4 65536) = x5 at hp
  have b5 : x5 ≤ 131200 := by rw [← e5]; show x4 + x4 / 65536 ≤ _; omega
  generalize e6 : Nat.add x5 (Nat.div x5 4294967296) = x6 at hp
  have b6 : x6 ≤ 131300 := by rw [← e6]; show x5 + x5 / 4294967296 ≤ _; omega
  refine ones64_run x x1 x2 x3 x4 x5 x6 xs.length w ?_ ?_ ?_ ?_ ?_ ?_ ?_
  · rw [show ((x : Int) / 2) = ((Nat.div x 2 : Nat) : Int) by show _ = ((x / 2 : Nat) : Int); omega, an1 _ (by omega), an1 _ (by omega), ← e1]
    exact wr (_ + _) (by omega)
  · rw [show ((x1 : Int) / 4) = ((Nat.div x1 4 : Nat) : Int) by show _ = ((x1 / 4 : Nat) : Int); omega, an2 _ (by omega), an2 _ (by omega), ← e2]
    exact wr (_ + _) (by omega)
  · rw [show ((x2 : Int) / 16 + x2) = ((Nat.add (Nat.div x2 16) x2 : Nat) : Int) by show _ = ((x2 / 16 + x2 : Nat) : Int); omega, wr _ (by omega), an3 _ (by omega), ← e3]
  · rw [show ((x3 : Int) + x3 / 256) = ((Nat.add x3 (Nat.div x3 256) : Nat) : Int) by show _ = ((x3 + x3 / 256 : Nat) : Int); omega, e4, wr _ (by omega)]
  · rw [show ((x4 : Int) + x4 / 65536) = ((Nat.add x4 (Nat.div x4 65536) : Nat) : Int) by show _ = ((x4 + x4 / 65536 : Nat) : Int); omega, e5, wr _ (by omega)]
  · rw [show ((x5 : Int) + x5 / 4294967296) = ((Nat.add x5 (Nat.div x5 4294967296) : Nat) : Int) by show _ = ((x5 + x5 / 4294967296 : Nat) : Int); omega, e6, wr _ (by omega)]
  · rw [show wrap64 (x6 : Int) = (x6 : Int) by unfold wrap64; omega]
    rw [i64_and127, ← hp]
    have : Nat.land x6 127 = x6 % 128 := nat_mask7 x6
    omega

theorem onesCount_any {xs : List Int} (h : Rise xs) (hl : xs.length ≤ 6) (w : World) :
    Calls Tryd.prog 106 #[.int .u64 (mask xs : Nat)] w fun e w' => e = .returned (.int .i64 xs.length) ∧ w = w' := by
  have hh := ones64_any h hl w
  obtain ⟨x, hx⟩ : ∃ x : Int, x = (mask xs : Nat) := ⟨_, rfl⟩
  rw [← hx] at hh ⊢
  have H := Lib.hid hh
  clear hh hx
  go_enter Tryd.func106, Tryd.ntmps106
  go_wp2_with fail
  refine H.out.mono ?_
  rintro e w2 ⟨rfl, rfl⟩
  go_wp2
  go_ret
  exact ⟨rfl, rfl⟩

theorem size_any {xs : List Int} (h : Rise xs) (hl : xs.length ≤ 6) (w : World) :
    Calls Tryd.prog 94 #[.int .u64 (mask xs : Nat)] w fun e w' => e = .returned (.int .i64 xs.length) ∧ w = w' := by
  have hh := onesCount_any h hl w
  obtain ⟨x, hx⟩ : ∃ x : Int, x = (mask xs : Nat) := ⟨_, rfl⟩
  rw [← hx] at hh ⊢
  have H := Lib.hid hh
  clear hh hx
  go_enter Tryd.func94, Tryd.ntmps94
  go_wp2_with fail
  refine H.out.mono ?_
  rintro e w2 ⟨rfl, rfl⟩
  go_wp2
  go_ret
  exact ⟨rfl, rfl⟩

theorem tz64_run (x y z q i v : Int) (w : World) (hx : x ≠ 0) (h1 : IntKind.u64.wrap (-x) = y) (h2 : bits .and .u64 x y = z) (h3 : IntKind.u64.wrap (z * 285870213051353865) = q)
    (h4 : q / 288230376151711744 = i) (h5 : 0 ≤ i) (h6 : i < 64) (hc : w.cell? ⟨2, i.toNat, none⟩ = some (.int .u8 v)) (hv0 : 0 ≤ v) (hv1 : v ≤ 255) :
    Calls Tryd.prog 117 #[.int .u64 x] w fun e w' => e = .returned (.int .i64 v) ∧ w = w' := by
  have hb : (x == 0) = false := by simpa using hx
  clear hx
  go_enter Tryd.func117, Tryd.ntmps117
  go_wp2
  go_ret
  exact ⟨rfl, rfl⟩
/-- the table's cells at the places of single bits -/
def dbAt (i : Nat) : Nat := (2 ^ i * 285870213051353865) % 18446744073709551616 / 288230376151711744
def Dj (w : World) : Prop := ∀ i, i < 16 → w.cell? ⟨2, dbAt i, none⟩ = some (.int .u8 (i : Int))
theorem Dj.below {w w' : World} {B : Nat} (h : Dj w) (hb : Below B w w') (hB : w.heap.size ≤ B) : Dj w' := fun i hi => by
  have := h i hi
  rw [hb.cell (Nat.lt_of_lt_of_le (World.block_lt_of_cell? _ _ this) hB)]
  exact this
theorem Dj.next {w w' : World} (h : Dj w) (hb : Below w.heap.size w w') : Dj w' := h.below hb (Nat.le_refl _)
theorem dbAt_lt : ∀ i, i < 16 → dbAt i < 64 := by decide

theorem tz64_any {x : Int} {r : List Int} (h : Rise (x :: r)) (w : World) (hD : Dj w) :
    Calls Tryd.prog 117 #[.int .u64 (mask (x :: r) : Nat)] w fun e w' => e = .returned (.int .i64 x) ∧ w = w' := by
  have hx := h.2 x (by simp)
  have hm := mask_lt16 h
  have hlow := mask_low h.1 hx.1 (fun y hy => (h.2 y hy).2)
  obtain ⟨q, _, hq⟩ := mask_head h.1 hx.1
  have hpos : 0 < mask (x :: r) := by rw [hq]; have := Nat.two_pow_pos x.toNat; omega
  have hc := hD x.toNat (by omega)
  have hlt := dbAt_lt x.toNat (by omega)
  have hp15 : 2 ^ x.toNat ≤ 2 ^ 15 := Nat.pow_le_pow_right (by omega) (by omega)
  rw [Int.toNat_of_nonneg hx.1] at hc
  clear hq
  generalize mask (x :: r) = m at *
  refine tz64_run (m : Int) ((18446744073709551616 - m : Nat) : Int) ((2 ^ x.toNat : Nat) : Int) (((2 ^ x.toNat * 285870213051353865) % 18446744073709551616 : Nat) : Int) (dbAt x.toNat : Nat) x w (by omega) ?_ ?_ ?_ ?_ (by omega) (by omega) ?_ hx.1 (by omega)
  · rw [IntKind.wrap_u64]; omega
  · rw [u64_and_nat _ _ (by omega) (by omega), hlow]
  · rw [IntKind.wrap_u64]; omega
  · unfold dbAt; omega
  · rw [Int.toNat_natCast]; exact hc

theorem trailing_any {x : Int} {r : List Int} (h : Rise (x :: r)) (w : World) (hD : Dj w) :
    Calls Tryd.prog 107 #[.int .u64 (mask (x :: r) : Nat)] w fun e w' => e = .returned (.int .i64 x) ∧ w = w' := by
  have hh := tz64_any h w hD
  obtain ⟨m, hm⟩ : ∃ m : Int, m = (mask (x :: r) : Nat) := ⟨_, rfl⟩
  rw [← hm] at hh ⊢
  have H := Lib.hid hh
  clear hh hm hD
  go_enter Tryd.func107, Tryd.ntmps107
  go_wp2_with fail
  refine H.out.mono ?_
  rintro e w2 ⟨rfl, rfl⟩
  go_wp2
  go_ret
  exact ⟨rfl, rfl⟩

set_option maxRecDepth 100000 in
set_option maxHeartbeats 800000 in
theorem row_any {xs : List Int} (h : Rise xs) (hl : xs.length ≤ 6) (w : World) (hD : Dj w) :
    Calls Tryd.prog 95 #[.int .u64 (mask xs : Nat)] w fun e w' => ∃ v, e = .returned v ∧ OwnI w' w.heap.size v xs ∧ Below w.heap.size w w' := by
  obtain ⟨i0, hi, hz0, hz1, hz2⟩ := info_parts Tryd.info_int
  have hs := size_any h hl w
  obtain ⟨m, hm⟩ : ∃ m : Int, m = (mask xs : Nat) := ⟨_, rfl⟩
  rw [← hm] at hs ⊢
  have Hs := Lib.hid hs
  have Hm := Lib.hid hm
  have H := Lib.hid h
  have HD := Lib.hid hD
  clear hs hm h hD
  go_enter Tryd.func95, Tryd.ntmps95
  go_wp2_with fail
  refine Hs.out.mono ?_
  rintro e w2 ⟨rfl, rfl⟩
  go_wp2_with (at_make; refine wpList_make_own _ rfl _ _ 42 rfl w.heap.size 3 i0 (.int .i64 0) 1 Tryd.underlying42 hi hz0 hz1 _ _ _ xs.length rfl rfl rfl ?c1 ?c2 ?c3 ?_)
  case c1 => rw [hz2]; omega
  case c2 => unfold maxLen; omega
  case c3 => simp
  intro w1 hown hg
  have hb1 : Below w.heap.size w w1 := (Below.refl _ _).grown hg (Nat.le_refl _) (fun _ h => by cases h)
  have hown1 : OwnI w1 w.heap.size (.slice (some ⟨w.heap.size, 0, none⟩) 0 xs.length) [] := hown
  clear hown hg
  go_wp2
  go_loopw [3, 4] (fun out rest wr => ∃ (pre suf : List Int), pre ++ suf = xs ∧ rest = .int .u64 (mask suf : Nat) ∧ OwnI wr w.heap.size out pre ∧ Below w.heap.size w wr) (fun out _ _ => xs.length - slLen out)
  case atStart => exact ⟨[], xs, rfl, by rw [Hm.out], hown1, hb1⟩
  case round =>
    obtain ⟨pre, suf, hps, rfl, hown, hbr⟩ := hrel
    clear hown1 hb1
    cases suf with
    | nil =>
      go_wp2
      go_ret
      rw [List.append_nil] at hps
      subst hps
      exact ⟨_, rfl, hown, hbr⟩
    | cons x r =>
      have hr : Rise (x :: r) := by
        have := H.out
        rw [← hps] at this
        exact ⟨(up_append this.1).2.1, fun y hy => this.2 y (by simp [hy])⟩
      have hx := hr.2 x (by simp)
      have hpos : mask (x :: r) ≠ 0 := by
        obtain ⟨q, _, hq⟩ := mask_head hr.1 hx.1
        rw [hq]
        have := Nat.two_pow_pos x.toNat
        omega
      have hlt := mask_lt16 hr
      have e1 : bits .and .u64 ((mask (x :: r) : Nat) : Int) (IntKind.u64.wrap (((mask (x :: r) : Nat) : Int) - 1)) = ((mask r : Nat) : Int) := by
        have h1 : IntKind.u64.wrap (((mask (x :: r) : Nat) : Int) - 1) = ((mask (x :: r) - 1 : Nat) : Int) := by rw [IntKind.wrap_u64]; omega
        rw [h1, u64_and_nat _ _ (by omega) (by omega), mask_rest hr.1 hx.1]
      have hb : (((mask (x :: r) : Nat) : Int) != 0) = true := by simp; exact hpos
      have hcall := trailing_any hr wr (HD.out.next hbr)
      obtain ⟨m1, hm1⟩ : ∃ m : Int, m = (mask (x :: r) : Nat) := ⟨_, rfl⟩
      obtain ⟨m2, hm2⟩ : ∃ m : Int, m = (mask r : Nat) := ⟨_, rfl⟩
      rw [← hm1, ← hm2] at e1
      rw [← hm1] at hb hcall ⊢
      have hlen : pre.length + (r.length + 1) ≤ 6 := by have := congrArg List.length hps; simp at this; omega
      have hlen2 : pre.length + (r.length + 1) = xs.length := by have := congrArg List.length hps; simpa using this
      have Hc := Lib.hid hcall
      have Hm2 := Lib.hid hm2
      have Hown := Lib.hid hown
      have Hbr := Lib.hid hbr
      have HB := Lib.hid hbr.size
      have E1 := Lib.hid e1
      have Hps := Lib.hid hps
      clear hcall hm1 hm2 hown hbr hr hpos hlt e1 hps
      obtain ⟨ao, co, rfl, hco, hco2, _⟩ := Hown.out.read
      go_wp2_with fail
      refine Hc.out.mono ?_
      rintro e w2 ⟨rfl, rfl⟩
      go_wp2_with (at_builtin; refine wpList_append_own _ rfl _ _ 42 rfl w.heap.size 3 i0 (.int .i64 0) 1 8 Tryd.underlying42 hi hz0 hz1 hz2 rfl (by decide) _ _ _ rfl (World.ownsRow.alloc Hown.out _) ⟨wr.heap.size, 0, none⟩ 1 1 [.int .i64 x] rfl rfl ?e1 ?e2 ?e3 ?e4 ?e5 ?_)
      case e1 => exact cell_one_new _ _ _
      case e2 => intro u hu; simp at hu; subst hu; rfl
      case e3 => unfold maxLen; omega
      case e4 => omega
      case e5 => have := HB.out; simp; omega
      intro v' w3 hown' hgrow _
      have hput := Hown.out.snoc HB.out hown' hgrow
      obtain ⟨ao', co', rfl, _, _, _⟩ := hput.1.read
      have Hput := Lib.hid hput
      clear hput hown' hgrow
      go_wp2
      go_roundw
      case rel => exact ⟨pre ++ [x], r, by rw [List.append_assoc]; exact Hps.out, by rw [E1.out, Hm2.out], Hput.out.1, Hbr.out.trans Hput.out.2⟩
      case measure => simp [slLen]; omega
end Go.Proofs.YtgdijjfipicodaaDoor

namespace Go.Proofs.YtgdijjfipicodaaDoor
open Go.ChangeShapes Go.WideShapes Go.ChangeAt Go.RowKit Go.Deep

def laid2 : List (String × DataW Unit) := [("math/bits.deBruijn32tab", Rows.laid_math_bits_deBruijn32tab), ("math/bits.deBruijn64tab", Rows.laid_math_bits_deBruijn64tab)]
def tab64 : List Int := [0, 1, 56, 2, 57, 49, 28, 3, 61, 58, 42, 50, 38, 29, 17, 4, 62, 47, 59, 36, 45, 43, 51, 22, 53, 39, 33, 30, 24, 18, 12, 5, 63, 55, 48, 27, 60, 41, 37, 16, 46, 35, 44, 21, 52, 32, 23, 11, 54, 26, 40, 15, 34, 20, 31, 10, 25, 14, 19, 9, 13, 8, 7, 6]
theorem tab64_is : (Rows.laid_math_bits_deBruijn64tab : DataW Unit) = .agg (tab64.map fun n => .lit (.int .u8 n)) := rfl
theorem tab64_at : ∀ i, i < 16 → tab64.getD (dbAt i) 0 = i := by decide

theorem tab_cell {W : World} (h : laidMetH Tryd.prog laid2 W) (j : Nat) (hr : j < 64) : W.cell? ⟨2, j, none⟩ = some (.int .u8 (tab64.getD j 0)) := by
  rw [MakeChecks.laidMetH_plain _ _ _ (by kernel_rfl)] at h
  obtain ⟨ps, hps, _, _⟩ := h
  obtain ⟨_, _, _, _, _, _, _, _, _, _, ⟨g, t, cs, fuel, p, q, hg, ht, hv, hd, _, _⟩, _⟩ := hps
  obtain rfl := Option.some.inj ((show Tryd.prog.globalNamed "math/bits.deBruijn64tab" = some 2 by kernel_rfl).symm.trans hg)
  obtain rfl := Option.some.inj ((show (Tryd.prog.globals[2]?).map (·.type) = some 103 by kernel_rfl).symm.trans ht)
  obtain ⟨xs, m, _, ex, _, hl, hel⟩ := DataW.trod_array Tryd.underlying103 hd
  have c5 : Tryd.prog.cellsOf 5 = 1 := by kernel_rfl
  have hE := hel (j) hr
  rw [c5, Nat.mul_one, List.getElem?_eq_getElem (by omega)] at hE
  obtain ⟨z, e1, e2, _⟩ := DataW.trod_int Tryd.underlying5 hE
  have hlen : tab64.length = 64 := by kernel_rfl
  rw [tab64_is] at ex
  have e3 : (xs.map (·.1)) = tab64.map fun n => .lit (.int .u8 n) := (DataW.agg.inj (Prod.mk.inj ex).1).symm
  have e4 : (xs.map (·.1))[j]? = (tab64.map fun n => (DataW.lit (.int .u8 n) : DataW Unit))[j]? := by rw [e3]
  rw [List.getElem?_map, List.getElem?_map, List.getElem?_eq_getElem (by omega : j < xs.length), List.getElem?_eq_getElem (by omega : j < tab64.length), e2] at e4
  have hz : z = tab64.getD (j) 0 := by
    simp only [Option.map_some, Option.some.injEq, DataW.lit.injEq, Lit.int.injEq, true_and] at e4
    rw [e4, List.getD, List.getElem?_eq_getElem (by omega : j < tab64.length)]; rfl
  rw [World.var?_cell hg hv (j), ← hz]
  have : cs.toList[j]? = some (.int .u8 z) := by
    have h0 : ((cs.toList.drop (j)).take 1)[0]? = some (.int .u8 z) := by rw [e1]; rfl
    simpa using h0
  simpa using this
theorem dj_of_laid {W : World} (h : laidMetH Tryd.prog laid2 W) : Dj W := by
  intro i hi
  have := tab_cell h (dbAt i) (dbAt_lt i hi)
  rw [tab64_at i hi] at this
  exact this
end Go.Proofs.YtgdijjfipicodaaDoor

namespace Go.Proofs.YtgdijjfipicodaaDoor
open Go.ChangeShapes Go.WideShapes Go.ChangeAt Go.RowKit Go.Deep

/-- the symmetries that a kind asks for -/
def kindL : Nat → List Int
  | 0 => [2]
  | 1 => [1]
  | 2 => [4]
  | 3 => [5]
  | _ => [4, 6]
/-- the variable reads so -/
def Sk (w : World) : Prop := ∀ k, k < 5 → ∃ ao c, w.cell? ⟨0, k, none⟩ = some (.slice ao (kindL k).length c) ∧ IntsAt w ao (kindL k)
theorem Sk.below {w w' : World} (h : Sk w) (hb : Below w.heap.size w w') : Sk w' := fun k hk => by
  obtain ⟨ao, c, h1, h2⟩ := h k hk
  exact ⟨ao, c, cell_below h1 hb, h2.below hb⟩
def laidK : List (String × DataW Unit) := [("loop.example/g01123/impl.symmetriesOfKind", Rows.laid_loop_example_g01123_impl_symmetriesOfKind)]
def laid3 : List (String × DataW Unit) := [("math/bits.deBruijn32tab", Rows.laid_math_bits_deBruijn32tab), ("math/bits.deBruijn64tab", Rows.laid_math_bits_deBruijn64tab), ("loop.example/g01123/impl.symmetriesOfKind", Rows.laid_loop_example_g01123_impl_symmetriesOfKind)]
def kindD (k : Nat) : DataW Unit := .slice (lits .i64 (kindL k)) []
theorem kind_is : (Rows.laid_loop_example_g01123_impl_symmetriesOfKind : DataW Unit) = .agg [kindD 0, kindD 1, kindD 2, kindD 3, kindD 4] := rfl
theorem lits_inj {k : IntKind} : ∀ {xs ys : List Int}, (lits k xs : List (DataW Unit)) = lits k ys → xs = ys
  | [], [], _ => rfl
  | [], y :: ys, h => by simp [lits] at h
  | x :: xs, [], h => by simp [lits] at h
  | x :: xs, y :: ys, h => by
    simp only [lits, List.map_cons, List.cons.injEq, DataW.lit.injEq, Lit.int.injEq, true_and] at h
    rw [h.1, lits_inj (k := k) (xs := xs) (ys := ys) h.2]
theorem kind_read {W : World} {base fuel : Nat} {spare : Nat → Bool} {held : Bool} {cs : List Value} {k : Nat} {y : DataW Unit × List MemPlace} {enc : TypeId × Value → Unit}
    (hd : DataW.trod enc Tryd.prog W base spare held fuel 42 cs = some y) (hy : y.1 = kindD k) : ∃ ao c, cs = [.slice ao (kindL k).length c] ∧ IntsAt W ao (kindL k) := by
  rcases open_ints Tryd.underlying42 Tryd.underlying3 Tryd.cells_int hd with ⟨_, e⟩ | ⟨a, len, cap, zs, hcs, _, hl, _, hz, hx, hcell, _⟩
  · rw [e] at hy
    simp [kindD] at hy
  · rw [hx] at hy
    simp only [kindD, DataW.slice.injEq] at hy
    have h1 : zs.take len = kindL k := lits_inj hy.1
    have hzl : len ≤ zs.length := by rw [hz]; split <;> omega
    have h2 : (kindL k).length = len := by rw [← h1, List.length_take]; omega
    refine ⟨some a, cap, by rw [hcs, h2], fun i hi => ?_⟩
    have hc := hcell i (by omega)
    obtain ⟨b, o, rfl⟩ := at_zero (hcell 0 (by omega))
    rw [Addr.add_lit] at hc
    refine ⟨b, o, rfl, ?_⟩
    rw [hc, ← h1]
    simp [gi, List.getD, List.getElem?_take, show i < len by omega]
theorem kind_all {W : World} {base fuel : Nat} {spare : Nat → Bool} {held : Bool} {cs : List Value} {pl : List MemPlace} {enc : TypeId × Value → Unit} (hcell : ∀ j, W.cell? ⟨0, j, none⟩ = cs[j]?)
    (hd : DataW.trod enc Tryd.prog W base spare held fuel 66 cs = some (Rows.laid_loop_example_g01123_impl_symmetriesOfKind, pl)) : Sk W := by
  intro k hk
  obtain ⟨xs, m, _, ex, _, hl, hel⟩ := DataW.trod_array Tryd.underlying66 hd
  have c5 : Tryd.prog.cellsOf 42 = 1 := by kernel_rfl
  have hE := hel k hk
  rw [c5, Nat.mul_one, List.getElem?_eq_getElem (by omega)] at hE
  rw [kind_is] at ex
  have e3 : (xs.map (·.1)) = [kindD 0, kindD 1, kindD 2, kindD 3, kindD 4] := (DataW.agg.inj (Prod.mk.inj ex).1).symm
  have e4 : (xs.map (·.1))[k]? = [kindD 0, kindD 1, kindD 2, kindD 3, kindD 4][k]? := by rw [e3]
  rw [List.getElem?_map, List.getElem?_eq_getElem (by omega : k < xs.length)] at e4
  have e5 : (xs[k]'(by omega)).1 = kindD k := by
    have hk5 : k = 0 ∨ k = 1 ∨ k = 2 ∨ k = 3 ∨ k = 4 := by omega
    rcases hk5 with rfl | rfl | rfl | rfl | rfl <;> simpa using e4
  obtain ⟨ao, c, h1, h2⟩ := kind_read hE e5
  refine ⟨ao, c, ?_, h2⟩
  rw [hcell k]
  have h0 : ((cs.drop k).take 1)[0]? = some (.slice ao (kindL k).length c) := by rw [h1]; rfl
  simpa using h0
theorem sk_of_laid {W : World} (h : laidMetH Tryd.prog laidK W) : Sk W := by
  rw [MakeChecks.laidMetH_plain _ _ _ (by kernel_rfl)] at h
  obtain ⟨ps, hps, _, _⟩ := h
  obtain ⟨g, t, cs, fuel, p, q, hg, ht, hv, hd, _, _⟩ := hps
  obtain rfl := Option.some.inj ((show Tryd.prog.globalNamed "loop.example/g01123/impl.symmetriesOfKind" = some 0 by kernel_rfl).symm.trans hg)
  obtain rfl := Option.some.inj ((show (Tryd.prog.globals[0]?).map (·.type) = some 66 by kernel_rfl).symm.trans ht)
  exact kind_all (fun j => by rw [World.var?_cell hg hv j]; simp) hd
theorem sk_of_laid3 {W : World} (h : laidMetH Tryd.prog laid3 W) : Sk W := by
  rw [MakeChecks.laidMetH_plain _ _ _ (by kernel_rfl)] at h
  obtain ⟨ps, hps, _, _⟩ := h
  obtain ⟨_, _, _, _, _, _, _, _, _, _, ⟨_, _, _, _, _, _, _, _, _, _, ⟨g, t, cs, fuel, p, q, hg, ht, hv, hd, _, _⟩, _⟩, _⟩ := hps
  obtain rfl := Option.some.inj ((show Tryd.prog.globalNamed "loop.example/g01123/impl.symmetriesOfKind" = some 0 by kernel_rfl).symm.trans hg)
  obtain rfl := Option.some.inj ((show (Tryd.prog.globals[0]?).map (·.type) = some 66 by kernel_rfl).symm.trans ht)
  exact kind_all (fun j => by rw [World.var?_cell hg hv j]; simp) hd
end Go.Proofs.YtgdijjfipicodaaDoor

namespace Go.Proofs.YtgdijjfipicodaaDoor
open Go.RowKit

set_option maxRecDepth 100000 in
set_option maxHeartbeats 800000 in
theorem indexI_any (a1 : Option Addr) (c : Nat) (xs : List Int) (x : Int) (w : World) (hn : xs.length ≤ 1048576) (hx : IntsAt w a1 xs) :
    Calls Tryd.prog 90 #[.slice a1 xs.length c, .int .i64 x] w fun e w' => (∃ y : Int, e = .returned (.int .i64 y) ∧ (0 ≤ y ↔ x ∈ xs)) ∧ Q w w' := by
  have hmx : xs.length ≤ 9223372036854775807 := by omega
  have Hx := Lib.hid hx
  clear hx
  go_enter Tryd.func90, Tryd.ntmps90
  go_wp2
  go_loopw [8] (fun i wr => ∃ k : Nat, k ≤ xs.length ∧ i = .int .i64 k ∧ (∀ j, j < k → ¬gi xs j = x) ∧ Q w wr) (fun i _ => xs.length - (intOf i).toNat)
  case atStart => exact ⟨0, Nat.zero_le _, rfl, fun j hj => absurd hj (by omega), Q.refl _⟩
  case round =>
    obtain ⟨k, hk, rfl, hno, hbr⟩ := hrel
    have Hno := Lib.hid hno
    by_cases hlt : k < xs.length
    · obtain ⟨b1, o1, rfl, hc1⟩ := Hx.out.below (hbr.below _) k hlt
      have Hbr := Lib.hid hbr
      by_cases e : gi xs k = x
      · have Hin := Lib.hid (show x ∈ xs from by rw [← e]; exact gi_mem hlt)
        have hb : (x == gi xs k) = true := by simp [e]
        obtain ⟨y, hy⟩ : ∃ y, y = gi xs k := ⟨_, rfl⟩
        rw [← hy] at hc1 hb
        clear hy e hno hbr
        go_wp2
        go_ret
        exact ⟨⟨(k : Int), rfl, by simp [Hin.out]⟩, Hbr.out⟩
      · have He := Lib.hid e
        have hb : (x == gi xs k) = false := by simpa using fun h => e h.symm
        obtain ⟨y, hy⟩ : ∃ y, y = gi xs k := ⟨_, rfl⟩
        rw [← hy] at hc1 hb
        clear hy e hno hbr
        go_wp2
        go_roundw
        case rel => exact ⟨k + 1, by omega, by go_num, fun j hj => by
          by_cases ej : j = k
          · subst ej; exact He.out
          · exact Hno.out j (by omega), Hbr.out⟩
        case measure => simp [intOf]; omega
    · obtain rfl : k = xs.length := by omega
      have Hnn := Lib.hid (show ¬x ∈ xs from fun h => by
        obtain ⟨i, hi, e⟩ := List.mem_iff_getElem.1 h
        exact hno i hi (by rw [gi_lt hi]; exact e))
      have Hbr := Lib.hid hbr
      clear hno hbr
      go_wp2
      go_ret
      exact ⟨⟨-1, rfl, by simp [Hnn.out]⟩, Hbr.out⟩

set_option maxRecDepth 100000 in
set_option maxHeartbeats 800000 in
theorem containsI_any (a1 : Option Addr) (c : Nat) (xs : List Int) (x : Int) (w : World) (hn : xs.length ≤ 1048576) (hx : IntsAt w a1 xs) :
    Calls Tryd.prog 70 #[.slice a1 xs.length c, .int .i64 x] w fun e w' => Ans (x ∈ xs) e ∧ Q w w' := by
  have C := Lib.hid (indexI_any a1 c xs x w hn hx)
  clear hx
  go_enter Tryd.func70, Tryd.ntmps70
  go_wp2_with fail
  refine C.out.mono ?_
  rintro e w2 ⟨⟨y, rfl, hy⟩, hq⟩
  have Hy := Lib.hid hy
  have Hq := Lib.hid hq
  clear hy hq
  go_wp2
  go_ret
  exact ⟨⟨decide (0 ≤ y), rfl, by rw [decide_eq_true_iff]; exact Hy.out⟩, Hq.out⟩

theorem ofK_iff (m : List (List Int)) {k : Nat} (hk : k < 5) : ofK m k ↔ ∀ i, i < (kindL k).length → gi (kindL k) i ∈ smLk m 8 := by
  have h2 := smLk_mem m 2 8
  have h1 := smLk_mem m 1 8
  have h4 := smLk_mem m 4 8
  have h5 := smLk_mem m 5 8
  have h6 := smLk_mem m 6 8
  have g : ∀ (a : Int) (p : Int → Prop), (∀ i, i < [a].length → p (gi [a] i)) ↔ p a := fun a p => ⟨fun h => h 0 (by simp), fun h i hi => by
    obtain rfl : i = 0 := by simp at hi; omega
    exact h⟩
  have hk5 : k = 0 ∨ k = 1 ∨ k = 2 ∨ k = 3 ∨ k = 4 := by omega
  rcases hk5 with rfl | rfl | rfl | rfl | rfl
  · rw [show kindL 0 = [2] from rfl, g 2 (fun x => x ∈ smLk m 8)]
    simp only [ofK, if_true]
    exact ⟨fun h => h2.2 ⟨by omega, h⟩, fun h => (h2.1 h).2⟩
  · rw [show kindL 1 = [1] from rfl, g 1 (fun x => x ∈ smLk m 8)]
    exact ⟨fun h => h1.2 ⟨by omega, h⟩, fun h => (h1.1 h).2⟩
  · rw [show kindL 2 = [4] from rfl, g 4 (fun x => x ∈ smLk m 8)]
    exact ⟨fun h => h4.2 ⟨by omega, h⟩, fun h => (h4.1 h).2⟩
  · rw [show kindL 3 = [5] from rfl, g 5 (fun x => x ∈ smLk m 8)]
    exact ⟨fun h => h5.2 ⟨by omega, h⟩, fun h => (h5.1 h).2⟩
  · rw [show kindL 4 = [4, 6] from rfl]
    constructor
    · rintro ⟨e4, e6⟩ i hi
      have hi2 : i = 0 ∨ i = 1 := by simp at hi; omega
      rcases hi2 with rfl | rfl
      · exact h4.2 ⟨by omega, e4⟩
      · exact h6.2 ⟨by omega, e6⟩
    · intro h
      exact ⟨(h4.1 (h 0 (by simp))).2, (h6.1 (h 1 (by simp))).2⟩

set_option maxRecDepth 100000 in
set_option maxHeartbeats 1600000 in
theorem isOfKind_any (ao : Option Addr) (c k : Nat) (m : List (List Int)) (w : World) (hsq : square m) (hm : MatAt w ao m) (hk : k < 5) (hS : Sk w) :
    Calls Tryd.prog 45 #[.slice ao m.length c, .int .i64 (k : Int)] w fun e w' => Ans (ofK m k) e ∧ Below w.heap.size w w' := by
  have CS := symmetriesOf_any ao c m w hsq hm
  have HK := Lib.hid (ofK_iff m hk)
  have HS := Lib.hid hS
  obtain ⟨n, hn⟩ : ∃ n, n = m.length := ⟨_, rfl⟩
  rw [← hn] at CS ⊢
  have CS := Lib.hid CS
  have hln : (kindL k).length ≤ 2 := by
    have hk5 : k = 0 ∨ k = 1 ∨ k = 2 ∨ k = 3 ∨ k = 4 := by omega
    rcases hk5 with rfl | rfl | rfl | rfl | rfl <;> decide
  obtain ⟨L, hL⟩ : ∃ L, L = kindL k := ⟨_, rfl⟩
  have HL := Lib.hid hL
  rw [← hL] at hln HK
  have Hsl := Lib.hid (smLk_len m 8)
  have hLm : L.length ≤ 9223372036854775807 := by omega
  have hkr : (k : Int) < 5 := by omega
  clear hsq hm hS hn hL
  go_enter Tryd.func45, Tryd.ntmps45
  go_wp2_with fail
  refine CS.out.mono ?_
  rintro e w1 ⟨v, rfl, hv, hb1⟩
  obtain ⟨va, vc, rfl, _, _, hvx⟩ := hv.read
  have Hvx := Lib.hid hvx
  have Hb1 := Lib.hid hb1
  obtain ⟨ga, gc, hcell, hgx⟩ := (HS.out.below hb1) k hk
  rw [← HL.out] at hcell hgx
  have Hgx := Lib.hid hgx
  have CC := Lib.hid (fun x w' (h : Q w1 w') => containsI_any va vc (smLk m 8) x w' (by have := Hsl.out; omega) (Hvx.out.below (h.below _)))
  obtain ⟨Z, hZ⟩ : ∃ Z, Z = smLk m 8 := ⟨_, rfl⟩
  rw [← hZ] at HK CC Hsl ⊢
  clear hv hvx hgx hb1 CS hZ Hvx
  go_wp2
  go_loopw [14] (fun i wr => ∃ j : Nat, j ≤ L.length ∧ i = .int .i64 j ∧ (∀ t, t < j → gi L t ∈ Z) ∧ Q w1 wr) (fun i _ => L.length - (intOf i).toNat)
  case atStart => exact ⟨0, Nat.zero_le _, rfl, fun t ht => absurd ht (by omega), Q.refl _⟩
  case round =>
    obtain ⟨j, hj, rfl, hin, hq⟩ := hrel
    have Hin := Lib.hid hin
    have Hq := Lib.hid hq
    clear hin hq
    by_cases hlt : j < L.length
    · obtain ⟨b1, o1, rfl, hc1⟩ := Hgx.out.below (Hq.out.below _) j hlt
      have C1 := CC.out (gi L j) wr Hq.out
      have Hx := Lib.hid (show ∀ p, (p ↔ gi L j ∈ Z) → (p ↔ gi L j ∈ Z) from fun p h => h)
      obtain ⟨x, hx⟩ : ∃ x, x = gi L j := ⟨_, rfl⟩
      rw [← hx] at hc1 C1
      have Hxe := Lib.hid hx
      have C1 := Lib.hid C1
      clear hx
      go_wp2_with fail
      refine C1.out.mono ?_
      rintro e w3 ⟨ha, hq3⟩
      have Hq3 := Lib.hid (Hq.out.trans hq3)
      clear hq3 C1
      by_cases hz : x ∈ Z
      · obtain rfl := ha.is hz
        have Hz := Lib.hid hz
        clear ha hz
        go_wp2
        go_roundw
        case rel => exact ⟨j + 1, by omega, by go_num, fun t ht => by
          by_cases et : t = j
          · subst et; rw [← Hxe.out]; exact Hz.out
          · exact Hin.out t (by omega), Hq3.out⟩
        case measure => simp [intOf]; omega
      · obtain rfl := ha.isnt hz
        have Hz := Lib.hid (show ¬ofK m k from fun h => hz (by rw [Hxe.out]; exact HK.out.1 h j hlt))
        clear ha hz
        go_wp2
        go_ret
        exact ⟨Ans.no Hz.out, Hb1.out.trans (Hq3.out.below _)⟩
    · obtain rfl : j = L.length := by omega
      have Hy := Lib.hid (HK.out.2 Hin.out)
      go_wp2
      go_ret
      exact ⟨Ans.yes Hy.out, Hb1.out.trans (Hq.out.below _)⟩

set_option maxRecDepth 100000 in
set_option maxHeartbeats 1600000 in
theorem smHas_any (ao : Option Addr) (c k : Nat) (m : List (List Int)) (w : World) (hsq : square m) (hm : MatAt w ao m) (hk : k < 5) :
    Calls Tryd.prog 41 #[.slice ao m.length c, .int .i64 (k : Int)] w fun e w' => Ans (ofK m k) e ∧ Below w.heap.size w w' := by
  have CS := smSymmetries_any ao c m w hsq hm
  have CW := Lib.hid (fun a1 c1 i w' (h1 : MatAt w' a1 (im m i)) (h2 : MatAt w' ao m) => weSame_any a1 ao c1 c (im m i) m w' (im_small hsq i) hsq.small h1 h2)
  have HI := Lib.hid (fun i => (sq_im hsq i).1)
  have CT := fun w' (h : MatAt w' ao m) => sgTurn_any ao c m w' hsq h
  have H5 := Lib.hid (im_five hsq)
  have Hm := Lib.hid hm
  obtain ⟨n, hn⟩ : ∃ n, n = m.length := ⟨_, rfl⟩
  have hn6 : n ≤ 6 := by rw [hn]; exact hsq.2.1
  have HN := Lib.hid hn
  rw [← hn] at CS CT ⊢
  have CS := Lib.hid CS
  have CT := Lib.hid CT
  clear hsq hm hn
  have hk5 : k = 0 ∨ k = 1 ∨ k = 2 ∨ k = 3 ∨ k = 4 := by omega
  rcases hk5 with rfl | rfl | rfl | rfl | rfl
  · skip
    go_enter Tryd.func41, Tryd.ntmps41
    go_wp2_with fail
    refine CS.out.mono ?_
    rintro e w1 ⟨g, cap, rfl, hc1, hc2, hi1, hb1⟩
    have Hi1 := Lib.hid hi1
    have Hb1 := Lib.hid hb1
    have Hm1 := Lib.hid (Hm.out.below hb1)
    clear hi1 hb1 CS
    obtain ⟨a1, d1, hcell, hm1⟩ := Hi1.out 2 (by omega)
    have C1 := CW.out a1 d1 2 w1 hm1 Hm1.out
    rw [HI.out 2, ← HN.out] at C1
    rw [← HN.out] at hcell
    have C1 := Lib.hid C1
    clear hm1
    go_wp2_with fail
    refine C1.out.mono ?_
    rintro e w2 ⟨rfl, hq⟩
    have HB2 := Lib.hid (Hb1.out.trans (hq.below _))
    clear hq C1 hcell
    go_wp2
    go_ret
    exact ⟨⟨_, rfl, by simp [ofK]⟩, HB2.out⟩
  · skip
    go_enter Tryd.func41, Tryd.ntmps41
    go_wp2_with fail
    refine CS.out.mono ?_
    rintro e w1 ⟨g, cap, rfl, hc1, hc2, hi1, hb1⟩
    have Hi1 := Lib.hid hi1
    have Hb1 := Lib.hid hb1
    have Hm1 := Lib.hid (Hm.out.below hb1)
    clear hi1 hb1 CS
    obtain ⟨a1, d1, hcell, hm1⟩ := Hi1.out 1 (by omega)
    have C1 := CW.out a1 d1 1 w1 hm1 Hm1.out
    rw [HI.out 1, ← HN.out] at C1
    rw [← HN.out] at hcell
    have C1 := Lib.hid C1
    clear hm1
    go_wp2_with fail
    refine C1.out.mono ?_
    rintro e w2 ⟨rfl, hq⟩
    have HB2 := Lib.hid (Hb1.out.trans (hq.below _))
    clear hq C1 hcell
    go_wp2
    go_ret
    exact ⟨⟨_, rfl, by simp [ofK]⟩, HB2.out⟩
  · skip
    go_enter Tryd.func41, Tryd.ntmps41
    go_wp2_with fail
    refine CS.out.mono ?_
    rintro e w1 ⟨g, cap, rfl, hc1, hc2, hi1, hb1⟩
    have Hi1 := Lib.hid hi1
    have Hb1 := Lib.hid hb1
    have Hm1 := Lib.hid (Hm.out.below hb1)
    clear hi1 hb1 CS
    obtain ⟨a1, d1, hcell, hm1⟩ := Hi1.out 4 (by omega)
    have C1 := CW.out a1 d1 4 w1 hm1 Hm1.out
    rw [HI.out 4, ← HN.out] at C1
    rw [← HN.out] at hcell
    have C1 := Lib.hid C1
    clear hm1
    go_wp2_with fail
    refine C1.out.mono ?_
    rintro e w2 ⟨rfl, hq⟩
    have HB2 := Lib.hid (Hb1.out.trans (hq.below _))
    clear hq C1 hcell
    go_wp2
    go_ret
    exact ⟨⟨_, rfl, by simp [ofK]⟩, HB2.out⟩
  · skip
    go_enter Tryd.func41, Tryd.ntmps41
    go_wp2_with fail
    refine CS.out.mono ?_
    rintro e w1 ⟨g, cap, rfl, hc1, hc2, hi1, hb1⟩
    have Hi1 := Lib.hid hi1
    have Hb1 := Lib.hid hb1
    have Hm1 := Lib.hid (Hm.out.below hb1)
    clear hi1 hb1 CS
    go_wp2_with fail
    refine (CT.out w1 Hm1.out).mono ?_
    rintro e w2 ⟨v, rfl, hv, hb2⟩
    obtain ⟨va, vc, rfl, _, _, hvm⟩ := hv.read
    have C1 := CW.out va vc 5 w2 (by rw [H5.out]; exact hvm) (Hm1.out.below hb2)
    rw [HI.out 5, ← HN.out] at C1
    have C1 := Lib.hid C1
    have HB2 := Lib.hid (Hb1.out.trans (hb2.mono Hb1.out.size))
    rw [tr_len, ← HN.out]
    clear hv hvm hb2
    go_wp2_with fail
    refine C1.out.mono ?_
    rintro e w3 ⟨rfl, hq⟩
    have HB3 := Lib.hid (HB2.out.trans (hq.below _))
    clear hq C1
    go_wp2
    go_ret
    exact ⟨⟨_, rfl, by simp [ofK]⟩, HB3.out⟩
  · skip
    go_enter Tryd.func41, Tryd.ntmps41
    go_wp2_with fail
    refine CS.out.mono ?_
    rintro e w1 ⟨g, cap, rfl, hc1, hc2, hi1, hb1⟩
    have Hi1 := Lib.hid hi1
    have Hb1 := Lib.hid hb1
    have Hm1 := Lib.hid (Hm.out.below hb1)
    clear hi1 hb1 CS
    obtain ⟨a1, d1, hcell, hm1⟩ := Hi1.out 4 (by omega)
    have C1 := CW.out a1 d1 4 w1 hm1 Hm1.out
    rw [HI.out 4, ← HN.out] at C1
    rw [← HN.out] at hcell
    have HE := Lib.hid (show ofK m 4 ↔ im m 4 = m ∧ im m 6 = m by simp [ofK])
    by_cases h4 : im m 4 = m
    · have hb : (im m 4 == m) = true := by simpa using h4
      rw [hb] at C1
      have C1 := Lib.hid C1
      have H4 := Lib.hid h4
      clear hm1 hb h4
      go_wp2_with fail
      refine C1.out.mono ?_
      rintro e w2 ⟨rfl, hq⟩
      obtain ⟨a2, d2, hcell2, hm2⟩ := (Hi1.out.below (hq.below _)) 6 (by omega)
      have C2 := CW.out a2 d2 6 w2 hm2 (Hm1.out.below (hq.below _))
      rw [HI.out 6, ← HN.out] at C2
      rw [← HN.out] at hcell2
      have C2 := Lib.hid C2
      have HB2 := Lib.hid (Hb1.out.trans (hq.below _))
      clear hq C1 hcell hm2
      go_wp2_with fail
      refine C2.out.mono ?_
      rintro e w3 ⟨rfl, hq⟩
      have HB3 := Lib.hid (HB2.out.trans (hq.below _))
      clear hq C2 hcell2
      go_wp2
      go_ret
      exact ⟨⟨_, rfl, by rw [HE.out]; simp [H4.out]⟩, HB3.out⟩
    · have hb : (im m 4 == m) = false := by simpa using h4
      rw [hb] at C1
      have C1 := Lib.hid C1
      have H4 := Lib.hid (show ¬ofK m 4 from fun h => h4 (HE.out.1 h).1)
      clear hm1 hb h4
      go_wp2_with fail
      refine C1.out.mono ?_
      rintro e w2 ⟨rfl, hq⟩
      have HB2 := Lib.hid (Hb1.out.trans (hq.below _))
      clear hq C1 hcell
      go_wp2
      go_ret
      exact ⟨Ans.no H4.out, HB2.out⟩

/-- the answer to HasSymmetry is told -/
def hsP (m : List (List Int)) (z : Int) : Prop := good m ∧ 0 ≤ z ∧ z ≤ 4

set_option maxRecDepth 100000 in
set_option maxHeartbeats 1600000 in
theorem specHasSymmetry_any (ao : Option Addr) (c : Nat) (m : List (List Int)) (z : Int) (w : World) (hs : Small m) (hm : MatAt w ao m) (_hz : -9223372036854775808 ≤ z ∧ z ≤ 9223372036854775807) :
    Calls Tryd.prog 12 #[.slice ao m.length c, .int .i64 z] w fun e w' => BRes (hsP m z) (ofK m z.toNat) e ∧ Below w.heap.size w w' := by
  have Hm := Lib.hid hm
  have CG := Lib.hid (sgGood_any ao c m w hs hm)
  have CO := Lib.hid (fun k w' (h : good m) (h2 : MatAt w' ao m) (hk : k < 5) => smHas_any ao c k m w' h.1 h2 hk)
  have CK : ∀ w', Calls Tryd.prog 40 #[.int .i64 z] w' fun e w'' => Ans (0 ≤ z ∧ z ≤ 4) e ∧ w' = w'' := fun w' => by
    have CI := Lib.hid (l1In_any z 0 4 w')
    go_enter Tryd.func40, Tryd.ntmps40
    go_wp2_with fail
    refine CI.out.mono ?_
    rintro e w2 ⟨⟨b, rfl, hb⟩, rfl⟩
    have Hb := Lib.hid hb
    clear hb
    go_wp2
    go_ret
    exact ⟨⟨_, rfl, Hb.out⟩, rfl⟩
  have CK := Lib.hid CK
  clear hm hs _hz
  go_enter Tryd.func12, Tryd.ntmps12
  go_wp2_with fail
  refine CG.out.mono ?_
  rintro e w1 ⟨ha, hb⟩
  have Hb := Lib.hid hb
  have hB := hb.size
  clear hb
  by_cases hg : good m
  · obtain rfl := ha.is hg
    have Hg := Lib.hid hg
    have Hm1 := Lib.hid (Hm.out.below Hb.out)
    clear ha hg CG
    go_wp2_with fail
    refine (CK.out _).mono ?_
    rintro e w2 ⟨ha, rfl⟩
    by_cases hz : 0 ≤ z ∧ z ≤ 4
    · obtain rfl := ha.is hz
      have Hz := Lib.hid hz
      obtain ⟨k, rfl⟩ : ∃ k : Nat, z = k := ⟨z.toNat, by omega⟩
      have CO2 := Lib.hid (CO.out k w1 Hg.out Hm1.out (by omega))
      clear ha hz CO
      go_wp2_with fail
      refine CO2.out.mono ?_
      rintro e w3 ⟨⟨b, rfl, hbb⟩, hb3⟩
      have Hbb := Lib.hid hbb
      have HB3 := Lib.hid (Hb.out.trans (hb3.mono hB))
      clear hbb hb3
      go_wp2
      go_ret2
      exact ⟨⟨_, _, rfl, .inl ⟨⟨Hg.out, Hz.out⟩, rfl, Hbb.out⟩⟩, HB3.out⟩
    · obtain rfl := ha.isnt hz
      have Hz := Lib.hid (show ¬hsP m z from fun h => hz h.2)
      clear ha hz
      go_wp2
      go_ret2
      exact ⟨⟨_, _, rfl, .inr ⟨Hz.out, rfl, rfl⟩⟩, Hb.out⟩
  · obtain rfl := ha.isnt hg
    have Hg := Lib.hid (show ¬hsP m z from fun h => hg h.1)
    clear ha hg
    go_wp2
    go_ret2
    exact ⟨⟨_, _, rfl, .inr ⟨Hg.out, rfl, rfl⟩⟩, Hb.out⟩

set_option maxRecDepth 100000 in
set_option maxHeartbeats 1600000 in
theorem isKind_any (z : Int) (w : World) : Calls Tryd.prog 44 #[.int .i64 z] w fun e w' => Ans (0 ≤ z ∧ z ≤ 4) e ∧ Below w.heap.size w w' := by
  obtain ⟨w1, hw1⟩ : ∃ w1, w1 = w.alloc (.cells #[.int .i64 z] 3) := ⟨_, rfl⟩
  have C := Lib.hid (allIn_any 0 4 (some ⟨w.heap.size, 0, none⟩) 1 [z] w1 (by simp) (by rw [hw1]; exact ints_oneH w _))
  have HB1 := Lib.hid (show Below w.heap.size w w1 by rw [hw1]; exact (Below.refl _ _).alloc (Nat.le_refl _) _)
  have Hw1 := Lib.hid hw1
  clear hw1
  go_enter Tryd.func44, Tryd.ntmps44
  go_wp2_with fail
  rw [← Hw1.out]
  refine C.out.mono ?_
  rintro e w2 ⟨⟨b, rfl, hb⟩, rfl⟩
  have Hb := Lib.hid (hb.trans allIn_oneH)
  clear hb
  go_wp2
  go_ret
  exact ⟨⟨_, rfl, Hb.out⟩, HB1.out⟩

set_option maxRecDepth 100000 in
set_option maxHeartbeats 1600000 in
theorem implHasSymmetry_any (ao : Option Addr) (c : Nat) (m : List (List Int)) (z : Int) (w : World) (hs : Small m) (hwf : WfM m) (hm : MatAt w ao m) (_hz : -9223372036854775808 ≤ z ∧ z ≤ 9223372036854775807) (hS : Sk w) :
    Calls Tryd.prog 14 #[.slice ao m.length c, .int .i64 z] w fun e w' => BRes (hsP m z) (ofK m z.toNat) e ∧ Below w.heap.size w w' := by
  have Hm := Lib.hid hm
  have HS := Lib.hid hS
  have CG := Lib.hid (implIsSign_any ao c m w hs hwf hm)
  have CO := Lib.hid (fun k w' (h : good m) (h2 : MatAt w' ao m) (hk : k < 5) (h3 : Sk w') => isOfKind_any ao c k m w' h.1 h2 hk h3)
  have CK := Lib.hid (fun w' => isKind_any z w')
  clear hm hs hwf hS _hz
  go_enter Tryd.func14, Tryd.ntmps14
  go_wp2_with fail
  refine CG.out.mono ?_
  rintro e w1 ⟨ha, hb⟩
  have Hb := Lib.hid hb
  have hB := hb.size
  clear hb
  by_cases hg : good m
  · obtain rfl := ha.is hg
    have Hg := Lib.hid hg
    clear ha hg CG
    go_wp2_with fail
    refine (CK.out _).mono ?_
    rintro e w2 ⟨ha, hb2⟩
    have Hb2 := Lib.hid (Hb.out.trans (hb2.mono hB))
    clear hb2
    by_cases hz : 0 ≤ z ∧ z ≤ 4
    · obtain rfl := ha.is hz
      have Hz := Lib.hid hz
      obtain ⟨k, rfl⟩ : ∃ k : Nat, z = k := ⟨z.toNat, by omega⟩
      have CO2 := Lib.hid (CO.out k w2 Hg.out (Hm.out.below Hb2.out) (by omega) (HS.out.below Hb2.out))
      clear ha hz CO
      go_wp2_with fail
      refine CO2.out.mono ?_
      rintro e w3 ⟨⟨b, rfl, hbb⟩, hb3⟩
      have Hbb := Lib.hid hbb
      have HB3 := Lib.hid (Hb2.out.trans (hb3.mono Hb2.out.size))
      clear hbb hb3
      go_wp2
      go_ret2
      exact ⟨⟨_, _, rfl, .inl ⟨⟨Hg.out, Hz.out⟩, rfl, Hbb.out⟩⟩, HB3.out⟩
    · obtain rfl := ha.isnt hz
      have Hz := Lib.hid (show ¬hsP m z from fun h => hz h.2)
      clear ha hz
      go_wp2
      go_ret2
      exact ⟨⟨_, _, rfl, .inr ⟨Hz.out, rfl, rfl⟩⟩, Hb2.out⟩
  · obtain rfl := ha.isnt hg
    have Hg := Lib.hid (show ¬hsP m z from fun h => hg h.1)
    clear ha hg
    go_wp2
    go_ret2
    exact ⟨⟨_, _, rfl, .inr ⟨Hg.out, rfl, rfl⟩⟩, Hb.out⟩
end Go.Proofs.YtgdijjfipicodaaDoor

