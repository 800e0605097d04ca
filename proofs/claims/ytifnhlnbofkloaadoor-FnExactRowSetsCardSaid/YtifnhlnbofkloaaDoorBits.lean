/- Contracts of the library's counts of bits, at sets of up to 6 numbers in 0..15. Condition: the table of math/bits. -/
import Derived.Test.YtifnhlnbofkloaaDoorMask
import Derived.Test.YtifnhlnbofkloaaDoorOwn
import Derived.Laws.BitsAllLaws
import Derived.Laws.Bits128
namespace Go.Proofs.YtifnhlnbofkloaaDoor
open Go.RowKit

theorem ones64_run (x x1 x2 x3 x4 x5 x6 x7 : Int) (w : World)
    (h1 : IntKind.u64.wrap (bits .and .u64 (x / 2) 6148914691236517205 + bits .and .u64 x 6148914691236517205) = x1)
    (h2 : IntKind.u64.wrap (bits .and .u64 (x1 / 4) 3689348814741910323 + bits .and .u64 x1 3689348814741910323) = x2)
    (h3 : bits .and .u64 (IntKind.u64.wrap (x2 / 16 + x2)) 1085102592571150095 = x3)
    (h4 : IntKind.u64.wrap (x3 + x3 / 256) = x4)
    (h5 : IntKind.u64.wrap (x4 + x4 / 65536) = x5)
    (h6 : IntKind.u64.wrap (x5 + x5 / 4294967296) = x6)
    (h7 : bits .and .i64 (wrap64 x6) 127 = x7) :
    Calls Tryd.prog 145 #[.int .u64 x] w fun e w' => e = .returned (.int .i64 x7) ∧ w = w' := by
  go_enter Tryd.func145, Tryd.ntmps145
  go_wp2
  go_ret
  exact ⟨rfl, rfl⟩

theorem ones64_any {xs : List Int} (h : Rise xs) (hl : xs.length ≤ 6) (w : World) :
    Calls Tryd.prog 145 #[.int .u64 (mask xs : Nat)] w fun e w' => e = .returned (.int .i64 xs.length) ∧ w = w' := by
  have hx := mask_lt16 h
  have hp := pc_mask h hl
  generalize mask xs = x at hx hp ⊢
  have andle : ∀ a b : Nat, Nat.land a b ≤ a := fun a b => @Nat.and_le_left a b
  have wr : ∀ a : Nat, a < 1000000 → IntKind.u64.wrap (a : Int) = (a : Int) := fun a ha => by rw [IntKind.wrap_u64]; omega
  have an1 : ∀ a : Nat, a < 1000000 → bits .and .u64 (a : Int) 6148914691236517205 = ((Nat.land a 6148914691236517205 : Nat) : Int) := fun a ha => u64_and_nat a 6148914691236517205 (by omega) (by omega)
  have an2 : ∀ a : Nat, a < 1000000 → bits .and .u64 (a : Int) 3689348814741910323 = ((Nat.land a 3689348814741910323 : Nat) : Int) := fun a ha => u64_and_nat a 3689348814741910323 (by omega) (by omega)
  have an3 : ∀ a : Nat, a < 1000000 → bits .and .u64 (a : Int) 1085102592571150095 = ((Nat.land a 1085102592571150095 : Nat) : Int) := fun a ha => u64_and_nat a 1085102592571150095 (by omega) (by omega)
  unfold pcF at hp
  simp only at hp
  have b0 : Nat.div x 2 ≤ 32767 := by show x / 2 ≤ _; omega
  have b1a := andle (Nat.div x 2) 6148914691236517205
  have b1b := andle x 6148914691236517205
  generalize e1 : Nat.add (Nat.land (Nat.div x 2) 6148914691236517205) (Nat.land x 6148914691236517205) = x1 at hp
  have b1 : x1 ≤ 98302 := by rw [← e1]; exact Nat.le_trans (Nat.add_le_add b1a b1b) (by omega)
  have b2a := andle (Nat.div x1 4) 3689348814741910323
  have b2b := andle x1 3689348814741910323
  have b2d : Nat.div x1 4 ≤ 24575 := by show x1 / 4 ≤ _; omega
  generalize e2 : Nat.add (Nat.land (Nat.div x1 4) 3689348814741910323) (Nat.land x1 3689348814741910323) = x2 at hp
  have b2 : x2 ≤ 122877 := by rw [← e2]; exact Nat.le_trans (Nat.add_le_add b2a b2b) (by omega)
  have b3a := andle (Nat.add (Nat.div x2 16) x2) 1085102592571150095
  have b3d : Nat.add (Nat.div x2 16) x2 ≤ 130556 := by show x2 / 16 + x2 ≤ _; omega
  generalize e3 : Nat.land (Nat.add (Nat.div x2 16) x2) 1085102592571150095 = x3 at hp
  have b3 : x3 ≤ 130556 := by rw [← e3]; omega
  generalize e4 : Nat.add x3 (Nat.div x3 256) = x4 at hp
  have b4 : x4 ≤ 131100 := by rw [← e4]; show x3 + x3 / 256 ≤ _; omega
  generalize e5 : Nat.add x4 (Nat.div x4 65536) = x5 at hp
  have b5 : x5 ≤ 131200 := by rw [← e5]; show x4 + x4 / 65536 ≤ _; omega
  generalize e6 : Nat.add x5 (Nat.div x5 4294967296) = x6 at hp
  have b6 : x6 ≤ 131300 := by rw [← e6]; show x5 + x5 / 4294967296 ≤ _; omega
  refine ones64_run x x1 x2 x3 x4 x5 x6 xs.length w ?_ ?_ ?_ ?_ ?_ ?_ ?_
  · rw [show ((x : Int) / 2) = ((Nat.div x 2 : Nat) : Int) by show _ = ((x / 2 : Nat) : Int); omega, an1 _ (by omega), an1 _ (by omega), ← e1]
    exact wr (_ + _) (by omega)
  · rw [show ((x1 : Int) / 4) = ((Nat.div x1 4 : Nat) : Int) by show _ = ((x1 / 4 : Nat) : Int); omega, an2 _ (by omega), an2 _ (by omega), ← e2]
    exact wr (_ + _) (by omega)
  · rw [show ((x2 : Int) / 16 + x2) = ((Nat.add (Nat.div x2 16) x2 : Nat) : Int) by show _ = ((x2 / 16 + x2 : Nat) : Int); omega, wr _ (by omega), an3 _ (by omega), ← e3]
  · rw [show ((x3 : Int) + x3 / 256) = ((Nat.add x3 (Nat.div x3 256) : Nat) : Int) by show _ = ((x3 + x3 / 256 : Nat) : Int); omega, e4, wr _ (by omega)]
  · rw [show ((x4 : Int) + x4 / 65536) = ((Nat.add x4 (Nat.div x4 65536) : Nat) : Int) by show _ = ((x4 + x4 / 65536 : Nat) : Int); omega, e5, wr _ (by omega)]
  · rw [show ((x5 : Int) + x5 / 4294967296) = ((Nat.add x5 (Nat.div x5 4294967296) : Nat) : Int) by show _ = ((x5 + x5 / 4294967296 : Nat) : Int); omega, e6, wr _ (by omega)]
  · rw [show wrap64 (x6 : Int) = (x6 : Int) by unfold wrap64; omega]
    rw [i64_and127, ← hp]
    have : Nat.land x6 127 = x6 % 128 := nat_mask7 x6
    omega

theorem onesCount_any {xs : List Int} (h : Rise xs) (hl : xs.length ≤ 6) (w : World) :
    Calls Tryd.prog 139 #[.int .u64 (mask xs : Nat)] w fun e w' => e = .returned (.int .i64 xs.length) ∧ w = w' := by
  have hh := ones64_any h hl w
  obtain ⟨x, hx⟩ : ∃ x : Int, x = (mask xs : Nat) := ⟨_, rfl⟩
  rw [← hx] at hh ⊢
  have H := Lib.hid hh
  clear hh hx
  go_enter Tryd.func139, Tryd.ntmps139
  go_wp2_with fail
  refine H.out.mono ?_
  rintro e w2 ⟨rfl, rfl⟩
  go_wp2
  go_ret
  exact ⟨rfl, rfl⟩

theorem size_any {xs : List Int} (h : Rise xs) (hl : xs.length ≤ 6) (w : World) :
    Calls Tryd.prog 126 #[.int .u64 (mask xs : Nat)] w fun e w' => e = .returned (.int .i64 xs.length) ∧ w = w' := by
  have hh := onesCount_any h hl w
  obtain ⟨x, hx⟩ : ∃ x : Int, x = (mask xs : Nat) := ⟨_, rfl⟩
  rw [← hx] at hh ⊢
  have H := Lib.hid hh
  clear hh hx
  go_enter Tryd.func126, Tryd.ntmps126
  go_wp2_with fail
  refine H.out.mono ?_
  rintro e w2 ⟨rfl, rfl⟩
  go_wp2
  go_ret
  exact ⟨rfl, rfl⟩

theorem tz64_run (x y z q i v : Int) (w : World) (hx : x ≠ 0) (h1 : IntKind.u64.wrap (-x) = y) (h2 : bits .and .u64 x y = z) (h3 : IntKind.u64.wrap (z * 285870213051353865) = q)
    (h4 : q / 288230376151711744 = i) (h5 : 0 ≤ i) (h6 : i < 64) (hc : w.cell? ⟨1, i.toNat, none⟩ = some (.int .u8 v)) (hv0 : 0 ≤ v) (hv1 : v ≤ 255) :
    Calls Tryd.prog 143 #[.int .u64 x] w fun e w' => e = .returned (.int .i64 v) ∧ w = w' := by
  have hb : (x == 0) = false := by simpa using hx
  clear hx
  go_enter Tryd.func143, Tryd.ntmps143
  go_wp2
  go_ret
  exact ⟨rfl, rfl⟩
/-- the table's cells at the places of single bits -/
def dbAt (i : Nat) : Nat := (2 ^ i * 285870213051353865) % 18446744073709551616 / 288230376151711744
def Dj (w : World) : Prop := ∀ i, i < 16 → w.cell? ⟨1, dbAt i, none⟩ = some (.int .u8 (i : Int))
theorem Dj.below {w w' : World} {B : Nat} (h : Dj w) (hb : Below B w w') (hB : w.heap.size ≤ B) : Dj w' := fun i hi => by
  have := h i hi
  rw [hb.cell (Nat.lt_of_lt_of_le (World.block_lt_of_cell? _ _ this) hB)]
  exact this
theorem Dj.next {w w' : World} (h : Dj w) (hb : Below w.heap.size w w') : Dj w' := h.below hb (Nat.le_refl _)
theorem dbAt_lt : ∀ i, i < 16 → dbAt i < 64 := by decide

theorem tz64_any {x : Int} {r : List Int} (h : Rise (x :: r)) (w : World) (hD : Dj w) :
    Calls Tryd.prog 143 #[.int .u64 (mask (x :: r) : Nat)] w fun e w' => e = .returned (.int .i64 x) ∧ w = w' := by
  have hx := h.2 x (by simp)
  have hm := mask_lt16 h
  have hlow := mask_low h.1 hx.1 (fun y hy => (h.2 y hy).2)
  obtain ⟨q, _, hq⟩ := mask_head h.1 hx.1
  have hpos : 0 < mask (x :: r) := by rw [hq]; have := Nat.two_pow_pos x.toNat; omega
  have hc := hD x.toNat (by omega)
  have hlt := dbAt_lt x.toNat (by omega)
  have hp15 : 2 ^ x.toNat ≤ 2 ^ 15 := Nat.pow_le_pow_right (by omega) (by omega)
  rw [Int.toNat_of_nonneg hx.1] at hc
  clear hq
  generalize mask (x :: r) = m at *
  refine tz64_run (m : Int) ((18446744073709551616 - m : Nat) : Int) ((2 ^ x.toNat : Nat) : Int) (((2 ^ x.toNat * 285870213051353865) % 18446744073709551616 : Nat) : Int) (dbAt x.toNat : Nat) x w (by omega) ?_ ?_ ?_ ?_ (by omega) (by omega) ?_ hx.1 (by omega)
  · rw [IntKind.wrap_u64]; omega
  · rw [u64_and_nat _ _ (by omega) (by omega), hlow]
  · rw [IntKind.wrap_u64]; omega
  · unfold dbAt; omega
  · rw [Int.toNat_natCast]; exact hc

theorem trailing_any {x : Int} {r : List Int} (h : Rise (x :: r)) (w : World) (hD : Dj w) :
    Calls Tryd.prog 137 #[.int .u64 (mask (x :: r) : Nat)] w fun e w' => e = .returned (.int .i64 x) ∧ w = w' := by
  have hh := tz64_any h w hD
  obtain ⟨m, hm⟩ : ∃ m : Int, m = (mask (x :: r) : Nat) := ⟨_, rfl⟩
  rw [← hm] at hh ⊢
  have H := Lib.hid hh
  clear hh hm hD
  go_enter Tryd.func137, Tryd.ntmps137
  go_wp2_with fail
  refine H.out.mono ?_
  rintro e w2 ⟨rfl, rfl⟩
  go_wp2
  go_ret
  exact ⟨rfl, rfl⟩

set_option maxRecDepth 100000 in
set_option maxHeartbeats 800000 in
theorem row_any {xs : List Int} (h : Rise xs) (hl : xs.length ≤ 6) (w : World) (hD : Dj w) :
    Calls Tryd.prog 121 #[.int .u64 (mask xs : Nat)] w fun e w' => ∃ v, e = .returned v ∧ OwnI w' w.heap.size v xs ∧ Below w.heap.size w w' := by
  obtain ⟨i0, hi, hz0, hz1, hz2⟩ := info_parts Tryd.info_int
  have hs := size_any h hl w
  obtain ⟨m, hm⟩ : ∃ m : Int, m = (mask xs : Nat) := ⟨_, rfl⟩
  rw [← hm] at hs ⊢
  have Hs := Lib.hid hs
  have Hm := Lib.hid hm
  have H := Lib.hid h
  have HD := Lib.hid hD
  clear hs hm h hD
  go_enter Tryd.func121, Tryd.ntmps121
  go_wp2_with fail
  refine Hs.out.mono ?_
  rintro e w2 ⟨rfl, rfl⟩
  go_wp2_with (at_make; refine wpList_make_own _ rfl _ _ 29 rfl w.heap.size 3 i0 (.int .i64 0) 1 Tryd.underlying29 hi hz0 hz1 _ _ _ xs.length rfl rfl rfl ?c1 ?c2 ?c3 ?_)
  case c1 => rw [hz2]; omega
  case c2 => unfold maxLen; omega
  case c3 => simp
  intro w1 hown hg
  have hb1 : Below w.heap.size w w1 := (Below.refl _ _).grown hg (Nat.le_refl _) (fun _ h => by cases h)
  have hown1 : OwnI w1 w.heap.size (.slice (some ⟨w.heap.size, 0, none⟩) 0 xs.length) [] := hown
  clear hown hg
  go_wp2
  go_loopw [3, 4] (fun out rest wr => ∃ (pre suf : List Int), pre ++ suf = xs ∧ rest = .int .u64 (mask suf : Nat) ∧ OwnI wr w.heap.size out pre ∧ Below w.heap.size w wr) (fun out _ _ => xs.length - slLen out)
  case atStart => exact ⟨[], xs, rfl, by rw [Hm.out], hown1, hb1⟩
  case round =>
    obtain ⟨pre, suf, hps, rfl, hown, hbr⟩ := hrel
    clear hown1 hb1
    cases suf with
    | nil =>
      go_wp2
      go_ret
      rw [List.append_nil] at hps
      subst hps
      exact ⟨_, rfl, hown, hbr⟩
    | cons x r =>
      have hr : Rise (x :: r) := by
        have := H.out
        rw [← hps] at this
        exact ⟨(up_append this.1).2.1, fun y hy => this.2 y (by simp [hy])⟩
      have hx := hr.2 x (by simp)
      have hpos : mask (x :: r) ≠ 0 := by
        obtain ⟨q, _, hq⟩ := mask_head hr.1 hx.1
        rw [hq]
        have := Nat.two_pow_pos x.toNat
        omega
      have hlt := mask_lt16 hr
      have e1 : bits .and .u64 ((mask (x :: r) : Nat) : Int) (IntKind.u64.wrap (((mask (x :: r) : Nat) : Int) - 1)) = ((mask r : Nat) : Int) := by
        have h1 : IntKind.u64.wrap (((mask (x :: r) : Nat) : Int) - 1) = ((mask (x :: r) - 1 : Nat) : Int) := by rw [IntKind.wrap_u64]; omega
        rw [h1, u64_and_nat _ _ (by omega) (by omega), mask_rest hr.1 hx.1]
      have hb : (((mask (x :: r) : Nat) : Int) != 0) = true := by simp; exact hpos
      have hcall := trailing_any hr wr (HD.out.next hbr)
      obtain ⟨m1, hm1⟩ : ∃ m : Int, m = (mask (x :: r) : Nat) := ⟨_, rfl⟩
      obtain ⟨m2, hm2⟩ : ∃ m : Int, m = (mask r : Nat) := ⟨_, rfl⟩
      rw [← hm1, ← hm2] at e1
      rw [← hm1] at hb hcall ⊢
      have hlen : pre.length + (r.length + 1) ≤ 6 := by have := congrArg List.length hps; simp at this; omega
      have hlen2 : pre.length + (r.length + 1) = xs.length := by have := congrArg List.length hps; simpa using this
      have Hc := Lib.hid hcall
      have Hm2 := Lib.hid hm2
      have Hown := Lib.hid hown
      have Hbr := Lib.hid hbr
      have HB := Lib.hid hbr.size
      have E1 := Lib.hid e1
      have Hps := Lib.hid hps
      clear hcall hm1 hm2 hown hbr hr hpos hlt e1 hps
      obtain ⟨ao, co, rfl, hco, hco2, _⟩ := Hown.out.read
      go_wp2_with fail
      refine Hc.out.mono ?_
      rintro e w2 ⟨rfl, rfl⟩
      go_wp2_with (at_builtin; refine wpList_append_own _ rfl _ _ 29 rfl w.heap.size 3 i0 (.int .i64 0) 1 8 Tryd.underlying29 hi hz0 hz1 hz2 rfl (by decide) _ _ _ rfl (World.ownsRow.alloc Hown.out _) ⟨wr.heap.size, 0, none⟩ 1 1 [.int .i64 x] rfl rfl ?e1 ?e2 ?e3 ?e4 ?e5 ?_)
      case e1 => exact cell_one_new _ _ _
      case e2 => intro u hu; simp at hu; subst hu; rfl
      case e3 => unfold maxLen; omega
      case e4 => omega
      case e5 => have := HB.out; simp; omega
      intro v' w3 hown' hgrow _
      have hput := Hown.out.snoc HB.out hown' hgrow
      obtain ⟨ao', co', rfl, _, _, _⟩ := hput.1.read
      have Hput := Lib.hid hput
      clear hput hown' hgrow
      go_wp2
      go_roundw
      case rel => exact ⟨pre ++ [x], r, by rw [List.append_assoc]; exact Hps.out, by rw [E1.out, Hm2.out], Hput.out.1, Hbr.out.trans Hput.out.2⟩
      case measure => simp [slLen]; omega
end Go.Proofs.YtifnhlnbofkloaaDoor
