/- Parts of proofs: contracts and plain facts. Conditions: as each says. -/
import Derived.Test.YtnhkclnloiiihaaDoorK14
import Derived.Laws.BitsAllLaws
import Derived.Laws.Bits128
import Derived.Deep.RegionWith
namespace Go.Proofs.YtnhkclnloiiihaaDoor
open Go.RowKit

theorem ones64_run (x x1 x2 x3 x4 x5 x6 x7 : Int) (w : World)
    (h1 : IntKind.u64.wrap (bits .and .u64 (x / 2) 6148914691236517205 + bits .and .u64 x 6148914691236517205) = x1)
    (h2 : IntKind.u64.wrap (bits .and .u64 (x1 / 4) 3689348814741910323 + bits .and .u64 x1 3689348814741910323) = x2)
    (h3 : bits .and .u64 (IntKind.u64.wrap (x2 / 16 + x2)) 1085102592571150095 = x3)
    (h4 : IntKind.u64.wrap (x3 + x3 / 256) = x4)
    (h5 : IntKind.u64.wrap (x4 + x4 / 65536) = x5)
    (h6 : IntKind.u64.wrap (x5 + x5 / 4294967296) = x6)
    (h7 : bits .and .i64 (wrap64 x6) 127 = x7) :
    Calls Tryd.prog 163 #[.int .u64 x] w fun e w' => e = .returned (.int .i64 x7) ∧ w = w' := by
  go_enter Tryd.func163, Tryd.ntmps163
  go_wp2
  go_ret
  exact ⟨rfl, rfl⟩

theorem ones64_any {xs : List Int} (h : Rise xs) (hl : xs.length ≤ 6) (w : World) :
    Calls Tryd.prog 163 #[.int .u64 (mask xs : Nat)] w fun e w' => e = .returned (.int .i64 xs.length) ∧ w = w' := by
  have hx := mask_lt16 h
  have hp := pc_mask h hl
  generalize mask xs = x at hx hp ⊢
  have andle : ∀ a b : Nat, Nat.land a b ≤ a := fun a b => @Nat.and_le_left a b
  have wr : ∀ a : Nat, a < 1000000 → IntKind.u64.wrap (a : Int) = (a : Int) := fun a ha => by rw [IntKind.wrap_u64]; omega
  have an1 : ∀ a : Nat, a < 1000000 → bits .and .u64 (a : Int) 6148914691236517205 = ((Nat.land a 6148914691236517205 : Nat) : Int) := fun a ha => u64_and_nat a 6148914691236517205 (by omega) (by omega)
  have an2 : ∀ a : Nat, a < 1000000 → bits .and .u64 (a : Int) 3689348814741910323 = ((Nat.land a 3689348814741910323 : Nat) : Int) := fun a ha => u64_and_nat a 3689348814741910323 (by omega) (by omega)
  have an3 : ∀ a : Nat, a < 1000000 → bits .and .u64 (a : Int) 1085102592571150095 = ((Nat.land a 1085102592571150095 : Nat) : Int) := fun a ha => u64_and_nat a 1085102592571150095 (by omega) (by omega)
  unfold pcF at hp
  simp only at hp
  have b0 : Nat.div x 2 ≤ 32767 := by show x / 2 ≤ _; omega
  have b1a := andle (Nat.div x 2) 6148914691236517205
  have b1b := andle x 6148914691236517205
  generalize e1 : Nat.add (Nat.land (Nat.div x 2) 6148914691236517205) (Nat.land x 6148914691236517205) = x1 at hp
  have b1 : x1 ≤ 98302 := by rw [← e1]; exact Nat.le_trans (Nat.add_le_add b1a b1b) (by omega)
  have b2a := andle (Nat.div x1 4) 3689348814741910323
  have b2b := andle x1 3689348814741910323
  have b2d : Nat.div x1 4 ≤ 24575 := by show x1 / 4 ≤ _; omega
  generalize e2 : Nat.add (Nat.land (Nat.div x1 4) 3689348814741910323) (Nat.land x1 3689348814741910323) = x2 at hp
  have b2 : x2 ≤ 122877 := by rw [← e2]; exact Nat.le_trans (Nat.add_le_add b2a b2b) (by omega)
  have b3a := andle (Nat.add (Nat.div x2 16) x2) 1085102592571150095
  have b3d : Nat.add (Nat.div x2 16) x2 ≤ 130556 := by show x2 / 16 + x2 ≤ _; omega
  generalize e3 : Nat.land (Nat.add (Nat.div x2 16) x2) 1085102592571150095 = x3 at hp
  have b3 : x3 ≤ 130556 := by rw [← e3]; omega
  generalize e4 : Nat.add x3 (Nat.div x3 256) = x4 at hp
  have b4 : x4 ≤ 131100 := by rw [← e4]; show x3 + x3 / 256 ≤ _; omega
  generalize e5 : Nat.add x4 (Nat.div x4 65536) = x5 at hp
  have b5 : x5 ≤ 131200 := by rw [← e5]; show x4 + x4 / 65536 ≤ _; omega
  generalize e6 : Nat.add x5 (Nat.div x5 4294967296) = x6 at hp
  have b6 : x6 ≤ 131300 := by rw [← e6]; show x5 + x5 / 4294967296 ≤ _; omega
  refine ones64_run x x1 x2 x3 x4 x5 x6 xs.length w ?_ ?_ ?_ ?_ ?_ ?_ ?_
  · rw [show ((x : Int) / 2) = ((Nat.div x 2 : Nat) : Int) by show _ = ((x / 2 : Nat) : Int); omega, an1 _ (by omega), an1 _ (by omega), ← e1]
    exact wr (_ + _) (by omega)
  · rw [show ((x1 : Int) / 4) = ((Nat.div x1 4 : Nat) : Int) by show _ = ((x1 / 4 : Nat) : Int); omega, an2 _ (by omega), an2 _ (by omega), ← e2]
    exact wr (_ + _) (by omega)
  · rw [show ((x2 : Int) / 16 + x2) = ((Nat.add (Nat.div x2 16) x2 : Nat) : Int) by show _ = ((x2 / 16 + x2 : Nat) : Int); omega, wr _ (by omega), an3 _ (by omega), ← e3]
  · rw [show ((x3 : Int) + x3 / 256) = ((Nat.add x3 (Nat.div x3 256) : Nat) : Int) by show _ = ((x3 + x3 / 256 : Nat) : Int); omega, e4, wr _ (by omega)]
  · rw [show ((x4 : Int) + x4 / 65536) = ((Nat.add x4 (Nat.div x4 65536) : Nat) : Int) by show _ = ((x4 + x4 / 65536 : Nat) : Int); omega, e5, wr _ (by omega)]
  · rw [show ((x5 : Int) + x5 / 4294967296) = ((Nat.add x5 (Nat.div x5 4294967296) : Nat) : Int) by show _ = ((x5 + x5 / 4294967296 : Nat) : Int); omega, e6, wr _ (by omega)]
  · rw [show wrap64 (x6 : Int) = (x6 : Int) by unfold wrap64; omega]
    rw [i64_and127, ← hp]
    have : Nat.land x6 127 = x6 % 128 := nat_mask7 x6
    omega

theorem onesCount_any {xs : List Int} (h : Rise xs) (hl : xs.length ≤ 6) (w : World) :
    Calls Tryd.prog 151 #[.int .u64 (mask xs : Nat)] w fun e w' => e = .returned (.int .i64 xs.length) ∧ w = w' := by
  have hh := ones64_any h hl w
  obtain ⟨x, hx⟩ : ∃ x : Int, x = (mask xs : Nat) := ⟨_, rfl⟩
  rw [← hx] at hh ⊢
  have H := Lib.hid hh
  clear hh hx
  go_enter Tryd.func151, Tryd.ntmps151
  go_wp2_with fail
  refine H.out.mono ?_
  rintro e w2 ⟨rfl, rfl⟩
  go_wp2
  go_ret
  exact ⟨rfl, rfl⟩

theorem size_any {xs : List Int} (h : Rise xs) (hl : xs.length ≤ 6) (w : World) :
    Calls Tryd.prog 127 #[.int .u64 (mask xs : Nat)] w fun e w' => e = .returned (.int .i64 xs.length) ∧ w = w' := by
  have hh := onesCount_any h hl w
  obtain ⟨x, hx⟩ : ∃ x : Int, x = (mask xs : Nat) := ⟨_, rfl⟩
  rw [← hx] at hh ⊢
  have H := Lib.hid hh
  clear hh hx
  go_enter Tryd.func127, Tryd.ntmps127
  go_wp2_with fail
  refine H.out.mono ?_
  rintro e w2 ⟨rfl, rfl⟩
  go_wp2
  go_ret
  exact ⟨rfl, rfl⟩

theorem tz64_run (x y z q i v : Int) (w : World) (hx : x ≠ 0) (h1 : IntKind.u64.wrap (-x) = y) (h2 : bits .and .u64 x y = z) (h3 : IntKind.u64.wrap (z * 285870213051353865) = q)
    (h4 : q / 288230376151711744 = i) (h5 : 0 ≤ i) (h6 : i < 64) (hc : w.cell? ⟨2, i.toNat, none⟩ = some (.int .u8 v)) (hv0 : 0 ≤ v) (hv1 : v ≤ 255) :
    Calls Tryd.prog 153 #[.int .u64 x] w fun e w' => e = .returned (.int .i64 v) ∧ w = w' := by
  have hb : (x == 0) = false := by simpa using hx
  clear hx
  go_enter Tryd.func153, Tryd.ntmps153
  go_wp2
  go_ret
  exact ⟨rfl, rfl⟩
/-- the table's cells at the places of single bits -/
def dbAt (i : Nat) : Nat := (2 ^ i * 285870213051353865) % 18446744073709551616 / 288230376151711744
def Dj (w : World) : Prop := ∀ i, i < 16 → w.cell? ⟨2, dbAt i, none⟩ = some (.int .u8 (i : Int))
theorem Dj.below {w w' : World} {B : Nat} (h : Dj w) (hb : Below B w w') (hB : w.heap.size ≤ B) : Dj w' := fun i hi => by
  have := h i hi
  rw [hb.cell (Nat.lt_of_lt_of_le (World.block_lt_of_cell? _ _ this) hB)]
  exact this
theorem Dj.next {w w' : World} (h : Dj w) (hb : Below w.heap.size w w') : Dj w' := h.below hb (Nat.le_refl _)
theorem dbAt_lt : ∀ i, i < 16 → dbAt i < 64 := by decide

theorem tz64_any {x : Int} {r : List Int} (h : Rise (x :: r)) (w : World) (hD : Dj w) :
    Calls Tryd.prog 153 #[.int .u64 (mask (x :: r) : Nat)] w fun e w' => e = .returned (.int .i64 x) ∧ w = w' := by
  have hx := h.2 x (by simp)
  have hm := mask_lt16 h
  have hlow := mask_low h.1 hx.1 (fun y hy => (h.2 y hy).2)
  obtain ⟨q, _, hq⟩ := mask_head h.1 hx.1
  have hpos : 0 < mask (x :: r) := by rw [hq]; have := Nat.two_pow_pos x.toNat; omega
  have hc := hD x.toNat (by omega)
  have hlt := dbAt_lt x.toNat (by omega)
  have hp15 : 2 ^ x.toNat ≤ 2 ^ 15 := Nat.pow_le_pow_right (by omega) (by omega)
  rw [Int.toNat_of_nonneg hx.1] at hc
  clear hq
  generalize mask (x :: r) = m at *
  refine tz64_run (m : Int) ((18446744073709551616 - m : Nat) : Int) ((2 ^ x.toNat : Nat) : Int) (((2 ^ x.toNat * 285870213051353865) % 18446744073709551616 : Nat) : Int) (dbAt x.toNat : Nat) x w (by omega) ?_ ?_ ?_ ?_ (by omega) (by omega) ?_ hx.1 (by omega)
  · rw [IntKind.wrap_u64]; omega
  · rw [u64_and_nat _ _ (by omega) (by omega), hlow]
  · rw [IntKind.wrap_u64]; omega
  · unfold dbAt; omega
  · rw [Int.toNat_natCast]; exact hc

theorem trailing_any {x : Int} {r : List Int} (h : Rise (x :: r)) (w : World) (hD : Dj w) :
    Calls Tryd.prog 128 #[.int .u64 (mask (x :: r) : Nat)] w fun e w' => e = .returned (.int .i64 x) ∧ w = w' := by
  have hh := tz64_any h w hD
  obtain ⟨m, hm⟩ : ∃ m : Int, m = (mask (x :: r) : Nat) := ⟨_, rfl⟩
  rw [← hm] at hh ⊢
  have H := Lib.hid hh
  clear hh hm hD
  go_enter Tryd.func128, Tryd.ntmps128
  go_wp2_with fail
  refine H.out.mono ?_
  rintro e w2 ⟨rfl, rfl⟩
  go_wp2
  go_ret
  exact ⟨rfl, rfl⟩

set_option maxRecDepth 100000 in
set_option maxHeartbeats 800000 in
theorem row_any {xs : List Int} (h : Rise xs) (hl : xs.length ≤ 6) (w : World) (hD : Dj w) :
    Calls Tryd.prog 75 #[.int .u64 (mask xs : Nat)] w fun e w' => ∃ v, e = .returned v ∧ OwnI w' w.heap.size v xs ∧ Below w.heap.size w w' := by
  obtain ⟨i0, hi, hz0, hz1, hz2⟩ := info_parts Tryd.info_int
  have hs := size_any h hl w
  obtain ⟨m, hm⟩ : ∃ m : Int, m = (mask xs : Nat) := ⟨_, rfl⟩
  rw [← hm] at hs ⊢
  have Hs := Lib.hid hs
  have Hm := Lib.hid hm
  have H := Lib.hid h
  have HD := Lib.hid hD
  clear hs hm h hD
  go_enter Tryd.func75, Tryd.ntmps75
  go_wp2_with fail
  refine Hs.out.mono ?_
  rintro e w2 ⟨rfl, rfl⟩
  go_wp2_with (at_make; refine wpList_make_own _ rfl _ _ 28 rfl w.heap.size 3 i0 (.int .i64 0) 1 Tryd.underlying28 hi hz0 hz1 _ _ _ xs.length rfl rfl rfl ?c1 ?c2 ?c3 ?_)
  case c1 => rw [hz2]; omega
  case c2 => unfold maxLen; omega
  case c3 => simp
  intro w1 hown hg
  have hb1 : Below w.heap.size w w1 := (Below.refl _ _).grown hg (Nat.le_refl _) (fun _ h => by cases h)
  have hown1 : OwnI w1 w.heap.size (.slice (some ⟨w.heap.size, 0, none⟩) 0 xs.length) [] := hown
  clear hown hg
  go_wp2
  go_loopw [3, 4] (fun out rest wr => ∃ (pre suf : List Int), pre ++ suf = xs ∧ rest = .int .u64 (mask suf : Nat) ∧ OwnI wr w.heap.size out pre ∧ Below w.heap.size w wr) (fun out _ _ => xs.length - slLen out)
  case atStart => exact ⟨[], xs, rfl, by rw [Hm.out], hown1, hb1⟩
  case round =>
    obtain ⟨pre, suf, hps, rfl, hown, hbr⟩ := hrel
    clear hown1 hb1
    cases suf with
    | nil =>
      go_wp2
      go_ret
      rw [List.append_nil] at hps
      subst hps
      exact ⟨_, rfl, hown, hbr⟩
    | cons x r =>
      have hr : Rise (x :: r) := by
        have := H.out
        rw [← hps] at this
        exact ⟨(up_append this.1).2.1, fun y hy => this.2 y (by simp [hy])⟩
      have hx := hr.2 x (by simp)
      have hpos : mask (x :: r) ≠ 0 := by
        obtain ⟨q, _, hq⟩ := mask_head hr.1 hx.1
        rw [hq]
        have := Nat.two_pow_pos x.toNat
        omega
      have hlt := mask_lt16 hr
      have e1 : bits .and .u64 ((mask (x :: r) : Nat) : Int) (IntKind.u64.wrap (((mask (x :: r) : Nat) : Int) - 1)) = ((mask r : Nat) : Int) := by
        have h1 : IntKind.u64.wrap (((mask (x :: r) : Nat) : Int) - 1) = ((mask (x :: r) - 1 : Nat) : Int) := by rw [IntKind.wrap_u64]; omega
        rw [h1, u64_and_nat _ _ (by omega) (by omega), mask_rest hr.1 hx.1]
      have hb : (((mask (x :: r) : Nat) : Int) != 0) = true := by simp; exact hpos
      have hcall := trailing_any hr wr (HD.out.next hbr)
      obtain ⟨m1, hm1⟩ : ∃ m : Int, m = (mask (x :: r) : Nat) := ⟨_, rfl⟩
      obtain ⟨m2, hm2⟩ : ∃ m : Int, m = (mask r : Nat) := ⟨_, rfl⟩
      rw [← hm1, ← hm2] at e1
      rw [← hm1] at hb hcall ⊢
      have hlen : pre.length + (r.length + 1) ≤ 6 := by have := congrArg List.length hps; simp at this; omega
      have hlen2 : pre.length + (r.length + 1) = xs.length := by have := congrArg List.length hps; simpa using this
      have Hc := Lib.hid hcall
      have Hm2 := Lib.hid hm2
      have Hown := Lib.hid hown
      have Hbr := Lib.hid hbr
      have HB := Lib.hid hbr.size
      have E1 := Lib.hid e1
      have Hps := Lib.hid hps
      clear hcall hm1 hm2 hown hbr hr hpos hlt e1 hps
      obtain ⟨ao, co, rfl, hco, hco2, _⟩ := Hown.out.read
      go_wp2_with fail
      refine Hc.out.mono ?_
      rintro e w2 ⟨rfl, rfl⟩
      go_wp2_with (at_builtin; refine wpList_append_own _ rfl _ _ 28 rfl w.heap.size 3 i0 (.int .i64 0) 1 8 Tryd.underlying28 hi hz0 hz1 hz2 rfl (by decide) _ _ _ rfl (World.ownsRow.alloc Hown.out _) ⟨wr.heap.size, 0, none⟩ 1 1 [.int .i64 x] rfl rfl ?e1 ?e2 ?e3 ?e4 ?e5 ?_)
      case e1 => exact cell_one_new _ _ _
      case e2 => intro u hu; simp at hu; subst hu; rfl
      case e3 => unfold maxLen; omega
      case e4 => omega
      case e5 => have := HB.out; simp; omega
      intro v' w3 hown' hgrow _
      have hput := Hown.out.snoc HB.out hown' hgrow
      obtain ⟨ao', co', rfl, _, _, _⟩ := hput.1.read
      have Hput := Lib.hid hput
      clear hput hown' hgrow
      go_wp2
      go_roundw
      case rel => exact ⟨pre ++ [x], r, by rw [List.append_assoc]; exact Hps.out, by rw [E1.out, Hm2.out], Hput.out.1, Hbr.out.trans Hput.out.2⟩
      case measure => simp [slLen]; omega
end Go.Proofs.YtnhkclnloiiihaaDoor

namespace Go.Proofs.YtnhkclnloiiihaaDoor
open Go.RowKit

def sv (b : List Int) : Value := .int .u64 (mask b : Nat)
/-- the cells at an address read as these sets -/
def SetsAt (w : World) (ao : Option Addr) (bs : List (List Int)) : Prop := ∀ i, i < bs.length → ∃ b o, ao = some ⟨b, o, none⟩ ∧ w.cell? ⟨b, o + i, none⟩ = some (sv (gr bs i))
theorem SetsAt.below {w w' : World} {ao : Option Addr} {bs : List (List Int)} (h : SetsAt w ao bs) (hb : Below w.heap.size w w') : SetsAt w' ao bs := by
  intro i hi
  obtain ⟨b, o, e, hc⟩ := h i hi
  exact ⟨b, o, e, cell_below hc hb⟩
/-- a slice of sets that the call owns -/
def OwnB (w : World) (B : Nat) (v : Value) (bs : List (List Int)) : Prop := w.ownsRow B 62 1 v bs.length (bs.map sv)
theorem OwnB.below {w w' : World} {B : Nat} {v : Value} {bs : List (List Int)} (h : OwnB w B v bs) (hb : Below w.heap.size w w') : OwnB w' B v bs := ownsRow_below h hb
theorem OwnB.base {w : World} {B B' : Nat} {v : Value} {bs : List (List Int)} (h : OwnB w B v bs) (hB : B' ≤ B) : OwnB w B' v bs := ownsRow_base h hB
theorem OwnB.nil (w : World) (B : Nat) : OwnB w B (.slice none 0 0) [] := World.ownsRow_nil _ _ _ _
theorem OwnB.read {w : World} {B : Nat} {v : Value} {bs : List (List Int)} (h : OwnB w B v bs) : ∃ ao c, v = .slice ao bs.length c ∧ bs.length ≤ c ∧ c ≤ 9223372036854775807 ∧ SetsAt w ao bs := by
  obtain ⟨ao, c, hv, h1, h2, hc⟩ := ownsRow_read h
  refine ⟨ao, c, hv, h1, h2, fun i hi => ?_⟩
  obtain ⟨b, o, e, hcell⟩ := hc i hi
  refine ⟨b, o, e, ?_⟩
  rw [hcell, gr_lt hi]
  simp [List.getD, hi]
theorem OwnB.snoc {w w1 : World} {B : Nat} {v v' : Value} {bs : List (List Int)} {x : List Int} {o : Obj} (h : OwnB w B v bs) (hB : B ≤ w.heap.size)
    (h1 : w1.ownsRow B 62 1 v' (bs.length + 1) (bs.map sv ++ [sv x])) (hg : (w.alloc o).grownBy w1 v.ownBlock) : OwnB w1 B v' (bs ++ [x]) ∧ Below B w w1 := by
  refine ⟨by unfold OwnB; rw [List.length_append, List.map_append]; exact h1, ?_⟩
  exact Below.grown ((Below.refl B w).alloc hB o) hg (by simp; omega) (fun k hk => (World.ownsRow.lt h k hk).1)
theorem OwnB.one (w : World) : OwnB (w.alloc (.cells #[sv []] 62)) w.heap.size (.slice (some ⟨w.heap.size, 0, none⟩) 1 1) [[]] := ownsRow_built w [sv []] (Nat.le_refl _) (by simp)

theorem Tryd.info_rowset : (Tryd.prog.info? 62).map (fun i => (i.zero, i.size, i.bytes)) = some (some (.int .u64 0), 1, 8) := by kernel_rfl

theorem i64_small {n : Int} (h1 : -1000000 ≤ n) (h2 : n ≤ 1000000) : IntKind.i64.wrap n = n := by
  simp [IntKind.wrap, IntKind.bits, IntKind.signed]
  omega

/-- of those that are behind b, the ones of the numbers lo .. v - 1 -/
def lengPart (b : List Int) (lo v : Int) : List (List Int) := ((rng lo (v - 1)).filter fun x => decide (lst b < x)).map fun x => b ++ [x]
theorem lengPart_start (b : List Int) (lo : Int) : lengPart b lo lo = [] := by unfold lengPart; rw [rng_nil (by omega)]; rfl
theorem lengPart_step {b : List Int} {lo v : Int} (h : lo ≤ v) : lengPart b lo (v + 1) = lengPart b lo v ++ (if lst b < v then [b ++ [v]] else []) := by
  unfold lengPart
  rw [show v + 1 - 1 = v from by omega, rng_snoc h, List.filter_append, List.map_append]
  by_cases hl : lst b < v <;> simp [hl]
theorem leng_take {bs : List (List Int)} {k : Nat} (h : k < bs.length) (lo hi : Int) : leng (bs.take (k + 1)) lo hi = leng (bs.take k) lo hi ++ lengPart (gr bs k) lo (hi + 1) := by
  unfold leng lengPart
  rw [List.take_succ_eq_append_getElem h, List.flatMap_append, gr_lt h, show hi + 1 - 1 = hi from by omega]
  simp

theorem or_step {b : List Int} {v : Int} (hb : Rise b) (h0 : 0 ≤ v) (h1 : v ≤ 15) : bits .or .u64 ((mask b : Nat) : Int) ((2 ^ v.toNat : Nat) : Int) = ((mask (b ++ [v]) : Nat) : Int) := by
  have := mask_lt16 hb
  have h2 : 2 ^ v.toNat ≤ 2 ^ 15 := Nat.pow_le_pow_right (by omega) (by omega)
  rw [u64_or_nat _ _ (by omega) (by omega), mask_snoc]

set_option maxRecDepth 100000 in
set_option maxHeartbeats 1600000 in
theorem lengthened_any (ao : Option Addr) (c : Nat) (bs : List (List Int)) (lo hi : Int) (w : World) (hn : bs.length ≤ 1048576) (hbs : ∀ b ∈ bs, Rise b) (hlo : 0 ≤ lo) (hlo2 : lo ≤ 15) (hhi : hi ≤ 15) (hx : SetsAt w ao bs) :
    Calls Tryd.prog 126 #[.slice ao bs.length c, .int .i64 lo, .int .i64 hi] w fun e w' => ∃ v, e = .returned v ∧ OwnB w' w.heap.size v (leng bs lo hi) ∧ Below w.heap.size w w' := by
  obtain ⟨i0, hi0, hz0, hz1, hz2⟩ := info_parts Tryd.info_rowset
  have hmx : bs.length ≤ 9223372036854775807 := by omega
  have Hx := Lib.hid hx
  have Hbs := Lib.hid hbs
  clear hx hbs
  go_enter Tryd.func126, Tryd.ntmps126
  go_wp2
  go_loopw [7, 13] (fun out i wr => ∃ k : Nat, k ≤ bs.length ∧ i = .int .i64 k ∧ OwnB wr w.heap.size out (leng (bs.take k) lo hi) ∧ Below w.heap.size w wr) (fun _ i _ => bs.length - (intOf i).toNat)
  case atStart => exact ⟨0, Nat.zero_le _, rfl, OwnB.nil _ _, Below.refl _ _⟩
  case round =>
    obtain ⟨k, hk, rfl, hown, hbr⟩ := hrel
    by_cases hlt : k < bs.length
    · obtain ⟨b0, o0, rfl, hc0⟩ := Hx.out k hlt
      have hc := cell_below hc0 hbr
      have hrise := Hbs.out _ (gr_mem hlt)
      have Hown := Lib.hid hown
      have Hbr := Lib.hid hbr
      have Hlt := Lib.hid (leng_take hlt lo hi)
      have hlen : (leng (bs.take k) lo hi).length ≤ k * 16 := by
        unfold leng
        refine flatMap_le (n := k) (k := 16) (by rw [List.length_take]; omega) (fun b _ => ?_)
        rw [List.length_map]
        exact rng_filter_le hlo hhi _
      obtain ⟨b, hb⟩ : ∃ b, b = gr bs k := ⟨_, rfl⟩
      obtain ⟨L0, hL0⟩ : ∃ L0, L0 = leng (bs.take k) lo hi := ⟨_, rfl⟩
      rw [← hb] at hc hrise
      rw [← hL0] at hlen
      have Hb := Lib.hid hb
      have HL0 := Lib.hid hL0
      have Hrise := Lib.hid hrise
      obtain ⟨m, hm⟩ : ∃ m : Int, m = (mask b : Nat) := ⟨_, rfl⟩
      have hc' : wr.cell? ⟨b0, o0 + k, none⟩ = some (.int .u64 m) := by rw [hm]; exact hc
      have Hm := Lib.hid hm
      obtain ⟨wo, hwo⟩ : ∃ wo : World, wo = wr := ⟨_, rfl⟩
      subst hwo
      clear hc0 hown hbr hc hrise hb hL0 hm
      go_wp2
      go_loopw [7, 10] (fun out i wr => ∃ v : Int, lo ≤ v ∧ (lo ≤ hi → v ≤ hi + 1) ∧ (hi < lo → v = lo) ∧ i = .int .i64 v ∧ OwnB wr w.heap.size out (L0 ++ lengPart b lo v) ∧ Below w.heap.size w wr) (fun _ i _ => (hi + 1 - intOf i).toNat)
      case atStart => exact ⟨lo, Int.le_refl _, fun h => by omega, fun _ => rfl, rfl, by rw [lengPart_start, List.append_nil, HL0.out]; exact Hown.out, Hbr.out⟩
      case round =>
        obtain ⟨v, hv1, hv2, hv3, rfl, hown, hbi⟩ := hrel
        clear Hown Hbr hc'
        by_cases hvh : v ≤ hi
        · have hv0 : 0 ≤ v := by omega
          have hv15 : v ≤ 15 := by omega
          have e1 := shl_one hv0 hv15
          have htest := mask_test Hrise.out.1 (fun x hx => (Hrise.out.2 x hx).1) hv0
          have hor := or_step Hrise.out hv0 hv15
          have hlen2 : (lengPart b lo v).length ≤ 16 := by
            unfold lengPart
            rw [List.length_map]
            exact rng_filter_le hlo (by omega) _
          rw [← Hm.out] at hor
          have Hstep := Lib.hid (lengPart_step (b := b) hv1)
          obtain ⟨p, hp⟩ : ∃ p : Int, p = ((2 ^ v.toNat : Nat) : Int) := ⟨_, rfl⟩
          rw [← hp] at e1 hor
          have hmp : m < p ↔ lst b < v := by rw [Hm.out, hp, ← htest]; omega
          obtain ⟨m', hm'⟩ : ∃ m' : Int, m' = (mask (b ++ [v]) : Nat) := ⟨_, rfl⟩
          rw [← hm'] at hor
          have Hm' := Lib.hid hm'
          have Hown := Lib.hid hown
          have Hbi := Lib.hid hbi
          have HB := Lib.hid hbi.size
          clear htest hp hm' hown hbi
          by_cases hcmp : lst b < v
          · have hlt2 := hmp.2 hcmp
            have Hcmp := Lib.hid hcmp
            clear hmp hcmp
            obtain ⟨Lc, hLc⟩ : ∃ Lc, Lc = L0 ++ lengPart b lo v := ⟨_, rfl⟩
            have hlen3 : Lc.length ≤ 33554432 := by rw [hLc, List.length_append]; omega
            have Hown' := Lib.hid (show OwnB wr w.heap.size _ Lc by rw [hLc]; exact Hown.out)
            have HLc := Lib.hid hLc
            clear Hown hLc hlen hlen2
            obtain ⟨ao2, co2, hout, hco2, hco3, _⟩ := Hown'.out.read
            subst hout
            go_wp2_with (at_builtin; refine wpList_append_own _ rfl _ _ 65 rfl w.heap.size 62 i0 (.int .u64 0) 1 8 Tryd.underlying65 hi0 hz0 hz1 hz2 rfl (by decide) _ _ _ rfl (World.ownsRow.alloc Hown'.out _) ⟨wr.heap.size, 0, none⟩ 1 1 [.int .u64 m'] rfl rfl (cell_one_new _ _ _) ?q2 ?q3 ?q4 ?q5 ?_)
            case q2 => intro u hu; simp at hu; subst hu; rfl
            case q3 => unfold maxLen; omega
            case q4 => omega
            case q5 => have := HB.out; simp; omega
            intro v' w3 hown' hgrow _
            have hput := Hown'.out.snoc (x := b ++ [v]) HB.out (by unfold sv; rw [← Hm'.out]; exact hown') hgrow
            obtain ⟨ao', co', rfl, _, _, _⟩ := hput.1.read
            have Hput := Lib.hid hput
            clear hput hown' hgrow
            go_wp2
            go_roundw
            case rel => exact ⟨v + 1, by omega, fun _ => by omega, fun h => by omega, by go_num, by rw [Hstep.out, if_pos Hcmp.out, ← List.append_assoc, ← HLc.out]; exact Hput.out.1, Hbi.out.trans Hput.out.2⟩
            case measure => simp [intOf]; omega
          · have hlt2 : ¬ m < p := fun h => hcmp (hmp.1 h)
            have Hcmp := Lib.hid hcmp
            clear hmp hcmp
            go_wp2
            go_roundw
            case rel => exact ⟨v + 1, by omega, fun _ => by omega, fun h => by omega, by go_num, by rw [Hstep.out, if_neg Hcmp.out, List.append_nil]; exact Hown.out, Hbi.out⟩
            case measure => simp [intOf]; omega
        · have Hown := Lib.hid hown
          have Hbi := Lib.hid hbi
          clear hown hbi
          go_wp2
          go_roundw
          case rel =>
            refine ⟨k + 1, by omega, by go_num, ?_, Hbi.out⟩
            rw [Hlt.out, ← HL0.out, ← Hb.out]
            have e : lengPart b lo (hi + 1) = lengPart b lo v := by
              by_cases h : lo ≤ hi
              · rw [show v = hi + 1 from by have := hv2 h; omega]
              · rw [hv3 (by omega), lengPart_start]
                unfold lengPart
                rw [rng_nil (by omega)]; rfl
            rw [e]
            exact Hown.out
          case measure => simp [intOf]; omega
    · obtain rfl : k = bs.length := by omega
      rw [List.take_length] at hown
      go_wp2
      go_ret
      exact ⟨_, rfl, hown, hbr⟩

theorem leng_rise {bs : List (List Int)} {lo hi : Int} (h : ∀ b ∈ bs, Rise b) (hlo : 0 ≤ lo) (hhi : hi ≤ 15) : ∀ b ∈ leng bs lo hi, Rise b := by
  intro b' hb'
  simp only [leng, List.mem_flatMap, List.mem_map, List.mem_filter, decide_eq_true_eq, mem_rng] at hb'
  obtain ⟨b, hb, v, ⟨⟨h1, h2⟩, h3⟩, rfl⟩ := hb'
  have hr := h b hb
  refine ⟨up_join hr.1 trivial (fun x hx y hy => ?_), fun x hx => ?_⟩
  · simp at hy; subst hy
    have := le_lst hr.1 x hx
    omega
  · rcases List.mem_append.1 hx with hx | hx
    · exact hr.2 x hx
    · simp at hx; subst hx; omega
theorem leng_len {bs : List (List Int)} {lo hi : Int} (hlo : 0 ≤ lo) (hhi : hi ≤ 15) : (leng bs lo hi).length ≤ bs.length * 16 := by
  unfold leng
  refine flatMap_le (Nat.le_refl _) (fun b _ => ?_)
  rw [List.length_map]
  exact rng_filter_le hlo hhi _
theorem bfs_step {xs : List Int} {k : Nat} (h0 : 0 < k) (h : k < xs.length) (bs : List (List Int)) : bfs (xs.drop (k - 1)) bs = bfs (xs.drop k) (leng bs (gi xs (k - 1)) (gi xs k)) := by
  rw [List.drop_eq_getElem_cons (by omega : k - 1 < xs.length), show k - 1 + 1 = k from by omega, List.drop_eq_getElem_cons h, bfs, gi_lt h, gi_lt (by omega)]
theorem bfs_last {xs : List Int} (h : 1 ≤ xs.length) (bs : List (List Int)) : bfs (xs.drop (xs.length - 1)) bs = bs := by
  rw [List.drop_eq_getElem_cons (by omega), show xs.length - 1 + 1 = xs.length from by omega, List.drop_length]
  rfl

set_option maxRecDepth 100000 in
set_option maxHeartbeats 1600000 in
theorem setsAbove_any {xs : List Int} (h : Rise xs) (hl : xs.length ≤ 6) (w : World) (hD : Dj w) :
    Calls Tryd.prog 74 #[.int .u64 (mask xs : Nat)] w fun e w' => ∃ v, e = .returned v ∧ OwnB w' w.heap.size v (above xs) ∧ Below w.heap.size w w' := by
  have hrow := row_any h hl w hD
  obtain ⟨m, hm⟩ : ∃ m : Int, m = (mask xs : Nat) := ⟨_, rfl⟩
  rw [← hm] at hrow ⊢
  have Hrow := Lib.hid hrow
  have H := Lib.hid h
  clear hm hD hrow h
  go_enter Tryd.func74, Tryd.ntmps74
  go_wp2_with fail
  refine Hrow.out.mono ?_
  rintro e w1 ⟨v, rfl, hv, hb⟩
  obtain ⟨r, cr, rfl, hcr, hcr2, hx⟩ := hv.read
  have Hx := Lib.hid hx
  have Hb := Lib.hid hb
  have HB := Lib.hid hb.size
  clear hx hb hv
  by_cases h2 : 2 ≤ xs.length
  · have hn2 : ¬ (xs.length : Int) < 2 := by omega
    have one := OwnB.one w1
    have onb : Below w1.heap.size w1 (w1.alloc (.cells #[sv []] 62)) := (Below.refl _ _).alloc (Nat.le_refl _) _
    have One := Lib.hid one
    have Onb := Lib.hid onb
    clear one onb
    go_wp2
    go_loopw [4, 5] (fun sets i wr => ∃ (k : Nat) (bs : List (List Int)), k + 1 ≤ xs.length ∧ i = .int .i64 ((k : Int) + 1) ∧ OwnB wr w1.heap.size sets bs ∧ bfs (xs.drop k) bs = above xs ∧ (∀ b ∈ bs, Rise b) ∧ bs.length ≤ 16 ^ k ∧ Below w1.heap.size w1 wr) (fun _ i _ => xs.length - (intOf i).toNat)
    case atStart => exact ⟨0, [[]], by omega, rfl, One.out, bfs_above h2, fun b hb => by simp at hb; subst hb; exact ⟨trivial, fun x hx => by cases hx⟩, by simp, Onb.out⟩
    case round =>
      obtain ⟨k, bs, hk, rfl, hown, hbfs, hrise, hlen, hbr⟩ := hrel
      clear One Onb
      have Hbr := Lib.hid hbr
      have HBr := Lib.hid hbr.size
      by_cases hlt : k + 1 < xs.length
      · have hx' := Hx.out.below hbr
        obtain ⟨b0, o0, e0, hc0⟩ := hx' (k + 1) hlt
        obtain ⟨b0', o0', e0', hc1⟩ := hx' k (by omega)
        rw [e0] at e0'
        cases e0'
        have g1 := H.out.2 _ (gi_mem hlt)
        have g0 := H.out.2 _ (gi_mem (show k < xs.length by omega))
        have hpow : 16 ^ k ≤ 16 ^ 4 := Nat.pow_le_pow_right (by omega) (by omega)
        have hpow2 : 16 ^ (k + 1) = 16 ^ k * 16 := Nat.pow_succ _ _
        have hll := leng_len (bs := bs) g0.1 g1.2
        have Hlen2 := Lib.hid (show (leng bs (gi xs k) (gi xs (k + 1))).length ≤ 16 ^ (k + 1) by rw [hpow2]; exact Nat.le_trans hll (Nat.mul_le_mul_right _ hlen))
        have Hrise2 := Lib.hid (leng_rise hrise g0.1 g1.2)
        have Hbfs := Lib.hid (show bfs (xs.drop (k + 1)) (leng bs (gi xs k) (gi xs (k + 1))) = above xs by have := bfs_step (k := k + 1) (by omega) hlt bs; rw [show k + 1 - 1 = k from rfl] at this; rw [← this]; exact hbfs)
        obtain ⟨sa, sc, rfl, _, _, hsr⟩ := hown.read
        have hcall : ∀ w', Below wr.heap.size wr w' → Calls Tryd.prog 126 #[.slice sa bs.length sc, .int .i64 (gi xs k), .int .i64 (gi xs (k + 1))] w' fun e w'' => ∃ v, e = .returned v ∧ OwnB w'' w'.heap.size v (leng bs (gi xs k) (gi xs (k + 1))) ∧ Below w'.heap.size w' w'' :=
          fun w' hw' => lengthened_any sa sc bs _ _ w' (by omega) hrise g0.1 g0.2 g1.2 (hsr.below hw')
        obtain ⟨y, hy⟩ : ∃ y, y = gi xs k := ⟨_, rfl⟩
        obtain ⟨z, hz⟩ : ∃ z, z = gi xs (k + 1) := ⟨_, rfl⟩
        rw [← hy] at hc1
        rw [← hz] at hc0
        rw [← hy, ← hz] at hcall
        have Hy := Lib.hid hy
        have Hz := Lib.hid hz
        have Hcall := Lib.hid hcall
        have hk2 : (k : Int) < (xs.length : Int) := by omega
        have hk3 : (k : Int) + 1 < (xs.length : Int) := by omega
        have hk4 : k < xs.length := by omega
        have hwk : IntKind.i64.wrap (k : Int) = (k : Int) := i64_small (by omega) (by omega)
        subst e0
        clear hx' g1 g0 hpow hpow2 hll hown hbfs hrise hlen hsr hcall hy hz hbr
        go_wp2
        go_region_with (go_at_call 126; refine (Hcall.out _ ?_).mono ?_; exact below_drewN (Below.refl _ _) 1; rintro e w2 ⟨v, rfl, hv, hb2⟩)
        all_goals
          obtain ⟨va, vc, hvv, _, _, _⟩ := hv.read
          rw [Hy.out, Hz.out] at hv
          have Hv := Lib.hid hv
          obtain ⟨nv, hnv⟩ : ∃ nv, nv = (leng bs y z).length := ⟨_, rfl⟩
          rw [← hnv] at hvv
          subst hvv
          have Hb2 := Lib.hid hb2
          clear hv hb2 hnv
          go_wp2
          go_roundw
          case rel =>
            have hb3 : Below wr.heap.size wr w2 := (below_drewN (Below.refl _ _) 1).trans Hb2.out
            exact ⟨k + 1, _, by omega, by go_num, Hv.out.base HBr.out, Hbfs.out, Hrise2.out, Hlen2.out, Hbr.out.trans (hb3.mono HBr.out)⟩
          case measure => simp [intOf]; omega
      · obtain rfl : k = xs.length - 1 := by omega
        rw [bfs_last (by omega)] at hbfs
        subst hbfs
        go_wp2
        go_ret
        exact ⟨_, rfl, hown.base HB.out, Hb.out.trans (hbr.mono HB.out)⟩
  · have hn2 : (xs.length : Int) < 2 := by omega
    go_wp2
    go_ret
    rw [above_one (by omega)]
    exact ⟨_, rfl, OwnB.nil _ _, Hb.out⟩
end Go.Proofs.YtnhkclnloiiihaaDoor

