/- Parts of proofs: contracts and plain facts. Conditions: as each says. -/
import Derived.Test.YtmcgnbbobhfkpaaDoorK01
import Derived.Laws.AppendOwnNone
import Derived.Laws.BitsAllLaws
import Derived.Laws.Bits128
import Derived.Deep.RegionWith
namespace Go.Proofs.YtmcgnbbobhfkpaaDoor
open Go.RowKit

theorem ints_cells {w : World} {ad : Addr} {xs : List Int} {o : Obj} (h : IntsAt w (some ad) xs) : ∀ j u, (xs.map (Value.int .i64))[j]? = some u → (w.alloc o).cell? (ad.add j) = some u := by
  intro j u hj
  have hjl : j < xs.length := by
    have := (List.getElem?_eq_some_iff.1 hj).1
    simpa using this
  obtain ⟨b, o', e, hc⟩ := h j hjl
  cases e
  have e : (xs.map (Value.int .i64))[j]? = some (Value.int .i64 (gi xs j)) := by simp [gi, List.getD, hjl]
  rw [e] at hj
  cases hj
  rw [Addr.add_lit]
  exact Lib.cell?_alloc_some _ hc

set_option maxRecDepth 100000 in
set_option maxHeartbeats 400000 in
theorem l1Own_any (ao : Option Addr) (c : Nat) (xs : List Int) (w : World) (hn : xs.length ≤ 1048576) (hc0 : ao = none → c = 0) (hx : IntsAt w ao xs) :
    Calls Tryd.prog 36 #[.slice ao xs.length c] w fun e w' => ∃ v, e = .returned v ∧ OwnI w' w.heap.size v xs ∧ Below w.heap.size w w' := by
  obtain ⟨i0, hi, hz0, hz1, hz2⟩ := info_parts Tryd.info_int
  cases ao with
  | none =>
    obtain rfl : xs = [] := by
      cases xs with
      | nil => rfl
      | cons a r => obtain ⟨b, o, e, _⟩ := hx 0 (by simp); cases e
    obtain rfl := hc0 rfl
    clear hx
    go_enter Tryd.func36, Tryd.ntmps36
    go_wp2_with (at_builtin; refine wpList_append_own_none rfl _ _ 25 rfl w.heap.size 3 i0 1 Tryd.underlying25 hi _ _ _ rfl (World.ownsRow_made w #[] 0 (Nat.le_refl _) (Nat.zero_le _) rfl) rfl ?_)
    go_wp2
    go_ret
    exact ⟨_, rfl, World.ownsRow_made w #[] 0 (Nat.le_refl _) (Nat.zero_le _) rfl, (Below.refl _ _).alloc (Nat.le_refl _) _⟩
  | some ad =>
    have A := Lib.hid hx
    clear hx
    go_enter Tryd.func36, Tryd.ntmps36
    go_wp2_with (at_builtin; refine wpList_append_own _ rfl _ _ 25 rfl w.heap.size 3 i0 (.int .i64 0) 1 8 Tryd.underlying25 hi hz0 hz1 hz2 rfl (by decide) _ _ _ rfl (World.ownsRow_made w #[] 0 (Nat.le_refl _) (Nat.zero_le _) rfl) ad xs.length c (xs.map (Value.int .i64)) rfl ?qc1 ?qc2 ?qc3 ?qc4 ?qc5 ?qc6 ?_)
    case qc1 => simp
    case qc2 => exact ints_cells A.out
    case qc3 => intro u hu; obtain ⟨x, _, rfl⟩ := List.mem_map.1 hu; rfl
    case qc4 => unfold maxLen; omega
    case qc5 => omega
    case qc6 => simp
    intro v' w1 hown hgrow hnil
    go_wp2
    go_ret
    refine ⟨v', rfl, by simpa [OwnI] using hown, ?_⟩
    exact ((Below.refl _ w).alloc (Nat.le_refl _) _).grown hgrow (by simp) (by intro k hk; simp [Value.ownBlock] at hk; omega)

/-- a slice that is written out -/
theorem ownsRow_built {e : TypeId} {base : Nat} (w : World) (vs : List Value) (hb : base ≤ w.heap.size) (hm : vs.length ≤ 9223372036854775807) :
    (w.alloc (.cells vs.toArray e)).ownsRow base e 1 (.slice (some ⟨w.heap.size, 0, none⟩) vs.length vs.length) vs.length vs :=
  ⟨by simp, .inr ⟨w.heap.size, vs.length, vs.toArray, rfl, hb, heap_alloc_new w _, Nat.le_refl _, hm, by simp, by simp⟩⟩

def slLen : Value → Nat
  | .slice _ n _ => n
  | _ => 0

/-- rows ahead of which a new one has been put: what append leaves of a slice of one row behind which all others come -/
theorem OwnP.front {w w1 : World} {B n : Nat} {v v' u : Value} {m : List (List Int)} {xs : List Int} {vs : List Value} (h : OwnP w B v n m n vs) (hu : OwnI w B u xs)
    (hne : ∀ j, j < n → ∀ g, (vs.getD j undef).ownBlock = some g → u.ownBlock ≠ some g)
    (h1 : w1.ownsRow B 25 1 v' (1 + n) ([u] ++ vs)) (hb : Below w.heap.size w w1) : OwnP w1 B v' (n + 1) (xs :: m) (n + 1) (u :: vs) := by
  refine ⟨by rw [Nat.add_comm]; exact h1, fun i hi => ?_, fun i j hij hj g hg => ?_⟩
  · cases i with
    | zero => exact hu.below hb
    | succ i =>
      have := (h.rows i (by omega)).below hb
      simpa [gr_cons_succ] using this
  · obtain ⟨j, rfl⟩ : ∃ k, j = k + 1 := ⟨j - 1, by omega⟩
    cases i with
    | zero =>
      intro hg2
      exact hne j (by omega) g (by simpa using hg2) (by simpa using hg)
    | succ i =>
      have := h.apart i j (by omega) (by omega) g (by simpa using hg)
      simpa using this
end Go.Proofs.YtmcgnbbobhfkpaaDoor

namespace Go.Proofs.YtmcgnbbobhfkpaaDoor
open Go.RowKit

theorem ones64_run (x x1 x2 x3 x4 x5 x6 x7 : Int) (w : World)
    (h1 : IntKind.u64.wrap (bits .and .u64 (x / 2) 6148914691236517205 + bits .and .u64 x 6148914691236517205) = x1)
    (h2 : IntKind.u64.wrap (bits .and .u64 (x1 / 4) 3689348814741910323 + bits .and .u64 x1 3689348814741910323) = x2)
    (h3 : bits .and .u64 (IntKind.u64.wrap (x2 / 16 + x2)) 1085102592571150095 = x3)
    (h4 : IntKind.u64.wrap (x3 + x3 / 256) = x4)
    (h5 : IntKind.u64.wrap (x4 + x4 / 65536) = x5)
    (h6 : IntKind.u64.wrap (x5 + x5 / 4294967296) = x6)
    (h7 : bits .and .i64 (wrap64 x6) 127 = x7) :
    Calls Tryd.prog 46 #[.int .u64 x] w fun e w' => e = .returned (.int .i64 x7) ∧ w = w' := by
  go_enter Tryd.func46, Tryd.ntmps46
  go_wp2
  go_ret
  exact ⟨rfl, rfl⟩

theorem ones64_any {xs : List Int} (h : Rise xs) (hl : xs.length ≤ 6) (w : World) :
    Calls Tryd.prog 46 #[.int .u64 (mask xs : Nat)] w fun e w' => e = .returned (.int .i64 xs.length) ∧ w = w' := by
  have hx := mask_lt16 h
  have hp := pc_mask h hl
  generalize mask xs = x at hx hp ⊢
  have andle : ∀ a b : Nat, Nat.land a b ≤ a := fun a b => @Nat.and_le_left a b
  have wr : ∀ a : Nat, a < 1000000 → IntKind.u64.wrap (a : Int) = (a : Int) := fun a ha => by rw [IntKind.wrap_u64]; omega
  have an1 : ∀ a : Nat, a < 1000000 → bits .and .u64 (a : Int) 6148914691236517205 = ((Nat.land a 6148914691236517205 : Nat) : Int) := fun a ha => u64_and_nat a 6148914691236517205 (by omega) (by omega)
  have an2 : ∀ a : Nat, a < 1000000 → bits .and .u64 (a : Int) 3689348814741910323 = ((Nat.land a 3689348814741910323 : Nat) : Int) := fun a ha => u64_and_nat a 3689348814741910323 (by omega) (by omega)
  have an3 : ∀ a : Nat, a < 1000000 → bits .and .u64 (a : Int) 1085102592571150095 = ((Nat.land a 1085102592571150095 : Nat) : Int) := fun a ha => u64_and_nat a 1085102592571150095 (by omega) (by omega)
  unfold pcF at hp
  simp only at hp
  have b0 : Nat.div x 2 ≤ 32767 := by show x / 2 ≤ _; omega
  have b1a := andle (Nat.div x 2) 6148914691236517205
  have b1b := andle x 6148914691236517205
  generalize e1 : Nat.add (Nat.land (Nat.div x 2) 6148914691236517205) (Nat.land x 6148914691236517205) = x1 at hp
  have b1 : x1 ≤ 98302 := by rw [← e1]; exact Nat.le_trans (Nat.add_le_add b1a b1b) (by omega)
  have b2a := andle (Nat.div x1 4) 3689348814741910323
  have b2b := andle x1 3689348814741910323
  have b2d : Nat.div x1 4 ≤ 24575 := by show x1 / 4 ≤ _; omega
  generalize e2 : Nat.add (Nat.land (Nat.div x1 4) 3689348814741910323) (Nat.land x1 3689348814741910323) = x2 at hp
  have b2 : x2 ≤ 122877 := by rw [← e2]; exact Nat.le_trans (Nat.add_le_add b2a b2b) (by omega)
  have b3a := andle (Nat.add (Nat.div x2 16) x2) 1085102592571150095
  have b3d : Nat.add (Nat.div x2 16) x2 ≤ 130556 := by show x2 / 16 + x2 ≤ _; omega
  generalize e3 : Nat.land (Nat.add (Nat.div x2 16) x2) 1085102592571150095 = x3 at hp
  have b3 : x3 ≤ 130556 := by rw [← e3]; omega
  generalize e4 : Nat.add x3 (Nat.div x3 256) = x4 at hp
  have b4 : x4 ≤ 131100 := by rw [← e4]; show x3 + x3 / 256 ≤ _; omega
  generalize e5 : Nat.add x4 (Nat.div x4 65536) = x5 at hp
  have b5 : x5 ≤ 131200 := by rw [← e5]; show x4 + x4 / 65536 ≤ _; omega
  generalize e6 : Nat.add x5 (Nat.div x5 4294967296) = x6 at hp
  have b6 : x6 ≤ 131300 := by rw [← e6]; show x5 + x5 / 4294967296 ≤ _; omega
  refine ones64_run x x1 x2 x3 x4 x5 x6 xs.length w ?_ ?_ ?_ ?_ ?_ ?_ ?_
  · rw [show ((x : Int) / 2) = ((Nat.div x 2 : Nat) : Int) by show _ = ((x / 2 : Nat) : Int); omega, an1 _ (by omega), an1 _ (by omega), ← e1]
    exact wr (_ + _) (by omega)
  · rw [show ((x1 : Int) / 4) = ((Nat.div x1 4 : Nat) : Int) by show _ = ((x1 / 4 : Nat) : Int); omega, an2 _ (by omega), an2 _ (by omega), ← e2]
    exact wr (_ + _) (by omega)
  · rw [show ((x2 : Int) / 16 + x2) = ((Nat.add (Nat.div x2 16) x2 : Nat) : Int) by show _ = ((x2 / 16 + x2 : Nat) : Int); omega, wr _ (by omega), an3 _ (by omega), ← e3]
  · rw [show ((x3 : Int) + x3 / 256) = ((Nat.add x3 (Nat.div x3 256) : Nat) : Int) by show _ = ((x3 + x3 / 256 : Nat) : Int); omega, e4, wr _ (by omega)]
  · rw [show ((x4 : Int) + x4 / 65536) = ((Nat.add x4 (Nat.div x4 65536) : Nat) : Int) by show _ = ((x4 + x4 / 65536 : Nat) : Int); omega, e5, wr _ (by omega)]
  · rw [show ((x5 : Int) + x5 / 4294967296) = ((Nat.add x5 (Nat.div x5 4294967296) : Nat) : Int) by show _ = ((x5 + x5 / 4294967296 : Nat) : Int); omega, e6, wr _ (by omega)]
  · rw [show wrap64 (x6 : Int) = (x6 : Int) by unfold wrap64; omega]
    rw [i64_and127, ← hp]
    have : Nat.land x6 127 = x6 % 128 := nat_mask7 x6
    omega

theorem onesCount_any {xs : List Int} (h : Rise xs) (hl : xs.length ≤ 6) (w : World) :
    Calls Tryd.prog 40 #[.int .u64 (mask xs : Nat)] w fun e w' => e = .returned (.int .i64 xs.length) ∧ w = w' := by
  have hh := ones64_any h hl w
  obtain ⟨x, hx⟩ : ∃ x : Int, x = (mask xs : Nat) := ⟨_, rfl⟩
  rw [← hx] at hh ⊢
  have H := Lib.hid hh
  clear hh hx
  go_enter Tryd.func40, Tryd.ntmps40
  go_wp2_with fail
  refine H.out.mono ?_
  rintro e w2 ⟨rfl, rfl⟩
  go_wp2
  go_ret
  exact ⟨rfl, rfl⟩

theorem size_any {xs : List Int} (h : Rise xs) (hl : xs.length ≤ 6) (w : World) :
    Calls Tryd.prog 31 #[.int .u64 (mask xs : Nat)] w fun e w' => e = .returned (.int .i64 xs.length) ∧ w = w' := by
  have hh := onesCount_any h hl w
  obtain ⟨x, hx⟩ : ∃ x : Int, x = (mask xs : Nat) := ⟨_, rfl⟩
  rw [← hx] at hh ⊢
  have H := Lib.hid hh
  clear hh hx
  go_enter Tryd.func31, Tryd.ntmps31
  go_wp2_with fail
  refine H.out.mono ?_
  rintro e w2 ⟨rfl, rfl⟩
  go_wp2
  go_ret
  exact ⟨rfl, rfl⟩

theorem tz64_run (x y z q i v : Int) (w : World) (hx : x ≠ 0) (h1 : IntKind.u64.wrap (-x) = y) (h2 : bits .and .u64 x y = z) (h3 : IntKind.u64.wrap (z * 285870213051353865) = q)
    (h4 : q / 288230376151711744 = i) (h5 : 0 ≤ i) (h6 : i < 64) (hc : w.cell? ⟨1, i.toNat, none⟩ = some (.int .u8 v)) (hv0 : 0 ≤ v) (hv1 : v ≤ 255) :
    Calls Tryd.prog 48 #[.int .u64 x] w fun e w' => e = .returned (.int .i64 v) ∧ w = w' := by
  have hb : (x == 0) = false := by simpa using hx
  clear hx
  go_enter Tryd.func48, Tryd.ntmps48
  go_wp2
  go_ret
  exact ⟨rfl, rfl⟩
/-- the table's cells at the places of single bits -/
def dbAt (i : Nat) : Nat := (2 ^ i * 285870213051353865) % 18446744073709551616 / 288230376151711744
def Dj (w : World) : Prop := ∀ i, i < 16 → w.cell? ⟨1, dbAt i, none⟩ = some (.int .u8 (i : Int))
theorem Dj.below {w w' : World} {B : Nat} (h : Dj w) (hb : Below B w w') (hB : w.heap.size ≤ B) : Dj w' := fun i hi => by
  have := h i hi
  rw [hb.cell (Nat.lt_of_lt_of_le (World.block_lt_of_cell? _ _ this) hB)]
  exact this
theorem Dj.next {w w' : World} (h : Dj w) (hb : Below w.heap.size w w') : Dj w' := h.below hb (Nat.le_refl _)
theorem dbAt_lt : ∀ i, i < 16 → dbAt i < 64 := by decide

theorem tz64_any {x : Int} {r : List Int} (h : Rise (x :: r)) (w : World) (hD : Dj w) :
    Calls Tryd.prog 48 #[.int .u64 (mask (x :: r) : Nat)] w fun e w' => e = .returned (.int .i64 x) ∧ w = w' := by
  have hx := h.2 x (by simp)
  have hm := mask_lt16 h
  have hlow := mask_low h.1 hx.1 (fun y hy => (h.2 y hy).2)
  obtain ⟨q, _, hq⟩ := mask_head h.1 hx.1
  have hpos : 0 < mask (x :: r) := by rw [hq]; have := Nat.two_pow_pos x.toNat; omega
  have hc := hD x.toNat (by omega)
  have hlt := dbAt_lt x.toNat (by omega)
  have hp15 : 2 ^ x.toNat ≤ 2 ^ 15 := Nat.pow_le_pow_right (by omega) (by omega)
  rw [Int.toNat_of_nonneg hx.1] at hc
  clear hq
  generalize mask (x :: r) = m at *
  refine tz64_run (m : Int) ((18446744073709551616 - m : Nat) : Int) ((2 ^ x.toNat : Nat) : Int) (((2 ^ x.toNat * 285870213051353865) % 18446744073709551616 : Nat) : Int) (dbAt x.toNat : Nat) x w (by omega) ?_ ?_ ?_ ?_ (by omega) (by omega) ?_ hx.1 (by omega)
  · rw [IntKind.wrap_u64]; omega
  · rw [u64_and_nat _ _ (by omega) (by omega), hlow]
  · rw [IntKind.wrap_u64]; omega
  · unfold dbAt; omega
  · rw [Int.toNat_natCast]; exact hc

theorem trailing_any {x : Int} {r : List Int} (h : Rise (x :: r)) (w : World) (hD : Dj w) :
    Calls Tryd.prog 41 #[.int .u64 (mask (x :: r) : Nat)] w fun e w' => e = .returned (.int .i64 x) ∧ w = w' := by
  have hh := tz64_any h w hD
  obtain ⟨m, hm⟩ : ∃ m : Int, m = (mask (x :: r) : Nat) := ⟨_, rfl⟩
  rw [← hm] at hh ⊢
  have H := Lib.hid hh
  clear hh hm hD
  go_enter Tryd.func41, Tryd.ntmps41
  go_wp2_with fail
  refine H.out.mono ?_
  rintro e w2 ⟨rfl, rfl⟩
  go_wp2
  go_ret
  exact ⟨rfl, rfl⟩

set_option maxRecDepth 100000 in
set_option maxHeartbeats 800000 in
theorem row_any {xs : List Int} (h : Rise xs) (hl : xs.length ≤ 6) (w : World) (hD : Dj w) :
    Calls Tryd.prog 32 #[.int .u64 (mask xs : Nat)] w fun e w' => ∃ v, e = .returned v ∧ OwnI w' w.heap.size v xs ∧ Below w.heap.size w w' := by
  obtain ⟨i0, hi, hz0, hz1, hz2⟩ := info_parts Tryd.info_int
  have hs := size_any h hl w
  obtain ⟨m, hm⟩ : ∃ m : Int, m = (mask xs : Nat) := ⟨_, rfl⟩
  rw [← hm] at hs ⊢
  have Hs := Lib.hid hs
  have Hm := Lib.hid hm
  have H := Lib.hid h
  have HD := Lib.hid hD
  clear hs hm h hD
  go_enter Tryd.func32, Tryd.ntmps32
  go_wp2_with fail
  refine Hs.out.mono ?_
  rintro e w2 ⟨rfl, rfl⟩
  go_wp2_with (at_make; refine wpList_make_own _ rfl _ _ 25 rfl w.heap.size 3 i0 (.int .i64 0) 1 Tryd.underlying25 hi hz0 hz1 _ _ _ xs.length rfl rfl rfl ?c1 ?c2 ?c3 ?_)
  case c1 => rw [hz2]; omega
  case c2 => unfold maxLen; omega
  case c3 => simp
  intro w1 hown hg
  have hb1 : Below w.heap.size w w1 := (Below.refl _ _).grown hg (Nat.le_refl _) (fun _ h => by cases h)
  have hown1 : OwnI w1 w.heap.size (.slice (some ⟨w.heap.size, 0, none⟩) 0 xs.length) [] := hown
  clear hown hg
  go_wp2
  go_loopw [3, 4] (fun out rest wr => ∃ (pre suf : List Int), pre ++ suf = xs ∧ rest = .int .u64 (mask suf : Nat) ∧ OwnI wr w.heap.size out pre ∧ Below w.heap.size w wr) (fun out _ _ => xs.length - slLen out)
  case atStart => exact ⟨[], xs, rfl, by rw [Hm.out], hown1, hb1⟩
  case round =>
    obtain ⟨pre, suf, hps, rfl, hown, hbr⟩ := hrel
    clear hown1 hb1
    cases suf with
    | nil =>
      go_wp2
      go_ret
      rw [List.append_nil] at hps
      subst hps
      exact ⟨_, rfl, hown, hbr⟩
    | cons x r =>
      have hr : Rise (x :: r) := by
        have := H.out
        rw [← hps] at this
        exact ⟨(up_append this.1).2.1, fun y hy => this.2 y (by simp [hy])⟩
      have hx := hr.2 x (by simp)
      have hpos : mask (x :: r) ≠ 0 := by
        obtain ⟨q, _, hq⟩ := mask_head hr.1 hx.1
        rw [hq]
        have := Nat.two_pow_pos x.toNat
        omega
      have hlt := mask_lt16 hr
      have e1 : bits .and .u64 ((mask (x :: r) : Nat) : Int) (IntKind.u64.wrap (((mask (x :: r) : Nat) : Int) - 1)) = ((mask r : Nat) : Int) := by
        have h1 : IntKind.u64.wrap (((mask (x :: r) : Nat) : Int) - 1) = ((mask (x :: r) - 1 : Nat) : Int) := by rw [IntKind.wrap_u64]; omega
        rw [h1, u64_and_nat _ _ (by omega) (by omega), mask_rest hr.1 hx.1]
      have hb : (((mask (x :: r) : Nat) : Int) != 0) = true := by simp; exact hpos
      have hcall := trailing_any hr wr (HD.out.next hbr)
      obtain ⟨m1, hm1⟩ : ∃ m : Int, m = (mask (x :: r) : Nat) := ⟨_, rfl⟩
      obtain ⟨m2, hm2⟩ : ∃ m : Int, m = (mask r : Nat) := ⟨_, rfl⟩
      rw [← hm1, ← hm2] at e1
      rw [← hm1] at hb hcall ⊢
      have hlen : pre.length + (r.length + 1) ≤ 6 := by have := congrArg List.length hps; simp at this; omega
      have hlen2 : pre.length + (r.length + 1) = xs.length := by have := congrArg List.length hps; simpa using this
      have Hc := Lib.hid hcall
      have Hm2 := Lib.hid hm2
      have Hown := Lib.hid hown
      have Hbr := Lib.hid hbr
      have HB := Lib.hid hbr.size
      have E1 := Lib.hid e1
      have Hps := Lib.hid hps
      clear hcall hm1 hm2 hown hbr hr hpos hlt e1 hps
      obtain ⟨ao, co, rfl, hco, hco2, _⟩ := Hown.out.read
      go_wp2_with fail
      refine Hc.out.mono ?_
      rintro e w2 ⟨rfl, rfl⟩
      go_wp2_with (at_builtin; refine wpList_append_own _ rfl _ _ 25 rfl w.heap.size 3 i0 (.int .i64 0) 1 8 Tryd.underlying25 hi hz0 hz1 hz2 rfl (by decide) _ _ _ rfl (World.ownsRow.alloc Hown.out _) ⟨wr.heap.size, 0, none⟩ 1 1 [.int .i64 x] rfl rfl ?e1 ?e2 ?e3 ?e4 ?e5 ?_)
      case e1 => exact cell_one_new _ _ _
      case e2 => intro u hu; simp at hu; subst hu; rfl
      case e3 => unfold maxLen; omega
      case e4 => omega
      case e5 => have := HB.out; simp; omega
      intro v' w3 hown' hgrow _
      have hput := Hown.out.snoc HB.out hown' hgrow
      obtain ⟨ao', co', rfl, _, _, _⟩ := hput.1.read
      have Hput := Lib.hid hput
      clear hput hown' hgrow
      go_wp2
      go_roundw
      case rel => exact ⟨pre ++ [x], r, by rw [List.append_assoc]; exact Hps.out, by rw [E1.out, Hm2.out], Hput.out.1, Hbr.out.trans Hput.out.2⟩
      case measure => simp [slLen]; omega
end Go.Proofs.YtmcgnbbobhfkpaaDoor

namespace Go.Proofs.YtmcgnbbobhfkpaaDoor
/-- how many of the first k numbers are j -/
def occ (xs : List Int) (j : Int) : Nat → Int
  | 0 => 0
  | k + 1 => occ xs j k + (if gi xs k = j then 1 else 0)
theorem occ_bd (xs : List Int) (j : Int) : ∀ k, 0 ≤ occ xs j k ∧ occ xs j k ≤ k
  | 0 => by simp [occ]
  | k + 1 => by have := occ_bd xs j k; simp only [occ]; split <;> omega
/-- all numbers of a triangle are at most the last one of its last row -/
theorem tri_le {t : List (List Int)} (h : isTri t) : ∀ d i, i + d + 1 = t.length → ∀ k, k ≤ i → gi (gr t i) k ≤ gi (gr t (t.length - 1)) (t.length - 1)
  | 0, i, hi, k, hk => by
    have hl := (h.2.2 i (by omega)).1
    have hr := ((isRowP_iff _).1 (h.2.2 i (by omega)).2.1).2.2
    rw [show t.length - 1 = i from by omega]
    rcases Nat.lt_or_ge k i with hki | hki
    · have hup := (up_iff _).1 hr.1
      have mono : ∀ d k, k + d < (gr t i).length → gi (gr t i) k ≤ gi (gr t i) (k + d) := by
        intro d
        induction d with
        | zero => intro k _; exact Int.le_refl _
        | succ d ih =>
          intro k hkd
          have h1 := ih k (by omega)
          have h2 := hup (k + (d + 1)) hkd (by omega)
          rw [show k + (d + 1) - 1 = k + d from by omega] at h2
          omega
      have := mono (i - k) k (by omega)
      rwa [show k + (i - k) = i from by omega] at this
    · rw [show k = i from by omega]; exact Int.le_refl _
  | d + 1, i, hi, k, hk => by
    have h1 := (h.2.2 (i + 1) (by omega)).2.2 (by omega)
    have hl := (h.2.2 i (by omega)).1
    have h2 := (h1 k (by rw [show i + 1 - 1 = i from rfl]; omega)).2
    rw [show i + 1 - 1 = i from rfl] at h2
    have h3 := tri_le h d (i + 1) (by omega) (k + 1) (by omega)
    omega
/-- 0, 1, .., n - 1 -/
def iota (n : Nat) : List Int := rng 0 ((n : Int) - 1)
theorem iota_len (n : Nat) : (iota n).length = n := by unfold iota rng; simp
theorem gi_iota {n i : Nat} (h : i < n) : gi (iota n) i = i := by
  rw [gi_lt (by rw [iota_len]; exact h)]
  simp [iota, rng]
theorem up_iota (n : Nat) : Up (iota n) := by
  rw [up_iff]
  intro k hk h0
  rw [iota_len] at hk
  rw [gi_iota hk, gi_iota (by omega)]
  omega
theorem mem_iota {n : Nat} {x : Int} : x ∈ iota n ↔ 0 ≤ x ∧ x < n := by unfold iota; rw [mem_rng]; omega
theorem mask_iota (n : Nat) : mask (iota n) = 2 ^ n - 1 := by
  apply Nat.eq_of_testBit_eq
  intro i
  rw [testBit_mask (fun x hx => (mem_iota.1 hx).1), Nat.testBit_two_pow_sub_one]
  congr 1
  rw [mem_iota]
  simp
/-- a row of n numbers is 0, 1, .. exactly if its last number is n - 1 -/
theorem row_full {xs : List Int} (h : isRowP xs) : mask xs = 2 ^ xs.length - 1 ↔ gi xs (xs.length - 1) = (xs.length : Int) - 1 := by
  obtain ⟨h1, h2, hu, hr⟩ := (isRowP_iff _).1 h
  rw [← mask_iota]
  constructor
  · intro hm
    have e := mask_inj hu (fun x hx => (hr x hx).1) (up_iota _) (fun x hx => (mem_iota.1 hx).1) hm
    generalize hn : xs.length = n at *
    rw [e, gi_iota (by omega)]
    omega
  · intro hl
    congr 1
    refine ext_gi (by rw [iota_len]) fun i hi => ?_
    rw [gi_iota hi]
    have hup := (up_iff _).1 hu
    have lo : ∀ k, k < xs.length → (k : Int) ≤ gi xs k := by
      intro k
      induction k with
      | zero => intro hk; exact (hr _ (gi_mem hk)).1
      | succ k ih =>
        intro hk
        have a := ih (by omega)
        have b := hup (k + 1) hk (by omega)
        rw [show k + 1 - 1 = k from rfl] at b
        omega
    have hi2 : ∀ d k, k + d + 1 = xs.length → gi xs k ≤ k := by
      intro d
      induction d with
      | zero => intro k hk; rw [show xs.length - 1 = k from by omega] at hl; omega
      | succ d ih =>
        intro k hk
        have a := ih (k + 1) (by omega)
        have b := hup (k + 1) (by omega) (by omega)
        rw [show k + 1 - 1 = k from rfl] at b
        omega
    have := lo i hi
    have := hi2 (xs.length - 1 - i) i (by omega)
    omega
/-- the numbers of the sign matrix of a triangle -/
def signAt (t : List (List Int)) (i j : Nat) : Int := occ (gr t i) j (gr t i).length - (if 0 < i then occ (gr t (i - 1)) j (gr t (i - 1)).length else 0)
def fromT (t : List (List Int)) : List (List Int) := (List.range t.length).map fun i => (List.range t.length).map fun j => signAt t i j
/-- a triangle whose last row is that of sign matrices -/
def fullTri (t : List (List Int)) : Prop := isTri t ∧ gi (gr t (t.length - 1)) (t.length - 1) = (t.length : Int) - 1
theorem full_lt {t : List (List Int)} (h : fullTri t) {i k : Nat} (hi : i < t.length) (hk : k < (gr t i).length) : 0 ≤ gi (gr t i) k ∧ gi (gr t i) k < t.length := by
  have hl := (h.1.2.2 i hi).1
  have := tri_le h.1 (t.length - 1 - i) i (by omega) k (by omega)
  have := ((h.1.2.2 i hi).2.1.2.2 k hk).1.1
  have := h.2
  omega
end Go.Proofs.YtmcgnbbobhfkpaaDoor

namespace Go.Proofs.YtmcgnbbobhfkpaaDoor
open Go.RowKit

theorem take_succ_gi {xs : List Int} {k : Nat} (h : k < xs.length) : xs.take (k + 1) = xs.take k ++ [gi xs k] := by
  rw [gi_lt h, List.take_succ_eq_append_getElem h]

theorem shl_one {x : Int} (h0 : 0 ≤ x) (h1 : x ≤ 15) : IntKind.u64.wrap (2 ^ x.toNat) = ((2 ^ x.toNat : Nat) : Int) := by
  rw [IntKind.wrap_u64]
  have : 2 ^ x.toNat ≤ 2 ^ 15 := Nat.pow_le_pow_right (by omega) (by omega)
  rw [show ((2 : Int) ^ x.toNat) = ((2 ^ x.toNat : Nat) : Int) by simp]
  generalize 2 ^ x.toNat = q at this
  omega

theorem allColumns_any (n : Nat) (w : World) (hn : n ≤ 15) :
    Calls Tryd.prog 30 #[.int .i64 (n : Int)] w fun e w' => e = .returned (.int .u64 ((2 ^ n - 1 : Nat) : Int)) ∧ w = w' := by
  have e1 := shl_one (x := (n : Int)) (by omega) (by omega)
  rw [Int.toNat_natCast] at e1
  have E : IntKind.u64.wrap (IntKind.u64.wrap (2 ^ n) - 1) = ((2 ^ n - 1 : Nat) : Int) := by
    have h2 : 2 ^ n ≤ 2 ^ 15 := Nat.pow_le_pow_right (by omega) (by omega)
    have h3 : 0 < 2 ^ n := Nat.two_pow_pos n
    rw [e1, IntKind.wrap_u64, Int.emod_eq_of_lt (by omega) (by omega)]
    omega
  have E2 := Lib.hid E
  clear e1 E
  go_enter Tryd.func30, Tryd.ntmps30
  go_wp2
  go_ret
  exact ⟨by rw [← E2.out]; rfl, rfl⟩
end Go.Proofs.YtmcgnbbobhfkpaaDoor

namespace Go.Proofs.YtmcgnbbobhfkpaaDoor
open Go.RowKit

def sv (b : List Int) : Value := .int .u64 (mask b : Nat)
/-- the cells at an address read as these sets -/
def SetsAt (w : World) (ao : Option Addr) (bs : List (List Int)) : Prop := ∀ i, i < bs.length → ∃ b o, ao = some ⟨b, o, none⟩ ∧ w.cell? ⟨b, o + i, none⟩ = some (sv (gr bs i))
theorem SetsAt.below {w w' : World} {ao : Option Addr} {bs : List (List Int)} (h : SetsAt w ao bs) (hb : Below w.heap.size w w') : SetsAt w' ao bs := by
  intro i hi
  obtain ⟨b, o, e, hc⟩ := h i hi
  exact ⟨b, o, e, cell_below hc hb⟩
/-- a slice of sets that the call owns -/
def OwnB (w : World) (B : Nat) (v : Value) (bs : List (List Int)) : Prop := w.ownsRow B 48 1 v bs.length (bs.map sv)
theorem OwnB.below {w w' : World} {B : Nat} {v : Value} {bs : List (List Int)} (h : OwnB w B v bs) (hb : Below w.heap.size w w') : OwnB w' B v bs := ownsRow_below h hb
theorem OwnB.base {w : World} {B B' : Nat} {v : Value} {bs : List (List Int)} (h : OwnB w B v bs) (hB : B' ≤ B) : OwnB w B' v bs := ownsRow_base h hB
theorem OwnB.nil (w : World) (B : Nat) : OwnB w B (.slice none 0 0) [] := World.ownsRow_nil _ _ _ _
theorem OwnB.read {w : World} {B : Nat} {v : Value} {bs : List (List Int)} (h : OwnB w B v bs) : ∃ ao c, v = .slice ao bs.length c ∧ bs.length ≤ c ∧ c ≤ 9223372036854775807 ∧ SetsAt w ao bs := by
  obtain ⟨ao, c, hv, h1, h2, hc⟩ := ownsRow_read h
  refine ⟨ao, c, hv, h1, h2, fun i hi => ?_⟩
  obtain ⟨b, o, e, hcell⟩ := hc i hi
  refine ⟨b, o, e, ?_⟩
  rw [hcell, gr_lt hi]
  simp [List.getD, hi]
theorem OwnB.snoc {w w1 : World} {B : Nat} {v v' : Value} {bs : List (List Int)} {x : List Int} {o : Obj} (h : OwnB w B v bs) (hB : B ≤ w.heap.size)
    (h1 : w1.ownsRow B 48 1 v' (bs.length + 1) (bs.map sv ++ [sv x])) (hg : (w.alloc o).grownBy w1 v.ownBlock) : OwnB w1 B v' (bs ++ [x]) ∧ Below B w w1 := by
  refine ⟨by unfold OwnB; rw [List.length_append, List.map_append]; exact h1, ?_⟩
  exact Below.grown ((Below.refl B w).alloc hB o) hg (by simp; omega) (fun k hk => (World.ownsRow.lt h k hk).1)
theorem OwnB.one (w : World) : OwnB (w.alloc (.cells #[sv []] 48)) w.heap.size (.slice (some ⟨w.heap.size, 0, none⟩) 1 1) [[]] := ownsRow_built w [sv []] (Nat.le_refl _) (by simp)

theorem Tryd.info_rowset : (Tryd.prog.info? 48).map (fun i => (i.zero, i.size, i.bytes)) = some (some (.int .u64 0), 1, 8) := by kernel_rfl

theorem i64_small {n : Int} (h1 : -1000000 ≤ n) (h2 : n ≤ 1000000) : IntKind.i64.wrap n = n := by
  simp [IntKind.wrap, IntKind.bits, IntKind.signed]
  omega

/-- of those that are behind b, the ones of the numbers lo .. v - 1 -/
def lengPart (b : List Int) (lo v : Int) : List (List Int) := ((rng lo (v - 1)).filter fun x => decide (lst b < x)).map fun x => b ++ [x]
theorem lengPart_start (b : List Int) (lo : Int) : lengPart b lo lo = [] := by unfold lengPart; rw [rng_nil (by omega)]; rfl
theorem lengPart_step {b : List Int} {lo v : Int} (h : lo ≤ v) : lengPart b lo (v + 1) = lengPart b lo v ++ (if lst b < v then [b ++ [v]] else []) := by
  unfold lengPart
  rw [show v + 1 - 1 = v from by omega, rng_snoc h, List.filter_append, List.map_append]
  by_cases hl : lst b < v <;> simp [hl]
theorem leng_take {bs : List (List Int)} {k : Nat} (h : k < bs.length) (lo hi : Int) : leng (bs.take (k + 1)) lo hi = leng (bs.take k) lo hi ++ lengPart (gr bs k) lo (hi + 1) := by
  unfold leng lengPart
  rw [List.take_succ_eq_append_getElem h, List.flatMap_append, gr_lt h, show hi + 1 - 1 = hi from by omega]
  simp

theorem or_step {b : List Int} {v : Int} (hb : Rise b) (h0 : 0 ≤ v) (h1 : v ≤ 15) : bits .or .u64 ((mask b : Nat) : Int) ((2 ^ v.toNat : Nat) : Int) = ((mask (b ++ [v]) : Nat) : Int) := by
  have := mask_lt16 hb
  have h2 : 2 ^ v.toNat ≤ 2 ^ 15 := Nat.pow_le_pow_right (by omega) (by omega)
  rw [u64_or_nat _ _ (by omega) (by omega), mask_snoc]

set_option maxRecDepth 100000 in
set_option maxHeartbeats 1600000 in
theorem lengthened_any (ao : Option Addr) (c : Nat) (bs : List (List Int)) (lo hi : Int) (w : World) (hn : bs.length ≤ 1048576) (hbs : ∀ b ∈ bs, Rise b) (hlo : 0 ≤ lo) (hlo2 : lo ≤ 15) (hhi : hi ≤ 15) (hx : SetsAt w ao bs) :
    Calls Tryd.prog 49 #[.slice ao bs.length c, .int .i64 lo, .int .i64 hi] w fun e w' => ∃ v, e = .returned v ∧ OwnB w' w.heap.size v (leng bs lo hi) ∧ Below w.heap.size w w' := by
  obtain ⟨i0, hi0, hz0, hz1, hz2⟩ := info_parts Tryd.info_rowset
  have hmx : bs.length ≤ 9223372036854775807 := by omega
  have Hx := Lib.hid hx
  have Hbs := Lib.hid hbs
  clear hx hbs
  go_enter Tryd.func49, Tryd.ntmps49
  go_wp2
  go_loopw [7, 13] (fun out i wr => ∃ k : Nat, k ≤ bs.length ∧ i = .int .i64 k ∧ OwnB wr w.heap.size out (leng (bs.take k) lo hi) ∧ Below w.heap.size w wr) (fun _ i _ => bs.length - (intOf i).toNat)
  case atStart => exact ⟨0, Nat.zero_le _, rfl, OwnB.nil _ _, Below.refl _ _⟩
  case round =>
    obtain ⟨k, hk, rfl, hown, hbr⟩ := hrel
    by_cases hlt : k < bs.length
    · obtain ⟨b0, o0, rfl, hc0⟩ := Hx.out k hlt
      have hc := cell_below hc0 hbr
      have hrise := Hbs.out _ (gr_mem hlt)
      have Hown := Lib.hid hown
      have Hbr := Lib.hid hbr
      have Hlt := Lib.hid (leng_take hlt lo hi)
      have hlen : (leng (bs.take k) lo hi).length ≤ k * 16 := by
        unfold leng
        refine flatMap_le (n := k) (k := 16) (by rw [List.length_take]; omega) (fun b _ => ?_)
        rw [List.length_map]
        exact rng_filter_le hlo hhi _
      obtain ⟨b, hb⟩ : ∃ b, b = gr bs k := ⟨_, rfl⟩
      obtain ⟨L0, hL0⟩ : ∃ L0, L0 = leng (bs.take k) lo hi := ⟨_, rfl⟩
      rw [← hb] at hc hrise
      rw [← hL0] at hlen
      have Hb := Lib.hid hb
      have HL0 := Lib.hid hL0
      have Hrise := Lib.hid hrise
      obtain ⟨m, hm⟩ : ∃ m : Int, m = (mask b : Nat) := ⟨_, rfl⟩
      have hc' : wr.cell? ⟨b0, o0 + k, none⟩ = some (.int .u64 m) := by rw [hm]; exact hc
      have Hm := Lib.hid hm
      obtain ⟨wo, hwo⟩ : ∃ wo : World, wo = wr := ⟨_, rfl⟩
      subst hwo
      clear hc0 hown hbr hc hrise hb hL0 hm
      go_wp2
      go_loopw [7, 10] (fun out i wr => ∃ v : Int, lo ≤ v ∧ (lo ≤ hi → v ≤ hi + 1) ∧ (hi < lo → v = lo) ∧ i = .int .i64 v ∧ OwnB wr w.heap.size out (L0 ++ lengPart b lo v) ∧ Below w.heap.size w wr) (fun _ i _ => (hi + 1 - intOf i).toNat)
      case atStart => exact ⟨lo, Int.le_refl _, fun h => by omega, fun _ => rfl, rfl, by rw [lengPart_start, List.append_nil, HL0.out]; exact Hown.out, Hbr.out⟩
      case round =>
        obtain ⟨v, hv1, hv2, hv3, rfl, hown, hbi⟩ := hrel
        clear Hown Hbr hc'
        by_cases hvh : v ≤ hi
        · have hv0 : 0 ≤ v := by omega
          have hv15 : v ≤ 15 := by omega
          have e1 := shl_one hv0 hv15
          have htest := mask_test Hrise.out.1 (fun x hx => (Hrise.out.2 x hx).1) hv0
          have hor := or_step Hrise.out hv0 hv15
          have hlen2 : (lengPart b lo v).length ≤ 16 := by
            unfold lengPart
            rw [List.length_map]
            exact rng_filter_le hlo (by omega) _
          rw [← Hm.out] at hor
          have Hstep := Lib.hid (lengPart_step (b := b) hv1)
          obtain ⟨p, hp⟩ : ∃ p : Int, p = ((2 ^ v.toNat : Nat) : Int) := ⟨_, rfl⟩
          rw [← hp] at e1 hor
          have hmp : m < p ↔ lst b < v := by rw [Hm.out, hp, ← htest]; omega
          obtain ⟨m', hm'⟩ : ∃ m' : Int, m' = (mask (b ++ [v]) : Nat) := ⟨_, rfl⟩
          rw [← hm'] at hor
          have Hm' := Lib.hid hm'
          have Hown := Lib.hid hown
          have Hbi := Lib.hid hbi
          have HB := Lib.hid hbi.size
          clear htest hp hm' hown hbi
          by_cases hcmp : lst b < v
          · have hlt2 := hmp.2 hcmp
            have Hcmp := Lib.hid hcmp
            clear hmp hcmp
            obtain ⟨Lc, hLc⟩ : ∃ Lc, Lc = L0 ++ lengPart b lo v := ⟨_, rfl⟩
            have hlen3 : Lc.length ≤ 33554432 := by rw [hLc, List.length_append]; omega
            have Hown' := Lib.hid (show OwnB wr w.heap.size _ Lc by rw [hLc]; exact Hown.out)
            have HLc := Lib.hid hLc
            clear Hown hLc hlen hlen2
            obtain ⟨ao2, co2, hout, hco2, hco3, _⟩ := Hown'.out.read
            subst hout
            go_wp2_with (at_builtin; refine wpList_append_own _ rfl _ _ 62 rfl w.heap.size 48 i0 (.int .u64 0) 1 8 Tryd.underlying62 hi0 hz0 hz1 hz2 rfl (by decide) _ _ _ rfl (World.ownsRow.alloc Hown'.out _) ⟨wr.heap.size, 0, none⟩ 1 1 [.int .u64 m'] rfl rfl (cell_one_new _ _ _) ?q2 ?q3 ?q4 ?q5 ?_)
            case q2 => intro u hu; simp at hu; subst hu; rfl
            case q3 => unfold maxLen; omega
            case q4 => omega
            case q5 => have := HB.out; simp; omega
            intro v' w3 hown' hgrow _
            have hput := Hown'.out.snoc (x := b ++ [v]) HB.out (by unfold sv; rw [← Hm'.out]; exact hown') hgrow
            obtain ⟨ao', co', rfl, _, _, _⟩ := hput.1.read
            have Hput := Lib.hid hput
            clear hput hown' hgrow
            go_wp2
            go_roundw
            case rel => exact ⟨v + 1, by omega, fun _ => by omega, fun h => by omega, by go_num, by rw [Hstep.out, if_pos Hcmp.out, ← List.append_assoc, ← HLc.out]; exact Hput.out.1, Hbi.out.trans Hput.out.2⟩
            case measure => simp [intOf]; omega
          · have hlt2 : ¬ m < p := fun h => hcmp (hmp.1 h)
            have Hcmp := Lib.hid hcmp
            clear hmp hcmp
            go_wp2
            go_roundw
            case rel => exact ⟨v + 1, by omega, fun _ => by omega, fun h => by omega, by go_num, by rw [Hstep.out, if_neg Hcmp.out, List.append_nil]; exact Hown.out, Hbi.out⟩
            case measure => simp [intOf]; omega
        · have Hown := Lib.hid hown
          have Hbi := Lib.hid hbi
          clear hown hbi
          go_wp2
          go_roundw
          case rel =>
            refine ⟨k + 1, by omega, by go_num, ?_, Hbi.out⟩
            rw [Hlt.out, ← HL0.out, ← Hb.out]
            have e : lengPart b lo (hi + 1) = lengPart b lo v := by
              by_cases h : lo ≤ hi
              · rw [show v = hi + 1 from by have := hv2 h; omega]
              · rw [hv3 (by omega), lengPart_start]
                unfold lengPart
                rw [rng_nil (by omega)]; rfl
            rw [e]
            exact Hown.out
          case measure => simp [intOf]; omega
    · obtain rfl : k = bs.length := by omega
      rw [List.take_length] at hown
      go_wp2
      go_ret
      exact ⟨_, rfl, hown, hbr⟩

theorem leng_rise {bs : List (List Int)} {lo hi : Int} (h : ∀ b ∈ bs, Rise b) (hlo : 0 ≤ lo) (hhi : hi ≤ 15) : ∀ b ∈ leng bs lo hi, Rise b := by
  intro b' hb'
  simp only [leng, List.mem_flatMap, List.mem_map, List.mem_filter, decide_eq_true_eq, mem_rng] at hb'
  obtain ⟨b, hb, v, ⟨⟨h1, h2⟩, h3⟩, rfl⟩ := hb'
  have hr := h b hb
  refine ⟨up_join hr.1 trivial (fun x hx y hy => ?_), fun x hx => ?_⟩
  · simp at hy; subst hy
    have := le_lst hr.1 x hx
    omega
  · rcases List.mem_append.1 hx with hx | hx
    · exact hr.2 x hx
    · simp at hx; subst hx; omega
theorem leng_len {bs : List (List Int)} {lo hi : Int} (hlo : 0 ≤ lo) (hhi : hi ≤ 15) : (leng bs lo hi).length ≤ bs.length * 16 := by
  unfold leng
  refine flatMap_le (Nat.le_refl _) (fun b _ => ?_)
  rw [List.length_map]
  exact rng_filter_le hlo hhi _
theorem bfs_step {xs : List Int} {k : Nat} (h0 : 0 < k) (h : k < xs.length) (bs : List (List Int)) : bfs (xs.drop (k - 1)) bs = bfs (xs.drop k) (leng bs (gi xs (k - 1)) (gi xs k)) := by
  rw [List.drop_eq_getElem_cons (by omega : k - 1 < xs.length), show k - 1 + 1 = k from by omega, List.drop_eq_getElem_cons h, bfs, gi_lt h, gi_lt (by omega)]
theorem bfs_last {xs : List Int} (h : 1 ≤ xs.length) (bs : List (List Int)) : bfs (xs.drop (xs.length - 1)) bs = bs := by
  rw [List.drop_eq_getElem_cons (by omega), show xs.length - 1 + 1 = xs.length from by omega, List.drop_length]
  rfl

set_option maxRecDepth 100000 in
set_option maxHeartbeats 1600000 in
theorem setsAbove_any {xs : List Int} (h : Rise xs) (hl : xs.length ≤ 6) (w : World) (hD : Dj w) :
    Calls Tryd.prog 44 #[.int .u64 (mask xs : Nat)] w fun e w' => ∃ v, e = .returned v ∧ OwnB w' w.heap.size v (above xs) ∧ Below w.heap.size w w' := by
  have hrow := row_any h hl w hD
  obtain ⟨m, hm⟩ : ∃ m : Int, m = (mask xs : Nat) := ⟨_, rfl⟩
  rw [← hm] at hrow ⊢
  have Hrow := Lib.hid hrow
  have H := Lib.hid h
  clear hm hD hrow h
  go_enter Tryd.func44, Tryd.ntmps44
  go_wp2_with fail
  refine Hrow.out.mono ?_
  rintro e w1 ⟨v, rfl, hv, hb⟩
  obtain ⟨r, cr, rfl, hcr, hcr2, hx⟩ := hv.read
  have Hx := Lib.hid hx
  have Hb := Lib.hid hb
  have HB := Lib.hid hb.size
  clear hx hb hv
  by_cases h2 : 2 ≤ xs.length
  · have hn2 : ¬ (xs.length : Int) < 2 := by omega
    have one := OwnB.one w1
    have onb : Below w1.heap.size w1 (w1.alloc (.cells #[sv []] 48)) := (Below.refl _ _).alloc (Nat.le_refl _) _
    have One := Lib.hid one
    have Onb := Lib.hid onb
    clear one onb
    go_wp2
    go_loopw [4, 5] (fun sets i wr => ∃ (k : Nat) (bs : List (List Int)), k + 1 ≤ xs.length ∧ i = .int .i64 ((k : Int) + 1) ∧ OwnB wr w1.heap.size sets bs ∧ bfs (xs.drop k) bs = above xs ∧ (∀ b ∈ bs, Rise b) ∧ bs.length ≤ 16 ^ k ∧ Below w1.heap.size w1 wr) (fun _ i _ => xs.length - (intOf i).toNat)
    case atStart => exact ⟨0, [[]], by omega, rfl, One.out, bfs_above h2, fun b hb => by simp at hb; subst hb; exact ⟨trivial, fun x hx => by cases hx⟩, by simp, Onb.out⟩
    case round =>
      obtain ⟨k, bs, hk, rfl, hown, hbfs, hrise, hlen, hbr⟩ := hrel
      clear One Onb
      have Hbr := Lib.hid hbr
      have HBr := Lib.hid hbr.size
      by_cases hlt : k + 1 < xs.length
      · have hx' := Hx.out.below hbr
        obtain ⟨b0, o0, e0, hc0⟩ := hx' (k + 1) hlt
        obtain ⟨b0', o0', e0', hc1⟩ := hx' k (by omega)
        rw [e0] at e0'
        cases e0'
        have g1 := H.out.2 _ (gi_mem hlt)
        have g0 := H.out.2 _ (gi_mem (show k < xs.length by omega))
        have hpow : 16 ^ k ≤ 16 ^ 4 := Nat.pow_le_pow_right (by omega) (by omega)
        have hpow2 : 16 ^ (k + 1) = 16 ^ k * 16 := Nat.pow_succ _ _
        have hll := leng_len (bs := bs) g0.1 g1.2
        have Hlen2 := Lib.hid (show (leng bs (gi xs k) (gi xs (k + 1))).length ≤ 16 ^ (k + 1) by rw [hpow2]; exact Nat.le_trans hll (Nat.mul_le_mul_right _ hlen))
        have Hrise2 := Lib.hid (leng_rise hrise g0.1 g1.2)
        have Hbfs := Lib.hid (show bfs (xs.drop (k + 1)) (leng bs (gi xs k) (gi xs (k + 1))) = above xs by have := bfs_step (k := k + 1) (by omega) hlt bs; rw [show k + 1 - 1 = k from rfl] at this; rw [← this]; exact hbfs)
        obtain ⟨sa, sc, rfl, _, _, hsr⟩ := hown.read
        have hcall : ∀ w', Below wr.heap.size wr w' → Calls Tryd.prog 49 #[.slice sa bs.length sc, .int .i64 (gi xs k), .int .i64 (gi xs (k + 1))] w' fun e w'' => ∃ v, e = .returned v ∧ OwnB w'' w'.heap.size v (leng bs (gi xs k) (gi xs (k + 1))) ∧ Below w'.heap.size w' w'' :=
          fun w' hw' => lengthened_any sa sc bs _ _ w' (by omega) hrise g0.1 g0.2 g1.2 (hsr.below hw')
        obtain ⟨y, hy⟩ : ∃ y, y = gi xs k := ⟨_, rfl⟩
        obtain ⟨z, hz⟩ : ∃ z, z = gi xs (k + 1) := ⟨_, rfl⟩
        rw [← hy] at hc1
        rw [← hz] at hc0
        rw [← hy, ← hz] at hcall
        have Hy := Lib.hid hy
        have Hz := Lib.hid hz
        have Hcall := Lib.hid hcall
        have hk2 : (k : Int) < (xs.length : Int) := by omega
        have hk3 : (k : Int) + 1 < (xs.length : Int) := by omega
        have hk4 : k < xs.length := by omega
        have hwk : IntKind.i64.wrap (k : Int) = (k : Int) := i64_small (by omega) (by omega)
        subst e0
        clear hx' g1 g0 hpow hpow2 hll hown hbfs hrise hlen hsr hcall hy hz hbr
        go_wp2
        go_region_with (go_at_call 49; refine (Hcall.out _ ?_).mono ?_; exact below_drewN (Below.refl _ _) 1; rintro e w2 ⟨v, rfl, hv, hb2⟩)
        all_goals
          obtain ⟨va, vc, hvv, _, _, _⟩ := hv.read
          rw [Hy.out, Hz.out] at hv
          have Hv := Lib.hid hv
          obtain ⟨nv, hnv⟩ : ∃ nv, nv = (leng bs y z).length := ⟨_, rfl⟩
          rw [← hnv] at hvv
          subst hvv
          have Hb2 := Lib.hid hb2
          clear hv hb2 hnv
          go_wp2
          go_roundw
          case rel =>
            have hb3 : Below wr.heap.size wr w2 := (below_drewN (Below.refl _ _) 1).trans Hb2.out
            exact ⟨k + 1, _, by omega, by go_num, Hv.out.base HBr.out, Hbfs.out, Hrise2.out, Hlen2.out, Hbr.out.trans (hb3.mono HBr.out)⟩
          case measure => simp [intOf]; omega
      · obtain rfl : k = xs.length - 1 := by omega
        rw [bfs_last (by omega)] at hbfs
        subst hbfs
        go_wp2
        go_ret
        exact ⟨_, rfl, hown.base HB.out, Hb.out.trans (hbr.mono HB.out)⟩
  · have hn2 : (xs.length : Int) < 2 := by omega
    go_wp2
    go_ret
    rw [above_one (by omega)]
    exact ⟨_, rfl, OwnB.nil _ _, Hb.out⟩
end Go.Proofs.YtmcgnbbobhfkpaaDoor

