/- Parts of proofs: contracts and plain facts. Conditions: as each says. -/
import Derived.Test.YtmkldodkpijfjaaDoorK06
import Derived.Maps.AppendAt
namespace Go.Proofs.YtmkldodkpijfjaaDoor
open Go.RowKit

/-- the blocks from lo up to hi are as they were -/
def Same (lo hi : Nat) (w w' : World) : Prop := ∀ g, lo ≤ g → g < hi → w'.heap[g]? = w.heap[g]?
theorem Same.refl (lo hi : Nat) (w : World) : Same lo hi w w := fun _ _ _ => rfl
theorem Same.trans {lo hi : Nat} {a b c : World} (h : Same lo hi a b) (k : Same lo hi b c) : Same lo hi a c := fun g h1 h2 => (k g h1 h2).trans (h g h1 h2)
theorem Same.of_below {lo hi B : Nat} {w w' : World} (h : Below B w w') (hB : hi ≤ B) : Same lo hi w w' := fun g _ h2 => h.block g (by omega)
theorem Same.of_grown {lo hi : Nat} {w w' : World} {row : Option Nat} (h : w.grownBy w' row) (hs : hi ≤ w.heap.size) (hr : ∀ g, row = some g → g < lo ∨ hi ≤ g) : Same lo hi w w' :=
  fun g h1 h2 => h.block g (by omega) (fun e => by have := hr g e.symm; omega)
theorem ownsRow_same {w w' : World} {B : Nat} {e : TypeId} {v : Value} {n : Nat} {xs : List Value} (h : w.ownsRow B e 1 v n xs) (hs : Same B w.heap.size w w') : w'.ownsRow B e 1 v n xs := by
  refine ⟨h.1, ?_⟩
  rcases h.2 with h0 | ⟨g, cap, cur, rfl, hg, hh, r⟩
  · exact .inl h0
  · exact .inr ⟨g, cap, cur, rfl, hg, by rw [hs g hg (lt_of_block hh)]; exact hh, r⟩
theorem OwnP.same {w w' : World} {B n k : Nat} {v : Value} {m : List (List Int)} {vs : List Value} (h : OwnP w B v n m k vs) (hs : Same B w.heap.size w w') : OwnP w' B v n m k vs :=
  ⟨ownsRow_same h.top hs, fun i hi => ownsRow_same (h.rows i hi) hs, h.apart⟩
/-- a row of an owned table: where its slice lies, and that it is owned -/
theorem OwnP.rowAt {w : World} {B n c : Nat} {ao : Option Addr} {m : List (List Int)} {vs : List Value} (h : OwnP w B (.slice ao n c) n m n vs) {i : Nat} (hi : i < n) :
    ∃ b o r d, ao = some ⟨b, o, none⟩ ∧ w.cell? ⟨b, o + i, none⟩ = some (.slice r (gr m i).length d) ∧ vs.getD i undef = .slice r (gr m i).length d ∧ OwnI w B (.slice r (gr m i).length d) (gr m i) ∧ (gr m i).length ≤ d ∧ d ≤ 9223372036854775807 := by
  obtain ⟨ao', c', hv, _, _, hcells⟩ := ownsRow_read h.top
  obtain ⟨rfl, -, rfl⟩ := (Value.slice.injEq _ _ _ _ _ _).mp hv
  obtain ⟨b, o, e, hc⟩ := hcells i hi
  have hrow := h.rows i hi
  obtain ⟨r, d, hr, h1, h2, _⟩ := hrow.read
  rw [hr] at hc hrow
  exact ⟨b, o, r, d, e, hc, hr, hrow, h1, h2⟩
theorem OwnI.same_at {w w' : World} {B n c : Nat} {ao : Option Addr} {xs : List Int} (h : OwnI w B (.slice ao n c) xs) (hs : Same B w.heap.size w w') : IntsAt w' ao xs := own_at (ownsRow_same h hs)
end Go.Proofs.YtmkldodkpijfjaaDoor

namespace Go.Proofs.YtmkldodkpijfjaaDoor
open Go.RowKit

/-- a ratio as a struct of two numbers; a variable with one -/
def rtA (a : Nat × Nat) : Array Value := #[.int .i64 (a.1 : Int), .int .i64 (a.2 : Int)]
theorem rt_one (a : Nat × Nat) : (rtA a).all (·.oneCell') = true := by simp [rtA, Value.oneCell']
theorem rt_same (a b : Nat × Nat) : (rtA a).size = (rtA b).size := rfl
theorem wpList_buildRn {P : Program} {ops : Array Oper} {rest : List Oper} {o : Oper} {a : Act} {w : World} {Q : Exit → Act → World → Prop} (hg : o.guard = none) (t : TypeId) (xs : Array (Nat × Operand)) (ho : o.op = .build t xs)
    (vs : List (Nat × Value)) (hv : (xs.map fun (i, x) => (i, a.eval x)).toList = vs) (cells : Array Value) (hb : P.built t vs = some cells)
    (h : wpList P ops Q rest (a.put o.dst (.agg cells)) w) : wpList P ops Q (o :: rest) a w := by
  refine wpList_build hg t _ ho (by rw [hv, hb]; rfl) ?_
  rw [hv, hb]
  exact h

end Go.Proofs.YtmkldodkpijfjaaDoor

namespace Go.Proofs.YtmkldodkpijfjaaDoor
open Go.RowKit

theorem rt3_below (w : World) (o1 o2 o3 : Obj) : Below w.heap.size w (((w.alloc o1).alloc o2).alloc o3) := (((Below.refl _ w).alloc (Nat.le_refl _) o1).alloc (by simp) o2).alloc (by simp; omega) o3
theorem wrapN {n : Nat} (h : n ≤ 4000000000000000000) : IntKind.i64.wrap (n : Int) = (n : Int) := w64 (by omega)

end Go.Proofs.YtmkldodkpijfjaaDoor

namespace Go.Proofs.YtmkldodkpijfjaaDoor
open Go.RowKit

theorem OwnP.setElse {w : World} {B n k : Nat} {v : Value} {m : List (List Int)} {vs : List Value} (h : OwnP w B v n m k vs) {a : Addr} (ht : v.ownBlock ≠ some a.block) (hr : ∀ i, i < k → (vs.getD i undef).ownBlock ≠ some a.block) (u : Value) : OwnP (w.setCell a u) B v n m k vs :=
  ⟨Go.ownsRow_setCell_other h.top ht u, fun i hi => (h.rows i hi).setOther (hr i hi) u, h.apart⟩

set_option maxRecDepth 100000 in
set_option maxHeartbeats 800000 in
theorem kindOf_any (v b a : Int) (w : World) (hb : 0 ≤ b ∧ b ≤ 1) (ha : 0 ≤ a ∧ a ≤ 1) :
    Calls Tryd.prog 105 #[.int .i64 v, .int .i64 b, .int .i64 a] w fun e w' => e = .returned (.int .i64 (kdV v b a)) ∧ w' = w := by
  unfold kdV
  by_cases h1 : v = 1
  · rw [if_pos h1]
    have hd : (v == 1) = true := by simpa using h1
    clear h1
    go_enter Tryd.func105, Tryd.ntmps105
    go_wp2
    go_ret
    exact ⟨rfl, rfl⟩
  · rw [if_neg h1]
    have hd : (v == 1) = false := by simpa using h1
    by_cases h2 : v = -1
    · rw [if_pos h2]
      have hd2 : (v == -1) = true := by simpa using h2
      clear h1 h2
      go_enter Tryd.func105, Tryd.ntmps105
      go_wp2
      go_ret
      exact ⟨rfl, rfl⟩
    · rw [if_neg h2]
      have hd2 : (v == -1) = false := by simpa using h2
      clear h1 h2
      go_enter Tryd.func105, Tryd.ntmps105
      go_wp2
      go_ret
      exact ⟨rfl, rfl⟩

set_option maxRecDepth 100000 in
set_option maxHeartbeats 3200000 in
theorem kindsOf_any (ao : Option Addr) (c : Nat) (m : List (List Int)) (w : World) (hg : good m) (hm : MatAt w ao m) :
    Calls Tryd.prog 81 #[.slice ao m.length c] w fun e w' => ∃ v, e = .returned v ∧ OwnM w' w.heap.size v (kinds m) ∧ Below w.heap.size w w' := by
  obtain ⟨i0, hi, hz0, hz1, hz2⟩ := info_parts Tryd.info_int
  have hn := hg.1.2.1
  have hmx : m.length ≤ 9223372036854775807 := by omega
  have Hg := Lib.hid hg
  have Hm := Lib.hid hm
  clear hg hm
  go_enter Tryd.func81, Tryd.ntmps81
  go_wp2_with fail
  refine (newGrid_any m.length w (by omega)).mono ?_
  rintro e w1 ⟨vs, rfl, hv, hb⟩
  have hvlt : ∀ i, i < m.length → ∀ g, (vs.getD i undef).ownBlock = some g → g < w1.heap.size := fun i hi g hg => ((hv.rows i hi).lt g hg).2
  have htop : w.heap.size < w1.heap.size := by
    obtain ⟨cur, hcur⟩ := ownsRow_block hv.top
    exact lt_of_block hcur
  have Hv := Lib.hid hv
  have Hb := Lib.hid hb
  have Hvlt := Lib.hid hvlt
  have HB := Lib.hid hb.size
  clear hv hb hvlt
  go_wp2_with (at_make; refine wpList_make_full _ rfl _ _ 22 rfl w1.heap.size 3 i0 (.int .i64 0) 1 Tryd.underlying22 hi hz0 hz1 _ _ _ _ m.length rfl rfl rfl rfl ?c1 ?c2 ?c3 ?_)
  case c1 => rw [hz2]; omega
  case c2 => unfold maxLen; omega
  case c3 => simp
  intro w2 hown hgr
  have hb2 : Below w1.heap.size w1 w2 := (Below.refl _ _).grown hgr (Nat.le_refl _) (fun _ h => by cases h)
  have hsum := OwnI.made hown
  rw [← colMid_zero m] at hsum
  have Hsum := Lib.hid hsum
  have Hv2 := Lib.hid (Hv.out.below hb2)
  have Hb2 := Lib.hid (Hb.out.trans (hb2.mono HB.out))
  obtain ⟨H, hH⟩ : ∃ H, H = w1.heap.size := ⟨_, rfl⟩
  rw [← hH] at Hsum Hvlt htop ⊢
  clear hown hgr hb2 hsum Hb Hv HB hH
  go_wp2
  go_loopw [18] (fun i wr => ∃ (k : Nat) (f : Nat → Nat → Int), k ≤ m.length ∧ i = .int .i64 k ∧ OwnI wr H (.slice (some ⟨H, 0, none⟩) m.length m.length) (colMid m k 0) ∧ OwnP wr w.heap.size (.slice (some ⟨w.heap.size, 0, none⟩) m.length m.length) m.length (tab m.length m.length f) m.length vs ∧
      (∀ a b, a < k → b < m.length → f a b = kd m a b) ∧ Below w.heap.size w wr) (fun i _ => m.length - (intOf i).toNat)
  case atStart => exact ⟨0, _, Nat.zero_le _, rfl, Hsum.out, Hv2.out, fun a b ha _ => absurd ha (by omega), Hb2.out⟩
  case round =>
    obtain ⟨k, f, hk, rfl, hsum, hown, heq, hbr⟩ := hrel
    obtain ⟨wo, rfl⟩ : ∃ wo : World, wo = wr := ⟨_, rfl⟩
    clear Hsum Hv2 Hb2
    by_cases hlt : k < m.length
    · obtain ⟨b1, o1, r1, d1, e0, hc0, hx1, _, _⟩ := Hm.out k hlt
      have hrl : (gr m k).length = m.length := Hg.out.1.2.2 k hlt
      rw [hrl] at hc0
      have hc1 := cell_below hc0 hbr
      subst e0
      have Hrow := Lib.hid hx1
      have Hown := Lib.hid hown
      have Heq := Lib.hid heq
      have Hbr := Lib.hid hbr
      have Hsum := Lib.hid hsum
      clear hown heq hbr hx1 hrl hc0 hsum
      go_wp2
      go_loopw [7, 25] (fun before i wr => ∃ (t : Nat) (f : Nat → Nat → Int), t ≤ m.length ∧ i = .int .i64 t ∧ before = .int .i64 (sumK (gr m k) t) ∧ OwnI wr H (.slice (some ⟨H, 0, none⟩) m.length m.length) (colMid m k t) ∧ OwnP wr w.heap.size (.slice (some ⟨w.heap.size, 0, none⟩) m.length m.length) m.length (tab m.length m.length f) m.length vs ∧
          (∀ a b, a < k → b < m.length → f a b = kd m a b) ∧ (∀ b, b < t → f k b = kd m k b) ∧ Below w.heap.size w wr) (fun _ i _ => m.length - (intOf i).toNat)
      case atStart => exact ⟨0, f, Nat.zero_le _, rfl, rfl, Hsum.out, Hown.out, Heq.out, fun a ha => absurd ha (by omega), Hbr.out⟩
      case round =>
        obtain ⟨t, f, ht, rfl, rfl, hsum, hown, heq, hcol, hbi⟩ := hrel
        clear Hown Heq Hbr Hsum
        by_cases htl : t < m.length
        · obtain ⟨b2, o2, e2, hc2⟩ := Hrow.out.below hbi t (by rw [Hg.out.1.2.2 k hlt]; exact htl)
          have hd := hown.cellAt k hlt
          obtain ⟨g, cap, hvs, hd2, hf2, hg, hst⟩ := hown.at2 hlt htl
          have hgH : g < H := Hvlt.out k hlt g (by rw [hvs]; rfl)
          rw [hvs] at hd
          have hcs := hsum.cellAt t htl
          rw [gi_colMid htl, if_neg (by omega)] at hcs
          have h1 := rowS_01 Hg.out hlt (k := t) (by omega)
          have h1' := rowS_01 Hg.out hlt (k := t + 1) (by omega)
          have h2 := colS_01 Hg.out htl (k := k) (by omega)
          have h2' := colS_01 Hg.out htl (k := k + 1) (by omega)
          have s1 : sumK (gr m k) (t + 1) = sumK (gr m k) t + gi (gr m k) t := rfl
          have s2 : colS m t (k + 1) = colS m t k + gi (gr m k) t := rfl
          rw [s1] at h1'
          rw [s2] at h2'
          have hkd : kd m k t = kdV (gi (gr m k) t) (sumK (gr m k) t) (colS m t k) := rfl
          have hset : (colMid m k t).set t (colS m t k + gi (gr m k) t) = colMid m k (t + 1) := colMid_set htl
          generalize gi (gr m k) t = x at hc2 hkd h1' h2' s1 hset
          generalize sumK (gr m k) t = y at h1 h1' s1 hkd ⊢
          obtain ⟨z, hz⟩ : ∃ z, z = colS m t k := ⟨_, rfl⟩
          rw [← hz] at hcs h2 h2' hkd hset
          have C := Lib.hid (kindOf_any x y z · h1 h2)
          obtain ⟨q, hq⟩ : ∃ q, q = kdV x y z := ⟨_, rfl⟩
          rw [← hq] at hkd C
          have Hkd := Lib.hid hkd
          have HstG := Lib.hid (hst q)
          have hsum1 : OwnI (wr.setCell ⟨g, t, none⟩ (.int .i64 q)).drew H (.slice (some ⟨H, 0, none⟩) m.length m.length) (colMid m k t) := (hsum.setOther (a := ⟨g, t, none⟩) (fun e => by have := (hsum.lt _ e).1; simp at this; omega) (.int .i64 q)).drew
          have hst2 := hsum1.store t (z + x)
          rw [hset] at hst2
          have hcs2 := hsum1.cellAt t htl
          rw [gi_colMid htl, if_neg (by omega), ← hz] at hcs2
          have Hst2 := Lib.hid hst2
          have HG2 := Lib.hid ((HstG.out.drew).setElse (a := ⟨H, t, none⟩) (by intro e; simp [Value.ownBlock] at e; omega) (fun i hi e => by have := Hvlt.out i hi _ e; simp at this) (.int .i64 (z + x)))
          have Hbs := Lib.hid (((hbi.setCell (p := ⟨g, t, none⟩) hg (.int .i64 q)).drew).setCell (p := ⟨H, t, none⟩) (Nat.le_of_lt htop) (.int .i64 (z + x)))
          have Heq := Lib.hid heq
          have Hcol := Lib.hid hcol
          have Hvs := Lib.hid hvs
          have hf3 := hsum1.frozenAt t
          have hdD := cellD hd
          have hd2D := cellD hd2
          have hcsD := cellD hcs
          have hc2D := cellD hc2
          subst e2
          clear hown heq hcol hbi hst hvs hg hgH hq hsum hsum1 hst2 s2 hset hkd hz
          go_upto_region 10 with (fail)
          refine wp_region_still_tail 12 (by kernel_rfl) (by kernel_rfl) ?_
          simp only [List.take_succ_cons, List.take_zero, List.drop_succ_cons, List.drop_zero]
          repeat still_step
          still_call (C.out _)
          repeat still_step
          refine wpStill_nil ?_
          change wpList _ _ _ _ _ wr.drew
          clear hdD hd2D hcsD hc2D hd hcs hc2
          go_wp2
          go_roundw
          case rel =>
            refine ⟨t + 1, _, by omega, by go_num, by rw [s1], Hst2.out, HG2.out, fun a b ha hb => ?_, fun b hb => ?_, Hbs.out⟩
            · rw [if_neg (fun h => by omega)]
              exact Heq.out a b ha hb
            · by_cases e : b = t
              · subst e; rw [if_pos ⟨rfl, rfl⟩]; exact Hkd.out.symm
              · rw [if_neg (fun h => by omega)]
                exact Hcol.out b (by omega)
          case measure => simp [intOf]; omega
        · obtain rfl : t = m.length := by omega
          rw [colMid_next] at hsum
          have Hown := Lib.hid hown
          have Heq := Lib.hid heq
          have Hcol := Lib.hid hcol
          have Hbi := Lib.hid hbi
          have Hsum := Lib.hid hsum
          clear hown heq hcol hbi hsum
          go_wp2
          go_roundw
          case rel =>
            refine ⟨k + 1, f, by omega, by go_num, Hsum.out, Hown.out, fun a b ha hb => ?_, Hbi.out⟩
            by_cases e : a = k
            · subst e; exact Hcol.out b hb
            · exact Heq.out a b (by omega) hb
          case measure => simp [intOf]; omega
    · obtain rfl : k = m.length := by omega
      have e : kinds m = tab m.length m.length f := (eq_tab (kinds_len m) (fun i hi => tab_row hi) (fun i j hi hj => by rw [gi_kinds hi hj, heq i j hi hj]))
      have hfin : OwnM wo w.heap.size (.slice (some ⟨w.heap.size, 0, none⟩) m.length m.length) (kinds m) := ⟨vs, by rw [kinds_len, e]; exact hown⟩
      have Hfin := Lib.hid hfin
      have Hbr := Lib.hid hbr
      clear hown heq e hfin hbr hsum
      go_wp2
      go_ret
      exact ⟨_, rfl, Hfin.out, Hbr.out⟩
end Go.Proofs.YtmkldodkpijfjaaDoor

namespace Go.Proofs.YtmkldodkpijfjaaDoor
open Go.RowKit

/-- six numbers in an array -/
def kcL (f : Nat → Int) : List Value := (List.range 6).map fun k => .int .i64 (f k)
def kc (f : Nat → Int) : Array Value := (kcL f).toArray
def KcAt (w : World) (g : Nat) (f : Nat → Int) : Prop := w.heap[g]? = some (.cells (kc f) 50 (0, 0))
theorem kc_size (f : Nat → Int) : (kc f).size = 6 := by simp [kc, kcL]
theorem kc_at (f : Nat → Int) {k : Nat} (hk : k < 6) : (kc f)[k]? = some (.int .i64 (f k)) := by
  simp only [kc, kcL, List.getElem?_toArray, List.getElem?_map]
  rw [List.getElem?_range hk]
  rfl
theorem kc_congr {f g : Nat → Int} (h : ∀ k, k < 6 → f k = g k) : kc f = kc g := by
  unfold kc kcL
  congr 1
  refine List.map_congr_left fun k hk => ?_
  rw [List.mem_range] at hk
  rw [h k hk]
theorem kc_set (f : Nat → Int) {k : Nat} (hk : k < 6) (x : Int) : (kc f).setIfInBounds k (.int .i64 x) = kc (fun q => if q = k then x else f q) := by
  apply Array.ext_getElem?
  intro j
  rw [Array.getElem?_setIfInBounds]
  by_cases e : k = j
  · subst e
    rw [if_pos rfl, if_pos (by rw [kc_size]; exact hk), kc_at _ hk, if_pos rfl]
  · rw [if_neg e]
    by_cases hj : j < 6
    · rw [kc_at _ hj, kc_at _ hj, if_neg (fun h => e h.symm)]
    · rw [Array.getElem?_eq_none (by rw [kc_size]; omega), Array.getElem?_eq_none (by rw [kc_size]; omega)]
theorem KcAt.cell {w : World} {g : Nat} {f : Nat → Int} (h : KcAt w g f) {k : Nat} (hk : k < 6) : w.cell? ⟨g, k, none⟩ = some (.int .i64 (f k)) := by
  rw [cell_of_row w g _ _ _ _ h, kc_at f hk]
theorem KcAt.frozen {w : World} {g : Nat} {f : Nat → Int} (h : KcAt w g f) (k : Nat) : w.frozen? ⟨g, k, none⟩ = false := frozen_of_row w g k _ _ h
theorem KcAt.store {w : World} {g : Nat} {f : Nat → Int} (h : KcAt w g f) {k : Nat} (hk : k < 6) (x : Int) : KcAt (w.setCell ⟨g, k, none⟩ (.int .i64 x)) g (fun q => if q = k then x else f q) := by
  unfold KcAt
  rw [heap_setCell_same w g _ _ _ _ h, kc_set f hk]
theorem KcAt.lt {w : World} {g : Nat} {f : Nat → Int} (h : KcAt w g f) : g < w.heap.size := lt_of_block h
theorem KcAt.below {w w' : World} {g : Nat} {f : Nat → Int} (h : KcAt w g f) (hb : Below w.heap.size w w') : KcAt w' g f := by
  unfold KcAt
  rw [hb.block g h.lt]
  exact h
theorem KcAt.other {w : World} {g : Nat} {f : Nat → Int} (h : KcAt w g f) {a : Addr} (ha : g ≠ a.block) (v : Value) : KcAt (w.setCell a v) g f := by
  unfold KcAt
  rw [heap_setCell_other w a g v ha]
  exact h
theorem KcAt.congr {w : World} {g : Nat} {f f' : Nat → Int} (h : KcAt w g f) (e : ∀ k, k < 6 → f k = f' k) : KcAt w g f' := by
  unfold KcAt
  rw [← kc_congr e]
  exact h
theorem KcAt.new (w : World) (f : Nat → Int) : KcAt (w.alloc (.cells (kc f) 50)) w.heap.size f := heap_alloc_new w _
theorem KcAt.alloc {w : World} {g : Nat} {f : Nat → Int} (h : KcAt w g f) (o : Obj) : KcAt (w.alloc o) g f := by
  unfold KcAt
  rw [heap_alloc_old w o h.lt]
  exact h
theorem KcAt.setRow {w : World} {g : Nat} {f : Nat → Int} (h : KcAt w g f) (f' : Nat → Int) : KcAt (w.setRow g (kc f')) g f' := setRow_heap w g _ _ _ _ h
theorem Tryd.info_kc : (Tryd.prog.info? 50).map (fun i => (i.zero, i.size)) = some (some (.agg (kc fun _ => 0)), 6) := by kernel_rfl
theorem Tryd.size_kc (f : Nat → Int) : (Tryd.prog.info? 50).map (·.size) = some (kc f).size := by rw [kc_size]; exact (zero_of_info Tryd.info_kc).2
theorem kc_one (f : Nat → Int) : (kc f).all (·.oneCell') = true := by
  rw [Array.all_eq_true]
  intro i hi
  have hi6 : i < 6 := by rw [kc_size] at hi; exact hi
  have := kc_at f hi6
  rw [Array.getElem?_eq_getElem hi] at this
  rw [Option.some.inj this]
  rfl
theorem kc_same (f g : Nat → Int) : (kc f).size = (kc g).size := by rw [kc_size, kc_size]
theorem Tryd.load_kc {w : World} {g : Nat} {f : Nat → Int} (h : KcAt w g f) : (loadVar 50 ⟨g, 0, none⟩).run Tryd.prog w = .ok (.agg (kc f)) w := run_loadVar_row _ _ _ _ _ _ _ h Tryd.underlying50 rfl (Tryd.size_kc f)

set_option maxRecDepth 100000 in
set_option maxHeartbeats 3200000 in
theorem countsOfKinds_any (ao : Option Addr) (c : Nat) (m : List (List Int)) (w : World) (hg : good m) (hm : MatAt w ao m) :
    Calls Tryd.prog 45 #[.slice ao m.length c] w fun e w' => e = .returned (.agg (kc fun q => cntK m q)) ∧ Below w.heap.size w w' := by
  have hn := hg.1.2.1
  have hmx : m.length ≤ 9223372036854775807 := by omega
  have Hg := Lib.hid hg
  have Hm := Lib.hid hm
  clear hg hm
  go_enter Tryd.func45, Tryd.ntmps45
  go_upto_region 2 with (refine wpList_allocT rfl 50 rfl _ _ Tryd.info_kc ?_)
  generalize hW : World.alloc (World.alloc w _) _ = w1
  have hR : KcAt w1 w.heap.size (fun _ => 0) := by rw [← hW]; exact (KcAt.new w _).alloc _
  have hC : KcAt w1 (w.heap.size + 1) (fun _ => 0) := by
    rw [← hW]
    have := KcAt.new (w.alloc (.cells (kc fun _ => 0) 50)) (fun _ => 0)
    simpa using this
  have hB : Below w.heap.size w w1 := by rw [← hW]; exact ((Below.refl _ w).alloc (Nat.le_refl _) _).alloc (by simp) _
  have hsz : w.heap.size + 2 ≤ w1.heap.size := by have := hC.lt; omega
  clear hW
  have HR := Lib.hid hR
  have HC := Lib.hid hC
  have HB := Lib.hid hB
  clear hR hC hB
  go_wp2_with fail
  refine (kindsOf_any ao c m w1 Hg.out (Hm.out.below HB.out)).mono ?_
  rintro e w2 ⟨v, rfl, hv, hb⟩
  obtain ⟨ka, kcap, vsK, rfl, hp, hk1, hk2⟩ := hv.open
  rw [kinds_len] at hp hk1 ⊢
  have HP := Lib.hid hp
  have HR2 := Lib.hid (HR.out.below hb)
  have HC2 := Lib.hid (HC.out.below hb)
  have HB2 := Lib.hid (HB.out.trans (hb.mono (by omega)))
  have hsz2 : w.heap.size + 2 ≤ w2.heap.size := by have := hb.size; omega
  clear hv hb hp HR HC HB
  go_wp2
  go_loopw [11] (fun i wr => ∃ k : Nat, k ≤ m.length ∧ i = .int .i64 k ∧ KcAt wr (w.heap.size + 1) (fun q => cntP m q k 0) ∧ OnlyW (fun g => g = w.heap.size + 1) w2 wr) (fun i _ => m.length - (intOf i).toNat)
  case atStart => exact ⟨0, Nat.zero_le _, rfl, HC2.out.congr (fun k _ => (cntP_zero m k).symm), OnlyW.refl _ _⟩
  case round =>
    obtain ⟨k, hk, rfl, hc, ho⟩ := hrel
    have Hc := Lib.hid hc
    have Ho := Lib.hid ho
    clear hc ho HC2
    by_cases hlt : k < m.length
    · obtain ⟨b1, o1, r1, d1, e0, hc0, hv0, _, _, _⟩ := (HP.out.only Ho.out (fun g e => by have := e; omega)).rowAt hlt
      have hrow2 := HP.out.rows k hlt
      rw [hv0] at hrow2
      rw [kinds_row hlt] at hc0 hrow2
      subst e0
      have Hrow := Lib.hid hrow2
      clear hv0 hrow2
      go_wp2
      go_loopw [17] (fun i wr => ∃ t : Nat, t ≤ m.length ∧ i = .int .i64 t ∧ KcAt wr (w.heap.size + 1) (fun q => cntP m q k t) ∧ OnlyW (fun g => g = w.heap.size + 1) w2 wr) (fun i _ => m.length - (intOf i).toNat)
      case atStart => exact ⟨0, Nat.zero_le _, rfl, Hc.out, Ho.out⟩
      case round =>
        obtain ⟨t, ht, rfl, hc, ho⟩ := hrel
        clear Hc Ho
        by_cases htl : t < m.length
        · obtain ⟨b2, o2, e2, hc2⟩ := own_at (ownsRow_only Hrow.out ho (fun g hg e => by have := (Hrow.out.lt g hg).1; have := e; omega)) t (by rw [kinds_row hlt]; exact htl)
          rw [gi_kinds hlt htl] at hc2
          have hr := kd_range Hg.out hlt htl
          obtain ⟨q, hq⟩ : ∃ q : Nat, kd m k t = (q : Int) := ⟨(kd m k t).toNat, by omega⟩
          have hq6 : q < 6 := by omega
          have hbd := cntP_bd (m := m) q hn (k := k) (t := t) (by omega) (by omega)
          have hcq := hc.cell hq6
          have hfq := hc.frozen q
          have hst := hc.store hq6 (cntP m q k t + 1)
          have hst2 := hst.congr (f' := fun q => cntP m q k (t + 1)) (fun j hj => by
            show (if j = q then cntP m q k t + 1 else cntP m j k t) = cntP m j k (t + 1)
            rw [cntP_step, hq]
            unfold ind
            by_cases e : j = q
            · subst e; rw [if_pos rfl, if_pos rfl]
            · rw [if_neg e, if_neg (by omega)]; omega)
          have Hos := Lib.hid (ho.setCell (p := ⟨w.heap.size + 1, q, none⟩) rfl (.int .i64 (cntP m q k t + 1)))
          rw [hq] at hc2
          obtain ⟨x, hx⟩ : ∃ x, x = cntP m q k t := ⟨_, rfl⟩
          rw [← hx] at hcq hbd hst2 Hos
          have Hst := Lib.hid hst2
          subst e2
          clear hst hst2 hx hq hr hc ho
          go_wp2
          go_roundw
          case rel => exact ⟨t + 1, by omega, by go_num, Hst.out, Hos.out⟩
          case measure => simp [intOf]; omega
        · obtain rfl : t = m.length := by omega
          have Hc := Lib.hid (hc.congr (fun q _ => cntP_row m q k))
          have Ho := Lib.hid ho
          clear hc ho
          go_wp2
          go_roundw
          case rel => exact ⟨k + 1, by omega, by go_num, Hc.out, Ho.out⟩
          case measure => simp [intOf]; omega
    · obtain rfl : k = m.length := by omega
      have HC := Lib.hid (Hc.out.congr (f' := fun q => cntK m q) (fun q _ => cntP_end m q))
      have HRr := Lib.hid (show KcAt wr w.heap.size (fun _ => 0) from by
        have h := HR2.out
        unfold KcAt at h ⊢
        rw [Ho.out.block w.heap.size (fun e => by have := e; omega)]
        exact h)
      have HB := Lib.hid (HB2.out.trans (Ho.out.below (B := w.heap.size) (fun g e => by have := e; omega)))
      clear Hc HR2 HP
      go_wp2_with (first | (refine wpList_loadG rfl 50 _ rfl _ rfl _ _ HC.out Tryd.underlying50 rfl (Tryd.size_kc _) ?_) | (refine wpList_storeG rfl 50 _ _ rfl _ _ _ rfl rfl HRr.out (Tryd.size_kc _) (kc_same _ _) (kc_one _) ?_))
      have HR3 := Lib.hid (HRr.out.setRow (fun q => cntK m q))
      have HB3 := Lib.hid (below_setRowT HB.out (Nat.le_refl _) (kc fun q => cntK m q))
      refine bodyPost_ret (v := .agg (kc fun q => cntK m q)) ?_ rfl ⟨rfl, HB3.out⟩
      exact results_cell_one rfl _ _ w.heap.size _ rfl (Tryd.load_kc HR3.out)
end Go.Proofs.YtmkldodkpijfjaaDoor

namespace Go.Proofs.YtmkldodkpijfjaaDoor
open Go.RowKit

theorem run_index_kc (f : Nat → Int) {k : Nat} (hk : k < 6) (w : World) : (Instr.index 50 (.agg (kc f)) (.int .i64 (k : Int))).run Tryd.prog w = .ok (.int .i64 (f k)) w := by
  obtain rfl | rfl | rfl | rfl | rfl | rfl : k = 0 ∨ k = 1 ∨ k = 2 ∨ k = 3 ∨ k = 4 ∨ k = 5 := by omega
  all_goals kernel_rfl

theorem ints_new (w : World) (xs : List Int) : IntsAt (w.alloc (.cells (xs.map (Value.int .i64)).toArray 3)) (some ⟨w.heap.size, 0, none⟩) xs := fun i hi => ⟨w.heap.size, 0, rfl, by
  rw [Nat.zero_add, cell_new]
  simp [gi, List.getD, hi]⟩

set_option maxRecDepth 100000 in
set_option maxHeartbeats 800000 in
theorem iAllIn_any (ao : Option Addr) (c : Nat) (xs : List Int) (lo hi : Int) (w : World) (hn : xs.length ≤ 1048576) (hx : IntsAt w ao xs) :
    Calls Tryd.prog 72 #[.int .i64 lo, .int .i64 hi, .slice ao xs.length c] w fun e w' => Ans (allIn xs lo hi) e ∧ w = w' := by
  have hmx : xs.length ≤ 9223372036854775807 := by omega
  have Hx := Lib.hid hx
  clear hx
  go_enter Tryd.func72, Tryd.ntmps72
  go_wp2
  go_loop [11] (fun i => ∃ k : Nat, k ≤ xs.length ∧ i = .int .i64 k ∧ ∀ j, j < k → lo ≤ gi xs j ∧ gi xs j ≤ hi) (fun i => xs.length - (intOf i).toNat)
  case atStart => exact ⟨0, Nat.zero_le _, rfl, fun j hj => absurd hj (by omega)⟩
  case round =>
    obtain ⟨k, hk, rfl, hd⟩ := hrel
    have Hd := Lib.hid hd
    clear hd
    by_cases hlt : k < xs.length
    · obtain ⟨b1, o1, rfl, hc1⟩ := Hx.out k hlt
      have Hno := Lib.hid (fun (h : ¬(lo ≤ gi xs k ∧ gi xs k ≤ hi)) (h2 : allIn xs lo hi) => h (h2 k hlt))
      have Hyes := Lib.hid (show (lo ≤ gi xs k ∧ gi xs k ≤ hi) → ∀ j, j < k + 1 → lo ≤ gi xs j ∧ gi xs j ≤ hi from fun h j hj => by
        by_cases e : j = k
        · subst e; exact h
        · exact Hd.out j (by omega))
      obtain ⟨x, hx⟩ : ∃ x, x = gi xs k := ⟨_, rfl⟩
      rw [← hx] at hc1 Hno Hyes
      clear hx
      by_cases h1 : x < lo
      · have hd1 : decide (x < lo) = true := by simpa using h1
        have H := Lib.hid (Hno.out (fun h => by omega))
        clear Hno Hyes h1
        go_wp2
        go_ret
        exact ⟨Ans.no H.out, rfl⟩
      · have hd1 : decide (x < lo) = false := by simpa using h1
        by_cases h2 : hi < x
        · have hd2 : decide (hi < x) = true := by simpa using h2
          have H := Lib.hid (Hno.out (fun h => by omega))
          clear Hno Hyes h1 h2
          go_wp2
          go_ret
          exact ⟨Ans.no H.out, rfl⟩
        · have hd2 : decide (hi < x) = false := by simpa using h2
          have H := Lib.hid (Hyes.out ⟨by omega, by omega⟩)
          clear Hno Hyes h1 h2
          go_wp2
          go_round
          case rel => exact ⟨k + 1, by omega, by go_num, H.out⟩
          case measure => simp [intOf]; omega
    · obtain rfl : k = xs.length := by omega
      go_wp2
      go_ret
      exact ⟨Ans.yes Hd.out, rfl⟩

theorem allIn_oneW (x lo hi : Int) : allIn [x] lo hi ↔ lo ≤ x ∧ x ≤ hi := by
  refine ⟨fun h => h 0 (by simp), fun h i hi => ?_⟩
  obtain rfl : i = 0 := by simpa using hi
  exact h
theorem allIn_three (a b c lo hi : Int) : allIn [a, b, c] lo hi ↔ (lo ≤ a ∧ a ≤ hi) ∧ (lo ≤ b ∧ b ≤ hi) ∧ lo ≤ c ∧ c ≤ hi := by
  constructor
  · intro h; exact ⟨h 0 (by simp), h 1 (by simp), h 2 (by simp)⟩
  · rintro ⟨h1, h2, h3⟩ i hi
    have hi3 : i < 3 := by simpa using hi
    match i, hi3 with
    | 0, _ => exact h1
    | 1, _ => exact h2
    | 2, _ => exact h3

set_option maxRecDepth 100000 in
set_option maxHeartbeats 800000 in
theorem canBeWeighted_any (n : Int) (w : World) :
    Calls Tryd.prog 39 #[.int .i64 n] w fun e w' => Ans (1 ≤ n ∧ n ≤ 4) e ∧ Below w.heap.size w w' := by
  go_enter Tryd.func39, Tryd.ntmps39
  go_wp2_with fail
  refine (iAllIn_any (some ⟨w.heap.size, 0, none⟩) 1 [n] 1 4 _ (by simp) (ints_new w [n])).mono ?_
  rintro e w2 ⟨ha, rfl⟩
  obtain ⟨b, rfl, hb⟩ := ha.iff (allIn_oneW n 1 4)
  have Hb := Lib.hid hb
  clear ha hb
  go_wp2
  go_ret
  exact ⟨⟨b, rfl, Hb.out⟩, (Below.refl _ _).alloc (Nat.le_refl _) _⟩

def isFac (a b c : Int) : Prop := (0 ≤ a ∧ a ≤ 5) ∧ (0 ≤ b ∧ b ≤ 5) ∧ 0 ≤ c ∧ c ≤ 5
/-- what the kinds are worth in pairs -/
def wtP (a b c : Int) : Nat → Int
  | 0 => a
  | 1 => b
  | 2 => b
  | 3 => a
  | 4 => 1
  | _ => c
theorem kc_wtP (a b c : Int) : Tryd.prog.built 50 [(0, .int .i64 a), (1, .int .i64 b), (2, .int .i64 b), (3, .int .i64 a), (4, .int .i64 1), (5, .int .i64 c)] = some (kc (wtP a b c)) := by kernel_rfl
theorem wpList_buildTn {P : Program} {ops : Array Oper} {rest : List Oper} {o : Oper} {a : Act} {w : World} {Q : Exit → Act → World → Prop} (hg : o.guard = none) (t : TypeId) (xs : Array (Nat × Operand)) (ho : o.op = .build t xs)
    (vs : List (Nat × Value)) (hv : (xs.map fun (i, x) => (i, a.eval x)).toList = vs) (cells : Array Value) (hb : P.built t vs = some cells)
    (h : wpList P ops Q rest (a.put o.dst (.agg cells)) w) : wpList P ops Q (o :: rest) a w := by
  refine wpList_build hg t _ ho (by rw [hv, hb]; rfl) ?_
  rw [hv, hb]
  exact h
/-- the weight of a matrix by pairs of kinds -/
def wVal (m : List (List Int)) (a b c : Int) : Int := pw a (cN m 0 + cN m 3) * pw b (cN m 1 + cN m 2) * pw c (cN m 5)
theorem prodW_pairs (m : List (List Int)) (a b c : Int) : prodW (wtP a b c) (cN m) 6 = wVal m a b c := by
  simp only [prodW, wtP, wVal, pw_one, pw_add, Int.one_mul, Int.mul_one]
  simp only [Int.mul_assoc, Int.mul_left_comm, Int.mul_comm]
theorem wtP_le {a b c : Int} (h : isFac a b c) : ∀ q, q < 6 → 0 ≤ wtP a b c q ∧ wtP a b c q ≤ 10 := by
  intro q hq
  obtain ⟨h1, h2, h3⟩ := h
  obtain rfl | rfl | rfl | rfl | rfl | rfl : q = 0 ∨ q = 1 ∨ q = 2 ∨ q = 3 ∨ q = 4 ∨ q = 5 := by omega
  all_goals simp only [wtP]; omega
def okWt (m : List (List Int)) (a b c : Int) : Prop := (good m ∧ m.length ≤ 4) ∧ isFac a b c

end Go.Proofs.YtmkldodkpijfjaaDoor

