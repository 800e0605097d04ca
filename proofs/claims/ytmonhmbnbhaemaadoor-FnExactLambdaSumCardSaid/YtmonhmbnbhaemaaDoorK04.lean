/- Parts of proofs: contracts and plain facts. Conditions: as each says. -/
import Derived.Test.YtmonhmbnbhaemaaDoorK03
import Derived.Deep.RegionWith
namespace Go.Proofs.YtmonhmbnbhaemaaDoor
open Go.RowKit

theorem OwnP.setElse {w : World} {B n k : Nat} {v : Value} {m : List (List Int)} {vs : List Value} (h : OwnP w B v n m k vs) {a : Addr} (ht : v.ownBlock ≠ some a.block) (hr : ∀ i, i < k → (vs.getD i undef).ownBlock ≠ some a.block) (u : Value) : OwnP (w.setCell a u) B v n m k vs :=
  ⟨Go.ownsRow_setCell_other h.top ht u, fun i hi => (h.rows i hi).setOther (hr i hi) u, h.apart⟩

set_option maxRecDepth 100000 in
set_option maxHeartbeats 800000 in
theorem kindOf_any (v b a : Int) (w : World) (hb : 0 ≤ b ∧ b ≤ 1) (ha : 0 ≤ a ∧ a ≤ 1) :
    Calls Tryd.prog 60 #[.int .i64 v, .int .i64 b, .int .i64 a] w fun e w' => e = .returned (.int .i64 (kdV v b a)) ∧ w' = w := by
  unfold kdV
  by_cases h1 : v = 1
  · rw [if_pos h1]
    have hd : (v == 1) = true := by simpa using h1
    clear h1
    go_enter Tryd.func60, Tryd.ntmps60
    go_wp2
    go_ret
    exact ⟨rfl, rfl⟩
  · rw [if_neg h1]
    have hd : (v == 1) = false := by simpa using h1
    by_cases h2 : v = -1
    · rw [if_pos h2]
      have hd2 : (v == -1) = true := by simpa using h2
      clear h1 h2
      go_enter Tryd.func60, Tryd.ntmps60
      go_wp2
      go_ret
      exact ⟨rfl, rfl⟩
    · rw [if_neg h2]
      have hd2 : (v == -1) = false := by simpa using h2
      clear h1 h2
      go_enter Tryd.func60, Tryd.ntmps60
      go_wp2
      go_ret
      exact ⟨rfl, rfl⟩

set_option maxRecDepth 100000 in
set_option maxHeartbeats 3200000 in
theorem kindsOf_any (ao : Option Addr) (c : Nat) (m : List (List Int)) (w : World) (hg : good m) (hm : MatAt w ao m) :
    Calls Tryd.prog 50 #[.slice ao m.length c] w fun e w' => ∃ v, e = .returned v ∧ OwnM w' w.heap.size v (kinds m) ∧ Below w.heap.size w w' := by
  obtain ⟨i0, hi, hz0, hz1, hz2⟩ := info_parts Tryd.info_int
  have hn := hg.1.2.1
  have hmx : m.length ≤ 9223372036854775807 := by omega
  have Hg := Lib.hid hg
  have Hm := Lib.hid hm
  clear hg hm
  go_enter Tryd.func50, Tryd.ntmps50
  go_wp2_with fail
  refine (newGrid_any m.length w (by omega)).mono ?_
  rintro e w1 ⟨vs, rfl, hv, hb⟩
  have hvlt : ∀ i, i < m.length → ∀ g, (vs.getD i undef).ownBlock = some g → g < w1.heap.size := fun i hi g hg => ((hv.rows i hi).lt g hg).2
  have htop : w.heap.size < w1.heap.size := by
    obtain ⟨cur, hcur⟩ := ownsRow_block hv.top
    exact lt_of_block hcur
  have Hv := Lib.hid hv
  have Hb := Lib.hid hb
  have Hvlt := Lib.hid hvlt
  have HB := Lib.hid hb.size
  clear hv hb hvlt
  go_wp2_with (at_make; refine wpList_make_full _ rfl _ _ 33 rfl w1.heap.size 3 i0 (.int .i64 0) 1 Tryd.underlying33 hi hz0 hz1 _ _ _ _ m.length rfl rfl rfl rfl ?c1 ?c2 ?c3 ?_)
  case c1 => rw [hz2]; omega
  case c2 => unfold maxLen; omega
  case c3 => simp
  intro w2 hown hgr
  have hb2 : Below w1.heap.size w1 w2 := (Below.refl _ _).grown hgr (Nat.le_refl _) (fun _ h => by cases h)
  have hsum := OwnI.made hown
  rw [← colMid_zero m] at hsum
  have Hsum := Lib.hid hsum
  have Hv2 := Lib.hid (Hv.out.below hb2)
  have Hb2 := Lib.hid (Hb.out.trans (hb2.mono HB.out))
  obtain ⟨H, hH⟩ : ∃ H, H = w1.heap.size := ⟨_, rfl⟩
  rw [← hH] at Hsum Hvlt htop ⊢
  clear hown hgr hb2 hsum Hb Hv HB hH
  go_wp2
  go_loopw [18] (fun i wr => ∃ (k : Nat) (f : Nat → Nat → Int), k ≤ m.length ∧ i = .int .i64 k ∧ OwnI wr H (.slice (some ⟨H, 0, none⟩) m.length m.length) (colMid m k 0) ∧ OwnP wr w.heap.size (.slice (some ⟨w.heap.size, 0, none⟩) m.length m.length) m.length (tab m.length m.length f) m.length vs ∧
      (∀ a b, a < k → b < m.length → f a b = kd m a b) ∧ Below w.heap.size w wr) (fun i _ => m.length - (intOf i).toNat)
  case atStart => exact ⟨0, _, Nat.zero_le _, rfl, Hsum.out, Hv2.out, fun a b ha _ => absurd ha (by omega), Hb2.out⟩
  case round =>
    obtain ⟨k, f, hk, rfl, hsum, hown, heq, hbr⟩ := hrel
    obtain ⟨wo, rfl⟩ : ∃ wo : World, wo = wr := ⟨_, rfl⟩
    clear Hsum Hv2 Hb2
    by_cases hlt : k < m.length
    · obtain ⟨b1, o1, r1, d1, e0, hc0, hx1, _, _⟩ := Hm.out k hlt
      have hrl : (gr m k).length = m.length := Hg.out.1.2.2 k hlt
      rw [hrl] at hc0
      have hc1 := cell_below hc0 hbr
      subst e0
      have Hrow := Lib.hid hx1
      have Hown := Lib.hid hown
      have Heq := Lib.hid heq
      have Hbr := Lib.hid hbr
      have Hsum := Lib.hid hsum
      clear hown heq hbr hx1 hrl hc0 hsum
      go_wp2
      go_loopw [7, 25] (fun before i wr => ∃ (t : Nat) (f : Nat → Nat → Int), t ≤ m.length ∧ i = .int .i64 t ∧ before = .int .i64 (sumK (gr m k) t) ∧ OwnI wr H (.slice (some ⟨H, 0, none⟩) m.length m.length) (colMid m k t) ∧ OwnP wr w.heap.size (.slice (some ⟨w.heap.size, 0, none⟩) m.length m.length) m.length (tab m.length m.length f) m.length vs ∧
          (∀ a b, a < k → b < m.length → f a b = kd m a b) ∧ (∀ b, b < t → f k b = kd m k b) ∧ Below w.heap.size w wr) (fun _ i _ => m.length - (intOf i).toNat)
      case atStart => exact ⟨0, f, Nat.zero_le _, rfl, rfl, Hsum.out, Hown.out, Heq.out, fun a ha => absurd ha (by omega), Hbr.out⟩
      case round =>
        obtain ⟨t, f, ht, rfl, rfl, hsum, hown, heq, hcol, hbi⟩ := hrel
        clear Hown Heq Hbr Hsum
        by_cases htl : t < m.length
        · obtain ⟨b2, o2, e2, hc2⟩ := Hrow.out.below hbi t (by rw [Hg.out.1.2.2 k hlt]; exact htl)
          have hd := hown.cellAt k hlt
          obtain ⟨g, cap, hvs, hd2, hf2, hg, hst⟩ := hown.at2 hlt htl
          have hgH : g < H := Hvlt.out k hlt g (by rw [hvs]; rfl)
          rw [hvs] at hd
          have hcs := hsum.cellAt t htl
          rw [gi_colMid htl, if_neg (by omega)] at hcs
          have h1 := rowS_01 Hg.out hlt (k := t) (by omega)
          have h1' := rowS_01 Hg.out hlt (k := t + 1) (by omega)
          have h2 := colS_01 Hg.out htl (k := k) (by omega)
          have h2' := colS_01 Hg.out htl (k := k + 1) (by omega)
          have s1 : sumK (gr m k) (t + 1) = sumK (gr m k) t + gi (gr m k) t := rfl
          have s2 : colS m t (k + 1) = colS m t k + gi (gr m k) t := rfl
          rw [s1] at h1'
          rw [s2] at h2'
          have hkd : kd m k t = kdV (gi (gr m k) t) (sumK (gr m k) t) (colS m t k) := rfl
          have hset : (colMid m k t).set t (colS m t k + gi (gr m k) t) = colMid m k (t + 1) := colMid_set htl
          generalize gi (gr m k) t = x at hc2 hkd h1' h2' s1 hset
          generalize sumK (gr m k) t = y at h1 h1' s1 hkd ⊢
          obtain ⟨z, hz⟩ : ∃ z, z = colS m t k := ⟨_, rfl⟩
          rw [← hz] at hcs h2 h2' hkd hset
          have C := Lib.hid (kindOf_any x y z · h1 h2)
          obtain ⟨q, hq⟩ : ∃ q, q = kdV x y z := ⟨_, rfl⟩
          rw [← hq] at hkd C
          have Hkd := Lib.hid hkd
          have HstG := Lib.hid (hst q)
          have hsum1 : OwnI (wr.setCell ⟨g, t, none⟩ (.int .i64 q)).drew H (.slice (some ⟨H, 0, none⟩) m.length m.length) (colMid m k t) := (hsum.setOther (a := ⟨g, t, none⟩) (fun e => by have := (hsum.lt _ e).1; simp at this; omega) (.int .i64 q)).drew
          have hst2 := hsum1.store t (z + x)
          rw [hset] at hst2
          have hcs2 := hsum1.cellAt t htl
          rw [gi_colMid htl, if_neg (by omega), ← hz] at hcs2
          have Hst2 := Lib.hid hst2
          have HG2 := Lib.hid ((HstG.out.drew).setElse (a := ⟨H, t, none⟩) (by intro e; simp [Value.ownBlock] at e; omega) (fun i hi e => by have := Hvlt.out i hi _ e; simp at this) (.int .i64 (z + x)))
          have Hbs := Lib.hid (((hbi.setCell (p := ⟨g, t, none⟩) hg (.int .i64 q)).drew).setCell (p := ⟨H, t, none⟩) (Nat.le_of_lt htop) (.int .i64 (z + x)))
          have Heq := Lib.hid heq
          have Hcol := Lib.hid hcol
          have Hvs := Lib.hid hvs
          have hf3 := hsum1.frozenAt t
          have hdD := cellD hd
          have hd2D := cellD hd2
          have hcsD := cellD hcs
          have hc2D := cellD hc2
          subst e2
          clear hown heq hcol hbi hst hvs hg hgH hq hsum hsum1 hst2 s2 hset hkd hz
          go_upto_region 10 with (fail)
          refine wp_region_still_tail 12 (by kernel_rfl) (by kernel_rfl) ?_
          simp only [List.take_succ_cons, List.take_zero, List.drop_succ_cons, List.drop_zero]
          repeat still_step
          still_call (C.out _)
          repeat still_step
          refine wpStill_nil ?_
          change wpList _ _ _ _ _ wr.drew
          clear hdD hd2D hcsD hc2D hd hcs hc2
          go_wp2
          go_roundw
          case rel =>
            refine ⟨t + 1, _, by omega, by go_num, by rw [s1], Hst2.out, HG2.out, fun a b ha hb => ?_, fun b hb => ?_, Hbs.out⟩
            · rw [if_neg (fun h => by omega)]
              exact Heq.out a b ha hb
            · by_cases e : b = t
              · subst e; rw [if_pos ⟨rfl, rfl⟩]; exact Hkd.out.symm
              · rw [if_neg (fun h => by omega)]
                exact Hcol.out b (by omega)
          case measure => simp [intOf]; omega
        · obtain rfl : t = m.length := by omega
          rw [colMid_next] at hsum
          have Hown := Lib.hid hown
          have Heq := Lib.hid heq
          have Hcol := Lib.hid hcol
          have Hbi := Lib.hid hbi
          have Hsum := Lib.hid hsum
          clear hown heq hcol hbi hsum
          go_wp2
          go_roundw
          case rel =>
            refine ⟨k + 1, f, by omega, by go_num, Hsum.out, Hown.out, fun a b ha hb => ?_, Hbi.out⟩
            by_cases e : a = k
            · subst e; exact Hcol.out b hb
            · exact Heq.out a b (by omega) hb
          case measure => simp [intOf]; omega
    · obtain rfl : k = m.length := by omega
      have e : kinds m = tab m.length m.length f := (eq_tab (kinds_len m) (fun i hi => tab_row hi) (fun i j hi hj => by rw [gi_kinds hi hj, heq i j hi hj]))
      have hfin : OwnM wo w.heap.size (.slice (some ⟨w.heap.size, 0, none⟩) m.length m.length) (kinds m) := ⟨vs, by rw [kinds_len, e]; exact hown⟩
      have Hfin := Lib.hid hfin
      have Hbr := Lib.hid hbr
      clear hown heq e hfin hbr hsum
      go_wp2
      go_ret
      exact ⟨_, rfl, Hfin.out, Hbr.out⟩
end Go.Proofs.YtmonhmbnbhaemaaDoor

namespace Go.Proofs.YtmonhmbnbhaemaaDoor
open Go.RowKit

/-- the answer of a function that hands back a list of numbers and whether there is one -/
def LRes (p : Prop) (r : List Int) (w : World) (B : Nat) (e : Ending) : Prop :=
  ∃ v b r', e = .returned (.tuple #[v, .bool b]) ∧ OwnI w B v r' ∧ ((p ∧ b = true ∧ r' = r) ∨ (¬p ∧ b = false ∧ r' = []))
theorem LRes.yes {p : Prop} {r : List Int} {w : World} {B : Nat} {v : Value} (h : p) (ho : OwnI w B v r) : LRes p r w B (.returned (.tuple #[v, .bool true])) := ⟨v, true, r, rfl, ho, .inl ⟨h, rfl, rfl⟩⟩
theorem LRes.no {p : Prop} {r : List Int} {w : World} {B : Nat} (h : ¬p) : LRes p r w B (.returned (.tuple #[.slice none 0 0, .bool false])) := ⟨_, false, [], rfl, OwnI.nil _ _, .inr ⟨h, rfl, rfl⟩⟩

theorem lres_same {p : Prop} {r ra rb : List Int} {a b : Bool} (h : (p ∧ a = true ∧ ra = r) ∨ (¬p ∧ a = false ∧ ra = [])) (k : (p ∧ b = true ∧ rb = r) ∨ (¬p ∧ b = false ∧ rb = [])) : b = a ∧ rb = ra := by
  rcases k with ⟨h1, h2, h3⟩ | ⟨h1, h2, h3⟩ <;> rcases h with ⟨k1, k2, k3⟩ | ⟨k1, k2, k3⟩
  · exact ⟨h2.trans k2.symm, h3.trans k3.symm⟩
  · exact absurd h1 k1
  · exact absurd k1 h1
  · exact ⟨h2.trans k2.symm, h3.trans k3.symm⟩
end Go.Proofs.YtmonhmbnbhaemaaDoor

namespace Go.Proofs.YtmonhmbnbhaemaaDoor
open Go.RowKit

/-- six numbers in an array -/
def kcL (f : Nat → Int) : List Value := (List.range 6).map fun k => .int .i64 (f k)
def kc (f : Nat → Int) : Array Value := (kcL f).toArray
def KcAt (w : World) (g : Nat) (f : Nat → Int) : Prop := w.heap[g]? = some (.cells (kc f) 49 (0, 0))
theorem kc_size (f : Nat → Int) : (kc f).size = 6 := by simp [kc, kcL]
theorem kc_at (f : Nat → Int) {k : Nat} (hk : k < 6) : (kc f)[k]? = some (.int .i64 (f k)) := by
  simp only [kc, kcL, List.getElem?_toArray, List.getElem?_map]
  rw [List.getElem?_range hk]
  rfl
theorem kc_congr {f g : Nat → Int} (h : ∀ k, k < 6 → f k = g k) : kc f = kc g := by
  unfold kc kcL
  congr 1
  refine List.map_congr_left fun k hk => ?_
  rw [List.mem_range] at hk
  rw [h k hk]
theorem kc_set (f : Nat → Int) {k : Nat} (hk : k < 6) (x : Int) : (kc f).setIfInBounds k (.int .i64 x) = kc (fun q => if q = k then x else f q) := by
  apply Array.ext_getElem?
  intro j
  rw [Array.getElem?_setIfInBounds]
  by_cases e : k = j
  · subst e
    rw [if_pos rfl, if_pos (by rw [kc_size]; exact hk), kc_at _ hk, if_pos rfl]
  · rw [if_neg e]
    by_cases hj : j < 6
    · rw [kc_at _ hj, kc_at _ hj, if_neg (fun h => e h.symm)]
    · rw [Array.getElem?_eq_none (by rw [kc_size]; omega), Array.getElem?_eq_none (by rw [kc_size]; omega)]
theorem KcAt.cell {w : World} {g : Nat} {f : Nat → Int} (h : KcAt w g f) {k : Nat} (hk : k < 6) : w.cell? ⟨g, k, none⟩ = some (.int .i64 (f k)) := by
  rw [cell_of_row w g _ _ _ _ h, kc_at f hk]
theorem KcAt.frozen {w : World} {g : Nat} {f : Nat → Int} (h : KcAt w g f) (k : Nat) : w.frozen? ⟨g, k, none⟩ = false := frozen_of_row w g k _ _ h
theorem KcAt.store {w : World} {g : Nat} {f : Nat → Int} (h : KcAt w g f) {k : Nat} (hk : k < 6) (x : Int) : KcAt (w.setCell ⟨g, k, none⟩ (.int .i64 x)) g (fun q => if q = k then x else f q) := by
  unfold KcAt
  rw [heap_setCell_same w g _ _ _ _ h, kc_set f hk]
theorem KcAt.lt {w : World} {g : Nat} {f : Nat → Int} (h : KcAt w g f) : g < w.heap.size := lt_of_block h
theorem KcAt.below {w w' : World} {g : Nat} {f : Nat → Int} (h : KcAt w g f) (hb : Below w.heap.size w w') : KcAt w' g f := by
  unfold KcAt
  rw [hb.block g h.lt]
  exact h
theorem KcAt.other {w : World} {g : Nat} {f : Nat → Int} (h : KcAt w g f) {a : Addr} (ha : g ≠ a.block) (v : Value) : KcAt (w.setCell a v) g f := by
  unfold KcAt
  rw [heap_setCell_other w a g v ha]
  exact h
theorem KcAt.congr {w : World} {g : Nat} {f f' : Nat → Int} (h : KcAt w g f) (e : ∀ k, k < 6 → f k = f' k) : KcAt w g f' := by
  unfold KcAt
  rw [← kc_congr e]
  exact h
theorem KcAt.new (w : World) (f : Nat → Int) : KcAt (w.alloc (.cells (kc f) 49)) w.heap.size f := heap_alloc_new w _
theorem KcAt.alloc {w : World} {g : Nat} {f : Nat → Int} (h : KcAt w g f) (o : Obj) : KcAt (w.alloc o) g f := by
  unfold KcAt
  rw [heap_alloc_old w o h.lt]
  exact h
theorem KcAt.setRow {w : World} {g : Nat} {f : Nat → Int} (h : KcAt w g f) (f' : Nat → Int) : KcAt (w.setRow g (kc f')) g f' := setRow_heap w g _ _ _ _ h
theorem Tryd.info_kc : (Tryd.prog.info? 49).map (fun i => (i.zero, i.size)) = some (some (.agg (kc fun _ => 0)), 6) := by kernel_rfl
theorem Tryd.size_kc (f : Nat → Int) : (Tryd.prog.info? 49).map (·.size) = some (kc f).size := by rw [kc_size]; exact (zero_of_info Tryd.info_kc).2
theorem kc_one (f : Nat → Int) : (kc f).all (·.oneCell') = true := by
  rw [Array.all_eq_true]
  intro i hi
  have hi6 : i < 6 := by rw [kc_size] at hi; exact hi
  have := kc_at f hi6
  rw [Array.getElem?_eq_getElem hi] at this
  rw [Option.some.inj this]
  rfl
theorem kc_same (f g : Nat → Int) : (kc f).size = (kc g).size := by rw [kc_size, kc_size]
theorem Tryd.load_kc {w : World} {g : Nat} {f : Nat → Int} (h : KcAt w g f) : (loadVar 49 ⟨g, 0, none⟩).run Tryd.prog w = .ok (.agg (kc f)) w := run_loadVar_row _ _ _ _ _ _ _ h Tryd.underlying49 rfl (Tryd.size_kc f)

set_option maxRecDepth 100000 in
set_option maxHeartbeats 3200000 in
theorem countsOfKinds_any (ao : Option Addr) (c : Nat) (m : List (List Int)) (w : World) (hg : good m) (hm : MatAt w ao m) :
    Calls Tryd.prog 38 #[.slice ao m.length c] w fun e w' => e = .returned (.agg (kc fun q => cntK m q)) ∧ Below w.heap.size w w' := by
  have hn := hg.1.2.1
  have hmx : m.length ≤ 9223372036854775807 := by omega
  have Hg := Lib.hid hg
  have Hm := Lib.hid hm
  clear hg hm
  go_enter Tryd.func38, Tryd.ntmps38
  go_upto_region 2 with (refine wpList_allocT rfl 49 rfl _ _ Tryd.info_kc ?_)
  generalize hW : World.alloc (World.alloc w _) _ = w1
  have hR : KcAt w1 w.heap.size (fun _ => 0) := by rw [← hW]; exact (KcAt.new w _).alloc _
  have hC : KcAt w1 (w.heap.size + 1) (fun _ => 0) := by
    rw [← hW]
    have := KcAt.new (w.alloc (.cells (kc fun _ => 0) 49)) (fun _ => 0)
    simpa using this
  have hB : Below w.heap.size w w1 := by rw [← hW]; exact ((Below.refl _ w).alloc (Nat.le_refl _) _).alloc (by simp) _
  have hsz : w.heap.size + 2 ≤ w1.heap.size := by have := hC.lt; omega
  clear hW
  have HR := Lib.hid hR
  have HC := Lib.hid hC
  have HB := Lib.hid hB
  clear hR hC hB
  go_wp2_with fail
  refine (kindsOf_any ao c m w1 Hg.out (Hm.out.below HB.out)).mono ?_
  rintro e w2 ⟨v, rfl, hv, hb⟩
  obtain ⟨ka, kcap, vsK, rfl, hp, hk1, hk2⟩ := hv.open
  rw [kinds_len] at hp hk1 ⊢
  have HP := Lib.hid hp
  have HR2 := Lib.hid (HR.out.below hb)
  have HC2 := Lib.hid (HC.out.below hb)
  have HB2 := Lib.hid (HB.out.trans (hb.mono (by omega)))
  have hsz2 : w.heap.size + 2 ≤ w2.heap.size := by have := hb.size; omega
  clear hv hb hp HR HC HB
  go_wp2
  go_loopw [11] (fun i wr => ∃ k : Nat, k ≤ m.length ∧ i = .int .i64 k ∧ KcAt wr (w.heap.size + 1) (fun q => cntP m q k 0) ∧ OnlyW (fun g => g = w.heap.size + 1) w2 wr) (fun i _ => m.length - (intOf i).toNat)
  case atStart => exact ⟨0, Nat.zero_le _, rfl, HC2.out.congr (fun k _ => (cntP_zero m k).symm), OnlyW.refl _ _⟩
  case round =>
    obtain ⟨k, hk, rfl, hc, ho⟩ := hrel
    have Hc := Lib.hid hc
    have Ho := Lib.hid ho
    clear hc ho HC2
    by_cases hlt : k < m.length
    · obtain ⟨b1, o1, r1, d1, e0, hc0, hv0, _, _, _⟩ := (HP.out.only Ho.out (fun g e => by have := e; omega)).rowAt hlt
      have hrow2 := HP.out.rows k hlt
      rw [hv0] at hrow2
      rw [kinds_row hlt] at hc0 hrow2
      subst e0
      have Hrow := Lib.hid hrow2
      clear hv0 hrow2
      go_wp2
      go_loopw [17] (fun i wr => ∃ t : Nat, t ≤ m.length ∧ i = .int .i64 t ∧ KcAt wr (w.heap.size + 1) (fun q => cntP m q k t) ∧ OnlyW (fun g => g = w.heap.size + 1) w2 wr) (fun i _ => m.length - (intOf i).toNat)
      case atStart => exact ⟨0, Nat.zero_le _, rfl, Hc.out, Ho.out⟩
      case round =>
        obtain ⟨t, ht, rfl, hc, ho⟩ := hrel
        clear Hc Ho
        by_cases htl : t < m.length
        · obtain ⟨b2, o2, e2, hc2⟩ := own_at (ownsRow_only Hrow.out ho (fun g hg e => by have := (Hrow.out.lt g hg).1; have := e; omega)) t (by rw [kinds_row hlt]; exact htl)
          rw [gi_kinds hlt htl] at hc2
          have hr := kd_range Hg.out hlt htl
          obtain ⟨q, hq⟩ : ∃ q : Nat, kd m k t = (q : Int) := ⟨(kd m k t).toNat, by omega⟩
          have hq6 : q < 6 := by omega
          have hbd := cntP_bd (m := m) q hn (k := k) (t := t) (by omega) (by omega)
          have hcq := hc.cell hq6
          have hfq := hc.frozen q
          have hst := hc.store hq6 (cntP m q k t + 1)
          have hst2 := hst.congr (f' := fun q => cntP m q k (t + 1)) (fun j hj => by
            show (if j = q then cntP m q k t + 1 else cntP m j k t) = cntP m j k (t + 1)
            rw [cntP_step, hq]
            unfold ind
            by_cases e : j = q
            · subst e; rw [if_pos rfl, if_pos rfl]
            · rw [if_neg e, if_neg (by omega)]; omega)
          have Hos := Lib.hid (ho.setCell (p := ⟨w.heap.size + 1, q, none⟩) rfl (.int .i64 (cntP m q k t + 1)))
          rw [hq] at hc2
          obtain ⟨x, hx⟩ : ∃ x, x = cntP m q k t := ⟨_, rfl⟩
          rw [← hx] at hcq hbd hst2 Hos
          have Hst := Lib.hid hst2
          subst e2
          clear hst hst2 hx hq hr hc ho
          go_wp2
          go_roundw
          case rel => exact ⟨t + 1, by omega, by go_num, Hst.out, Hos.out⟩
          case measure => simp [intOf]; omega
        · obtain rfl : t = m.length := by omega
          have Hc := Lib.hid (hc.congr (fun q _ => cntP_row m q k))
          have Ho := Lib.hid ho
          clear hc ho
          go_wp2
          go_roundw
          case rel => exact ⟨k + 1, by omega, by go_num, Hc.out, Ho.out⟩
          case measure => simp [intOf]; omega
    · obtain rfl : k = m.length := by omega
      have HC := Lib.hid (Hc.out.congr (f' := fun q => cntK m q) (fun q _ => cntP_end m q))
      have HRr := Lib.hid (show KcAt wr w.heap.size (fun _ => 0) from by
        have h := HR2.out
        unfold KcAt at h ⊢
        rw [Ho.out.block w.heap.size (fun e => by have := e; omega)]
        exact h)
      have HB := Lib.hid (HB2.out.trans (Ho.out.below (B := w.heap.size) (fun g e => by have := e; omega)))
      clear Hc HR2 HP
      go_wp2_with (first | (refine wpList_loadG rfl 49 _ rfl _ rfl _ _ HC.out Tryd.underlying49 rfl (Tryd.size_kc _) ?_) | (refine wpList_storeG rfl 49 _ _ rfl _ _ _ rfl rfl HRr.out (Tryd.size_kc _) (kc_same _ _) (kc_one _) ?_))
      have HR3 := Lib.hid (HRr.out.setRow (fun q => cntK m q))
      have HB3 := Lib.hid (below_setRowT HB.out (Nat.le_refl _) (kc fun q => cntK m q))
      refine bodyPost_ret (v := .agg (kc fun q => cntK m q)) ?_ rfl ⟨rfl, HB3.out⟩
      exact results_cell_one rfl _ _ w.heap.size _ rfl (Tryd.load_kc HR3.out)
end Go.Proofs.YtmonhmbnbhaemaaDoor

namespace Go.Proofs.YtmonhmbnbhaemaaDoor
open Go.RowKit

theorem run_index_kc (f : Nat → Int) {k : Nat} (hk : k < 6) (w : World) : (Instr.index 49 (.agg (kc f)) (.int .i64 (k : Int))).run Tryd.prog w = .ok (.int .i64 (f k)) w := by
  obtain rfl | rfl | rfl | rfl | rfl | rfl : k = 0 ∨ k = 1 ∨ k = 2 ∨ k = 3 ∨ k = 4 ∨ k = 5 := by omega
  all_goals kernel_rfl

theorem ints_new (w : World) (xs : List Int) : IntsAt (w.alloc (.cells (xs.map (Value.int .i64)).toArray 3)) (some ⟨w.heap.size, 0, none⟩) xs := fun i hi => ⟨w.heap.size, 0, rfl, by
  rw [Nat.zero_add, cell_new]
  simp [gi, List.getD, hi]⟩

set_option maxRecDepth 100000 in
set_option maxHeartbeats 800000 in
theorem iAllIn_any (ao : Option Addr) (c : Nat) (xs : List Int) (lo hi : Int) (w : World) (hn : xs.length ≤ 1048576) (hx : IntsAt w ao xs) :
    Calls Tryd.prog 22 #[.int .i64 lo, .int .i64 hi, .slice ao xs.length c] w fun e w' => Ans (allIn xs lo hi) e ∧ w = w' := by
  have hmx : xs.length ≤ 9223372036854775807 := by omega
  have Hx := Lib.hid hx
  clear hx
  go_enter Tryd.func22, Tryd.ntmps22
  go_wp2
  go_loop [11] (fun i => ∃ k : Nat, k ≤ xs.length ∧ i = .int .i64 k ∧ ∀ j, j < k → lo ≤ gi xs j ∧ gi xs j ≤ hi) (fun i => xs.length - (intOf i).toNat)
  case atStart => exact ⟨0, Nat.zero_le _, rfl, fun j hj => absurd hj (by omega)⟩
  case round =>
    obtain ⟨k, hk, rfl, hd⟩ := hrel
    have Hd := Lib.hid hd
    clear hd
    by_cases hlt : k < xs.length
    · obtain ⟨b1, o1, rfl, hc1⟩ := Hx.out k hlt
      have Hno := Lib.hid (fun (h : ¬(lo ≤ gi xs k ∧ gi xs k ≤ hi)) (h2 : allIn xs lo hi) => h (h2 k hlt))
      have Hyes := Lib.hid (show (lo ≤ gi xs k ∧ gi xs k ≤ hi) → ∀ j, j < k + 1 → lo ≤ gi xs j ∧ gi xs j ≤ hi from fun h j hj => by
        by_cases e : j = k
        · subst e; exact h
        · exact Hd.out j (by omega))
      obtain ⟨x, hx⟩ : ∃ x, x = gi xs k := ⟨_, rfl⟩
      rw [← hx] at hc1 Hno Hyes
      clear hx
      by_cases h1 : x < lo
      · have hd1 : decide (x < lo) = true := by simpa using h1
        have H := Lib.hid (Hno.out (fun h => by omega))
        clear Hno Hyes h1
        go_wp2
        go_ret
        exact ⟨Ans.no H.out, rfl⟩
      · have hd1 : decide (x < lo) = false := by simpa using h1
        by_cases h2 : hi < x
        · have hd2 : decide (hi < x) = true := by simpa using h2
          have H := Lib.hid (Hno.out (fun h => by omega))
          clear Hno Hyes h1 h2
          go_wp2
          go_ret
          exact ⟨Ans.no H.out, rfl⟩
        · have hd2 : decide (hi < x) = false := by simpa using h2
          have H := Lib.hid (Hyes.out ⟨by omega, by omega⟩)
          clear Hno Hyes h1 h2
          go_wp2
          go_round
          case rel => exact ⟨k + 1, by omega, by go_num, H.out⟩
          case measure => simp [intOf]; omega
    · obtain rfl : k = xs.length := by omega
      go_wp2
      go_ret
      exact ⟨Ans.yes Hd.out, rfl⟩

theorem allIn_oneW (x lo hi : Int) : allIn [x] lo hi ↔ lo ≤ x ∧ x ≤ hi := by
  refine ⟨fun h => h 0 (by simp), fun h i hi => ?_⟩
  obtain rfl : i = 0 := by simpa using hi
  exact h
theorem allIn_three (a b c lo hi : Int) : allIn [a, b, c] lo hi ↔ (lo ≤ a ∧ a ≤ hi) ∧ (lo ≤ b ∧ b ≤ hi) ∧ lo ≤ c ∧ c ≤ hi := by
  constructor
  · intro h; exact ⟨h 0 (by simp), h 1 (by simp), h 2 (by simp)⟩
  · rintro ⟨h1, h2, h3⟩ i hi
    have hi3 : i < 3 := by simpa using hi
    match i, hi3 with
    | 0, _ => exact h1
    | 1, _ => exact h2
    | 2, _ => exact h3

def isFac (a b c : Int) : Prop := (0 ≤ a ∧ a ≤ 5) ∧ (0 ≤ b ∧ b ≤ 5) ∧ 0 ≤ c ∧ c ≤ 5
set_option maxRecDepth 100000 in
set_option maxHeartbeats 800000 in
theorem power_any (x : Int) (k : Nat) (w : World) (hk : k ≤ 1000) (hb : ∀ j, j ≤ k → 0 ≤ pw x j ∧ pw x j ≤ 4000000000000000000) :
    Calls Tryd.prog 39 #[.int .i64 x, .int .i64 (k : Int)] w fun e w' => e = .returned (.int .i64 (pw x k)) ∧ w' = w := by
  have Hb := Lib.hid hb
  clear hb
  go_enter Tryd.func39, Tryd.ntmps39
  go_wp2
  go_loop [5, 7] (fun p i => ∃ t : Nat, t ≤ k ∧ i = .int .i64 t ∧ p = .int .i64 (pw x t)) (fun _ i => k - (intOf i).toNat)
  case atStart => exact ⟨0, Nat.zero_le _, rfl, rfl⟩
  case round =>
    obtain ⟨t, ht, rfl, rfl⟩ := hrel
    by_cases hlt : t < k
    · have h1 := Hb.out t (by omega)
      have h2 := Hb.out (t + 1) (by omega)
      have S := Lib.hid (pw_succ x t)
      rw [S.out] at h2
      obtain ⟨p, hp⟩ : ∃ p, p = pw x t := ⟨_, rfl⟩
      rw [← hp] at h1 h2 S ⊢
      obtain ⟨q, hq⟩ : ∃ q, q = p * x := ⟨_, rfl⟩
      have hw : IntKind.i64.wrap (p * x) = q := by rw [← hq]; exact w64 (by omega)
      rw [← hq] at S h2
      clear hp hq
      go_wp2
      go_round
      case rel => exact ⟨t + 1, by omega, by go_num, by rw [S.out]⟩
      case measure => simp [intOf]; omega
    · obtain rfl : t = k := by omega
      go_wp2
      go_ret
      exact ⟨rfl, rfl⟩
set_option maxRecDepth 100000 in
set_option maxHeartbeats 3200000 in
theorem weightOfPlaces1_any (ao : Option Addr) (c g : Nat) (wt : Nat → Int) (m : List (List Int)) (w : World) (hg : good m) (h4 : m.length ≤ 4) (hwt : ∀ q, q < 6 → 0 ≤ wt q ∧ wt q ≤ 10) (hm : MatAt w ao m) (hk : KcAt w g wt) :
    Calls Tryd.prog 37 #[.slice ao m.length c, .pointer (some ⟨g, 0, none⟩)] w fun e w' => e = .returned (.int .i64 (prodW wt (cN m) 6)) ∧ Below w.heap.size w w' := by
  have Hg := Lib.hid hg
  have Hm := Lib.hid hm
  have Hk := Lib.hid hk
  have Hwt := Lib.hid hwt
  have Hc := Lib.hid (sumC_cN hg h4)
  have hn := hg.1.2.1
  clear hg hm hk hwt
  go_enter Tryd.func37, Tryd.ntmps37
  go_wp2_with fail
  refine (countsOfKinds_any ao c m w Hg.out Hm.out).mono ?_
  rintro e w2 ⟨rfl, hb⟩
  have Hk2 := Lib.hid (Hk.out.below hb)
  have Hb := Lib.hid hb
  clear hb Hk
  go_wp2
  go_loop [4, 9] (fun p i => ∃ k : Nat, k ≤ 6 ∧ i = .int .i64 k ∧ p = .int .i64 (prodW wt (cN m) k)) (fun _ i => 6 - (intOf i).toNat)
  case atStart => exact ⟨0, Nat.zero_le _, rfl, rfl⟩
  case round =>
    obtain ⟨k, hk, rfl, rfl⟩ := hrel
    by_cases hlt : k < 6
    · have hix := run_index_kc (fun q => cntK m q) hlt
      rw [cN_eq hn k] at hix
      have hcw := Hk2.out.cell hlt
      have hw10 := Hwt.out k hlt
      have hc16 : cN m k ≤ 16 := by
        have h1 := Hc.out
        have h2 := sumC_mono (c := cN m) (show k + 1 ≤ 6 by omega)
        simp only [sumC] at h1 h2
        omega
      have hp1 := prodW_small Hwt.out Hc.out (k := k) (by omega)
      have hp2 := prodW_small Hwt.out Hc.out (k := k + 1) (by omega)
      have S := Lib.hid (show prodW wt (cN m) (k + 1) = prodW wt (cN m) k * pw (wt k) (cN m k) from rfl)
      rw [S.out] at hp2
      have C := Lib.hid (fun w => power_any (wt k) (cN m k) w (by omega) (fun j hj => by
        have := pw_small hw10 (k := j) (by omega)
        omega))
      obtain ⟨n, hn⟩ : ∃ n, n = cN m k := ⟨_, rfl⟩
      obtain ⟨x, hx⟩ : ∃ x, x = wt k := ⟨_, rfl⟩
      obtain ⟨p, hp⟩ : ∃ p, p = prodW wt (cN m) k := ⟨_, rfl⟩
      obtain ⟨y, hy⟩ : ∃ y, y = pw x n := ⟨_, rfl⟩
      rw [← hn] at hix hc16
      rw [← hx] at hcw
      rw [← hx, ← hn, ← hp, ← hy] at hp2 S
      rw [← hx, ← hn, ← hy] at C
      rw [← hp] at hp1 ⊢
      obtain ⟨z, hz⟩ : ∃ z, z = p * y := ⟨_, rfl⟩
      have hw : IntKind.i64.wrap (p * y) = z := by rw [← hz]; exact w64 (by omega)
      rw [← hz] at S hp2
      clear hn hx hp hy hz hw10
      go_wp2_with fail
      refine (C.out _).mono ?_
      rintro e w3 ⟨rfl, rfl⟩
      go_wp2
      go_round
      case rel => exact ⟨k + 1, by omega, by go_num, by rw [S.out]⟩
      case measure => simp [intOf]; omega
    · obtain rfl : k = 6 := by omega
      go_wp2
      go_ret
      exact ⟨rfl, Hb.out⟩

/-- a weight: a closure over what the kinds are worth -/
def wFun (g : Nat) : Value := .func (.func 37) #[] #[.pointer (some ⟨g, 0, none⟩)]
set_option maxRecDepth 100000 in
set_option maxHeartbeats 800000 in
theorem weightOfPlaces_any (wt : Nat → Int) (w : World) :
    Calls Tryd.prog 23 #[.agg (kc wt)] w fun e w' => e = .returned (wFun w.heap.size) ∧ KcAt w' w.heap.size wt ∧ Below w.heap.size w w' := by
  go_enter Tryd.func23, Tryd.ntmps23
  go_upto_region 1 with (refine wpList_boxT rfl 49 _ rfl _ rfl ?_)
  have H := Lib.hid (KcAt.new w wt)
  have HB := Lib.hid ((Below.refl _ w).alloc (Nat.le_refl _) (.cells (kc wt) 49))
  go_wp2
  go_ret
  exact ⟨rfl, H.out, HB.out⟩

/-- what the kinds are worth in pairs -/
def wtP (a b c : Int) : Nat → Int
  | 0 => a
  | 1 => b
  | 2 => b
  | 3 => a
  | 4 => 1
  | _ => c
theorem kc_wtP (a b c : Int) : Tryd.prog.built 49 [(0, .int .i64 a), (1, .int .i64 b), (2, .int .i64 b), (3, .int .i64 a), (4, .int .i64 1), (5, .int .i64 c)] = some (kc (wtP a b c)) := by kernel_rfl
theorem wpList_buildTn {P : Program} {ops : Array Oper} {rest : List Oper} {o : Oper} {a : Act} {w : World} {Q : Exit → Act → World → Prop} (hg : o.guard = none) (t : TypeId) (xs : Array (Nat × Operand)) (ho : o.op = .build t xs)
    (vs : List (Nat × Value)) (hv : (xs.map fun (i, x) => (i, a.eval x)).toList = vs) (cells : Array Value) (hb : P.built t vs = some cells)
    (h : wpList P ops Q rest (a.put o.dst (.agg cells)) w) : wpList P ops Q (o :: rest) a w := by
  refine wpList_build hg t _ ho (by rw [hv, hb]; rfl) ?_
  rw [hv, hb]
  exact h
/-- the weight of a matrix by pairs of kinds -/
def wVal (m : List (List Int)) (a b c : Int) : Int := pw a (cN m 0 + cN m 3) * pw b (cN m 1 + cN m 2) * pw c (cN m 5)
theorem prodW_pairs (m : List (List Int)) (a b c : Int) : prodW (wtP a b c) (cN m) 6 = wVal m a b c := by
  simp only [prodW, wtP, wVal, pw_one, pw_add, Int.one_mul, Int.mul_one]
  simp only [Int.mul_assoc, Int.mul_left_comm, Int.mul_comm]
theorem wtP_le {a b c : Int} (h : isFac a b c) : ∀ q, q < 6 → 0 ≤ wtP a b c q ∧ wtP a b c q ≤ 10 := by
  intro q hq
  obtain ⟨h1, h2, h3⟩ := h
  obtain rfl | rfl | rfl | rfl | rfl | rfl : q = 0 ∨ q = 1 ∨ q = 2 ∨ q = 3 ∨ q = 4 ∨ q = 5 := by omega
  all_goals simp only [wtP]; omega
def okWt (m : List (List Int)) (a b c : Int) : Prop := (good m ∧ m.length ≤ 4) ∧ isFac a b c

end Go.Proofs.YtmonhmbnbhaemaaDoor

namespace Go.Proofs.YtmonhmbnbhaemaaDoor
open Go.RowKit

set_option maxRecDepth 100000 in
set_option maxHeartbeats 3200000 in
theorem powerOf_any (a1 a2 : Option Addr) (c1 c2 : Nat) (m t : List (List Int)) (w : World) (hok : okPw m t) (hm : MatAt w a1 m) (ht : MatAt w a2 t) :
    Calls Tryd.prog 28 #[.slice a1 m.length c1, .slice a2 t.length c2] w fun e w' => e = .returned (.agg (rtA (pwR m t))) ∧ Below w.heap.size w w' := by
  have hn := hok.1.1.1.2.1
  have hl := hok.2
  have h4 := hok.1.2.1
  have hmx : m.length ≤ 9223372036854775807 := by omega
  have Hok := Lib.hid hok
  have Hm := Lib.hid hm
  have Ht := Lib.hid ht
  have Hl := Lib.hid hl
  clear hok hm ht hl
  go_enter Tryd.func28, Tryd.ntmps28
  go_upto_region 1 with (refine wpList_allocT rfl 25 rfl _ _ Tryd.info_rt ?_)
  generalize hW : World.alloc w _ = w1
  have HR1 := Lib.hid (show RtAt w1 w.heap.size (0, 0) by rw [← hW]; exact RtAt.new w (0, 0))
  have HB1 := Lib.hid (show Below w.heap.size w w1 by rw [← hW]; exact (Below.refl _ w).alloc (Nat.le_refl _) _)
  clear hW
  go_wp2_with fail
  refine (whole_any 1 w1).mono ?_
  rintro e w2 ⟨rfl, hb⟩
  have HR2 := Lib.hid (HR1.out.below hb)
  have HB2 := Lib.hid (HB1.out.trans (hb.mono HB1.out.size))
  clear hb HR1 HB1
  go_upto_region 2 with (first | (refine wpList_allocT rfl 25 rfl _ _ Tryd.info_rt ?_) | (refine wpList_storeT rfl 25 _ _ rfl (rtA (1, 1)) (rtA (0, 0)) _ rfl rfl rfl (Tryd.size_rt _) (rt_same _ _) (rt_one _) ?_))
  generalize hW : World.alloc w2 _ = w3
  obtain ⟨H, hH⟩ : ∃ H, H = w2.heap.size := ⟨_, rfl⟩
  have HC3 := Lib.hid (show RtAt w3 H (1, 1) by rw [← hW, hH]; exact RtAt.new w2 (1, 1))
  have HR3 := Lib.hid (show RtAt w3 w.heap.size (0, 0) by rw [← hW]; exact HR2.out.alloc _)
  have HB3 := Lib.hid (show Below w.heap.size w w3 by rw [← hW]; exact HB2.out.alloc HB2.out.size _)
  have hHw : w.heap.size < H := by rw [hH]; exact HR2.out.lt
  rw [← hH]
  clear hW hH HR2 HB2
  go_wp2
  go_loopw [13] (fun i wr => ∃ k : Nat, k ≤ m.length ∧ i = .int .i64 k ∧ RtAt wr H (nrm (prd 1 m t k 0) (prd (-1) m t k 0)) ∧ RtAt wr w.heap.size (0, 0) ∧ Below w.heap.size w wr) (fun i _ => m.length - (intOf i).toNat)
  case atStart => exact ⟨0, Nat.zero_le _, rfl, by rw [prd_zero, prd_zero]; exact HC3.out, HR3.out, HB3.out⟩
  case round =>
    obtain ⟨k, hk, rfl, hc, hr, hbr⟩ := hrel
    have Hc := Lib.hid hc
    have Hr := Lib.hid hr
    have Hbr := Lib.hid hbr
    clear hc hr hbr HC3 HR3 HB3
    obtain ⟨wo, rfl⟩ : ∃ wo : World, wo = wr := ⟨_, rfl⟩
    by_cases hlt : k < m.length
    · obtain ⟨b1, o1, r1, d1, e0, hc0, hx1, _, _⟩ := Hm.out k hlt
      have hltt : k < t.length := by have := Hl.out; omega
      obtain ⟨b3, o3, r3, d3, e3, hc3, hx3, _, _⟩ := Ht.out k hltt
      have hrl : (gr m k).length = m.length := Hok.out.1.1.1.2.2 k hlt
      have hrl3 : (gr t k).length = m.length := by rw [(Hok.out.1.2.2 k hltt).1, Hl.out]
      rw [hrl] at hc0
      rw [hrl3] at hc3
      have hc1 := cell_below hc0 Hbr.out
      subst e0
      subst e3
      have Hrow := Lib.hid hx1
      have Hrow3 := Lib.hid hx3
      have Hrl := Lib.hid hrl
      have Hrl3 := Lib.hid hrl3
      have Hc3 := Lib.hid hc3
      clear hx1 hx3 hrl hrl3 hc0 hc3
      go_wp2
      go_loopw [20] (fun i wr => ∃ j : Nat, j ≤ m.length ∧ i = .int .i64 j ∧ RtAt wr H (nrm (prd 1 m t k j) (prd (-1) m t k j)) ∧ RtAt wr w.heap.size (0, 0) ∧ Below w.heap.size w wr) (fun i _ => m.length - (intOf i).toNat)
      case atStart => exact ⟨0, Nat.zero_le _, rfl, Hc.out, Hr.out, Hbr.out⟩
      case round =>
        obtain ⟨j, hj, rfl, hc, hr, hbi⟩ := hrel
        clear Hc Hr Hbr
        by_cases hjl : j < m.length
        · obtain ⟨b2, o2, e2, hc2⟩ := Hrow.out.below hbi j (by rw [Hrl.out]; exact hjl)
          obtain ⟨b4, o4, e4, hc4⟩ := Hrow3.out.below hbi j (by rw [Hrl3.out]; exact hjl)
          have hc3 := cell_below Hc3.out hbi
          subst e2
          subst e4
          obtain ⟨hy, hy1, hy4⟩ := eN_eq Hok.out.1.2 hltt (show j < t.length by have := Hl.out; omega)
          rw [hy] at hc4
          have hN := prd_bd (s := 1) Hok.out.1.2 Hl.out hltt (show j ≤ t.length by have := Hl.out; omega)
          have hD := prd_bd (s := -1) Hok.out.1.2 Hl.out hltt (show j ≤ t.length by have := Hl.out; omega)
          have HS1 := Lib.hid (show gi (gr m k) j = 1 → prd 1 m t k (j + 1) = prd 1 m t k j * eN t k j ∧ prd (-1) m t k (j + 1) = prd (-1) m t k j from fun h => ⟨prd_yes h, prd_no (by rw [h]; decide)⟩)
          have HS2 := Lib.hid (show gi (gr m k) j = -1 → prd 1 m t k (j + 1) = prd 1 m t k j ∧ prd (-1) m t k (j + 1) = prd (-1) m t k j * eN t k j from fun h => ⟨prd_no (by rw [h]; decide), prd_yes h⟩)
          have HS0 := Lib.hid (show gi (gr m k) j ≠ 1 → gi (gr m k) j ≠ -1 → prd 1 m t k (j + 1) = prd 1 m t k j ∧ prd (-1) m t k (j + 1) = prd (-1) m t k j from fun h h' => ⟨prd_no h, prd_no h'⟩)
          obtain ⟨x, hx⟩ : ∃ x, x = gi (gr m k) j := ⟨_, rfl⟩
          obtain ⟨y, hyy⟩ : ∃ y, y = eN t k j := ⟨_, rfl⟩
          obtain ⟨N, hNN⟩ : ∃ N, N = prd 1 m t k j := ⟨_, rfl⟩
          obtain ⟨D, hDD⟩ : ∃ D, D = prd (-1) m t k j := ⟨_, rfl⟩
          rw [← hx] at hc2 HS0 HS1 HS2
          rw [← hyy] at hc4 hy1 hy4 HS1 HS2
          rw [← hNN] at hN hc HS0 HS1 HS2
          rw [← hDD] at hD hc HS0 HS1 HS2
          have hle := nrm_le N D
          have hcop := nrm_cop (p := N) (q := D) (by omega)
          have Hpos := Lib.hid hcop.2
          have c50 := hc.c0
          have c51 := hc.c1
          obtain ⟨A, hA⟩ : ∃ A, A = nrm N D := ⟨_, rfl⟩
          have HA := Lib.hid hA
          have HD := Lib.hid hD
          rw [← hA] at hle Hpos c50 c51 hc
          obtain ⟨A1, A2⟩ := A
          simp only at hle Hpos c50 c51
          have Hc := Lib.hid hc
          have Hr := Lib.hid hr
          have Hbi := Lib.hid hbi
          clear hx hyy hNN hDD hcop hA hc hr hbi hy hD
          by_cases e1 : x = 1
          · have hb1 : (x == 1) = true := by simpa using e1
            obtain ⟨S1, S2'⟩ := HS1.out e1
            have HT := Lib.hid (And.intro S1 S2')
            clear e1 HS0 HS1 HS2 S1 S2'
            have hp1 : A1 * y ≤ 4000000000000000000 := Nat.le_trans (Nat.mul_le_mul hle.1 hy4) (by omega)
            have hq1 : A2 * 1 ≤ 4000000000000000000 := by have := HD.out.2; omega
            have hq0 : 0 < A2 * 1 := by have := Hpos.out; omega
            have CT := Lib.hid (fun w => times_any (A1, A2) (y, 1) w hq0 hp1 hq1)
            have Hres := Lib.hid (show tm (A1, A2) (y, 1) = nrm (N * y) D by rw [HA.out]; exact tm_whole (by have := HD.out.1; omega) y)
            obtain ⟨⟨R1, R2⟩, hR⟩ : ∃ R, R = nrm (N * y) D := ⟨_, rfl⟩
            rw [Hres.out, ← hR] at CT
            have HRR := Lib.hid hR
            clear hR
            have CT2 : ∀ w, Calls Tryd.prog 27 #[.agg #[.int .i64 (A1 : Int), .int .i64 (A2 : Int)], .agg #[.int .i64 (y : Int), .int .i64 1]] w fun e w' => e = .returned (.agg #[.int .i64 (R1 : Int), .int .i64 (R2 : Int)]) ∧ Below w.heap.size w w' := CT.out
            have CT3 := Lib.hid CT2
            clear CT CT2
            clear hp1 hq1 hq0 hle hN
            have hfacts : ∀ w'', Below wr.heap.size wr w'' → w''.cell? ⟨H, 0, none⟩ = some (.int .i64 (A1 : Int)) ∧ w''.cell? ⟨H, 1, none⟩ = some (.int .i64 (A2 : Int)) ∧ w''.cell? ⟨b3, o3 + k, none⟩ = some (.slice (some ⟨b4, o4, none⟩) m.length d3) ∧ w''.cell? ⟨b4, o4 + j, none⟩ = some (.int .i64 (y : Int)) ∧ w''.frozen? ⟨H, 0, none⟩ = false ∧ w''.frozen? ⟨H, 1, none⟩ = false := fun w'' hb =>
              ⟨cell_below c50 hb, cell_below c51 hb, cell_below hc3 hb, cell_below hc4 hb, frozen_of_row w'' H 0 _ _ (Hc.out.below hb), frozen_of_row w'' H 1 _ _ (Hc.out.below hb)⟩
            have Hfacts := Lib.hid hfacts
            have CW : ∀ w, Calls Tryd.prog 24 #[.int .i64 (y : Int)] w fun e w' => e = .returned (.agg #[.int .i64 (y : Int), .int .i64 1]) ∧ Below w.heap.size w w' := fun w => whole_any y w
            have CW := Lib.hid CW
            clear hfacts
            go_wp2
            go_region_with (first
              | (go_at_call 24; refine (CW.out _).mono ?_; rintro e w5 ⟨rfl, hb5⟩; obtain ⟨q0, q1, q2, q3, _, _⟩ := Hfacts.out w5 ((below_drewN (Below.refl _ _) 1).trans hb5); have HB5 := Lib.hid ((below_drewN (Below.refl wr.heap.size wr) 1).trans hb5); clear hb5)
              | (go_at_call 27; refine (CT3.out _).mono ?_; rintro e w6 ⟨rfl, hb6⟩; have HB6 := Lib.hid (HB5.out.trans (hb6.mono HB5.out.size)); clear hb6; obtain ⟨s0, s1, _, _, s2, s3⟩ := Hfacts.out w6 HB6.out))
            all_goals
              have HCn := Lib.hid ((Hc.out.below HB6.out).put R1 R2)
              have HRn := Lib.hid ((Hr.out.below HB6.out).putOther (g' := H) (by omega) (.int .i64 (R1 : Int)) (.int .i64 (R2 : Int)))
              have HBn := Lib.hid (((Hbi.out.trans (HB6.out.mono Hbi.out.size)).setCell (p := ⟨H, 0, none⟩) (Nat.le_of_lt hHw) (.int .i64 (R1 : Int))).setCell (p := ⟨H, 1, none⟩) (Nat.le_of_lt hHw) (.int .i64 (R2 : Int)))
              clear q0 q1 q2 q3 s0 s1 s2 s3 hc1 hc2 hc3 hc4 c50 c51 CW CT3 Hfacts
              go_wp2
              go_roundw
              case rel => exact ⟨j + 1, by omega, by go_num, by rw [HT.out.1, HT.out.2, ← HRR.out]; exact HCn.out, HRn.out, HBn.out⟩
              case measure => simp [intOf]; omega
          · have hb1 : (x == 1) = false := by simpa using e1
            by_cases e2 : x = -1
            · have hb2 : (x == -1) = true := by simpa using e2
              obtain ⟨S1, S2'⟩ := HS2.out e2
              have HT := Lib.hid (And.intro S1 S2')
              clear e1 e2 HS0 HS1 HS2 S1 S2'
              have hp1 : A1 * 1 ≤ 4000000000000000000 := by omega
              have hq1 : A2 * y ≤ 4000000000000000000 := by have h1 := HD.out.2; exact Nat.le_trans (Nat.mul_le_mul hle.2 hy4) (by omega)
              have hq0 : 0 < A2 * y := Nat.mul_pos Hpos.out hy1
              have CT := Lib.hid (fun w => over_any (A1, A2) (y, 1) w hq0 hp1 hq1)
              have Hres := Lib.hid (show ov (A1, A2) (y, 1) = nrm N (D * y) by rw [HA.out]; exact ov_whole (by have := HD.out.1; omega) y)
              obtain ⟨⟨R1, R2⟩, hR⟩ : ∃ R, R = nrm N (D * y) := ⟨_, rfl⟩
              rw [Hres.out, ← hR] at CT
              have HRR := Lib.hid hR
              clear hR
              have CT2 : ∀ w, Calls Tryd.prog 45 #[.agg #[.int .i64 (A1 : Int), .int .i64 (A2 : Int)], .agg #[.int .i64 (y : Int), .int .i64 1]] w fun e w' => e = .returned (.agg #[.int .i64 (R1 : Int), .int .i64 (R2 : Int)]) ∧ Below w.heap.size w w' := CT.out
              have CT3 := Lib.hid CT2
              clear CT CT2
              clear hp1 hq1 hq0 hle hN
              have hfacts : ∀ w'', Below wr.heap.size wr w'' → w''.cell? ⟨H, 0, none⟩ = some (.int .i64 (A1 : Int)) ∧ w''.cell? ⟨H, 1, none⟩ = some (.int .i64 (A2 : Int)) ∧ w''.cell? ⟨b3, o3 + k, none⟩ = some (.slice (some ⟨b4, o4, none⟩) m.length d3) ∧ w''.cell? ⟨b4, o4 + j, none⟩ = some (.int .i64 (y : Int)) ∧ w''.frozen? ⟨H, 0, none⟩ = false ∧ w''.frozen? ⟨H, 1, none⟩ = false := fun w'' hb =>
                ⟨cell_below c50 hb, cell_below c51 hb, cell_below hc3 hb, cell_below hc4 hb, frozen_of_row w'' H 0 _ _ (Hc.out.below hb), frozen_of_row w'' H 1 _ _ (Hc.out.below hb)⟩
              have Hfacts := Lib.hid hfacts
              have CW : ∀ w, Calls Tryd.prog 24 #[.int .i64 (y : Int)] w fun e w' => e = .returned (.agg #[.int .i64 (y : Int), .int .i64 1]) ∧ Below w.heap.size w w' := fun w => whole_any y w
              have CW := Lib.hid CW
              clear hfacts
              go_wp2
              go_region_with (first
                | (go_at_call 24; refine (CW.out _).mono ?_; rintro e w5 ⟨rfl, hb5⟩; obtain ⟨q0, q1, q2, q3, _, _⟩ := Hfacts.out w5 ((below_drewN (Below.refl _ _) 1).trans hb5); have HB5 := Lib.hid ((below_drewN (Below.refl wr.heap.size wr) 1).trans hb5); clear hb5)
                | (go_at_call 45; refine (CT3.out _).mono ?_; rintro e w6 ⟨rfl, hb6⟩; have HB6 := Lib.hid (HB5.out.trans (hb6.mono HB5.out.size)); clear hb6; obtain ⟨s0, s1, _, _, s2, s3⟩ := Hfacts.out w6 HB6.out))
              all_goals
                have HCn := Lib.hid ((Hc.out.below HB6.out).put R1 R2)
                have HRn := Lib.hid ((Hr.out.below HB6.out).putOther (g' := H) (by omega) (.int .i64 (R1 : Int)) (.int .i64 (R2 : Int)))
                have HBn := Lib.hid (((Hbi.out.trans (HB6.out.mono Hbi.out.size)).setCell (p := ⟨H, 0, none⟩) (Nat.le_of_lt hHw) (.int .i64 (R1 : Int))).setCell (p := ⟨H, 1, none⟩) (Nat.le_of_lt hHw) (.int .i64 (R2 : Int)))
                clear q0 q1 q2 q3 s0 s1 s2 s3 hc1 hc2 hc3 hc4 c50 c51 CW CT3 Hfacts
                go_wp2
                go_roundw
                case rel => exact ⟨j + 1, by omega, by go_num, by rw [HT.out.1, HT.out.2, ← HRR.out]; exact HCn.out, HRn.out, HBn.out⟩
                case measure => simp [intOf]; omega
            · have hb2 : (x == -1) = false := by simpa using e2
              obtain ⟨S1, S2'⟩ := HS0.out e1 e2
              have HC0 := Lib.hid (show RtAt wr H (nrm (prd 1 m t k (j + 1)) (prd (-1) m t k (j + 1))) by rw [S1, S2', ← HA.out]; exact Hc.out)
              clear e1 e2 HS0 HS1 HS2 S1 S2' hc1 hc3 hc4 c50 c51 hle hN
              go_wp2
              go_roundw
              case rel => exact ⟨j + 1, by omega, by go_num, HC0.out, Hr.out, Hbi.out⟩
              case measure => simp [intOf]; omega
        · obtain rfl : j = m.length := by omega
          rw [prd_row, prd_row] at hc
          have Hc := Lib.hid hc
          have Hr := Lib.hid hr
          have Hbi := Lib.hid hbi
          clear hc hr hbi
          go_wp2
          go_roundw
          case rel => exact ⟨k + 1, by omega, by go_num, Hc.out, Hr.out, Hbi.out⟩
          case measure => simp [intOf]; omega
    · obtain rfl : k = m.length := by omega
      have HC := Lib.hid (show RtAt wo H (pwR m t) by have := Hc.out; rw [prd_end, prd_end] at this; exact this)
      clear Hc
      go_wp2_with (first | (refine wpList_loadG rfl 25 _ rfl _ rfl _ _ HC.out Tryd.underlying25 rfl (Tryd.size_rt _) ?_) | (refine wpList_storeG rfl 25 _ _ rfl _ (rtA (pwR m t)) _ rfl rfl Hr.out (Tryd.size_rt _) (rt_same _ _) (rt_one _) ?_))
      have HR3 := Lib.hid (Hr.out.setRow (pwR m t))
      have HB3 := Lib.hid (below_setRowT Hbr.out (Nat.le_refl _) (rtA (pwR m t)))
      refine bodyPost_ret (v := .agg (rtA (pwR m t))) ?_ rfl ⟨rfl, HB3.out⟩
      exact results_cell_one rfl _ _ w.heap.size _ rfl (Tryd.load_rt HR3.out)
end Go.Proofs.YtmonhmbnbhaemaaDoor

