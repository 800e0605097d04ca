/- Contracts: how many places of a sign matrix there are of each kind, by the program. Condition: the matrix is a sign matrix. -/
import Derived.Test.YtnhkclnloiiihaaWeI
import Derived.Test.YtnhkclnloiiihaaLRes
import Derived.Test.YtnhkclnloiiihaaTLaw
import Derived.Test.YtnhkclnloiiihaaSame
namespace Go.Proofs.Ytnhkclnloiiihaa
open Go.RowKit

/-- six numbers in an array -/
def kcL (f : Nat → Int) : List Value := (List.range 6).map fun k => .int .i64 (f k)
def kc (f : Nat → Int) : Array Value := (kcL f).toArray
def KcAt (w : World) (g : Nat) (f : Nat → Int) : Prop := w.heap[g]? = some (.cells (kc f) 96 (0, 0))
theorem kc_size (f : Nat → Int) : (kc f).size = 6 := by simp [kc, kcL]
theorem kc_at (f : Nat → Int) {k : Nat} (hk : k < 6) : (kc f)[k]? = some (.int .i64 (f k)) := by
  simp only [kc, kcL, List.getElem?_toArray, List.getElem?_map]
  rw [List.getElem?_range hk]
  rfl
theorem kc_congr {f g : Nat → Int} (h : ∀ k, k < 6 → f k = g k) : kc f = kc g := by
  unfold kc kcL
  congr 1
  refine List.map_congr_left fun k hk => ?_
  rw [List.mem_range] at hk
  rw [h k hk]
theorem kc_set (f : Nat → Int) {k : Nat} (hk : k < 6) (x : Int) : (kc f).setIfInBounds k (.int .i64 x) = kc (fun q => if q = k then x else f q) := by
  apply Array.ext_getElem?
  intro j
  rw [Array.getElem?_setIfInBounds]
  by_cases e : k = j
  · subst e
    rw [if_pos rfl, if_pos (by rw [kc_size]; exact hk), kc_at _ hk, if_pos rfl]
  · rw [if_neg e]
    by_cases hj : j < 6
    · rw [kc_at _ hj, kc_at _ hj, if_neg (fun h => e h.symm)]
    · rw [Array.getElem?_eq_none (by rw [kc_size]; omega), Array.getElem?_eq_none (by rw [kc_size]; omega)]
theorem KcAt.cell {w : World} {g : Nat} {f : Nat → Int} (h : KcAt w g f) {k : Nat} (hk : k < 6) : w.cell? ⟨g, k, none⟩ = some (.int .i64 (f k)) := by
  rw [cell_of_row w g _ _ _ _ h, kc_at f hk]
theorem KcAt.frozen {w : World} {g : Nat} {f : Nat → Int} (h : KcAt w g f) (k : Nat) : w.frozen? ⟨g, k, none⟩ = false := frozen_of_row w g k _ _ h
theorem KcAt.store {w : World} {g : Nat} {f : Nat → Int} (h : KcAt w g f) {k : Nat} (hk : k < 6) (x : Int) : KcAt (w.setCell ⟨g, k, none⟩ (.int .i64 x)) g (fun q => if q = k then x else f q) := by
  unfold KcAt
  rw [heap_setCell_same w g _ _ _ _ h, kc_set f hk]
theorem KcAt.lt {w : World} {g : Nat} {f : Nat → Int} (h : KcAt w g f) : g < w.heap.size := lt_of_block h
theorem KcAt.below {w w' : World} {g : Nat} {f : Nat → Int} (h : KcAt w g f) (hb : Below w.heap.size w w') : KcAt w' g f := by
  unfold KcAt
  rw [hb.block g h.lt]
  exact h
theorem KcAt.other {w : World} {g : Nat} {f : Nat → Int} (h : KcAt w g f) {a : Addr} (ha : g ≠ a.block) (v : Value) : KcAt (w.setCell a v) g f := by
  unfold KcAt
  rw [heap_setCell_other w a g v ha]
  exact h
theorem KcAt.congr {w : World} {g : Nat} {f f' : Nat → Int} (h : KcAt w g f) (e : ∀ k, k < 6 → f k = f' k) : KcAt w g f' := by
  unfold KcAt
  rw [← kc_congr e]
  exact h
theorem KcAt.new (w : World) (f : Nat → Int) : KcAt (w.alloc (.cells (kc f) 96)) w.heap.size f := heap_alloc_new w _
theorem KcAt.alloc {w : World} {g : Nat} {f : Nat → Int} (h : KcAt w g f) (o : Obj) : KcAt (w.alloc o) g f := by
  unfold KcAt
  rw [heap_alloc_old w o h.lt]
  exact h
theorem KcAt.setRow {w : World} {g : Nat} {f : Nat → Int} (h : KcAt w g f) (f' : Nat → Int) : KcAt (w.setRow g (kc f')) g f' := setRow_heap w g _ _ _ _ h
theorem Try.info_kc : (Try.prog.info? 96).map (fun i => (i.zero, i.size)) = some (some (.agg (kc fun _ => 0)), 6) := by kernel_rfl
theorem Try.size_kc (f : Nat → Int) : (Try.prog.info? 96).map (·.size) = some (kc f).size := by rw [kc_size]; exact (zero_of_info Try.info_kc).2
theorem kc_one (f : Nat → Int) : (kc f).all (·.oneCell') = true := by
  rw [Array.all_eq_true]
  intro i hi
  have hi6 : i < 6 := by rw [kc_size] at hi; exact hi
  have := kc_at f hi6
  rw [Array.getElem?_eq_getElem hi] at this
  rw [Option.some.inj this]
  rfl
theorem kc_same (f g : Nat → Int) : (kc f).size = (kc g).size := by rw [kc_size, kc_size]
theorem Try.load_kc {w : World} {g : Nat} {f : Nat → Int} (h : KcAt w g f) : (loadVar 96 ⟨g, 0, none⟩).run Try.prog w = .ok (.agg (kc f)) w := run_loadVar_row _ _ _ _ _ _ _ h Try.underlying96 rfl (Try.size_kc f)

set_option maxRecDepth 100000 in
set_option maxHeartbeats 3200000 in
theorem countsOfKinds_any (ao : Option Addr) (c : Nat) (m : List (List Int)) (w : World) (hg : good m) (hm : MatAt w ao m) :
    Calls Try.prog 154 #[.slice ao m.length c] w fun e w' => e = .returned (.agg (kc fun q => cntK m q)) ∧ Below w.heap.size w w' := by
  have hn := hg.1.2.1
  have hmx : m.length ≤ 9223372036854775807 := by omega
  have Hg := Lib.hid hg
  have Hm := Lib.hid hm
  clear hg hm
  go_enter Try.func154, Try.ntmps154
  go_upto_region 2 with (refine wpList_allocT rfl 96 rfl _ _ Try.info_kc ?_)
  generalize hW : World.alloc (World.alloc w _) _ = w1
  have hR : KcAt w1 w.heap.size (fun _ => 0) := by rw [← hW]; exact (KcAt.new w _).alloc _
  have hC : KcAt w1 (w.heap.size + 1) (fun _ => 0) := by
    rw [← hW]
    have := KcAt.new (w.alloc (.cells (kc fun _ => 0) 96)) (fun _ => 0)
    simpa using this
  have hB : Below w.heap.size w w1 := by rw [← hW]; exact ((Below.refl _ w).alloc (Nat.le_refl _) _).alloc (by simp) _
  have hsz : w.heap.size + 2 ≤ w1.heap.size := by have := hC.lt; omega
  clear hW
  have HR := Lib.hid hR
  have HC := Lib.hid hC
  have HB := Lib.hid hB
  clear hR hC hB
  go_wp2_with fail
  refine (kindsOf_any ao c m w1 Hg.out (Hm.out.below HB.out)).mono ?_
  rintro e w2 ⟨v, rfl, hv, hb⟩
  obtain ⟨ka, kcap, vsK, rfl, hp, hk1, hk2⟩ := hv.open
  rw [kinds_len] at hp hk1 ⊢
  have HP := Lib.hid hp
  have HR2 := Lib.hid (HR.out.below hb)
  have HC2 := Lib.hid (HC.out.below hb)
  have HB2 := Lib.hid (HB.out.trans (hb.mono (by omega)))
  have hsz2 : w.heap.size + 2 ≤ w2.heap.size := by have := hb.size; omega
  clear hv hb hp HR HC HB
  go_wp2
  go_loopw [11] (fun i wr => ∃ k : Nat, k ≤ m.length ∧ i = .int .i64 k ∧ KcAt wr (w.heap.size + 1) (fun q => cntP m q k 0) ∧ OnlyW (fun g => g = w.heap.size + 1) w2 wr) (fun i _ => m.length - (intOf i).toNat)
  case atStart => exact ⟨0, Nat.zero_le _, rfl, HC2.out.congr (fun k _ => (cntP_zero m k).symm), OnlyW.refl _ _⟩
  case round =>
    obtain ⟨k, hk, rfl, hc, ho⟩ := hrel
    have Hc := Lib.hid hc
    have Ho := Lib.hid ho
    clear hc ho HC2
    by_cases hlt : k < m.length
    · obtain ⟨b1, o1, r1, d1, e0, hc0, hv0, _, _, _⟩ := (HP.out.only Ho.out (fun g e => by have := e; omega)).rowAt hlt
      have hrow2 := HP.out.rows k hlt
      rw [hv0] at hrow2
      rw [kinds_row hlt] at hc0 hrow2
      subst e0
      have Hrow := Lib.hid hrow2
      clear hv0 hrow2
      go_wp2
      go_loopw [17] (fun i wr => ∃ t : Nat, t ≤ m.length ∧ i = .int .i64 t ∧ KcAt wr (w.heap.size + 1) (fun q => cntP m q k t) ∧ OnlyW (fun g => g = w.heap.size + 1) w2 wr) (fun i _ => m.length - (intOf i).toNat)
      case atStart => exact ⟨0, Nat.zero_le _, rfl, Hc.out, Ho.out⟩
      case round =>
        obtain ⟨t, ht, rfl, hc, ho⟩ := hrel
        clear Hc Ho
        by_cases htl : t < m.length
        · obtain ⟨b2, o2, e2, hc2⟩ := own_at (ownsRow_only Hrow.out ho (fun g hg e => by have := (Hrow.out.lt g hg).1; have := e; omega)) t (by rw [kinds_row hlt]; exact htl)
          rw [gi_kinds hlt htl] at hc2
          have hr := kd_range Hg.out hlt htl
          obtain ⟨q, hq⟩ : ∃ q : Nat, kd m k t = (q : Int) := ⟨(kd m k t).toNat, by omega⟩
          have hq6 : q < 6 := by omega
          have hbd := cntP_bd (m := m) q hn (k := k) (t := t) (by omega) (by omega)
          have hcq := hc.cell hq6
          have hfq := hc.frozen q
          have hst := hc.store hq6 (cntP m q k t + 1)
          have hst2 := hst.congr (f' := fun q => cntP m q k (t + 1)) (fun j hj => by
            show (if j = q then cntP m q k t + 1 else cntP m j k t) = cntP m j k (t + 1)
            rw [cntP_step, hq]
            unfold ind
            by_cases e : j = q
            · subst e; rw [if_pos rfl, if_pos rfl]
            · rw [if_neg e, if_neg (by omega)]; omega)
          have Hos := Lib.hid (ho.setCell (p := ⟨w.heap.size + 1, q, none⟩) rfl (.int .i64 (cntP m q k t + 1)))
          rw [hq] at hc2
          obtain ⟨x, hx⟩ : ∃ x, x = cntP m q k t := ⟨_, rfl⟩
          rw [← hx] at hcq hbd hst2 Hos
          have Hst := Lib.hid hst2
          subst e2
          clear hst hst2 hx hq hr hc ho
          go_wp2
          go_roundw
          case rel => exact ⟨t + 1, by omega, by go_num, Hst.out, Hos.out⟩
          case measure => simp [intOf]; omega
        · obtain rfl : t = m.length := by omega
          have Hc := Lib.hid (hc.congr (fun q _ => cntP_row m q k))
          have Ho := Lib.hid ho
          clear hc ho
          go_wp2
          go_roundw
          case rel => exact ⟨k + 1, by omega, by go_num, Hc.out, Ho.out⟩
          case measure => simp [intOf]; omega
    · obtain rfl : k = m.length := by omega
      have HC := Lib.hid (Hc.out.congr (f' := fun q => cntK m q) (fun q _ => cntP_end m q))
      have HRr := Lib.hid (show KcAt wr w.heap.size (fun _ => 0) from by
        have h := HR2.out
        unfold KcAt at h ⊢
        rw [Ho.out.block w.heap.size (fun e => by have := e; omega)]
        exact h)
      have HB := Lib.hid (HB2.out.trans (Ho.out.below (B := w.heap.size) (fun g e => by have := e; omega)))
      clear Hc HR2 HP
      go_wp2_with (first | (refine wpList_loadG rfl 96 _ rfl _ rfl _ _ HC.out Try.underlying96 rfl (Try.size_kc _) ?_) | (refine wpList_storeG rfl 96 _ _ rfl _ _ _ rfl rfl HRr.out (Try.size_kc _) (kc_same _ _) (kc_one _) ?_))
      have HR3 := Lib.hid (HRr.out.setRow (fun q => cntK m q))
      have HB3 := Lib.hid (below_setRowT HB.out (Nat.le_refl _) (kc fun q => cntK m q))
      refine bodyPost_ret (v := .agg (kc fun q => cntK m q)) ?_ rfl ⟨rfl, HB3.out⟩
      exact results_cell_one rfl _ _ w.heap.size _ rfl (Try.load_kc HR3.out)
end Go.Proofs.Ytnhkclnloiiihaa
