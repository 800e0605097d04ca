/- Parts of proofs: contracts and plain facts. Conditions: as each says. -/
import Derived.Test.YtjkpokpidpampaaDoorK06
import Derived.Deep.RegionWith
import Derived.Deep.RegionHeld
import Derived.DeepKeys
import Derived.Laws.StructEq
import Derived.Laws.CopyOwn
import Derived.Deep.DeepMust
namespace Go.Proofs.YtjkpokpidpampaaDoor
open Go.RowKit

/-- forty-nine heights; seven numbers -/
def hl (f : Nat → Nat → Int) : List Value := (List.range 49).map fun k => .int .i64 (f (k / 7) (k % 7))
def rl (r : Nat → Int) : List Value := (List.range 7).map fun j => .int .i64 (r j)
def rc (r : Nat → Int) : Array Value := (rl r).toArray
def RowAt (w : World) (g : Nat) (r : Nat → Int) : Prop := w.heap[g]? = some (.cells (rc r) 38 (0, 0))
theorem rc_size (r : Nat → Int) : (rc r).size = 7 := by simp [rc, rl]
theorem rc_same (r s : Nat → Int) : (rc r).size = (rc s).size := by rw [rc_size, rc_size]
theorem rc_at (r : Nat → Int) {j : Nat} (hj : j < 7) : (rc r)[j]? = some (.int .i64 (r j)) := by
  simp only [rc, rl, List.getElem?_toArray, List.getElem?_map]
  rw [List.getElem?_range hj]
  rfl
theorem hl_len (f : Nat → Nat → Int) : (hl f).length = 49 := by simp [hl]
theorem hl_at (f : Nat → Nat → Int) {i j : Nat} (hi : i < 7) (hj : j < 7) : (hl f)[i * 7 + j]? = some (.int .i64 (f i j)) := by
  simp only [hl, List.getElem?_map]
  rw [List.getElem?_range (by omega)]
  simp only [Option.map_some]
  rw [show (i * 7 + j) / 7 = i from by omega, show (i * 7 + j) % 7 = j from by omega]
theorem TerrAt.range {w : World} {g : Nat} {n : Int} {f : Nat → Nat → Int} (h : TerrAt w g n f) : w.rangeAt g 1 (hl f) := by
  intro j v hv
  have hj : j < 49 := by have := (List.getElem?_eq_some_iff.1 hv).1; rw [hl_len] at this; exact this
  have h1 := h.cell (i := j / 7) (j := j % 7) (by omega) (by omega)
  have h2 := hl_at f (i := j / 7) (j := j % 7) (by omega) (by omega)
  rw [show j / 7 * 7 + j % 7 = j from by omega] at h2
  rw [h2] at hv
  rw [show 1 + j = 1 + j / 7 * 7 + j % 7 from by omega, h1]
  exact hv
theorem hl_row (f : Nat → Nat → Int) {i : Nat} (hi : i < 7) : (hl f).toArray.extract (i * 7) (i * 7 + 7) = rc (f i) := by
  apply Array.ext_getElem?
  intro j
  rw [Array.getElem?_extract]
  have hs : (hl f).toArray.size = 49 := by simp [hl_len]
  by_cases hj : j < 7
  · rw [if_pos (by rw [hs]; omega), rc_at _ hj]
    rw [List.getElem?_toArray]
    exact hl_at f hi hj
  · rw [if_neg (by rw [hs]; omega), Array.getElem?_eq_none (by rw [rc_size]; omega)]

section
variable {P : Program}
/-- a row of an array of rows -/
theorem wpList_indexRow {ops : Array Oper} {rest : List Oper} {o : Oper} {a : Act} {w : World} {Q : Exit → Act → World → Prop} (hg : o.guard = none) (t : TypeId) (x y : Operand) (ho : o.op = .index t x y)
    (f : Nat → Nat → Int) (hx : a.eval x = .agg (hl f).toArray) (k : Nat) (hy : a.eval y = .int .i64 (k : Int)) (e e2 : TypeId) (hu : P.underlying t = some (.array 7 e)) (hk : k < 7)
    (he : P.underlying e = some (.array 7 e2)) (hs : (P.info? e).map (·.size) = some 7)
    (h : wpList P ops Q rest (a.put o.dst (.agg (rc (f k)))) w) : wpList P ops Q (o :: rest) a w := by
  refine wpList_plain hg fun K hK => ?_
  have hk0 : (0 : Int) ≤ k ∧ (k : Int) < 7 := by omega
  cases hq : P.info? e with
  | none => simp [hq] at hs
  | some ie =>
    have hie : ie.size = 7 := by simpa [hq] using hs
    have hrun : (Instr.index t (.agg (hl f).toArray) (.int .i64 (k : Int))).run P w = .ok (.agg (rc (f k))) w := by
      have h8 := hl_row f hk
      simp [Instr.index, Sem.run_bind, run_underlying hu, asIntOf, hk, part, isAgg, run_underlying he, sizeOf, typeInfo, hq, hie, go_sem]
      simpa using h8
    unfold Oper.wp execOp
    simp only [ho, hx, hy, Sem.run_bind, hrun, Result.andThen_ok, Sem.run_pure]
    exact hK _ _ h
/-- a number of a row -/
theorem wpList_indexNum {ops : Array Oper} {rest : List Oper} {o : Oper} {a : Act} {w : World} {Q : Exit → Act → World → Prop} (hg : o.guard = none) (t : TypeId) (x y : Operand) (ho : o.op = .index t x y)
    (r : Nat → Int) (hx : a.eval x = .agg (rc r)) (k : Nat) (hy : a.eval y = .int .i64 (k : Int)) (e : TypeId) (hu : P.underlying t = some (.array 7 e)) (hk : k < 7)
    (he : P.underlying e = some (.int .i64)) (hs : (P.info? e).map (·.size) = some 1)
    (h : wpList P ops Q rest (a.put o.dst (.int .i64 (r k))) w) : wpList P ops Q (o :: rest) a w := by
  refine wpList_plain hg fun K hK => ?_
  have hk0 : (0 : Int) ≤ k ∧ (k : Int) < 7 := by omega
  cases hq : P.info? e with
  | none => simp [hq] at hs
  | some ie =>
    have hie : ie.size = 1 := by simpa [hq] using hs
    have hrun : (Instr.index t (.agg (rc r)) (.int .i64 (k : Int))).run P w = .ok (.int .i64 (r k)) w := by
      have := rc_at r hk
      simp [Instr.index, Sem.run_bind, run_underlying hu, asIntOf, hk, part, isAgg, run_underlying he, sizeOf, typeInfo, hq, hie, go_sem, this]
    unfold Oper.wp execOp
    simp only [ho, hx, hy, Sem.run_bind, hrun, Result.andThen_ok, Sem.run_pure]
    exact hK _ _ h
end

theorem Tryd.info_row : (Tryd.prog.info? 38).map (fun i => (i.zero, i.size)) = some (some (.agg (rc fun _ => 0)), 7) := by kernel_rfl
theorem Tryd.size_row : (Tryd.prog.info? 38).map (·.size) = some 7 := (zero_of_info Tryd.info_row).2
theorem Tryd.size_rowc (r : Nat → Int) : (Tryd.prog.info? 38).map (·.size) = some (rc r).size := by rw [rc_size]; exact Tryd.size_row
theorem Tryd.size_rows (f : Nat → Nat → Int) : (Tryd.prog.info? 40).map (·.size) = some (hl f).length := by rw [hl_len]; kernel_rfl
theorem Tryd.size_num : (Tryd.prog.info? 3).map (·.size) = some 1 := by kernel_rfl
theorem rc_one (r : Nat → Int) : (rc r).all (·.oneCell') = true := by
  rw [Array.all_eq_true_iff_forall_mem]
  intro v hv
  simp only [rc, rl, List.mem_toArray, List.mem_map] at hv
  obtain ⟨k, _, rfl⟩ := hv
  rfl
theorem RowAt.cell {w : World} {g : Nat} {r : Nat → Int} (h : RowAt w g r) {j : Nat} (hj : j < 7) : w.cell? ⟨g, j, none⟩ = some (.int .i64 (r j)) := by
  rw [cell_of_row w g j _ _ _ h, rc_at r hj]
theorem RowAt.new (w : World) (r : Nat → Int) : RowAt (w.alloc (.cells (rc r) 38)) w.heap.size r := heap_alloc_new w _
theorem RowAt.lt {w : World} {g : Nat} {r : Nat → Int} (h : RowAt w g r) : g < w.heap.size := lt_of_block h
theorem RowAt.below {w w' : World} {g : Nat} {r : Nat → Int} (h : RowAt w g r) (hb : Below w.heap.size w w') : RowAt w' g r := by
  unfold RowAt
  rw [hb.block g h.lt]
  exact h
theorem Tryd.load_row {w : World} {g : Nat} {r : Nat → Int} (h : RowAt w g r) : (loadVar 38 ⟨g, 0, none⟩).run Tryd.prog w = .ok (.agg (rc r)) w :=
  run_loadVar_row w g _ _ _ _ _ h Tryd.underlying38 rfl (Tryd.size_rowc r)
/-- three variables -/
theorem three_0 (w : World) (o2 o3 : Obj) (n : Int) (f : Nat → Nat → Int) : TerrAt (((w.alloc (.cells (tc n f) 42)).alloc o2).alloc o3) w.heap.size n f := (two_bot w o2 n f).alloc o3
theorem three_1 (w : World) (o1 o3 : Obj) (n : Int) (f : Nat → Nat → Int) : TerrAt (((w.alloc o1).alloc (.cells (tc n f) 42)).alloc o3) (w.heap.size + 1) n f := (two_top w o1 n f).alloc o3
theorem three_2 (w : World) (o1 o2 : Obj) (n : Int) (f : Nat → Nat → Int) : TerrAt (((w.alloc o1).alloc o2).alloc (.cells (tc n f) 42)) (w.heap.size + 1 + 1) n f := by
  have := two_top (w.alloc o1) o2 n f
  simpa using this
theorem three_below (w : World) (o o2 o3 : Obj) : Below w.heap.size w (((w.alloc o).alloc o2).alloc o3) := (two_below w o o2).alloc (by simp; omega) o3
end Go.Proofs.YtjkpokpidpampaaDoor

namespace Go.Proofs.YtjkpokpidpampaaDoor
open Go.RowKit

/-- numbers that are not far from 0 -/
def Near (f : Nat → Nat → Int) : Prop := ∀ i j, i < 7 → j < 7 → -90 ≤ f i j ∧ f i j ≤ 90

set_option maxRecDepth 100000 in
set_option maxHeartbeats 1600000 in
theorem meet_any (n n2 : Int) (p q : Nat → Nat → Int) (w : World) :
    Calls Tryd.prog 40 #[.agg (tc n p), .agg (tc n2 q)] w fun e w' => e = .returned (.agg (tc n (fun i j => min (p i j) (q i j)))) ∧ Below w.heap.size w w' := by
  go_enter Tryd.func40, Tryd.ntmps40
  go_upto_region 1 with (first | (refine wpList_allocT rfl 42 rfl _ _ Tryd.info_terr ?_) | (refine wpList_buildT1 rfl 42 0 _ rfl (.int .i64 _) rfl _ (Tryd.built_terr _) ?_) | (refine wpList_buildT0 rfl 42 rfl _ Tryd.built_terr0 ?_) | (refine wpList_boxT rfl 42 _ rfl _ rfl ?_) | (refine wpList_storeT rfl 42 _ _ rfl _ _ _ (by first | rfl | simp) rfl rfl (Tryd.size_terr _ _) (tc_same _ _ _ _) (tc_one _ _) ?_))
  generalize hW : World.alloc (World.alloc (World.alloc w _) _) _ = w1
  have hT : TerrAt w1 w.heap.size n p := by rw [← hW]; exact three_0 w _ _ _ _
  have hK : TerrAt w1 (w.heap.size + 1) n2 q := by rw [← hW]; exact three_1 w _ _ _ _
  have hR : TerrAt w1 (w.heap.size + 1 + 1) 0 z0 := by rw [← hW]; exact three_2 w _ _ _ _
  have hB : Below w.heap.size w w1 := by rw [← hW]; exact three_below w _ _ _
  clear hW
  have HT := Lib.hid hT
  have HK := Lib.hid hK
  have HR := Lib.hid hR
  have HB := Lib.hid hB
  clear hT hK hR hB
  go_wp2_with (refine wpList_load_mid rfl 40 _ rfl (w.heap.size + 1) 1 rfl (hl q) _ HK.out.range Tryd.underlying40 rfl (Tryd.size_rows q) ?_)
  go_loopw [11] (fun i wr => ∃ (k : Nat) (f : Nat → Nat → Int), k ≤ 7 ∧ i = .int .i64 k ∧ TerrAt wr w.heap.size n f ∧ TerrAt wr (w.heap.size + 1) n2 q ∧ TerrAt wr (w.heap.size + 1 + 1) 0 z0 ∧
      (∀ a b, a < 7 → b < 7 → f a b = if a < k then min (p a b) (q a b) else p a b) ∧ Below w.heap.size w wr) (fun i _ => 7 - (intOf i).toNat)
  case atStart => exact ⟨0, p, Nat.zero_le _, rfl, HT.out, HK.out, HR.out, fun a b _ _ => by rw [if_neg (by omega)], HB.out⟩
  case round =>
    obtain ⟨k, f, hk, rfl, hT, hK, hR, heq, hbr⟩ := hrel
    clear HT HK HR HB
    by_cases hlt : k < 7
    · have hlt2 : (k : Int) < 7 := by omega
      have HT := Lib.hid hT
      have HK := Lib.hid hK
      have HR := Lib.hid hR
      have HE := Lib.hid heq
      have HB := Lib.hid hbr
      clear hT hK hR heq hbr
      go_upto_region 4 with (first | (refine wpList_indexRow rfl 40 _ _ rfl _ rfl _ rfl _ _ Tryd.underlying40 (by assumption) Tryd.underlying38 Tryd.size_row ?_) | (refine wpList_allocT rfl 38 rfl _ _ Tryd.info_row ?_) | (refine wpList_storeT rfl 38 _ _ rfl _ _ _ (by first | rfl | simp) rfl rfl (Tryd.size_rowc _) (rc_same _ _) (rc_one _) ?_))
      generalize hW : World.alloc wr _ = w2
      have hb2 : Below wr.heap.size wr w2 := by rw [← hW]; exact (Below.refl _ _).alloc (Nat.le_refl _) _
      have hrow : RowAt w2 wr.heap.size (q k) := by rw [← hW]; exact RowAt.new _ _
      clear hW
      have HT2 := Lib.hid (HT.out.below hb2)
      have HK2 := Lib.hid (HK.out.below hb2)
      have HR2 := Lib.hid (HR.out.below hb2)
      have HB2 := Lib.hid (HB.out.trans (hb2.mono HB.out.size))
      have HW2 := Lib.hid hrow
      clear HT HK HR HB hb2 hrow
      go_wp2_with (refine wpList_loadG rfl 38 _ rfl _ rfl _ _ HW2.out Tryd.underlying38 rfl (Tryd.size_rowc _) ?_)
      go_loopw [16] (fun i wr => ∃ (t : Nat) (f : Nat → Nat → Int), t ≤ 7 ∧ i = .int .i64 t ∧ TerrAt wr w.heap.size n f ∧ TerrAt wr (w.heap.size + 1) n2 q ∧ TerrAt wr (w.heap.size + 1 + 1) 0 z0 ∧
          (∀ a b, a < 7 → b < 7 → f a b = if a < k ∨ (a = k ∧ b < t) then min (p a b) (q a b) else p a b) ∧ Below w.heap.size w wr) (fun i _ => 7 - (intOf i).toNat)
      case atStart => exact ⟨0, f, Nat.zero_le _, rfl, HT2.out, HK2.out, HR2.out, fun a b ha hb => by rw [HE.out a b ha hb]; exact ite_iff (by omega), HB2.out⟩
      case round =>
        obtain ⟨t, f2, ht, rfl, hT, hK, hR, heq, hbr⟩ := hrel
        clear HT2 HK2 HR2 HB2 HE
        by_cases htl : t < 7
        · have htl2 : (t : Int) < 7 := by omega
          have hc := hT.cell hlt htl
          have hf := hT.frozen (1 + k * 7 + t)
          have hv : f2 k t = p k t := by rw [heq k t hlt htl, if_neg (by omega)]
          rw [hv] at hc
          generalize hx : p k t = x at hc
          generalize hy : q k t = y
          have Hst := Lib.hid (hT.store hlt htl (min x y))
          have HK := Lib.hid (hK.other (a := ⟨w.heap.size, 1 + k * 7 + t, none⟩) (by simp <;> omega) (.int .i64 (min x y)))
          have HR := Lib.hid (hR.other (a := ⟨w.heap.size, 1 + k * 7 + t, none⟩) (by simp <;> omega) (.int .i64 (min x y)))
          have HB := Lib.hid (hbr.setCell (p := ⟨w.heap.size, 1 + k * 7 + t, none⟩) (Nat.le_refl _) (.int .i64 (min x y)))
          have HE := Lib.hid heq
          have Hx := Lib.hid hx
          have Hy := Lib.hid hy
          clear hT hK hR heq hbr hv hx
          go_wp2_with (refine wpList_indexNum rfl 38 _ _ rfl _ rfl _ rfl _ Tryd.underlying38 (by assumption) Tryd.underlying3 Tryd.size_num ?_)
          rw [← Hy.out]
          go_region
          all_goals
            go_wp2
            have e0 : (if y < x then y else x) = min x y := by split <;> omega
            rw [e0]
            go_roundw
            case rel =>
              refine ⟨t + 1, _, by omega, by go_num, Hst.out.drew, HK.out.drew, HR.out.drew, fun a b ha hb => ?_, HB.out.drew⟩
              unfold upd
              by_cases e : a = k ∧ b = t
              · rw [if_pos e, if_pos (by omega), ← Hx.out, ← Hy.out, e.1, e.2]
              · rw [if_neg e, HE.out a b ha hb]
                exact ite_iff (by omega)
            case measure => simp [intOf]; omega
        · obtain rfl : t = 7 := by omega
          have HT := Lib.hid hT
          have HK := Lib.hid hK
          have HR := Lib.hid hR
          have HE := Lib.hid heq
          have HB := Lib.hid hbr
          clear hT hK hR heq hbr
          go_wp2
          go_roundw
          case rel =>
            refine ⟨k + 1, _, by omega, by go_num, HT.out, HK.out, HR.out, fun a b ha hb => ?_, HB.out⟩
            rw [HE.out a b ha hb]
            exact ite_iff (by omega)
          case measure => simp [intOf]; omega
    · obtain rfl : k = 7 := by omega
      have HT := Lib.hid (hT.congr (f' := fun i j => min (p i j) (q i j)) fun a b ha hb => by rw [heq a b ha hb, if_pos ha])
      have HR := Lib.hid hR
      have HB := Lib.hid hbr
      clear hT hR heq hbr hK
      go_wp2_with (first | (refine wpList_loadG rfl 42 _ rfl _ rfl _ _ HT.out Tryd.underlying42 rfl (Tryd.size_terr _ _) ?_) | (refine wpList_storeG rfl 42 _ _ rfl _ _ _ rfl rfl HR.out (Tryd.size_terr _ _) (tc_same _ _ _ _) (tc_one _ _) ?_))
      have HR2 := Lib.hid (HR.out.setRow n (fun i j => min (p i j) (q i j)))
      have HB2 := Lib.hid (below_setRowT HB.out (show w.heap.size ≤ w.heap.size + 1 + 1 by omega) (tc n (fun i j => min (p i j) (q i j))))
      refine bodyPost_ret (v := .agg (tc n (fun i j => min (p i j) (q i j)))) ?_ rfl ⟨rfl, HB2.out⟩
      exact results_cell_one rfl _ _ (w.heap.size + 1 + 1) _ rfl (Tryd.load_terr HR2.out)

end Go.Proofs.YtjkpokpidpampaaDoor

namespace Go.Proofs.YtjkpokpidpampaaDoor
open Go.RowKit

def dF (p q : Nat → Nat → Int) (i j : Nat) : Int := max (q i j - p i j) (p i j - q i j)
theorem dF_bound {p q : Nat → Nat → Int} (hp : Near p) (hq : Near q) {i j : Nat} (hi : i < 7) (hj : j < 7) : 0 ≤ dF p q i j ∧ dF p q i j ≤ 180 := by
  have h1 := hp i j hi hj
  have h2 := hq i j hi hj
  unfold dF
  omega

/-- what both terrains are, or none -/
def terr (m : List (List Int)) : Value := .agg (tc m.length (pad m.length (hOf (S2 m))))
def tz : Value := .agg (tc 0 z0)
def TwoT (m k : List (List Int)) (e : Ending) : Prop := (pairOk m k ∧ e = .returned (.tuple #[terr m, terr k, .bool true])) ∨ (¬ pairOk m k ∧ e = .returned (.tuple #[tz, tz, .bool false]))

set_option maxRecDepth 100000 in
set_option maxHeartbeats 1600000 in
theorem terrainsOf_any (ao bo : Option Addr) (c d : Nat) (m k : List (List Int)) (w : World) (hs : Small m) (hs2 : Small k) (hwf : WfM m) (hwf2 : WfM k) (hm : MatAt w ao m) (hk : MatAt w bo k) (hc : m.length ≤ c) (hc2 : c ≤ 9223372036854775807) (hd : k.length ≤ d) (hd2 : d ≤ 9223372036854775807) :
    Calls Tryd.prog 22 #[.slice ao m.length c, .slice bo k.length d] w fun e w' => TwoT m k e ∧ Below w.heap.size w w' := by
  have h1 := hs.1
  have h2 := hs2.1
  have Hs := Lib.hid hs
  have Hs2 := Lib.hid hs2
  have Hwf := Lib.hid hwf
  have Hwf2 := Lib.hid hwf2
  have Hm := Lib.hid hm
  have Hk := Lib.hid hk
  clear hs hs2 hwf hwf2 hm hk
  go_enter Tryd.func22, Tryd.ntmps22
  go_upto_region 1 with (first | (refine wpList_allocT rfl 42 rfl _ _ Tryd.info_terr ?_) | (refine wpList_buildT1 rfl 42 0 _ rfl (.int .i64 _) rfl _ (Tryd.built_terr _) ?_) | (refine wpList_buildT0 rfl 42 rfl _ Tryd.built_terr0 ?_) | (refine wpList_boxT rfl 42 _ rfl _ rfl ?_) | (refine wpList_storeT rfl 42 _ _ rfl _ _ _ (by first | rfl | simp) rfl rfl (Tryd.size_terr _ _) (tc_same _ _ _ _) (tc_one _ _) ?_))
  generalize hW : World.alloc (World.alloc w _) _ = w1
  have hA : TerrAt w1 w.heap.size 0 z0 := by rw [← hW]; exact two_bot w _ _ _
  have hB : TerrAt w1 (w.heap.size + 1) 0 z0 := by rw [← hW]; exact two_top w _ _ _
  have hb0 : Below w.heap.size w w1 := by rw [← hW]; exact two_below w _ _
  clear hW
  have HA := Lib.hid hA
  have HBB := Lib.hid hB
  have HB0 := Lib.hid hb0
  have HZ0 := Lib.hid hb0.size
  clear hA hB hb0
  go_wp2_with fail
  refine (implIsSign_any ao c m w1 Hs.out Hwf.out (Hm.out.below HB0.out)).mono ?_
  rintro e w2 ⟨ha, hb⟩
  have HA2 := Lib.hid (HA.out.below hb)
  have HBB2 := Lib.hid (HBB.out.below hb)
  have HB2 := Lib.hid (HB0.out.trans (hb.mono HZ0.out))
  clear hb HA HBB
  have HZ2 := Lib.hid HB2.out.size
  by_cases hg : good m
  · have Hg := Lib.hid hg
    clear hg
    obtain rfl := ha.is Hg.out
    clear ha
    go_wp2_with fail
    refine (implIsSign_any bo d k w2 Hs2.out Hwf2.out (Hk.out.below HB2.out)).mono ?_
    rintro e w3 ⟨ha, hb⟩
    have HA3 := Lib.hid (HA2.out.below hb)
    have HBB3 := Lib.hid (HBB2.out.below hb)
    have HB3 := Lib.hid (HB2.out.trans (hb.mono HZ2.out))
    clear hb HA2 HBB2
    have HZ3 := Lib.hid HB3.out.size
    by_cases hg : good k
    · have Hg2 := Lib.hid hg
      clear hg
      obtain rfl := ha.is Hg2.out
      clear ha
      by_cases hl : m.length = k.length
      · have hl2 : ((m.length : Int) != (k.length : Int)) = false := by simp; omega
        have Hl := Lib.hid hl
        clear hl
        have hcall := terrainOf_any ao c m w3 Hg.out (Hm.out.below HB3.out) hc hc2
        rw [show Value.agg (tc m.length (pad m.length (hOf (S2 m)))) = terr m from rfl] at hcall
        have Hcall := Lib.hid hcall
        clear hcall
        go_wp2_with fail
        refine Hcall.out.mono ?_
        rintro e w4 ⟨rfl, hb⟩
        have HA4 := Lib.hid (HA3.out.below hb)
        have HBB4 := Lib.hid (HBB3.out.below hb)
        have HB4 := Lib.hid (HB3.out.trans (hb.mono HZ3.out))
        clear hb HA3 HBB3
        have HZ4 := Lib.hid HB4.out.size
        have hcall := terrainOf_any bo d k w4 Hg2.out (Hk.out.below HB4.out) hd hd2
        rw [show Value.agg (tc k.length (pad k.length (hOf (S2 k)))) = terr k from rfl] at hcall
        have Hcall2 := Lib.hid hcall
        clear hcall
        go_wp2_with fail
        refine Hcall2.out.mono ?_
        rintro e w5 ⟨rfl, hb⟩
        have HA5 := Lib.hid (HA4.out.below hb)
        have HBB5 := Lib.hid (HBB4.out.below hb)
        have HB5 := Lib.hid (HB4.out.trans (hb.mono HZ4.out))
        have HBB6 := Lib.hid (HBB5.out.setRow_other (g' := w.heap.size) (by omega) (tc m.length (pad m.length (hOf (S2 m)))))
        clear hb HA4 HBB4
        go_wp2_with (first | (refine wpList_storeG rfl 42 _ _ rfl _ (tc m.length (pad m.length (hOf (S2 m)))) _ rfl rfl HA5.out (Tryd.size_terr _ _) (tc_same _ _ _ _) (tc_one _ _) ?_) | (refine wpList_storeG rfl 42 _ _ rfl _ (tc k.length (pad k.length (hOf (S2 k)))) _ rfl rfl HBB6.out (Tryd.size_terr _ _) (tc_same _ _ _ _) (tc_one _ _) ?_))
        have F1 := Lib.hid ((HA5.out.setRow m.length (pad m.length (hOf (S2 m)))).setRow_other (g' := w.heap.size + 1) (by omega) (tc k.length (pad k.length (hOf (S2 k)))))
        have F2 := Lib.hid (HBB6.out.setRow k.length (pad k.length (hOf (S2 k))))
        have F3 := Lib.hid (below_setRowT (below_setRowT HB5.out (Nat.le_refl _) (tc m.length (pad m.length (hOf (S2 m))))) (show w.heap.size ≤ w.heap.size + 1 by omega) (tc k.length (pad k.length (hOf (S2 k)))))
        refine bodyPost_ret (v := .tuple #[terr m, terr k, .bool true]) ?_ rfl ⟨.inl ⟨⟨Hg.out, Hg2.out, Hl.out⟩, rfl⟩, F3.out⟩
        exact results_cell_three (p := 4) (p2 := 5) (q := 6) rfl _ _ w.heap.size (w.heap.size + 1) _ _ rfl (Tryd.load_terr F1.out) rfl (Tryd.load_terr F2.out)
      · have hl2 : ((m.length : Int) != (k.length : Int)) = true := by simp; omega
        have Hl := Lib.hid hl
        clear hl
        have HBX := Lib.hid (HBB3.out.setRow_other (g' := w.heap.size) (by omega) (tc 0 z0))
        go_wp2_with (first | (refine wpList_buildT0 rfl 42 rfl _ Tryd.built_terr0 ?_) | (refine wpList_storeG rfl 42 _ _ rfl w.heap.size (tc 0 z0) _ rfl rfl HA3.out (Tryd.size_terr _ _) (tc_same _ _ _ _) (tc_one _ _) ?_) | (refine wpList_storeG rfl 42 _ _ rfl (w.heap.size + 1) (tc 0 z0) _ rfl rfl HBX.out (Tryd.size_terr _ _) (tc_same _ _ _ _) (tc_one _ _) ?_))
        have F1 := Lib.hid ((HA3.out.setRow 0 z0).setRow_other (g' := w.heap.size + 1) (by omega) (tc 0 z0))
        have F2 := Lib.hid (HBX.out.setRow 0 z0)
        have F3 := Lib.hid (below_setRowT (below_setRowT HB3.out (Nat.le_refl _) (tc 0 z0)) (show w.heap.size ≤ w.heap.size + 1 by omega) (tc 0 z0))
        refine bodyPost_ret (v := .tuple #[tz, tz, .bool false]) ?_ rfl ⟨.inr ⟨fun h => Hl.out h.2.2, rfl⟩, F3.out⟩
        exact results_cell_three (p := 4) (p2 := 5) (q := 6) rfl _ _ w.heap.size (w.heap.size + 1) _ _ rfl (Tryd.load_terr F1.out) rfl (Tryd.load_terr F2.out)
    · have Hg2 := Lib.hid hg
      clear hg
      obtain rfl := ha.isnt Hg2.out
      clear ha
      have HBX := Lib.hid (HBB3.out.setRow_other (g' := w.heap.size) (by omega) (tc 0 z0))
      go_wp2_with (first | (refine wpList_buildT0 rfl 42 rfl _ Tryd.built_terr0 ?_) | (refine wpList_storeG rfl 42 _ _ rfl w.heap.size (tc 0 z0) _ rfl rfl HA3.out (Tryd.size_terr _ _) (tc_same _ _ _ _) (tc_one _ _) ?_) | (refine wpList_storeG rfl 42 _ _ rfl (w.heap.size + 1) (tc 0 z0) _ rfl rfl HBX.out (Tryd.size_terr _ _) (tc_same _ _ _ _) (tc_one _ _) ?_))
      have F1 := Lib.hid ((HA3.out.setRow 0 z0).setRow_other (g' := w.heap.size + 1) (by omega) (tc 0 z0))
      have F2 := Lib.hid (HBX.out.setRow 0 z0)
      have F3 := Lib.hid (below_setRowT (below_setRowT HB3.out (Nat.le_refl _) (tc 0 z0)) (show w.heap.size ≤ w.heap.size + 1 by omega) (tc 0 z0))
      refine bodyPost_ret (v := .tuple #[tz, tz, .bool false]) ?_ rfl ⟨.inr ⟨fun h => Hg2.out h.2.1, rfl⟩, F3.out⟩
      exact results_cell_three (p := 4) (p2 := 5) (q := 6) rfl _ _ w.heap.size (w.heap.size + 1) _ _ rfl (Tryd.load_terr F1.out) rfl (Tryd.load_terr F2.out)
  · have Hg := Lib.hid hg
    clear hg
    obtain rfl := ha.isnt Hg.out
    clear ha
    have HBX := Lib.hid (HBB2.out.setRow_other (g' := w.heap.size) (by omega) (tc 0 z0))
    go_wp2_with (first | (refine wpList_buildT0 rfl 42 rfl _ Tryd.built_terr0 ?_) | (refine wpList_storeG rfl 42 _ _ rfl w.heap.size (tc 0 z0) _ rfl rfl HA2.out (Tryd.size_terr _ _) (tc_same _ _ _ _) (tc_one _ _) ?_) | (refine wpList_storeG rfl 42 _ _ rfl (w.heap.size + 1) (tc 0 z0) _ rfl rfl HBX.out (Tryd.size_terr _ _) (tc_same _ _ _ _) (tc_one _ _) ?_))
    have F1 := Lib.hid ((HA2.out.setRow 0 z0).setRow_other (g' := w.heap.size + 1) (by omega) (tc 0 z0))
    have F2 := Lib.hid (HBX.out.setRow 0 z0)
    have F3 := Lib.hid (below_setRowT (below_setRowT HB2.out (Nat.le_refl _) (tc 0 z0)) (show w.heap.size ≤ w.heap.size + 1 by omega) (tc 0 z0))
    refine bodyPost_ret (v := .tuple #[tz, tz, .bool false]) ?_ rfl ⟨.inr ⟨fun h => Hg.out h.1, rfl⟩, F3.out⟩
    exact results_cell_three (p := 4) (p2 := 5) (q := 6) rfl _ _ w.heap.size (w.heap.size + 1) _ _ rfl (Tryd.load_terr F1.out) rfl (Tryd.load_terr F2.out)
end Go.Proofs.YtjkpokpidpampaaDoor

namespace Go.Proofs.YtjkpokpidpampaaDoor
open Go.RowKit

theorem mapM_some {α β : Type} {g : α → Option β} {h : α → β} : ∀ {l : List α}, (∀ x ∈ l, g x = some (h x)) → l.mapM g = some (l.map h)
  | [], _ => rfl
  | x :: l, H => by
    rw [List.mapM_cons, H x List.mem_cons_self, mapM_some (fun y hy => H y (List.mem_cons_of_mem x hy))]
    rfl

def Fits (x : Int) : Prop := -9223372036854775808 ≤ x ∧ x ≤ 9223372036854775807
theorem fits_wf {x : Int} (h : Fits x) : (Lit.int .i64 x).wf = true := by
  unfold Fits at h
  simp [Lit.wf, IntKind.min, IntKind.max, IntKind.bits, IntKind.signed]
  omega
def Fits7 (f : Nat → Nat → Int) : Prop := ∀ i j, i < 7 → j < 7 → Fits (f i j)

section
variable {P : Program}
theorem lits_num {d : Nat} {t : TypeId} {x : Int} (hu : P.underlying t = some (.int .i64)) (h : Fits x) : P.keyLits (d + 1) t [.int .i64 x] = some [.int .i64 x] := by
  simp [Program.keyLits, hu, fits_wf h]
theorem take_rl (r : Nat → Int) {i : Nat} (hi : i < 7) : ((rl r).drop (i * 1)).take 1 = [.int .i64 (r i)] := by
  have h : (rl r)[i]? = some (.int .i64 (r i)) := by have := rc_at r hi; simpa [rc] using this
  have hl : i < (rl r).length := by simp [rl]; exact hi
  rw [Nat.mul_one, List.drop_eq_getElem_cons hl]
  have e : (rl r)[i] = .int .i64 (r i) := by rw [List.getElem?_eq_getElem hl] at h; exact Option.some.inj h
  rw [e]
  rfl
theorem take_hl (f : Nat → Nat → Int) {i : Nat} (hi : i < 7) : ((hl f).drop (i * 7)).take 7 = rl (f i) := by
  have h := congrArg Array.toList (hl_row f hi)
  simpa [rc] using h
def litR (r : Nat → Int) : List Lit := ((List.range 7).map fun j => [Lit.int .i64 (r j)]).flatten
def litH (f : Nat → Nat → Int) : List Lit := ((List.range 7).map fun i => litR (f i)).flatten
theorem litR_inj {r s : Nat → Int} : litR r = litR s ↔ ∀ j, j < 7 → r j = s j := by
  constructor
  · intro h
    simp [litR, List.range_succ] at h
    obtain ⟨h0, h1, h2, h3, h4, h5, h6⟩ := h
    intro j hj
    match j, hj with
    | 0, _ => exact h0
    | 1, _ => exact h1
    | 2, _ => exact h2
    | 3, _ => exact h3
    | 4, _ => exact h4
    | 5, _ => exact h5
    | 6, _ => exact h6
  · intro h
    unfold litR
    congr 1
    exact List.map_congr_left fun j hj => by rw [h j (List.mem_range.1 hj)]
theorem litR_len (r : Nat → Int) : (litR r).length = 7 := by simp [litR, List.range_succ]
theorem litH_inj {f g : Nat → Nat → Int} : litH f = litH g ↔ ∀ i j, i < 7 → j < 7 → f i j = g i j := by
  constructor
  · intro h
    have e : litR (f 0) = litR (g 0) ∧ litR (f 1) = litR (g 1) ∧ litR (f 2) = litR (g 2) ∧ litR (f 3) = litR (g 3) ∧ litR (f 4) = litR (g 4) ∧ litR (f 5) = litR (g 5) ∧ litR (f 6) = litR (g 6) := by
      have h2 : litR (f 0) ++ (litR (f 1) ++ (litR (f 2) ++ (litR (f 3) ++ (litR (f 4) ++ (litR (f 5) ++ litR (f 6)))))) = litR (g 0) ++ (litR (g 1) ++ (litR (g 2) ++ (litR (g 3) ++ (litR (g 4) ++ (litR (g 5) ++ litR (g 6)))))) := by
        simpa [litH, List.range_succ] using h
      obtain ⟨a0, h2⟩ := List.append_inj h2 (by rw [litR_len, litR_len])
      obtain ⟨a1, h2⟩ := List.append_inj h2 (by rw [litR_len, litR_len])
      obtain ⟨a2, h2⟩ := List.append_inj h2 (by rw [litR_len, litR_len])
      obtain ⟨a3, h2⟩ := List.append_inj h2 (by rw [litR_len, litR_len])
      obtain ⟨a4, h2⟩ := List.append_inj h2 (by rw [litR_len, litR_len])
      obtain ⟨a5, a6⟩ := List.append_inj h2 (by rw [litR_len, litR_len])
      exact ⟨a0, a1, a2, a3, a4, a5, a6⟩
    obtain ⟨e0, e1, e2, e3, e4, e5, e6⟩ := e
    intro i j hi hj
    match i, hi with
    | 0, _ => exact litR_inj.1 e0 j hj
    | 1, _ => exact litR_inj.1 e1 j hj
    | 2, _ => exact litR_inj.1 e2 j hj
    | 3, _ => exact litR_inj.1 e3 j hj
    | 4, _ => exact litR_inj.1 e4 j hj
    | 5, _ => exact litR_inj.1 e5 j hj
    | 6, _ => exact litR_inj.1 e6 j hj
  · intro h
    unfold litH
    congr 1
    exact List.map_congr_left fun i hi => litR_inj.2 fun j hj => h i j (List.mem_range.1 hi) hj
theorem lits_row {d : Nat} {t e : TypeId} {r : Nat → Int} (hu : P.underlying t = some (.array 7 e)) (he : P.underlying e = some (.int .i64)) (ct : P.cellsOf t = 7) (ce : P.cellsOf e = 1) (h : ∀ j, j < 7 → Fits (r j)) :
    P.keyLits (d + 2) t (rl r) = some (litR r) := by
  have hm : ((List.range 7).mapM fun i => P.keyLits (d + 1) e (((rl r).drop (i * P.cellsOf e)).take (P.cellsOf e))) = some ((List.range 7).map fun j => [Lit.int .i64 (r j)]) := by
    refine mapM_some fun i hi => ?_
    rw [List.mem_range] at hi
    rw [ce, take_rl r hi, lits_num he (h i hi)]
  unfold Program.keyLits
  rw [hu]
  simp only [ct, hm]
  rw [if_pos (by simp [rl])]
  rfl
theorem lits_rows {d : Nat} {t e n : TypeId} {f : Nat → Nat → Int} (hu : P.underlying t = some (.array 7 e)) (he : P.underlying e = some (.array 7 n)) (hn : P.underlying n = some (.int .i64))
    (ct : P.cellsOf t = 49) (ce : P.cellsOf e = 7) (cn : P.cellsOf n = 1) (h : Fits7 f) : P.keyLits (d + 3) t (hl f) = some (litH f) := by
  have hm : ((List.range 7).mapM fun i => P.keyLits (d + 2) e (((hl f).drop (i * P.cellsOf e)).take (P.cellsOf e))) = some ((List.range 7).map fun j => litR (f j)) := by
    refine mapM_some fun i hi => ?_
    rw [List.mem_range] at hi
    rw [ce, take_hl f hi, lits_row he hn ce cn (h i · hi)]
  unfold Program.keyLits
  rw [hu]
  simp only [ct, hm]
  rw [if_pos (hl_len f)]
  rfl
/-- equality by literals -/
theorem eq_by_lits {t : TypeId} {xs ys : List Value} {la lb : List Lit} (m : Nat) (hm : m ≤ 10000) (hk : P.keyTypeAt m t = true) (hf : (Value.agg xs.toArray).formed P t = true) (hg : (Value.agg ys.toArray).formed P t = true)
    (hx : P.keyLits m t xs = some la) (hy : P.keyLits m t ys = some lb) (w : World) : ∃ r : Bool, (Op.equalIn 10000 t (.agg xs.toArray) (.agg ys.toArray)).run P w = .ok r w ∧ (r = true ↔ la = lb) := by
  have := run_equalIn_deep (10000 - m) m t hk w m m (.agg xs.toArray) (.agg ys.toArray) la lb hf hg (by simpa [Value.cells] using hx) (by simpa [Value.cells] using hy)
  rwa [show 10000 - m + m = 10000 by omega] at this
end

theorem Tryd.cells_hts : Tryd.prog.cellsOf 40 = 49 := by kernel_rfl
theorem Tryd.cells_row7 : Tryd.prog.cellsOf 38 = 7 := by kernel_rfl
theorem Tryd.cells_one : Tryd.prog.cellsOf 3 = 1 := by kernel_rfl
theorem Tryd.cells_terr : Tryd.prog.cellsOf 42 = 50 := by kernel_rfl
theorem Tryd.key_hts : Tryd.prog.keyTypeAt 3 40 = true := by kernel_rfl
theorem Tryd.key_terr : Tryd.prog.keyTypeAt 4 42 = true := by kernel_rfl
theorem Tryd.guard_hts : Tryd.prog.eqGuardType Tryd.prog.depth 40 = false := by kernel_rfl
theorem Tryd.guard_terr : Tryd.prog.eqGuardType Tryd.prog.depth 42 = false := by kernel_rfl

/-- heights are the same, as '==' tells -/
noncomputable def sameH (f g : Nat → Nat → Int) : Bool := @decide (∀ i j, i < 7 → j < 7 → f i j = g i j) (Classical.propDecidable _)
theorem sameH_true {f g : Nat → Nat → Int} : sameH f g = true ↔ ∀ i j, i < 7 → j < 7 → f i j = g i j := by unfold sameH; simp
theorem formed_agg {P : Program} {t : TypeId} {xs : List Value} {d : TypeDesc} (hu : P.underlying t = some d) (hd : d.isRow = true) (hc : xs.length = P.cellsOf t) : (Value.agg xs.toArray).formed P t = true := by
  unfold Value.formed
  rw [hu]
  cases d <;> simp_all
theorem Tryd.eq_hts {f g : Nat → Nat → Int} (hf : Fits7 f) (hg : Fits7 g) (w : World) : (Op.equalIn 10000 40 (.agg (hl f).toArray) (.agg (hl g).toArray)).run Tryd.prog w = .ok (sameH f g) w := by
  obtain ⟨r, hr, hiff⟩ := eq_by_lits (P := Tryd.prog) 3 (by omega) Tryd.key_hts (formed_agg Tryd.underlying40 rfl (by rw [hl_len, Tryd.cells_hts])) (formed_agg Tryd.underlying40 rfl (by rw [hl_len, Tryd.cells_hts]))
    (lits_rows (d := 0) Tryd.underlying40 Tryd.underlying38 Tryd.underlying3 Tryd.cells_hts Tryd.cells_row7 Tryd.cells_one hf) (lits_rows (d := 0) Tryd.underlying40 Tryd.underlying38 Tryd.underlying3 Tryd.cells_hts Tryd.cells_row7 Tryd.cells_one hg) w
  have e : r = sameH f g := by rw [Bool.eq_iff_iff, hiff, litH_inj, sameH_true]
  rw [hr, e]
theorem lits_terr {d : Nat} {n : Int} {f : Nat → Nat → Int} (hn : Fits n) (hf : Fits7 f) : Tryd.prog.keyLits (d + 4) 42 (tl n f) = some (Lit.int .i64 n :: litH f) := by
  have h1 : Tryd.prog.keyLits (d + 3) 3 [.int .i64 n] = some [.int .i64 n] := lits_num (P := Tryd.prog) (d := d + 2) Tryd.underlying3 hn
  have h2 := lits_rows (P := Tryd.prog) (d := d) Tryd.underlying40 Tryd.underlying38 Tryd.underlying3 Tryd.cells_hts Tryd.cells_row7 Tryd.cells_one hf
  unfold Program.keyLits
  rw [Tryd.underlying42]
  have e0 : (tl n f).take 1 = [.int .i64 n] := by simp [tl]
  have e1 : (tl n f).tail.take 49 = hl f := by
    have : (tl n f).tail = hl f := rfl
    rw [this]
    exact List.take_of_length_le (by rw [hl_len]; exact Nat.le_refl _)
  have hlen : (tl n f).length = 50 := by simp [tl]
  simp [hlen, Tryd.cells_terr, Tryd.cells_one, Tryd.cells_hts, e0, e1, h1, h2]
theorem Tryd.eq_terr {n k : Int} {f g : Nat → Nat → Int} (hn : Fits n) (hk : Fits k) (hf : Fits7 f) (hg : Fits7 g) (w : World) :
    ∃ r : Bool, (Op.equalIn 10000 42 (.agg (tc n f)) (.agg (tc k g))).run Tryd.prog w = .ok r w ∧ (r = true ↔ n = k ∧ ∀ i j, i < 7 → j < 7 → f i j = g i j) := by
  obtain ⟨r, hr, hiff⟩ := eq_by_lits (P := Tryd.prog) (xs := tl n f) (ys := tl k g) 4 (by omega) Tryd.key_terr (formed_agg Tryd.underlying42 rfl (by rw [Tryd.cells_terr]; simp [tl])) (formed_agg Tryd.underlying42 rfl (by rw [Tryd.cells_terr]; simp [tl])) (lits_terr (d := 0) hn hf) (lits_terr (d := 0) hk hg) w
  refine ⟨r, hr, ?_⟩
  rw [hiff, List.cons.injEq, litH_inj]
  simp
end Go.Proofs.YtjkpokpidpampaaDoor

namespace Go.Proofs.YtjkpokpidpampaaDoor
open Go.RowKit

theorem TerrAt.rangeT {w : World} {g : Nat} {n : Int} {f : Nat → Nat → Int} (h : TerrAt w g n f) : w.rangeAt g 0 (tl n f) := by
  intro j v hv
  rw [Nat.zero_add, cell_of_row w g j _ _ _ h]
  simpa [tc] using hv
theorem Tryd.size_terrl (n : Int) (f : Nat → Nat → Int) : (Tryd.prog.info? 42).map (·.size) = some (tl n f).length := by
  have := Tryd.size_terr n f
  simpa [tc] using this
theorem field_heights {n : Int} {f : Nat → Nat → Int} (w : World) : (Instr.field 42 (.agg (tc n f)) 1).run Tryd.prog w = .ok (.agg (hl f).toArray) w := by
  have e : (tc n f).extract 1 50 = (hl f).toArray := by
    apply Array.ext_getElem?
    intro j
    rw [Array.getElem?_extract]
    by_cases hj : j < 49
    · rw [if_pos (by rw [tc_size]; omega)]
      simp only [tc, tl, hl, List.getElem?_toArray, Nat.add_comm 1 j, List.getElem?_cons_succ]
    · rw [if_neg (by rw [tc_size]; omega), Array.getElem?_eq_none (by simp [hl_len]; omega)]
  simp [Instr.field, Sem.run_bind, asAgg, part, e, go_sem]
  done

set_option maxRecDepth 100000 in
set_option maxHeartbeats 1600000 in
theorem isBelow_any (n n2 : Int) (p q : Nat → Nat → Int) (w : World) (hp : Fits7 p) (hq : Fits7 q) :
    Calls Tryd.prog 25 #[.agg (tc n p), .agg (tc n2 q)] w fun e w' => e = .returned (.bool (sameH (fun i j => min (p i j) (q i j)) p)) ∧ Below w.heap.size w w' := by
  go_enter Tryd.func25, Tryd.ntmps25
  go_upto_region 1 with (first | (refine wpList_allocT rfl 42 rfl _ _ Tryd.info_terr ?_) | (refine wpList_buildT1 rfl 42 0 _ rfl (.int .i64 _) rfl _ (Tryd.built_terr _) ?_) | (refine wpList_buildT0 rfl 42 rfl _ Tryd.built_terr0 ?_) | (refine wpList_boxT rfl 42 _ rfl _ rfl ?_) | (refine wpList_storeT rfl 42 _ _ rfl _ _ _ (by first | rfl | simp) rfl rfl (Tryd.size_terr _ _) (tc_same _ _ _ _) (tc_one _ _) ?_))
  generalize hW : World.alloc (World.alloc w _) _ = w1
  have hT : TerrAt w1 w.heap.size n p := by rw [← hW]; exact two_bot w _ _ _
  have hK : TerrAt w1 (w.heap.size + 1) n2 q := by rw [← hW]; exact two_top w _ _ _
  have hB : Below w.heap.size w w1 := by rw [← hW]; exact two_below w _ _
  clear hW
  have hS : ∀ w', Below w1.heap.size w1 w' → TerrAt w' w.heap.size n p ∧ TerrAt w' (w.heap.size + 1) n2 q ∧ Below w.heap.size w w' := fun w' hb => ⟨hT.below hb, hK.below hb, hB.trans (hb.mono hB.size)⟩
  refine wp_region_held_drew (S := fun w' => TerrAt w' w.heap.size n p ∧ TerrAt w' (w.heap.size + 1) n2 q ∧ Below w.heap.size w w') (by kernel_rfl) (hS _ (below_drewN (Below.refl _ _) 1)) (fun hHeld => ?_)
  refine wpAnyH_take (i := 0) (oi := ⟨some 5, _, _, _, _, _⟩) (v := .agg (tl n p).toArray) rfl (by kernel_rfl) (by kernel_rfl) (by kernel_rfl) (fun _ _ _ h => h)
    (yieldsIf_load_mid (by rfl) _ _ rfl w.heap.size 0 rfl (tl n p) _ (fun w hw => hw.1.rangeT) Tryd.underlying42 rfl (Tryd.size_terrl n p)) hHeld ?_
  simp only [Act.put, List.setIfInBounds_toArray, List.set_cons_zero, List.set_cons_succ]
  refine wpAnyH_take (i := 1) (oi := ⟨some 6, _, _, _, _, _⟩) (v := .agg (tl n2 q).toArray) rfl (by kernel_rfl) (by kernel_rfl) (by kernel_rfl) (fun _ _ _ h => h)
    (yieldsIf_load_mid (by rfl) _ _ rfl (w.heap.size + 1) 0 rfl (tl n2 q) _ (fun w hw => hw.2.1.rangeT) Tryd.underlying42 rfl (Tryd.size_terrl n2 q)) hHeld ?_
  simp only [Act.put, List.setIfInBounds_toArray, List.set_cons_zero, List.set_cons_succ]
  refine wpAnyH_take (i := 4) (oi := ⟨some 9, _, _, _, _, _⟩) (v := .pointer (some ⟨w.heap.size, 1, none⟩)) rfl (by kernel_rfl) (by kernel_rfl) (by kernel_rfl) (fun _ _ _ h => h) (Or.inl ⟨by rfl, ?y1⟩) hHeld ?_
  case y1 => intro w hSw; go_simp
  simp only [Act.put, List.setIfInBounds_toArray, List.set_cons_zero, List.set_cons_succ]
  refine wpAnyH_take (i := 5) (oi := ⟨some 10, _, _, _, _, _⟩) (v := .agg (hl p).toArray) rfl (by kernel_rfl) (by kernel_rfl) (by kernel_rfl) (fun _ _ _ h => h)
    (yieldsIf_load_mid (by rfl) _ _ rfl w.heap.size 1 rfl (hl p) _ (fun w hw => hw.1.range) Tryd.underlying40 rfl (Tryd.size_rows p)) hHeld ?_
  simp only [Act.put, List.setIfInBounds_toArray, List.set_cons_zero, List.set_cons_succ]
  refine wpAnyH_ready (rs := [2]) (by kernel_rfl) (by simp) (AllReadyH.cons (o := ⟨some 7, _, _, _, _, _⟩) rfl (fun KK hKK => ?_) AllReadyH.nil)
  rw [if_pos (by rfl)]
  have hcall := meet_any n n2 p q w1.drew
  have Hcall := Lib.hid hcall
  have Hheld := Lib.hid hHeld
  clear hcall hHeld hT hK hB hS
  go_wp2_with (go_at_call 40; refine Hcall.out.mono ?_; rintro e w2 ⟨rfl, hb⟩)
  refine hKK.out _ _ ⟨Hheld.out.1.below hb, Hheld.out.2.1.below hb, Hheld.out.2.2.trans (hb.mono Hheld.out.2.2.size)⟩ (fun hHeld => ?_)
  clear hb Hheld hKK KK Hcall
  refine wpAnyH_take (i := 3) (oi := ⟨some 8, _, _, _, _, _⟩) (v := .agg (hl fun i j => min (p i j) (q i j)).toArray) rfl (by kernel_rfl) (by kernel_rfl) (by kernel_rfl) (fun _ _ _ h => h) (Or.inl ⟨by rfl, ?y2⟩) hHeld ?_
  case y2 =>
    intro w hSw
    have hfh := field_heights (n := n) (f := fun i j => min (p i j) (q i j)) w
    simp [execOp, Act.eval, hfh, go_sem]
  simp only [Act.put, List.setIfInBounds_toArray, List.set_cons_zero, List.set_cons_succ]
  refine wpAnyH_take (i := 6) (oi := ⟨some 11, _, _, _, _, _⟩) (v := .bool (sameH (fun i j => min (p i j) (q i j)) p)) rfl (by kernel_rfl) (by kernel_rfl) (by kernel_rfl) (fun _ _ _ h => h) (Or.inl ⟨by rfl, ?y3⟩) hHeld ?_
  case y3 =>
    intro w hSw
    have hge := Tryd.guard_hts
    have heq := Tryd.eq_hts (f := fun i j => min (p i j) (q i j)) (g := p) (fun i j hi hj => by have h1 := hp i j hi hj; have h2 := hq i j hi hj; unfold Fits at h1 h2 ⊢; show _ ≤ min (p i j) (q i j) ∧ min (p i j) (q i j) ≤ _; omega) hp w
    simp [execOp, Act.eval, run_eqGuard_agg, hge, run_eql_struct, heq, go_sem]
  simp only [Act.put, List.setIfInBounds_toArray, List.set_cons_zero, List.set_cons_succ]
  refine wpAnyH_take (i := 7) (oi := ⟨some 4, _, _, _, _, _⟩) (v := .bool (sameH (fun i j => min (p i j) (q i j)) p)) rfl (by kernel_rfl) (by kernel_rfl) (by kernel_rfl) (fun _ _ _ h => h) (Or.inl ⟨by rfl, ?y4⟩) hHeld ?_
  case y4 => intro w hSw; go_simp
  simp only [Act.put, List.setIfInBounds_toArray, List.set_cons_zero, List.set_cons_succ]
  refine wpAnyH_done (by kernel_rfl) ?_ _
  have HB := Lib.hid hHeld.2.2
  clear hHeld
  go_wp2
  go_ret
  exact ⟨rfl, HB.out⟩
end Go.Proofs.YtjkpokpidpampaaDoor

namespace Go.Proofs.YtjkpokpidpampaaDoor
open Go.RowKit

theorem row_get {xs : List Int} {j : Nat} (h : j < xs.length) : (xs.map (Value.int .i64))[j]? = some (.int .i64 (gi xs j)) := by simp [gi, List.getD, h]

/-- integers copied into a row of an owned grid, from place off on -/
theorem wpList_copy_grid {w : World} {ops : Array Oper} {rest : List Oper} {o : Oper} {a : Act} {QQ : Exit → Act → World → Prop} (hgd : o.guard = none) (d s : Operand)
    (ho : o.op = .call { callee := .builtin .copy, args := #[d, s], argTypes := #[28, 28] }) {B n c : Nat} {v : Value} {f : Nat → Nat → Int} {vs : List Value} (hown : OwnP w B v n (tab n c f) n vs)
    (i off : Nat) (hi : i < n) (xs : List Int) (hfit : off + xs.length ≤ c) (g cap : Nat) (hvs : vs.getD i undef = .slice (some ⟨g, 0, none⟩) c cap) (dLen dCap sCap b2 o2 : Nat)
    (hd : a.eval d = .slice (some ⟨g, off, none⟩) dLen dCap) (hmin : xs.length ≤ dLen) (hs : a.eval s = .slice (some ⟨b2, o2, none⟩) xs.length sCap) (hx : IntsAt w (some ⟨b2, o2, none⟩) xs)
    (h : ∀ w', OwnP w' B v n (tab n c fun a b => if a = i ∧ off ≤ b ∧ b < off + xs.length then gi xs (b - off) else f a b) n vs → Below B w w' → wpList Tryd.prog ops QQ rest (a.put o.dst (goInt xs.length)) w') :
    wpList Tryd.prog ops QQ (o :: rest) a w := by
  have hrow := hown.rows i hi
  have hrow0 := hrow
  rw [hvs] at hrow
  have hB : B ≤ g := (hrow0.lt g (by rw [hvs]; rfl)).1
  rcases hrow.2 with ⟨h0, _⟩ | ⟨g', cap', cur, hv2, _, hh, hnc, hcm, hcs, htk⟩
  · simp at h0
  simp only [Value.slice.injEq, Option.some.injEq, Addr.mk.injEq, and_true] at hv2
  obtain ⟨rfl, hrl, rfl⟩ := hv2
  have hlen : (gr (tab n c f) i).length = c := tab_row hi
  rw [hlen] at hnc htk
  simp only [Nat.mul_one] at hcs htk
  refine wpList_copy_own hgd d s 28 28 ho 3 Tryd.underlying28 (by kernel_rfl) g off dLen dCap ⟨b2, o2, none⟩ xs.length sCap hd hs cur 3 hh (xs.map (Value.int .i64)) (by rw [List.length_map]; exact (Nat.min_eq_left hmin).symm) ?_ (by rw [List.length_map]; omega) ?_ ?_
  · intro j u hu
    rw [List.getElem?_map] at hu
    cases hj : xs[j]? with
    | none => rw [hj] at hu; cases hu
    | some x =>
      rw [hj] at hu
      have hjl : j < xs.length := (List.getElem?_eq_some_iff.1 hj).1
      obtain ⟨b, o', e, hc⟩ := hx j hjl
      simp only [Option.some.injEq, Addr.mk.injEq, and_true] at e
      obtain ⟨rfl, rfl⟩ := e
      rw [Addr.add_lit, hc, ← hu]
      simp [gi, List.getD, hj]
  · intro u hu
    obtain ⟨_, _, rfl⟩ := List.mem_map.1 hu
    rfl
  have hgo : (goInt (xs.map (Value.int .i64)).length) = goInt xs.length := by rw [List.length_map]
  rw [hgo]
  have hb : Below B w (w.setRow g (cur.toList.take off ++ (xs.map (Value.int .i64) ++ cur.toList.drop (off + (xs.map (Value.int .i64)).length))).toArray) := below_setRow (Below.refl _ _) hB _
  refine h _ ⟨?_, fun a' ha => ?_, hown.apart⟩ hb
  · refine ⟨hown.top.1, ?_⟩
    rcases hown.top.2 with h0 | ⟨g', cap', cur', hv2, hg2, hh2, r⟩
    · exact .inl h0
    · refine .inr ⟨g', cap', cur', hv2, hg2, ?_, r⟩
      rw [setRow_other w g g' _ (fun e => hrow.ne_row hown.top g rfl (by rw [hv2, e]; rfl))]
      exact hh2
  · by_cases e : a' = i
    · subst e
      have hl2 : (gr (tab n c fun a b => if a = a' ∧ off ≤ b ∧ b < off + xs.length then gi xs (b - off) else f a b) a').length = c := tab_row ha
      rw [hvs]
      refine ⟨by simp, .inr ⟨g, cap, _, by rw [hl2], hB, setRow_heap w g _ _ 3 _ hh, by rw [hl2]; exact hnc, hcm, ?_, ?_⟩⟩
      · simp only [List.size_toArray, List.length_append, List.length_take, List.length_map, List.length_drop, Array.length_toList]
        omega
      · rw [hl2, Nat.mul_one]
        refine List.ext_getElem? fun j => ?_
        rw [List.getElem?_take]
        by_cases hj : j < c
        · rw [if_pos hj, row_get (xs := gr (tab n c fun a b => if a = a' ∧ off ≤ b ∧ b < off + xs.length then gi xs (b - off) else f a b) a') (by rw [hl2]; exact hj), gi_tab ha hj]
          have hcurj : ∀ t, t < c → cur.toList[t]? = some (.int .i64 (f a' t)) := by
            intro t ht
            have h1 : (cur.toList.take c)[t]? = ((gr (tab n c f) a').map (Value.int .i64))[t]? := by rw [htk]
            rw [List.getElem?_take, if_pos ht, row_get (by rw [hlen]; exact ht), gi_tab ha ht] at h1
            exact h1
          by_cases h1 : j < off
          · rw [List.getElem?_append_left (by rw [List.length_take, Array.length_toList]; omega), List.getElem?_take, if_pos h1, hcurj j hj, if_neg (fun h => by omega)]
          · have hlt : (cur.toList.take off).length = off := by rw [List.length_take, Array.length_toList]; omega
            rw [List.getElem?_append_right (by omega), hlt]
            by_cases h2 : j < off + xs.length
            · rw [List.getElem?_append_left (by rw [List.length_map]; omega), row_get (by omega), if_pos ⟨rfl, by omega, h2⟩]
            · rw [List.getElem?_append_right (by rw [List.length_map]; omega), List.getElem?_drop, List.length_map, show off + xs.length + (j - off - xs.length) = j from by omega, hcurj j hj, if_neg (fun h => by omega)]
        · rw [if_neg hj, List.getElem?_eq_none (by rw [List.length_map, hl2]; omega)]
    · have hr := hown.rows a' ha
      have e2 : gr (tab n c fun a b => if a = i ∧ off ≤ b ∧ b < off + xs.length then gi xs (b - off) else f a b) a' = gr (tab n c f) a' := by
        refine ext_gi (by rw [tab_row ha, tab_row ha]) fun b hb => ?_
        rw [tab_row ha] at hb
        rw [gi_tab ha hb, gi_tab ha hb, if_neg (fun h => e h.1)]
      rw [e2]
      refine ⟨hr.1, ?_⟩
      rcases hr.2 with h0 | ⟨g', cap', cur', hv2, hg2, hh2, r⟩
      · exact .inl h0
      · refine .inr ⟨g', cap', cur', hv2, hg2, ?_, r⟩
        rw [setRow_other w g g' _ (fun e3 => ?_)]
        · exact hh2
        · subst e3
          rcases Nat.lt_or_gt_of_ne e with hlt | hlt
          · exact hown.apart a' i hlt hi g' (by rw [hv2]; rfl) (by rw [hvs]; rfl)
          · exact hown.apart i a' hlt ha g' (by rw [hvs]; rfl) (by rw [hv2]; rfl)


/-- integers copied into a row of an owned grid, from place off on; what is copied from may be longer -/
theorem wpList_copy_grid2 {w : World} {ops : Array Oper} {rest : List Oper} {o : Oper} {a : Act} {QQ : Exit → Act → World → Prop} (hgd : o.guard = none) (d s : Operand)
    (ho : o.op = .call { callee := .builtin .copy, args := #[d, s], argTypes := #[28, 28] }) {B n c : Nat} {v : Value} {f : Nat → Nat → Int} {vs : List Value} (hown : OwnP w B v n (tab n c f) n vs)
    (i off : Nat) (hi : i < n) (xs : List Int) (hfit : off + xs.length ≤ c) (g cap : Nat) (hvs : vs.getD i undef = .slice (some ⟨g, 0, none⟩) c cap) (dLen dCap sLen sCap b2 o2 : Nat)
    (hd : a.eval d = .slice (some ⟨g, off, none⟩) dLen dCap) (hmin : xs.length = Nat.min sLen dLen) (hs : a.eval s = .slice (some ⟨b2, o2, none⟩) sLen sCap) (hx : IntsAt w (some ⟨b2, o2, none⟩) xs)
    (h : ∀ w', OwnP w' B v n (tab n c fun a b => if a = i ∧ off ≤ b ∧ b < off + xs.length then gi xs (b - off) else f a b) n vs → Below B w w' → wpList Tryd.prog ops QQ rest (a.put o.dst (goInt xs.length)) w') :
    wpList Tryd.prog ops QQ (o :: rest) a w := by
  have hrow := hown.rows i hi
  have hrow0 := hrow
  rw [hvs] at hrow
  have hB : B ≤ g := (hrow0.lt g (by rw [hvs]; rfl)).1
  rcases hrow.2 with ⟨h0, _⟩ | ⟨g', cap', cur, hv2, _, hh, hnc, hcm, hcs, htk⟩
  · simp at h0
  simp only [Value.slice.injEq, Option.some.injEq, Addr.mk.injEq, and_true] at hv2
  obtain ⟨rfl, hrl, rfl⟩ := hv2
  have hlen : (gr (tab n c f) i).length = c := tab_row hi
  rw [hlen] at hnc htk
  simp only [Nat.mul_one] at hcs htk
  refine wpList_copy_own hgd d s 28 28 ho 3 Tryd.underlying28 (by kernel_rfl) g off dLen dCap ⟨b2, o2, none⟩ sLen sCap hd hs cur 3 hh (xs.map (Value.int .i64)) (by rw [List.length_map]; exact hmin) ?_ (by rw [List.length_map]; omega) ?_ ?_
  · intro j u hu
    rw [List.getElem?_map] at hu
    cases hj : xs[j]? with
    | none => rw [hj] at hu; cases hu
    | some x =>
      rw [hj] at hu
      have hjl : j < xs.length := (List.getElem?_eq_some_iff.1 hj).1
      obtain ⟨b, o', e, hc⟩ := hx j hjl
      simp only [Option.some.injEq, Addr.mk.injEq, and_true] at e
      obtain ⟨rfl, rfl⟩ := e
      rw [Addr.add_lit, hc, ← hu]
      simp [gi, List.getD, hj]
  · intro u hu
    obtain ⟨_, _, rfl⟩ := List.mem_map.1 hu
    rfl
  have hgo : (goInt (xs.map (Value.int .i64)).length) = goInt xs.length := by rw [List.length_map]
  rw [hgo]
  have hb : Below B w (w.setRow g (cur.toList.take off ++ (xs.map (Value.int .i64) ++ cur.toList.drop (off + (xs.map (Value.int .i64)).length))).toArray) := below_setRow (Below.refl _ _) hB _
  refine h _ ⟨?_, fun a' ha => ?_, hown.apart⟩ hb
  · refine ⟨hown.top.1, ?_⟩
    rcases hown.top.2 with h0 | ⟨g', cap', cur', hv2, hg2, hh2, r⟩
    · exact .inl h0
    · refine .inr ⟨g', cap', cur', hv2, hg2, ?_, r⟩
      rw [setRow_other w g g' _ (fun e => hrow.ne_row hown.top g rfl (by rw [hv2, e]; rfl))]
      exact hh2
  · by_cases e : a' = i
    · subst e
      have hl2 : (gr (tab n c fun a b => if a = a' ∧ off ≤ b ∧ b < off + xs.length then gi xs (b - off) else f a b) a').length = c := tab_row ha
      rw [hvs]
      refine ⟨by simp, .inr ⟨g, cap, _, by rw [hl2], hB, setRow_heap w g _ _ 3 _ hh, by rw [hl2]; exact hnc, hcm, ?_, ?_⟩⟩
      · simp only [List.size_toArray, List.length_append, List.length_take, List.length_map, List.length_drop, Array.length_toList]
        omega
      · rw [hl2, Nat.mul_one]
        refine List.ext_getElem? fun j => ?_
        rw [List.getElem?_take]
        by_cases hj : j < c
        · rw [if_pos hj, row_get (xs := gr (tab n c fun a b => if a = a' ∧ off ≤ b ∧ b < off + xs.length then gi xs (b - off) else f a b) a') (by rw [hl2]; exact hj), gi_tab ha hj]
          have hcurj : ∀ t, t < c → cur.toList[t]? = some (.int .i64 (f a' t)) := by
            intro t ht
            have h1 : (cur.toList.take c)[t]? = ((gr (tab n c f) a').map (Value.int .i64))[t]? := by rw [htk]
            rw [List.getElem?_take, if_pos ht, row_get (by rw [hlen]; exact ht), gi_tab ha ht] at h1
            exact h1
          by_cases h1 : j < off
          · rw [List.getElem?_append_left (by rw [List.length_take, Array.length_toList]; omega), List.getElem?_take, if_pos h1, hcurj j hj, if_neg (fun h => by omega)]
          · have hlt : (cur.toList.take off).length = off := by rw [List.length_take, Array.length_toList]; omega
            rw [List.getElem?_append_right (by omega), hlt]
            by_cases h2 : j < off + xs.length
            · rw [List.getElem?_append_left (by rw [List.length_map]; omega), row_get (by omega), if_pos ⟨rfl, by omega, h2⟩]
            · rw [List.getElem?_append_right (by rw [List.length_map]; omega), List.getElem?_drop, List.length_map, show off + xs.length + (j - off - xs.length) = j from by omega, hcurj j hj, if_neg (fun h => by omega)]
        · rw [if_neg hj, List.getElem?_eq_none (by rw [List.length_map, hl2]; omega)]
    · have hr := hown.rows a' ha
      have e2 : gr (tab n c fun a b => if a = i ∧ off ≤ b ∧ b < off + xs.length then gi xs (b - off) else f a b) a' = gr (tab n c f) a' := by
        refine ext_gi (by rw [tab_row ha, tab_row ha]) fun b hb => ?_
        rw [tab_row ha] at hb
        rw [gi_tab ha hb, gi_tab ha hb, if_neg (fun h => e h.1)]
      rw [e2]
      refine ⟨hr.1, ?_⟩
      rcases hr.2 with h0 | ⟨g', cap', cur', hv2, hg2, hh2, r⟩
      · exact .inl h0
      · refine .inr ⟨g', cap', cur', hv2, hg2, ?_, r⟩
        rw [setRow_other w g g' _ (fun e3 => ?_)]
        · exact hh2
        · subst e3
          rcases Nat.lt_or_gt_of_ne e with hlt | hlt
          · exact hown.apart a' i hlt hi g' (by rw [hv2]; rfl) (by rw [hvs]; rfl)
          · exact hown.apart i a' hlt ha g' (by rw [hvs]; rfl) (by rw [hv2]; rfl)

end Go.Proofs.YtjkpokpidpampaaDoor

namespace Go.Proofs.YtjkpokpidpampaaDoor
open Go.RowKit

/-- a row of heights as a list -/
def rowL (r : Nat → Int) (c : Nat) : List Int := (List.range c).map r
theorem rowL_len (r : Nat → Int) (c : Nat) : (rowL r c).length = c := by simp [rowL]
theorem gi_rowL {r : Nat → Int} {c j : Nat} (h : j < c) : gi (rowL r c) j = r j := gi_row h
theorem TerrAt.ints {w : World} {g : Nat} {n : Int} {f : Nat → Nat → Int} (h : TerrAt w g n f) {i c : Nat} (hi : i < 7) (hc : c ≤ 7) : IntsAt w (some ⟨g, 1 + i * 7, none⟩) (rowL (f i) c) := by
  intro j hj
  rw [rowL_len] at hj
  refine ⟨g, 1 + i * 7, rfl, ?_⟩
  rw [gi_rowL hj]
  exact h.cell hi (by omega)

end Go.Proofs.YtjkpokpidpampaaDoor

namespace Go.Proofs.YtjkpokpidpampaaDoor
open Go.RowKit

section
variable {P : Program}
theorem wp_allocT {o : Oper} {a : Act} {w : World} {K : Act → World → Prop} {Q : Exit → Act → World → Prop} (t : TypeId) (ho : o.op = .alloc t) (z : Array Value) (n : Nat)
    (hz : (P.info? t).map (fun i => (i.zero, i.size)) = some (some (.agg z), n))
    (h : K (a.put o.dst (.pointer (some ⟨w.heap.size, 0, none⟩))) (w.alloc (.cells z t))) : o.wp P a w K Q := by
  unfold Oper.wp execOp
  simp only [ho, Instr.alloc, Sem.run_bind, (zero_of_info hz).1, Result.andThen_ok, newVar, newRow, run_newObj_alloc, Sem.run_pure, Value.cells]
  exact h
end

theorem TerrAt.rangeR {w : World} {g : Nat} {n : Int} {f : Nat → Nat → Int} (h : TerrAt w g n f) {i : Nat} (hi : i < 7) : w.rangeAt g (1 + i * 7) (rl (f i)) := by
  intro j v hv
  have hj : j < 7 := by have := (List.getElem?_eq_some_iff.1 hv).1; simpa [rl] using this
  have h1 := h.cell hi hj
  have h2 := rc_at (f i) hj
  simp only [rc, List.getElem?_toArray] at h2
  rw [h2] at hv
  rw [h1]
  exact hv
theorem Tryd.size_rowl (r : Nat → Int) : (Tryd.prog.info? 38).map (·.size) = some (rl r).length := by
  rw [show (rl r).length = 7 by simp [rl]]
  exact Tryd.size_row
theorem RowAt.setRow {w : World} {g : Nat} {r : Nat → Int} (h : RowAt w g r) (s : Nat → Int) : RowAt (w.setRow g (rc s)) g s := setRow_heap w g _ _ _ _ h
theorem RowAt.setRow_other {w : World} {g g' : Nat} {r : Nat → Int} (h : RowAt w g r) (hg : g ≠ g') (cs : Array Value) : RowAt (w.setRow g' cs) g r := by
  unfold RowAt
  rw [Go.setRow_other w g' g cs hg]
  exact h
theorem RowAt.alloc {w : World} {g : Nat} {r : Nat → Int} (h : RowAt w g r) (o : Obj) : RowAt (w.alloc o) g r := by
  unfold RowAt
  rw [heap_alloc_old w o h.lt]
  exact h

/-- the numbers by heights, as int wraps them -/
def sgW (f : Nat → Nat → Int) (i j : Nat) : Int :=
  wrap64 ((wrap64 (wrap64 (wrap64 (f i (j + 1) - f i j) + f (i + 1) j) - f (i + 1) (j + 1))).tdiv 2)
theorem RowAt.other {w : World} {g : Nat} {r : Nat → Int} (h : RowAt w g r) {a : Addr} (ha : g ≠ a.block) (v : Value) : RowAt (w.setCell a v).drew g r := by
  show (w.setCell a v).heap[g]? = _
  rw [heap_setCell_other w a g v ha]
  exact h

end Go.Proofs.YtjkpokpidpampaaDoor

namespace Go.Proofs.YtjkpokpidpampaaDoor
open Go.RowKit

/-- ones where row and column have the same index -/
def idm (n : Nat) : List (List Int) := tab n n fun i j => if i = j then 1 else 0
theorem idm_len (n : Nat) : (idm n).length = n := tab_len _ _ _
theorem idm_square {n : Nat} (h1 : 1 ≤ n) (h6 : n ≤ 6) : square (idm n) := ⟨by rw [idm_len]; exact h1, by rw [idm_len]; exact h6, fun i hi => by rw [idm_len] at hi ⊢; exact tab_row hi⟩
def inSide (n : Int) : Prop := 1 ≤ n ∧ n ≤ 6
theorem idm_small {n : Int} (h : inSide n) : Small (idm n.toNat) := by
  have h1 := h.1
  have h2 := h.2
  exact (idm_square (by omega) (by omega)).small
theorem mir_idm_small {n : Int} (h : inSide n) : Small (mir (idm n.toNat)) := by
  have h1 := h.1
  have h2 := h.2
  exact (idm_square (by omega) (by omega)).mir.small

end Go.Proofs.YtjkpokpidpampaaDoor

