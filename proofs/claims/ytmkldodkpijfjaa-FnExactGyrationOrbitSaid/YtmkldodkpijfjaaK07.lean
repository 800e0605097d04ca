/- Parts of proofs: contracts and plain facts. Conditions: as each says. -/
import Derived.Test.YtmkldodkpijfjaaK06
import Derived.Deep.RegionWith
import Derived.Deep.RegionHeld
import Derived.DeepKeys
import Derived.Laws.StructEq
import Derived.Laws.CopyOwn
import Derived.Deep.DeepMust
namespace Go.Proofs.Ytmkldodkpijfjaa
open Go.RowKit

/-- forty-nine heights; seven numbers -/
def hl (f : Nat → Nat → Int) : List Value := (List.range 49).map fun k => .int .i64 (f (k / 7) (k % 7))
def rl (r : Nat → Int) : List Value := (List.range 7).map fun j => .int .i64 (r j)
def rc (r : Nat → Int) : Array Value := (rl r).toArray
def RowAt (w : World) (g : Nat) (r : Nat → Int) : Prop := w.heap[g]? = some (.cells (rc r) 43 (0, 0))
theorem rc_size (r : Nat → Int) : (rc r).size = 7 := by simp [rc, rl]
theorem rc_same (r s : Nat → Int) : (rc r).size = (rc s).size := by rw [rc_size, rc_size]
theorem rc_at (r : Nat → Int) {j : Nat} (hj : j < 7) : (rc r)[j]? = some (.int .i64 (r j)) := by
  simp only [rc, rl, List.getElem?_toArray, List.getElem?_map]
  rw [List.getElem?_range hj]
  rfl
theorem hl_len (f : Nat → Nat → Int) : (hl f).length = 49 := by simp [hl]
theorem hl_at (f : Nat → Nat → Int) {i j : Nat} (hi : i < 7) (hj : j < 7) : (hl f)[i * 7 + j]? = some (.int .i64 (f i j)) := by
  simp only [hl, List.getElem?_map]
  rw [List.getElem?_range (by omega)]
  simp only [Option.map_some]
  rw [show (i * 7 + j) / 7 = i from by omega, show (i * 7 + j) % 7 = j from by omega]
theorem TerrAt.range {w : World} {g : Nat} {n : Int} {f : Nat → Nat → Int} (h : TerrAt w g n f) : w.rangeAt g 1 (hl f) := by
  intro j v hv
  have hj : j < 49 := by have := (List.getElem?_eq_some_iff.1 hv).1; rw [hl_len] at this; exact this
  have h1 := h.cell (i := j / 7) (j := j % 7) (by omega) (by omega)
  have h2 := hl_at f (i := j / 7) (j := j % 7) (by omega) (by omega)
  rw [show j / 7 * 7 + j % 7 = j from by omega] at h2
  rw [h2] at hv
  rw [show 1 + j = 1 + j / 7 * 7 + j % 7 from by omega, h1]
  exact hv
theorem hl_row (f : Nat → Nat → Int) {i : Nat} (hi : i < 7) : (hl f).toArray.extract (i * 7) (i * 7 + 7) = rc (f i) := by
  apply Array.ext_getElem?
  intro j
  rw [Array.getElem?_extract]
  have hs : (hl f).toArray.size = 49 := by simp [hl_len]
  by_cases hj : j < 7
  · rw [if_pos (by rw [hs]; omega), rc_at _ hj]
    rw [List.getElem?_toArray]
    exact hl_at f hi hj
  · rw [if_neg (by rw [hs]; omega), Array.getElem?_eq_none (by rw [rc_size]; omega)]

section
variable {P : Program}
/-- a row of an array of rows -/
theorem wpList_indexRow {ops : Array Oper} {rest : List Oper} {o : Oper} {a : Act} {w : World} {Q : Exit → Act → World → Prop} (hg : o.guard = none) (t : TypeId) (x y : Operand) (ho : o.op = .index t x y)
    (f : Nat → Nat → Int) (hx : a.eval x = .agg (hl f).toArray) (k : Nat) (hy : a.eval y = .int .i64 (k : Int)) (e e2 : TypeId) (hu : P.underlying t = some (.array 7 e)) (hk : k < 7)
    (he : P.underlying e = some (.array 7 e2)) (hs : (P.info? e).map (·.size) = some 7)
    (h : wpList P ops Q rest (a.put o.dst (.agg (rc (f k)))) w) : wpList P ops Q (o :: rest) a w := by
  refine wpList_plain hg fun K hK => ?_
  have hk0 : (0 : Int) ≤ k ∧ (k : Int) < 7 := by omega
  cases hq : P.info? e with
  | none => simp [hq] at hs
  | some ie =>
    have hie : ie.size = 7 := by simpa [hq] using hs
    have hrun : (Instr.index t (.agg (hl f).toArray) (.int .i64 (k : Int))).run P w = .ok (.agg (rc (f k))) w := by
      have h8 := hl_row f hk
      simp [Instr.index, Sem.run_bind, run_underlying hu, asIntOf, hk, part, isAgg, run_underlying he, sizeOf, typeInfo, hq, hie, go_sem]
      simpa using h8
    unfold Oper.wp execOp
    simp only [ho, hx, hy, Sem.run_bind, hrun, Result.andThen_ok, Sem.run_pure]
    exact hK _ _ h
/-- a number of a row -/
theorem wpList_indexNum {ops : Array Oper} {rest : List Oper} {o : Oper} {a : Act} {w : World} {Q : Exit → Act → World → Prop} (hg : o.guard = none) (t : TypeId) (x y : Operand) (ho : o.op = .index t x y)
    (r : Nat → Int) (hx : a.eval x = .agg (rc r)) (k : Nat) (hy : a.eval y = .int .i64 (k : Int)) (e : TypeId) (hu : P.underlying t = some (.array 7 e)) (hk : k < 7)
    (he : P.underlying e = some (.int .i64)) (hs : (P.info? e).map (·.size) = some 1)
    (h : wpList P ops Q rest (a.put o.dst (.int .i64 (r k))) w) : wpList P ops Q (o :: rest) a w := by
  refine wpList_plain hg fun K hK => ?_
  have hk0 : (0 : Int) ≤ k ∧ (k : Int) < 7 := by omega
  cases hq : P.info? e with
  | none => simp [hq] at hs
  | some ie =>
    have hie : ie.size = 1 := by simpa [hq] using hs
    have hrun : (Instr.index t (.agg (rc r)) (.int .i64 (k : Int))).run P w = .ok (.int .i64 (r k)) w := by
      have := rc_at r hk
      simp [Instr.index, Sem.run_bind, run_underlying hu, asIntOf, hk, part, isAgg, run_underlying he, sizeOf, typeInfo, hq, hie, go_sem, this]
    unfold Oper.wp execOp
    simp only [ho, hx, hy, Sem.run_bind, hrun, Result.andThen_ok, Sem.run_pure]
    exact hK _ _ h
end

theorem Try.info_row : (Try.prog.info? 43).map (fun i => (i.zero, i.size)) = some (some (.agg (rc fun _ => 0)), 7) := by kernel_rfl
theorem Try.size_row : (Try.prog.info? 43).map (·.size) = some 7 := (zero_of_info Try.info_row).2
theorem Try.size_rowc (r : Nat → Int) : (Try.prog.info? 43).map (·.size) = some (rc r).size := by rw [rc_size]; exact Try.size_row
theorem Try.size_rows (f : Nat → Nat → Int) : (Try.prog.info? 45).map (·.size) = some (hl f).length := by rw [hl_len]; kernel_rfl
theorem Try.size_num : (Try.prog.info? 3).map (·.size) = some 1 := by kernel_rfl
theorem rc_one (r : Nat → Int) : (rc r).all (·.oneCell') = true := by
  rw [Array.all_eq_true_iff_forall_mem]
  intro v hv
  simp only [rc, rl, List.mem_toArray, List.mem_map] at hv
  obtain ⟨k, _, rfl⟩ := hv
  rfl
theorem RowAt.cell {w : World} {g : Nat} {r : Nat → Int} (h : RowAt w g r) {j : Nat} (hj : j < 7) : w.cell? ⟨g, j, none⟩ = some (.int .i64 (r j)) := by
  rw [cell_of_row w g j _ _ _ h, rc_at r hj]
theorem RowAt.new (w : World) (r : Nat → Int) : RowAt (w.alloc (.cells (rc r) 43)) w.heap.size r := heap_alloc_new w _
theorem RowAt.lt {w : World} {g : Nat} {r : Nat → Int} (h : RowAt w g r) : g < w.heap.size := lt_of_block h
theorem RowAt.below {w w' : World} {g : Nat} {r : Nat → Int} (h : RowAt w g r) (hb : Below w.heap.size w w') : RowAt w' g r := by
  unfold RowAt
  rw [hb.block g h.lt]
  exact h
theorem Try.load_row {w : World} {g : Nat} {r : Nat → Int} (h : RowAt w g r) : (loadVar 43 ⟨g, 0, none⟩).run Try.prog w = .ok (.agg (rc r)) w :=
  run_loadVar_row w g _ _ _ _ _ h Try.underlying43 rfl (Try.size_rowc r)
/-- three variables -/
theorem three_0 (w : World) (o2 o3 : Obj) (n : Int) (f : Nat → Nat → Int) : TerrAt (((w.alloc (.cells (tc n f) 47)).alloc o2).alloc o3) w.heap.size n f := (two_bot w o2 n f).alloc o3
theorem three_1 (w : World) (o1 o3 : Obj) (n : Int) (f : Nat → Nat → Int) : TerrAt (((w.alloc o1).alloc (.cells (tc n f) 47)).alloc o3) (w.heap.size + 1) n f := (two_top w o1 n f).alloc o3
theorem three_2 (w : World) (o1 o2 : Obj) (n : Int) (f : Nat → Nat → Int) : TerrAt (((w.alloc o1).alloc o2).alloc (.cells (tc n f) 47)) (w.heap.size + 1 + 1) n f := by
  have := two_top (w.alloc o1) o2 n f
  simpa using this
theorem three_below (w : World) (o o2 o3 : Obj) : Below w.heap.size w (((w.alloc o).alloc o2).alloc o3) := (two_below w o o2).alloc (by simp; omega) o3
end Go.Proofs.Ytmkldodkpijfjaa

namespace Go.Proofs.Ytmkldodkpijfjaa
open Go.RowKit

/-- numbers that are not far from 0 -/
def Near (f : Nat → Nat → Int) : Prop := ∀ i j, i < 7 → j < 7 → -90 ≤ f i j ∧ f i j ≤ 90

end Go.Proofs.Ytmkldodkpijfjaa

namespace Go.Proofs.Ytmkldodkpijfjaa
open Go.RowKit

def dF (p q : Nat → Nat → Int) (i j : Nat) : Int := max (q i j - p i j) (p i j - q i j)
theorem dF_bound {p q : Nat → Nat → Int} (hp : Near p) (hq : Near q) {i j : Nat} (hi : i < 7) (hj : j < 7) : 0 ≤ dF p q i j ∧ dF p q i j ≤ 180 := by
  have h1 := hp i j hi hj
  have h2 := hq i j hi hj
  unfold dF
  omega

/-- what both terrains are, or none -/
def terr (m : List (List Int)) : Value := .agg (tc m.length (pad m.length (hOf (S2 m))))
def tz : Value := .agg (tc 0 z0)
def TwoT (m k : List (List Int)) (e : Ending) : Prop := (pairOk m k ∧ e = .returned (.tuple #[terr m, terr k, .bool true])) ∨ (¬ pairOk m k ∧ e = .returned (.tuple #[tz, tz, .bool false]))

end Go.Proofs.Ytmkldodkpijfjaa

namespace Go.Proofs.Ytmkldodkpijfjaa
open Go.RowKit

theorem mapM_some {α β : Type} {g : α → Option β} {h : α → β} : ∀ {l : List α}, (∀ x ∈ l, g x = some (h x)) → l.mapM g = some (l.map h)
  | [], _ => rfl
  | x :: l, H => by
    rw [List.mapM_cons, H x List.mem_cons_self, mapM_some (fun y hy => H y (List.mem_cons_of_mem x hy))]
    rfl

def Fits (x : Int) : Prop := -9223372036854775808 ≤ x ∧ x ≤ 9223372036854775807
theorem fits_wf {x : Int} (h : Fits x) : (Lit.int .i64 x).wf = true := by
  unfold Fits at h
  simp [Lit.wf, IntKind.min, IntKind.max, IntKind.bits, IntKind.signed]
  omega
def Fits7 (f : Nat → Nat → Int) : Prop := ∀ i j, i < 7 → j < 7 → Fits (f i j)

section
variable {P : Program}
theorem lits_num {d : Nat} {t : TypeId} {x : Int} (hu : P.underlying t = some (.int .i64)) (h : Fits x) : P.keyLits (d + 1) t [.int .i64 x] = some [.int .i64 x] := by
  simp [Program.keyLits, hu, fits_wf h]
theorem take_rl (r : Nat → Int) {i : Nat} (hi : i < 7) : ((rl r).drop (i * 1)).take 1 = [.int .i64 (r i)] := by
  have h : (rl r)[i]? = some (.int .i64 (r i)) := by have := rc_at r hi; simpa [rc] using this
  have hl : i < (rl r).length := by simp [rl]; exact hi
  rw [Nat.mul_one, List.drop_eq_getElem_cons hl]
  have e : (rl r)[i] = .int .i64 (r i) := by rw [List.getElem?_eq_getElem hl] at h; exact Option.some.inj h
  rw [e]
  rfl
theorem take_hl (f : Nat → Nat → Int) {i : Nat} (hi : i < 7) : ((hl f).drop (i * 7)).take 7 = rl (f i) := by
  have h := congrArg Array.toList (hl_row f hi)
  simpa [rc] using h
def litR (r : Nat → Int) : List Lit := ((List.range 7).map fun j => [Lit.int .i64 (r j)]).flatten
def litH (f : Nat → Nat → Int) : List Lit := ((List.range 7).map fun i => litR (f i)).flatten
theorem litR_inj {r s : Nat → Int} : litR r = litR s ↔ ∀ j, j < 7 → r j = s j := by
  constructor
  · intro h
    simp [litR, List.range_succ] at h
    obtain ⟨h0, h1, h2, h3, h4, h5, h6⟩ := h
    intro j hj
    match j, hj with
    | 0, _ => exact h0
    | 1, _ => exact h1
    | 2, _ => exact h2
    | 3, _ => exact h3
    | 4, _ => exact h4
    | 5, _ => exact h5
    | 6, _ => exact h6
  · intro h
    unfold litR
    congr 1
    exact List.map_congr_left fun j hj => by rw [h j (List.mem_range.1 hj)]
theorem litR_len (r : Nat → Int) : (litR r).length = 7 := by simp [litR, List.range_succ]
theorem litH_inj {f g : Nat → Nat → Int} : litH f = litH g ↔ ∀ i j, i < 7 → j < 7 → f i j = g i j := by
  constructor
  · intro h
    have e : litR (f 0) = litR (g 0) ∧ litR (f 1) = litR (g 1) ∧ litR (f 2) = litR (g 2) ∧ litR (f 3) = litR (g 3) ∧ litR (f 4) = litR (g 4) ∧ litR (f 5) = litR (g 5) ∧ litR (f 6) = litR (g 6) := by
      have h2 : litR (f 0) ++ (litR (f 1) ++ (litR (f 2) ++ (litR (f 3) ++ (litR (f 4) ++ (litR (f 5) ++ litR (f 6)))))) = litR (g 0) ++ (litR (g 1) ++ (litR (g 2) ++ (litR (g 3) ++ (litR (g 4) ++ (litR (g 5) ++ litR (g 6)))))) := by
        simpa [litH, List.range_succ] using h
      obtain ⟨a0, h2⟩ := List.append_inj h2 (by rw [litR_len, litR_len])
      obtain ⟨a1, h2⟩ := List.append_inj h2 (by rw [litR_len, litR_len])
      obtain ⟨a2, h2⟩ := List.append_inj h2 (by rw [litR_len, litR_len])
      obtain ⟨a3, h2⟩ := List.append_inj h2 (by rw [litR_len, litR_len])
      obtain ⟨a4, h2⟩ := List.append_inj h2 (by rw [litR_len, litR_len])
      obtain ⟨a5, a6⟩ := List.append_inj h2 (by rw [litR_len, litR_len])
      exact ⟨a0, a1, a2, a3, a4, a5, a6⟩
    obtain ⟨e0, e1, e2, e3, e4, e5, e6⟩ := e
    intro i j hi hj
    match i, hi with
    | 0, _ => exact litR_inj.1 e0 j hj
    | 1, _ => exact litR_inj.1 e1 j hj
    | 2, _ => exact litR_inj.1 e2 j hj
    | 3, _ => exact litR_inj.1 e3 j hj
    | 4, _ => exact litR_inj.1 e4 j hj
    | 5, _ => exact litR_inj.1 e5 j hj
    | 6, _ => exact litR_inj.1 e6 j hj
  · intro h
    unfold litH
    congr 1
    exact List.map_congr_left fun i hi => litR_inj.2 fun j hj => h i j (List.mem_range.1 hi) hj
theorem lits_row {d : Nat} {t e : TypeId} {r : Nat → Int} (hu : P.underlying t = some (.array 7 e)) (he : P.underlying e = some (.int .i64)) (ct : P.cellsOf t = 7) (ce : P.cellsOf e = 1) (h : ∀ j, j < 7 → Fits (r j)) :
    P.keyLits (d + 2) t (rl r) = some (litR r) := by
  have hm : ((List.range 7).mapM fun i => P.keyLits (d + 1) e (((rl r).drop (i * P.cellsOf e)).take (P.cellsOf e))) = some ((List.range 7).map fun j => [Lit.int .i64 (r j)]) := by
    refine mapM_some fun i hi => ?_
    rw [List.mem_range] at hi
    rw [ce, take_rl r hi, lits_num he (h i hi)]
  unfold Program.keyLits
  rw [hu]
  simp only [ct, hm]
  rw [if_pos (by simp [rl])]
  rfl
theorem lits_rows {d : Nat} {t e n : TypeId} {f : Nat → Nat → Int} (hu : P.underlying t = some (.array 7 e)) (he : P.underlying e = some (.array 7 n)) (hn : P.underlying n = some (.int .i64))
    (ct : P.cellsOf t = 49) (ce : P.cellsOf e = 7) (cn : P.cellsOf n = 1) (h : Fits7 f) : P.keyLits (d + 3) t (hl f) = some (litH f) := by
  have hm : ((List.range 7).mapM fun i => P.keyLits (d + 2) e (((hl f).drop (i * P.cellsOf e)).take (P.cellsOf e))) = some ((List.range 7).map fun j => litR (f j)) := by
    refine mapM_some fun i hi => ?_
    rw [List.mem_range] at hi
    rw [ce, take_hl f hi, lits_row he hn ce cn (h i · hi)]
  unfold Program.keyLits
  rw [hu]
  simp only [ct, hm]
  rw [if_pos (hl_len f)]
  rfl
/-- equality by literals -/
theorem eq_by_lits {t : TypeId} {xs ys : List Value} {la lb : List Lit} (m : Nat) (hm : m ≤ 10000) (hk : P.keyTypeAt m t = true) (hf : (Value.agg xs.toArray).formed P t = true) (hg : (Value.agg ys.toArray).formed P t = true)
    (hx : P.keyLits m t xs = some la) (hy : P.keyLits m t ys = some lb) (w : World) : ∃ r : Bool, (Op.equalIn 10000 t (.agg xs.toArray) (.agg ys.toArray)).run P w = .ok r w ∧ (r = true ↔ la = lb) := by
  have := run_equalIn_deep (10000 - m) m t hk w m m (.agg xs.toArray) (.agg ys.toArray) la lb hf hg (by simpa [Value.cells] using hx) (by simpa [Value.cells] using hy)
  rwa [show 10000 - m + m = 10000 by omega] at this
end

theorem Try.cells_hts : Try.prog.cellsOf 45 = 49 := by kernel_rfl
theorem Try.cells_row7 : Try.prog.cellsOf 43 = 7 := by kernel_rfl
theorem Try.cells_one : Try.prog.cellsOf 3 = 1 := by kernel_rfl
theorem Try.cells_terr : Try.prog.cellsOf 47 = 50 := by kernel_rfl
theorem Try.key_hts : Try.prog.keyTypeAt 3 45 = true := by kernel_rfl
theorem Try.key_terr : Try.prog.keyTypeAt 4 47 = true := by kernel_rfl
theorem Try.guard_hts : Try.prog.eqGuardType Try.prog.depth 45 = false := by kernel_rfl
theorem Try.guard_terr : Try.prog.eqGuardType Try.prog.depth 47 = false := by kernel_rfl

/-- heights are the same, as '==' tells -/
noncomputable def sameH (f g : Nat → Nat → Int) : Bool := @decide (∀ i j, i < 7 → j < 7 → f i j = g i j) (Classical.propDecidable _)
theorem sameH_true {f g : Nat → Nat → Int} : sameH f g = true ↔ ∀ i j, i < 7 → j < 7 → f i j = g i j := by unfold sameH; simp
theorem formed_agg {P : Program} {t : TypeId} {xs : List Value} {d : TypeDesc} (hu : P.underlying t = some d) (hd : d.isRow = true) (hc : xs.length = P.cellsOf t) : (Value.agg xs.toArray).formed P t = true := by
  unfold Value.formed
  rw [hu]
  cases d <;> simp_all
theorem Try.eq_hts {f g : Nat → Nat → Int} (hf : Fits7 f) (hg : Fits7 g) (w : World) : (Op.equalIn 10000 45 (.agg (hl f).toArray) (.agg (hl g).toArray)).run Try.prog w = .ok (sameH f g) w := by
  obtain ⟨r, hr, hiff⟩ := eq_by_lits (P := Try.prog) 3 (by omega) Try.key_hts (formed_agg Try.underlying45 rfl (by rw [hl_len, Try.cells_hts])) (formed_agg Try.underlying45 rfl (by rw [hl_len, Try.cells_hts]))
    (lits_rows (d := 0) Try.underlying45 Try.underlying43 Try.underlying3 Try.cells_hts Try.cells_row7 Try.cells_one hf) (lits_rows (d := 0) Try.underlying45 Try.underlying43 Try.underlying3 Try.cells_hts Try.cells_row7 Try.cells_one hg) w
  have e : r = sameH f g := by rw [Bool.eq_iff_iff, hiff, litH_inj, sameH_true]
  rw [hr, e]
theorem lits_terr {d : Nat} {n : Int} {f : Nat → Nat → Int} (hn : Fits n) (hf : Fits7 f) : Try.prog.keyLits (d + 4) 47 (tl n f) = some (Lit.int .i64 n :: litH f) := by
  have h1 : Try.prog.keyLits (d + 3) 3 [.int .i64 n] = some [.int .i64 n] := lits_num (P := Try.prog) (d := d + 2) Try.underlying3 hn
  have h2 := lits_rows (P := Try.prog) (d := d) Try.underlying45 Try.underlying43 Try.underlying3 Try.cells_hts Try.cells_row7 Try.cells_one hf
  unfold Program.keyLits
  rw [Try.underlying47]
  have e0 : (tl n f).take 1 = [.int .i64 n] := by simp [tl]
  have e1 : (tl n f).tail.take 49 = hl f := by
    have : (tl n f).tail = hl f := rfl
    rw [this]
    exact List.take_of_length_le (by rw [hl_len]; exact Nat.le_refl _)
  have hlen : (tl n f).length = 50 := by simp [tl]
  simp [hlen, Try.cells_terr, Try.cells_one, Try.cells_hts, e0, e1, h1, h2]
theorem Try.eq_terr {n k : Int} {f g : Nat → Nat → Int} (hn : Fits n) (hk : Fits k) (hf : Fits7 f) (hg : Fits7 g) (w : World) :
    ∃ r : Bool, (Op.equalIn 10000 47 (.agg (tc n f)) (.agg (tc k g))).run Try.prog w = .ok r w ∧ (r = true ↔ n = k ∧ ∀ i j, i < 7 → j < 7 → f i j = g i j) := by
  obtain ⟨r, hr, hiff⟩ := eq_by_lits (P := Try.prog) (xs := tl n f) (ys := tl k g) 4 (by omega) Try.key_terr (formed_agg Try.underlying47 rfl (by rw [Try.cells_terr]; simp [tl])) (formed_agg Try.underlying47 rfl (by rw [Try.cells_terr]; simp [tl])) (lits_terr (d := 0) hn hf) (lits_terr (d := 0) hk hg) w
  refine ⟨r, hr, ?_⟩
  rw [hiff, List.cons.injEq, litH_inj]
  simp
end Go.Proofs.Ytmkldodkpijfjaa

namespace Go.Proofs.Ytmkldodkpijfjaa
open Go.RowKit

theorem TerrAt.rangeT {w : World} {g : Nat} {n : Int} {f : Nat → Nat → Int} (h : TerrAt w g n f) : w.rangeAt g 0 (tl n f) := by
  intro j v hv
  rw [Nat.zero_add, cell_of_row w g j _ _ _ h]
  simpa [tc] using hv
theorem Try.size_terrl (n : Int) (f : Nat → Nat → Int) : (Try.prog.info? 47).map (·.size) = some (tl n f).length := by
  have := Try.size_terr n f
  simpa [tc] using this
theorem field_heights {n : Int} {f : Nat → Nat → Int} (w : World) : (Instr.field 47 (.agg (tc n f)) 1).run Try.prog w = .ok (.agg (hl f).toArray) w := by
  have e : (tc n f).extract 1 50 = (hl f).toArray := by
    apply Array.ext_getElem?
    intro j
    rw [Array.getElem?_extract]
    by_cases hj : j < 49
    · rw [if_pos (by rw [tc_size]; omega)]
      simp only [tc, tl, hl, List.getElem?_toArray, Nat.add_comm 1 j, List.getElem?_cons_succ]
    · rw [if_neg (by rw [tc_size]; omega), Array.getElem?_eq_none (by simp [hl_len]; omega)]
  simp [Instr.field, Sem.run_bind, asAgg, part, e, go_sem]
  done

end Go.Proofs.Ytmkldodkpijfjaa

namespace Go.Proofs.Ytmkldodkpijfjaa
open Go.RowKit

theorem row_get {xs : List Int} {j : Nat} (h : j < xs.length) : (xs.map (Value.int .i64))[j]? = some (.int .i64 (gi xs j)) := by simp [gi, List.getD, h]

/-- integers copied into a row of an owned grid, from place off on -/
theorem wpList_copy_grid {w : World} {ops : Array Oper} {rest : List Oper} {o : Oper} {a : Act} {QQ : Exit → Act → World → Prop} (hgd : o.guard = none) (d s : Operand)
    (ho : o.op = .call { callee := .builtin .copy, args := #[d, s], argTypes := #[38, 38] }) {B n c : Nat} {v : Value} {f : Nat → Nat → Int} {vs : List Value} (hown : OwnP w B v n (tab n c f) n vs)
    (i off : Nat) (hi : i < n) (xs : List Int) (hfit : off + xs.length ≤ c) (g cap : Nat) (hvs : vs.getD i undef = .slice (some ⟨g, 0, none⟩) c cap) (dLen dCap sCap b2 o2 : Nat)
    (hd : a.eval d = .slice (some ⟨g, off, none⟩) dLen dCap) (hmin : xs.length ≤ dLen) (hs : a.eval s = .slice (some ⟨b2, o2, none⟩) xs.length sCap) (hx : IntsAt w (some ⟨b2, o2, none⟩) xs)
    (h : ∀ w', OwnP w' B v n (tab n c fun a b => if a = i ∧ off ≤ b ∧ b < off + xs.length then gi xs (b - off) else f a b) n vs → Below B w w' → wpList Try.prog ops QQ rest (a.put o.dst (goInt xs.length)) w') :
    wpList Try.prog ops QQ (o :: rest) a w := by
  have hrow := hown.rows i hi
  have hrow0 := hrow
  rw [hvs] at hrow
  have hB : B ≤ g := (hrow0.lt g (by rw [hvs]; rfl)).1
  rcases hrow.2 with ⟨h0, _⟩ | ⟨g', cap', cur, hv2, _, hh, hnc, hcm, hcs, htk⟩
  · simp at h0
  simp only [Value.slice.injEq, Option.some.injEq, Addr.mk.injEq, and_true] at hv2
  obtain ⟨rfl, hrl, rfl⟩ := hv2
  have hlen : (gr (tab n c f) i).length = c := tab_row hi
  rw [hlen] at hnc htk
  simp only [Nat.mul_one] at hcs htk
  refine wpList_copy_own hgd d s 38 38 ho 3 Try.underlying38 (by kernel_rfl) g off dLen dCap ⟨b2, o2, none⟩ xs.length sCap hd hs cur 3 hh (xs.map (Value.int .i64)) (by rw [List.length_map]; exact (Nat.min_eq_left hmin).symm) ?_ (by rw [List.length_map]; omega) ?_ ?_
  · intro j u hu
    rw [List.getElem?_map] at hu
    cases hj : xs[j]? with
    | none => rw [hj] at hu; cases hu
    | some x =>
      rw [hj] at hu
      have hjl : j < xs.length := (List.getElem?_eq_some_iff.1 hj).1
      obtain ⟨b, o', e, hc⟩ := hx j hjl
      simp only [Option.some.injEq, Addr.mk.injEq, and_true] at e
      obtain ⟨rfl, rfl⟩ := e
      rw [Addr.add_lit, hc, ← hu]
      simp [gi, List.getD, hj]
  · intro u hu
    obtain ⟨_, _, rfl⟩ := List.mem_map.1 hu
    rfl
  have hgo : (goInt (xs.map (Value.int .i64)).length) = goInt xs.length := by rw [List.length_map]
  rw [hgo]
  have hb : Below B w (w.setRow g (cur.toList.take off ++ (xs.map (Value.int .i64) ++ cur.toList.drop (off + (xs.map (Value.int .i64)).length))).toArray) := below_setRow (Below.refl _ _) hB _
  refine h _ ⟨?_, fun a' ha => ?_, hown.apart⟩ hb
  · refine ⟨hown.top.1, ?_⟩
    rcases hown.top.2 with h0 | ⟨g', cap', cur', hv2, hg2, hh2, r⟩
    · exact .inl h0
    · refine .inr ⟨g', cap', cur', hv2, hg2, ?_, r⟩
      rw [setRow_other w g g' _ (fun e => hrow.ne_row hown.top g rfl (by rw [hv2, e]; rfl))]
      exact hh2
  · by_cases e : a' = i
    · subst e
      have hl2 : (gr (tab n c fun a b => if a = a' ∧ off ≤ b ∧ b < off + xs.length then gi xs (b - off) else f a b) a').length = c := tab_row ha
      rw [hvs]
      refine ⟨by simp, .inr ⟨g, cap, _, by rw [hl2], hB, setRow_heap w g _ _ 3 _ hh, by rw [hl2]; exact hnc, hcm, ?_, ?_⟩⟩
      · simp only [List.size_toArray, List.length_append, List.length_take, List.length_map, List.length_drop, Array.length_toList]
        omega
      · rw [hl2, Nat.mul_one]
        refine List.ext_getElem? fun j => ?_
        rw [List.getElem?_take]
        by_cases hj : j < c
        · rw [if_pos hj, row_get (xs := gr (tab n c fun a b => if a = a' ∧ off ≤ b ∧ b < off + xs.length then gi xs (b - off) else f a b) a') (by rw [hl2]; exact hj), gi_tab ha hj]
          have hcurj : ∀ t, t < c → cur.toList[t]? = some (.int .i64 (f a' t)) := by
            intro t ht
            have h1 : (cur.toList.take c)[t]? = ((gr (tab n c f) a').map (Value.int .i64))[t]? := by rw [htk]
            rw [List.getElem?_take, if_pos ht, row_get (by rw [hlen]; exact ht), gi_tab ha ht] at h1
            exact h1
          by_cases h1 : j < off
          · rw [List.getElem?_append_left (by rw [List.length_take, Array.length_toList]; omega), List.getElem?_take, if_pos h1, hcurj j hj, if_neg (fun h => by omega)]
          · have hlt : (cur.toList.take off).length = off := by rw [List.length_take, Array.length_toList]; omega
            rw [List.getElem?_append_right (by omega), hlt]
            by_cases h2 : j < off + xs.length
            · rw [List.getElem?_append_left (by rw [List.length_map]; omega), row_get (by omega), if_pos ⟨rfl, by omega, h2⟩]
            · rw [List.getElem?_append_right (by rw [List.length_map]; omega), List.getElem?_drop, List.length_map, show off + xs.length + (j - off - xs.length) = j from by omega, hcurj j hj, if_neg (fun h => by omega)]
        · rw [if_neg hj, List.getElem?_eq_none (by rw [List.length_map, hl2]; omega)]
    · have hr := hown.rows a' ha
      have e2 : gr (tab n c fun a b => if a = i ∧ off ≤ b ∧ b < off + xs.length then gi xs (b - off) else f a b) a' = gr (tab n c f) a' := by
        refine ext_gi (by rw [tab_row ha, tab_row ha]) fun b hb => ?_
        rw [tab_row ha] at hb
        rw [gi_tab ha hb, gi_tab ha hb, if_neg (fun h => e h.1)]
      rw [e2]
      refine ⟨hr.1, ?_⟩
      rcases hr.2 with h0 | ⟨g', cap', cur', hv2, hg2, hh2, r⟩
      · exact .inl h0
      · refine .inr ⟨g', cap', cur', hv2, hg2, ?_, r⟩
        rw [setRow_other w g g' _ (fun e3 => ?_)]
        · exact hh2
        · subst e3
          rcases Nat.lt_or_gt_of_ne e with hlt | hlt
          · exact hown.apart a' i hlt hi g' (by rw [hv2]; rfl) (by rw [hvs]; rfl)
          · exact hown.apart i a' hlt ha g' (by rw [hvs]; rfl) (by rw [hv2]; rfl)


/-- integers copied into a row of an owned grid, from place off on; what is copied from may be longer -/
theorem wpList_copy_grid2 {w : World} {ops : Array Oper} {rest : List Oper} {o : Oper} {a : Act} {QQ : Exit → Act → World → Prop} (hgd : o.guard = none) (d s : Operand)
    (ho : o.op = .call { callee := .builtin .copy, args := #[d, s], argTypes := #[38, 38] }) {B n c : Nat} {v : Value} {f : Nat → Nat → Int} {vs : List Value} (hown : OwnP w B v n (tab n c f) n vs)
    (i off : Nat) (hi : i < n) (xs : List Int) (hfit : off + xs.length ≤ c) (g cap : Nat) (hvs : vs.getD i undef = .slice (some ⟨g, 0, none⟩) c cap) (dLen dCap sLen sCap b2 o2 : Nat)
    (hd : a.eval d = .slice (some ⟨g, off, none⟩) dLen dCap) (hmin : xs.length = Nat.min sLen dLen) (hs : a.eval s = .slice (some ⟨b2, o2, none⟩) sLen sCap) (hx : IntsAt w (some ⟨b2, o2, none⟩) xs)
    (h : ∀ w', OwnP w' B v n (tab n c fun a b => if a = i ∧ off ≤ b ∧ b < off + xs.length then gi xs (b - off) else f a b) n vs → Below B w w' → wpList Try.prog ops QQ rest (a.put o.dst (goInt xs.length)) w') :
    wpList Try.prog ops QQ (o :: rest) a w := by
  have hrow := hown.rows i hi
  have hrow0 := hrow
  rw [hvs] at hrow
  have hB : B ≤ g := (hrow0.lt g (by rw [hvs]; rfl)).1
  rcases hrow.2 with ⟨h0, _⟩ | ⟨g', cap', cur, hv2, _, hh, hnc, hcm, hcs, htk⟩
  · simp at h0
  simp only [Value.slice.injEq, Option.some.injEq, Addr.mk.injEq, and_true] at hv2
  obtain ⟨rfl, hrl, rfl⟩ := hv2
  have hlen : (gr (tab n c f) i).length = c := tab_row hi
  rw [hlen] at hnc htk
  simp only [Nat.mul_one] at hcs htk
  refine wpList_copy_own hgd d s 38 38 ho 3 Try.underlying38 (by kernel_rfl) g off dLen dCap ⟨b2, o2, none⟩ sLen sCap hd hs cur 3 hh (xs.map (Value.int .i64)) (by rw [List.length_map]; exact hmin) ?_ (by rw [List.length_map]; omega) ?_ ?_
  · intro j u hu
    rw [List.getElem?_map] at hu
    cases hj : xs[j]? with
    | none => rw [hj] at hu; cases hu
    | some x =>
      rw [hj] at hu
      have hjl : j < xs.length := (List.getElem?_eq_some_iff.1 hj).1
      obtain ⟨b, o', e, hc⟩ := hx j hjl
      simp only [Option.some.injEq, Addr.mk.injEq, and_true] at e
      obtain ⟨rfl, rfl⟩ := e
      rw [Addr.add_lit, hc, ← hu]
      simp [gi, List.getD, hj]
  · intro u hu
    obtain ⟨_, _, rfl⟩ := List.mem_map.1 hu
    rfl
  have hgo : (goInt (xs.map (Value.int .i64)).length) = goInt xs.length := by rw [List.length_map]
  rw [hgo]
  have hb : Below B w (w.setRow g (cur.toList.take off ++ (xs.map (Value.int .i64) ++ cur.toList.drop (off + (xs.map (Value.int .i64)).length))).toArray) := below_setRow (Below.refl _ _) hB _
  refine h _ ⟨?_, fun a' ha => ?_, hown.apart⟩ hb
  · refine ⟨hown.top.1, ?_⟩
    rcases hown.top.2 with h0 | ⟨g', cap', cur', hv2, hg2, hh2, r⟩
    · exact .inl h0
    · refine .inr ⟨g', cap', cur', hv2, hg2, ?_, r⟩
      rw [setRow_other w g g' _ (fun e => hrow.ne_row hown.top g rfl (by rw [hv2, e]; rfl))]
      exact hh2
  · by_cases e : a' = i
    · subst e
      have hl2 : (gr (tab n c fun a b => if a = a' ∧ off ≤ b ∧ b < off + xs.length then gi xs (b - off) else f a b) a').length = c := tab_row ha
      rw [hvs]
      refine ⟨by simp, .inr ⟨g, cap, _, by rw [hl2], hB, setRow_heap w g _ _ 3 _ hh, by rw [hl2]; exact hnc, hcm, ?_, ?_⟩⟩
      · simp only [List.size_toArray, List.length_append, List.length_take, List.length_map, List.length_drop, Array.length_toList]
        omega
      · rw [hl2, Nat.mul_one]
        refine List.ext_getElem? fun j => ?_
        rw [List.getElem?_take]
        by_cases hj : j < c
        · rw [if_pos hj, row_get (xs := gr (tab n c fun a b => if a = a' ∧ off ≤ b ∧ b < off + xs.length then gi xs (b - off) else f a b) a') (by rw [hl2]; exact hj), gi_tab ha hj]
          have hcurj : ∀ t, t < c → cur.toList[t]? = some (.int .i64 (f a' t)) := by
            intro t ht
            have h1 : (cur.toList.take c)[t]? = ((gr (tab n c f) a').map (Value.int .i64))[t]? := by rw [htk]
            rw [List.getElem?_take, if_pos ht, row_get (by rw [hlen]; exact ht), gi_tab ha ht] at h1
            exact h1
          by_cases h1 : j < off
          · rw [List.getElem?_append_left (by rw [List.length_take, Array.length_toList]; omega), List.getElem?_take, if_pos h1, hcurj j hj, if_neg (fun h => by omega)]
          · have hlt : (cur.toList.take off).length = off := by rw [List.length_take, Array.length_toList]; omega
            rw [List.getElem?_append_right (by omega), hlt]
            by_cases h2 : j < off + xs.length
            · rw [List.getElem?_append_left (by rw [List.length_map]; omega), row_get (by omega), if_pos ⟨rfl, by omega, h2⟩]
            · rw [List.getElem?_append_right (by rw [List.length_map]; omega), List.getElem?_drop, List.length_map, show off + xs.length + (j - off - xs.length) = j from by omega, hcurj j hj, if_neg (fun h => by omega)]
        · rw [if_neg hj, List.getElem?_eq_none (by rw [List.length_map, hl2]; omega)]
    · have hr := hown.rows a' ha
      have e2 : gr (tab n c fun a b => if a = i ∧ off ≤ b ∧ b < off + xs.length then gi xs (b - off) else f a b) a' = gr (tab n c f) a' := by
        refine ext_gi (by rw [tab_row ha, tab_row ha]) fun b hb => ?_
        rw [tab_row ha] at hb
        rw [gi_tab ha hb, gi_tab ha hb, if_neg (fun h => e h.1)]
      rw [e2]
      refine ⟨hr.1, ?_⟩
      rcases hr.2 with h0 | ⟨g', cap', cur', hv2, hg2, hh2, r⟩
      · exact .inl h0
      · refine .inr ⟨g', cap', cur', hv2, hg2, ?_, r⟩
        rw [setRow_other w g g' _ (fun e3 => ?_)]
        · exact hh2
        · subst e3
          rcases Nat.lt_or_gt_of_ne e with hlt | hlt
          · exact hown.apart a' i hlt hi g' (by rw [hv2]; rfl) (by rw [hvs]; rfl)
          · exact hown.apart i a' hlt ha g' (by rw [hvs]; rfl) (by rw [hv2]; rfl)

end Go.Proofs.Ytmkldodkpijfjaa

namespace Go.Proofs.Ytmkldodkpijfjaa
open Go.RowKit

/-- a row of heights as a list -/
def rowL (r : Nat → Int) (c : Nat) : List Int := (List.range c).map r
theorem rowL_len (r : Nat → Int) (c : Nat) : (rowL r c).length = c := by simp [rowL]
theorem gi_rowL {r : Nat → Int} {c j : Nat} (h : j < c) : gi (rowL r c) j = r j := gi_row h
theorem TerrAt.ints {w : World} {g : Nat} {n : Int} {f : Nat → Nat → Int} (h : TerrAt w g n f) {i c : Nat} (hi : i < 7) (hc : c ≤ 7) : IntsAt w (some ⟨g, 1 + i * 7, none⟩) (rowL (f i) c) := by
  intro j hj
  rw [rowL_len] at hj
  refine ⟨g, 1 + i * 7, rfl, ?_⟩
  rw [gi_rowL hj]
  exact h.cell hi (by omega)

end Go.Proofs.Ytmkldodkpijfjaa

namespace Go.Proofs.Ytmkldodkpijfjaa
open Go.RowKit

section
variable {P : Program}
theorem wp_allocT {o : Oper} {a : Act} {w : World} {K : Act → World → Prop} {Q : Exit → Act → World → Prop} (t : TypeId) (ho : o.op = .alloc t) (z : Array Value) (n : Nat)
    (hz : (P.info? t).map (fun i => (i.zero, i.size)) = some (some (.agg z), n))
    (h : K (a.put o.dst (.pointer (some ⟨w.heap.size, 0, none⟩))) (w.alloc (.cells z t))) : o.wp P a w K Q := by
  unfold Oper.wp execOp
  simp only [ho, Instr.alloc, Sem.run_bind, (zero_of_info hz).1, Result.andThen_ok, newVar, newRow, run_newObj_alloc, Sem.run_pure, Value.cells]
  exact h
end

theorem TerrAt.rangeR {w : World} {g : Nat} {n : Int} {f : Nat → Nat → Int} (h : TerrAt w g n f) {i : Nat} (hi : i < 7) : w.rangeAt g (1 + i * 7) (rl (f i)) := by
  intro j v hv
  have hj : j < 7 := by have := (List.getElem?_eq_some_iff.1 hv).1; simpa [rl] using this
  have h1 := h.cell hi hj
  have h2 := rc_at (f i) hj
  simp only [rc, List.getElem?_toArray] at h2
  rw [h2] at hv
  rw [h1]
  exact hv
theorem Try.size_rowl (r : Nat → Int) : (Try.prog.info? 43).map (·.size) = some (rl r).length := by
  rw [show (rl r).length = 7 by simp [rl]]
  exact Try.size_row
theorem RowAt.setRow {w : World} {g : Nat} {r : Nat → Int} (h : RowAt w g r) (s : Nat → Int) : RowAt (w.setRow g (rc s)) g s := setRow_heap w g _ _ _ _ h
theorem RowAt.setRow_other {w : World} {g g' : Nat} {r : Nat → Int} (h : RowAt w g r) (hg : g ≠ g') (cs : Array Value) : RowAt (w.setRow g' cs) g r := by
  unfold RowAt
  rw [Go.setRow_other w g' g cs hg]
  exact h
theorem RowAt.alloc {w : World} {g : Nat} {r : Nat → Int} (h : RowAt w g r) (o : Obj) : RowAt (w.alloc o) g r := by
  unfold RowAt
  rw [heap_alloc_old w o h.lt]
  exact h

/-- the numbers by heights, as int wraps them -/
def sgW (f : Nat → Nat → Int) (i j : Nat) : Int :=
  wrap64 ((wrap64 (wrap64 (wrap64 (f i (j + 1) - f i j) + f (i + 1) j) - f (i + 1) (j + 1))).tdiv 2)
theorem RowAt.other {w : World} {g : Nat} {r : Nat → Int} (h : RowAt w g r) {a : Addr} (ha : g ≠ a.block) (v : Value) : RowAt (w.setCell a v).drew g r := by
  show (w.setCell a v).heap[g]? = _
  rw [heap_setCell_other w a g v ha]
  exact h

set_option maxRecDepth 100000 in
set_option maxHeartbeats 3200000 in
theorem signs_any (n : Nat) (f : Nat → Nat → Int) (w : World) (hn1 : 1 ≤ n) (hn : n ≤ 6) (hf : Fits7 f) :
    Calls Try.prog 29 #[.agg (tc n f)] w fun e w' => ∃ v, e = .returned v ∧ OwnM w' w.heap.size v (tab n n (sgW f)) ∧ Below w.heap.size w w' := by
  have hmx : n ≤ 9223372036854775807 := by omega
  go_enter Try.func29, Try.ntmps29
  go_upto_region 1 with (first | (refine wpList_allocT rfl 47 rfl _ _ Try.info_terr ?_) | (refine wpList_buildT1 rfl 47 0 _ rfl (.int .i64 _) rfl _ (Try.built_terr _) ?_) | (refine wpList_buildT0 rfl 47 rfl _ Try.built_terr0 ?_) | (refine wpList_boxT rfl 47 _ rfl _ rfl ?_) | (refine wpList_storeT rfl 47 _ _ rfl _ _ _ (by first | rfl | simp) rfl rfl (Try.size_terr _ _) (tc_same _ _ _ _) (tc_one _ _) ?_))
  generalize hW : World.alloc w _ = w1
  have hT : TerrAt w1 w.heap.size n f := by rw [← hW]; exact TerrAt.new w _ _
  have hB : Below w.heap.size w w1 := by rw [← hW]; exact (Below.refl _ _).alloc (Nat.le_refl _) _
  clear hW
  have hh := hT.head
  have HT := Lib.hid hT
  have HB := Lib.hid hB
  have HZ := Lib.hid hB.size
  clear hT hB
  have hcall := newGrid_any n w1 (by omega)
  have Hcall := Lib.hid hcall
  clear hcall
  go_wp2_with fail
  refine Hcall.out.mono ?_
  rintro e w2 ⟨vs, rfl, hv, hb⟩
  have HT2 := Lib.hid (HT.out.below hb)
  have Hv := Lib.hid hv
  have Hb := Lib.hid hb
  clear hv hb hh Hcall
  go_wp2
  go_loopw [14] (fun i wr => ∃ (k : Nat) (g : Nat → Nat → Int), k ≤ n ∧ i = .int .i64 k ∧ OwnP wr w1.heap.size (.slice (some ⟨w1.heap.size, 0, none⟩) n n) n (tab n n g) n vs ∧
      (∀ a b, a < k → b < n → g a b = sgW f a b) ∧ Below w1.heap.size w1 wr) (fun i _ => n - (intOf i).toNat)
  case atStart => exact ⟨0, _, Nat.zero_le _, rfl, Hv.out, fun a b ha _ => absurd ha (by omega), Hb.out⟩
  case round =>
    obtain ⟨k, g, hk, rfl, hown, heq, hbr⟩ := hrel
    clear Hv
    by_cases hlt : k < n
    · obtain ⟨og, ocap, hvs, _, _, _, _⟩ := hown.at2 (i := k) (j := 0) hlt (by omega)
      have hd := hown.cellAt k hlt
      rw [hvs] at hd
      have hTr := HT.out.below hbr
      have hk7 : (k : Int) < 7 := by omega
      have hk77 : k < 7 := by omega
      have hk8 : (k : Int) + 1 < 7 := by omega
      have hk88 : k + 1 < 7 := by omega
      have Hown := Lib.hid hown
      have Heq := Lib.hid heq
      have Hbr := Lib.hid hbr
      have Hvs := Lib.hid hvs
      have HTr := Lib.hid hTr
      have HZ2 := Lib.hid hbr.size
      clear hown heq hbr hvs hTr
      go_upto_region 5 with fail
      refine wp_region_held_drew (S := fun w' => TerrAt w' w.heap.size n f) (by kernel_rfl) HTr.out (fun hHeld => ?_)
      have hb0 : Below wr.heap.size wr wr.drew := below_drewN (Below.refl _ _) 1
      have hs0 : wr.drew.heap.size = wr.heap.size := rfl
      generalize wr.drew = w0 at hb0 hs0 hHeld ⊢
      refine wpAnyH_take (i := 0) (oi := ⟨some 19, _, _, _, _, _⟩) (v := .int .i64 (k : Int)) rfl (by kernel_rfl) (by kernel_rfl) (by kernel_rfl) (fun _ _ _ h => h) (Or.inl ⟨by rfl, ?y1⟩) hHeld ?_
      case y1 => intro w hSw; go_simp
      simp only [Act.put, List.setIfInBounds_toArray, List.set_cons_zero, List.set_cons_succ]
      refine wpAnyH_take (i := 1) (oi := ⟨some 20, _, _, _, _, _⟩) (v := .pointer (some ⟨w.heap.size, 1, none⟩)) rfl (by kernel_rfl) (by kernel_rfl) (by kernel_rfl) (fun _ _ _ h => h) (Or.inl ⟨by rfl, ?y1⟩) hHeld ?_
      case y1 => intro w hSw; go_simp
      simp only [Act.put, List.setIfInBounds_toArray, List.set_cons_zero, List.set_cons_succ]
      refine wpAnyH_take (i := 2) (oi := ⟨some 21, _, _, _, _, _⟩) (v := .pointer (some ⟨w.heap.size, 1 + k * 7, none⟩)) rfl (by kernel_rfl) (by kernel_rfl) (by kernel_rfl) (fun _ _ _ h => h) (Or.inl ⟨by rfl, ?y1⟩) hHeld ?_
      case y1 => intro w hSw; go_simp
      simp only [Act.put, List.setIfInBounds_toArray, List.set_cons_zero, List.set_cons_succ]
      refine wpAnyH_take (i := 3) (oi := ⟨some 22, _, _, _, _, _⟩) (v := .agg (rl (f k)).toArray) rfl (by kernel_rfl) (by kernel_rfl) (by kernel_rfl) (fun _ _ _ h => h)
        (yieldsIf_load_mid (by rfl) _ _ rfl w.heap.size (1 + k * 7) rfl (rl (f k)) _ (fun w hw => hw.rangeR hk77) Try.underlying43 rfl (Try.size_rowl (f k))) hHeld ?_
      simp only [Act.put, List.setIfInBounds_toArray, List.set_cons_zero, List.set_cons_succ]
      refine wpAnyH_take (i := 4) (oi := ⟨some 23, _, _, _, _, _⟩) (v := .int .i64 (k : Int)) rfl (by kernel_rfl) (by kernel_rfl) (by kernel_rfl) (fun _ _ _ h => h) (Or.inl ⟨by rfl, ?y1⟩) hHeld ?_
      case y1 => intro w hSw; go_simp
      simp only [Act.put, List.setIfInBounds_toArray, List.set_cons_zero, List.set_cons_succ]
      refine wpAnyH_take (i := 5) (oi := ⟨some 24, _, _, _, _, _⟩) (v := .int .i64 ((k : Int) + 1)) rfl (by kernel_rfl) (by kernel_rfl) (by kernel_rfl) (fun _ _ _ h => h) (Or.inl ⟨by rfl, ?y1⟩) hHeld ?_
      case y1 => intro w hSw; go_simp; exact w64 (by omega)
      simp only [Act.put, List.setIfInBounds_toArray, List.set_cons_zero, List.set_cons_succ]
      refine wpAnyH_take (i := 6) (oi := ⟨some 25, _, _, _, _, _⟩) (v := .pointer (some ⟨w.heap.size, 1, none⟩)) rfl (by kernel_rfl) (by kernel_rfl) (by kernel_rfl) (fun _ _ _ h => h) (Or.inl ⟨by rfl, ?y1⟩) hHeld ?_
      case y1 => intro w hSw; go_simp
      simp only [Act.put, List.setIfInBounds_toArray, List.set_cons_zero, List.set_cons_succ]
      refine wpAnyH_take (i := 7) (oi := ⟨some 26, _, _, _, _, _⟩) (v := .pointer (some ⟨w.heap.size, 1 + (k + 1) * 7, none⟩)) rfl (by kernel_rfl) (by kernel_rfl) (by kernel_rfl) (fun _ _ _ h => h) (Or.inl ⟨by rfl, ?y1⟩) hHeld ?_
      case y1 => intro w hSw; go_simp; exact fun h => absurd h (by omega)
      simp only [Act.put, List.setIfInBounds_toArray, List.set_cons_zero, List.set_cons_succ]
      refine wpAnyH_take (i := 8) (oi := ⟨some 27, _, _, _, _, _⟩) (v := .agg (rl (f (k + 1))).toArray) rfl (by kernel_rfl) (by kernel_rfl) (by kernel_rfl) (fun _ _ _ h => h)
        (yieldsIf_load_mid (by rfl) _ _ rfl w.heap.size (1 + (k + 1) * 7) rfl (rl (f (k + 1))) _ (fun w hw => hw.rangeR hk88) Try.underlying43 rfl (Try.size_rowl (f (k + 1)))) hHeld ?_
      simp only [Act.put, List.setIfInBounds_toArray, List.set_cons_zero, List.set_cons_succ]
      refine wpAnyH_ready (rs := [9, 10]) (by kernel_rfl) (by simp) (AllReadyH.cons (o := ⟨some 6, _, _, _, _, _⟩) rfl (fun KK hKK => ?pA) (AllReadyH.cons (o := ⟨some 7, _, _, _, _, _⟩) rfl (fun KK hKK => ?pB) AllReadyH.nil))
      case' pA =>
        rw [if_pos (by rfl)]
        refine wp_allocT 43 rfl _ _ Try.info_row ?_
        simp only [Act.put, List.setIfInBounds_toArray, List.set_cons_zero, List.set_cons_succ]
        refine hKK.out _ _ (hHeld.alloc _) (fun hH1 => ?_)
        clear hKK KK
        have hA1 := RowAt.new w0 fun _ => 0
        have hb1 := hb0.alloc (by omega) (.cells (rc fun _ => 0) 43)
        refine wpAnyH_ready (rs := [10]) (by kernel_rfl) (by simp) (AllReadyH.cons (o := ⟨some 7, _, _, _, _, _⟩) rfl (fun KK hKK => ?pC) AllReadyH.nil)
        rw [if_pos (by rfl)]
        refine wp_allocT 43 rfl _ _ Try.info_row ?_
        simp only [Act.put, List.setIfInBounds_toArray, List.set_cons_zero, List.set_cons_succ]
        refine hKK.out _ _ (hH1.alloc _) (fun hH2 => ?_)
        clear hKK KK
        have hA2 := hA1.alloc (.cells (rc fun _ => 0) 43)
        have hB2 := RowAt.new (w0.alloc (.cells (rc fun _ => 0) 43)) fun _ => 0
        have hb2 := hb1.alloc (by simp; omega) (.cells (rc fun _ => 0) 43)
        refine wpAnyH_ready (rs := [11]) (by kernel_rfl) (by simp) (AllReadyH.cons (o := ⟨none, _, _, _, _, _⟩) rfl (fun KK hKK => ?pE) AllReadyH.nil)
        rw [if_pos (by rfl)]
        refine wp_store_row 43 _ _ rfl _ (rc (f k)) rfl rfl _ _ hA2 (Try.size_rowc _) (rc_same _ _) (rc_one _) ?_
        simp only [Act.put]
        refine hKK.out _ _ (TerrAt.setRow_other hH2 (by have := hH2.lt; have := hHeld.lt; simp at *; omega) _) (fun hH3 => ?_)
        clear hKK KK
        have hA3 := hA2.setRow (f k)
        have hB3 := hB2.setRow_other (g' := w0.heap.size) (by simp) (rc (f k))
        have hb3 := below_setRowT hb2 (g := w0.heap.size) (by omega) (rc (f k))
        refine wpAnyH_ready (rs := [12]) (by kernel_rfl) (by simp) (AllReadyH.cons (o := ⟨none, _, _, _, _, _⟩) rfl (fun KK hKK => ?pF) AllReadyH.nil)
        rw [if_pos (by rfl)]
        refine wp_store_row 43 _ _ rfl _ (rc (f (k + 1))) rfl rfl _ _ hB3 (Try.size_rowc _) (rc_same _ _) (rc_one _) ?_
        simp only [Act.put]
        refine hKK.out _ _ (TerrAt.setRow_other hH3 (by have := hH3.lt; have := hHeld.lt; simp at *; omega) _) (fun hH4 => ?_)
        clear hKK KK
        have hA := hA3.setRow_other (g' := (w0.alloc (.cells (rc fun _ => 0) 43)).heap.size) (by simp) (rc (f (k + 1)))
        have hB := hB3.setRow (f (k + 1))
        have hbW := below_setRowT hb3 (g := (w0.alloc (.cells (rc fun _ => 0) 43)).heap.size) (by simp; omega) (rc (f (k + 1)))
        clear hA1 hA2 hA3 hB2 hB3 hb1 hb2 hb3 hH1 hH2 hH3 hH4
        have hga : wr.heap.size ≤ w0.heap.size := by first | omega | (simp; omega)
        have hgb : wr.heap.size ≤ (w0.alloc (.cells (rc fun _ => 0) 43)).heap.size := by first | omega | (simp; omega)
        refine wpAnyH_done (by kernel_rfl) ?_ _
        obtain ⟨w5, hw5⟩ : ∃ x, x = ((((w0.alloc (.cells (rc fun _ => 0) 43)).alloc (.cells (rc fun _ => 0) 43)).setRow w0.heap.size (rc (f k))).setRow (w0.alloc (.cells (rc fun _ => 0) 43)).heap.size (rc (f (k + 1)))) := ⟨_, rfl⟩
        rw [← hw5] at hA hB hbW ⊢
        obtain ⟨gb, hgbe⟩ : ∃ x, x = (w0.alloc (.cells (rc fun _ => 0) 43)).heap.size := ⟨_, rfl⟩
        rw [← hgbe] at hB hgb ⊢
        obtain ⟨ga, hgae⟩ : ∃ x, x = w0.heap.size := ⟨_, rfl⟩
        rw [← hgae] at hA hga ⊢
        have HA := Lib.hid hA
        have HBB := Lib.hid hB
        have Hown5 := Lib.hid (Hown.out.below hbW)
        have HbW := Lib.hid hbW
        have HHeld := Lib.hid hHeld
        clear hgbe hgae hw5 hA hB hbW hHeld
      case' pB =>
        rw [if_pos (by rfl)]
        refine wp_allocT 43 rfl _ _ Try.info_row ?_
        simp only [Act.put, List.setIfInBounds_toArray, List.set_cons_zero, List.set_cons_succ]
        refine hKK.out _ _ (hHeld.alloc _) (fun hH1 => ?_)
        clear hKK KK
        have hB1 := RowAt.new w0 fun _ => 0
        have hb1 := hb0.alloc (by omega) (.cells (rc fun _ => 0) 43)
        refine wpAnyH_ready (rs := [9]) (by kernel_rfl) (by simp) (AllReadyH.cons (o := ⟨some 6, _, _, _, _, _⟩) rfl (fun KK hKK => ?pI) AllReadyH.nil)
        rw [if_pos (by rfl)]
        refine wp_allocT 43 rfl _ _ Try.info_row ?_
        simp only [Act.put, List.setIfInBounds_toArray, List.set_cons_zero, List.set_cons_succ]
        refine hKK.out _ _ (hH1.alloc _) (fun hH2 => ?_)
        clear hKK KK
        have hB2 := hB1.alloc (.cells (rc fun _ => 0) 43)
        have hA2 := RowAt.new (w0.alloc (.cells (rc fun _ => 0) 43)) fun _ => 0
        have hb2 := hb1.alloc (by simp; omega) (.cells (rc fun _ => 0) 43)
        refine wpAnyH_ready (rs := [11]) (by kernel_rfl) (by simp) (AllReadyH.cons (o := ⟨none, _, _, _, _, _⟩) rfl (fun KK hKK => ?pJ) AllReadyH.nil)
        rw [if_pos (by rfl)]
        refine wp_store_row 43 _ _ rfl _ (rc (f k)) rfl rfl _ _ hA2 (Try.size_rowc _) (rc_same _ _) (rc_one _) ?_
        simp only [Act.put]
        refine hKK.out _ _ (TerrAt.setRow_other hH2 (by have := hH2.lt; have := hHeld.lt; simp at *; omega) _) (fun hH3 => ?_)
        clear hKK KK
        have hA3 := hA2.setRow (f k)
        have hB3 := hB2.setRow_other (g' := (w0.alloc (.cells (rc fun _ => 0) 43)).heap.size) (by simp) (rc (f k))
        have hb3 := below_setRowT hb2 (g := (w0.alloc (.cells (rc fun _ => 0) 43)).heap.size) (by simp; omega) (rc (f k))
        refine wpAnyH_ready (rs := [12]) (by kernel_rfl) (by simp) (AllReadyH.cons (o := ⟨none, _, _, _, _, _⟩) rfl (fun KK hKK => ?pK) AllReadyH.nil)
        rw [if_pos (by rfl)]
        refine wp_store_row 43 _ _ rfl _ (rc (f (k + 1))) rfl rfl _ _ hB3 (Try.size_rowc _) (rc_same _ _) (rc_one _) ?_
        simp only [Act.put]
        refine hKK.out _ _ (TerrAt.setRow_other hH3 (by have := hH3.lt; have := hHeld.lt; simp at *; omega) _) (fun hH4 => ?_)
        clear hKK KK
        have hA := hA3.setRow_other (g' := w0.heap.size) (by simp) (rc (f (k + 1)))
        have hB := hB3.setRow (f (k + 1))
        have hbW := below_setRowT hb3 (g := w0.heap.size) (by omega) (rc (f (k + 1)))
        clear hB1 hA2 hA3 hB2 hB3 hb1 hb2 hb3 hH1 hH2 hH3 hH4
        have hga : wr.heap.size ≤ (w0.alloc (.cells (rc fun _ => 0) 43)).heap.size := by first | omega | (simp; omega)
        have hgb : wr.heap.size ≤ w0.heap.size := by first | omega | (simp; omega)
        refine wpAnyH_done (by kernel_rfl) ?_ _
        obtain ⟨w5, hw5⟩ : ∃ x, x = ((((w0.alloc (.cells (rc fun _ => 0) 43)).alloc (.cells (rc fun _ => 0) 43)).setRow (w0.alloc (.cells (rc fun _ => 0) 43)).heap.size (rc (f k))).setRow w0.heap.size (rc (f (k + 1)))) := ⟨_, rfl⟩
        rw [← hw5] at hA hB hbW ⊢
        obtain ⟨ga, hgae⟩ : ∃ x, x = (w0.alloc (.cells (rc fun _ => 0) 43)).heap.size := ⟨_, rfl⟩
        rw [← hgae] at hA hga ⊢
        obtain ⟨gb, hgbe⟩ : ∃ x, x = w0.heap.size := ⟨_, rfl⟩
        rw [← hgbe] at hB hgb ⊢
        have HA := Lib.hid hA
        have HBB := Lib.hid hB
        have Hown5 := Lib.hid (Hown.out.below hbW)
        have HbW := Lib.hid hbW
        have HHeld := Lib.hid hHeld
        clear hgbe hgae hw5 hA hB hbW hHeld
      all_goals
        clear hb0 hs0
        go_wp2
        go_loopw [30] (fun i wr => ∃ (t : Nat) (g : Nat → Nat → Int), t ≤ n ∧ i = .int .i64 t ∧ OwnP wr w1.heap.size (.slice (some ⟨w1.heap.size, 0, none⟩) n n) n (tab n n g) n vs ∧
            (∀ a b, a < k → b < n → g a b = sgW f a b) ∧ (∀ b, b < t → g k b = sgW f k b) ∧ RowAt wr ga (f k) ∧ RowAt wr gb (f (k + 1)) ∧ Below w1.heap.size w1 wr) (fun i _ => n - (intOf i).toNat)
        case atStart => exact ⟨0, g, Nat.zero_le _, rfl, Hown5.out, Heq.out, fun b hb => absurd hb (by omega), HA.out, HBB.out, Hbr.out.trans (HbW.out.mono HZ2.out)⟩
        case round =>
          obtain ⟨t, g2, ht, rfl, hown, heq, hcol, hA, hB, hbi⟩ := hrel
          clear HA HBB Hown5
          by_cases htl : t < n
          · obtain ⟨g', cap', hvs', hd2, hf2, hgB, hst⟩ := hown.at2 hlt htl
            obtain ⟨rfl, -⟩ : g' = og ∧ cap' = ocap := by
              rw [Hvs.out] at hvs'
              simp only [Value.slice.injEq, Option.some.injEq, Addr.mk.injEq, and_true, true_and] at hvs'
              exact ⟨hvs'.1.symm, hvs'.2.symm⟩
            have c1 := hA.cell (j := t + 1) (by omega)
            have c2 := hA.cell (j := t) (by omega)
            have c3 := hB.cell (j := t) (by omega)
            have c4 := hB.cell (j := t + 1) (by omega)
            have hfit : Fits (f k t) ∧ Fits (f k (t + 1)) ∧ Fits (f (k + 1) t) ∧ Fits (f (k + 1) (t + 1)) := ⟨hf _ _ hk77 (by omega), hf _ _ hk77 (by omega), hf _ _ hk88 (by omega), hf _ _ hk88 (by omega)⟩
            have hne1 : ¬ g' = ga := fun e => by have := Hown.out.rows k hlt; have h2 := this.lt g' (by rw [Hvs.out]; rfl); omega
            have hne2 : ¬ g' = gb := fun e => by have := Hown.out.rows k hlt; have h2 := this.lt g' (by rw [Hvs.out]; rfl); omega
            have hsg : sgW f k t = wrap64 ((wrap64 (wrap64 (wrap64 (f k (t + 1) - f k t) + f (k + 1) t) - f (k + 1) (t + 1))).tdiv 2) := rfl
            generalize f k (t + 1) = x1 at c1 hsg hfit
            generalize f k t = x0 at c2 hsg hfit
            generalize f (k + 1) t = y0 at c3 hsg hfit
            generalize f (k + 1) (t + 1) = y1 at c4 hsg hfit
            have Hst := Lib.hid (hst (sgW f k t))
            have Heq2 := Lib.hid heq
            have Hcol := Lib.hid hcol
            have Hsg := Lib.hid hsg
            have HA := Lib.hid hA
            have HBB := Lib.hid hB
            have Hbs := Lib.hid (hbi.setCell (p := ⟨g', t, none⟩) hgB (.int .i64 (sgW f k t)))
            have Hfit := Lib.hid hfit
            have ht7 : (t : Int) < 7 := by omega
            have ht8 : (t : Int) + 1 < 7 := by omega
            have ht9 : ¬ ((t : Int) + 1 < 0) := by omega
            have htw : IntKind.i64.wrap ((t : Int) + 1) = (t : Int) + 1 := w64 (by omega)
            have htn : ((t : Int) + 1).toNat = t + 1 := by omega
            clear hown heq hcol hA hB hbi hst hvs' hgB hsg hfit
            go_wp2
            go_region_held (fun w' => w'.cell? ⟨ga, t + 1, none⟩ = some (.int .i64 x1) ∧ w'.cell? ⟨ga, t, none⟩ = some (.int .i64 x0) ∧ w'.cell? ⟨gb, t, none⟩ = some (.int .i64 y0) ∧ w'.cell? ⟨gb, t + 1, none⟩ = some (.int .i64 y1)) (go_keep) (fail)
            all_goals
              go_wp2
              rw [← Hsg.out]
              go_roundw
              case rel =>
                refine ⟨t + 1, _, by omega, by go_num, Hst.out.drew, fun a b ha hb => ?_, fun b hb => ?_, HA.out.other (fun e => hne1 e.symm) _, HBB.out.other (fun e => hne2 e.symm) _, Hbs.out.drew⟩
                · rw [if_neg (fun h => by omega)]
                  exact Heq2.out a b ha hb
                · by_cases e : b = t
                  · subst e; rw [if_pos ⟨rfl, rfl⟩]
                  · rw [if_neg (fun h => by omega)]
                    exact Hcol.out b (by omega)
              case measure => simp [intOf]; omega
          · obtain rfl : t = n := by omega
            have Hown6 := Lib.hid hown
            have Heq2 := Lib.hid heq
            have Hcol := Lib.hid hcol
            have Hbi := Lib.hid hbi
            clear hown heq hcol hbi hA hB
            go_wp2
            go_roundw
            case rel =>
              refine ⟨k + 1, _, by omega, by go_num, Hown6.out, fun a b ha hb => ?_, Hbi.out⟩
              by_cases e : a = k
              · subst e; exact Hcol.out b hb
              · exact Heq2.out a b (by omega) hb
            case measure => simp [intOf]; omega
    · obtain rfl : k = n := by omega
      have e : tab k k (sgW f) = tab k k g := eq_tab (tab_len _ _ _) (fun i hi => tab_row hi) (fun i j hi hj => by rw [gi_tab hi hj, heq i j hi hj])
      have hfin : OwnM wr w.heap.size (.slice (some ⟨w1.heap.size, 0, none⟩) k k) (tab k k (sgW f)) := OwnM.base ⟨vs, by rw [tab_len, e]; exact hown⟩ HZ.out
      have Hfin := Lib.hid hfin
      have Hbr := Lib.hid (HB.out.trans (hbr.mono HZ.out))
      clear hown heq hbr e hfin
      go_wp2
      go_ret
      exact ⟨_, rfl, Hfin.out, Hbr.out⟩
end Go.Proofs.Ytmkldodkpijfjaa

namespace Go.Proofs.Ytmkldodkpijfjaa
open Go.RowKit

/-- ones where row and column have the same index -/
def idm (n : Nat) : List (List Int) := tab n n fun i j => if i = j then 1 else 0
theorem idm_len (n : Nat) : (idm n).length = n := tab_len _ _ _
theorem idm_square {n : Nat} (h1 : 1 ≤ n) (h6 : n ≤ 6) : square (idm n) := ⟨by rw [idm_len]; exact h1, by rw [idm_len]; exact h6, fun i hi => by rw [idm_len] at hi ⊢; exact tab_row hi⟩
def inSide (n : Int) : Prop := 1 ≤ n ∧ n ≤ 6
theorem idm_small {n : Int} (h : inSide n) : Small (idm n.toNat) := by
  have h1 := h.1
  have h2 := h.2
  exact (idm_square (by omega) (by omega)).small
theorem mir_idm_small {n : Int} (h : inSide n) : Small (mir (idm n.toNat)) := by
  have h1 := h.1
  have h2 := h.2
  exact (idm_square (by omega) (by omega)).mir.small

end Go.Proofs.Ytmkldodkpijfjaa

