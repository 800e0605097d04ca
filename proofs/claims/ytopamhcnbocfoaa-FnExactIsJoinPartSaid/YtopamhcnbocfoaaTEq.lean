/- Equality of terrains, of their heights and of four numbers. Condition: the numbers fit an int. -/
import Derived.Test.YtopamhcnbocfoaaTRow
import Derived.DeepKeys
import Derived.Laws.StructEq
import Derived.Deep.RegionHeld
namespace Go.Proofs.Ytopamhcnbocfoaa
open Go.RowKit

theorem mapM_some {α β : Type} {g : α → Option β} {h : α → β} : ∀ {l : List α}, (∀ x ∈ l, g x = some (h x)) → l.mapM g = some (l.map h)
  | [], _ => rfl
  | x :: l, H => by
    rw [List.mapM_cons, H x List.mem_cons_self, mapM_some (fun y hy => H y (List.mem_cons_of_mem x hy))]
    rfl

def Fits (x : Int) : Prop := -9223372036854775808 ≤ x ∧ x ≤ 9223372036854775807
theorem fits_wf {x : Int} (h : Fits x) : (Lit.int .i64 x).wf = true := by
  unfold Fits at h
  simp [Lit.wf, IntKind.min, IntKind.max, IntKind.bits, IntKind.signed]
  omega
def Fits7 (f : Nat → Nat → Int) : Prop := ∀ i j, i < 7 → j < 7 → Fits (f i j)

section
variable {P : Program}
theorem lits_num {d : Nat} {t : TypeId} {x : Int} (hu : P.underlying t = some (.int .i64)) (h : Fits x) : P.keyLits (d + 1) t [.int .i64 x] = some [.int .i64 x] := by
  simp [Program.keyLits, hu, fits_wf h]
theorem take_rl (r : Nat → Int) {i : Nat} (hi : i < 7) : ((rl r).drop (i * 1)).take 1 = [.int .i64 (r i)] := by
  have h : (rl r)[i]? = some (.int .i64 (r i)) := by have := rc_at r hi; simpa [rc] using this
  have hl : i < (rl r).length := by simp [rl]; exact hi
  rw [Nat.mul_one, List.drop_eq_getElem_cons hl]
  have e : (rl r)[i] = .int .i64 (r i) := by rw [List.getElem?_eq_getElem hl] at h; exact Option.some.inj h
  rw [e]
  rfl
theorem take_hl (f : Nat → Nat → Int) {i : Nat} (hi : i < 7) : ((hl f).drop (i * 7)).take 7 = rl (f i) := by
  have h := congrArg Array.toList (hl_row f hi)
  simpa [rc] using h
def litR (r : Nat → Int) : List Lit := ((List.range 7).map fun j => [Lit.int .i64 (r j)]).flatten
def litH (f : Nat → Nat → Int) : List Lit := ((List.range 7).map fun i => litR (f i)).flatten
theorem litR_inj {r s : Nat → Int} : litR r = litR s ↔ ∀ j, j < 7 → r j = s j := by
  constructor
  · intro h
    simp [litR, List.range_succ] at h
    obtain ⟨h0, h1, h2, h3, h4, h5, h6⟩ := h
    intro j hj
    match j, hj with
    | 0, _ => exact h0
    | 1, _ => exact h1
    | 2, _ => exact h2
    | 3, _ => exact h3
    | 4, _ => exact h4
    | 5, _ => exact h5
    | 6, _ => exact h6
  · intro h
    unfold litR
    congr 1
    exact List.map_congr_left fun j hj => by rw [h j (List.mem_range.1 hj)]
theorem litR_len (r : Nat → Int) : (litR r).length = 7 := by simp [litR, List.range_succ]
theorem litH_inj {f g : Nat → Nat → Int} : litH f = litH g ↔ ∀ i j, i < 7 → j < 7 → f i j = g i j := by
  constructor
  · intro h
    have e : litR (f 0) = litR (g 0) ∧ litR (f 1) = litR (g 1) ∧ litR (f 2) = litR (g 2) ∧ litR (f 3) = litR (g 3) ∧ litR (f 4) = litR (g 4) ∧ litR (f 5) = litR (g 5) ∧ litR (f 6) = litR (g 6) := by
      have h2 : litR (f 0) ++ (litR (f 1) ++ (litR (f 2) ++ (litR (f 3) ++ (litR (f 4) ++ (litR (f 5) ++ litR (f 6)))))) = litR (g 0) ++ (litR (g 1) ++ (litR (g 2) ++ (litR (g 3) ++ (litR (g 4) ++ (litR (g 5) ++ litR (g 6)))))) := by
        simpa [litH, List.range_succ] using h
      obtain ⟨a0, h2⟩ := List.append_inj h2 (by rw [litR_len, litR_len])
      obtain ⟨a1, h2⟩ := List.append_inj h2 (by rw [litR_len, litR_len])
      obtain ⟨a2, h2⟩ := List.append_inj h2 (by rw [litR_len, litR_len])
      obtain ⟨a3, h2⟩ := List.append_inj h2 (by rw [litR_len, litR_len])
      obtain ⟨a4, h2⟩ := List.append_inj h2 (by rw [litR_len, litR_len])
      obtain ⟨a5, a6⟩ := List.append_inj h2 (by rw [litR_len, litR_len])
      exact ⟨a0, a1, a2, a3, a4, a5, a6⟩
    obtain ⟨e0, e1, e2, e3, e4, e5, e6⟩ := e
    intro i j hi hj
    match i, hi with
    | 0, _ => exact litR_inj.1 e0 j hj
    | 1, _ => exact litR_inj.1 e1 j hj
    | 2, _ => exact litR_inj.1 e2 j hj
    | 3, _ => exact litR_inj.1 e3 j hj
    | 4, _ => exact litR_inj.1 e4 j hj
    | 5, _ => exact litR_inj.1 e5 j hj
    | 6, _ => exact litR_inj.1 e6 j hj
  · intro h
    unfold litH
    congr 1
    exact List.map_congr_left fun i hi => litR_inj.2 fun j hj => h i j (List.mem_range.1 hi) hj
theorem lits_row {d : Nat} {t e : TypeId} {r : Nat → Int} (hu : P.underlying t = some (.array 7 e)) (he : P.underlying e = some (.int .i64)) (ct : P.cellsOf t = 7) (ce : P.cellsOf e = 1) (h : ∀ j, j < 7 → Fits (r j)) :
    P.keyLits (d + 2) t (rl r) = some (litR r) := by
  have hm : ((List.range 7).mapM fun i => P.keyLits (d + 1) e (((rl r).drop (i * P.cellsOf e)).take (P.cellsOf e))) = some ((List.range 7).map fun j => [Lit.int .i64 (r j)]) := by
    refine mapM_some fun i hi => ?_
    rw [List.mem_range] at hi
    rw [ce, take_rl r hi, lits_num he (h i hi)]
  unfold Program.keyLits
  rw [hu]
  simp only [ct, hm]
  rw [if_pos (by simp [rl])]
  rfl
theorem lits_rows {d : Nat} {t e n : TypeId} {f : Nat → Nat → Int} (hu : P.underlying t = some (.array 7 e)) (he : P.underlying e = some (.array 7 n)) (hn : P.underlying n = some (.int .i64))
    (ct : P.cellsOf t = 49) (ce : P.cellsOf e = 7) (cn : P.cellsOf n = 1) (h : Fits7 f) : P.keyLits (d + 3) t (hl f) = some (litH f) := by
  have hm : ((List.range 7).mapM fun i => P.keyLits (d + 2) e (((hl f).drop (i * P.cellsOf e)).take (P.cellsOf e))) = some ((List.range 7).map fun j => litR (f j)) := by
    refine mapM_some fun i hi => ?_
    rw [List.mem_range] at hi
    rw [ce, take_hl f hi, lits_row he hn ce cn (h i · hi)]
  unfold Program.keyLits
  rw [hu]
  simp only [ct, hm]
  rw [if_pos (hl_len f)]
  rfl
/-- equality by literals -/
theorem eq_by_lits {t : TypeId} {xs ys : List Value} {la lb : List Lit} (m : Nat) (hm : m ≤ 10000) (hk : P.keyTypeAt m t = true) (hf : (Value.agg xs.toArray).formed P t = true) (hg : (Value.agg ys.toArray).formed P t = true)
    (hx : P.keyLits m t xs = some la) (hy : P.keyLits m t ys = some lb) (w : World) : ∃ r : Bool, (Op.equalIn 10000 t (.agg xs.toArray) (.agg ys.toArray)).run P w = .ok r w ∧ (r = true ↔ la = lb) := by
  have := run_equalIn_deep (10000 - m) m t hk w m m (.agg xs.toArray) (.agg ys.toArray) la lb hf hg (by simpa [Value.cells] using hx) (by simpa [Value.cells] using hy)
  rwa [show 10000 - m + m = 10000 by omega] at this
end

theorem Try.cells_hts : Try.prog.cellsOf 45 = 49 := by kernel_rfl
theorem Try.cells_row7 : Try.prog.cellsOf 43 = 7 := by kernel_rfl
theorem Try.cells_one : Try.prog.cellsOf 3 = 1 := by kernel_rfl
theorem Try.cells_terr : Try.prog.cellsOf 47 = 50 := by kernel_rfl
theorem Try.key_hts : Try.prog.keyTypeAt 3 45 = true := by kernel_rfl
theorem Try.key_terr : Try.prog.keyTypeAt 4 47 = true := by kernel_rfl
theorem Try.guard_hts : Try.prog.eqGuardType Try.prog.depth 45 = false := by kernel_rfl
theorem Try.guard_terr : Try.prog.eqGuardType Try.prog.depth 47 = false := by kernel_rfl

/-- heights are the same, as '==' tells -/
noncomputable def sameH (f g : Nat → Nat → Int) : Bool := @decide (∀ i j, i < 7 → j < 7 → f i j = g i j) (Classical.propDecidable _)
theorem sameH_true {f g : Nat → Nat → Int} : sameH f g = true ↔ ∀ i j, i < 7 → j < 7 → f i j = g i j := by unfold sameH; simp
theorem formed_agg {P : Program} {t : TypeId} {xs : List Value} {d : TypeDesc} (hu : P.underlying t = some d) (hd : d.isRow = true) (hc : xs.length = P.cellsOf t) : (Value.agg xs.toArray).formed P t = true := by
  unfold Value.formed
  rw [hu]
  cases d <;> simp_all
theorem Try.eq_hts {f g : Nat → Nat → Int} (hf : Fits7 f) (hg : Fits7 g) (w : World) : (Op.equalIn 10000 45 (.agg (hl f).toArray) (.agg (hl g).toArray)).run Try.prog w = .ok (sameH f g) w := by
  obtain ⟨r, hr, hiff⟩ := eq_by_lits (P := Try.prog) 3 (by omega) Try.key_hts (formed_agg Try.underlying45 rfl (by rw [hl_len, Try.cells_hts])) (formed_agg Try.underlying45 rfl (by rw [hl_len, Try.cells_hts]))
    (lits_rows (d := 0) Try.underlying45 Try.underlying43 Try.underlying3 Try.cells_hts Try.cells_row7 Try.cells_one hf) (lits_rows (d := 0) Try.underlying45 Try.underlying43 Try.underlying3 Try.cells_hts Try.cells_row7 Try.cells_one hg) w
  have e : r = sameH f g := by rw [Bool.eq_iff_iff, hiff, litH_inj, sameH_true]
  rw [hr, e]
theorem lits_terr {d : Nat} {n : Int} {f : Nat → Nat → Int} (hn : Fits n) (hf : Fits7 f) : Try.prog.keyLits (d + 4) 47 (tl n f) = some (Lit.int .i64 n :: litH f) := by
  have h1 : Try.prog.keyLits (d + 3) 3 [.int .i64 n] = some [.int .i64 n] := lits_num (P := Try.prog) (d := d + 2) Try.underlying3 hn
  have h2 := lits_rows (P := Try.prog) (d := d) Try.underlying45 Try.underlying43 Try.underlying3 Try.cells_hts Try.cells_row7 Try.cells_one hf
  unfold Program.keyLits
  rw [Try.underlying47]
  have e0 : (tl n f).take 1 = [.int .i64 n] := by simp [tl]
  have e1 : (tl n f).tail.take 49 = hl f := by
    have : (tl n f).tail = hl f := rfl
    rw [this]
    exact List.take_of_length_le (by rw [hl_len]; exact Nat.le_refl _)
  have hlen : (tl n f).length = 50 := by simp [tl]
  simp [hlen, Try.cells_terr, Try.cells_one, Try.cells_hts, e0, e1, h1, h2]
theorem Try.eq_terr {n k : Int} {f g : Nat → Nat → Int} (hn : Fits n) (hk : Fits k) (hf : Fits7 f) (hg : Fits7 g) (w : World) :
    ∃ r : Bool, (Op.equalIn 10000 47 (.agg (tc n f)) (.agg (tc k g))).run Try.prog w = .ok r w ∧ (r = true ↔ n = k ∧ ∀ i j, i < 7 → j < 7 → f i j = g i j) := by
  obtain ⟨r, hr, hiff⟩ := eq_by_lits (P := Try.prog) (xs := tl n f) (ys := tl k g) 4 (by omega) Try.key_terr (formed_agg Try.underlying47 rfl (by rw [Try.cells_terr]; simp [tl])) (formed_agg Try.underlying47 rfl (by rw [Try.cells_terr]; simp [tl])) (lits_terr (d := 0) hn hf) (lits_terr (d := 0) hk hg) w
  refine ⟨r, hr, ?_⟩
  rw [hiff, List.cons.injEq, litH_inj]
  simp
end Go.Proofs.Ytopamhcnbocfoaa
