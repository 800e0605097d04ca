/- Contracts: ratios, by the program. Conditions: numbers of at most 4 * 10^18. -/
import Derived.Test.YtmkldodkpijfjaaRatM
import Derived.Test.YtmkldodkpijfjaaFrm
import Derived.Test.YtmkldodkpijfjaaTLaw
import Derived.Test.YtmkldodkpijfjaaSame
namespace Go.Proofs.Ytmkldodkpijfjaa
open Go.RowKit

/-- a ratio as a struct of two numbers; a variable with one -/
def rtA (a : Nat × Nat) : Array Value := #[.int .i64 (a.1 : Int), .int .i64 (a.2 : Int)]
def RtAt (w : World) (g : Nat) (a : Nat × Nat) : Prop := w.heap[g]? = some (.cells (rtA a) 25 (0, 0))
theorem RtAt.c0 {w : World} {g : Nat} {a : Nat × Nat} (h : RtAt w g a) : w.cell? ⟨g, 0, none⟩ = some (.int .i64 (a.1 : Int)) := by rw [cell_of_row w g 0 _ _ _ h]; rfl
theorem RtAt.c1 {w : World} {g : Nat} {a : Nat × Nat} (h : RtAt w g a) : w.cell? ⟨g, 1, none⟩ = some (.int .i64 (a.2 : Int)) := by rw [cell_of_row w g 1 _ _ _ h]; rfl
theorem RtAt.lt {w : World} {g : Nat} {a : Nat × Nat} (h : RtAt w g a) : g < w.heap.size := lt_of_block h
theorem RtAt.below {w w' : World} {g : Nat} {a : Nat × Nat} (h : RtAt w g a) (hb : Below w.heap.size w w') : RtAt w' g a := by
  unfold RtAt
  rw [hb.block g h.lt]
  exact h
theorem RtAt.alloc {w : World} {g : Nat} {a : Nat × Nat} (h : RtAt w g a) (o : Obj) : RtAt (w.alloc o) g a := by
  unfold RtAt
  rw [heap_alloc_old w o h.lt]
  exact h
theorem RtAt.new (w : World) (a : Nat × Nat) : RtAt (w.alloc (.cells (rtA a) 25)) w.heap.size a := heap_alloc_new w _
theorem RtAt.setRow {w : World} {g : Nat} {a : Nat × Nat} (h : RtAt w g a) (b : Nat × Nat) : RtAt (w.setRow g (rtA b)) g b := setRow_heap w g _ _ _ _ h
theorem RtAt.setRow_other {w : World} {g g' : Nat} {a : Nat × Nat} (h : RtAt w g a) (hg : g ≠ g') (cs : Array Value) : RtAt (w.setRow g' cs) g a := by
  unfold RtAt
  rw [Go.setRow_other w g' g cs hg]
  exact h
theorem RtAt.only {S : Nat → Prop} {w w' : World} {g : Nat} {a : Nat × Nat} (h : RtAt w g a) (ho : OnlyW S w w') (hS : ¬S g) : RtAt w' g a := by
  unfold RtAt
  rw [ho.block g hS]
  exact h
theorem RtAt.put {w : World} {g : Nat} {a : Nat × Nat} (h : RtAt w g a) (x y : Nat) : RtAt ((w.setCell ⟨g, 0, none⟩ (.int .i64 (x : Int))).setCell ⟨g, 1, none⟩ (.int .i64 (y : Int))) g (x, y) := by
  have h1 := heap_setCell_same w g 0 _ _ (.int .i64 (x : Int)) h
  unfold RtAt
  rw [heap_setCell_same _ g 1 _ _ (.int .i64 (y : Int)) h1]
  rfl
theorem RtAt.putOther {w : World} {g g' : Nat} {a : Nat × Nat} (h : RtAt w g a) (hg : g ≠ g') (u v : Value) : RtAt ((w.setCell ⟨g', 0, none⟩ u).setCell ⟨g', 1, none⟩ v) g a := by
  unfold RtAt
  rw [heap_setCell_other _ ⟨g', 1, none⟩ g v hg, heap_setCell_other _ ⟨g', 0, none⟩ g u hg]
  exact h
theorem Try.info_rt : (Try.prog.info? 25).map (fun i => (i.zero, i.size)) = some (some (.agg (rtA (0, 0))), 2) := by kernel_rfl
theorem Try.size_rt (a : Nat × Nat) : (Try.prog.info? 25).map (·.size) = some (rtA a).size := (zero_of_info Try.info_rt).2
theorem rt_one (a : Nat × Nat) : (rtA a).all (·.oneCell') = true := by simp [rtA, Value.oneCell']
theorem rt_same (a b : Nat × Nat) : (rtA a).size = (rtA b).size := rfl
theorem Try.load_rt {w : World} {g : Nat} {a : Nat × Nat} (h : RtAt w g a) : (loadVar 25 ⟨g, 0, none⟩).run Try.prog w = .ok (.agg (rtA a)) w := run_loadVar_row _ _ _ _ _ _ _ h Try.underlying25 rfl (Try.size_rt a)
theorem Try.built_rt (x y : Int) : Try.prog.built 25 [(0, .int .i64 x), (1, .int .i64 y)] = some #[.int .i64 x, .int .i64 y] := by kernel_rfl
theorem Try.built_rt0 : Try.prog.built 25 [] = some (rtA (0, 0)) := by kernel_rfl
theorem rtwo_bot (w : World) (o : Obj) (a : Nat × Nat) : RtAt ((w.alloc (.cells (rtA a) 25)).alloc o) w.heap.size a := heap_alloc2_old w _ _
theorem rtwo_top (w : World) (o : Obj) (a : Nat × Nat) : RtAt ((w.alloc o).alloc (.cells (rtA a) 25)) (w.heap.size + 1) a := heap_alloc2_new w _ _

theorem wpList_buildRn {P : Program} {ops : Array Oper} {rest : List Oper} {o : Oper} {a : Act} {w : World} {Q : Exit → Act → World → Prop} (hg : o.guard = none) (t : TypeId) (xs : Array (Nat × Operand)) (ho : o.op = .build t xs)
    (vs : List (Nat × Value)) (hv : (xs.map fun (i, x) => (i, a.eval x)).toList = vs) (cells : Array Value) (hb : P.built t vs = some cells)
    (h : wpList P ops Q rest (a.put o.dst (.agg cells)) w) : wpList P ops Q (o :: rest) a w := by
  refine wpList_build hg t _ ho (by rw [hv, hb]; rfl) ?_
  rw [hv, hb]
  exact h

set_option maxRecDepth 100000 in
set_option maxHeartbeats 1600000 in
theorem commonDivisor_any (a b : Nat) (w : World) (ha : a ≤ 4000000000000000000) (hb : b ≤ 4000000000000000000) :
    Calls Try.prog 69 #[.int .i64 (a : Int), .int .i64 (b : Int)] w fun e w' => e = .returned (.int .i64 (Nat.gcd a b : Nat)) ∧ Q w w' := by
  go_enter Try.func69, Try.ntmps69
  go_wp2
  go_loopw [0, 1] (fun u v wr => ∃ x y : Nat, u = .int .i64 x ∧ v = .int .i64 y ∧ x ≤ 4000000000000000000 ∧ y ≤ 4000000000000000000 ∧ Nat.gcd x y = Nat.gcd a b ∧ Q w wr) (fun _ v _ => (intOf v).toNat)
  case atStart => exact ⟨a, b, rfl, rfl, ha, hb, rfl, Q.refl _⟩
  case round =>
    obtain ⟨x, y, rfl, rfl, hx, hy, hg, hq⟩ := hrel
    have Hq := Lib.hid hq
    have Hg := Lib.hid hg
    clear hq hg
    by_cases h0 : y = 0
    · subst h0
      have Hg2 := Lib.hid (show x = Nat.gcd a b by rw [← Hg.out, Nat.gcd_zero_right])
      go_wp2
      go_ret
      exact ⟨by rw [← Hg2.out]; rfl, Hq.out⟩
    · have hlt := Nat.mod_lt x (show y > 0 by omega)
      have hyy : ((y : Int) != 0) = true := by simp [h0]
      have hy0 : ((y : Int) == 0) = false := by simp [h0]
      have hm : (x : Int) % (y : Int) = ((x % y : Nat) : Int) := by rw [Int.natCast_emod]
      have Hg2 := Lib.hid (show Nat.gcd y (x % y) = Nat.gcd a b by rw [Nat.gcd_comm y, ← Nat.gcd_rec, Nat.gcd_comm]; exact Hg.out)
      obtain ⟨r, hr⟩ : ∃ r, r = x % y := ⟨_, rfl⟩
      rw [← hr] at hm hlt Hg2
      have hry : r ≤ 4000000000000000000 := by omega
      clear hr h0
      go_wp2
      go_quiet (fail)
      go_wp2
      go_roundw
      case rel => exact ⟨y, r, rfl, by rw [hm], hy, hry, Hg2.out, Hq.out.drewN _⟩
      case measure => simp [intOf]; omega

set_option maxRecDepth 100000 in
set_option maxHeartbeats 1600000 in
theorem ratioOf_any (p q : Nat) (w : World) (hq0 : 0 < q) (hp : p ≤ 4000000000000000000) (hq : q ≤ 4000000000000000000) :
    Calls Try.prog 57 #[.int .i64 (p : Int), .int .i64 (q : Int)] w fun e w' => e = .returned (.agg (rtA (nrm p q))) ∧ Below w.heap.size w w' := by
  have hg0 := (nrm_parts (p := p) hq0).1
  have hgl : Nat.gcd p q ≤ q := Nat.gcd_le_right _ hq0
  have C := Lib.hid (fun w => commonDivisor_any p q w hp hq)
  have H1 := Lib.hid (show (p : Int) / (Nat.gcd p q : Nat) = ((nrm p q).1 : Int) from by unfold nrm; rw [Int.natCast_ediv])
  have H2 := Lib.hid (show (q : Int) / (Nat.gcd p q : Nat) = ((nrm p q).2 : Int) from by unfold nrm; rw [Int.natCast_ediv])
  have hl := nrm_le p q
  obtain ⟨g, hg⟩ : ∃ g, g = Nat.gcd p q := ⟨_, rfl⟩
  rw [← hg] at hg0 hgl C H1 H2
  obtain ⟨r, hr⟩ : ∃ r, r = nrm p q := ⟨_, rfl⟩
  rw [← hr] at H1 H2 hl ⊢
  obtain ⟨r1, r2⟩ := r
  simp only at H1 H2 hl
  clear hg hr
  have hgz : ¬ g = 0 := by omega
  have hw1 : IntKind.i64.wrap (r1 : Int) = (r1 : Int) := w64 (by omega)
  have hw2 : IntKind.i64.wrap (r2 : Int) = (r2 : Int) := w64 (by omega)
  go_enter Try.func57, Try.ntmps57
  go_upto_region 1 with (refine wpList_allocT rfl 25 rfl _ _ Try.info_rt ?_)
  generalize hW : World.alloc w _ = w1
  have HR1 := Lib.hid (show RtAt w1 w.heap.size (0, 0) by rw [← hW]; exact RtAt.new w (0, 0))
  have HB1 := Lib.hid (show Below w.heap.size w w1 by rw [← hW]; exact (Below.refl _ w).alloc (Nat.le_refl _) _)
  clear hW
  go_wp2_with fail
  refine (C.out _).mono ?_
  rintro e w2 ⟨rfl, hq2⟩
  have HR := Lib.hid (HR1.out.below (hq2.below _))
  have HB := Lib.hid (HB1.out.trans (hq2.below w.heap.size))
  have h1 := H1.out
  have h2 := H2.out
  clear hq2 C HR1 HB1
  go_wp2
  refine wp_region_still_tail 6 (by kernel_rfl) (by kernel_rfl) ?_
  simp only [List.take_succ_cons, List.take_zero, List.drop_succ_cons, List.drop_zero]
  repeat still_step
  refine wpStill_nil ?_
  change wpList _ _ _ _ _ w2.drew
  have HR3 := Lib.hid (show RtAt w2.drew w.heap.size (0, 0) from HR.out)
  go_wp2_with (first | (refine wpList_buildRn rfl 25 _ rfl [(0, .int .i64 (r1 : Int)), (1, .int .i64 (r2 : Int))] rfl (rtA (r1, r2)) (Try.built_rt _ _) ?_) | (refine wpList_storeG rfl 25 _ _ rfl _ (rtA (r1, r2)) _ rfl rfl HR3.out (Try.size_rt _) (rt_same _ _) (rt_one _) ?_))
  have HR2 := Lib.hid (HR3.out.setRow (r1, r2))
  have HB2 := Lib.hid (below_setRowT (below_drewN HB.out 1) (Nat.le_refl _) (rtA (r1, r2)))
  refine bodyPost_ret (v := .agg (rtA (r1, r2))) ?_ rfl ⟨rfl, HB2.out⟩
  exact results_cell_one rfl _ _ w.heap.size _ rfl (Try.load_rt HR2.out)
end Go.Proofs.Ytmkldodkpijfjaa
