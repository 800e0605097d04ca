/- Parts of proofs: contracts and plain facts. Conditions: as each says. -/
import Derived.Test.YtmonhmbnbhaemaaDoorK15
import Derived.Deep.RegionHeld3
import Derived.Test.YtmonhmbnbhaemaaDoorRows
import Derived.ProofKit
import Derived.OpenShut
import Derived.ShutString
import Derived.ChangeOld
import Derived.Deep.Matrix
import Derived.Test.YtmonhmbnbhaemaaDoorTie
import Derived.Test.YtmonhmbnbhaemaaDoorCards
import Derived.Shelf.Vars
import Derived.Lay
import Derived.SevenTiedAt
import Derived.HandedShaped
import Derived.LaidMore
import Derived.Stop.Joined
namespace Go.Proofs.YtmonhmbnbhaemaaDoor
open Go.RowKit

theorem wpAnyH_inv {P : Program} {md : Region.Mode} {ops : Array Oper} {Q : Exit → Act → World → Prop} {S : World → Prop} (Inv : Nat → Array Bool → Act → World → Prop)
    (hfin : ∀ n l a w, Inv n l a w → Region.ready md ops l = [] → Q .normal a w)
    (hz : ∀ l a w, Inv 0 l a w → Region.ready md ops l = [])
    (hstep : ∀ n l a w i, Inv (n + 1) l a w → i ∈ Region.ready md ops l → wpOp P ops Q i (fun a' w' => S w' ∧ Inv n (l.setIfInBounds i true) a' w') a w) :
    ∀ n l a w, Inv n l a w → wpAnyH P md ops Q S n l a w
  | 0, l, a, w, h => ⟨hz l a w h, hfin 0 l a w h (hz l a w h)⟩
  | n + 1, l, a, w, h => ⟨fun h0 => hfin _ l a w h h0, fun i hi => wpOp_mono (fun a' w' hh => ⟨hh.1, wpAnyH_inv Inv hfin hz hstep n _ a' w' hh.2⟩) (hstep n l a w i h hi)⟩

theorem wpOp_plain {P : Program} {ops : Array Oper} {Q : Exit → Act → World → Prop} {i : Nat} {o : Oper} {K : Act → World → Prop} {a : Act} {w : World} (ho : ops[i]? = some o) (hg : o.guard = none) (h : Oper.wp P o a w K Q) : wpOp P ops Q i K a w :=
  wpOp_step ho fun K' hK => by
    rw [if_pos (by simp [Region.wanted, hg])]
    exact Oper.wp_mono hK h
theorem opwp_alloc {P : Program} {o : Oper} {a : Act} {w : World} {K : Act → World → Prop} {Q : Exit → Act → World → Prop} (t : TypeId) (ho : o.op = .alloc t) (z : Array Value) (n : Nat)
    (hz : (P.info? t).map (fun i => (i.zero, i.size)) = some (some (.agg z), n)) (h : K (a.put o.dst (.pointer (some ⟨w.heap.size, 0, none⟩))) (w.alloc (.cells z t))) : Oper.wp P o a w K Q := by
  unfold Oper.wp execOp
  simp only [ho, Instr.alloc, Sem.run_bind, (zero_of_info hz).1, Result.andThen_ok, newVar, newRow, run_newObj_alloc, Sem.run_pure, Value.cells]
  exact h
theorem opwp_call {P : Program} {o : Oper} {a : Act} {w : World} {K : Act → World → Prop} {Q : Exit → Act → World → Prop} (f : FuncId) (args : Array Value) (hrun : (execOp a.eval o).run P w = .ok (.enter f args) w) (v : Value) (R : World → Prop)
    (hc : Calls P f args w fun e w'' => e = .returned v ∧ R w'') (h : ∀ w'', R w'' → K (a.put o.dst v) w'') : Oper.wp P o a w K Q := by
  unfold Oper.wp
  rw [hrun, Oper.upon_enter]
  refine hc.mono fun e w'' hh => ?_
  obtain ⟨rfl, hr⟩ := hh
  exact h w'' hr

def flg (c1 c2 m1 m2 s1 s2 : Bool) : Array Bool := #[true, true, true, true, c1, true, true, true, true, c2, m1, m2, s1, s2]
def pt (g : Nat) : Value := .pointer (some ⟨g, 0, none⟩)
structure TwoI (E : Value → Value → Value → Value → Act) (X Y : Nat × Nat) (w0 : World) (c1 c2 m1 m2 s1 s2 : Bool) (g1 g2 : Nat) (a : Act) (w : World) : Prop where
  v1 : s1 = true → c1 = true ∧ m1 = true
  v2 : s2 = true → c2 = true ∧ m2 = true
  act : a = E (if m1 then pt g1 else undef) (if m2 then pt g2 else undef) (if c1 then .agg (rtA X) else undef) (if c2 then .agg (rtA Y) else undef)
  b1 : m1 = true → w0.heap.size ≤ g1 ∧ RtAt w g1 (if s1 then X else (0, 0))
  b2 : m2 = true → w0.heap.size ≤ g2 ∧ RtAt w g2 (if s2 then Y else (0, 0))
  ne : m1 = true → m2 = true → g1 ≠ g2
  low : Below w0.heap.size w0 w

set_option maxRecDepth 100000 in
set_option maxHeartbeats 1600000 in
theorem two_inv {ops : Array Oper} {Q : Exit → Act → World → Prop} {S : World → Prop} {A0 : Act} (X Y : Nat × Nat) (w0 : World) (E : Value → Value → Value → Value → Act) (hE0 : A0 = E undef undef undef undef)
    (o4 o9 o10 o11 o12 o13 : Oper) (k4 : ops[4]? = some o4) (k9 : ops[9]? = some o9) (k10 : ops[10]? = some o10) (k11 : ops[11]? = some o11) (k12 : ops[12]? = some o12) (k13 : ops[13]? = some o13)
    (u4 : o4.guard = none) (u9 : o9.guard = none) (u10 : o10.guard = none) (u11 : o11.guard = none) (u12 : o12.guard = none) (u13 : o13.guard = none)
    (p10 : ∀ a b c d v, (E a b c d).put o10.dst v = E v b c d) (p11 : ∀ a b c d v, (E a b c d).put o11.dst v = E a v c d) (p4 : ∀ a b c d v, (E a b c d).put o4.dst v = E a b v d) (p9 : ∀ a b c d v, (E a b c d).put o9.dst v = E a b c v)
    (p12 : ∀ a b c d v, (E a b c d).put o12.dst v = E a b c d) (p13 : ∀ a b c d v, (E a b c d).put o13.dst v = E a b c d)
    (q10 : o10.op = .alloc 25) (q11 : o11.op = .alloc 25) (x12 y12 x13 y13 : Operand) (q12 : o12.op = .store 25 x12 y12) (q13 : o13.op = .store 25 x13 y13)
    (e12 : ∀ a b c d, (E a b c d).eval x12 = a ∧ (E a b c d).eval y12 = c) (e13 : ∀ a b c d, (E a b c d).eval x13 = b ∧ (E a b c d).eval y13 = d)
    (f : FuncId) (r4 r9 : Array Value) (h4 : ∀ a b c d w, (execOp (E a b c d).eval o4).run Tryd.prog w = .ok (.enter f r4) w) (h9 : ∀ a b c d w, (execOp (E a b c d).eval o9).run Tryd.prog w = .ok (.enter f r9) w)
    (c4 : ∀ w, Calls Tryd.prog f r4 w fun e w' => e = .returned (.agg (rtA X)) ∧ Below w.heap.size w w') (c9 : ∀ w, Calls Tryd.prog f r9 w fun e w' => e = .returned (.agg (rtA Y)) ∧ Below w.heap.size w w')
    (hready : ∀ c1 c2 m1 m2 s1 s2 : Bool, (Region.ready .any ops (flg c1 c2 m1 m2 s1 s2)).all (fun i => (i == 4 && !c1) || (i == 9 && !c2) || (i == 10 && !m1) || (i == 11 && !m2) || (i == 12 && !s1 && c1 && m1) || (i == 13 && !s2 && c2 && m2)) = true)
    (hdone : ∀ c1 c2 m1 m2 s1 s2 : Bool, (Region.ready .any ops (flg c1 c2 m1 m2 s1 s2)).isEmpty = (c1 && c2 && m1 && m2 && s1 && s2))
    (hS : ∀ w, Below w0.heap.size w0 w → S w)
    (hfin : ∀ g1 g2 w', RtAt w' g1 X → RtAt w' g2 Y → w0.heap.size ≤ g1 → w0.heap.size ≤ g2 → Below w0.heap.size w0 w' → Q .normal (E (pt g1) (pt g2) (.agg (rtA X)) (.agg (rtA Y))) w') :
    wpAnyH Tryd.prog .any ops Q S 6 (flg false false false false false false) A0 w0 := by
  refine wpAnyH_inv (fun n l a w => ∃ c1 c2 m1 m2 s1 s2 g1 g2, l = flg c1 c2 m1 m2 s1 s2 ∧ n + c1.toNat + c2.toNat + m1.toNat + m2.toNat + s1.toNat + s2.toNat = 6 ∧ TwoI E X Y w0 c1 c2 m1 m2 s1 s2 g1 g2 a w) ?_ ?_ ?_ 6 _ A0 w0 ⟨false, false, false, false, false, false, 0, 0, rfl, rfl, ⟨nofun, nofun, hE0, nofun, nofun, nofun, Below.refl _ _⟩⟩
  · rintro n l a w ⟨c1, c2, m1, m2, s1, s2, g1, g2, rfl, _, h⟩ hr
    have hd := hdone c1 c2 m1 m2 s1 s2
    rw [hr] at hd
    simp only [List.isEmpty_nil, Bool.true_eq, Bool.and_eq_true] at hd
    obtain ⟨⟨⟨⟨⟨rfl, rfl⟩, rfl⟩, rfl⟩, rfl⟩, rfl⟩ := hd
    have hb1 := h.b1 rfl
    have hb2 := h.b2 rfl
    rw [if_pos rfl] at hb1 hb2
    rw [h.act]
    exact hfin g1 g2 w hb1.2 hb2.2 hb1.1 hb2.1 h.low
  · rintro l a w ⟨c1, c2, m1, m2, s1, s2, g1, g2, rfl, hn, _⟩
    have hd := hdone c1 c2 m1 m2 s1 s2
    have l1 := Bool.toNat_le c1
    have l2 := Bool.toNat_le c2
    have l3 := Bool.toNat_le m1
    have l4 := Bool.toNat_le m2
    have l5 := Bool.toNat_le s1
    have l6 := Bool.toNat_le s2
    have t : ∀ b : Bool, b.toNat = 1 → b = true := by decide
    have r1 := t c1 (by omega)
    have r2 := t c2 (by omega)
    have r3 := t m1 (by omega)
    have r4 := t m2 (by omega)
    have r5 := t s1 (by omega)
    have r6 := t s2 (by omega)
    subst r1 r2 r3 r4 r5 r6
    exact List.isEmpty_iff.1 hd
  · rintro n l a w i ⟨c1, c2, m1, m2, s1, s2, g1, g2, rfl, hn, h⟩ hi
    have hi2 := List.all_eq_true.1 (hready c1 c2 m1 m2 s1 s2) i hi
    simp only [Bool.or_eq_true, Bool.and_eq_true, beq_iff_eq, Bool.not_eq_true'] at hi2
    have hact := h.act
    rcases hi2 with ((((⟨rfl, rfl⟩ | ⟨rfl, rfl⟩) | ⟨rfl, rfl⟩) | ⟨rfl, rfl⟩) | ⟨⟨⟨rfl, rfl⟩, rfl⟩, rfl⟩) | ⟨⟨⟨rfl, rfl⟩, rfl⟩, rfl⟩
    · rw [hact]
      refine wpOp_plain k4 u4 (opwp_call f r4 (h4 _ _ _ _ _) _ _ (c4 w) fun w' hb => ?_)
      rw [p4]
      have hlow := h.low.trans (hb.mono h.low.size)
      refine ⟨hS _ hlow, true, c2, m1, m2, s1, s2, g1, g2, rfl, by simp only [Bool.toNat_true, Bool.toNat_false] at *; omega, ⟨fun e => ⟨rfl, (h.v1 e).2⟩, h.v2, rfl, fun e => ⟨(h.b1 e).1, (h.b1 e).2.below hb⟩, fun e => ⟨(h.b2 e).1, (h.b2 e).2.below hb⟩, h.ne, hlow⟩⟩
    · rw [hact]
      refine wpOp_plain k9 u9 (opwp_call f r9 (h9 _ _ _ _ _) _ _ (c9 w) fun w' hb => ?_)
      rw [p9]
      have hlow := h.low.trans (hb.mono h.low.size)
      refine ⟨hS _ hlow, c1, true, m1, m2, s1, s2, g1, g2, rfl, by simp only [Bool.toNat_true, Bool.toNat_false] at *; omega, ⟨h.v1, fun e => ⟨rfl, (h.v2 e).2⟩, rfl, fun e => ⟨(h.b1 e).1, (h.b1 e).2.below hb⟩, fun e => ⟨(h.b2 e).1, (h.b2 e).2.below hb⟩, h.ne, hlow⟩⟩
    · rw [hact]
      refine wpOp_plain k10 u10 (opwp_alloc 25 q10 _ _ Tryd.info_rt ?_)
      rw [p10]
      have hlow := h.low.alloc h.low.size (.cells (rtA (0, 0)) 25)
      have hs : s1 = false := by cases s1 with | false => rfl | true => exact absurd (h.v1 rfl).2 (by decide)
      subst hs
      refine ⟨hS _ hlow, c1, c2, true, m2, false, s2, w.heap.size, g2, rfl, by simp only [Bool.toNat_true, Bool.toNat_false] at *; omega, ⟨nofun, h.v2, rfl, fun _ => ⟨h.low.size, RtAt.new w (0, 0)⟩, fun e => ⟨(h.b2 e).1, (h.b2 e).2.alloc _⟩, fun _ e => Nat.ne_of_gt (h.b2 e).2.lt, hlow⟩⟩
    · rw [hact]
      refine wpOp_plain k11 u11 (opwp_alloc 25 q11 _ _ Tryd.info_rt ?_)
      rw [p11]
      have hlow := h.low.alloc h.low.size (.cells (rtA (0, 0)) 25)
      have hs : s2 = false := by cases s2 with | false => rfl | true => exact absurd (h.v2 rfl).2 (by decide)
      subst hs
      refine ⟨hS _ hlow, c1, c2, m1, true, s1, false, g1, w.heap.size, rfl, by simp only [Bool.toNat_true, Bool.toNat_false] at *; omega, ⟨h.v1, nofun, rfl, fun e => ⟨(h.b1 e).1, (h.b1 e).2.alloc _⟩, fun _ => ⟨h.low.size, RtAt.new w (0, 0)⟩, fun e _ => Nat.ne_of_lt (h.b1 e).2.lt, hlow⟩⟩
    · rw [hact]
      refine wpOp_plain k12 u12 (wp_store_row 25 x12 y12 q12 g1 (rtA X) (by rw [(e12 _ _ _ _).1]; rfl) (by rw [(e12 _ _ _ _).2]; rfl) _ _ (h.b1 rfl).2 (Tryd.size_rt _) (rt_same _ _) (rt_one _) ?_)
      rw [p12]
      have hlow := below_setRowT h.low (h.b1 rfl).1 (rtA X)
      refine ⟨hS _ hlow, true, c2, true, m2, true, s2, g1, g2, rfl, by simp only [Bool.toNat_true, Bool.toNat_false] at *; omega, ⟨fun _ => ⟨rfl, rfl⟩, h.v2, rfl, fun _ => ⟨(h.b1 rfl).1, (h.b1 rfl).2.setRow X⟩, fun e => ⟨(h.b2 e).1, (h.b2 e).2.setRow_other (Ne.symm (h.ne rfl e)) _⟩, h.ne, hlow⟩⟩
    · rw [hact]
      refine wpOp_plain k13 u13 (wp_store_row 25 x13 y13 q13 g2 (rtA Y) (by rw [(e13 _ _ _ _).1]; rfl) (by rw [(e13 _ _ _ _).2]; rfl) _ _ (h.b2 rfl).2 (Tryd.size_rt _) (rt_same _ _) (rt_one _) ?_)
      rw [p13]
      have hlow := below_setRowT h.low (h.b2 rfl).1 (rtA Y)
      refine ⟨hS _ hlow, c1, true, m1, true, s1, true, g1, g2, rfl, by simp only [Bool.toNat_true, Bool.toNat_false] at *; omega, ⟨h.v1, fun _ => ⟨rfl, rfl⟩, rfl, fun e => ⟨(h.b1 e).1, (h.b1 e).2.setRow_other (h.ne e rfl) _⟩, fun _ => ⟨(h.b2 rfl).1, (h.b2 rfl).2.setRow Y⟩, h.ne, hlow⟩⟩
end Go.Proofs.YtmonhmbnbhaemaaDoor

namespace Go.Proofs.YtmonhmbnbhaemaaDoor
open Go.RowKit

set_option maxRecDepth 100000 in
set_option maxHeartbeats 3200000 in
theorem weTimes_any (a b : Nat × Nat) (w : World) (ha : Cop a) (hb : Cop b) (ha1 : a.1 ≤ 1000000000) (ha2 : a.2 ≤ 1000000000) (hb1 : b.1 ≤ 1000000000) (hb2 : b.2 ≤ 1000000000) :
    Calls Tryd.prog 17 #[.agg (rtA a), .agg (rtA b)] w fun e w' => e = .returned (.agg (rtA (tm a b))) ∧ Below w.heap.size w w' := by
  have HV := Lib.hid (tm_cross ha hb)
  have C1 := Lib.hid (fun w => weRatio_any a.1 b.2 w hb.2 (by omega) (by omega))
  have C2 := Lib.hid (fun w => weRatio_any b.1 a.2 w ha.2 (by omega) (by omega))
  have l1 := nrm_le a.1 b.2
  have l2 := nrm_le b.1 a.2
  obtain ⟨X, hX⟩ : ∃ X, X = nrm a.1 b.2 := ⟨_, rfl⟩
  obtain ⟨Y, hY⟩ : ∃ Y, Y = nrm b.1 a.2 := ⟨_, rfl⟩
  rw [← hX] at HV C1 l1
  rw [← hY] at HV C2 l2
  clear hX hY ha hb
  obtain ⟨a1, a2⟩ := a
  obtain ⟨b1, b2⟩ := b
  simp only at HV C1 C2 l1 l2 ha1 ha2 hb1 hb2
  have m1 := Nat.mul_le_mul (Nat.le_trans l1.1 ha1) (Nat.le_trans l2.1 hb1)
  have m2 := Nat.mul_le_mul (Nat.le_trans l1.2 hb2) (Nat.le_trans l2.2 ha2)
  obtain ⟨U, hU⟩ : ∃ U, U = X.1 * Y.1 := ⟨_, rfl⟩
  obtain ⟨V, hV⟩ : ∃ V, V = X.2 * Y.2 := ⟨_, rfl⟩
  rw [← hU] at HV m1
  rw [← hV] at HV m2
  have e1 : (X.1 : Int) * (Y.1 : Int) = (U : Int) := by rw [hU, Int.natCast_mul]
  have e2 : (X.2 : Int) * (Y.2 : Int) = (V : Int) := by rw [hV, Int.natCast_mul]
  have k1 : IntKind.i64.wrap (U : Int) = (U : Int) := w64 (by omega)
  have k2 : IntKind.i64.wrap (V : Int) = (V : Int) := w64 (by omega)
  have He := Lib.hid (And.intro (And.intro e1 e2) (And.intro k1 k2))
  clear l1 l2 hU hV m1 m2 e1 e2 k1 k2 ha1 ha2 hb1 hb2
  go_enter Tryd.func17, Tryd.ntmps17
  go_upto_region 1 with (first | (refine wpList_boxT rfl 25 _ rfl _ rfl ?_) | (refine wpList_allocT rfl 25 rfl _ _ Tryd.info_rt ?_))
  generalize hW : World.alloc (World.alloc (World.alloc w _) _) _ = w1
  have h1 : RtAt w1 w.heap.size (a1, a2) := by rw [← hW]; exact rt3_0 w _ _ _
  have h2 : RtAt w1 (w.heap.size + 1) (b1, b2) := by rw [← hW]; exact rt3_1 w _ _ _
  have h3 : RtAt w1 (w.heap.size + 2) (0, 0) := by rw [← hW]; exact rt3_2 w _ _ _
  have hB : Below w.heap.size w w1 := by rw [← hW]; exact rt3_below w _ _ _
  clear hW
  have h1' := h1.below (below_drewN (Below.refl _ _) 1)
  have h2' := h2.below (below_drewN (Below.refl _ _) 1)
  have H3 := Lib.hid (h3.below (below_drewN (Below.refl _ _) 1))
  have HB := Lib.hid (below_drewN hB 1)
  clear h1 h2 h3 hB
  refine wp_region_held_drew (S := fun w' => w'.cell? ⟨w.heap.size, 0, none⟩ = some (.int .i64 (a1 : Int)) ∧ w'.cell? ⟨w.heap.size, 1, none⟩ = some (.int .i64 (a2 : Int)) ∧ w'.cell? ⟨w.heap.size + 1, 0, none⟩ = some (.int .i64 (b1 : Int)) ∧ w'.cell? ⟨w.heap.size + 1, 1, none⟩ = some (.int .i64 (b2 : Int))) (by kernel_rfl) ⟨h1'.c0, h1'.c1, h2'.c0, h2'.c1⟩ (fun hHeld => ?_)
  refine wpAnyH_take (i := 0) (oi := ⟨some 7, _, _, _, _, _⟩) (v := .pointer (some ⟨w.heap.size, 0, none⟩)) rfl (by kernel_rfl) (by kernel_rfl) (by kernel_rfl) (fun _ _ _ h => h) (Or.inl ⟨by rfl, ?y1⟩) hHeld ?_
  case y1 => intro w hSw; (try dsimp only at hSw); go_simp
  simp only [Act.put, List.setIfInBounds_toArray, List.set_cons_zero, List.set_cons_succ]
  refine wpAnyH_take (i := 1) (oi := ⟨some 8, _, _, _, _, _⟩) (v := .int .i64 (a1 : Int)) rfl (by kernel_rfl) (by kernel_rfl) (by kernel_rfl) (fun _ _ _ h => h) (Or.inl ⟨by rfl, ?y1⟩) hHeld ?_
  case y1 => intro w hSw; (try dsimp only at hSw); go_simp
  simp only [Act.put, List.setIfInBounds_toArray, List.set_cons_zero, List.set_cons_succ]
  refine wpAnyH_take (i := 2) (oi := ⟨some 9, _, _, _, _, _⟩) (v := .pointer (some ⟨w.heap.size + 1, 1, none⟩)) rfl (by kernel_rfl) (by kernel_rfl) (by kernel_rfl) (fun _ _ _ h => h) (Or.inl ⟨by rfl, ?y1⟩) hHeld ?_
  case y1 => intro w hSw; (try dsimp only at hSw); go_simp
  simp only [Act.put, List.setIfInBounds_toArray, List.set_cons_zero, List.set_cons_succ]
  refine wpAnyH_take (i := 3) (oi := ⟨some 10, _, _, _, _, _⟩) (v := .int .i64 (b2 : Int)) rfl (by kernel_rfl) (by kernel_rfl) (by kernel_rfl) (fun _ _ _ h => h) (Or.inl ⟨by rfl, ?y1⟩) hHeld ?_
  case y1 => intro w hSw; (try dsimp only at hSw); go_simp
  simp only [Act.put, List.setIfInBounds_toArray, List.set_cons_zero, List.set_cons_succ]
  refine wpAnyH_take (i := 5) (oi := ⟨some 12, _, _, _, _, _⟩) (v := .pointer (some ⟨w.heap.size + 1, 0, none⟩)) rfl (by kernel_rfl) (by kernel_rfl) (by kernel_rfl) (fun _ _ _ h => h) (Or.inl ⟨by rfl, ?y1⟩) hHeld ?_
  case y1 => intro w hSw; (try dsimp only at hSw); go_simp
  simp only [Act.put, List.setIfInBounds_toArray, List.set_cons_zero, List.set_cons_succ]
  refine wpAnyH_take (i := 6) (oi := ⟨some 13, _, _, _, _, _⟩) (v := .int .i64 (b1 : Int)) rfl (by kernel_rfl) (by kernel_rfl) (by kernel_rfl) (fun _ _ _ h => h) (Or.inl ⟨by rfl, ?y1⟩) hHeld ?_
  case y1 => intro w hSw; (try dsimp only at hSw); go_simp
  simp only [Act.put, List.setIfInBounds_toArray, List.set_cons_zero, List.set_cons_succ]
  refine wpAnyH_take (i := 7) (oi := ⟨some 14, _, _, _, _, _⟩) (v := .pointer (some ⟨w.heap.size, 1, none⟩)) rfl (by kernel_rfl) (by kernel_rfl) (by kernel_rfl) (fun _ _ _ h => h) (Or.inl ⟨by rfl, ?y1⟩) hHeld ?_
  case y1 => intro w hSw; (try dsimp only at hSw); go_simp
  simp only [Act.put, List.setIfInBounds_toArray, List.set_cons_zero, List.set_cons_succ]
  refine wpAnyH_take (i := 8) (oi := ⟨some 15, _, _, _, _, _⟩) (v := .int .i64 (a2 : Int)) rfl (by kernel_rfl) (by kernel_rfl) (by kernel_rfl) (fun _ _ _ h => h) (Or.inl ⟨by rfl, ?y1⟩) hHeld ?_
  case y1 => intro w hSw; (try dsimp only at hSw); go_simp
  simp only [Act.put, List.setIfInBounds_toArray, List.set_cons_zero, List.set_cons_succ]
  refine two_inv X Y w1.drew (fun x5 x6 x11 x16 => ⟨#[.agg (rtA (a1, a2)), .agg (rtA (b1, b2)), .pointer (some ⟨w.heap.size, 0, none⟩), .pointer (some ⟨w.heap.size + 1, 0, none⟩), .pointer (some ⟨w.heap.size + 2, 0, none⟩), x5, x6, .pointer (some ⟨w.heap.size, 0, none⟩), .int .i64 (a1 : Int), .pointer (some ⟨w.heap.size + 1, 1, none⟩), .int .i64 (b2 : Int), x11, .pointer (some ⟨w.heap.size + 1, 0, none⟩), .int .i64 (b1 : Int), .pointer (some ⟨w.heap.size, 1, none⟩), .int .i64 (a2 : Int), x16, undef, undef, undef, undef, undef, undef, undef, undef, undef, undef, undef], []⟩) ?hE _ _ _ _ _ _ rfl rfl rfl rfl rfl rfl rfl rfl rfl rfl rfl rfl ?_ ?_ ?_ ?_ ?_ ?_ rfl rfl (.tmp 5) (.tmp 11) (.tmp 6) (.tmp 16) rfl rfl ?_ ?_ 18 #[.int .i64 (a1 : Int), .int .i64 (b2 : Int)] #[.int .i64 (b1 : Int), .int .i64 (a2 : Int)] ?_ ?_ C1.out C2.out ?_ ?_ ?_ ?_
  case hE => simp
  · first | exact fun _ _ _ _ _ => rfl | (intro _ _ _ _ _; kernel_rfl)
  · first | exact fun _ _ _ _ _ => rfl | (intro _ _ _ _ _; kernel_rfl)
  · first | exact fun _ _ _ _ _ => rfl | (intro _ _ _ _ _; kernel_rfl)
  · first | exact fun _ _ _ _ _ => rfl | (intro _ _ _ _ _; kernel_rfl)
  · first | exact fun _ _ _ _ _ => rfl | (intro _ _ _ _ _; kernel_rfl)
  · first | exact fun _ _ _ _ _ => rfl | (intro _ _ _ _ _; kernel_rfl)
  · exact fun _ _ _ _ => ⟨rfl, rfl⟩
  · exact fun _ _ _ _ => ⟨rfl, rfl⟩
  · first | exact fun _ _ _ _ _ => rfl | (intro _ _ _ _ _; kernel_rfl)
  · first | exact fun _ _ _ _ _ => rfl | (intro _ _ _ _ _; kernel_rfl)
  · decide +kernel
  · decide +kernel
  · exact fun w' hb => ⟨cell_below hHeld.1 hb, cell_below hHeld.2.1 hb, cell_below hHeld.2.2.1 hb, cell_below hHeld.2.2.2 hb⟩
  · intro g1 g2 w' hx hy _ _ hb
    have H3' := Lib.hid (H3.out.below hb)
    have HB' := Lib.hid (HB.out.trans (hb.mono HB.out.size))
    obtain ⟨X1, X2⟩ := X
    obtain ⟨Y1, Y2⟩ := Y
    have c0 := hx.c0
    have c1 := hx.c1
    have d0 := hy.c0
    have d1 := hy.c1
    obtain ⟨⟨e1, e2⟩, k1, k2⟩ := He.out
    simp only at c0 c1 d0 d1 e1 e2
    clear hx hy hb H3 HB He hHeld h1' h2' C1 C2
    simp only [pt]
    go_wp2_with (first | (refine wpList_buildRn rfl 25 _ rfl [(0, .int .i64 (U : Int)), (1, .int .i64 (V : Int))] rfl (rtA (U, V)) (Tryd.built_rt _ _) ?_) | (refine wpList_storeG rfl 25 _ _ rfl _ (rtA (U, V)) _ rfl rfl H3'.out (Tryd.size_rt _) (rt_same _ _) (rt_one _) ?_))
    have HR2 := Lib.hid (H3'.out.setRow (U, V))
    have HB3 := Lib.hid (below_setRowT HB'.out (show w.heap.size ≤ w.heap.size + 2 by omega) (rtA (U, V)))

    refine bodyPost_ret (v := .agg (rtA (U, V))) ?_ rfl ⟨by rw [HV.out], HB3.out⟩
    exact results_cell_one rfl _ _ (w.heap.size + 2) _ rfl (Tryd.load_rt HR2.out)
end Go.Proofs.YtmonhmbnbhaemaaDoor

namespace Go.Proofs.YtmonhmbnbhaemaaDoor
open Go.RowKit

theorem specLambdaSum_any (ao : Option Addr) (c : Nat) (t : List (List Int)) (x : Int) (w : World) (hs : Small t) (ht : MatAt w ao t)
    (hx : -9223372036854775808 ≤ x ∧ x ≤ 9223372036854775807) :
    Calls Tryd.prog 5 #[.slice ao t.length c, .int .i64 x] w fun e w' => RtRes (okLam t x) (lamS t x) e ∧ Below w.heap.size w w' :=
  specLambdaSum_of (fun a b w h1 h2 h3 h4 h5 h6 => weTimes_any a b w h1 h2 h3 h4 h5 h6) ao c t x w hs ht hx
end Go.Proofs.YtmonhmbnbhaemaaDoor

namespace Go.Proofs.YtmonhmbnbhaemaaDoor
open Go.RowKit

set_option maxRecDepth 100000 in
set_option maxHeartbeats 800000 in
theorem eqRatio_same (y : Nat × Nat) (w : World) : Calls Tryd.prog 8 #[.agg (rtA y), .agg (rtA y)] w fun e w' => e = .returned (.bool true) ∧ Below w.heap.size w w' := by
  obtain ⟨p, q⟩ := y
  have h1 : ((p : Int) != (p : Int)) = false := by simp
  have h2 : ((q : Int) != (q : Int)) = false := by simp
  go_enter Tryd.func8, Tryd.ntmps8
  go_upto_region 1 with (refine wpList_boxT rfl 25 _ rfl _ rfl ?_)
  generalize hW : World.alloc (World.alloc w _) _ = w1
  have r1 : RtAt w1 w.heap.size (p, q) := by rw [← hW]; exact rtwo_bot w _ _
  have r2 : RtAt w1 (w.heap.size + 1) (p, q) := by rw [← hW]; exact rtwo_top w _ _
  have hB : Below w.heap.size w w1 := by rw [← hW]; exact ((Below.refl _ w).alloc (Nat.le_refl _) _).alloc (by simp) _
  clear hW
  have c1 : w1.cell? ⟨w.heap.size, 0, none⟩ = some (.int .i64 (p : Int)) := r1.c0
  have c2 : w1.cell? ⟨w.heap.size, 1, none⟩ = some (.int .i64 (q : Int)) := r1.c1
  have c3 : w1.cell? ⟨w.heap.size + 1, 0, none⟩ = some (.int .i64 (p : Int)) := r2.c0
  have c4 : w1.cell? ⟨w.heap.size + 1, 1, none⟩ = some (.int .i64 (q : Int)) := r2.c1
  have HB := Lib.hid hB
  clear r1 r2 hB
  go_wp2
  go_ret
  exact ⟨rfl, HB.out⟩
end Go.Proofs.YtmonhmbnbhaemaaDoor

namespace Go.Proofs.YtmonhmbnbhaemaaDoor
open Go.ChangeShapes Go.WideShapes Go.ChangeAt Go.RowKit Go.Deep

theorem Tryd.own : ownKnob Tryd.prog.godebug = none := by kernel_rfl
theorem Tryd.laidOut : laidOutB Tryd.prog = true := by kernel_rfl
theorem Tryd.cells_int : Tryd.prog.cellsOf 3 = 1 := by kernel_rfl
theorem Tryd.cells_ints : Tryd.prog.cellsOf 33 = 1 := by kernel_rfl

theorem at_zero {w : World} {a : Addr} {v : Value} (h : w.cell? (a.add 0) = some v) : ∃ b o, a = ⟨b, o, none⟩ := by
  have hs := World.cell?_spot h
  obtain ⟨b, o, s⟩ := a
  exact ⟨b, o, by simpa [Addr.add] using hs⟩

/-- a slice of integers that came in -/
theorem open_ints_arg {H : Type} {enc : TypeId × Value → H} {w : World} {ao : Option Addr} {n c : Nat} {d : DataW H} {p : List MemPlace}
    (h : DataW.Trod enc Tryd.prog w 0 (fun _ => true) true 33 (.slice ao n c) d p) :
    ∃ xs : List Int, xs.length = n ∧ n ≤ 9223372036854775807 ∧ WfI xs ∧ IntsAt w ao xs := by
  obtain ⟨fuel, hf⟩ := h
  rcases open_ints Tryd.underlying33 Tryd.underlying3 Tryd.cells_int hf with ⟨hcs, _⟩ | ⟨x, l, c', zs, hcs, _, hl, hm, hz, _, hcell, hwz⟩
  · simp [Value.cells] at hcs
    obtain ⟨rfl, rfl, rfl⟩ := hcs
    exact ⟨[], rfl, by omega, fun i hi => absurd hi (by simp), IntsAt.nil _ _⟩
  · simp [Value.cells] at hcs
    obtain ⟨rfl, rfl, rfl⟩ := hcs
    simp only [if_true] at hz
    have hlen : (zs.take n).length = n := by rw [List.length_take]; omega
    have hgi : ∀ i, i < n → gi (zs.take n) i = zs.getD i 0 := fun i hi => by simp [gi, List.getD, hi]
    have hm' : c ≤ 9223372036854775807 := by simpa [maxLen] using hm
    refine ⟨zs.take n, hlen, by omega, fun i hi => ?_, fun i hi => ?_⟩
    · rw [hlen] at hi
      rw [hgi i hi]
      exact range_i64 hwz i
    · rw [hlen] at hi
      have hc := hcell i (by omega)
      obtain ⟨b, o, rfl⟩ := at_zero (hcell 0 (by omega))
      rw [Addr.add_lit] at hc
      exact ⟨b, o, rfl, by rw [hgi i hi]; exact hc⟩

/-- a slice of slices of integers that came in -/
theorem open_mat_arg {H : Type} {enc : TypeId × Value → H} {w : World} {ao : Option Addr} {n c : Nat} {d : DataW H} {p : List MemPlace}
    (h : DataW.Trod enc Tryd.prog w 0 (fun _ => true) true 22 (.slice ao n c) d p) :
    ∃ m : List (List Int), m.length = n ∧ n ≤ 9223372036854775807 ∧ WfM m ∧ (∀ i, i < m.length → (gr m i).length ≤ 9223372036854775807) ∧ MatAt w ao m := by
  obtain ⟨fuel, hf⟩ := h
  rcases open_int_rows Tryd.underlying22 Tryd.underlying33 Tryd.underlying3 Tryd.cells_ints Tryd.cells_int hf with ⟨hcs, _⟩ | ⟨x, l, c', A, L, C, Z, hcs, _, hl, hm, _, hrows⟩
  · simp [Value.cells] at hcs
    obtain ⟨rfl, rfl, rfl⟩ := hcs
    exact ⟨[], rfl, by omega, fun i hi => absurd hi (by simp), fun i hi => absurd hi (by simp), MatAt.nil _ _⟩
  · simp [Value.cells] at hcs
    obtain ⟨rfl, rfl, rfl⟩ := hcs
    have hm' : c ≤ 9223372036854775807 := by simpa [maxLen] using hm
    obtain ⟨m, hmd⟩ : ∃ m : List (List Int), m = (List.range n).map fun r => (Z r).take (L r) := ⟨_, rfl⟩
    have hlen : m.length = n := by rw [hmd]; simp
    have hgr : ∀ r, r < n → gr m r = (Z r).take (L r) := fun r hr => by rw [gr_lt (by omega)]; simp [hmd]
    have hL : ∀ r, r < n → (gr m r).length = L r ∧ L r ≤ C r ∧ C r ≤ 9223372036854775807 ∧ ∀ i, i < L r → gi (gr m r) i = (Z r).getD i 0 := by
      intro r hr
      obtain ⟨_, h1, h2, h3, _⟩ := hrows r (by omega)
      rw [hgr r hr]
      exact ⟨by rw [List.length_take]; omega, h1, by simpa [maxLen] using h2, fun i hi => by simp [gi, List.getD, hi]⟩
    refine ⟨m, hlen, by omega, fun r hr i hi => ?_, fun r hr => ?_, fun r hr => ?_⟩
    · rw [hlen] at hr
      obtain ⟨e, _, _, hg⟩ := hL r hr
      rw [e] at hi
      rw [hg i hi]
      exact range_i64 (hrows r (by omega)).2.2.2.2.1 i
    · rw [hlen] at hr
      obtain ⟨e, h1, h2, _⟩ := hL r hr
      omega
    · rw [hlen] at hr
      obtain ⟨e, h1, h2, hg⟩ := hL r hr
      obtain ⟨hc, _, _, hz, _, hnil, hcell⟩ := hrows r (by omega)
      obtain ⟨b, o, rfl⟩ := at_zero (hrows 0 (by omega)).1
      rw [Addr.add_lit] at hc
      refine ⟨b, o, A r, C r, rfl, by rw [e]; exact hc, fun i hi => ?_, by omega, h2⟩
      rw [e] at hi
      cases hA : A r with
      | none => have := hnil hA; omega
      | some a' =>
        have hc' := (hcell a' hA).2 i (by omega)
        obtain ⟨b', o', rfl⟩ := at_zero ((hcell a' hA).2 0 (by omega))
        rw [Addr.add_lit] at hc'
        exact ⟨b', o', rfl, by rw [hg i hi]; exact hc'⟩
end Go.Proofs.YtmonhmbnbhaemaaDoor

namespace Go.Proofs.YtmonhmbnbhaemaaDoor
open Go.ChangeShapes Go.WideShapes Go.ChangeAt Go.RowKit Go.Deep

def laid2 : List (String × DataW Unit) := [("math/bits.deBruijn32tab", Rows.laid_math_bits_deBruijn32tab), ("math/bits.deBruijn64tab", Rows.laid_math_bits_deBruijn64tab)]
def tab64 : List Int := [0, 1, 56, 2, 57, 49, 28, 3, 61, 58, 42, 50, 38, 29, 17, 4, 62, 47, 59, 36, 45, 43, 51, 22, 53, 39, 33, 30, 24, 18, 12, 5, 63, 55, 48, 27, 60, 41, 37, 16, 46, 35, 44, 21, 52, 32, 23, 11, 54, 26, 40, 15, 34, 20, 31, 10, 25, 14, 19, 9, 13, 8, 7, 6]
theorem tab64_is : (Rows.laid_math_bits_deBruijn64tab : DataW Unit) = .agg (tab64.map fun n => .lit (.int .u8 n)) := rfl
theorem tab64_at : ∀ i, i < 16 → tab64.getD (dbAt i) 0 = i := by decide

theorem tab_cell {W : World} (h : laidMetH Tryd.prog laid2 W) (j : Nat) (hr : j < 64) : W.cell? ⟨1, j, none⟩ = some (.int .u8 (tab64.getD j 0)) := by
  rw [MakeChecks.laidMetH_plain _ _ _ (by kernel_rfl)] at h
  obtain ⟨ps, hps, _, _⟩ := h
  obtain ⟨_, _, _, _, _, _, _, _, _, _, ⟨g, t, cs, fuel, p, q, hg, ht, hv, hd, _, _⟩, _⟩ := hps
  obtain rfl := Option.some.inj ((show Tryd.prog.globalNamed "math/bits.deBruijn64tab" = some 1 by kernel_rfl).symm.trans hg)
  obtain rfl := Option.some.inj ((show (Tryd.prog.globals[1]?).map (·.type) = some 84 by kernel_rfl).symm.trans ht)
  obtain ⟨xs, m, _, ex, _, hl, hel⟩ := DataW.trod_array Tryd.underlying84 hd
  have c5 : Tryd.prog.cellsOf 5 = 1 := by kernel_rfl
  have hE := hel (j) hr
  rw [c5, Nat.mul_one, List.getElem?_eq_getElem (by omega)] at hE
  obtain ⟨z, e1, e2, _⟩ := DataW.trod_int Tryd.underlying5 hE
  have hlen : tab64.length = 64 := by kernel_rfl
  rw [tab64_is] at ex
  have e3 : (xs.map (·.1)) = tab64.map fun n => .lit (.int .u8 n) := (DataW.agg.inj (Prod.mk.inj ex).1).symm
  have e4 : (xs.map (·.1))[j]? = (tab64.map fun n => (DataW.lit (.int .u8 n) : DataW Unit))[j]? := by rw [e3]
  rw [List.getElem?_map, List.getElem?_map, List.getElem?_eq_getElem (by omega : j < xs.length), List.getElem?_eq_getElem (by omega : j < tab64.length), e2] at e4
  have hz : z = tab64.getD (j) 0 := by
    simp only [Option.map_some, Option.some.injEq, DataW.lit.injEq, Lit.int.injEq, true_and] at e4
    rw [e4, List.getD, List.getElem?_eq_getElem (by omega : j < tab64.length)]; rfl
  rw [World.var?_cell hg hv (j), ← hz]
  have : cs.toList[j]? = some (.int .u8 z) := by
    have h0 : ((cs.toList.drop (j)).take 1)[0]? = some (.int .u8 z) := by rw [e1]; rfl
    simpa using h0
  simpa using this
theorem dj_of_laid {W : World} (h : laidMetH Tryd.prog laid2 W) : Dj W := by
  intro i hi
  have := tab_cell h (dbAt i) (dbAt_lt i hi)
  rw [tab64_at i hi] at this
  exact this
end Go.Proofs.YtmonhmbnbhaemaaDoor

