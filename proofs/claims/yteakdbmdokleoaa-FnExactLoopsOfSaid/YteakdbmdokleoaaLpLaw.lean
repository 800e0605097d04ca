/- Contracts of the laws' helpers on loops: comparing, marking, and whether the marks still hold; a load whose guard lets it. Conditions: lengths up to 2^20. -/
import Derived.Test.YteakdbmdokleoaaLoopA
import Derived.Test.YteakdbmdokleoaaMarkB
namespace Go.Proofs.Yteakdbmdokleoaa
open Go.RowKit

theorem wpList_loadY {P : Program} {ops : Array Oper} {rest : List Oper} {o : Oper} {a : Act} {w : World} {Q : Exit → Act → World → Prop} (hw : Region.wanted o (yielded ops a.tmps) = true) (ty : TypeId) (x : Operand) (ho : o.op = .load ty x)
    (g : Nat) (hx : a.eval x = .pointer (some ⟨g, 0, none⟩)) (cs : Array Value) (d : TypeDesc) (hg : w.heap[g]? = some (.cells cs ty (0, 0)))
    (hu : P.underlying ty = some d) (hd : (match d with | .struct _ | .array _ _ => true | _ => false) = true) (hi : (P.info? ty).map (·.size) = some cs.size)
    (h : wpList P ops Q rest (a.put o.dst (.agg cs)) w) : wpList P ops Q (o :: rest) a w :=
  wpList_step fun K hK => by
    rw [if_pos hw]
    exact wp_load_row ty x ho g hx ty cs (0, 0) d hg hu hd hi (hK _ _ h)

theorem lp2_top (w : World) (o : Obj) (n : Int) (A D : Value) : LpAt ((w.alloc o).alloc (.cells (lp n A D) 25)) (w.heap.size + 1) n A D := heap_alloc2_new w _ _
theorem lp2_bot (w : World) (o : Obj) (n : Int) (A D : Value) : LpAt ((w.alloc (.cells (lp n A D) 25)).alloc o) w.heap.size n A D := heap_alloc2_old w _ _
theorem lp_new (w : World) (n : Int) (A D : Value) : LpAt (w.alloc (.cells (lp n A D) 25)) w.heap.size n A D := heap_alloc_new w _
theorem LpAt.only {S : Nat → Prop} {w w' : World} {g : Nat} {n : Int} {A D : Value} (h : LpAt w g n A D) (ho : OnlyW S w w') (hS : ¬ S g) : LpAt w' g n A D := h.same (ho.block g hS)

-- eqLoops at equal loops
set_option maxRecDepth 100000 in
set_option maxHeartbeats 800000 in
theorem eqLoops_same (k : Int) (a1 a2 d1 d2 : Option Addr) (c1 c2 e1 e2 : Nat) (mA mD : List (List Int)) (w : World) (hsA : Small mA) (hsD : Small mD)
    (hA1 : MatAt w a1 mA) (hD1 : MatAt w d1 mD) (hA2 : MatAt w a2 mA) (hD2 : MatAt w d2 mD) :
    Calls Try.prog 26 #[.agg (lp k (.slice a1 mA.length c1) (.slice d1 mD.length e1)), .agg (lp k (.slice a2 mA.length c2) (.slice d2 mD.length e2))] w fun e w' => e = .returned (.bool true) ∧ Below w.heap.size w w' := by
  have HA := Lib.hid hsA
  have HD := Lib.hid hsD
  have HA1 := Lib.hid hA1
  have HD1 := Lib.hid hD1
  have HA2 := Lib.hid hA2
  have HD2 := Lib.hid hD2
  clear hsA hsD hA1 hD1 hA2 hD2
  have hkk : (k != k) = false := by simp
  go_enter Try.func26, Try.ntmps26
  go_upto_region 1 with (refine wpList_boxT rfl 25 _ rfl _ rfl ?_)
  generalize hW : World.alloc (World.alloc w _) _ = w1
  have h1 : LpAt w1 w.heap.size k (.slice a1 mA.length c1) (.slice d1 mD.length e1) := by rw [← hW]; exact lp2_bot w _ _ _ _
  have h2 : LpAt w1 (w.heap.size + 1) k (.slice a2 mA.length c2) (.slice d2 mD.length e2) := by rw [← hW]; exact lp2_top w _ _ _ _
  have hB : Below w.heap.size w w1 := by rw [← hW]; exact two_below w _ _
  clear hW
  have p1 := h1.c0
  have p2 := h2.c0
  have p3 := h1.c1
  have p4 := h2.c1
  have H1 := Lib.hid h1
  have H2 := Lib.hid h2
  have HB := Lib.hid hB
  clear h1 h2 hB
  go_wp2_with fail
  refine (eqIntSS_same a1 a2 c1 c2 mA w1 HA.out (HA1.out.below HB.out) (HA2.out.below HB.out)).mono ?_
  rintro e w2 ⟨rfl, hq⟩
  have hb := hq.below w1.heap.size
  have h1 := H1.out.below hb
  have h2 := H2.out.below hb
  have hB := HB.out.trans (hb.mono HB.out.size)
  clear p1 p2 p3 p4 hq hb H1 H2 HB
  have p5 := h1.c2
  have p6 := h2.c2
  have HB := Lib.hid hB
  clear h1 h2 hB
  go_wp2_with fail
  refine (eqIntSS_same d1 d2 e1 e2 mD w2 HD.out (HD1.out.below HB.out) (HD2.out.below HB.out)).mono ?_
  rintro e w3 ⟨rfl, hq⟩
  have hb := hq.below w2.heap.size
  have HB' := Lib.hid (HB.out.trans (hb.mono HB.out.size))
  clear p5 p6 hq hb HB
  go_wp2
  go_ret
  exact ⟨rfl, HB'.out⟩

/-- two tables that a call owns, the second one behind the first -/
structure Own2 (w : World) (B H : Nat) (vA vD : Value) (mA mD : List (List Int)) (vsA vsD : List Value) : Prop where
  A : OwnP w B vA mA.length mA mA.length vsA
  D : OwnP w H vD mD.length mD mD.length vsD
  le : B ≤ H
  rows : ∀ g, (∃ i, i < mA.length ∧ (vsA.getD i undef).ownBlock = some g) → g < H
  top : ∀ g, vA.ownBlock = some g → g < H
theorem Own2.below {w w' : World} {B H : Nat} {vA vD : Value} {mA mD : List (List Int)} {vsA vsD : List Value} (h : Own2 w B H vA vD mA mD vsA vsD) (hb : Below w.heap.size w w') : Own2 w' B H vA vD mA mD vsA vsD :=
  ⟨h.A.below hb, h.D.below hb, h.le, h.rows, h.top⟩
theorem Own2.only {w w' : World} {S : Nat → Prop} {B H : Nat} {vA vD : Value} {mA mD : List (List Int)} {vsA vsD : List Value} (h : Own2 w B H vA vD mA mD vsA vsD) (ho : OnlyW S w w') (hS : ∀ g, S g → g < B) : Own2 w' B H vA vD mA mD vsA vsD :=
  ⟨h.A.only ho hS, h.D.only ho (fun g hg => Nat.lt_of_lt_of_le (hS g hg) h.le), h.le, h.rows, h.top⟩
/-- the blocks with the numbers of both tables -/
def blk2 (mA mD : List (List Int)) (vsA vsD : List Value) (g : Nat) : Prop := (∃ i, i < mA.length ∧ (vsA.getD i undef).ownBlock = some g) ∨ (∃ i, i < mD.length ∧ (vsD.getD i undef).ownBlock = some g)
theorem Own2.span {w : World} {B H : Nat} {vA vD : Value} {mA mD : List (List Int)} {vsA vsD : List Value} (h : Own2 w B H vA vD mA mD vsA vsD) {g : Nat} (hg : blk2 mA mD vsA vsD g) : B ≤ g ∧ g < w.heap.size := by
  rcases hg with hg | hg
  · exact h.A.span hg
  · have := h.D.span hg
    have := h.le
    omega

-- marking both tables
set_option maxRecDepth 100000 in
set_option maxHeartbeats 800000 in
theorem markLoops_any (B H : Nat) (k : Int) (aA aD : Option Addr) (cA cD : Nat) (mA mD : List (List Int)) (vsA vsD : List Value) (w : World) (hsA : Small mA) (hsD : Small mD)
    (hO : Own2 w B H (.slice aA mA.length cA) (.slice aD mD.length cD) mA mD vsA vsD) :
    Calls Try.prog 29 #[.agg (lp k (.slice aA mA.length cA) (.slice aD mD.length cD)), .int .i64 1] w fun e w' => e = .returned (.int .i64 (1 + tot mA mA.length + tot mD mD.length)) ∧
      MatAt w' aA (markM 1 mA) ∧ MatAt w' aD (markM (1 + tot mA mA.length) mD) ∧ ∃ w1, Below w.heap.size w w1 ∧ OnlyW (blk2 mA mD vsA vsD) w1 w' := by
  have HA := Lib.hid hsA
  have HD := Lib.hid hsD
  have HO := Lib.hid hO
  have hT := tot_big hsA (Nat.le_refl _)
  clear hsA hsD hO
  go_enter Try.func29, Try.ntmps29
  go_upto_region 1 with (refine wpList_boxT rfl 25 _ rfl _ rfl ?_)
  generalize hW : World.alloc w _ = w1
  have h1 : LpAt w1 w.heap.size k (.slice aA mA.length cA) (.slice aD mD.length cD) := by rw [← hW]; exact lp_new w _ _ _
  have hB : Below w.heap.size w w1 := by rw [← hW]; exact (Below.refl _ _).alloc (Nat.le_refl _) _
  clear hW
  have p1 := h1.c1
  have H1 := Lib.hid h1
  have HB := Lib.hid hB
  clear h1 hB
  go_wp2_with fail
  refine (markIntSS_any B aA cA 1 mA vsA w1 HA.out (by omega) (by omega) (HO.out.below HB.out).A).mono ?_
  rintro e w2 ⟨rfl, hp, ho⟩
  have hD2 : OwnP w2 H (.slice aD mD.length cD) mD.length mD mD.length vsD := (HO.out.below HB.out).D.only ho HO.out.rows
  have h2 := H1.out.only ho (fun hg => by have := (HO.out.A.span hg).2; omega)
  have HP := Lib.hid hp
  have Ho := Lib.hid ho
  have HD2 := Lib.hid hD2
  clear hp ho hD2 p1 H1
  have p2 := h2.c2
  clear h2
  go_wp2_with fail
  refine (markIntSS_big H aD cD (1 + (tot mA mA.length : Int)) mD vsD w2 HD.out (by omega) (by omega) HD2.out).mono ?_
  rintro e w3 ⟨rfl, hp, ho⟩
  have hAM : MatAt w3 aA (markM 1 mA) := by
    have h := HP.out
    have hl : (markM 1 mA).length = mA.length := markM_len 1 mA
    refine fun i hi => ?_
    obtain ⟨b, o, r, d, e, hc, hv, hrow, h1, h2⟩ := (show OwnP w2 B (.slice aA mA.length cA) mA.length (markM 1 mA) mA.length vsA from h).rowAt (by rw [hl] at hi; exact hi)
    have hlt : ∀ g, (.slice aA mA.length cA : Value).ownBlock = some g → ¬ (∃ i, i < mD.length ∧ (vsD.getD i undef).ownBlock = some g) := fun g hg hs => by
      have h3 := HO.out.top g hg
      have h4 := (HD2.out.span hs).1
      omega
    have hrw : ∀ g, (.slice r (gr (markM 1 mA) i).length d : Value).ownBlock = some g → ¬ (∃ i, i < mD.length ∧ (vsD.getD i undef).ownBlock = some g) := fun g hg hs => by
      have h3 := HO.out.rows g ⟨i, by rw [hl] at hi; exact hi, by rw [hv]; exact hg⟩
      have h4 := (HD2.out.span hs).1
      omega
    have htop := ownsRow_only h.top ho hlt
    obtain ⟨ao', c', hv', _, _, hcells⟩ := ownsRow_read htop
    obtain ⟨rfl, -, rfl⟩ := (Value.slice.injEq _ _ _ _ _ _).mp hv'
    obtain ⟨b2, o2, e2, hc2⟩ := hcells i (by rw [hl] at hi; exact hi)
    rw [hv] at hc2
    exact ⟨b2, o2, r, d, e2, hc2, own_at (ownsRow_only hrow ho hrw), h1, h2⟩
  have HAM := Lib.hid hAM
  have HDM := Lib.hid (hp.at (markM_len _ mD))
  have Ho3 := Lib.hid ho
  clear hp ho hAM p2 HP HD2
  go_wp2
  go_ret
  exact ⟨rfl, HAM.out, HDM.out, w1, HB.out, (Ho.out.mono fun g hg => .inl hg).trans (Ho3.out.mono fun g hg => .inr hg)⟩

-- the marks still hold
set_option maxRecDepth 100000 in
set_option maxHeartbeats 800000 in
theorem heldLoops_yes (k : Int) (aA aD : Option Addr) (cA cD : Nat) (mA mD : List (List Int)) (w : World) (hsA : Small mA) (hsD : Small mD)
    (hA : MatAt w aA (markM 1 mA)) (hD : MatAt w aD (markM (1 + tot mA mA.length) mD)) :
    Calls Try.prog 30 #[.agg (lp k (.slice aA mA.length cA) (.slice aD mD.length cD)), .int .i64 1] w fun e w' => e = .returned (.int .i64 (1 + tot mA mA.length + tot mD mD.length)) ∧ Below w.heap.size w w' := by
  have HsA := Lib.hid hsA
  have HsD := Lib.hid hsD
  have HA := Lib.hid hA
  have HD := Lib.hid hD
  have hT := tot_big hsA (Nat.le_refl _)
  have hT2 := tot_big hsD (Nat.le_refl _)
  clear hsA hsD hA hD
  go_enter Try.func30, Try.ntmps30
  go_upto_region 1 with (refine wpList_boxT rfl 25 _ rfl _ rfl ?_)
  generalize hW : World.alloc w _ = w1
  have h1 : LpAt w1 w.heap.size k (.slice aA mA.length cA) (.slice aD mD.length cD) := by rw [← hW]; exact lp_new w _ _ _
  have hB : Below w.heap.size w w1 := by rw [← hW]; exact (Below.refl _ _).alloc (Nat.le_refl _) _
  clear hW
  have p1 := h1.c1
  have H1 := Lib.hid h1
  have HB := Lib.hid hB
  clear h1 hB
  go_wp2_with fail
  refine (heldIntSS_yes aA cA mA 1 w1 HsA.out (by omega) (by omega) (HA.out.below HB.out)).mono ?_
  rintro e w2 ⟨rfl, hq⟩
  have hb := hq.below w1.heap.size
  have h2 := H1.out.below hb
  have HB2 := Lib.hid (HB.out.trans (hb.mono HB.out.size))
  clear hq hb H1 HB p1
  have p2 := h2.c2
  clear h2
  go_wp2_with fail
  refine (heldIntSS_yes aD cD mD (1 + (tot mA mA.length : Int)) w2 HsD.out (by omega) (by omega) (HD.out.below HB2.out)).mono ?_
  rintro e w3 ⟨rfl, hq⟩
  have hb := hq.below w2.heap.size
  have HB3 := Lib.hid (HB2.out.trans (hb.mono HB2.out.size))
  clear hq hb HB2 p2
  go_wp2
  go_ret
  exact ⟨rfl, HB3.out⟩
end Go.Proofs.Yteakdbmdokleoaa
