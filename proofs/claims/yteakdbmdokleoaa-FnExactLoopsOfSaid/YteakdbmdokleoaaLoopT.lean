/- The loops of a matrix: both sides of LoopsOf. Conditions: small tables. -/
import Derived.Test.YteakdbmdokleoaaLpLaw
import Derived.Test.YteakdbmdokleoaaLoopS
import Derived.Test.YteakdbmdokleoaaLoopI
namespace Go.Proofs.Yteakdbmdokleoaa
open Go.RowKit

theorem acrT_len (m : List (List Int)) : (acrT m).length = m.length := tab_len _ _ _
theorem dwnT_len (m : List (List Int)) : (dwnT m).length = m.length + 1 := tab_len _ _ _

theorem acrT_small {m : List (List Int)} (h : good m) : Small (acrT m) := ⟨by rw [acrT_len]; have := h.1.2.1; omega, fun i hi => by rw [acrT_len] at hi; unfold acrT; rw [tab_row hi]; have := h.1.2.1; omega⟩
theorem dwnT_small {m : List (List Int)} (h : good m) : Small (dwnT m) := ⟨by rw [dwnT_len]; have := h.1.2.1; omega, fun i hi => by rw [dwnT_len] at hi; unfold dwnT; rw [tab_row hi]; have := h.1.2.1; omega⟩
/-- the answer of LoopsOf, as the model gives it: read only -/
def LpRead (p : Prop) (m : List (List Int)) (w : World) (e : Ending) : Prop :=
  ∃ (k : Nat) (aA aD : Option Addr) (cA cD : Nat) (b : Bool) (rA rD : List (List Int)), e = .returned (.tuple #[.agg (lp k (.slice aA rA.length cA) (.slice aD rD.length cD)), .bool b]) ∧ MatAt w aA rA ∧ MatAt w aD rD ∧
    ((p ∧ b = true ∧ k = m.length ∧ rA = acrT m ∧ rD = dwnT m) ∨ (¬p ∧ b = false ∧ k = 0 ∧ rA = [] ∧ rD = []))
/-- .. as the program gives it: owned -/
def LpRes (p : Prop) (m : List (List Int)) (w : World) (B : Nat) (e : Ending) : Prop :=
  ∃ (k : Nat) (aA aD : Option Addr) (cA cD : Nat) (b : Bool) (rA rD : List (List Int)) (H : Nat) (vsA vsD : List Value), e = .returned (.tuple #[.agg (lp k (.slice aA rA.length cA) (.slice aD rD.length cD)), .bool b]) ∧
    Own2 w B H (.slice aA rA.length cA) (.slice aD rD.length cD) rA rD vsA vsD ∧
    ((p ∧ b = true ∧ k = m.length ∧ rA = acrT m ∧ rD = dwnT m) ∨ (¬p ∧ b = false ∧ k = 0 ∧ rA = [] ∧ rD = []))
theorem lpres_same {p : Prop} {m : List (List Int)} {k k' : Nat} {b b' : Bool} {rA rD rA' rD' : List (List Int)}
    (h : (p ∧ b = true ∧ k = m.length ∧ rA = acrT m ∧ rD = dwnT m) ∨ (¬p ∧ b = false ∧ k = 0 ∧ rA = [] ∧ rD = []))
    (h' : (p ∧ b' = true ∧ k' = m.length ∧ rA' = acrT m ∧ rD' = dwnT m) ∨ (¬p ∧ b' = false ∧ k' = 0 ∧ rA' = [] ∧ rD' = [])) : b' = b ∧ k' = k ∧ rA' = rA ∧ rD' = rD := by
  rcases h with ⟨h1, h2, h3, h4, h5⟩ | ⟨h1, h2, h3, h4, h5⟩ <;> rcases h' with ⟨k1, k2, k3, k4, k5⟩ | ⟨k1, k2, k3, k4, k5⟩
  · exact ⟨k2.trans h2.symm, k3.trans h3.symm, k4.trans h4.symm, k5.trans h5.symm⟩
  · exact absurd h1 k1
  · exact absurd k1 h1
  · exact ⟨k2.trans h2.symm, k3.trans h3.symm, k4.trans h4.symm, k5.trans h5.symm⟩

theorem World_nilP (w : World) (B : Nat) : OwnP w B (.slice none 0 0) ([] : List (List Int)).length [] ([] : List (List Int)).length [] := ⟨World.ownsRow_nil _ _ _ _, fun i hi => absurd hi (by simp), fun i j _ hj => absurd hj (by simp)⟩

set_option maxRecDepth 100000 in
set_option maxHeartbeats 1600000 in
theorem specLoopsOf_any (ao : Option Addr) (c : Nat) (m : List (List Int)) (w : World) (hs : Small m) (hm : MatAt w ao m) :
    Calls Try.prog 23 #[.slice ao m.length c] w fun e w' => LpRead (good m) m w' e ∧ Below w.heap.size w w' := by
  have Hs := Lib.hid hs
  have Hm := Lib.hid hm
  clear hs hm
  go_enter Try.func23, Try.ntmps23
  go_upto_region 1 with (refine wpList_allocT rfl 25 rfl _ _ Try.info_loops ?_)
  generalize hW : World.alloc w _ = w0
  obtain ⟨gR, hgR⟩ : ∃ gR, gR = w.heap.size := ⟨_, rfl⟩
  have hR0 : LpAt w0 gR 0 nilS nilS := by rw [← hW, hgR]; exact heap_alloc_new w _
  have hB0 : Below w.heap.size w w0 := by rw [← hW]; exact (Below.refl _ _).alloc (Nat.le_refl _) _
  rw [← hgR]
  have hs0 : w0.heap.size = gR + 1 := by rw [← hW, hgR]; simp
  have HgR := Lib.hid hgR
  have HR0 := Lib.hid hR0
  have HB0 := Lib.hid hB0
  have Hs0 := Lib.hid hs0
  clear hW hR0 hB0 hgR hs0
  go_wp2_with fail
  refine (sgGood_any ao c m w0 Hs.out (Hm.out.below HB0.out)).mono ?_
  rintro e w1 ⟨ha, hb⟩
  have HR1 := Lib.hid (HR0.out.below hb)
  have HB1 := Lib.hid (HB0.out.trans (hb.mono HB0.out.size))
  have Hs1 := Lib.hid (show gR + 1 ≤ w1.heap.size by rw [← Hs0.out]; exact hb.size)
  clear hb HR0 HB0
  by_cases hg : good m
  · have Hg := Lib.hid hg
    clear hg
    obtain rfl := ha.is Hg.out
    clear ha
    go_wp2_with fail
    refine (loOf_any ao c m w1 Hg.out (Hm.out.below HB1.out)).mono ?_
    rintro e w2 ⟨aA, cA, aD, cD, rfl, ⟨vsA, hA⟩, ⟨vsD, hD⟩, hb2⟩
    have HR2 := Lib.hid (HR1.out.below hb2)
    have HA := Lib.hid hA
    have HD := Lib.hid hD
    have HB2 := Lib.hid (HB1.out.trans (hb2.mono HB1.out.size))
    clear hA hD hb2 HR1 HB1
    go_wp2_with (refine wpList_storeG rfl 25 _ _ rfl gR (lp m.length (.slice aA m.length cA) (.slice aD (m.length + 1) cD)) (lp 0 nilS nilS) rfl rfl HR2.out (Try.size_loops _ _ _) rfl (lp_one _ _ _ _ _ _ _) ?_)
    have HR3 := Lib.hid (HR2.out.setRow m.length (.slice aA m.length cA) (.slice aD (m.length + 1) cD))
    have hbs : Below w2.heap.size w2 w2 := Below.refl _ _
    refine bodyPost_ret (v := .tuple #[.agg (lp m.length (.slice aA m.length cA) (.slice aD (m.length + 1) cD)), .bool true]) ?_ rfl ⟨?_, below_setRowT HB2.out (by rw [HgR.out]; exact Nat.le_refl _) _⟩
    · exact results_cell_two (p := 2) (q := 3) rfl _ _ gR _ rfl (Try.load_loops HR3.out)
    · have hsame : ∀ lo hi, gR < lo → Same lo hi w2 (w2.setRow gR (lp m.length (.slice aA m.length cA) (.slice aD (m.length + 1) cD))) := fun lo hi h g h1 _ => Go.setRow_other w2 gR g _ (by omega)
      have h1 := Hs1.out
      have hA : MatAt (w2.setRow gR (lp m.length (.slice aA m.length cA) (.slice aD (m.length + 1) cD))) aA (acrT m) := (HA.out.same (hsame _ _ (by omega))).at (acrT_len m)
      have hD : MatAt (w2.setRow gR (lp m.length (.slice aA m.length cA) (.slice aD (m.length + 1) cD))) aD (dwnT m) := (HD.out.same (hsame _ _ (by omega))).at (dwnT_len m)
      exact ⟨m.length, aA, aD, cA, cD, true, acrT m, dwnT m, by rw [acrT_len, dwnT_len], hA, hD, .inl ⟨Hg.out, rfl, rfl, rfl, rfl⟩⟩
  · have Hg := Lib.hid hg
    clear hg
    obtain rfl := ha.isnt Hg.out
    clear ha
    go_wp2_with (first | (refine wpList_buildT0 rfl 25 rfl _ Try.built_loops0 ?_) | (refine wpList_storeG rfl 25 _ _ rfl gR (lp 0 nilS nilS) (lp 0 nilS nilS) rfl rfl HR1.out (Try.size_loops _ _ _) rfl lp_zero_one ?_))
    have HR3 := Lib.hid (HR1.out.setRow 0 nilS nilS)
    refine bodyPost_ret (v := .tuple #[.agg (lp 0 nilS nilS), .bool false]) ?_ rfl ⟨?_, below_setRowT HB1.out (by rw [HgR.out]; exact Nat.le_refl _) _⟩
    · exact results_cell_two (p := 2) (q := 3) rfl _ _ gR _ rfl (Try.load_loops HR3.out)
    · exact ⟨0, none, none, 0, 0, false, [], [], rfl, MatAt.nil _ _, MatAt.nil _ _, .inr ⟨Hg.out, rfl, rfl, rfl, rfl⟩⟩

set_option maxRecDepth 100000 in
set_option maxHeartbeats 1600000 in
theorem implLoopsOf_any (ao : Option Addr) (c : Nat) (m : List (List Int)) (w : World) (hs : Small m) (hwf : WfM m) (hm : MatAt w ao m) :
    Calls Try.prog 25 #[.slice ao m.length c] w fun e w' => LpRes (good m) m w' w.heap.size e ∧ Below w.heap.size w w' := by
  have Hs := Lib.hid hs
  have Hm := Lib.hid hm
  have Hwf := Lib.hid hwf
  clear hs hm hwf
  go_enter Try.func25, Try.ntmps25
  go_upto_region 1 with (refine wpList_allocT rfl 25 rfl _ _ Try.info_loops ?_)
  generalize hW : World.alloc w _ = w0
  obtain ⟨gR, hgR⟩ : ∃ gR, gR = w.heap.size := ⟨_, rfl⟩
  have hR0 : LpAt w0 gR 0 nilS nilS := by rw [← hW, hgR]; exact heap_alloc_new w _
  have hB0 : Below w.heap.size w w0 := by rw [← hW]; exact (Below.refl _ _).alloc (Nat.le_refl _) _
  have hs0 : w0.heap.size = gR + 1 := by rw [← hW, hgR]; simp
  rw [← hgR]
  have HgR := Lib.hid hgR
  have HR0 := Lib.hid hR0
  have HB0 := Lib.hid hB0
  have Hs0 := Lib.hid hs0
  clear hW hR0 hB0 hgR hs0
  go_wp2_with fail
  refine (implIsSign_any ao c m w0 Hs.out Hwf.out (Hm.out.below HB0.out)).mono ?_
  rintro e w1 ⟨ha, hb⟩
  have HR1 := Lib.hid (HR0.out.below hb)
  have HB1 := Lib.hid (HB0.out.trans (hb.mono HB0.out.size))
  have Hs1 := Lib.hid (show gR + 1 ≤ w1.heap.size by rw [← Hs0.out]; exact hb.size)
  clear hb HR0 HB0
  by_cases hg : good m
  · have Hg := Lib.hid hg
    clear hg
    obtain rfl := ha.is Hg.out
    clear ha
    go_wp2_with fail
    refine (loopsOf_any ao c m w1 Hg.out (Hm.out.below HB1.out)).mono ?_
    rintro e w2 ⟨gA, gD, H, vsA, vsD, rfl, hO, hH, hb2⟩
    have HR2 := Lib.hid (HR1.out.below hb2)
    have HO := Lib.hid hO
    have HB2 := Lib.hid (HB1.out.trans (hb2.mono HB1.out.size))
    clear hO hb2 HR1 HB1
    go_wp2_with (refine wpList_storeG rfl 25 _ _ rfl gR (lp m.length (.slice (some ⟨gA, 0, none⟩) m.length m.length) (.slice (some ⟨gD, 0, none⟩) (m.length + 1) (m.length + 1))) (lp 0 nilS nilS) rfl rfl HR2.out (Try.size_loops _ _ _) rfl (lp_one _ _ _ _ _ _ _) ?_)
    have HR3 := Lib.hid (HR2.out.setRow m.length (.slice (some ⟨gA, 0, none⟩) m.length m.length) (.slice (some ⟨gD, 0, none⟩) (m.length + 1) (m.length + 1)))
    refine bodyPost_ret (v := .tuple #[.agg (lp m.length (.slice (some ⟨gA, 0, none⟩) m.length m.length) (.slice (some ⟨gD, 0, none⟩) (m.length + 1) (m.length + 1))), .bool true]) ?_ rfl ⟨?_, below_setRowT HB2.out (by rw [HgR.out]; exact Nat.le_refl _) _⟩
    · exact results_cell_two (p := 2) (q := 3) rfl _ _ gR _ rfl (Try.load_loops HR3.out)
    · have hsame : ∀ lo hi, gR < lo → Same lo hi w2 (w2.setRow gR (lp m.length (.slice (some ⟨gA, 0, none⟩) m.length m.length) (.slice (some ⟨gD, 0, none⟩) (m.length + 1) (m.length + 1)))) := fun lo hi h g h1 _ => Go.setRow_other w2 gR g _ (by omega)
      have h1 := Hs1.out
      have h2 := HO.out.le
      have h3 := HgR.out
      refine ⟨m.length, some ⟨gA, 0, none⟩, some ⟨gD, 0, none⟩, m.length, m.length + 1, true, acrT m, dwnT m, H, vsA, vsD, by rw [acrT_len, dwnT_len], ?_, .inl ⟨Hg.out, rfl, rfl, rfl, rfl⟩⟩
      rw [acrT_len, dwnT_len]
      refine ⟨?_, ?_, by omega, fun g hg => ?_, fun g hg => ?_⟩
      · rw [acrT_len]
        exact (HO.out.A.same (hsame _ _ (by omega))).base (by omega)
      · rw [dwnT_len]
        exact HO.out.D.same (hsame _ _ (by omega))
      · obtain ⟨i, hi, hv⟩ := hg
        exact HO.out.rows i (by rw [acrT_len] at hi; exact hi) g hv
      · have : gA = g := by simpa [Value.ownBlock] using hg
        rw [← this]
        exact HO.out.top
  · have Hg := Lib.hid hg
    clear hg
    obtain rfl := ha.isnt Hg.out
    clear ha
    go_wp2_with (first | (refine wpList_buildT0 rfl 25 rfl _ Try.built_loops0 ?_) | (refine wpList_storeG rfl 25 _ _ rfl gR (lp 0 nilS nilS) (lp 0 nilS nilS) rfl rfl HR1.out (Try.size_loops _ _ _) rfl lp_zero_one ?_))
    have HR3 := Lib.hid (HR1.out.setRow 0 nilS nilS)
    refine bodyPost_ret (v := .tuple #[.agg (lp 0 nilS nilS), .bool false]) ?_ rfl ⟨?_, below_setRowT HB1.out (by rw [HgR.out]; exact Nat.le_refl _) _⟩
    · exact results_cell_two (p := 2) (q := 3) rfl _ _ gR _ rfl (Try.load_loops HR3.out)
    · refine ⟨0, none, none, 0, 0, false, [], [], w.heap.size, [], [], rfl, ⟨World_nilP _ _, World_nilP _ _, Nat.le_refl _, fun g hg => ?_, fun g hg => ?_⟩, .inr ⟨Hg.out, rfl, rfl, rfl, rfl⟩⟩
      · obtain ⟨i, hi, _⟩ := hg
        exact absurd hi (by simp)
      · simp [Value.ownBlock] at hg
end Go.Proofs.Yteakdbmdokleoaa
