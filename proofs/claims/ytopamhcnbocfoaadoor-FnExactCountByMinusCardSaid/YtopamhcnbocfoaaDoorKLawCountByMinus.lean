/- The law FnExactCountByMinus returns true at every input, and writes to nothing that was there; the card ties the two tables of the library that its row lists. Condition: the row's listed variables. -/
import Derived.Test.YtopamhcnbocfoaaDoorK14
namespace Go.Proofs.YtopamhcnbocfoaaDoor.fnExactCountByMinus
open Go.ChangeShapes Go.WideShapes Go.ChangeAt Go.RowKit Go.Deep
open Go.ChangeMaps (open_string shut_string)
set_option linter.unusedVariables false

set_option maxRecDepth 100000 in
set_option maxHeartbeats 1600000 in
theorem walk {w0 : World} (n : Int) (hn : -9223372036854775808 ≤ n ∧ n ≤ 9223372036854775807) (w : World) (hw : w0 = w) (hD : Dj w0) :
    Calls Tryd.prog 4 #[.int .i64 n] w fun e w' => e = .returned (.bool true) ∧ Below w.heap.size w w' := by
  subst hw
  have HD := Lib.hid hD
  have Hn := Lib.hid hn
  clear hD hn
  go_enter Tryd.func4, Tryd.ntmps4
  go_wp2_with fail
  refine (specCountByMinus_any n w0 Hn.out).mono ?_
  rintro e w1 ⟨⟨v, b, r, rfl, ho, hr⟩, hb⟩
  have hl : r.length ≤ 1048576 := by
    rcases hr with ⟨h1, _, rfl⟩ | ⟨_, _, rfl⟩
    · exact listMinus_len h1
    · simp
  obtain ⟨a1, c1, rfl, _, _, _⟩ := ho.read
  have O1 := Lib.hid ho
  have B1 := Lib.hid hb
  have HR := Lib.hid hr
  clear ho hb hr
  go_wp2_with fail
  refine (implCountByMinus_any n w1 Hn.out (HD.out.next B1.out)).mono ?_
  rintro e w2 ⟨⟨v, b2, r2, rfl, ho, hr⟩, hb⟩
  have he := lres_same HR.out hr
  obtain ⟨he1, he2⟩ := he
  subst he1 he2
  obtain ⟨a2, c2, rfl, _, _, _⟩ := ho.read
  have hS : ∀ g, (Value.slice a1 r2.length c1).ownBlock = some g → g < w1.heap.size := fun g hg => (O1.out.lt g hg).2
  have hT : ∀ g, (Value.slice a2 r2.length c2).ownBlock = some g → w1.heap.size ≤ g := fun g hg => (ho.lt g hg).1
  have HS := Lib.hid hS
  have HT := Lib.hid hT
  have O2 := Lib.hid (O1.out.below hb)
  have P2 := Lib.hid ho
  have B2 := Lib.hid (B1.out.trans (hb.mono B1.out.size))
  have HZ := Lib.hid B1.out.size
  clear O1 B1 ho hb hr hS hT
  have hne : ((1 + (r2.length : Int)) != (1 + (r2.length : Int))) = false := by simp
  have HC := Lib.hid (fun (b3 : Bool) (r3 : List Int) (h : (_ ∧ b3 = true ∧ r3 = _) ∨ (¬_ ∧ b3 = false ∧ r3 = [])) => lres_same HR.out h)
  clear HR
  cases b2
  all_goals
    go_wp2_with fail
    refine (eqIntS_same a2 a1 c2 c1 r2 w2 hl (own_at P2.out) (own_at O2.out)).mono ?_
    rintro e w3 ⟨rfl, hq⟩
    have P3 := Lib.hid (P2.out.below (hq.below _))
    have O3 := Lib.hid (O2.out.below (hq.below _))
    have B3 := Lib.hid (B2.out.trans (hq.below _))
    clear hq P2 O2 B2
    go_wp2_with fail
    refine (markIntS_any w1.heap.size a2 c2 r2.length 1 r2 w3 hl (by omega) (by omega) P3.out).mono ?_
    rintro e w4 ⟨rfl, hp, hy⟩
    have O4 := Lib.hid (show OwnI w4 w0.heap.size (.slice a1 r2.length c1) r2 from ownsRow_only O3.out hy (fun g hg hg2 => by have := HS.out g hg; have := HT.out g hg2; omega))
    have B4 := Lib.hid (B3.out.trans (hy.below (fun k hk => Nat.le_trans HZ.out (HT.out k hk))))
    have M4 := Lib.hid hp
    clear hp hy O3 B3 P3
    go_wp2_with fail
    refine (heldIntS_yes a2 c2 r2.length 1 w4 hl (by omega) (by omega) (own_at M4.out)).mono ?_
    rintro e w5 ⟨rfl, hq⟩
    have M5 := Lib.hid (M4.out.below (hq.below _))
    have O5 := Lib.hid (O4.out.below (hq.below _))
    have B5 := Lib.hid (B4.out.trans (hq.below _))
    clear hq M4 O4 B4
    go_wp2_with fail
    refine (implCountByMinus_any n w5 Hn.out (HD.out.next B5.out)).mono ?_
    rintro e w6 ⟨⟨v, b3, r3, rfl, ho, hr⟩, hb⟩
    have he := HC.out _ _ hr
    obtain ⟨he1, he2⟩ := he
    subst he1 he2
    obtain ⟨a3, c3, rfl, _, _, hm3⟩ := ho.read
    have M6 := Lib.hid (M5.out.below hb)
    have O6 := Lib.hid (O5.out.below hb)
    have B6 := Lib.hid (B5.out.trans (hb.mono B5.out.size))
    have HM := Lib.hid hm3
    clear hb M5 O5 B5 ho hr hm3
    go_wp2_with fail
    refine (eqIntS_same a3 a1 c3 c1 _ w6 hl HM.out (own_at O6.out)).mono ?_
    rintro e w7 ⟨rfl, hq⟩
    have M7 := Lib.hid (M6.out.below (hq.below _))
    have B7 := Lib.hid (B6.out.trans (hq.below _))
    clear hq M6 O6 B6
    go_wp2_with fail
    refine (heldIntS_yes a2 c2 _ 1 w7 hl (by omega) (by omega) (own_at M7.out)).mono ?_
    rintro e w8 ⟨rfl, hq⟩
    have B8 := Lib.hid (B7.out.trans (hq.below _))
    clear hq M7 B7
    go_wp2
    go_ret
    exact ⟨rfl, B8.out⟩

theorem run {H : Type} {enc : TypeId × Value → H} (W : World) (base : Nat) (args : Array Value) (ds gs : List (DataW H)) (before : List MemPlace)
    (hval : ∀ (j : Nat) t v, Tryd.f4.params[j]? = some t → args[j]? = some v → Value.okWide Tryd.prog W .any base t v)
    (hW : DataW.Whole enc Tryd.prog Tryd.f4.params.toList Rows.fnExactCountByMinusSpec.vars false W args.toList ds gs before) (hD : Dj W) :
    Calls Tryd.prog 4 args W fun e W' => ∃ v, e = .returned v ∧ Rows.fnExactCountByMinusSpec.post enc Tryd.prog Tryd.f4 false true false false W args v W' := by
  have hW' := hW
  obtain ⟨p, q, hA0, hV, rfl, hfz, hnd⟩ := hW
  have hA : DataW.TrodAll enc Tryd.prog W 0 (fun _ => true) true Tryd.f4.params.toList args.toList ds p := hA0
  rw [Tryd.params4] at hA hval
  obtain ⟨v0, vs0, d0, ds0, p0, q0, hargs, rfl, rfl, h0, r0⟩ := trodAll_cons hA
  obtain ⟨rfl, rfl, rfl⟩ := trodAll_nil r0
  obtain rfl : args = #[v0] := by cases args; simp_all
  obtain ⟨rfl, rfl⟩ := trodVars_none hV
  obtain ⟨a0, rfl, rfl, rfl, w0⟩ := open_int Tryd.underlying3 (hval 0 3 v0 rfl rfl) h0
  clear hA0
  refine (walk a0 (bounds_i64 w0) W rfl hD).mono fun e W' ⟨he, bel⟩ => ?_
  subst he
  exact ⟨_, rfl, _, _, _, [], _, [], hW', trodAll_mk1 (shut_bool Tryd.underlying4 _), (trodAll_cons_mk (shut_int Tryd.underlying3 w0) trodAll_mk0), rfl, bel.frame _, fun h => by cases h⟩

set_option maxRecDepth 100000 in
theorem lifted (os : Os) (started : os.Started) (H : Type) (enc : TypeId × Value → H) :
    ReturnsInHanded {} Tryd.checked os 4 .any (fun w args => (Rows.fnExactCountByMinusSpec.pre enc Tryd.prog Tryd.f4 [] false w args ∧ laidMetH Tryd.prog Rows.fnExactCountByMinusRow.laid w) ∧ sizedMet enc Tryd.prog Tryd.f4 (OpenSpec.ofChange Rows.fnExactCountByMinusSpec) false w args)
      (Rows.fnExactCountByMinusSpec.post enc Tryd.prog Tryd.f4 false true false false) := by
  refine returnsInHanded_of_calls Tryd.own started (by kernel_rfl)
    (ChangeSpec.witness_shaped (enc := enc) (C := Tryd.checked) (os := os) (X := fun w _ => laidMetH Tryd.prog Rows.fnExactCountByMinusRow.laid w) false (World.laidAll Tryd.prog os Rows.fnExactCountByMinusRow.laid) #[.int .i64 0] 8 (World.laidAll_os _ _ _)
      (World.shaped_of_ZipB (by kernel_rfl) (by kernel_rfl)) (by kernel_rfl) (by kernel_rfl) (by kernel_rfl)
      (by rw [MakeChecks.laidMetH_plain _ _ _ (by kernel_rfl)]; exact laidMet_laidAll _ (by kernel_rfl) (by kernel_rfl))) ?_
  intro w tape i _ _ _ hok hpre _
  obtain ⟨_, _, _, fn', hfn', _, _, _, _, hval⟩ := hok
  obtain rfl : fn' = Tryd.f4 := Option.some.inj (hfn'.symm.trans Tryd.func4)
  obtain ⟨⟨⟨ds, gs, before, hw, _⟩, hlaid⟩, _⟩ := hpre
  have hW := DataW.Whole.of_heap (w' := w.forCall tape i) (by rfl) hw
  have hL : laidMetH Tryd.prog laid2 (w.forCall tape i) := hlaid.of_heap (by rfl)
  refine (run (w.forCall tape i) w.heap.size i.args ds gs before hval hW (dj_of_laid hL)).mono fun e W' ⟨v, he, hp⟩ => ?_
  subst he
  exact ChangeSpec.post_blind hp

theorem over : Rows.fnExactCountByMinusRow.holds Tryd.pinned (OpenSpec.ofChange Rows.fnExactCountByMinusSpec) :=
  OpenClaim.holds_of_wide 4 Tryd.f4 rfl rfl rfl rfl rfl rfl rfl ⟨rfl, rfl, rfl, rfl, rfl⟩ rfl rfl rfl rfl rfl (by kernel_rfl) Tryd.func4 (by kernel_rfl)
    (of_decide_eq_true (by kernel_rfl)) (by unfold Func.isWrapper; rw [if_neg (of_decide_eq_false (by kernel_rfl))]; exact ⟨rfl, rfl⟩)
    (fun os started H enc _ => lifted os started H enc)

theorem proved : Rows.FnExactCountByMinusCardSaid :=
  Claim7.holds_tied_plain_at .later [] Rows.fnExactCountByMinusCard.laidKinds true Rows.fnExactCountByMinusCard.stood.harness false over (fun _ h => by cases h) (by kernel_rfl) (fun _ h => by cases h) fnExactCountByMinus_row_tie rfl ⟨rfl, rfl⟩ (by kernel_rfl) rfl
    (fun f fn hf hfn => by
      obtain rfl : f = 4 := Option.some.inj ((show Tryd.prog.funcNamed "loop.example/g01123/laws.FnExactCountByMinus" = some 4 by kernel_rfl).symm.trans hf) |>.symm
      obtain rfl : fn = Tryd.f4 := (Option.some.inj (Tryd.func4.symm.trans hfn)).symm
      exact ⟨by kernel_rfl, fun j t ht => by
        rw [Tryd.params4] at ht
        have hm : t ∈ [3] := by simpa using Array.mem_of_getElem? ht
        have hall : ([3].all fun u => !Tryd.prog.wantsStandIn u) = true := by kernel_rfl
        exact (show Tryd.prog.wantsStandIn t = false by simpa using List.all_eq_true.1 hall t hm)⟩)
    (by kernel_rfl)
end Go.Proofs.YtopamhcnbocfoaaDoor.fnExactCountByMinus
