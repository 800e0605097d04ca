/- The law FnExactParseSigns returns true at every text, and writes to nothing that was there; the card ties the two tables of the library that its row lists. Condition: the row's listed variables. -/
import Derived.Test.YtiocbogdiaalgaaDoorFrame
import Derived.Test.YtiocbogdiaalgaaDoorParseI
import Derived.Test.YtiocbogdiaalgaaDoorSpecC
import Derived.Test.YtiocbogdiaalgaaDoorTie
import Derived.Test.YtiocbogdiaalgaaDoorCards
import Derived.Shelf.Vars
import Derived.Lay
import Derived.SevenTiedAt
import Derived.HandedShaped
import Derived.ProofKit
namespace Go.Proofs.YtiocbogdiaalgaaDoor.fnExactParseSigns
open Go.ChangeShapes Go.WideShapes Go.ChangeAt Go.RowKit Go.Deep Go.Shelf Go.Lib
open Go.ChangeMaps (open_string shut_string)
set_option linter.unusedVariables false

set_option maxRecDepth 100000 in
set_option maxHeartbeats 1600000 in
theorem walk (l : List UInt8) (mx : Int) (w0 : World) (hmx : w0.cell? ⟨0, 0, none⟩ = some (.int .i64 mx)) :
    Calls Tryd.prog 3 #[.string (bstr l)] w0 fun e w' => e = .returned (.bool true) ∧ Below w0.heap.size w0 w' := by
  have hsz := bstr_size l
  by_cases hbig : 1048576 < l.length
  · have hbd : decide ((1048576 : Int) < (l.length : Int)) = true := by simp; omega
    clear hmx
    go_enter Tryd.func3, Tryd.ntmps3
    go_wp2
    go_ret
    exact ⟨rfl, Below.refl _ _⟩
  have hl : l.length ≤ 1048576 := by omega
  have hbd : decide ((1048576 : Int) < (l.length : Int)) = false := by simp; omega
  have Hmx := Lib.hid hmx
  clear hbig hmx
  go_enter Tryd.func3, Tryd.ntmps3
  have A0 := Lib.hid (Below.refl w0.heap.size w0)
  go_wp2_with fail
  refine (specParseSigns_any l w0 hl).mono ?_
  rintro e u1 ⟨⟨v, b, r, rfl, hv, hr⟩, hb⟩
  obtain ⟨ra, rc, rfl, _, _, hm⟩ := hv.read
  have RM := Lib.hid hm
  have HR := Lib.hid hr
  have hsr : Small r := by
    rcases hr with ⟨hp, _, rfl⟩ | ⟨_, _, rfl⟩
    · exact hp.1.1.small
    · exact ⟨by simp, fun i hi => absurd hi (by simp)⟩
  have HSR := Lib.hid hsr
  have A0' := Lib.hid (A0.out.trans (hb.mono A0.out.size))
  clear A0
  have A0 := A0'
  clear A0'
  clear hv hb hm hr hsr
  have AS := Lib.hid (Below.refl u1.heap.size u1)
  have S0 := Lib.hid A0.out.size
  have SG := Lib.hid AS.out.size
  go_wp2_with fail
  refine (implParseSigns_any l mx u1 hl (cell_below Hmx.out A0.out)).mono ?_
  rintro e u2 ⟨⟨v, b2, r2, rfl, hv, hr⟩, hb⟩
  have he : b2 = b ∧ r2 = r := by
    rcases hr with ⟨h1, h2, h3⟩ | ⟨h1, h2, h3⟩ <;> rcases HR.out with ⟨k1, k2, k3⟩ | ⟨k1, k2, k3⟩
    · exact ⟨h2.trans k2.symm, h3.trans k3.symm⟩
    · exact absurd h1 k1
    · exact absurd k1 h1
    · exact ⟨h2.trans k2.symm, h3.trans k3.symm⟩
  obtain ⟨rfl, rfl⟩ := he
  have HC := Lib.hid (mres_same hr)
  obtain ⟨ga, gc, gvs, rfl, hp, _, _⟩ := hv.open
  have GP := Lib.hid hp
  have hrl : r2.length ≤ 1048576 := HSR.out.1
  have A0' := Lib.hid (A0.out.trans (hb.mono A0.out.size))
  clear A0
  have A0 := A0'
  clear A0'
  have AS' := Lib.hid (AS.out.trans (hb.mono AS.out.size))
  clear AS
  have AS := AS'
  clear AS'
  clear hv hb hp hr HR
  have AG := Lib.hid (Below.refl u2.heap.size u2)
  have hne : ((1 + (tot r2 r2.length : Int)) != (1 + (tot r2 r2.length : Int))) = false := by simp
  have HT := tot_big HSR.out (Nat.le_refl _)
  cases b2
  all_goals
    go_wp2_with fail
    refine (eqIntSS_same ga ra gc rc r2 u2 HSR.out ((GP.out.below AG.out).at rfl) (RM.out.below AS.out)).mono ?_
    rintro e u3 ⟨rfl, hq⟩
    have hb := hq.below u2.heap.size
    have A0' := Lib.hid (A0.out.trans (hb.mono A0.out.size))
    clear A0
    have A0 := A0'
    clear A0'
    have AS' := Lib.hid (AS.out.trans (hb.mono AS.out.size))
    clear AS
    have AS := AS'
    clear AS'
    have AG' := Lib.hid (AG.out.trans (hb.mono AG.out.size))
    clear AG
    have AG := AG'
    clear AG'
    clear hq hb
    go_wp2_with fail
    refine (markIntSS_any u1.heap.size ga gc 1 r2 gvs u3 HSR.out (by omega) (by omega) (GP.out.below AG.out)).mono ?_
    rintro e u4 ⟨rfl, hp, ho⟩
    have hb0 : Below u1.heap.size u3 u4 := ho.below (fun k hk => Nat.le_trans SG.out (GP.out.span hk).1)
    have A0' := Lib.hid (A0.out.trans (hb0.mono S0.out))
    clear A0
    have A0 := A0'
    clear A0'
    have AS' := Lib.hid (AS.out.trans hb0)
    clear AS
    have AS := AS'
    clear AS'
    clear GP AG
    have GM := Lib.hid (hp.at (markM_len 1 r2))
    have AG := Lib.hid (Below.refl u4.heap.size u4)
    clear hp ho hb0
    go_wp2_with fail
    refine (heldIntSS_yes ga gc r2 1 u4 HSR.out (by omega) (by omega) (GM.out.below AG.out)).mono ?_
    rintro e u5 ⟨rfl, hq⟩
    have hb := hq.below u4.heap.size
    have A0' := Lib.hid (A0.out.trans (hb.mono A0.out.size))
    clear A0
    have A0 := A0'
    clear A0'
    have AS' := Lib.hid (AS.out.trans (hb.mono AS.out.size))
    clear AS
    have AS := AS'
    clear AS'
    have AG' := Lib.hid (AG.out.trans (hb.mono AG.out.size))
    clear AG
    have AG := AG'
    clear AG'
    clear hq hb
    go_wp2_with fail
    refine (implParseSigns_any l mx u5 hl (cell_below Hmx.out A0.out)).mono ?_
    rintro e u6 ⟨⟨v, b3, r3, rfl, hv, hr⟩, hb⟩
    have he := HC.out b3 r3 hr
    obtain ⟨rfl, rfl⟩ := he
    obtain ⟨ha, hc, rfl, _, _, hm⟩ := hv.read
    have HM := Lib.hid hm
    have A0' := Lib.hid (A0.out.trans (hb.mono A0.out.size))
    clear A0
    have A0 := A0'
    clear A0'
    have AS' := Lib.hid (AS.out.trans (hb.mono AS.out.size))
    clear AS
    have AS := AS'
    clear AS'
    have AG' := Lib.hid (AG.out.trans (hb.mono AG.out.size))
    clear AG
    have AG := AG'
    clear AG'
    clear hv hb hm hr
    have AH := Lib.hid (Below.refl u6.heap.size u6)
    go_wp2_with fail
    refine (eqIntSS_same ha ra hc rc r2 u6 HSR.out (HM.out.below AH.out) (RM.out.below AS.out)).mono ?_
    rintro e u7 ⟨rfl, hq⟩
    have hb := hq.below u6.heap.size
    have A0' := Lib.hid (A0.out.trans (hb.mono A0.out.size))
    clear A0
    have A0 := A0'
    clear A0'
    have AS' := Lib.hid (AS.out.trans (hb.mono AS.out.size))
    clear AS
    have AS := AS'
    clear AS'
    have AG' := Lib.hid (AG.out.trans (hb.mono AG.out.size))
    clear AG
    have AG := AG'
    clear AG'
    have AH' := Lib.hid (AH.out.trans (hb.mono AH.out.size))
    clear AH
    have AH := AH'
    clear AH'
    clear hq hb
    go_wp2_with fail
    refine (heldIntSS_yes ga gc r2 1 u7 HSR.out (by omega) (by omega) (GM.out.below AG.out)).mono ?_
    rintro e u8 ⟨rfl, hq⟩
    have hb := hq.below u7.heap.size
    have A0' := Lib.hid (A0.out.trans (hb.mono A0.out.size))
    clear A0
    have A0 := A0'
    clear A0'
    have AS' := Lib.hid (AS.out.trans (hb.mono AS.out.size))
    clear AS
    have AS := AS'
    clear AS'
    have AG' := Lib.hid (AG.out.trans (hb.mono AG.out.size))
    clear AG
    have AG := AG'
    clear AG'
    have AH' := Lib.hid (AH.out.trans (hb.mono AH.out.size))
    clear AH
    have AH := AH'
    clear AH'
    clear hq hb
    go_wp2
    go_ret
    exact ⟨rfl, A0.out⟩

theorem run {H : Type} {enc : TypeId × Value → H} (W : World) (base : Nat) (args : Array Value) (ds gs : List (DataW H)) (before : List MemPlace)
    (hval : ∀ (j : Nat) t v, Tryd.f3.params[j]? = some t → args[j]? = some v → Value.okWide Tryd.prog W .any base t v)
    (hW : DataW.Whole enc Tryd.prog Tryd.f3.params.toList Rows.fnExactParseSignsSpec.vars false W args.toList ds gs before) (hsh : W.ShapedOpen Tryd.prog) :
    Calls Tryd.prog 3 args W fun e W' => ∃ v, e = .returned v ∧ Rows.fnExactParseSignsSpec.post enc Tryd.prog Tryd.f3 false true false false W args v W' := by
  obtain ⟨mx, hmx⟩ := cell_of_shapedOpen_int (zero := #[.int .i64 0]) (t := 3) (g := 0) hsh (of_decide_eq_true (by kernel_rfl)) (by kernel_rfl) rfl (by kernel_rfl) (by kernel_rfl) Tryd.underlying3
  have hW' := hW
  obtain ⟨p, q, hA, hV, rfl, hfz, hnd⟩ := hW
  rw [Tryd.params3] at hA hval
  obtain ⟨v0, d0, rfl, rfl, h0⟩ := trodAll_one hA
  obtain ⟨rfl, rfl⟩ := trodVars_none hV
  obtain ⟨s, rfl, rfl, rfl, ws⟩ := open_string Tryd.underlying9 (hval 0 9 v0 rfl rfl) h0
  simp only [List.append_nil] at hW'
  obtain ⟨l, rfl⟩ : ∃ l, s = bstr l := ⟨s.data.toList, by simp [bstr]⟩
  refine (walk l mx W hmx).mono fun e W' ⟨he, hb⟩ => ?_
  subst he
  exact ⟨_, rfl, _, _, _, [], [], [], hW', trodAll_mk1 (shut_bool Tryd.underlying4 _), trodAll_mk1 (shut_string Tryd.underlying9 ws), rfl, hb.frame _, fun h => by cases h⟩

set_option maxRecDepth 100000 in
theorem lifted (os : Os) (started : os.Started) (H : Type) (enc : TypeId × Value → H) :
    ReturnsInHanded {} Tryd.checked os 3 .any (fun w args => (Rows.fnExactParseSignsSpec.pre enc Tryd.prog Tryd.f3 [] false w args ∧ laidMetH Tryd.prog Rows.fnExactParseSignsRow.laid w) ∧ sizedMet enc Tryd.prog Tryd.f3 (OpenSpec.ofChange Rows.fnExactParseSignsSpec) false w args)
      (Rows.fnExactParseSignsSpec.post enc Tryd.prog Tryd.f3 false true false false) := by
  refine returnsInHanded_of_calls Tryd.own started (by kernel_rfl)
    (ChangeSpec.witness_shaped (enc := enc) (C := Tryd.checked) (os := os) (X := fun w _ => laidMetH Tryd.prog Rows.fnExactParseSignsRow.laid w) false (World.laidAll Tryd.prog os Rows.fnExactParseSignsRow.laid) #[.string ⟨#[]⟩] 8 (World.laidAll_os _ _ _)
      (World.shaped_of_ZipB (by kernel_rfl) (by kernel_rfl)) (by kernel_rfl) (by kernel_rfl) (by kernel_rfl)
      (by rw [MakeChecks.laidMetH_plain _ _ _ (by kernel_rfl)]; exact laidMet_laidAll _ (by kernel_rfl) (by kernel_rfl))) ?_
  intro w tape i _ hsh _ hok hpre _
  obtain ⟨_, _, _, fn', hfn', _, _, _, _, hval⟩ := hok
  obtain rfl : fn' = Tryd.f3 := Option.some.inj (hfn'.symm.trans Tryd.func3)
  obtain ⟨⟨⟨ds, gs, before, hw, _⟩, _⟩, _⟩ := hpre
  have hW := DataW.Whole.of_heap (w' := w.forCall tape i) (by rfl) hw
  refine (run (w.forCall tape i) w.heap.size i.args ds gs before hval hW hsh).mono fun e W' ⟨v, he, hp⟩ => ?_
  subst he
  exact ChangeSpec.post_blind hp

theorem over : Rows.fnExactParseSignsRow.holds Tryd.pinned (OpenSpec.ofChange Rows.fnExactParseSignsSpec) :=
  OpenClaim.holds_of_wide 3 Tryd.f3 rfl rfl rfl rfl rfl rfl rfl ⟨rfl, rfl, rfl, rfl, rfl⟩ rfl rfl rfl rfl rfl (by kernel_rfl) Tryd.func3 (by kernel_rfl)
    (of_decide_eq_true (by kernel_rfl)) (by unfold Func.isWrapper; rw [if_neg (of_decide_eq_false (by kernel_rfl))]; exact ⟨rfl, rfl⟩)
    (fun os started H enc _ => lifted os started H enc)

theorem proved : Rows.FnExactParseSignsCardSaid :=
  Claim7.holds_tied_plain_at .later [] Rows.fnExactParseSignsCard.laidKinds true Rows.fnExactParseSignsCard.stood.harness false over (fun _ h => by cases h) (by kernel_rfl) (fun _ h => by cases h) fnExactParseSigns_row_tie rfl ⟨rfl, rfl⟩ (by kernel_rfl) rfl
    (fun f fn hf hfn => by
      obtain rfl : f = 3 := Option.some.inj ((show Tryd.prog.funcNamed "loop.example/g01123/laws.FnExactParseSigns" = some 3 by kernel_rfl).symm.trans hf) |>.symm
      obtain rfl : fn = Tryd.f3 := (Option.some.inj (Tryd.func3.symm.trans hfn)).symm
      exact ⟨by kernel_rfl, fun j t ht => by
        rw [Tryd.params3] at ht
        have hm : t ∈ [9] := by simpa using Array.mem_of_getElem? ht
        have hall : ([9].all fun u => !Tryd.prog.wantsStandIn u) = true := by kernel_rfl
        exact (show Tryd.prog.wantsStandIn t = false by simpa using List.all_eq_true.1 hall t hm)⟩)
    (by kernel_rfl)
end Go.Proofs.YtiocbogdiaalgaaDoor.fnExactParseSigns
