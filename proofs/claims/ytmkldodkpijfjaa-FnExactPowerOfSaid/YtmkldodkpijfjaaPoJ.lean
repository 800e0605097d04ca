/- Contracts: tables; PowerOf, by the program. Condition: lengths up to 2^20. -/
import Derived.Test.YtmkldodkpijfjaaPoI
import Derived.Test.YtmkldodkpijfjaaImplB
import Derived.Test.YtmkldodkpijfjaaTbI
namespace Go.Proofs.Ytmkldodkpijfjaa
open Go.RowKit

theorem isEntryTable_any (ao : Option Addr) (c : Nat) (t : List (List Int)) (w : World) (hs : Small t) (ht : MatAt w ao t) :
    Calls Try.prog 23 #[.slice ao t.length c] w fun e w' => Ans (isTab t) e ∧ Below w.heap.size w w' := by
  have C := Lib.hid (show Calls Try.prog 41 #[.slice ao t.length c, .int .i64 4, .int .i64 1, .int .i64 4] w fun e w' => Ans (isTab t) e ∧ Below w.heap.size w w' from isTableOf_any ao c 4 1 4 t w hs ht)
  clear hs ht
  go_enter Try.func23, Try.ntmps23
  go_wp2_with fail
  refine C.out.mono ?_
  rintro e w1 ⟨⟨b, rfl, ha⟩, hb⟩
  have Hb := Lib.hid hb
  have Ha := Lib.hid ha
  clear hb ha C
  go_wp2
  go_ret
  exact ⟨⟨b, rfl, Ha.out⟩, Hb.out⟩

/-- it returns a ratio and true if p, else the zero ratio and false -/
def RtRes (p : Prop) (r : Nat × Nat) (e : Ending) : Prop := ∃ y b, e = .returned (.tuple #[.agg (rtA y), .bool b]) ∧ ((p ∧ b = true ∧ y = r) ∨ (¬p ∧ b = false ∧ y = (0, 0)))
theorem RtRes.yes {p : Prop} {r : Nat × Nat} (h : p) : RtRes p r (.returned (.tuple #[.agg (rtA r), .bool true])) := ⟨r, true, rfl, .inl ⟨h, rfl, rfl⟩⟩
theorem RtRes.no {p : Prop} {r : Nat × Nat} (h : ¬p) : RtRes p r (.returned (.tuple #[.agg (rtA (0, 0)), .bool false])) := ⟨(0, 0), false, rfl, .inr ⟨h, rfl, rfl⟩⟩
theorem rtres_same {p : Prop} {r y y' : Nat × Nat} {b b' : Bool} (h : (p ∧ b = true ∧ y = r) ∨ (¬p ∧ b = false ∧ y = (0, 0))) (h' : (p ∧ b' = true ∧ y' = r) ∨ (¬p ∧ b' = false ∧ y' = (0, 0))) : b = b' ∧ y = y' := by
  rcases h with ⟨h1, h2, h3⟩ | ⟨h1, h2, h3⟩ <;> rcases h' with ⟨k1, k2, k3⟩ | ⟨k1, k2, k3⟩
  · exact ⟨h2.trans k2.symm, h3.trans k3.symm⟩
  · exact absurd h1 k1
  · exact absurd k1 h1
  · exact ⟨h2.trans k2.symm, h3.trans k3.symm⟩

set_option maxRecDepth 100000 in
set_option maxHeartbeats 1600000 in
theorem implPowerOf_any (a1 : Option Addr) (c1 : Nat) (m : List (List Int)) (a2 : Option Addr) (c2 : Nat) (t : List (List Int)) (w : World) (hs1 : Small m) (hwf1 : WfM m) (hm : MatAt w a1 m) (hs2 : Small t) (_ : WfM t) (ht : MatAt w a2 t) :
    Calls Try.prog 8 #[.slice a1 m.length c1, .slice a2 t.length c2] w fun e w' => RtRes (okPw m t) (pwR m t) e ∧ Below w.heap.size w w' := by
  have hmx : m.length ≤ 9223372036854775807 := by have := hs1.1; omega
  have htx : t.length ≤ 9223372036854775807 := by have := hs2.1; omega
  have Hs1 := Lib.hid hs1
  have Hs2 := Lib.hid hs2
  have Hm := Lib.hid hm
  have Ht := Lib.hid ht
  have Hwf := Lib.hid hwf1
  clear hs1 hs2 hm ht hwf1
  go_enter Try.func8, Try.ntmps8
  go_upto_region 1 with (refine wpList_allocT rfl 25 rfl _ _ Try.info_rt ?_)
  generalize hW : World.alloc w _ = w1
  have HR1 := Lib.hid (show RtAt w1 w.heap.size (0, 0) by rw [← hW]; exact RtAt.new w (0, 0))
  have HB1 := Lib.hid (show Below w.heap.size w w1 by rw [← hW]; exact (Below.refl _ w).alloc (Nat.le_refl _) _)
  clear hW
  go_wp2_with fail
  refine (implIsSign_any a1 c1 m w1 Hs1.out Hwf.out (Hm.out.below HB1.out)).mono ?_
  rintro e w2 ⟨ha, hb⟩
  have HR2 := Lib.hid (HR1.out.below hb)
  have Hb := Lib.hid (HB1.out.trans (hb.mono HB1.out.size))
  clear hb HR1 HB1
  by_cases hg : good m
  · have Hg := Lib.hid hg
    clear hg
    obtain rfl := ha.is Hg.out
    clear ha
    go_wp2_with fail
    refine (isEntryTable_any a2 c2 t w2 Hs2.out (Ht.out.below Hb.out)).mono ?_
    rintro e w3 ⟨ha, hb3⟩
    have HR3 := Lib.hid (HR2.out.below hb3)
    have Hb3 := Lib.hid (Hb.out.trans (hb3.mono Hb.out.size))
    clear hb3 HR2 Hb
    by_cases hT : isTab t
    · have HT := Lib.hid hT
      clear hT
      obtain rfl := ha.is HT.out
      clear ha
      by_cases hl : m.length = t.length
      · have HL := Lib.hid hl
        have hne : ((m.length : Int) != (t.length : Int)) = false := by simp; omega
        clear hl
        go_wp2_with fail
        refine (powerOf_any a1 a2 c1 c2 m t w3 ⟨⟨Hg.out, HT.out⟩, HL.out⟩ (Hm.out.below Hb3.out) (Ht.out.below Hb3.out)).mono ?_
        rintro e w4 ⟨rfl, hb4⟩
        have HR4 := Lib.hid (HR3.out.below hb4)
        have Hb4 := Lib.hid (Hb3.out.trans (hb4.mono Hb3.out.size))
        clear hb4 HR3 Hb3
        go_wp2_with (refine wpList_storeG rfl 25 _ _ rfl _ (rtA (pwR m t)) _ rfl rfl HR4.out (Try.size_rt _) (rt_same _ _) (rt_one _) ?_)
        have HR5 := Lib.hid (HR4.out.setRow (pwR m t))
        have HB5 := Lib.hid (below_setRowT Hb4.out (Nat.le_refl _) (rtA (pwR m t)))
        refine bodyPost_ret (v := .tuple #[.agg (rtA (pwR m t)), .bool true]) ?_ rfl ⟨RtRes.yes ⟨⟨Hg.out, HT.out⟩, HL.out⟩, HB5.out⟩
        exact results_cell_two (p := 4) (q := 5) rfl _ _ w.heap.size _ rfl (Try.load_rt HR5.out)
      · have HL := Lib.hid hl
        have hne : ((m.length : Int) != (t.length : Int)) = true := by simp; omega
        clear hl
        go_wp2_with (first | (refine wpList_buildT0 rfl 25 rfl _ Try.built_rt0 ?_) | (refine wpList_storeG rfl 25 _ _ rfl _ (rtA (0, 0)) _ rfl rfl HR3.out (Try.size_rt _) (rt_same _ _) (rt_one _) ?_))
        have HR5 := Lib.hid (HR3.out.setRow (0, 0))
        have HB5 := Lib.hid (below_setRowT Hb3.out (Nat.le_refl _) (rtA (0, 0)))
        refine bodyPost_ret (v := .tuple #[.agg (rtA (0, 0)), .bool false]) ?_ rfl ⟨RtRes.no (fun h => HL.out h.2), HB5.out⟩
        exact results_cell_two (p := 4) (q := 5) rfl _ _ w.heap.size _ rfl (Try.load_rt HR5.out)
    · have HT := Lib.hid hT
      clear hT
      obtain rfl := ha.isnt HT.out
      clear ha
      go_wp2_with (first | (refine wpList_buildT0 rfl 25 rfl _ Try.built_rt0 ?_) | (refine wpList_storeG rfl 25 _ _ rfl _ (rtA (0, 0)) _ rfl rfl HR3.out (Try.size_rt _) (rt_same _ _) (rt_one _) ?_))
      have HR5 := Lib.hid (HR3.out.setRow (0, 0))
      have HB5 := Lib.hid (below_setRowT Hb3.out (Nat.le_refl _) (rtA (0, 0)))
      refine bodyPost_ret (v := .tuple #[.agg (rtA (0, 0)), .bool false]) ?_ rfl ⟨RtRes.no (fun h => HT.out h.1.2), HB5.out⟩
      exact results_cell_two (p := 4) (q := 5) rfl _ _ w.heap.size _ rfl (Try.load_rt HR5.out)
  · have Hg := Lib.hid hg
    clear hg
    obtain rfl := ha.isnt Hg.out
    clear ha
    go_wp2_with (first | (refine wpList_buildT0 rfl 25 rfl _ Try.built_rt0 ?_) | (refine wpList_storeG rfl 25 _ _ rfl _ (rtA (0, 0)) _ rfl rfl HR2.out (Try.size_rt _) (rt_same _ _) (rt_one _) ?_))
    have HR5 := Lib.hid (HR2.out.setRow (0, 0))
    have HB5 := Lib.hid (below_setRowT Hb.out (Nat.le_refl _) (rtA (0, 0)))
    refine bodyPost_ret (v := .tuple #[.agg (rtA (0, 0)), .bool false]) ?_ rfl ⟨RtRes.no (fun h => Hg.out h.1.1), HB5.out⟩
    exact results_cell_two (p := 4) (q := 5) rfl _ _ w.heap.size _ rfl (Try.load_rt HR5.out)
end Go.Proofs.Ytmkldodkpijfjaa
