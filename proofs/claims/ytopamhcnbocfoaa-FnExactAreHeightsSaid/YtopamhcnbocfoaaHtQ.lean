/- Contracts of the model: whether a table has the heights of a sign matrix; that matrix. No conditions but sizes. -/
import Derived.Test.YtopamhcnbocfoaaHtF
namespace Go.Proofs.Ytopamhcnbocfoaa
open Go.RowKit

/-- the table has the heights of a sign matrix -/
def IsHt (H : List (List Int)) : Prop := ∃ m, good m ∧ H = ht m
/-- that matrix -/
def unHt (H : List (List Int)) : List (List Int) := dm (qT (H.length - 1) H)
/-- as many rows as numbers in each, two to seven, none greater than 6 -/
def shape0 (H : List (List Int)) : Prop := 2 ≤ H.length ∧ H.length ≤ 7 ∧ ∀ i, i < H.length → (gr H i).length = H.length
def shapeH (H : List (List Int)) : Prop := shape0 H ∧ ∀ i, i < H.length → allIn (gr H i) 0 6

theorem unHt_ht {m : List (List Int)} (h : good m) : unHt (ht m) = m := by
  have hc := good_crn h
  unfold unHt
  rw [ht_len, Nat.add_sub_cancel]
  unfold ht
  rw [qT_htT, dm_hcT hc.top hc.left, unC_S2 h.1]
theorem isHt_shape {H : List (List Int)} (h : IsHt H) : shapeH H := by
  obtain ⟨m, hg, rfl⟩ := h
  have h1 := hg.1.1
  have h6 := hg.1.2.1
  have hc := good_crn hg
  refine ⟨⟨by rw [ht_len]; omega, by rw [ht_len]; omega, fun i hi => ?_⟩, fun i hi j hj => ?_⟩
  · rw [ht_len] at hi ⊢; exact tab_row hi
  · rw [ht_len] at hi
    have hr : (gr (ht m) i).length = m.length + 1 := tab_row hi
    rw [hr] at hj
    rw [show gi (gr (ht m) i) j = hOf (S2 m) i j from gi_htT (by omega) (by omega)]
    have := hc.hbound (show i ≤ m.length by omega) (show j ≤ m.length by omega)
    omega
theorem isHt_unHt {H : List (List Int)} (h : IsHt H) : good (unHt H) ∧ ht (unHt H) = H := by
  obtain ⟨m, hg, rfl⟩ := h
  rw [unHt_ht hg]
  exact ⟨hg, rfl⟩
theorem isHt_iff {H : List (List Int)} : IsHt H ↔ shapeH H ∧ good (unHt H) ∧ ht (unHt H) = H :=
  ⟨fun h => ⟨isHt_shape h, isHt_unHt h⟩, fun h => ⟨unHt H, h.2.1, h.2.2.symm⟩⟩
theorem unHt_len (H : List (List Int)) : (unHt H).length = H.length - 1 := by unfold unHt; rw [dm_len, qT_len]
theorem unHt_small {H : List (List Int)} (h : H.length ≤ 7) : Small (unHt H) := by
  refine ⟨by rw [unHt_len]; omega, fun i hi => ?_⟩
  rw [unHt_len] at hi
  unfold unHt dm
  rw [qT_len, tab_row hi]
  omega

theorem heFromU_any (ao : Option Addr) (cp : Nat) (H : List (List Int)) (w : World) (hs : shapeH H) (hm : MatAt w ao H) :
    Calls Try.prog 61 #[.slice ao H.length cp] w fun e w' => ∃ v, e = .returned v ∧ OwnM w' w.heap.size v (unHt H) ∧ Below w.heap.size w w' := by
  have h2 := hs.1.1
  have h7 := hs.1.2.1
  have e : H.length = H.length - 1 + 1 := by omega
  have h := heFromW_any ao cp (H.length - 1) H w e (fun i hi => by rw [hs.1.2.2 i (by omega)]; exact e) (fun i j hi hj => by
    have := hs.2 i (by omega) j (by rw [hs.1.2.2 i (by omega)]; omega)
    omega) (by omega) (by omega) hm
  rw [← e] at h
  exact h

set_option maxRecDepth 100000 in
set_option maxHeartbeats 1600000 in
theorem heGood_any (ao : Option Addr) (c : Nat) (H : List (List Int)) (w : World) (hs : Small H) (hm : MatAt w ao H) :
    Calls Try.prog 60 #[.slice ao H.length c] w fun e w' => Ans (IsHt H) e ∧ Below w.heap.size w w' := by
  have hn := hs.1
  have hmx : H.length ≤ 9223372036854775807 := by omega
  have Hs := Lib.hid hs
  have Hm := Lib.hid hm
  clear hs hm
  go_enter Try.func60, Try.ntmps60
  go_wp2_with fail
  refine (l1In_any _ _ _ w).mono ?_
  rintro e w1 ⟨ha, rfl⟩
  by_cases hl : 2 ≤ H.length ∧ H.length ≤ 7
  · obtain ⟨hl2, hl7⟩ := hl
    obtain rfl := ha.is ⟨by omega, by omega⟩
    clear ha
    go_wp2
    go_loop [12] (fun i => ∃ k : Nat, k ≤ H.length ∧ i = .int .i64 k ∧ ∀ j, j < k → (gr H j).length = H.length ∧ allIn (gr H j) 0 6) (fun i => H.length - (intOf i).toNat)
    case atStart => exact ⟨0, Nat.zero_le _, rfl, fun j hj => absurd hj (by omega)⟩
    case round =>
      obtain ⟨k, hk, rfl, hd⟩ := hrel
      have Hd := Lib.hid hd
      clear hd
      by_cases hlt : k < H.length
      · obtain ⟨b1, o1, r1, d1, e1, hc1, hx1, _, _⟩ := Hm.out k hlt
        have hrk := Hs.out.2 k hlt
        subst e1
        have Hx1 := Lib.hid hx1
        clear hx1
        by_cases he : (gr H k).length = H.length
        · have hb : (((gr H k).length : Int) != (H.length : Int)) = false := by simp [he]
          have He := Lib.hid he
          clear he
          go_wp2_with fail
          refine (l1All_any r1 d1 (gr H k) 0 6 w hrk Hx1.out).mono ?_
          rintro e w2 ⟨ha, rfl⟩
          by_cases hall : allIn (gr H k) 0 6
          · have Hall := Lib.hid hall
            clear hall
            obtain rfl := ha.is Hall.out
            clear ha
            go_wp2
            go_round
            case rel =>
              refine ⟨k + 1, by omega, by go_num, fun j hj => ?_⟩
              by_cases e : j = k
              · subst e; exact ⟨He.out, Hall.out⟩
              · exact Hd.out j (by omega)
            case measure => simp [intOf]; omega
          · have Hall := Lib.hid hall
            clear hall
            obtain rfl := ha.isnt Hall.out
            clear ha
            go_wp2
            go_ret
            exact ⟨Ans.no fun h => Hall.out ((isHt_shape h).2 k hlt), Below.refl _ _⟩
        · have hb : (((gr H k).length : Int) != (H.length : Int)) = true := by simp; omega
          have He := Lib.hid he
          clear he
          go_wp2
          go_ret
          exact ⟨Ans.no fun h => He.out ((isHt_shape h).1.2.2 k hlt), Below.refl _ _⟩
      · obtain rfl : k = H.length := by omega
        have hsh : shapeH H := ⟨⟨hl2, hl7, fun i hi => (Hd.out i hi).1⟩, fun i hi => (Hd.out i hi).2⟩
        have Hsh := Lib.hid hsh
        have hcall := heFromU_any ao c H w hsh Hm.out
        have Hcall := Lib.hid hcall
        clear hsh hcall
        go_wp2_with fail
        refine Hcall.out.mono ?_
        rintro e w2 ⟨v, rfl, hv, hb⟩
        obtain ⟨a2, c2, rfl, _, _, hm2⟩ := hv.read
        have Hm2 := Lib.hid hm2
        have Hb := Lib.hid hb
        have HB := Lib.hid hb.size
        have Hsm := Lib.hid (unHt_small hl7)
        clear hv hm2 hb Hcall
        go_wp2_with fail
        refine (sgGood_any a2 c2 (unHt H) w2 Hsm.out Hm2.out).mono ?_
        rintro e w3 ⟨ha, hb⟩
        have Hm3 := Lib.hid (Hm2.out.below hb)
        have Hb3 := Lib.hid (Hb.out.trans (hb.mono HB.out))
        have HB3 := Lib.hid Hb3.out.size
        clear hb
        by_cases hg : good (unHt H)
        · have Hg := Lib.hid hg
          have hn6 := hg.1.2.1
          clear hg
          obtain rfl := ha.is Hg.out
          clear ha
          go_wp2_with fail
          refine (heOf_any a2 c2 (unHt H) w3 Hg.out Hm3.out).mono ?_
          rintro e w4 ⟨v, rfl, hv, hb⟩
          obtain ⟨a4, c4, rfl, _, _, hm4⟩ := hv.read
          have Hm4 := Lib.hid hm4
          have Hb4 := Lib.hid (Hb3.out.trans (hb.mono HB3.out))
          have HB4 := Lib.hid Hb4.out.size
          clear hv hm4 hb
          go_wp2_with fail
          refine (heSame_any a4 ao c4 c (ht (unHt H)) H w4 (ht_small Hg.out.1) Hs.out Hm4.out (Hm.out.below Hb4.out)).mono ?_
          rintro e w5 ⟨⟨b, rfl, hb5⟩, hb6⟩
          have Hb5 := Lib.hid hb5
          have Hb6 := Lib.hid (Hb4.out.trans (hb6.mono HB4.out))
          clear hb5 hb6
          go_wp2
          go_ret
          exact ⟨⟨b, rfl, Hb5.out.trans ⟨fun h => isHt_iff.2 ⟨Hsh.out, Hg.out, h⟩, fun h => (isHt_unHt h).2⟩⟩, Hb6.out⟩
        · have Hg := Lib.hid hg
          clear hg
          obtain rfl := ha.isnt Hg.out
          clear ha
          go_wp2
          go_ret
          exact ⟨Ans.no fun h => Hg.out (isHt_unHt h).1, Hb3.out⟩
  · have Hl := Lib.hid hl
    obtain rfl := ha.isnt (fun h => hl ⟨by omega, by omega⟩)
    clear ha hl
    go_wp2
    go_ret
    exact ⟨Ans.no fun h => Hl.out ⟨(isHt_shape h).1.1, (isHt_shape h).1.2.1⟩, Below.refl _ _⟩

theorem specAreHeights_any (ao : Option Addr) (c : Nat) (H : List (List Int)) (w : World) (hs : Small H) (hm : MatAt w ao H) :
    Calls Try.prog 24 #[.slice ao H.length c] w fun e w' => Ans (IsHt H) e ∧ Below w.heap.size w w' := by
  have Hcall := Lib.hid (heGood_any ao c H w hs hm)
  clear hs hm
  go_enter Try.func24, Try.ntmps24
  go_wp2_with fail
  refine Hcall.out.mono ?_
  rintro e w1 ⟨⟨b, rfl, hb⟩, hb1⟩
  have Hb := Lib.hid hb
  have Hb1 := Lib.hid hb1
  clear hb hb1
  go_wp2
  go_ret
  exact ⟨⟨b, rfl, Hb.out⟩, Hb1.out⟩

set_option maxRecDepth 100000 in
set_option maxHeartbeats 800000 in
theorem specFromHeights_any (ao : Option Addr) (c : Nat) (H : List (List Int)) (w : World) (hs : Small H) (hm : MatAt w ao H) :
    Calls Try.prog 26 #[.slice ao H.length c] w fun e w' => MRes (IsHt H) (unHt H) w' w.heap.size e ∧ Below w.heap.size w w' := by
  have Hcall := Lib.hid (heGood_any ao c H w hs hm)
  have Hm := Lib.hid hm
  clear hs hm
  go_enter Try.func26, Try.ntmps26
  go_wp2_with fail
  refine Hcall.out.mono ?_
  rintro e w1 ⟨ha, hb⟩
  have Hb := Lib.hid hb
  have HB := Lib.hid hb.size
  clear hb Hcall
  by_cases hg : IsHt H
  · have Hg := Lib.hid hg
    clear hg
    obtain rfl := ha.is Hg.out
    clear ha
    go_wp2_with fail
    refine (heFromU_any ao c H w1 (isHt_shape Hg.out) (Hm.out.below Hb.out)).mono ?_
    rintro e w2 ⟨v, rfl, hv, hb2⟩
    have Hv := Lib.hid (hv.base HB.out)
    have Hb2 := Lib.hid (Hb.out.trans (hb2.mono HB.out))
    clear hv hb2
    go_wp2
    go_ret2
    exact ⟨MRes.yes Hg.out Hv.out, Hb2.out⟩
  · have Hg := Lib.hid hg
    clear hg
    obtain rfl := ha.isnt Hg.out
    clear ha
    go_wp2
    go_ret2
    exact ⟨MRes.no Hg.out, Hb.out⟩
end Go.Proofs.Ytopamhcnbocfoaa
