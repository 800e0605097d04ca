/- Parts of proofs: contracts and plain facts. Conditions: as each says. -/
import Derived.Test.YtmonhmbnbhaemaaDoorK10
import Derived.Deep.RegionWith
namespace Go.Proofs.YtmonhmbnbhaemaaDoor
open Go.RowKit

theorem OwnRL.setLow {w : World} {B : Nat} {v : Value} {ts : List (List (List Int))} {vs : List Value} (h : OwnRL w B v ts vs) {g k : Nat} (hg : g < B) (u : Value) : OwnRL (w.setCell ⟨g, k, none⟩ u) B v ts vs :=
  ⟨Go.ownsRow_setCell_other (a := ⟨g, k, none⟩) h.top (fun e => by have := (World.ownsRow.lt h.top g e).1; omega) _, fun i hi => by
    obtain ⟨us, hu⟩ := h.each i hi
    exact ⟨us, ⟨Go.ownsRow_setCell_other (a := ⟨g, k, none⟩) hu.top (fun e => by have := (World.ownsRow.lt hu.top g e).1; omega) _, fun j hj => Go.ownsRow_setCell_other (a := ⟨g, k, none⟩) (hu.rows j hj) (fun e => by have := (OwnI.lt (hu.rows j hj) g e).1; omega) _⟩⟩⟩

/-- what the kinds are worth -/
def wtL (x : Int) : Nat → Int
  | 0 => x
  | 1 => 1
  | 2 => 1
  | 3 => 1
  | 4 => 1
  | _ => 1 + x
theorem prodW_lam (m : List (List Int)) (l : Nat) : prodW (wtL (l : Int)) (cN m) 6 = (lamV l m : Int) := by
  rw [← lamV_eq]
  simp only [prodW, wtL, pw_one, Int.one_mul, Int.mul_one]
theorem wtL_le {l : Nat} (h : l ≤ 3) : ∀ q, q < 6 → 0 ≤ wtL (l : Int) q ∧ wtL (l : Int) q ≤ 10 := by
  intro q hq
  obtain rfl | rfl | rfl | rfl | rfl | rfl : q = 0 ∨ q = 1 ∨ q = 2 ∨ q = 3 ∨ q = 4 ∨ q = 5 := by omega
  all_goals simp only [wtL]; omega
def okLam (t : List (List Int)) (x : Int) : Prop := isTab t ∧ 0 ≤ x ∧ x ≤ 3
def lamS (t : List (List Int)) (x : Int) : Nat × Nat := lamR x.toNat t (allW t.length) (allW t.length).length

set_option maxRecDepth 100000 in
set_option maxHeartbeats 6400000 in
theorem implLambdaSum_any (ao : Option Addr) (c : Nat) (t : List (List Int)) (x : Int) (w : World) (hs : Small t) (_ : WfM t) (ht : MatAt w ao t)
    (_ : -9223372036854775808 ≤ x ∧ x ≤ 9223372036854775807) (hD : Dj w) :
    Calls Tryd.prog 7 #[.slice ao t.length c, .int .i64 x] w fun e w' => RtRes (okLam t x) (lamS t x) e ∧ Below w.heap.size w w' := by
  have htx : t.length ≤ 9223372036854775807 := by have := hs.1; omega
  have Hs := Lib.hid hs
  have Ht := Lib.hid ht
  have HD := Lib.hid hD
  clear hs ht hD
  go_enter Tryd.func7, Tryd.ntmps7
  go_upto_region 1 with (refine wpList_allocT rfl 25 rfl _ _ Tryd.info_rt ?_)
  generalize hW : World.alloc w _ = w1
  have HR1 := Lib.hid (show RtAt w1 w.heap.size (0, 0) by rw [← hW]; exact RtAt.new w (0, 0))
  have HB1 := Lib.hid (show Below w.heap.size w w1 by rw [← hW]; exact (Below.refl _ w).alloc (Nat.le_refl _) _)
  clear hW
  go_wp2_with fail
  refine (isEntryTable_any ao c t w1 Hs.out (Ht.out.below HB1.out)).mono ?_
  rintro e w2 ⟨ha, hb⟩
  have HR2 := Lib.hid (HR1.out.below hb)
  have HB2 := Lib.hid (HB1.out.trans (hb.mono HB1.out.size))
  clear hb HR1 HB1
  by_cases hT : isTab t
  · have HT := Lib.hid hT
    clear hT
    obtain rfl := ha.is HT.out
    clear ha
    go_wp2_with fail
    refine (iAllIn_any (some ⟨w2.heap.size, 0, none⟩) 1 [x] 0 3 _ (by simp) (ints_new w2 [x])).mono ?_
    rintro e w3 ⟨ha, rfl⟩
    have ha := ha.iff (allIn_oneW x 0 3)
    have hal : Below w2.heap.size w2 (w2.alloc (.cells ([x].map (Value.int .i64)).toArray 3)) := (Below.refl _ w2).alloc (Nat.le_refl _) _
    have HR3 := Lib.hid (HR2.out.below hal)
    have HB3 := Lib.hid (HB2.out.trans (hal.mono HB2.out.size))
    clear hal HR2 HB2
    by_cases hl : 0 ≤ x ∧ x ≤ 3
    · have Hl := Lib.hid hl
      obtain rfl := ha.is hl
      clear ha
      generalize hW : World.alloc w2 _ = w3 at HR3 HB3 ⊢
      clear hW
      obtain ⟨l, rfl⟩ : ∃ l : Nat, x = (l : Int) := ⟨x.toNat, by omega⟩
      have hl3 : l ≤ 3 := by omega
      obtain ⟨z, hz⟩ : ∃ z, z = 1 + (l : Int) := ⟨_, rfl⟩
      have hw : IntKind.i64.wrap (1 + (l : Int)) = z := by rw [hz]; exact w64 (by omega)
      have hw' : wrap64 (1 + (l : Int)) = z := by rw [hz]; unfold wrap64; omega
      have Hz := Lib.hid hz
      have CP := Lib.hid (show ∀ w', Calls Tryd.prog 23 #[.agg #[.int .i64 (l : Int), .int .i64 1, .int .i64 1, .int .i64 1, .int .i64 1, .int .i64 z]] w' fun e w'' => ∃ g, e = .returned (wFun g) ∧ KcAt w'' g (wtL (l : Int)) ∧ Below w'.heap.size w' w'' from fun w' => by
        have := weightOfPlaces_any (wtL (l : Int)) w'
        rw [show kc (wtL (l : Int)) = #[.int .i64 (l : Int), .int .i64 1, .int .i64 1, .int .i64 1, .int .i64 1, .int .i64 z] from by rw [Hz.out]; rfl] at this
        exact this.mono fun e w'' h => ⟨_, h⟩)
      clear hl hz
      go_wp2_with fail
      refine (CP.out _).mono ?_
      rintro e w4 ⟨g, rfl, hk, hb4⟩
      unfold wFun
      have HK := Lib.hid hk
      have HR4 := Lib.hid (HR3.out.below hb4)
      have HB4 := Lib.hid (HB3.out.trans (hb4.mono HB3.out.size))
      clear hk hb4 HR3 HB3 CP
      go_wp2_with fail
      refine (whole_any 0 w4).mono ?_
      rintro e w5 ⟨rfl, hb5⟩
      have HR5 := Lib.hid (HR4.out.below hb5)
      have HB5 := Lib.hid hb5
      clear hb5 HR4
      go_upto_region 5 with (first | (refine wpList_allocT rfl 25 rfl _ _ Tryd.info_rt ?_) | (refine wpList_storeT rfl 25 _ _ rfl (rtA (0, 1)) (rtA (0, 0)) _ rfl rfl rfl (Tryd.size_rt _) (rt_same _ _) (rt_one _) ?_))
      generalize hW : World.alloc w5 _ = w6
      obtain ⟨H, hH⟩ : ∃ H, H = w5.heap.size := ⟨_, rfl⟩
      have HC6 := Lib.hid (show RtAt w6 H (0, 1) by rw [← hW, hH]; exact RtAt.new w5 (0, 1))
      have HR6 := Lib.hid (show RtAt w6 w.heap.size (0, 0) by rw [← hW]; exact HR5.out.alloc _)
      have HB6 := Lib.hid (show Below w4.heap.size w4 w6 by rw [← hW]; exact HB5.out.alloc HB5.out.size _)
      have hHw : w.heap.size < H := by rw [hH]; exact HR5.out.lt
      have hH4 : w4.heap.size ≤ H := by rw [hH]; exact HB5.out.size
      rw [← hH]
      clear hW hH HR5 HB5
      have h1 := HT.out.1
      have CA := Lib.hid (allSigns_any t.length w6 h1.1 (by omega) (HD.out.next (HB4.out.trans (HB6.out.mono HB4.out.size))))
      rw [allI_eq h1.1 h1.2] at CA
      have hlen := allW_len t.length (by omega)
      have HA := Lib.hid (allW_lamOk HT.out)
      have HS := Lib.hid (show lamS t (l : Int) = lamR l t (allW t.length) (allW t.length).length by unfold lamS; rw [Int.toNat_natCast])
      obtain ⟨A, hA⟩ : ∃ A, A = allW t.length := ⟨_, rfl⟩
      rw [← hA] at CA hlen HA HS
      clear hA h1
      go_wp2_with fail
      refine CA.out.mono ?_
      rintro e w7 ⟨v7, ts, rfl, hv7, hb7⟩
      obtain ⟨ta, tc, rfl, ht1, ht2⟩ := hv7.head
      have Hv7 := Lib.hid hv7
      have HC7 := Lib.hid (HC6.out.below hb7)
      have HR7 := Lib.hid (HR6.out.below hb7)
      have HB7 := Lib.hid (HB6.out.trans (hb7.mono HB6.out.size))
      have hHl : H < w6.heap.size := HC6.out.lt
      clear hv7 hb7 CA HC6 HR6 HB6
      go_wp2
      go_loopw [30] (fun i wr => ∃ k : Nat, k ≤ A.length ∧ i = .int .i64 k ∧ RtAt wr H (lamR l t A k) ∧ RtAt wr w.heap.size (0, 0) ∧ OwnRL wr w6.heap.size (.slice ta A.length tc) A ts ∧ Below w4.heap.size w4 wr) (fun i _ => A.length - (intOf i).toNat)
      case atStart => exact ⟨0, Nat.zero_le _, rfl, HC7.out, HR7.out, Hv7.out, HB7.out⟩
      case round =>
        obtain ⟨k, hk, rfl, hc, hr, hlist, hbr⟩ := hrel
        have Hc := Lib.hid hc
        have Hr := Lib.hid hr
        have Hlist := Lib.hid hlist
        have Hbr := Lib.hid hbr
        have HBw := Lib.hid (HB4.out.trans (hbr.mono HB4.out.size))
        clear hc hr hlist hbr HC7 HR7 Hv7 HB7
        by_cases hlt : k < A.length
        · obtain ⟨b1, o1, r1, d1, e1, hc1, hm1, _, _⟩ := Hlist.out.at hlt
          obtain ⟨hgd, hok⟩ := HA.out _ (gt_mem hlt)
          obtain ⟨⟨s1, s2, s3⟩, ⟨p1, p2, p3⟩, hv, ⟨t1, t2, t3⟩⟩ := lam_step (lam := l) HT.out hl3 (fun m hm => (HA.out m hm).2) hlen hlt
          have hl4 : (gt A k).length ≤ 4 := by have := HT.out.1; have := hok.1; omega
          have CW := Lib.hid (fun wx (hx : Below wr.heap.size wr wx) => weightOfPlaces1_any r1 d1 g (wtL (l : Int)) (gt A k) wx hgd hl4 (wtL_le hl3) (hm1.below hx) ((HK.out.below Hbr.out).below hx))
          have CQ := Lib.hid (fun wx (hx : Below wr.heap.size wr wx) => powerOf_any r1 ao d1 c (gt A k) t wx ⟨⟨hgd, HT.out⟩, hok.1⟩ (hm1.below hx) ((Ht.out.below HBw.out).below hx))
          have HNX := Lib.hid (show lamR l t A (k + 1) = pl (lamR l t A k) (tm (lamV l (gt A k), 1) (pwR (gt A k) t)) from rfl)
          rw [prodW_lam] at CW
          rw [hok.1] at hc1 CW CQ
          subst e1
          have c0 := Hc.out.c0
          have c1 := Hc.out.c1
          obtain ⟨v, hvv⟩ : ∃ v, v = lamV l (gt A k) := ⟨_, rfl⟩
          obtain ⟨P, hP⟩ : ∃ P, P = pwR (gt A k) t := ⟨_, rfl⟩
          obtain ⟨S, hS⟩ : ∃ S, S = lamR l t A k := ⟨_, rfl⟩
          rw [← hvv] at CW HNX hv t1 t2 t3
          rw [← hP] at CQ HNX p1 p2 p3 t1 t2 t3
          rw [← hS] at HNX Hc c0 c1 s1 s2 s3
          have CT := Lib.hid (fun w => times_any (v, 1) P w (by have := p1.2; simp only; omega) (by have := Nat.mul_le_mul hv p2; simp only; omega) (by simp only; omega))
          obtain ⟨T, hTT⟩ : ∃ T, T = tm (v, 1) P := ⟨_, rfl⟩
          rw [← hTT] at CT HNX t1 t2 t3
          have m1 := Nat.mul_le_mul s2 t3
          have m2 := Nat.mul_le_mul t2 s3
          have CU := Lib.hid (fun w => plus_any S T w (Nat.mul_pos s1.2 t1.2) (by omega) (by have := Nat.mul_le_mul s3 t3; omega))
          obtain ⟨U, hU⟩ : ∃ U, U = pl S T := ⟨_, rfl⟩
          rw [← hU] at CU HNX
          obtain ⟨S1, S2'⟩ := S
          obtain ⟨P1, P2⟩ := P
          obtain ⟨T1, T2⟩ := T
          obtain ⟨U1, U2⟩ := U
          have CW2 : ∀ wx, Below wr.heap.size wr wx → Calls Tryd.prog 37 #[.slice r1 t.length d1, .pointer (some ⟨g, 0, none⟩)] wx fun e w' => e = .returned (.int .i64 (v : Int)) ∧ Below wx.heap.size wx w' := CW.out
          have CH2 : ∀ wx, Calls Tryd.prog 24 #[.int .i64 (v : Int)] wx fun e w' => e = .returned (.agg #[.int .i64 (v : Int), .int .i64 1]) ∧ Below wx.heap.size wx w' := fun wx => whole_any v wx
          have CQ2 : ∀ wx, Below wr.heap.size wr wx → Calls Tryd.prog 28 #[.slice r1 t.length d1, .slice ao t.length c] wx fun e w' => e = .returned (.agg #[.int .i64 (P1 : Int), .int .i64 (P2 : Int)]) ∧ Below wx.heap.size wx w' := CQ.out
          have CT2 : ∀ wx, Calls Tryd.prog 27 #[.agg #[.int .i64 (v : Int), .int .i64 1], .agg #[.int .i64 (P1 : Int), .int .i64 (P2 : Int)]] wx fun e w' => e = .returned (.agg #[.int .i64 (T1 : Int), .int .i64 (T2 : Int)]) ∧ Below wx.heap.size wx w' := CT.out
          have CU2 : ∀ wx, Calls Tryd.prog 26 #[.agg #[.int .i64 (S1 : Int), .int .i64 (S2' : Int)], .agg #[.int .i64 (T1 : Int), .int .i64 (T2 : Int)]] wx fun e w' => e = .returned (.agg #[.int .i64 (U1 : Int), .int .i64 (U2 : Int)]) ∧ Below wx.heap.size wx w' := CU.out
          have hfacts : ∀ w'', Below wr.heap.size wr w'' → w''.cell? ⟨H, 0, none⟩ = some (.int .i64 (S1 : Int)) ∧ w''.cell? ⟨H, 1, none⟩ = some (.int .i64 (S2' : Int)) ∧ w''.frozen? ⟨H, 0, none⟩ = false ∧ w''.frozen? ⟨H, 1, none⟩ = false := fun w'' hb =>
            ⟨cell_below c0 hb, cell_below c1 hb, frozen_of_row w'' H 0 _ _ (Hc.out.below hb), frozen_of_row w'' H 1 _ _ (Hc.out.below hb)⟩
          have Hfacts := Lib.hid hfacts
          have KW := Lib.hid CW2
          have KH := Lib.hid CH2
          have KQ := Lib.hid CQ2
          have KT := Lib.hid CT2
          have KU := Lib.hid CU2
          have HBc := Lib.hid (show Below wr.heap.size wr wr.drew from below_drewN (Below.refl _ _) 1)
          clear CW CQ CT CU CW2 CH2 CQ2 CT2 CU2 hfacts hm1 hgd hok s1 s2 s3 p1 p2 p3 t1 t2 t3 hv m1 m2 hvv hP hS hTT hU hl4
          go_wp2
          go_region_with (first
            | (go_at_call 37; refine (KW.out _ ?_).mono ?_; exact HBc.out; rintro e w5 ⟨rfl, hb5⟩; have HBd := Lib.hid (HBc.out.trans (hb5.mono HBc.out.size)); clear hb5 HBc; have HBc := HBd; clear HBd; obtain ⟨q0, q1, q2, q3⟩ := Hfacts.out _ HBc.out)
            | (go_at_call 24; refine (KH.out _).mono ?_; rintro e w5 ⟨rfl, hb5⟩; have HBd := Lib.hid (HBc.out.trans (hb5.mono HBc.out.size)); clear hb5 HBc; have HBc := HBd; clear HBd; obtain ⟨q0, q1, q2, q3⟩ := Hfacts.out _ HBc.out)
            | (go_at_call 28; refine (KQ.out _ ?_).mono ?_; exact HBc.out; rintro e w5 ⟨rfl, hb5⟩; have HBd := Lib.hid (HBc.out.trans (hb5.mono HBc.out.size)); clear hb5 HBc; have HBc := HBd; clear HBd; obtain ⟨q0, q1, q2, q3⟩ := Hfacts.out _ HBc.out)
            | (go_at_call 27; refine (KT.out _).mono ?_; rintro e w5 ⟨rfl, hb5⟩; have HBd := Lib.hid (HBc.out.trans (hb5.mono HBc.out.size)); clear hb5 HBc; have HBc := HBd; clear HBd; obtain ⟨q0, q1, q2, q3⟩ := Hfacts.out _ HBc.out)
            | (go_at_call 26; refine (KU.out _).mono ?_; rintro e w9 ⟨rfl, hb5⟩; have HBd := Lib.hid (HBc.out.trans (hb5.mono HBc.out.size)); clear hb5 HBc; have HBc := HBd; clear HBd; obtain ⟨q0, q1, q2, q3⟩ := Hfacts.out _ HBc.out))
          all_goals
            have HCn := Lib.hid ((Hc.out.below HBc.out).put U1 U2)
            have HRn := Lib.hid ((Hr.out.below HBc.out).putOther (g' := H) (by omega) (.int .i64 (U1 : Int)) (.int .i64 (U2 : Int)))
            have HLn := Lib.hid (((Hlist.out.below HBc.out).setLow (g := H) (k := 0) hHl (.int .i64 (U1 : Int))).setLow (g := H) (k := 1) hHl (.int .i64 (U2 : Int)))
            have HBn := Lib.hid (((Hbr.out.trans (HBc.out.mono Hbr.out.size)).setCell (p := ⟨H, 0, none⟩) hH4 (.int .i64 (U1 : Int))).setCell (p := ⟨H, 1, none⟩) hH4 (.int .i64 (U2 : Int)))
            clear q0 q1 q2 q3 c0 c1 hc1 KW KH KQ KT KU Hfacts
            go_wp2
            go_roundw
            case rel => exact ⟨k + 1, by omega, by go_num, by rw [HNX.out]; exact HCn.out, HRn.out, HLn.out, HBn.out⟩
            case measure => simp [intOf]; omega
        · obtain rfl : k = A.length := by omega
          have HC := Lib.hid (show RtAt wr H (lamS t (l : Int)) by rw [HS.out]; exact Hc.out)
          clear Hc
          go_wp2_with (first | (refine wpList_loadG rfl 25 _ rfl _ rfl _ _ HC.out Tryd.underlying25 rfl (Tryd.size_rt _) ?_) | (refine wpList_storeG rfl 25 _ _ rfl _ (rtA (lamS t (l : Int))) _ rfl rfl Hr.out (Tryd.size_rt _) (rt_same _ _) (rt_one _) ?_))
          have HR3 := Lib.hid (Hr.out.setRow (lamS t (l : Int)))
          have HB3 := Lib.hid (below_setRowT HBw.out (Nat.le_refl _) (rtA (lamS t (l : Int))))
          refine bodyPost_ret (v := .tuple #[.agg (rtA (lamS t (l : Int))), .bool true]) ?_ rfl ⟨RtRes.yes ⟨HT.out, Hl.out⟩, HB3.out⟩
          exact results_cell_two (p := 4) (q := 5) rfl _ _ w.heap.size _ rfl (Tryd.load_rt HR3.out)
    · have Hl := Lib.hid hl
      obtain rfl := ha.isnt hl
      clear ha hl
      go_wp2_with (first | (refine wpList_buildT0 rfl 25 rfl _ Tryd.built_rt0 ?_) | (refine wpList_storeG rfl 25 _ _ rfl _ (rtA (0, 0)) _ rfl rfl HR3.out (Tryd.size_rt _) (rt_same _ _) (rt_one _) ?_))
      have HR5 := Lib.hid (HR3.out.setRow (0, 0))
      have HB5 := Lib.hid (below_setRowT HB3.out (Nat.le_refl _) (rtA (0, 0)))
      refine bodyPost_ret (v := .tuple #[.agg (rtA (0, 0)), .bool false]) ?_ rfl ⟨RtRes.no (fun h => Hl.out h.2), HB5.out⟩
      exact results_cell_two (p := 4) (q := 5) rfl _ _ w.heap.size _ rfl (Tryd.load_rt HR5.out)
  · have HT := Lib.hid hT
    clear hT
    obtain rfl := ha.isnt HT.out
    clear ha
    go_wp2_with (first | (refine wpList_buildT0 rfl 25 rfl _ Tryd.built_rt0 ?_) | (refine wpList_storeG rfl 25 _ _ rfl _ (rtA (0, 0)) _ rfl rfl HR2.out (Tryd.size_rt _) (rt_same _ _) (rt_one _) ?_))
    have HR5 := Lib.hid (HR2.out.setRow (0, 0))
    have HB5 := Lib.hid (below_setRowT HB2.out (Nat.le_refl _) (rtA (0, 0)))
    refine bodyPost_ret (v := .tuple #[.agg (rtA (0, 0)), .bool false]) ?_ rfl ⟨RtRes.no (fun h => HT.out h.1), HB5.out⟩
    exact results_cell_two (p := 4) (q := 5) rfl _ _ w.heap.size _ rfl (Tryd.load_rt HR5.out)
end Go.Proofs.YtmonhmbnbhaemaaDoor

