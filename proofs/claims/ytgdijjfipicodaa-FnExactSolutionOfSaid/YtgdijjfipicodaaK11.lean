/- Parts of proofs: contracts and plain facts. Conditions: as each says. -/
import Derived.Test.YtgdijjfipicodaaK10
import Derived.Deep.RegionHeld3
namespace Go.Proofs.Ytgdijjfipicodaa
open Go.RowKit

theorem RtAt.away {w : World} {g : Nat} {a : Nat × Nat} (h : RtAt w g a) {p : Addr} (hp : g ≠ p.block) (u : Value) : RtAt (w.setCell p u) g a := by
  unfold RtAt
  rw [heap_setCell_other w p g u hp]
  exact h

set_option maxRecDepth 100000 in
set_option maxHeartbeats 1600000 in
theorem takeOut_any (m : List (List (Nat × Nat))) (B g N last : Nat) (rw' : Nat → Nat) (w : World) (hN : N ≤ 14) (h1 : 1 ≤ last) (hl : last < N) (hok : okT N m = true) (hokl : okL m last = true) (hsm : ∀ c, c < last → SmQ (partQ m last c)) (ht : Tq w B g N N rw' (fun r c => gq (gqr m r) c)) :
    Calls Try.prog 101 #[.slice (some ⟨g, 0, none⟩) N N, .int .i64 (last : Int)] w fun e w' => e = .returned (.tuple #[]) ∧ Tq w' B g N N rw' (tkF m last last 0) ∧ Below B w w' := by
  have HO := Lib.hid (fun r c (hr : r < N) (hc : c < N) => okT_is hok hr hc)
  have HL := Lib.hid (okL_is hokl)
  have Hsm := Lib.hid hsm
  have Ht := Lib.hid ht
  have hNm : N ≤ 9223372036854775807 := by omega
  have Hlt := Lib.hid (show B ≤ w.heap.size by have := ht.lt; omega)
  clear hok hokl hsm ht
  go_enter Try.func101, Try.ntmps101
  go_wp2_with fail
  refine (whole_any 0 w).mono ?_
  rintro e w1 ⟨rfl, hb⟩
  have HB1 := Lib.hid (hb.mono Hlt.out)
  have Ht1 := Lib.hid (Ht.out.below hb)
  clear hb Ht
  go_upto_region 1 with (first | (refine wpList_allocT rfl 52 rfl _ _ Try.info_rt ?_) | (refine wpList_storeT rfl 52 _ _ rfl (rtA (0, 1)) (rtA (0, 0)) w1.heap.size rfl rfl rfl (Try.size_rt _) (rt_same _ _) (rt_one _) ?_))
  generalize hW : World.alloc w1 _ = w2
  have hR : RtAt w2 w1.heap.size (leaQ m last 0) := by rw [← hW]; exact RtAt.new w1 (0, 1)
  have hb2 : Below w1.heap.size w1 w2 := by rw [← hW]; exact (Below.refl _ w1).alloc (Nat.le_refl _) _
  have ht2 := Ht1.out.below hb2
  obtain ⟨H, hH⟩ : ∃ H, H = w1.heap.size := ⟨_, rfl⟩
  rw [← hH] at hR ⊢
  have HHr := Lib.hid (show (∀ i, i < N → H ≠ rw' i) ∧ H ≠ g ∧ B ≤ H from ⟨fun i hi => by have := (Ht1.out.base i hi).2.2; omega, by have := Ht1.out.lt.2; omega, by have := Ht1.out.lt; omega⟩)
  have HR := Lib.hid hR
  have HT2 := Lib.hid ht2
  have HB2 := Lib.hid (HB1.out.trans (hb2.mono (by have := HHr.out.2.2; omega)))
  clear hW hR hb2 ht2 hH HB1 Ht1
  go_wp2
  go_loopw [11] (fun x wr => ∃ r : Nat, r ≤ last ∧ x = .int .i64 r ∧ RtAt wr H (leaQ m last r) ∧ Tq wr B g N N rw' (fun r c => gq (gqr m r) c) ∧ Below B w wr) (fun x _ => last - (intOf x).toNat)
  case atStart => exact ⟨0, Nat.zero_le _, rfl, HR.out, HT2.out, HB2.out⟩
  case round =>
    obtain ⟨r, hr, rfl, hc, ht, hbr⟩ := hrel
    have Hc := Lib.hid hc
    have Ht := Lib.hid ht
    have Hbr := Lib.hid hbr
    clear hc ht hbr HR HT2 HB2
    by_cases hrl : r < last
    · have hrN : r < N := by omega
      have CP := Lib.hid ((HL.out.1 r hr).plus (HO.out r last hrN hl))
      have HS := Lib.hid (show leaQ m last (r + 1) = pl (leaQ m last r) (gq (gqr m r) last) from rfl)
      have c0 := Hc.out.c0
      have c1 := Hc.out.c1
      have d0 := Ht.out.top r hrN
      have d1 := Ht.out.num r last hrN hl
      have d2 := Ht.out.den r last hrN hl
      obtain ⟨⟨A1, A2⟩, hA⟩ : ∃ A, A = leaQ m last r := ⟨_, rfl⟩
      obtain ⟨⟨P1, P2⟩, hP⟩ : ∃ P, P = gq (gqr m r) last := ⟨_, rfl⟩
      simp only [← hA, ← hP] at CP HS c0 c1 d1 d2
      obtain ⟨⟨U1, U2⟩, hU⟩ : ∃ U, U = pl (A1, A2) (P1, P2) := ⟨_, rfl⟩
      rw [← hU] at CP HS
      have CP2 : ∀ wx, Calls Try.prog 121 #[.agg #[.int .i64 (A1 : Int), .int .i64 (A2 : Int)], .agg #[.int .i64 (P1 : Int), .int .i64 (P2 : Int)]] wx fun e w' => e = .returned (.agg #[.int .i64 (U1 : Int), .int .i64 (U2 : Int)]) ∧ Below wx.heap.size wx w' := CP.out
      have KP := Lib.hid CP2
      obtain ⟨R, hR⟩ : ∃ R, R = rw' r := ⟨_, rfl⟩
      rw [← hR] at d0 d1 d2
      have hfacts : ∀ w'', Below wr.heap.size wr w'' → w''.cell? ⟨H, 0, none⟩ = some (.int .i64 (A1 : Int)) ∧ w''.cell? ⟨H, 1, none⟩ = some (.int .i64 (A2 : Int)) ∧ w''.frozen? ⟨H, 0, none⟩ = false ∧ w''.frozen? ⟨H, 1, none⟩ = false ∧ w''.cell? ⟨g, r, none⟩ = some (.slice (some ⟨R, 0, none⟩) N N) ∧ w''.cell? ⟨R, last * 2, none⟩ = some (.int .i64 (P1 : Int)) ∧ w''.cell? ⟨R, last * 2 + 1, none⟩ = some (.int .i64 (P2 : Int)) := fun w'' hb =>
        ⟨cell_below c0 hb, cell_below c1 hb, frozen_of_row w'' H 0 _ _ (Hc.out.below hb), frozen_of_row w'' H 1 _ _ (Hc.out.below hb), cell_below d0 hb, cell_below d1 hb, cell_below d2 hb⟩
      have Hfacts := Lib.hid hfacts
      have HBc := Lib.hid (show Below wr.heap.size wr wr.drew from below_drewN (Below.refl _ _) 1)
      have HBz := Lib.hid (show B ≤ wr.heap.size by have := Ht.out.lt; omega)
      clear CP CP2 c0 c1 d0 d1 d2 hA hP hU hR hfacts
      have ⟨q0, q1, q2, q3, q4, q5, q6⟩ := Hfacts.out wr (Below.refl _ _)
      go_wp2
      go_region_with (go_at_call 121; refine (KP.out _).mono ?_; rintro e w6 ⟨rfl, hb6⟩; have HBd := Lib.hid (HBc.out.trans (hb6.mono HBc.out.size)); clear hb6 HBc; have HBc := HBd; clear HBd; obtain ⟨r0, r1, r2, r3, r4, r5, r6⟩ := Hfacts.out _ HBc.out)
      all_goals
        have HCn := Lib.hid ((Hc.out.below HBc.out).put U1 U2)
        have HTn := Lib.hid (((Ht.out.below HBc.out).other (a := ⟨H, 0, none⟩) HHr.out.2.1 HHr.out.1 (.int .i64 (U1 : Int))).other (a := ⟨H, 1, none⟩) HHr.out.2.1 HHr.out.1 (.int .i64 (U2 : Int)))
        have HBn := Lib.hid (((Hbr.out.trans (HBc.out.mono HBz.out)).setCell (p := ⟨H, 0, none⟩) HHr.out.2.2 (.int .i64 (U1 : Int))).setCell (p := ⟨H, 1, none⟩) HHr.out.2.2 (.int .i64 (U2 : Int)))
        clear q0 q1 q2 q3 q4 q5 q6 r0 r1 r2 r3 r4 r5 r6 KP Hfacts
        go_wp2
        go_roundw
        case rel => exact ⟨r + 1, by omega, by go_num, by rw [HS.out]; exact HCn.out, HTn.out, HBn.out⟩
        case measure => simp [intOf]; omega
    · obtain rfl : r = last := by omega
      have Ht := Lib.hid (show Tq wr B g N N rw' (tkF m r 0 0) by rw [tkF_start]; exact Ht.out)
      go_wp2
      go_loopw [25] (fun x wq => ∃ a : Nat, a ≤ r ∧ x = .int .i64 a ∧ RtAt wq H (leaQ m r r) ∧ Tq wq B g N N rw' (tkF m r a 0) ∧ Below B w wq) (fun x _ => r - (intOf x).toNat)
      case atStart => exact ⟨0, Nat.zero_le _, rfl, Hc.out, Ht.out, Hbr.out⟩
      case round =>
        rename World => wq
        obtain ⟨a, ha, rfl, hc, ht, hbq⟩ := hrel
        have Hc2 := Lib.hid hc
        have Ht2 := Lib.hid ht
        have Hbq := Lib.hid hbq
        clear hc ht hbq Hc Ht Hbr
        by_cases har : a < r
        · have haN : a < N := by omega
          have CV := Lib.hid ((HO.out r a hl haN).over (HL.out.1 r (Nat.le_refl _)) HL.out.2)
          have HP := Lib.hid (show ov (gq (gqr m r) a) (leaQ m r r) = partQ m r a from rfl)
          have c0 := Hc2.out.c0
          have c1 := Hc2.out.c1
          have d0 := Ht2.out.top r hl
          have d1 := Ht2.out.num r a hl haN
          have d2 := Ht2.out.den r a hl haN
          rw [tkF_low] at d1 d2
          rw [HP.out] at CV
          obtain ⟨⟨A1, A2⟩, hA⟩ : ∃ A, A = leaQ m r r := ⟨_, rfl⟩
          obtain ⟨⟨P1, P2⟩, hP⟩ : ∃ P, P = gq (gqr m r) a := ⟨_, rfl⟩
          obtain ⟨⟨U1, U2⟩, hU⟩ : ∃ U, U = partQ m r a := ⟨_, rfl⟩
          simp only [← hA, ← hP] at CV c0 c1 d1 d2
          rw [← hU] at CV
          have HU := Lib.hid hU
          have CV2 : ∀ wx, Calls Try.prog 122 #[.agg #[.int .i64 (P1 : Int), .int .i64 (P2 : Int)], .agg #[.int .i64 (A1 : Int), .int .i64 (A2 : Int)]] wx fun e w' => e = .returned (.agg #[.int .i64 (U1 : Int), .int .i64 (U2 : Int)]) ∧ Below wx.heap.size wx w' := CV.out
          have KV := Lib.hid CV2
          obtain ⟨R, hR⟩ : ∃ R, R = rw' r := ⟨_, rfl⟩
          rw [← hR] at d0 d1 d2
          have hfacts : ∀ w'', Below wq.heap.size wq w'' → w''.cell? ⟨H, 0, none⟩ = some (.int .i64 (A1 : Int)) ∧ w''.cell? ⟨H, 1, none⟩ = some (.int .i64 (A2 : Int)) ∧ w''.cell? ⟨g, r, none⟩ = some (.slice (some ⟨R, 0, none⟩) N N) ∧ w''.cell? ⟨R, a * 2, none⟩ = some (.int .i64 (P1 : Int)) ∧ w''.cell? ⟨R, a * 2 + 1, none⟩ = some (.int .i64 (P2 : Int)) := fun w'' hb =>
            ⟨cell_below c0 hb, cell_below c1 hb, cell_below d0 hb, cell_below d1 hb, cell_below d2 hb⟩
          have Hfacts := Lib.hid hfacts
          have HBc := Lib.hid (show Below wq.heap.size wq wq.drew from below_drewN (Below.refl _ _) 1)
          have HBz := Lib.hid (show B ≤ wq.heap.size by have := Ht2.out.lt; omega)
          clear CV CV2 HP c0 c1 d0 d1 d2 hA hP hU hR hfacts
          have ⟨q0, q1, q2, q3, q4⟩ := Hfacts.out wq (Below.refl _ _)
          go_wp2
          have HBa := Lib.hid (show Below wq.heap.size wq (wq.alloc (.cells #[.int .i64 0, .int .i64 0] 52)).drew from below_drewN ((Below.refl _ _).alloc (Nat.le_refl _) _) 1)
          have HNew := Lib.hid (show RtAt (wq.alloc (.cells #[.int .i64 0, .int .i64 0] 52)).drew wq.heap.size (0, 0) from RtAt.new wq (0, 0))
          refine Code.wp_mono (Q := Exit.then (fun a' w' => ∃ K : Nat, a' = (⟨#[.slice (some ⟨g, 0, none⟩) N N, .int .i64 (r : Int), undef, undef, .pointer (some ⟨H, 0, none⟩), u5, .int .i64 (a : Int), .pointer (some ⟨K, 0, none⟩), u8, .agg (rtA (0, 1)), .int .i64 (r : Int), .int .i64 (r : Int), .bool false, u13, u14, u15, u16, u17, u18, u19, u20, u21, u22, u23, .int .i64 (r : Int), .int .i64 (a : Int), .bool true, .int .i64 (a : Int), .slice (some ⟨g, 0, none⟩) N N, .int .i64 (r : Int), .pointer (some ⟨g, r, none⟩), .slice (some ⟨R, 0, none⟩) N N, .int .i64 (a : Int), .pointer (some ⟨R, a * 2, none⟩), .agg #[.int .i64 (P1 : Int), .int .i64 (P2 : Int)], .agg #[.int .i64 (A1 : Int), .int .i64 (A2 : Int)], .agg #[.int .i64 (U1 : Int), .int .i64 (U2 : Int)], u37, u38, u39, u40, u41, u42, u43, u44, u45, u46, u47, u48, u49, u50, u51, u52, u53, u54, u55, u56, u57, u58, u59, u60, u61, u62, u63, u64, u65, u66, u67, u68, u69, u70, u71, u72], []⟩ : Act) ∧ wq.heap.size ≤ K ∧ RtAt w' K (U1, U2) ∧ Below wq.heap.size wq w') (fun _ _ _ => False)) ?joined ?_
          case joined =>
            intro e a' w' h
            cases e with
            | normal =>
              obtain ⟨K, rfl, hK, hRK, hbK⟩ := h
              dsimp only
              have HRK := Lib.hid hRK
              have HRH := Lib.hid (Hc2.out.below hbK)
              have HT3 := Lib.hid (Ht2.out.below hbK)
              have HB3 := Lib.hid (Hbq.out.trans (hbK.mono HBz.out))
              have HKr := Lib.hid (show (∀ i, i < N → K ≠ rw' i) ∧ K ≠ g ∧ B ≤ K ∧ H ≠ K from ⟨fun i hi => by have := (Ht2.out.base i hi).2.2; omega, by have := Ht2.out.lt.2; omega, by have := Ht2.out.lt; omega, by have := Hc2.out.lt; omega⟩)
              have HSU := Lib.hid (show SmQ (U1, U2) by have := Hsm.out a har; rw [← HU.out] at this; exact this)
              clear hK hRK hbK Hc2 Ht2 Hbq KV Hfacts HBc q0 q1 q2 q3 q4
              go_wp2
              go_loopw [38] (fun x ws => ∃ b : Nat, b ≤ r ∧ x = .int .i64 b ∧ RtAt ws H (leaQ m r r) ∧ RtAt ws K (U1, U2) ∧ Tq ws B g N N rw' (tkF m r a b) ∧ Below B w ws) (fun x _ => r - (intOf x).toNat)
              case atStart => exact ⟨0, Nat.zero_le _, rfl, HRH.out, HRK.out, HT3.out, HB3.out⟩
              case round =>
                rename World => ws
                obtain ⟨b, hb, rfl, hc, hk, ht, hbs⟩ := hrel
                have Hc3 := Lib.hid hc
                have Hk3 := Lib.hid hk
                have Ht3 := Lib.hid ht
                have Hbs := Lib.hid hbs
                clear hc hk ht hbs HRK HRH HT3 HB3
                by_cases hbr : b < r
                · have hbN : b < N := by omega
                  have CT := Lib.hid ((HO.out b r hbN hl).times HSU.out)
                  have CP := Lib.hid ((HO.out b a hbN haN).plus2 (tm_bd (HO.out b r hbN hl) HSU.out))
                  have d0 := Ht3.out.top b hbN
                  have e1 := Ht3.out.num b a hbN haN
                  have e2 := Ht3.out.den b a hbN haN
                  have f1 := Ht3.out.num b r hbN hl
                  have f2 := Ht3.out.den b r hbN hl
                  have k0 := Hk3.out.c0
                  have k1 := Hk3.out.c1
                  have g1 := Ht3.out.fr b (a * 2) hbN
                  have g2 := Ht3.out.fr b (a * 2 + 1) hbN
                  have hbase := Ht3.out.base b hbN
                  rw [tkF_old] at e1 e2
                  rw [tkF_last] at f1 f2
                  obtain ⟨⟨L1, L2⟩, hL⟩ : ∃ L, L = gq (gqr m b) r := ⟨_, rfl⟩
                  obtain ⟨⟨P3, P4⟩, hP⟩ : ∃ P, P = gq (gqr m b) a := ⟨_, rfl⟩
                  simp only [← hL, ← hP] at CT CP e1 e2 f1 f2
                  obtain ⟨⟨T1, T2⟩, hT⟩ : ∃ T, T = tm (L1, L2) (U1, U2) := ⟨_, rfl⟩
                  rw [← hT] at CT CP
                  obtain ⟨⟨V1, V2⟩, hV⟩ : ∃ V, V = pl (P3, P4) (T1, T2) := ⟨_, rfl⟩
                  rw [← hV] at CP
                  have HVn := Lib.hid (show newQ m r b a = (V1, V2) by unfold newQ; rw [← hP, ← hL, ← HU.out, ← hT, ← hV])
                  obtain ⟨R2, hR2⟩ : ∃ R2, R2 = rw' b := ⟨_, rfl⟩
                  have HR2 := Lib.hid hR2
                  have hHR := HHr.out.1 b hbN
                  have hKR := HKr.out.1 b hbN
                  rw [← hR2] at d0 e1 e2 f1 f2 g1 g2 hbase hHR hKR
                  have KT : ∀ wx, Calls Try.prog 83 #[.agg #[.int .i64 (L1 : Int), .int .i64 (L2 : Int)], .agg #[.int .i64 (U1 : Int), .int .i64 (U2 : Int)]] wx fun e w' => e = .returned (.agg #[.int .i64 (T1 : Int), .int .i64 (T2 : Int)]) ∧ Below wx.heap.size wx w' := CT.out
                  have KT := Lib.hid KT
                  have KP : ∀ wx, Calls Try.prog 121 #[.agg #[.int .i64 (P3 : Int), .int .i64 (P4 : Int)], .agg #[.int .i64 (T1 : Int), .int .i64 (T2 : Int)]] wx fun e w' => e = .returned (.agg #[.int .i64 (V1 : Int), .int .i64 (V2 : Int)]) ∧ Below wx.heap.size wx w' := CP.out
                  have KP := Lib.hid KP
                  have hsz := hbase.2.2
                  have hf1 : ∀ w'', Below ws.heap.size ws w'' → w''.cell? ⟨g, b, none⟩ = some (.slice (some ⟨R2, 0, none⟩) N N) ∧ w''.cell? ⟨R2, r * 2, none⟩ = some (.int .i64 (L1 : Int)) ∧ w''.cell? ⟨R2, r * 2 + 1, none⟩ = some (.int .i64 (L2 : Int)) ∧ w''.cell? ⟨K, 0, none⟩ = some (.int .i64 (U1 : Int)) ∧ w''.cell? ⟨K, 1, none⟩ = some (.int .i64 (U2 : Int)) := fun w'' hb =>
                    ⟨cell_below d0 hb, cell_below f1 hb, cell_below f2 hb, cell_below k0 hb, cell_below k1 hb⟩
                  have hf2 : ∀ w'', Below ws.heap.size ws w'' → w''.cell? ⟨R2, a * 2, none⟩ = some (.int .i64 (P3 : Int)) ∧ w''.cell? ⟨R2, a * 2 + 1, none⟩ = some (.int .i64 (P4 : Int)) ∧ w''.frozen? ⟨R2, a * 2, none⟩ = false ∧ w''.frozen? ⟨R2, a * 2 + 1, none⟩ = false := fun w'' hb =>
                    ⟨cell_below e1 hb, cell_below e2 hb, frozen_below g1 hsz hb, frozen_below g2 hsz hb⟩
                  have hf3 : ∀ w'', Below ws.heap.size ws w'' → ((w''.setCell ⟨R2, a * 2, none⟩ (.int .i64 (V1 : Int))).setCell ⟨R2, a * 2 + 1, none⟩ (.int .i64 (V2 : Int))).cell? ⟨g, b, none⟩ = some (.slice (some ⟨R2, 0, none⟩) N N) ∧ ((w''.setCell ⟨R2, a * 2, none⟩ (.int .i64 (V1 : Int))).setCell ⟨R2, a * 2 + 1, none⟩ (.int .i64 (V2 : Int))).cell? ⟨R2, r * 2, none⟩ = some (.int .i64 (L1 : Int)) ∧ ((w''.setCell ⟨R2, a * 2, none⟩ (.int .i64 (V1 : Int))).setCell ⟨R2, a * 2 + 1, none⟩ (.int .i64 (V2 : Int))).cell? ⟨R2, r * 2 + 1, none⟩ = some (.int .i64 (L2 : Int)) ∧ ((w''.setCell ⟨R2, a * 2, none⟩ (.int .i64 (V1 : Int))).setCell ⟨R2, a * 2 + 1, none⟩ (.int .i64 (V2 : Int))).cell? ⟨K, 0, none⟩ = some (.int .i64 (U1 : Int)) ∧ ((w''.setCell ⟨R2, a * 2, none⟩ (.int .i64 (V1 : Int))).setCell ⟨R2, a * 2 + 1, none⟩ (.int .i64 (V2 : Int))).cell? ⟨K, 1, none⟩ = some (.int .i64 (U2 : Int)) := fun w'' hb => by
                    obtain ⟨x0, x1, x2, x3, x4⟩ := hf1 w'' hb
                    have hRg := hbase.2.1
                    have oth : ∀ (p q : Nat) (v : Value), w''.cell? ⟨p, q, none⟩ = some v → (p ≠ R2 ∨ (q ≠ a * 2 ∧ q ≠ a * 2 + 1)) → ((w''.setCell ⟨R2, a * 2, none⟩ (.int .i64 (V1 : Int))).setCell ⟨R2, a * 2 + 1, none⟩ (.int .i64 (V2 : Int))).cell? ⟨p, q, none⟩ = some v := fun p q v hv hne => by
                      rw [World.cell?_setCell_other _ _ _ _ (by intro e; simp only [Addr.mk.injEq, and_true] at e; omega), World.cell?_setCell_other _ _ _ _ (by intro e; simp only [Addr.mk.injEq, and_true] at e; omega)]
                      exact hv
                    exact ⟨oth _ _ _ x0 (by omega), oth _ _ _ x1 (by omega), oth _ _ _ x2 (by omega), oth _ _ _ x3 (by omega), oth _ _ _ x4 (by omega)⟩
                  have Hf1 := Lib.hid hf1
                  have Hf2 := Lib.hid hf2
                  have Hf3 := Lib.hid hf3
                  have HHR := Lib.hid hHR
                  have HKR := Lib.hid hKR
                  have HBR := Lib.hid hbase.1
                  have HBc := Lib.hid (show Below ws.heap.size ws ws.drew from below_drewN (Below.refl _ _) 1)
                  have HB0 := Lib.hid (show B ≤ ws.heap.size by have := Ht3.out.lt; omega)
                  clear CT CP d0 e1 e2 f1 f2 k0 k1 g1 g2 hbase hL hP hT hV hR2 hHR hKR hsz hf1 hf2 hf3
                  have ⟨q0, q1, q2, q3⟩ := Hf2.out ws (Below.refl _ _)
                  have ⟨y0, y1, y2, y3, y4⟩ := Hf1.out ws (Below.refl _ _)
                  go_wp2
                  clear y0 y1 y2 y3 y4
                  refine wp_region_held_drew (S := fun w' => w'.cell? ⟨g, b, none⟩ = some (.slice (some ⟨R2, 0, none⟩) N N) ∧ w'.cell? ⟨R2, r * 2, none⟩ = some (.int .i64 (L1 : Int)) ∧ w'.cell? ⟨R2, r * 2 + 1, none⟩ = some (.int .i64 (L2 : Int)) ∧ w'.cell? ⟨K, 0, none⟩ = some (.int .i64 (U1 : Int)) ∧ w'.cell? ⟨K, 1, none⟩ = some (.int .i64 (U2 : Int))) (by kernel_rfl) (Hf1.out _ HBc.out) (fun hHeld => ?_)
                  refine wpAnyH_take (i := 0) (oi := ⟨some 41, _, _, _, _, _⟩) (v := .slice (some ⟨g, 0, none⟩) N N) rfl (by kernel_rfl) (by kernel_rfl) (by kernel_rfl) (fun _ _ _ h => h) (Or.inl ⟨by rfl, ?y1⟩) hHeld ?_
                  case y1 => intro w hSw; (try dsimp only at hSw); go_simp
                  simp only [Act.put, List.setIfInBounds_toArray, List.set_cons_zero, List.set_cons_succ]
                  refine wpAnyH_take (i := 1) (oi := ⟨some 42, _, _, _, _, _⟩) (v := .int .i64 (b : Int)) rfl (by kernel_rfl) (by kernel_rfl) (by kernel_rfl) (fun _ _ _ h => h) (Or.inl ⟨by rfl, ?y1⟩) hHeld ?_
                  case y1 => intro w hSw; (try dsimp only at hSw); go_simp
                  simp only [Act.put, List.setIfInBounds_toArray, List.set_cons_zero, List.set_cons_succ]
                  refine wpAnyH_take (i := 2) (oi := ⟨some 43, _, _, _, _, _⟩) (v := .pointer (some ⟨g, b, none⟩)) rfl (by kernel_rfl) (by kernel_rfl) (by kernel_rfl) (fun _ _ _ h => h) (Or.inl ⟨by rfl, ?y1⟩) hHeld ?_
                  case y1 => intro w hSw; (try dsimp only at hSw); go_simp
                  simp only [Act.put, List.setIfInBounds_toArray, List.set_cons_zero, List.set_cons_succ]
                  refine wpAnyH_take (i := 3) (oi := ⟨some 44, _, _, _, _, _⟩) (v := .slice (some ⟨R2, 0, none⟩) N N) rfl (by kernel_rfl) (by kernel_rfl) (by kernel_rfl) (fun _ _ _ h => h) (Or.inl ⟨by rfl, ?y1⟩) hHeld ?_
                  case y1 => intro w hSw; (try dsimp only at hSw); go_simp
                  simp only [Act.put, List.setIfInBounds_toArray, List.set_cons_zero, List.set_cons_succ]
                  refine wpAnyH_take (i := 4) (oi := ⟨some 45, _, _, _, _, _⟩) (v := .int .i64 (a : Int)) rfl (by kernel_rfl) (by kernel_rfl) (by kernel_rfl) (fun _ _ _ h => h) (Or.inl ⟨by rfl, ?y1⟩) hHeld ?_
                  case y1 => intro w hSw; (try dsimp only at hSw); go_simp
                  simp only [Act.put, List.setIfInBounds_toArray, List.set_cons_zero, List.set_cons_succ]
                  refine wpAnyH_take (i := 5) (oi := ⟨some 46, _, _, _, _, _⟩) (v := .slice (some ⟨g, 0, none⟩) N N) rfl (by kernel_rfl) (by kernel_rfl) (by kernel_rfl) (fun _ _ _ h => h) (Or.inl ⟨by rfl, ?y1⟩) hHeld ?_
                  case y1 => intro w hSw; (try dsimp only at hSw); go_simp
                  simp only [Act.put, List.setIfInBounds_toArray, List.set_cons_zero, List.set_cons_succ]
                  refine wpAnyH_take (i := 6) (oi := ⟨some 47, _, _, _, _, _⟩) (v := .int .i64 (b : Int)) rfl (by kernel_rfl) (by kernel_rfl) (by kernel_rfl) (fun _ _ _ h => h) (Or.inl ⟨by rfl, ?y1⟩) hHeld ?_
                  case y1 => intro w hSw; (try dsimp only at hSw); go_simp
                  simp only [Act.put, List.setIfInBounds_toArray, List.set_cons_zero, List.set_cons_succ]
                  refine wpAnyH_take (i := 7) (oi := ⟨some 48, _, _, _, _, _⟩) (v := .pointer (some ⟨g, b, none⟩)) rfl (by kernel_rfl) (by kernel_rfl) (by kernel_rfl) (fun _ _ _ h => h) (Or.inl ⟨by rfl, ?y1⟩) hHeld ?_
                  case y1 => intro w hSw; (try dsimp only at hSw); go_simp
                  simp only [Act.put, List.setIfInBounds_toArray, List.set_cons_zero, List.set_cons_succ]
                  refine wpAnyH_take (i := 8) (oi := ⟨some 49, _, _, _, _, _⟩) (v := .slice (some ⟨R2, 0, none⟩) N N) rfl (by kernel_rfl) (by kernel_rfl) (by kernel_rfl) (fun _ _ _ h => h) (Or.inl ⟨by rfl, ?y1⟩) hHeld ?_
                  case y1 => intro w hSw; (try dsimp only at hSw); go_simp
                  simp only [Act.put, List.setIfInBounds_toArray, List.set_cons_zero, List.set_cons_succ]
                  refine wpAnyH_take (i := 9) (oi := ⟨some 50, _, _, _, _, _⟩) (v := .int .i64 (a : Int)) rfl (by kernel_rfl) (by kernel_rfl) (by kernel_rfl) (fun _ _ _ h => h) (Or.inl ⟨by rfl, ?y1⟩) hHeld ?_
                  case y1 => intro w hSw; (try dsimp only at hSw); go_simp
                  simp only [Act.put, List.setIfInBounds_toArray, List.set_cons_zero, List.set_cons_succ]
                  refine wpAnyH_take (i := 10) (oi := ⟨some 51, _, _, _, _, _⟩) (v := .pointer (some ⟨R2, a * 2, none⟩)) rfl (by kernel_rfl) (by kernel_rfl) (by kernel_rfl) (fun _ _ _ h => h) (Or.inl ⟨by rfl, ?y1⟩) hHeld ?_
                  case y1 => intro w hSw; (try dsimp only at hSw); go_simp
                  simp only [Act.put, List.setIfInBounds_toArray, List.set_cons_zero, List.set_cons_succ]
                  refine wpAnyH_take (i := 12) (oi := ⟨some 53, _, _, _, _, _⟩) (v := .slice (some ⟨g, 0, none⟩) N N) rfl (by kernel_rfl) (by kernel_rfl) (by kernel_rfl) (fun _ _ _ h => h) (Or.inl ⟨by rfl, ?y1⟩) hHeld ?_
                  case y1 => intro w hSw; (try dsimp only at hSw); go_simp
                  simp only [Act.put, List.setIfInBounds_toArray, List.set_cons_zero, List.set_cons_succ]
                  refine wpAnyH_take (i := 13) (oi := ⟨some 54, _, _, _, _, _⟩) (v := .int .i64 (b : Int)) rfl (by kernel_rfl) (by kernel_rfl) (by kernel_rfl) (fun _ _ _ h => h) (Or.inl ⟨by rfl, ?y1⟩) hHeld ?_
                  case y1 => intro w hSw; (try dsimp only at hSw); go_simp
                  simp only [Act.put, List.setIfInBounds_toArray, List.set_cons_zero, List.set_cons_succ]
                  refine wpAnyH_take (i := 14) (oi := ⟨some 55, _, _, _, _, _⟩) (v := .pointer (some ⟨g, b, none⟩)) rfl (by kernel_rfl) (by kernel_rfl) (by kernel_rfl) (fun _ _ _ h => h) (Or.inl ⟨by rfl, ?y1⟩) hHeld ?_
                  case y1 => intro w hSw; (try dsimp only at hSw); go_simp
                  simp only [Act.put, List.setIfInBounds_toArray, List.set_cons_zero, List.set_cons_succ]
                  refine wpAnyH_take (i := 15) (oi := ⟨some 56, _, _, _, _, _⟩) (v := .slice (some ⟨R2, 0, none⟩) N N) rfl (by kernel_rfl) (by kernel_rfl) (by kernel_rfl) (fun _ _ _ h => h) (Or.inl ⟨by rfl, ?y1⟩) hHeld ?_
                  case y1 => intro w hSw; (try dsimp only at hSw); go_simp
                  simp only [Act.put, List.setIfInBounds_toArray, List.set_cons_zero, List.set_cons_succ]
                  refine wpAnyH_take (i := 16) (oi := ⟨some 57, _, _, _, _, _⟩) (v := .int .i64 (r : Int)) rfl (by kernel_rfl) (by kernel_rfl) (by kernel_rfl) (fun _ _ _ h => h) (Or.inl ⟨by rfl, ?y1⟩) hHeld ?_
                  case y1 => intro w hSw; (try dsimp only at hSw); go_simp
                  simp only [Act.put, List.setIfInBounds_toArray, List.set_cons_zero, List.set_cons_succ]
                  refine wpAnyH_take (i := 17) (oi := ⟨some 58, _, _, _, _, _⟩) (v := .pointer (some ⟨R2, r * 2, none⟩)) rfl (by kernel_rfl) (by kernel_rfl) (by kernel_rfl) (fun _ _ _ h => h) (Or.inl ⟨by rfl, ?y1⟩) hHeld ?_
                  case y1 => intro w hSw; (try dsimp only at hSw); go_simp
                  simp only [Act.put, List.setIfInBounds_toArray, List.set_cons_zero, List.set_cons_succ]
                  refine wpAnyH_take (i := 18) (oi := ⟨some 59, _, _, _, _, _⟩) (v := .agg #[.int .i64 (L1 : Int), .int .i64 (L2 : Int)]) rfl (by kernel_rfl) (by kernel_rfl) (by kernel_rfl) (fun _ _ _ h => h) (Or.inl ⟨by rfl, ?y1⟩) hHeld ?_
                  case y1 => intro w hSw; (try dsimp only at hSw); go_simp
                  simp only [Act.put, List.setIfInBounds_toArray, List.set_cons_zero, List.set_cons_succ]
                  refine wpAnyH_take (i := 19) (oi := ⟨some 60, _, _, _, _, _⟩) (v := .agg #[.int .i64 (U1 : Int), .int .i64 (U2 : Int)]) rfl (by kernel_rfl) (by kernel_rfl) (by kernel_rfl) (fun _ _ _ h => h) (Or.inl ⟨by rfl, ?y1⟩) hHeld ?_
                  case y1 => intro w hSw; (try dsimp only at hSw); go_simp
                  simp only [Act.put, List.setIfInBounds_toArray, List.set_cons_zero, List.set_cons_succ]
                  refine wpAnyH_ready (rs := [11, 20]) (by kernel_rfl) (by simp) (AllReadyH.cons (o := ⟨some 52, _, _, _, _, _⟩) rfl (fun KK hKK => ?_) (AllReadyH.cons (o := ⟨some 61, _, _, _, _, _⟩) rfl (fun KK hKK => ?_) AllReadyH.nil))
                  · skip
                    rw [if_pos (by rfl)]
                    have Hheld := Lib.hid hHeld
                    clear hHeld
                    go_simp
                    refine hKK.out _ _ Hheld.out (fun hHeld => ?_)
                    clear Hheld hKK KK
                    (try simp only [Act.put, List.setIfInBounds_toArray, List.set_cons_zero, List.set_cons_succ])
                    refine wpAnyH_ready (rs := [20]) (by kernel_rfl) (by simp) (AllReadyH.cons (o := ⟨some 61, _, _, _, _, _⟩) rfl (fun KK hKK => ?_) AllReadyH.nil)
                    rw [if_pos (by rfl)]
                    have Hheld := Lib.hid hHeld
                    clear hHeld
                    go_wp2_with (go_at_call 83; refine (KT.out _).mono ?_; rintro e w6 ⟨rfl, hb6⟩; have HBd := Lib.hid (HBc.out.trans (hb6.mono HBc.out.size)); clear hb6 HBc; have HBc := HBd; clear HBd; obtain ⟨r0, r1, r2, r3⟩ := Hf2.out _ HBc.out)
                    refine hKK.out _ _ (Hf1.out _ HBc.out) (fun hHeld => ?_)
                    clear Hheld hKK KK
                    (try simp only [Act.put, List.setIfInBounds_toArray, List.set_cons_zero, List.set_cons_succ])
                    refine wpAnyH_ready (rs := [21]) (by kernel_rfl) (by simp) (AllReadyH.cons (o := ⟨some 62, _, _, _, _, _⟩) rfl (fun KK hKK => ?_) AllReadyH.nil)
                    rw [if_pos (by rfl)]
                    have Hheld := Lib.hid hHeld
                    clear hHeld
                    go_wp2_with (go_at_call 121; refine (KP.out _).mono ?_; rintro e w6 ⟨rfl, hb6⟩; have HBd := Lib.hid (HBc.out.trans (hb6.mono HBc.out.size)); clear hb6 HBc; have HBc := HBd; clear HBd; obtain ⟨r0, r1, r2, r3⟩ := Hf2.out _ HBc.out)
                    refine hKK.out _ _ (Hf1.out _ HBc.out) (fun hHeld => ?_)
                    clear Hheld hKK KK
                    (try simp only [Act.put, List.setIfInBounds_toArray, List.set_cons_zero, List.set_cons_succ])
                    refine wpAnyH_take (i := 22) (oi := ⟨some 63, _, _, _, _, _⟩) (v := .pointer (some ⟨R2, a * 2, none⟩)) rfl (by kernel_rfl) (by kernel_rfl) (by kernel_rfl) (fun _ _ _ h => h) (Or.inl ⟨by rfl, ?y1⟩) hHeld ?_
                    case y1 => intro w hSw; (try dsimp only at hSw); go_simp
                    simp only [Act.put, List.setIfInBounds_toArray, List.set_cons_zero, List.set_cons_succ]
                    refine wpAnyH_ready (rs := [23]) (by kernel_rfl) (by simp) (AllReadyH.cons (o := ⟨none, _, _, _, _, _⟩) rfl (fun KK hKK => ?_) AllReadyH.nil)
                    rw [if_pos (by rfl)]
                    clear hHeld
                    go_simp
                    refine hKK.out _ _ (Hf3.out _ HBc.out) (fun hHeld => ?_)
                    clear hHeld hKK KK
                    (try simp only [Act.put, List.setIfInBounds_toArray, List.set_cons_zero, List.set_cons_succ])
                    refine wpAnyH_done (by kernel_rfl) ?_ _
                    have HTn := Lib.hid (show Tq ((w6.setCell ⟨R2, a * 2, none⟩ (.int .i64 (V1 : Int))).setCell ⟨R2, a * 2 + 1, none⟩ (.int .i64 (V2 : Int))) B g N N rw' (tkF m r a (b + 1)) by
                      rw [← tkF_step har hbr, HVn.out, HR2.out]
                      exact (Ht3.out.below HBc.out).store hbN haN V1 V2)
                    have HCn := Lib.hid (((Hc3.out.below HBc.out).away (p := ⟨R2, a * 2, none⟩) HHR.out (.int .i64 (V1 : Int))).away (p := ⟨R2, a * 2 + 1, none⟩) HHR.out (.int .i64 (V2 : Int)))
                    have HKn := Lib.hid (((Hk3.out.below HBc.out).away (p := ⟨R2, a * 2, none⟩) HKR.out (.int .i64 (V1 : Int))).away (p := ⟨R2, a * 2 + 1, none⟩) HKR.out (.int .i64 (V2 : Int)))
                    have HBn := Lib.hid (((Hbs.out.trans (HBc.out.mono HB0.out)).setCell (p := ⟨R2, a * 2, none⟩) HBR.out (.int .i64 (V1 : Int))).setCell (p := ⟨R2, a * 2 + 1, none⟩) HBR.out (.int .i64 (V2 : Int)))
                    clear KT KP Hf1 Hf2 Hf3 HBc
                    go_wp2
                    go_roundw
                    case rel => exact ⟨b + 1, by omega, by go_num, HCn.out, HKn.out, HTn.out, HBn.out⟩
                    case measure => simp [intOf]; omega
                  · skip
                    rw [if_pos (by rfl)]
                    have Hheld := Lib.hid hHeld
                    clear hHeld
                    go_wp2_with (go_at_call 83; refine (KT.out _).mono ?_; rintro e w6 ⟨rfl, hb6⟩; have HBd := Lib.hid (HBc.out.trans (hb6.mono HBc.out.size)); clear hb6 HBc; have HBc := HBd; clear HBd; obtain ⟨r0, r1, r2, r3⟩ := Hf2.out _ HBc.out)
                    refine hKK.out _ _ (Hf1.out _ HBc.out) (fun hHeld => ?_)
                    clear Hheld hKK KK
                    (try simp only [Act.put, List.setIfInBounds_toArray, List.set_cons_zero, List.set_cons_succ])
                    refine wpAnyH_ready (rs := [11]) (by kernel_rfl) (by simp) (AllReadyH.cons (o := ⟨some 52, _, _, _, _, _⟩) rfl (fun KK hKK => ?_) AllReadyH.nil)
                    rw [if_pos (by rfl)]
                    have Hheld := Lib.hid hHeld
                    clear hHeld
                    go_simp
                    refine hKK.out _ _ Hheld.out (fun hHeld => ?_)
                    clear Hheld hKK KK
                    (try simp only [Act.put, List.setIfInBounds_toArray, List.set_cons_zero, List.set_cons_succ])
                    refine wpAnyH_ready (rs := [21]) (by kernel_rfl) (by simp) (AllReadyH.cons (o := ⟨some 62, _, _, _, _, _⟩) rfl (fun KK hKK => ?_) AllReadyH.nil)
                    rw [if_pos (by rfl)]
                    have Hheld := Lib.hid hHeld
                    clear hHeld
                    go_wp2_with (go_at_call 121; refine (KP.out _).mono ?_; rintro e w6 ⟨rfl, hb6⟩; have HBd := Lib.hid (HBc.out.trans (hb6.mono HBc.out.size)); clear hb6 HBc; have HBc := HBd; clear HBd; obtain ⟨r0, r1, r2, r3⟩ := Hf2.out _ HBc.out)
                    refine hKK.out _ _ (Hf1.out _ HBc.out) (fun hHeld => ?_)
                    clear Hheld hKK KK
                    (try simp only [Act.put, List.setIfInBounds_toArray, List.set_cons_zero, List.set_cons_succ])
                    refine wpAnyH_take (i := 22) (oi := ⟨some 63, _, _, _, _, _⟩) (v := .pointer (some ⟨R2, a * 2, none⟩)) rfl (by kernel_rfl) (by kernel_rfl) (by kernel_rfl) (fun _ _ _ h => h) (Or.inl ⟨by rfl, ?y1⟩) hHeld ?_
                    case y1 => intro w hSw; (try dsimp only at hSw); go_simp
                    simp only [Act.put, List.setIfInBounds_toArray, List.set_cons_zero, List.set_cons_succ]
                    refine wpAnyH_ready (rs := [23]) (by kernel_rfl) (by simp) (AllReadyH.cons (o := ⟨none, _, _, _, _, _⟩) rfl (fun KK hKK => ?_) AllReadyH.nil)
                    rw [if_pos (by rfl)]
                    clear hHeld
                    go_simp
                    refine hKK.out _ _ (Hf3.out _ HBc.out) (fun hHeld => ?_)
                    clear hHeld hKK KK
                    (try simp only [Act.put, List.setIfInBounds_toArray, List.set_cons_zero, List.set_cons_succ])
                    refine wpAnyH_done (by kernel_rfl) ?_ _
                    have HTn := Lib.hid (show Tq ((w6.setCell ⟨R2, a * 2, none⟩ (.int .i64 (V1 : Int))).setCell ⟨R2, a * 2 + 1, none⟩ (.int .i64 (V2 : Int))) B g N N rw' (tkF m r a (b + 1)) by
                      rw [← tkF_step har hbr, HVn.out, HR2.out]
                      exact (Ht3.out.below HBc.out).store hbN haN V1 V2)
                    have HCn := Lib.hid (((Hc3.out.below HBc.out).away (p := ⟨R2, a * 2, none⟩) HHR.out (.int .i64 (V1 : Int))).away (p := ⟨R2, a * 2 + 1, none⟩) HHR.out (.int .i64 (V2 : Int)))
                    have HKn := Lib.hid (((Hk3.out.below HBc.out).away (p := ⟨R2, a * 2, none⟩) HKR.out (.int .i64 (V1 : Int))).away (p := ⟨R2, a * 2 + 1, none⟩) HKR.out (.int .i64 (V2 : Int)))
                    have HBn := Lib.hid (((Hbs.out.trans (HBc.out.mono HB0.out)).setCell (p := ⟨R2, a * 2, none⟩) HBR.out (.int .i64 (V1 : Int))).setCell (p := ⟨R2, a * 2 + 1, none⟩) HBR.out (.int .i64 (V2 : Int)))
                    clear KT KP Hf1 Hf2 Hf3 HBc
                    go_wp2
                    go_roundw
                    case rel => exact ⟨b + 1, by omega, by go_num, HCn.out, HKn.out, HTn.out, HBn.out⟩
                    case measure => simp [intOf]; omega
                · obtain rfl : r = b := by omega
                  have d0 := Ht3.out.top r hl
                  have e1 := Ht3.out.num r a hl haN
                  have e2 := Ht3.out.den r a hl haN
                  have k0 := Hk3.out.c0
                  have k1 := Hk3.out.c1
                  have g1 := Ht3.out.fr r (a * 2) hl
                  have g2 := Ht3.out.fr r (a * 2 + 1) hl
                  rw [tkF_low] at e1 e2
                  obtain ⟨R2, hR2⟩ : ∃ R2, R2 = rw' r := ⟨_, rfl⟩
                  have HR2 := Lib.hid hR2
                  have HHR := Lib.hid (HHr.out.1 r hl)
                  have HBR := Lib.hid (Ht3.out.base r hl).1
                  rw [← hR2] at d0 e1 e2 g1 g2 HHR HBR
                  clear hR2
                  have HTn := Lib.hid (show Tq ((ws.drew.setCell ⟨R2, a * 2, none⟩ (.int .i64 (U1 : Int))).setCell ⟨R2, a * 2 + 1, none⟩ (.int .i64 (U2 : Int))) B g N N rw' (tkF m r (a + 1) 0) by
                    rw [← tkF_part har, ← HU.out, HR2.out]
                    exact Ht3.out.drew.store hl haN U1 U2)
                  have HCn := Lib.hid (((Hc3.out.below (below_drewN (Below.refl _ _) 1)).away (p := ⟨R2, a * 2, none⟩) HHR.out (.int .i64 (U1 : Int))).away (p := ⟨R2, a * 2 + 1, none⟩) HHR.out (.int .i64 (U2 : Int)))
                  have HBn := Lib.hid (((Hbs.out.trans (below_drewN (Below.refl _ ws) 1)).setCell (p := ⟨R2, a * 2, none⟩) HBR.out (.int .i64 (U1 : Int))).setCell (p := ⟨R2, a * 2 + 1, none⟩) HBR.out (.int .i64 (U2 : Int)))
                  go_wp2
                  go_region
                  all_goals
                    clear d0 e1 e2 k0 k1 g1 g2
                    go_wp2
                    go_roundw
                    case rel => exact ⟨a + 1, by omega, by go_num, HCn.out, HTn.out, HBn.out⟩
                    case measure => simp [intOf]; omega
            | _ => exact (h : False).elim
          obtain ⟨s0, s1, s2, s3, s4⟩ := Hfacts.out (wq.alloc (.cells #[.int .i64 0, .int .i64 0] 52)) ((Below.refl _ _).alloc (Nat.le_refl _) _)
          go_region_with (go_at_call 122; first | ((refine (KV.out _).mono ?_; rintro e w6 ⟨rfl, hb6⟩; have HBd := Lib.hid (HBa.out.trans (hb6.mono HBa.out.size)); have HZ6 := Lib.hid (HNew.out.below hb6); have HK := Lib.hid (Nat.le_refl wq.heap.size); clear hb6 HBc; have HBc := HBd; clear HBd; obtain ⟨r0, r1, r2, r3, r4⟩ := Hfacts.out _ HBc.out; have z0 : w6.cell? ⟨wq.heap.size, 0, none⟩ = some (.int .i64 0) := HZ6.out.c0; have z1 : w6.cell? ⟨wq.heap.size, 1, none⟩ = some (.int .i64 0) := HZ6.out.c1; have z2 := frozen_of_row w6 wq.heap.size 0 _ _ HZ6.out; have z3 := frozen_of_row w6 wq.heap.size 1 _ _ HZ6.out)) | (refine (KV.out _).mono ?_; rintro e w6 ⟨rfl, hb6⟩; have HBe := Lib.hid (HBc.out.trans (hb6.mono HBc.out.size)); have HK := Lib.hid (HBe.out.size); have HBd := Lib.hid (HBe.out.alloc HK.out (.cells #[.int .i64 0, .int .i64 0] 52)); have HZ6 := Lib.hid (show RtAt (w6.alloc (.cells #[.int .i64 0, .int .i64 0] 52)) w6.heap.size (0, 0) from RtAt.new w6 (0, 0)); clear hb6 HBc; have HBc := HBd; clear HBd; obtain ⟨r0, r1, r2, r3, r4⟩ := Hfacts.out _ HBc.out; have z0 : (w6.alloc (.cells #[.int .i64 0, .int .i64 0] 52)).cell? ⟨w6.heap.size, 0, none⟩ = some (.int .i64 0) := HZ6.out.c0; have z1 : (w6.alloc (.cells #[.int .i64 0, .int .i64 0] 52)).cell? ⟨w6.heap.size, 1, none⟩ = some (.int .i64 0) := HZ6.out.c1; have z2 := frozen_of_row (w6.alloc (.cells #[.int .i64 0, .int .i64 0] 52)) w6.heap.size 0 _ _ HZ6.out; have z3 := frozen_of_row (w6.alloc (.cells #[.int .i64 0, .int .i64 0] 52)) w6.heap.size 1 _ _ HZ6.out))
          all_goals first
            | exact ⟨_, rfl, Nat.le_refl _, HZ6.out.put U1 U2, (HBc.out.setCell (p := ⟨wq.heap.size, 0, none⟩) (Nat.le_refl _) (.int .i64 (U1 : Int))).setCell (p := ⟨wq.heap.size, 1, none⟩) (Nat.le_refl _) (.int .i64 (U2 : Int))⟩
            | exact ⟨_, rfl, HK.out, RtAt.new w6 (U1, U2), HBe.out.alloc HK.out _⟩
        · obtain rfl : a = r := by omega
          go_wp2
          (try simp only [Exit.inBlock, Exit.then]); refine bodyPost_end (results_none rfl _ _ _) rfl ?_
          exact ⟨rfl, Ht2.out, Hbq.out⟩
end Go.Proofs.Ytgdijjfipicodaa

