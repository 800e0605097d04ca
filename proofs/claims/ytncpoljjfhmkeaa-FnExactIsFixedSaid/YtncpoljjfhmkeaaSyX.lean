/- Contracts of the program: the image of a vector, for two kinds of operator. Conditions: as each says. -/
import Derived.Test.YtncpoljjfhmkeaaSyW
namespace Go.Proofs.Ytncpoljjfhmkeaa
open Go.RowKit

set_option maxRecDepth 100000 in
set_option maxHeartbeats 1600000 in
theorem applied_tt (v : Value) (l : List (List Int)) (k : Nat) (ua : Option Addr) (uc : Nat) (u : List Int) (w : World) (hl : l.length ≤ 14) (hl1 : 1 ≤ l.length) (hk : 1 ≤ k) (hk8 : k ≤ 8) (hv : u.length = l.length) (hvi : allIn u 0 1000000) (hu : IntsAt w ua u) (h : TotAt w v l k) :
    Calls Try.prog 77 #[.iface 62 v, .slice ua u.length uc] w fun e w' => ∃ x, e = .returned x ∧ OwnI w' w.heap.size x (imgL (sumN l k) u l.length l.length 0) ∧ Below w.heap.size w w' := by
  obtain ⟨i0, hi0, hz0, hz1, hz2⟩ := info_parts Try.info_int
  obtain ⟨pg, pc, rfl, _⟩ := (id h)
  have CS := Lib.hid (show ∀ w1, Below w.heap.size w w1 → Calls Try.prog 82 #[.slice (some ⟨pg, 0, none⟩) k pc] w1 fun e w2 => e = .returned (.int .i64 (l.length : Int)) ∧ w2 = w1 from fun w1 hb => ttSize_any _ l k w1 hl hk hk8 (h.below hb))
  have CA := Lib.hid (show ∀ w1, Below w.heap.size w w1 → ∀ r c : Nat, r < l.length → c < l.length → Calls Try.prog 152 #[.slice (some ⟨pg, 0, none⟩) k pc, .int .i64 (r : Int), .int .i64 (c : Int)] w1 fun e w2 => e = .returned (.int .i64 (sumN l k r c)) ∧ Below w1.heap.size w1 w2 from fun w1 hb r c hr hc => ttAt_any _ l k r c w1 hl hk8 hr hc (h.below hb))
  have hmt := fun w' => method_tt_size (some ⟨pg, 0, none⟩) k pc w'
  have hna := fun w' => ahead_tt_size (some ⟨pg, 0, none⟩) k pc w'
  have hmt2 := fun w' => method_tt_at (some ⟨pg, 0, none⟩) k pc w'
  have hna2 := fun w' => ahead_tt_at (some ⟨pg, 0, none⟩) k pc w'
  have HF := Lib.hid (show ∀ r c, r < l.length → c < l.length → 0 ≤ sumN l k r c ∧ sumN l k r c ≤ 100 from fun r c hr hc => by have := sumN_in l k r c; omega)
  obtain ⟨N, hN⟩ : ∃ N, N = l.length := ⟨_, rfl⟩
  obtain ⟨f, hf⟩ : ∃ f, f = sumN l k := ⟨_, rfl⟩
  rw [← hN, ← hf] at CA ⊢
  simp only [← hf, ← hN] at HF
  have HF := Lib.hid (show ∀ r c, r < N → c < N → 0 ≤ f r c ∧ f r c ≤ 100 by exact HF.out)
  rw [← hN] at CS hl hl1
  skip
  have Hvl := Lib.hid (show u.length = N by rw [hN]; exact hv)
  rw [Hvl.out]
  have Hvi := Lib.hid hvi
  have Hu := Lib.hid hu
  have hNm : N ≤ 9223372036854775807 := by omega
  clear h hN hf hv hvi hu
  go_enter Try.func77, Try.ntmps77
  go_wp2_with fail
  refine (CS.out w (Below.refl _ _)).mono ?_
  rintro e w2 ⟨rfl, rfl⟩
  go_wp2_with (at_make; refine wpList_make_full _ rfl _ _ 22 rfl w2.heap.size 3 i0 (.int .i64 0) 1 Try.underlying22 hi0 hz0 hz1 _ _ _ _ N rfl rfl rfl rfl ?c1 ?c2 ?c3 ?_)
  case c1 => rw [hz2]; omega
  case c2 => unfold maxLen; omega
  case c3 => simp
  intro w3 hown hgr
  have Hb := Lib.hid ((Below.refl _ _).grown hgr (Nat.le_refl _) (fun _ h => by cases h))
  obtain ⟨G, hG⟩ : ∃ G, G = w2.heap.size := ⟨_, rfl⟩
  have Hp := Lib.hid (show OwnI w3 w2.heap.size (.slice (some ⟨G, 0, none⟩) N N) (imgL f u N 0 0) by rw [imgL_zero, hG]; exact OwnI.made hown)
  rw [← hG]
  have HG := Lib.hid (show w2.heap.size ≤ G by omega)
  clear hown hgr hG
  go_wp2_with fail
  refine (CS.out w3 Hb.out).mono ?_
  rintro e w4 ⟨rfl, rfl⟩
  go_wp2
  go_loopw [13] (fun x wr => ∃ a : Nat, a ≤ N ∧ x = .int .i64 a ∧ OwnI wr w2.heap.size (.slice (some ⟨G, 0, none⟩) N N) (imgL f u N a 0) ∧ Below w2.heap.size w2 wr) (fun x _ => N - (intOf x).toNat)
  case atStart => exact ⟨0, Nat.zero_le _, rfl, Hp.out, Hb.out⟩
  case round =>
    obtain ⟨a, ha, rfl, hown, hbr⟩ := hrel
    have Hown := Lib.hid hown
    have Hbr := Lib.hid hbr
    clear hown hbr Hp Hb
    by_cases hal : a < N
    · go_wp2_with fail
      refine (CS.out wr Hbr.out).mono ?_
      rintro e w5 ⟨rfl, rfl⟩
      go_wp2
      go_loopw [18] (fun x wq => ∃ b : Nat, b ≤ N ∧ x = .int .i64 b ∧ OwnI wq w2.heap.size (.slice (some ⟨G, 0, none⟩) N N) (imgL f u N a b) ∧ Below w2.heap.size w2 wq) (fun x _ => N - (intOf x).toNat)
      case atStart => exact ⟨0, Nat.zero_le _, rfl, Hown.out, Hbr.out⟩
      case round =>
        rename World => wq
        obtain ⟨b, hb, rfl, hown, hbq⟩ := hrel
        have Hown2 := Lib.hid hown
        have Hbq := Lib.hid hbq
        clear hown hbq Hown Hbr
        by_cases hbl : b < N
        · obtain ⟨ub, uo, hue, hu3⟩ := Hu.out.below Hbq.out b (by rw [Hvl.out]; exact hbl)
          have hd := Hown2.out.cellAt a hal
          rw [imgL_here hal] at hd
          have hfacts : ∀ w'', Below wq.heap.size wq w'' → w''.cell? ⟨G, a, none⟩ = some (.int .i64 (dotF f u a b)) ∧ w''.cell? ⟨ub, uo + b, none⟩ = some (.int .i64 (gi u b)) ∧ w''.frozen? ⟨G, a, none⟩ = false := fun w'' hb => ⟨cell_below hd hb, cell_below hu3 hb, (Hown2.out.below hb).frozenAt a⟩
          have hst : ∀ w'', Below wq.heap.size wq w'' → OwnI (w''.setCell ⟨G, a, none⟩ (.int .i64 (dotF f u a b + f a b * gi u b))) w2.heap.size (.slice (some ⟨G, 0, none⟩) N N) (imgL f u N a (b + 1)) := fun w'' hb => by
            rw [← imgL_step hal]
            exact (Hown2.out.below hb).store a _
          have Hfacts := Lib.hid hfacts
          have Hst := Lib.hid hst
          have Hz := Lib.hid Hbq.out.size
          have CX := Lib.hid (fun wx (hx : Below wq.heap.size wq wx) => CA.out wx (Hbq.out.trans (hx.mono Hz.out)) a b hal hbl)
          have HBc := Lib.hid (show Below wq.heap.size wq wq.drew from below_drewN (Below.refl _ _) 1)
          have hb1 := dotF_bd (r := a) (fun c hc => HF.out a c hal hc) Hvi.out Hvl.out b (by omega)
          have hb3 := mul_bd (HF.out a b hal hbl) (Hvi.out b (by rw [Hvl.out]; exact hbl))
          obtain ⟨y, hy⟩ : ∃ y, y = f a b := ⟨_, rfl⟩
          obtain ⟨z, hz⟩ : ∃ z, z = gi u b := ⟨_, rfl⟩
          obtain ⟨s, hs⟩ : ∃ s, s = dotF f u a b := ⟨_, rfl⟩
          rw [← hy] at CX
          simp only [← hy, ← hz, ← hs] at Hfacts Hst hb1 hb3
          obtain ⟨p, hp⟩ : ∃ p, p = y * z := ⟨_, rfl⟩
          have hw : IntKind.i64.wrap (y * z) = p := by rw [← hp]; exact w64 (by omega)
          rw [← hp] at hb3
          simp only [← hp] at Hst
          subst hue
          clear hd hfacts hst hy hz hs hp Hown2 hu3
          have ⟨q0, q1, q2⟩ := Hfacts.out wq (Below.refl _ _)
          go_wp2
          go_region_with (go_at_call 152; refine (CX.out _ HBc.out).mono ?_; rintro e w6 ⟨rfl, hb6⟩; have HBd := Lib.hid (HBc.out.trans (hb6.mono HBc.out.size)); clear hb6 HBc; have HBc := HBd; clear HBd; obtain ⟨r0, r1, r2⟩ := Hfacts.out _ HBc.out)
          all_goals
            have HSn := Lib.hid (Hst.out _ HBc.out)
            have HBn := Lib.hid ((Hbq.out.trans (HBc.out.mono Hz.out)).setCell (p := ⟨G, a, none⟩) HG.out (.int .i64 (s + p)))
            clear q0 q1 q2 r0 r1 r2 CX Hfacts Hst
            go_wp2
            go_roundw
            case rel => exact ⟨b + 1, by omega, by go_num, HSn.out, HBn.out⟩
            case measure => simp [intOf]; omega
        · obtain rfl : b = N := by omega
          rw [imgL_row] at Hown2
          go_wp2
          go_roundw
          case rel => exact ⟨a + 1, by omega, by go_num, Hown2.out, Hbq.out⟩
          case measure => simp [intOf]; omega
    · obtain rfl : a = N := by omega
      go_wp2
      go_ret
      exact ⟨_, rfl, Hown.out, Hbr.out⟩

set_option maxRecDepth 100000 in
set_option maxHeartbeats 1600000 in
theorem applied_wr (ao : Option Addr) (cp : Nat) (m : List (List Int)) (ua : Option Addr) (uc : Nat) (u : List Int) (w : World) (hl : m.length ≤ 14) (hl1 : 1 ≤ m.length) (hrows : ∀ i, i < m.length → (gr m i).length = m.length ∧ allIn (gr m i) 0 100) (hv : u.length = m.length) (hvi : allIn u 0 1000000) (hu : IntsAt w ua u) (h : MatAt w ao m) :
    Calls Try.prog 77 #[.iface 67 (.slice ao m.length cp), .slice ua u.length uc] w fun e w' => ∃ x, e = .returned x ∧ OwnI w' w.heap.size x (imgL (fun r c => gi (gr m r) c) u m.length m.length 0) ∧ Below w.heap.size w w' := by
  obtain ⟨i0, hi0, hz0, hz1, hz2⟩ := info_parts Try.info_int
  have CS := Lib.hid (show ∀ w1, Below w.heap.size w w1 → Calls Try.prog 156 #[.slice ao m.length cp] w1 fun e w2 => e = .returned (.int .i64 (m.length : Int)) ∧ w2 = w1 from fun w1 hb => wrSize_any ao cp m w1 hl)
  have CA := Lib.hid (show ∀ w1, Below w.heap.size w w1 → ∀ r c : Nat, r < m.length → c < m.length → Calls Try.prog 155 #[.slice ao m.length cp, .int .i64 (r : Int), .int .i64 (c : Int)] w1 fun e w2 => e = .returned (.int .i64 ((fun r c => gi (gr m r) c) r c)) ∧ Below w1.heap.size w1 w2 from fun w1 hb r c hr hc => (wrAt_any ao cp m r c w1 hl hr (hrows r hr).1 hc (h.below hb)).mono fun e w2 h2 => ⟨h2.1, by rw [h2.2]; exact Below.refl _ _⟩)
  have hmt := fun w' => method_wr_size ao m.length cp w'
  have hna := fun w' => ahead_wr_size ao m.length cp w'
  have hmt2 := fun w' => method_wr_at ao m.length cp w'
  have hna2 := fun w' => ahead_wr_at ao m.length cp w'
  have HF := Lib.hid (show ∀ r c, r < m.length → c < m.length → 0 ≤ (fun r c => gi (gr m r) c) r c ∧ (fun r c => gi (gr m r) c) r c ≤ 100 from fun r c hr hc => (hrows r hr).2 c (by rw [(hrows r hr).1]; exact hc))
  obtain ⟨N, hN⟩ : ∃ N, N = m.length := ⟨_, rfl⟩
  obtain ⟨f, hf⟩ : ∃ f, f = (fun r c => gi (gr m r) c) := ⟨_, rfl⟩
  rw [← hN, ← hf] at CA ⊢
  simp only [← hN] at HF
  have HF := Lib.hid (show ∀ r c, r < N → c < N → 0 ≤ f r c ∧ f r c ≤ 100 by rw [hf]; exact HF.out)
  rw [← hN] at CS hl hl1
  rw [← hN] at hmt hna hmt2 hna2
  have Hvl := Lib.hid (show u.length = N by rw [hN]; exact hv)
  rw [Hvl.out]
  have Hvi := Lib.hid hvi
  have Hu := Lib.hid hu
  have hNm : N ≤ 9223372036854775807 := by omega
  clear h hN hf hv hvi hu
  go_enter Try.func77, Try.ntmps77
  go_wp2_with fail
  refine (CS.out w (Below.refl _ _)).mono ?_
  rintro e w2 ⟨rfl, rfl⟩
  go_wp2_with (at_make; refine wpList_make_full _ rfl _ _ 22 rfl w2.heap.size 3 i0 (.int .i64 0) 1 Try.underlying22 hi0 hz0 hz1 _ _ _ _ N rfl rfl rfl rfl ?c1 ?c2 ?c3 ?_)
  case c1 => rw [hz2]; omega
  case c2 => unfold maxLen; omega
  case c3 => simp
  intro w3 hown hgr
  have Hb := Lib.hid ((Below.refl _ _).grown hgr (Nat.le_refl _) (fun _ h => by cases h))
  obtain ⟨G, hG⟩ : ∃ G, G = w2.heap.size := ⟨_, rfl⟩
  have Hp := Lib.hid (show OwnI w3 w2.heap.size (.slice (some ⟨G, 0, none⟩) N N) (imgL f u N 0 0) by rw [imgL_zero, hG]; exact OwnI.made hown)
  rw [← hG]
  have HG := Lib.hid (show w2.heap.size ≤ G by omega)
  clear hown hgr hG
  go_wp2_with fail
  refine (CS.out w3 Hb.out).mono ?_
  rintro e w4 ⟨rfl, rfl⟩
  go_wp2
  go_loopw [13] (fun x wr => ∃ a : Nat, a ≤ N ∧ x = .int .i64 a ∧ OwnI wr w2.heap.size (.slice (some ⟨G, 0, none⟩) N N) (imgL f u N a 0) ∧ Below w2.heap.size w2 wr) (fun x _ => N - (intOf x).toNat)
  case atStart => exact ⟨0, Nat.zero_le _, rfl, Hp.out, Hb.out⟩
  case round =>
    obtain ⟨a, ha, rfl, hown, hbr⟩ := hrel
    have Hown := Lib.hid hown
    have Hbr := Lib.hid hbr
    clear hown hbr Hp Hb
    by_cases hal : a < N
    · go_wp2_with fail
      refine (CS.out wr Hbr.out).mono ?_
      rintro e w5 ⟨rfl, rfl⟩
      go_wp2
      go_loopw [18] (fun x wq => ∃ b : Nat, b ≤ N ∧ x = .int .i64 b ∧ OwnI wq w2.heap.size (.slice (some ⟨G, 0, none⟩) N N) (imgL f u N a b) ∧ Below w2.heap.size w2 wq) (fun x _ => N - (intOf x).toNat)
      case atStart => exact ⟨0, Nat.zero_le _, rfl, Hown.out, Hbr.out⟩
      case round =>
        rename World => wq
        obtain ⟨b, hb, rfl, hown, hbq⟩ := hrel
        have Hown2 := Lib.hid hown
        have Hbq := Lib.hid hbq
        clear hown hbq Hown Hbr
        by_cases hbl : b < N
        · obtain ⟨ub, uo, hue, hu3⟩ := Hu.out.below Hbq.out b (by rw [Hvl.out]; exact hbl)
          have hd := Hown2.out.cellAt a hal
          rw [imgL_here hal] at hd
          have hfacts : ∀ w'', Below wq.heap.size wq w'' → w''.cell? ⟨G, a, none⟩ = some (.int .i64 (dotF f u a b)) ∧ w''.cell? ⟨ub, uo + b, none⟩ = some (.int .i64 (gi u b)) ∧ w''.frozen? ⟨G, a, none⟩ = false := fun w'' hb => ⟨cell_below hd hb, cell_below hu3 hb, (Hown2.out.below hb).frozenAt a⟩
          have hst : ∀ w'', Below wq.heap.size wq w'' → OwnI (w''.setCell ⟨G, a, none⟩ (.int .i64 (dotF f u a b + f a b * gi u b))) w2.heap.size (.slice (some ⟨G, 0, none⟩) N N) (imgL f u N a (b + 1)) := fun w'' hb => by
            rw [← imgL_step hal]
            exact (Hown2.out.below hb).store a _
          have Hfacts := Lib.hid hfacts
          have Hst := Lib.hid hst
          have Hz := Lib.hid Hbq.out.size
          have CX := Lib.hid (fun wx (hx : Below wq.heap.size wq wx) => CA.out wx (Hbq.out.trans (hx.mono Hz.out)) a b hal hbl)
          have HBc := Lib.hid (show Below wq.heap.size wq wq.drew from below_drewN (Below.refl _ _) 1)
          have hb1 := dotF_bd (r := a) (fun c hc => HF.out a c hal hc) Hvi.out Hvl.out b (by omega)
          have hb3 := mul_bd (HF.out a b hal hbl) (Hvi.out b (by rw [Hvl.out]; exact hbl))
          obtain ⟨y, hy⟩ : ∃ y, y = f a b := ⟨_, rfl⟩
          obtain ⟨z, hz⟩ : ∃ z, z = gi u b := ⟨_, rfl⟩
          obtain ⟨s, hs⟩ : ∃ s, s = dotF f u a b := ⟨_, rfl⟩
          rw [← hy] at CX
          simp only [← hy, ← hz, ← hs] at Hfacts Hst hb1 hb3
          obtain ⟨p, hp⟩ : ∃ p, p = y * z := ⟨_, rfl⟩
          have hw : IntKind.i64.wrap (y * z) = p := by rw [← hp]; exact w64 (by omega)
          rw [← hp] at hb3
          simp only [← hp] at Hst
          subst hue
          clear hd hfacts hst hy hz hs hp Hown2 hu3
          have ⟨q0, q1, q2⟩ := Hfacts.out wq (Below.refl _ _)
          go_wp2
          go_region_with (go_at_call 155; refine (CX.out _ HBc.out).mono ?_; rintro e w6 ⟨rfl, hb6⟩; have HBd := Lib.hid (HBc.out.trans (hb6.mono HBc.out.size)); clear hb6 HBc; have HBc := HBd; clear HBd; obtain ⟨r0, r1, r2⟩ := Hfacts.out _ HBc.out)
          all_goals
            have HSn := Lib.hid (Hst.out _ HBc.out)
            have HBn := Lib.hid ((Hbq.out.trans (HBc.out.mono Hz.out)).setCell (p := ⟨G, a, none⟩) HG.out (.int .i64 (s + p)))
            clear q0 q1 q2 r0 r1 r2 CX Hfacts Hst
            go_wp2
            go_roundw
            case rel => exact ⟨b + 1, by omega, by go_num, HSn.out, HBn.out⟩
            case measure => simp [intOf]; omega
        · obtain rfl : b = N := by omega
          rw [imgL_row] at Hown2
          go_wp2
          go_roundw
          case rel => exact ⟨a + 1, by omega, by go_num, Hown2.out, Hbq.out⟩
          case measure => simp [intOf]; omega
    · obtain rfl : a = N := by omega
      go_wp2
      go_ret
      exact ⟨_, rfl, Hown.out, Hbr.out⟩

end Go.Proofs.Ytncpoljjfhmkeaa
