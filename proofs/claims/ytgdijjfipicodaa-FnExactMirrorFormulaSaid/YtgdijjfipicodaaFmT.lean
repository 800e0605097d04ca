/- Contracts of the model's two formulas. Condition: the numbers that they take. -/
import Derived.Test.YtgdijjfipicodaaFmS
import Derived.Test.YtgdijjfipicodaaCnt
namespace Go.Proofs.Ytgdijjfipicodaa
open Go.RowKit

theorem hs_next {N m j : Nat} (hm : 1 ≤ m) (hj : m ≤ j) : hsB N m (hsA N (m - 1)) (j + 1 - m) = stpF (hsB N m (hsA N (m - 1)) (j - m)) (N + m + j - 1) (2 * m + j - 1) := by
  obtain ⟨t, rfl⟩ : ∃ t, j = m + t := ⟨j - m, by omega⟩
  rw [show m + t + 1 - m = t + 1 from by omega, show m + t - m = t from by omega]
  rfl
theorem hs_round {N m : Nat} (hm : 1 ≤ m) (hN : m ≤ N) : hsA N m = hsB N m (hsA N (m - 1)) (N + 1 - m) := by
  obtain ⟨i, rfl⟩ : ∃ i, m = i + 1 := ⟨m - 1, by omega⟩
  show hsB N (i + 1) (hsA N i) (N - i) = _
  rw [show N + 1 - (i + 1) = N - i from by omega]
  rfl
theorem ms_round {m : Nat} (hm : 1 ≤ m) : msA m = msK m (msA (m - 1)) (6 * m - 3) := by
  obtain ⟨i, rfl⟩ : ∃ i, m = i + 1 := ⟨m - 1, by omega⟩
  rfl

set_option maxRecDepth 100000 in
set_option maxHeartbeats 1600000 in
theorem specHalfTurnFormula_any (n : Int) (w : World) (_hz : -9223372036854775808 ≤ n ∧ n ≤ 9223372036854775807) : Calls Try.prog 19 #[.int .i64 n] w fun e w' => IRes (1 ≤ n ∧ n ≤ 6) (htV n.toNat : Nat) e ∧ Below w.heap.size w w' := by
  by_cases hn : 1 ≤ n ∧ n ≤ 6
  · obtain ⟨N, rfl⟩ : ∃ N : Nat, n = N := ⟨n.toNat, by omega⟩
    have hN1 : 1 ≤ N := by omega
    have hN6 : N ≤ 6 := by omega
    have HV := Lib.hid (show ((N : Int)).toNat = N from rfl)
    have HA := Lib.hid (fun i (hi : i ≤ N) => hsA_ok N (by omega) i hi)
    have HB := Lib.hid (fun i (hi : i < N) t (ht : t ≤ N - i) => hsB_ok N (by omega) i hi t ht)
    have Hn := Lib.hid hn
    have HcI := Lib.hid (show hsA N 0 = (cI N, 1) from rfl)
    have HF := Lib.hid (hsA_val N (by omega))
    rw [HV.out]
    obtain ⟨R, hR⟩ : ∃ R, R = htV N := ⟨_, rfl⟩
    rw [← hR] at HF ⊢
    have CS := Lib.hid (show ∀ w', Calls Try.prog 42 #[.int .i64 (N : Int)] w' fun e w'' => e = .returned (.tuple #[.int .i64 (cI N : Nat), .bool true]) ∧ w' = w'' from fun w' => (specCountSigns_any (N : Int) w').mono (by
      rintro e w'' ⟨⟨y, b, he, h⟩, hw⟩
      rcases h with ⟨_, rfl, rfl⟩ | ⟨hno, _, _⟩
      · exact ⟨he, hw⟩
      · exact absurd (show inR (N : Int) from ⟨by omega, by omega⟩) hno))
    obtain ⟨S, hS⟩ : ∃ S, S = cI N := ⟨_, rfl⟩
    rw [← hS] at HcI CS
    clear hn hS hR
    go_enter Try.func19, Try.ntmps19
    go_wp2_with fail
    refine (l1In_any _ _ _ w).mono ?_
    rintro e w2 ⟨ha, rfl⟩
    obtain rfl := ha.is Hn.out
    clear ha
    go_wp2_with fail
    refine (CS.out _).mono ?_
    rintro e w3 ⟨rfl, rfl⟩
    go_upto_region 5 with (first | (refine wpList_boxT rfl 48 _ rfl _ rfl ?_) | (refine wpList_buildRn rfl 48 _ rfl [(0, .int .i64 (S : Int)), (1, .int .i64 1)] rfl _ (Try.built_sm _ _) ?_))
    generalize hW : World.alloc w _ = w5
    obtain ⟨g, hg⟩ : ∃ g, g = w.heap.size := ⟨_, rfl⟩
    have H0 := Lib.hid (show RsAt w5 g (hsA N 0) from by rw [HcI.out, ← hW, hg]; exact RsAt.new w (S, 1))
    have HB5 := Lib.hid (show Below w.heap.size w w5 from by rw [← hW]; exact (Below.refl _ w).alloc (Nat.le_refl _) _)
    have Hg := Lib.hid (show w.heap.size ≤ g from by rw [hg]; exact Nat.le_refl _)
    rw [← hg]
    clear hW hg CS
    go_wp2
    go_loopw [7] (fun x wr => ∃ m : Nat, 1 ≤ m ∧ m ≤ N + 1 ∧ x = .int .i64 m ∧ RsAt wr g (hsA N (m - 1)) ∧ Below w.heap.size w wr) (fun x _ => N + 1 - (intOf x).toNat)
    case atStart => exact ⟨1, Nat.le_refl _, by omega, rfl, H0.out, HB5.out⟩
    case round =>
      obtain ⟨m, hm1, hm, rfl, ho, hbr⟩ := hrel
      clear H0 HB5
      have Ho := Lib.hid ho
      have Hbr := Lib.hid hbr
      clear ho hbr
      by_cases hmN : m ≤ N
      · obtain ⟨p, hp⟩ : ∃ p, p = 3 * m - 1 := ⟨_, rfl⟩
        obtain ⟨q, hq⟩ : ∃ q, q = 3 * m - 2 := ⟨_, rfl⟩
        have e1 : 3 * (m : Int) - 1 = (p : Int) := by omega
        have e2 : 3 * (m : Int) - 2 = (q : Int) := by omega
        have k1 : IntKind.i64.wrap (p : Int) = (p : Int) := w64 (by omega)
        have k2 : IntKind.i64.wrap (q : Int) = (q : Int) := w64 (by omega)
        have k3 : IntKind.i64.wrap (3 * (m : Int)) = 3 * (m : Int) := w64 (by omega)
        have HR0 := Lib.hid (show hsB N m (hsA N (m - 1)) (m - m) = stpF (hsA N (m - 1)) (3 * m - 1) (3 * m - 2) from by rw [Nat.sub_self]; rfl)
        rw [← hp, ← hq] at HR0
        have CT := Lib.hid (smTimes_any g p q (hsA N (m - 1)) wr (by omega) (by omega) (by omega) (by omega) (HA.out _ (by omega)) (by
          rw [← HR0.out]
          have := HB.out (m - 1) (by omega) (m - m) (by omega)
          rw [show m - 1 + 1 = m from by omega] at this
          exact this) Ho.out)
        rw [← HR0.out] at CT
        clear hp hq HR0
        go_wp2_with fail
        refine CT.out.mono ?_
        rintro e w6 ⟨rfl, hr6, hb6⟩
        have Ho7 := Lib.hid hr6
        have HB7 := Lib.hid (Hbr.out.trans (hb6.mono Hg.out))
        clear hr6 hb6 CT e1 e2 k1 k2 k3 Ho Hbr
        go_wp2
        go_loopw [8] (fun y wr => ∃ j : Nat, m ≤ j ∧ j ≤ N + 1 ∧ y = .int .i64 j ∧ RsAt wr g (hsB N m (hsA N (m - 1)) (j - m)) ∧ Below w.heap.size w wr) (fun y _ => N + 1 - (intOf y).toNat)
        case atStart => exact ⟨m, Nat.le_refl _, by omega, rfl, Ho7.out, HB7.out⟩
        case round =>
          obtain ⟨j, hj1, hj, rfl, ho, hbr⟩ := hrel
          clear Ho7 HB7
          have Ho := Lib.hid ho
          have Hbr := Lib.hid hbr
          clear ho hbr
          by_cases hjN : j ≤ N
          · obtain ⟨p, hp⟩ : ∃ p, p = N + m + j - 1 := ⟨_, rfl⟩
            obtain ⟨q, hq⟩ : ∃ q, q = 2 * m + j - 1 := ⟨_, rfl⟩
            have e1 : (N : Int) + (m : Int) + (j : Int) - 1 = (p : Int) := by omega
            have e2 : 2 * (m : Int) + (j : Int) - 1 = (q : Int) := by omega
            have k1 : IntKind.i64.wrap (p : Int) = (p : Int) := w64 (by omega)
            have k2 : IntKind.i64.wrap (q : Int) = (q : Int) := w64 (by omega)
            have k3 : IntKind.i64.wrap (2 * (m : Int)) = 2 * (m : Int) := w64 (by omega)
            have k4 : IntKind.i64.wrap ((N : Int) + (m : Int)) = (N : Int) + (m : Int) := w64 (by omega)
            have k5 : IntKind.i64.wrap ((N : Int) + (m : Int) + (j : Int)) = (N : Int) + (m : Int) + (j : Int) := w64 (by omega)
            have k6 : IntKind.i64.wrap (2 * (m : Int) + (j : Int)) = 2 * (m : Int) + (j : Int) := w64 (by omega)
            have HR1 := Lib.hid (hs_next (N := N) hm1 hj1)
            rw [← hp, ← hq] at HR1
            have hk : ∀ t, t ≤ N + 1 - m → okF (hsB N m (hsA N (m - 1)) t) = true := fun t ht => by
              have := HB.out (m - 1) (by omega) t (by omega)
              rw [show m - 1 + 1 = m from by omega] at this
              exact this
            have CT := Lib.hid (smTimes_any g p q (hsB N m (hsA N (m - 1)) (j - m)) wr (by omega) (by omega) (by omega) (by omega) (hk _ (by omega)) (by
              rw [← HR1.out]
              exact hk _ (by omega)) Ho.out)
            rw [← HR1.out] at CT
            clear hp hq HR1 hk
            go_wp2_with fail
            refine CT.out.mono ?_
            rintro e w6 ⟨rfl, hr6, hb6⟩
            have Ho7 := Lib.hid hr6
            have HB7 := Lib.hid (Hbr.out.trans (hb6.mono Hg.out))
            clear hr6 hb6 CT e1 e2 k1 k2 k3 k4 k5 k6 Ho Hbr
            go_wp2
            go_roundw
            case rel => exact ⟨j + 1, by omega, by omega, by go_num, Ho7.out, HB7.out⟩
            case measure => simp [intOf]; omega
          · obtain rfl : j = N + 1 := by omega
            have Ho8 := Lib.hid (show RsAt wr g (hsA N (m + 1 - 1)) from by rw [show m + 1 - 1 = m from rfl, hs_round hm1 hmN]; exact Ho.out)
            clear Ho
            go_wp2
            go_roundw
            case rel => exact ⟨m + 1, by omega, by omega, by go_num, Ho8.out, Hbr.out⟩
            case measure => simp [intOf]; omega
      · obtain rfl : m = N + 1 := by omega
        have c0 := (show RsAt wr g (hsA N N) from Ho.out).c0
        rw [HF.out] at c0
        clear Ho
        go_wp2
        go_ret2
        exact ⟨IRes.yes Hn.out, Hbr.out⟩
  · have Hn := Lib.hid hn
    clear hn
    go_enter Try.func19, Try.ntmps19
    go_wp2_with fail
    refine (l1In_any _ _ _ w).mono ?_
    rintro e w2 ⟨ha, rfl⟩
    obtain rfl := ha.isnt Hn.out
    clear ha
    go_wp2
    go_ret2
    exact ⟨IRes.no Hn.out, Below.refl _ _⟩

set_option maxRecDepth 100000 in
set_option maxHeartbeats 3200000 in
theorem specMirrorFormula_any (n : Int) (w : World) (_hz : -9223372036854775808 ≤ n ∧ n ≤ 9223372036854775807) : Calls Try.prog 21 #[.int .i64 n] w fun e w' => IRes (0 ≤ n ∧ n ≤ 5) (mfV n.toNat : Nat) e ∧ Below w.heap.size w w' := by
  by_cases hn : 0 ≤ n ∧ n ≤ 5
  · obtain ⟨N, rfl⟩ : ∃ N : Nat, n = N := ⟨n.toNat, by omega⟩
    have hN5 : N ≤ 5 := by omega
    have HV := Lib.hid (show ((N : Int)).toNat = N from rfl)
    have HA := Lib.hid (fun i (hi : i ≤ N) => msA_ok i (by omega))
    have HM := Lib.hid (fun i (hi : i ≤ N) (h1 : 1 ≤ i) k hk => msB_is (msB_ok i (by omega) h1 k hk))
    have Hn := Lib.hid hn
    have HF := Lib.hid (msA_val N (by omega))
    rw [HV.out]
    obtain ⟨R, hR⟩ : ∃ R, R = mfV N := ⟨_, rfl⟩
    rw [← hR] at HF ⊢
    clear hn hR
    go_enter Try.func21, Try.ntmps21
    go_wp2_with fail
    refine (l1In_any _ _ _ w).mono ?_
    rintro e w2 ⟨ha, rfl⟩
    obtain rfl := ha.is Hn.out
    clear ha
    go_upto_region 4 with (first | (refine wpList_boxT rfl 48 _ rfl _ rfl ?_) | (refine wpList_buildRn rfl 48 _ rfl [(0, .int .i64 1), (1, .int .i64 1)] rfl _ (Try.built_sm _ _) ?_))
    generalize hW : World.alloc w _ = w5
    obtain ⟨g, hg⟩ : ∃ g, g = w.heap.size := ⟨_, rfl⟩
    have H0 := Lib.hid (show RsAt w5 g (msA 0) from by rw [← hW, hg]; exact RsAt.new w (1, 1))
    have HB5 := Lib.hid (show Below w.heap.size w w5 from by rw [← hW]; exact (Below.refl _ w).alloc (Nat.le_refl _) _)
    have Hg := Lib.hid (show w.heap.size ≤ g from by rw [hg]; exact Nat.le_refl _)
    rw [← hg]
    clear hW hg
    go_wp2
    go_loopw [5] (fun x wr => ∃ m : Nat, 1 ≤ m ∧ m ≤ N + 1 ∧ x = .int .i64 m ∧ RsAt wr g (msA (m - 1)) ∧ Below w.heap.size w wr) (fun x _ => N + 1 - (intOf x).toNat)
    case atStart => exact ⟨1, Nat.le_refl _, by omega, rfl, H0.out, HB5.out⟩
    case round =>
      obtain ⟨m, hm1, hm, rfl, ho, hbr⟩ := hrel
      clear H0 HB5
      have Ho := Lib.hid ho
      have Hbr := Lib.hid hbr
      clear ho hbr
      by_cases hmN : m ≤ N
      · have HR0 := Lib.hid (show msK m (msA (m - 1)) 0 = stpF (msA (m - 1)) 1 2 from rfl)
        have CT := Lib.hid (smTimes_any g 1 2 (msA (m - 1)) wr (by omega) (by omega) (by omega) (by omega) (HA.out _ (by omega)) (by rw [← HR0.out]; exact (HM.out m hmN hm1 0 (by omega)).1) Ho.out)
        rw [← HR0.out] at CT
        clear HR0
        go_wp2_with fail
        refine CT.out.mono ?_
        rintro e w6 ⟨rfl, hr6, hb6⟩
        have Ho7 := Lib.hid hr6
        have HB7 := Lib.hid (Hbr.out.trans (hb6.mono Hg.out))
        have HM2 := Lib.hid (HM.out m hmN hm1)
        clear hr6 hb6 CT Ho Hbr
        have e6 : 6 * (m : Int) - 2 = ((6 * m - 2 : Nat) : Int) := by omega
        have e2 : 2 * (m : Int) - 1 = ((2 * m - 1 : Nat) : Int) := by omega
        have e4 : 4 * (m : Int) - 1 = ((4 * m - 1 : Nat) : Int) := by omega
        have e5 : 4 * (m : Int) - 2 = ((4 * m - 2 : Nat) : Int) := by omega
        obtain ⟨M6, hM6⟩ : ∃ M6, M6 = 6 * m - 2 := ⟨_, rfl⟩
        obtain ⟨M2, hM2⟩ : ∃ M2, M2 = 2 * m - 1 := ⟨_, rfl⟩
        obtain ⟨M4, hM4⟩ : ∃ M4, M4 = 4 * m - 1 := ⟨_, rfl⟩
        obtain ⟨M5, hM5⟩ : ∃ M5, M5 = 4 * m - 2 := ⟨_, rfl⟩
        rw [← hM6] at e6
        rw [← hM2] at e2
        rw [← hM4] at e4
        rw [← hM5] at e5
        have k1 : IntKind.i64.wrap (6 * (m : Int)) = 6 * (m : Int) := w64 (by omega)
        have k2 : IntKind.i64.wrap (2 * (m : Int)) = 2 * (m : Int) := w64 (by omega)
        have k3 : IntKind.i64.wrap (4 * (m : Int)) = 4 * (m : Int) := w64 (by omega)
        have k4 : IntKind.i64.wrap (M6 : Int) = (M6 : Int) := w64 (by omega)
        have k5 : IntKind.i64.wrap (M2 : Int) = (M2 : Int) := w64 (by omega)
        have k6 : IntKind.i64.wrap (M4 : Int) = (M4 : Int) := w64 (by omega)
        have k7 : IntKind.i64.wrap (M5 : Int) = (M5 : Int) := w64 (by omega)
        have HE := Lib.hid (show M6 = 6 * m - 2 ∧ M2 = 2 * m - 1 ∧ M4 = 4 * m - 1 ∧ M5 = 4 * m - 2 from ⟨hM6, hM2, hM4, hM5⟩)
        have hM6b : M6 ≤ 28 := by omega
        clear hM6 hM2 hM4 hM5
        go_wp2
        go_loopw [6] (fun y wr => ∃ x : Nat, 2 ≤ x ∧ x ≤ M6 + 1 ∧ y = .int .i64 x ∧ RsAt wr g (msK m (msA (m - 1)) (x - 2)) ∧ Below w.heap.size w wr) (fun y _ => M6 + 1 - (intOf y).toNat)
        case atStart => exact ⟨2, Nat.le_refl _, by have := HE.out.1; omega, rfl, Ho7.out, HB7.out⟩
        case round =>
          obtain ⟨x, hx1, hx, rfl, ho, hbr⟩ := hrel
          clear Ho7 HB7
          have Ho := Lib.hid ho
          have Hbr := Lib.hid hbr
          clear ho hbr
          by_cases hxN : x ≤ M6
          · have hm' := HE.out
            have hok := HM2.out (x - 2) (by omega)
            have hok2 := (HM2.out (x - 2 + 1) (by omega)).1
            rw [msK_succ] at hok2
            have HS := msK_succ m (msA (m - 1)) (x - 2)
            rw [show x - 2 + 2 = x from by omega] at hok hok2 HS
            rw [← hm'.2.1, ← hm'.2.2.1] at hok
            rw [← hm'.2.1, ← hm'.2.2.1, ← hm'.2.2.2] at hok2 HS
            obtain ⟨s, hs⟩ : ∃ s, s = msK m (msA (m - 1)) (x - 2) := ⟨_, rfl⟩
            rw [← hs] at hok hok2 HS Ho
            have hx28 : x ≤ 28 := by omega
            have hrel1 : M2 ≤ M5 ∧ M5 + 1 = M4 := by omega
            clear hs hm'
            by_cases hA : x ≤ M2
            · skip
              have cM2 : x ≤ M2 := by omega
              have cM4 : x ≤ M4 := by omega
              have cM5 : x ≤ M5 := by omega
              rw [if_pos cM5, if_pos cM4, if_pos cM2] at hok2 HS
              simp only [cM2, if_true, if_false, cM4, if_true, if_false] at hok
              obtain ⟨hk0, hk1, hk2, hk3⟩ := hok
              have HK := Lib.hid hk0
              have HK1 := Lib.hid (show okF (stpF s x 1) = true from by first | exact hk1 | exact hk2 | exact hk3 | exact hok2)
              have HK2 := Lib.hid (show okF (stpF (stpF s x 1) x 1) = true from by first | exact hk1 | exact hk2 | exact hk3 | exact hok2)
              have HK3 := Lib.hid (show okF (stpF (stpF (stpF s x 1) x 1) 1 x) = true from by first | exact hk1 | exact hk2 | exact hk3 | exact hok2)
              have HK4 := Lib.hid (show okF (stpF (stpF (stpF (stpF s x 1) x 1) 1 x) 1 x) = true from by first | exact hk1 | exact hk2 | exact hk3 | exact hok2)
              have HS2 := Lib.hid HS
              clear hk0 hk1 hk2 hk3 hok2 HS
              have CT := Lib.hid (smTimes_any g x 1 s wr (by omega) (by omega) (by omega) (by omega) HK.out HK1.out Ho.out)
              go_wp2_with fail
              refine CT.out.mono ?_
              rintro e v0 ⟨rfl, hr6, hb6⟩
              have Ho' := Lib.hid hr6
              have HBr' := Lib.hid (Hbr.out.trans (hb6.mono Hg.out))
              clear hr6 hb6 CT Ho Hbr
              have Ho := Ho'
              have Hbr := HBr'
              clear Ho' HBr'
              have CT := Lib.hid (smTimes_any g x 1 (stpF s x 1) v0 (by omega) (by omega) (by omega) (by omega) HK1.out HK2.out Ho.out)
              go_wp2_with fail
              refine CT.out.mono ?_
              rintro e v1 ⟨rfl, hr6, hb6⟩
              have Ho' := Lib.hid hr6
              have HBr' := Lib.hid (Hbr.out.trans (hb6.mono Hg.out))
              clear hr6 hb6 CT Ho Hbr
              have Ho := Ho'
              have Hbr := HBr'
              clear Ho' HBr'
              have CT := Lib.hid (smTimes_any g 1 x (stpF (stpF s x 1) x 1) v1 (by omega) (by omega) (by omega) (by omega) HK2.out HK3.out Ho.out)
              go_wp2_with fail
              refine CT.out.mono ?_
              rintro e v2 ⟨rfl, hr6, hb6⟩
              have Ho' := Lib.hid hr6
              have HBr' := Lib.hid (Hbr.out.trans (hb6.mono Hg.out))
              clear hr6 hb6 CT Ho Hbr
              have Ho := Ho'
              have Hbr := HBr'
              clear Ho' HBr'
              have CT := Lib.hid (smTimes_any g 1 x (stpF (stpF (stpF s x 1) x 1) 1 x) v2 (by omega) (by omega) (by omega) (by omega) HK3.out HK4.out Ho.out)
              go_wp2_with fail
              refine CT.out.mono ?_
              rintro e v3 ⟨rfl, hr6, hb6⟩
              have Ho' := Lib.hid hr6
              have HBr' := Lib.hid (Hbr.out.trans (hb6.mono Hg.out))
              clear hr6 hb6 CT Ho Hbr
              have Ho := Ho'
              have Hbr := HBr'
              clear Ho' HBr'
              go_wp2
              go_roundw
              case rel => exact ⟨x + 1, by omega, by omega, by go_num, by rw [show x + 1 - 2 = x - 2 + 1 from by omega, HS2.out]; exact Ho.out, Hbr.out⟩
              case measure => simp [intOf]; omega
            · by_cases hB : x ≤ M5
              · skip
                have cM2 : ¬(x ≤ M2) := by omega
                have cM4 : x ≤ M4 := by omega
                have cM5 : x ≤ M5 := by omega
                rw [if_pos cM5, if_pos cM4, if_neg cM2] at hok2 HS
                simp only [cM2, if_true, if_false, cM4, if_true, if_false] at hok
                obtain ⟨hk0, hk1, hk2, hk3⟩ := hok
                have HK := Lib.hid hk0
                have HK1 := Lib.hid (show okF (stpF s x 1) = true from by first | exact hk1 | exact hk2 | exact hk3 | exact hok2)
                have HK2 := Lib.hid (show okF (stpF (stpF s x 1) 1 x) = true from by first | exact hk1 | exact hk2 | exact hk3 | exact hok2)
                have HK3 := Lib.hid (show okF (stpF (stpF (stpF s x 1) 1 x) 1 x) = true from by first | exact hk1 | exact hk2 | exact hk3 | exact hok2)
                have HS2 := Lib.hid HS
                clear hk0 hk1 hk2 hk3 hok2 HS
                have CT := Lib.hid (smTimes_any g x 1 s wr (by omega) (by omega) (by omega) (by omega) HK.out HK1.out Ho.out)
                go_wp2_with fail
                refine CT.out.mono ?_
                rintro e v0 ⟨rfl, hr6, hb6⟩
                have Ho' := Lib.hid hr6
                have HBr' := Lib.hid (Hbr.out.trans (hb6.mono Hg.out))
                clear hr6 hb6 CT Ho Hbr
                have Ho := Ho'
                have Hbr := HBr'
                clear Ho' HBr'
                have CT := Lib.hid (smTimes_any g 1 x (stpF s x 1) v0 (by omega) (by omega) (by omega) (by omega) HK1.out HK2.out Ho.out)
                go_wp2_with fail
                refine CT.out.mono ?_
                rintro e v1 ⟨rfl, hr6, hb6⟩
                have Ho' := Lib.hid hr6
                have HBr' := Lib.hid (Hbr.out.trans (hb6.mono Hg.out))
                clear hr6 hb6 CT Ho Hbr
                have Ho := Ho'
                have Hbr := HBr'
                clear Ho' HBr'
                have CT := Lib.hid (smTimes_any g 1 x (stpF (stpF s x 1) 1 x) v1 (by omega) (by omega) (by omega) (by omega) HK2.out HK3.out Ho.out)
                go_wp2_with fail
                refine CT.out.mono ?_
                rintro e v2 ⟨rfl, hr6, hb6⟩
                have Ho' := Lib.hid hr6
                have HBr' := Lib.hid (Hbr.out.trans (hb6.mono Hg.out))
                clear hr6 hb6 CT Ho Hbr
                have Ho := Ho'
                have Hbr := HBr'
                clear Ho' HBr'
                go_wp2
                go_roundw
                case rel => exact ⟨x + 1, by omega, by omega, by go_num, by rw [show x + 1 - 2 = x - 2 + 1 from by omega, HS2.out]; exact Ho.out, Hbr.out⟩
                case measure => simp [intOf]; omega
              · by_cases hC : x ≤ M4
                · skip
                  have cM2 : ¬(x ≤ M2) := by omega
                  have cM4 : x ≤ M4 := by omega
                  have cM5 : ¬(x ≤ M5) := by omega
                  rw [if_neg cM5, if_pos cM4, if_neg cM2] at hok2 HS
                  simp only [cM2, if_true, if_false, cM4, if_true, if_false] at hok
                  obtain ⟨hk0, hk1, hk2, hk3⟩ := hok
                  have HK := Lib.hid hk0
                  have HK1 := Lib.hid (show okF (stpF s x 1) = true from by first | exact hk1 | exact hk2 | exact hk3 | exact hok2)
                  have HK2 := Lib.hid (show okF (stpF (stpF s x 1) 1 x) = true from by first | exact hk1 | exact hk2 | exact hk3 | exact hok2)
                  have HS2 := Lib.hid HS
                  clear hk0 hk1 hk2 hk3 hok2 HS
                  have CT := Lib.hid (smTimes_any g x 1 s wr (by omega) (by omega) (by omega) (by omega) HK.out HK1.out Ho.out)
                  go_wp2_with fail
                  refine CT.out.mono ?_
                  rintro e v0 ⟨rfl, hr6, hb6⟩
                  have Ho' := Lib.hid hr6
                  have HBr' := Lib.hid (Hbr.out.trans (hb6.mono Hg.out))
                  clear hr6 hb6 CT Ho Hbr
                  have Ho := Ho'
                  have Hbr := HBr'
                  clear Ho' HBr'
                  have CT := Lib.hid (smTimes_any g 1 x (stpF s x 1) v0 (by omega) (by omega) (by omega) (by omega) HK1.out HK2.out Ho.out)
                  go_wp2_with fail
                  refine CT.out.mono ?_
                  rintro e v1 ⟨rfl, hr6, hb6⟩
                  have Ho' := Lib.hid hr6
                  have HBr' := Lib.hid (Hbr.out.trans (hb6.mono Hg.out))
                  clear hr6 hb6 CT Ho Hbr
                  have Ho := Ho'
                  have Hbr := HBr'
                  clear Ho' HBr'
                  go_wp2
                  go_roundw
                  case rel => exact ⟨x + 1, by omega, by omega, by go_num, by rw [show x + 1 - 2 = x - 2 + 1 from by omega, HS2.out]; exact Ho.out, Hbr.out⟩
                  case measure => simp [intOf]; omega
                · skip
                  have cM2 : ¬(x ≤ M2) := by omega
                  have cM4 : ¬(x ≤ M4) := by omega
                  have cM5 : ¬(x ≤ M5) := by omega
                  rw [if_neg cM5, if_neg cM4, if_neg cM2] at hok2 HS
                  simp only [cM2, if_true, if_false, cM4, if_true, if_false] at hok
                  obtain ⟨hk0, hk1, hk2, hk3⟩ := hok
                  have HK := Lib.hid hk0
                  have HK1 := Lib.hid (show okF (stpF s x 1) = true from by first | exact hk1 | exact hk2 | exact hk3 | exact hok2)
                  have HS2 := Lib.hid HS
                  clear hk0 hk1 hk2 hk3 hok2 HS
                  have CT := Lib.hid (smTimes_any g x 1 s wr (by omega) (by omega) (by omega) (by omega) HK.out HK1.out Ho.out)
                  go_wp2_with fail
                  refine CT.out.mono ?_
                  rintro e v0 ⟨rfl, hr6, hb6⟩
                  have Ho' := Lib.hid hr6
                  have HBr' := Lib.hid (Hbr.out.trans (hb6.mono Hg.out))
                  clear hr6 hb6 CT Ho Hbr
                  have Ho := Ho'
                  have Hbr := HBr'
                  clear Ho' HBr'
                  go_wp2
                  go_roundw
                  case rel => exact ⟨x + 1, by omega, by omega, by go_num, by rw [show x + 1 - 2 = x - 2 + 1 from by omega, HS2.out]; exact Ho.out, Hbr.out⟩
                  case measure => simp [intOf]; omega
          · obtain rfl : x = M6 + 1 := by omega
            have Ho8 := Lib.hid (show RsAt wr g (msA (m + 1 - 1)) from by rw [show m + 1 - 1 = m from rfl, ms_round hm1, show 6 * m - 3 = M6 + 1 - 2 from by have := HE.out.1; omega]; exact Ho.out)
            clear Ho
            go_wp2
            go_roundw
            case rel => exact ⟨m + 1, by omega, by omega, by go_num, Ho8.out, Hbr.out⟩
            case measure => simp [intOf]; omega
      · obtain rfl : m = N + 1 := by omega
        have c0 := (show RsAt wr g (msA N) from Ho.out).c0
        rw [HF.out] at c0
        clear Ho
        go_wp2
        go_ret2
        exact ⟨IRes.yes Hn.out, Hbr.out⟩
  · have Hn := Lib.hid hn
    clear hn
    go_enter Try.func21, Try.ntmps21
    go_wp2_with fail
    refine (l1In_any _ _ _ w).mono ?_
    rintro e w2 ⟨ha, rfl⟩
    obtain rfl := ha.isnt Hn.out
    clear ha
    go_wp2
    go_ret2
    exact ⟨IRes.no Hn.out, Below.refl _ _⟩
end Go.Proofs.Ytgdijjfipicodaa
