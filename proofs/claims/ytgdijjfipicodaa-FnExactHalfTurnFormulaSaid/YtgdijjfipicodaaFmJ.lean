/- Contracts of the program's two formulas. Condition: the numbers that they take. -/
import Derived.Test.YtgdijjfipicodaaFmI
namespace Go.Proofs.Ytgdijjfipicodaa
open Go.RowKit

theorem htA_len : ∀ n, n < 7 → ∀ i, i ≤ n → (htA n i).length ≤ 100 := by decide +kernel
theorem htB_len : ∀ n, n < 7 → ∀ i, i < n → ∀ t, t ≤ n - i → (htB n (i + 1) (htA n i) t).length ≤ 100 := by decide +kernel
theorem mfA_len : ∀ i, i < 6 → (mfA i).length ≤ 100 := by decide +kernel
theorem mf_b : ∀ m, m < 6 → 1 ≤ m → 0 < ch (4 * m - 2) (2 * m - 1) ∧ ch (4 * m - 2) (2 * m - 1) ≤ 1000000000 ∧ ch (6 * m - 2) (2 * m - 1) ≤ 1000000000 := by decide +kernel
theorem ht_next {N m j : Nat} (hm : 1 ≤ m) (hj : m ≤ j) : htB N m (htA N (m - 1)) (j + 1 - m) = htB N m (htA N (m - 1)) (j - m) ++ [nrm (N + m + j - 1) (2 * m + j - 1)] := by
  obtain ⟨t, rfl⟩ : ∃ t, j = m + t := ⟨j - m, by omega⟩
  rw [show m + t + 1 - m = t + 1 from by omega, show m + t - m = t from by omega]
  rfl
theorem ht_round {N m : Nat} (hm : 1 ≤ m) (hN : m ≤ N) : htA N m = htB N m (htA N (m - 1)) (N + 1 - m) := by
  obtain ⟨i, rfl⟩ : ∃ i, m = i + 1 := ⟨m - 1, by omega⟩
  show htB N (i + 1) (htA N i) (N - i) = _
  rw [show N + 1 - (i + 1) = N - i from by omega]
  rfl
theorem mf_next {m : Nat} (hm : 1 ≤ m) : mfA m = mfA (m - 1) ++ [nrm (ch (6 * m - 2) (2 * m - 1)) (2 * ch (4 * m - 2) (2 * m - 1))] := by
  obtain ⟨i, rfl⟩ : ∃ i, m = i + 1 := ⟨m - 1, by omega⟩
  rfl

set_option maxRecDepth 100000 in
set_option maxHeartbeats 1600000 in
theorem implHalfTurnFormula_any (n : Int) (w : World) (_hz : -9223372036854775808 ≤ n ∧ n ≤ 9223372036854775807) : Calls Try.prog 20 #[.int .i64 n] w fun e w' => IRes (1 ≤ n ∧ n ≤ 6) (htV n.toNat : Nat) e ∧ Below w.heap.size w w' := by
  obtain ⟨w1, hw1⟩ : ∃ w1, w1 = w.alloc (.cells #[.int .i64 n] 3) := ⟨_, rfl⟩
  have C := Lib.hid (allIn_any 1 6 (some ⟨w.heap.size, 0, none⟩) 1 [n] w1 (by simp) (by rw [hw1]; exact ints_oneH w _))
  have HB1 := Lib.hid (show Below w.heap.size w w1 by rw [hw1]; exact (Below.refl _ _).alloc (Nat.le_refl _) _)
  have Hw1 := Lib.hid hw1
  clear hw1
  by_cases hn : 1 ≤ n ∧ n ≤ 6
  · obtain ⟨N, rfl⟩ : ∃ N : Nat, n = N := ⟨n.toNat, by omega⟩
    have hN1 : 1 ≤ N := by omega
    have hN6 : N ≤ 6 := by omega
    have HV := Lib.hid (show ((N : Int)).toNat = N from rfl)
    have HA := Lib.hid (fun i (hi : i ≤ N) => htA_len N (by omega) i hi)
    have HBl := Lib.hid (fun i (hi : i < N) t (ht : t ≤ N - i) => htB_len N (by omega) i hi t ht)
    have Hok := Lib.hid (htA_ok N (by omega))
    have Hn := Lib.hid hn
    have HcI := Lib.hid (show htA N 0 = [(cI N, 1)] from rfl)
    have HF := Lib.hid (show htV N = (prodQ (htA N N)).1 from rfl)
    rw [HV.out]
    obtain ⟨R, hR⟩ : ∃ R, R = htV N := ⟨_, rfl⟩
    rw [← hR] at HF ⊢
    have CS := Lib.hid (show ∀ w', Calls Try.prog 45 #[.int .i64 (N : Int)] w' fun e w'' => e = .returned (.tuple #[.int .i64 (cI N : Nat), .bool true]) ∧ w' = w'' from fun w' => (implCountSigns_any (N : Int) w').mono (by
      rintro e w'' ⟨⟨y, b, he, h⟩, hw⟩
      rcases h with ⟨_, rfl, rfl⟩ | ⟨hno, _, _⟩
      · exact ⟨he, hw⟩
      · exact absurd (show inR (N : Int) from ⟨by omega, by omega⟩) hno))
    obtain ⟨S, hS⟩ : ∃ S, S = cI N := ⟨_, rfl⟩
    rw [← hS] at HcI CS
    clear hn hS hR
    go_enter Try.func20, Try.ntmps20
    go_wp2_with fail
    rw [← Hw1.out]
    refine C.out.mono ?_
    rintro e w2 ⟨ha, rfl⟩
    obtain rfl := ha.is (allIn_oneH.2 Hn.out)
    clear ha
    go_wp2_with fail
    refine (CS.out _).mono ?_
    rintro e w3 ⟨rfl, rfl⟩
    go_wp2_with fail
    refine (show Calls Try.prog 46 #[.int .i64 (S : Int)] _ fun e w'' => e = .returned (.agg #[.int .i64 (S : Int), .int .i64 1]) ∧ Below _ _ w'' from whole_any S _).mono ?_
    rintro e w4 ⟨rfl, hb4⟩
    have HB4 := Lib.hid (HB1.out.trans (hb4.mono HB1.out.size))
    clear hb4 CS C
    go_upto_region 5 with fail
    generalize hW : World.alloc w4 _ = w5
    have h0 : OwnF w5 w.heap.size (.slice (some ⟨w4.heap.size, 0, none⟩) 1 1) (htA N 0) := by
      rw [HcI.out, ← hW]
      exact (OwnF.one w4 (S, 1)).base HB4.out.size
    have H0 := Lib.hid h0
    have HB5 := Lib.hid (show Below w.heap.size w w5 from by rw [← hW]; exact HB4.out.alloc HB4.out.size _)
    clear h0 HB4 hW
    go_wp2
    go_loopw [6, 7] (fun l x wr => ∃ m : Nat, 1 ≤ m ∧ m ≤ N + 1 ∧ x = .int .i64 m ∧ OwnF wr w.heap.size l (htA N (m - 1)) ∧ Below w.heap.size w wr) (fun _ x _ => N + 1 - (intOf x).toNat)
    case atStart => exact ⟨1, Nat.le_refl _, by omega, rfl, H0.out, HB5.out⟩
    case round =>
      obtain ⟨m, hm1, hm, rfl, ho, hbr⟩ := hrel
      clear H0 HB5
      have Ho := Lib.hid ho
      have Hbr := Lib.hid hbr
      clear ho hbr
      by_cases hmN : m ≤ N
      · obtain ⟨p, hp⟩ : ∃ p, p = 3 * m - 1 := ⟨_, rfl⟩
        obtain ⟨q, hq⟩ : ∃ q, q = 3 * m - 2 := ⟨_, rfl⟩
        have e1 : 3 * (m : Int) - 1 = (p : Int) := by omega
        have e2 : 3 * (m : Int) - 2 = (q : Int) := by omega
        have k1 : IntKind.i64.wrap (p : Int) = (p : Int) := w64 (by omega)
        have k2 : IntKind.i64.wrap (q : Int) = (q : Int) := w64 (by omega)
        have k3 : IntKind.i64.wrap (3 * (m : Int)) = 3 * (m : Int) := w64 (by omega)
        have CR := fun w' => ratioOf_any p q w' (by omega) (by omega) (by omega)
        have HR0 := Lib.hid (show htB N m (htA N (m - 1)) (m - m) = htA N (m - 1) ++ [nrm (3 * m - 1) (3 * m - 2)] from by rw [Nat.sub_self]; rfl)
        rw [← hp, ← hq] at HR0
        obtain ⟨⟨z1, z2⟩, hz⟩ : ∃ z, z = nrm p q := ⟨_, rfl⟩
        rw [← hz] at HR0 CR
        have CR2 := Lib.hid (show ∀ w', Calls Try.prog 47 #[.int .i64 (p : Int), .int .i64 (q : Int)] w' fun e w'' => e = .returned (.agg #[.int .i64 (z1 : Int), .int .i64 (z2 : Int)]) ∧ Below w'.heap.size w' w'' from CR)
        have Hl1 := Lib.hid (show (htA N (m - 1)).length < 1000 by have := HA.out (m - 1) (by omega); omega)
        clear hp hq hz CR
        go_wp2_with fail
        refine (CR2.out _).mono ?_
        rintro e w6 ⟨rfl, hb6⟩
        have Ho6 := Lib.hid (Ho.out.below hb6)
        have HB6 := Lib.hid (Hbr.out.trans (hb6.mono Hbr.out.size))
        clear hb6 CR2 e1 e2 k1 k2 k3 Ho Hbr
        go_wp2_with (at_builtin; refine wpList_ratF rfl _ _ rfl w.heap.size _ _ z1 z2 Ho6.out rfl rfl HB6.out.size Hl1.out ?_)
        intro v7 w7 ho7 hb7
        rw [← HR0.out] at ho7
        have Ho7 := Lib.hid ho7
        have HB7 := Lib.hid (HB6.out.trans hb7)
        clear ho7 hb7 Ho6 HB6
        go_wp2
        go_loopw [6, 8] (fun l y wr => ∃ j : Nat, m ≤ j ∧ j ≤ N + 1 ∧ y = .int .i64 j ∧ OwnF wr w.heap.size l (htB N m (htA N (m - 1)) (j - m)) ∧ Below w.heap.size w wr) (fun _ y _ => N + 1 - (intOf y).toNat)
        case atStart => exact ⟨m, Nat.le_refl _, by omega, rfl, Ho7.out, HB7.out⟩
        case round =>
          obtain ⟨j, hj1, hj, rfl, ho, hbr⟩ := hrel
          clear Ho7 HB7
          have Ho := Lib.hid ho
          have Hbr := Lib.hid hbr
          clear ho hbr
          by_cases hjN : j ≤ N
          · obtain ⟨p, hp⟩ : ∃ p, p = N + m + j - 1 := ⟨_, rfl⟩
            obtain ⟨q, hq⟩ : ∃ q, q = 2 * m + j - 1 := ⟨_, rfl⟩
            have e1 : (N : Int) + (m : Int) + (j : Int) - 1 = (p : Int) := by omega
            have e2 : 2 * (m : Int) + (j : Int) - 1 = (q : Int) := by omega
            have k1 : IntKind.i64.wrap (p : Int) = (p : Int) := w64 (by omega)
            have k2 : IntKind.i64.wrap (q : Int) = (q : Int) := w64 (by omega)
            have k3 : IntKind.i64.wrap (2 * (m : Int)) = 2 * (m : Int) := w64 (by omega)
            have k4 : IntKind.i64.wrap ((N : Int) + (m : Int)) = (N : Int) + (m : Int) := w64 (by omega)
            have k5 : IntKind.i64.wrap ((N : Int) + (m : Int) + (j : Int)) = (N : Int) + (m : Int) + (j : Int) := w64 (by omega)
            have k6 : IntKind.i64.wrap (2 * (m : Int) + (j : Int)) = 2 * (m : Int) + (j : Int) := w64 (by omega)
            have CR := fun w' => ratioOf_any p q w' (by omega) (by omega) (by omega)
            have HR1 := Lib.hid (ht_next (N := N) hm1 hj1)
            rw [← hp, ← hq] at HR1
            obtain ⟨⟨z1, z2⟩, hz⟩ : ∃ z, z = nrm p q := ⟨_, rfl⟩
            rw [← hz] at HR1 CR
            have CR2 := Lib.hid (show ∀ w', Calls Try.prog 47 #[.int .i64 (p : Int), .int .i64 (q : Int)] w' fun e w'' => e = .returned (.agg #[.int .i64 (z1 : Int), .int .i64 (z2 : Int)]) ∧ Below w'.heap.size w' w'' from CR)
            have Hl1 := Lib.hid (show (htB N m (htA N (m - 1)) (j - m)).length < 1000 by
              have := HBl.out (m - 1) (by omega) (j - m) (by omega)
              rw [show m - 1 + 1 = m from by omega] at this
              omega)
            clear hp hq hz CR
            go_wp2_with fail
            refine (CR2.out _).mono ?_
            rintro e w6 ⟨rfl, hb6⟩
            have Ho6 := Lib.hid (Ho.out.below hb6)
            have HB6 := Lib.hid (Hbr.out.trans (hb6.mono Hbr.out.size))
            clear hb6 CR2 e1 e2 k1 k2 k3 k4 k5 k6 Ho Hbr
            go_wp2_with (at_builtin; refine wpList_ratF rfl _ _ rfl w.heap.size _ _ z1 z2 Ho6.out rfl rfl HB6.out.size Hl1.out ?_)
            intro v7 w7 ho7 hb7
            rw [← HR1.out] at ho7
            have Ho7 := Lib.hid ho7
            have HB7 := Lib.hid (HB6.out.trans hb7)
            clear ho7 hb7 Ho6 HB6
            go_wp2
            go_roundw
            case rel => exact ⟨j + 1, by omega, by omega, by go_num, Ho7.out, HB7.out⟩
            case measure => simp [intOf]; omega
          · obtain rfl : j = N + 1 := by omega
            have Ho8 := Lib.hid (show OwnF wr w.heap.size _ (htA N (m + 1 - 1)) from by rw [show m + 1 - 1 = m from rfl, ht_round hm1 hmN]; exact Ho.out)
            clear Ho
            go_wp2
            go_roundw
            case rel => exact ⟨m + 1, by omega, by omega, by go_num, Ho8.out, Hbr.out⟩
            case measure => simp [intOf]; omega
      · obtain rfl : m = N + 1 := by omega
        have ho8 : OwnF wr w.heap.size _ (htA N N) := Ho.out
        obtain ⟨ra, rc, rfl, _, _, hf⟩ := ho8.read
        have CF := Lib.hid (formula_any (htA N N) ra rc wr (by have := HA.out N (Nat.le_refl _); omega) Hok.out hf)
        rw [← HF.out] at CF
        obtain ⟨Z, hZ⟩ : ∃ Z, Z = (htA N N).length := ⟨_, rfl⟩
        rw [← hZ] at CF ⊢
        clear ho8 hf hZ Ho
        go_wp2_with fail
        refine CF.out.mono ?_
        rintro e w9 ⟨rfl, hb9⟩
        have HB9 := Lib.hid (Hbr.out.trans (hb9.mono Hbr.out.size))
        clear hb9
        go_wp2
        go_ret2
        exact ⟨IRes.yes Hn.out, HB9.out⟩
  · have Hn := Lib.hid hn
    clear hn
    go_enter Try.func20, Try.ntmps20
    go_wp2_with fail
    rw [← Hw1.out]
    refine C.out.mono ?_
    rintro e w2 ⟨ha, rfl⟩
    obtain rfl := ha.isnt (fun k => Hn.out (allIn_oneH.1 k))
    clear ha
    go_wp2
    go_ret2
    exact ⟨IRes.no Hn.out, HB1.out⟩

set_option maxRecDepth 100000 in
set_option maxHeartbeats 1600000 in
theorem implMirrorFormula_any (n : Int) (w : World) (_hz : -9223372036854775808 ≤ n ∧ n ≤ 9223372036854775807) : Calls Try.prog 22 #[.int .i64 n] w fun e w' => IRes (0 ≤ n ∧ n ≤ 5) (mfV n.toNat : Nat) e ∧ Below w.heap.size w w' := by
  obtain ⟨w1, hw1⟩ : ∃ w1, w1 = w.alloc (.cells #[.int .i64 n] 3) := ⟨_, rfl⟩
  have C := Lib.hid (allIn_any 0 5 (some ⟨w.heap.size, 0, none⟩) 1 [n] w1 (by simp) (by rw [hw1]; exact ints_oneH w _))
  have HB1 := Lib.hid (show Below w.heap.size w w1 by rw [hw1]; exact (Below.refl _ _).alloc (Nat.le_refl _) _)
  have Hw1 := Lib.hid hw1
  clear hw1
  by_cases hn : 0 ≤ n ∧ n ≤ 5
  · obtain ⟨N, rfl⟩ : ∃ N : Nat, n = N := ⟨n.toNat, by omega⟩
    have hN5 : N ≤ 5 := by omega
    have HV := Lib.hid (show ((N : Int)).toNat = N from rfl)
    have HA := Lib.hid (fun i (hi : i ≤ N) => mfA_len i (by omega))
    have Hok := Lib.hid (mfA_ok N (by omega))
    have Hn := Lib.hid hn
    have HF := Lib.hid (show mfV N = (prodQ (mfA N)).1 from rfl)
    rw [HV.out]
    obtain ⟨R, hR⟩ : ∃ R, R = mfV N := ⟨_, rfl⟩
    rw [← hR] at HF ⊢
    clear hn hR
    go_enter Try.func22, Try.ntmps22
    go_wp2_with fail
    rw [← Hw1.out]
    refine C.out.mono ?_
    rintro e w2 ⟨ha, rfl⟩
    obtain rfl := ha.is (allIn_oneH.2 Hn.out)
    clear ha C
    go_wp2
    go_loopw [4, 5] (fun l x wr => ∃ m : Nat, 1 ≤ m ∧ m ≤ N + 1 ∧ x = .int .i64 m ∧ OwnF wr w.heap.size l (mfA (m - 1)) ∧ Below w.heap.size w wr) (fun _ x _ => N + 1 - (intOf x).toNat)
    case atStart => exact ⟨1, Nat.le_refl _, by omega, rfl, OwnF.nil _ _, HB1.out⟩
    case round =>
      obtain ⟨m, hm1, hm, rfl, ho, hbr⟩ := hrel
      have Ho := Lib.hid ho
      have Hbr := Lib.hid hbr
      clear ho hbr
      by_cases hmN : m ≤ N
      · obtain ⟨b1, b2, b3⟩ := mf_b m (by omega) hm1
        have HR0 := Lib.hid (mf_next hm1)
        obtain ⟨k, hk⟩ : ∃ k, k = 2 * m - 1 := ⟨_, rfl⟩
        obtain ⟨p, hp⟩ : ∃ p, p = 6 * m - 2 := ⟨_, rfl⟩
        obtain ⟨q, hq⟩ : ∃ q, q = 4 * m - 2 := ⟨_, rfl⟩
        rw [← hk, ← hq] at b1 b2
        rw [← hk, ← hp] at b3
        rw [← hk, ← hp, ← hq] at HR0
        have e0 : 2 * (m : Int) - 1 = (k : Int) := by omega
        have e1 : 6 * (m : Int) - 2 = (p : Int) := by omega
        have e2 : 4 * (m : Int) - 2 = (q : Int) := by omega
        have k0 : IntKind.i64.wrap (k : Int) = (k : Int) := w64 (by omega)
        have k1 : IntKind.i64.wrap (p : Int) = (p : Int) := w64 (by omega)
        have k2 : IntKind.i64.wrap (q : Int) = (q : Int) := w64 (by omega)
        have k3 : IntKind.i64.wrap (2 * (m : Int)) = 2 * (m : Int) := w64 (by omega)
        have k4 : IntKind.i64.wrap (6 * (m : Int)) = 6 * (m : Int) := w64 (by omega)
        have k5 : IntKind.i64.wrap (4 * (m : Int)) = 4 * (m : Int) := w64 (by omega)
        have C1 := Lib.hid (fun w' => choicesOf9_any k p w' (by omega) (by omega) (by omega))
        have C2 := Lib.hid (fun w' => choicesOf9_any k q w' (by omega) (by omega) (by omega))
        obtain ⟨X, hX⟩ : ∃ X, X = ch p k := ⟨_, rfl⟩
        obtain ⟨Y, hY⟩ : ∃ Y, Y = ch q k := ⟨_, rfl⟩
        rw [← hX] at b3 HR0 C1
        rw [← hY] at b1 b2 HR0 C2
        obtain ⟨Y2, hY2⟩ : ∃ Y2, Y2 = 2 * Y := ⟨_, rfl⟩
        rw [← hY2] at HR0
        have e3 : 2 * (Y : Int) = (Y2 : Int) := by omega
        have k6 : IntKind.i64.wrap (Y2 : Int) = (Y2 : Int) := w64 (by omega)
        have CR := fun w' => ratioOf_any X Y2 w' (by omega) (by omega) (by omega)
        obtain ⟨⟨z1, z2⟩, hz⟩ : ∃ z, z = nrm X Y2 := ⟨_, rfl⟩
        rw [← hz] at HR0 CR
        have CR2 := Lib.hid (show ∀ w', Calls Try.prog 47 #[.int .i64 (X : Int), .int .i64 (Y2 : Int)] w' fun e w'' => e = .returned (.agg #[.int .i64 (z1 : Int), .int .i64 (z2 : Int)]) ∧ Below w'.heap.size w' w'' from CR)
        have Hl1 := Lib.hid (show (mfA (m - 1)).length < 1000 by have := HA.out (m - 1) (by omega); omega)
        clear hk hp hq hX hY hY2 hz CR
        go_wp2_with fail
        refine (C1.out _).mono ?_
        rintro e w4 ⟨rfl, rfl⟩
        go_wp2_with fail
        refine (C2.out _).mono ?_
        rintro e w5 ⟨rfl, rfl⟩
        go_wp2_with fail
        refine (CR2.out _).mono ?_
        rintro e w6 ⟨rfl, hb6⟩
        have Ho6 := Lib.hid (Ho.out.below hb6)
        have HB6 := Lib.hid (Hbr.out.trans (hb6.mono Hbr.out.size))
        clear hb6 CR2 C1 C2 e0 e1 e2 e3 k0 k1 k2 k3 k4 k5 k6 Ho Hbr b1 b2 b3
        go_wp2_with (at_builtin; refine wpList_ratF rfl _ _ rfl w.heap.size _ _ z1 z2 Ho6.out rfl rfl HB6.out.size Hl1.out ?_)
        intro v7 w7 ho7 hb7
        rw [← HR0.out] at ho7
        have Ho7 := Lib.hid ho7
        have HB7 := Lib.hid (HB6.out.trans hb7)
        clear ho7 hb7 Ho6 HB6
        go_wp2
        go_roundw
        case rel => exact ⟨m + 1, by omega, by omega, by go_num, Ho7.out, HB7.out⟩
        case measure => simp [intOf]; omega
      · obtain rfl : m = N + 1 := by omega
        have ho8 : OwnF wr w.heap.size _ (mfA N) := Ho.out
        obtain ⟨ra, rc, rfl, _, _, hf⟩ := ho8.read
        have CF := Lib.hid (formula_any (mfA N) ra rc wr (by have := HA.out N (Nat.le_refl _); omega) Hok.out hf)
        rw [← HF.out] at CF
        obtain ⟨Z, hZ⟩ : ∃ Z, Z = (mfA N).length := ⟨_, rfl⟩
        rw [← hZ] at CF ⊢
        clear ho8 hf hZ Ho
        go_wp2_with fail
        refine CF.out.mono ?_
        rintro e w9 ⟨rfl, hb9⟩
        have HB9 := Lib.hid (Hbr.out.trans (hb9.mono Hbr.out.size))
        clear hb9
        go_wp2
        go_ret2
        exact ⟨IRes.yes Hn.out, HB9.out⟩
  · have Hn := Lib.hid hn
    clear hn
    go_enter Try.func22, Try.ntmps22
    go_wp2_with fail
    rw [← Hw1.out]
    refine C.out.mono ?_
    rintro e w2 ⟨ha, rfl⟩
    obtain rfl := ha.isnt (fun k => Hn.out (allIn_oneH.1 k))
    clear ha
    go_wp2
    go_ret2
    exact ⟨IRes.no Hn.out, HB1.out⟩
end Go.Proofs.Ytgdijjfipicodaa
