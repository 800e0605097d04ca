/- Contract of the model: the ends of the drawn edges outwards, in order. Condition: 1 to 6 rows. -/
import Derived.Test.YteakdbmdokleoaaEndM
import Derived.Test.YteakdbmdokleoaaMore
import Derived.Test.YteakdbmdokleoaaImplC
namespace Go.Proofs.Yteakdbmdokleoaa
open Go.RowKit

set_option maxRecDepth 100000 in
set_option maxHeartbeats 6400000 in
theorem loEnds_any (n : Nat) (w : World) (hn1 : 1 ≤ n) (hn : n ≤ 6) :
    Calls Try.prog 85 #[.int .i64 (n : Int)] w fun e w' => ∃ v, e = .returned v ∧ OwnM w' w.heap.size v (endsM n) ∧ Below w.heap.size w w' := by
  obtain ⟨j0, hj, hy0, hy1, hy2⟩ := info_parts Try.info_ints
  have Hend := Lib.hid (segs_ends n (by omega) hn1)
  have S0 := Lib.hid (Below.refl w.heap.size w)
  have O0 := Lib.hid (OwnM.nil w w.heap.size)
  go_enter Try.func85, Try.ntmps85
  go_wp2
  go_loopw [3, 4] (fun out i wr => ∃ t : Nat, t ≤ n / 2 ∧ i = .int .i64 (2 * (t : Int) + 1) ∧ OwnM wr w.heap.size out (seg1 t) ∧ Below w.heap.size w wr) (fun _ i _ => (n - (intOf i).toNat))
  case atStart => exact ⟨0, Nat.zero_le _, by go_num, by simpa [seg1] using O0.out, S0.out⟩
  case round =>
    obtain ⟨t, ht, rfl, hown, hbr⟩ := hrel
    have Hown := Lib.hid hown
    have Hbr := Lib.hid hbr
    clear hown hbr O0 S0
    by_cases hlt : 2 * t + 1 < n
    · skip
      obtain ⟨M, hM⟩ : ∃ M, M = seg1 t := ⟨_, rfl⟩
      have hml : M.length ≤ 64 := by rw [hM]; have h1 := seg1_len (n / 2); have h1t := seg1_len t; have h2 := seg2_len n n; have h2t := seg2_len n t; have h3 := seg3_len n n; have h3t := seg3_len n t; have h4t := seg4_len n t; (try simp only [List.length_append]); omega
      have Hsn := Lib.hid (show seg1 (t + 1) = M ++ [[0, 0, (2 * (t : Int) + 1)]] by rw [hM, seg1_succ])
      rw [← hM] at Hown
      obtain ⟨vs, hown⟩ := Hown.out
      have Hnew := Lib.hid ((Below.refl wr.heap.size wr).alloc (Nat.le_refl _) (.cells #[.int .i64 0, .int .i64 0, .int .i64 (2 * (t : Int) + 1)] 3))
      have Hown3 := Lib.hid ((hown.below Hnew.out).more (r := [0, 0, (2 * (t : Int) + 1)]))
      have hu : OwnI (wr.alloc (.cells #[.int .i64 0, .int .i64 0, .int .i64 (2 * (t : Int) + 1)] 3)) wr.heap.size (.slice (some ⟨wr.heap.size, 0, none⟩) 3 3) [0, 0, (2 * (t : Int) + 1)] := World.ownsRow_lit wr #[.int .i64 0, .int .i64 0, .int .i64 (2 * (t : Int) + 1)] 3 (Nat.le_refl _) (by unfold maxLen; omega) rfl
      have Hu := Lib.hid hu
      have Hfr := Lib.hid (hown.fresh hu (Nat.le_refl _))
      have HZ := Lib.hid Hbr.out.size
      clear hu hown Hown hM
      go_wp2_with (at_builtin; refine wpList_append_own _ rfl _ _ 22 rfl w.heap.size 42 j0 (.slice none 0 0) 1 24 Try.underlying22 hj hy0 hy1 hy2 rfl (by decide) _ _ _ rfl (World.ownsRow.alloc Hown3.out.top _) ⟨wr.heap.size + 1, 0, none⟩ 1 1 [.slice (some ⟨wr.heap.size, 0, none⟩) 3 3] rfl rfl ?d1 ?d2 ?d3 ?d4 ?d5 ?_)
      case d1 =>
        have e : (wr.alloc (.cells #[.int .i64 0, .int .i64 0, .int .i64 (2 * (t : Int) + 1)] 3)).heap.size = wr.heap.size + 1 := by simp
        rw [← e]
        exact cell_one_new _ _ _
      case d2 => intro u hu; simp at hu; subst hu; rfl
      case d3 => unfold maxLen; omega
      case d4 => omega
      case d5 => have := HZ.out; simp; omega
      intro v' w5 hown' hgrow _
      have hput := Hown3.out.snoc (Nat.le_trans HZ.out Hnew.out.size) (by rw [gr_last]; exact Hu.out.base HZ.out) Hfr.out hown' hgrow
      have Hput := Lib.hid (show OwnM w5 w.heap.size v' (M ++ [[0, 0, (2 * (t : Int) + 1)]]) from ⟨_, by rw [List.length_append]; exact hput.1⟩)
      have Hb5 := Lib.hid ((Hbr.out.trans (Hnew.out.mono HZ.out)).trans hput.2)
      clear hput hown' hgrow Hown3 Hu Hfr Hnew Hbr
      go_wp2
      go_roundw
      case rel => exact ⟨t + 1, by omega, by go_num, by rw [Hsn.out]; exact Hput.out, Hb5.out⟩
      case measure => simp [intOf]; omega
    · have Et := Lib.hid (show t = n / 2 by omega)
      have o1 := Hown.out
      rw [Et.out] at o1
      have O1 := Lib.hid o1
      clear o1
      have S1 := Lib.hid Hbr.out
      clear Hown Hbr
      go_wp2
      go_loopw [3, 5] (fun out i wr => ∃ t : Nat, t ≤ n ∧ i = .int .i64 t ∧ OwnM wr w.heap.size out (seg1 (n / 2) ++ seg2 n t) ∧ Below w.heap.size w wr) (fun _ i _ => (n - (intOf i).toNat))
      case atStart => exact ⟨0, Nat.zero_le _, by go_num, by simpa [seg2] using O1.out, S1.out⟩
      case round =>
        obtain ⟨t, ht, rfl, hown, hbr⟩ := hrel
        have Hown := Lib.hid hown
        have Hbr := Lib.hid hbr
        clear hown hbr O1 S1
        by_cases hlt : t < n
        · by_cases hc : (n + t) % 2 = 1
          · have hb : (((n : Int) + (t : Int)) % 2 == 1) = true := by simp; omega
            obtain ⟨M, hM⟩ : ∃ M, M = seg1 (n / 2) ++ seg2 n t := ⟨_, rfl⟩
            have hml : M.length ≤ 64 := by rw [hM]; have h1 := seg1_len (n / 2); have h1t := seg1_len t; have h2 := seg2_len n n; have h2t := seg2_len n t; have h3 := seg3_len n n; have h3t := seg3_len n t; have h4t := seg4_len n t; (try simp only [List.length_append]); omega
            have Hsn := Lib.hid (show seg1 (n / 2) ++ seg2 n (t + 1) = M ++ [[1, (t : Int), ((n : Int) - 1)]] by rw [hM, seg2_yes hc]; simp only [List.append_assoc])
            rw [← hM] at Hown
            obtain ⟨vs, hown⟩ := Hown.out
            have Hnew := Lib.hid ((Below.refl wr.heap.size wr).alloc (Nat.le_refl _) (.cells #[.int .i64 1, .int .i64 (t : Int), .int .i64 ((n : Int) - 1)] 3))
            have Hown3 := Lib.hid ((hown.below Hnew.out).more (r := [1, (t : Int), ((n : Int) - 1)]))
            have hu : OwnI (wr.alloc (.cells #[.int .i64 1, .int .i64 (t : Int), .int .i64 ((n : Int) - 1)] 3)) wr.heap.size (.slice (some ⟨wr.heap.size, 0, none⟩) 3 3) [1, (t : Int), ((n : Int) - 1)] := World.ownsRow_lit wr #[.int .i64 1, .int .i64 (t : Int), .int .i64 ((n : Int) - 1)] 3 (Nat.le_refl _) (by unfold maxLen; omega) rfl
            have Hu := Lib.hid hu
            have Hfr := Lib.hid (hown.fresh hu (Nat.le_refl _))
            have HZ := Lib.hid Hbr.out.size
            clear hu hown Hown hM
            go_wp2_with (at_builtin; refine wpList_append_own _ rfl _ _ 22 rfl w.heap.size 42 j0 (.slice none 0 0) 1 24 Try.underlying22 hj hy0 hy1 hy2 rfl (by decide) _ _ _ rfl (World.ownsRow.alloc Hown3.out.top _) ⟨wr.heap.size + 1, 0, none⟩ 1 1 [.slice (some ⟨wr.heap.size, 0, none⟩) 3 3] rfl rfl ?d1 ?d2 ?d3 ?d4 ?d5 ?_)
            case d1 =>
              have e : (wr.alloc (.cells #[.int .i64 1, .int .i64 (t : Int), .int .i64 ((n : Int) - 1)] 3)).heap.size = wr.heap.size + 1 := by simp
              rw [← e]
              exact cell_one_new _ _ _
            case d2 => intro u hu; simp at hu; subst hu; rfl
            case d3 => unfold maxLen; omega
            case d4 => omega
            case d5 => have := HZ.out; simp; omega
            intro v' w5 hown' hgrow _
            have hput := Hown3.out.snoc (Nat.le_trans HZ.out Hnew.out.size) (by rw [gr_last]; exact Hu.out.base HZ.out) Hfr.out hown' hgrow
            have Hput := Lib.hid (show OwnM w5 w.heap.size v' (M ++ [[1, (t : Int), ((n : Int) - 1)]]) from ⟨_, by rw [List.length_append]; exact hput.1⟩)
            have Hb5 := Lib.hid ((Hbr.out.trans (Hnew.out.mono HZ.out)).trans hput.2)
            clear hput hown' hgrow Hown3 Hu Hfr Hnew Hbr
            go_wp2
            go_roundw
            case rel => exact ⟨t + 1, by omega, by go_num, by rw [Hsn.out]; exact Hput.out, Hb5.out⟩
            case measure => simp [intOf]; omega
          · have hb : (((n : Int) + (t : Int)) % 2 == 1) = false := by simp; omega
            have Hsn := Lib.hid (seg2_no hc)
            go_wp2
            go_roundw
            case rel => exact ⟨t + 1, by omega, by go_num, by rw [Hsn.out]; exact Hown.out, Hbr.out⟩
            case measure => simp [intOf]; omega
        · have Et := Lib.hid (show t = n by omega)
          have o2 := Hown.out
          rw [Et.out] at o2
          have O2 := Lib.hid o2
          clear o2
          have S2 := Lib.hid Hbr.out
          clear Hown Hbr
          go_wp2
          go_loopw [3, 6] (fun out i wr => ∃ t : Nat, t ≤ n ∧ i = .int .i64 ((n : Int) - 1 - t) ∧ OwnM wr w.heap.size out (seg1 (n / 2) ++ seg2 n n ++ seg3 n t) ∧ Below w.heap.size w wr) (fun _ i _ => ((intOf i + 1).toNat))
          case atStart => exact ⟨0, Nat.zero_le _, by go_num, by simpa [seg3] using O2.out, S2.out⟩
          case round =>
            obtain ⟨t, ht, rfl, hown, hbr⟩ := hrel
            have Hown := Lib.hid hown
            have Hbr := Lib.hid hbr
            clear hown hbr O2 S2
            by_cases hlt : t < n
            · by_cases hc : (n + (n - 1 - t)) % 2 = 0
              · have hb : (((n : Int) + ((n : Int) - 1 - (t : Int))) % 2 == 0) = true := by simp; omega
                have hjj : ((n - 1 - t : Nat) : Int) = (n : Int) - 1 - (t : Int) := by omega
                obtain ⟨M, hM⟩ : ∃ M, M = seg1 (n / 2) ++ seg2 n n ++ seg3 n t := ⟨_, rfl⟩
                have hml : M.length ≤ 64 := by rw [hM]; have h1 := seg1_len (n / 2); have h1t := seg1_len t; have h2 := seg2_len n n; have h2t := seg2_len n t; have h3 := seg3_len n n; have h3t := seg3_len n t; have h4t := seg4_len n t; (try simp only [List.length_append]); omega
                have Hsn := Lib.hid (show seg1 (n / 2) ++ seg2 n n ++ seg3 n (t + 1) = M ++ [[2, ((n : Int) - 1), ((n : Int) - 1 - (t : Int))]] by rw [hM, seg3_yes hc]; simp only [hjj, List.append_assoc])
                rw [← hM] at Hown
                obtain ⟨vs, hown⟩ := Hown.out
                have Hnew := Lib.hid ((Below.refl wr.heap.size wr).alloc (Nat.le_refl _) (.cells #[.int .i64 2, .int .i64 ((n : Int) - 1), .int .i64 ((n : Int) - 1 - (t : Int))] 3))
                have Hown3 := Lib.hid ((hown.below Hnew.out).more (r := [2, ((n : Int) - 1), ((n : Int) - 1 - (t : Int))]))
                have hu : OwnI (wr.alloc (.cells #[.int .i64 2, .int .i64 ((n : Int) - 1), .int .i64 ((n : Int) - 1 - (t : Int))] 3)) wr.heap.size (.slice (some ⟨wr.heap.size, 0, none⟩) 3 3) [2, ((n : Int) - 1), ((n : Int) - 1 - (t : Int))] := World.ownsRow_lit wr #[.int .i64 2, .int .i64 ((n : Int) - 1), .int .i64 ((n : Int) - 1 - (t : Int))] 3 (Nat.le_refl _) (by unfold maxLen; omega) rfl
                have Hu := Lib.hid hu
                have Hfr := Lib.hid (hown.fresh hu (Nat.le_refl _))
                have HZ := Lib.hid Hbr.out.size
                clear hu hown Hown hM
                go_wp2_with (at_builtin; refine wpList_append_own _ rfl _ _ 22 rfl w.heap.size 42 j0 (.slice none 0 0) 1 24 Try.underlying22 hj hy0 hy1 hy2 rfl (by decide) _ _ _ rfl (World.ownsRow.alloc Hown3.out.top _) ⟨wr.heap.size + 1, 0, none⟩ 1 1 [.slice (some ⟨wr.heap.size, 0, none⟩) 3 3] rfl rfl ?d1 ?d2 ?d3 ?d4 ?d5 ?_)
                case d1 =>
                  have e : (wr.alloc (.cells #[.int .i64 2, .int .i64 ((n : Int) - 1), .int .i64 ((n : Int) - 1 - (t : Int))] 3)).heap.size = wr.heap.size + 1 := by simp
                  rw [← e]
                  exact cell_one_new _ _ _
                case d2 => intro u hu; simp at hu; subst hu; rfl
                case d3 => unfold maxLen; omega
                case d4 => omega
                case d5 => have := HZ.out; simp; omega
                intro v' w5 hown' hgrow _
                have hput := Hown3.out.snoc (Nat.le_trans HZ.out Hnew.out.size) (by rw [gr_last]; exact Hu.out.base HZ.out) Hfr.out hown' hgrow
                have Hput := Lib.hid (show OwnM w5 w.heap.size v' (M ++ [[2, ((n : Int) - 1), ((n : Int) - 1 - (t : Int))]]) from ⟨_, by rw [List.length_append]; exact hput.1⟩)
                have Hb5 := Lib.hid ((Hbr.out.trans (Hnew.out.mono HZ.out)).trans hput.2)
                clear hput hown' hgrow Hown3 Hu Hfr Hnew Hbr
                go_wp2
                go_roundw
                case rel => exact ⟨t + 1, by omega, by go_num, by rw [Hsn.out]; exact Hput.out, Hb5.out⟩
                case measure => simp [intOf]; omega
              · have hb : (((n : Int) + ((n : Int) - 1 - (t : Int))) % 2 == 0) = false := by simp; omega
                have Hsn := Lib.hid (seg3_no hc)
                go_wp2
                go_roundw
                case rel => exact ⟨t + 1, by omega, by go_num, by rw [Hsn.out]; exact Hown.out, Hbr.out⟩
                case measure => simp [intOf]; omega
            · have Et := Lib.hid (show t = n by omega)
              have o3 := Hown.out
              rw [Et.out] at o3
              have O3 := Lib.hid o3
              clear o3
              have S3 := Lib.hid Hbr.out
              clear Hown Hbr
              go_wp2
              go_loopw [3, 7] (fun out i wr => ∃ t : Nat, t ≤ n ∧ i = .int .i64 ((n : Int) - 1 - t) ∧ OwnM wr w.heap.size out (seg1 (n / 2) ++ seg2 n n ++ seg3 n n ++ seg4 n t) ∧ Below w.heap.size w wr) (fun _ i _ => ((intOf i + 1).toNat))
              case atStart => exact ⟨0, Nat.zero_le _, by go_num, by simpa [seg4] using O3.out, S3.out⟩
              case round =>
                obtain ⟨t, ht, rfl, hown, hbr⟩ := hrel
                have Hown := Lib.hid hown
                have Hbr := Lib.hid hbr
                clear hown hbr O3 S3
                by_cases hlt : t < n
                · by_cases hc : (n - 1 - t) % 2 = 0
                  · have hb : (((n : Int) - 1 - (t : Int)) % 2 == 0) = true := by simp; omega
                    have hjj : ((n - 1 - t : Nat) : Int) = (n : Int) - 1 - (t : Int) := by omega
                    obtain ⟨M, hM⟩ : ∃ M, M = seg1 (n / 2) ++ seg2 n n ++ seg3 n n ++ seg4 n t := ⟨_, rfl⟩
                    have hml : M.length ≤ 64 := by rw [hM]; have h1 := seg1_len (n / 2); have h1t := seg1_len t; have h2 := seg2_len n n; have h2t := seg2_len n t; have h3 := seg3_len n n; have h3t := seg3_len n t; have h4t := seg4_len n t; (try simp only [List.length_append]); omega
                    have Hsn := Lib.hid (show seg1 (n / 2) ++ seg2 n n ++ seg3 n n ++ seg4 n (t + 1) = M ++ [[3, ((n : Int) - 1 - (t : Int)), 0]] by rw [hM, seg4_yes hc]; simp only [hjj, List.append_assoc])
                    rw [← hM] at Hown
                    obtain ⟨vs, hown⟩ := Hown.out
                    have Hnew := Lib.hid ((Below.refl wr.heap.size wr).alloc (Nat.le_refl _) (.cells #[.int .i64 3, .int .i64 ((n : Int) - 1 - (t : Int)), .int .i64 0] 3))
                    have Hown3 := Lib.hid ((hown.below Hnew.out).more (r := [3, ((n : Int) - 1 - (t : Int)), 0]))
                    have hu : OwnI (wr.alloc (.cells #[.int .i64 3, .int .i64 ((n : Int) - 1 - (t : Int)), .int .i64 0] 3)) wr.heap.size (.slice (some ⟨wr.heap.size, 0, none⟩) 3 3) [3, ((n : Int) - 1 - (t : Int)), 0] := World.ownsRow_lit wr #[.int .i64 3, .int .i64 ((n : Int) - 1 - (t : Int)), .int .i64 0] 3 (Nat.le_refl _) (by unfold maxLen; omega) rfl
                    have Hu := Lib.hid hu
                    have Hfr := Lib.hid (hown.fresh hu (Nat.le_refl _))
                    have HZ := Lib.hid Hbr.out.size
                    clear hu hown Hown hM
                    go_wp2_with (at_builtin; refine wpList_append_own _ rfl _ _ 22 rfl w.heap.size 42 j0 (.slice none 0 0) 1 24 Try.underlying22 hj hy0 hy1 hy2 rfl (by decide) _ _ _ rfl (World.ownsRow.alloc Hown3.out.top _) ⟨wr.heap.size + 1, 0, none⟩ 1 1 [.slice (some ⟨wr.heap.size, 0, none⟩) 3 3] rfl rfl ?d1 ?d2 ?d3 ?d4 ?d5 ?_)
                    case d1 =>
                      have e : (wr.alloc (.cells #[.int .i64 3, .int .i64 ((n : Int) - 1 - (t : Int)), .int .i64 0] 3)).heap.size = wr.heap.size + 1 := by simp
                      rw [← e]
                      exact cell_one_new _ _ _
                    case d2 => intro u hu; simp at hu; subst hu; rfl
                    case d3 => unfold maxLen; omega
                    case d4 => omega
                    case d5 => have := HZ.out; simp; omega
                    intro v' w5 hown' hgrow _
                    have hput := Hown3.out.snoc (Nat.le_trans HZ.out Hnew.out.size) (by rw [gr_last]; exact Hu.out.base HZ.out) Hfr.out hown' hgrow
                    have Hput := Lib.hid (show OwnM w5 w.heap.size v' (M ++ [[3, ((n : Int) - 1 - (t : Int)), 0]]) from ⟨_, by rw [List.length_append]; exact hput.1⟩)
                    have Hb5 := Lib.hid ((Hbr.out.trans (Hnew.out.mono HZ.out)).trans hput.2)
                    clear hput hown' hgrow Hown3 Hu Hfr Hnew Hbr
                    go_wp2
                    go_roundw
                    case rel => exact ⟨t + 1, by omega, by go_num, by rw [Hsn.out]; exact Hput.out, Hb5.out⟩
                    case measure => simp [intOf]; omega
                  · have hb : (((n : Int) - 1 - (t : Int)) % 2 == 0) = false := by simp; omega
                    have Hsn := Lib.hid (seg4_no hc)
                    go_wp2
                    go_roundw
                    case rel => exact ⟨t + 1, by omega, by go_num, by rw [Hsn.out]; exact Hown.out, Hbr.out⟩
                    case measure => simp [intOf]; omega
                · have Et := Lib.hid (show t = n by omega)
                  have o4 := Hown.out
                  rw [Et.out] at o4
                  have O4 := Lib.hid o4
                  clear o4
                  have S4 := Lib.hid Hbr.out
                  clear Hown Hbr
                  go_wp2
                  go_ret
                  exact ⟨_, rfl, by rw [← Hend.out]; exact O4.out, S4.out⟩
end Go.Proofs.Yteakdbmdokleoaa
