/- Contract: sign matrices counted by inversions, by the model. Condition: up to 5 columns. -/
import Derived.Test.YtcifcombbdblgaaDoorStep
import Derived.Test.YtcifcombbdblgaaDoorWays
namespace Go.Proofs.YtcifcombbdblgaaDoor
open Go.RowKit

set_option maxRecDepth 100000 in
set_option maxHeartbeats 400000 in
theorem trSpreadAdd_any (N : Nat) (hN : N ≤ 5) (SZ : Nat) (hSZ : SZ = N * N + 1) : ∀ (d : Nat) (xs : List Int) (a1 : Option Addr) (c1 B0 kb kc : Nat) (s : Int) (ks : List Int) (w : World), xs.length + d = N → ColsN N xs → IntsAt w a1 xs → (∀ b o, a1 = some ⟨b, o, none⟩ → b ≠ kb) → OwnI w B0 (.slice (some ⟨kb, 0, none⟩) SZ kc) ks → B0 ≤ kb → okF nextAdd N d xs s = true → -9223372036854775808 ≤ s ∧ s ≤ 9223372036854775807 →
    Calls Tryd.prog 99 #[.slice a1 xs.length c1, .slice (some ⟨kb, 0, none⟩) SZ kc, .int .i64 s, .int .i64 (N : Int), .bool true] w fun e w' => e = .returned (.tuple #[]) ∧ OwnI w' B0 (.slice (some ⟨kb, 0, none⟩) SZ kc) (spreadF nextAdd N d xs s ks) ∧ w.grownBy w' (some kb) := by
  intro d
  induction d with
  | zero =>
    intro xs a1 c1 B0 kb kc s ks w hl hr hx hap hown hB hok hsb
    have hb : ((xs.length : Int) == (N : Int)) = true := by simp; omega
    have hmx : xs.length ≤ 9223372036854775807 := by omega
    obtain ⟨ho1, ho2⟩ : 0 ≤ s ∧ s ≤ ((N * N : Nat) : Int) := by
      unfold okF at hok
      simp only [Bool.and_eq_true, decide_eq_true_eq] at hok
      exact hok
    obtain ⟨m, rfl⟩ : ∃ m : Nat, s = (m : Int) := ⟨s.toNat, by omega⟩
    have hSb : SZ ≤ 26 := by rw [hSZ]; have := Nat.mul_le_mul hN hN; omega
    have hm : m < SZ := by omega
    have hc := hown.cellAt m hm
    have hfr := hown.frozenAt m
    obtain ⟨u, hu⟩ : ∃ u, u = gi ks m := ⟨_, rfl⟩
    rw [← hu] at hc
    have hst := hown.store m (wrap64 (u + 1))
    have Hst := Lib.hid (show OwnI (w.setCell ⟨kb, m, none⟩ (.int .i64 (wrap64 (u + 1)))) B0 (.slice (some ⟨kb, 0, none⟩) SZ kc) (spreadF nextAdd N 0 xs (m : Int) ks) by
      unfold spreadF bump
      rw [Int.toNat_natCast, ← hu]
      exact hst)
    have Hgs := Lib.hid (show w.grownBy (w.setCell ⟨kb, m, none⟩ (.int .i64 (wrap64 (u + 1)))) (some kb) from ⟨rfl, rfl, rfl, by simp [World.setCell], fun b hb hne => Below.heap_setCell _ _ _ _ (fun e => hne (by rw [e]))⟩)
    clear hl hr hx hap hown hu hst hok hSZ ho1 ho2
    go_enter Tryd.func99, Tryd.ntmps99
    go_wp2
    (try simp only [Exit.inBlock, Exit.then]); refine bodyPost_ret (results_none rfl _ _ _) rfl ?_
    exact ⟨rfl, Hst.out, Hgs.out⟩
  | succ d ih =>
    intro xs a1 c1 B0 kb kc s ks w hl hr hx hap hown hB hok hsb
    have hb : ((xs.length : Int) == (N : Int)) = false := by simp; omega
    have hmx : xs.length ≤ 9223372036854775807 := by omega
    have h6 : xs.length ≤ 6 := by omega
    have Hl := Lib.hid hl
    have Hr := Lib.hid hr
    have Hx := Lib.hid hx
    have Hap := Lib.hid hap
    have Hown := Lib.hid hown
    have Hok := Lib.hid hok
    have Hih := Lib.hid ih
    have HSZ := Lib.hid hSZ
    have Hsb := Lib.hid hsb
    have Ht := Lib.hid (trBehind_any N (by omega) xs Hr.out h6 (xs.length + 1) [] a1 none c1 0 w (by simp) (by simp) (fun x hx => by cases hx) (fun _ => rfl) Hx.out (IntsAt.nil _ _))
    have Ha := Lib.hid (show bhRes N xs [] = behind N xs by simp [bhRes, behind, lst_nil])
    clear hl hr hx hap hown hok ih hSZ hsb
    go_enter Tryd.func99, Tryd.ntmps99
    go_wp2_with fail
    refine Ht.out.mono ?_
    rintro e w1 ⟨v1, rfl, hv, hb1⟩
    rw [Ha.out] at hv
    obtain ⟨A, hA⟩ : ∃ A, A = behind N xs := ⟨_, rfl⟩
    rw [← hA] at hv
    obtain ⟨ra, rc, rfl, _, _, hmat⟩ := hv.read
    have hal : A.length ≤ 1048576 := by
      rw [hA]
      exact behind_len (by omega) Hr.out h6
    have Hv := Lib.hid hv
    have HA := Lib.hid hA
    have Hb1 := Lib.hid hb1
    have Hown1 := Lib.hid (Hown.out.below hb1)
    have hkbl : kb < w.heap.size := (Hown.out.lt kb rfl).2
    have hamx : A.length ≤ 9223372036854775807 := by omega
    have HF := Lib.hid (show spreadF nextAdd N (d + 1) xs s ks = A.foldl (fun c ys => spreadF nextAdd N d ys (nextAdd N xs ys s) c) ks by rw [hA]; rfl)
    have HO := Lib.hid (show ∀ ys ∈ A, okF nextAdd N d ys (nextAdd N xs ys s) = true by rw [hA]; exact List.all_eq_true.1 Hok.out)
    obtain ⟨fo, hfo⟩ : ∃ fo, fo = fun (c : List Int) (ys : List Int) => spreadF nextAdd N d ys (nextAdd N xs ys s) c := ⟨_, rfl⟩
    rw [← hfo] at HF
    have Hfo := Lib.hid hfo
    clear hv hmat hA hb1 hfo
    go_wp2
    go_loopw [33] (fun i wr => ∃ k : Nat, k ≤ A.length ∧ i = .int .i64 k ∧ OwnI wr B0 (.slice (some ⟨kb, 0, none⟩) SZ kc) ((A.take k).foldl fo ks) ∧ w1.grownBy wr (some kb))
      (fun i _ => A.length - (intOf i).toNat)
    case atStart => exact ⟨0, Nat.zero_le _, rfl, Hown1.out, World.grownBy.refl _ _⟩
    case round =>
      obtain ⟨k, hk, rfl, hownr, hg⟩ := hrel
      by_cases hlt : k < A.length
      · obtain ⟨us, hp⟩ := Hv.out
        obtain ⟨ao', c', hsl, _, _, hcells⟩ := ownsRow_read hp.top
        cases hsl
        obtain ⟨b1, o1, e1, hc1⟩ := hcells k hlt
        obtain ⟨r1, d1, hr1, _, _, hx1⟩ := (hp.rows k hlt).read
        rw [hr1] at hc1
        have hmem := behind_mem (n := N) (row := xs) (ys := gr A k) Hr.out (by have := gr_mem hlt; rw [HA.out] at this ⊢; exact this)
        have hok1 := HO.out (gr A k) (gr_mem hlt)
        have hcell : wr.cell? ⟨b1, o1 + k, none⟩ = some (.slice r1 (gr A k).length d1) := hg.cell hc1 (fun e => by
          have := (World.ownsRow.lt hp.top b1 (by rw [e1]; rfl)).1
          simp at e; omega)
        have hap' : ∀ b o, r1 = some ⟨b, o, none⟩ → b ≠ kb := fun b o e => by
          have := ((hp.rows k hlt).lt b (by rw [hr1, e]; rfl)).1
          omega
        have hxr : IntsAt wr r1 (gr A k) := fun i hi => by
          obtain ⟨b, o, e, hcc⟩ := hx1 i hi
          exact ⟨b, o, e, hg.cell hcc (fun e2 => hap' b o e (by simpa using e2))⟩
        have hxs : IntsAt wr a1 xs := fun i hi => by
          obtain ⟨b, o, e, hcc⟩ := Hx.out.below Hb1.out i hi
          exact ⟨b, o, e, hg.cell hcc (fun e2 => Hap.out b o e (by simpa using e2))⟩
        have hstep := trStep_any a1 r1 c1 d1 N xs (gr A k) wr (by omega) (by omega) (by have := hmem.2; omega) Hr.out.2 hmem.1.2 hxs hxr
        have Hf := Lib.hid (show (A.take (k + 1)).foldl fo ks = spreadF nextAdd N d (gr A k) (nextAdd N xs (gr A k) s) ((A.take k).foldl fo ks) by
          rw [List.take_succ_eq_append_getElem hlt, List.foldl_append, ← gr_lt hlt, List.foldl_cons, List.foldl_nil, Hfo.out])
        have Hlen1 := Lib.hid (show (gr A k).length + d = N by have := hmem.2; have := Hl.out; omega)
        have Hmem := Lib.hid hmem.1
        obtain ⟨Y, hY⟩ : ∃ Y, Y = gr A k := ⟨_, rfl⟩
        obtain ⟨kq, hkq⟩ : ∃ kq, kq = (A.take k).foldl fo ks := ⟨_, rfl⟩
        rw [← hY] at hcell hxr hstep Hf Hlen1 Hmem hok1
        rw [← hkq] at hownr Hf
        have hyb : Y.length ≤ 6 := by have := Hlen1.out; omega
        obtain ⟨rl, hrl⟩ : ∃ rl, rl = Y.length := ⟨_, rfl⟩
        have Hrl := Lib.hid hrl
        rw [← hrl] at hcell hstep hyb
        have Hstep := Lib.hid hstep
        have Hxs := Lib.hid hxs
        have Hxr := Lib.hid hxr
        have Hap' := Lib.hid hap'
        have Hownr := Lib.hid hownr
        have Hg := Lib.hid hg
        have Hok1 := Lib.hid hok1
        subst e1
        clear hp hcells hc1 hr1 hx1 hmem hap' hxr hxs hstep hownr hg hY hkq hok1 hrl
        go_wp2_with fail
        refine Hstep.out.mono ?_
        rintro e w3 ⟨v3, rfl, hv3, hb3⟩
        obtain ⟨st, hstv⟩ : ∃ st, st = stepF N xs Y := ⟨_, rfl⟩
        rw [← hstv] at hv3
        have hstl : st.length ≤ 16 := by rw [hstv, stepF_len]; omega
        obtain ⟨sa, cs, rfl, _, _, hm3⟩ := hv3.read
        have Hst := Lib.hid hm3
        have Hstv := Lib.hid hstv
        have Hxs3 := Lib.hid (Hxs.out.below hb3)
        have Hxr3 := Lib.hid (Hxr.out.below hb3)
        have Hown3 := Lib.hid (Hownr.out.below hb3)
        have Hg3 := Lib.hid (Hg.out.trans ((grown_of_below' hb3).but (some kb)))
        obtain ⟨s', hs'⟩ : ∃ s', s' = nextAdd N xs Y s := ⟨_, rfl⟩
        have Hsx := Lib.hid hs'
        have hs'b : -9223372036854775808 ≤ s' ∧ s' ≤ 9223372036854775807 := by rw [hs']; unfold nextAdd; unfold wrap64; omega
        have Hsb' := Lib.hid hs'b
        have Hcall := Lib.hid (Hih.out Y r1 d1 B0 kb kc s' kq w3 Hlen1.out Hmem.out Hxr3.out Hap'.out Hown3.out hB (by rw [hs']; exact Hok1.out) hs'b)
        rw [← Hrl.out] at Hcall
        clear hv3 hb3 hm3 hstv hs' hs'b
        have hstm : st.length ≤ 9223372036854775807 := by omega
        go_wp2
        go_loop [12, 14, 43] (fun z a i => ∃ j : Nat, j ≤ st.length ∧ i = .int .i64 j ∧ z = .int .i64 0 ∧ a = .int .i64 (addF xs st j)) (fun _ _ i => st.length - (intOf i).toNat)
        case atStart => exact ⟨0, Nat.zero_le _, rfl, rfl, rfl⟩
        case round =>
          obtain ⟨j, hj, rfl, rfl, rfl⟩ := hrel
          by_cases hjl : j < st.length
          · obtain ⟨b2, o2, rfl, hc2⟩ := Hst.out j hjl
            obtain ⟨x, hx⟩ : ∃ x, x = gi st j := ⟨_, rfl⟩
            obtain ⟨u, hu⟩ : ∃ u, u = addF xs st j := ⟨_, rfl⟩
            rw [← hx] at hc2
            rw [← hu]
            have E := Lib.hid (show addF xs st (j + 1) = addIn xs j x u xs.length by rw [addF, ← hx, ← hu])
            clear hx hu
            go_wp2
            go_loop [14, 59] (fun a i => ∃ l : Nat, l ≤ xs.length ∧ i = .int .i64 l ∧ a = .int .i64 (addIn xs j x u l)) (fun _ i => xs.length - (intOf i).toNat)
            case atStart => exact ⟨0, Nat.zero_le _, rfl, rfl⟩
            case round =>
              obtain ⟨l, hl', rfl, rfl⟩ := hrel
              by_cases hll : l < xs.length
              · obtain ⟨b3, o3, e3, hc3⟩ := Hxs3.out l hll
                subst e3
                obtain ⟨y, hy⟩ : ∃ y, y = gi xs l := ⟨_, rfl⟩
                obtain ⟨z, hz⟩ : ∃ z, z = addIn xs j x u l := ⟨_, rfl⟩
                rw [← hy] at hc3
                rw [← hz]
                by_cases hgt : (j : Int) < y
                · have E2 := Lib.hid (show addIn xs j x u (l + 1) = wrap64 (z + x) by rw [addIn, ← hy, if_pos hgt, hz])
                  have hd : decide ((j : Int) < y) = true := by simpa using hgt
                  clear hy hz hgt
                  go_wp2
                  go_round
                  case rel => exact ⟨l + 1, by omega, by go_num, by rw [E2.out]⟩
                  case measure => simp [intOf]; omega
                · have E2 := Lib.hid (show addIn xs j x u (l + 1) = z by rw [addIn, ← hy, if_neg hgt, hz])
                  have hd : decide ((j : Int) < y) = false := by simpa using hgt
                  clear hy hz hgt
                  go_wp2
                  go_round
                  case rel => exact ⟨l + 1, by omega, by go_num, by rw [E2.out]⟩
                  case measure => simp [intOf]; omega
              · obtain rfl : l = xs.length := by omega
                rw [← E.out]
                go_wp2
                go_round
                case rel => exact ⟨j + 1, by omega, by go_num, rfl, rfl⟩
                case measure => simp [intOf]; omega
          · obtain rfl : j = st.length := by omega
            obtain ⟨u, hu⟩ : ∃ u, u = addF xs st st.length := ⟨_, rfl⟩
            rw [← hu]
            have hs1 : wrap64 (s + u) = s' := by rw [Hsx.out, hu, Hstv.out]; rfl
            have hs2 : wrap64 s' = s' := by have := Hsb'.out; unfold wrap64; omega
            have hs3 : wrap64 s = s := by have := Hsb.out; unfold wrap64; omega
            clear hu
            go_wp2_with fail
            clear hs1 hs2 hs3
            refine Hcall.out.mono ?_
            rintro e w4 ⟨rfl, ho4, hg4⟩
            have Ho4 := Lib.hid (show OwnI w4 B0 (.slice (some ⟨kb, 0, none⟩) SZ kc) ((A.take (k + 1)).foldl fo ks) by rw [Hf.out, ← Hsx.out]; exact ho4)
            have Hg4 := Lib.hid (Hg3.out.trans hg4)
            clear ho4 hg4
            go_wp2
            go_roundw
            case rel => exact ⟨k + 1, by omega, by go_num, Ho4.out, Hg4.out⟩
            case measure => simp [intOf]; omega
      · obtain rfl : k = A.length := by omega
        rw [List.take_length] at hownr
        have Ho := Lib.hid (show OwnI wr B0 (.slice (some ⟨kb, 0, none⟩) SZ kc) (spreadF nextAdd N (d + 1) xs s ks) by rw [HF.out]; exact hownr)
        have Hg := Lib.hid (show w.grownBy wr (some kb) from ((grown_of_below' Hb1.out).but (some kb)).trans hg)
        clear hownr hg
        go_wp2
        (try simp only [Exit.inBlock, Exit.then]); refine bodyPost_end (results_none rfl _ _ _) rfl ?_
        exact ⟨rfl, Ho.out, Hg.out⟩
end Go.Proofs.YtcifcombbdblgaaDoor
