/- Parts of proofs: contracts and plain facts. Conditions: as each says. -/
import Derived.Test.YtmcgnbbobhfkpaaDoorK08
import Derived.Laws.BitsAllLaws
namespace Go.Proofs.YtmcgnbbobhfkpaaDoor
open Go.RowKit

set_option maxRecDepth 100000 in
set_option maxHeartbeats 400000 in
theorem trSpreadAdd_any (N : Nat) (hN : N ≤ 5) (SZ : Nat) (hSZ : SZ = N * N + 1) : ∀ (d : Nat) (xs : List Int) (a1 : Option Addr) (c1 B0 kb kc : Nat) (s : Int) (ks : List Int) (w : World), xs.length + d = N → ColsN N xs → IntsAt w a1 xs → (∀ b o, a1 = some ⟨b, o, none⟩ → b ≠ kb) → OwnI w B0 (.slice (some ⟨kb, 0, none⟩) SZ kc) ks → B0 ≤ kb → okF nextAdd N d xs s = true → -9223372036854775808 ≤ s ∧ s ≤ 9223372036854775807 →
    Calls Tryd.prog 35 #[.slice a1 xs.length c1, .slice (some ⟨kb, 0, none⟩) SZ kc, .int .i64 s, .int .i64 (N : Int), .bool true] w fun e w' => e = .returned (.tuple #[]) ∧ OwnI w' B0 (.slice (some ⟨kb, 0, none⟩) SZ kc) (spreadF nextAdd N d xs s ks) ∧ w.grownBy w' (some kb) := by
  intro d
  induction d with
  | zero =>
    intro xs a1 c1 B0 kb kc s ks w hl hr hx hap hown hB hok hsb
    have hb : ((xs.length : Int) == (N : Int)) = true := by simp; omega
    have hmx : xs.length ≤ 9223372036854775807 := by omega
    obtain ⟨ho1, ho2⟩ : 0 ≤ s ∧ s ≤ ((N * N : Nat) : Int) := by
      unfold okF at hok
      simp only [Bool.and_eq_true, decide_eq_true_eq] at hok
      exact hok
    obtain ⟨m, rfl⟩ : ∃ m : Nat, s = (m : Int) := ⟨s.toNat, by omega⟩
    have hSb : SZ ≤ 26 := by rw [hSZ]; have := Nat.mul_le_mul hN hN; omega
    have hm : m < SZ := by omega
    have hc := hown.cellAt m hm
    have hfr := hown.frozenAt m
    obtain ⟨u, hu⟩ : ∃ u, u = gi ks m := ⟨_, rfl⟩
    rw [← hu] at hc
    have hst := hown.store m (wrap64 (u + 1))
    have Hst := Lib.hid (show OwnI (w.setCell ⟨kb, m, none⟩ (.int .i64 (wrap64 (u + 1)))) B0 (.slice (some ⟨kb, 0, none⟩) SZ kc) (spreadF nextAdd N 0 xs (m : Int) ks) by
      unfold spreadF bump
      rw [Int.toNat_natCast, ← hu]
      exact hst)
    have Hgs := Lib.hid (show w.grownBy (w.setCell ⟨kb, m, none⟩ (.int .i64 (wrap64 (u + 1)))) (some kb) from ⟨rfl, rfl, rfl, by simp [World.setCell], fun b hb hne => Below.heap_setCell _ _ _ _ (fun e => hne (by rw [e]))⟩)
    clear hl hr hx hap hown hu hst hok hSZ ho1 ho2
    go_enter Tryd.func35, Tryd.ntmps35
    go_wp2
    (try simp only [Exit.inBlock, Exit.then]); refine bodyPost_ret (results_none rfl _ _ _) rfl ?_
    exact ⟨rfl, Hst.out, Hgs.out⟩
  | succ d ih =>
    intro xs a1 c1 B0 kb kc s ks w hl hr hx hap hown hB hok hsb
    have hb : ((xs.length : Int) == (N : Int)) = false := by simp; omega
    have hmx : xs.length ≤ 9223372036854775807 := by omega
    have h6 : xs.length ≤ 6 := by omega
    have Hl := Lib.hid hl
    have Hr := Lib.hid hr
    have Hx := Lib.hid hx
    have Hap := Lib.hid hap
    have Hown := Lib.hid hown
    have Hok := Lib.hid hok
    have Hih := Lib.hid ih
    have HSZ := Lib.hid hSZ
    have Hsb := Lib.hid hsb
    have Ht := Lib.hid (trBehind_any N (by omega) xs Hr.out h6 (xs.length + 1) [] a1 none c1 0 w (by simp) (by simp) (fun x hx => by cases hx) (fun _ => rfl) Hx.out (IntsAt.nil _ _))
    have Ha := Lib.hid (show bhRes N xs [] = behind N xs by simp [bhRes, behind, lst_nil])
    clear hl hr hx hap hown hok ih hSZ hsb
    go_enter Tryd.func35, Tryd.ntmps35
    go_wp2_with fail
    refine Ht.out.mono ?_
    rintro e w1 ⟨v1, rfl, hv, hb1⟩
    rw [Ha.out] at hv
    obtain ⟨A, hA⟩ : ∃ A, A = behind N xs := ⟨_, rfl⟩
    rw [← hA] at hv
    obtain ⟨ra, rc, rfl, _, _, hmat⟩ := hv.read
    have hal : A.length ≤ 1048576 := by
      rw [hA]
      exact behind_len (by omega) Hr.out h6
    have Hv := Lib.hid hv
    have HA := Lib.hid hA
    have Hb1 := Lib.hid hb1
    have Hown1 := Lib.hid (Hown.out.below hb1)
    have hkbl : kb < w.heap.size := (Hown.out.lt kb rfl).2
    have hamx : A.length ≤ 9223372036854775807 := by omega
    have HF := Lib.hid (show spreadF nextAdd N (d + 1) xs s ks = A.foldl (fun c ys => spreadF nextAdd N d ys (nextAdd N xs ys s) c) ks by rw [hA]; rfl)
    have HO := Lib.hid (show ∀ ys ∈ A, okF nextAdd N d ys (nextAdd N xs ys s) = true by rw [hA]; exact List.all_eq_true.1 Hok.out)
    obtain ⟨fo, hfo⟩ : ∃ fo, fo = fun (c : List Int) (ys : List Int) => spreadF nextAdd N d ys (nextAdd N xs ys s) c := ⟨_, rfl⟩
    rw [← hfo] at HF
    have Hfo := Lib.hid hfo
    clear hv hmat hA hb1 hfo
    go_wp2
    go_loopw [33] (fun i wr => ∃ k : Nat, k ≤ A.length ∧ i = .int .i64 k ∧ OwnI wr B0 (.slice (some ⟨kb, 0, none⟩) SZ kc) ((A.take k).foldl fo ks) ∧ w1.grownBy wr (some kb))
      (fun i _ => A.length - (intOf i).toNat)
    case atStart => exact ⟨0, Nat.zero_le _, rfl, Hown1.out, World.grownBy.refl _ _⟩
    case round =>
      obtain ⟨k, hk, rfl, hownr, hg⟩ := hrel
      by_cases hlt : k < A.length
      · obtain ⟨us, hp⟩ := Hv.out
        obtain ⟨ao', c', hsl, _, _, hcells⟩ := ownsRow_read hp.top
        cases hsl
        obtain ⟨b1, o1, e1, hc1⟩ := hcells k hlt
        obtain ⟨r1, d1, hr1, _, _, hx1⟩ := (hp.rows k hlt).read
        rw [hr1] at hc1
        have hmem := behind_mem (n := N) (row := xs) (ys := gr A k) Hr.out (by have := gr_mem hlt; rw [HA.out] at this ⊢; exact this)
        have hok1 := HO.out (gr A k) (gr_mem hlt)
        have hcell : wr.cell? ⟨b1, o1 + k, none⟩ = some (.slice r1 (gr A k).length d1) := hg.cell hc1 (fun e => by
          have := (World.ownsRow.lt hp.top b1 (by rw [e1]; rfl)).1
          simp at e; omega)
        have hap' : ∀ b o, r1 = some ⟨b, o, none⟩ → b ≠ kb := fun b o e => by
          have := ((hp.rows k hlt).lt b (by rw [hr1, e]; rfl)).1
          omega
        have hxr : IntsAt wr r1 (gr A k) := fun i hi => by
          obtain ⟨b, o, e, hcc⟩ := hx1 i hi
          exact ⟨b, o, e, hg.cell hcc (fun e2 => hap' b o e (by simpa using e2))⟩
        have hxs : IntsAt wr a1 xs := fun i hi => by
          obtain ⟨b, o, e, hcc⟩ := Hx.out.below Hb1.out i hi
          exact ⟨b, o, e, hg.cell hcc (fun e2 => Hap.out b o e (by simpa using e2))⟩
        have hstep := trStep_any a1 r1 c1 d1 N xs (gr A k) wr (by omega) (by omega) (by have := hmem.2; omega) Hr.out.2 hmem.1.2 hxs hxr
        have Hf := Lib.hid (show (A.take (k + 1)).foldl fo ks = spreadF nextAdd N d (gr A k) (nextAdd N xs (gr A k) s) ((A.take k).foldl fo ks) by
          rw [List.take_succ_eq_append_getElem hlt, List.foldl_append, ← gr_lt hlt, List.foldl_cons, List.foldl_nil, Hfo.out])
        have Hlen1 := Lib.hid (show (gr A k).length + d = N by have := hmem.2; have := Hl.out; omega)
        have Hmem := Lib.hid hmem.1
        obtain ⟨Y, hY⟩ : ∃ Y, Y = gr A k := ⟨_, rfl⟩
        obtain ⟨kq, hkq⟩ : ∃ kq, kq = (A.take k).foldl fo ks := ⟨_, rfl⟩
        rw [← hY] at hcell hxr hstep Hf Hlen1 Hmem hok1
        rw [← hkq] at hownr Hf
        have hyb : Y.length ≤ 6 := by have := Hlen1.out; omega
        obtain ⟨rl, hrl⟩ : ∃ rl, rl = Y.length := ⟨_, rfl⟩
        have Hrl := Lib.hid hrl
        rw [← hrl] at hcell hstep hyb
        have Hstep := Lib.hid hstep
        have Hxs := Lib.hid hxs
        have Hxr := Lib.hid hxr
        have Hap' := Lib.hid hap'
        have Hownr := Lib.hid hownr
        have Hg := Lib.hid hg
        have Hok1 := Lib.hid hok1
        subst e1
        clear hp hcells hc1 hr1 hx1 hmem hap' hxr hxs hstep hownr hg hY hkq hok1 hrl
        go_wp2_with fail
        refine Hstep.out.mono ?_
        rintro e w3 ⟨v3, rfl, hv3, hb3⟩
        obtain ⟨st, hstv⟩ : ∃ st, st = stepF N xs Y := ⟨_, rfl⟩
        rw [← hstv] at hv3
        have hstl : st.length ≤ 16 := by rw [hstv, stepF_len]; omega
        obtain ⟨sa, cs, rfl, _, _, hm3⟩ := hv3.read
        have Hst := Lib.hid hm3
        have Hstv := Lib.hid hstv
        have Hxs3 := Lib.hid (Hxs.out.below hb3)
        have Hxr3 := Lib.hid (Hxr.out.below hb3)
        have Hown3 := Lib.hid (Hownr.out.below hb3)
        have Hg3 := Lib.hid (Hg.out.trans ((grown_of_below' hb3).but (some kb)))
        obtain ⟨s', hs'⟩ : ∃ s', s' = nextAdd N xs Y s := ⟨_, rfl⟩
        have Hsx := Lib.hid hs'
        have hs'b : -9223372036854775808 ≤ s' ∧ s' ≤ 9223372036854775807 := by rw [hs']; unfold nextAdd; unfold wrap64; omega
        have Hsb' := Lib.hid hs'b
        have Hcall := Lib.hid (Hih.out Y r1 d1 B0 kb kc s' kq w3 Hlen1.out Hmem.out Hxr3.out Hap'.out Hown3.out hB (by rw [hs']; exact Hok1.out) hs'b)
        rw [← Hrl.out] at Hcall
        clear hv3 hb3 hm3 hstv hs' hs'b
        have hstm : st.length ≤ 9223372036854775807 := by omega
        go_wp2
        go_loop [12, 14, 43] (fun z a i => ∃ j : Nat, j ≤ st.length ∧ i = .int .i64 j ∧ z = .int .i64 0 ∧ a = .int .i64 (addF xs st j)) (fun _ _ i => st.length - (intOf i).toNat)
        case atStart => exact ⟨0, Nat.zero_le _, rfl, rfl, rfl⟩
        case round =>
          obtain ⟨j, hj, rfl, rfl, rfl⟩ := hrel
          by_cases hjl : j < st.length
          · obtain ⟨b2, o2, rfl, hc2⟩ := Hst.out j hjl
            obtain ⟨x, hx⟩ : ∃ x, x = gi st j := ⟨_, rfl⟩
            obtain ⟨u, hu⟩ : ∃ u, u = addF xs st j := ⟨_, rfl⟩
            rw [← hx] at hc2
            rw [← hu]
            have E := Lib.hid (show addF xs st (j + 1) = addIn xs j x u xs.length by rw [addF, ← hx, ← hu])
            clear hx hu
            go_wp2
            go_loop [14, 59] (fun a i => ∃ l : Nat, l ≤ xs.length ∧ i = .int .i64 l ∧ a = .int .i64 (addIn xs j x u l)) (fun _ i => xs.length - (intOf i).toNat)
            case atStart => exact ⟨0, Nat.zero_le _, rfl, rfl⟩
            case round =>
              obtain ⟨l, hl', rfl, rfl⟩ := hrel
              by_cases hll : l < xs.length
              · obtain ⟨b3, o3, e3, hc3⟩ := Hxs3.out l hll
                subst e3
                obtain ⟨y, hy⟩ : ∃ y, y = gi xs l := ⟨_, rfl⟩
                obtain ⟨z, hz⟩ : ∃ z, z = addIn xs j x u l := ⟨_, rfl⟩
                rw [← hy] at hc3
                rw [← hz]
                by_cases hgt : (j : Int) < y
                · have E2 := Lib.hid (show addIn xs j x u (l + 1) = wrap64 (z + x) by rw [addIn, ← hy, if_pos hgt, hz])
                  have hd : decide ((j : Int) < y) = true := by simpa using hgt
                  clear hy hz hgt
                  go_wp2
                  go_round
                  case rel => exact ⟨l + 1, by omega, by go_num, by rw [E2.out]⟩
                  case measure => simp [intOf]; omega
                · have E2 := Lib.hid (show addIn xs j x u (l + 1) = z by rw [addIn, ← hy, if_neg hgt, hz])
                  have hd : decide ((j : Int) < y) = false := by simpa using hgt
                  clear hy hz hgt
                  go_wp2
                  go_round
                  case rel => exact ⟨l + 1, by omega, by go_num, by rw [E2.out]⟩
                  case measure => simp [intOf]; omega
              · obtain rfl : l = xs.length := by omega
                rw [← E.out]
                go_wp2
                go_round
                case rel => exact ⟨j + 1, by omega, by go_num, rfl, rfl⟩
                case measure => simp [intOf]; omega
          · obtain rfl : j = st.length := by omega
            obtain ⟨u, hu⟩ : ∃ u, u = addF xs st st.length := ⟨_, rfl⟩
            rw [← hu]
            have hs1 : wrap64 (s + u) = s' := by rw [Hsx.out, hu, Hstv.out]; rfl
            have hs2 : wrap64 s' = s' := by have := Hsb'.out; unfold wrap64; omega
            have hs3 : wrap64 s = s := by have := Hsb.out; unfold wrap64; omega
            clear hu
            go_wp2_with fail
            clear hs1 hs2 hs3
            refine Hcall.out.mono ?_
            rintro e w4 ⟨rfl, ho4, hg4⟩
            have Ho4 := Lib.hid (show OwnI w4 B0 (.slice (some ⟨kb, 0, none⟩) SZ kc) ((A.take (k + 1)).foldl fo ks) by rw [Hf.out, ← Hsx.out]; exact ho4)
            have Hg4 := Lib.hid (Hg3.out.trans hg4)
            clear ho4 hg4
            go_wp2
            go_roundw
            case rel => exact ⟨k + 1, by omega, by go_num, Ho4.out, Hg4.out⟩
            case measure => simp [intOf]; omega
      · obtain rfl : k = A.length := by omega
        rw [List.take_length] at hownr
        have Ho := Lib.hid (show OwnI wr B0 (.slice (some ⟨kb, 0, none⟩) SZ kc) (spreadF nextAdd N (d + 1) xs s ks) by rw [HF.out]; exact hownr)
        have Hg := Lib.hid (show w.grownBy wr (some kb) from ((grown_of_below' Hb1.out).but (some kb)).trans hg)
        clear hownr hg
        go_wp2
        (try simp only [Exit.inBlock, Exit.then]); refine bodyPost_end (results_none rfl _ _ _) rfl ?_
        exact ⟨rfl, Ho.out, Hg.out⟩
end Go.Proofs.YtmcgnbbobhfkpaaDoor

namespace Go.Proofs.YtmcgnbbobhfkpaaDoor
open Go.RowKit

set_option maxRecDepth 100000 in
set_option maxHeartbeats 800000 in
theorem trCountsAdd_any (N : Nat) (_h1 : 1 ≤ N) (h5 : N ≤ 5) (hok : okF nextAdd N N [] 0 = true) (w : World) :
    Calls Tryd.prog 25 #[.int .i64 (N : Int), .bool true] w fun e w' => ∃ v, e = .returned v ∧ OwnI w' w.heap.size v (trimF (countsF nextAdd N)) ∧ Below w.heap.size w w' := by
  obtain ⟨i0, hi, hz0, hz1, hz2⟩ := info_parts Tryd.info_int
  obtain ⟨Q, hQ⟩ : ∃ Q : Nat, Q = N * N := ⟨_, rfl⟩
  have hQ5 : Q ≤ 25 := by rw [hQ]; have := Nat.mul_le_mul h5 h5; omega
  have hm : (N : Int) * (N : Int) = (Q : Int) := by rw [hQ]; simp
  have HQ := Lib.hid hQ
  have Hok := Lib.hid hok
  clear hQ hok
  go_enter Tryd.func25, Tryd.ntmps25
  go_wp2_with (at_make; refine wpList_make_full _ rfl _ _ 25 rfl w.heap.size 3 i0 (.int .i64 0) 1 Tryd.underlying25 hi hz0 hz1 _ _ _ _ (Q + 1) rfl rfl (by omega) (by omega) ?c1 ?c2 ?c3 ?_)
  case c1 => rw [hz2]; omega
  case c2 => unfold maxLen; omega
  case c3 => simp
  intro w1 hown hgr
  have hb1 : Below w.heap.size w w1 := (Below.refl _ _).grown hgr (Nat.le_refl _) (fun _ h => by cases h)
  have hown1 := OwnI.made hown
  have hcall := trSpreadAdd_any N h5 (Q + 1) (by rw [HQ.out]) N [] none 0 w.heap.size w.heap.size (Q + 1) 0 (List.replicate (Q + 1) 0) w1 (by simp) ⟨trivial, fun x hx => by cases hx⟩ (IntsAt.nil _ _) (fun b o e => by cases e) hown1 (Nat.le_refl _) Hok.out (by omega)
  rw [show ([] : List Int).length = 0 from rfl] at hcall
  obtain ⟨C, hC⟩ : ∃ C, C = countsF nextAdd N := ⟨_, rfl⟩
  rw [show spreadF nextAdd N N [] 0 (List.replicate (Q + 1) 0) = C from by rw [hC, HQ.out]; rfl] at hcall
  have HC := Lib.hid hC
  have Hcall := Lib.hid hcall
  have Hb1 := Lib.hid hb1
  clear hown hgr hb1 hown1 hcall hC hm
  go_wp2_with fail
  refine Hcall.out.mono ?_
  rintro e w2 ⟨rfl, ho, hg⟩
  have hcl : C.length = Q + 1 := ho.len
  have hmc : IntsAt w2 (some ⟨w.heap.size, 0, none⟩) C := own_at ho
  have Hm := Lib.hid hmc
  have Hb2 := Lib.hid (Hb1.out.grown hg Hb1.out.size (fun k hk => by cases hk; exact Nat.le_refl _))
  clear ho hg hmc
  go_wp2
  go_loop [6, 20] (fun a i => ∃ k : Nat, k ≤ Q + 1 ∧ i = .int .i64 k ∧ a = .int .i64 (lastF C k : Nat)) (fun _ i => Q + 1 - (intOf i).toNat)
  case atStart => exact ⟨0, Nat.zero_le _, rfl, rfl⟩
  case round =>
    obtain ⟨k, hk, rfl, rfl⟩ := hrel
    by_cases hlt : k < Q + 1
    · obtain ⟨b2, o2, e2, hc2⟩ := Hm.out k (by omega)
      cases e2
      rw [Nat.zero_add] at hc2
      obtain ⟨x, hx⟩ : ∃ x, x = gi C k := ⟨_, rfl⟩
      obtain ⟨u, hu⟩ : ∃ u : Int, u = (lastF C k : Nat) := ⟨_, rfl⟩
      rw [← hx] at hc2
      rw [← hu]
      by_cases hp : 0 < x
      · have E := Lib.hid (show lastF C (k + 1) = k by rw [lastF, ← hx, if_pos hp])
        have hd : decide (0 < x) = true := by simpa using hp
        clear hx hu hp
        go_wp2
        go_round
        case rel => exact ⟨k + 1, by omega, by go_num, by rw [E.out]⟩
        case measure => simp [intOf]; omega
      · have E := Lib.hid (show ((lastF C (k + 1) : Nat) : Int) = u by rw [lastF, ← hx, if_neg hp, hu])
        have hd : decide (0 < x) = false := by simpa using hp
        clear hx hu hp
        go_wp2
        go_round
        case rel => exact ⟨k + 1, by omega, by go_num, by rw [E.out]⟩
        case measure => simp [intOf]; omega
    · obtain rfl : k = Q + 1 := by omega
      have hll := lastF_lt C (Q + 1) (by omega)
      obtain ⟨l, hl⟩ : ∃ l, l = lastF C (Q + 1) := ⟨_, rfl⟩
      rw [← hl] at hll ⊢
      have htl : (C.take (l + 1)).length = l + 1 := by rw [List.length_take]; omega
      have hat : IntsAt w2 (some ⟨w.heap.size, 0, none⟩) (C.take (l + 1)) := fun i hi' => by
        obtain ⟨b, o, e, hc⟩ := Hm.out i (by omega)
        refine ⟨b, o, e, ?_⟩
        rw [hc]
        congr 2
        simp [gi, List.getD, show i < l + 1 from by omega]
      have hw := l1Own_any (some ⟨w.heap.size, 0, none⟩) (Q + 1) (C.take (l + 1)) w2 (by omega) (fun e => by cases e) hat
      rw [htl] at hw
      have ht : C.take (l + 1) = trimF (countsF nextAdd N) := by unfold trimF; rw [← HC.out, hcl, hl]
      rw [ht] at hw
      have Hw := Lib.hid hw
      clear hl htl hat hw ht hk hlt
      go_wp2_with fail
      refine Hw.out.mono ?_
      rintro e w3 ⟨v, rfl, hv, hb3⟩
      have Hv := Lib.hid (hv.base Hb2.out.size)
      have Hb3 := Lib.hid (Hb2.out.trans (hb3.mono Hb2.out.size))
      clear hv hb3
      go_wp2
      go_ret
      exact ⟨_, rfl, Hv.out, Hb3.out⟩

def in5Add (n : Int) : Prop := 1 ≤ n ∧ n ≤ 5
def listAdd (n : Nat) : List Int := trimF (countsF nextAdd n)
theorem listAdd_len {n : Int} (h : in5Add n) : (listAdd n.toNat).length ≤ 1048576 := by
  unfold listAdd trimF
  rw [List.length_take]
  have : (countsF nextAdd n.toNat).length = n.toNat * n.toNat + 1 := by unfold countsF; rw [spreadF_len, List.length_replicate]
  unfold in5Add at h
  have := Nat.mul_le_mul (show n.toNat ≤ 5 by omega) (show n.toNat ≤ 5 by omega)
  omega
theorem Add_facts {N : Nat} (h1 : 1 ≤ N) (h5 : N ≤ 5) : sameC movedSc nextAdd N (N * (N - 1) / 2) = true ∧ limC movedSc N (N * (N - 1) / 2) = true := by
  obtain ⟨a, b, c, d, e⟩ := moved_same
  obtain ⟨a', b', c', d', e'⟩ := moved_ok
  rcases (by omega : N = 1 ∨ N = 2 ∨ N = 3 ∨ N = 4 ∨ N = 5) with rfl | rfl | rfl | rfl | rfl
  · exact ⟨a, a'⟩
  · exact ⟨b, b'⟩
  · exact ⟨c, c'⟩
  · exact ⟨d, d'⟩
  · exact ⟨e, e'⟩

set_option maxRecDepth 100000 in
set_option maxHeartbeats 400000 in
theorem specCountByInversions_any (n : Int) (w : World) (_ : -9223372036854775808 ≤ n ∧ n ≤ 9223372036854775807) :
    Calls Tryd.prog 15 #[.int .i64 n] w fun e w' => LRes (in5Add n) (listAdd n.toNat) w' w.heap.size e ∧ Below w.heap.size w w' := by
  by_cases hg : in5Add n
  · obtain ⟨h1, h5⟩ := hg
    obtain ⟨N, rfl⟩ : ∃ N : Nat, n = (N : Int) := ⟨n.toNat, by omega⟩
    have hs := (Add_facts (N := N) (by omega) (by omega)).1
    unfold sameC at hs
    simp only [Bool.and_eq_true] at hs
    have Hc := Lib.hid (trCountsAdd_any N (by omega) (by omega) hs.1 w)
    clear hs
    go_enter Tryd.func15, Tryd.ntmps15
    go_wp2_with fail
    refine (l1In_any (N : Int) 1 5 w).mono ?_
    rintro e w2 ⟨ha, rfl⟩
    obtain rfl := ha.is ⟨h1, h5⟩
    clear ha
    go_wp2_with fail
    refine Hc.out.mono ?_
    rintro e w1 ⟨v, rfl, hv, hb⟩
    have Hv := Lib.hid hv
    have Hb := Lib.hid hb
    clear hv hb
    go_wp2
    go_ret2
    exact ⟨LRes.yes ⟨h1, h5⟩ (by rw [Int.toNat_natCast]; exact Hv.out), Hb.out⟩
  · go_enter Tryd.func15, Tryd.ntmps15
    go_wp2_with fail
    refine (l1In_any n 1 5 w).mono ?_
    rintro e w2 ⟨ha, rfl⟩
    obtain rfl := ha.isnt hg
    clear ha
    go_wp2
    go_ret2
    exact ⟨LRes.no hg, Below.refl _ _⟩

theorem mostInversions5_any (N : Nat) (w : World) (_ : 1 ≤ N) (_ : N ≤ 5) :
    Calls Tryd.prog 26 #[.int .i64 (N : Int)] w fun e w' => e = .returned (.int .i64 ((N * (N - 1) / 2 : Nat) : Int)) ∧ w = w' := by
  obtain rfl | rfl | rfl | rfl | rfl : N = 1 ∨ N = 2 ∨ N = 3 ∨ N = 4 ∨ N = 5 := by omega
  all_goals
    go_enter Tryd.func26, Tryd.ntmps26
    go_wp2
    go_ret
    exact ⟨rfl, rfl⟩
set_option maxRecDepth 100000 in
set_option maxHeartbeats 800000 in
theorem implCountByInversions_any (n : Int) (w : World) (_ : -9223372036854775808 ≤ n ∧ n ≤ 9223372036854775807) (hD : Dj w) :
    Calls Tryd.prog 14 #[.int .i64 n] w fun e w' => LRes (in5Add n) (listAdd n.toNat) w' w.heap.size e ∧ Below w.heap.size w w' := by
  by_cases h1 : 1 ≤ n
  · by_cases h5 : n ≤ 5
    · obtain ⟨N, rfl⟩ : ∃ N : Nat, n = (N : Int) := ⟨n.toNat, by omega⟩
      obtain ⟨hs, hl⟩ := Add_facts (N := N) (by omega) (by omega)
      have hlim := limC_lim hl
      obtain ⟨G, hG⟩ : ∃ G : Nat, G = N * (N - 1) / 2 := ⟨_, rfl⟩
      rw [← hG] at hs hlim
      have hG10 : G ≤ 10 := by
        rw [hG]
        rcases (by omega : N = 1 ∨ N = 2 ∨ N = 3 ∨ N = 4 ∨ N = 5) with rfl | rfl | rfl | rfl | rfl <;> decide
      have hc := byScore_movedNumbers movedSc movedNumbers_any moved_small N G (by omega) (by omega) (by omega) hlim w hD
      have hsame : scoreL movedSc N (G + 1) = listAdd N := by
        unfold sameC at hs
        simp only [Bool.and_eq_true] at hs
        rw [scoreT_is]
        have := hs.2
        simp at this
        exact this.symm
      rw [hsame] at hc
      have Hc := Lib.hid hc
      have hd5 : decide ((5 : Int) < (N : Int)) = false := by simp; omega
      have hmost := mostInversions5_any N w (by omega) (by omega)
      rw [← hG] at hmost
      have Hmost := Lib.hid hmost
      clear hmost
      clear hc hD hs hl hlim hsame hG
      go_enter Tryd.func14, Tryd.ntmps14
      go_wp2_with fail
      refine Hmost.out.mono ?_
      rintro e w2 ⟨rfl, rfl⟩
      go_wp2_with fail
      refine Hc.out.mono ?_
      rintro e w1 ⟨v, rfl, hv, hb⟩
      have Hv := Lib.hid hv
      have Hb := Lib.hid hb
      clear hv hb
      go_wp2
      go_ret2
      exact ⟨LRes.yes ⟨h1, h5⟩ (by rw [Int.toNat_natCast]; exact Hv.out), Hb.out⟩
    · have hd5 : decide ((5 : Int) < n) = true := by simp; omega
      go_enter Tryd.func14, Tryd.ntmps14
      go_wp2
      go_ret2
      exact ⟨LRes.no fun h => by have := h.2; omega, Below.refl _ _⟩
  · go_enter Tryd.func14, Tryd.ntmps14
    go_wp2
    go_ret2
    exact ⟨LRes.no fun h => by have := h.1; omega, Below.refl _ _⟩
end Go.Proofs.YtmcgnbbobhfkpaaDoor

namespace Go.Proofs.YtmcgnbbobhfkpaaDoor
open Go.RowKit

def inR (n : Int) : Prop := 1 ≤ n ∧ n ≤ 8

/-- choices, factor by factor -/
def ch (n : Nat) : Nat → Nat
  | 0 => 1
  | i + 1 => ch n i * (n - i) / (i + 1)
def cI : Nat → Nat
  | 0 => 1
  | k + 1 => if k = 0 then 1 else cI k * ch (3 * k + 1) k / ch (2 * k) k

theorem ch_b : ∀ n, n < 23 → ∀ i, i < 8 → ch n i ≤ 1000000000 ∧ ch n i * (n - i) ≤ 1000000000 := by decide +kernel
theorem cI_b : ∀ k, k < 8 → cI k ≤ 1000000000 ∧ cI k * ch (3 * k + 1) k ≤ 1000000000000000 ∧ 1 ≤ ch (2 * k) k := by decide +kernel

set_option maxRecDepth 100000 in
set_option maxHeartbeats 800000 in
theorem choicesOf_any (k n : Nat) (w : World) (hk : k ≤ 7) (hkn : k ≤ n) (hn : n ≤ 22) :
    Calls Tryd.prog 22 #[.int .i64 (k : Int), .int .i64 (n : Int)] w fun e w' => e = .returned (.int .i64 (ch n k : Nat)) ∧ w = w' := by
  go_enter Tryd.func22, Tryd.ntmps22
  go_wp2
  go_loop [5, 8] (fun s i => ∃ t : Nat, t ≤ k ∧ i = .int .i64 t ∧ s = .int .i64 (ch n t : Nat)) (fun _ i => k - (intOf i).toNat)
  case atStart => exact ⟨0, Nat.zero_le _, rfl, rfl⟩
  case round =>
    obtain ⟨t, ht, rfl, rfl⟩ := hrel
    by_cases hlt : t < k
    · have hb := ch_b n (by omega) t (by omega)
      have e1 : ch n (t + 1) = ch n t * (n - t) / (t + 1) := rfl
      have E1 := Lib.hid e1
      clear e1
      obtain ⟨s, hs⟩ : ∃ s, s = ch n t := ⟨_, rfl⟩
      obtain ⟨p, hp⟩ : ∃ p, p = ch n t * (n - t) := ⟨_, rfl⟩
      rw [← hs] at hb
      rw [← hs]
      have hp1 : (s : Int) * ((n : Int) - (t : Int)) = (p : Int) := by rw [hp, ← hs, show ((n : Int) - (t : Int)) = ((n - t : Nat) : Int) from by omega, Int.natCast_mul]
      have hpb : p ≤ 1000000000 := by rw [hp, ← hs]; exact hb.2
      have hsb := hb.1
      obtain ⟨q, hq⟩ : ∃ q, q = p / (t + 1) := ⟨_, rfl⟩
      have hq1 : (p : Int) / ((t : Int) + 1) = (q : Int) := by rw [hq, Int.natCast_ediv]; rfl
      have hqb : q ≤ 1000000000 := by rw [hq]; exact Nat.le_trans (Nat.div_le_self _ _) hpb
      have Hp := Lib.hid hp
      have Hs := Lib.hid hs
      have Hq := Lib.hid hq
      clear hb hp hs hq
      go_wp2
      go_round
      case rel =>
        refine ⟨t + 1, by omega, by go_num, ?_⟩
        rw [E1.out, ← Hp.out, ← Hq.out]
      case measure => simp [intOf]; omega
    · obtain rfl : t = k := by omega
      go_wp2
      go_ret
      exact ⟨rfl, rfl⟩

set_option maxRecDepth 100000 in
set_option maxHeartbeats 1600000 in
theorem implCountSigns_any (n : Int) (w : World) :
    Calls Tryd.prog 8 #[.int .i64 n] w fun e w' => IRes (inR n) (cI n.toNat : Nat) e ∧ w = w' := by
  by_cases h1 : 1 ≤ n
  · by_cases h8 : n ≤ 8
    · obtain ⟨n, rfl⟩ := Int.eq_ofNat_of_zero_le (show 0 ≤ n by omega)
      rw [Int.toNat_natCast]
      have hd : decide ((8 : Int) < (n : Int)) = false := by simp; omega
      go_enter Tryd.func8, Tryd.ntmps8
      go_wp2
      go_loop [4, 5] (fun s i => ∃ k : Nat, 1 ≤ k ∧ k ≤ n ∧ i = .int .i64 k ∧ s = .int .i64 (cI k : Nat)) (fun _ i => n - (intOf i).toNat)
      case atStart => exact ⟨1, by omega, by omega, rfl, rfl⟩
      case round =>
        obtain ⟨k, hk1, hk, rfl, rfl⟩ := hrel
        by_cases hlt : k < n
        · have hb := cI_b k (by omega)
          have e1 : cI (k + 1) = cI k * ch (3 * k + 1) k / ch (2 * k) k := by show (if k = 0 then 1 else _) = _; rw [if_neg (by omega)]
          have E1 := Lib.hid e1
          clear e1
          have c1 := choicesOf_any k (3 * k + 1) w (by omega) (by omega) (by omega)
          have c2 := choicesOf_any k (2 * k) w (by omega) (by omega) (by omega)
          rw [show ((3 * k + 1 : Nat) : Int) = 3 * (k : Int) + 1 from by omega] at c1
          rw [show ((2 * k : Nat) : Int) = 2 * (k : Int) from by omega] at c2
          have C1 := Lib.hid c1
          have C2 := Lib.hid c2
          obtain ⟨s, hs⟩ : ∃ s, s = cI k := ⟨_, rfl⟩
          obtain ⟨x, hx⟩ : ∃ x, x = ch (3 * k + 1) k := ⟨_, rfl⟩
          obtain ⟨y, hy⟩ : ∃ y, y = ch (2 * k) k := ⟨_, rfl⟩
          obtain ⟨p, hp⟩ : ∃ p, p = s * x := ⟨_, rfl⟩
          rw [← hs, ← hx, ← hy] at hb
          rw [← hs]
          have hp1 : (s : Int) * (x : Int) = (p : Int) := by rw [hp, Int.natCast_mul]
          have hpb : p ≤ 1000000000000000 := by rw [hp]; exact hb.2.1
          have hsb := hb.1
          have hyb := hb.2.2
          obtain ⟨q, hq⟩ : ∃ q, q = p / y := ⟨_, rfl⟩
          have hq1 : (p : Int) / (y : Int) = (q : Int) := by rw [hq, Int.natCast_ediv]
          have hqb : q ≤ 1000000000000000 := by rw [hq]; exact Nat.le_trans (Nat.div_le_self _ _) hpb
          have Hq := Lib.hid hq
          clear hq
          have Hs := Lib.hid hs
          have Hx := Lib.hid hx
          have Hy := Lib.hid hy
          have Hp := Lib.hid hp
          clear hb hs hx hy hp c1 c2
          go_wp2_with fail
          refine C1.out.mono ?_
          rintro e w2 ⟨rfl, rfl⟩
          rw [← Hx.out]
          go_wp2_with fail
          refine C2.out.mono ?_
          rintro e w2 ⟨rfl, rfl⟩
          rw [← Hy.out]
          go_wp2
          go_round
          case rel =>
            refine ⟨k + 1, by omega, by omega, by go_num, ?_⟩
            rw [E1.out, ← Hs.out, ← Hx.out, ← Hy.out, ← Hp.out, ← Hq.out]
          case measure => simp [intOf]; omega
        · obtain rfl : k = n := by omega
          go_wp2
          go_ret2
          exact ⟨IRes.yes ⟨h1, h8⟩, rfl⟩
    · have hd : decide ((8 : Int) < n) = true := by simp; omega
      go_enter Tryd.func8, Tryd.ntmps8
      go_wp2
      go_ret2
      exact ⟨IRes.no fun h => by have := h.2; omega, rfl⟩
  · go_enter Tryd.func8, Tryd.ntmps8
    go_wp2
    go_ret2
    exact ⟨IRes.no fun h => by have := h.1; omega, rfl⟩

def stepA (s : Nat × Nat) (x : Nat) : Nat × Nat := (s.1 * (x / Nat.gcd x s.2), s.2 / Nat.gcd x s.2)
def stepB (s : Nat × Nat) (x : Nat) : Nat × Nat := (s.1 / Nat.gcd s.1 x, s.2 * (x / Nat.gcd s.1 x))
def itA (s : Nat × Nat) (x0 : Nat) : Nat → Nat × Nat
  | 0 => s
  | t + 1 => stepA (itA s x0 t) (x0 + t)
def itB (s : Nat × Nat) (x0 : Nat) : Nat → Nat × Nat
  | 0 => s
  | t + 1 => stepB (itB s x0 t) (x0 + t)
def outer (n : Nat) : Nat → Nat × Nat
  | 0 => (1, 1)
  | k + 1 => itB (itA (outer n k) (n + k + 1) (2 * k + 1 - n)) (3 * k + 2) (n - (2 * k + 1))

def okS (s : Nat × Nat) : Bool := decide (s.1 ≤ 1000000000000000000) && decide (s.2 ≤ 1000000000000000000) && decide (1 ≤ s.1) && decide (1 ≤ s.2)
theorem itA_ok : ∀ n, n < 9 → ∀ k, k < n → ∀ t, t < 9 → t ≤ 2 * k + 1 - n → okS (itA (outer n k) (n + k + 1) t) = true := by decide +kernel
theorem itB_ok : ∀ n, n < 9 → ∀ k, k < n → ∀ t, t < 9 → t ≤ n - (2 * k + 1) → okS (itB (itA (outer n k) (n + k + 1) (2 * k + 1 - n)) (3 * k + 2) t) = true := by decide +kernel
theorem outer_ok : ∀ n, n < 9 → okS (outer n n) = true := by decide +kernel
theorem outer_cI : ∀ n, n < 9 → 1 ≤ n → (outer n n).1 / (outer n n).2 = cI n := by decide +kernel

theorem okS_b {s : Nat × Nat} (h : okS s = true) : s.1 ≤ 1000000000000000000 ∧ s.2 ≤ 1000000000000000000 ∧ 1 ≤ s.1 ∧ 1 ≤ s.2 := by
  unfold okS at h
  simp only [Bool.and_eq_true, decide_eq_true_eq] at h
  omega

end Go.Proofs.YtmcgnbbobhfkpaaDoor

namespace Go.Proofs.YtmcgnbbobhfkpaaDoor
open Go.RowKit

def scC (n : Nat) : Bool := let L := scoreT topSc n n
  L.length == n && hsumF L 0 == (cI n : Nat) && ((List.range n).all fun j => gi L j == gi L (n - 1 - j)) && (decide (n ≤ 1) || gi L 0 == (cI (n - 1) : Nat)) && ((List.range n).all fun j => decide (0 ≤ gi L j) && decide (gi L j ≤ 10000))
  && ((List.range (n - 1)).all fun k => gi L k * ((n : Int) - k - 1) * (n + k) == gi L (k + 1) * ((k : Int) + 1) * (2 * n - k - 2))
set_option maxRecDepth 1000000 in
theorem scC_ok : ∀ n, n < 7 → n = 0 ∨ scC n = true := by decide +kernel
theorem firstW_T {n : Nat} (h1 : 1 ≤ n) (h6 : n ≤ 6) : firstW n = scoreT topSc n n := by
  rw [← scoreL_first h1 h6, scoreT_is, show n - 1 + 1 = n from by omega]
structure ScF (n : Nat) (L : List Int) : Prop where
  len : L.length = n
  sum : hsumF L 0 = (cI n : Nat)
  sym : ∀ j, j < n → gi L j = gi L (n - 1 - j)
  less : 1 < n → gi L 0 = (cI (n - 1) : Nat)
  bd : ∀ j, j < n → 0 ≤ gi L j ∧ gi L j ≤ 10000
  form : ∀ k, k + 1 < n → gi L k * ((n : Int) - k - 1) * (n + k) = gi L (k + 1) * ((k : Int) + 1) * (2 * n - k - 2)
theorem scF_ok {n : Nat} (h1 : 1 ≤ n) (h6 : n ≤ 6) : ScF n (firstW n) := by
  have h := (scC_ok n (by omega)).resolve_left (by omega)
  rw [firstW_T h1 h6]
  simp only [scC, Bool.and_eq_true, beq_iff_eq, Bool.or_eq_true, decide_eq_true_eq] at h
  obtain ⟨⟨⟨⟨⟨a, b⟩, c⟩, d⟩, e⟩, f⟩ := h
  refine ⟨a, b, fun j hj => ?_, fun hn => d.resolve_left (by omega), fun j hj => ?_, fun k hk => ?_⟩
  · have := List.all_eq_true.1 c j (List.mem_range.2 hj)
    simpa using this
  · have := List.all_eq_true.1 e j (List.mem_range.2 hj)
    simpa using this
  · have := List.all_eq_true.1 f k (List.mem_range.2 (by omega))
    simpa using this
/-- twice, four times .. the numbers added up -/
def weighF : List Int → Int → Int → Int
  | [], _, s => s
  | x :: r, t, s => weighF r (wrap64 (t * 2)) (wrap64 (s + wrap64 (t * x)))
def facN : Nat → Nat
  | 0 => 1
  | k + 1 => (k + 1) * facN k
def scD (k : Nat) : Bool := let A := scoreT lostSc k ((k - 1) * (k - 1) / 4 + 1)
  let I := scoreT movedSc k (k * (k - 1) / 2 + 1)
  hsumF A 0 == (cI k : Nat) && hsumF I 0 == (cI k : Nat) && gi A 0 == (facN k : Nat) && weighF A 1 0 == ((2 ^ (k * (k - 1) / 2) : Nat) : Int) && I.length == k * (k - 1) / 2 + 1 && gi I 0 == 1 && decide (1 ≤ A.length) && decide (A.length ≤ 10)
set_option maxRecDepth 1000000 in
theorem scD_ok : ∀ n, n < 6 → n = 0 ∨ scD n = true := by decide +kernel
structure ScG (K : Nat) (A I : List Int) : Prop where
  sumA : hsumF A 0 = (cI K : Nat)
  sumI : hsumF I 0 = (cI K : Nat)
  headA : gi A 0 = (facN K : Nat)
  wgt : weighF A 1 0 = ((2 ^ (K * (K - 1) / 2) : Nat) : Int)
  lenI : I.length = K * (K - 1) / 2 + 1
  headI : gi I 0 = 1
  lenA : 1 ≤ A.length ∧ A.length ≤ 10
theorem scG_ok {K : Nat} (h1 : 1 ≤ K) (h5 : K ≤ 5) : ScG K (listMinus K) (listAdd K) := by
  have eA : listMinus K = scoreT lostSc K ((K - 1) * (K - 1) / 4 + 1) := by
    have h := (Minus_facts h1 h5).1
    unfold sameC at h
    simp only [Bool.and_eq_true, beq_iff_eq] at h
    exact h.2
  have eI : listAdd K = scoreT movedSc K (K * (K - 1) / 2 + 1) := by
    have h := (Add_facts h1 h5).1
    unfold sameC at h
    simp only [Bool.and_eq_true, beq_iff_eq] at h
    exact h.2
  have h := (scD_ok K (by omega)).resolve_left (by omega)
  rw [eA, eI]
  simp only [scD, Bool.and_eq_true, beq_iff_eq, decide_eq_true_eq] at h
  obtain ⟨⟨⟨⟨⟨⟨⟨a, b⟩, c⟩, d⟩, e⟩, f⟩, g⟩, k⟩ := h
  exact ⟨a, b, c, d, e, f, g, k⟩
theorem weighF_step {xs : List Int} {k : Nat} (h : k < xs.length) (t s : Int) : weighF (xs.drop k) t s = weighF (xs.drop (k + 1)) (wrap64 (t * 2)) (wrap64 (s + wrap64 (t * gi xs k))) := by
  rw [List.drop_eq_getElem_cons h, weighF, gi_lt h]
theorem fac_step : ∀ t : Nat, t < 6 → wrap64 ((facN t : Int) * ((t : Int) + 1)) = (facN (t + 1) : Int) := by decide +kernel
theorem two_step : ∀ t : Nat, t < 12 → wrap64 (((2 ^ t : Nat) : Int) * 2) = ((2 ^ (t + 1) : Nat) : Int) := by decide +kernel
theorem pairs_val : ∀ K : Nat, K < 6 → K = 0 ∨ ((wrap64 ((K : Int) * ((K : Int) - 1))).tdiv 2 = ((K * (K - 1) / 2 : Nat) : Int) ∧ K * (K - 1) / 2 ≤ 10) := by decide +kernel
end Go.Proofs.YtmcgnbbobhfkpaaDoor

namespace Go.Proofs.YtmcgnbbobhfkpaaDoor
open Go.RowKit

theorem u64_bd (n : Int) : 0 ≤ IntKind.u64.wrap n ∧ IntKind.u64.wrap n < 18446744073709551616 := by simp [IntKind.wrap, IntKind.bits, IntKind.signed]; omega
theorem and255 (x : Int) (h0 : 0 ≤ x) (h1 : x < 18446744073709551616) : 0 ≤ wrap64 (bits .and .u64 (x / 1099511627776) 255) ∧ wrap64 (bits .and .u64 (x / 1099511627776) 255) ≤ 255 := by
  rw [u64_and _ _ (by omega) (by omega) (by omega) (by omega)]
  have h := Nat.and_le_right (n := (x / 1099511627776).toNat) (m := (255 : Int).toNat)
  have e : (255 : Int).toNat = 255 := rfl
  rw [e] at h ⊢
  unfold wrap64
  omega
set_option maxRecDepth 100000 in
set_option maxHeartbeats 1600000 in
theorem curNext_any (g : Nat) (a : Option Addr) (n c k : Nat) (s : Int) (w : World) (_hn : n ≤ 9223372036854775807) (hk : k ≤ 1000000000) (hB : BytesIn w a n) (hC : CurAt w g a n c k s) :
    Calls Tryd.prog 38 #[.pointer (some ⟨g, 0, none⟩)] w fun e w' => ∃ v s', e = .returned (.int .i64 v) ∧ 0 ≤ v ∧ v ≤ 255 ∧ CurAt w' g a n c (k + 1) s' ∧ OnlyW (fun b => b = g) w w' := by
  have h0 := hC.c0
  have h1 := hC.c1
  have h2 := hC.c2
  have f1 := hC.frozen 1
  have f2 := hC.frozen 2
  have HC := Lib.hid hC
  by_cases hlt : k < n
  · obtain ⟨b, o, x, rfl, hx, x0, x1⟩ := hB k hlt
    clear hB hC
    go_enter Tryd.func38, Tryd.ntmps38
    go_wp2
    go_quiet (fail)
    go_wp2
    go_quiet (fail)
    go_wp2
    generalize hW : World.setCell (World.setCell _ _ _) _ _ = w2
    obtain ⟨s2, hC2⟩ : ∃ s2, CurAt w2 g (some ⟨b, o, none⟩) n c (k + 1) s2 := ⟨_, by rw [← hW]; exact ((HC.out.drewN _).set1 (k + 1) (by omega)).set2 _⟩
    have HO := Lib.hid (show OnlyW (fun b => b = g) w w2 by rw [← hW]; exact (((OnlyW.refl (fun b => b = g) w).drewN _).setCell rfl _).setCell rfl _)
    have e0 := hC2.c0
    have e1 := hC2.c1
    have HC2 := Lib.hid hC2
    clear hW hC2 h0 h1 h2 f1 f2 hx HC
    go_quiet (fail)
    go_wp2
    go_ret
    exact ⟨x, s2, rfl, x0, x1, HC2.out.drewN _, HO.out.drewN _⟩
  · clear hB hC
    go_enter Tryd.func38, Tryd.ntmps38
    go_wp2
    go_quiet (fail)
    go_wp2
    generalize hW : World.setCell (World.setCell _ _ _) _ _ = w2
    obtain ⟨s2, hC2, hs⟩ : ∃ s2, CurAt w2 g a n c (k + 1) s2 ∧ 0 ≤ s2 ∧ s2 < 18446744073709551616 := ⟨_, by rw [← hW]; exact ((HC.out.drewN _).set1 (k + 1) (by omega)).set2 _, u64_bd _⟩
    have hv := and255 s2 hs.1 hs.2
    have HO := Lib.hid (show OnlyW (fun b => b = g) w w2 by rw [← hW]; exact (((OnlyW.refl (fun b => b = g) w).drewN _).setCell rfl _).setCell rfl _)
    have e0 := hC2.c0
    have e1 := hC2.c1
    have e2 := hC2.c2
    have HC2 := Lib.hid hC2
    have Hv := Lib.hid hv
    clear hW hC2 h0 h1 h2 f1 f2 HC hv hs
    go_quiet (fail)
    go_wp2
    go_ret
    exact ⟨_, s2, rfl, Hv.out.1, Hv.out.2, HC2.out.drewN _, HO.out.drewN _⟩
/-- a number below a bound -/
theorem curPick_any (g : Nat) (a : Option Addr) (n c k m : Nat) (s : Int) (w : World) (hn : n ≤ 9223372036854775807) (hk : k ≤ 1000000000) (hm1 : 1 ≤ m) (hm2 : m ≤ 200) (hB : BytesIn w a n) (hC : CurAt w g a n c k s) :
    Calls Tryd.prog 28 #[.pointer (some ⟨g, 0, none⟩), .int .i64 (m : Int)] w fun e w' => ∃ (v k' : Nat) (s' : Int), e = .returned (.int .i64 (v : Int)) ∧ v < m ∧ k' ≤ k + 1 ∧ CurAt w' g a n c k' s' ∧ OnlyW (fun b => b = g) w w' := by
  by_cases h1 : m ≤ 1
  · have hd : (m : Int) ≤ 1 := by omega
    have HC := Lib.hid hC
    clear hB hC
    go_enter Tryd.func28, Tryd.ntmps28
    go_wp2
    go_ret
    exact ⟨0, k, s, rfl, by omega, by omega, HC.out, OnlyW.refl _ _⟩
  · have hd : ¬ (m : Int) ≤ 1 := by omega
    have hd2 : ¬ (200 : Int) < (m : Int) := by omega
    have CN := Lib.hid (curNext_any g a n c k s w hn hk hB hC)
    clear hB hC
    go_enter Tryd.func28, Tryd.ntmps28
    go_wp2_with fail
    refine CN.out.mono ?_
    rintro e w2 ⟨v, s', rfl, h0, h2, hC2, hO⟩
    obtain ⟨V, rfl⟩ := Int.eq_ofNat_of_zero_le h0
    have HC2 := Lib.hid hC2
    have HO := Lib.hid hO
    have hm0 : ((m : Int) == 0) = false := by simp; omega
    have hmne : ¬ (m : Int) = 0 := by omega
    clear hC2 hO CN
    go_wp2
    go_ret
    exact ⟨V % m, k + 1, s', by simp, Nat.mod_lt _ (by omega), by omega, HC2.out, HO.out⟩
/-- one of a list -/
theorem curAmong_any (g : Nat) (a : Option Addr) (n c k : Nat) (s : Int) (la : Option Addr) (lc : Nat) (L : List Int) (w : World) (hn : n ≤ 9223372036854775807) (hk : k ≤ 1000000000) (hL1 : 1 ≤ L.length) (hL2 : L.length ≤ 200) (hL : IntsAt w la L) (hne : ∀ b o, la = some ⟨b, o, none⟩ → b ≠ g) (hB : BytesIn w a n) (hC : CurAt w g a n c k s) :
    Calls Tryd.prog 16 #[.pointer (some ⟨g, 0, none⟩), .slice la L.length lc] w fun e w' => ∃ (v : Int) (k' : Nat) (s' : Int), e = .returned (.int .i64 v) ∧ v ∈ L ∧ k' ≤ k + 1 ∧ CurAt w' g a n c k' s' ∧ OnlyW (fun b => b = g) w w' := by
  have CP := Lib.hid (curPick_any g a n c k L.length s w hn hk hL1 hL2 hB hC)
  have HL := Lib.hid hL
  have Hne := Lib.hid hne
  have hlm : L.length ≤ 9223372036854775807 := by omega
  clear hB hC hL hne
  go_enter Tryd.func16, Tryd.ntmps16
  go_wp2_with fail
  refine CP.out.mono ?_
  rintro e w2 ⟨v, k', s', rfl, hv, hk', hC2, hO⟩
  obtain ⟨b, o, rfl, hc⟩ := HL.out v hv
  have hc2 : w2.cell? ⟨b, o + v, none⟩ = some (.int .i64 (gi L v)) := by
    have hb := hO.block b (Hne.out b o rfl)
    rw [World.cell?_of_block (a := ⟨b, o + v, none⟩) hb]
    exact hc
  have Hm := Lib.hid (gi_mem hv)
  have HC2 := Lib.hid hC2
  have HO := Lib.hid hO
  obtain ⟨x, hx⟩ : ∃ x, x = gi L v := ⟨_, rfl⟩
  rw [← hx] at hc2 Hm
  clear hC2 hO CP hc hx
  go_wp2
  go_ret
  exact ⟨x, k', s', rfl, Hm.out, hk', HC2.out, HO.out⟩
theorem CurAt.new (w : World) (a : Option Addr) (n c : Nat) : CurAt (w.alloc (.cells #[.slice a n c, .int .i64 0, .int .u64 0] 35)) w.heap.size a n c 0 0 := heap_alloc_new w _
theorem cur_ints (w : World) (xs : List Int) : IntsAt (w.alloc (.cells (xs.map (Value.int .i64)).toArray 3)) (some ⟨w.heap.size, 0, none⟩) xs := fun i hi => ⟨w.heap.size, 0, rfl, by
  rw [Nat.zero_add, cell_new]
  simp [gi, List.getD, hi]⟩
/-- a fresh cursor and one of a written-out list -/
theorem drawOne (a : Option Addr) (n c : Nat) (L : List Int) (w : World) (hn : n ≤ 1048576) (hL1 : 1 ≤ L.length) (hL2 : L.length ≤ 200) (hB : BytesIn w a n) :
    Calls Tryd.prog 16 #[.pointer (some ⟨w.heap.size, 0, none⟩), .slice (some ⟨w.heap.size + 1, 0, none⟩) L.length L.length] ((w.alloc (.cells #[.slice a n c, .int .i64 0, .int .u64 0] 35)).alloc (.cells (L.map (Value.int .i64)).toArray 3))
      fun e w' => ∃ v : Int, e = .returned (.int .i64 v) ∧ v ∈ L ∧ Below w.heap.size w w' := by
  obtain ⟨w1, hw1⟩ : ∃ w1, w1 = w.alloc (.cells #[.slice a n c, .int .i64 0, .int .u64 0] 35) := ⟨_, rfl⟩
  have s1 : w1.heap.size = w.heap.size + 1 := by rw [hw1]; simp
  have hC1 : CurAt w1 w.heap.size a n c 0 0 := by rw [hw1]; exact CurAt.new w a n c
  have hb1 : Below w.heap.size w w1 := by rw [hw1]; exact (Below.refl _ _).alloc (Nat.le_refl _) _
  rw [← hw1, ← s1]
  have hb2 : Below w1.heap.size w1 (w1.alloc (.cells (L.map (Value.int .i64)).toArray 3)) := (Below.refl _ _).alloc (Nat.le_refl _) _
  refine (curAmong_any w.heap.size a n c 0 0 (some ⟨w1.heap.size, 0, none⟩) L.length L _ (by omega) (by omega) hL1 hL2 (cur_ints w1 L) (fun b o e => by cases e; omega) ((hB.below hb1).below hb2) (hC1.below hb2)).mono ?_
  rintro e w3 ⟨v, k', s', rfl, hv, _, _, hO⟩
  refine ⟨v, rfl, hv, (hb1.trans (hb2.mono hb1.size)).trans (hO.below (fun k hk => by have := hk; omega))⟩
set_option maxRecDepth 100000 in
set_option maxHeartbeats 400000 in
theorem drawCountByFirst_any (a : Option Addr) (n c : Nat) (w : World) (hn : n ≤ 1048576) (hB : BytesIn w a n) :
    Calls Tryd.prog 5 #[.slice a n c] w fun e w' => ∃ v : Int, e = .returned (.int .i64 v) ∧ v ∈ [1, 2, 3, 4, 5, 6, 7, 0, -1] ∧ Below w.heap.size w w' := by
  have C := Lib.hid (drawOne a n c [1, 2, 3, 4, 5, 6, 7, 0, -1] w hn (by decide) (by decide) hB)
  clear hB
  go_enter Tryd.func5, Tryd.ntmps5
  go_wp2_with fail
  refine C.out.mono ?_
  rintro e w2 ⟨v, rfl, hv, hb⟩
  have H := Lib.hid (And.intro hv hb)
  clear hv hb
  go_wp2
  go_ret
  exact ⟨v, rfl, H.out.1, H.out.2⟩
set_option maxRecDepth 100000 in
set_option maxHeartbeats 400000 in
theorem drawCountByMinus_any (a : Option Addr) (n c : Nat) (w : World) (hn : n ≤ 1048576) (hB : BytesIn w a n) :
    Calls Tryd.prog 11 #[.slice a n c] w fun e w' => ∃ v : Int, e = .returned (.int .i64 v) ∧ v ∈ [1, 2, 3, 4, 5, 6, 0] ∧ Below w.heap.size w w' := by
  have C := Lib.hid (drawOne a n c [1, 2, 3, 4, 5, 6, 0] w hn (by decide) (by decide) hB)
  clear hB
  go_enter Tryd.func11, Tryd.ntmps11
  go_wp2_with fail
  refine C.out.mono ?_
  rintro e w2 ⟨v, rfl, hv, hb⟩
  have H := Lib.hid (And.intro hv hb)
  clear hv hb
  go_wp2
  go_ret
  exact ⟨v, rfl, H.out.1, H.out.2⟩
end Go.Proofs.YtmcgnbbobhfkpaaDoor

