/- Contracts of the program: all patterns that are reached by joining. Conditions: lengths up to 2^20, numbers of an int. -/
import Derived.Test.YtncpoljjfhmkeaaSyH
import Derived.Test.YtncpoljjfhmkeaaSyO
namespace Go.Proofs.Ytncpoljjfhmkeaa
open Go.RowKit

theorem OwnP.ext {w : World} {B n k : Nat} {v : Value} {m m' : List (List Int)} {vs : List Value} (h : OwnP w B v n m k vs) (e : ∀ i, i < k → gr m' i = gr m i) : OwnP w B v n m' k vs :=
  ⟨h.top, fun i hi => by rw [e i hi]; exact h.rows i hi, h.apart⟩
theorem gr_left {L : List (List Int)} {J : List Int} {i : Nat} (h : i < L.length) : gr (L ++ [J]) i = gr L i := by
  rw [gr_lt (by rw [List.length_append]; omega), gr_lt h, List.getElem_append_left h]
theorem gr_lastB (L : List (List Int)) (J : List Int) : gr (L ++ [J]) L.length = J := by
  rw [gr_lt (by simp)]
  simp
theorem rowR_same {l : List (List Int)} {k i : Nat} (h : joinL (gr (rowR l k i) k) i ∈ rowR l k i) : rowR l k (i + 1) = rowR l k i := by
  show stepR (rowR l k i) k i = _
  unfold stepR
  rw [if_pos h]
theorem rowR_more {l : List (List Int)} {k i : Nat} (h : joinL (gr (rowR l k i) k) i ∉ rowR l k i) : rowR l k (i + 1) = rowR l k i ++ [joinL (gr (rowR l k i) k) i] := by
  show stepR (rowR l k i) k i = _
  unfold stepR
  rw [if_neg h]

set_option maxRecDepth 100000 in
set_option maxHeartbeats 1600000 in
theorem reachedFrom_any (n : Nat) (ao : Option Addr) (c : Nat) (p : List Int) (w : World) (h1 : 1 ≤ n) (h4 : n < 5) (hp : p ∈ patP 6 n) (hx : IntsAt w ao p) :
    Calls Try.prog 83 #[.slice ao p.length c] w fun e w' => ∃ v, e = .returned v ∧ OwnM w' w.heap.size v (patP 6 n) ∧ Below w.heap.size w w' := by
  obtain ⟨j0, hj, hy0, hy1, hy2⟩ := info_parts Try.info_ints
  have hpl := patP_len h4 hp
  have hN14 : catN n ≤ 14 := catN_le n h4
  have HR := Lib.hid (reach_is h1 h4 hp)
  have HI := Lib.hid (fun k hk => outR_in h1 h4 hp k hk)
  have HEn := Lib.hid (outR_end h1 h4 hp)
  have HIR := Lib.hid (fun l k (hl : ∀ x, x ∈ l → x ∈ patP 6 n) (hk : k < l.length) i hi => rowR_in h4 hl hk i hi)
  have Hlk := Lib.hid (fun q hq => patP_lk (n := n) h1 h4 (p := q) hq)
  have Hlen := Lib.hid (fun q hq => patP_len (n := n) h4 (p := q) hq)
  have CS := Lib.hid (fun L vs g cap B w hp h hB => sortL_any n h1 h4 L vs g cap B w hp h hB)
  obtain ⟨P, hP⟩ : ∃ P, P = patP 6 n := ⟨_, rfl⟩
  obtain ⟨N, hNN⟩ : ∃ N, N = catN n := ⟨_, rfl⟩
  obtain ⟨m, hm⟩ : ∃ m, m = 2 * n := ⟨_, rfl⟩
  rw [← hP, ← hNN, ← hm] at HR
  rw [← hP, ← hNN, ← hm] at HI
  rw [← hNN, ← hm] at HEn
  rw [← hP] at Hlk
  rw [← hP, ← hm] at Hlen
  rw [← hP, ← hm] at HIR
  rw [← hP] at CS ⊢
  rw [← hNN] at hN14
  rw [← hm] at hpl
  have hm2 : 2 ≤ m := by omega
  have hm8 : m ≤ 8 := by omega
  have Hpl := Lib.hid hpl
  rw [hpl]
  have CC := sClone_any ao c p w (by omega) hx
  rw [hpl] at CC
  have CC := Lib.hid CC
  clear hp hx hP hNN hm hpl h1 h4
  go_enter Try.func83, Try.ntmps83
  go_wp2_with fail
  refine CC.out.mono ?_
  rintro e w1 ⟨v, rfl, hv, hb⟩
  have hrow := ownsRow_built (e := 22) (base := w.heap.size) w1 [v] hb.size (by simp)
  have HO0 := Lib.hid (show OwnP (w1.alloc (.cells #[v] 22)) w.heap.size (.slice (some ⟨w1.heap.size, 0, none⟩) 1 1) 1 [p] 1 [v] from ⟨hrow, fun i hi => by
    obtain rfl : i = 0 := by omega
    exact World.ownsRow.alloc hv _, fun i j hij hj => absurd hj (by omega)⟩)
  have HB0 := Lib.hid (hb.alloc hb.size (.cells #[v] 22))
  obtain ⟨va, vc, hve, _, _, _⟩ := hv.read
  subst hve
  clear hv hb hrow CC
  go_wp2
  go_loopw [3, 4] (fun q x wr => ∃ (k g c : Nat) (vs : List Value), k ≤ N ∧ x = .int .i64 k ∧ q = .slice (some ⟨g, 0, none⟩) (outR p m k).length c ∧ OwnP wr w.heap.size q (outR p m k).length (outR p m k) (outR p m k).length vs ∧ w.heap.size ≤ g ∧ Below w.heap.size w wr) (fun _ x _ => N - (intOf x).toNat)
  case atStart => exact ⟨0, _, _, _, Nat.zero_le _, rfl, rfl, HO0.out, HB0.out.size |> fun _ => by have := (World.ownsRow.lt HO0.out.top _ rfl).1; exact this, HB0.out⟩
  case round =>
    obtain ⟨k, g, gc, vs, hk, rfl, rfl, hown, hgB, hbr⟩ := hrel
    have Hown := Lib.hid hown
    have Hbr := Lib.hid hbr
    have HgB := Lib.hid hgB
    clear hown hbr HO0 HB0 hgB
    by_cases hkN : k < N
    · have hkl := HR.out.1 k hkN
      have hll : (outR p m k).length ≤ 14 := by
        have := outR_mono p m k N (by omega)
        rw [HEn.out] at this
        omega
      have hll2 : ∀ i, i ≤ m → (rowR (outR p m k) k i).length ≤ 14 := fun i hi => by
        have h5 := rowR_mono (outR p m k) k i m hi
        have h6 := outR_mono p m (k + 1) N (by omega)
        rw [HEn.out] at h6
        exact Nat.le_trans h5 (Nat.le_trans h6 hN14)
      have Hll2 := Lib.hid hll2
      have HIk := Lib.hid (HIR.out (outR p m k) k (HI.out k hk) hkl)
      have HX := Lib.hid (show outR p m (k + 1) = rowR (outR p m k) k m from rfl)
      obtain ⟨l, hl⟩ : ∃ l, l = outR p m k := ⟨_, rfl⟩
      rw [← hl] at Hown hkl hll HX HIk Hll2 ⊢
      clear hll2 hl
      obtain ⟨LL, hLL⟩ : ∃ LL, LL = l.length := ⟨_, rfl⟩
      have Hown := Lib.hid (show OwnP wr w.heap.size (.slice (some ⟨g, 0, none⟩) (rowR l k 0).length gc) (rowR l k 0).length (rowR l k 0) (rowR l k 0).length vs from Hown.out)
      have Hkl := Lib.hid (show ∀ i, k < (rowR l k i).length from fun i => Nat.lt_of_lt_of_le hkl (rowR_len l k i))
      have HLL := Lib.hid (show LL = (rowR l k 0).length from hLL)
      rw [← hLL] at hkl hll ⊢
      clear hLL
      go_wp2
      rw [HLL.out]
      go_loopw [3, 18] (fun q x wq => ∃ (i g c : Nat) (vs : List Value), i ≤ m ∧ x = .int .i64 i ∧ q = .slice (some ⟨g, 0, none⟩) (rowR l k i).length c ∧ OwnP wq w.heap.size q (rowR l k i).length (rowR l k i) (rowR l k i).length vs ∧ w.heap.size ≤ g ∧ Below w.heap.size w wq) (fun _ x _ => m - (intOf x).toNat)
      case atStart => exact ⟨0, _, _, _, Nat.zero_le _, rfl, rfl, Hown.out, HgB.out, Hbr.out⟩
      case round =>
        rename World => wq
        obtain ⟨i, g, gc, vs, hi, rfl, rfl, hown, hgB, hbq⟩ := hrel
        have Hown2 := Lib.hid hown
        have Hbq := Lib.hid hbq
        have HgB2 := Lib.hid hgB
        clear hown hbq Hown Hbr hgB HgB
        by_cases him : i < m
        · have hkr := Hkl.out i
          have hr14 := Hll2.out i hi
          have Hin := Lib.hid (HIk.out i hi)
          obtain ⟨R, hR⟩ : ∃ R, R = rowR l k i := ⟨_, rfl⟩
          have HSm := Lib.hid (show joinL (gr R k) i ∈ R → rowR l k (i + 1) = R from fun h => by rw [hR] at h ⊢; exact rowR_same h)
          have HMo := Lib.hid (show joinL (gr R k) i ∉ R → rowR l k (i + 1) = R ++ [joinL (gr R k) i] from fun h => by rw [hR] at h ⊢; exact rowR_more h)
          have HR2 := Lib.hid hR
          rw [← hR] at Hown2 hkr hr14 Hin ⊢
          have hcell := Hown2.out.cellAt k hkr
          obtain ⟨r1, d1, hv1, _, _, hx1⟩ := (Hown2.out.rows k hkr).read
          rw [hv1] at hcell
          have hGm := Hin.out _ (gr_mem hkr)
          have hGl := Hlen.out _ hGm
          have CJ := Lib.hid (joined_any r1 d1 (gr R k) i wq (Hlk.out _ hGm) (by omega) hx1)
          have HJl := Lib.hid (show (joinL (gr R k) i).length ≤ 12 by rw [joinL_len, hGl]; omega)
          have hmat := Hown2.out.at rfl
          have Hmat := Lib.hid hmat
          have Hsh := Lib.hid (show Short R from ⟨hr14, fun j hj => by rw [Hlen.out _ (Hin.out _ (gr_mem hj))]; omega⟩)
          rw [hGl] at hcell CJ
          obtain ⟨J, hJ⟩ : ∃ J, J = joinL (gr R k) i := ⟨_, rfl⟩
          rw [← hJ] at CJ HJl HSm HMo
          obtain ⟨LR, hLR⟩ : ∃ LR, LR = R.length := ⟨_, rfl⟩
          have HLR := Lib.hid hLR
          rw [← hLR] at hkr hr14 Hown2 ⊢
          clear hR hv1 hx1 hGm hGl hmat hJ hLR
          go_wp2_with fail
          refine CJ.out.mono ?_
          rintro e w3 ⟨u, rfl, hu, hb⟩
          have hu2 := hu
          obtain ⟨ua, uc, rfl, _, _, hui⟩ := hu.read
          have Hb3 := Lib.hid (Hbq.out.trans (hb.mono Hbq.out.size))
          have Hown3 := Lib.hid (Hown2.out.below hb)
          have Hfr := Lib.hid (Hown2.out.fresh hu (Nat.le_refl _))
          have Hu3 := Lib.hid (hu.base Hbq.out.size)
          have CI := indexOf_any (some ⟨g, 0, none⟩) ua gc uc R J w3 Hsh.out HJl.out (Hmat.out.below hb) hui
          rw [← HLR.out] at CI
          have CI := Lib.hid CI
          clear hu hu2 hb hui CJ Hown2 Hbq
          by_cases hin : J ∈ R
          · rw [ixOf_in hin] at CI
            have HS := Lib.hid (HSm.out hin)
            clear hin HSm HMo
            go_wp2_with fail
            refine CI.out.mono ?_
            rintro e w4 ⟨rfl, hb⟩
            have Hown4 := Lib.hid (Hown3.out.below hb)
            have Hb4 := Lib.hid (Hb3.out.trans (hb.mono Hb3.out.size))
            clear hb CI
            go_wp2
            go_roundw
            case rel => exact ⟨i + 1, g, gc, vs, by omega, by go_num, by rw [HS.out, ← HLR.out], by rw [HS.out, ← HLR.out]; exact Hown4.out, HgB2.out, Hb4.out⟩
            case measure => simp [intOf]; omega
          · rw [ixOf_out hin] at CI
            have HS := Lib.hid (HMo.out hin)
            clear hin HSm HMo
            go_wp2_with fail
            refine CI.out.mono ?_
            rintro e w4 ⟨rfl, hb⟩
            have Hown4 := Lib.hid (show OwnP w4 w.heap.size (.slice (some ⟨g, 0, none⟩) LR gc) LR (R ++ [J]) LR vs from (Hown3.out.below hb).ext fun j hj => gr_left (by rw [← HLR.out]; exact hj))
            have Hu4 := Lib.hid (show OwnI w4 w.heap.size (.slice ua J.length uc) (gr (R ++ [J]) LR) by rw [HLR.out, gr_lastB]; exact Hu3.out.below hb)
            have Hb4 := Lib.hid (Hb3.out.trans (hb.mono Hb3.out.size))
            clear hb CI Hown3 Hu3
            go_wp2_with (at_builtin; refine wpList_append_own _ rfl _ _ 36 rfl w.heap.size 22 j0 (.slice none 0 0) 1 24 Try.underlying36 hj hy0 hy1 hy2 rfl (by decide) _ _ _ rfl (World.ownsRow.alloc Hown4.out.top _) ⟨w4.heap.size, 0, none⟩ 1 1 [.slice ua J.length uc] rfl rfl ?e1 ?e2 ?e3 ?e4 ?e5 ?_)
            case e1 => exact cell_one_new _ _ _
            case e2 => first | rfl | (intro u hu; simp at hu; subst hu; rfl)
            case e3 => unfold maxLen; omega
            case e4 => omega
            case e5 => have := Hb4.out.size; simp; omega
            intro v' w5 hown' hgrow _
            have hput := Hown4.out.snoc Hb4.out.size Hu4.out Hfr.out hown' hgrow
            have hfin : OwnM w5 w.heap.size v' (rowR l k (i + 1)) := by
              rw [HS.out]
              have e : (R ++ [J]).length = LR + 1 := by rw [List.length_append, ← HLR.out]; rfl
              exact ⟨_, by rw [e]; exact hput.1⟩
            obtain ⟨g2, c2, vs2, rfl, hp2, hg2⟩ := hfin.head (by rw [HS.out, List.length_append]; simp)
            have Hp2 := Lib.hid hp2
            have Hb5 := Lib.hid (Hb4.out.trans hput.2)
            clear hown' hgrow hput hfin hp2
            go_wp2
            go_roundw
            case rel => exact ⟨i + 1, g2, c2, vs2, by omega, by go_num, rfl, Hp2.out, hg2, Hb5.out⟩
            case measure => simp [intOf]; omega
        · obtain rfl : i = m := by omega
          rw [← HX.out] at Hown2 ⊢
          go_wp2
          go_roundw
          case rel => exact ⟨k + 1, g, gc, vs, by omega, by go_num, rfl, Hown2.out, HgB2.out, Hbq.out⟩
          case measure => simp [intOf]; omega
    · obtain rfl : k = N := by omega
      have CT := CS.out (outR p m k) vs g gc w.heap.size wr HR.out.2 Hown.out HgB.out
      have he := HEn.out
      rw [he] at CT ⊢
      have CT := Lib.hid CT
      have hdk : decide (k < k) = false := by simp
      clear he
      go_wp2_with fail
      refine CT.out.mono ?_
      rintro e w4 ⟨rfl, hm4, hb⟩
      have Hm4 := Lib.hid hm4
      have Hb4 := Lib.hid (Hbr.out.trans hb)
      clear hm4 hb CT
      go_wp2
      go_ret
      exact ⟨_, rfl, Hm4.out, Hb4.out⟩

set_option maxRecDepth 100000 in
set_option maxHeartbeats 800000 in
theorem implReachedFrom_any (ao : Option Addr) (c : Nat) (p : List Int) (w : World) (hn : p.length ≤ 1048576) (hwf : WfI p) (hx : IntsAt w ao p) :
    Calls Try.prog 46 #[.slice ao p.length c] w fun e w' => MRes (pat4 p) (patP 6 (p.length / 2)) w' w.heap.size e ∧ Below w.heap.size w w' := by
  have Hx := Lib.hid hx
  have Hwf := Lib.hid hwf
  clear hx hwf
  go_enter Try.func46, Try.ntmps46
  go_wp2_with fail
  refine (isRankedPattern_any ao c p w hn Hwf.out Hx.out).mono ?_
  rintro e w1 ⟨ha, hb1⟩
  have HB := Lib.hid hb1
  clear hb1
  by_cases hg : pat4 p
  · have H4 := Lib.hid hg
    obtain rfl := ha.is hg
    have C := Lib.hid (reachedFrom_any (p.length / 2) ao c p w1 (by have := hg.1.lo; omega) (by have := hg.2; omega) hg.mem (Hx.out.below HB.out))
    obtain ⟨P, hP⟩ : ∃ P, P = patP 6 (p.length / 2) := ⟨_, rfl⟩
    have HP := Lib.hid hP
    rw [← hP] at C
    clear ha hg hP
    go_wp2_with fail
    refine C.out.mono ?_
    rintro e w2 ⟨v, rfl, hv, hb⟩
    have Hv := Lib.hid (hv.base HB.out.size)
    have HB2 := Lib.hid (HB.out.trans (hb.mono HB.out.size))
    clear hv hb C
    go_wp2
    go_ret2
    exact ⟨by rw [← HP.out]; exact MRes.yes H4.out Hv.out, HB2.out⟩
  · have H4 := Lib.hid hg
    obtain rfl := ha.isnt hg
    clear ha hg
    go_wp2
    go_ret2
    exact ⟨MRes.no H4.out, HB.out⟩
end Go.Proofs.Ytncpoljjfhmkeaa
