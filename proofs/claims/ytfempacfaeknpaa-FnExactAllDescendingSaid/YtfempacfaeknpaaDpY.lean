/- Contract: all partitions of which the first row is allowed, by the program, all rows apart. Conditions: at most 3 limits of at most 6. -/
import Derived.Test.YtfempacfaeknpaaDpX
import Derived.Test.YtfempacfaeknpaaOwnL
namespace Go.Proofs.Ytfempacfaeknpaa
open Go.RowKit

theorem planesL_len : ∀ f l, (planesL f l).length = countL f l
  | 0, l => rfl
  | f + 1, l => by
    show (([] : List (List Int)) :: (rowsL l).flatMap fun row => (planesL f (limB row)).map fun p => row :: p).length = 1 + ((rowsL l).map fun row => countL f (limB row)).sum
    rw [List.length_cons, List.length_flatMap]
    have e : (rowsL l).map (fun row => ((planesL f (limB row)).map fun p => row :: p).length) = (rowsL l).map fun row => countL f (limB row) := List.map_congr_left fun row _ => by rw [List.length_map, planesL_len f]
    rw [e]
    omega
/-- a partition's rows are few -/
theorem planesL_rows : ∀ f l p, p ∈ planesL f l → p.length ≤ f
  | 0, l, p, h => by simp [planesL] at h; subst h; simp
  | f + 1, l, p, h => by
    unfold planesL at h
    rcases List.mem_cons.1 h with rfl | h
    · simp
    · obtain ⟨row, _, h2⟩ := List.mem_flatMap.1 h
      obtain ⟨q, hq, rfl⟩ := List.mem_map.1 h2
      have := planesL_rows f _ q hq
      simp only [List.length_cons]
      omega
def planesTo (f : Nat) (R : List (List Int)) (k : Nat) : List (List (List Int)) := [] :: (R.take k).flatMap fun row => (planesL f (limB row)).map fun p => row :: p
theorem planesTo_succ {f : Nat} {R : List (List Int)} {k : Nat} (h : k < R.length) : planesTo f R (k + 1) = planesTo f R k ++ (planesL f (limB (gr R k))).map fun p => gr R k :: p := by
  unfold planesTo
  rw [List.take_succ_eq_append_getElem h, gr_lt h, List.flatMap_append]
  simp only [List.flatMap_cons, List.flatMap_nil, List.append_nil, List.cons_append]
theorem planesTo_all (f : Nat) (l : List Int) : planesTo f (rowsL l) (rowsL l).length = planesL (f + 1) l := by
  unfold planesTo
  rw [List.take_length]
  rfl
theorem planesTo_mono {f : Nat} {R : List (List Int)} {k : Nat} (h : k ≤ R.length) : (planesTo f R k).length ≤ (planesTo f R R.length).length := by
  have : ∀ d, k + d ≤ R.length → (planesTo f R k).length ≤ (planesTo f R (k + d)).length := by
    intro d
    induction d with
    | zero => intro _; exact Nat.le_refl _
    | succ d ih =>
      intro hd
      have h1 := ih (by omega)
      have h2 := congrArg List.length (planesTo_succ (f := f) (R := R) (k := k + d) (by omega))
      rw [List.length_append] at h2
      show _ ≤ (planesTo f R (k + d + 1)).length
      omega
  have h2 := this (R.length - k) (by omega)
  rwa [show k + (R.length - k) = R.length by omega] at h2
def innerTo (P : List (List (List Int))) (row : List Int) (S : List (List (List Int))) (t : Nat) : List (List (List Int)) := P ++ (S.take t).map fun p => row :: p
theorem innerTo_succ {P S : List (List (List Int))} {row : List Int} {t : Nat} (h : t < S.length) : innerTo P row S (t + 1) = innerTo P row S t ++ [row :: gt S t] := by
  unfold innerTo
  rw [List.take_succ_eq_append_getElem h, gt_lt h, List.map_append, List.append_assoc]
  rfl
theorem innerTo_all (P S : List (List (List Int))) (row : List Int) : innerTo P row S S.length = P ++ S.map fun p => row :: p := by
  unfold innerTo
  rw [List.take_length]
theorem getD_cons_zero (x : Value) (xs : List Value) : (x :: xs).getD 0 undef = x := rfl
theorem getD_cons_succ (x : Value) (xs : List Value) (i : Nat) : (x :: xs).getD (i + 1) undef = xs.getD i undef := by simp [List.getD]

set_option maxRecDepth 100000 in
set_option maxHeartbeats 6400000 in
theorem planes_any : ∀ (f : Nat), f ≤ 4 → ∀ (l : List Int) (ao : Option Addr) (c : Nat) (w : World), (∀ i, gi l i ≤ 6) → l.length ≤ f → IntsAt w ao l →
    Calls Try.prog 70 #[.slice ao l.length c] w fun e w' => ∃ v vs uss, e = .returned v ∧ OwnL w' w.heap.size v (planesL (f + 1) l) vs uss ∧ Below w.heap.size w w' := by
  intro f
  induction f using Nat.strongRecOn with
  | _ f ih =>
    intro hf l ao c w h6 hl hx
    obtain ⟨w1, hw1⟩ : ∃ w1, w1 = w.alloc (.cells #[.slice none 0 0] 22) := ⟨_, rfl⟩
    have HO0 := Lib.hid (OwnL.one0 w)
    have hb0 : Below w.heap.size w w1 := by rw [hw1]; exact (Below.refl _ _).alloc (Nat.le_refl _) _
    rw [← hw1] at HO0
    have C := Lib.hid (rows_any l h6 (by omega) ao c w1 (hx.below hb0))
    have HB0 := Lib.hid hb0
    have Hal := Lib.hid (fun r (hr : r ∈ rowsL l) => rowsL_allow hr)
    have hCb := boundC_le hf
    have Hle := Lib.hid (show (planesL (f + 1) l).length ≤ 1000000000 by rw [planesL_len]; have := countL_le f l h6 hl (by omega); omega)
    have Hsm := Lib.hid (rowsL_small h6 (by omega))
    have IH := Lib.hid ih
    have HE := Lib.hid (planesTo_all f l)
    have HSub := Lib.hid (fun (row : List Int) (h : Allow l row) => show (planesL f (limB row)).length ≤ 1000000000 ∧ ∀ p, p ∈ planesL f (limB row) → p.length ≤ 4 from by
      have hsh := limB_short h
      refine ⟨?_, fun p hp => by have := planesL_rows _ _ p hp; omega⟩
      rw [planesL_len]
      have h2 := countL_le (f - 1) (limB row) (limB_le (by have := h.2.1; omega)) (by omega) (by omega)
      have h3 := boundC_le (f := f - 1) (by omega)
      rw [show f - 1 + 1 = f by omega] at h2
      omega)
    obtain ⟨R, hR⟩ : ∃ R, R = rowsL l := ⟨_, rfl⟩
    rw [← hR] at C Hal Hsm HE
    obtain ⟨T, hT⟩ : ∃ T, T = planesL (f + 1) l := ⟨_, rfl⟩
    rw [← hT] at Hle HE ⊢
    have Hw1 := Lib.hid hw1
    have hRm : R.length ≤ 9223372036854775807 := by have := Hsm.out.1; omega
    have Hmono := Lib.hid (show ∀ k, k ≤ R.length → (planesTo f R k).length ≤ T.length from fun k hk => by
      rw [← HE.out]
      exact planesTo_mono hk)
    clear hx ih hR hT hw1 hb0
    go_enter Try.func70, Try.ntmps70
    go_wp2_with fail
    rw [← Hw1.out]
    refine C.out.mono ?_
    rintro e w2 ⟨v, rs, rfl, hv, hb⟩
    obtain ⟨ra, rc, hrv, _, _, _⟩ := hv.read
    subst hrv
    have HR := Lib.hid hv
    have HB := Lib.hid (HB0.out.trans (hb.mono HB0.out.size))
    have HO2 := Lib.hid (HO0.out.below hb)
    clear hv hb C Hw1 HO0
    go_wp2
    go_loopw [3, 12] (fun out i wr => ∃ (k : Nat) (vs : List Value) (uss : List (List Value)), k ≤ R.length ∧ i = .int .i64 k ∧ OwnL wr w.heap.size out (planesTo f R k) vs uss ∧ OwnT wr w1.heap.size (.slice ra R.length rc) R rs ∧ Below w.heap.size w wr) (fun _ i _ => R.length - (intOf i).toNat)
    case atStart => exact ⟨0, _, _, Nat.zero_le _, rfl, HO2.out, HR.out, HB.out⟩
    case round =>
      obtain ⟨k, vs, uss, hk, rfl, hown, hrr, hbr⟩ := hrel
      have Hown := Lib.hid hown
      have HRr := Lib.hid hrr
      have Hbr := Lib.hid hbr
      have HBr := Lib.hid hbr.size
      clear hown hrr hbr HO2 HR HB
      by_cases hlt : k < R.length
      · obtain ⟨b1, o1, r1, d1, e1, hc1, hr1, hi1, _, _⟩ := HRr.out.toV.rowAt hlt
        have ha := Hal.out _ (gr_mem hlt)
        have Hst := Lib.hid (planesTo_succ (f := f) hlt)
        have hm1 := Hmono.out (k + 1) (by omega)
        have hrl0 : (gr R k).length ≤ 5 := by have := ha.2.1; omega
        have hsub := HSub.out (gr R k) ha
        have hsh := limB_short ha
        have hg6 := limB_le (row := gr R k) (by omega)
        have hbd : ∀ j, j < (gr R k).length → 1 ≤ gi (gr R k) j ∧ gi (gr R k) j ≤ 9223372036854775807 := fun j hj => ⟨(ha.2.2.2 j hj).1, by have := (ha.2.2.2 j hj).2.1; have := h6 j; omega⟩
        have CL := Lib.hid (limitsBelow_any r1 d1 (gr R k) wr ha.1 (by omega) hbd hi1)
        have CC := Lib.hid (fun a c w hx => IH.out (f - 1) (by omega) (by omega) (limB (gr R k)) a c w hg6 (by omega) hx)
        rw [show f - 1 + 1 = f by omega] at CC
        have HiR := Lib.hid hi1
        obtain ⟨row, hrow⟩ : ∃ row, row = gr R k := ⟨_, rfl⟩
        rw [← hrow] at hc1 CL CC hrl0 Hst hsub HiR hr1
        have Hrv := Lib.hid hr1
        have HrR := Lib.hid hrow
        obtain ⟨L, hL⟩ : ∃ L, L = limB row := ⟨_, rfl⟩
        rw [← hL] at CL CC Hst hsub
        obtain ⟨S, hS⟩ : ∃ S, S = planesL f L := ⟨_, rfl⟩
        rw [← hS] at CC Hst hsub
        obtain ⟨P, hP⟩ : ∃ P, P = planesTo f R k := ⟨_, rfl⟩
        rw [← hP] at Hst Hown
        have Hsub := Lib.hid hsub
        have hSm : S.length ≤ 9223372036854775807 := by have := hsub.1; omega
        have Htot := Lib.hid (show P.length + S.length ≤ 1000000000 by
          have h1 := Hst.out
          have h2 := congrArg List.length h1
          rw [List.length_append, List.length_map] at h2
          have := Hle.out
          omega)
        have hrm : row.length ≤ 9223372036854775807 := by omega
        subst e1
        clear hr1 hi1 ha hm1 hsub hsh hg6 hbd hrow hL hS hP
        go_wp2_with fail
        refine CL.out.mono ?_
        rintro e w3 ⟨v, rfl, hv, hb3⟩
        obtain ⟨la, lc, rfl, _, _, hI⟩ := hv.read
        have HI := Lib.hid hI
        have HB3 := Lib.hid hb3
        clear hv hb3 hI CL
        go_wp2_with fail
        refine (CC.out la lc w3 HI.out).mono ?_
        rintro e w4 ⟨v, ws, wss, rfl, hv, hb4⟩
        obtain ⟨sa, sc, hsv, _, _⟩ := hv.head
        subst hsv
        have HS := Lib.hid hv
        have HB4 := Lib.hid (HB3.out.trans (hb4.mono HB3.out.size))
        have Hown4 := Lib.hid (Hown.out.below HB4.out)
        have HR4 := Lib.hid (HRr.out.below HB4.out)
        have Hi4 := Lib.hid (HiR.out.below HB4.out)
        have HBw4 := Lib.hid (Hbr.out.trans (HB4.out.mono HBr.out))
        have Hw3 := Lib.hid (show w.heap.size ≤ w3.heap.size from Nat.le_trans HBr.out HB3.out.size)
        have Hcr := Lib.hid (show Cross uss wss 0 from fun i j hi _ hj a b ha hb g hg1 hg2 => by
          have h1 := (Hown.out.old (i := i) (by rw [← Hown.out.num]; exact hi) ha hg1).2
          have h2 := (HS.out.old (i := j) (by rw [← HS.out.num]; exact hj) hb hg2).1
          have := HB3.out.size
          omega)
        have Hsep := Lib.hid (show ∀ v0, OwnL wr w.heap.size v0 P vs uss → ∀ g, v0.ownBlock = some g → (Value.slice sa S.length sc).ownBlock ≠ some g from fun v0 h0 g hg1 hg2 => by
          have h1 := (World.ownsRow.lt h0.top g hg1).2
          have h2 := (World.ownsRow.lt HS.out.top g hg2).1
          have := HB3.out.size
          omega)
        have Hsep := Lib.hid (Hsep.out _ Hown.out)
        clear hv hb4 CC HiR HRr Hown
        go_wp2
        go_loopw [3, 20] (fun out i wr => ∃ (t : Nat) (vs : List Value) (uss : List (List Value)), t ≤ S.length ∧ i = .int .i64 t ∧ OwnL wr w.heap.size out (innerTo P row S t) vs uss ∧ OwnT wr w1.heap.size (.slice (some ⟨b1, o1, none⟩) R.length rc) R rs ∧ OwnL wr w3.heap.size (.slice sa S.length sc) S ws wss ∧ IntsAt wr r1 row ∧ Cross uss wss t ∧ (∀ g, out.ownBlock = some g → (Value.slice sa S.length sc).ownBlock ≠ some g) ∧ Below w.heap.size w wr) (fun _ i _ => S.length - (intOf i).toNat)
        case atStart => exact ⟨0, vs, uss, Nat.zero_le _, rfl, by rw [show innerTo P row S 0 = P by simp [innerTo]]; exact Hown4.out, HR4.out, HS.out, Hi4.out, Hcr.out, Hsep.out, HBw4.out⟩
        case round =>
          obtain ⟨t, vs2, uss2, ht, rfl, hown, hrr, hss, hir, hcr, hsp, hbr⟩ := hrel
          have Hsp5 := Lib.hid hsp
          have Hown5 := Lib.hid hown
          have HR5 := Lib.hid hrr
          have HS5 := Lib.hid hss
          have Hi5 := Lib.hid hir
          have Hcr5 := Lib.hid hcr
          have HBw5 := Lib.hid hbr
          have HBz5 := Lib.hid hbr.size
          clear hown hrr hss hir hcr hbr hsp Hown4 HR4 HS Hi4 Hcr HBw4 Hsep
          by_cases htl : t < S.length
          · obtain ⟨b3, o3, r3, d3, e3, hc3, hv3, _, hd3, _⟩ := HS5.out.at htl
            have HT := HS5.out.each t htl
            rw [hv3] at HT
            have Hst2 := Lib.hid (innerTo_succ (P := P) (row := row) htl)
            have hl4 := Hsub.out.2 (gt S t) (gt_mem htl)
            have HcrT := Lib.hid (fun i hi => Hcr5.out i t hi (Nat.le_refl _) (by rw [HS5.out.num]; exact htl))
            obtain ⟨tb, htb⟩ : ∃ tb, tb = gt S t := ⟨_, rfl⟩
            rw [← htb] at hc3 HT Hst2 hl4
            obtain ⟨M, hM⟩ : ∃ M, M = innerTo P row S t := ⟨_, rfl⟩
            rw [← hM] at Hown5 Hst2
            have HT5 := Lib.hid HT
            have hM9 : M.length ≤ 1000000000 := by
              have := Htot.out
              rw [hM]
              unfold innerTo
              rw [List.length_append, List.length_map, List.length_take]
              omega
            subst e3
            clear hv3 HT htb hM
            go_wp2_with fail
            refine (sClone_any r1 d1 row wr (by omega) Hi5.out).mono ?_
            rintro e w5 ⟨cv, rfl, hv, hb5⟩
            obtain ⟨ca, cc, hcv, _, _, _⟩ := hv.read
            subst hcv
            have HV := Lib.hid hv
            have HB5 := Lib.hid hb5
            have H1 := Lib.hid (OwnT.one (B := w.heap.size) (hv.base HBz5.out) (Nat.le_trans HBz5.out hb5.size))
            obtain ⟨w6, hw6⟩ : ∃ w6, w6 = w5.alloc (.cells #[.slice ca row.length cc] 42) := ⟨_, rfl⟩
            have HB6 := Lib.hid (show Below wr.heap.size wr w6 by rw [hw6]; exact hb5.alloc hb5.size _)
            rw [← hw6] at H1
            have HT6 := Lib.hid (HT5.out.below HB6.out)
            have Hap := Lib.hid (show Apart2 [Value.slice ca row.length cc] (ug wss t) from fun a b ha hb g hg1 hg2 => by
              obtain rfl : a = 0 := by simp at ha; omega
              have h1 := (HV.out.lt g hg1).1
              have h2 := (HT5.out.old b (by rw [← HT5.out.len]; exact hb) g hg2).2
              omega)
            have Hw6 := Lib.hid hw6
            clear hv hb5
            subst hw6
            go_wp2_with (at_builtin; refine wpList_rowsL rfl _ _ rfl w.heap.size w3.heap.size _ _ [row] tb [.slice ca row.length cc] (ug wss t) H1.out HT6.out rfl rfl Hw3.out Hap.out (by have := HB6.out.size; have := HBz5.out; omega) (by simp; omega) ?_)
            intro v7 w7 hown7 hg7
            have hb7 : Below wr.heap.size wr w7 := Below.grown HB6.out hg7 HB6.out.size (fun g hg => by
              simp only [Value.ownBlock, Option.some.injEq] at hg
              have := HB5.out.size
              omega)
            obtain ⟨NT, hNT⟩ : ∃ NT, NT = row :: tb := ⟨_, rfl⟩
            have hown7' : OwnT w7 w.heap.size v7 NT (.slice ca row.length cc :: ug wss t) := by rw [hNT]; exact hown7
            rw [← hNT] at Hst2
            obtain ⟨na, nc, hnv, _, _, _⟩ := hown7'.read
            subst hnv
            have Hnew := Lib.hid hown7'
            have HB7 := Lib.hid hb7
            have Hown7 := Lib.hid (Hown5.out.below hb7)
            have HR7 := Lib.hid (HR5.out.below hb7)
            have HS7 := Lib.hid (HS5.out.below hb7)
            have Hi7 := Lib.hid (Hi5.out.below hb7)
            have HBw7 := Lib.hid (HBw5.out.trans (hb7.mono HBz5.out))
            have Hne := Lib.hid (show ∀ i, i < M.length → Apart2 (ug uss2 i) (.slice ca row.length cc :: ug wss t) from fun i hi a b ha hb g hg1 hg2 => by
              have hold := Hown5.out.old hi ha hg1
              cases b with
              | zero =>
                rw [getD_cons_zero] at hg2
                have := (HV.out.lt g hg2).1
                omega
              | succ b =>
                rw [getD_cons_succ] at hg2
                exact HcrT.out i (by rw [Hown5.out.num]; exact hi) a b ha (by simpa using hb) g hg1 hg2)
            have Hcr6 := Lib.hid (show Cross (uss2 ++ [.slice ca row.length cc :: ug wss t]) wss (t + 1) from fun i j hi hj1 hj2 => by
              rw [List.length_append, List.length_singleton] at hi
              by_cases hi2 : i < uss2.length
              · rw [ug_left hi2]
                exact Hcr5.out i j hi2 (by omega) hj2
              · obtain rfl : i = uss2.length := by omega
                rw [ug_right (Nat.le_refl _), Nat.sub_self]
                intro a b ha hb g hg1 hg2
                have hjS : j < S.length := by rw [← HS5.out.num]; exact hj2
                have hold := HS5.out.old hjS hb hg2
                cases a with
                | zero =>
                  have hg1' : (Value.slice ca row.length cc).ownBlock = some g := hg1
                  have := (HV.out.lt g hg1').1
                  omega
                | succ a =>
                  have hg1' : ((ug wss t).getD a undef).ownBlock = some g := by
                    have e : (ug [Value.slice ca row.length cc :: ug wss t] 0) = Value.slice ca row.length cc :: ug wss t := rfl
                    rw [e, getD_cons_succ] at hg1
                    exact hg1
                  exact HS5.out.apart t j (by omega) hjS a b (by simpa [ug] using ha) hb g hg1' hg2)
            clear hown7 hown7' hg7 hb7 hNT H1 HT6 Hap HB6 HT5 HV HB5 HcrT
            go_wp2_with (at_builtin; refine wpList_tabL rfl _ _ rfl w.heap.size _ _ M vs2 uss2 NT (.slice ca row.length cc :: ug wss t) Hown7.out Hnew.out rfl rfl Hne.out HBw7.out.size (by omega) ?_)
            intro v8 w8 hown8 hg8 hb8 hat8
            rw [← Hst2.out] at hown8
            have hba : Below w7.heap.size w7 (w7.alloc (.cells #[.slice na NT.length nc] 22)) := (Below.refl _ _).alloc (Nat.le_refl _) _
            have Hown8 := Lib.hid hown8
            have HR8 := Lib.hid ((HR7.out.below hba).keptG (Hown7.out.below hba).top (by decide) (by decide) hg8)
            have HS8 := Lib.hid ((HS7.out.below hba).keptS (Hown7.out.below hba).top Hsp5.out hg8)
            have Hi8 := Lib.hid (show IntsAt w8 r1 row from by
              have h1 := HR8.out.rows k hlt
              rw [Hrv.out, ← HrR.out] at h1
              exact own_at h1)
            have Hsp8 := Lib.hid (show ∀ g, v8.ownBlock = some g → (Value.slice (some ⟨b3, o3, none⟩) S.length sc).ownBlock ≠ some g from fun g hg1 hg2 => by
              rcases hat8 with e | e
              · rw [e] at hg1; exact Hsp5.out g hg1 hg2
              · rw [e] at hg1
                have h1 := (World.ownsRow.lt HS7.out.top g hg2).2
                simp only [Option.some.injEq] at hg1
                omega)
            have HB8 := Lib.hid (HBw7.out.trans hb8)
            clear hown8 hg8 hb8 hat8 hba Hown7 HR7 HS7 Hown5 HR5 HS5 Hsp5 Hcr5 Hnew Hne
            go_wp2
            go_roundw
            case rel => exact ⟨t + 1, _, _, by omega, by go_num, Hown8.out, HR8.out, HS8.out, Hi8.out, Hcr6.out, Hsp8.out, HB8.out⟩
            case measure => simp [intOf]; omega
          · obtain rfl : t = S.length := by omega
            have Hfin := Lib.hid (show OwnL wr w.heap.size _ (planesTo f R (k + 1)) vs2 uss2 from by rw [Hst.out, ← innerTo_all]; exact Hown5.out)
            clear Hown5
            go_wp2
            go_roundw
            case rel => exact ⟨k + 1, _, _, by omega, by go_num, Hfin.out, HR5.out, HBw5.out⟩
            case measure => simp [intOf]; omega
      · obtain rfl : k = R.length := by omega
        have HF := Lib.hid (show OwnL wr w.heap.size _ T vs uss from by rw [← HE.out]; exact Hown.out)
        clear Hown
        go_wp2
        go_ret
        exact ⟨_, vs, uss, rfl, HF.out, Hbr.out⟩
end Go.Proofs.Ytfempacfaeknpaa
