/- Contracts: GreatestTable, by both sides. Condition: an int. -/
import Derived.Test.YtfempacfaeknpaaDpZ
import Derived.Test.YtfempacfaeknpaaLRes
import Derived.Test.YtfempacfaeknpaaDpT
namespace Go.Proofs.Ytfempacfaeknpaa
open Go.RowKit

instance (rows : List (List Int)) (n : Nat) : Decidable (DpGood rows n) := by unfold DpGood; exact inferInstance
/-- how many of the first k have v parts n -/
def gtN (n : Nat) (A : List (List (List Int))) (k v : Nat) : Nat := ((A.take k).filter fun p => decide (sumT (fEq n) p p.length = v)).length
def gtT (n : Nat) (A : List (List (List Int))) (k : Nat) : List Int := (List.range n).map fun v => (gtN n A k v : Int)
theorem gtT_len (n : Nat) (A : List (List (List Int))) (k : Nat) : (gtT n A k).length = n := by simp [gtT]
theorem gi_gtT {n v : Nat} {A : List (List (List Int))} {k : Nat} (h : v < n) : gi (gtT n A k) v = (gtN n A k v : Int) := by
  rw [gi_lt (by rw [gtT_len]; exact h)]
  simp [gtT]
theorem gtN_le (n : Nat) (A : List (List (List Int))) (k v : Nat) : gtN n A k v ≤ A.length := by
  unfold gtN
  have h1 := List.length_filter_le (fun p => decide (sumT (fEq n) p p.length = v)) (A.take k)
  rw [List.length_take] at h1
  omega
theorem gtT_zero (n : Nat) (A : List (List (List Int))) : gtT n A 0 = List.replicate n 0 := by
  refine ext_gi (by simp [gtT_len]) fun i hi => ?_
  rw [gtT_len] at hi
  rw [gi_gtT hi, gi_lt (by simpa using hi)]
  simp [gtN]
theorem gtN_succ {n : Nat} {A : List (List (List Int))} {k : Nat} (h : k < A.length) (v : Nat) : gtN n A (k + 1) v = gtN n A k v + if sumT (fEq n) (gt A k) (gt A k).length = v then 1 else 0 := by
  unfold gtN
  rw [List.take_succ_eq_append_getElem h, List.filter_append, List.length_append, gt_lt h]
  congr 1
  by_cases e : sumT (fEq n) A[k] A[k].length = v <;> simp [e]
theorem gtT_set {n : Nat} {A : List (List (List Int))} {k v : Nat} (h : k < A.length) (hv : v < n) (e : sumT (fEq n) (gt A k) (gt A k).length = v) : (gtT n A k).set v (gtN n A k v + 1 : Nat) = gtT n A (k + 1) := by
  refine ext_gi (by simp [gtT_len]) fun i hi => ?_
  rw [List.length_set, gtT_len] at hi
  rw [gi_set (by rw [gtT_len]; exact hv), gi_gtT hi, gi_gtT hi, gtN_succ h]
  by_cases q : i = v
  · subst q
    rw [if_pos rfl, if_pos e]
  · rw [if_neg q, if_neg (by rw [e]; omega), Nat.add_zero]
theorem allP_eq : ∀ n : Nat, n < 5 → ∀ p, p ∈ allP n → DpGood p 6 ∧ 0 ≤ sumT (fEq n) p p.length ∧ (n < 2 ∨ sumT (fEq n) p p.length < n) := by decide +kernel



/-- a list of tables whose rows do not lie in block H -/
structure OwnWH (w : World) (B H : Nat) (v : Value) (ts : List (List (List Int))) (vs : List Value) : Prop where
  top : w.ownsRow B 22 1 v ts.length vs
  each : ∀ i, i < ts.length → ∃ us, OwnV w 0 (vs.getD i undef) (gt ts i) us ∧ ∀ a, a < (gt ts i).length → (us.getD a undef).ownBlock ≠ some H
theorem OwnWH.toW {w : World} {B H : Nat} {v : Value} {ts : List (List (List Int))} {vs : List Value} (h : OwnWH w B H v ts vs) : OwnW w B v ts vs := ⟨h.top, fun i hi => ⟨_, (h.each i hi).choose_spec.1⟩⟩
theorem OwnWH.below {w w' : World} {B H : Nat} {v : Value} {ts : List (List (List Int))} {vs : List Value} (h : OwnWH w B H v ts vs) (hb : Below w.heap.size w w') : OwnWH w' B H v ts vs := ⟨ownsRow_below h.top hb, fun i hi => ⟨_, (h.each i hi).choose_spec.1.below hb, (h.each i hi).choose_spec.2⟩⟩
theorem OwnWH.base {w : World} {B B' H : Nat} {v : Value} {ts : List (List (List Int))} {vs : List Value} (h : OwnWH w B H v ts vs) (hB : B' ≤ B) : OwnWH w B' H v ts vs := ⟨ownsRow_base h.top hB, h.each⟩
theorem OwnWH.store {w : World} {B H B' n c : Nat} {v : Value} {ts : List (List (List Int))} {vs : List Value} {xs : List Int} (h : OwnWH w B H v ts vs) (k : OwnI w B' (.slice (some ⟨H, 0, none⟩) n c) xs) (i : Nat) (u : Value) : OwnWH (w.setCell ⟨H, i, none⟩ u) B H v ts vs := by
  have top2 : ∀ (e : TypeId) (B0 n0 : Nat) (x : Value) (ys : List Value), e ≠ 3 → w.ownsRow B0 e 1 x n0 ys → x.ownBlock ≠ some H := fun e B0 n0 x ys he hx hg => row_apart hx k he H hg rfl
  refine ⟨Go.ownsRow_setCell_other h.top (a := ⟨H, i, none⟩) (top2 _ _ _ _ _ (by decide) h.top) u, fun j hj => ?_⟩
  obtain ⟨us, h1, h2⟩ := h.each j hj
  exact ⟨us, ⟨Go.ownsRow_setCell_other h1.top (a := ⟨H, i, none⟩) (top2 _ _ _ _ _ (by decide) h1.top) u, fun a ha => (h1.rows a ha).setOther (a := ⟨H, i, none⟩) (h2 a ha) u⟩, h2⟩
theorem OwnL.toWH {w : World} {B H : Nat} {v : Value} {ts : List (List (List Int))} {vs : List Value} {uss : List (List Value)} (h : OwnL w B v ts vs uss) (hH : H < B) : OwnWH w B H v ts vs :=
  ⟨h.top, fun i hi => ⟨_, (h.each i hi).toV.base (Nat.zero_le _), fun a ha hg => by have := ((h.each i hi).old a ha H hg).1; omega⟩⟩
/-- rows of parts of at least 1 do not lie where a 0 stands -/
theorem OwnW.toWH {w : World} {B H : Nat} {v : Value} {ts : List (List (List Int))} {vs : List Value} (h : OwnW w B v ts vs) (hr : ∀ i, i < ts.length → ∀ a, a < (gt ts i).length → 1 ≤ (gr (gt ts i) a).length ∧ 1 ≤ gi (gr (gt ts i) a) 0) (hH : w.cell? ⟨H, 0, none⟩ = some (.int .i64 0)) : OwnWH w B H v ts vs := by
  refine ⟨h.top, fun i hi => ?_⟩
  obtain ⟨us, h1⟩ := h.each i hi
  refine ⟨us, h1, fun a ha hg => ?_⟩
  obtain ⟨hl, h0⟩ := hr i hi a ha
  obtain ⟨r, d, e, _, _, hI⟩ := (h1.rows a ha).read
  rw [e] at hg
  obtain ⟨g, hr2, _, _⟩ := (show OwnI w 0 (.slice r (gr (gt ts i) a).length d) (gr (gt ts i) a) by rw [← e]; exact h1.rows a ha).isAt (by omega)
  subst hr2
  simp only [Value.ownBlock, Option.some.injEq] at hg
  subst hg
  obtain ⟨b, o, e2, hc⟩ := hI 0 (by omega)
  cases e2
  rw [hH] at hc
  simp only [Option.some.injEq, Value.int.injEq, true_and] at hc
  omega

set_option maxRecDepth 100000 in
set_option maxHeartbeats 3200000 in
theorem specGreatestTable_any (n : Int) (w : World) (_hn : -9223372036854775808 ≤ n ∧ n ≤ 9223372036854775807) :
    Calls Try.prog 44 #[.int .i64 n] w fun e w' => LRes (2 ≤ n ∧ n ≤ 4) (gtT n.toNat (allP n.toNat) (allP n.toNat).length) w' w.heap.size e ∧ Below w.heap.size w w' := by
  have C := Lib.hid (l1In_any n 2 4 w)
  by_cases p : 2 ≤ n ∧ n ≤ 4
  · obtain ⟨k, rfl⟩ : ∃ k : Nat, n = (k : Int) := ⟨n.toNat, by omega⟩
    rw [Int.toNat_natCast]
    have Hp := Lib.hid p
    have C2 := Lib.hid (fun w => dpAllN_any k (by omega) (by omega) w)
    obtain ⟨i0, hi, hz0, hz1, hz2⟩ := info_parts Try.info_int
    have hk4 : k ≤ 4 := by omega
    have hl := (allP_few k (by omega)).1
    have Heq := Lib.hid (show ∀ p, p ∈ allP k → DpGood p 6 ∧ 0 ≤ sumT (fEq k) p p.length ∧ sumT (fEq k) p p.length < k from fun p hp => by
      have h := allP_eq k (by omega) p hp
      exact ⟨h.1, h.2.1, by have := h.2.2; omega⟩)
    obtain ⟨A, hA⟩ : ∃ A, A = allP k := ⟨_, rfl⟩
    rw [← hA] at C2 hl Heq ⊢
    have hAm : A.length ≤ 9223372036854775807 := by omega
    have hkm : k ≤ 9223372036854775807 := by omega
    clear p hA
    go_enter Try.func44, Try.ntmps44
    go_wp2_with fail
    refine C.out.mono ?_
    rintro e w1 ⟨ha, rfl⟩
    obtain rfl := ha.is Hp.out
    have HB := Lib.hid (Below.refl w.heap.size w)
    clear ha

    go_wp2_with (at_make; refine wpList_make_full _ rfl _ _ 42 rfl w.heap.size 3 i0 (.int .i64 0) 1 Try.underlying42 hi hz0 hz1 _ _ _ _ k rfl rfl rfl rfl ?c1 ?c2 ?c3 ?_)
    case c1 => rw [hz2]; omega
    case c2 => unfold maxLen; omega
    case c3 => simp
    intro w2 hown hgr
    have hb2 : Below w.heap.size w w2 := (Below.refl _ _).grown hgr (Nat.le_refl _) (fun _ h => by cases h)
    have hsum := OwnI.made hown
    rw [← gtT_zero k A] at hsum
    have Hsum := Lib.hid hsum
    have HB2 := Lib.hid (HB.out.trans (hb2.mono HB.out.size))
    have HBz := Lib.hid (show w.heap.size ≤ w.heap.size from HB.out.size)
    have HH := Lib.hid (show w.heap.size < w2.heap.size from (OwnI.lt hsum w.heap.size rfl).2)

    clear hown hgr hb2 hsum HB
    go_wp2_with fail
    refine (C2.out w2).mono ?_
    rintro e w3 ⟨v, vs, rfl, hv, hb⟩
    obtain ⟨pa, pc, rfl, _, _⟩ := hv.head
    have Hs3 := Lib.hid (Hsum.out.below hb)
    have HV := Lib.hid (hv.toWH (H := w.heap.size) (fun i hi a ha => by
      have h := (Heq.out _ (gt_mem hi)).1.2 a ha
      exact ⟨h.1.1, (h.1.2.2.1 0 h.1.1).1⟩) (by
      have hk := Hp.out
      have h := Hs3.out.cellAt 0 (by omega)
      rw [gi_gtT (by omega)] at h
      exact h))
    have HB3 := Lib.hid (HB2.out.trans (hb.mono HB2.out.size))
    clear hv hb HB2 Hsum
    go_wp2
    go_loopw [15] (fun i wr => ∃ j : Nat, j ≤ A.length ∧ i = .int .i64 j ∧ OwnI wr w.heap.size (.slice (some ⟨w.heap.size, 0, none⟩) k k) (gtT k A j) ∧ OwnWH wr w2.heap.size w.heap.size (.slice pa A.length pc) A vs ∧ Below w.heap.size w wr) (fun i _ => A.length - (intOf i).toNat)
    case atStart => exact ⟨0, Nat.zero_le _, rfl, Hs3.out, HV.out, HB3.out⟩
    case round =>
      obtain ⟨j, hj, rfl, hs, hv, hbr⟩ := hrel
      have HS := Lib.hid hs
      have HV2 := Lib.hid hv
      have Hbr := Lib.hid hbr
      clear hs hv hbr Hs3 HV HB3
      by_cases hlt : j < A.length
      · obtain ⟨b1, o1, r1, d1, e1, hc1, hm1, _, _⟩ := HV2.out.toW.at hlt
        obtain ⟨hg, hv0, hvn⟩ := Heq.out _ (gt_mem hlt)
        have CE := Lib.hid (fun w hb => (fun r d rows k w hg hm => dpEqual_any r d rows (k : Int) w hg hm) r1 d1 (gt A j) k w hg (hm1.below hb))
        have HT1 := Lib.hid (fun v (hv : v < k) (e : sumT (fEq k) (gt A j) (gt A j).length = (v : Int)) => gtT_set (n := k) hlt hv e)
        have hgl : (gt A j).length ≤ 9223372036854775807 := by have := (hg.bounds (by omega)).1; omega
        obtain ⟨G, hG⟩ : ∃ G, G = gt A j := ⟨_, rfl⟩
        rw [← hG] at hc1 CE HT1 hgl hv0 hvn
        obtain ⟨v, hv⟩ : ∃ v : Nat, sumT (fEq k) G G.length = (v : Int) := ⟨(sumT (fEq k) G G.length).toNat, by omega⟩
        rw [hv] at CE hv0 hvn
        have hvk : v < k := by omega
        have HT2 := Lib.hid (HT1.out v hvk hv)
        subst e1
        clear hm1 hg hG hv hv0 hvn HT1
        go_wp2_with fail
        refine (CE.out wr (Below.refl _ _)).mono ?_
        rintro e w5 ⟨rfl, hq⟩
        have hb5 : Below wr.heap.size wr w5 := by subst hq; exact Below.refl _ _
        have hs5 := HS.out.below hb5
        have hcs := hs5.cellAt v hvk
        have hfs := hs5.frozenAt v
        rw [gi_gtT hvk] at hcs
        have hle := gtN_le k A j v
        obtain ⟨x, hx⟩ : ∃ x, x = gtN k A j v := ⟨_, rfl⟩
        rw [← hx] at hcs hle HT2
        have hst := hs5.store v ((x + 1 : Nat) : Int)
        rw [HT2.out] at hst
        have e1 : ((x + 1 : Nat) : Int) = (x : Int) + 1 := by omega
        rw [e1] at hst
        have hw : IntKind.i64.wrap ((x : Int) + 1) = (x : Int) + 1 := w64 (by omega)
        have Hst := Lib.hid hst
        have HV5 := Lib.hid ((HV2.out.below hb5).store hs5 v (.int .i64 ((x : Int) + 1)))
        have HB5 := Lib.hid ((Hbr.out.trans (hb5.mono Hbr.out.size)).setCell (p := ⟨w.heap.size, v, none⟩) HBz.out (.int .i64 ((x : Int) + 1)))
        clear hq hb5 hs5 hx hst e1 HT2
        go_wp2
        go_roundw
        case rel => exact ⟨j + 1, by omega, by go_num, Hst.out, HV5.out, HB5.out⟩
        case measure => simp [intOf]; omega
      · obtain rfl : j = A.length := by omega
        have HF := Lib.hid (show OwnI wr w.heap.size _ (gtT k A A.length) from HS.out.base HBz.out)
        clear HS
        go_wp2
        go_ret2
        exact ⟨LRes.yes Hp.out HF.out, Hbr.out⟩
  · have Hp := Lib.hid p
    clear p
    go_enter Try.func44, Try.ntmps44
    go_wp2_with fail
    refine C.out.mono ?_
    rintro e w1 ⟨ha, rfl⟩
    obtain rfl := ha.isnt Hp.out
    clear ha
    go_wp2
    go_ret2
    exact ⟨LRes.no Hp.out, Below.refl _ _⟩

set_option maxRecDepth 100000 in
set_option maxHeartbeats 3200000 in
theorem implGreatestTable_any (n : Int) (w : World) (_hn : -9223372036854775808 ≤ n ∧ n ≤ 9223372036854775807) :
    Calls Try.prog 45 #[.int .i64 n] w fun e w' => LRes (2 ≤ n ∧ n ≤ 4) (gtT n.toNat (allP n.toNat) (allP n.toNat).length) w' w.heap.size e ∧ Below w.heap.size w w' := by
  have C := Lib.hid (isListed_any n w)
  by_cases p : 2 ≤ n ∧ n ≤ 4
  · obtain ⟨k, rfl⟩ : ∃ k : Nat, n = (k : Int) := ⟨n.toNat, by omega⟩
    rw [Int.toNat_natCast]
    have Hp := Lib.hid p
    have Hp1 := Lib.hid (show (1 : Int) ≤ (k : Int) ∧ (k : Int) ≤ 4 by omega)
    have C1 := Lib.hid (fun w => firstLimits_any k w (by omega) (by omega))
    have C2 := Lib.hid (fun a c w h => planesN_any k (by omega) (by omega) a c w h)
    obtain ⟨i0, hi, hz0, hz1, hz2⟩ := info_parts Try.info_int
    have hk4 : k ≤ 4 := by omega
    have hl := (allP_few k (by omega)).1
    have Heq := Lib.hid (show ∀ p, p ∈ allP k → DpGood p 6 ∧ 0 ≤ sumT (fEq k) p p.length ∧ sumT (fEq k) p p.length < k from fun p hp => by
      have h := allP_eq k (by omega) p hp
      exact ⟨h.1, h.2.1, by have := h.2.2; omega⟩)
    obtain ⟨A, hA⟩ : ∃ A, A = allP k := ⟨_, rfl⟩
    rw [← hA] at C2 hl Heq ⊢
    have hAm : A.length ≤ 9223372036854775807 := by omega
    have hkm : k ≤ 9223372036854775807 := by omega
    obtain ⟨L, hL⟩ : ∃ L, L = lim1 k := ⟨_, rfl⟩
    rw [← hL] at C1 C2
    have hd2 : decide ((k : Int) < 2) = false := by simp; omega
    clear p hA hL
    go_enter Try.func45, Try.ntmps45
    go_wp2_with fail
    refine C.out.mono ?_
    rintro e w1 ⟨ha, hb⟩
    obtain rfl := ha.is Hp1.out
    have HB := Lib.hid hb
    clear ha hb

    go_wp2_with (at_make; refine wpList_make_full _ rfl _ _ 42 rfl w1.heap.size 3 i0 (.int .i64 0) 1 Try.underlying42 hi hz0 hz1 _ _ _ _ k rfl rfl rfl rfl ?c1 ?c2 ?c3 ?_)
    case c1 => rw [hz2]; omega
    case c2 => unfold maxLen; omega
    case c3 => simp
    intro w2 hown hgr
    have hb2 : Below w1.heap.size w1 w2 := (Below.refl _ _).grown hgr (Nat.le_refl _) (fun _ h => by cases h)
    have hsum := OwnI.made hown
    rw [← gtT_zero k A] at hsum
    have Hsum := Lib.hid hsum
    have HB2 := Lib.hid (HB.out.trans (hb2.mono HB.out.size))
    have HBz := Lib.hid (show w.heap.size ≤ w1.heap.size from HB.out.size)
    have HH := Lib.hid (show w1.heap.size < w2.heap.size from (OwnI.lt hsum w1.heap.size rfl).2)
    obtain ⟨H, hH⟩ : ∃ H, H = w1.heap.size := ⟨_, rfl⟩
    rw [← hH] at Hsum HBz HH ⊢
    clear hH
    clear hown hgr hb2 hsum HB
    go_wp2_with fail
    refine (C1.out w2).mono ?_
    rintro e w3 ⟨v, rfl, hv, hb⟩
    obtain ⟨la, lc, rfl, _, _, hI⟩ := hv.read
    have HI := Lib.hid hI
    have HB2a := Lib.hid (HB2.out.trans (hb.mono HB2.out.size))
    have Hs2 := Lib.hid (Hsum.out.below hb)
    have Hz2 := Lib.hid hb.size
    clear hv hb hI Hsum HB2
    go_wp2_with fail
    refine (C2.out la lc w3 HI.out).mono ?_
    rintro e w4 ⟨v, vs, uss, rfl, hv, hb⟩
    obtain ⟨pa, pc, rfl, _, _⟩ := hv.head
    have HV := Lib.hid ((hv.toWH (H := H) (by have := HH.out; have := Hz2.out; omega)).base Hz2.out)
    have HB3 := Lib.hid (HB2a.out.trans (hb.mono HB2a.out.size))
    have Hs3 := Lib.hid (Hs2.out.below hb)
    clear hv hb HB2a Hs2
    go_wp2
    go_loopw [20] (fun i wr => ∃ j : Nat, j ≤ A.length ∧ i = .int .i64 j ∧ OwnI wr H (.slice (some ⟨H, 0, none⟩) k k) (gtT k A j) ∧ OwnWH wr w2.heap.size H (.slice pa A.length pc) A vs ∧ Below w.heap.size w wr) (fun i _ => A.length - (intOf i).toNat)
    case atStart => exact ⟨0, Nat.zero_le _, rfl, Hs3.out, HV.out, HB3.out⟩
    case round =>
      obtain ⟨j, hj, rfl, hs, hv, hbr⟩ := hrel
      have HS := Lib.hid hs
      have HV2 := Lib.hid hv
      have Hbr := Lib.hid hbr
      clear hs hv hbr Hs3 HV HB3
      by_cases hlt : j < A.length
      · obtain ⟨b1, o1, r1, d1, e1, hc1, hm1, _, _⟩ := HV2.out.toW.at hlt
        obtain ⟨hg, hv0, hvn⟩ := Heq.out _ (gt_mem hlt)
        have CE := Lib.hid (fun w hb => (fun r d rows k w hg hm => plane_equalTo r d rows (k : Int) w hg hm) r1 d1 (gt A j) k w hg (hm1.below hb))
        have HT1 := Lib.hid (fun v (hv : v < k) (e : sumT (fEq k) (gt A j) (gt A j).length = (v : Int)) => gtT_set (n := k) hlt hv e)
        have hgl : (gt A j).length ≤ 9223372036854775807 := by have := (hg.bounds (by omega)).1; omega
        obtain ⟨G, hG⟩ : ∃ G, G = gt A j := ⟨_, rfl⟩
        rw [← hG] at hc1 CE HT1 hgl hv0 hvn
        obtain ⟨v, hv⟩ : ∃ v : Nat, sumT (fEq k) G G.length = (v : Int) := ⟨(sumT (fEq k) G G.length).toNat, by omega⟩
        rw [hv] at CE hv0 hvn
        have hvk : v < k := by omega
        have HT2 := Lib.hid (HT1.out v hvk hv)
        subst e1
        clear hm1 hg hG hv hv0 hvn HT1
        go_wp2_with fail
        refine (CE.out wr (Below.refl _ _)).mono ?_
        rintro e w5 ⟨rfl, hq⟩
        have hb5 : Below wr.heap.size wr w5 := hq
        have hs5 := HS.out.below hb5
        have hcs := hs5.cellAt v hvk
        have hfs := hs5.frozenAt v
        rw [gi_gtT hvk] at hcs
        have hle := gtN_le k A j v
        obtain ⟨x, hx⟩ : ∃ x, x = gtN k A j v := ⟨_, rfl⟩
        rw [← hx] at hcs hle HT2
        have hst := hs5.store v ((x + 1 : Nat) : Int)
        rw [HT2.out] at hst
        have e1 : ((x + 1 : Nat) : Int) = (x : Int) + 1 := by omega
        rw [e1] at hst
        have hw : IntKind.i64.wrap ((x : Int) + 1) = (x : Int) + 1 := w64 (by omega)
        have Hst := Lib.hid hst
        have HV5 := Lib.hid ((HV2.out.below hb5).store hs5 v (.int .i64 ((x : Int) + 1)))
        have HB5 := Lib.hid ((Hbr.out.trans (hb5.mono Hbr.out.size)).setCell (p := ⟨H, v, none⟩) HBz.out (.int .i64 ((x : Int) + 1)))
        clear hq hb5 hs5 hx hst e1 HT2
        go_wp2
        go_roundw
        case rel => exact ⟨j + 1, by omega, by go_num, Hst.out, HV5.out, HB5.out⟩
        case measure => simp [intOf]; omega
      · obtain rfl : j = A.length := by omega
        have HF := Lib.hid (show OwnI wr w.heap.size _ (gtT k A A.length) from HS.out.base HBz.out)
        clear HS
        go_wp2
        go_ret2
        exact ⟨LRes.yes Hp.out HF.out, Hbr.out⟩
  · have Hp := Lib.hid p
    by_cases p1 : 1 ≤ n ∧ n ≤ 4
    · have d : decide (n < 2) = true := by simp; omega
      have Hp1 := Lib.hid p1
      clear p p1
      go_enter Try.func45, Try.ntmps45
      go_wp2_with fail
      refine C.out.mono ?_
      rintro e w1 ⟨ha, hb⟩
      obtain rfl := ha.is Hp1.out
      have HB := Lib.hid hb
      clear ha hb
      go_wp2
      go_ret2
      exact ⟨LRes.no Hp.out, HB.out⟩
    · have Hp1 := Lib.hid p1
      clear p p1
      go_enter Try.func45, Try.ntmps45
      go_wp2_with fail
      refine C.out.mono ?_
      rintro e w1 ⟨ha, hb⟩
      obtain rfl := ha.isnt Hp1.out
      have HB := Lib.hid hb
      clear ha hb
      go_wp2
      go_ret2
      exact ⟨LRes.no Hp.out, HB.out⟩
end Go.Proofs.Ytfempacfaeknpaa
