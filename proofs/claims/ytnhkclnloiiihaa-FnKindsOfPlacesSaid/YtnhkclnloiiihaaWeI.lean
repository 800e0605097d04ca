/- Contracts: the kinds of places of a sign matrix, by the program. Condition: the matrix is a sign matrix. -/
import Derived.Test.YtnhkclnloiiihaaWeM
import Derived.Test.YtnhkclnloiiihaaImplB
import Derived.Test.YtnhkclnloiiihaaDiff
namespace Go.Proofs.Ytnhkclnloiiihaa
open Go.RowKit

theorem OwnP.setElse {w : World} {B n k : Nat} {v : Value} {m : List (List Int)} {vs : List Value} (h : OwnP w B v n m k vs) {a : Addr} (ht : v.ownBlock ≠ some a.block) (hr : ∀ i, i < k → (vs.getD i undef).ownBlock ≠ some a.block) (u : Value) : OwnP (w.setCell a u) B v n m k vs :=
  ⟨Go.ownsRow_setCell_other h.top ht u, fun i hi => (h.rows i hi).setOther (hr i hi) u, h.apart⟩

set_option maxRecDepth 100000 in
set_option maxHeartbeats 800000 in
theorem kindOf_any (v b a : Int) (w : World) (hb : 0 ≤ b ∧ b ≤ 1) (ha : 0 ≤ a ∧ a ≤ 1) :
    Calls Try.prog 196 #[.int .i64 v, .int .i64 b, .int .i64 a] w fun e w' => e = .returned (.int .i64 (kdV v b a)) ∧ w' = w := by
  unfold kdV
  by_cases h1 : v = 1
  · rw [if_pos h1]
    have hd : (v == 1) = true := by simpa using h1
    clear h1
    go_enter Try.func196, Try.ntmps196
    go_wp2
    go_ret
    exact ⟨rfl, rfl⟩
  · rw [if_neg h1]
    have hd : (v == 1) = false := by simpa using h1
    by_cases h2 : v = -1
    · rw [if_pos h2]
      have hd2 : (v == -1) = true := by simpa using h2
      clear h1 h2
      go_enter Try.func196, Try.ntmps196
      go_wp2
      go_ret
      exact ⟨rfl, rfl⟩
    · rw [if_neg h2]
      have hd2 : (v == -1) = false := by simpa using h2
      clear h1 h2
      go_enter Try.func196, Try.ntmps196
      go_wp2
      go_ret
      exact ⟨rfl, rfl⟩

set_option maxRecDepth 100000 in
set_option maxHeartbeats 3200000 in
theorem kindsOf_any (ao : Option Addr) (c : Nat) (m : List (List Int)) (w : World) (hg : good m) (hm : MatAt w ao m) :
    Calls Try.prog 152 #[.slice ao m.length c] w fun e w' => ∃ v, e = .returned v ∧ OwnM w' w.heap.size v (kinds m) ∧ Below w.heap.size w w' := by
  obtain ⟨i0, hi, hz0, hz1, hz2⟩ := info_parts Try.info_int
  have hn := hg.1.2.1
  have hmx : m.length ≤ 9223372036854775807 := by omega
  have Hg := Lib.hid hg
  have Hm := Lib.hid hm
  clear hg hm
  go_enter Try.func152, Try.ntmps152
  go_wp2_with fail
  refine (newGrid_any m.length w (by omega)).mono ?_
  rintro e w1 ⟨vs, rfl, hv, hb⟩
  have hvlt : ∀ i, i < m.length → ∀ g, (vs.getD i undef).ownBlock = some g → g < w1.heap.size := fun i hi g hg => ((hv.rows i hi).lt g hg).2
  have htop : w.heap.size < w1.heap.size := by
    obtain ⟨cur, hcur⟩ := ownsRow_block hv.top
    exact lt_of_block hcur
  have Hv := Lib.hid hv
  have Hb := Lib.hid hb
  have Hvlt := Lib.hid hvlt
  have HB := Lib.hid hb.size
  clear hv hb hvlt
  go_wp2_with (at_make; refine wpList_make_full _ rfl _ _ 24 rfl w1.heap.size 3 i0 (.int .i64 0) 1 Try.underlying24 hi hz0 hz1 _ _ _ _ m.length rfl rfl rfl rfl ?c1 ?c2 ?c3 ?_)
  case c1 => rw [hz2]; omega
  case c2 => unfold maxLen; omega
  case c3 => simp
  intro w2 hown hgr
  have hb2 : Below w1.heap.size w1 w2 := (Below.refl _ _).grown hgr (Nat.le_refl _) (fun _ h => by cases h)
  have hsum := OwnI.made hown
  rw [← colMid_zero m] at hsum
  have Hsum := Lib.hid hsum
  have Hv2 := Lib.hid (Hv.out.below hb2)
  have Hb2 := Lib.hid (Hb.out.trans (hb2.mono HB.out))
  obtain ⟨H, hH⟩ : ∃ H, H = w1.heap.size := ⟨_, rfl⟩
  rw [← hH] at Hsum Hvlt htop ⊢
  clear hown hgr hb2 hsum Hb Hv HB hH
  go_wp2
  go_loopw [18] (fun i wr => ∃ (k : Nat) (f : Nat → Nat → Int), k ≤ m.length ∧ i = .int .i64 k ∧ OwnI wr H (.slice (some ⟨H, 0, none⟩) m.length m.length) (colMid m k 0) ∧ OwnP wr w.heap.size (.slice (some ⟨w.heap.size, 0, none⟩) m.length m.length) m.length (tab m.length m.length f) m.length vs ∧
      (∀ a b, a < k → b < m.length → f a b = kd m a b) ∧ Below w.heap.size w wr) (fun i _ => m.length - (intOf i).toNat)
  case atStart => exact ⟨0, _, Nat.zero_le _, rfl, Hsum.out, Hv2.out, fun a b ha _ => absurd ha (by omega), Hb2.out⟩
  case round =>
    obtain ⟨k, f, hk, rfl, hsum, hown, heq, hbr⟩ := hrel
    obtain ⟨wo, rfl⟩ : ∃ wo : World, wo = wr := ⟨_, rfl⟩
    clear Hsum Hv2 Hb2
    by_cases hlt : k < m.length
    · obtain ⟨b1, o1, r1, d1, e0, hc0, hx1, _, _⟩ := Hm.out k hlt
      have hrl : (gr m k).length = m.length := Hg.out.1.2.2 k hlt
      rw [hrl] at hc0
      have hc1 := cell_below hc0 hbr
      subst e0
      have Hrow := Lib.hid hx1
      have Hown := Lib.hid hown
      have Heq := Lib.hid heq
      have Hbr := Lib.hid hbr
      have Hsum := Lib.hid hsum
      clear hown heq hbr hx1 hrl hc0 hsum
      go_wp2
      go_loopw [7, 25] (fun before i wr => ∃ (t : Nat) (f : Nat → Nat → Int), t ≤ m.length ∧ i = .int .i64 t ∧ before = .int .i64 (sumK (gr m k) t) ∧ OwnI wr H (.slice (some ⟨H, 0, none⟩) m.length m.length) (colMid m k t) ∧ OwnP wr w.heap.size (.slice (some ⟨w.heap.size, 0, none⟩) m.length m.length) m.length (tab m.length m.length f) m.length vs ∧
          (∀ a b, a < k → b < m.length → f a b = kd m a b) ∧ (∀ b, b < t → f k b = kd m k b) ∧ Below w.heap.size w wr) (fun _ i _ => m.length - (intOf i).toNat)
      case atStart => exact ⟨0, f, Nat.zero_le _, rfl, rfl, Hsum.out, Hown.out, Heq.out, fun a ha => absurd ha (by omega), Hbr.out⟩
      case round =>
        obtain ⟨t, f, ht, rfl, rfl, hsum, hown, heq, hcol, hbi⟩ := hrel
        clear Hown Heq Hbr Hsum
        by_cases htl : t < m.length
        · obtain ⟨b2, o2, e2, hc2⟩ := Hrow.out.below hbi t (by rw [Hg.out.1.2.2 k hlt]; exact htl)
          have hd := hown.cellAt k hlt
          obtain ⟨g, cap, hvs, hd2, hf2, hg, hst⟩ := hown.at2 hlt htl
          have hgH : g < H := Hvlt.out k hlt g (by rw [hvs]; rfl)
          rw [hvs] at hd
          have hcs := hsum.cellAt t htl
          rw [gi_colMid htl, if_neg (by omega)] at hcs
          have h1 := rowS_01 Hg.out hlt (k := t) (by omega)
          have h1' := rowS_01 Hg.out hlt (k := t + 1) (by omega)
          have h2 := colS_01 Hg.out htl (k := k) (by omega)
          have h2' := colS_01 Hg.out htl (k := k + 1) (by omega)
          have s1 : sumK (gr m k) (t + 1) = sumK (gr m k) t + gi (gr m k) t := rfl
          have s2 : colS m t (k + 1) = colS m t k + gi (gr m k) t := rfl
          rw [s1] at h1'
          rw [s2] at h2'
          have hkd : kd m k t = kdV (gi (gr m k) t) (sumK (gr m k) t) (colS m t k) := rfl
          have hset : (colMid m k t).set t (colS m t k + gi (gr m k) t) = colMid m k (t + 1) := colMid_set htl
          generalize gi (gr m k) t = x at hc2 hkd h1' h2' s1 hset
          generalize sumK (gr m k) t = y at h1 h1' s1 hkd ⊢
          obtain ⟨z, hz⟩ : ∃ z, z = colS m t k := ⟨_, rfl⟩
          rw [← hz] at hcs h2 h2' hkd hset
          have C := Lib.hid (kindOf_any x y z · h1 h2)
          obtain ⟨q, hq⟩ : ∃ q, q = kdV x y z := ⟨_, rfl⟩
          rw [← hq] at hkd C
          have Hkd := Lib.hid hkd
          have HstG := Lib.hid (hst q)
          have hsum1 : OwnI (wr.setCell ⟨g, t, none⟩ (.int .i64 q)).drew H (.slice (some ⟨H, 0, none⟩) m.length m.length) (colMid m k t) := (hsum.setOther (a := ⟨g, t, none⟩) (fun e => by have := (hsum.lt _ e).1; simp at this; omega) (.int .i64 q)).drew
          have hst2 := hsum1.store t (z + x)
          rw [hset] at hst2
          have hcs2 := hsum1.cellAt t htl
          rw [gi_colMid htl, if_neg (by omega), ← hz] at hcs2
          have Hst2 := Lib.hid hst2
          have HG2 := Lib.hid ((HstG.out.drew).setElse (a := ⟨H, t, none⟩) (by intro e; simp [Value.ownBlock] at e; omega) (fun i hi e => by have := Hvlt.out i hi _ e; simp at this) (.int .i64 (z + x)))
          have Hbs := Lib.hid (((hbi.setCell (p := ⟨g, t, none⟩) hg (.int .i64 q)).drew).setCell (p := ⟨H, t, none⟩) (Nat.le_of_lt htop) (.int .i64 (z + x)))
          have Heq := Lib.hid heq
          have Hcol := Lib.hid hcol
          have Hvs := Lib.hid hvs
          have hf3 := hsum1.frozenAt t
          have hdD := cellD hd
          have hd2D := cellD hd2
          have hcsD := cellD hcs
          have hc2D := cellD hc2
          subst e2
          clear hown heq hcol hbi hst hvs hg hgH hq hsum hsum1 hst2 s2 hset hkd hz
          go_upto_region 10 with (fail)
          refine wp_region_still_tail 12 (by kernel_rfl) (by kernel_rfl) ?_
          simp only [List.take_succ_cons, List.take_zero, List.drop_succ_cons, List.drop_zero]
          repeat still_step
          still_call (C.out _)
          repeat still_step
          refine wpStill_nil ?_
          change wpList _ _ _ _ _ wr.drew
          clear hdD hd2D hcsD hc2D hd hcs hc2
          go_wp2
          go_roundw
          case rel =>
            refine ⟨t + 1, _, by omega, by go_num, by rw [s1], Hst2.out, HG2.out, fun a b ha hb => ?_, fun b hb => ?_, Hbs.out⟩
            · rw [if_neg (fun h => by omega)]
              exact Heq.out a b ha hb
            · by_cases e : b = t
              · subst e; rw [if_pos ⟨rfl, rfl⟩]; exact Hkd.out.symm
              · rw [if_neg (fun h => by omega)]
                exact Hcol.out b (by omega)
          case measure => simp [intOf]; omega
        · obtain rfl : t = m.length := by omega
          rw [colMid_next] at hsum
          have Hown := Lib.hid hown
          have Heq := Lib.hid heq
          have Hcol := Lib.hid hcol
          have Hbi := Lib.hid hbi
          have Hsum := Lib.hid hsum
          clear hown heq hcol hbi hsum
          go_wp2
          go_roundw
          case rel =>
            refine ⟨k + 1, f, by omega, by go_num, Hsum.out, Hown.out, fun a b ha hb => ?_, Hbi.out⟩
            by_cases e : a = k
            · subst e; exact Hcol.out b hb
            · exact Heq.out a b (by omega) hb
          case measure => simp [intOf]; omega
    · obtain rfl : k = m.length := by omega
      have e : kinds m = tab m.length m.length f := (eq_tab (kinds_len m) (fun i hi => tab_row hi) (fun i j hi hj => by rw [gi_kinds hi hj, heq i j hi hj]))
      have hfin : OwnM wo w.heap.size (.slice (some ⟨w.heap.size, 0, none⟩) m.length m.length) (kinds m) := ⟨vs, by rw [kinds_len, e]; exact hown⟩
      have Hfin := Lib.hid hfin
      have Hbr := Lib.hid hbr
      clear hown heq e hfin hbr hsum
      go_wp2
      go_ret
      exact ⟨_, rfl, Hfin.out, Hbr.out⟩
set_option maxRecDepth 100000 in
set_option maxHeartbeats 800000 in
theorem implKindsOf_any (ao : Option Addr) (c : Nat) (m : List (List Int)) (w : World) (hs : Small m) (hwf : WfM m) (hm : MatAt w ao m) :
    Calls Try.prog 68 #[.slice ao m.length c] w fun e w' => MRes (good m) (kinds m) w' w.heap.size e ∧ Below w.heap.size w w' := by
  have Hs := Lib.hid hs
  have Hm := Lib.hid hm
  have Hwf := Lib.hid hwf
  clear hs hm hwf
  go_enter Try.func68, Try.ntmps68
  go_wp2_with fail
  refine (implIsSign_any ao c m w Hs.out Hwf.out Hm.out).mono ?_
  rintro e w1 ⟨ha, hb⟩
  have Hb := Lib.hid hb
  have HB := Lib.hid hb.size
  clear hb
  by_cases hg : good m
  · have Hg := Lib.hid hg
    clear hg
    obtain rfl := ha.is Hg.out
    clear ha
    go_wp2_with fail
    refine (kindsOf_any ao c m w1 Hg.out (Hm.out.below Hb.out)).mono ?_
    rintro e w2 ⟨v, rfl, hv, hb2⟩
    have Hv := Lib.hid (hv.base HB.out)
    have Hb2 := Lib.hid (Hb.out.trans (hb2.mono HB.out))
    clear hv hb2
    go_wp2
    go_ret2
    exact ⟨MRes.yes Hg.out Hv.out, Hb2.out⟩
  · have Hg := Lib.hid hg
    clear hg
    obtain rfl := ha.isnt Hg.out
    clear ha
    go_wp2
    go_ret2
    exact ⟨MRes.no Hg.out, Hb.out⟩

end Go.Proofs.Ytnhkclnloiiihaa
