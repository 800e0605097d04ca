/- Contracts: how many places of a sign matrix there are of each kind, by the model. Condition: the matrix is a sign matrix. -/
import Derived.Test.YtnhkclnloiiihaaWeS
import Derived.Test.YtnhkclnloiiihaaLRes
import Derived.Test.YtnhkclnloiiihaaSame
namespace Go.Proofs.Ytnhkclnloiiihaa
open Go.RowKit

theorem cntL_zero : cntL (fun _ => 0) = List.replicate 6 0 := rfl
set_option maxRecDepth 100000 in
set_option maxHeartbeats 3200000 in
theorem weCounts_any (ao : Option Addr) (c : Nat) (m : List (List Int)) (w : World) (hg : good m) (hm : MatAt w ao m) :
    Calls Try.prog 155 #[.slice ao m.length c] w fun e w' => ∃ v, e = .returned v ∧ OwnI w' w.heap.size v (cntL (cntK m)) ∧ Below w.heap.size w w' := by
  obtain ⟨i0, hi, hz0, hz1, hz2⟩ := info_parts Try.info_int
  have hn := hg.1.2.1
  have hmx : m.length ≤ 9223372036854775807 := by omega
  have Hg := Lib.hid hg
  have Hm := Lib.hid hm
  clear hg hm
  go_enter Try.func155, Try.ntmps155
  go_wp2_with (at_make; refine wpList_make_full _ rfl _ _ 24 rfl w.heap.size 3 i0 (.int .i64 0) 1 Try.underlying24 hi hz0 hz1 _ _ _ _ 6 rfl rfl rfl rfl ?c1 ?c2 ?c3 ?_)
  case c1 => rw [hz2]; omega
  case c2 => unfold maxLen; omega
  case c3 => simp
  intro w1 hown hgr
  have hb1 : Below w.heap.size w w1 := (Below.refl _ _).grown hgr (Nat.le_refl _) (fun _ h => by cases h)
  have hsum := OwnI.made hown
  rw [← cntL_zero] at hsum
  have Hsum := Lib.hid hsum
  have HB := Lib.hid hb1
  have hsz : w.heap.size + 1 ≤ w1.heap.size := by have := (OwnI.lt hsum w.heap.size rfl).2; omega
  clear hown hgr hb1 hsum
  go_wp2_with fail
  refine (weKinds_any ao c m w1 Hg.out (Hm.out.below HB.out)).mono ?_
  rintro e w2 ⟨v, rfl, hv, hb⟩
  obtain ⟨ka, kcap, vsK, rfl, hp, hk1, hk2⟩ := hv.open
  rw [kinds_len] at hp hk1 ⊢
  have HP := Lib.hid hp
  have HC2 := Lib.hid (Hsum.out.below hb)
  have HB2 := Lib.hid (HB.out.trans (hb.mono (by omega)))
  have hsz2 : w.heap.size + 1 ≤ w2.heap.size := by have := hb.size; omega
  clear hv hb hp Hsum HB
  go_wp2
  go_loopw [12] (fun i wr => ∃ k : Nat, k ≤ m.length ∧ i = .int .i64 k ∧ OwnI wr w.heap.size (.slice (some ⟨w.heap.size, 0, none⟩) 6 6) (cntL (fun q => cntP m q k 0)) ∧ OnlyW (fun g => g = w.heap.size) w2 wr) (fun i _ => m.length - (intOf i).toNat)
  case atStart => exact ⟨0, Nat.zero_le _, rfl, HC2.out, OnlyW.refl _ _⟩
  case round =>
    obtain ⟨k, hk, rfl, hc, ho⟩ := hrel
    have Hc := Lib.hid hc
    have Ho := Lib.hid ho
    clear hc ho HC2
    by_cases hlt : k < m.length
    · obtain ⟨b1, o1, r1, d1, e0, hc0, hv0, _, _, _⟩ := (HP.out.only Ho.out (fun g e => by have := e; omega)).rowAt hlt
      have hrow2 := HP.out.rows k hlt
      rw [hv0] at hrow2
      rw [kinds_row hlt] at hc0 hrow2
      subst e0
      have Hrow := Lib.hid hrow2
      clear hv0 hrow2
      go_wp2
      go_loopw [18] (fun i wr => ∃ t : Nat, t ≤ m.length ∧ i = .int .i64 t ∧ OwnI wr w.heap.size (.slice (some ⟨w.heap.size, 0, none⟩) 6 6) (cntL (fun q => cntP m q k t)) ∧ OnlyW (fun g => g = w.heap.size) w2 wr) (fun i _ => m.length - (intOf i).toNat)
      case atStart => exact ⟨0, Nat.zero_le _, rfl, Hc.out, Ho.out⟩
      case round =>
        obtain ⟨t, ht, rfl, hc, ho⟩ := hrel
        clear Hc Ho
        by_cases htl : t < m.length
        · obtain ⟨b2, o2, e2, hc2⟩ := own_at (ownsRow_only Hrow.out ho (fun g hg e => by have := (Hrow.out.lt g hg).1; have := e; omega)) t (by rw [kinds_row hlt]; exact htl)
          rw [gi_kinds hlt htl] at hc2
          have hr := kd_range Hg.out hlt htl
          obtain ⟨q, hq⟩ : ∃ q : Nat, kd m k t = (q : Int) := ⟨(kd m k t).toNat, by omega⟩
          have hq6 : q < 6 := by omega
          have hbd := cntP_bd (m := m) q hn (k := k) (t := t) (by omega) (by omega)
          have hcq := hc.cellAt q hq6
          rw [cntL_gi _ hq6] at hcq
          have hfq := hc.frozenAt q
          have hst := hc.store q (cntP m q k t + 1)
          have hset : (cntL (fun q => cntP m q k t)).set q (cntP m q k t + 1) = cntL (fun q => cntP m q k (t + 1)) := cntL_set (fun q => cntP m q k t) (fun q => cntP m q k (t + 1)) q hq6 (by
            show cntP m q k (t + 1) = cntP m q k t + 1
            rw [cntP_step, hq]; unfold ind; rw [if_pos rfl]) (fun j hj e => by
            show cntP m j k (t + 1) = cntP m j k t
            rw [cntP_step, hq]; unfold ind; rw [if_neg (by omega)]; omega)
          rw [hset] at hst
          have Hos := Lib.hid (ho.setCell (p := ⟨w.heap.size, q, none⟩) rfl (.int .i64 (cntP m q k t + 1)))
          rw [hq] at hc2
          obtain ⟨x, hx⟩ : ∃ x, x = cntP m q k t := ⟨_, rfl⟩
          rw [← hx] at hcq hbd hst Hos
          have Hst := Lib.hid hst
          subst e2
          clear hst hset hx hq hr hc ho
          go_wp2
          go_roundw
          case rel => exact ⟨t + 1, by omega, by go_num, Hst.out, Hos.out⟩
          case measure => simp [intOf]; omega
        · obtain rfl : t = m.length := by omega
          have e : cntL (fun q => cntP m q k m.length) = cntL (fun q => cntP m q (k + 1) 0) := cntL_ext (fun q _ => cntP_row m q k)
          rw [e] at hc
          have Hc := Lib.hid hc
          have Ho := Lib.hid ho
          clear hc ho e
          go_wp2
          go_roundw
          case rel => exact ⟨k + 1, by omega, by go_num, Hc.out, Ho.out⟩
          case measure => simp [intOf]; omega
    · obtain rfl : k = m.length := by omega
      have e : cntL (fun q => cntP m q m.length 0) = cntL (cntK m) := cntL_ext (fun q _ => cntP_end m q)
      have HC := Lib.hid (show OwnI wr w.heap.size (.slice (some ⟨w.heap.size, 0, none⟩) 6 6) (cntL (cntK m)) by rw [← e]; exact Hc.out)
      have HB := Lib.hid (HB2.out.trans (Ho.out.below (B := w.heap.size) (fun g e => by have := e; omega)))
      clear Hc HP e
      go_wp2
      go_ret
      exact ⟨_, rfl, HC.out, HB.out⟩

set_option maxRecDepth 100000 in
set_option maxHeartbeats 1600000 in
theorem specKindCounts_any (ao : Option Addr) (c : Nat) (m : List (List Int)) (w : World) (hs : Small m) (hm : MatAt w ao m) :
    Calls Try.prog 71 #[.slice ao m.length c] w fun e w' => LRes (good m) (cntL (cntK m)) w' w.heap.size e ∧ Below w.heap.size w w' := by
  have Hs := Lib.hid hs
  have Hm := Lib.hid hm
  clear hs hm
  go_enter Try.func71, Try.ntmps71
  go_wp2_with fail
  refine (sgGood_any ao c m w Hs.out Hm.out).mono ?_
  rintro e w1 ⟨ha, hb⟩
  have Hb := Lib.hid hb
  have HB := Lib.hid hb.size
  clear hb
  by_cases hg : good m
  · have Hg := Lib.hid hg
    clear hg
    obtain rfl := ha.is Hg.out
    clear ha
    go_wp2_with fail
    refine (weCounts_any ao c m w1 Hg.out (Hm.out.below Hb.out)).mono ?_
    rintro e w2 ⟨v, rfl, hv, hb2⟩
    have Hv := Lib.hid (hv.base HB.out)
    have Hb2 := Lib.hid (Hb.out.trans (hb2.mono HB.out))
    clear hv hb2
    go_wp2
    go_ret2
    exact ⟨LRes.yes Hg.out Hv.out, Hb2.out⟩
  · have Hg := Lib.hid hg
    clear hg
    obtain rfl := ha.isnt Hg.out
    clear ha
    go_wp2
    go_ret2
    exact ⟨LRes.no Hg.out, Hb.out⟩
end Go.Proofs.Ytnhkclnloiiihaa
