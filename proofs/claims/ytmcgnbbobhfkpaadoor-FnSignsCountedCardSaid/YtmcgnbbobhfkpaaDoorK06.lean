/- Parts of proofs: contracts and plain facts. Conditions: as each says. -/
import Derived.Test.YtmcgnbbobhfkpaaDoorK05
namespace Go.Proofs.YtmcgnbbobhfkpaaDoor
open Go.RowKit

/-- what is known is right -/
def KnowsW (n : Nat) (xs : List Int) : Prop := ∀ ys, ColsN n ys → gi xs (mask ys) > 0 → gi xs (mask ys) = wrap64 (waysB n ys)
theorem KnowsW.set {n : Nat} {xs : List Int} (h : KnowsW n xs) (hl : xs.length = 2 ^ n) {ys : List Int} (hy : ColsN n ys) : KnowsW n (xs.set (mask ys) (wrap64 (waysB n ys))) := by
  intro zs hz
  rw [gi_set (by rw [hl]; exact mask_lt hy.2)]
  by_cases e : mask zs = mask ys
  · have e2 : zs = ys := mask_inj hz.1 (fun x hx => (hz.2 x hx).1) hy.1 (fun x hx => (hy.2 x hx).1) e
    subst e2
    intro _
    rw [if_pos rfl]
  · rw [if_neg e]
    exact h zs hz
theorem knowsW_zero (n m : Nat) : KnowsW n (List.replicate m 0) := fun ys _ h => by rw [gi_zero] at h; omega
def sumTakeB (n : Nat) (L : List (List Int)) (k : Nat) : Int := sumL (L.take k) (waysB n)
theorem sumTakeB_succ {N : Nat} {L : List (List Int)} {k : Nat} (h : k < L.length) : sumTakeB N L (k + 1) = sumTakeB N L k + waysB N (gr L k) := by
  unfold sumTakeB
  rw [List.take_succ_eq_append_getElem h, sumL_append, gr_lt h]
  simp [sumL]

set_option maxRecDepth 100000 in
set_option maxHeartbeats 1600000 in
theorem trWays_any (N : Nat) (hN : N ≤ 6) (SZ : Nat) (hSZ : SZ = 2 ^ N) : ∀ (d : Nat) (xs : List Int) (a1 : Option Addr) (c1 B0 kb kc : Nat) (ks : List Int) (w : World), xs.length + d = N → ColsN N xs → IntsAt w a1 xs → (∀ b o, a1 = some ⟨b, o, none⟩ → b ≠ kb) → OwnI w B0 (.slice (some ⟨kb, 0, none⟩) SZ kc) ks → KnowsW N ks → B0 ≤ kb →
    Calls Tryd.prog 21 #[.slice a1 xs.length c1, .int .i64 (N : Int), .slice (some ⟨kb, 0, none⟩) SZ kc] w fun e w' => ∃ ks', e = .returned (.int .i64 (wrap64 (waysB N xs))) ∧ OwnI w' B0 (.slice (some ⟨kb, 0, none⟩) SZ kc) ks' ∧ KnowsW N ks' ∧ w.grownBy w' (some kb) := by
  intro d
  induction d with
  | zero =>
    intro xs a1 c1 B0 kb kc ks w hl hr hx hap hown hk hB
    have hb : ((xs.length : Int) == (N : Int)) = true := by simp; omega
    have hw : wrap64 (waysB N xs) = 1 := by rw [waysB_full (by omega)]; unfold wrap64; omega
    rw [hw]
    have Hown := Lib.hid hown
    have Hk := Lib.hid hk
    clear hl hr hx hap hown hk hw hSZ
    go_enter Tryd.func21, Tryd.ntmps21
    go_wp2
    go_ret
    exact ⟨ks, rfl, Hown.out, Hk.out, World.grownBy.refl _ _⟩
  | succ d ih =>
    intro xs a1 c1 B0 kb kc ks w hl hr hx hap hown hk hB
    have hb : ((xs.length : Int) == (N : Int)) = false := by simp; omega
    have hmx : xs.length ≤ 9223372036854775807 := by omega
    have h6 : xs.length ≤ 6 := by omega
    have hrise := hr.rise (by omega)
    have hm16 : mask xs < SZ := by rw [hSZ]; exact mask_lt hr.2
    have hm := trMask_any a1 c1 xs w (by omega) hrise.2 hx
    have hSb : SZ ≤ 64 := by rw [hSZ]; exact Nat.pow_le_pow_right (n := 2) (by omega) hN
    have HSZ := Lib.hid hSZ
    clear hSZ
    have hkl := hown.len
    have hc := hown.cellAt (mask xs) (by omega)
    have Hl := Lib.hid hl
    have Hr := Lib.hid hr
    have Hx := Lib.hid hx
    have Hap := Lib.hid hap
    have Hown := Lib.hid hown
    have Hk := Lib.hid hk
    have Hih := Lib.hid ih
    have Hkl := Lib.hid hkl
    have hlb : xs.length ≤ 6 := h6
    clear hl hr hx hap hown hk ih hkl hrise
    obtain ⟨m, hmm⟩ : ∃ m, m = mask xs := ⟨_, rfl⟩
    rw [← hmm] at hm hc hm16
    have Hm := Lib.hid hm
    have Hmm := Lib.hid hmm
    clear hm hmm
    by_cases hpos : 0 < gi ks m
    · have hw := Hk.out xs Hr.out (by rw [← Hmm.out]; exact hpos)
      rw [← Hmm.out] at hw
      obtain ⟨v, hv⟩ : ∃ v, v = gi ks m := ⟨_, rfl⟩
      rw [← hv] at hc hpos hw
      rw [← hw]
      have hd : decide ((0 : Int) < v) = true := by simpa using hpos
      clear hw hv
      go_enter Tryd.func21, Tryd.ntmps21
      go_wp2_with fail
      refine Hm.out.mono ?_
      rintro e w2 ⟨rfl, rfl⟩
      go_wp2
      go_ret
      exact ⟨ks, rfl, Hown.out, Hk.out, World.grownBy.refl _ _⟩
    · obtain ⟨v, hv⟩ : ∃ v, v = gi ks m := ⟨_, rfl⟩
      rw [← hv] at hc hpos
      have hd : decide ((0 : Int) < v) = false := by simpa using hpos
      clear hv
      have Ht := Lib.hid (trBehind_any N hN xs Hr.out h6 (xs.length + 1) [] a1 none c1 0 w (by simp) (by simp) (fun x hx => by cases hx) (fun _ => rfl) Hx.out (IntsAt.nil _ _))
      have Ha := Lib.hid (show bhRes N xs [] = behind N xs by simp [bhRes, behind, lst_nil])
      go_enter Tryd.func21, Tryd.ntmps21
      go_wp2_with fail
      refine Hm.out.mono ?_
      rintro e w2 ⟨rfl, rfl⟩
      go_wp2_with fail
      refine Ht.out.mono ?_
      rintro e w1 ⟨v1, rfl, hv, hb1⟩
      rw [Ha.out] at hv
      obtain ⟨A, hA⟩ : ∃ A, A = behind N xs := ⟨_, rfl⟩
      rw [← hA] at hv
      obtain ⟨ra, rc, rfl, _, _, hmat⟩ := hv.read
      have hal : A.length ≤ 1048576 := by
        rw [hA]
        exact behind_len hN Hr.out h6
      have Hv := Lib.hid hv
      have Hmat := Lib.hid hmat
      have HA := Lib.hid hA
      have Hb1 := Lib.hid hb1
      have hown1 := Hown.out.below hb1
      have Hown1 := Lib.hid hown1
      have hkbl : kb < w.heap.size := (Hown.out.lt kb rfl).2
      have hamx : A.length ≤ 9223372036854775807 := by omega
      clear hv hmat hA hb1 hown1
      go_wp2
      go_loopw [8, 27] (fun s i wr => ∃ (k : Nat) (ks' : List Int), k ≤ A.length ∧ i = .int .i64 k ∧ s = .int .i64 (wrap64 (sumTakeB N A k)) ∧ OwnI wr B0 (.slice (some ⟨kb, 0, none⟩) SZ kc) ks' ∧ KnowsW N ks' ∧ w1.grownBy wr (some kb))
        (fun _ i _ => A.length - (intOf i).toNat)
      case atStart => exact ⟨0, ks, Nat.zero_le _, rfl, by simp [sumTakeB, sumL, wrap64], Hown1.out, Hk.out, World.grownBy.refl _ _⟩
      case round =>
        obtain ⟨k, ks', hk, rfl, rfl, hownr, hkr, hg⟩ := hrel
        by_cases hlt : k < A.length
        · obtain ⟨us, hp⟩ := Hv.out
          obtain ⟨ao', c', hsl, _, _, hcells⟩ := ownsRow_read hp.top
          cases hsl
          obtain ⟨b1, o1, e1, hc1⟩ := hcells k hlt
          obtain ⟨r1, d1, hr1, _, _, hx1⟩ := (hp.rows k hlt).read
          rw [hr1] at hc1
          have hmem := behind_mem (n := N) (row := xs) (ys := gr A k) Hr.out (by have := gr_mem hlt; rw [HA.out] at this ⊢; exact this)
          have hcell : wr.cell? ⟨b1, o1 + k, none⟩ = some (.slice r1 (gr A k).length d1) := hg.cell hc1 (fun e => by
            have := (World.ownsRow.lt hp.top b1 (by rw [e1]; rfl)).1
            simp at e; omega)
          have hap' : ∀ b o, r1 = some ⟨b, o, none⟩ → b ≠ kb := fun b o e => by
            have := ((hp.rows k hlt).lt b (by rw [hr1, e]; rfl)).1
            omega
          have hxr : IntsAt wr r1 (gr A k) := fun i hi => by
            obtain ⟨b, o, e, hcc⟩ := hx1 i hi
            exact ⟨b, o, e, hg.cell hcc (fun e2 => hap' b o e (by simpa using e2))⟩
          have hrec := Hih.out (gr A k) r1 d1 B0 kb kc ks' wr (by have := hmem.2; have := Hl.out; omega) hmem.1 hxr hap' hownr hkr hB
          have Hs := Lib.hid (sumTakeB_succ (N := N) hlt)
          obtain ⟨rl, hrl⟩ : ∃ rl, rl = (gr A k).length := ⟨_, rfl⟩
          obtain ⟨y, hy⟩ : ∃ y, y = wrap64 (waysB N (gr A k)) := ⟨_, rfl⟩
          obtain ⟨x, hx⟩ : ∃ x, x = wrap64 (sumTakeB N A k) := ⟨_, rfl⟩
          rw [← hrl] at hcell hrec
          rw [← hy] at hrec
          rw [← hx]
          have Hrec := Lib.hid hrec
          have Hxy := Lib.hid (show wrap64 (x + y) = wrap64 (sumTakeB N A (k + 1)) by rw [hx, hy, wrap_add, Hs.out])
          have Hg := Lib.hid hg
          subst e1
          clear hp hcells hc1 hr1 hx1 hmem hap' hxr hrec hownr hkr hg hrl hy hx
          go_wp2_with fail
          refine Hrec.out.mono ?_
          rintro e w3 ⟨ks2, rfl, ho2, hk2, hg2⟩
          have Ho2 := Lib.hid ho2
          have Hk2 := Lib.hid hk2
          have Hg2 := Lib.hid (Hg.out.trans hg2)
          clear ho2 hk2 hg2
          go_wp2
          go_roundw
          case rel => exact ⟨k + 1, ks2, by omega, by go_num, by rw [Hxy.out], Ho2.out, Hk2.out, Hg2.out⟩
          case measure => simp [intOf]; omega
        · obtain rfl : k = A.length := by omega
          have hsum : sumTakeB N A A.length = waysB N xs := by
            unfold sumTakeB
            rw [List.take_length, HA.out, waysB_more Hr.out (by have := Hl.out; omega)]
          have hxw : IntsAt wr a1 xs := fun i hi => by
            obtain ⟨b, o, e, hcc⟩ := Hx.out.below Hb1.out i hi
            exact ⟨b, o, e, hg.cell hcc (fun e2 => Hap.out b o e (by simpa using e2))⟩
          have hm2 := trMask_any a1 c1 xs wr (by omega) (Hr.out.rise (by omega)).2 hxw
          rw [← Hmm.out] at hm2
          rw [hsum]
          have hlr := hownr.len
          have hcr := hownr.cellAt m hm16
          have hfr := hownr.frozenAt m
          have hst := hownr.store m (wrap64 (waysB N xs))
          have hks := hkr.set (by rw [hlr, HSZ.out]) Hr.out
          rw [← Hmm.out] at hks
          have hgs : w.grownBy (wr.setCell ⟨kb, m, none⟩ (.int .i64 (wrap64 (waysB N xs)))) (some kb) := by
            have h1 : w.grownBy wr (some kb) := ((grown_of_below' Hb1.out).but (some kb)).trans hg
            exact ⟨h1.os, h1.tape, h1.output, by simpa [World.setCell] using h1.size, fun b hb hne => (Below.heap_setCell _ _ _ _ (fun e => hne (by rw [e]))).trans (h1.block b hb hne)⟩
          obtain ⟨y, hy⟩ : ∃ y, y = wrap64 (waysB N xs) := ⟨_, rfl⟩
          rw [← hy] at hst hks hgs ⊢
          have Hy := Lib.hid hy
          have Hm2 := Lib.hid hm2
          have Hst := Lib.hid hst
          have Hks := Lib.hid hks
          have Hgs := Lib.hid hgs
          clear hsum hxw hm2 hst hks hgs hy hlr hownr hkr hg
          go_wp2_with fail
          refine Hm2.out.mono ?_
          rintro e w2 ⟨rfl, rfl⟩
          go_wp2
          go_ret
          exact ⟨_, by rw [← Hy.out]; rfl, Hst.out, Hks.out, Hgs.out⟩

end Go.Proofs.YtmcgnbbobhfkpaaDoor

namespace Go.Proofs.YtmcgnbbobhfkpaaDoor
open Go.RowKit

/-- the answer of a function that hands back a list of numbers and whether there is one -/
def LRes (p : Prop) (r : List Int) (w : World) (B : Nat) (e : Ending) : Prop :=
  ∃ v b r', e = .returned (.tuple #[v, .bool b]) ∧ OwnI w B v r' ∧ ((p ∧ b = true ∧ r' = r) ∨ (¬p ∧ b = false ∧ r' = []))
theorem LRes.yes {p : Prop} {r : List Int} {w : World} {B : Nat} {v : Value} (h : p) (ho : OwnI w B v r) : LRes p r w B (.returned (.tuple #[v, .bool true])) := ⟨v, true, r, rfl, ho, .inl ⟨h, rfl, rfl⟩⟩
theorem LRes.no {p : Prop} {r : List Int} {w : World} {B : Nat} (h : ¬p) : LRes p r w B (.returned (.tuple #[.slice none 0 0, .bool false])) := ⟨_, false, [], rfl, OwnI.nil _ _, .inr ⟨h, rfl, rfl⟩⟩

theorem lres_same {p : Prop} {r ra rb : List Int} {a b : Bool} (h : (p ∧ a = true ∧ ra = r) ∨ (¬p ∧ a = false ∧ ra = [])) (k : (p ∧ b = true ∧ rb = r) ∨ (¬p ∧ b = false ∧ rb = [])) : b = a ∧ rb = ra := by
  rcases k with ⟨h1, h2, h3⟩ | ⟨h1, h2, h3⟩ <;> rcases h with ⟨k1, k2, k3⟩ | ⟨k1, k2, k3⟩
  · exact ⟨h2.trans k2.symm, h3.trans k3.symm⟩
  · exact absurd h1 k1
  · exact absurd k1 h1
  · exact ⟨h2.trans k2.symm, h3.trans k3.symm⟩
end Go.Proofs.YtmcgnbbobhfkpaaDoor

namespace Go.Proofs.YtmcgnbbobhfkpaaDoor
open Go.RowKit

theorem above_pos {xs ys : List Int} (hr : Rise xs) (hy : ys ∈ above xs) : 1 ≤ ys.length := by
  have h := (above_mem hr hy).2
  by_cases h2 : xs.length < 2
  · rw [above_one h2] at hy; cases hy
  · omega

theorem topColumn_any : Scores 18 topSc := by
  intro xs ys w hr h6 hy hD
  obtain ⟨hry, hly⟩ := above_mem hr hy
  have hpos := above_pos hr hy
  have hsz := size_any hry (by omega) w
  have hrow := row_any hry (by omega) w hD
  obtain ⟨a, ha⟩ : ∃ a : Int, a = (mask xs : Nat) := ⟨_, rfl⟩
  obtain ⟨b, hb⟩ : ∃ b : Int, b = (mask ys : Nat) := ⟨_, rfl⟩
  rw [← hb] at hsz hrow
  rw [← ha, ← hb]
  have Hsz := Lib.hid hsz
  have Hrow := Lib.hid hrow
  clear ha hb hsz hrow hD hr hy hry
  unfold topSc
  by_cases h1 : 1 < ys.length
  · rw [if_pos h1]
    have hd : decide ((1 : Int) < (ys.length : Int)) = true := by simp; omega
    go_enter Tryd.func18, Tryd.ntmps18
    go_wp2_with fail
    refine Hsz.out.mono ?_
    rintro e w2 ⟨rfl, rfl⟩
    go_wp2
    go_ret
    exact ⟨rfl, Below.refl _ _⟩
  · rw [if_neg h1]
    have hd : decide ((1 : Int) < (ys.length : Int)) = false := by simp; omega
    go_enter Tryd.func18, Tryd.ntmps18
    go_wp2_with fail
    refine Hsz.out.mono ?_
    rintro e w2 ⟨rfl, rfl⟩
    go_wp2_with fail
    refine Hrow.out.mono ?_
    rintro e w2 ⟨v, rfl, hv, hb2⟩
    obtain ⟨ra, rc, rfl, _, _, _⟩ := hv.read
    obtain ⟨g, rfl, _, _⟩ := hv.isAt (by omega)
    have hc := hv.cellAt 0 (by omega)
    have Hb2 := Lib.hid hb2
    clear hv hb2
    obtain ⟨x, hx⟩ : ∃ x, x = gi ys 0 := ⟨_, rfl⟩
    rw [← hx] at hc
    have Hx := Lib.hid hx
    clear hx
    go_wp2
    go_ret
    exact ⟨by rw [Hx.out]; rfl, Hb2.out⟩

theorem topSc_small : SmallSc topSc := by
  intro xs ys hr _ hy
  unfold topSc
  split
  · omega
  · exact (above_mem hr hy).1.2 _ (gi_mem (above_pos hr hy))
theorem top_lim {n : Nat} (h6 : n ≤ 6) : ∀ p ∈ reach topSc (iota n) (n - 1), p.2 ≤ ((n - 1 : Nat) : Int) := by
  have key : ∀ j, ∀ p ∈ reach topSc (iota n) j, (∀ x ∈ p.1, x < (n : Int)) ∧ Rise p.1 ∧ (p.2 = 0 ∨ (p.1.length ≤ 1 ∧ p.2 ≤ ((n - 1 : Nat) : Int))) := by
    intro j
    induction j with
    | zero =>
      intro p hp
      simp [reach] at hp
      subst hp
      exact ⟨fun x hx => (mem_iota.1 hx).2, ⟨up_iota n, fun x hx => by have := mem_iota.1 hx; omega⟩, .inl rfl⟩
    | succ j ih =>
      intro p hp
      rw [reach_succ] at hp
      obtain ⟨q, hq, hm⟩ := List.mem_flatMap.1 hp
      obtain ⟨ys, hy, rfl⟩ := List.mem_map.1 hm
      obtain ⟨h1, h2, h3⟩ := ih q hq
      have hlt : ∀ x ∈ ys, x < (n : Int) := fun x hx => by
        unfold above at hy
        split at hy
        · cases hy
        · obtain ⟨_, _, h5, _⟩ := ab_mem hy
          obtain ⟨a, ha, hle⟩ := h5 x hx
          have := h1 a ha
          omega
      have hry := (above_mem h2 hy).1
      have hql : 2 ≤ q.1.length := by have := above_pos h2 hy; have := (above_mem h2 hy).2; omega
      have hq0 : q.2 = 0 := by rcases h3 with h | h <;> omega
      refine ⟨hlt, hry, ?_⟩
      simp only [hq0, Int.zero_add]
      unfold topSc
      split
      · exact .inl rfl
      · refine .inr ⟨by omega, ?_⟩
        have := hlt _ (gi_mem (above_pos h2 hy))
        omega
  intro p hp
  rcases (key _ p hp).2.2 with h | h
  · omega
  · exact h.2

def inN (n : Int) : Prop := 1 ≤ n ∧ n ≤ 6
def firstW (n : Nat) : List Int := (firstB n).map wrap64
theorem scoreL_first {n : Nat} (h1 : 1 ≤ n) (h6 : n ≤ 6) : scoreL topSc n (n - 1 + 1) = firstW n := by
  unfold firstW
  rw [← first_same h1 h6]
  unfold scoreL firstA
  rw [List.map_map, show n - 1 + 1 = n from by omega]
  rfl

set_option maxRecDepth 100000 in
set_option maxHeartbeats 800000 in
theorem implCountByFirst_any (n : Int) (w : World) (_ : -9223372036854775808 ≤ n ∧ n ≤ 9223372036854775807) (hD : Dj w) :
    Calls Tryd.prog 6 #[.int .i64 n] w fun e w' => LRes (inN n) (firstW n.toNat) w' w.heap.size e ∧ Below w.heap.size w w' := by
  by_cases h1 : 1 ≤ n
  · by_cases h6 : n ≤ 6
    · obtain ⟨N, rfl⟩ : ∃ N : Nat, n = (N : Int) := ⟨n.toNat, by omega⟩
      have hc := byScore_topColumn topSc topColumn_any topSc_small N (N - 1) (by omega) (by omega) (by omega) (top_lim (by omega)) w hD
      rw [scoreL_first (by omega) (by omega)] at hc
      have hw : ((N - 1 : Nat) : Int) = (N : Int) - 1 := by omega
      rw [hw] at hc
      have Hc := Lib.hid hc
      have hd6 : decide ((6 : Int) < (N : Int)) = false := by simp; omega
      clear hw hc hD
      go_enter Tryd.func6, Tryd.ntmps6
      go_wp2_with fail
      refine Hc.out.mono ?_
      rintro e w1 ⟨v, rfl, hv, hb⟩
      have Hv := Lib.hid hv
      have Hb := Lib.hid hb
      clear hv hb
      go_wp2
      go_ret2
      exact ⟨LRes.yes ⟨h1, h6⟩ (by rw [Int.toNat_natCast]; exact Hv.out), Hb.out⟩
    · have hd6 : decide ((6 : Int) < n) = true := by simp; omega
      go_enter Tryd.func6, Tryd.ntmps6
      go_wp2
      go_ret2
      exact ⟨LRes.no fun h => by have := h.2; omega, Below.refl _ _⟩
  · go_enter Tryd.func6, Tryd.ntmps6
    go_wp2
    go_ret2
    exact ⟨LRes.no fun h => by have := h.1; omega, Below.refl _ _⟩
end Go.Proofs.YtmcgnbbobhfkpaaDoor

namespace Go.Proofs.YtmcgnbbobhfkpaaDoor
open Go.RowKit

end Go.Proofs.YtmcgnbbobhfkpaaDoor

namespace Go.Proofs.YtmcgnbbobhfkpaaDoor
open Go.RowKit

def eqAt (row above : List Int) (i : Nat) : Int := if gi above i = gi row i then 1 else 0
def eqn (row above : List Int) (k : Nat) : Int := sumF (eqAt row above) k
theorem eqAt_01 (row above : List Int) (i : Nat) : 0 ≤ eqAt row above i ∧ eqAt row above i ≤ 1 := by unfold eqAt; split <;> omega
theorem eqn_bd (row above : List Int) : ∀ k, 0 ≤ eqn row above k ∧ eqn row above k ≤ k
  | 0 => by simp [eqn, sumF]
  | k + 1 => by
    have h1 := eqn_bd row above k
    have h2 := eqAt_01 row above k
    have e : eqn row above (k + 1) = eqn row above k + eqAt row above k := rfl
    omega

set_option maxRecDepth 100000 in
set_option maxHeartbeats 400000 in
theorem equalNumbers_any (a1 a2 : Option Addr) (c1 c2 : Nat) (row above : List Int) (w : World) (hn : row.length ≤ 1048576) (hl : above.length ≤ row.length) (h1 : IntsAt w a1 row) (h2 : IntsAt w a2 above) :
    Calls Tryd.prog 37 #[.slice a1 row.length c1, .slice a2 above.length c2] w fun e w' => e = .returned (.int .i64 (eqn row above above.length)) ∧ w = w' := by
  have hmx : row.length ≤ 9223372036854775807 := by omega
  have hmx2 : above.length ≤ 9223372036854775807 := by omega
  have H1 := Lib.hid h1
  have H2 := Lib.hid h2
  clear h1 h2
  go_enter Tryd.func37, Tryd.ntmps37
  go_wp2
  go_loop [5, 10] (fun s i => ∃ k : Nat, k ≤ above.length ∧ i = .int .i64 k ∧ s = .int .i64 (eqn row above k)) (fun _ i => above.length - (intOf i).toNat)
  case atStart => exact ⟨0, Nat.zero_le _, rfl, rfl⟩
  case round =>
    obtain ⟨k, hk, rfl, rfl⟩ := hrel
    have hbd := eqn_bd row above k
    by_cases hlt : k < above.length
    · obtain ⟨b, o, rfl, hc⟩ := H2.out k hlt
      obtain ⟨b', o', rfl, hc1⟩ := H1.out k (by omega)
      have E1 := Lib.hid (show eqn row above (k + 1) = eqn row above k + eqAt row above k from rfl)
      by_cases e : gi above k = gi row k
      · have E2 := Lib.hid (show eqAt row above k = 1 from if_pos e)
        obtain ⟨x, hxv⟩ : ∃ x, x = gi row k := ⟨_, rfl⟩
        rw [e] at hc
        rw [← hxv] at hc hc1
        obtain ⟨s, hsv⟩ : ∃ s, s = eqn row above k := ⟨_, rfl⟩
        rw [← hsv] at hbd ⊢
        have Hs := Lib.hid hsv
        have hb : (x == x) = true := by simp
        clear hxv e hsv
        go_wp2
        go_round
        case rel => exact ⟨k + 1, by omega, by go_num, by rw [E1.out, E2.out, ← Hs.out]⟩
        case measure => simp [intOf]; omega
      · have E2 := Lib.hid (show eqAt row above k = 0 from if_neg e)
        have hb : (gi above k == gi row k) = false := by simpa using e
        obtain ⟨s, hsv⟩ : ∃ s, s = eqn row above k := ⟨_, rfl⟩
        rw [← hsv] at hbd ⊢
        have Hs := Lib.hid hsv
        clear e hsv
        go_wp2
        go_round
        case rel => exact ⟨k + 1, by omega, by go_num, by rw [E1.out, E2.out, ← Hs.out, Int.add_zero]⟩
        case measure => simp [intOf]; omega
    · obtain rfl : k = above.length := by omega
      go_wp2
      go_ret
      exact ⟨rfl, rfl⟩

/-- .. in the first k rows but one -/
def desc (t : List (List Int)) (k : Nat) : Int := sumF (fun i => eqn (gr t (i + 1)) (gr t i) (gr t i).length) k
theorem desc_bd {t : List (List Int)} (h : isTri t) : ∀ k, k < t.length → 0 ≤ desc t k ∧ desc t k ≤ k * 6
  | 0, _ => by simp [desc, sumF]
  | k + 1, hk => by
    have h1 := desc_bd h k (by omega)
    have h2 := eqn_bd (gr t (k + 1)) (gr t k) (gr t k).length
    have h3 := (h.2.2 k (by omega)).1
    have h4 := h.2.1
    have e : desc t (k + 1) = desc t k + eqn (gr t (k + 1)) (gr t k) (gr t k).length := rfl
    omega

end Go.Proofs.YtmcgnbbobhfkpaaDoor

namespace Go.Proofs.YtmcgnbbobhfkpaaDoor
open Go.RowKit Go.Maps
open Go.WideMaps (KeyLaw)

set_option maxRecDepth 100000 in
set_option maxHeartbeats 6400000 in
theorem climb_lostColumns (sc : List Int → List Int → Int) (hf : Scores 24 sc) (R : List Pos) (hR : ∀ p ∈ R, vk p ∧ p.1.length ≤ 6) (hR2 : ∀ p ∈ stepR sc R, vk p) (hRl : (stepR sc R).length < 9223372036854775807)
    (hsc : ∀ p ∈ R, ∀ ys ∈ above p.1, -1000 ≤ sc p.1 ys ∧ sc p.1 ys ≤ 1000) (bn bx : Nat) (hne : bn ≠ bx) (L0 : List Ent) (hL0 : ∀ x ∈ L0, x.1 ∈ R) (w : World) (hn : MapW Tryd.prog 51 3 w bn L0) (hx : MapW Tryd.prog 51 3 w bx []) (hD : Dj w) (hG : 1 < bx) (hG2 : 1 < bn) :
    Calls Tryd.prog 39 #[.map (some bn), .map (some bx), .func (.func 24) #[] #[]] w fun e w' => e = .returned (.tuple #[]) ∧ ∃ Lx, MapW Tryd.prog 51 3 w' bn [] ∧ MapW Tryd.prog 51 3 w' bx Lx ∧ (∀ x ∈ Lx, x.1 ∈ stepR sc R) ∧
      (∀ φ, Cg (potL Lx φ) (potL L0 (psi sc φ))) ∧ ∀ B, B ≤ bn → B ≤ bx → B ≤ w.heap.size → Below B w w' := by
  obtain ⟨D0, hown0, hd0⟩ := hn
  have Hf := Lib.hid hf
  have HR := Lib.hid hR
  have HR2 := Lib.hid hR2
  have Hsc := Lib.hid hsc
  have HL0 := Lib.hid hL0
  have Hx := Lib.hid hx
  have HD := Lib.hid hD
  have Hd0 := Lib.hid hd0
  clear hf hR hR2 hsc hL0 hx hD hd0
  go_enter Tryd.func39, Tryd.ntmps39
  go_wp2_with (at_range; refine wpList_range_own _ rfl _ 45 rfl 51 3 S_st.K Tryd.underlying45 (plainElem Tryd.prog 3) bn L0.length D0 rfl hown0 ?_; intro w0 hrg0 hg0 hs0)
  go_frame
  go_loopw [12] (fun _ wr => ∃ (D : DataW Nat) (L Lx : List Ent) (left : Lit → Bool) (cnt : Nat), wr.ranges Tryd.prog 51 (plainElem Tryd.prog 3) bn w.heap.size L0.length D left cnt ∧ MapD Tryd.prog 51 D L ∧ (∀ p, vk p → Maps.has D (kl Tryd.prog 51 p) = left (kl Tryd.prog 51 p)) ∧
      (∀ x ∈ L, x.1 ∈ R) ∧ MapW Tryd.prog 51 3 wr bx Lx ∧ (∀ x ∈ Lx, x.1 ∈ stepR sc R) ∧ (∀ φ, Cg (potL Lx φ + potL L (psi sc φ)) (potL L0 (psi sc φ))) ∧ (∀ B, B ≤ bn → B ≤ bx → B ≤ w.heap.size → Below B w wr) ∧ w.heap.size ≤ wr.heap.size ∧ Dj wr) (fun _ wr => wr.rangeLeft bn w.heap.size)
  case atStart => exact ⟨D0, L0, [], _, _, hrg0, Hd0.out, fun _ _ => rfl, HL0.out, Hx.out.kept hg0 (by simp), (fun x hx => by cases hx), (fun φ => by simpa [potL, sumL] using Cg.refl _), (fun B _ _ hB => (Below.refl _ _).grown hg0 hB (fun _ h => by cases h)), by omega, HD.out.grown (hg0.but (some bx)) hG⟩
  case round =>
    obtain ⟨D, L, Lx, left, cnt, hrg, hmd, hleft, hLR, hmx, hLx, hpot, hfr, hsz, hDr⟩ := hrel
    go_wp2_with (at_next; refine wpList_next_ranges _ rfl _ rfl 51 S_st.K (plainElem Tryd.prog 3) (fun x : Value => x) (fun x : Int => .int .i64 x) (fun key _ _ => ⟨key, rfl⟩) (fun v y hv => by obtain ⟨c, e, _⟩ := plainElem_int_inv Tryd.underlying3 hv; exact ⟨c, e⟩) bn w.heap.size L0.length D left cnt rfl hrg ?_ ?_)
    · intro _ hl0
      have hL : L = [] := by
        cases L with
        | nil => rfl
        | cons x r =>
          have h1 := hmd.has S_st (hmd.ok x (by simp))
          rw [hleft _ (hmd.ok x (by simp)), hl0] at h1
          simp at h1
      subst hL
      have hown := hrg.owns
      have Hfin := Lib.hid (show MapW Tryd.prog 51 3 wr bn [] ∧ MapW Tryd.prog 51 3 wr bx Lx ∧ (∀ x ∈ Lx, x.1 ∈ stepR sc R) ∧ (∀ φ, Cg (potL Lx φ) (potL L0 (psi sc φ))) ∧ ∀ B, B ≤ bn → B ≤ bx → B ≤ w.heap.size → Below B w wr from
        ⟨MapW.of hown hmd, hmx, hLx, fun φ => by have := hpot φ; simpa [potL, sumL] using this, hfr⟩)
      clear hrg hmd hleft hLR hmx hLx hpot hfr hown hl0
      go_wp2
      go_end0
      exact ⟨rfl, Lx, Hfin.out⟩
    · intro key c kl1 y1 y2 w1 cnt1 hkey hlk hRv hat hrg1 hlt hg1 hs1 hen
      obtain ⟨x, hxL, hxk⟩ := hmd.key_of (Maps.has_true_of_atKey hat)
      obtain ⟨⟨xs, s⟩, cx⟩ := x
      have hvk := hmd.ok _ hxL
      simp only at hxk hvk
      have hkey2 : key = ky (xs, s) := S_st.K.inj hkey (by rw [← hxk]; exact kl_is S_st hvk)
      have hc : c = getC L (xs, s) := by
        obtain ⟨c', e1, e2, _⟩ := plainElem_int_inv Tryd.underlying3 hRv
        have h1 := hmd.atKey S_st hvk
        have e3 : y1 = .lit (.int .i64 c') := congrArg Prod.fst e2
        rw [hxk, hat, e3] at h1
        simp at h1 e1
        rw [e1, h1]
      subst hkey2
      subst hxk
      have Hlo := Lib.hid hrg.left_eq
      have Hlt := Lib.hid hlt
      have Hgr := Lib.hid hg1
      have hpR := hLR _ hxL
      simp only at hpR
      have h6 := (HR.out _ hpR).2
      have hrise := hvk.1
      have hxlt := hmx.lt
      have hbxw : bx < w.heap.size := (Hx.out).lt
      have hsz1 : w1.heap.size = wr.heap.size := hs1
      have Hsz1 := Lib.hid hsz1
      have Hrg1 := Lib.hid hrg1
      have Hmd := Lib.hid hmd
      have Hleft := Lib.hid hleft
      have HLR := Lib.hid hLR
      have HLx := Lib.hid hLx
      have Hpot := Lib.hid hpot
      have Hfr := Lib.hid hfr
      have Hvk := Lib.hid hvk
      have HpR := Lib.hid hpR
      have Hc := Lib.hid hc
      have HxL := Lib.hid hxL
      have hg1' : wr.grownBy w1 (some w.heap.size) := hg1
      have Hmx := Lib.hid (hmx.kept hg1 (by simp; omega))
      have hD1 : Dj w1 := hDr.grown hg1' (by omega)
      obtain ⟨w2, hw2⟩ : ∃ w2, w2 = w1.alloc (.cells #[.int .u64 (mask xs : Nat), .int .i64 s] 51) := ⟨_, rfl⟩
      have hset := setsAbove_any hrise h6 w2 (by rw [hw2]; exact hD1.next ((Below.refl _ _).alloc (Nat.le_refl _) _))
      obtain ⟨m, hm⟩ : ∃ m : Int, m = (mask xs : Nat) := ⟨_, rfl⟩
      have hky : ky (xs, s) = .agg #[.int .u64 m, .int .i64 s] := by rw [hm]; rfl
      rw [hky] at hen
      rw [← hm] at hset hw2
      have Hset := Lib.hid hset
      have Hm := Lib.hid hm
      have hD2 := Lib.hid (show Dj w2 by rw [hw2]; exact hD1.next ((Below.refl _ _).alloc (Nat.le_refl _) _))
      have Hg12 := Lib.hid (show w1.grownBy w2 none by rw [hw2]; exact World.grownBy_alloc _ _ _)
      have Hcell0 := Lib.hid (show w2.cell? ⟨w1.heap.size, 0, none⟩ = some (.int .u64 m) by rw [hw2]; exact cell_new _ _ _ 0)
      have Hcell1 := Lib.hid (show w2.cell? ⟨w1.heap.size, 1, none⟩ = some (.int .i64 s) by rw [hw2]; exact cell_new _ _ _ 1)
      have Hsz2 := Lib.hid (show w2.heap.size = w1.heap.size + 1 by rw [hw2]; simp)
      clear hset hat hRv hkey hlk hg1 hg1' hrg hrg1 hmd hleft hLR hmx hLx hpot hfr hvk hpR hc hxL hD1 hm hsz1 hs1 hlt
      rw [hky]
      clear hky
      go_wp2_with fail
      rw [← hw2]
      refine Hset.out.mono ?_
      rintro e w3 ⟨v, rfl, hv, hb3⟩
      obtain ⟨sa, sc', hsv, hsc1, hsc2, hsr⟩ := hv.read
      obtain ⟨A, hA⟩ : ∃ A, A = above xs := ⟨_, rfl⟩
      rw [← hA] at hsv hv hsr
      obtain ⟨al, hal⟩ : ∃ al, al = A.length := ⟨_, rfl⟩
      rw [← hal] at hsv
      subst hsv
      have hamx : al ≤ 9223372036854775807 := by
        rw [hal, hA]
        have h1 := above_len hrise
        have h2 : 16 ^ (xs.length - 1) ≤ 16 ^ 5 := Nat.pow_le_pow_right (by omega) (by omega)
        omega
      have hbw1 : w.heap.size ≤ w1.heap.size := by have := Hsz1.out; omega
      have Hg13 := Lib.hid (show w1.grownBy w3 none from Hg12.out.trans (grown_of_below hb3))
      have Hmx3 := Lib.hid (Hmx.out.kept Hg13.out (by simp))
      have Hcell0' := Lib.hid (cell_below Hcell0.out hb3)
      have Hcell1' := Lib.hid (cell_below Hcell1.out hb3)
      have HD3 := Lib.hid (hD2.out.next hb3)
      have Hv := Lib.hid hv
      have Hsr := Lib.hid hsr
      have HA := Lib.hid hA
      have Hal := Lib.hid hal
      have HB23 := Lib.hid hb3.size
      clear hv hsr hA hal hb3 Hcell0 Hcell1 hD2 hsc1 hsc2
      go_wp2
      go_loopw [21] (fun i wi => ∃ (t : Nat) (Ly : List Ent), t ≤ al ∧ i = .int .i64 t ∧ MapW Tryd.prog 51 3 wi bx Ly ∧ (∀ x ∈ Ly, x.1 ∈ stepR sc R) ∧ (∀ φ, Cg (potL Ly φ) (potL Lx φ + c * sumL (A.take t) (fun ys => φ (ys, s + sc xs ys)))) ∧ w3.grownBy wi (some bx)) (fun i _ => al - (intOf i).toNat)
      case atStart => exact ⟨0, Lx, Nat.zero_le _, rfl, Hmx3.out, HLx.out, fun φ => by simpa [sumL] using Cg.refl _, World.grownBy.refl _ _⟩
      case round =>
        obtain ⟨t, Ly, ht, rfl, hmy, hLy, hpy, hgi⟩ := hrel
        have Hgi := Lib.hid hgi
        have Hmy := Lib.hid hmy
        have HLy := Lib.hid hLy
        have Hpy := Lib.hid hpy
        by_cases htl : t < al
        · obtain ⟨sb, so, hse, hsc0⟩ := Hsr.out t (by rw [← Hal.out]; exact htl)
          have hsb : sb ≠ bx := fun e => by
            have := (World.ownsRow.lt Hv.out sb (by rw [hse]; rfl)).1
            have := Hsz2.out
            omega
          have hcs := hgi.cell hsc0 (by simpa using hsb)
          have hc0 := hgi.cell Hcell0'.out (by simp; omega)
          have hc1 := hgi.cell Hcell1'.out (by simp; omega)
          obtain ⟨ys, hys⟩ : ∃ ys, ys = gr A t := ⟨_, rfl⟩
          rw [← hys] at hcs
          have hysm : ys ∈ above xs := by rw [hys, ← HA.out]; exact gr_mem (by rw [← Hal.out]; exact htl)
          have hDi : Dj wr := HD3.out.grown hgi hG
          obtain ⟨my, hmyv⟩ : ∃ my : Int, my = (mask ys : Nat) := ⟨_, rfl⟩
          obtain ⟨q, hq⟩ : ∃ q, q = sc xs ys := ⟨_, rfl⟩
          have hqb := Hsc.out _ HpR.out ys hysm
          simp only at hqb
          rw [← hq] at hqb
          have hcall := Hf.out xs ys wr.drew hrise h6 hysm hDi
          rw [← hmyv, ← hq, ← Hm.out] at hcall
          have hcs' : wr.cell? ⟨sb, so + t, none⟩ = some (.int .u64 my) := by rw [hmyv]; exact hcs
          have hpos : (ys, s + q) ∈ stepR sc R := by rw [hq]; exact mem_stepR HpR.out hysm
          have hvy := HR2.out _ hpos
          have hLyl : Ly.length < 9223372036854775807 := by
            obtain ⟨Dy, _, hdy⟩ := Hmy.out
            exact Nat.lt_of_le_of_lt (nodup_len hdy.nd HLy.out) hRl
          obtain ⟨g, hgv⟩ : ∃ g, g = getC Ly (ys, s + q) := ⟨_, rfl⟩
          obtain ⟨v', hv'⟩ : ∃ v', v' = wrap64 (g + c) := ⟨_, rfl⟩
          have hfacts : ∀ w', Below wr.drew.heap.size wr.drew w' → w'.cell? ⟨w1.heap.size, 0, none⟩ = some (.int .u64 m) ∧ w'.cell? ⟨w1.heap.size, 1, none⟩ = some (.int .i64 s) ∧ ∃ (v0 : Value) (st : Int) (w5 w6 : World),
              (Instr.lookup 45 (.map (some bx)) (.agg #[.int .u64 my, .int .i64 (s + q)]) false).run Tryd.prog w' = .ok (.int .i64 g) w' ∧ (Instr.mapEntry 45 (.map (some bx)) (.agg #[.int .u64 my, .int .i64 (s + q)])).run Tryd.prog w' = .ok (.tuple #[v0, .int .i64 st]) w5 ∧ (Instr.lookup 45 (.map (some bx)) (.agg #[.int .u64 my, .int .i64 (s + q)]) false).run Tryd.prog w5 = .ok (.int .i64 g) w5 ∧
              (Instr.entryStore 45 (.map (some bx)) (.int .i64 st) (.int .i64 v')).run Tryd.prog w5 = .ok () w6 ∧ MapW Tryd.prog 51 3 w6 bx (((ys, s + q), v') :: strike Ly (ys, s + q)) ∧ wr.grownBy w6 (some bx) := by
            intro w' hb'
            have hgw : wr.grownBy w' none := grown_of_below ((below_drewN (Below.refl _ _) 1).trans hb')
            refine ⟨hgw.cell hc0 (by simp), hgw.cell hc1 (by simp), ?_⟩
            obtain ⟨v0, st, w5, w6, r1, r2, rl, r3, r4, r5, _⟩ := (Hmy.out.kept hgw (by simp)).add S_st Tryd.law_st Tryd.underlying45 zero_int hLyl hvy c
            have hky2 : ky (ys, s + q) = .agg #[.int .u64 my, .int .i64 (s + q)] := by rw [hmyv]; rfl
            rw [hky2, ← hgv] at r1
            rw [hky2] at r2
            rw [hky2, ← hgv] at rl
            rw [← hgv, ← hv'] at r3 r4
            exact ⟨v0, st, w5, w6, r1, r2, rl, r3, r4, (hgw.but (some bx)).trans r5⟩
          have hws : IntKind.i64.wrap (s + q) = s + q := i64_small (by have := Hvk.out.2; simp at this; omega) (by have := Hvk.out.2; simp at this; omega)
          have hwv : IntKind.i64.wrap (g + c) = v' := by rw [i64_wrap, hv']
          have Hfacts := Lib.hid hfacts
          have Hcall := Lib.hid hcall
          have Hnext := Lib.hid (show ∀ φ, Cg (potL (((ys, s + q), v') :: strike Ly (ys, s + q)) φ) (potL Lx φ + c * sumL (A.take (t + 1)) (fun ys => φ (ys, s + sc xs ys))) from fun φ => by
            obtain ⟨Dy, _, hdy⟩ := Hmy.out
            have h1 := potL_put hdy.nd (ys, s + q) c φ
            rw [← hgv, ← hv'] at h1
            refine h1.trans ?_
            have h2 := Hpy.out φ
            have e : sumL (A.take (t + 1)) (fun ys => φ (ys, s + sc xs ys)) = sumL (A.take t) (fun ys => φ (ys, s + sc xs ys)) + φ (ys, s + q) := by
              rw [List.take_succ_eq_append_getElem (by rw [← Hal.out]; exact htl), sumL_append, hys, gr_lt (by rw [← Hal.out]; exact htl)]
              simp [sumL, hq, hys, gr_lt (show t < A.length by rw [← Hal.out]; exact htl)]
            rw [e, Int.mul_add, ← Int.add_assoc]
            exact h2.add (Cg.refl _))
          have Hpos := Lib.hid hpos
          clear hgi hmy hLy hpy hsc0 hcs hysm hDi hmyv hq hqb hcall hpos hvy hLyl hgv hv' hfacts hys
          subst hse
          go_wp2
          go_region_with (go_at_call 24; refine Hcall.out.mono ?_; rintro e w' ⟨rfl, hb⟩; obtain ⟨hd0, hd1, v0, st, w5, w6, r1, r2, rl, r3, r4, r5⟩ := Hfacts.out w' hb)
          all_goals
            have Hr4 := Lib.hid r4
            have Hr5 := Lib.hid r5
            clear hb hd0 hd1 r1 r2 rl r3 r4 r5
            go_wp2
            go_roundw
            case rel =>
              refine ⟨t + 1, _, by omega, by go_num, Hr4.out, fun x hx => ?_, Hnext.out, Hgi.out.trans Hr5.out⟩
              rcases List.mem_cons.1 hx with rfl | hx
              · exact Hpos.out
              · exact HLy.out x (List.mem_filter.1 hx).1
            case measure => simp [intOf]; omega
        · obtain rfl : t = al := by omega
          have hpy2 : ∀ φ, Cg (potL Ly φ) (potL Lx φ + c * psi sc φ (xs, s)) := fun φ => by
            have := Hpy.out φ
            rw [Hal.out, List.take_length, HA.out] at this
            exact this
          have hrgr := Hrg1.out.kept (row := some bx) ((Hg13.out.but (some bx)).trans Hgi.out) (by simp; omega) (by simp; omega)
          have hc0 := Hgi.out.cell Hcell0'.out (by simp; omega)
          have hc1 := Hgi.out.cell Hcell1'.out (by simp; omega)
          have hnew := Lib.hid (show ∀ φ, Cg (potL Ly φ + potL (strike L (xs, s)) (psi sc φ)) (potL L0 (psi sc φ)) from fun φ => by
            have h1 := potL_strike Hmd.out.nd (xs, s) (psi sc φ)
            rw [← Hc.out] at h1
            have h2 := Hpot.out φ
            rw [h1] at h2
            refine Cg.trans ?_ h2
            have h3 := (hpy2 φ).add (Cg.refl (potL (strike L (xs, s)) (psi sc φ)))
            rw [Int.add_assoc] at h3
            exact h3)
          have hkeyp : keyOf Tryd.prog 51 (.agg #[.int .u64 m, .int .i64 s]) = some (kl Tryd.prog 51 (xs, s)) := by rw [Hm.out]; exact kl_is S_st Hvk.out
          have hdr := HD3.out.grown Hgi.out hG
          have Hrgr := Lib.hid hrgr
          have Hkeyp := Lib.hid hkeyp
          have Hdr := Lib.hid hdr
          have HBr := Lib.hid (show w3.heap.size ≤ wr.heap.size from Hgi.out.size)
          clear hpy2 hrgr hkeyp hdr
          go_wp2_with (at_delete; refine wpList_delete_ranges _ rfl _ _ 45 51 rfl 3 S_st.K Tryd.underlying45 (plainElem Tryd.prog 3) bn w.heap.size L0.length D _ cnt1 rfl Hrgr.out _ _ rfl Hkeyp.out ?_; intro w5 cnt2 hrg2 hle hturn; go_frame)
          rw [Maps.strike_twice] at hrg2
          have hg5 : wr.grownBy w5 (some bn) := hturn.grown
          have Hrel := Lib.hid (show ∃ (D' : DataW Nat) (L' Lx' : List Ent) (left' : Lit → Bool) (cnt' : Nat), w5.ranges Tryd.prog 51 (plainElem Tryd.prog 3) bn w.heap.size L0.length D' left' cnt' ∧ MapD Tryd.prog 51 D' L' ∧ (∀ p, vk p → Maps.has D' (kl Tryd.prog 51 p) = left' (kl Tryd.prog 51 p)) ∧
              (∀ x ∈ L', x.1 ∈ R) ∧ MapW Tryd.prog 51 3 w5 bx Lx' ∧ (∀ x ∈ Lx', x.1 ∈ stepR sc R) ∧ (∀ φ, Cg (potL Lx' φ + potL L' (psi sc φ)) (potL L0 (psi sc φ))) ∧ (∀ B, B ≤ bn → B ≤ bx → B ≤ w.heap.size → Below B w w5) ∧ w.heap.size ≤ w5.heap.size ∧ Dj w5 from by
            refine ⟨_, strike L (xs, s), Ly, _, cnt2, hrg2, Hmd.out.del S_st Hvk.out, fun p hp => ?_, fun x hx => HLR.out x (List.mem_filter.1 hx).1, Hmy.out.kept hg5 (by simp; omega), HLy.out, hnew.out, fun B h1 h2 h3 => ?_, ?_, Hdr.out.grown hg5 hG2⟩
            · by_cases e : p = (xs, s)
              · subst e
                rw [Maps.has_del_same, WideAt.sameKey_self (kl_key S_st hp)]
                simp
              · have hne2 : kl Tryd.prog 51 p ≠ kl Tryd.prog 51 (xs, s) := fun e2 => e (kl_inj S_st hp Hvk.out e2)
                rw [Maps.has_del_other hne2, Hleft.out p hp, Maps.sameKey_ne hne2]
                simp
            · have q1 := (Hfr.out B h1 h2 h3).grown Hgr.out (by omega) (fun k hk => by cases hk; exact h3)
              have q2 := q1.grown Hg13.out (by omega) (fun k hk => by cases hk)
              have q3 := q2.grown Hgi.out (by have := Hg13.out.size; omega) (fun k hk => by cases hk; exact h2)
              exact q3.grown hg5 (by have := Hg13.out.size; have := HBr.out; omega) (fun k hk => by cases hk; exact h1)
            · have := Hg13.out.size; have := HBr.out; have := hg5.size; omega)
          have hm2 := hrg2.left_eq
          have Hm2 := Lib.hid hm2
          clear hrg2 hturn hg5 hm2 hc0 hc1
          go_roundw
          case rel => exact Hrel.out
          case measure => rw [Hm2.out, Hlo.out]; have := Hlt.out; omega
end Go.Proofs.YtmcgnbbobhfkpaaDoor

namespace Go.Proofs.YtmcgnbbobhfkpaaDoor
open Go.RowKit Go.Maps
open Go.WideMaps (KeyLaw)


set_option maxRecDepth 100000 in
set_option maxHeartbeats 1600000 in
theorem climbed_lostColumns (sc : List Int → List Int → Int) (hf : Scores 24 sc) (hb : SmallSc sc) {xs : List Int} (hr : Rise xs) (h1 : 1 ≤ xs.length) (h6 : xs.length ≤ 6) (w : World) (hD : Dj w) :
    Calls Tryd.prog 29 #[.int .u64 (mask xs : Nat), .func (.func 24) #[] #[]] w fun e w' => ClimbsTo sc xs w e w' := by
  have hv0 : vk (xs, 0) := ⟨hr, by simp, by simp⟩
  obtain ⟨w1, hrun, hown1, hg1⟩ := (World.ownsMap_made (H := Nat) w Tryd.prog 51 (plainElem Tryd.prog 3)).update S_st.K Tryd.underlying45 (by unfold maxLen; omega) (kl_is S_st hv0) (plainElem_int Tryd.underlying3 (a := 1) (by decide))
  have hm1 : MapW Tryd.prog 51 3 w1 w.heap.size [((xs, 0), 1)] := MapW.of hown1 (by have := (MapD.empty (P := Tryd.prog) (k := 51)).put S_st hv0 1; simpa [strike] using this)
  have hb1 : Below w.heap.size w w1 := ((Below.refl _ w).alloc (Nat.le_refl _) _).grown hg1 (by simp) (fun k hk => by cases hk; exact Nat.le_refl _)
  have hs1 : w.heap.size + 1 ≤ w1.heap.size := by have := hg1.size; simp at this; exact this
  have hm2 : MapW Tryd.prog 51 3 (w1.alloc (.map #[] 0)) w1.heap.size [] := MapW.of (World.ownsMap_made w1 _ _ _) MapD.empty
  have hm1' : MapW Tryd.prog 51 3 (w1.alloc (.map #[] 0)) w.heap.size [((xs, 0), 1)] := hm1.kept (World.grownBy_alloc w1 _ none) (by simp)
  have hb2 : Below w.heap.size w (w1.alloc (.map #[] 0)) := hb1.alloc (by omega) _
  have hsz := size_any hr h6 (w1.alloc (.map #[] 0))
  have hGw := hD.lt
  have hky : ky (xs, 0) = .agg #[.int .u64 (mask xs : Nat), .int .i64 0] := rfl
  rw [hky] at hrun
  obtain ⟨m, hm⟩ : ∃ m : Int, m = (mask xs : Nat) := ⟨_, rfl⟩
  rw [← hm] at hrun hsz ⊢
  have hmm := @run_makeMap Tryd.prog
  have Hsz := Lib.hid hsz
  have Hstart := Lib.hid (And.intro hm1' (And.intro hm2 hb2))
  have Hb := Lib.hid hb
  have Hr := Lib.hid hr
  have Hf := Lib.hid hf
  have HD := Lib.hid hD
  have Hs1 := Lib.hid hs1
  clear hv0 hown1 hg1 hm1 hb1 hm2 hm1' hb2 hsz hm hky hb hr hf hD hs1
  go_enter Tryd.func29, Tryd.ntmps29
  go_wp2_with fail
  refine Hsz.out.mono ?_
  rintro e w2 ⟨rfl, rfl⟩
  go_wp2
  go_loopw [5, 6, 15] (fun now next i wr => ∃ (k bn bx : Nat) (L : List Ent), k + 1 ≤ xs.length ∧ i = .int .i64 (k : Int) ∧ now = .map (some bn) ∧ next = .map (some bx) ∧ bn ≠ bx ∧ w.heap.size ≤ bn ∧ w.heap.size ≤ bx ∧ MapW Tryd.prog 51 3 wr bn L ∧ MapW Tryd.prog 51 3 wr bx [] ∧
      (∀ x ∈ L, x.1 ∈ reach sc xs k) ∧ (∀ φ, Cg (potL L fun p => climbW sc φ (xs.length - 1 - k) p.1 p.2) (climbW sc φ (xs.length - 1) xs 0)) ∧ Below w.heap.size w wr ∧ w.heap.size ≤ wr.heap.size) (fun _ _ i _ => xs.length - (intOf i).toNat)
  case atStart => exact ⟨0, w.heap.size, w1.heap.size, _, h1, rfl, rfl, rfl, by have := Hs1.out; omega, Nat.le_refl _, by have := Hs1.out; omega, Hstart.out.1, Hstart.out.2.1, fun x hx => by simp at hx; subst hx; simp [reach], fun φ => by simpa [potL, sumL] using Cg.refl _, Hstart.out.2.2, by have := Hs1.out; simp; omega⟩
  case round =>
    obtain ⟨k, bn, bx, L, hk, rfl, rfl, rfl, hne, hbn, hbx, hmn, hmx, hkeys, hpot, hbr, hsr⟩ := hrel
    by_cases hlt : k + 1 < xs.length
    · have hlt' : (k : Int) < (xs.length : Int) - 1 := by omega
      have hcall := climb_lostColumns sc Hf.out (reach sc xs k) (fun p hp => reach_vk Hb.out Hr.out h6 hp) (fun p hp => (reach_vk Hb.out Hr.out h6 (j := k + 1) hp).1) (reach_short Hb.out Hr.out h6 (j := k + 1) (by omega))
        (fun p hp ys hy => by have := Hb.out p.1 ys (reach_vk Hb.out Hr.out h6 hp).1.1 (reach_vk Hb.out Hr.out h6 hp).2 hy; omega) bn bx hne L hkeys wr hmn hmx (HD.out.next hbr) (by omega) (by omega)
      have Hcall := Lib.hid hcall
      have Hpot := Lib.hid hpot
      have Hbr := Lib.hid hbr
      clear hcall hmn hmx hkeys hpot hbr
      go_wp2_with fail
      refine Hcall.out.mono ?_
      rintro e w3 ⟨rfl, Lx, hn3, hx3, hk3, hp3, hf3⟩
      have Hrel := Lib.hid (show ∃ (L : List Ent), MapW Tryd.prog 51 3 w3 bx L ∧ MapW Tryd.prog 51 3 w3 bn [] ∧ (∀ x ∈ L, x.1 ∈ reach sc xs (k + 1)) ∧ (∀ φ, Cg (potL L fun p => climbW sc φ (xs.length - 1 - (k + 1)) p.1 p.2) (climbW sc φ (xs.length - 1) xs 0)) ∧ Below w.heap.size w w3 ∧ w.heap.size ≤ w3.heap.size from by
        have hb3 := hf3 w.heap.size hbn hbx hsr
        refine ⟨Lx, hx3, hn3, hk3, fun φ => ?_, Hbr.out.trans hb3, Nat.le_trans hsr hb3.size⟩
        have h1 := hp3 (fun p => climbW sc φ (xs.length - 1 - (k + 1)) p.1 p.2)
        have h2 := Hpot.out φ
        rw [show xs.length - 1 - k = (xs.length - 1 - (k + 1)) + 1 from by omega] at h2
        exact h1.trans h2)
      clear hn3 hx3 hk3 hp3 hf3
      go_wp2
      go_roundw
      case rel =>
        obtain ⟨L', q1, q2, q3, q4, q5, q6⟩ := Hrel.out
        exact ⟨k + 1, bx, bn, L', hlt, by go_num, rfl, rfl, hne.symm, hbx, hbn, q1, q2, q3, q4, q5, q6⟩
      case measure => simp [intOf]; omega
    · obtain rfl : k = xs.length - 1 := by omega
      have hfin := Lib.hid (show ClimbsTo sc xs w (.returned (.map (some bn))) wr from ⟨bn, L, rfl, hmn, hbn, hkeys, fun φ => by have := hpot φ; rw [Nat.sub_self] at this; exact this, hbr⟩)
      have hlt' : ¬ (((xs.length - 1 : Nat) : Int) < (xs.length : Int) - 1) := by omega
      clear hmn hmx hkeys hpot hbr
      go_wp2
      go_ret
      exact hfin.out
end Go.Proofs.YtmcgnbbobhfkpaaDoor

