/- Parts of proofs: contracts and plain facts. Conditions: as each says. -/
import Derived.Test.YtmkldodkpijfjaaDoorK06
namespace Go.Proofs.YtmkldodkpijfjaaDoor
open Go.RowKit

/-- what is known is right -/
def KnowsW (n : Nat) (xs : List Int) : Prop := ∀ ys, ColsN n ys → gi xs (mask ys) > 0 → gi xs (mask ys) = wrap64 (waysB n ys)
theorem KnowsW.set {n : Nat} {xs : List Int} (h : KnowsW n xs) (hl : xs.length = 2 ^ n) {ys : List Int} (hy : ColsN n ys) : KnowsW n (xs.set (mask ys) (wrap64 (waysB n ys))) := by
  intro zs hz
  rw [gi_set (by rw [hl]; exact mask_lt hy.2)]
  by_cases e : mask zs = mask ys
  · have e2 : zs = ys := mask_inj hz.1 (fun x hx => (hz.2 x hx).1) hy.1 (fun x hx => (hy.2 x hx).1) e
    subst e2
    intro _
    rw [if_pos rfl]
  · rw [if_neg e]
    exact h zs hz
theorem knowsW_zero (n m : Nat) : KnowsW n (List.replicate m 0) := fun ys _ h => by rw [gi_zero] at h; omega
def sumTakeB (n : Nat) (L : List (List Int)) (k : Nat) : Int := sumL (L.take k) (waysB n)
theorem sumTakeB_succ {N : Nat} {L : List (List Int)} {k : Nat} (h : k < L.length) : sumTakeB N L (k + 1) = sumTakeB N L k + waysB N (gr L k) := by
  unfold sumTakeB
  rw [List.take_succ_eq_append_getElem h, sumL_append, gr_lt h]
  simp [sumL]

set_option maxRecDepth 100000 in
set_option maxHeartbeats 1600000 in
theorem trWays_any (N : Nat) (hN : N ≤ 6) (SZ : Nat) (hSZ : SZ = 2 ^ N) : ∀ (d : Nat) (xs : List Int) (a1 : Option Addr) (c1 B0 kb kc : Nat) (ks : List Int) (w : World), xs.length + d = N → ColsN N xs → IntsAt w a1 xs → (∀ b o, a1 = some ⟨b, o, none⟩ → b ≠ kb) → OwnI w B0 (.slice (some ⟨kb, 0, none⟩) SZ kc) ks → KnowsW N ks → B0 ≤ kb →
    Calls Tryd.prog 55 #[.slice a1 xs.length c1, .int .i64 (N : Int), .slice (some ⟨kb, 0, none⟩) SZ kc] w fun e w' => ∃ ks', e = .returned (.int .i64 (wrap64 (waysB N xs))) ∧ OwnI w' B0 (.slice (some ⟨kb, 0, none⟩) SZ kc) ks' ∧ KnowsW N ks' ∧ w.grownBy w' (some kb) := by
  intro d
  induction d with
  | zero =>
    intro xs a1 c1 B0 kb kc ks w hl hr hx hap hown hk hB
    have hb : ((xs.length : Int) == (N : Int)) = true := by simp; omega
    have hw : wrap64 (waysB N xs) = 1 := by rw [waysB_full (by omega)]; unfold wrap64; omega
    rw [hw]
    have Hown := Lib.hid hown
    have Hk := Lib.hid hk
    clear hl hr hx hap hown hk hw hSZ
    go_enter Tryd.func55, Tryd.ntmps55
    go_wp2
    go_ret
    exact ⟨ks, rfl, Hown.out, Hk.out, World.grownBy.refl _ _⟩
  | succ d ih =>
    intro xs a1 c1 B0 kb kc ks w hl hr hx hap hown hk hB
    have hb : ((xs.length : Int) == (N : Int)) = false := by simp; omega
    have hmx : xs.length ≤ 9223372036854775807 := by omega
    have h6 : xs.length ≤ 6 := by omega
    have hrise := hr.rise (by omega)
    have hm16 : mask xs < SZ := by rw [hSZ]; exact mask_lt hr.2
    have hm := trMask_any a1 c1 xs w (by omega) hrise.2 hx
    have hSb : SZ ≤ 64 := by rw [hSZ]; exact Nat.pow_le_pow_right (n := 2) (by omega) hN
    have HSZ := Lib.hid hSZ
    clear hSZ
    have hkl := hown.len
    have hc := hown.cellAt (mask xs) (by omega)
    have Hl := Lib.hid hl
    have Hr := Lib.hid hr
    have Hx := Lib.hid hx
    have Hap := Lib.hid hap
    have Hown := Lib.hid hown
    have Hk := Lib.hid hk
    have Hih := Lib.hid ih
    have Hkl := Lib.hid hkl
    have hlb : xs.length ≤ 6 := h6
    clear hl hr hx hap hown hk ih hkl hrise
    obtain ⟨m, hmm⟩ : ∃ m, m = mask xs := ⟨_, rfl⟩
    rw [← hmm] at hm hc hm16
    have Hm := Lib.hid hm
    have Hmm := Lib.hid hmm
    clear hm hmm
    by_cases hpos : 0 < gi ks m
    · have hw := Hk.out xs Hr.out (by rw [← Hmm.out]; exact hpos)
      rw [← Hmm.out] at hw
      obtain ⟨v, hv⟩ : ∃ v, v = gi ks m := ⟨_, rfl⟩
      rw [← hv] at hc hpos hw
      rw [← hw]
      have hd : decide ((0 : Int) < v) = true := by simpa using hpos
      clear hw hv
      go_enter Tryd.func55, Tryd.ntmps55
      go_wp2_with fail
      refine Hm.out.mono ?_
      rintro e w2 ⟨rfl, rfl⟩
      go_wp2
      go_ret
      exact ⟨ks, rfl, Hown.out, Hk.out, World.grownBy.refl _ _⟩
    · obtain ⟨v, hv⟩ : ∃ v, v = gi ks m := ⟨_, rfl⟩
      rw [← hv] at hc hpos
      have hd : decide ((0 : Int) < v) = false := by simpa using hpos
      clear hv
      have Ht := Lib.hid (trBehind_any N hN xs Hr.out h6 (xs.length + 1) [] a1 none c1 0 w (by simp) (by simp) (fun x hx => by cases hx) (fun _ => rfl) Hx.out (IntsAt.nil _ _))
      have Ha := Lib.hid (show bhRes N xs [] = behind N xs by simp [bhRes, behind, lst_nil])
      go_enter Tryd.func55, Tryd.ntmps55
      go_wp2_with fail
      refine Hm.out.mono ?_
      rintro e w2 ⟨rfl, rfl⟩
      go_wp2_with fail
      refine Ht.out.mono ?_
      rintro e w1 ⟨v1, rfl, hv, hb1⟩
      rw [Ha.out] at hv
      obtain ⟨A, hA⟩ : ∃ A, A = behind N xs := ⟨_, rfl⟩
      rw [← hA] at hv
      obtain ⟨ra, rc, rfl, _, _, hmat⟩ := hv.read
      have hal : A.length ≤ 1048576 := by
        rw [hA]
        exact behind_len hN Hr.out h6
      have Hv := Lib.hid hv
      have Hmat := Lib.hid hmat
      have HA := Lib.hid hA
      have Hb1 := Lib.hid hb1
      have hown1 := Hown.out.below hb1
      have Hown1 := Lib.hid hown1
      have hkbl : kb < w.heap.size := (Hown.out.lt kb rfl).2
      have hamx : A.length ≤ 9223372036854775807 := by omega
      clear hv hmat hA hb1 hown1
      go_wp2
      go_loopw [8, 27] (fun s i wr => ∃ (k : Nat) (ks' : List Int), k ≤ A.length ∧ i = .int .i64 k ∧ s = .int .i64 (wrap64 (sumTakeB N A k)) ∧ OwnI wr B0 (.slice (some ⟨kb, 0, none⟩) SZ kc) ks' ∧ KnowsW N ks' ∧ w1.grownBy wr (some kb))
        (fun _ i _ => A.length - (intOf i).toNat)
      case atStart => exact ⟨0, ks, Nat.zero_le _, rfl, by simp [sumTakeB, sumL, wrap64], Hown1.out, Hk.out, World.grownBy.refl _ _⟩
      case round =>
        obtain ⟨k, ks', hk, rfl, rfl, hownr, hkr, hg⟩ := hrel
        by_cases hlt : k < A.length
        · obtain ⟨us, hp⟩ := Hv.out
          obtain ⟨ao', c', hsl, _, _, hcells⟩ := ownsRow_read hp.top
          cases hsl
          obtain ⟨b1, o1, e1, hc1⟩ := hcells k hlt
          obtain ⟨r1, d1, hr1, _, _, hx1⟩ := (hp.rows k hlt).read
          rw [hr1] at hc1
          have hmem := behind_mem (n := N) (row := xs) (ys := gr A k) Hr.out (by have := gr_mem hlt; rw [HA.out] at this ⊢; exact this)
          have hcell : wr.cell? ⟨b1, o1 + k, none⟩ = some (.slice r1 (gr A k).length d1) := hg.cell hc1 (fun e => by
            have := (World.ownsRow.lt hp.top b1 (by rw [e1]; rfl)).1
            simp at e; omega)
          have hap' : ∀ b o, r1 = some ⟨b, o, none⟩ → b ≠ kb := fun b o e => by
            have := ((hp.rows k hlt).lt b (by rw [hr1, e]; rfl)).1
            omega
          have hxr : IntsAt wr r1 (gr A k) := fun i hi => by
            obtain ⟨b, o, e, hcc⟩ := hx1 i hi
            exact ⟨b, o, e, hg.cell hcc (fun e2 => hap' b o e (by simpa using e2))⟩
          have hrec := Hih.out (gr A k) r1 d1 B0 kb kc ks' wr (by have := hmem.2; have := Hl.out; omega) hmem.1 hxr hap' hownr hkr hB
          have Hs := Lib.hid (sumTakeB_succ (N := N) hlt)
          obtain ⟨rl, hrl⟩ : ∃ rl, rl = (gr A k).length := ⟨_, rfl⟩
          obtain ⟨y, hy⟩ : ∃ y, y = wrap64 (waysB N (gr A k)) := ⟨_, rfl⟩
          obtain ⟨x, hx⟩ : ∃ x, x = wrap64 (sumTakeB N A k) := ⟨_, rfl⟩
          rw [← hrl] at hcell hrec
          rw [← hy] at hrec
          rw [← hx]
          have Hrec := Lib.hid hrec
          have Hxy := Lib.hid (show wrap64 (x + y) = wrap64 (sumTakeB N A (k + 1)) by rw [hx, hy, wrap_add, Hs.out])
          have Hg := Lib.hid hg
          subst e1
          clear hp hcells hc1 hr1 hx1 hmem hap' hxr hrec hownr hkr hg hrl hy hx
          go_wp2_with fail
          refine Hrec.out.mono ?_
          rintro e w3 ⟨ks2, rfl, ho2, hk2, hg2⟩
          have Ho2 := Lib.hid ho2
          have Hk2 := Lib.hid hk2
          have Hg2 := Lib.hid (Hg.out.trans hg2)
          clear ho2 hk2 hg2
          go_wp2
          go_roundw
          case rel => exact ⟨k + 1, ks2, by omega, by go_num, by rw [Hxy.out], Ho2.out, Hk2.out, Hg2.out⟩
          case measure => simp [intOf]; omega
        · obtain rfl : k = A.length := by omega
          have hsum : sumTakeB N A A.length = waysB N xs := by
            unfold sumTakeB
            rw [List.take_length, HA.out, waysB_more Hr.out (by have := Hl.out; omega)]
          have hxw : IntsAt wr a1 xs := fun i hi => by
            obtain ⟨b, o, e, hcc⟩ := Hx.out.below Hb1.out i hi
            exact ⟨b, o, e, hg.cell hcc (fun e2 => Hap.out b o e (by simpa using e2))⟩
          have hm2 := trMask_any a1 c1 xs wr (by omega) (Hr.out.rise (by omega)).2 hxw
          rw [← Hmm.out] at hm2
          rw [hsum]
          have hlr := hownr.len
          have hcr := hownr.cellAt m hm16
          have hfr := hownr.frozenAt m
          have hst := hownr.store m (wrap64 (waysB N xs))
          have hks := hkr.set (by rw [hlr, HSZ.out]) Hr.out
          rw [← Hmm.out] at hks
          have hgs : w.grownBy (wr.setCell ⟨kb, m, none⟩ (.int .i64 (wrap64 (waysB N xs)))) (some kb) := by
            have h1 : w.grownBy wr (some kb) := ((grown_of_below' Hb1.out).but (some kb)).trans hg
            exact ⟨h1.os, h1.tape, h1.output, by simpa [World.setCell] using h1.size, fun b hb hne => (Below.heap_setCell _ _ _ _ (fun e => hne (by rw [e]))).trans (h1.block b hb hne)⟩
          obtain ⟨y, hy⟩ : ∃ y, y = wrap64 (waysB N xs) := ⟨_, rfl⟩
          rw [← hy] at hst hks hgs ⊢
          have Hy := Lib.hid hy
          have Hm2 := Lib.hid hm2
          have Hst := Lib.hid hst
          have Hks := Lib.hid hks
          have Hgs := Lib.hid hgs
          clear hsum hxw hm2 hst hks hgs hy hlr hownr hkr hg
          go_wp2_with fail
          refine Hm2.out.mono ?_
          rintro e w2 ⟨rfl, rfl⟩
          go_wp2
          go_ret
          exact ⟨_, by rw [← Hy.out]; rfl, Hst.out, Hks.out, Hgs.out⟩

end Go.Proofs.YtmkldodkpijfjaaDoor

namespace Go.Proofs.YtmkldodkpijfjaaDoor
open Go.RowKit

/-- the answer of a function that hands back a list of numbers and whether there is one -/
def LRes (p : Prop) (r : List Int) (w : World) (B : Nat) (e : Ending) : Prop :=
  ∃ v b r', e = .returned (.tuple #[v, .bool b]) ∧ OwnI w B v r' ∧ ((p ∧ b = true ∧ r' = r) ∨ (¬p ∧ b = false ∧ r' = []))
theorem LRes.yes {p : Prop} {r : List Int} {w : World} {B : Nat} {v : Value} (h : p) (ho : OwnI w B v r) : LRes p r w B (.returned (.tuple #[v, .bool true])) := ⟨v, true, r, rfl, ho, .inl ⟨h, rfl, rfl⟩⟩
theorem LRes.no {p : Prop} {r : List Int} {w : World} {B : Nat} (h : ¬p) : LRes p r w B (.returned (.tuple #[.slice none 0 0, .bool false])) := ⟨_, false, [], rfl, OwnI.nil _ _, .inr ⟨h, rfl, rfl⟩⟩

theorem lres_same {p : Prop} {r ra rb : List Int} {a b : Bool} (h : (p ∧ a = true ∧ ra = r) ∨ (¬p ∧ a = false ∧ ra = [])) (k : (p ∧ b = true ∧ rb = r) ∨ (¬p ∧ b = false ∧ rb = [])) : b = a ∧ rb = ra := by
  rcases k with ⟨h1, h2, h3⟩ | ⟨h1, h2, h3⟩ <;> rcases h with ⟨k1, k2, k3⟩ | ⟨k1, k2, k3⟩
  · exact ⟨h2.trans k2.symm, h3.trans k3.symm⟩
  · exact absurd h1 k1
  · exact absurd k1 h1
  · exact ⟨h2.trans k2.symm, h3.trans k3.symm⟩
end Go.Proofs.YtmkldodkpijfjaaDoor

namespace Go.Proofs.YtmkldodkpijfjaaDoor
open Go.RowKit

theorem above_pos {xs ys : List Int} (hr : Rise xs) (hy : ys ∈ above xs) : 1 ≤ ys.length := by
  have h := (above_mem hr hy).2
  by_cases h2 : xs.length < 2
  · rw [above_one h2] at hy; cases hy
  · omega

theorem topSc_small : SmallSc topSc := by
  intro xs ys hr _ hy
  unfold topSc
  split
  · omega
  · exact (above_mem hr hy).1.2 _ (gi_mem (above_pos hr hy))
theorem top_lim {n : Nat} (h6 : n ≤ 6) : ∀ p ∈ reach topSc (iota n) (n - 1), p.2 ≤ ((n - 1 : Nat) : Int) := by
  have key : ∀ j, ∀ p ∈ reach topSc (iota n) j, (∀ x ∈ p.1, x < (n : Int)) ∧ Rise p.1 ∧ (p.2 = 0 ∨ (p.1.length ≤ 1 ∧ p.2 ≤ ((n - 1 : Nat) : Int))) := by
    intro j
    induction j with
    | zero =>
      intro p hp
      simp [reach] at hp
      subst hp
      exact ⟨fun x hx => (mem_iota.1 hx).2, ⟨up_iota n, fun x hx => by have := mem_iota.1 hx; omega⟩, .inl rfl⟩
    | succ j ih =>
      intro p hp
      rw [reach_succ] at hp
      obtain ⟨q, hq, hm⟩ := List.mem_flatMap.1 hp
      obtain ⟨ys, hy, rfl⟩ := List.mem_map.1 hm
      obtain ⟨h1, h2, h3⟩ := ih q hq
      have hlt : ∀ x ∈ ys, x < (n : Int) := fun x hx => by
        unfold above at hy
        split at hy
        · cases hy
        · obtain ⟨_, _, h5, _⟩ := ab_mem hy
          obtain ⟨a, ha, hle⟩ := h5 x hx
          have := h1 a ha
          omega
      have hry := (above_mem h2 hy).1
      have hql : 2 ≤ q.1.length := by have := above_pos h2 hy; have := (above_mem h2 hy).2; omega
      have hq0 : q.2 = 0 := by rcases h3 with h | h <;> omega
      refine ⟨hlt, hry, ?_⟩
      simp only [hq0, Int.zero_add]
      unfold topSc
      split
      · exact .inl rfl
      · refine .inr ⟨by omega, ?_⟩
        have := hlt _ (gi_mem (above_pos h2 hy))
        omega
  intro p hp
  rcases (key _ p hp).2.2 with h | h
  · omega
  · exact h.2

def inN (n : Int) : Prop := 1 ≤ n ∧ n ≤ 6
def firstW (n : Nat) : List Int := (firstB n).map wrap64
theorem scoreL_first {n : Nat} (h1 : 1 ≤ n) (h6 : n ≤ 6) : scoreL topSc n (n - 1 + 1) = firstW n := by
  unfold firstW
  rw [← first_same h1 h6]
  unfold scoreL firstA
  rw [List.map_map, show n - 1 + 1 = n from by omega]
  rfl

end Go.Proofs.YtmkldodkpijfjaaDoor

namespace Go.Proofs.YtmkldodkpijfjaaDoor
open Go.RowKit

end Go.Proofs.YtmkldodkpijfjaaDoor

namespace Go.Proofs.YtmkldodkpijfjaaDoor
open Go.RowKit

def eqAt (row above : List Int) (i : Nat) : Int := if gi above i = gi row i then 1 else 0
def eqn (row above : List Int) (k : Nat) : Int := sumF (eqAt row above) k
theorem eqAt_01 (row above : List Int) (i : Nat) : 0 ≤ eqAt row above i ∧ eqAt row above i ≤ 1 := by unfold eqAt; split <;> omega
theorem eqn_bd (row above : List Int) : ∀ k, 0 ≤ eqn row above k ∧ eqn row above k ≤ k
  | 0 => by simp [eqn, sumF]
  | k + 1 => by
    have h1 := eqn_bd row above k
    have h2 := eqAt_01 row above k
    have e : eqn row above (k + 1) = eqn row above k + eqAt row above k := rfl
    omega

set_option maxRecDepth 100000 in
set_option maxHeartbeats 400000 in
theorem equalNumbers_any (a1 a2 : Option Addr) (c1 c2 : Nat) (row above : List Int) (w : World) (hn : row.length ≤ 1048576) (hl : above.length ≤ row.length) (h1 : IntsAt w a1 row) (h2 : IntsAt w a2 above) :
    Calls Tryd.prog 104 #[.slice a1 row.length c1, .slice a2 above.length c2] w fun e w' => e = .returned (.int .i64 (eqn row above above.length)) ∧ w = w' := by
  have hmx : row.length ≤ 9223372036854775807 := by omega
  have hmx2 : above.length ≤ 9223372036854775807 := by omega
  have H1 := Lib.hid h1
  have H2 := Lib.hid h2
  clear h1 h2
  go_enter Tryd.func104, Tryd.ntmps104
  go_wp2
  go_loop [5, 10] (fun s i => ∃ k : Nat, k ≤ above.length ∧ i = .int .i64 k ∧ s = .int .i64 (eqn row above k)) (fun _ i => above.length - (intOf i).toNat)
  case atStart => exact ⟨0, Nat.zero_le _, rfl, rfl⟩
  case round =>
    obtain ⟨k, hk, rfl, rfl⟩ := hrel
    have hbd := eqn_bd row above k
    by_cases hlt : k < above.length
    · obtain ⟨b, o, rfl, hc⟩ := H2.out k hlt
      obtain ⟨b', o', rfl, hc1⟩ := H1.out k (by omega)
      have E1 := Lib.hid (show eqn row above (k + 1) = eqn row above k + eqAt row above k from rfl)
      by_cases e : gi above k = gi row k
      · have E2 := Lib.hid (show eqAt row above k = 1 from if_pos e)
        obtain ⟨x, hxv⟩ : ∃ x, x = gi row k := ⟨_, rfl⟩
        rw [e] at hc
        rw [← hxv] at hc hc1
        obtain ⟨s, hsv⟩ : ∃ s, s = eqn row above k := ⟨_, rfl⟩
        rw [← hsv] at hbd ⊢
        have Hs := Lib.hid hsv
        have hb : (x == x) = true := by simp
        clear hxv e hsv
        go_wp2
        go_round
        case rel => exact ⟨k + 1, by omega, by go_num, by rw [E1.out, E2.out, ← Hs.out]⟩
        case measure => simp [intOf]; omega
      · have E2 := Lib.hid (show eqAt row above k = 0 from if_neg e)
        have hb : (gi above k == gi row k) = false := by simpa using e
        obtain ⟨s, hsv⟩ : ∃ s, s = eqn row above k := ⟨_, rfl⟩
        rw [← hsv] at hbd ⊢
        have Hs := Lib.hid hsv
        clear e hsv
        go_wp2
        go_round
        case rel => exact ⟨k + 1, by omega, by go_num, by rw [E1.out, E2.out, ← Hs.out, Int.add_zero]⟩
        case measure => simp [intOf]; omega
    · obtain rfl : k = above.length := by omega
      go_wp2
      go_ret
      exact ⟨rfl, rfl⟩

/-- .. in the first k rows but one -/
def desc (t : List (List Int)) (k : Nat) : Int := sumF (fun i => eqn (gr t (i + 1)) (gr t i) (gr t i).length) k
theorem desc_bd {t : List (List Int)} (h : isTri t) : ∀ k, k < t.length → 0 ≤ desc t k ∧ desc t k ≤ k * 6
  | 0, _ => by simp [desc, sumF]
  | k + 1, hk => by
    have h1 := desc_bd h k (by omega)
    have h2 := eqn_bd (gr t (k + 1)) (gr t k) (gr t k).length
    have h3 := (h.2.2 k (by omega)).1
    have h4 := h.2.1
    have e : desc t (k + 1) = desc t k + eqn (gr t (k + 1)) (gr t k) (gr t k).length := rfl
    omega

end Go.Proofs.YtmkldodkpijfjaaDoor

