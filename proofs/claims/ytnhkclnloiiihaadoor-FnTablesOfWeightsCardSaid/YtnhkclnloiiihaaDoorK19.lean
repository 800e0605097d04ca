/- Parts of proofs: contracts and plain facts. Conditions: as each says. -/
import Derived.Test.YtnhkclnloiiihaaDoorK18
namespace Go.Proofs.YtnhkclnloiiihaaDoor
open Go.RowKit

theorem i64_or_nat (a b : Nat) (ha : a < 65536) (hb : b < 65536) : bits .or .i64 (a : Int) (b : Int) = ((a ||| b : Nat) : Int) := by
  have h1 : (BitVec.ofInt 64 (a : Int)).toNat = a := ofInt_u64 a (by omega)
  have h2 : (BitVec.ofInt 64 (b : Int)).toNat = b := ofInt_u64 b (by omega)
  have h3 : a ||| b < 65536 := Nat.or_lt_two_pow (n := 16) ha hb
  show IntKind.i64.wrap (((BitVec.ofInt 64 (a : Int) ||| BitVec.ofInt 64 (b : Int)).toNat : Nat) : Int) = _
  rw [BitVec.toNat_or, h1, h2]
  exact i64_small (by omega) (by omega)

set_option maxRecDepth 100000 in
set_option maxHeartbeats 400000 in
theorem trMask_any (ao : Option Addr) (c : Nat) (xs : List Int) (w : World) (hn : xs.length ≤ 1048576) (hr : ∀ x ∈ xs, 0 ≤ x ∧ x ≤ 15) (hx : IntsAt w ao xs) :
    Calls Tryd.prog 125 #[.slice ao xs.length c] w fun e w' => e = .returned (.int .i64 (mask xs : Nat)) ∧ w = w' := by
  have hmx : xs.length ≤ 9223372036854775807 := by omega
  have Hx := Lib.hid hx
  have Hr := Lib.hid hr
  clear hx hr
  go_enter Tryd.func125, Tryd.ntmps125
  go_wp2
  go_loop [3, 8] (fun s i => ∃ k : Nat, k ≤ xs.length ∧ i = .int .i64 k ∧ s = .int .i64 (mask (xs.take k) : Nat)) (fun _ i => xs.length - (intOf i).toNat)
  case atStart => exact ⟨0, Nat.zero_le _, rfl, rfl⟩
  case round =>
    obtain ⟨k, hk, rfl, rfl⟩ := hrel
    by_cases hlt : k < xs.length
    · obtain ⟨b, o, rfl, hc⟩ := Hx.out k hlt
      have hb := Hr.out _ (gi_mem hlt)
      have h1 : mask (xs.take k) < 65536 := mask_lt (n := 16) (fun y hy => by have := Hr.out y (List.mem_of_mem_take hy); omega)
      have h2 : 2 ^ (gi xs k).toNat ≤ 2 ^ 15 := Nat.pow_le_pow_right (by omega) (by omega)
      have e0 : ((2 : Int) ^ (gi xs k).toNat) = ((2 ^ (gi xs k).toNat : Nat) : Int) := by simp
      have e1 : wrap64 ((2 : Int) ^ (gi xs k).toNat) = ((2 ^ (gi xs k).toNat : Nat) : Int) := by rw [e0]; generalize 2 ^ (gi xs k).toNat = q at h2; unfold wrap64; omega
      have e2 : bits .or .i64 ((mask (xs.take k) : Nat) : Int) ((2 ^ (gi xs k).toNat : Nat) : Int) = ((mask (xs.take (k + 1)) : Nat) : Int) := by
        rw [i64_or_nat _ _ (by omega) (by omega), take_succ_gi hlt, mask_snoc]
      have hb0 := hb.1
      have hb15 := hb.2
      obtain ⟨x, hxv⟩ : ∃ x, x = gi xs k := ⟨_, rfl⟩
      rw [← hxv] at hc e1 e2 hb0 hb15
      obtain ⟨p, hp⟩ : ∃ p : Int, p = ((2 ^ x.toNat : Nat) : Int) := ⟨_, rfl⟩
      obtain ⟨s, hs⟩ : ∃ s : Int, s = ((mask (xs.take k) : Nat) : Int) := ⟨_, rfl⟩
      obtain ⟨s', hs'⟩ : ∃ s : Int, s = ((mask (xs.take (k + 1)) : Nat) : Int) := ⟨_, rfl⟩
      rw [← hp] at e1 e2
      rw [← hs, ← hs'] at e2
      rw [← hs]
      have Hs' := Lib.hid hs'
      clear hs hxv h1 h2 hb hp hs' e0
      go_wp2
      go_round
      case rel => exact ⟨k + 1, by omega, by go_num, by rw [Hs'.out]⟩
      case measure => simp [intOf]; omega
    · obtain rfl : k = xs.length := by omega
      rw [List.take_length]
      go_wp2
      go_ret
      exact ⟨rfl, rfl⟩

theorem grown_of_below' {a w : World} (h : Below a.heap.size a w) : a.grownBy w none := ⟨h.os, h.tape, h.output, h.size, fun k hk _ => h.block k hk⟩
/-- what is known is right -/
def KnowsT (xs : List Int) : Prop := ∀ ys, Rise ys → 2 ≤ ys.length → ys.length ≤ 6 → gi xs (mask ys) > 0 → gi xs (mask ys) = wrap64 (ways ys)
theorem KnowsT.set {xs : List Int} (h : KnowsT xs) (hl : xs.length = 65536) {ys : List Int} (hy : Rise ys) : KnowsT (xs.set (mask ys) (wrap64 (ways ys))) := by
  intro zs hz h2 h6
  rw [gi_set (by rw [hl]; exact mask_lt16 hy)]
  by_cases e : mask zs = mask ys
  · have e2 : zs = ys := mask_inj hz.1 (fun x hx => (hz.2 x hx).1) hy.1 (fun x hx => (hy.2 x hx).1) e
    subst e2
    intro _
    rw [if_pos rfl]
  · rw [if_neg e]
    exact h zs hz h2 h6
theorem wrap_add (a b : Int) : wrap64 (wrap64 a + wrap64 b) = wrap64 (a + b) := by unfold wrap64; omega
theorem wrap_add_left (a b : Int) : wrap64 (wrap64 a + b) = wrap64 (a + b) := by unfold wrap64; omega

/-- the sum of the first k -/
def sumTake (L : List (List Int)) (k : Nat) : Int := sumL (L.take k) ways
theorem sumTake_succ {L : List (List Int)} {k : Nat} (h : k < L.length) : sumTake L (k + 1) = sumTake L k + ways (gr L k) := by
  unfold sumTake
  rw [List.take_succ_eq_append_getElem h, sumL_append, gr_lt h]
  simp [sumL]

set_option maxRecDepth 100000 in
set_option maxHeartbeats 1600000 in
theorem trCount_any : ∀ (n : Nat) (xs : List Int) (a1 : Option Addr) (c1 B0 kb kc : Nat) (ks : List Int) (w : World), xs.length = n + 1 → Rise xs → xs.length ≤ 6 → IntsAt w a1 xs → (∀ b o, a1 = some ⟨b, o, none⟩ → b ≠ kb) → OwnI w B0 (.slice (some ⟨kb, 0, none⟩) 65536 kc) ks → KnowsT ks → B0 ≤ kb →
    Calls Tryd.prog 73 #[.slice a1 xs.length c1, .slice (some ⟨kb, 0, none⟩) 65536 kc] w fun e w' => ∃ ks', e = .returned (.int .i64 (wrap64 (ways xs))) ∧ OwnI w' B0 (.slice (some ⟨kb, 0, none⟩) 65536 kc) ks' ∧ KnowsT ks' ∧ w.grownBy w' (some kb) := by
  intro n
  induction n with
  | zero =>
    intro xs a1 c1 B0 kb kc ks w hl hr h6 hx hap hown hk hB
    have hb : ((xs.length : Int) == 1) = true := by simp; omega
    have hw : wrap64 (ways xs) = 1 := by rw [ways_one (by omega)]; unfold wrap64; omega
    rw [hw]
    have Hown := Lib.hid hown
    have Hk := Lib.hid hk
    clear hl hr hx hap hown hk hw
    go_enter Tryd.func73, Tryd.ntmps73
    go_wp2
    go_ret
    exact ⟨ks, rfl, Hown.out, Hk.out, World.grownBy.refl _ _⟩
  | succ n ih =>
    intro xs a1 c1 B0 kb kc ks w hl hr h6 hx hap hown hk hB
    have hb : ((xs.length : Int) == 1) = false := by simp; omega
    have hmx : xs.length ≤ 9223372036854775807 := by omega
    have hm16 := mask_lt16 hr
    have hm := trMask_any a1 c1 xs w (by omega) hr.2 hx
    have hkl := hown.len
    have hc := hown.cellAt (mask xs) (by omega)
    have Hl := Lib.hid hl
    have Hr := Lib.hid hr
    have Hx := Lib.hid hx
    have Hap := Lib.hid hap
    have Hown := Lib.hid hown
    have Hk := Lib.hid hk
    have Hih := Lib.hid ih
    have Hkl := Lib.hid hkl
    have hlb : xs.length ≤ 6 := h6
    clear hl hr hx hap hown hk ih hkl
    obtain ⟨m, hmm⟩ : ∃ m, m = mask xs := ⟨_, rfl⟩
    rw [← hmm] at hm hc hm16
    have Hm := Lib.hid hm
    have Hmm := Lib.hid hmm
    clear hm hmm
    by_cases hpos : 0 < gi ks m
    · have hw := Hk.out xs Hr.out (by have := Hl.out; omega) h6 (by rw [← Hmm.out]; exact hpos)
      rw [← Hmm.out] at hw
      obtain ⟨v, hv⟩ : ∃ v, v = gi ks m := ⟨_, rfl⟩
      rw [← hv] at hc hpos hw
      rw [← hw]
      have hd : decide ((0 : Int) < v) = true := by simpa using hpos
      clear hw hv
      go_enter Tryd.func73, Tryd.ntmps73
      go_wp2_with fail
      refine Hm.out.mono ?_
      rintro e w2 ⟨rfl, rfl⟩
      go_wp2
      go_ret
      exact ⟨ks, rfl, Hown.out, Hk.out, World.grownBy.refl _ _⟩
    · obtain ⟨v, hv⟩ : ∃ v, v = gi ks m := ⟨_, rfl⟩
      rw [← hv] at hc hpos
      have hd : decide ((0 : Int) < v) = false := by simpa using hpos
      clear hv
      have Ht := Lib.hid (trAbove_any xs Hr.out h6 (xs.length - 1) [] a1 none c1 0 w (by simp; have := Hl.out; omega) (fun _ => rfl) Hx.out (IntsAt.nil _ _))
      have h3 : ¬ xs.length < 2 := by have := Hl.out; omega
      have Ha := Lib.hid (show (ab (xs.drop ([] : List Int).length) (lst [])).map (fun ys => [] ++ ys) = above xs by simp [above, h3, lst_nil])
      have H2 := Lib.hid h3
      clear h3
      go_enter Tryd.func73, Tryd.ntmps73
      go_wp2_with fail
      refine Hm.out.mono ?_
      rintro e w2 ⟨rfl, rfl⟩
      go_wp2_with fail
      refine Ht.out.mono ?_
      rintro e w1 ⟨v1, rfl, hv, hb1⟩
      rw [Ha.out] at hv
      obtain ⟨A, hA⟩ : ∃ A, A = above xs := ⟨_, rfl⟩
      rw [← hA] at hv
      obtain ⟨ra, rc, rfl, _, _, hmat⟩ := hv.read
      have hal : A.length ≤ 1048576 := by
        rw [hA]
        have h1 := above_len Hr.out
        have h2 : 16 ^ (xs.length - 1) ≤ 16 ^ 5 := Nat.pow_le_pow_right (by omega) (by omega)
        omega
      have Hv := Lib.hid hv
      have Hmat := Lib.hid hmat
      have HA := Lib.hid hA
      have Hb1 := Lib.hid hb1
      have hown1 := Hown.out.below hb1
      have Hown1 := Lib.hid hown1
      have hkbl : kb < w.heap.size := (Hown.out.lt kb rfl).2
      have hamx : A.length ≤ 9223372036854775807 := by omega
      clear hv hmat hA hb1 hown1
      go_wp2
      go_loopw [6, 23] (fun s i wr => ∃ (k : Nat) (ks' : List Int), k ≤ A.length ∧ i = .int .i64 k ∧ s = .int .i64 (wrap64 (sumTake A k)) ∧ OwnI wr B0 (.slice (some ⟨kb, 0, none⟩) 65536 kc) ks' ∧ KnowsT ks' ∧ w1.grownBy wr (some kb))
        (fun _ i _ => A.length - (intOf i).toNat)
      case atStart => exact ⟨0, ks, Nat.zero_le _, rfl, by simp [sumTake, sumL, wrap64], Hown1.out, Hk.out, World.grownBy.refl _ _⟩
      case round =>
        obtain ⟨k, ks', hk, rfl, rfl, hownr, hkr, hg⟩ := hrel
        by_cases hlt : k < A.length
        · obtain ⟨us, hp⟩ := Hv.out
          obtain ⟨ao', c', hsl, _, _, hcells⟩ := ownsRow_read hp.top
          cases hsl
          obtain ⟨b1, o1, e1, hc1⟩ := hcells k hlt
          obtain ⟨r1, d1, hr1, _, _, hx1⟩ := (hp.rows k hlt).read
          rw [hr1] at hc1
          have hmem := above_mem (xs := xs) (ys := gr A k) Hr.out (by have := gr_mem hlt; rw [HA.out] at this ⊢; exact this)
          have hcell : wr.cell? ⟨b1, o1 + k, none⟩ = some (.slice r1 (gr A k).length d1) := hg.cell hc1 (fun e => by
            have := (World.ownsRow.lt hp.top b1 (by rw [e1]; rfl)).1
            simp at e; omega)
          have hap' : ∀ b o, r1 = some ⟨b, o, none⟩ → b ≠ kb := fun b o e => by
            have := ((hp.rows k hlt).lt b (by rw [hr1, e]; rfl)).1
            omega
          have hxr : IntsAt wr r1 (gr A k) := fun i hi => by
            obtain ⟨b, o, e, hcc⟩ := hx1 i hi
            exact ⟨b, o, e, hg.cell hcc (fun e2 => hap' b o e (by simpa using e2))⟩
          have hrec := Hih.out (gr A k) r1 d1 B0 kb kc ks' wr (by have := hmem.2; have := Hl.out; omega) hmem.1 (by omega) hxr hap' hownr hkr hB
          have Hs := Lib.hid (sumTake_succ hlt)
          obtain ⟨rl, hrl⟩ : ∃ rl, rl = (gr A k).length := ⟨_, rfl⟩
          obtain ⟨y, hy⟩ : ∃ y, y = wrap64 (ways (gr A k)) := ⟨_, rfl⟩
          obtain ⟨x, hx⟩ : ∃ x, x = wrap64 (sumTake A k) := ⟨_, rfl⟩
          rw [← hrl] at hcell hrec
          rw [← hy] at hrec
          rw [← hx]
          have Hrec := Lib.hid hrec
          have Hxy := Lib.hid (show wrap64 (x + y) = wrap64 (sumTake A (k + 1)) by rw [hx, hy, wrap_add, Hs.out])
          have Hg := Lib.hid hg
          subst e1
          clear hp hcells hc1 hr1 hx1 hmem hap' hxr hrec hownr hkr hg hrl hy hx
          go_wp2_with fail
          refine Hrec.out.mono ?_
          rintro e w3 ⟨ks2, rfl, ho2, hk2, hg2⟩
          have Ho2 := Lib.hid ho2
          have Hk2 := Lib.hid hk2
          have Hg2 := Lib.hid (Hg.out.trans hg2)
          clear ho2 hk2 hg2
          go_wp2
          go_roundw
          case rel => exact ⟨k + 1, ks2, by omega, by go_num, by rw [Hxy.out], Ho2.out, Hk2.out, Hg2.out⟩
          case measure => simp [intOf]; omega
        · obtain rfl : k = A.length := by omega
          have hsum : sumTake A A.length = ways xs := by
            unfold sumTake
            rw [List.take_length, HA.out, ways_more Hr.out (by have := Hl.out; omega)]
          have hxw : IntsAt wr a1 xs := fun i hi => by
            obtain ⟨b, o, e, hcc⟩ := Hx.out.below Hb1.out i hi
            exact ⟨b, o, e, hg.cell hcc (fun e2 => Hap.out b o e (by simpa using e2))⟩
          have hm2 := trMask_any a1 c1 xs wr (by omega) Hr.out.2 hxw
          rw [← Hmm.out] at hm2
          rw [hsum]
          have hlr := hownr.len
          have hcr := hownr.cellAt m (by omega)
          have hfr := hownr.frozenAt m
          have hst := hownr.store m (wrap64 (ways xs))
          have hks := hkr.set hlr Hr.out
          rw [← Hmm.out] at hks
          have hgs : w.grownBy (wr.setCell ⟨kb, m, none⟩ (.int .i64 (wrap64 (ways xs)))) (some kb) := by
            have h1 : w.grownBy wr (some kb) := ((grown_of_below' Hb1.out).but (some kb)).trans hg
            exact ⟨h1.os, h1.tape, h1.output, by simpa [World.setCell] using h1.size, fun b hb hne => (Below.heap_setCell _ _ _ _ (fun e => hne (by rw [e]))).trans (h1.block b hb hne)⟩
          obtain ⟨y, hy⟩ : ∃ y, y = wrap64 (ways xs) := ⟨_, rfl⟩
          rw [← hy] at hst hks hgs ⊢
          have Hy := Lib.hid hy
          have Hm2 := Lib.hid hm2
          have Hst := Lib.hid hst
          have Hks := Lib.hid hks
          have Hgs := Lib.hid hgs
          clear hsum hxw hm2 hst hks hgs hy hlr hownr hkr hg
          go_wp2_with fail
          refine Hm2.out.mono ?_
          rintro e w2 ⟨rfl, rfl⟩
          go_wp2
          go_ret
          exact ⟨_, by rw [← Hy.out]; rfl, Hst.out, Hks.out, Hgs.out⟩

theorem gi_zero (n i : Nat) : gi (List.replicate n 0) i = 0 := by
  unfold gi
  rw [List.getD, List.getElem?_replicate]
  split <;> rfl
theorem knows_zero (n : Nat) : KnowsT (List.replicate n 0) := fun ys _ _ _ h => by rw [gi_zero] at h; omega

set_option maxRecDepth 100000 in
set_option maxHeartbeats 800000 in
theorem specCountUnder_any (ao : Option Addr) (c : Nat) (xs : List Int) (w : World) (hn : xs.length ≤ 1048576) (hx : IntsAt w ao xs) :
    Calls Tryd.prog 22 #[.slice ao xs.length c] w fun e w' => IRes (isRowP xs) (wrap64 (ways xs)) e ∧ Below w.heap.size w w' := by
  obtain ⟨i0, hi, hz0, hz1, hz2⟩ := info_parts Tryd.info_int
  have Hx := Lib.hid hx
  clear hx
  by_cases hg : isRowP xs
  · have hr := ((isRowP_iff _).1 hg).2.2
    have h6 := hg.2.1
    have h1 := hg.1
    have hbl : ∀ b o, ao = some ⟨b, o, none⟩ → b < w.heap.size := fun b o e => by
      obtain ⟨b', o', e', hc⟩ := Hx.out 0 (by omega)
      rw [e] at e'
      cases e'
      exact World.block_lt_of_cell? _ _ hc
    have Hbl := Lib.hid hbl
    have Hg := Lib.hid hg
    have Hr := Lib.hid hr
    clear hg hr hbl
    go_enter Tryd.func22, Tryd.ntmps22
    go_wp2_with fail
    refine (trRow_any ao c xs w hn Hx.out).mono ?_
    rintro e w2 ⟨ha, rfl⟩
    obtain rfl := ha.is Hg.out
    clear ha
    go_wp2_with (at_make; refine wpList_make_full _ rfl _ _ 28 rfl w.heap.size 3 i0 (.int .i64 0) 1 Tryd.underlying28 hi hz0 hz1 _ _ _ _ 65536 rfl rfl rfl rfl ?c1 ?c2 ?c3 ?_)
    case c1 => rw [hz2]; omega
    case c2 => unfold maxLen; omega
    case c3 => simp
    intro w1 hown hgr
    have hb1 : Below w.heap.size w w1 := (Below.refl _ _).grown hgr (Nat.le_refl _) (fun _ h => by cases h)
    have hown1 := OwnI.made hown
    have hkz := knows_zero 65536
    obtain ⟨ks, hks⟩ : ∃ ks, ks = List.replicate 65536 (0 : Int) := ⟨_, rfl⟩
    rw [← hks] at hown1 hkz
    have hcall := trCount_any (xs.length - 1) xs ao c w.heap.size w.heap.size 65536 ks w1 (by omega) Hr.out h6 (Hx.out.below hb1) (fun b o e => by have := Hbl.out b o e; omega) hown1 hkz (Nat.le_refl _)
    have Hcall := Lib.hid hcall
    have Hb1 := Lib.hid hb1
    clear hown hgr hb1 hown1 hkz hks hcall
    go_wp2_with fail
    refine Hcall.out.mono ?_
    rintro e w3 ⟨ks', rfl, _, _, hg3⟩
    have Hb3 := Lib.hid (Hb1.out.grown hg3 Hb1.out.size (fun k hk => by cases hk; exact Nat.le_refl _))
    clear hg3
    go_wp2
    go_ret2
    exact ⟨IRes.yes Hg.out, Hb3.out⟩
  · have Hg := Lib.hid hg
    clear hg
    go_enter Tryd.func22, Tryd.ntmps22
    go_wp2_with fail
    refine (trRow_any ao c xs w hn Hx.out).mono ?_
    rintro e w2 ⟨ha, rfl⟩
    obtain rfl := ha.isnt Hg.out
    clear ha
    go_wp2
    go_ret2
    exact ⟨IRes.no Hg.out, Below.refl _ _⟩
end Go.Proofs.YtnhkclnloiiihaaDoor

namespace Go.Proofs.YtnhkclnloiiihaaDoor
open Go.RowKit
/-- how many climbs from all n columns have each of the first k scores -/
def scoreL (sc : List Int → List Int → Int) (n k : Nat) : List Int := (List.range k).map fun i : Nat => wrap64 (climbW sc (hits (i : Int)) (n - 1) (iota n) 0)
end Go.Proofs.YtnhkclnloiiihaaDoor

namespace Go.Proofs.YtnhkclnloiiihaaDoor
open Go.RowKit Go.Maps

end Go.Proofs.YtnhkclnloiiihaaDoor

namespace Go.Proofs.YtnhkclnloiiihaaDoor
open Go.RowKit

def bhLow (row fs : List Int) : Int := max (if fs.length = 0 then 0 else gi row (fs.length - 1)) (lst fs + 1)
def bhHigh (n : Nat) (row fs : List Int) : Int := if fs.length < row.length then gi row fs.length else (n : Int) - 1
/-- the rows that go on 'first' -/
def bhRes (n : Nat) (row fs : List Int) : List (List Int) := if fs.length = row.length + 1 then [fs] else (bh n (row.drop fs.length) (if fs.length = 0 then 0 else gi row (fs.length - 1)) (lst fs)).map fun ys => fs ++ ys
theorem bhNext_res {n : Nat} {row fs : List Int} {v : Int} (h : fs.length ≤ row.length) : bhNext n row fs v = bhRes n row (fs ++ [v]) := by
  unfold bhNext bhRes
  by_cases e : fs.length = row.length
  · rw [if_pos (by simp; omega), List.drop_of_length_le (by omega)]
  · rw [if_neg (by simp; omega), List.drop_eq_getElem_cons (by omega : fs.length < row.length)]
    simp only [List.length_append, List.length_cons, List.length_nil, lst_snoc]
    rw [if_neg (by omega), show fs.length + (0 + 1) - 1 = fs.length from by omega, show fs.length + (0 + 1) = fs.length + 1 from by omega, gi_lt (by omega : fs.length < row.length)]
theorem bhPart_end {n : Nat} {row fs : List Int} (h : fs.length ≤ row.length) : bhPart n row fs (bhLow row fs) (bhHigh n row fs + 1) = bhRes n row fs := by
  unfold bhPart bhRes bhLow bhHigh
  rw [if_neg (by omega : ¬ fs.length = row.length + 1)]
  by_cases e : fs.length = row.length
  · rw [List.drop_of_length_le (by omega), if_neg (by omega : ¬ fs.length < row.length)]
    simp only [bh, List.map_map]
    rw [show (n : Int) - 1 + 1 - 1 = n - 1 from by omega]
    rfl
  · rw [List.drop_eq_getElem_cons (by omega : fs.length < row.length), if_pos (by omega : fs.length < row.length), gi_lt (by omega : fs.length < row.length)]
    simp only [bh, List.map_flatMap, List.map_map, Function.comp_def, List.append_assoc, List.cons_append, List.nil_append]
    rw [show row[fs.length] + 1 - 1 = row[fs.length] from by omega]
theorem bhRes_len {n : Nat} (hn : n ≤ 6) {row fs : List Int} (hr : ColsN n row) (hl : row.length ≤ 6) : (bhRes n row fs).length ≤ 1048576 := by
  unfold bhRes
  split
  · simp
  · rw [List.length_map]
    have h1 := bh_len hn (row := row.drop fs.length) (fun x hx => hr.2 x (List.mem_of_mem_drop hx)) (L := if fs.length = 0 then 0 else gi row (fs.length - 1)) (p := lst fs) (by
      split
      · omega
      · by_cases hh : fs.length - 1 < row.length
        · exact (hr.2 _ (gi_mem hh)).1
        · simp [gi, List.getD, hh])
    have h2 : 6 ^ ((row.drop fs.length).length + 1) ≤ 6 ^ 7 := Nat.pow_le_pow_right (by omega) (by rw [List.length_drop]; omega)
    omega
theorem bhPart_len {n : Nat} (hn : n ≤ 6) {row fs : List Int} (hr : ColsN n row) (hl : row.length ≤ 6) (h : fs.length ≤ row.length) {v : Int} (hv : v ≤ bhHigh n row fs + 1) : (bhPart n row fs (bhLow row fs) v).length ≤ 1048576 := by
  have hx := bhRes_len hn (fs := fs) hr hl
  rw [← bhPart_end h] at hx
  clear hx
  have hlo : 0 ≤ bhLow row fs := by unfold bhLow; split <;> first | omega | (have := hr.2 _ (gi_mem (show fs.length - 1 < row.length by omega)); omega)
  have hhi : bhHigh n row fs ≤ 5 := by
    unfold bhHigh
    split
    · next h => have := hr.2 _ (gi_mem h); omega
    · omega
  have rl : (rng (bhLow row fs) (v - 1)).length ≤ 6 := by unfold rng; simp; omega
  unfold bhPart
  split
  · rw [List.length_map]; omega
  · next a r e =>
    have ha : a ∈ row := List.mem_of_mem_drop (by rw [e]; simp)
    refine Nat.le_trans (flatMap_le (k := 6 ^ 6) rl (fun x _ => ?_)) (by omega)
    rw [List.length_map]
    have hrl : r.length + 1 ≤ 6 := by have := congrArg List.length e; rw [List.length_drop] at this; simp at this; omega
    exact Nat.le_trans (bh_len hn (fun y hy => hr.2 y (List.mem_of_mem_drop (by rw [e]; simp [hy]))) (hr.2 a ha).1) (Nat.pow_le_pow_right (by omega) (by omega))
theorem bhPart_nil {n : Int} {row fs : List Int} {lo v : Int} (h : v ≤ lo) : bhPart n row fs lo v = [] := by
  unfold bhPart
  rw [rng_nil (by omega)]
  split <;> rfl

end Go.Proofs.YtnhkclnloiiihaaDoor

namespace Go.Proofs.YtnhkclnloiiihaaDoor
open Go.RowKit

/-- what is known is right -/
def KnowsW (n : Nat) (xs : List Int) : Prop := ∀ ys, ColsN n ys → gi xs (mask ys) > 0 → gi xs (mask ys) = wrap64 (waysB n ys)
theorem KnowsW.set {n : Nat} {xs : List Int} (h : KnowsW n xs) (hl : xs.length = 2 ^ n) {ys : List Int} (hy : ColsN n ys) : KnowsW n (xs.set (mask ys) (wrap64 (waysB n ys))) := by
  intro zs hz
  rw [gi_set (by rw [hl]; exact mask_lt hy.2)]
  by_cases e : mask zs = mask ys
  · have e2 : zs = ys := mask_inj hz.1 (fun x hx => (hz.2 x hx).1) hy.1 (fun x hx => (hy.2 x hx).1) e
    subst e2
    intro _
    rw [if_pos rfl]
  · rw [if_neg e]
    exact h zs hz
theorem knowsW_zero (n m : Nat) : KnowsW n (List.replicate m 0) := fun ys _ h => by rw [gi_zero] at h; omega
def sumTakeB (n : Nat) (L : List (List Int)) (k : Nat) : Int := sumL (L.take k) (waysB n)
theorem sumTakeB_succ {N : Nat} {L : List (List Int)} {k : Nat} (h : k < L.length) : sumTakeB N L (k + 1) = sumTakeB N L k + waysB N (gr L k) := by
  unfold sumTakeB
  rw [List.take_succ_eq_append_getElem h, sumL_append, gr_lt h]
  simp [sumL]

end Go.Proofs.YtnhkclnloiiihaaDoor

namespace Go.Proofs.YtnhkclnloiiihaaDoor
open Go.RowKit

theorem above_pos {xs ys : List Int} (hr : Rise xs) (hy : ys ∈ above xs) : 1 ≤ ys.length := by
  have h := (above_mem hr hy).2
  by_cases h2 : xs.length < 2
  · rw [above_one h2] at hy; cases hy
  · omega

theorem topSc_small : SmallSc topSc := by
  intro xs ys hr _ hy
  unfold topSc
  split
  · omega
  · exact (above_mem hr hy).1.2 _ (gi_mem (above_pos hr hy))
theorem top_lim {n : Nat} (h6 : n ≤ 6) : ∀ p ∈ reach topSc (iota n) (n - 1), p.2 ≤ ((n - 1 : Nat) : Int) := by
  have key : ∀ j, ∀ p ∈ reach topSc (iota n) j, (∀ x ∈ p.1, x < (n : Int)) ∧ Rise p.1 ∧ (p.2 = 0 ∨ (p.1.length ≤ 1 ∧ p.2 ≤ ((n - 1 : Nat) : Int))) := by
    intro j
    induction j with
    | zero =>
      intro p hp
      simp [reach] at hp
      subst hp
      exact ⟨fun x hx => (mem_iota.1 hx).2, ⟨up_iota n, fun x hx => by have := mem_iota.1 hx; omega⟩, .inl rfl⟩
    | succ j ih =>
      intro p hp
      rw [reach_succ] at hp
      obtain ⟨q, hq, hm⟩ := List.mem_flatMap.1 hp
      obtain ⟨ys, hy, rfl⟩ := List.mem_map.1 hm
      obtain ⟨h1, h2, h3⟩ := ih q hq
      have hlt : ∀ x ∈ ys, x < (n : Int) := fun x hx => by
        unfold above at hy
        split at hy
        · cases hy
        · obtain ⟨_, _, h5, _⟩ := ab_mem hy
          obtain ⟨a, ha, hle⟩ := h5 x hx
          have := h1 a ha
          omega
      have hry := (above_mem h2 hy).1
      have hql : 2 ≤ q.1.length := by have := above_pos h2 hy; have := (above_mem h2 hy).2; omega
      have hq0 : q.2 = 0 := by rcases h3 with h | h <;> omega
      refine ⟨hlt, hry, ?_⟩
      simp only [hq0, Int.zero_add]
      unfold topSc
      split
      · exact .inl rfl
      · refine .inr ⟨by omega, ?_⟩
        have := hlt _ (gi_mem (above_pos h2 hy))
        omega
  intro p hp
  rcases (key _ p hp).2.2 with h | h
  · omega
  · exact h.2

def inN (n : Int) : Prop := 1 ≤ n ∧ n ≤ 6
def firstW (n : Nat) : List Int := (firstB n).map wrap64
theorem scoreL_first {n : Nat} (h1 : 1 ≤ n) (h6 : n ≤ 6) : scoreL topSc n (n - 1 + 1) = firstW n := by
  unfold firstW
  rw [← first_same h1 h6]
  unfold scoreL firstA
  rw [List.map_map, show n - 1 + 1 = n from by omega]
  rfl

end Go.Proofs.YtnhkclnloiiihaaDoor

namespace Go.Proofs.YtnhkclnloiiihaaDoor
open Go.RowKit

def eqAt (row above : List Int) (i : Nat) : Int := if gi above i = gi row i then 1 else 0
def eqn (row above : List Int) (k : Nat) : Int := sumF (eqAt row above) k
theorem eqAt_01 (row above : List Int) (i : Nat) : 0 ≤ eqAt row above i ∧ eqAt row above i ≤ 1 := by unfold eqAt; split <;> omega
theorem eqn_bd (row above : List Int) : ∀ k, 0 ≤ eqn row above k ∧ eqn row above k ≤ k
  | 0 => by simp [eqn, sumF]
  | k + 1 => by
    have h1 := eqn_bd row above k
    have h2 := eqAt_01 row above k
    have e : eqn row above (k + 1) = eqn row above k + eqAt row above k := rfl
    omega

set_option maxRecDepth 100000 in
set_option maxHeartbeats 400000 in
theorem equalNumbers_any (a1 a2 : Option Addr) (c1 c2 : Nat) (row above : List Int) (w : World) (hn : row.length ≤ 1048576) (hl : above.length ≤ row.length) (h1 : IntsAt w a1 row) (h2 : IntsAt w a2 above) :
    Calls Tryd.prog 91 #[.slice a1 row.length c1, .slice a2 above.length c2] w fun e w' => e = .returned (.int .i64 (eqn row above above.length)) ∧ w = w' := by
  have hmx : row.length ≤ 9223372036854775807 := by omega
  have hmx2 : above.length ≤ 9223372036854775807 := by omega
  have H1 := Lib.hid h1
  have H2 := Lib.hid h2
  clear h1 h2
  go_enter Tryd.func91, Tryd.ntmps91
  go_wp2
  go_loop [5, 10] (fun s i => ∃ k : Nat, k ≤ above.length ∧ i = .int .i64 k ∧ s = .int .i64 (eqn row above k)) (fun _ i => above.length - (intOf i).toNat)
  case atStart => exact ⟨0, Nat.zero_le _, rfl, rfl⟩
  case round =>
    obtain ⟨k, hk, rfl, rfl⟩ := hrel
    have hbd := eqn_bd row above k
    by_cases hlt : k < above.length
    · obtain ⟨b, o, rfl, hc⟩ := H2.out k hlt
      obtain ⟨b', o', rfl, hc1⟩ := H1.out k (by omega)
      have E1 := Lib.hid (show eqn row above (k + 1) = eqn row above k + eqAt row above k from rfl)
      by_cases e : gi above k = gi row k
      · have E2 := Lib.hid (show eqAt row above k = 1 from if_pos e)
        obtain ⟨x, hxv⟩ : ∃ x, x = gi row k := ⟨_, rfl⟩
        rw [e] at hc
        rw [← hxv] at hc hc1
        obtain ⟨s, hsv⟩ : ∃ s, s = eqn row above k := ⟨_, rfl⟩
        rw [← hsv] at hbd ⊢
        have Hs := Lib.hid hsv
        have hb : (x == x) = true := by simp
        clear hxv e hsv
        go_wp2
        go_round
        case rel => exact ⟨k + 1, by omega, by go_num, by rw [E1.out, E2.out, ← Hs.out]⟩
        case measure => simp [intOf]; omega
      · have E2 := Lib.hid (show eqAt row above k = 0 from if_neg e)
        have hb : (gi above k == gi row k) = false := by simpa using e
        obtain ⟨s, hsv⟩ : ∃ s, s = eqn row above k := ⟨_, rfl⟩
        rw [← hsv] at hbd ⊢
        have Hs := Lib.hid hsv
        clear e hsv
        go_wp2
        go_round
        case rel => exact ⟨k + 1, by omega, by go_num, by rw [E1.out, E2.out, ← Hs.out, Int.add_zero]⟩
        case measure => simp [intOf]; omega
    · obtain rfl : k = above.length := by omega
      go_wp2
      go_ret
      exact ⟨rfl, rfl⟩

/-- .. in the first k rows but one -/
def desc (t : List (List Int)) (k : Nat) : Int := sumF (fun i => eqn (gr t (i + 1)) (gr t i) (gr t i).length) k
theorem desc_bd {t : List (List Int)} (h : isTri t) : ∀ k, k < t.length → 0 ≤ desc t k ∧ desc t k ≤ k * 6
  | 0, _ => by simp [desc, sumF]
  | k + 1, hk => by
    have h1 := desc_bd h k (by omega)
    have h2 := eqn_bd (gr t (k + 1)) (gr t k) (gr t k).length
    have h3 := (h.2.2 k (by omega)).1
    have h4 := h.2.1
    have e : desc t (k + 1) = desc t k + eqn (gr t (k + 1)) (gr t k) (gr t k).length := rfl
    omega

set_option maxRecDepth 100000 in
set_option maxHeartbeats 800000 in
theorem implDescendsOf_any (ao : Option Addr) (c : Nat) (m : List (List Int)) (w : World) (hs : Small m) (_ : WfM m) (hm : MatAt w ao m) :
    Calls Tryd.prog 40 #[.slice ao m.length c] w fun e w' => IRes (isTri m) (desc m (m.length - 1)) e ∧ Below w.heap.size w w' := by
  have hn := hs.1
  have hmx : m.length ≤ 9223372036854775807 := by omega
  have Hs := Lib.hid hs
  have Hm := Lib.hid hm
  clear hs hm
  by_cases hg : isTri m
  · have h0 := hg.1
    have Hg := Lib.hid hg
    clear hg
    go_enter Tryd.func40, Tryd.ntmps40
    go_wp2_with fail
    refine (implIsTriangle_any ao c m w Hs.out Hm.out).mono ?_
    rintro e w1 ⟨ha, rfl⟩
    obtain rfl := ha.is Hg.out
    clear ha
    go_wp2
    go_loopw [4, 5] (fun s i wr => ∃ k : Nat, k < m.length ∧ i = .int .i64 ((k + 1 : Nat) : Int) ∧ s = .int .i64 (desc m k) ∧ Q w wr) (fun _ i _ => m.length - (intOf i).toNat)
    case atStart => exact ⟨0, by omega, rfl, rfl, Q.refl _⟩
    case round =>
      obtain ⟨k, hk, rfl, rfl, hq⟩ := hrel
      have hbd := desc_bd Hg.out k hk
      have hm6 := Hg.out.2.1
      by_cases hlt : k + 1 < m.length
      · obtain ⟨b1, o1, r1, d1, e0, hc1, hx1, _, _⟩ := Hm.out.below (hq.below _) (k + 1) hlt
        obtain ⟨b2, o2, r2, d2, e0', hc2, hx2, _, _⟩ := Hm.out.below (hq.below _) k hk
        rw [e0] at e0'
        cases e0'
        subst e0
        have Hx1 := Lib.hid hx1
        have Hx2 := Lib.hid hx2
        have L1 := Lib.hid (Hg.out.2.2 (k + 1) hlt).1
        have L2 := Lib.hid (Hg.out.2.2 k hk).1
        have E1 := Lib.hid (show desc m (k + 1) = desc m k + eqn (gr m (k + 1)) (gr m k) (gr m k).length from rfl)
        have hbd2 := eqn_bd (gr m (k + 1)) (gr m k) (gr m k).length
        have hbd3 : eqn (gr m (k + 1)) (gr m k) (gr m k).length ≤ 6 := by have := L2.out; omega
        obtain ⟨s, hsv⟩ : ∃ s, s = desc m k := ⟨_, rfl⟩
        rw [← hsv] at hbd ⊢
        have Hsv := Lib.hid hsv
        have hk1 : ((k + 1 : Nat) : Int) - 1 = (k : Int) := by omega
        clear hx1 hx2 hsv
        have hcall : ∀ nq, Calls Tryd.prog 91 #[.slice r1 (gr m (k + 1)).length d1, .slice r2 (gr m k).length d2] (wr.drewN nq) fun e w' => e = .returned (.int .i64 (eqn (gr m (k + 1)) (gr m k) (gr m k).length)) ∧ w' = wr.drewN nq := fun nq =>
          (equalNumbers_any r1 r2 d1 d2 (gr m (k + 1)) (gr m k) (wr.drewN nq) (by have := L1.out; omega) (by have := L1.out; have := L2.out; omega) (Hx1.out.below ((Q.refl wr).drewN nq |>.below _)) (Hx2.out.below ((Q.refl wr).drewN nq |>.below _))).mono fun e w' h => ⟨h.1, h.2.symm⟩
        obtain ⟨y, hyv⟩ : ∃ y, y = eqn (gr m (k + 1)) (gr m k) (gr m k).length := ⟨_, rfl⟩
        rw [← hyv] at hbd2 hbd3 hcall
        have Hyv := Lib.hid hyv
        have HC := Lib.hid hcall
        clear hyv hcall
        go_wp2
        go_quiet ((go_at_call 91; exact Calls.quiet_of_same (HC.out _)))
        go_wp2
        go_roundw
        case rel => exact ⟨k + 1, by omega, by go_num, by rw [E1.out, ← Hsv.out, ← Hyv.out], hq.drewN _⟩
        case measure => simp [intOf]; omega
      · obtain rfl : k = m.length - 1 := by omega
        go_wp2
        go_ret2
        exact ⟨IRes.yes Hg.out, hq.below _⟩
  · have Hg := Lib.hid hg
    clear hg
    go_enter Tryd.func40, Tryd.ntmps40
    go_wp2_with fail
    refine (implIsTriangle_any ao c m w Hs.out Hm.out).mono ?_
    rintro e w1 ⟨ha, rfl⟩
    obtain rfl := ha.isnt Hg.out
    clear ha
    go_wp2
    go_ret2
    exact ⟨IRes.no Hg.out, Below.refl _ _⟩

set_option maxRecDepth 100000 in
set_option maxHeartbeats 800000 in
theorem specDescendsOf_any (ao : Option Addr) (c : Nat) (m : List (List Int)) (w : World) (hs : Small m) (hm : MatAt w ao m) :
    Calls Tryd.prog 41 #[.slice ao m.length c] w fun e w' => IRes (isTri m) (desc m (m.length - 1)) e ∧ Below w.heap.size w w' := by
  have hn := hs.1
  have hmx : m.length ≤ 9223372036854775807 := by omega
  have Hs := Lib.hid hs
  have Hm := Lib.hid hm
  clear hs hm
  by_cases hg : isTri m
  · have h0 := hg.1
    have Hg := Lib.hid hg
    clear hg
    go_enter Tryd.func41, Tryd.ntmps41
    go_wp2_with fail
    refine (trGood_any ao c m w Hs.out Hm.out).mono ?_
    rintro e w1 ⟨ha, rfl⟩
    obtain rfl := ha.is Hg.out
    clear ha
    go_wp2
    go_loop [4, 5] (fun s i => ∃ k : Nat, k < m.length ∧ i = .int .i64 ((k + 1 : Nat) : Int) ∧ s = .int .i64 (desc m k)) (fun _ i => m.length - (intOf i).toNat)
    case atStart => exact ⟨0, by omega, rfl, rfl⟩
    case round =>
      obtain ⟨k, hk, rfl, rfl⟩ := hrel
      have hbd := desc_bd Hg.out k hk
      have hm6 := Hg.out.2.1
      by_cases hlt : k + 1 < m.length
      · obtain ⟨b1, o1, r1, d1, e0, hc1, hx1, _, _⟩ := Hm.out (k + 1) hlt
        obtain ⟨b2, o2, r2, d2, e0', hc2, hx2, _, _⟩ := Hm.out k hk
        rw [e0] at e0'
        cases e0'
        subst e0
        have Hx1 := Lib.hid hx1
        have Hx2 := Lib.hid hx2
        have L1 := Lib.hid (Hg.out.2.2 (k + 1) hlt).1
        have L2 := Lib.hid (Hg.out.2.2 k hk).1
        have hr2 : (gr m k).length ≤ 6 := by have := L2.out; omega
        have E1 := Lib.hid (show desc m (k + 1) = desc m k + eqn (gr m (k + 1)) (gr m k) (gr m k).length from rfl)
        obtain ⟨s, hsv⟩ : ∃ s, s = desc m k := ⟨_, rfl⟩
        rw [← hsv] at hbd ⊢
        have Hsv := Lib.hid hsv
        have hk1 : ((k + 1 : Nat) : Int) - 1 = (k : Int) := by omega
        clear hx1 hx2 hsv
        go_wp2
        go_loop [4, 23] (fun s' i => ∃ t : Nat, t ≤ (gr m k).length ∧ i = .int .i64 t ∧ s' = .int .i64 (s + eqn (gr m (k + 1)) (gr m k) t)) (fun _ i => (gr m k).length - (intOf i).toNat)
        case atStart => exact ⟨0, Nat.zero_le _, rfl, by simp [eqn, sumF]⟩
        case round =>
          obtain ⟨t, ht, rfl, rfl⟩ := hrel
          have hbt := eqn_bd (gr m (k + 1)) (gr m k) t
          by_cases htl : t < (gr m k).length
          · obtain ⟨b, o, rfl, hc⟩ := Hx2.out t htl
            obtain ⟨b', o', rfl, hc'⟩ := Hx1.out t (by have := L1.out; have := L2.out; omega)
            have htl2 : t < (gr m (k + 1)).length := by have := L1.out; have := L2.out; omega
            have hr1 : (gr m (k + 1)).length ≤ 9223372036854775807 := by have := L1.out; omega
            have F1 := Lib.hid (show eqn (gr m (k + 1)) (gr m k) (t + 1) = eqn (gr m (k + 1)) (gr m k) t + eqAt (gr m (k + 1)) (gr m k) t from rfl)
            by_cases e : gi (gr m k) t = gi (gr m (k + 1)) t
            · have E2 := Lib.hid (show eqAt (gr m (k + 1)) (gr m k) t = 1 from if_pos e)
              obtain ⟨x, hxv⟩ : ∃ x, x = gi (gr m (k + 1)) t := ⟨_, rfl⟩
              rw [e] at hc
              rw [← hxv] at hc hc'
              obtain ⟨u, huv⟩ : ∃ u, u = eqn (gr m (k + 1)) (gr m k) t := ⟨_, rfl⟩
              rw [← huv] at hbt ⊢
              have Hu := Lib.hid huv
              have hb : (x == x) = true := by simp
              clear hxv e huv
              go_wp2
              go_round
              case rel => exact ⟨t + 1, by omega, by go_num, by rw [F1.out, E2.out, ← Hu.out, Int.add_assoc]⟩
              case measure => simp [intOf]; omega
            · have E2 := Lib.hid (show eqAt (gr m (k + 1)) (gr m k) t = 0 from if_neg e)
              have hb : (gi (gr m k) t == gi (gr m (k + 1)) t) = false := by simpa using e
              obtain ⟨u, huv⟩ : ∃ u, u = eqn (gr m (k + 1)) (gr m k) t := ⟨_, rfl⟩
              rw [← huv] at hbt ⊢
              have Hu := Lib.hid huv
              clear e huv
              go_wp2
              go_round
              case rel => exact ⟨t + 1, by omega, by go_num, by rw [F1.out, E2.out, ← Hu.out, Int.add_zero]⟩
              case measure => simp [intOf]; omega
          · obtain rfl : t = (gr m k).length := by omega
            obtain ⟨u, huv⟩ : ∃ u, u = eqn (gr m (k + 1)) (gr m k) (gr m k).length := ⟨_, rfl⟩
            rw [← huv] at hbt ⊢
            have Hu := Lib.hid huv
            clear huv
            go_wp2
            go_round
            case rel => exact ⟨k + 1, by omega, by go_num, by rw [E1.out, ← Hsv.out, ← Hu.out]⟩
            case measure => simp [intOf]; omega
      · obtain rfl : k = m.length - 1 := by omega
        go_wp2
        go_ret2
        exact ⟨IRes.yes Hg.out, Below.refl _ _⟩
  · have Hg := Lib.hid hg
    clear hg
    go_enter Tryd.func41, Tryd.ntmps41
    go_wp2_with fail
    refine (trGood_any ao c m w Hs.out Hm.out).mono ?_
    rintro e w1 ⟨ha, rfl⟩
    obtain rfl := ha.isnt Hg.out
    clear ha
    go_wp2
    go_ret2
    exact ⟨IRes.no Hg.out, Below.refl _ _⟩
end Go.Proofs.YtnhkclnloiiihaaDoor

