/- Contracts: triangles counted by the model, with what is known kept. Condition: rows of numbers in 0..15. -/
import Derived.Test.YtcifcombbdblgaaDoorAbove
import Derived.Test.YtcifcombbdblgaaDoorPotG
import Derived.Test.YtcifcombbdblgaaDoorScal
namespace Go.Proofs.YtcifcombbdblgaaDoor
open Go.RowKit

theorem i64_or_nat (a b : Nat) (ha : a < 65536) (hb : b < 65536) : bits .or .i64 (a : Int) (b : Int) = ((a ||| b : Nat) : Int) := by
  have h1 : (BitVec.ofInt 64 (a : Int)).toNat = a := ofInt_u64 a (by omega)
  have h2 : (BitVec.ofInt 64 (b : Int)).toNat = b := ofInt_u64 b (by omega)
  have h3 : a ||| b < 65536 := Nat.or_lt_two_pow (n := 16) ha hb
  show IntKind.i64.wrap (((BitVec.ofInt 64 (a : Int) ||| BitVec.ofInt 64 (b : Int)).toNat : Nat) : Int) = _
  rw [BitVec.toNat_or, h1, h2]
  exact i64_small (by omega) (by omega)

set_option maxHeartbeats 400000 in
theorem trMask_any (ao : Option Addr) (c : Nat) (xs : List Int) (w : World) (hn : xs.length ≤ 1048576) (hr : ∀ x ∈ xs, 0 ≤ x ∧ x ≤ 15) (hx : IntsAt w ao xs) :
    Calls Tryd.prog 89 #[.slice ao xs.length c] w fun e w' => e = .returned (.int .i64 (mask xs : Nat)) ∧ w = w' := by
  have hmx : xs.length ≤ 9223372036854775807 := by omega
  have Hx := Lib.hid hx
  have Hr := Lib.hid hr
  clear hx hr
  go_enter Tryd.func89, Tryd.ntmps89
  go_wp2
  go_loop [3, 8] (fun s i => ∃ k : Nat, k ≤ xs.length ∧ i = .int .i64 k ∧ s = .int .i64 (mask (xs.take k) : Nat)) (fun _ i => xs.length - (intOf i).toNat)
  case atStart => exact ⟨0, Nat.zero_le _, rfl, rfl⟩
  case round =>
    obtain ⟨k, hk, rfl, rfl⟩ := hrel
    by_cases hlt : k < xs.length
    · obtain ⟨b, o, rfl, hc⟩ := Hx.out k hlt
      have hb := Hr.out _ (gi_mem hlt)
      have h1 : mask (xs.take k) < 65536 := mask_lt (n := 16) (fun y hy => by have := Hr.out y (List.mem_of_mem_take hy); omega)
      have h2 : 2 ^ (gi xs k).toNat ≤ 2 ^ 15 := Nat.pow_le_pow_right (by omega) (by omega)
      have e0 : ((2 : Int) ^ (gi xs k).toNat) = ((2 ^ (gi xs k).toNat : Nat) : Int) := by simp
      have e1 : wrap64 ((2 : Int) ^ (gi xs k).toNat) = ((2 ^ (gi xs k).toNat : Nat) : Int) := by rw [e0]; generalize 2 ^ (gi xs k).toNat = q at h2; unfold wrap64; omega
      have e2 : bits .or .i64 ((mask (xs.take k) : Nat) : Int) ((2 ^ (gi xs k).toNat : Nat) : Int) = ((mask (xs.take (k + 1)) : Nat) : Int) := by
        rw [i64_or_nat _ _ (by omega) (by omega), take_succ_gi hlt, mask_snoc]
      have hb0 := hb.1
      have hb15 := hb.2
      obtain ⟨x, hxv⟩ : ∃ x, x = gi xs k := ⟨_, rfl⟩
      rw [← hxv] at hc e1 e2 hb0 hb15
      obtain ⟨p, hp⟩ : ∃ p : Int, p = ((2 ^ x.toNat : Nat) : Int) := ⟨_, rfl⟩
      obtain ⟨s, hs⟩ : ∃ s : Int, s = ((mask (xs.take k) : Nat) : Int) := ⟨_, rfl⟩
      obtain ⟨s', hs'⟩ : ∃ s : Int, s = ((mask (xs.take (k + 1)) : Nat) : Int) := ⟨_, rfl⟩
      rw [← hp] at e1 e2
      rw [← hs, ← hs'] at e2
      rw [← hs]
      have Hs' := Lib.hid hs'
      clear hs hxv h1 h2 hb hp hs' e0
      go_wp2
      go_round
      case rel => exact ⟨k + 1, by omega, by go_num, by rw [Hs'.out]⟩
      case measure => simp [intOf]; omega
    · obtain rfl : k = xs.length := by omega
      rw [List.take_length]
      go_wp2
      go_ret
      exact ⟨rfl, rfl⟩

theorem grown_of_below' {a w : World} (h : Below a.heap.size a w) : a.grownBy w none := ⟨h.os, h.tape, h.output, h.size, fun k hk _ => h.block k hk⟩
/-- what is known is right -/
def KnowsT (xs : List Int) : Prop := ∀ ys, Rise ys → 2 ≤ ys.length → ys.length ≤ 6 → gi xs (mask ys) > 0 → gi xs (mask ys) = wrap64 (ways ys)
theorem KnowsT.set {xs : List Int} (h : KnowsT xs) (hl : xs.length = 65536) {ys : List Int} (hy : Rise ys) : KnowsT (xs.set (mask ys) (wrap64 (ways ys))) := by
  intro zs hz h2 h6
  rw [gi_set (by rw [hl]; exact mask_lt16 hy)]
  by_cases e : mask zs = mask ys
  · have e2 : zs = ys := mask_inj hz.1 (fun x hx => (hz.2 x hx).1) hy.1 (fun x hx => (hy.2 x hx).1) e
    subst e2
    intro _
    rw [if_pos rfl]
  · rw [if_neg e]
    exact h zs hz h2 h6
theorem wrap_add (a b : Int) : wrap64 (wrap64 a + wrap64 b) = wrap64 (a + b) := by unfold wrap64; omega
theorem wrap_add_left (a b : Int) : wrap64 (wrap64 a + b) = wrap64 (a + b) := by unfold wrap64; omega

/-- the sum of the first k -/
def sumTake (L : List (List Int)) (k : Nat) : Int := sumL (L.take k) ways
theorem sumTake_succ {L : List (List Int)} {k : Nat} (h : k < L.length) : sumTake L (k + 1) = sumTake L k + ways (gr L k) := by
  unfold sumTake
  rw [List.take_succ_eq_append_getElem h, sumL_append, gr_lt h]
  simp [sumL]

set_option maxHeartbeats 1600000 in
theorem trCount_any : ∀ (n : Nat) (xs : List Int) (a1 : Option Addr) (c1 B0 kb kc : Nat) (ks : List Int) (w : World), xs.length = n + 1 → Rise xs → xs.length ≤ 6 → IntsAt w a1 xs → (∀ b o, a1 = some ⟨b, o, none⟩ → b ≠ kb) → OwnI w B0 (.slice (some ⟨kb, 0, none⟩) 65536 kc) ks → KnowsT ks → B0 ≤ kb →
    Calls Tryd.prog 56 #[.slice a1 xs.length c1, .slice (some ⟨kb, 0, none⟩) 65536 kc] w fun e w' => ∃ ks', e = .returned (.int .i64 (wrap64 (ways xs))) ∧ OwnI w' B0 (.slice (some ⟨kb, 0, none⟩) 65536 kc) ks' ∧ KnowsT ks' ∧ w.grownBy w' (some kb) := by
  intro n
  induction n with
  | zero =>
    intro xs a1 c1 B0 kb kc ks w hl hr h6 hx hap hown hk hB
    have hb : ((xs.length : Int) == 1) = true := by simp; omega
    have hw : wrap64 (ways xs) = 1 := by rw [ways_one (by omega)]; unfold wrap64; omega
    rw [hw]
    have Hown := Lib.hid hown
    have Hk := Lib.hid hk
    clear hl hr hx hap hown hk hw
    go_enter Tryd.func56, Tryd.ntmps56
    go_wp2
    go_ret
    exact ⟨ks, rfl, Hown.out, Hk.out, World.grownBy.refl _ _⟩
  | succ n ih =>
    intro xs a1 c1 B0 kb kc ks w hl hr h6 hx hap hown hk hB
    have hb : ((xs.length : Int) == 1) = false := by simp; omega
    have hmx : xs.length ≤ 9223372036854775807 := by omega
    have hm16 := mask_lt16 hr
    have hm := trMask_any a1 c1 xs w (by omega) hr.2 hx
    have hkl := hown.len
    have hc := hown.cellAt (mask xs) (by omega)
    have Hl := Lib.hid hl
    have Hr := Lib.hid hr
    have Hx := Lib.hid hx
    have Hap := Lib.hid hap
    have Hown := Lib.hid hown
    have Hk := Lib.hid hk
    have Hih := Lib.hid ih
    have Hkl := Lib.hid hkl
    have hlb : xs.length ≤ 6 := h6
    clear hl hr hx hap hown hk ih hkl
    obtain ⟨m, hmm⟩ : ∃ m, m = mask xs := ⟨_, rfl⟩
    rw [← hmm] at hm hc hm16
    have Hm := Lib.hid hm
    have Hmm := Lib.hid hmm
    clear hm hmm
    by_cases hpos : 0 < gi ks m
    · have hw := Hk.out xs Hr.out (by have := Hl.out; omega) h6 (by rw [← Hmm.out]; exact hpos)
      rw [← Hmm.out] at hw
      obtain ⟨v, hv⟩ : ∃ v, v = gi ks m := ⟨_, rfl⟩
      rw [← hv] at hc hpos hw
      rw [← hw]
      have hd : decide ((0 : Int) < v) = true := by simpa using hpos
      clear hw hv
      go_enter Tryd.func56, Tryd.ntmps56
      go_wp2_with fail
      refine Hm.out.mono ?_
      rintro e w2 ⟨rfl, rfl⟩
      go_wp2
      go_ret
      exact ⟨ks, rfl, Hown.out, Hk.out, World.grownBy.refl _ _⟩
    · obtain ⟨v, hv⟩ : ∃ v, v = gi ks m := ⟨_, rfl⟩
      rw [← hv] at hc hpos
      have hd : decide ((0 : Int) < v) = false := by simpa using hpos
      clear hv
      have Ht := Lib.hid (trAbove_any xs Hr.out h6 (xs.length - 1) [] a1 none c1 0 w (by simp; have := Hl.out; omega) (fun _ => rfl) Hx.out (IntsAt.nil _ _))
      have h3 : ¬ xs.length < 2 := by have := Hl.out; omega
      have Ha := Lib.hid (show (ab (xs.drop ([] : List Int).length) (lst [])).map (fun ys => [] ++ ys) = above xs by simp [above, h3, lst_nil])
      have H2 := Lib.hid h3
      clear h3
      go_enter Tryd.func56, Tryd.ntmps56
      go_wp2_with fail
      refine Hm.out.mono ?_
      rintro e w2 ⟨rfl, rfl⟩
      go_wp2_with fail
      refine Ht.out.mono ?_
      rintro e w1 ⟨v1, rfl, hv, hb1⟩
      rw [Ha.out] at hv
      obtain ⟨A, hA⟩ : ∃ A, A = above xs := ⟨_, rfl⟩
      rw [← hA] at hv
      obtain ⟨ra, rc, rfl, _, _, hmat⟩ := hv.read
      have hal : A.length ≤ 1048576 := by
        rw [hA]
        have h1 := above_len Hr.out
        have h2 : 16 ^ (xs.length - 1) ≤ 16 ^ 5 := Nat.pow_le_pow_right (by omega) (by omega)
        omega
      have Hv := Lib.hid hv
      have Hmat := Lib.hid hmat
      have HA := Lib.hid hA
      have Hb1 := Lib.hid hb1
      have hown1 := Hown.out.below hb1
      have Hown1 := Lib.hid hown1
      have hkbl : kb < w.heap.size := (Hown.out.lt kb rfl).2
      have hamx : A.length ≤ 9223372036854775807 := by omega
      clear hv hmat hA hb1 hown1
      go_wp2
      go_loopw [6, 23] (fun s i wr => ∃ (k : Nat) (ks' : List Int), k ≤ A.length ∧ i = .int .i64 k ∧ s = .int .i64 (wrap64 (sumTake A k)) ∧ OwnI wr B0 (.slice (some ⟨kb, 0, none⟩) 65536 kc) ks' ∧ KnowsT ks' ∧ w1.grownBy wr (some kb))
        (fun _ i _ => A.length - (intOf i).toNat)
      case atStart => exact ⟨0, ks, Nat.zero_le _, rfl, by simp [sumTake, sumL, wrap64], Hown1.out, Hk.out, World.grownBy.refl _ _⟩
      case round =>
        obtain ⟨k, ks', hk, rfl, rfl, hownr, hkr, hg⟩ := hrel
        by_cases hlt : k < A.length
        · obtain ⟨us, hp⟩ := Hv.out
          obtain ⟨ao', c', hsl, _, _, hcells⟩ := ownsRow_read hp.top
          cases hsl
          obtain ⟨b1, o1, e1, hc1⟩ := hcells k hlt
          obtain ⟨r1, d1, hr1, _, _, hx1⟩ := (hp.rows k hlt).read
          rw [hr1] at hc1
          have hmem := above_mem (xs := xs) (ys := gr A k) Hr.out (by have := gr_mem hlt; rw [HA.out] at this ⊢; exact this)
          have hcell : wr.cell? ⟨b1, o1 + k, none⟩ = some (.slice r1 (gr A k).length d1) := hg.cell hc1 (fun e => by
            have := (World.ownsRow.lt hp.top b1 (by rw [e1]; rfl)).1
            simp at e; omega)
          have hap' : ∀ b o, r1 = some ⟨b, o, none⟩ → b ≠ kb := fun b o e => by
            have := ((hp.rows k hlt).lt b (by rw [hr1, e]; rfl)).1
            omega
          have hxr : IntsAt wr r1 (gr A k) := fun i hi => by
            obtain ⟨b, o, e, hcc⟩ := hx1 i hi
            exact ⟨b, o, e, hg.cell hcc (fun e2 => hap' b o e (by simpa using e2))⟩
          have hrec := Hih.out (gr A k) r1 d1 B0 kb kc ks' wr (by have := hmem.2; have := Hl.out; omega) hmem.1 (by omega) hxr hap' hownr hkr hB
          have Hs := Lib.hid (sumTake_succ hlt)
          obtain ⟨rl, hrl⟩ : ∃ rl, rl = (gr A k).length := ⟨_, rfl⟩
          obtain ⟨y, hy⟩ : ∃ y, y = wrap64 (ways (gr A k)) := ⟨_, rfl⟩
          obtain ⟨x, hx⟩ : ∃ x, x = wrap64 (sumTake A k) := ⟨_, rfl⟩
          rw [← hrl] at hcell hrec
          rw [← hy] at hrec
          rw [← hx]
          have Hrec := Lib.hid hrec
          have Hxy := Lib.hid (show wrap64 (x + y) = wrap64 (sumTake A (k + 1)) by rw [hx, hy, wrap_add, Hs.out])
          have Hg := Lib.hid hg
          subst e1
          clear hp hcells hc1 hr1 hx1 hmem hap' hxr hrec hownr hkr hg hrl hy hx
          go_wp2_with fail
          refine Hrec.out.mono ?_
          rintro e w3 ⟨ks2, rfl, ho2, hk2, hg2⟩
          have Ho2 := Lib.hid ho2
          have Hk2 := Lib.hid hk2
          have Hg2 := Lib.hid (Hg.out.trans hg2)
          clear ho2 hk2 hg2
          go_wp2
          go_roundw
          case rel => exact ⟨k + 1, ks2, by omega, by go_num, by rw [Hxy.out], Ho2.out, Hk2.out, Hg2.out⟩
          case measure => simp [intOf]; omega
        · obtain rfl : k = A.length := by omega
          have hsum : sumTake A A.length = ways xs := by
            unfold sumTake
            rw [List.take_length, HA.out, ways_more Hr.out (by have := Hl.out; omega)]
          have hxw : IntsAt wr a1 xs := fun i hi => by
            obtain ⟨b, o, e, hcc⟩ := Hx.out.below Hb1.out i hi
            exact ⟨b, o, e, hg.cell hcc (fun e2 => Hap.out b o e (by simpa using e2))⟩
          have hm2 := trMask_any a1 c1 xs wr (by omega) Hr.out.2 hxw
          rw [← Hmm.out] at hm2
          rw [hsum]
          have hlr := hownr.len
          have hcr := hownr.cellAt m (by omega)
          have hfr := hownr.frozenAt m
          have hst := hownr.store m (wrap64 (ways xs))
          have hks := hkr.set hlr Hr.out
          rw [← Hmm.out] at hks
          have hgs : w.grownBy (wr.setCell ⟨kb, m, none⟩ (.int .i64 (wrap64 (ways xs)))) (some kb) := by
            have h1 : w.grownBy wr (some kb) := ((grown_of_below' Hb1.out).but (some kb)).trans hg
            exact ⟨h1.os, h1.tape, h1.output, by simpa [World.setCell] using h1.size, fun b hb hne => (Below.heap_setCell _ _ _ _ (fun e => hne (by rw [e]))).trans (h1.block b hb hne)⟩
          obtain ⟨y, hy⟩ : ∃ y, y = wrap64 (ways xs) := ⟨_, rfl⟩
          rw [← hy] at hst hks hgs ⊢
          have Hy := Lib.hid hy
          have Hm2 := Lib.hid hm2
          have Hst := Lib.hid hst
          have Hks := Lib.hid hks
          have Hgs := Lib.hid hgs
          clear hsum hxw hm2 hst hks hgs hy hlr hownr hkr hg
          go_wp2_with fail
          refine Hm2.out.mono ?_
          rintro e w2 ⟨rfl, rfl⟩
          go_wp2
          go_ret
          exact ⟨_, by rw [← Hy.out]; rfl, Hst.out, Hks.out, Hgs.out⟩

theorem gi_zero (n i : Nat) : gi (List.replicate n 0) i = 0 := by
  unfold gi
  rw [List.getD, List.getElem?_replicate]
  split <;> rfl
theorem knows_zero (n : Nat) : KnowsT (List.replicate n 0) := fun ys _ _ _ h => by rw [gi_zero] at h; omega

set_option maxHeartbeats 800000 in
theorem specCountUnder_any (ao : Option Addr) (c : Nat) (xs : List Int) (w : World) (hn : xs.length ≤ 1048576) (hx : IntsAt w ao xs) :
    Calls Tryd.prog 25 #[.slice ao xs.length c] w fun e w' => IRes (isRowP xs) (wrap64 (ways xs)) e ∧ Below w.heap.size w w' := by
  obtain ⟨i0, hi, hz0, hz1, hz2⟩ := info_parts Tryd.info_int
  have Hx := Lib.hid hx
  clear hx
  by_cases hg : isRowP xs
  · have hr := ((isRowP_iff _).1 hg).2.2
    have h6 := hg.2.1
    have h1 := hg.1
    have hbl : ∀ b o, ao = some ⟨b, o, none⟩ → b < w.heap.size := fun b o e => by
      obtain ⟨b', o', e', hc⟩ := Hx.out 0 (by omega)
      rw [e] at e'
      cases e'
      exact World.block_lt_of_cell? _ _ hc
    have Hbl := Lib.hid hbl
    have Hg := Lib.hid hg
    have Hr := Lib.hid hr
    clear hg hr hbl
    go_enter Tryd.func25, Tryd.ntmps25
    go_wp2_with fail
    refine (trRow_any ao c xs w hn Hx.out).mono ?_
    rintro e w2 ⟨ha, rfl⟩
    obtain rfl := ha.is Hg.out
    clear ha
    go_wp2_with (at_make; refine wpList_make_full _ rfl _ _ 29 rfl w.heap.size 3 i0 (.int .i64 0) 1 Tryd.underlying29 hi hz0 hz1 _ _ _ _ 65536 rfl rfl rfl rfl ?c1 ?c2 ?c3 ?_)
    case c1 => rw [hz2]; omega
    case c2 => unfold maxLen; omega
    case c3 => simp
    intro w1 hown hgr
    have hb1 : Below w.heap.size w w1 := (Below.refl _ _).grown hgr (Nat.le_refl _) (fun _ h => by cases h)
    have hown1 := OwnI.made hown
    have hkz := knows_zero 65536
    obtain ⟨ks, hks⟩ : ∃ ks, ks = List.replicate 65536 (0 : Int) := ⟨_, rfl⟩
    rw [← hks] at hown1 hkz
    have hcall := trCount_any (xs.length - 1) xs ao c w.heap.size w.heap.size 65536 ks w1 (by omega) Hr.out h6 (Hx.out.below hb1) (fun b o e => by have := Hbl.out b o e; omega) hown1 hkz (Nat.le_refl _)
    have Hcall := Lib.hid hcall
    have Hb1 := Lib.hid hb1
    clear hown hgr hb1 hown1 hkz hks hcall
    go_wp2_with fail
    refine Hcall.out.mono ?_
    rintro e w3 ⟨ks', rfl, _, _, hg3⟩
    have Hb3 := Lib.hid (Hb1.out.grown hg3 Hb1.out.size (fun k hk => by cases hk; exact Nat.le_refl _))
    clear hg3
    go_wp2
    go_ret2
    exact ⟨IRes.yes Hg.out, Hb3.out⟩
  · have Hg := Lib.hid hg
    clear hg
    go_enter Tryd.func25, Tryd.ntmps25
    go_wp2_with fail
    refine (trRow_any ao c xs w hn Hx.out).mono ?_
    rintro e w2 ⟨ha, rfl⟩
    obtain rfl := ha.isnt Hg.out
    clear ha
    go_wp2
    go_ret2
    exact ⟨IRes.no Hg.out, Below.refl _ _⟩
end Go.Proofs.YtcifcombbdblgaaDoor
