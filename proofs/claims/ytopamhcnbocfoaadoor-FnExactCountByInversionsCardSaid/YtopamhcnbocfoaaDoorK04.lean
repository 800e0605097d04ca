/- Parts of proofs: contracts and plain facts. Conditions: as each says. -/
import Derived.Test.YtopamhcnbocfoaaDoorK03
import Derived.Maps.RangeWalk
import Derived.Test.YtopamhcnbocfoaaDoorTie
import Derived.Test.YtopamhcnbocfoaaDoorCards
import Derived.Shelf.Vars
import Derived.Lay
import Derived.SevenTiedAt
import Derived.HandedShaped
import Derived.ProofKit
import Derived.LaidMore
import Derived.Stop.Joined
namespace Go.Proofs.YtopamhcnbocfoaaDoor
open Go.RowKit

/-- the sum of the first k numbers of a column -/
def colR (m : List (List Int)) (j : Nat) : Nat → Int
  | 0 => 0
  | k + 1 => colR m j k + gi (gr m k) j
theorem colR_tr {m : List (List Int)} {j : Nat} (hj : j < m.length) : ∀ k, k ≤ m.length → colR m j k = sumK (gr (tr m) j) k
  | 0, _ => rfl
  | k + 1, hk => by simp only [colR, sumK]; rw [colR_tr hj k (by omega), gi_tr hj (by omega)]
theorem colR_01 {m : List (List Int)} (h : good m) {j k : Nat} (hj : j < m.length) (hk : k ≤ m.length) : 0 ≤ colR m j k ∧ colR m j k ≤ 1 := by
  rw [colR_tr hj k hk]
  exact (h.2.2 j (by rw [tr_len]; exact hj)).1 k (by rw [tr_row hj]; exact hk)

/-- the numbers below n for which f holds -/
def colsF (n : Nat) (f : Nat → Bool) : List Int := ((List.range n).filter f).map fun j : Nat => (j : Int)
theorem mem_colsF {n : Nat} {f : Nat → Bool} {x : Int} : x ∈ colsF n f ↔ ∃ j : Nat, x = j ∧ j < n ∧ f j = true := by
  simp only [colsF, List.mem_map, List.mem_filter, List.mem_range]
  constructor
  · rintro ⟨j, ⟨h1, h2⟩, rfl⟩; exact ⟨j, rfl, h1, h2⟩
  · rintro ⟨j, rfl, h1, h2⟩; exact ⟨j, ⟨h1, h2⟩, rfl⟩
theorem colsF_succ (n : Nat) (f : Nat → Bool) : colsF (n + 1) f = colsF n f ++ (if f n then [(n : Int)] else []) := by
  simp only [colsF, List.range_succ, List.filter_append, List.map_append]
  cases h : f n <;> simp [h]
theorem colsF_up (n : Nat) (f : Nat → Bool) : Up (colsF n f) := by
  induction n with
  | zero => trivial
  | succ n ih =>
    rw [colsF_succ]
    refine up_join ih (by split <;> trivial) (fun x hx y hy => ?_)
    obtain ⟨j, rfl, hj, _⟩ := mem_colsF.1 hx
    split at hy
    · simp at hy; omega
    · cases hy
theorem colsF_len (n : Nat) (f : Nat → Bool) : (colsF n f).length ≤ n := by
  simp only [colsF, List.length_map]
  exact Nat.le_trans (List.length_filter_le _ _) (by simp)
theorem colsF_rise {n : Nat} (f : Nat → Bool) (h : n ≤ 16) : Rise (colsF n f) := ⟨colsF_up n f, fun x hx => by obtain ⟨j, rfl, hj, _⟩ := mem_colsF.1 hx; omega⟩
theorem colsF_congr {n : Nat} {f g : Nat → Bool} (h : ∀ j, j < n → f j = g j) : colsF n f = colsF n g := by
  unfold colsF
  congr 1
  exact List.filter_congr (fun j hj => h j (by simpa using hj))
theorem mask_cols (n : Nat) (f : Nat → Bool) (i : Nat) : (mask (colsF n f)).testBit i = (decide (i < n) && f i) := by
  rw [testBit_mask (fun x hx => by obtain ⟨j, rfl, _, _⟩ := mem_colsF.1 hx; omega)]
  rw [Bool.eq_iff_iff, decide_eq_true_eq, mem_colsF, Bool.and_eq_true, decide_eq_true_eq]
  constructor
  · rintro ⟨j, e, h1, h2⟩
    obtain rfl : i = j := by omega
    exact ⟨h1, h2⟩
  · rintro ⟨h1, h2⟩; exact ⟨i, rfl, h1, h2⟩
theorem mask_flip {n j : Nat} {f g : Nat → Bool} (hj : j < n) (h1 : g j = !f j) (h2 : ∀ i, i ≠ j → g i = f i) : mask (colsF n f) ^^^ 2 ^ j = mask (colsF n g) := by
  apply Nat.eq_of_testBit_eq
  intro i
  rw [Nat.testBit_xor, mask_cols, mask_cols, Nat.testBit_two_pow]
  by_cases e : j = i
  · subst e; simp [hj, h1]
  · rw [h2 i (fun h => e h.symm)]; simp [e]

/-- the columns whose sum is 1 behind k rows -/
def triRow (m : List (List Int)) (k : Nat) : List Int := colsF m.length fun j => decide (colR m j k = 1)
def triM (m : List (List Int)) : List (List Int) := (List.range m.length).map fun i => triRow m (i + 1)
theorem triM_len (m : List (List Int)) : (triM m).length = m.length := by simp [triM]
theorem gr_triM {m : List (List Int)} {i : Nat} (h : i < m.length) : gr (triM m) i = triRow m (i + 1) := by
  rw [gr_lt (by rw [triM_len]; exact h)]
  simp [triM]
theorem triM_small {m : List (List Int)} (h : m.length ≤ 6) : Small (triM m) := ⟨by rw [triM_len]; omega, fun i hi => by
  rw [triM_len] at hi
  rw [gr_triM hi]
  have := colsF_len m.length fun j => decide (colR m j (i + 1) = 1)
  unfold triRow
  omega⟩

/-- .. in the middle of row k -/
def triMid (m : List (List Int)) (k t : Nat) : Nat → Bool := fun j => decide (colR m j (if j < t then k + 1 else k) = 1)
theorem triMid_start (m : List (List Int)) (k : Nat) : colsF m.length (triMid m k 0) = triRow m k := colsF_congr fun j _ => by simp [triMid]
theorem triMid_end (m : List (List Int)) (k : Nat) : colsF m.length (triMid m k m.length) = triRow m (k + 1) := colsF_congr fun j hj => by simp [triMid, hj]
theorem triMid_same {m : List (List Int)} {k t : Nat} (h : gi (gr m k) t = 0) : colsF m.length (triMid m k (t + 1)) = colsF m.length (triMid m k t) := colsF_congr fun j _ => by
  unfold triMid
  by_cases e : j = t
  · subst e
    rw [if_pos (by omega), if_neg (by omega), colR, h, Int.add_zero]
  · have : (j < t + 1) = (j < t) := propext (by omega)
    simp only [this]
theorem triMid_flip {m : List (List Int)} (hg : good m) {k t : Nat} (hk : k < m.length) (ht : t < m.length) (h : gi (gr m k) t ≠ 0) : mask (colsF m.length (triMid m k t)) ^^^ 2 ^ t = mask (colsF m.length (triMid m k (t + 1))) := by
  refine mask_flip ht ?_ (fun i hi => ?_)
  · unfold triMid
    rw [if_pos (by omega), if_neg (by omega), colR]
    have h1 := colR_01 hg ht (show k ≤ m.length by omega)
    have h2 := colR_01 hg ht (show k + 1 ≤ m.length by omega)
    rw [colR] at h2
    by_cases e : colR m t k = 1
    · have : ¬ colR m t k + gi (gr m k) t = 1 := by omega
      simp [e]; omega
    · have : colR m t k + gi (gr m k) t = 1 := by omega
      simp [e, this]
  · unfold triMid
    have : (i < t + 1) = (i < t) := propext (by omega)
    simp only [this]

theorem xor_step (n t : Nat) (f : Nat → Bool) (hn : n ≤ 16) (ht : t ≤ 15) : bits .xor .u64 ((mask (colsF n f) : Nat) : Int) ((2 ^ t : Nat) : Int) = ((mask (colsF n f) ^^^ 2 ^ t : Nat) : Int) := by
  have := mask_lt16 (colsF_rise f hn)
  have h2 : 2 ^ t ≤ 2 ^ 15 := Nat.pow_le_pow_right (by omega) (by omega)
  rw [u64_xor_nat _ _ (by omega) (by omega)]

set_option maxRecDepth 100000 in
set_option maxHeartbeats 1600000 in
theorem triangleOf_any (ao : Option Addr) (c : Nat) (m : List (List Int)) (w : World) (hg : good m) (hm : MatAt w ao m) (hD : Dj w) :
    Calls Tryd.prog 25 #[.slice ao m.length c] w fun e w' => ∃ v, e = .returned v ∧ OwnM w' w.heap.size v (triM m) ∧ Below w.heap.size w w' := by
  obtain ⟨i0, hi, hz0, hz1, hz2⟩ := info_parts Tryd.info_ints
  have hn := hg.1.2.1
  have hmx : m.length ≤ 9223372036854775807 := by omega
  have Hg := Lib.hid hg
  have Hm := Lib.hid hm
  have HD := Lib.hid hD
  clear hg hm hD
  go_enter Tryd.func25, Tryd.ntmps25
  go_wp2_with (at_make; refine wpList_make_full _ rfl _ _ 22 rfl w.heap.size 29 i0 (.slice none 0 0) 1 Tryd.underlying22 hi hz0 hz1 _ _ _ _ m.length rfl rfl rfl rfl ?c1 ?c2 ?c3 ?_)
  case c1 => rw [hz2]; omega
  case c2 => unfold maxLen; omega
  case c3 => simp
  intro w1 hown hgr
  have hb1 : Below w.heap.size w w1 := (Below.refl _ _).grown hgr (Nat.le_refl _) (fun _ h => by cases h)
  have Hown1 := Lib.hid (OwnP.made (m := triM m) hown)
  have Hb1 := Lib.hid hb1
  clear hown hgr hb1
  have H00 := Lib.hid (show mask (triRow m 0) = 0 by
    have e : triRow m 0 = [] := by
      unfold triRow
      rw [colsF_congr (g := fun _ => false) (fun j _ => by simp [colR])]
      simp [colsF]
    rw [e]; rfl)
  go_wp2
  go_loopw [4, 14] (fun s i wr => ∃ (k : Nat) (vs : List Value), k ≤ m.length ∧ i = .int .i64 k ∧ s = .int .u64 (mask (triRow m k) : Nat) ∧ OwnP wr w.heap.size (.slice (some ⟨w.heap.size, 0, none⟩) m.length m.length) m.length (triM m) k vs ∧ Below w.heap.size w wr)
    (fun _ i _ => m.length - (intOf i).toNat)
  case atStart => exact ⟨0, _, Nat.zero_le _, rfl, by rw [H00.out]; rfl, Hown1.out, Hb1.out⟩
  case round =>
    obtain ⟨k, vs, hk, rfl, rfl, hown, hbr⟩ := hrel
    clear Hown1 Hb1
    by_cases hlt : k < m.length
    · obtain ⟨b1, o1, r1, d1, rfl, hc1, hx1, _, _⟩ := Hm.out.below hbr k hlt
      have hrl : (gr m k).length = m.length := Hg.out.1.2.2 k hlt
      rw [hrl] at hc1
      have Hrow := Lib.hid hx1
      have Hrl := Lib.hid hrl
      have Hown := Lib.hid hown
      have Hbr := Lib.hid hbr
      have HB := Lib.hid hbr.size
      have Hs := Lib.hid (triMid_start m k)
      have He := Lib.hid (triMid_end m k)
      clear hx1 hrl hown hbr
      go_wp2
      go_loop [4, 21] (fun s i => ∃ t : Nat, t ≤ m.length ∧ i = .int .i64 t ∧ s = .int .u64 (mask (colsF m.length (triMid m k t)) : Nat)) (fun _ i => m.length - (intOf i).toNat)
      case atStart => exact ⟨0, Nat.zero_le _, rfl, by rw [Hs.out]⟩
      case round =>
        obtain ⟨t, ht, rfl, rfl⟩ := hrel
        by_cases htl : t < m.length
        · obtain ⟨b2, o2, rfl, hc2⟩ := Hrow.out t (by rw [Hrl.out]; exact htl)
          by_cases hz : gi (gr m k) t = 0
          · have hb : ((0 : Int) != 0) = false := by simp
            rw [hz] at hc2
            have Hz := Lib.hid (triMid_same hz)
            clear hz
            go_wp2
            go_round
            case rel => exact ⟨t + 1, by omega, by go_num, by rw [Hz.out]⟩
            case measure => simp [intOf]; omega
          · have hb : (gi (gr m k) t != 0) = true := by simpa using hz
            have hfl := triMid_flip Hg.out hlt htl hz
            have e1 := shl_one (x := (t : Int)) (by omega) (by omega)
            rw [Int.toNat_natCast] at e1
            have e2 := xor_step m.length t (triMid m k t) (by omega) (by omega)
            rw [hfl] at e2
            obtain ⟨p, hp⟩ : ∃ p : Int, p = ((2 ^ t : Nat) : Int) := ⟨_, rfl⟩
            obtain ⟨s, hs⟩ : ∃ s : Int, s = (mask (colsF m.length (triMid m k t)) : Nat) := ⟨_, rfl⟩
            obtain ⟨s', hs'⟩ : ∃ s : Int, s = (mask (colsF m.length (triMid m k (t + 1))) : Nat) := ⟨_, rfl⟩
            obtain ⟨x, hx⟩ : ∃ x, x = gi (gr m k) t := ⟨_, rfl⟩
            rw [← hp] at e1 e2
            rw [← hs, ← hs'] at e2
            rw [← hs]
            rw [← hx] at hb hc2
            have Hs' := Lib.hid hs'
            clear hp hs hs' hx hfl hz
            go_wp2
            go_round
            case rel => exact ⟨t + 1, by omega, by go_num, by rw [Hs'.out]⟩
            case measure => simp [intOf]; omega
        · obtain rfl : t = m.length := by omega
          have hrise : Rise (triRow m (k + 1)) := colsF_rise _ (by omega)
          have hll : (triRow m (k + 1)).length ≤ 6 := Nat.le_trans (colsF_len _ _) hn
          have hrow := row_any hrise hll wr (HD.out.next Hbr.out)
          rw [He.out]
          obtain ⟨s, hs⟩ : ∃ s : Int, s = (mask (triRow m (k + 1)) : Nat) := ⟨_, rfl⟩
          rw [← hs] at hrow ⊢
          have HS := Lib.hid hs
          have Hr := Lib.hid hrow
          clear hrise hll hrow hs
          go_wp2_with fail
          refine Hr.out.mono ?_
          rintro e w2 ⟨v, rfl, hv, hb2⟩
          have hown2 := Hown.out.below hb2
          have hd := hown2.cellAt k hlt
          have hf : w2.frozen? ⟨w.heap.size, k, none⟩ = false := World.ownsRow.frozenAt hown2.top k
          have Hput := Lib.hid (hown2.put hlt (by rw [gr_triM hlt]; exact hv.base HB.out) (Hown.out.fresh hv (Nat.le_refl _)))
          have Hbs := Lib.hid ((Hbr.out.trans (hb2.mono HB.out)).setCell (p := ⟨w.heap.size, k, none⟩) (Nat.le_refl _) v)
          obtain ⟨rv, cv, hvv, _, _, _⟩ := hv.read
          obtain ⟨nv, hnv⟩ : ∃ nv, nv = (triRow m (k + 1)).length := ⟨_, rfl⟩
          rw [← hnv] at hvv
          subst hvv
          clear hown2 hv hb2 hnv
          go_wp2
          go_roundw
          case rel => exact ⟨k + 1, _, by omega, by go_num, by rw [HS.out], Hput.out, Hbs.out⟩
          case measure => simp [intOf]; omega
    · obtain rfl : k = m.length := by omega
      go_wp2
      go_ret
      exact ⟨_, rfl, ⟨vs, by rw [triM_len]; exact hown⟩, hbr⟩

set_option maxRecDepth 100000 in
set_option maxHeartbeats 800000 in
theorem implTriangleOf_any (ao : Option Addr) (c : Nat) (m : List (List Int)) (w : World) (hs : Small m) (hwf : WfM m) (hm : MatAt w ao m) (hD : Dj w) :
    Calls Tryd.prog 9 #[.slice ao m.length c] w fun e w' => MRes (good m) (triM m) w' w.heap.size e ∧ Below w.heap.size w w' := by
  have Hs := Lib.hid hs
  have Hm := Lib.hid hm
  have Hwf := Lib.hid hwf
  have HD := Lib.hid hD
  clear hs hm hwf hD
  go_enter Tryd.func9, Tryd.ntmps9
  go_wp2_with fail
  refine (implIsSign_any ao c m w Hs.out Hwf.out Hm.out).mono ?_
  rintro e w1 ⟨ha, hb⟩
  have Hb := Lib.hid hb
  have HB := Lib.hid hb.size
  clear hb
  by_cases hg : good m
  · have Hg := Lib.hid hg
    clear hg
    obtain rfl := ha.is Hg.out
    clear ha
    go_wp2_with fail
    refine (triangleOf_any ao c m w1 Hg.out (Hm.out.below Hb.out) (HD.out.next Hb.out)).mono ?_
    rintro e w2 ⟨v, rfl, hv, hb2⟩
    have Hv := Lib.hid (hv.base HB.out)
    have Hb2 := Lib.hid (Hb.out.trans (hb2.mono HB.out))
    clear hv hb2
    go_wp2
    go_ret2
    exact ⟨MRes.yes Hg.out Hv.out, Hb2.out⟩
  · have Hg := Lib.hid hg
    clear hg
    obtain rfl := ha.isnt Hg.out
    clear ha
    go_wp2
    go_ret2
    exact ⟨MRes.no Hg.out, Hb.out⟩

theorem OwnP.nil0 (w : World) (B : Nat) (m : List (List Int)) : OwnP w B (.slice none 0 0) 0 m 0 [] := ⟨World.ownsRow_nil _ _ _ _, fun i hi => absurd hi (by omega), fun i j _ hj => absurd hj (by omega)⟩
/-- the sums of the columns in the middle of row k -/
def sumMid (m : List (List Int)) (k t : Nat) : List Int := (List.range m.length).map fun j => colR m j (if j < t then k + 1 else k)
theorem sumMid_len (m : List (List Int)) (k t : Nat) : (sumMid m k t).length = m.length := by simp [sumMid]
theorem gi_sumMid {m : List (List Int)} {k t j : Nat} (hj : j < m.length) : gi (sumMid m k t) j = colR m j (if j < t then k + 1 else k) := gi_row hj
theorem sumMid_set {m : List (List Int)} {k t : Nat} (ht : t < m.length) : (sumMid m k t).set t (colR m t k + gi (gr m k) t) = sumMid m k (t + 1) := by
  refine ext_gi (by rw [List.length_set, sumMid_len, sumMid_len]) fun j hj => ?_
  rw [List.length_set, sumMid_len] at hj
  rw [gi_set (by rw [sumMid_len]; exact ht), gi_sumMid hj, gi_sumMid hj]
  by_cases e : j = t
  · subst e; rw [if_pos rfl, if_pos (by omega), colR]
  · rw [if_neg e]
    have : (j < t + 1) = (j < t) := propext (by omega)
    simp only [this]
theorem sumMid_next (m : List (List Int)) (k : Nat) : sumMid m k m.length = sumMid m (k + 1) 0 := by
  refine ext_gi (by rw [sumMid_len, sumMid_len]) fun j hj => ?_
  rw [sumMid_len] at hj
  rw [gi_sumMid hj, gi_sumMid hj, if_pos hj, if_neg (by omega)]
theorem sumMid_zero (m : List (List Int)) : sumMid m 0 0 = List.replicate m.length 0 := by
  refine ext_gi (by rw [sumMid_len, List.length_replicate]) fun j hj => ?_
  rw [sumMid_len] at hj
  rw [gi_sumMid hj, if_neg (by omega), gi_lt (by simpa using hj)]
  simp [colR]

/-- what stands apart from one block is kept where that block alone turns -/
theorem OwnP.kept {w w1 : World} {B n k g : Nat} {v : Value} {m : List (List Int)} {vs : List Value} (h : OwnP w B v n m k vs) (hg : w.grownBy w1 (some g)) (hB : g < B) : OwnP w1 B v n m k vs := by
  have ap : ∀ (e : TypeId) (u : Value) (n : Nat) (xs : List Value), w.ownsRow B e 1 u n xs → w1.ownsRow B e 1 u n xs := fun e u n xs hx => by
    refine World.ownsRow.kept hx hg ?_
    cases hb : u.ownBlock with
    | none => exact .inl rfl
    | some g' => exact .inr (fun e => by cases e; have := (World.ownsRow.lt hx g hb).1; omega)
  exact ⟨ap _ _ _ _ h.top, fun i hi => ap _ _ _ _ (h.rows i hi), h.apart⟩

set_option maxRecDepth 100000 in
set_option maxHeartbeats 1600000 in
theorem trOf_any (ao : Option Addr) (c : Nat) (m : List (List Int)) (w : World) (hg : good m) (hm : MatAt w ao m) :
    Calls Tryd.prog 22 #[.slice ao m.length c] w fun e w' => ∃ v, e = .returned v ∧ OwnM w' w.heap.size v (triM m) ∧ Below w.heap.size w w' := by
  obtain ⟨i0, hi, hz0, hz1, hz2⟩ := info_parts Tryd.info_int
  obtain ⟨j0, hj, hy0, hy1, hy2⟩ := info_parts Tryd.info_ints
  have hn := hg.1.2.1
  have hmx : m.length ≤ 9223372036854775807 := by omega
  have Hg := Lib.hid hg
  have Hm := Lib.hid hm
  clear hg hm
  go_enter Tryd.func22, Tryd.ntmps22
  go_wp2_with (at_make; refine wpList_make_full _ rfl _ _ 29 rfl w.heap.size 3 i0 (.int .i64 0) 1 Tryd.underlying29 hi hz0 hz1 _ _ _ _ m.length rfl rfl rfl rfl ?c1 ?c2 ?c3 ?_)
  case c1 => rw [hz2]; omega
  case c2 => unfold maxLen; omega
  case c3 => simp
  intro w1 hown hgr
  have hb1 : Below w.heap.size w w1 := (Below.refl _ _).grown hgr (Nat.le_refl _) (fun _ h => by cases h)
  have hsum := OwnI.made hown
  rw [← sumMid_zero m] at hsum
  have Hsum := Lib.hid hsum
  have Hb1 := Lib.hid hb1
  have HB1 := Lib.hid (show w.heap.size + 1 ≤ w1.heap.size from by have := (OwnI.lt hsum w.heap.size rfl).2; omega)
  clear hown hgr hb1 hsum
  go_wp2
  go_loopw [4, 15] (fun out i wr => ∃ (k : Nat) (vs : List Value), k ≤ m.length ∧ i = .int .i64 k ∧ OwnI wr w.heap.size (.slice (some ⟨w.heap.size, 0, none⟩) m.length m.length) (sumMid m k 0) ∧ OwnP wr (w.heap.size + 1) out k (triM m) k vs ∧ Below w.heap.size w wr ∧ w.heap.size + 1 ≤ wr.heap.size)
    (fun _ i _ => m.length - (intOf i).toNat)
  case atStart => exact ⟨0, [], Nat.zero_le _, rfl, Hsum.out, OwnP.nil0 _ _ _, Hb1.out, HB1.out⟩
  case round =>
    obtain ⟨k, vs, hk, rfl, hsum, hown, hbr, hsz⟩ := hrel
    clear Hsum Hb1 HB1
    by_cases hlt : k < m.length
    · obtain ⟨b1, o1, r1, d1, rfl, hc1, hx1, _, _⟩ := Hm.out k hlt
      have hrl : (gr m k).length = m.length := Hg.out.1.2.2 k hlt
      rw [hrl] at hc1
      have hc1' := cell_below hc1 hbr
      have Hrow := Lib.hid hx1
      have Hrl := Lib.hid hrl
      have Hown := Lib.hid hown
      have Hbr := Lib.hid hbr
      have Hsum := Lib.hid hsum
      have He := Lib.hid (triMid_end m k)
      obtain ⟨wo, hwo⟩ : ∃ wo : World, wo = wr := ⟨_, rfl⟩
      subst hwo
      clear hx1 hrl hown hbr hsum hc1
      go_wp2
      go_loopw [7, 21] (fun row i wr => ∃ t : Nat, t ≤ m.length ∧ i = .int .i64 t ∧ OwnI wr w.heap.size (.slice (some ⟨w.heap.size, 0, none⟩) m.length m.length) (sumMid m k t) ∧ OwnI wr wo.heap.size row (colsF t fun j => decide (colR m j (k + 1) = 1)) ∧ wo.grownBy wr (some w.heap.size))
        (fun _ i _ => m.length - (intOf i).toNat)
      case atStart => exact ⟨0, Nat.zero_le _, rfl, Hsum.out, OwnI.nil _ _, World.grownBy.refl _ _⟩
      case round =>
        obtain ⟨t, ht, rfl, hsum, hrow, hgb⟩ := hrel
        clear Hsum
        have hbt : Below w.heap.size w wr := Hbr.out.grown hgb (by omega) (fun k hk => by cases hk; exact Nat.le_refl _)
        by_cases htl : t < m.length
        · obtain ⟨b2, o2, rfl, hc2⟩ := Hrow.out.below hbt t (by rw [Hrl.out]; exact htl)
          have hcs := hsum.cellAt t htl
          rw [gi_sumMid htl, if_neg (by omega)] at hcs
          have hfs := hsum.frozenAt t
          have h01 := colR_01 Hg.out htl (show k ≤ m.length by omega)
          have h01' := colR_01 Hg.out htl (show k + 1 ≤ m.length by omega)
          have hst := hsum.store t (colR m t k + gi (gr m k) t)
          rw [sumMid_set htl] at hst
          rw [colR] at h01'
          have hsucc := colsF_succ t fun j => decide (colR m j (k + 1) = 1)
          have hrow1 : OwnI (wr.setCell ⟨w.heap.size, t, none⟩ (.int .i64 (colR m t k + gi (gr m k) t))) wo.heap.size _ (colsF t fun j => decide (colR m j (k + 1) = 1)) :=
            hrow.setOther (a := ⟨w.heap.size, t, none⟩) (fun e => by have := (hrow.lt _ e).1; simp at this; omega) _
          have hg1 : wo.grownBy (wr.setCell ⟨w.heap.size, t, none⟩ (.int .i64 (colR m t k + gi (gr m k) t))) (some w.heap.size) :=
            ⟨hgb.os, hgb.tape, hgb.output, by simpa [World.setCell] using hgb.size, fun b hb hne => (Below.heap_setCell _ _ _ _ (fun e => hne (by rw [e]))).trans (hgb.block b hb hne)⟩
          obtain ⟨x, hx⟩ : ∃ x, x = colR m t k := ⟨_, rfl⟩
          obtain ⟨y, hy⟩ : ∃ y, y = gi (gr m k) t := ⟨_, rfl⟩
          have hcsum : colR m t (k + 1) = x + y := by rw [hx, hy]; rfl
          rw [← hx] at hcs h01 h01' hst hrow1 hg1
          rw [← hy] at hc2 h01' hst hrow1 hg1
          have Hst := Lib.hid hst
          have Hrow1 := Lib.hid hrow1
          have Hg1 := Lib.hid hg1
          have Hsucc := Lib.hid hsucc
          have Hcsum := Lib.hid hcsum
          have HBs := Lib.hid (show wo.heap.size ≤ (wr.setCell ⟨w.heap.size, t, none⟩ (.int .i64 (x + y))).heap.size from hg1.size)
          clear hsum hrow hgb hbt hst hrow1 hg1 hsucc hx hy hcsum
          by_cases h1 : x + y = 1
          · have hb : (x + y == 1) = true := by simpa using h1
            have hif : (if (decide (colR m t (k + 1) = 1)) = true then [(t : Int)] else []) = [(t : Int)] := by rw [Hcsum.out]; simp [h1]
            rw [hif] at Hsucc
            obtain ⟨R, hR⟩ : ∃ R, R = colsF t fun j => decide (colR m j (k + 1) = 1) := ⟨_, rfl⟩
            have hRl : R.length ≤ 6 := by rw [hR]; exact Nat.le_trans (colsF_len _ _) (by omega)
            rw [← hR] at Hrow1 Hsucc
            have H1 := Lib.hid h1
            clear hif hR h1
            obtain ⟨ra, rc, hrr, _, _, _⟩ := Hrow1.out.read
            subst hrr
            go_wp2_with (at_builtin; refine wpList_append_own _ rfl _ _ 29 rfl wo.heap.size 3 i0 (.int .i64 0) 1 8 Tryd.underlying29 hi hz0 hz1 hz2 rfl (by decide) _ _ _ rfl (World.ownsRow.alloc Hrow1.out _) ⟨wr.heap.size, 0, none⟩ 1 1 [.int .i64 (t : Int)] rfl rfl ?e1 ?e2 ?e3 ?e4 ?e5 ?_)
            case e1 =>
              have hsz2 : (wr.setCell ⟨w.heap.size, t, none⟩ (.int .i64 (x + y))).heap.size = wr.heap.size := by simp [World.setCell]
              intro j u hj
              have := cell_one_new (wr.setCell ⟨w.heap.size, t, none⟩ (.int .i64 (x + y))) (.int .i64 (t : Int)) 3 j u hj
              rw [hsz2] at this
              exact this
            case e2 => intro u hu; simp at hu; subst hu; rfl
            case e3 => unfold maxLen; omega
            case e4 => omega
            case e5 => have := HBs.out; simp [World.setCell] at this ⊢; omega
            intro v' w3 hown' hgrow _
            have hput := Hrow1.out.snoc HBs.out hown' hgrow
            obtain ⟨ra', rc', hrr, _, _, _⟩ := hput.1.read
            have hR2 : (R ++ [(t : Int)]).length = R.length + 1 := by simp
            rw [hR2] at hrr
            subst hrr
            have hg2 : wo.grownBy w3 (some w.heap.size) := Hg1.out.andThen ((World.grownBy_alloc _ _ _).trans hgrow) (fun j hj => by
              have := (Hrow1.out.lt j hj).1
              exact .inl this)
            have hsum2 : OwnI w3 w.heap.size (.slice (some ⟨w.heap.size, 0, none⟩) m.length m.length) (sumMid m k (t + 1)) :=
              World.ownsRow.kept (World.ownsRow.alloc Hst.out _) hgrow (.inr (fun e => by have := (Hrow1.out.lt w.heap.size e.symm).1; omega))
            have Hput := Lib.hid hput.1
            have Hg2 := Lib.hid hg2
            have Hsum2 := Lib.hid hsum2
            clear hput hown' hgrow hg2 hsum2 hR2
            go_wp2
            go_roundw
            case rel => exact ⟨t + 1, by omega, by go_num, Hsum2.out, by rw [Hsucc.out]; exact Hput.out, Hg2.out⟩
            case measure => simp [intOf]; omega
          · have hb : (x + y == 1) = false := by simpa using h1
            have hif : (if (decide (colR m t (k + 1) = 1)) = true then [(t : Int)] else []) = [] := by rw [Hcsum.out]; simp [h1]
            rw [hif, List.append_nil] at Hsucc
            clear hif h1
            go_wp2
            go_roundw
            case rel => exact ⟨t + 1, by omega, by go_num, Hst.out, by rw [Hsucc.out]; exact Hrow1.out, Hg1.out⟩
            case measure => simp [intOf]; omega
        · obtain rfl : t = m.length := by omega
          obtain ⟨ra, rc, hrr, _, _, _⟩ := hrow.read
          obtain ⟨rn, hrn⟩ : ∃ rn, rn = (colsF m.length fun j => decide (colR m j (k + 1) = 1)).length := ⟨_, rfl⟩
          rw [← hrn] at hrr
          subst hrr
          have hrowk : OwnI wr (w.heap.size + 1) (.slice ra rn rc) (gr (triM m) k) := by rw [gr_triM hlt]; exact hrow.base (by omega)
          have hfr : ∀ j, j < k → ∀ g, (vs.getD j undef).ownBlock = some g → (Value.slice ra rn rc).ownBlock ≠ some g := fun j hj g hg hg' => by
            have h1 := (Hown.out.rows j hj).lt g hg
            have h2 := hrow.lt g hg'
            omega
          have Hown2 := Lib.hid (Hown.out.kept hgb (by omega))
          have Hrowk := Lib.hid hrowk
          have Hfr := Lib.hid hfr
          have Hgb := Lib.hid hgb
          have Hbt := Lib.hid (Hbr.out.grown hgb (by omega) (fun k hk => by cases hk; exact Nat.le_refl _))
          have Hsum := Lib.hid (show OwnI wr w.heap.size (.slice (some ⟨w.heap.size, 0, none⟩) m.length m.length) (sumMid m (k + 1) 0) by rw [← sumMid_next]; exact hsum)
          have HBs := Lib.hid (show w.heap.size + 1 ≤ wr.heap.size from Nat.le_trans hsz hgb.size)
          obtain ⟨oa, oc, hoo, _, _, _⟩ := ownsRow_read Hown2.out.top
          subst hoo
          clear hsum hrow hgb hrowk hfr hrn hc1'
          go_wp2_with (at_builtin; refine wpList_append_own _ rfl _ _ 22 rfl (w.heap.size + 1) 29 j0 (.slice none 0 0) 1 24 Tryd.underlying22 hj hy0 hy1 hy2 rfl (by decide) _ _ _ rfl (World.ownsRow.alloc Hown2.out.top _) ⟨wr.heap.size, 0, none⟩ 1 1 [.slice ra rn rc] rfl rfl ?f1 ?f2 ?f3 ?f4 ?f5 ?_)
          case f1 => exact cell_one_new _ _ _
          case f2 => intro u hu; simp at hu; subst hu; rfl
          case f3 => unfold maxLen; omega
          case f4 => omega
          case f5 => have := HBs.out; simp; omega
          intro v' w3 hown' hgrow _
          have hput := Hown2.out.snoc HBs.out Hrowk.out Hfr.out hown' hgrow
          have hsum3 : OwnI w3 w.heap.size (.slice (some ⟨w.heap.size, 0, none⟩) m.length m.length) (sumMid m (k + 1) 0) :=
            World.ownsRow.kept (World.ownsRow.alloc Hsum.out _) hgrow (.inr (fun e => by have := (World.ownsRow.lt Hown2.out.top w.heap.size e.symm).1; omega))
          have Hput := Lib.hid hput
          have Hsum3 := Lib.hid hsum3
          clear hput hown' hgrow hsum3
          go_wp2
          go_roundw
          case rel => exact ⟨k + 1, _, by omega, by go_num, Hsum3.out, Hput.out.1, Hbt.out.trans (Hput.out.2.mono (by omega)), Nat.le_trans HBs.out Hput.out.2.size⟩
          case measure => simp [intOf]; omega
    · obtain rfl : k = m.length := by omega
      go_wp2
      go_ret
      exact ⟨_, rfl, ⟨vs, by rw [triM_len]; exact hown.base (by omega)⟩, hbr⟩

set_option maxRecDepth 100000 in
set_option maxHeartbeats 800000 in
theorem specTriangleOf_any (ao : Option Addr) (c : Nat) (m : List (List Int)) (w : World) (hs : Small m) (hm : MatAt w ao m) :
    Calls Tryd.prog 7 #[.slice ao m.length c] w fun e w' => MRes (good m) (triM m) w' w.heap.size e ∧ Below w.heap.size w w' := by
  have Hs := Lib.hid hs
  have Hm := Lib.hid hm
  clear hs hm
  go_enter Tryd.func7, Tryd.ntmps7
  go_wp2_with fail
  refine (sgGood_any ao c m w Hs.out Hm.out).mono ?_
  rintro e w1 ⟨ha, hb⟩
  have Hb := Lib.hid hb
  have HB := Lib.hid hb.size
  clear hb
  by_cases hg : good m
  · have Hg := Lib.hid hg
    clear hg
    obtain rfl := ha.is Hg.out
    clear ha
    go_wp2_with fail
    refine (trOf_any ao c m w1 Hg.out (Hm.out.below Hb.out)).mono ?_
    rintro e w2 ⟨v, rfl, hv, hb2⟩
    have Hv := Lib.hid (hv.base HB.out)
    have Hb2 := Lib.hid (Hb.out.trans (hb2.mono HB.out))
    clear hv hb2
    go_wp2
    go_ret2
    exact ⟨MRes.yes Hg.out Hv.out, Hb2.out⟩
  · have Hg := Lib.hid hg
    clear hg
    obtain rfl := ha.isnt Hg.out
    clear ha
    go_wp2
    go_ret2
    exact ⟨MRes.no Hg.out, Hb.out⟩
end Go.Proofs.YtopamhcnbocfoaaDoor

namespace Go.Proofs.YtopamhcnbocfoaaDoor
open Go.ChangeShapes Go.WideShapes Go.ChangeAt Go.RowKit Go.Deep

def laid2 : List (String × DataW Unit) := [("math/bits.deBruijn32tab", Rows.laid_math_bits_deBruijn32tab), ("math/bits.deBruijn64tab", Rows.laid_math_bits_deBruijn64tab)]
def tab64 : List Int := [0, 1, 56, 2, 57, 49, 28, 3, 61, 58, 42, 50, 38, 29, 17, 4, 62, 47, 59, 36, 45, 43, 51, 22, 53, 39, 33, 30, 24, 18, 12, 5, 63, 55, 48, 27, 60, 41, 37, 16, 46, 35, 44, 21, 52, 32, 23, 11, 54, 26, 40, 15, 34, 20, 31, 10, 25, 14, 19, 9, 13, 8, 7, 6]
theorem tab64_is : (Rows.laid_math_bits_deBruijn64tab : DataW Unit) = .agg (tab64.map fun n => .lit (.int .u8 n)) := rfl
theorem tab64_at : ∀ i, i < 16 → tab64.getD (dbAt i) 0 = i := by decide

theorem tab_cell {W : World} (h : laidMetH Tryd.prog laid2 W) (j : Nat) (hr : j < 64) : W.cell? ⟨1, j, none⟩ = some (.int .u8 (tab64.getD j 0)) := by
  rw [MakeChecks.laidMetH_plain _ _ _ (by kernel_rfl)] at h
  obtain ⟨ps, hps, _, _⟩ := h
  obtain ⟨_, _, _, _, _, _, _, _, _, _, ⟨g, t, cs, fuel, p, q, hg, ht, hv, hd, _, _⟩, _⟩ := hps
  obtain rfl := Option.some.inj ((show Tryd.prog.globalNamed "math/bits.deBruijn64tab" = some 1 by kernel_rfl).symm.trans hg)
  obtain rfl := Option.some.inj ((show (Tryd.prog.globals[1]?).map (·.type) = some 74 by kernel_rfl).symm.trans ht)
  obtain ⟨xs, m, _, ex, _, hl, hel⟩ := DataW.trod_array Tryd.underlying74 hd
  have c5 : Tryd.prog.cellsOf 5 = 1 := by kernel_rfl
  have hE := hel (j) hr
  rw [c5, Nat.mul_one, List.getElem?_eq_getElem (by omega)] at hE
  obtain ⟨z, e1, e2, _⟩ := DataW.trod_int Tryd.underlying5 hE
  have hlen : tab64.length = 64 := by kernel_rfl
  rw [tab64_is] at ex
  have e3 : (xs.map (·.1)) = tab64.map fun n => .lit (.int .u8 n) := (DataW.agg.inj (Prod.mk.inj ex).1).symm
  have e4 : (xs.map (·.1))[j]? = (tab64.map fun n => (DataW.lit (.int .u8 n) : DataW Unit))[j]? := by rw [e3]
  rw [List.getElem?_map, List.getElem?_map, List.getElem?_eq_getElem (by omega : j < xs.length), List.getElem?_eq_getElem (by omega : j < tab64.length), e2] at e4
  have hz : z = tab64.getD (j) 0 := by
    simp only [Option.map_some, Option.some.injEq, DataW.lit.injEq, Lit.int.injEq, true_and] at e4
    rw [e4, List.getD, List.getElem?_eq_getElem (by omega : j < tab64.length)]; rfl
  rw [World.var?_cell hg hv (j), ← hz]
  have : cs.toList[j]? = some (.int .u8 z) := by
    have h0 : ((cs.toList.drop (j)).take 1)[0]? = some (.int .u8 z) := by rw [e1]; rfl
    simpa using h0
  simpa using this
theorem dj_of_laid {W : World} (h : laidMetH Tryd.prog laid2 W) : Dj W := by
  intro i hi
  have := tab_cell h (dbAt i) (dbAt_lt i hi)
  rw [tab64_at i hi] at this
  exact this
end Go.Proofs.YtopamhcnbocfoaaDoor

