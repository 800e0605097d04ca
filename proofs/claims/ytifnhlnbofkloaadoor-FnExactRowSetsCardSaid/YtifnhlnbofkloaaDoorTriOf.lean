/- Contracts: the triangle of a sign matrix, by the program. Conditions: the matrix is a sign matrix; the table of math/bits. -/
import Derived.Test.YtifnhlnbofkloaaDoorSets
import Derived.Test.YtifnhlnbofkloaaDoorSpecC
import Derived.Maps.RangeWalk
namespace Go.Proofs.YtifnhlnbofkloaaDoor
open Go.RowKit

/-- the sum of the first k numbers of a column -/
def colR (m : List (List Int)) (j : Nat) : Nat → Int
  | 0 => 0
  | k + 1 => colR m j k + gi (gr m k) j
theorem colR_tr {m : List (List Int)} {j : Nat} (hj : j < m.length) : ∀ k, k ≤ m.length → colR m j k = sumK (gr (tr m) j) k
  | 0, _ => rfl
  | k + 1, hk => by simp only [colR, sumK]; rw [colR_tr hj k (by omega), gi_tr hj (by omega)]
theorem colR_01 {m : List (List Int)} (h : good m) {j k : Nat} (hj : j < m.length) (hk : k ≤ m.length) : 0 ≤ colR m j k ∧ colR m j k ≤ 1 := by
  rw [colR_tr hj k hk]
  exact (h.2.2 j (by rw [tr_len]; exact hj)).1 k (by rw [tr_row hj]; exact hk)

/-- the numbers below n for which f holds -/
def colsF (n : Nat) (f : Nat → Bool) : List Int := ((List.range n).filter f).map fun j : Nat => (j : Int)
theorem mem_colsF {n : Nat} {f : Nat → Bool} {x : Int} : x ∈ colsF n f ↔ ∃ j : Nat, x = j ∧ j < n ∧ f j = true := by
  simp only [colsF, List.mem_map, List.mem_filter, List.mem_range]
  constructor
  · rintro ⟨j, ⟨h1, h2⟩, rfl⟩; exact ⟨j, rfl, h1, h2⟩
  · rintro ⟨j, rfl, h1, h2⟩; exact ⟨j, ⟨h1, h2⟩, rfl⟩
theorem colsF_succ (n : Nat) (f : Nat → Bool) : colsF (n + 1) f = colsF n f ++ (if f n then [(n : Int)] else []) := by
  simp only [colsF, List.range_succ, List.filter_append, List.map_append]
  cases h : f n <;> simp [h]
theorem colsF_up (n : Nat) (f : Nat → Bool) : Up (colsF n f) := by
  induction n with
  | zero => trivial
  | succ n ih =>
    rw [colsF_succ]
    refine up_join ih (by split <;> trivial) (fun x hx y hy => ?_)
    obtain ⟨j, rfl, hj, _⟩ := mem_colsF.1 hx
    split at hy
    · simp at hy; omega
    · cases hy
theorem colsF_len (n : Nat) (f : Nat → Bool) : (colsF n f).length ≤ n := by
  simp only [colsF, List.length_map]
  exact Nat.le_trans (List.length_filter_le _ _) (by simp)
theorem colsF_rise {n : Nat} (f : Nat → Bool) (h : n ≤ 16) : Rise (colsF n f) := ⟨colsF_up n f, fun x hx => by obtain ⟨j, rfl, hj, _⟩ := mem_colsF.1 hx; omega⟩
theorem colsF_congr {n : Nat} {f g : Nat → Bool} (h : ∀ j, j < n → f j = g j) : colsF n f = colsF n g := by
  unfold colsF
  congr 1
  exact List.filter_congr (fun j hj => h j (by simpa using hj))
theorem mask_cols (n : Nat) (f : Nat → Bool) (i : Nat) : (mask (colsF n f)).testBit i = (decide (i < n) && f i) := by
  rw [testBit_mask (fun x hx => by obtain ⟨j, rfl, _, _⟩ := mem_colsF.1 hx; omega)]
  rw [Bool.eq_iff_iff, decide_eq_true_eq, mem_colsF, Bool.and_eq_true, decide_eq_true_eq]
  constructor
  · rintro ⟨j, e, h1, h2⟩
    obtain rfl : i = j := by omega
    exact ⟨h1, h2⟩
  · rintro ⟨h1, h2⟩; exact ⟨i, rfl, h1, h2⟩
theorem mask_flip {n j : Nat} {f g : Nat → Bool} (hj : j < n) (h1 : g j = !f j) (h2 : ∀ i, i ≠ j → g i = f i) : mask (colsF n f) ^^^ 2 ^ j = mask (colsF n g) := by
  apply Nat.eq_of_testBit_eq
  intro i
  rw [Nat.testBit_xor, mask_cols, mask_cols, Nat.testBit_two_pow]
  by_cases e : j = i
  · subst e; simp [hj, h1]
  · rw [h2 i (fun h => e h.symm)]; simp [e]

/-- the columns whose sum is 1 behind k rows -/
def triRow (m : List (List Int)) (k : Nat) : List Int := colsF m.length fun j => decide (colR m j k = 1)
def triM (m : List (List Int)) : List (List Int) := (List.range m.length).map fun i => triRow m (i + 1)
theorem triM_len (m : List (List Int)) : (triM m).length = m.length := by simp [triM]
theorem gr_triM {m : List (List Int)} {i : Nat} (h : i < m.length) : gr (triM m) i = triRow m (i + 1) := by
  rw [gr_lt (by rw [triM_len]; exact h)]
  simp [triM]
theorem triM_small {m : List (List Int)} (h : m.length ≤ 6) : Small (triM m) := ⟨by rw [triM_len]; omega, fun i hi => by
  rw [triM_len] at hi
  rw [gr_triM hi]
  have := colsF_len m.length fun j => decide (colR m j (i + 1) = 1)
  unfold triRow
  omega⟩

/-- .. in the middle of row k -/
def triMid (m : List (List Int)) (k t : Nat) : Nat → Bool := fun j => decide (colR m j (if j < t then k + 1 else k) = 1)
theorem triMid_start (m : List (List Int)) (k : Nat) : colsF m.length (triMid m k 0) = triRow m k := colsF_congr fun j _ => by simp [triMid]
theorem triMid_end (m : List (List Int)) (k : Nat) : colsF m.length (triMid m k m.length) = triRow m (k + 1) := colsF_congr fun j hj => by simp [triMid, hj]
theorem triMid_same {m : List (List Int)} {k t : Nat} (h : gi (gr m k) t = 0) : colsF m.length (triMid m k (t + 1)) = colsF m.length (triMid m k t) := colsF_congr fun j _ => by
  unfold triMid
  by_cases e : j = t
  · subst e
    rw [if_pos (by omega), if_neg (by omega), colR, h, Int.add_zero]
  · have : (j < t + 1) = (j < t) := propext (by omega)
    simp only [this]
theorem triMid_flip {m : List (List Int)} (hg : good m) {k t : Nat} (hk : k < m.length) (ht : t < m.length) (h : gi (gr m k) t ≠ 0) : mask (colsF m.length (triMid m k t)) ^^^ 2 ^ t = mask (colsF m.length (triMid m k (t + 1))) := by
  refine mask_flip ht ?_ (fun i hi => ?_)
  · unfold triMid
    rw [if_pos (by omega), if_neg (by omega), colR]
    have h1 := colR_01 hg ht (show k ≤ m.length by omega)
    have h2 := colR_01 hg ht (show k + 1 ≤ m.length by omega)
    rw [colR] at h2
    by_cases e : colR m t k = 1
    · have : ¬ colR m t k + gi (gr m k) t = 1 := by omega
      simp [e, this]; omega
    · have : colR m t k + gi (gr m k) t = 1 := by omega
      simp [e, this]
  · unfold triMid
    have : (i < t + 1) = (i < t) := propext (by omega)
    simp only [this]

theorem xor_step (n t : Nat) (f : Nat → Bool) (hn : n ≤ 16) (ht : t ≤ 15) : bits .xor .u64 ((mask (colsF n f) : Nat) : Int) ((2 ^ t : Nat) : Int) = ((mask (colsF n f) ^^^ 2 ^ t : Nat) : Int) := by
  have := mask_lt16 (colsF_rise f hn)
  have h2 : 2 ^ t ≤ 2 ^ 15 := Nat.pow_le_pow_right (by omega) (by omega)
  rw [u64_xor_nat _ _ (by omega) (by omega)]

set_option maxRecDepth 100000 in
set_option maxHeartbeats 1600000 in
theorem triangleOf_any (ao : Option Addr) (c : Nat) (m : List (List Int)) (w : World) (hg : good m) (hm : MatAt w ao m) (hD : Dj w) :
    Calls Tryd.prog 91 #[.slice ao m.length c] w fun e w' => ∃ v, e = .returned v ∧ OwnM w' w.heap.size v (triM m) ∧ Below w.heap.size w w' := by
  obtain ⟨i0, hi, hz0, hz1, hz2⟩ := info_parts Tryd.info_ints
  have hn := hg.1.2.1
  have hmx : m.length ≤ 9223372036854775807 := by omega
  have Hg := Lib.hid hg
  have Hm := Lib.hid hm
  have HD := Lib.hid hD
  clear hg hm hD
  go_enter Tryd.func91, Tryd.ntmps91
  go_wp2_with (at_make; refine wpList_make_full _ rfl _ _ 22 rfl w.heap.size 29 i0 (.slice none 0 0) 1 Tryd.underlying22 hi hz0 hz1 _ _ _ _ m.length rfl rfl rfl rfl ?c1 ?c2 ?c3 ?_)
  case c1 => rw [hz2]; omega
  case c2 => unfold maxLen; omega
  case c3 => simp
  intro w1 hown hgr
  have hb1 : Below w.heap.size w w1 := (Below.refl _ _).grown hgr (Nat.le_refl _) (fun _ h => by cases h)
  have Hown1 := Lib.hid (OwnP.made (m := triM m) hown)
  have Hb1 := Lib.hid hb1
  clear hown hgr hb1
  have H00 := Lib.hid (show mask (triRow m 0) = 0 by
    have e : triRow m 0 = [] := by
      unfold triRow
      rw [colsF_congr (g := fun _ => false) (fun j _ => by simp [colR])]
      simp [colsF]
    rw [e]; rfl)
  go_wp2
  go_loopw [4, 14] (fun s i wr => ∃ (k : Nat) (vs : List Value), k ≤ m.length ∧ i = .int .i64 k ∧ s = .int .u64 (mask (triRow m k) : Nat) ∧ OwnP wr w.heap.size (.slice (some ⟨w.heap.size, 0, none⟩) m.length m.length) m.length (triM m) k vs ∧ Below w.heap.size w wr)
    (fun _ i _ => m.length - (intOf i).toNat)
  case atStart => exact ⟨0, _, Nat.zero_le _, rfl, by rw [H00.out]; rfl, Hown1.out, Hb1.out⟩
  case round =>
    obtain ⟨k, vs, hk, rfl, rfl, hown, hbr⟩ := hrel
    clear Hown1 Hb1
    by_cases hlt : k < m.length
    · obtain ⟨b1, o1, r1, d1, rfl, hc1, hx1, _, _⟩ := Hm.out.below hbr k hlt
      have hrl : (gr m k).length = m.length := Hg.out.1.2.2 k hlt
      rw [hrl] at hc1
      have Hrow := Lib.hid hx1
      have Hrl := Lib.hid hrl
      have Hown := Lib.hid hown
      have Hbr := Lib.hid hbr
      have HB := Lib.hid hbr.size
      have Hs := Lib.hid (triMid_start m k)
      have He := Lib.hid (triMid_end m k)
      clear hx1 hrl hown hbr
      go_wp2
      go_loop [4, 21] (fun s i => ∃ t : Nat, t ≤ m.length ∧ i = .int .i64 t ∧ s = .int .u64 (mask (colsF m.length (triMid m k t)) : Nat)) (fun _ i => m.length - (intOf i).toNat)
      case atStart => exact ⟨0, Nat.zero_le _, rfl, by rw [Hs.out]⟩
      case round =>
        obtain ⟨t, ht, rfl, rfl⟩ := hrel
        by_cases htl : t < m.length
        · obtain ⟨b2, o2, rfl, hc2⟩ := Hrow.out t (by rw [Hrl.out]; exact htl)
          by_cases hz : gi (gr m k) t = 0
          · have hb : ((0 : Int) != 0) = false := by simp
            rw [hz] at hc2
            have Hz := Lib.hid (triMid_same hz)
            clear hz
            go_wp2
            go_round
            case rel => exact ⟨t + 1, by omega, by go_num, by rw [Hz.out]⟩
            case measure => simp [intOf]; omega
          · have hb : (gi (gr m k) t != 0) = true := by simpa using hz
            have hfl := triMid_flip Hg.out hlt htl hz
            have e1 := shl_one (x := (t : Int)) (by omega) (by omega)
            rw [Int.toNat_natCast] at e1
            have e2 := xor_step m.length t (triMid m k t) (by omega) (by omega)
            rw [hfl] at e2
            obtain ⟨p, hp⟩ : ∃ p : Int, p = ((2 ^ t : Nat) : Int) := ⟨_, rfl⟩
            obtain ⟨s, hs⟩ : ∃ s : Int, s = (mask (colsF m.length (triMid m k t)) : Nat) := ⟨_, rfl⟩
            obtain ⟨s', hs'⟩ : ∃ s : Int, s = (mask (colsF m.length (triMid m k (t + 1))) : Nat) := ⟨_, rfl⟩
            obtain ⟨x, hx⟩ : ∃ x, x = gi (gr m k) t := ⟨_, rfl⟩
            rw [← hp] at e1 e2
            rw [← hs, ← hs'] at e2
            rw [← hs]
            rw [← hx] at hb hc2
            have Hs' := Lib.hid hs'
            clear hp hs hs' hx hfl hz
            go_wp2
            go_round
            case rel => exact ⟨t + 1, by omega, by go_num, by rw [Hs'.out]⟩
            case measure => simp [intOf]; omega
        · obtain rfl : t = m.length := by omega
          have hrise : Rise (triRow m (k + 1)) := colsF_rise _ (by omega)
          have hll : (triRow m (k + 1)).length ≤ 6 := Nat.le_trans (colsF_len _ _) hn
          have hrow := row_any hrise hll wr (HD.out.next Hbr.out)
          rw [He.out]
          obtain ⟨s, hs⟩ : ∃ s : Int, s = (mask (triRow m (k + 1)) : Nat) := ⟨_, rfl⟩
          rw [← hs] at hrow ⊢
          have HS := Lib.hid hs
          have Hr := Lib.hid hrow
          clear hrise hll hrow hs
          go_wp2_with fail
          refine Hr.out.mono ?_
          rintro e w2 ⟨v, rfl, hv, hb2⟩
          have hown2 := Hown.out.below hb2
          have hd := hown2.cellAt k hlt
          have hf : w2.frozen? ⟨w.heap.size, k, none⟩ = false := World.ownsRow.frozenAt hown2.top k
          have Hput := Lib.hid (hown2.put hlt (by rw [gr_triM hlt]; exact hv.base HB.out) (Hown.out.fresh hv (Nat.le_refl _)))
          have Hbs := Lib.hid ((Hbr.out.trans (hb2.mono HB.out)).setCell (p := ⟨w.heap.size, k, none⟩) (Nat.le_refl _) v)
          obtain ⟨rv, cv, hvv, _, _, _⟩ := hv.read
          obtain ⟨nv, hnv⟩ : ∃ nv, nv = (triRow m (k + 1)).length := ⟨_, rfl⟩
          rw [← hnv] at hvv
          subst hvv
          clear hown2 hv hb2 hnv
          go_wp2
          go_roundw
          case rel => exact ⟨k + 1, _, by omega, by go_num, by rw [HS.out], Hput.out, Hbs.out⟩
          case measure => simp [intOf]; omega
    · obtain rfl : k = m.length := by omega
      go_wp2
      go_ret
      exact ⟨_, rfl, ⟨vs, by rw [triM_len]; exact hown⟩, hbr⟩

set_option maxRecDepth 100000 in
set_option maxHeartbeats 800000 in
theorem implTriangleOf_any (ao : Option Addr) (c : Nat) (m : List (List Int)) (w : World) (hs : Small m) (hwf : WfM m) (hm : MatAt w ao m) (hD : Dj w) :
    Calls Tryd.prog 49 #[.slice ao m.length c] w fun e w' => MRes (good m) (triM m) w' w.heap.size e ∧ Below w.heap.size w w' := by
  have Hs := Lib.hid hs
  have Hm := Lib.hid hm
  have Hwf := Lib.hid hwf
  have HD := Lib.hid hD
  clear hs hm hwf hD
  go_enter Tryd.func49, Tryd.ntmps49
  go_wp2_with fail
  refine (implIsSign_any ao c m w Hs.out Hwf.out Hm.out).mono ?_
  rintro e w1 ⟨ha, hb⟩
  have Hb := Lib.hid hb
  have HB := Lib.hid hb.size
  clear hb
  by_cases hg : good m
  · have Hg := Lib.hid hg
    clear hg
    obtain rfl := ha.is Hg.out
    clear ha
    go_wp2_with fail
    refine (triangleOf_any ao c m w1 Hg.out (Hm.out.below Hb.out) (HD.out.next Hb.out)).mono ?_
    rintro e w2 ⟨v, rfl, hv, hb2⟩
    have Hv := Lib.hid (hv.base HB.out)
    have Hb2 := Lib.hid (Hb.out.trans (hb2.mono HB.out))
    clear hv hb2
    go_wp2
    go_ret2
    exact ⟨MRes.yes Hg.out Hv.out, Hb2.out⟩
  · have Hg := Lib.hid hg
    clear hg
    obtain rfl := ha.isnt Hg.out
    clear ha
    go_wp2
    go_ret2
    exact ⟨MRes.no Hg.out, Hb.out⟩

theorem OwnP.nil0 (w : World) (B : Nat) (m : List (List Int)) : OwnP w B (.slice none 0 0) 0 m 0 [] := ⟨World.ownsRow_nil _ _ _ _, fun i hi => absurd hi (by omega), fun i j _ hj => absurd hj (by omega)⟩
/-- the sums of the columns in the middle of row k -/
def sumMid (m : List (List Int)) (k t : Nat) : List Int := (List.range m.length).map fun j => colR m j (if j < t then k + 1 else k)
theorem sumMid_len (m : List (List Int)) (k t : Nat) : (sumMid m k t).length = m.length := by simp [sumMid]
theorem gi_sumMid {m : List (List Int)} {k t j : Nat} (hj : j < m.length) : gi (sumMid m k t) j = colR m j (if j < t then k + 1 else k) := gi_row hj
theorem sumMid_set {m : List (List Int)} {k t : Nat} (ht : t < m.length) : (sumMid m k t).set t (colR m t k + gi (gr m k) t) = sumMid m k (t + 1) := by
  refine ext_gi (by rw [List.length_set, sumMid_len, sumMid_len]) fun j hj => ?_
  rw [List.length_set, sumMid_len] at hj
  rw [gi_set (by rw [sumMid_len]; exact ht), gi_sumMid hj, gi_sumMid hj]
  by_cases e : j = t
  · subst e; rw [if_pos rfl, if_pos (by omega), colR]
  · rw [if_neg e]
    have : (j < t + 1) = (j < t) := propext (by omega)
    simp only [this]
theorem sumMid_next (m : List (List Int)) (k : Nat) : sumMid m k m.length = sumMid m (k + 1) 0 := by
  refine ext_gi (by rw [sumMid_len, sumMid_len]) fun j hj => ?_
  rw [sumMid_len] at hj
  rw [gi_sumMid hj, gi_sumMid hj, if_pos hj, if_neg (by omega)]
theorem sumMid_zero (m : List (List Int)) : sumMid m 0 0 = List.replicate m.length 0 := by
  refine ext_gi (by rw [sumMid_len, List.length_replicate]) fun j hj => ?_
  rw [sumMid_len] at hj
  rw [gi_sumMid hj, if_neg (by omega), gi_lt (by simpa using hj)]
  simp [colR]

/-- what stands apart from one block is kept where that block alone turns -/
theorem OwnP.kept {w w1 : World} {B n k g : Nat} {v : Value} {m : List (List Int)} {vs : List Value} (h : OwnP w B v n m k vs) (hg : w.grownBy w1 (some g)) (hB : g < B) : OwnP w1 B v n m k vs := by
  have ap : ∀ (e : TypeId) (u : Value) (n : Nat) (xs : List Value), w.ownsRow B e 1 u n xs → w1.ownsRow B e 1 u n xs := fun e u n xs hx => by
    refine World.ownsRow.kept hx hg ?_
    cases hb : u.ownBlock with
    | none => exact .inl rfl
    | some g' => exact .inr (fun e => by cases e; have := (World.ownsRow.lt hx g hb).1; omega)
  exact ⟨ap _ _ _ _ h.top, fun i hi => ap _ _ _ _ (h.rows i hi), h.apart⟩

end Go.Proofs.YtifnhlnbofkloaaDoor
