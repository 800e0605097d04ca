/- Contracts of the model: pairs of sign matrices, tables compared, the distance of two tables, the lesser or the greater numbers of both. Conditions: as each says. -/
import Derived.Test.YtopamhcnbocfoaaHtS
import Derived.Test.YtopamhcnbocfoaaL1
namespace Go.Proofs.Ytopamhcnbocfoaa
open Go.RowKit

/-- N rows of N numbers that are not far from 0 -/
structure Tab (N : Nat) (H : List (List Int)) : Prop where
  len : H.length = N
  row : ∀ i, i < N → (gr H i).length = N
  num : ∀ i j, i < N → j < N → -90 ≤ gi (gr H i) j ∧ gi (gr H i) j ≤ 90
theorem htT_tab {n : Nat} {c : Nat → Nat → Int} (h : Crn n c) (hn : n ≤ 6) : Tab (n + 1) (htT n c) := ⟨htT_len n c, fun i hi => tab_row hi, fun i j hi hj => by
  rw [gi_htT (by omega) (by omega)]
  have := h.hbound (show i ≤ n by omega) (show j ≤ n by omega)
  omega⟩
theorem Tab.small {N : Nat} {H : List (List Int)} (h : Tab N H) (hN : N ≤ 7) : Small H := ⟨by rw [h.len]; omega, fun i hi => by rw [h.row i (by rw [h.len] at hi; exact hi)]; omega⟩

def pairOk (m k : List (List Int)) : Prop := good m ∧ good k ∧ m.length = k.length

set_option maxRecDepth 100000 in
set_option maxHeartbeats 800000 in
theorem hePair_any (ao bo : Option Addr) (c d : Nat) (m k : List (List Int)) (w : World) (hs : Small m) (hs2 : Small k) (hm : MatAt w ao m) (hk : MatAt w bo k) :
    Calls Try.prog 64 #[.slice ao m.length c, .slice bo k.length d] w fun e w' => Ans (pairOk m k) e ∧ Below w.heap.size w w' := by
  have h1 := hs.1
  have h2 := hs2.1
  have Hs := Lib.hid hs
  have Hs2 := Lib.hid hs2
  have Hm := Lib.hid hm
  have Hk := Lib.hid hk
  clear hs hs2 hm hk
  go_enter Try.func64, Try.ntmps64
  go_wp2_with fail
  refine (sgGood_any ao c m w Hs.out Hm.out).mono ?_
  rintro e w1 ⟨ha, hb⟩
  have Hb := Lib.hid hb
  have HB := Lib.hid hb.size
  clear hb
  by_cases hg : good m
  · have Hg := Lib.hid hg
    clear hg
    obtain rfl := ha.is Hg.out
    clear ha
    go_wp2_with fail
    refine (sgGood_any bo d k w1 Hs2.out (Hk.out.below Hb.out)).mono ?_
    rintro e w2 ⟨ha, hb⟩
    have Hb2 := Lib.hid (Hb.out.trans (hb.mono HB.out))
    clear hb
    by_cases hg : good k
    · have Hg2 := Lib.hid hg
      clear hg
      obtain rfl := ha.is Hg2.out
      clear ha
      by_cases hl : m.length = k.length
      · have hl2 : ((m.length : Int) == (k.length : Int)) = true := by simp; omega
        have Hl := Lib.hid hl
        clear hl
        go_wp2
        go_ret
        exact ⟨Ans.yes ⟨Hg.out, Hg2.out, Hl.out⟩, Hb2.out⟩
      · have hl2 : ((m.length : Int) == (k.length : Int)) = false := by simp; omega
        have Hl := Lib.hid hl
        clear hl
        go_wp2
        go_ret
        exact ⟨Ans.no fun h => Hl.out h.2.2, Hb2.out⟩
    · have Hg2 := Lib.hid hg
      clear hg
      obtain rfl := ha.isnt Hg2.out
      clear ha
      go_wp2
      go_ret
      exact ⟨Ans.no fun h => Hg2.out h.2.1, Hb2.out⟩
  · have Hg := Lib.hid hg
    clear hg
    obtain rfl := ha.isnt Hg.out
    clear ha
    go_wp2
    go_ret
    exact ⟨Ans.no fun h => Hg.out h.1, Hb.out⟩

set_option maxRecDepth 100000 in
set_option maxHeartbeats 1600000 in
theorem heBelow_any (N : Nat) (ao bo : Option Addr) (c d : Nat) (A B : List (List Int)) (w : World) (hN : N ≤ 7) (hA : Tab N A) (hB : Tab N B) (hm : MatAt w ao A) (hk : MatAt w bo B) :
    Calls Try.prog 65 #[.slice ao N c, .slice bo N d] w fun e w' => Ans (∀ i j, i < N → j < N → gi (gr A i) j ≤ gi (gr B i) j) e ∧ w' = w := by
  have HA := Lib.hid hA
  have HBB := Lib.hid hB
  have Hm := Lib.hid hm
  have Hk := Lib.hid hk
  clear hA hB hm hk
  go_enter Try.func65, Try.ntmps65
  go_wp2
  go_loop [11] (fun i => ∃ k : Nat, k ≤ N ∧ i = .int .i64 k ∧ (∀ i j, i < k → j < N → gi (gr A i) j ≤ gi (gr B i) j)) (fun i => N - (intOf i).toNat)
  case atStart => exact ⟨0, Nat.zero_le _, rfl, fun i j hi _ => absurd hi (by omega)⟩
  case round =>
    obtain ⟨k, hk, rfl, hdone⟩ := hrel
    have Hd := Lib.hid hdone
    clear hdone
    by_cases hlt : k < N
    · obtain ⟨b1, o1, r1, d1, e1, hc1, hx1, _, _⟩ := Hm.out k (by rw [HA.out.len]; exact hlt)
      obtain ⟨b2, o2, r2, d2, e2, hc2, hx2, _, _⟩ := Hk.out k (by rw [HBB.out.len]; exact hlt)
      rw [HA.out.row k hlt] at hc1
      rw [HBB.out.row k hlt] at hc2
      subst e1 e2
      have Hx1 := Lib.hid hx1
      have Hx2 := Lib.hid hx2
      clear hx1 hx2
      go_wp2
      go_loop [18] (fun i => ∃ t : Nat, t ≤ N ∧ i = .int .i64 t ∧ (∀ j, j < t → gi (gr A k) j ≤ gi (gr B k) j)) (fun i => N - (intOf i).toNat)
      case atStart => exact ⟨0, Nat.zero_le _, rfl, fun j hj => absurd hj (by omega)⟩
      case round =>
        obtain ⟨t, ht, rfl, hrow⟩ := hrel
        have Hr := Lib.hid hrow
        clear hrow
        by_cases htl : t < N
        · obtain ⟨b3, o3, e3, hc3⟩ := Hx1.out t (by rw [HA.out.row k hlt]; exact htl)
          obtain ⟨b4, o4, e4, hc4⟩ := Hx2.out t (by rw [HBB.out.row k hlt]; exact htl)
          subst e3 e4
          by_cases hle : gi (gr A k) t ≤ gi (gr B k) t
          · have hd : decide (gi (gr B k) t < gi (gr A k) t) = false := by simpa using hle
            have Hle := Lib.hid hle
            clear hle
            go_wp2
            go_round
            case rel =>
              refine ⟨t + 1, by omega, by go_num, fun j hj => ?_⟩
              by_cases e : j = t
              · subst e; exact Hle.out
              · exact Hr.out j (by omega)
            case measure => simp [intOf]; omega
          · have hd : decide (gi (gr B k) t < gi (gr A k) t) = true := by simpa using hle
            have Hle := Lib.hid hle
            clear hle
            go_wp2
            go_ret
            exact ⟨Ans.no fun h => by have h1 := h k t hlt htl; have h2 := Hle.out; omega, rfl⟩
        · obtain rfl : t = N := by omega
          go_wp2
          go_round
          case rel =>
            refine ⟨k + 1, by omega, by go_num, fun i j hi hj => ?_⟩
            by_cases e : i = k
            · subst e; exact Hr.out j hj
            · exact Hd.out i j (by omega) hj
          case measure => simp [intOf]; omega
    · obtain rfl : k = N := by omega
      go_wp2
      go_ret
      exact ⟨Ans.yes Hd.out, rfl⟩

/-- the sum of the differences, without their signs -/
def apartF (A B : List (List Int)) (i j : Nat) : Int := max (gi (gr A i) j - gi (gr B i) j) (-(gi (gr A i) j - gi (gr B i) j))
theorem apart_bound {N : Nat} {A B : List (List Int)} (hA : Tab N A) (hB : Tab N B) {i j : Nat} (hi : i < N) (hj : j < N) : 0 ≤ apartF A B i j ∧ apartF A B i j ≤ 180 := by
  have h1 := hA.num i j hi hj
  have h2 := hB.num i j hi hj
  unfold apartF
  omega
theorem sum_bound {f : Nat → Int} {K : Int} (hK : 0 ≤ K) : ∀ {k : Nat}, (∀ i, i < k → 0 ≤ f i ∧ f i ≤ K) → 0 ≤ sumF f k ∧ sumF f k ≤ k * K
  | 0, _ => by simp [sumF]
  | k + 1, h => by
    have h1 := sum_bound hK (k := k) (fun i hi => h i (by omega))
    have h2 := h k (by omega)
    simp only [sumF]
    have e : ((k + 1 : Nat) : Int) * K = k * K + K := by
      rw [show ((k + 1 : Nat) : Int) = (k : Int) + 1 from by omega, Int.add_mul, Int.one_mul]
    omega

set_option maxRecDepth 100000 in
set_option maxHeartbeats 1600000 in
theorem heApart_any (N : Nat) (ao bo : Option Addr) (c d : Nat) (A B : List (List Int)) (w : World) (hN : N ≤ 7) (hA : Tab N A) (hB : Tab N B) (hm : MatAt w ao A) (hk : MatAt w bo B) :
    Calls Try.prog 79 #[.slice ao N c, .slice bo N d] w fun e w' => e = .returned (.int .i64 ((sumF (fun i => sumF (fun j => apartF A B i j) N) N) / 2)) ∧ w' = w := by
  have HA := Lib.hid hA
  have HBB := Lib.hid hB
  have Hm := Lib.hid hm
  have Hk := Lib.hid hk
  clear hA hB hm hk
  have hrowb : ∀ i t, i < N → t ≤ N → 0 ≤ sumF (fun j => apartF A B i j) t ∧ sumF (fun j => apartF A B i j) t ≤ 1260 := fun i t hi ht => by
    have := sum_bound (f := fun j => apartF A B i j) (K := 180) (by omega) (k := t) (fun j hj => apart_bound HA.out HBB.out hi (by omega))
    omega
  have htotb : ∀ t, t ≤ N → 0 ≤ sumF (fun i => sumF (fun j => apartF A B i j) N) t ∧ sumF (fun i => sumF (fun j => apartF A B i j) N) t ≤ 8820 := fun t ht => by
    have := sum_bound (f := fun i => sumF (fun j => apartF A B i j) N) (K := 1260) (by omega) (k := t) (fun j hj => hrowb j N (by omega) (Nat.le_refl _))
    omega
  have Hrowb := Lib.hid hrowb
  have Htotb := Lib.hid htotb
  clear hrowb htotb
  go_enter Try.func79, Try.ntmps79
  go_wp2
  go_loop [5, 12] (fun s i => ∃ k : Nat, k ≤ N ∧ i = .int .i64 k ∧ s = .int .i64 (sumF (fun i => sumF (fun j => apartF A B i j) N) k)) (fun _ i => N - (intOf i).toNat)
  case atStart => exact ⟨0, Nat.zero_le _, rfl, rfl⟩
  case round =>
    obtain ⟨k, hk, rfl, rfl⟩ := hrel
    have hT := Htotb.out k hk
    obtain ⟨S, hS⟩ : ∃ S, S = sumF (fun i => sumF (fun j => apartF A B i j) N) k := ⟨_, rfl⟩
    rw [← hS] at hT ⊢
    have HS := Lib.hid hS
    clear hS
    by_cases hlt : k < N
    · obtain ⟨b1, o1, r1, d1, e1, hc1, hx1, _, _⟩ := Hm.out k (by rw [HA.out.len]; exact hlt)
      obtain ⟨b2, o2, r2, d2, e2, hc2, hx2, _, _⟩ := Hk.out k (by rw [HBB.out.len]; exact hlt)
      rw [HA.out.row k hlt] at hc1
      rw [HBB.out.row k hlt] at hc2
      subst e1 e2
      have Hx1 := Lib.hid hx1
      have Hx2 := Lib.hid hx2
      clear hx1 hx2
      go_wp2
      go_loop [5, 19] (fun s i => ∃ t : Nat, t ≤ N ∧ i = .int .i64 t ∧ s = .int .i64 (S + sumF (fun j => apartF A B k j) t)) (fun _ i => N - (intOf i).toNat)
      case atStart => exact ⟨0, Nat.zero_le _, rfl, by simp [sumF]⟩
      case round =>
        obtain ⟨t, ht, rfl, rfl⟩ := hrel
        have hrb := Hrowb.out k t hlt ht
        obtain ⟨R, hR⟩ : ∃ R, R = sumF (fun j => apartF A B k j) t := ⟨_, rfl⟩
        rw [← hR] at hrb ⊢
        have HR := Lib.hid hR
        clear hR
        by_cases htl : t < N
        · obtain ⟨b3, o3, e3, hc3⟩ := Hx1.out t (by rw [HA.out.row k hlt]; exact htl)
          obtain ⟨b4, o4, e4, hc4⟩ := Hx2.out t (by rw [HBB.out.row k hlt]; exact htl)
          have hn1 := HA.out.num k t hlt htl
          have hn2 := HBB.out.num k t hlt htl
          have hap : apartF A B k t = max (gi (gr A k) t - gi (gr B k) t) (-(gi (gr A k) t - gi (gr B k) t)) := rfl
          generalize gi (gr A k) t = x at hc3 hn1 hap
          generalize gi (gr B k) t = y at hc4 hn2 hap
          subst e3 e4
          have hcall := l1Abs_any (x - y) w (by omega) (by omega)
          rw [← hap] at hcall
          have hab : 0 ≤ apartF A B k t ∧ apartF A B k t ≤ 180 := by omega
          obtain ⟨z, hz⟩ : ∃ z, z = apartF A B k t := ⟨_, rfl⟩
          rw [← hz] at hcall hab
          have HC := Lib.hid hcall
          have Hz := Lib.hid hz
          clear hcall hap hz
          go_wp2_with fail
          refine HC.out.mono ?_
          rintro e w2 ⟨rfl, rfl⟩
          go_wp2
          go_round
          case rel => exact ⟨t + 1, by omega, by go_num, by simp only [sumF]; rw [← HR.out, ← Hz.out, Int.add_assoc]⟩
          case measure => simp [intOf]; omega
        · obtain rfl : t = N := by omega
          go_wp2
          go_round
          case rel => exact ⟨k + 1, by omega, by go_num, by simp only [sumF]; rw [← HS.out, ← HR.out]⟩
          case measure => simp [intOf]; omega
    · obtain rfl : k = N := by omega
      go_wp2
      go_ret
      exact ⟨by rw [← HS.out]; rfl, rfl⟩

set_option maxRecDepth 100000 in
set_option maxHeartbeats 1600000 in
theorem heSame_any (ao bo : Option Addr) (c d : Nat) (A B : List (List Int)) (w : World) (hA : Small A) (hB : Small B) (hm : MatAt w ao A) (hk : MatAt w bo B) :
    Calls Try.prog 100 #[.slice ao A.length c, .slice bo B.length d] w fun e w' => Ans (A = B) e ∧ Below w.heap.size w w' := by
  have ha1 := hA.1
  have hb1 := hB.1
  have HA := Lib.hid hA
  have HBB := Lib.hid hB
  have Hm := Lib.hid hm
  have Hk := Lib.hid hk
  clear hA hB hm hk
  by_cases hl : A.length = B.length
  · have hl2 : ((A.length : Int) != (B.length : Int)) = false := by simp; omega
    have Hl := Lib.hid hl
    clear hl
    go_enter Try.func100, Try.ntmps100
    go_wp2
    go_loopw [14] (fun i wr => ∃ k : Nat, k ≤ A.length ∧ i = .int .i64 k ∧ (∀ j, j < k → gr A j = gr B j) ∧ Below w.heap.size w wr) (fun i _ => A.length - (intOf i).toNat)
    case atStart => exact ⟨0, Nat.zero_le _, rfl, fun j hj => absurd hj (by omega), Below.refl _ _⟩
    case round =>
      obtain ⟨k, hk, rfl, hdone, hbr⟩ := hrel
      have Hd := Lib.hid hdone
      have Hbr := Lib.hid hbr
      have HZ := hbr.size
      clear hdone hbr
      by_cases hlt : k < A.length
      · have hlt2 : k < B.length := by rw [← Hl.out]; exact hlt
        obtain ⟨b1, o1, r1, d1, e1, hc1, hx1, _, _⟩ := (Hm.out.below Hbr.out) k hlt
        obtain ⟨b2, o2, r2, d2, e2, hc2, hx2, _, _⟩ := (Hk.out.below Hbr.out) k hlt2
        subst e1 e2
        have hcall := l1Same_any r1 r2 d1 d2 (gr A k) (gr B k) wr (HA.out.2 k hlt) (HBB.out.2 k hlt2) hx1 hx2
        have HC := Lib.hid hcall
        have hla := HA.out.2 k hlt
        have hlb := HBB.out.2 k hlt2
        clear hcall hx1 hx2
        by_cases hs : gr A k = gr B k
        · have e0 : (gr A k == gr B k) = true := by simp [hs]
          rw [e0] at HC
          have Hs := Lib.hid hs
          clear hs e0
          go_wp2_with fail
          refine HC.out.mono ?_
          rintro e w2 ⟨rfl, hq⟩
          have Hb2 := Lib.hid (Hbr.out.trans ((hq.below _).mono HZ))
          clear hq
          go_wp2
          go_roundw
          case rel =>
            refine ⟨k + 1, by omega, by go_num, fun j hj => ?_, Hb2.out⟩
            by_cases e : j = k
            · subst e; exact Hs.out
            · exact Hd.out j (by omega)
          case measure => simp [intOf]; omega
        · have e0 : (gr A k == gr B k) = false := by simp [hs]
          rw [e0] at HC
          have Hs := Lib.hid hs
          clear hs e0
          go_wp2_with fail
          refine HC.out.mono ?_
          rintro e w2 ⟨rfl, hq⟩
          have Hb2 := Lib.hid (Hbr.out.trans ((hq.below _).mono HZ))
          clear hq
          go_wp2
          go_ret
          exact ⟨Ans.no fun h => Hs.out (by rw [h]), Hb2.out⟩
      · obtain rfl : k = A.length := by omega
        go_wp2
        go_ret
        exact ⟨Ans.yes (ext_gr Hl.out Hd.out), Hbr.out⟩
  · have hl2 : ((A.length : Int) != (B.length : Int)) = true := by simp; omega
    go_enter Try.func100, Try.ntmps100
    go_wp2
    go_ret
    exact ⟨Ans.no fun h => hl (by rw [h]), Below.refl _ _⟩
end Go.Proofs.Ytopamhcnbocfoaa
