/- Contracts of the model: pairs of sign matrices, tables compared, the distance of two tables, the lesser or the greater numbers of both. Conditions: as each says. -/
import Derived.Test.YtogkmfndfedfiaaHtS
import Derived.Test.YtogkmfndfedfiaaL1
namespace Go.Proofs.Ytogkmfndfedfiaa
open Go.RowKit

/-- N rows of N numbers that are not far from 0 -/
structure Tab (N : Nat) (H : List (List Int)) : Prop where
  len : H.length = N
  row : ∀ i, i < N → (gr H i).length = N
  num : ∀ i j, i < N → j < N → -90 ≤ gi (gr H i) j ∧ gi (gr H i) j ≤ 90
theorem htT_tab {n : Nat} {c : Nat → Nat → Int} (h : Crn n c) (hn : n ≤ 6) : Tab (n + 1) (htT n c) := ⟨htT_len n c, fun i hi => tab_row hi, fun i j hi hj => by
  rw [gi_htT (by omega) (by omega)]
  have := h.hbound (show i ≤ n by omega) (show j ≤ n by omega)
  omega⟩
theorem Tab.small {N : Nat} {H : List (List Int)} (h : Tab N H) (hN : N ≤ 7) : Small H := ⟨by rw [h.len]; omega, fun i hi => by rw [h.row i (by rw [h.len] at hi; exact hi)]; omega⟩

def pairOk (m k : List (List Int)) : Prop := good m ∧ good k ∧ m.length = k.length

set_option maxRecDepth 100000 in
set_option maxHeartbeats 800000 in
theorem hePair_any (ao bo : Option Addr) (c d : Nat) (m k : List (List Int)) (w : World) (hs : Small m) (hs2 : Small k) (hm : MatAt w ao m) (hk : MatAt w bo k) :
    Calls Try.prog 63 #[.slice ao m.length c, .slice bo k.length d] w fun e w' => Ans (pairOk m k) e ∧ Below w.heap.size w w' := by
  have h1 := hs.1
  have h2 := hs2.1
  have Hs := Lib.hid hs
  have Hs2 := Lib.hid hs2
  have Hm := Lib.hid hm
  have Hk := Lib.hid hk
  clear hs hs2 hm hk
  go_enter Try.func63, Try.ntmps63
  go_wp2_with fail
  refine (sgGood_any ao c m w Hs.out Hm.out).mono ?_
  rintro e w1 ⟨ha, hb⟩
  have Hb := Lib.hid hb
  have HB := Lib.hid hb.size
  clear hb
  by_cases hg : good m
  · have Hg := Lib.hid hg
    clear hg
    obtain rfl := ha.is Hg.out
    clear ha
    go_wp2_with fail
    refine (sgGood_any bo d k w1 Hs2.out (Hk.out.below Hb.out)).mono ?_
    rintro e w2 ⟨ha, hb⟩
    have Hb2 := Lib.hid (Hb.out.trans (hb.mono HB.out))
    clear hb
    by_cases hg : good k
    · have Hg2 := Lib.hid hg
      clear hg
      obtain rfl := ha.is Hg2.out
      clear ha
      by_cases hl : m.length = k.length
      · have hl2 : ((m.length : Int) == (k.length : Int)) = true := by simp; omega
        have Hl := Lib.hid hl
        clear hl
        go_wp2
        go_ret
        exact ⟨Ans.yes ⟨Hg.out, Hg2.out, Hl.out⟩, Hb2.out⟩
      · have hl2 : ((m.length : Int) == (k.length : Int)) = false := by simp; omega
        have Hl := Lib.hid hl
        clear hl
        go_wp2
        go_ret
        exact ⟨Ans.no fun h => Hl.out h.2.2, Hb2.out⟩
    · have Hg2 := Lib.hid hg
      clear hg
      obtain rfl := ha.isnt Hg2.out
      clear ha
      go_wp2
      go_ret
      exact ⟨Ans.no fun h => Hg2.out h.2.1, Hb2.out⟩
  · have Hg := Lib.hid hg
    clear hg
    obtain rfl := ha.isnt Hg.out
    clear ha
    go_wp2
    go_ret
    exact ⟨Ans.no fun h => Hg.out h.1, Hb.out⟩

/-- the sum of the differences, without their signs -/
def apartF (A B : List (List Int)) (i j : Nat) : Int := max (gi (gr A i) j - gi (gr B i) j) (-(gi (gr A i) j - gi (gr B i) j))
theorem apart_bound {N : Nat} {A B : List (List Int)} (hA : Tab N A) (hB : Tab N B) {i j : Nat} (hi : i < N) (hj : j < N) : 0 ≤ apartF A B i j ∧ apartF A B i j ≤ 180 := by
  have h1 := hA.num i j hi hj
  have h2 := hB.num i j hi hj
  unfold apartF
  omega
theorem sum_bound {f : Nat → Int} {K : Int} (hK : 0 ≤ K) : ∀ {k : Nat}, (∀ i, i < k → 0 ≤ f i ∧ f i ≤ K) → 0 ≤ sumF f k ∧ sumF f k ≤ k * K
  | 0, _ => by simp [sumF]
  | k + 1, h => by
    have h1 := sum_bound hK (k := k) (fun i hi => h i (by omega))
    have h2 := h k (by omega)
    simp only [sumF]
    have e : ((k + 1 : Nat) : Int) * K = k * K + K := by
      rw [show ((k + 1 : Nat) : Int) = (k : Int) + 1 from by omega, Int.add_mul, Int.one_mul]
    omega

set_option maxRecDepth 100000 in
set_option maxHeartbeats 1600000 in
theorem heSame_any (ao bo : Option Addr) (c d : Nat) (A B : List (List Int)) (w : World) (hA : Small A) (hB : Small B) (hm : MatAt w ao A) (hk : MatAt w bo B) :
    Calls Try.prog 64 #[.slice ao A.length c, .slice bo B.length d] w fun e w' => Ans (A = B) e ∧ Below w.heap.size w w' := by
  have ha1 := hA.1
  have hb1 := hB.1
  have HA := Lib.hid hA
  have HBB := Lib.hid hB
  have Hm := Lib.hid hm
  have Hk := Lib.hid hk
  clear hA hB hm hk
  by_cases hl : A.length = B.length
  · have hl2 : ((A.length : Int) != (B.length : Int)) = false := by simp; omega
    have Hl := Lib.hid hl
    clear hl
    go_enter Try.func64, Try.ntmps64
    go_wp2
    go_loopw [14] (fun i wr => ∃ k : Nat, k ≤ A.length ∧ i = .int .i64 k ∧ (∀ j, j < k → gr A j = gr B j) ∧ Below w.heap.size w wr) (fun i _ => A.length - (intOf i).toNat)
    case atStart => exact ⟨0, Nat.zero_le _, rfl, fun j hj => absurd hj (by omega), Below.refl _ _⟩
    case round =>
      obtain ⟨k, hk, rfl, hdone, hbr⟩ := hrel
      have Hd := Lib.hid hdone
      have Hbr := Lib.hid hbr
      have HZ := hbr.size
      clear hdone hbr
      by_cases hlt : k < A.length
      · have hlt2 : k < B.length := by rw [← Hl.out]; exact hlt
        obtain ⟨b1, o1, r1, d1, e1, hc1, hx1, _, _⟩ := (Hm.out.below Hbr.out) k hlt
        obtain ⟨b2, o2, r2, d2, e2, hc2, hx2, _, _⟩ := (Hk.out.below Hbr.out) k hlt2
        subst e1 e2
        have hcall := l1Same_any r1 r2 d1 d2 (gr A k) (gr B k) wr (HA.out.2 k hlt) (HBB.out.2 k hlt2) hx1 hx2
        have HC := Lib.hid hcall
        have hla := HA.out.2 k hlt
        have hlb := HBB.out.2 k hlt2
        clear hcall hx1 hx2
        by_cases hs : gr A k = gr B k
        · have e0 : (gr A k == gr B k) = true := by simp [hs]
          rw [e0] at HC
          have Hs := Lib.hid hs
          clear hs e0
          go_wp2_with fail
          refine HC.out.mono ?_
          rintro e w2 ⟨rfl, hq⟩
          have Hb2 := Lib.hid (Hbr.out.trans ((hq.below _).mono HZ))
          clear hq
          go_wp2
          go_roundw
          case rel =>
            refine ⟨k + 1, by omega, by go_num, fun j hj => ?_, Hb2.out⟩
            by_cases e : j = k
            · subst e; exact Hs.out
            · exact Hd.out j (by omega)
          case measure => simp [intOf]; omega
        · have e0 : (gr A k == gr B k) = false := by simp [hs]
          rw [e0] at HC
          have Hs := Lib.hid hs
          clear hs e0
          go_wp2_with fail
          refine HC.out.mono ?_
          rintro e w2 ⟨rfl, hq⟩
          have Hb2 := Lib.hid (Hbr.out.trans ((hq.below _).mono HZ))
          clear hq
          go_wp2
          go_ret
          exact ⟨Ans.no fun h => Hs.out (by rw [h]), Hb2.out⟩
      · obtain rfl : k = A.length := by omega
        go_wp2
        go_ret
        exact ⟨Ans.yes (ext_gr Hl.out Hd.out), Hbr.out⟩
  · have hl2 : ((A.length : Int) != (B.length : Int)) = true := by simp; omega
    go_enter Try.func64, Try.ntmps64
    go_wp2
    go_ret
    exact ⟨Ans.no fun h => hl (by rw [h]), Below.refl _ _⟩
end Go.Proofs.Ytogkmfndfedfiaa
