/- Contracts: how many numbers of a triangle are equal to the one behind, by the program and by the model. Condition: small tables. -/
import Derived.Test.YtcifcombbdblgaaTriG
import Derived.Test.YtcifcombbdblgaaScal
namespace Go.Proofs.Ytcifcombbdblgaa
open Go.RowKit

def eqAt (row above : List Int) (i : Nat) : Int := if gi above i = gi row i then 1 else 0
def eqn (row above : List Int) (k : Nat) : Int := sumF (eqAt row above) k
theorem eqAt_01 (row above : List Int) (i : Nat) : 0 ≤ eqAt row above i ∧ eqAt row above i ≤ 1 := by unfold eqAt; split <;> omega
theorem eqn_bd (row above : List Int) : ∀ k, 0 ≤ eqn row above k ∧ eqn row above k ≤ k
  | 0 => by simp [eqn, sumF]
  | k + 1 => by
    have h1 := eqn_bd row above k
    have h2 := eqAt_01 row above k
    have e : eqn row above (k + 1) = eqn row above k + eqAt row above k := rfl
    omega

set_option maxHeartbeats 400000 in
theorem equalNumbers_any (a1 a2 : Option Addr) (c1 c2 : Nat) (row above : List Int) (w : World) (hn : row.length ≤ 1048576) (hl : above.length ≤ row.length) (h1 : IntsAt w a1 row) (h2 : IntsAt w a2 above) :
    Calls Try.prog 35 #[.slice a1 row.length c1, .slice a2 above.length c2] w fun e w' => e = .returned (.int .i64 (eqn row above above.length)) ∧ w = w' := by
  have hmx : row.length ≤ 9223372036854775807 := by omega
  have hmx2 : above.length ≤ 9223372036854775807 := by omega
  have H1 := Lib.hid h1
  have H2 := Lib.hid h2
  clear h1 h2
  go_enter Try.func35, Try.ntmps35
  go_wp2
  go_loop [5, 10] (fun s i => ∃ k : Nat, k ≤ above.length ∧ i = .int .i64 k ∧ s = .int .i64 (eqn row above k)) (fun _ i => above.length - (intOf i).toNat)
  case atStart => exact ⟨0, Nat.zero_le _, rfl, rfl⟩
  case round =>
    obtain ⟨k, hk, rfl, rfl⟩ := hrel
    have hbd := eqn_bd row above k
    by_cases hlt : k < above.length
    · obtain ⟨b, o, rfl, hc⟩ := H2.out k hlt
      obtain ⟨b', o', rfl, hc1⟩ := H1.out k (by omega)
      have E1 := Lib.hid (show eqn row above (k + 1) = eqn row above k + eqAt row above k from rfl)
      by_cases e : gi above k = gi row k
      · have E2 := Lib.hid (show eqAt row above k = 1 from if_pos e)
        obtain ⟨x, hxv⟩ : ∃ x, x = gi row k := ⟨_, rfl⟩
        rw [e] at hc
        rw [← hxv] at hc hc1
        obtain ⟨s, hsv⟩ : ∃ s, s = eqn row above k := ⟨_, rfl⟩
        rw [← hsv] at hbd ⊢
        have Hs := Lib.hid hsv
        have hb : (x == x) = true := by simp
        clear hxv e hsv
        go_wp2
        go_round
        case rel => exact ⟨k + 1, by omega, by go_num, by rw [E1.out, E2.out, ← Hs.out]⟩
        case measure => simp [intOf]; omega
      · have E2 := Lib.hid (show eqAt row above k = 0 from if_neg e)
        have hb : (gi above k == gi row k) = false := by simpa using e
        obtain ⟨s, hsv⟩ : ∃ s, s = eqn row above k := ⟨_, rfl⟩
        rw [← hsv] at hbd ⊢
        have Hs := Lib.hid hsv
        clear e hsv
        go_wp2
        go_round
        case rel => exact ⟨k + 1, by omega, by go_num, by rw [E1.out, E2.out, ← Hs.out, Int.add_zero]⟩
        case measure => simp [intOf]; omega
    · obtain rfl : k = above.length := by omega
      go_wp2
      go_ret
      exact ⟨rfl, rfl⟩

/-- .. in the first k rows but one -/
def desc (t : List (List Int)) (k : Nat) : Int := sumF (fun i => eqn (gr t (i + 1)) (gr t i) (gr t i).length) k
theorem desc_bd {t : List (List Int)} (h : isTri t) : ∀ k, k < t.length → 0 ≤ desc t k ∧ desc t k ≤ k * 6
  | 0, _ => by simp [desc, sumF]
  | k + 1, hk => by
    have h1 := desc_bd h k (by omega)
    have h2 := eqn_bd (gr t (k + 1)) (gr t k) (gr t k).length
    have h3 := (h.2.2 k (by omega)).1
    have h4 := h.2.1
    have e : desc t (k + 1) = desc t k + eqn (gr t (k + 1)) (gr t k) (gr t k).length := rfl
    omega

set_option maxHeartbeats 800000 in
theorem implDescendsOf_any (ao : Option Addr) (c : Nat) (m : List (List Int)) (w : World) (hs : Small m) (_ : WfM m) (hm : MatAt w ao m) :
    Calls Try.prog 22 #[.slice ao m.length c] w fun e w' => IRes (isTri m) (desc m (m.length - 1)) e ∧ Below w.heap.size w w' := by
  have hn := hs.1
  have hmx : m.length ≤ 9223372036854775807 := by omega
  have Hs := Lib.hid hs
  have Hm := Lib.hid hm
  clear hs hm
  by_cases hg : isTri m
  · have h0 := hg.1
    have Hg := Lib.hid hg
    clear hg
    go_enter Try.func22, Try.ntmps22
    go_wp2_with fail
    refine (implIsTriangle_any ao c m w Hs.out Hm.out).mono ?_
    rintro e w1 ⟨ha, rfl⟩
    obtain rfl := ha.is Hg.out
    clear ha
    go_wp2
    go_loopw [4, 5] (fun s i wr => ∃ k : Nat, k < m.length ∧ i = .int .i64 ((k + 1 : Nat) : Int) ∧ s = .int .i64 (desc m k) ∧ Q w wr) (fun _ i _ => m.length - (intOf i).toNat)
    case atStart => exact ⟨0, by omega, rfl, rfl, Q.refl _⟩
    case round =>
      obtain ⟨k, hk, rfl, rfl, hq⟩ := hrel
      have hbd := desc_bd Hg.out k hk
      have hm6 := Hg.out.2.1
      by_cases hlt : k + 1 < m.length
      · obtain ⟨b1, o1, r1, d1, e0, hc1, hx1, _, _⟩ := Hm.out.below (hq.below _) (k + 1) hlt
        obtain ⟨b2, o2, r2, d2, e0', hc2, hx2, _, _⟩ := Hm.out.below (hq.below _) k hk
        rw [e0] at e0'
        cases e0'
        subst e0
        have Hx1 := Lib.hid hx1
        have Hx2 := Lib.hid hx2
        have L1 := Lib.hid (Hg.out.2.2 (k + 1) hlt).1
        have L2 := Lib.hid (Hg.out.2.2 k hk).1
        have E1 := Lib.hid (show desc m (k + 1) = desc m k + eqn (gr m (k + 1)) (gr m k) (gr m k).length from rfl)
        have hbd2 := eqn_bd (gr m (k + 1)) (gr m k) (gr m k).length
        have hbd3 : eqn (gr m (k + 1)) (gr m k) (gr m k).length ≤ 6 := by have := L2.out; omega
        obtain ⟨s, hsv⟩ : ∃ s, s = desc m k := ⟨_, rfl⟩
        rw [← hsv] at hbd ⊢
        have Hsv := Lib.hid hsv
        have hk1 : ((k + 1 : Nat) : Int) - 1 = (k : Int) := by omega
        clear hx1 hx2 hsv
        have hcall : ∀ nq, Calls Try.prog 35 #[.slice r1 (gr m (k + 1)).length d1, .slice r2 (gr m k).length d2] (wr.drewN nq) fun e w' => e = .returned (.int .i64 (eqn (gr m (k + 1)) (gr m k) (gr m k).length)) ∧ w' = wr.drewN nq := fun nq =>
          (equalNumbers_any r1 r2 d1 d2 (gr m (k + 1)) (gr m k) (wr.drewN nq) (by have := L1.out; omega) (by have := L1.out; have := L2.out; omega) (Hx1.out.below ((Q.refl wr).drewN nq |>.below _)) (Hx2.out.below ((Q.refl wr).drewN nq |>.below _))).mono fun e w' h => ⟨h.1, h.2.symm⟩
        obtain ⟨y, hyv⟩ : ∃ y, y = eqn (gr m (k + 1)) (gr m k) (gr m k).length := ⟨_, rfl⟩
        rw [← hyv] at hbd2 hbd3 hcall
        have Hyv := Lib.hid hyv
        have HC := Lib.hid hcall
        clear hyv hcall
        go_wp2
        go_quiet ((go_at_call 35; exact Calls.quiet_of_same (HC.out _)))
        go_wp2
        go_roundw
        case rel => exact ⟨k + 1, by omega, by go_num, by rw [E1.out, ← Hsv.out, ← Hyv.out], hq.drewN _⟩
        case measure => simp [intOf]; omega
      · obtain rfl : k = m.length - 1 := by omega
        go_wp2
        go_ret2
        exact ⟨IRes.yes Hg.out, hq.below _⟩
  · have Hg := Lib.hid hg
    clear hg
    go_enter Try.func22, Try.ntmps22
    go_wp2_with fail
    refine (implIsTriangle_any ao c m w Hs.out Hm.out).mono ?_
    rintro e w1 ⟨ha, rfl⟩
    obtain rfl := ha.isnt Hg.out
    clear ha
    go_wp2
    go_ret2
    exact ⟨IRes.no Hg.out, Below.refl _ _⟩

set_option maxHeartbeats 800000 in
theorem specDescendsOf_any (ao : Option Addr) (c : Nat) (m : List (List Int)) (w : World) (hs : Small m) (hm : MatAt w ao m) :
    Calls Try.prog 21 #[.slice ao m.length c] w fun e w' => IRes (isTri m) (desc m (m.length - 1)) e ∧ Below w.heap.size w w' := by
  have hn := hs.1
  have hmx : m.length ≤ 9223372036854775807 := by omega
  have Hs := Lib.hid hs
  have Hm := Lib.hid hm
  clear hs hm
  by_cases hg : isTri m
  · have h0 := hg.1
    have Hg := Lib.hid hg
    clear hg
    go_enter Try.func21, Try.ntmps21
    go_wp2_with fail
    refine (trGood_any ao c m w Hs.out Hm.out).mono ?_
    rintro e w1 ⟨ha, rfl⟩
    obtain rfl := ha.is Hg.out
    clear ha
    go_wp2
    go_loop [4, 5] (fun s i => ∃ k : Nat, k < m.length ∧ i = .int .i64 ((k + 1 : Nat) : Int) ∧ s = .int .i64 (desc m k)) (fun _ i => m.length - (intOf i).toNat)
    case atStart => exact ⟨0, by omega, rfl, rfl⟩
    case round =>
      obtain ⟨k, hk, rfl, rfl⟩ := hrel
      have hbd := desc_bd Hg.out k hk
      have hm6 := Hg.out.2.1
      by_cases hlt : k + 1 < m.length
      · obtain ⟨b1, o1, r1, d1, e0, hc1, hx1, _, _⟩ := Hm.out (k + 1) hlt
        obtain ⟨b2, o2, r2, d2, e0', hc2, hx2, _, _⟩ := Hm.out k hk
        rw [e0] at e0'
        cases e0'
        subst e0
        have Hx1 := Lib.hid hx1
        have Hx2 := Lib.hid hx2
        have L1 := Lib.hid (Hg.out.2.2 (k + 1) hlt).1
        have L2 := Lib.hid (Hg.out.2.2 k hk).1
        have hr2 : (gr m k).length ≤ 6 := by have := L2.out; omega
        have E1 := Lib.hid (show desc m (k + 1) = desc m k + eqn (gr m (k + 1)) (gr m k) (gr m k).length from rfl)
        obtain ⟨s, hsv⟩ : ∃ s, s = desc m k := ⟨_, rfl⟩
        rw [← hsv] at hbd ⊢
        have Hsv := Lib.hid hsv
        have hk1 : ((k + 1 : Nat) : Int) - 1 = (k : Int) := by omega
        clear hx1 hx2 hsv
        go_wp2
        go_loop [4, 23] (fun s' i => ∃ t : Nat, t ≤ (gr m k).length ∧ i = .int .i64 t ∧ s' = .int .i64 (s + eqn (gr m (k + 1)) (gr m k) t)) (fun _ i => (gr m k).length - (intOf i).toNat)
        case atStart => exact ⟨0, Nat.zero_le _, rfl, by simp [eqn, sumF]⟩
        case round =>
          obtain ⟨t, ht, rfl, rfl⟩ := hrel
          have hbt := eqn_bd (gr m (k + 1)) (gr m k) t
          by_cases htl : t < (gr m k).length
          · obtain ⟨b, o, rfl, hc⟩ := Hx2.out t htl
            obtain ⟨b', o', rfl, hc'⟩ := Hx1.out t (by have := L1.out; have := L2.out; omega)
            have htl2 : t < (gr m (k + 1)).length := by have := L1.out; have := L2.out; omega
            have hr1 : (gr m (k + 1)).length ≤ 9223372036854775807 := by have := L1.out; omega
            have F1 := Lib.hid (show eqn (gr m (k + 1)) (gr m k) (t + 1) = eqn (gr m (k + 1)) (gr m k) t + eqAt (gr m (k + 1)) (gr m k) t from rfl)
            by_cases e : gi (gr m k) t = gi (gr m (k + 1)) t
            · have E2 := Lib.hid (show eqAt (gr m (k + 1)) (gr m k) t = 1 from if_pos e)
              obtain ⟨x, hxv⟩ : ∃ x, x = gi (gr m (k + 1)) t := ⟨_, rfl⟩
              rw [e] at hc
              rw [← hxv] at hc hc'
              obtain ⟨u, huv⟩ : ∃ u, u = eqn (gr m (k + 1)) (gr m k) t := ⟨_, rfl⟩
              rw [← huv] at hbt ⊢
              have Hu := Lib.hid huv
              have hb : (x == x) = true := by simp
              clear hxv e huv
              go_wp2
              go_round
              case rel => exact ⟨t + 1, by omega, by go_num, by rw [F1.out, E2.out, ← Hu.out, Int.add_assoc]⟩
              case measure => simp [intOf]; omega
            · have E2 := Lib.hid (show eqAt (gr m (k + 1)) (gr m k) t = 0 from if_neg e)
              have hb : (gi (gr m k) t == gi (gr m (k + 1)) t) = false := by simpa using e
              obtain ⟨u, huv⟩ : ∃ u, u = eqn (gr m (k + 1)) (gr m k) t := ⟨_, rfl⟩
              rw [← huv] at hbt ⊢
              have Hu := Lib.hid huv
              clear e huv
              go_wp2
              go_round
              case rel => exact ⟨t + 1, by omega, by go_num, by rw [F1.out, E2.out, ← Hu.out, Int.add_zero]⟩
              case measure => simp [intOf]; omega
          · obtain rfl : t = (gr m k).length := by omega
            obtain ⟨u, huv⟩ : ∃ u, u = eqn (gr m (k + 1)) (gr m k) (gr m k).length := ⟨_, rfl⟩
            rw [← huv] at hbt ⊢
            have Hu := Lib.hid huv
            clear huv
            go_wp2
            go_round
            case rel => exact ⟨k + 1, by omega, by go_num, by rw [E1.out, ← Hsv.out, ← Hu.out]⟩
            case measure => simp [intOf]; omega
      · obtain rfl : k = m.length - 1 := by omega
        go_wp2
        go_ret2
        exact ⟨IRes.yes Hg.out, Below.refl _ _⟩
  · have Hg := Lib.hid hg
    clear hg
    go_enter Try.func21, Try.ntmps21
    go_wp2_with fail
    refine (trGood_any ao c m w Hs.out Hm.out).mono ?_
    rintro e w1 ⟨ha, rfl⟩
    obtain rfl := ha.isnt Hg.out
    clear ha
    go_wp2
    go_ret2
    exact ⟨IRes.no Hg.out, Below.refl _ _⟩
end Go.Proofs.Ytcifcombbdblgaa
