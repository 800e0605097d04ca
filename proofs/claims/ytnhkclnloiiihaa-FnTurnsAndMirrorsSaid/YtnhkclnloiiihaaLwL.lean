/- Contract of the laws' helper that tells whether a table comes before another one with as many rows. Conditions: small tables. -/
import Derived.Test.YtnhkclnloiiihaaLwH
import Derived.Test.YtnhkclnloiiihaaLeastM
namespace Go.Proofs.Ytnhkclnloiiihaa
open Go.RowKit

set_option maxRecDepth 100000 in
set_option maxHeartbeats 800000 in
theorem hLess_any (a1 a2 : Option Addr) (c1 c2 n : Nat) (a b : List (List Int)) (w : World) (hn : n ≤ 1048576) (ha : sq n a) (hb : sq n b) (h1 : MatAt w a1 a) (h2 : MatAt w a2 b) :
    Calls Try.prog 62 #[.slice a1 n c1, .slice a2 n c2] w fun e w' => Ans (mless n a b) e ∧ Q w w' := by
  have hmx : n ≤ 9223372036854775807 := by omega
  have H1 := Lib.hid h1
  have H2 := Lib.hid h2
  have HA := Lib.hid ha
  have HB := Lib.hid hb
  clear h1 h2 ha hb
  go_enter Try.func62, Try.ntmps62
  go_wp2
  go_loopw [9] (fun i wr => ∃ k : Nat, k ≤ n ∧ i = .int .i64 k ∧ (∀ j, j < k → gr a j = gr b j) ∧ Q w wr) (fun i _ => n - (intOf i).toNat)
  case atStart => exact ⟨0, Nat.zero_le _, rfl, fun j hj => absurd hj (by omega), Q.refl _⟩
  case round =>
    obtain ⟨k, hk, rfl, hr, hbr⟩ := hrel
    obtain ⟨wo, rfl⟩ : ∃ wo : World, wo = wr := ⟨_, rfl⟩
    have Hr := Lib.hid hr
    have Hbr := Lib.hid hbr
    clear hr hbr
    by_cases hlt : k < n
    · obtain ⟨b1, o1, r1, d1, rfl, hc1, hx1, _, _⟩ := H1.out.below (Hbr.out.below _) k (by rw [HA.out.1]; exact hlt)
      rw [HA.out.2 k hlt] at hc1
      clear hx1
      go_wp2
      go_loopw [17] (fun i wr => ∃ t : Nat, t ≤ n ∧ i = .int .i64 t ∧ (∀ j, j < t → gi (gr a k) j = gi (gr b k) j) ∧ Q w wr) (fun i _ => n - (intOf i).toNat)
      case atStart => exact ⟨0, Nat.zero_le _, rfl, fun j hj => absurd hj (by omega), Hbr.out⟩
      case round =>
        obtain ⟨t, ht, rfl, he, hbi⟩ := hrel
        have He := Lib.hid he
        have Hbi := Lib.hid hbi
        clear he hbi hc1
        by_cases htl : t < n
        · obtain ⟨b1', o1', r1, d1, e1, hc1, hx1, _, _⟩ := H1.out.below (Hbi.out.below _) k (by rw [HA.out.1]; exact hlt)
          cases e1
          obtain ⟨b2, o2, r2, d2, rfl, hc2, hx2, _, _⟩ := H2.out.below (Hbi.out.below _) k (by rw [HB.out.1]; exact hlt)
          rw [HA.out.2 k hlt] at hc1
          rw [HB.out.2 k hlt] at hc2
          obtain ⟨p1, q1, rfl, hd1⟩ := hx1 t (by rw [HA.out.2 k hlt]; exact htl)
          obtain ⟨p2, q2, rfl, hd2⟩ := hx2 t (by rw [HB.out.2 k hlt]; exact htl)
          by_cases e : gi (gr a k) t = gi (gr b k) t
          · have HE := Lib.hid e
            rw [← e] at hd2
            obtain ⟨x, hx⟩ : ∃ x, x = gi (gr a k) t := ⟨_, rfl⟩
            rw [← hx] at hd1 hd2
            clear hx e hx1 hx2
            go_wp2
            go_quiet (fail)
            go_wp2
            go_roundw
            case rel => exact ⟨t + 1, by omega, by go_num, fun j hj => by
              by_cases ej : j = t
              · subst ej; exact HE.out
              · exact He.out j (by omega), Hbi.out.drewN _⟩
            case measure => simp [intOf]; omega
          · have hne : (gi (gr a k) t != gi (gr b k) t) = true := by simpa using e
            have hml : mless n a b ↔ gi (gr a k) t < gi (gr b k) t := by
              constructor
              · rintro ⟨i, hi, hi1, j, hj, hj1, hj2⟩
                rcases Nat.lt_trichotomy i k with h | h | h
                · rw [Hr.out i h] at hj2; omega
                · subst h
                  rcases Nat.lt_trichotomy j t with h | h | h
                  · rw [He.out j h] at hj2; omega
                  · subst h; exact hj2
                  · exact absurd (hj1 t h) e
                · exact absurd (by rw [hi1 k h]) e
              · intro h
                exact ⟨k, hlt, Hr.out, t, htl, He.out, h⟩
            have Hml := Lib.hid hml
            obtain ⟨x, hx⟩ : ∃ x, x = gi (gr a k) t := ⟨_, rfl⟩
            obtain ⟨y, hy⟩ : ∃ y, y = gi (gr b k) t := ⟨_, rfl⟩
            rw [← hx] at hd1 hne Hml
            rw [← hy] at hd2 hne Hml
            clear hx hy e hml hx1 hx2
            go_wp2
            go_quiet (fail)
            go_wp2
            go_quiet (fail)
            go_wp2
            go_ret
            exact ⟨⟨decide (x < y), rfl, by rw [decide_eq_true_iff]; exact Hml.out.symm⟩, (Hbi.out.drewN _).drewN _⟩
        · obtain rfl : t = n := by omega
          have hrow : gr a k = gr b k := ext_gi (by rw [HA.out.2 k hlt, HB.out.2 k hlt]) (fun j hj => He.out j (by rw [HA.out.2 k hlt] at hj; exact hj))
          have Hrow := Lib.hid hrow
          clear hrow
          go_wp2
          go_roundw
          case rel => exact ⟨k + 1, by omega, by go_num, fun j hj => by
            by_cases ej : j = k
            · subst ej; exact Hrow.out
            · exact Hr.out j (by omega), Hbi.out⟩
          case measure => simp [intOf]; omega
    · obtain rfl : k = n := by omega
      have heq : a = b := ext_gr (by rw [HA.out.1, HB.out.1]) (fun i hi => Hr.out i (by rw [HA.out.1] at hi; exact hi))
      have Hno := Lib.hid (show ¬ mless k a b from by rw [heq]; exact mless_irrefl)
      clear heq
      go_wp2
      go_ret
      exact ⟨Ans.no Hno.out, Hbr.out⟩
theorem hLess_of (a1 a2 : Option Addr) (c1 c2 n : Nat) (a b : List (List Int)) (w : World) (hn : n ≤ 1048576) (ha : sq n a) (hb : sq n b) (h1 : MatAt w a1 a) (h2 : MatAt w a2 b) :
    Calls Try.prog 62 #[.slice a1 a.length c1, .slice a2 b.length c2] w fun e w' => Ans (mless n a b) e ∧ Q w w' := by
  rw [ha.1, hb.1]
  exact hLess_any a1 a2 c1 c2 n a b w hn ha hb h1 h2
end Go.Proofs.Ytnhkclnloiiihaa
