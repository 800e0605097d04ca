/- Parts of proofs: contracts and plain facts. Conditions: as each says. -/
import Derived.Test.YtjkpokpidpampaaDoorK12
namespace Go.Proofs.YtjkpokpidpampaaDoor
open Go.RowKit

def eqAt (row above : List Int) (i : Nat) : Int := if gi above i = gi row i then 1 else 0
def eqn (row above : List Int) (k : Nat) : Int := sumF (eqAt row above) k
theorem eqAt_01 (row above : List Int) (i : Nat) : 0 ≤ eqAt row above i ∧ eqAt row above i ≤ 1 := by unfold eqAt; split <;> omega
theorem eqn_bd (row above : List Int) : ∀ k, 0 ≤ eqn row above k ∧ eqn row above k ≤ k
  | 0 => by simp [eqn, sumF]
  | k + 1 => by
    have h1 := eqn_bd row above k
    have h2 := eqAt_01 row above k
    have e : eqn row above (k + 1) = eqn row above k + eqAt row above k := rfl
    omega

set_option maxRecDepth 100000 in
set_option maxHeartbeats 400000 in
theorem equalNumbers_any (a1 a2 : Option Addr) (c1 c2 : Nat) (row above : List Int) (w : World) (hn : row.length ≤ 1048576) (hl : above.length ≤ row.length) (h1 : IntsAt w a1 row) (h2 : IntsAt w a2 above) :
    Calls Tryd.prog 74 #[.slice a1 row.length c1, .slice a2 above.length c2] w fun e w' => e = .returned (.int .i64 (eqn row above above.length)) ∧ w = w' := by
  have hmx : row.length ≤ 9223372036854775807 := by omega
  have hmx2 : above.length ≤ 9223372036854775807 := by omega
  have H1 := Lib.hid h1
  have H2 := Lib.hid h2
  clear h1 h2
  go_enter Tryd.func74, Tryd.ntmps74
  go_wp2
  go_loop [5, 10] (fun s i => ∃ k : Nat, k ≤ above.length ∧ i = .int .i64 k ∧ s = .int .i64 (eqn row above k)) (fun _ i => above.length - (intOf i).toNat)
  case atStart => exact ⟨0, Nat.zero_le _, rfl, rfl⟩
  case round =>
    obtain ⟨k, hk, rfl, rfl⟩ := hrel
    have hbd := eqn_bd row above k
    by_cases hlt : k < above.length
    · obtain ⟨b, o, rfl, hc⟩ := H2.out k hlt
      obtain ⟨b', o', rfl, hc1⟩ := H1.out k (by omega)
      have E1 := Lib.hid (show eqn row above (k + 1) = eqn row above k + eqAt row above k from rfl)
      by_cases e : gi above k = gi row k
      · have E2 := Lib.hid (show eqAt row above k = 1 from if_pos e)
        obtain ⟨x, hxv⟩ : ∃ x, x = gi row k := ⟨_, rfl⟩
        rw [e] at hc
        rw [← hxv] at hc hc1
        obtain ⟨s, hsv⟩ : ∃ s, s = eqn row above k := ⟨_, rfl⟩
        rw [← hsv] at hbd ⊢
        have Hs := Lib.hid hsv
        have hb : (x == x) = true := by simp
        clear hxv e hsv
        go_wp2
        go_round
        case rel => exact ⟨k + 1, by omega, by go_num, by rw [E1.out, E2.out, ← Hs.out]⟩
        case measure => simp [intOf]; omega
      · have E2 := Lib.hid (show eqAt row above k = 0 from if_neg e)
        have hb : (gi above k == gi row k) = false := by simpa using e
        obtain ⟨s, hsv⟩ : ∃ s, s = eqn row above k := ⟨_, rfl⟩
        rw [← hsv] at hbd ⊢
        have Hs := Lib.hid hsv
        clear e hsv
        go_wp2
        go_round
        case rel => exact ⟨k + 1, by omega, by go_num, by rw [E1.out, E2.out, ← Hs.out, Int.add_zero]⟩
        case measure => simp [intOf]; omega
    · obtain rfl : k = above.length := by omega
      go_wp2
      go_ret
      exact ⟨rfl, rfl⟩

/-- .. in the first k rows but one -/
def desc (t : List (List Int)) (k : Nat) : Int := sumF (fun i => eqn (gr t (i + 1)) (gr t i) (gr t i).length) k
theorem desc_bd {t : List (List Int)} (h : isTri t) : ∀ k, k < t.length → 0 ≤ desc t k ∧ desc t k ≤ k * 6
  | 0, _ => by simp [desc, sumF]
  | k + 1, hk => by
    have h1 := desc_bd h k (by omega)
    have h2 := eqn_bd (gr t (k + 1)) (gr t k) (gr t k).length
    have h3 := (h.2.2 k (by omega)).1
    have h4 := h.2.1
    have e : desc t (k + 1) = desc t k + eqn (gr t (k + 1)) (gr t k) (gr t k).length := rfl
    omega

end Go.Proofs.YtjkpokpidpampaaDoor

