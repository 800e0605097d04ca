/- Contracts of the model's patterns: what is one, their texts, mirrored and turned ones. Condition: up to 2^20 numbers. -/
import Derived.Test.YtncpoljjfhmkeaaPat
import Derived.Test.YtncpoljjfhmkeaaDiff
import Derived.Test.YtncpoljjfhmkeaaLRes
import Derived.Test.YtncpoljjfhmkeaaText
namespace Go.Proofs.Ytncpoljjfhmkeaa
open Go.RowKit

/-- the first k ends keep what a pattern asks -/
def patTo (p : List Int) (k : Nat) : Prop := ∀ i, i < k → (gi p i ≠ i ∧ gi p (gi p i).toNat = i) ∧ ∀ j : Nat, i < j → (j : Int) < gi p i → (i : Int) < gi p j ∧ gi p j < gi p i
theorem isPat.all {p : List Int} (h : isPat p) : allIn p 0 ((p.length : Int) - 1) := fun i hi => by have := h.inside i hi; omega
theorem isPat.to {p : List Int} (h : isPat p) : patTo p p.length := fun i hi => ⟨h.other i hi, h.apart i hi⟩
theorem isPat.of {p : List Int} (h1 : p.length % 2 = 0) (h2 : 2 ≤ p.length) (h3 : p.length ≤ 12) (h4 : allIn p 0 ((p.length : Int) - 1)) (h5 : patTo p p.length) : isPat p :=
  ⟨h1, h2, h3, fun i hi => by have := h4 i hi; omega, fun i hi => (h5 i hi).1, fun i hi => (h5 i hi).2⟩

set_option maxRecDepth 100000 in
set_option maxHeartbeats 1600000 in
theorem loIsPattern_any (ao : Option Addr) (c : Nat) (p : List Int) (w : World) (hn : p.length ≤ 1048576) (hx : IntsAt w ao p) :
    Calls Try.prog 56 #[.slice ao p.length c] w fun e w' => Ans (isPat p) e ∧ w = w' := by
  have hmx : p.length ≤ 9223372036854775807 := by omega
  have Hx := Lib.hid hx
  clear hx
  by_cases hev : p.length % 2 = 0
  · have hb0 : ((p.length : Int) % 2 == 1) = false := by simp; omega
    have Hev := Lib.hid hev
    clear hev
    by_cases h26 : 2 ≤ p.length ∧ p.length ≤ 12
    · obtain ⟨h2, h12⟩ := h26
      go_enter Try.func56, Try.ntmps56
      go_wp2_with fail
      refine (l1In_any _ _ _ w).mono ?_
      rintro e w2 ⟨ha, rfl⟩
      obtain rfl := ha.is ⟨by omega, by omega⟩
      clear ha
      go_wp2_with fail
      refine (l1All_any ao c p _ _ w hn Hx.out).mono ?_
      rintro e w2 ⟨ha, rfl⟩
      by_cases hall : allIn p 0 ((p.length : Int) - 1)
      · have Hall := Lib.hid hall
        clear hall
        obtain rfl := ha.is Hall.out
        clear ha
        go_wp2
        go_loop [27] (fun i => ∃ k : Nat, k ≤ p.length ∧ i = .int .i64 k ∧ patTo p k) (fun i => p.length - (intOf i).toNat)
        case atStart => exact ⟨0, Nat.zero_le _, rfl, fun i hi => absurd hi (by omega)⟩
        case round =>
          obtain ⟨k, hk, rfl, hd⟩ := hrel
          have Hd := Lib.hid hd
          clear hd
          by_cases hlt : k < p.length
          · obtain ⟨b1, o1, rfl, hc1⟩ := Hx.out k hlt
            have hin := Hall.out k hlt
            obtain ⟨x, hxe⟩ : ∃ x : Nat, gi p k = x := ⟨(gi p k).toNat, by omega⟩
            rw [hxe] at hc1 hin
            obtain ⟨b2, o2, e2, hc2⟩ := Hx.out x (by omega)
            cases e2
            have Hxe := Lib.hid hxe
            clear hxe
            by_cases h1 : x = k
            · have hb : ((x : Int) == (k : Int)) = true := by simp; omega
              have H1 := Lib.hid h1
              clear h1 hc2
              go_wp2
              go_ret
              exact ⟨Ans.no fun h => (h.other k hlt).1 (by rw [Hxe.out, H1.out]), rfl⟩
            · have hb : ((x : Int) == (k : Int)) = false := by simp; omega
              have H1 := Lib.hid h1
              clear h1
              by_cases h3 : gi p x = k
              · have H3 := Lib.hid h3
                rw [h3] at hc2
                have hb2 : ((k : Int) != (k : Int)) = false := by simp
                clear h3
                go_wp2
                go_loop [5] (fun j => ∃ t : Nat, k + 1 ≤ t ∧ (t ≤ x ∨ t = k + 1) ∧ j = .int .i64 t ∧ ∀ s : Nat, k < s → s < t → (k : Int) < gi p s ∧ gi p s < x) (fun j => x - (intOf j).toNat)
                case atStart => exact ⟨k + 1, Nat.le_refl _, .inr rfl, by go_num, fun s h1 h2 => absurd h1 (by omega)⟩
                case round =>
                  obtain ⟨t, ht1, ht2, rfl, hs⟩ := hrel
                  have Hs := Lib.hid hs
                  clear hs
                  by_cases htx : t < x
                  · obtain ⟨b3, o3, e3, hc3⟩ := Hx.out t (by omega)
                    cases e3
                    go_wp2_with fail
                    refine (l1In_any _ _ _ w).mono ?_
                    rintro e w2 ⟨ha, rfl⟩
                    by_cases hr : (k : Int) + 1 ≤ gi p t ∧ gi p t ≤ (x : Int) - 1
                    · have Hr := Lib.hid hr
                      clear hr
                      obtain rfl := ha.is Hr.out
                      clear ha
                      go_wp2
                      go_round
                      case rel =>
                        refine ⟨t + 1, by omega, .inl (by omega), by go_num, fun s h1 h2 => ?_⟩
                        by_cases e : s = t
                        · subst e; have := Hr.out; omega
                        · exact Hs.out s h1 (by omega)
                      case measure => simp [intOf]; omega
                    · have Hr := Lib.hid hr
                      clear hr
                      obtain rfl := ha.isnt Hr.out
                      clear ha
                      go_wp2
                      go_ret
                      refine ⟨Ans.no fun h => Hr.out ?_, rfl⟩
                      have := h.apart k hlt t (by omega) (by rw [Hxe.out]; omega)
                      rw [Hxe.out] at this
                      omega
                  · go_wp2
                    go_round
                    case rel =>
                      refine ⟨k + 1, by omega, by go_num, fun i hi => ?_⟩
                      by_cases e : i = k
                      · subst e
                        refine ⟨⟨by rw [Hxe.out]; have := H1.out; omega, by rw [Hxe.out, Int.toNat_natCast]; exact H3.out⟩, fun j h1 h2 => ?_⟩
                        rw [Hxe.out] at h2 ⊢
                        exact Hs.out j h1 (by omega)
                      · exact Hd.out i (by omega)
                    case measure => simp [intOf]; omega
              · have hb2 : (gi p x != (k : Int)) = true := by simp; omega
                have H3 := Lib.hid h3
                obtain ⟨y, hy⟩ : ∃ y, y = gi p x := ⟨_, rfl⟩
                rw [← hy] at hc2 hb2
                clear h3 hy
                go_wp2
                go_ret
                refine ⟨Ans.no fun h => H3.out ?_, rfl⟩
                have := (h.other k hlt).2
                rw [Hxe.out, Int.toNat_natCast] at this
                exact this
          · obtain rfl : k = p.length := by omega
            go_wp2
            go_ret
            exact ⟨Ans.yes (isPat.of Hev.out h2 h12 Hall.out Hd.out), rfl⟩
      · have Hall := Lib.hid hall
        clear hall
        obtain rfl := ha.isnt Hall.out
        clear ha
        go_wp2
        go_ret
        exact ⟨Ans.no fun h => Hall.out h.all, rfl⟩
    · have h26' : ¬(1 ≤ (p.length : Int) / 2 ∧ (p.length : Int) / 2 ≤ 6) := by have := Hev.out; omega
      have H26 := Lib.hid h26
      clear h26
      go_enter Try.func56, Try.ntmps56
      go_wp2_with fail
      refine (l1In_any _ _ _ w).mono ?_
      rintro e w2 ⟨ha, rfl⟩
      obtain rfl := ha.isnt h26'
      clear ha h26'
      go_wp2
      go_ret
      exact ⟨Ans.no fun h => H26.out ⟨h.lo, h.hi⟩, rfl⟩
  · have hb0 : ((p.length : Int) % 2 == 1) = true := by simp; omega
    have Hev := Lib.hid hev
    clear hev
    go_enter Try.func56, Try.ntmps56
    go_wp2
    go_ret
    exact ⟨Ans.no fun h => Hev.out h.even, rfl⟩

/-- the brackets of the first ends, as bytes -/
def brkB (p : List Int) : Nat → List UInt8
  | 0 => []
  | k + 1 => brkB p k ++ [if gi p k > k then 40 else 41]
theorem brkB_len (p : List Int) : ∀ k, (brkB p k).length = k
  | 0 => rfl
  | k + 1 => by simp [brkB, brkB_len p k]

end Go.Proofs.Ytncpoljjfhmkeaa
