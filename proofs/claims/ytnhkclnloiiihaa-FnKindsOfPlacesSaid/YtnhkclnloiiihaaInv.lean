/- Contracts: how many inversions, by the model's four loops and by the program's blocks. -/
import Derived.Test.YtnhkclnloiiihaaPlac
namespace Go.Proofs.Ytnhkclnloiiihaa
open Go.RowKit

def q4 (m : List (List Int)) (i k j t : Nat) : Int := sumF (fun l => gi (gr m i) j * gi (gr m k) l) t
def q3 (m : List (List Int)) (i k t : Nat) : Int := sumF (fun j => q4 m i k j j) t
def q2 (m : List (List Int)) (i t : Nat) : Int := sumF (fun k => q3 m i (i + 1 + k) m.length) t
def q1 (m : List (List Int)) (t : Nat) : Int := sumF (fun i => q2 m i (m.length - (i + 1))) t
def inv (m : List (List Int)) : Int := q1 m m.length

theorem unit_mul {x y : Int} {B : Int} (hx : -1 ≤ x ∧ x ≤ 1) (hy : -B ≤ y ∧ y ≤ B) : -B ≤ x * y ∧ x * y ≤ B := by
  have : x = -1 ∨ x = 0 ∨ x = 1 := by omega
  rcases this with rfl | rfl | rfl
  · rw [Int.neg_one_mul]; omega
  · rw [Int.zero_mul]; omega
  · rw [Int.one_mul]; exact hy

theorem q4_b {m : List (List Int)} (h : good m) {i k j t : Nat} (hi : i < m.length) (hk : k < m.length) (hj : j < m.length) (ht : t ≤ m.length) : -6 ≤ q4 m i k j t ∧ q4 m i k j t ≤ 6 := by
  have hn := h.1.2.1
  have := sumF_bound (f := fun l => gi (gr m i) j * gi (gr m k) l) (B := 1) (k := t) (fun l hl => unit_mul (good_entry h hi hj) (good_entry h hk (by omega)))
  unfold q4
  omega
theorem q3_b {m : List (List Int)} (h : good m) {i k t : Nat} (hi : i < m.length) (hk : k < m.length) (ht : t ≤ m.length) : -36 ≤ q3 m i k t ∧ q3 m i k t ≤ 36 := by
  have hn := h.1.2.1
  have := sumF_bound (f := fun j => q4 m i k j j) (B := 6) (k := t) (fun j hj => q4_b h hi hk (by omega) (by omega))
  unfold q3
  omega
theorem q2_b {m : List (List Int)} (h : good m) {i t : Nat} (hi : i < m.length) (ht : i + 1 + t ≤ m.length) : -216 ≤ q2 m i t ∧ q2 m i t ≤ 216 := by
  have hn := h.1.2.1
  have := sumF_bound (f := fun k => q3 m i (i + 1 + k) m.length) (B := 36) (k := t) (fun k hk => q3_b h hi (by omega) (Nat.le_refl _))
  unfold q2
  omega
theorem q1_b {m : List (List Int)} (h : good m) {t : Nat} (ht : t ≤ m.length) : -1296 ≤ q1 m t ∧ q1 m t ≤ 1296 := by
  have hn := h.1.2.1
  have := sumF_bound (f := fun i => q2 m i (m.length - (i + 1))) (B := 216) (k := t) (fun i hi => q2_b h (by omega) (by omega))
  unfold q1
  omega

theorem sumF_mul (c : Int) (f : Nat → Int) (k : Nat) : sumF (fun i => c * f i) k = c * sumF f k := by
  induction k with
  | zero => simp [sumF]
  | succ k ih => simp only [sumF]; rw [ih, Int.mul_add]
theorem sumF_swap (f : Nat → Nat → Int) (p q : Nat) : sumF (fun a => sumF (fun b => f a b) q) p = sumF (fun b => sumF (fun a => f a b) p) q := by
  induction p with
  | zero => show (0 : Int) = sumF (fun _ => 0) q; rw [sumF_zero]
  | succ p ih => show sumF (fun a => sumF (fun b => f a b) q) p + sumF (fun b => f p b) q = _; rw [ih, ← sumF_add]; rfl

/-- the program's sums -/
def u2 (m : List (List Int)) (i t : Nat) : Int := sumF (fun j => gi (gr m i) j * bsum (m.drop (i + 1)) j) t
def u1 (m : List (List Int)) (t : Nat) : Int := sumF (fun i => u2 m i m.length) t

theorem u2_q2 {m : List (List Int)} {i : Nat} : u2 m i m.length = q2 m i (m.length - (i + 1)) := by
  unfold u2 q2 q3 q4
  rw [sumF_swap]
  refine sumF_congr fun j _ => ?_
  rw [show sumF (fun a => sumF (fun l => gi (gr m i) j * gi (gr m (i + 1 + a)) l) j) (m.length - (i + 1)) = sumF (fun a => gi (gr m i) j * sumF (fun l => gi (gr m (i + 1 + a)) l) j) (m.length - (i + 1)) from
    sumF_congr fun a _ => sumF_mul _ _ _, sumF_mul]
  congr 1
  unfold bsum
  rw [List.length_drop]
  exact sumF_congr fun a _ => by rw [gr_drop]
theorem u1_inv (m : List (List Int)) : u1 m m.length = inv m := sumF_congr fun _ _ => u2_q2

theorem bs_b {m : List (List Int)} (h : good m) {i j : Nat} (hj : j ≤ m.length) : -36 ≤ bsum (m.drop i) j ∧ bsum (m.drop i) j ≤ 36 := block_bound ((h.tame hj).drop i) (Nat.le_refl _)
theorem u2_b {m : List (List Int)} (h : good m) {i t : Nat} (hi : i < m.length) (ht : t ≤ m.length) : -216 ≤ u2 m i t ∧ u2 m i t ≤ 216 := by
  have hn := h.1.2.1
  have := sumF_bound (f := fun j => gi (gr m i) j * bsum (m.drop (i + 1)) j) (B := 36) (k := t) (fun j hj => unit_mul (good_entry h hi (by omega)) (bs_b h (by omega)))
  unfold u2
  omega
theorem u1_b {m : List (List Int)} (h : good m) {t : Nat} (ht : t ≤ m.length) : -1296 ≤ u1 m t ∧ u1 m t ≤ 1296 := by
  have hn := h.1.2.1
  have := sumF_bound (f := fun i => u2 m i m.length) (B := 216) (k := t) (fun i hi => u2_b h (by omega) (Nat.le_refl _))
  unfold u1
  omega

set_option maxRecDepth 100000 in
set_option maxHeartbeats 3200000 in
theorem implInversionsOf_any (ao : Option Addr) (c : Nat) (m : List (List Int)) (w : World) (hs : Small m) (hwf : WfM m) (hm : MatAt w ao m) (hcap : m.length ≤ c) :
    Calls Try.prog 49 #[.slice ao m.length c] w fun e w' => IRes (good m) (inv m) e ∧ Below w.heap.size w w' := by
  have Hs := Lib.hid hs
  have Hm := Lib.hid hm
  have Hwf := Lib.hid hwf
  clear hs hm hwf
  go_enter Try.func49, Try.ntmps49
  go_wp2_with fail
  refine (implIsSign_any ao c m w Hs.out Hwf.out Hm.out).mono ?_
  rintro e w1 ⟨ha, hb⟩
  have Hb := Lib.hid hb
  have Hm1 := Lib.hid (Hm.out.below hb)
  have hB := hb.size
  clear hb
  by_cases hg : good m
  · have Hg := Lib.hid hg
    have hn := hg.1.2.1
    have hmx : m.length ≤ 9223372036854775807 := by omega
    clear hg
    obtain rfl := ha.is Hg.out
    clear ha
    go_wp2
    go_loopw [4, 14] (fun s i wr => ∃ k : Nat, k ≤ m.length ∧ i = .int .i64 k ∧ s = .int .i64 (u1 m k) ∧ Below w1.heap.size w1 wr) (fun _ i _ => m.length - (intOf i).toNat)
    case atStart => exact ⟨0, Nat.zero_le _, rfl, rfl, Below.refl _ _⟩
    case round =>
      obtain ⟨k, hk, rfl, rfl, hbr⟩ := hrel
      obtain ⟨wo, rfl⟩ : ∃ wo : World, wo = wr := ⟨_, rfl⟩
      by_cases hlt : k < m.length
      · obtain ⟨b1, o1, r1, d1, rfl, hc1, hr1, _, _⟩ := Hm1.out.below hbr k hlt
        rw [Hg.out.1.2.2 k hlt] at hc1
        have Hr1 := Lib.hid hr1
        have hub := u1_b Hg.out (show k ≤ m.length by omega)
        have e1 : u1 m (k + 1) = u1 m k + u2 m k m.length := rfl
        have E1 := Lib.hid e1
        have HbO := Lib.hid hbr
        have HBO := Lib.hid hbr.size
        clear hr1 e1 hbr
        obtain ⟨s, hs⟩ : ∃ s, s = u1 m k := ⟨_, rfl⟩
        rw [← hs] at hub ⊢
        have HsO := Lib.hid hs
        clear hs
        go_wp2
        go_loopw [4, 21] (fun s' i wr => ∃ t : Nat, t ≤ m.length ∧ i = .int .i64 t ∧ s' = .int .i64 (s + u2 m k t) ∧ Below wo.heap.size wo wr) (fun _ i _ => m.length - (intOf i).toNat)
        case atStart => exact ⟨0, Nat.zero_le _, rfl, by simp [u2, sumF], Below.refl _ _⟩
        case round =>
          obtain ⟨t, ht, rfl, rfl, hbi⟩ := hrel
          by_cases htl : t < m.length
          · obtain ⟨b2, o2, rfl, hc2⟩ := Hr1.out.below hbi t (by rw [Hg.out.1.2.2 k hlt]; exact htl)
            have hu2 := u2_b Hg.out hlt (show t ≤ m.length by omega)
            have hx := good_entry Hg.out hlt htl
            have hbs := bs_b Hg.out (i := k + 1) (show t ≤ m.length by omega)
            have hxb := unit_mul hx hbs
            have e2 : u2 m k (t + 1) = u2 m k t + gi (gr m k) t * bsum (m.drop (k + 1)) t := rfl
            have E2 := Lib.hid e2
            clear e2
            have hld : (m.drop (k + 1)).length = m.length - (k + 1) := List.length_drop
            have hB3 := hbi.size
            have Hbi := Lib.hid hbi
            have hmw := ((Hm1.out.below HbO.out).below Hbi.out)
            have Hld := Lib.hid hld
            have Hmw := Lib.hid hmw
            have Hgt := Lib.hid ((Hg.out.tame (show t ≤ m.length by omega)).drop (k + 1))
            clear hbi hld hmw
            obtain ⟨u, hu⟩ : ∃ u, u = u2 m k t := ⟨_, rfl⟩
            obtain ⟨x, hxx⟩ : ∃ x, x = gi (gr m k) t := ⟨_, rfl⟩
            obtain ⟨y, hyy⟩ : ∃ y, y = bsum (m.drop (k + 1)) t := ⟨_, rfl⟩
            rw [← hu] at hu2 ⊢
            rw [← hxx] at hc2 hx
            rw [← hyy] at hbs
            rw [← hxx, ← hyy] at hxb
            have Hu := Lib.hid hu
            have Hxx := Lib.hid hxx
            have Hyy := Lib.hid hyy
            clear hu hxx hyy
            by_cases hcap2 : c = k + 1
            · have hdn : m.drop (k + 1) = [] := List.drop_eq_nil_of_le (by omega)
              have hh : Calls Try.prog 123 #[.slice (some ⟨b1, o1, none⟩) 0 0, .int .i64 (t : Int)] wr fun e w' => e = .returned (.int .i64 y) ∧ Below wr.heap.size wr w' := by
                have h0 := sumOfBlock_any (some ⟨b1, o1, none⟩) 0 t [] wr (by rw [← hdn]; exact Hgt.out) (MatAt.nil _ _)
                rw [show bsum [] t = y from by rw [Hyy.out, hdn]] at h0
                exact h0
              have HH := Lib.hid hh
              subst hcap2
              clear hh hdn
              go_wp2_with fail
              refine HH.out.mono ?_
              rintro e w3 ⟨rfl, hb3⟩
              have Hb3 := Lib.hid (Hbi.out.trans (hb3.mono hB3))
              clear hb3
              go_wp2
              go_roundw
              case rel => exact ⟨t + 1, by omega, by go_num, by rw [E2.out, ← Hu.out, ← Hxx.out, ← Hyy.out]; go_num, Hb3.out⟩
              case measure => simp [intOf]; omega
            · have hh := sumOfBlock_any (some ⟨b1, o1 + (k + 1), none⟩) (c - (k + 1)) t (m.drop (k + 1)) wr Hgt.out (Hmw.out.drop (k + 1))
              rw [Hld.out, ← Hyy.out] at hh
              have HH := Lib.hid hh
              clear hh
              go_wp2_with fail
              refine HH.out.mono ?_
              rintro e w3 ⟨rfl, hb3⟩
              have Hb3 := Lib.hid (Hbi.out.trans (hb3.mono hB3))
              clear hb3
              go_wp2
              go_roundw
              case rel => exact ⟨t + 1, by omega, by go_num, by rw [E2.out, ← Hu.out, ← Hxx.out, ← Hyy.out]; go_num, Hb3.out⟩
              case measure => simp [intOf]; omega
          · obtain rfl : t = m.length := by omega
            have hu2 := u2_b Hg.out hlt (Nat.le_refl _)
            have Hbi := Lib.hid (HbO.out.trans (hbi.mono HBO.out))
            clear hbi
            go_wp2
            go_roundw
            case rel => exact ⟨k + 1, by omega, by go_num, by rw [E1.out, ← HsO.out], Hbi.out⟩
            case measure => simp [intOf]; omega
      · obtain rfl : k = m.length := by omega
        have Hbf := Lib.hid (Hb.out.trans (hbr.mono hB))
        rw [u1_inv]
        clear hbr
        go_wp2
        go_ret2
        exact ⟨IRes.yes Hg.out, Hbf.out⟩
  · have Hg := Lib.hid hg
    clear hg
    obtain rfl := ha.isnt Hg.out
    clear ha
    go_wp2
    go_ret2
    exact ⟨IRes.no Hg.out, Hb.out⟩

set_option maxRecDepth 100000 in
set_option maxHeartbeats 6400000 in
theorem specInversionsOf_any (ao : Option Addr) (c : Nat) (m : List (List Int)) (w : World) (hs : Small m) (hm : MatAt w ao m) :
    Calls Try.prog 64 #[.slice ao m.length c] w fun e w' => IRes (good m) (inv m) e ∧ Below w.heap.size w w' := by
  have Hs := Lib.hid hs
  have Hm := Lib.hid hm
  clear hs hm
  go_enter Try.func64, Try.ntmps64
  go_wp2_with fail
  refine (sgGood_any ao c m w Hs.out Hm.out).mono ?_
  rintro e w1 ⟨ha, hb⟩
  have Hb := Lib.hid hb
  have Hm1 := Lib.hid (Hm.out.below hb)
  clear hb
  by_cases hg : good m
  · have Hg := Lib.hid hg
    have hn := hg.1.2.1
    have hmx : m.length ≤ 9223372036854775807 := by omega
    clear hg
    obtain rfl := ha.is Hg.out
    clear ha
    go_wp2
    go_loop [4, 15] (fun s i => ∃ k : Nat, k ≤ m.length ∧ i = .int .i64 k ∧ s = .int .i64 (q1 m k)) (fun _ i => m.length - (intOf i).toNat)
    case atStart => exact ⟨0, Nat.zero_le _, rfl, rfl⟩
    case round =>
      obtain ⟨i, hk, rfl, rfl⟩ := hrel
      by_cases hlt : i < m.length
      · obtain ⟨b1, o1, r1, d1, rfl, hc1, hr1, _, _⟩ := Hm1.out i hlt
        rw [Hg.out.1.2.2 i hlt] at hc1
        have Hr1 := Lib.hid hr1
        have hqb := q1_b Hg.out hk
        have e1 : q1 m (i + 1) = q1 m i + q2 m i (m.length - (i + 1)) := rfl
        have E1 := Lib.hid e1
        clear hr1 e1
        obtain ⟨s, hs⟩ : ∃ s, s = q1 m i := ⟨_, rfl⟩
        rw [← hs] at hqb ⊢
        have HsO := Lib.hid hs
        clear hs
        go_wp2
        go_loop [4, 6] (fun s' kk => ∃ t : Nat, i + 1 + t ≤ m.length ∧ kk = .int .i64 ((i + 1 + t : Nat) : Int) ∧ s' = .int .i64 (s + q2 m i t)) (fun _ kk => m.length - (intOf kk).toNat)
        case atStart => exact ⟨0, by omega, by go_num, by simp [q2, sumF]⟩
        case round =>
          obtain ⟨t, ht, rfl, rfl⟩ := hrel
          obtain ⟨k, hkk⟩ : ∃ k, k = i + 1 + t := ⟨_, rfl⟩
          have hq2 := q2_b Hg.out hlt ht
          rw [← hkk] at ht ⊢
          have hki : i < k := by omega
          have Hkk := Lib.hid hkk
          clear hkk
          obtain ⟨s2, hs2⟩ : ∃ s2, s2 = q2 m i t := ⟨_, rfl⟩
          rw [← hs2] at hq2 ⊢
          have Hs2 := Lib.hid hs2
          clear hs2
          by_cases htl : k < m.length
          · obtain ⟨b2, o2, r2, d2, e2, hc2, hr2, _, _⟩ := Hm1.out k htl
            simp only [Option.some.injEq, Addr.mk.injEq, and_true] at e2
            obtain ⟨rfl, rfl⟩ := e2
            rw [Hg.out.1.2.2 k htl] at hc2
            have Hr2 := Lib.hid hr2
            have e3 : q2 m i (t + 1) = q2 m i t + q3 m i k m.length := by rw [Hkk.out]; rfl
            have E3 := Lib.hid e3
            clear hr2 e3
            go_wp2
            go_loop [4, 31] (fun s' jj => ∃ j : Nat, j ≤ m.length ∧ jj = .int .i64 j ∧ s' = .int .i64 (s + s2 + q3 m i k j)) (fun _ jj => m.length - (intOf jj).toNat)
            case atStart => exact ⟨0, Nat.zero_le _, rfl, by simp [q3, sumF]⟩
            case round =>
              obtain ⟨j, hj, rfl, rfl⟩ := hrel
              have hq3 := q3_b Hg.out hlt htl hj
              obtain ⟨s3, hs3⟩ : ∃ s3, s3 = q3 m i k j := ⟨_, rfl⟩
              rw [← hs3] at hq3 ⊢
              have Hs3 := Lib.hid hs3
              clear hs3
              by_cases hjl : j < m.length
              · obtain ⟨b3, o3, e3, hc3⟩ := Hr1.out j (by rw [Hg.out.1.2.2 i hlt]; exact hjl)
                have hx := good_entry Hg.out hlt hjl
                have e4 : q3 m i k (j + 1) = q3 m i k j + q4 m i k j j := rfl
                have E4 := Lib.hid e4
                clear e4
                subst e3
                go_wp2
                go_loop [4, 9] (fun s' ll => ∃ l : Nat, l ≤ j ∧ ll = .int .i64 l ∧ s' = .int .i64 (s + s2 + s3 + q4 m i k j l)) (fun _ ll => j - (intOf ll).toNat)
                case atStart => exact ⟨0, Nat.zero_le _, rfl, by simp [q4, sumF]⟩
                case round =>
                  obtain ⟨l, hl, rfl, rfl⟩ := hrel
                  have hq4 := q4_b Hg.out hlt htl hjl (show l ≤ m.length by omega)
                  obtain ⟨s4, hs4⟩ : ∃ s4, s4 = q4 m i k j l := ⟨_, rfl⟩
                  rw [← hs4] at hq4 ⊢
                  have Hs4 := Lib.hid hs4
                  clear hs4
                  by_cases hll : l < j
                  · obtain ⟨b4, o4, e4, hc4⟩ := Hr2.out l (by rw [Hg.out.1.2.2 k htl]; omega)
                    have hy := good_entry Hg.out htl (show l < m.length by omega)
                    have e5 : q4 m i k j (l + 1) = q4 m i k j l + gi (gr m i) j * gi (gr m k) l := rfl
                    have E5 := Lib.hid e5
                    clear e5
                    have hxy := unit_mul hx hy
                    obtain ⟨x, hxx⟩ : ∃ x, x = gi (gr m i) j := ⟨_, rfl⟩
                    obtain ⟨y, hyy⟩ : ∃ y, y = gi (gr m k) l := ⟨_, rfl⟩
                    rw [← hxx] at hxy hx
                    rw [← hyy] at hxy hy hc4
                    rw [← hxx]
                    have Hxx := Lib.hid hxx
                    have Hyy := Lib.hid hyy
                    subst e4
                    clear hxx hyy
                    go_wp2
                    go_round
                    case rel => exact ⟨l + 1, by omega, by go_num, by rw [E5.out, ← Hs4.out, ← Hxx.out, ← Hyy.out]; go_num⟩
                    case measure => simp [intOf]; omega
                  · obtain rfl : l = j := by omega
                    go_wp2
                    go_round
                    case rel => exact ⟨l + 1, by omega, by go_num, by rw [E4.out, ← Hs3.out, ← Hs4.out]; go_num⟩
                    case measure => simp [intOf]; omega
              · obtain rfl : j = m.length := by omega
                go_wp2
                go_round
                case rel => exact ⟨t + 1, by have := Hkk.out; omega, by have := Hkk.out; go_num, by rw [E3.out, ← Hs2.out, ← Hs3.out]; go_num⟩
                case measure => simp [intOf]; omega
          · have hkn : k = m.length := by omega
            have Hkn := Lib.hid hkn
            clear hkn
            go_wp2
            go_round
            case rel => exact ⟨i + 1, by omega, by go_num, by rw [E1.out, ← HsO.out, show m.length - (i + 1) = t from by have := Hkk.out; have := Hkn.out; omega, ← Hs2.out]⟩
            case measure => simp [intOf]; omega
      · obtain rfl : i = m.length := by omega
        go_wp2
        go_ret2
        exact ⟨IRes.yes Hg.out, Hb.out⟩
  · have Hg := Lib.hid hg
    clear hg
    obtain rfl := ha.isnt Hg.out
    clear ha
    go_wp2
    go_ret2
    exact ⟨IRes.no Hg.out, Hb.out⟩
end Go.Proofs.Ytnhkclnloiiihaa
