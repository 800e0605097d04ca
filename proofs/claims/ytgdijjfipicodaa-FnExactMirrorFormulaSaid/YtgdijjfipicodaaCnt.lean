/- Contracts: how many sign matrices there are, by the model's quotients of factorials and by the program's choices. -/
import Derived.Test.YtgdijjfipicodaaScal
namespace Go.Proofs.Ytgdijjfipicodaa
open Go.RowKit

def inR (n : Int) : Prop := 1 ≤ n ∧ n ≤ 8

/-- choices, factor by factor -/
def ch (n : Nat) : Nat → Nat
  | 0 => 1
  | i + 1 => ch n i * (n - i) / (i + 1)
def cI : Nat → Nat
  | 0 => 1
  | k + 1 => if k = 0 then 1 else cI k * ch (3 * k + 1) k / ch (2 * k) k

theorem ch_b : ∀ n, n < 23 → ∀ i, i < 8 → ch n i ≤ 1000000000 ∧ ch n i * (n - i) ≤ 1000000000 := by decide +kernel
theorem cI_b : ∀ k, k < 8 → cI k ≤ 1000000000 ∧ cI k * ch (3 * k + 1) k ≤ 1000000000000000 ∧ 1 ≤ ch (2 * k) k := by decide +kernel

set_option maxRecDepth 100000 in
set_option maxHeartbeats 800000 in
theorem choicesOf_any (k n : Nat) (w : World) (hk : k ≤ 7) (hkn : k ≤ n) (hn : n ≤ 22) :
    Calls Try.prog 49 #[.int .i64 (k : Int), .int .i64 (n : Int)] w fun e w' => e = .returned (.int .i64 (ch n k : Nat)) ∧ w = w' := by
  go_enter Try.func49, Try.ntmps49
  go_wp2
  go_loop [5, 8] (fun s i => ∃ t : Nat, t ≤ k ∧ i = .int .i64 t ∧ s = .int .i64 (ch n t : Nat)) (fun _ i => k - (intOf i).toNat)
  case atStart => exact ⟨0, Nat.zero_le _, rfl, rfl⟩
  case round =>
    obtain ⟨t, ht, rfl, rfl⟩ := hrel
    by_cases hlt : t < k
    · have hb := ch_b n (by omega) t (by omega)
      have e1 : ch n (t + 1) = ch n t * (n - t) / (t + 1) := rfl
      have E1 := Lib.hid e1
      clear e1
      obtain ⟨s, hs⟩ : ∃ s, s = ch n t := ⟨_, rfl⟩
      obtain ⟨p, hp⟩ : ∃ p, p = ch n t * (n - t) := ⟨_, rfl⟩
      rw [← hs] at hb
      rw [← hs]
      have hp1 : (s : Int) * ((n : Int) - (t : Int)) = (p : Int) := by rw [hp, ← hs, show ((n : Int) - (t : Int)) = ((n - t : Nat) : Int) from by omega, Int.natCast_mul]
      have hpb : p ≤ 1000000000 := by rw [hp, ← hs]; exact hb.2
      have hsb := hb.1
      obtain ⟨q, hq⟩ : ∃ q, q = p / (t + 1) := ⟨_, rfl⟩
      have hq1 : (p : Int) / ((t : Int) + 1) = (q : Int) := by rw [hq, Int.natCast_ediv]; rfl
      have hqb : q ≤ 1000000000 := by rw [hq]; exact Nat.le_trans (Nat.div_le_self _ _) hpb
      have Hp := Lib.hid hp
      have Hs := Lib.hid hs
      have Hq := Lib.hid hq
      clear hb hp hs hq
      go_wp2
      go_round
      case rel =>
        refine ⟨t + 1, by omega, by go_num, ?_⟩
        rw [E1.out, ← Hp.out, ← Hq.out]
      case measure => simp [intOf]; omega
    · obtain rfl : t = k := by omega
      go_wp2
      go_ret
      exact ⟨rfl, rfl⟩

set_option maxRecDepth 100000 in
set_option maxHeartbeats 1600000 in
theorem implCountSigns_any (n : Int) (w : World) :
    Calls Try.prog 45 #[.int .i64 n] w fun e w' => IRes (inR n) (cI n.toNat : Nat) e ∧ w = w' := by
  by_cases h1 : 1 ≤ n
  · by_cases h8 : n ≤ 8
    · obtain ⟨n, rfl⟩ := Int.eq_ofNat_of_zero_le (show 0 ≤ n by omega)
      rw [Int.toNat_natCast]
      have hd : decide ((8 : Int) < (n : Int)) = false := by simp; omega
      go_enter Try.func45, Try.ntmps45
      go_wp2
      go_loop [4, 5] (fun s i => ∃ k : Nat, 1 ≤ k ∧ k ≤ n ∧ i = .int .i64 k ∧ s = .int .i64 (cI k : Nat)) (fun _ i => n - (intOf i).toNat)
      case atStart => exact ⟨1, by omega, by omega, rfl, rfl⟩
      case round =>
        obtain ⟨k, hk1, hk, rfl, rfl⟩ := hrel
        by_cases hlt : k < n
        · have hb := cI_b k (by omega)
          have e1 : cI (k + 1) = cI k * ch (3 * k + 1) k / ch (2 * k) k := by show (if k = 0 then 1 else _) = _; rw [if_neg (by omega)]
          have E1 := Lib.hid e1
          clear e1
          have c1 := choicesOf_any k (3 * k + 1) w (by omega) (by omega) (by omega)
          have c2 := choicesOf_any k (2 * k) w (by omega) (by omega) (by omega)
          rw [show ((3 * k + 1 : Nat) : Int) = 3 * (k : Int) + 1 from by omega] at c1
          rw [show ((2 * k : Nat) : Int) = 2 * (k : Int) from by omega] at c2
          have C1 := Lib.hid c1
          have C2 := Lib.hid c2
          obtain ⟨s, hs⟩ : ∃ s, s = cI k := ⟨_, rfl⟩
          obtain ⟨x, hx⟩ : ∃ x, x = ch (3 * k + 1) k := ⟨_, rfl⟩
          obtain ⟨y, hy⟩ : ∃ y, y = ch (2 * k) k := ⟨_, rfl⟩
          obtain ⟨p, hp⟩ : ∃ p, p = s * x := ⟨_, rfl⟩
          rw [← hs, ← hx, ← hy] at hb
          rw [← hs]
          have hp1 : (s : Int) * (x : Int) = (p : Int) := by rw [hp, Int.natCast_mul]
          have hpb : p ≤ 1000000000000000 := by rw [hp]; exact hb.2.1
          have hsb := hb.1
          have hyb := hb.2.2
          obtain ⟨q, hq⟩ : ∃ q, q = p / y := ⟨_, rfl⟩
          have hq1 : (p : Int) / (y : Int) = (q : Int) := by rw [hq, Int.natCast_ediv]
          have hqb : q ≤ 1000000000000000 := by rw [hq]; exact Nat.le_trans (Nat.div_le_self _ _) hpb
          have Hq := Lib.hid hq
          clear hq
          have Hs := Lib.hid hs
          have Hx := Lib.hid hx
          have Hy := Lib.hid hy
          have Hp := Lib.hid hp
          clear hb hs hx hy hp c1 c2
          go_wp2_with fail
          refine C1.out.mono ?_
          rintro e w2 ⟨rfl, rfl⟩
          rw [← Hx.out]
          go_wp2_with fail
          refine C2.out.mono ?_
          rintro e w2 ⟨rfl, rfl⟩
          rw [← Hy.out]
          go_wp2
          go_round
          case rel =>
            refine ⟨k + 1, by omega, by omega, by go_num, ?_⟩
            rw [E1.out, ← Hs.out, ← Hx.out, ← Hy.out, ← Hp.out, ← Hq.out]
          case measure => simp [intOf]; omega
        · obtain rfl : k = n := by omega
          go_wp2
          go_ret2
          exact ⟨IRes.yes ⟨h1, h8⟩, rfl⟩
    · have hd : decide ((8 : Int) < n) = true := by simp; omega
      go_enter Try.func45, Try.ntmps45
      go_wp2
      go_ret2
      exact ⟨IRes.no fun h => by have := h.2; omega, rfl⟩
  · go_enter Try.func45, Try.ntmps45
    go_wp2
    go_ret2
    exact ⟨IRes.no fun h => by have := h.1; omega, rfl⟩

set_option maxRecDepth 100000 in
set_option maxHeartbeats 800000 in
theorem sgGcd_any (b : Nat) : ∀ (a : Nat) (w : World), a ≤ 4000000000000000000 → b ≤ 4000000000000000000 →
    Calls Try.prog 81 #[.int .i64 (a : Int), .int .i64 (b : Int)] w fun e w' => e = .returned (.int .i64 (Nat.gcd a b : Nat)) ∧ w = w' := by
  induction b using Nat.strongRecOn with
  | _ b ih =>
    intro a w ha hb
    by_cases h0 : b = 0
    · subst h0
      rw [Nat.gcd_zero_right]
      go_enter Try.func81, Try.ntmps81
      go_wp2_with fail
      go_ret
      exact ⟨rfl, rfl⟩
    · have hlt := Nat.mod_lt a (show b > 0 by omega)
      have hh := ih (a % b) hlt b w (by omega) (by omega)
      have hbb : ((b : Int) == 0) = false := by simp [h0]
      have hm : (a : Int) % (b : Int) = ((a % b : Nat) : Int) := by rw [Int.natCast_emod]
      have hg : Nat.gcd b (a % b) = Nat.gcd a b := by rw [Nat.gcd_comm b, ← Nat.gcd_rec, Nat.gcd_comm]
      rw [hg] at hh
      have HH := Lib.hid hh
      obtain ⟨r, hr⟩ : ∃ r, r = a % b := ⟨_, rfl⟩
      rw [← hr] at hm hlt
      have Hr := Lib.hid hr
      clear hh hr hg ih
      go_enter Try.func81, Try.ntmps81
      go_wp2_with fail
      rw [Hr.out]
      refine HH.out.mono ?_
      rintro e w2 ⟨rfl, rfl⟩
      go_wp2_with fail
      go_ret
      exact ⟨rfl, rfl⟩

def stepA (s : Nat × Nat) (x : Nat) : Nat × Nat := (s.1 * (x / Nat.gcd x s.2), s.2 / Nat.gcd x s.2)
def stepB (s : Nat × Nat) (x : Nat) : Nat × Nat := (s.1 / Nat.gcd s.1 x, s.2 * (x / Nat.gcd s.1 x))
def itA (s : Nat × Nat) (x0 : Nat) : Nat → Nat × Nat
  | 0 => s
  | t + 1 => stepA (itA s x0 t) (x0 + t)
def itB (s : Nat × Nat) (x0 : Nat) : Nat → Nat × Nat
  | 0 => s
  | t + 1 => stepB (itB s x0 t) (x0 + t)
def outer (n : Nat) : Nat → Nat × Nat
  | 0 => (1, 1)
  | k + 1 => itB (itA (outer n k) (n + k + 1) (2 * k + 1 - n)) (3 * k + 2) (n - (2 * k + 1))

def okS (s : Nat × Nat) : Bool := decide (s.1 ≤ 1000000000000000000) && decide (s.2 ≤ 1000000000000000000) && decide (1 ≤ s.1) && decide (1 ≤ s.2)
theorem itA_ok : ∀ n, n < 9 → ∀ k, k < n → ∀ t, t < 9 → t ≤ 2 * k + 1 - n → okS (itA (outer n k) (n + k + 1) t) = true := by decide +kernel
theorem itB_ok : ∀ n, n < 9 → ∀ k, k < n → ∀ t, t < 9 → t ≤ n - (2 * k + 1) → okS (itB (itA (outer n k) (n + k + 1) (2 * k + 1 - n)) (3 * k + 2) t) = true := by decide +kernel
theorem outer_ok : ∀ n, n < 9 → okS (outer n n) = true := by decide +kernel
theorem outer_cI : ∀ n, n < 9 → 1 ≤ n → (outer n n).1 / (outer n n).2 = cI n := by decide +kernel

theorem okS_b {s : Nat × Nat} (h : okS s = true) : s.1 ≤ 1000000000000000000 ∧ s.2 ≤ 1000000000000000000 ∧ 1 ≤ s.1 ∧ 1 ≤ s.2 := by
  unfold okS at h
  simp only [Bool.and_eq_true, decide_eq_true_eq] at h
  omega

set_option maxRecDepth 100000 in
set_option maxHeartbeats 6400000 in
theorem specCountSigns_any (n : Int) (w : World) :
    Calls Try.prog 42 #[.int .i64 n] w fun e w' => IRes (inR n) (cI n.toNat : Nat) e ∧ w = w' := by
  by_cases hr : 1 ≤ n ∧ n ≤ 8
  · obtain ⟨h1, h8⟩ := hr
    obtain ⟨n, rfl⟩ := Int.eq_ofNat_of_zero_le (show 0 ≤ n by omega)
    rw [Int.toNat_natCast]
    have h1' : 1 ≤ n := by omega
    have h8' : n ≤ 8 := by omega
    clear h1 h8
    go_enter Try.func42, Try.ntmps42
    go_wp2_with fail
    refine (l1In_any _ _ _ w).mono ?_
    rintro e w2 ⟨ha, rfl⟩
    obtain rfl := ha.is ⟨by omega, by omega⟩
    clear ha
    go_wp2
    go_loop [4, 5, 6] (fun a b i => ∃ k : Nat, k ≤ n ∧ i = .int .i64 k ∧ a = .int .i64 ((outer n k).1 : Nat) ∧ b = .int .i64 ((outer n k).2 : Nat)) (fun _ _ i => n - (intOf i).toNat)
    case atStart => exact ⟨0, Nat.zero_le _, rfl, rfl, rfl⟩
    case round =>
      obtain ⟨k, hk, rfl, rfl, rfl⟩ := hrel
      by_cases hlt : k < n
      · have H0 := Lib.hid (itA_ok n (by omega) k hlt)
        have HB := Lib.hid (itB_ok n (by omega) k hlt)
        obtain ⟨S, hS⟩ : ∃ S, S = outer n k := ⟨_, rfl⟩
        rw [← hS]
        have HS := Lib.hid hS
        clear hS
        go_wp2
        go_loop [4, 5, 7] (fun a b x => ∃ t : Nat, t ≤ 2 * k + 1 - n ∧ x = .int .i64 ((n + k + 1 + t : Nat) : Int) ∧ a = .int .i64 ((itA S (n + k + 1) t).1 : Nat) ∧ b = .int .i64 ((itA S (n + k + 1) t).2 : Nat)) (fun _ _ x => 40 - (intOf x).toNat)
        case atStart => exact ⟨0, Nat.zero_le _, by go_num, rfl, rfl⟩
        case round =>
          obtain ⟨t, ht, rfl, rfl, rfl⟩ := hrel
          obtain ⟨x, hx⟩ : ∃ x, x = n + k + 1 + t := ⟨_, rfl⟩
          rw [← hx]
          have hx1 : x ≤ n + k + 1 + t := by omega
          have hx2 : n + k + 1 + t ≤ x := by omega
          have Hx := Lib.hid hx
          clear hx
          have hok := okS_b (by have := H0.out t (by omega) ht; rw [← HS.out] at this; exact this)
          obtain ⟨⟨a, b⟩, hab⟩ : ∃ ab : Nat × Nat, ab = itA S (n + k + 1) t := ⟨_, rfl⟩
          rw [← hab] at hok ⊢
          have Hab := Lib.hid hab
          clear hab
          obtain ⟨ha1, hb1, ha0, hb0⟩ := hok
          dsimp only at ha1 hb1 ha0 hb0 ⊢
          by_cases htl : t < 2 * k + 1 - n
          · have hok2 := okS_b (by have := H0.out (t + 1) (by omega) (by omega); rw [← HS.out] at this; exact this)
            have es : itA S (n + k + 1) (t + 1) = stepA (a, b) x := by show stepA (itA S (n + k + 1) t) (n + k + 1 + t) = _; rw [← Hab.out, ← Hx.out]
            rw [es] at hok2
            unfold stepA at hok2
            dsimp only at hok2
            have Es := Lib.hid es
            clear es
            have hg1 : 1 ≤ Nat.gcd x b := Nat.gcd_pos_of_pos_left _ (by omega)
            have hgb : Nat.gcd x b ≤ x := Nat.gcd_le_left _ (by omega)
            obtain ⟨g, hg⟩ : ∃ g, g = Nat.gcd x b := ⟨_, rfl⟩
            obtain ⟨q, hq⟩ : ∃ q, q = x / g := ⟨_, rfl⟩
            obtain ⟨p, hp⟩ : ∃ p, p = a * q := ⟨_, rfl⟩
            obtain ⟨d, hd⟩ : ∃ d, d = b / g := ⟨_, rfl⟩
            rw [← hg] at hg1 hgb
            rw [← hg, ← hq, ← hp, ← hd] at hok2
            have hq1 : (x : Int) / (g : Int) = (q : Int) := by rw [hq, Int.natCast_ediv]
            have hp1 : (a : Int) * (q : Int) = (p : Int) := by rw [hp, Int.natCast_mul]
            have hd1 : (b : Int) / (g : Int) = (d : Int) := by rw [hd, Int.natCast_ediv]
            have hqb : q ≤ x := by rw [hq]; exact Nat.div_le_self _ _
            obtain ⟨hpb, hdb, _, _⟩ := hok2
            have hh := sgGcd_any b x w (by omega) (by omega)
            rw [← hg] at hh
            have HH := Lib.hid hh
            have Hfin : Hid (stepA (a, b) x = (p, d)) := Lib.hid (by unfold stepA; dsimp only; rw [← hg, ← hq, ← hp, ← hd])
            clear hh hg hq hp hd
            go_wp2_with fail
            refine HH.out.mono ?_
            rintro e w2 ⟨rfl, rfl⟩
            go_wp2
            go_round
            case rel => exact ⟨t + 1, by omega, by go_num, by rw [Es.out, Hfin.out], by rw [Es.out, Hfin.out]⟩
            case measure => simp [intOf]; omega
          · obtain rfl : t = 2 * k + 1 - n := by omega
            go_wp2
            go_loop [4, 5, 9] (fun a' b' x => ∃ t : Nat, t ≤ n - (2 * k + 1) ∧ x = .int .i64 ((3 * k + 2 + t : Nat) : Int) ∧ a' = .int .i64 ((itB (a, b) (3 * k + 2) t).1 : Nat) ∧ b' = .int .i64 ((itB (a, b) (3 * k + 2) t).2 : Nat)) (fun _ _ x => 40 - (intOf x).toNat)
            case atStart => exact ⟨0, Nat.zero_le _, by go_num, rfl, rfl⟩
            case round =>
              obtain ⟨t, ht, rfl, rfl, rfl⟩ := hrel
              obtain ⟨y, hy⟩ : ∃ y, y = 3 * k + 2 + t := ⟨_, rfl⟩
              rw [← hy]
              have hy1 : y ≤ 3 * k + 2 + t := by omega
              have hy2 : 3 * k + 2 + t ≤ y := by omega
              have Hy := Lib.hid hy
              clear hy
              have hok := okS_b (by have := HB.out t (by omega) ht; rw [← HS.out, ← Hab.out] at this; exact this)
              obtain ⟨⟨c, d⟩, hcd⟩ : ∃ cd : Nat × Nat, cd = itB (a, b) (3 * k + 2) t := ⟨_, rfl⟩
              rw [← hcd] at hok ⊢
              have Hcd := Lib.hid hcd
              clear hcd
              obtain ⟨hc1, hd1, hc0, hd0⟩ := hok
              dsimp only at hc1 hd1 hc0 hd0 ⊢
              by_cases htl : t < n - (2 * k + 1)
              · have hok2 := okS_b (by have := HB.out (t + 1) (by omega) (by omega); rw [← HS.out, ← Hab.out] at this; exact this)
                have es : itB (a, b) (3 * k + 2) (t + 1) = stepB (c, d) y := by show stepB (itB (a, b) (3 * k + 2) t) (3 * k + 2 + t) = _; rw [← Hcd.out, ← Hy.out]
                rw [es] at hok2
                unfold stepB at hok2
                dsimp only at hok2
                have Es := Lib.hid es
                clear es
                have hg1 : 1 ≤ Nat.gcd c y := Nat.gcd_pos_of_pos_left _ (by omega)
                have hgb : Nat.gcd c y ≤ c := Nat.gcd_le_left _ (by omega)
                obtain ⟨g, hg⟩ : ∃ g, g = Nat.gcd c y := ⟨_, rfl⟩
                obtain ⟨q, hq⟩ : ∃ q, q = y / g := ⟨_, rfl⟩
                obtain ⟨p, hp⟩ : ∃ p, p = d * q := ⟨_, rfl⟩
                obtain ⟨f, hf⟩ : ∃ f, f = c / g := ⟨_, rfl⟩
                rw [← hg] at hg1 hgb
                rw [← hg, ← hq, ← hp, ← hf] at hok2
                have hq1 : (y : Int) / (g : Int) = (q : Int) := by rw [hq, Int.natCast_ediv]
                have hp1 : (d : Int) * (q : Int) = (p : Int) := by rw [hp, Int.natCast_mul]
                have hf1 : (c : Int) / (g : Int) = (f : Int) := by rw [hf, Int.natCast_ediv]
                have hqb : q ≤ y := by rw [hq]; exact Nat.div_le_self _ _
                obtain ⟨hfb, hpb, _, _⟩ := hok2
                have hh := sgGcd_any y c w (by omega) (by omega)
                rw [← hg] at hh
                have HH := Lib.hid hh
                have Hfin : Hid (stepB (c, d) y = (f, p)) := Lib.hid (by unfold stepB; dsimp only; rw [← hg, ← hq, ← hp, ← hf])
                clear hh hg hq hp hf
                go_wp2_with fail
                refine HH.out.mono ?_
                rintro e w2 ⟨rfl, rfl⟩
                go_wp2
                go_round
                case rel => exact ⟨t + 1, by omega, by go_num, by rw [Es.out, Hfin.out], by rw [Es.out, Hfin.out]⟩
                case measure => simp [intOf]; omega
              · obtain rfl : t = n - (2 * k + 1) := by omega
                have eo : outer n (k + 1) = (c, d) := by show itB (itA (outer n k) (n + k + 1) (2 * k + 1 - n)) (3 * k + 2) (n - (2 * k + 1)) = _; rw [← HS.out, ← Hab.out, ← Hcd.out]
                have Eo := Lib.hid eo
                clear eo
                go_wp2
                go_round
                case rel => exact ⟨k + 1, by omega, by go_num, by rw [Eo.out], by rw [Eo.out]⟩
                case measure => simp [intOf]; omega
      · obtain rfl : k = n := by omega
        have hok := okS_b (outer_ok k (by omega))
        have hc := outer_cI k (by omega) h1'
        obtain ⟨⟨a, b⟩, hab⟩ : ∃ ab : Nat × Nat, ab = outer k k := ⟨_, rfl⟩
        rw [← hab] at hok hc ⊢
        have Hab := Lib.hid hab
        clear hab
        obtain ⟨ha1, hb1, ha0, hb0⟩ := hok
        dsimp only at ha1 hb1 ha0 hb0 hc ⊢
        have hq1 : (a : Int) / (b : Int) = (cI k : Int) := by rw [← hc, Int.natCast_ediv]
        have hqb : cI k ≤ a := by rw [← hc]; exact Nat.div_le_self _ _
        have Hin : Hid (inR (k : Int)) := Lib.hid ⟨by omega, by omega⟩
        clear hc
        go_wp2
        go_ret2
        exact ⟨IRes.yes Hin.out, rfl⟩
  · have Hr := Lib.hid hr
    clear hr
    go_enter Try.func42, Try.ntmps42
    go_wp2_with fail
    refine (l1In_any _ _ _ w).mono ?_
    rintro e w2 ⟨ha, rfl⟩
    obtain rfl := ha.isnt (fun h => Hr.out ⟨by omega, by omega⟩)
    clear ha
    go_wp2
    go_ret2
    exact ⟨IRes.no Hr.out, rfl⟩
end Go.Proofs.Ytgdijjfipicodaa
