/- Parts of proofs: contracts and plain facts. Conditions: as each says. -/
import Derived.Test.YtjkpokpidpampaaDoorK08
import Derived.Laws.BitsAllLaws
namespace Go.Proofs.YtjkpokpidpampaaDoor
open Go.RowKit

def belowP (m k : List (List Int)) : Prop := ∀ i j, i < m.length + 1 → j < m.length + 1 → gi (gr (ht m) i) j ≤ gi (gr (ht k) i) j
def distM (m k : List (List Int)) : Int := distC m.length (S2 m) (S2 k)

end Go.Proofs.YtjkpokpidpampaaDoor

namespace Go.Proofs.YtjkpokpidpampaaDoor
/-- how many of the first k numbers are j -/
def occ (xs : List Int) (j : Int) : Nat → Int
  | 0 => 0
  | k + 1 => occ xs j k + (if gi xs k = j then 1 else 0)
theorem occ_bd (xs : List Int) (j : Int) : ∀ k, 0 ≤ occ xs j k ∧ occ xs j k ≤ k
  | 0 => by simp [occ]
  | k + 1 => by have := occ_bd xs j k; simp only [occ]; split <;> omega
/-- all numbers of a triangle are at most the last one of its last row -/
theorem tri_le {t : List (List Int)} (h : isTri t) : ∀ d i, i + d + 1 = t.length → ∀ k, k ≤ i → gi (gr t i) k ≤ gi (gr t (t.length - 1)) (t.length - 1)
  | 0, i, hi, k, hk => by
    have hl := (h.2.2 i (by omega)).1
    have hr := ((isRowP_iff _).1 (h.2.2 i (by omega)).2.1).2.2
    rw [show t.length - 1 = i from by omega]
    rcases Nat.lt_or_ge k i with hki | hki
    · have hup := (up_iff _).1 hr.1
      have mono : ∀ d k, k + d < (gr t i).length → gi (gr t i) k ≤ gi (gr t i) (k + d) := by
        intro d
        induction d with
        | zero => intro k _; exact Int.le_refl _
        | succ d ih =>
          intro k hkd
          have h1 := ih k (by omega)
          have h2 := hup (k + (d + 1)) hkd (by omega)
          rw [show k + (d + 1) - 1 = k + d from by omega] at h2
          omega
      have := mono (i - k) k (by omega)
      rwa [show k + (i - k) = i from by omega] at this
    · rw [show k = i from by omega]; exact Int.le_refl _
  | d + 1, i, hi, k, hk => by
    have h1 := (h.2.2 (i + 1) (by omega)).2.2 (by omega)
    have hl := (h.2.2 i (by omega)).1
    have h2 := (h1 k (by rw [show i + 1 - 1 = i from rfl]; omega)).2
    rw [show i + 1 - 1 = i from rfl] at h2
    have h3 := tri_le h d (i + 1) (by omega) (k + 1) (by omega)
    omega
/-- 0, 1, .., n - 1 -/
def iota (n : Nat) : List Int := rng 0 ((n : Int) - 1)
theorem iota_len (n : Nat) : (iota n).length = n := by unfold iota rng; simp
theorem gi_iota {n i : Nat} (h : i < n) : gi (iota n) i = i := by
  rw [gi_lt (by rw [iota_len]; exact h)]
  simp [iota, rng]
theorem up_iota (n : Nat) : Up (iota n) := by
  rw [up_iff]
  intro k hk h0
  rw [iota_len] at hk
  rw [gi_iota hk, gi_iota (by omega)]
  omega
theorem mem_iota {n : Nat} {x : Int} : x ∈ iota n ↔ 0 ≤ x ∧ x < n := by unfold iota; rw [mem_rng]; omega
theorem mask_iota (n : Nat) : mask (iota n) = 2 ^ n - 1 := by
  apply Nat.eq_of_testBit_eq
  intro i
  rw [testBit_mask (fun x hx => (mem_iota.1 hx).1), Nat.testBit_two_pow_sub_one]
  congr 1
  rw [mem_iota]
  simp
/-- a row of n numbers is 0, 1, .. exactly if its last number is n - 1 -/
theorem row_full {xs : List Int} (h : isRowP xs) : mask xs = 2 ^ xs.length - 1 ↔ gi xs (xs.length - 1) = (xs.length : Int) - 1 := by
  obtain ⟨h1, h2, hu, hr⟩ := (isRowP_iff _).1 h
  rw [← mask_iota]
  constructor
  · intro hm
    have e := mask_inj hu (fun x hx => (hr x hx).1) (up_iota _) (fun x hx => (mem_iota.1 hx).1) hm
    generalize hn : xs.length = n at *
    rw [e, gi_iota (by omega)]
    omega
  · intro hl
    congr 1
    refine ext_gi (by rw [iota_len]) fun i hi => ?_
    rw [gi_iota hi]
    have hup := (up_iff _).1 hu
    have lo : ∀ k, k < xs.length → (k : Int) ≤ gi xs k := by
      intro k
      induction k with
      | zero => intro hk; exact (hr _ (gi_mem hk)).1
      | succ k ih =>
        intro hk
        have a := ih (by omega)
        have b := hup (k + 1) hk (by omega)
        rw [show k + 1 - 1 = k from rfl] at b
        omega
    have hi2 : ∀ d k, k + d + 1 = xs.length → gi xs k ≤ k := by
      intro d
      induction d with
      | zero => intro k hk; rw [show xs.length - 1 = k from by omega] at hl; omega
      | succ d ih =>
        intro k hk
        have a := ih (k + 1) (by omega)
        have b := hup (k + 1) (by omega) (by omega)
        rw [show k + 1 - 1 = k from rfl] at b
        omega
    have := lo i hi
    have := hi2 (xs.length - 1 - i) i (by omega)
    omega
/-- the numbers of the sign matrix of a triangle -/
def signAt (t : List (List Int)) (i j : Nat) : Int := occ (gr t i) j (gr t i).length - (if 0 < i then occ (gr t (i - 1)) j (gr t (i - 1)).length else 0)
def fromT (t : List (List Int)) : List (List Int) := (List.range t.length).map fun i => (List.range t.length).map fun j => signAt t i j
/-- a triangle whose last row is that of sign matrices -/
def fullTri (t : List (List Int)) : Prop := isTri t ∧ gi (gr t (t.length - 1)) (t.length - 1) = (t.length : Int) - 1
theorem full_lt {t : List (List Int)} (h : fullTri t) {i k : Nat} (hi : i < t.length) (hk : k < (gr t i).length) : 0 ≤ gi (gr t i) k ∧ gi (gr t i) k < t.length := by
  have hl := (h.1.2.2 i hi).1
  have := tri_le h.1 (t.length - 1 - i) i (by omega) k (by omega)
  have := ((h.1.2.2 i hi).2.1.2.2 k hk).1.1
  have := h.2
  omega
end Go.Proofs.YtjkpokpidpampaaDoor

namespace Go.Proofs.YtjkpokpidpampaaDoor
open Go.RowKit

theorem take_succ_gi {xs : List Int} {k : Nat} (h : k < xs.length) : xs.take (k + 1) = xs.take k ++ [gi xs k] := by
  rw [gi_lt h, List.take_succ_eq_append_getElem h]

theorem shl_one {x : Int} (h0 : 0 ≤ x) (h1 : x ≤ 15) : IntKind.u64.wrap (2 ^ x.toNat) = ((2 ^ x.toNat : Nat) : Int) := by
  rw [IntKind.wrap_u64]
  have : 2 ^ x.toNat ≤ 2 ^ 15 := Nat.pow_le_pow_right (by omega) (by omega)
  rw [show ((2 : Int) ^ x.toNat) = ((2 ^ x.toNat : Nat) : Int) by simp]
  generalize 2 ^ x.toNat = q at this
  omega

theorem allColumns_any (n : Nat) (w : World) (hn : n ≤ 15) :
    Calls Tryd.prog 65 #[.int .i64 (n : Int)] w fun e w' => e = .returned (.int .u64 ((2 ^ n - 1 : Nat) : Int)) ∧ w = w' := by
  have e1 := shl_one (x := (n : Int)) (by omega) (by omega)
  rw [Int.toNat_natCast] at e1
  have E : IntKind.u64.wrap (IntKind.u64.wrap (2 ^ n) - 1) = ((2 ^ n - 1 : Nat) : Int) := by
    have h2 : 2 ^ n ≤ 2 ^ 15 := Nat.pow_le_pow_right (by omega) (by omega)
    have h3 : 0 < 2 ^ n := Nat.two_pow_pos n
    rw [e1, IntKind.wrap_u64, Int.emod_eq_of_lt (by omega) (by omega)]
    omega
  have E2 := Lib.hid E
  clear e1 E
  go_enter Tryd.func65, Tryd.ntmps65
  go_wp2
  go_ret
  exact ⟨by rw [← E2.out]; rfl, rfl⟩
end Go.Proofs.YtjkpokpidpampaaDoor

namespace Go.Proofs.YtjkpokpidpampaaDoor
open Go.RowKit

def risesP (lo hi : Int) (xs : List Int) : Prop := ∀ k, k < xs.length → (lo ≤ gi xs k ∧ gi xs k ≤ hi) ∧ (0 < k → gi xs (k - 1) < gi xs k)

end Go.Proofs.YtjkpokpidpampaaDoor

namespace Go.Proofs.YtjkpokpidpampaaDoor
open Go.RowKit

end Go.Proofs.YtjkpokpidpampaaDoor

namespace Go.Proofs.YtjkpokpidpampaaDoor
open Go.RowKit

/-- rows of columns -/
def colsOk (t : List (List Int)) : Prop := 1 ≤ t.length ∧ t.length ≤ 6 ∧ ∀ i, i < t.length → (gr t i).length ≤ 6 ∧ ∀ k, k < (gr t i).length → 0 ≤ gi (gr t i) k ∧ gi (gr t i) k < t.length
theorem fullTri.cols {t : List (List Int)} (h : fullTri t) : colsOk t := ⟨h.1.1, h.1.2.1, fun i hi => ⟨by have := (h.1.2.2 i hi).1; have := h.1.2.1; omega, fun k hk => full_lt h hi hk⟩⟩

/-- the numbers behind k rows -/
def soF (t : List (List Int)) (k a b : Nat) : Int := (if a < k then occ (gr t a) b (gr t a).length else 0) - (if 0 < a ∧ a ≤ k then occ (gr t (a - 1)) b (gr t (a - 1)).length else 0)
theorem soF_zero (t : List (List Int)) (a b : Nat) : soF t 0 a b = 0 := by
  unfold soF
  rw [if_neg (by omega), if_neg (by omega)]
  rfl
theorem soF_full {t : List (List Int)} {a : Nat} (b : Nat) (ha : a < t.length) : soF t t.length a b = signAt t a b := by
  unfold soF signAt
  rw [if_pos ha]
  by_cases h : 0 < a
  · rw [if_pos ⟨h, by omega⟩, if_pos h]
  · rw [if_neg (by omega), if_neg h]
def soG (t : List (List Int)) (k u a b : Nat) : Int := soF t k a b + (if a = k then occ (gr t k) b u else 0) - (if a = k + 1 then occ (gr t k) b u else 0)
theorem soG_zero (t : List (List Int)) (k a b : Nat) : soG t k 0 a b = soF t k a b := by unfold soG; simp [occ]
theorem soG_full (t : List (List Int)) (k a b : Nat) : soG t k (gr t k).length a b = soF t (k + 1) a b := by
  unfold soG soF
  by_cases h1 : a = k
  · subst h1
    rw [if_neg (show ¬ a < a by omega), if_pos rfl, if_neg (show ¬ a = a + 1 by omega), if_pos (show a < a + 1 by omega)]
    by_cases h0 : 0 < a
    · rw [if_pos ⟨h0, by omega⟩, if_pos ⟨h0, by omega⟩]; omega
    · rw [if_neg (by omega), if_neg (by omega)]; omega
  · rw [if_neg h1]
    by_cases h2 : a = k + 1
    · subst h2
      rw [if_neg (by omega), if_neg (by omega), if_pos rfl, if_neg (by omega), if_pos (by omega)]
      rw [show k + 1 - 1 = k from rfl]
      omega
    · rw [if_neg h2]
      have e1 : (a < k + 1) = (a < k) := propext (by omega)
      have e2 : (0 < a ∧ a ≤ k + 1) = (0 < a ∧ a ≤ k) := propext (by omega)
      simp only [e1, e2]
      omega
theorem soG_bd {t : List (List Int)} (h : colsOk t) {k u a b : Nat} (hk : k < t.length) (hu : u ≤ (gr t k).length) (ha : a < t.length) : -100 ≤ soG t k u a b ∧ soG t k u a b ≤ 100 := by
  have h1 := occ_bd (gr t a) b (gr t a).length
  have h2 := occ_bd (gr t (a - 1)) b (gr t (a - 1)).length
  have h3 := occ_bd (gr t k) b u
  have h4 := (h.2.2 a ha).1
  have h5 := (h.2.2 (a - 1) (by omega)).1
  have h6 := (h.2.2 k hk).1
  unfold soG soF
  repeat' split
  all_goals omega
theorem soG_step {t : List (List Int)} (k u a b J : Nat) (hJ : gi (gr t k) u = (J : Int)) : soG t k (u + 1) a b = if a = k ∧ b = J then soG t k u a b + 1 else if a = k + 1 ∧ b = J then soG t k u a b - 1 else soG t k u a b := by
  unfold soG
  simp only [occ, hJ]
  by_cases hb : b = J
  · subst hb
    simp only [if_true, and_true]
    by_cases h1 : a = k
    · subst h1; simp; omega
    · by_cases h2 : a = k + 1
      · subst h2; simp; omega
      · simp [h1, h2]
  · have hb2 : ¬ ((J : Int) = (b : Int)) := fun e => hb (by omega)
    simp [hb, hb2]

def fromTab (t : List (List Int)) : List (List Int) := tab t.length t.length (signAt t)
theorem fromTab_len (t : List (List Int)) : (fromTab t).length = t.length := tab_len _ _ _
theorem fromTab_small {t : List (List Int)} (h : t.length ≤ 6) : Small (fromTab t) := ⟨by rw [fromTab_len]; omega, fun i hi => by rw [fromTab_len] at hi; unfold fromTab; rw [tab_row hi]; omega⟩

set_option maxRecDepth 100000 in
set_option maxHeartbeats 1600000 in
theorem signsOf_any (ao : Option Addr) (c : Nat) (m : List (List Int)) (w : World) (hco : colsOk m) (hm : MatAt w ao m) :
    Calls Tryd.prog 68 #[.slice ao m.length c] w fun e w' => ∃ v, e = .returned v ∧ OwnM w' w.heap.size v (fromTab m) ∧ Below w.heap.size w w' := by
  have hn := hco.2.1
  have hmx : m.length ≤ 9223372036854775807 := by omega
  have Hco := Lib.hid hco
  have Hm := Lib.hid hm
  clear hco hm
  go_enter Tryd.func68, Tryd.ntmps68
  go_wp2_with fail
  refine (newGrid_any m.length w (by omega)).mono ?_
  rintro e w1 ⟨vs, rfl, hv, hb⟩
  have Hv := Lib.hid hv
  have Hb := Lib.hid hb
  clear hv hb
  go_wp2
  go_loopw [13] (fun i wr => ∃ (k : Nat) (f : Nat → Nat → Int), k ≤ m.length ∧ i = .int .i64 k ∧ OwnP wr w.heap.size (.slice (some ⟨w.heap.size, 0, none⟩) m.length m.length) m.length (tab m.length m.length f) m.length vs ∧
      (∀ a b, a < m.length → b < m.length → f a b = soF m k a b) ∧ Below w.heap.size w wr) (fun i _ => m.length - (intOf i).toNat)
  case atStart => exact ⟨0, _, Nat.zero_le _, rfl, Hv.out, fun a b _ _ => (soF_zero m a b).symm, Hb.out⟩
  case round =>
    obtain ⟨k, f, hk, rfl, hown, heq, hbr⟩ := hrel
    obtain ⟨wo, rfl⟩ : ∃ wo : World, wo = wr := ⟨_, rfl⟩
    clear Hv Hb
    by_cases hlt : k < m.length
    · obtain ⟨b1, o1, r1, d1, e0, hc0, hx1, _, _⟩ := Hm.out k hlt
      have hr6 := (Hco.out.2.2 k hlt).1
      have hrx : (gr m k).length ≤ 9223372036854775807 := by omega
      have hc1 := cell_below hc0 hbr
      subst e0
      have Hrow := Lib.hid hx1
      have Hown := Lib.hid hown
      have Heq := Lib.hid heq
      have Hbr := Lib.hid hbr
      clear hown heq hbr hx1 hc0
      go_wp2
      go_loopw [20] (fun i wr => ∃ (u : Nat) (f : Nat → Nat → Int), u ≤ (gr m k).length ∧ i = .int .i64 u ∧ OwnP wr w.heap.size (.slice (some ⟨w.heap.size, 0, none⟩) m.length m.length) m.length (tab m.length m.length f) m.length vs ∧
          (∀ a b, a < m.length → b < m.length → f a b = soG m k u a b) ∧ Below w.heap.size w wr) (fun i _ => (gr m k).length - (intOf i).toNat)
      case atStart => exact ⟨0, f, Nat.zero_le _, rfl, Hown.out, fun a b ha hb => by rw [Heq.out a b ha hb, soG_zero], Hbr.out⟩
      case round =>
        obtain ⟨u, f, hu, rfl, hown, heq, hbi⟩ := hrel
        clear Hown Heq
        by_cases hul : u < (gr m k).length
        · obtain ⟨b2, o2, e2, hc2⟩ := Hrow.out.below hbi u hul
          have hcol := (Hco.out.2.2 k hlt).2 u hul
          obtain ⟨J, hJ⟩ : ∃ J : Nat, gi (gr m k) u = (J : Int) := ⟨(gi (gr m k) u).toNat, by omega⟩
          rw [hJ] at hc2 hcol
          have hJn : J < m.length := by omega
          have HJ := Lib.hid hJ
          clear hcol hJ
          have hd := hown.cellAt k hlt
          obtain ⟨g, cap, hvs, hd2, hf2, hg, hst⟩ := hown.at2 hlt hJn
          rw [hvs] at hd
          have hfb := soG_bd Hco.out (b := J) hlt hu hlt
          rw [← heq k J hlt hJn] at hfb
          have hst1 := hst (f k J + 1)
          have hbs := hbi.setCell (p := ⟨g, J, none⟩) hg (.int .i64 (f k J + 1))
          by_cases hk1 : k + 1 < m.length
          · have hd' := hst1.cellAt (k + 1) hk1
            obtain ⟨g', cap', hvs', hd2', hf2', hg', hst'⟩ := hst1.at2 hk1 hJn
            rw [hvs'] at hd'
            rw [if_neg (by omega)] at hd2'
            have hfb' := soG_bd Hco.out (b := J) hlt hu hk1
            rw [← heq (k + 1) J hk1 hJn] at hfb'
            have Hst := Lib.hid (hst' (f (k + 1) J - 1))
            have Hbs := Lib.hid (hbs.setCell (p := ⟨g', J, none⟩) hg' (.int .i64 (f (k + 1) J - 1)))
            have Heq := Lib.hid heq
            subst e2
            clear hown heq hbi hvs hst hg hst1 hbs hvs' hst' hg'
            go_wp2
            go_roundw
            case rel =>
              refine ⟨u + 1, _, by omega, by go_num, Hst.out, fun a b ha hb => ?_, Hbs.out⟩
              rw [soG_step k u a b J HJ.out]
              by_cases h2 : a = k + 1 ∧ b = J
              · obtain ⟨rfl, rfl⟩ := h2
                rw [if_pos ⟨rfl, rfl⟩, if_neg (by omega), if_pos ⟨rfl, rfl⟩, Heq.out _ _ ha hb]
              · rw [if_neg h2]
                by_cases h1 : a = k ∧ b = J
                · obtain ⟨rfl, rfl⟩ := h1
                  rw [if_pos ⟨rfl, rfl⟩, if_pos ⟨rfl, rfl⟩, Heq.out _ _ ha hb]
                · rw [if_neg h1, if_neg h1, if_neg h2, Heq.out _ _ ha hb]
            case measure => simp [intOf]; omega
          · have Hst := Lib.hid hst1
            have Hbs := Lib.hid hbs
            have Heq := Lib.hid heq
            have hk2 : ¬ ((k : Int) + 1 < (m.length : Int)) := by omega
            subst e2
            clear hown heq hbi hvs hst hg hst1 hbs
            go_wp2
            go_roundw
            case rel =>
              refine ⟨u + 1, _, by omega, by go_num, Hst.out, fun a b ha hb => ?_, Hbs.out⟩
              rw [soG_step k u a b J HJ.out]
              by_cases h1 : a = k ∧ b = J
              · obtain ⟨rfl, rfl⟩ := h1
                rw [if_pos ⟨rfl, rfl⟩, if_pos ⟨rfl, rfl⟩, Heq.out _ _ ha hb]
              · rw [if_neg h1, if_neg h1, if_neg (fun h => by omega), Heq.out _ _ ha hb]
            case measure => simp [intOf]; omega
        · obtain rfl : u = (gr m k).length := by omega
          have Hown := Lib.hid hown
          have Heq := Lib.hid heq
          have Hbi := Lib.hid hbi
          clear hown heq hbi
          go_wp2
          go_roundw
          case rel => exact ⟨k + 1, f, by omega, by go_num, Hown.out, fun a b ha hb => by rw [Heq.out a b ha hb, soG_full], Hbi.out⟩
          case measure => simp [intOf]; omega
    · obtain rfl : k = m.length := by omega
      go_wp2
      go_ret
      refine ⟨_, rfl, ⟨vs, ?_⟩, hbr⟩
      rw [fromTab_len]
      have e : fromTab m = tab m.length m.length f := eq_tab (fromTab_len m) (fun i hi => tab_row hi) (fun i j hi hj => by unfold fromTab; rw [gi_tab hi hj, heq i j hi hj, soF_full j hi])
      rw [e]
      exact hown

/-- the model's numbers behind k rows, and within one -/
def tfF (t : List (List Int)) (k a b : Nat) : Int := if a < k then signAt t a b else 0
def tfG (t : List (List Int)) (k u a b : Nat) : Int := if a = k then occ (gr t k) b u else tfF t k a b
def tfH (t : List (List Int)) (k u a b : Nat) : Int := if a = k then occ (gr t k) b (gr t k).length - occ (gr t (k - 1)) b u else tfF t k a b
theorem tfG_zero (t : List (List Int)) (k a b : Nat) : tfG t k 0 a b = tfF t k a b := by
  unfold tfG tfF
  split
  · next h => subst h; rw [if_neg (by omega)]; rfl
  · rfl
theorem tfH_zero (t : List (List Int)) (k a b : Nat) : tfH t k 0 a b = tfG t k (gr t k).length a b := by
  unfold tfG tfH
  split
  · simp [occ]
  · rfl
theorem tfH_full (t : List (List Int)) {k : Nat} (a b : Nat) (hk : 0 < k) : tfH t k (gr t (k - 1)).length a b = tfF t (k + 1) a b := by
  unfold tfH tfF signAt
  by_cases h : a = k
  · subst h; rw [if_pos rfl, if_pos (by omega), if_pos hk]
  · rw [if_neg h]
    have e : (a < k + 1) = (a < k) := propext (by omega)
    simp only [e]
theorem tfG_full (t : List (List Int)) (a b : Nat) : tfG t 0 (gr t 0).length a b = tfF t 1 a b := by
  unfold tfG tfF signAt
  by_cases h : a = 0
  · subst h; simp
  · rw [if_neg h, if_neg (by omega), if_neg (by omega)]
theorem tfG_step {t : List (List Int)} (k u a b J : Nat) (hJ : gi (gr t k) u = (J : Int)) : tfG t k (u + 1) a b = if a = k ∧ b = J then tfG t k u a b + 1 else tfG t k u a b := by
  unfold tfG
  simp only [occ, hJ]
  by_cases hb : b = J
  · subst hb; by_cases h1 : a = k <;> simp [h1]
  · have hb2 : ¬ ((J : Int) = (b : Int)) := fun e => hb (by omega)
    simp [hb, hb2]
theorem tfH_step {t : List (List Int)} (k u a b J : Nat) (hJ : gi (gr t (k - 1)) u = (J : Int)) : tfH t k (u + 1) a b = if a = k ∧ b = J then tfH t k u a b - 1 else tfH t k u a b := by
  unfold tfH
  simp only [occ, hJ]
  by_cases hb : b = J
  · subst hb
    by_cases h1 : a = k
    · simp [h1]; omega
    · simp [h1]
  · have hb2 : ¬ ((J : Int) = (b : Int)) := fun e => hb (by omega)
    simp [hb, hb2]
theorem tf_bd {t : List (List Int)} (h : colsOk t) {k u b : Nat} (hk : k < t.length) (hu : u ≤ 6) : (-100 ≤ tfG t k u k b ∧ tfG t k u k b ≤ 100) ∧ -100 ≤ tfH t k u k b ∧ tfH t k u k b ≤ 100 := by
  have h1 := occ_bd (gr t k) b (gr t k).length
  have h2 := occ_bd (gr t (k - 1)) b u
  have h3 := occ_bd (gr t k) b u
  have h4 := (h.2.2 k hk).1
  unfold tfG tfH
  simp only [if_true]
  omega

end Go.Proofs.YtjkpokpidpampaaDoor

namespace Go.Proofs.YtjkpokpidpampaaDoor
open Go.RowKit

theorem Tryd.info_intssW : (Tryd.prog.info? 22).map (fun i => (i.zero, i.size, i.bytes)) = some (some (.slice none 0 0), 1, 24) := by kernel_rfl
/-- the table at an index -/
def gt (ts : List (List (List Int))) (i : Nat) : List (List Int) := ts.getD i []
theorem gt_lt {ts : List (List (List Int))} {i : Nat} (h : i < ts.length) : gt ts i = ts[i] := by simp [gt, List.getD, h]
theorem gt_mem {ts : List (List (List Int))} {i : Nat} (h : i < ts.length) : gt ts i ∈ ts := by rw [gt_lt h]; exact List.getElem_mem _
theorem gt_app_left {a b : List (List (List Int))} {i : Nat} (h : i < a.length) : gt (a ++ b) i = gt a i := by
  rw [gt_lt (by simp; omega), gt_lt h, List.getElem_append_left h]
theorem gt_app_right {a b : List (List (List Int))} {i : Nat} (h : i < b.length) : gt (a ++ b) (a.length + i) = gt b i := by
  rw [gt_lt (by simp; omega), gt_lt h, List.getElem_append_right (by omega)]
  simp
theorem gr_app_left {a b : List (List Int)} {i : Nat} (h : i < a.length) : gr (a ++ b) i = gr a i := by
  rw [gr_lt (by simp; omega), gr_lt h, List.getElem_append_left h]
theorem gr_app_right {a b : List (List Int)} {i : Nat} (h : i < b.length) : gr (a ++ b) (a.length + i) = gr b i := by
  rw [gr_lt (by simp; omega), gr_lt h, List.getElem_append_right (by omega)]
  simp
theorem getD_left {a b : List Value} {i : Nat} (h : i < a.length) : (a ++ b).getD i undef = a.getD i undef := by
  simp only [List.getD]; rw [List.getElem?_append_left h]
theorem getD_right {a b : List Value} {i : Nat} (h : a.length ≤ i) : (a ++ b).getD i undef = b.getD (i - a.length) undef := by
  simp only [List.getD]; rw [List.getElem?_append_right h]

theorem row_apart {w : World} {B B' n n' : Nat} {e e' : TypeId} {x v : Value} {xs ys : List Value} (h : w.ownsRow B e 1 x n xs) (k : w.ownsRow B' e' 1 v n' ys) (hne : e ≠ e') : ∀ g, x.ownBlock = some g → v.ownBlock ≠ some g := by
  intro g hg hv
  rcases h.2 with ⟨rfl, _⟩ | ⟨g1, cap1, cur1, rfl, _, h1, _⟩
  · simp [Value.ownBlock] at hg
  rcases k.2 with ⟨rfl, _⟩ | ⟨g2, cap2, cur2, rfl, _, h2, _⟩
  · simp [Value.ownBlock] at hv
  simp only [Value.ownBlock, Option.some.injEq] at hg hv
  subst hg hv
  rw [h1] at h2
  simp only [Option.some.injEq, Obj.cells.injEq] at h2
  exact hne h2.2.1
/-- what a slice of other elements than the one that grows owns is kept -/
theorem row_kept {w w1 : World} {B B' n n' : Nat} {e e' : TypeId} {x v : Value} {xs ys : List Value} (h : w.ownsRow B e 1 x n xs) (k : w.ownsRow B' e' 1 v n' ys) (hne : e ≠ e') (hg : w.grownBy w1 v.ownBlock) : w1.ownsRow B e 1 x n xs := by
  refine World.ownsRow.kept h hg ?_
  cases hb : x.ownBlock with
  | none => exact .inl rfl
  | some g => exact .inr (fun e' => row_apart h k hne g hb e'.symm)

/-- a slice of rows, each owned -/
structure OwnR (w : World) (B : Nat) (v : Value) (m : List (List Int)) (vs : List Value) : Prop where
  top : w.ownsRow B 28 1 v m.length vs
  rows : ∀ i, i < m.length → OwnI w B (vs.getD i undef) (gr m i)
theorem OwnR.below {w w' : World} {B : Nat} {v : Value} {m : List (List Int)} {vs : List Value} (h : OwnR w B v m vs) (hb : Below w.heap.size w w') : OwnR w' B v m vs := ⟨ownsRow_below h.top hb, fun i hi => (h.rows i hi).below hb⟩
theorem OwnR.base {w : World} {B B' : Nat} {v : Value} {m : List (List Int)} {vs : List Value} (h : OwnR w B v m vs) (hB : B' ≤ B) : OwnR w B' v m vs := ⟨ownsRow_base h.top hB, fun i hi => (h.rows i hi).base hB⟩
theorem OwnR.nil (w : World) (B : Nat) : OwnR w B (.slice none 0 0) [] [] := ⟨World.ownsRow_nil _ _ _ _, fun i hi => absurd hi (by simp)⟩
theorem OwnR.len {w : World} {B : Nat} {v : Value} {m : List (List Int)} {vs : List Value} (h : OwnR w B v m vs) : vs.length = m.length := by simpa using h.top.1
theorem OwnR.read {w : World} {B : Nat} {v : Value} {m : List (List Int)} {vs : List Value} (h : OwnR w B v m vs) : ∃ ao c, v = .slice ao m.length c ∧ m.length ≤ c ∧ c ≤ 9223372036854775807 ∧ MatAt w ao m := by
  obtain ⟨ao, c, hv, h1, h2, hc⟩ := ownsRow_read h.top
  refine ⟨ao, c, hv, h1, h2, fun i hi => ?_⟩
  obtain ⟨b, o, e, hcell⟩ := hc i hi
  obtain ⟨r, c', hr, h3, h4, hx⟩ := (h.rows i hi).read
  exact ⟨b, o, r, c', e, by rw [hcell, hr], hx, h3, h4⟩
theorem OwnP.toR {w : World} {B : Nat} {v : Value} {m : List (List Int)} {vs : List Value} (h : OwnP w B v m.length m m.length vs) : OwnR w B v m vs := ⟨h.top, h.rows⟩
theorem OwnR.kept {w w1 : World} {B B' n' : Nat} {x v : Value} {m : List (List Int)} {vs ys : List Value} {e' : TypeId} (h : OwnR w B x m vs) (k : w.ownsRow B' e' 1 v n' ys) (h1 : 28 ≠ e') (h2 : 3 ≠ e') (hg : w.grownBy w1 v.ownBlock) : OwnR w1 B x m vs :=
  ⟨row_kept h.top k h1 hg, fun i hi => row_kept (h.rows i hi) k h2 hg⟩
/-- rows put behind -/
theorem OwnR.join {w w1 : World} {B : Nat} {v v' : Value} {m k : List (List Int)} {vs us : List Value} (h : OwnR w B v m vs) (_hl : us.length = k.length) (hk : ∀ i, i < k.length → OwnI w B (us.getD i undef) (gr k i))
    (h1 : w1.ownsRow B 28 1 v' (m.length + k.length) (vs ++ us)) (hg : w.grownBy w1 v.ownBlock) : OwnR w1 B v' (m ++ k) (vs ++ us) := by
  refine ⟨by rw [List.length_append]; exact h1, fun i hi => ?_⟩
  rw [List.length_append] at hi
  have hvl := h.len
  by_cases hi2 : i < m.length
  · rw [getD_left (by omega), gr_app_left hi2]
    exact row_kept (h.rows i hi2) h.top (by decide) hg
  · obtain ⟨j, rfl⟩ : ∃ j, i = m.length + j := ⟨i - m.length, by omega⟩
    rw [getD_right (by omega), hvl, show m.length + j - m.length = j from by omega, gr_app_right (by omega)]
    exact row_kept (hk j (by omega)) h.top (by decide) hg
theorem OwnR.cells {w : World} {B n c : Nat} {ad : Addr} {m : List (List Int)} {vs : List Value} (h : OwnR w B (.slice (some ad) n c) m vs) : (∀ j u, vs[j]? = some u → w.cell? (ad.add j) = some u) ∧ (∀ u ∈ vs, u.oneCell' = true) := by
  have hl := h.len
  obtain ⟨ao, c', e, _, _, hc⟩ := ownsRow_read h.top
  cases e
  refine ⟨fun j u hj => ?_, fun u hu => ?_⟩
  · have hjl : j < vs.length := (List.getElem?_eq_some_iff.1 hj).1
    obtain ⟨b3, o3, e3, hc3⟩ := hc j (by omega)
    cases e3
    rw [Addr.add_lit, hc3, List.getD, hj]
    rfl
  · obtain ⟨i, hi, rfl⟩ := List.mem_iff_getElem.1 hu
    have := (h.rows i (by omega)).read
    rw [List.getD, List.getElem?_eq_getElem hi] at this
    obtain ⟨_, _, e, _⟩ := this
    rw [show vs[i] = (some vs[i]).getD undef from rfl, e]
    rfl

/-- a list of such tables -/
structure OwnRL (w : World) (B : Nat) (v : Value) (ts : List (List (List Int))) (vs : List Value) : Prop where
  top : w.ownsRow B 22 1 v ts.length vs
  each : ∀ i, i < ts.length → ∃ us, OwnR w B (vs.getD i undef) (gt ts i) us
theorem OwnRL.below {w w' : World} {B : Nat} {v : Value} {ts : List (List (List Int))} {vs : List Value} (h : OwnRL w B v ts vs) (hb : Below w.heap.size w w') : OwnRL w' B v ts vs := ⟨ownsRow_below h.top hb, fun i hi => ⟨_, (h.each i hi).choose_spec.below hb⟩⟩
theorem OwnRL.base {w : World} {B B' : Nat} {v : Value} {ts : List (List (List Int))} {vs : List Value} (h : OwnRL w B v ts vs) (hB : B' ≤ B) : OwnRL w B' v ts vs := ⟨ownsRow_base h.top hB, fun i hi => ⟨_, (h.each i hi).choose_spec.base hB⟩⟩
theorem OwnRL.nil (w : World) (B : Nat) : OwnRL w B (.slice none 0 0) [] [] := ⟨World.ownsRow_nil _ _ _ _, fun i hi => absurd hi (by simp)⟩
theorem OwnRL.len {w : World} {B : Nat} {v : Value} {ts : List (List (List Int))} {vs : List Value} (h : OwnRL w B v ts vs) : vs.length = ts.length := by simpa using h.top.1
theorem OwnRL.head {w : World} {B : Nat} {v : Value} {ts : List (List (List Int))} {vs : List Value} (h : OwnRL w B v ts vs) : ∃ ao c, v = .slice ao ts.length c ∧ ts.length ≤ c ∧ c ≤ 9223372036854775807 := by
  obtain ⟨ao, c, e, h1, h2, _⟩ := ownsRow_read h.top
  exact ⟨ao, c, e, h1, h2⟩
/-- tables put behind -/
theorem OwnRL.join {w w1 : World} {B : Nat} {v v' : Value} {ts ks : List (List (List Int))} {vs us : List Value} (h : OwnRL w B v ts vs) (_hl : us.length = ks.length) (hk : ∀ i, i < ks.length → ∃ xs, OwnR w B (us.getD i undef) (gt ks i) xs)
    (h1 : w1.ownsRow B 22 1 v' (ts.length + ks.length) (vs ++ us)) (hg : w.grownBy w1 v.ownBlock) : OwnRL w1 B v' (ts ++ ks) (vs ++ us) := by
  refine ⟨by rw [List.length_append]; exact h1, fun i hi => ?_⟩
  rw [List.length_append] at hi
  have hvl := h.len
  by_cases hi2 : i < ts.length
  · rw [getD_left (by omega), gt_app_left hi2]
    obtain ⟨xs, hx⟩ := h.each i hi2
    exact ⟨xs, hx.kept h.top (by decide) (by decide) hg⟩
  · obtain ⟨j, rfl⟩ : ∃ j, i = ts.length + j := ⟨i - ts.length, by omega⟩
    rw [getD_right (by omega), hvl, show ts.length + j - ts.length = j from by omega, gt_app_right (by omega)]
    obtain ⟨xs, hx⟩ := hk j (by omega)
    exact ⟨xs, hx.kept h.top (by decide) (by decide) hg⟩
theorem OwnRL.cells {w : World} {B n c : Nat} {ad : Addr} {ts : List (List (List Int))} {vs : List Value} (h : OwnRL w B (.slice (some ad) n c) ts vs) : (∀ j u, vs[j]? = some u → w.cell? (ad.add j) = some u) ∧ (∀ u ∈ vs, u.oneCell' = true) := by
  have hl := h.len
  obtain ⟨ao, c', e, _, _, hc⟩ := ownsRow_read h.top
  cases e
  refine ⟨fun j u hj => ?_, fun u hu => ?_⟩
  · have hjl : j < vs.length := (List.getElem?_eq_some_iff.1 hj).1
    obtain ⟨b3, o3, e3, hc3⟩ := hc j (by omega)
    cases e3
    rw [Addr.add_lit, hc3, List.getD, hj]
    rfl
  · obtain ⟨i, hi, rfl⟩ := List.mem_iff_getElem.1 hu
    obtain ⟨_, hx⟩ := h.each i (by omega)
    have := hx.read
    rw [List.getD, List.getElem?_eq_getElem hi] at this
    obtain ⟨_, _, e, _⟩ := this
    rw [show vs[i] = (some vs[i]).getD undef from rfl, e]
    rfl
/-- reading one of the tables -/
theorem OwnRL.at {w : World} {B n c : Nat} {ao : Option Addr} {ts : List (List (List Int))} {vs : List Value} (h : OwnRL w B (.slice ao n c) ts vs) {i : Nat} (hi : i < ts.length) :
    ∃ b o r d, ao = some ⟨b, o, none⟩ ∧ w.cell? ⟨b, o + i, none⟩ = some (.slice r (gt ts i).length d) ∧ MatAt w r (gt ts i) ∧ (gt ts i).length ≤ d ∧ d ≤ 9223372036854775807 := by
  obtain ⟨ao', c', e, _, _, hc⟩ := ownsRow_read h.top
  cases e
  obtain ⟨b, o, e, hcell⟩ := hc i hi
  obtain ⟨us, hx⟩ := h.each i hi
  obtain ⟨r, d, hr, h3, h4, hm⟩ := hx.read
  exact ⟨b, o, r, d, e, by rw [hcell, hr], hm, h3, h4⟩
end Go.Proofs.YtjkpokpidpampaaDoor

namespace Go.Proofs.YtjkpokpidpampaaDoor
open Go.RowKit

def okX (sums row : List Int) (sum x : Int) : Prop := (0 ≤ sum + x ∧ sum + x ≤ 1) ∧ 0 ≤ gi sums row.length + x ∧ gi sums row.length + x ≤ 1
instance (sums row : List Int) (sum x : Int) : Decidable (okX sums row sum x) := by unfold okX; infer_instance
/-- the rows that go on a row: d numbers more -/
def rowsW (sums : List Int) : Nat → List Int → Int → List (List Int)
  | 0, row, sum => if sum = 1 then [row] else []
  | d + 1, row, sum => (List.range 3).flatMap fun k : Nat => if okX sums row sum ((k : Int) - 1) then rowsW sums d (row ++ [(k : Int) - 1]) (sum + ((k : Int) - 1)) else []
/-- .. up to the k-th number -/
def rowsP (sums : List Int) (d : Nat) (row : List Int) (sum : Int) (k : Nat) : List (List Int) :=
  (List.range k).flatMap fun k : Nat => if okX sums row sum ((k : Int) - 1) then rowsW sums d (row ++ [(k : Int) - 1]) (sum + ((k : Int) - 1)) else []
theorem rowsP_zero (sums : List Int) (d : Nat) (row : List Int) (sum : Int) : rowsP sums d row sum 0 = [] := rfl
theorem rowsP_yes {sums : List Int} {d : Nat} {row : List Int} {sum : Int} {k : Nat} (h : okX sums row sum ((k : Int) - 1)) : rowsP sums d row sum (k + 1) = rowsP sums d row sum k ++ rowsW sums d (row ++ [(k : Int) - 1]) (sum + ((k : Int) - 1)) := by
  unfold rowsP
  rw [List.range_succ, List.flatMap_append]
  simp [h]
theorem rowsP_no {sums : List Int} {d : Nat} {row : List Int} {sum : Int} {k : Nat} (h : ¬okX sums row sum ((k : Int) - 1)) : rowsP sums d row sum (k + 1) = rowsP sums d row sum k := by
  unfold rowsP
  rw [List.range_succ, List.flatMap_append]
  simp [h]
theorem rowsP_end (sums : List Int) (d : Nat) (row : List Int) (sum : Int) : rowsP sums d row sum 3 = rowsW sums (d + 1) row sum := rfl
theorem flatL_len {α β : Type} (g : α → List β) (B : Nat) : ∀ l : List α, (∀ x, x ∈ l → (g x).length ≤ B) → (l.flatMap g).length ≤ l.length * B
  | [], _ => by simp
  | a :: l, h => by
    have h1 := flatL_len g B l (fun x hx => h x (by simp [hx]))
    have h2 := h a (by simp)
    rw [List.flatMap_cons, List.length_append, List.length_cons, Nat.add_mul]
    omega
theorem rowsW_le (sums : List Int) : ∀ (d : Nat) (row : List Int) (sum : Int), (rowsW sums d row sum).length ≤ 3 ^ d
  | 0, row, sum => by unfold rowsW; split <;> simp
  | d + 1, row, sum => by
    rw [Nat.pow_succ, Nat.mul_comm]
    refine Nat.le_trans (flatL_len _ (3 ^ d) _ fun k _ => ?_) (by simp)
    split
    · exact rowsW_le sums d _ _
    · simp
theorem rowsP_le (sums : List Int) (d : Nat) (row : List Int) (sum : Int) {k : Nat} (hk : k ≤ 3) : (rowsP sums d row sum k).length ≤ 3 ^ (d + 1) := by
  rw [Nat.pow_succ, Nat.mul_comm]
  refine Nat.le_trans (flatL_len _ (3 ^ d) _ fun k _ => ?_) (by rw [List.length_range]; exact Nat.mul_le_mul_right _ hk)
  split
  · exact rowsW_le sums d _ _
  · simp
theorem rowsW_mem (sums : List Int) : ∀ (d : Nat) (row : List Int) (sum : Int) (r : List Int), r ∈ rowsW sums d row sum →
    r.length = row.length + d ∧ (∀ j, j < row.length → gi r j = gi row j) ∧ ∀ j, row.length ≤ j → j < row.length + d → -1 ≤ gi r j ∧ gi r j ≤ 1 ∧ 0 ≤ gi sums j + gi r j ∧ gi sums j + gi r j ≤ 1
  | 0, row, sum, r, h => by
    unfold rowsW at h
    split at h
    · simp only [List.mem_singleton] at h
      subst h
      exact ⟨rfl, fun _ _ => rfl, fun j h1 h2 => absurd h1 (by omega)⟩
    · simp at h
  | d + 1, row, sum, r, h => by
    unfold rowsW at h
    rw [List.mem_flatMap] at h
    obtain ⟨k, hk, h⟩ := h
    have hk3 : k < 3 := by simpa using hk
    split at h
    · next hok =>
      obtain ⟨h1, h2, h3⟩ := rowsW_mem sums d _ _ r h
      rw [List.length_append] at h1 h2 h3
      simp only [List.length_cons, List.length_nil] at h1 h2 h3
      have hlast : gi r row.length = (k : Int) - 1 := by
        rw [h2 row.length (by omega)]
        simp [gi, List.getD]
      refine ⟨by omega, fun j hj => ?_, fun j hj1 hj2 => ?_⟩
      · rw [h2 j (by omega)]
        simp [gi, List.getD, List.getElem?_append_left hj]
      · by_cases e : j = row.length
        · subst e
          rw [hlast]
          have := hok.2
          exact ⟨by omega, by omega, this.1, this.2⟩
        · exact h3 j (by omega) (by omega)
    · simp at h

def addL (sums row : List Int) : List Int := (List.range sums.length).map fun j => gi sums j + gi row j
theorem addL_len (sums row : List Int) : (addL sums row).length = sums.length := by simp [addL]
theorem gi_addL {sums row : List Int} {j : Nat} (h : j < sums.length) : gi (addL sums row) j = gi sums j + gi row j := gi_row h
/-- the first t sums added to -/
def addP (sums row : List Int) (t : Nat) : List Int := (List.range sums.length).map fun j => gi sums j + (if j < t then gi row j else 0)
theorem addP_len (sums row : List Int) (t : Nat) : (addP sums row t).length = sums.length := by simp [addP]
theorem gi_addP {sums row : List Int} {t j : Nat} (h : j < sums.length) : gi (addP sums row t) j = gi sums j + (if j < t then gi row j else 0) := gi_row h
theorem addP_zero (sums row : List Int) : addP sums row 0 = sums := ext_gi (addP_len _ _ _) fun j hj => by
  rw [addP_len] at hj
  rw [gi_addP hj, if_neg (by omega)]
  omega
theorem addP_end (sums row : List Int) : addP sums row sums.length = addL sums row := ext_gi (by rw [addP_len, addL_len]) fun j hj => by
  rw [addP_len] at hj
  rw [gi_addP hj, gi_addL hj, if_pos hj]
theorem addP_set {sums row : List Int} {t : Nat} (ht : t < sums.length) : (addP sums row t).set t (gi sums t + gi row t) = addP sums row (t + 1) := by
  refine ext_gi (by rw [List.length_set, addP_len, addP_len]) fun j hj => ?_
  rw [List.length_set, addP_len] at hj
  rw [gi_set (by rw [addP_len]; exact ht), gi_addP (t := t) hj, gi_addP (t := t + 1) hj]
  by_cases e : j = t
  · subst e; rw [if_pos rfl, if_pos (by omega)]
  · rw [if_neg e]
    have : (j < t + 1) = (j < t) := propext (by omega)
    simp only [this]

/-- sums of columns that are 0 or 1 -/
def bits01 (sums : List Int) : Prop := ∀ j, j < sums.length → 0 ≤ gi sums j ∧ gi sums j ≤ 1
theorem bits01.add {sums : List Int} {r : List Int} (hr : r ∈ rowsW sums sums.length [] 0) : bits01 (addL sums r) := fun j hj => by
  rw [addL_len] at hj
  obtain ⟨_, _, h3⟩ := rowsW_mem sums sums.length [] 0 r hr
  have := h3 j (by simp) (by simpa using hj)
  rw [gi_addL hj]
  exact ⟨this.2.2.1, this.2.2.2⟩
def allOne (sums : List Int) : Bool := sums.all fun x => decide (x = 1)
theorem allOne_iff {sums : List Int} : allOne sums = true ↔ ∀ j, j < sums.length → gi sums j = 1 := by
  unfold allOne
  rw [List.all_eq_true]
  constructor
  · intro h j hj
    exact of_decide_eq_true (h _ (gi_mem hj))
  · intro h x hx
    obtain ⟨i, hi, rfl⟩ := List.mem_iff_getElem.1 hx
    have := h i hi
    rw [gi_lt hi] at this
    exact decide_eq_true this
/-- the matrices that go on some rows: d rows more -/
def goW : Nat → List (List Int) → List Int → List (List (List Int))
  | 0, rows, sums => if allOne sums = true then [rows] else []
  | d + 1, rows, sums => (rowsW sums sums.length [] 0).flatMap fun row => goW d (rows ++ [row]) (addL sums row)
/-- .. up to the k-th row -/
def goP (d : Nat) (rows : List (List Int)) (sums : List Int) (k : Nat) : List (List (List Int)) := ((rowsW sums sums.length [] 0).take k).flatMap fun row => goW d (rows ++ [row]) (addL sums row)
theorem goP_zero (d : Nat) (rows : List (List Int)) (sums : List Int) : goP d rows sums 0 = [] := by simp [goP]
theorem goP_step {d : Nat} {rows : List (List Int)} {sums : List Int} {k : Nat} (h : k < (rowsW sums sums.length [] 0).length) :
    goP d rows sums (k + 1) = goP d rows sums k ++ goW d (rows ++ [gr (rowsW sums sums.length [] 0) k]) (addL sums (gr (rowsW sums sums.length [] 0) k)) := by
  unfold goP
  rw [List.take_add_one, List.flatMap_append, List.getElem?_eq_getElem h, gr_lt h]
  simp
theorem goP_end (d : Nat) (rows : List (List Int)) (sums : List Int) : goP d rows sums (rowsW sums sums.length [] 0).length = goW (d + 1) rows sums := by
  unfold goP
  rw [List.take_length]
  rfl
theorem goW_le : ∀ (d : Nat) (rows : List (List Int)) (sums : List Int), sums.length ≤ 5 → (goW d rows sums).length ≤ 243 ^ d
  | 0, rows, sums, _ => by unfold goW; split <;> simp
  | d + 1, rows, sums, h => by
    unfold goW
    rw [Nat.pow_succ, Nat.mul_comm]
    refine Nat.le_trans (flatL_len _ (243 ^ d) _ fun r _ => goW_le d _ _ (by rw [addL_len]; exact h)) (Nat.mul_le_mul_right _ ?_)
    refine Nat.le_trans (rowsW_le _ _ _ _) (Nat.le_trans (Nat.pow_le_pow_right (by omega) h) (by decide))
theorem goP_le (d : Nat) (rows : List (List Int)) (sums : List Int) (k : Nat) (h : sums.length ≤ 5) : (goP d rows sums k).length ≤ 243 ^ (d + 1) := by
  unfold goP
  rw [Nat.pow_succ, Nat.mul_comm]
  refine Nat.le_trans (flatL_len _ (243 ^ d) _ fun r _ => goW_le d _ _ (by rw [addL_len]; exact h)) (Nat.mul_le_mul_right _ ?_)
  rw [List.length_take]
  refine Nat.le_trans (Nat.min_le_right _ _) (Nat.le_trans (rowsW_le _ _ _ _) (Nat.le_trans (Nat.pow_le_pow_right (by omega) h) (by decide)))
/-- all sign matrices with n rows, in order -/
def allW (n : Nat) : List (List (List Int)) := goW n [] (List.replicate n 0)
instance (xs : List Int) : Decidable (lineOk xs) := by unfold lineOk; infer_instance
instance (m : List (List Int)) : Decidable (rowsOk m) := by unfold rowsOk; infer_instance
instance (m : List (List Int)) : Decidable (square m) := by unfold square; infer_instance
instance (m : List (List Int)) : Decidable (good m) := by unfold good; infer_instance
theorem allW_good : ∀ n, n < 5 → ∀ m, m ∈ allW n → n = 0 ∨ (m.length = n ∧ good m) := by decide +kernel
theorem allW_len : ∀ n, n < 5 → (allW n).length ≤ 42 := by decide +kernel
end Go.Proofs.YtjkpokpidpampaaDoor

namespace Go.Proofs.YtjkpokpidpampaaDoor
open Go.RowKit

/-- all triangles whose last row is xs, of d + 1 numbers -/
def trisD : Nat → List Int → List (List (List Int))
  | 0, xs => [[xs]]
  | d + 1, xs => (above xs).flatMap fun ys => (trisD d ys).map fun t => t ++ [xs]
def trisP (d : Nat) (xs : List Int) (k : Nat) : List (List (List Int)) := ((above xs).take k).flatMap fun ys => (trisD d ys).map fun t => t ++ [xs]
def trisQ (d : Nat) (xs : List Int) (k t : Nat) : List (List (List Int)) := trisP d xs k ++ ((trisD d (gr (above xs) k)).take t).map fun t => t ++ [xs]
theorem trisP_zero (d : Nat) (xs : List Int) : trisP d xs 0 = [] := by simp [trisP]
theorem trisQ_zero (d : Nat) (xs : List Int) (k : Nat) : trisQ d xs k 0 = trisP d xs k := by simp [trisQ]
theorem trisQ_step {d : Nat} {xs : List Int} {k t : Nat} (h : t < (trisD d (gr (above xs) k)).length) : trisQ d xs k (t + 1) = trisQ d xs k t ++ [gt (trisD d (gr (above xs) k)) t ++ [xs]] := by
  unfold trisQ
  rw [List.take_add_one, List.map_append, List.getElem?_eq_getElem h, gt_lt h]
  simp
theorem trisQ_end {d : Nat} {xs : List Int} {k : Nat} (h : k < (above xs).length) : trisQ d xs k (trisD d (gr (above xs) k)).length = trisP d xs (k + 1) := by
  unfold trisQ trisP
  rw [List.take_length, List.take_add_one (i := k), List.flatMap_append, List.getElem?_eq_getElem h, gr_lt h]
  simp
theorem trisP_end (d : Nat) (xs : List Int) : trisP d xs (above xs).length = trisD (d + 1) xs := by
  unfold trisP
  rw [List.take_length]
  rfl
def trB : Nat → Nat
  | 0 => 1
  | d + 1 => 16 ^ (d + 1) * trB d
theorem trisD_le : ∀ (d : Nat) (xs : List Int), Rise xs → xs.length = d + 1 → (trisD d xs).length ≤ trB d
  | 0, xs, _, _ => by simp [trisD, trB]
  | d + 1, xs, hr, hl => by
    unfold trisD
    refine Nat.le_trans (flatL_len _ (trB d) _ fun ys hy => ?_) ?_
    · rw [List.length_map]
      obtain ⟨h1, h2⟩ := above_mem hr hy
      exact trisD_le d ys h1 (by omega)
    · rw [trB]
      refine Nat.mul_le_mul_right _ ?_
      have := above_len hr
      rw [hl] at this
      exact this
theorem trisQ_le {d : Nat} {xs : List Int} (hr : Rise xs) (hl : xs.length = d + 2) {k t : Nat} (hk : k < (above xs).length) : (trisQ d xs k t).length ≤ trB (d + 1) := by
  have h1 : (trisQ d xs k t).length ≤ (trisP d xs (k + 1)).length := by
    rw [← trisQ_end hk]
    unfold trisQ
    rw [List.length_append, List.length_append, List.length_map, List.length_map, List.length_take, List.take_length]
    omega
  refine Nat.le_trans h1 ?_
  have h2 : (trisP d xs (k + 1)).length ≤ ((above xs).take (k + 1)).length * trB d := flatL_len _ (trB d) _ fun ys hy => by
    rw [List.length_map]
    obtain ⟨h1, h2⟩ := above_mem hr (List.mem_of_mem_take hy)
    exact trisD_le d ys h1 (by omega)
  refine Nat.le_trans h2 ?_
  rw [trB]
  refine Nat.mul_le_mul_right _ ?_
  have h3 := above_len hr
  rw [hl] at h3
  rw [List.length_take]
  exact Nat.le_trans (Nat.min_le_right _ _) h3
theorem trB_le : ∀ d, d < 5 → trB d ≤ 1099511627776 := by decide +kernel
theorem trisD_len : ∀ (d : Nat) (xs : List Int), Rise xs → xs.length = d + 1 → ∀ t, t ∈ trisD d xs → t.length = d + 1
  | 0, xs, _, _, t, h => by simp [trisD] at h; rw [h]; rfl
  | d + 1, xs, hr, hl, t, h => by
    unfold trisD at h
    rw [List.mem_flatMap] at h
    obtain ⟨ys, hy, h⟩ := h
    rw [List.mem_map] at h
    obtain ⟨t', ht', rfl⟩ := h
    obtain ⟨h1, h2⟩ := above_mem hr hy
    rw [List.length_append, trisD_len d ys h1 (by omega) t' ht']
    rfl

/-- the last row of triangles of sign matrices -/
def fullR (n : Nat) : List Int := (List.range n).map fun j : Nat => (j : Int)
theorem fullR_len (n : Nat) : (fullR n).length = n := by simp [fullR]
theorem fullR_ok : ∀ n, n < 7 → mask (fullR n) = 2 ^ n - 1 := by decide +kernel
theorem fullR_up (n : Nat) : Up (fullR n) := by
  unfold fullR
  rw [up_iff]
  intro k hk _
  rw [List.length_map, List.length_range] at hk
  have h1 : gi ((List.range n).map fun j : Nat => (j : Int)) k = (k : Int) := gi_row hk
  have h2 : gi ((List.range n).map fun j : Nat => (j : Int)) (k - 1) = ((k - 1 : Nat) : Int) := gi_row (by omega)
  rw [h1, h2]
  omega
theorem fullR_rise {n : Nat} (h : n ≤ 16) : Rise (fullR n) := ⟨fullR_up n, fun x hx => by
  simp only [fullR, List.mem_map, List.mem_range] at hx
  obtain ⟨j, hj, rfl⟩ := hx
  omega⟩
instance (t : List (List Int)) : Decidable (colsOk t) := by unfold colsOk; infer_instance
theorem tris_cols : ∀ n, n < 6 → ∀ t, t ∈ trisD (n - 1) (fullR n) → n = 0 ∨ (t.length = n ∧ colsOk t) := by decide +kernel
/-- all sign matrices with n rows, as the program makes them of triangles -/
def allI (n : Nat) : List (List (List Int)) := (trisD (n - 1) (fullR n)).map fun t => (fromTab t).reverse
theorem allI_W : ∀ n, n < 5 → n = 0 ∨ allI n = allW n := by decide +kernel
end Go.Proofs.YtjkpokpidpampaaDoor

namespace Go.Proofs.YtjkpokpidpampaaDoor
open Go.RowKit

def belB (m k : List (List Int)) : Bool := (List.range (m.length + 1)).all fun i => (List.range (m.length + 1)).all fun j => decide (gi (gr (ht m) i) j ≤ gi (gr (ht k) i) j)
theorem belB_iff (m k : List (List Int)) : belB m k = true ↔ belowP m k := by
  simp only [belB, List.all_eq_true, List.mem_range, decide_eq_true_eq]
  exact ⟨fun h i j hi hj => h i hi j hj, fun h i hi j hj => h i j hi hj⟩
def cntB (m k : List (List Int)) (L : List (List (List Int))) : Nat := (L.filter fun x => belB m x && belB x k).length
theorem cntB_zero (m k : List (List Int)) (L : List (List (List Int))) : cntB m k (L.take 0) = 0 := by simp [cntB]
theorem cntB_succ {m k : List (List Int)} {L : List (List (List Int))} {t : Nat} (h : t < L.length) : cntB m k (L.take (t + 1)) = cntB m k (L.take t) + if belB m (gt L t) && belB (gt L t) k then 1 else 0 := by
  unfold cntB
  rw [List.take_succ_eq_append_getElem h, List.filter_append, List.length_append, gt_lt h]
  congr 1
  by_cases e : (belB m L[t] && belB L[t] k) = true
  · rw [if_pos e]
    simp only [List.filter_cons, e, if_true, List.filter_nil, List.length_singleton]
  · rw [if_neg e]
    simp only [List.filter_cons, e, List.filter_nil, Bool.false_eq_true, if_false, List.length_nil]
theorem cntB_le (m k : List (List Int)) (L : List (List (List Int))) (t : Nat) : cntB m k (L.take t) ≤ t := by
  unfold cntB
  have h1 := List.length_filter_le (fun x => belB m x && belB x k) (L.take t)
  have h2 : (L.take t).length ≤ t := by rw [List.length_take]; omega
  omega
/-- a sign matrix, decided -/
def goodB (m : List (List Int)) : Bool := decide (1 ≤ m.length) && decide (m.length ≤ 6) && ((List.range m.length).all fun i => (gr m i).length == m.length)
  && ((List.range m.length).all fun i => (List.range ((gr m i).length + 1)).all fun k => decide (0 ≤ sumK (gr m i) k) && decide (sumK (gr m i) k ≤ 1))
  && ((List.range m.length).all fun i => sumK (gr m i) (gr m i).length == 1)
  && ((List.range m.length).all fun i => (List.range ((gr (tr m) i).length + 1)).all fun k => decide (0 ≤ sumK (gr (tr m) i) k) && decide (sumK (gr (tr m) i) k ≤ 1))
  && ((List.range m.length).all fun i => sumK (gr (tr m) i) (gr (tr m) i).length == 1)
theorem allI_goodB : ∀ n, n < 5 → (allI n).all (fun m => goodB m && m.length == n) = true ∨ n = 0 := by decide +kernel
theorem all_range {n : Nat} {p : Nat → Bool} (h : (List.range n).all p = true) : ∀ i, i < n → p i = true := fun i hi => List.all_eq_true.1 h i (List.mem_range.2 hi)
theorem goodB_ok {m : List (List Int)} (h : goodB m = true) : good m := by
  simp only [goodB, Bool.and_eq_true, decide_eq_true_eq] at h
  obtain ⟨⟨⟨⟨⟨⟨h1, h2⟩, h3⟩, h4⟩, h5⟩, h6⟩, h7⟩ := h
  refine ⟨⟨h1, h2, fun i hi => by have := all_range h3 i hi; simpa using this⟩, fun i hi => ?_, fun i hi => ?_⟩
  · refine ⟨fun k hk => ?_, by have := all_range h5 i hi; simpa using this⟩
    have := all_range (all_range h4 i hi) k (by omega)
    simpa using this
  · rw [tr_len] at hi
    refine ⟨fun k hk => ?_, by have := all_range h7 i hi; simpa using this⟩
    have := all_range (all_range h6 i hi) k (by omega)
    simpa using this
theorem allI_good {n : Nat} (h1 : 1 ≤ n) (h4 : n ≤ 4) {i : Nat} (hi : i < (allI n).length) : good (gt (allI n) i) ∧ (gt (allI n) i).length = n := by
  have h := (allI_goodB n (by omega)).resolve_right (by omega)
  have h2 := List.all_eq_true.1 h (gt (allI n) i) (gt_mem hi)
  simp only [Bool.and_eq_true, beq_iff_eq] at h2
  exact ⟨goodB_ok h2.1, h2.2⟩
end Go.Proofs.YtjkpokpidpampaaDoor

