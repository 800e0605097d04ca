/- Parts of proofs: contracts and plain facts. Conditions: as each says. -/
import Derived.Test.YtnhkclnloiiihaaDoorK12
namespace Go.Proofs.YtnhkclnloiiihaaDoor
open Go.RowKit

/-- rows of columns -/
def colsOk (t : List (List Int)) : Prop := 1 ≤ t.length ∧ t.length ≤ 6 ∧ ∀ i, i < t.length → (gr t i).length ≤ 6 ∧ ∀ k, k < (gr t i).length → 0 ≤ gi (gr t i) k ∧ gi (gr t i) k < t.length
theorem fullTri.cols {t : List (List Int)} (h : fullTri t) : colsOk t := ⟨h.1.1, h.1.2.1, fun i hi => ⟨by have := (h.1.2.2 i hi).1; have := h.1.2.1; omega, fun k hk => full_lt h hi hk⟩⟩

/-- the numbers behind k rows -/
def soF (t : List (List Int)) (k a b : Nat) : Int := (if a < k then occ (gr t a) b (gr t a).length else 0) - (if 0 < a ∧ a ≤ k then occ (gr t (a - 1)) b (gr t (a - 1)).length else 0)
theorem soF_zero (t : List (List Int)) (a b : Nat) : soF t 0 a b = 0 := by
  unfold soF
  rw [if_neg (by omega), if_neg (by omega)]
  rfl
theorem soF_full {t : List (List Int)} {a : Nat} (b : Nat) (ha : a < t.length) : soF t t.length a b = signAt t a b := by
  unfold soF signAt
  rw [if_pos ha]
  by_cases h : 0 < a
  · rw [if_pos ⟨h, by omega⟩, if_pos h]
  · rw [if_neg (by omega), if_neg h]
def soG (t : List (List Int)) (k u a b : Nat) : Int := soF t k a b + (if a = k then occ (gr t k) b u else 0) - (if a = k + 1 then occ (gr t k) b u else 0)
theorem soG_zero (t : List (List Int)) (k a b : Nat) : soG t k 0 a b = soF t k a b := by unfold soG; simp [occ]
theorem soG_full (t : List (List Int)) (k a b : Nat) : soG t k (gr t k).length a b = soF t (k + 1) a b := by
  unfold soG soF
  by_cases h1 : a = k
  · subst h1
    rw [if_neg (show ¬ a < a by omega), if_pos rfl, if_neg (show ¬ a = a + 1 by omega), if_pos (show a < a + 1 by omega)]
    by_cases h0 : 0 < a
    · rw [if_pos ⟨h0, by omega⟩, if_pos ⟨h0, by omega⟩]; omega
    · rw [if_neg (by omega), if_neg (by omega)]; omega
  · rw [if_neg h1]
    by_cases h2 : a = k + 1
    · subst h2
      rw [if_neg (by omega), if_neg (by omega), if_pos rfl, if_neg (by omega), if_pos (by omega)]
      rw [show k + 1 - 1 = k from rfl]
      omega
    · rw [if_neg h2]
      have e1 : (a < k + 1) = (a < k) := propext (by omega)
      have e2 : (0 < a ∧ a ≤ k + 1) = (0 < a ∧ a ≤ k) := propext (by omega)
      simp only [e1, e2]
      omega
theorem soG_bd {t : List (List Int)} (h : colsOk t) {k u a b : Nat} (hk : k < t.length) (hu : u ≤ (gr t k).length) (ha : a < t.length) : -100 ≤ soG t k u a b ∧ soG t k u a b ≤ 100 := by
  have h1 := occ_bd (gr t a) b (gr t a).length
  have h2 := occ_bd (gr t (a - 1)) b (gr t (a - 1)).length
  have h3 := occ_bd (gr t k) b u
  have h4 := (h.2.2 a ha).1
  have h5 := (h.2.2 (a - 1) (by omega)).1
  have h6 := (h.2.2 k hk).1
  unfold soG soF
  repeat' split
  all_goals omega
theorem soG_step {t : List (List Int)} (k u a b J : Nat) (hJ : gi (gr t k) u = (J : Int)) : soG t k (u + 1) a b = if a = k ∧ b = J then soG t k u a b + 1 else if a = k + 1 ∧ b = J then soG t k u a b - 1 else soG t k u a b := by
  unfold soG
  simp only [occ, hJ]
  by_cases hb : b = J
  · subst hb
    simp only [if_true, and_true]
    by_cases h1 : a = k
    · subst h1; simp; omega
    · by_cases h2 : a = k + 1
      · subst h2; simp; omega
      · simp [h1, h2]
  · have hb2 : ¬ ((J : Int) = (b : Int)) := fun e => hb (by omega)
    simp [hb, hb2]

def fromTab (t : List (List Int)) : List (List Int) := tab t.length t.length (signAt t)
theorem fromTab_len (t : List (List Int)) : (fromTab t).length = t.length := tab_len _ _ _
theorem fromTab_small {t : List (List Int)} (h : t.length ≤ 6) : Small (fromTab t) := ⟨by rw [fromTab_len]; omega, fun i hi => by rw [fromTab_len] at hi; unfold fromTab; rw [tab_row hi]; omega⟩

set_option maxRecDepth 100000 in
set_option maxHeartbeats 1600000 in
theorem signsOf_any (ao : Option Addr) (c : Nat) (m : List (List Int)) (w : World) (hco : colsOk m) (hm : MatAt w ao m) :
    Calls Tryd.prog 86 #[.slice ao m.length c] w fun e w' => ∃ v, e = .returned v ∧ OwnM w' w.heap.size v (fromTab m) ∧ Below w.heap.size w w' := by
  have hn := hco.2.1
  have hmx : m.length ≤ 9223372036854775807 := by omega
  have Hco := Lib.hid hco
  have Hm := Lib.hid hm
  clear hco hm
  go_enter Tryd.func86, Tryd.ntmps86
  go_wp2_with fail
  refine (newGrid_any m.length w (by omega)).mono ?_
  rintro e w1 ⟨vs, rfl, hv, hb⟩
  have Hv := Lib.hid hv
  have Hb := Lib.hid hb
  clear hv hb
  go_wp2
  go_loopw [13] (fun i wr => ∃ (k : Nat) (f : Nat → Nat → Int), k ≤ m.length ∧ i = .int .i64 k ∧ OwnP wr w.heap.size (.slice (some ⟨w.heap.size, 0, none⟩) m.length m.length) m.length (tab m.length m.length f) m.length vs ∧
      (∀ a b, a < m.length → b < m.length → f a b = soF m k a b) ∧ Below w.heap.size w wr) (fun i _ => m.length - (intOf i).toNat)
  case atStart => exact ⟨0, _, Nat.zero_le _, rfl, Hv.out, fun a b _ _ => (soF_zero m a b).symm, Hb.out⟩
  case round =>
    obtain ⟨k, f, hk, rfl, hown, heq, hbr⟩ := hrel
    obtain ⟨wo, rfl⟩ : ∃ wo : World, wo = wr := ⟨_, rfl⟩
    clear Hv Hb
    by_cases hlt : k < m.length
    · obtain ⟨b1, o1, r1, d1, e0, hc0, hx1, _, _⟩ := Hm.out k hlt
      have hr6 := (Hco.out.2.2 k hlt).1
      have hrx : (gr m k).length ≤ 9223372036854775807 := by omega
      have hc1 := cell_below hc0 hbr
      subst e0
      have Hrow := Lib.hid hx1
      have Hown := Lib.hid hown
      have Heq := Lib.hid heq
      have Hbr := Lib.hid hbr
      clear hown heq hbr hx1 hc0
      go_wp2
      go_loopw [20] (fun i wr => ∃ (u : Nat) (f : Nat → Nat → Int), u ≤ (gr m k).length ∧ i = .int .i64 u ∧ OwnP wr w.heap.size (.slice (some ⟨w.heap.size, 0, none⟩) m.length m.length) m.length (tab m.length m.length f) m.length vs ∧
          (∀ a b, a < m.length → b < m.length → f a b = soG m k u a b) ∧ Below w.heap.size w wr) (fun i _ => (gr m k).length - (intOf i).toNat)
      case atStart => exact ⟨0, f, Nat.zero_le _, rfl, Hown.out, fun a b ha hb => by rw [Heq.out a b ha hb, soG_zero], Hbr.out⟩
      case round =>
        obtain ⟨u, f, hu, rfl, hown, heq, hbi⟩ := hrel
        clear Hown Heq
        by_cases hul : u < (gr m k).length
        · obtain ⟨b2, o2, e2, hc2⟩ := Hrow.out.below hbi u hul
          have hcol := (Hco.out.2.2 k hlt).2 u hul
          obtain ⟨J, hJ⟩ : ∃ J : Nat, gi (gr m k) u = (J : Int) := ⟨(gi (gr m k) u).toNat, by omega⟩
          rw [hJ] at hc2 hcol
          have hJn : J < m.length := by omega
          have HJ := Lib.hid hJ
          clear hcol hJ
          have hd := hown.cellAt k hlt
          obtain ⟨g, cap, hvs, hd2, hf2, hg, hst⟩ := hown.at2 hlt hJn
          rw [hvs] at hd
          have hfb := soG_bd Hco.out (b := J) hlt hu hlt
          rw [← heq k J hlt hJn] at hfb
          have hst1 := hst (f k J + 1)
          have hbs := hbi.setCell (p := ⟨g, J, none⟩) hg (.int .i64 (f k J + 1))
          by_cases hk1 : k + 1 < m.length
          · have hd' := hst1.cellAt (k + 1) hk1
            obtain ⟨g', cap', hvs', hd2', hf2', hg', hst'⟩ := hst1.at2 hk1 hJn
            rw [hvs'] at hd'
            rw [if_neg (by omega)] at hd2'
            have hfb' := soG_bd Hco.out (b := J) hlt hu hk1
            rw [← heq (k + 1) J hk1 hJn] at hfb'
            have Hst := Lib.hid (hst' (f (k + 1) J - 1))
            have Hbs := Lib.hid (hbs.setCell (p := ⟨g', J, none⟩) hg' (.int .i64 (f (k + 1) J - 1)))
            have Heq := Lib.hid heq
            subst e2
            clear hown heq hbi hvs hst hg hst1 hbs hvs' hst' hg'
            go_wp2
            go_roundw
            case rel =>
              refine ⟨u + 1, _, by omega, by go_num, Hst.out, fun a b ha hb => ?_, Hbs.out⟩
              rw [soG_step k u a b J HJ.out]
              by_cases h2 : a = k + 1 ∧ b = J
              · obtain ⟨rfl, rfl⟩ := h2
                rw [if_pos ⟨rfl, rfl⟩, if_neg (by omega), if_pos ⟨rfl, rfl⟩, Heq.out _ _ ha hb]
              · rw [if_neg h2]
                by_cases h1 : a = k ∧ b = J
                · obtain ⟨rfl, rfl⟩ := h1
                  rw [if_pos ⟨rfl, rfl⟩, if_pos ⟨rfl, rfl⟩, Heq.out _ _ ha hb]
                · rw [if_neg h1, if_neg h1, if_neg h2, Heq.out _ _ ha hb]
            case measure => simp [intOf]; omega
          · have Hst := Lib.hid hst1
            have Hbs := Lib.hid hbs
            have Heq := Lib.hid heq
            have hk2 : ¬ ((k : Int) + 1 < (m.length : Int)) := by omega
            subst e2
            clear hown heq hbi hvs hst hg hst1 hbs
            go_wp2
            go_roundw
            case rel =>
              refine ⟨u + 1, _, by omega, by go_num, Hst.out, fun a b ha hb => ?_, Hbs.out⟩
              rw [soG_step k u a b J HJ.out]
              by_cases h1 : a = k ∧ b = J
              · obtain ⟨rfl, rfl⟩ := h1
                rw [if_pos ⟨rfl, rfl⟩, if_pos ⟨rfl, rfl⟩, Heq.out _ _ ha hb]
              · rw [if_neg h1, if_neg h1, if_neg (fun h => by omega), Heq.out _ _ ha hb]
            case measure => simp [intOf]; omega
        · obtain rfl : u = (gr m k).length := by omega
          have Hown := Lib.hid hown
          have Heq := Lib.hid heq
          have Hbi := Lib.hid hbi
          clear hown heq hbi
          go_wp2
          go_roundw
          case rel => exact ⟨k + 1, f, by omega, by go_num, Hown.out, fun a b ha hb => by rw [Heq.out a b ha hb, soG_full], Hbi.out⟩
          case measure => simp [intOf]; omega
    · obtain rfl : k = m.length := by omega
      go_wp2
      go_ret
      refine ⟨_, rfl, ⟨vs, ?_⟩, hbr⟩
      rw [fromTab_len]
      have e : fromTab m = tab m.length m.length f := eq_tab (fromTab_len m) (fun i hi => tab_row hi) (fun i j hi hj => by unfold fromTab; rw [gi_tab hi hj, heq i j hi hj, soF_full j hi])
      rw [e]
      exact hown

set_option maxRecDepth 100000 in
set_option maxHeartbeats 800000 in
theorem implFromTriangle_any (ao : Option Addr) (c : Nat) (m : List (List Int)) (w : World) (hs : Small m) (_ : WfM m) (hm : MatAt w ao m) :
    Calls Tryd.prog 35 #[.slice ao m.length c] w fun e w' => MRes (fullTri m) (fromTab m) w' w.heap.size e ∧ Below w.heap.size w w' := by
  have hn := hs.1
  have hmx : m.length ≤ 9223372036854775807 := by omega
  have Hs := Lib.hid hs
  have Hm := Lib.hid hm
  clear hs hm
  by_cases ht : isTri m
  · have h0 := ht.1
    have h6 := ht.2.1
    obtain ⟨b1, o1, r1, d1, e0, hc1, hx1, _, _⟩ := Hm.out (m.length - 1) (by omega)
    have hrow := (ht.2.2 (m.length - 1) (by omega)).2.1
    have hl := (ht.2.2 (m.length - 1) (by omega)).1
    have hr := ((isRowP_iff _).1 hrow).2.2
    have hfull := row_full hrow
    rw [hl, show m.length - 1 + 1 = m.length from by omega] at hfull
    have Hfull := Lib.hid (show mask (gr m (m.length - 1)) = 2 ^ m.length - 1 ↔ fullTri m from hfull.trans ⟨fun h => ⟨ht, h⟩, fun h => h.2⟩)
    have Hr := Lib.hid hr
    have Ht := Lib.hid ht
    have Hx1 := Lib.hid hx1
    have Hl := Lib.hid hl
    clear hx1 hrow hl hr hfull ht
    subst e0
    have e1 : (m.length : Int) - 1 = ((m.length - 1 : Nat) : Int) := by omega
    by_cases hg : mask (gr m (m.length - 1)) = 2 ^ m.length - 1
    · have Hg := Lib.hid hg
      have hbne : ((((2 ^ m.length - 1 : Nat) : Int)) != ((2 ^ m.length - 1 : Nat) : Int)) = false := by simp
      obtain ⟨p, hp⟩ : ∃ p : Int, p = ((2 ^ m.length - 1 : Nat) : Int) := ⟨_, rfl⟩
      rw [← hp] at hbne
      have Hp := Lib.hid hp
      clear hp hg
      go_enter Tryd.func35, Tryd.ntmps35
      go_wp2_with fail
      refine (implIsTriangle_any _ c m w Hs.out Hm.out).mono ?_
      rintro e w1 ⟨ha, rfl⟩
      obtain rfl := ha.is Ht.out
      clear ha
      go_wp2_with fail
      refine (setOf_any r1 d1 (gr m (m.length - 1)) w (by have := Hl.out; omega) Hr.out.2 Hx1.out).mono ?_
      rintro e w1 ⟨rfl, rfl⟩
      rw [Hg.out, ← Hp.out]
      go_wp2_with fail
      refine (allColumns_any m.length w (by omega)).mono ?_
      rintro e w1 ⟨rfl, rfl⟩
      rw [← Hp.out]
      go_wp2_with fail
      refine (signsOf_any _ c m w (Hfull.out.1 Hg.out).cols Hm.out).mono ?_
      rintro e w1 ⟨v, rfl, hv, hb⟩
      have Hv := Lib.hid hv
      have Hb := Lib.hid hb
      clear hv hb
      go_wp2
      go_ret2
      exact ⟨MRes.yes (Hfull.out.1 Hg.out) Hv.out, Hb.out⟩
    · have Hg := Lib.hid hg
      have hbne : (((mask (gr m (m.length - 1)) : Nat) : Int) != ((2 ^ m.length - 1 : Nat) : Int)) = true := by simpa using fun e => hg (by omega)
      obtain ⟨p, hp⟩ : ∃ p : Int, p = ((2 ^ m.length - 1 : Nat) : Int) := ⟨_, rfl⟩
      obtain ⟨q, hq⟩ : ∃ q : Int, q = ((mask (gr m (m.length - 1)) : Nat) : Int) := ⟨_, rfl⟩
      rw [← hp, ← hq] at hbne
      have Hp := Lib.hid hp
      have Hq := Lib.hid hq
      clear hp hq hg
      go_enter Tryd.func35, Tryd.ntmps35
      go_wp2_with fail
      refine (implIsTriangle_any _ c m w Hs.out Hm.out).mono ?_
      rintro e w1 ⟨ha, rfl⟩
      obtain rfl := ha.is Ht.out
      clear ha
      go_wp2_with fail
      refine (setOf_any r1 d1 (gr m (m.length - 1)) w (by have := Hl.out; omega) Hr.out.2 Hx1.out).mono ?_
      rintro e w1 ⟨rfl, rfl⟩
      rw [← Hq.out]
      go_wp2_with fail
      refine (allColumns_any m.length w (by omega)).mono ?_
      rintro e w1 ⟨rfl, rfl⟩
      rw [← Hp.out]
      go_wp2
      go_ret2
      exact ⟨MRes.no (fun h => Hg.out (Hfull.out.2 h)), Below.refl _ _⟩
  · have Ht := Lib.hid ht
    clear ht
    go_enter Tryd.func35, Tryd.ntmps35
    go_wp2_with fail
    refine (implIsTriangle_any ao c m w Hs.out Hm.out).mono ?_
    rintro e w1 ⟨ha, rfl⟩
    obtain rfl := ha.isnt Ht.out
    clear ha
    go_wp2
    go_ret2
    exact ⟨MRes.no (fun h => Ht.out h.1), Below.refl _ _⟩

/-- the model's numbers behind k rows, and within one -/
def tfF (t : List (List Int)) (k a b : Nat) : Int := if a < k then signAt t a b else 0
def tfG (t : List (List Int)) (k u a b : Nat) : Int := if a = k then occ (gr t k) b u else tfF t k a b
def tfH (t : List (List Int)) (k u a b : Nat) : Int := if a = k then occ (gr t k) b (gr t k).length - occ (gr t (k - 1)) b u else tfF t k a b
theorem tfG_zero (t : List (List Int)) (k a b : Nat) : tfG t k 0 a b = tfF t k a b := by
  unfold tfG tfF
  split
  · next h => subst h; rw [if_neg (by omega)]; rfl
  · rfl
theorem tfH_zero (t : List (List Int)) (k a b : Nat) : tfH t k 0 a b = tfG t k (gr t k).length a b := by
  unfold tfG tfH
  split
  · simp [occ]
  · rfl
theorem tfH_full (t : List (List Int)) {k : Nat} (a b : Nat) (hk : 0 < k) : tfH t k (gr t (k - 1)).length a b = tfF t (k + 1) a b := by
  unfold tfH tfF signAt
  by_cases h : a = k
  · subst h; rw [if_pos rfl, if_pos (by omega), if_pos hk]
  · rw [if_neg h]
    have e : (a < k + 1) = (a < k) := propext (by omega)
    simp only [e]
theorem tfG_full (t : List (List Int)) (a b : Nat) : tfG t 0 (gr t 0).length a b = tfF t 1 a b := by
  unfold tfG tfF signAt
  by_cases h : a = 0
  · subst h; simp
  · rw [if_neg h, if_neg (by omega), if_neg (by omega)]
theorem tfG_step {t : List (List Int)} (k u a b J : Nat) (hJ : gi (gr t k) u = (J : Int)) : tfG t k (u + 1) a b = if a = k ∧ b = J then tfG t k u a b + 1 else tfG t k u a b := by
  unfold tfG
  simp only [occ, hJ]
  by_cases hb : b = J
  · subst hb; by_cases h1 : a = k <;> simp [h1]
  · have hb2 : ¬ ((J : Int) = (b : Int)) := fun e => hb (by omega)
    simp [hb, hb2]
theorem tfH_step {t : List (List Int)} (k u a b J : Nat) (hJ : gi (gr t (k - 1)) u = (J : Int)) : tfH t k (u + 1) a b = if a = k ∧ b = J then tfH t k u a b - 1 else tfH t k u a b := by
  unfold tfH
  simp only [occ, hJ]
  by_cases hb : b = J
  · subst hb
    by_cases h1 : a = k
    · simp [h1]; omega
    · simp [h1]
  · have hb2 : ¬ ((J : Int) = (b : Int)) := fun e => hb (by omega)
    simp [hb, hb2]
theorem tf_bd {t : List (List Int)} (h : colsOk t) {k u b : Nat} (hk : k < t.length) (hu : u ≤ 6) : (-100 ≤ tfG t k u k b ∧ tfG t k u k b ≤ 100) ∧ -100 ≤ tfH t k u k b ∧ tfH t k u k b ≤ 100 := by
  have h1 := occ_bd (gr t k) b (gr t k).length
  have h2 := occ_bd (gr t (k - 1)) b u
  have h3 := occ_bd (gr t k) b u
  have h4 := (h.2.2 k hk).1
  unfold tfG tfH
  simp only [if_true]
  omega

set_option maxRecDepth 100000 in
set_option maxHeartbeats 1600000 in
theorem specFromTriangle_any (ao : Option Addr) (c : Nat) (m : List (List Int)) (w : World) (hs : Small m) (hm : MatAt w ao m) :
    Calls Tryd.prog 38 #[.slice ao m.length c] w fun e w' => MRes (fullTri m) (fromTab m) w' w.heap.size e ∧ Below w.heap.size w w' := by
  have hn := hs.1
  have hmx : m.length ≤ 9223372036854775807 := by omega
  have Hs := Lib.hid hs
  have Hm := Lib.hid hm
  clear hs hm
  by_cases ht : isTri m
  · have h0 := ht.1
    have h6 := ht.2.1
    obtain ⟨b1, o1, r1, d1, e0, hc1, hx1, _, _⟩ := Hm.out (m.length - 1) (by omega)
    have hl := (ht.2.2 (m.length - 1) (by omega)).1
    rw [show m.length - 1 + 1 = m.length from by omega] at hl
    rw [hl] at hc1
    obtain ⟨b2, o2, e2, hc2⟩ := hx1 (m.length - 1) (by omega)
    have Ht := Lib.hid ht
    have Hl := Lib.hid hl
    clear hx1 hl ht
    subst e0
    have e1 : (m.length : Int) - 1 = ((m.length - 1 : Nat) : Int) := by omega
    have hl1 : m.length - 1 < m.length := by omega
    obtain ⟨x, hx⟩ : ∃ x, x = gi (gr m (m.length - 1)) (m.length - 1) := ⟨_, rfl⟩
    rw [← hx] at hc2
    have Hx := Lib.hid hx
    clear hx
    subst e2
    by_cases hg : x = (m.length : Int) - 1
    · have Hg := Lib.hid (show fullTri m from ⟨Ht.out, by rw [← Hx.out, hg]⟩)
      have hbne : (((m.length - 1 : Nat) : Int) != (m.length : Int) - 1) = false := by simp; omega
      rw [show x = ((m.length - 1 : Nat) : Int) from by omega] at hc2
      clear hg
      have Hco := Lib.hid Hg.out.cols
      go_enter Tryd.func38, Tryd.ntmps38
      go_wp2_with fail
      refine (trGood_any _ c m w Hs.out Hm.out).mono ?_
      rintro e w1 ⟨ha, rfl⟩
      obtain rfl := ha.is Ht.out
      clear ha
      go_wp2_with fail
      refine (sgZero_any m.length w (by omega)).mono ?_
      rintro e w1 ⟨v, rfl, hv, hb⟩
      obtain ⟨ga, gc, vs, rfl, hp, hgc, hgc2⟩ := hv.open
      rw [tab_len] at hp hgc
      have Hv := Lib.hid hp
      have Hb := Lib.hid hb
      clear hv hb hp
      have hga := Hv.out.top.2
      obtain ⟨gb, rfl⟩ : ∃ gb, ga = some ⟨gb, 0, none⟩ := by
        rcases hga with ⟨h1, h2⟩ | ⟨g, cap, cur, h1, _⟩
        · simp only [Value.slice.injEq] at h1; omega
        · simp only [Value.slice.injEq] at h1; exact ⟨g, h1.1⟩
      clear hga hc1 hc2 hbne
      rw [tab_len]
      go_wp2
      go_loopw [36] (fun i wr => ∃ (k : Nat) (f : Nat → Nat → Int), k ≤ m.length ∧ i = .int .i64 k ∧ OwnP wr w.heap.size (.slice (some ⟨gb, 0, none⟩) m.length gc) m.length (tab m.length m.length f) m.length vs ∧
          (∀ a b, a < m.length → b < m.length → f a b = tfF m k a b) ∧ Below w.heap.size w wr) (fun i _ => m.length - (intOf i).toNat)
      case atStart => exact ⟨0, _, Nat.zero_le _, rfl, Hv.out, fun a b _ _ => by unfold tfF; rw [if_neg (by omega)], Hb.out⟩
      case round =>
        obtain ⟨k, f, hk, rfl, hown, heq, hbr⟩ := hrel
        clear Hv Hb
        by_cases hlt : k < m.length
        · obtain ⟨b2, o2, r2, d2, e0, hc0, hx1, _, _⟩ := Hm.out k hlt
          cases e0
          have hr6 := (Hco.out.2.2 k hlt).1
          have hrx : (gr m k).length ≤ 9223372036854775807 := by omega
          have hc1 := cell_below hc0 hbr
          have Hrow := Lib.hid hx1
          have Hown := Lib.hid hown
          have Heq := Lib.hid heq
          have Hbr := Lib.hid hbr
          obtain ⟨wo, hwo⟩ : ∃ wo : World, wo = wr := ⟨_, rfl⟩
          subst hwo
          clear hown heq hbr hx1 hc0
          go_wp2
          go_loopw [43] (fun i wr => ∃ (u : Nat) (f : Nat → Nat → Int), u ≤ (gr m k).length ∧ i = .int .i64 u ∧ OwnP wr w.heap.size (.slice (some ⟨gb, 0, none⟩) m.length gc) m.length (tab m.length m.length f) m.length vs ∧
              (∀ a b, a < m.length → b < m.length → f a b = tfG m k u a b) ∧ Below w.heap.size w wr) (fun i _ => (gr m k).length - (intOf i).toNat)
          case atStart => exact ⟨0, f, Nat.zero_le _, rfl, Hown.out, fun a b ha hb => by rw [Heq.out a b ha hb, tfG_zero], Hbr.out⟩
          case round =>
            obtain ⟨u, f, hu, rfl, hown, heq, hbi⟩ := hrel
            clear Hown Heq
            by_cases hul : u < (gr m k).length
            · obtain ⟨b2, o2, e2, hc2⟩ := Hrow.out.below hbi u hul
              have hcol := (Hco.out.2.2 k hlt).2 u hul
              obtain ⟨J, hJ⟩ : ∃ J : Nat, gi (gr m k) u = (J : Int) := ⟨(gi (gr m k) u).toNat, by omega⟩
              rw [hJ] at hc2 hcol
              have hJn : J < m.length := by omega
              have HJ := Lib.hid hJ
              clear hcol hJ
              have hd := hown.cellAt k hlt
              obtain ⟨g, cap, hvs, hd2, hf2, hg, hst⟩ := hown.at2 hlt hJn
              rw [hvs] at hd
              have hfb := (tf_bd Hco.out (b := J) hlt (show u ≤ 6 by omega)).1
              rw [← heq k J hlt hJn] at hfb
              have Hst := Lib.hid (hst (f k J + 1))
              have Hbs := Lib.hid (hbi.setCell (p := ⟨g, J, none⟩) hg (.int .i64 (f k J + 1)))
              have Heq := Lib.hid heq
              subst e2
              clear hown heq hbi hvs hst hg
              go_wp2
              go_roundw
              case rel =>
                refine ⟨u + 1, _, by omega, by go_num, Hst.out, fun a b ha hb => ?_, Hbs.out⟩
                rw [tfG_step k u a b J HJ.out]
                by_cases h1 : a = k ∧ b = J
                · obtain ⟨rfl, rfl⟩ := h1
                  rw [if_pos ⟨rfl, rfl⟩, if_pos ⟨rfl, rfl⟩, Heq.out _ _ ha hb]
                · rw [if_neg h1, if_neg h1, Heq.out _ _ ha hb]
              case measure => simp [intOf]; omega
            · obtain rfl : u = (gr m k).length := by omega
              have Hown := Lib.hid hown
              have Heq := Lib.hid heq
              have Hbi := Lib.hid hbi
              clear hc1
              by_cases hk0 : 0 < k
              · have hd0 : decide ((0 : Int) < (k : Int)) = true := by simp; omega
                obtain ⟨b2, o2, r2', d2', e0, hc0, hx1, _, _⟩ := Hm.out (k - 1) (by omega)
                cases e0
                have hr6' := (Hco.out.2.2 (k - 1) (by omega)).1
                have hrx' : (gr m (k - 1)).length ≤ 9223372036854775807 := by omega
                have hc1 := cell_below hc0 hbi
                have Hrow' := Lib.hid hx1
                obtain ⟨wo, hwo⟩ : ∃ wo : World, wo = wr := ⟨_, rfl⟩
                subst hwo
                clear hown heq hbi hx1 hc0
                go_wp2
                go_loopw [65] (fun i wr => ∃ (u : Nat) (f : Nat → Nat → Int), u ≤ (gr m (k - 1)).length ∧ i = .int .i64 u ∧ OwnP wr w.heap.size (.slice (some ⟨gb, 0, none⟩) m.length gc) m.length (tab m.length m.length f) m.length vs ∧
                    (∀ a b, a < m.length → b < m.length → f a b = tfH m k u a b) ∧ Below w.heap.size w wr) (fun i _ => (gr m (k - 1)).length - (intOf i).toNat)
                case atStart => exact ⟨0, f, Nat.zero_le _, rfl, Hown.out, fun a b ha hb => by rw [Heq.out a b ha hb, tfH_zero], Hbi.out⟩
                case round =>
                  obtain ⟨u, f, hu, rfl, hown, heq, hbi⟩ := hrel
                  clear Hown Heq
                  by_cases hul : u < (gr m (k - 1)).length
                  · obtain ⟨b2, o2, e2, hc2⟩ := Hrow'.out.below hbi u hul
                    have hcol := (Hco.out.2.2 (k - 1) (by omega)).2 u hul
                    obtain ⟨J, hJ⟩ : ∃ J : Nat, gi (gr m (k - 1)) u = (J : Int) := ⟨(gi (gr m (k - 1)) u).toNat, by omega⟩
                    rw [hJ] at hc2 hcol
                    have hJn : J < m.length := by omega
                    have HJ := Lib.hid hJ
                    clear hcol hJ
                    have hd := hown.cellAt k hlt
                    obtain ⟨g, cap, hvs, hd2, hf2, hg, hst⟩ := hown.at2 hlt hJn
                    rw [hvs] at hd
                    have hfb := (tf_bd Hco.out (b := J) hlt (show u ≤ 6 by omega)).2
                    rw [← heq k J hlt hJn] at hfb
                    have Hst := Lib.hid (hst (f k J - 1))
                    have Hbs := Lib.hid (hbi.setCell (p := ⟨g, J, none⟩) hg (.int .i64 (f k J - 1)))
                    have Heq := Lib.hid heq
                    subst e2
                    clear hown heq hbi hvs hst hg
                    go_wp2
                    go_roundw
                    case rel =>
                      refine ⟨u + 1, _, by omega, by go_num, Hst.out, fun a b ha hb => ?_, Hbs.out⟩
                      rw [tfH_step k u a b J HJ.out]
                      by_cases h1 : a = k ∧ b = J
                      · obtain ⟨rfl, rfl⟩ := h1
                        rw [if_pos ⟨rfl, rfl⟩, if_pos ⟨rfl, rfl⟩, Heq.out _ _ ha hb]
                      · rw [if_neg h1, if_neg h1, Heq.out _ _ ha hb]
                    case measure => simp [intOf]; omega
                  · obtain rfl : u = (gr m (k - 1)).length := by omega
                    have Hown := Lib.hid hown
                    have Heq := Lib.hid heq
                    have Hbi := Lib.hid hbi
                    clear hown heq hbi
                    go_wp2
                    go_roundw
                    case rel => exact ⟨k + 1, f, by omega, by go_num, Hown.out, fun a b ha hb => by rw [Heq.out a b ha hb, tfH_full _ _ _ hk0], Hbi.out⟩
                    case measure => simp [intOf]; omega
              · have hd0 : decide ((0 : Int) < (k : Int)) = false := by simp; omega
                clear hown heq hbi
                go_wp2
                go_roundw
                case rel =>
                  refine ⟨k + 1, f, by omega, by go_num, Hown.out, fun a b ha hb => ?_, Hbi.out⟩
                  rw [Heq.out a b ha hb]
                  obtain rfl : k = 0 := by omega
                  exact tfG_full m a b
                case measure => simp [intOf]; omega
        · obtain rfl : k = m.length := by omega
          go_wp2
          go_ret2
          refine ⟨MRes.yes Hg.out ⟨vs, ?_⟩, hbr⟩
          rw [fromTab_len]
          have e : fromTab m = tab m.length m.length f := eq_tab (fromTab_len m) (fun i hi => tab_row hi) (fun i j hi hj => by unfold fromTab; rw [gi_tab hi hj, heq i j hi hj]; unfold tfF; rw [if_pos hi])
          rw [e]
          exact hown
    · have Hg := Lib.hid (show ¬ fullTri m from fun h => hg (by rw [Hx.out]; exact h.2))
      have hbne : (x != (m.length : Int) - 1) = true := by simpa using hg
      clear hg
      go_enter Tryd.func38, Tryd.ntmps38
      go_wp2_with fail
      refine (trGood_any _ c m w Hs.out Hm.out).mono ?_
      rintro e w1 ⟨ha, rfl⟩
      obtain rfl := ha.is Ht.out
      clear ha
      go_wp2
      go_ret2
      exact ⟨MRes.no Hg.out, Below.refl _ _⟩
  · have Ht := Lib.hid ht
    clear ht
    go_enter Tryd.func38, Tryd.ntmps38
    go_wp2_with fail
    refine (trGood_any ao c m w Hs.out Hm.out).mono ?_
    rintro e w1 ⟨ha, rfl⟩
    obtain rfl := ha.isnt Ht.out
    clear ha
    go_wp2
    go_ret2
    exact ⟨MRes.no (fun h => Ht.out h.1), Below.refl _ _⟩
end Go.Proofs.YtnhkclnloiiihaaDoor

