/- Parts of proofs: contracts and plain facts. Conditions: as each says. -/
import Derived.Test.YtmkldodkpijfjaaDoorK11
import Derived.Deep.RegionWith
namespace Go.Proofs.YtmkldodkpijfjaaDoor
open Go.RowKit

/-- rows of columns -/
def colsOk (t : List (List Int)) : Prop := 1 ≤ t.length ∧ t.length ≤ 6 ∧ ∀ i, i < t.length → (gr t i).length ≤ 6 ∧ ∀ k, k < (gr t i).length → 0 ≤ gi (gr t i) k ∧ gi (gr t i) k < t.length
theorem fullTri.cols {t : List (List Int)} (h : fullTri t) : colsOk t := ⟨h.1.1, h.1.2.1, fun i hi => ⟨by have := (h.1.2.2 i hi).1; have := h.1.2.1; omega, fun k hk => full_lt h hi hk⟩⟩

/-- the numbers behind k rows -/
def soF (t : List (List Int)) (k a b : Nat) : Int := (if a < k then occ (gr t a) b (gr t a).length else 0) - (if 0 < a ∧ a ≤ k then occ (gr t (a - 1)) b (gr t (a - 1)).length else 0)
theorem soF_zero (t : List (List Int)) (a b : Nat) : soF t 0 a b = 0 := by
  unfold soF
  rw [if_neg (by omega), if_neg (by omega)]
  rfl
theorem soF_full {t : List (List Int)} {a : Nat} (b : Nat) (ha : a < t.length) : soF t t.length a b = signAt t a b := by
  unfold soF signAt
  rw [if_pos ha]
  by_cases h : 0 < a
  · rw [if_pos ⟨h, by omega⟩, if_pos h]
  · rw [if_neg (by omega), if_neg h]
def soG (t : List (List Int)) (k u a b : Nat) : Int := soF t k a b + (if a = k then occ (gr t k) b u else 0) - (if a = k + 1 then occ (gr t k) b u else 0)
theorem soG_zero (t : List (List Int)) (k a b : Nat) : soG t k 0 a b = soF t k a b := by unfold soG; simp [occ]
theorem soG_full (t : List (List Int)) (k a b : Nat) : soG t k (gr t k).length a b = soF t (k + 1) a b := by
  unfold soG soF
  by_cases h1 : a = k
  · subst h1
    rw [if_neg (show ¬ a < a by omega), if_pos rfl, if_neg (show ¬ a = a + 1 by omega), if_pos (show a < a + 1 by omega)]
    by_cases h0 : 0 < a
    · rw [if_pos ⟨h0, by omega⟩, if_pos ⟨h0, by omega⟩]; omega
    · rw [if_neg (by omega), if_neg (by omega)]; omega
  · rw [if_neg h1]
    by_cases h2 : a = k + 1
    · subst h2
      rw [if_neg (by omega), if_neg (by omega), if_pos rfl, if_neg (by omega), if_pos (by omega)]
      rw [show k + 1 - 1 = k from rfl]
      omega
    · rw [if_neg h2]
      have e1 : (a < k + 1) = (a < k) := propext (by omega)
      have e2 : (0 < a ∧ a ≤ k + 1) = (0 < a ∧ a ≤ k) := propext (by omega)
      simp only [e1, e2]
      omega
theorem soG_bd {t : List (List Int)} (h : colsOk t) {k u a b : Nat} (hk : k < t.length) (hu : u ≤ (gr t k).length) (ha : a < t.length) : -100 ≤ soG t k u a b ∧ soG t k u a b ≤ 100 := by
  have h1 := occ_bd (gr t a) b (gr t a).length
  have h2 := occ_bd (gr t (a - 1)) b (gr t (a - 1)).length
  have h3 := occ_bd (gr t k) b u
  have h4 := (h.2.2 a ha).1
  have h5 := (h.2.2 (a - 1) (by omega)).1
  have h6 := (h.2.2 k hk).1
  unfold soG soF
  repeat' split
  all_goals omega
theorem soG_step {t : List (List Int)} (k u a b J : Nat) (hJ : gi (gr t k) u = (J : Int)) : soG t k (u + 1) a b = if a = k ∧ b = J then soG t k u a b + 1 else if a = k + 1 ∧ b = J then soG t k u a b - 1 else soG t k u a b := by
  unfold soG
  simp only [occ, hJ]
  by_cases hb : b = J
  · subst hb
    simp only [if_true, and_true]
    by_cases h1 : a = k
    · subst h1; simp; omega
    · by_cases h2 : a = k + 1
      · subst h2; simp; omega
      · simp [h1, h2]
  · have hb2 : ¬ ((J : Int) = (b : Int)) := fun e => hb (by omega)
    simp [hb, hb2]

def fromTab (t : List (List Int)) : List (List Int) := tab t.length t.length (signAt t)
theorem fromTab_len (t : List (List Int)) : (fromTab t).length = t.length := tab_len _ _ _
theorem fromTab_small {t : List (List Int)} (h : t.length ≤ 6) : Small (fromTab t) := ⟨by rw [fromTab_len]; omega, fun i hi => by rw [fromTab_len] at hi; unfold fromTab; rw [tab_row hi]; omega⟩

set_option maxRecDepth 100000 in
set_option maxHeartbeats 1600000 in
theorem signsOf_any (ao : Option Addr) (c : Nat) (m : List (List Int)) (w : World) (hco : colsOk m) (hm : MatAt w ao m) :
    Calls Tryd.prog 69 #[.slice ao m.length c] w fun e w' => ∃ v, e = .returned v ∧ OwnM w' w.heap.size v (fromTab m) ∧ Below w.heap.size w w' := by
  have hn := hco.2.1
  have hmx : m.length ≤ 9223372036854775807 := by omega
  have Hco := Lib.hid hco
  have Hm := Lib.hid hm
  clear hco hm
  go_enter Tryd.func69, Tryd.ntmps69
  go_wp2_with fail
  refine (newGrid_any m.length w (by omega)).mono ?_
  rintro e w1 ⟨vs, rfl, hv, hb⟩
  have Hv := Lib.hid hv
  have Hb := Lib.hid hb
  clear hv hb
  go_wp2
  go_loopw [13] (fun i wr => ∃ (k : Nat) (f : Nat → Nat → Int), k ≤ m.length ∧ i = .int .i64 k ∧ OwnP wr w.heap.size (.slice (some ⟨w.heap.size, 0, none⟩) m.length m.length) m.length (tab m.length m.length f) m.length vs ∧
      (∀ a b, a < m.length → b < m.length → f a b = soF m k a b) ∧ Below w.heap.size w wr) (fun i _ => m.length - (intOf i).toNat)
  case atStart => exact ⟨0, _, Nat.zero_le _, rfl, Hv.out, fun a b _ _ => (soF_zero m a b).symm, Hb.out⟩
  case round =>
    obtain ⟨k, f, hk, rfl, hown, heq, hbr⟩ := hrel
    obtain ⟨wo, rfl⟩ : ∃ wo : World, wo = wr := ⟨_, rfl⟩
    clear Hv Hb
    by_cases hlt : k < m.length
    · obtain ⟨b1, o1, r1, d1, e0, hc0, hx1, _, _⟩ := Hm.out k hlt
      have hr6 := (Hco.out.2.2 k hlt).1
      have hrx : (gr m k).length ≤ 9223372036854775807 := by omega
      have hc1 := cell_below hc0 hbr
      subst e0
      have Hrow := Lib.hid hx1
      have Hown := Lib.hid hown
      have Heq := Lib.hid heq
      have Hbr := Lib.hid hbr
      clear hown heq hbr hx1 hc0
      go_wp2
      go_loopw [20] (fun i wr => ∃ (u : Nat) (f : Nat → Nat → Int), u ≤ (gr m k).length ∧ i = .int .i64 u ∧ OwnP wr w.heap.size (.slice (some ⟨w.heap.size, 0, none⟩) m.length m.length) m.length (tab m.length m.length f) m.length vs ∧
          (∀ a b, a < m.length → b < m.length → f a b = soG m k u a b) ∧ Below w.heap.size w wr) (fun i _ => (gr m k).length - (intOf i).toNat)
      case atStart => exact ⟨0, f, Nat.zero_le _, rfl, Hown.out, fun a b ha hb => by rw [Heq.out a b ha hb, soG_zero], Hbr.out⟩
      case round =>
        obtain ⟨u, f, hu, rfl, hown, heq, hbi⟩ := hrel
        clear Hown Heq
        by_cases hul : u < (gr m k).length
        · obtain ⟨b2, o2, e2, hc2⟩ := Hrow.out.below hbi u hul
          have hcol := (Hco.out.2.2 k hlt).2 u hul
          obtain ⟨J, hJ⟩ : ∃ J : Nat, gi (gr m k) u = (J : Int) := ⟨(gi (gr m k) u).toNat, by omega⟩
          rw [hJ] at hc2 hcol
          have hJn : J < m.length := by omega
          have HJ := Lib.hid hJ
          clear hcol hJ
          have hd := hown.cellAt k hlt
          obtain ⟨g, cap, hvs, hd2, hf2, hg, hst⟩ := hown.at2 hlt hJn
          rw [hvs] at hd
          have hfb := soG_bd Hco.out (b := J) hlt hu hlt
          rw [← heq k J hlt hJn] at hfb
          have hst1 := hst (f k J + 1)
          have hbs := hbi.setCell (p := ⟨g, J, none⟩) hg (.int .i64 (f k J + 1))
          by_cases hk1 : k + 1 < m.length
          · have hd' := hst1.cellAt (k + 1) hk1
            obtain ⟨g', cap', hvs', hd2', hf2', hg', hst'⟩ := hst1.at2 hk1 hJn
            rw [hvs'] at hd'
            rw [if_neg (by omega)] at hd2'
            have hfb' := soG_bd Hco.out (b := J) hlt hu hk1
            rw [← heq (k + 1) J hk1 hJn] at hfb'
            have Hst := Lib.hid (hst' (f (k + 1) J - 1))
            have Hbs := Lib.hid (hbs.setCell (p := ⟨g', J, none⟩) hg' (.int .i64 (f (k + 1) J - 1)))
            have Heq := Lib.hid heq
            subst e2
            clear hown heq hbi hvs hst hg hst1 hbs hvs' hst' hg'
            go_wp2
            go_roundw
            case rel =>
              refine ⟨u + 1, _, by omega, by go_num, Hst.out, fun a b ha hb => ?_, Hbs.out⟩
              rw [soG_step k u a b J HJ.out]
              by_cases h2 : a = k + 1 ∧ b = J
              · obtain ⟨rfl, rfl⟩ := h2
                rw [if_pos ⟨rfl, rfl⟩, if_neg (by omega), if_pos ⟨rfl, rfl⟩, Heq.out _ _ ha hb]
              · rw [if_neg h2]
                by_cases h1 : a = k ∧ b = J
                · obtain ⟨rfl, rfl⟩ := h1
                  rw [if_pos ⟨rfl, rfl⟩, if_pos ⟨rfl, rfl⟩, Heq.out _ _ ha hb]
                · rw [if_neg h1, if_neg h1, if_neg h2, Heq.out _ _ ha hb]
            case measure => simp [intOf]; omega
          · have Hst := Lib.hid hst1
            have Hbs := Lib.hid hbs
            have Heq := Lib.hid heq
            have hk2 : ¬ ((k : Int) + 1 < (m.length : Int)) := by omega
            subst e2
            clear hown heq hbi hvs hst hg hst1 hbs
            go_wp2
            go_roundw
            case rel =>
              refine ⟨u + 1, _, by omega, by go_num, Hst.out, fun a b ha hb => ?_, Hbs.out⟩
              rw [soG_step k u a b J HJ.out]
              by_cases h1 : a = k ∧ b = J
              · obtain ⟨rfl, rfl⟩ := h1
                rw [if_pos ⟨rfl, rfl⟩, if_pos ⟨rfl, rfl⟩, Heq.out _ _ ha hb]
              · rw [if_neg h1, if_neg h1, if_neg (fun h => by omega), Heq.out _ _ ha hb]
            case measure => simp [intOf]; omega
        · obtain rfl : u = (gr m k).length := by omega
          have Hown := Lib.hid hown
          have Heq := Lib.hid heq
          have Hbi := Lib.hid hbi
          clear hown heq hbi
          go_wp2
          go_roundw
          case rel => exact ⟨k + 1, f, by omega, by go_num, Hown.out, fun a b ha hb => by rw [Heq.out a b ha hb, soG_full], Hbi.out⟩
          case measure => simp [intOf]; omega
    · obtain rfl : k = m.length := by omega
      go_wp2
      go_ret
      refine ⟨_, rfl, ⟨vs, ?_⟩, hbr⟩
      rw [fromTab_len]
      have e : fromTab m = tab m.length m.length f := eq_tab (fromTab_len m) (fun i hi => tab_row hi) (fun i j hi hj => by unfold fromTab; rw [gi_tab hi hj, heq i j hi hj, soF_full j hi])
      rw [e]
      exact hown

/-- the model's numbers behind k rows, and within one -/
def tfF (t : List (List Int)) (k a b : Nat) : Int := if a < k then signAt t a b else 0
def tfG (t : List (List Int)) (k u a b : Nat) : Int := if a = k then occ (gr t k) b u else tfF t k a b
def tfH (t : List (List Int)) (k u a b : Nat) : Int := if a = k then occ (gr t k) b (gr t k).length - occ (gr t (k - 1)) b u else tfF t k a b
theorem tfG_zero (t : List (List Int)) (k a b : Nat) : tfG t k 0 a b = tfF t k a b := by
  unfold tfG tfF
  split
  · next h => subst h; rw [if_neg (by omega)]; rfl
  · rfl
theorem tfH_zero (t : List (List Int)) (k a b : Nat) : tfH t k 0 a b = tfG t k (gr t k).length a b := by
  unfold tfG tfH
  split
  · simp [occ]
  · rfl
theorem tfH_full (t : List (List Int)) {k : Nat} (a b : Nat) (hk : 0 < k) : tfH t k (gr t (k - 1)).length a b = tfF t (k + 1) a b := by
  unfold tfH tfF signAt
  by_cases h : a = k
  · subst h; rw [if_pos rfl, if_pos (by omega), if_pos hk]
  · rw [if_neg h]
    have e : (a < k + 1) = (a < k) := propext (by omega)
    simp only [e]
theorem tfG_full (t : List (List Int)) (a b : Nat) : tfG t 0 (gr t 0).length a b = tfF t 1 a b := by
  unfold tfG tfF signAt
  by_cases h : a = 0
  · subst h; simp
  · rw [if_neg h, if_neg (by omega), if_neg (by omega)]
theorem tfG_step {t : List (List Int)} (k u a b J : Nat) (hJ : gi (gr t k) u = (J : Int)) : tfG t k (u + 1) a b = if a = k ∧ b = J then tfG t k u a b + 1 else tfG t k u a b := by
  unfold tfG
  simp only [occ, hJ]
  by_cases hb : b = J
  · subst hb; by_cases h1 : a = k <;> simp [h1]
  · have hb2 : ¬ ((J : Int) = (b : Int)) := fun e => hb (by omega)
    simp [hb, hb2]
theorem tfH_step {t : List (List Int)} (k u a b J : Nat) (hJ : gi (gr t (k - 1)) u = (J : Int)) : tfH t k (u + 1) a b = if a = k ∧ b = J then tfH t k u a b - 1 else tfH t k u a b := by
  unfold tfH
  simp only [occ, hJ]
  by_cases hb : b = J
  · subst hb
    by_cases h1 : a = k
    · simp [h1]; omega
    · simp [h1]
  · have hb2 : ¬ ((J : Int) = (b : Int)) := fun e => hb (by omega)
    simp [hb, hb2]
theorem tf_bd {t : List (List Int)} (h : colsOk t) {k u b : Nat} (hk : k < t.length) (hu : u ≤ 6) : (-100 ≤ tfG t k u k b ∧ tfG t k u k b ≤ 100) ∧ -100 ≤ tfH t k u k b ∧ tfH t k u k b ≤ 100 := by
  have h1 := occ_bd (gr t k) b (gr t k).length
  have h2 := occ_bd (gr t (k - 1)) b u
  have h3 := occ_bd (gr t k) b u
  have h4 := (h.2.2 k hk).1
  unfold tfG tfH
  simp only [if_true]
  omega

end Go.Proofs.YtmkldodkpijfjaaDoor

namespace Go.Proofs.YtmkldodkpijfjaaDoor
open Go.RowKit

/-- all triangles whose last row is xs, of d + 1 numbers -/
def trisD : Nat → List Int → List (List (List Int))
  | 0, xs => [[xs]]
  | d + 1, xs => (above xs).flatMap fun ys => (trisD d ys).map fun t => t ++ [xs]
def trisP (d : Nat) (xs : List Int) (k : Nat) : List (List (List Int)) := ((above xs).take k).flatMap fun ys => (trisD d ys).map fun t => t ++ [xs]
def trisQ (d : Nat) (xs : List Int) (k t : Nat) : List (List (List Int)) := trisP d xs k ++ ((trisD d (gr (above xs) k)).take t).map fun t => t ++ [xs]
theorem trisP_zero (d : Nat) (xs : List Int) : trisP d xs 0 = [] := by simp [trisP]
theorem trisQ_zero (d : Nat) (xs : List Int) (k : Nat) : trisQ d xs k 0 = trisP d xs k := by simp [trisQ]
theorem trisQ_step {d : Nat} {xs : List Int} {k t : Nat} (h : t < (trisD d (gr (above xs) k)).length) : trisQ d xs k (t + 1) = trisQ d xs k t ++ [gt (trisD d (gr (above xs) k)) t ++ [xs]] := by
  unfold trisQ
  rw [List.take_add_one, List.map_append, List.getElem?_eq_getElem h, gt_lt h]
  simp
theorem trisQ_end {d : Nat} {xs : List Int} {k : Nat} (h : k < (above xs).length) : trisQ d xs k (trisD d (gr (above xs) k)).length = trisP d xs (k + 1) := by
  unfold trisQ trisP
  rw [List.take_length, List.take_add_one (i := k), List.flatMap_append, List.getElem?_eq_getElem h, gr_lt h]
  simp
theorem trisP_end (d : Nat) (xs : List Int) : trisP d xs (above xs).length = trisD (d + 1) xs := by
  unfold trisP
  rw [List.take_length]
  rfl
def trB : Nat → Nat
  | 0 => 1
  | d + 1 => 16 ^ (d + 1) * trB d
theorem trisD_le : ∀ (d : Nat) (xs : List Int), Rise xs → xs.length = d + 1 → (trisD d xs).length ≤ trB d
  | 0, xs, _, _ => by simp [trisD, trB]
  | d + 1, xs, hr, hl => by
    unfold trisD
    refine Nat.le_trans (flatL_len _ (trB d) _ fun ys hy => ?_) ?_
    · rw [List.length_map]
      obtain ⟨h1, h2⟩ := above_mem hr hy
      exact trisD_le d ys h1 (by omega)
    · rw [trB]
      refine Nat.mul_le_mul_right _ ?_
      have := above_len hr
      rw [hl] at this
      exact this
theorem trisQ_le {d : Nat} {xs : List Int} (hr : Rise xs) (hl : xs.length = d + 2) {k t : Nat} (hk : k < (above xs).length) : (trisQ d xs k t).length ≤ trB (d + 1) := by
  have h1 : (trisQ d xs k t).length ≤ (trisP d xs (k + 1)).length := by
    rw [← trisQ_end hk]
    unfold trisQ
    rw [List.length_append, List.length_append, List.length_map, List.length_map, List.length_take, List.take_length]
    omega
  refine Nat.le_trans h1 ?_
  have h2 : (trisP d xs (k + 1)).length ≤ ((above xs).take (k + 1)).length * trB d := flatL_len _ (trB d) _ fun ys hy => by
    rw [List.length_map]
    obtain ⟨h1, h2⟩ := above_mem hr (List.mem_of_mem_take hy)
    exact trisD_le d ys h1 (by omega)
  refine Nat.le_trans h2 ?_
  rw [trB]
  refine Nat.mul_le_mul_right _ ?_
  have h3 := above_len hr
  rw [hl] at h3
  rw [List.length_take]
  exact Nat.le_trans (Nat.min_le_right _ _) h3
theorem trB_le : ∀ d, d < 5 → trB d ≤ 1099511627776 := by decide +kernel
theorem trisD_len : ∀ (d : Nat) (xs : List Int), Rise xs → xs.length = d + 1 → ∀ t, t ∈ trisD d xs → t.length = d + 1
  | 0, xs, _, _, t, h => by simp [trisD] at h; rw [h]; rfl
  | d + 1, xs, hr, hl, t, h => by
    unfold trisD at h
    rw [List.mem_flatMap] at h
    obtain ⟨ys, hy, h⟩ := h
    rw [List.mem_map] at h
    obtain ⟨t', ht', rfl⟩ := h
    obtain ⟨h1, h2⟩ := above_mem hr hy
    rw [List.length_append, trisD_len d ys h1 (by omega) t' ht']
    rfl

/-- the last row of triangles of sign matrices -/
def fullR (n : Nat) : List Int := (List.range n).map fun j : Nat => (j : Int)
theorem fullR_len (n : Nat) : (fullR n).length = n := by simp [fullR]
theorem fullR_ok : ∀ n, n < 7 → mask (fullR n) = 2 ^ n - 1 := by decide +kernel
theorem fullR_up (n : Nat) : Up (fullR n) := by
  unfold fullR
  rw [up_iff]
  intro k hk _
  rw [List.length_map, List.length_range] at hk
  have h1 : gi ((List.range n).map fun j : Nat => (j : Int)) k = (k : Int) := gi_row hk
  have h2 : gi ((List.range n).map fun j : Nat => (j : Int)) (k - 1) = ((k - 1 : Nat) : Int) := gi_row (by omega)
  rw [h1, h2]
  omega
theorem fullR_rise {n : Nat} (h : n ≤ 16) : Rise (fullR n) := ⟨fullR_up n, fun x hx => by
  simp only [fullR, List.mem_map, List.mem_range] at hx
  obtain ⟨j, hj, rfl⟩ := hx
  omega⟩
instance (t : List (List Int)) : Decidable (colsOk t) := by unfold colsOk; infer_instance
theorem tris_cols : ∀ n, n < 6 → ∀ t, t ∈ trisD (n - 1) (fullR n) → n = 0 ∨ (t.length = n ∧ colsOk t) := by decide +kernel
/-- all sign matrices with n rows, as the program makes them of triangles -/
def allI (n : Nat) : List (List (List Int)) := (trisD (n - 1) (fullR n)).map fun t => (fromTab t).reverse
theorem allI_W : ∀ n, n < 5 → n = 0 ∨ allI n = allW n := by decide +kernel
end Go.Proofs.YtmkldodkpijfjaaDoor

namespace Go.Proofs.YtmkldodkpijfjaaDoor
open Go.RowKit

def sv (b : List Int) : Value := .int .u64 (mask b : Nat)
/-- the cells at an address read as these sets -/
def SetsAt (w : World) (ao : Option Addr) (bs : List (List Int)) : Prop := ∀ i, i < bs.length → ∃ b o, ao = some ⟨b, o, none⟩ ∧ w.cell? ⟨b, o + i, none⟩ = some (sv (gr bs i))
theorem SetsAt.below {w w' : World} {ao : Option Addr} {bs : List (List Int)} (h : SetsAt w ao bs) (hb : Below w.heap.size w w') : SetsAt w' ao bs := by
  intro i hi
  obtain ⟨b, o, e, hc⟩ := h i hi
  exact ⟨b, o, e, cell_below hc hb⟩
/-- a slice of sets that the call owns -/
def OwnB (w : World) (B : Nat) (v : Value) (bs : List (List Int)) : Prop := w.ownsRow B 61 1 v bs.length (bs.map sv)
theorem OwnB.below {w w' : World} {B : Nat} {v : Value} {bs : List (List Int)} (h : OwnB w B v bs) (hb : Below w.heap.size w w') : OwnB w' B v bs := ownsRow_below h hb
theorem OwnB.base {w : World} {B B' : Nat} {v : Value} {bs : List (List Int)} (h : OwnB w B v bs) (hB : B' ≤ B) : OwnB w B' v bs := ownsRow_base h hB
theorem OwnB.nil (w : World) (B : Nat) : OwnB w B (.slice none 0 0) [] := World.ownsRow_nil _ _ _ _
theorem OwnB.read {w : World} {B : Nat} {v : Value} {bs : List (List Int)} (h : OwnB w B v bs) : ∃ ao c, v = .slice ao bs.length c ∧ bs.length ≤ c ∧ c ≤ 9223372036854775807 ∧ SetsAt w ao bs := by
  obtain ⟨ao, c, hv, h1, h2, hc⟩ := ownsRow_read h
  refine ⟨ao, c, hv, h1, h2, fun i hi => ?_⟩
  obtain ⟨b, o, e, hcell⟩ := hc i hi
  refine ⟨b, o, e, ?_⟩
  rw [hcell, gr_lt hi]
  simp [List.getD, hi]
theorem OwnB.snoc {w w1 : World} {B : Nat} {v v' : Value} {bs : List (List Int)} {x : List Int} {o : Obj} (h : OwnB w B v bs) (hB : B ≤ w.heap.size)
    (h1 : w1.ownsRow B 61 1 v' (bs.length + 1) (bs.map sv ++ [sv x])) (hg : (w.alloc o).grownBy w1 v.ownBlock) : OwnB w1 B v' (bs ++ [x]) ∧ Below B w w1 := by
  refine ⟨by unfold OwnB; rw [List.length_append, List.map_append]; exact h1, ?_⟩
  exact Below.grown ((Below.refl B w).alloc hB o) hg (by simp; omega) (fun k hk => (World.ownsRow.lt h k hk).1)
theorem OwnB.one (w : World) : OwnB (w.alloc (.cells #[sv []] 61)) w.heap.size (.slice (some ⟨w.heap.size, 0, none⟩) 1 1) [[]] := ownsRow_built w [sv []] (Nat.le_refl _) (by simp)

theorem Tryd.info_rowset : (Tryd.prog.info? 61).map (fun i => (i.zero, i.size, i.bytes)) = some (some (.int .u64 0), 1, 8) := by kernel_rfl

theorem i64_small {n : Int} (h1 : -1000000 ≤ n) (h2 : n ≤ 1000000) : IntKind.i64.wrap n = n := by
  simp [IntKind.wrap, IntKind.bits, IntKind.signed]
  omega

/-- of those that are behind b, the ones of the numbers lo .. v - 1 -/
def lengPart (b : List Int) (lo v : Int) : List (List Int) := ((rng lo (v - 1)).filter fun x => decide (lst b < x)).map fun x => b ++ [x]
theorem lengPart_start (b : List Int) (lo : Int) : lengPart b lo lo = [] := by unfold lengPart; rw [rng_nil (by omega)]; rfl
theorem lengPart_step {b : List Int} {lo v : Int} (h : lo ≤ v) : lengPart b lo (v + 1) = lengPart b lo v ++ (if lst b < v then [b ++ [v]] else []) := by
  unfold lengPart
  rw [show v + 1 - 1 = v from by omega, rng_snoc h, List.filter_append, List.map_append]
  by_cases hl : lst b < v <;> simp [hl]
theorem leng_take {bs : List (List Int)} {k : Nat} (h : k < bs.length) (lo hi : Int) : leng (bs.take (k + 1)) lo hi = leng (bs.take k) lo hi ++ lengPart (gr bs k) lo (hi + 1) := by
  unfold leng lengPart
  rw [List.take_succ_eq_append_getElem h, List.flatMap_append, gr_lt h, show hi + 1 - 1 = hi from by omega]
  simp

theorem or_step {b : List Int} {v : Int} (hb : Rise b) (h0 : 0 ≤ v) (h1 : v ≤ 15) : bits .or .u64 ((mask b : Nat) : Int) ((2 ^ v.toNat : Nat) : Int) = ((mask (b ++ [v]) : Nat) : Int) := by
  have := mask_lt16 hb
  have h2 : 2 ^ v.toNat ≤ 2 ^ 15 := Nat.pow_le_pow_right (by omega) (by omega)
  rw [u64_or_nat _ _ (by omega) (by omega), mask_snoc]

set_option maxRecDepth 100000 in
set_option maxHeartbeats 1600000 in
theorem lengthened_any (ao : Option Addr) (c : Nat) (bs : List (List Int)) (lo hi : Int) (w : World) (hn : bs.length ≤ 1048576) (hbs : ∀ b ∈ bs, Rise b) (hlo : 0 ≤ lo) (hlo2 : lo ≤ 15) (hhi : hi ≤ 15) (hx : SetsAt w ao bs) :
    Calls Tryd.prog 94 #[.slice ao bs.length c, .int .i64 lo, .int .i64 hi] w fun e w' => ∃ v, e = .returned v ∧ OwnB w' w.heap.size v (leng bs lo hi) ∧ Below w.heap.size w w' := by
  obtain ⟨i0, hi0, hz0, hz1, hz2⟩ := info_parts Tryd.info_rowset
  have hmx : bs.length ≤ 9223372036854775807 := by omega
  have Hx := Lib.hid hx
  have Hbs := Lib.hid hbs
  clear hx hbs
  go_enter Tryd.func94, Tryd.ntmps94
  go_wp2
  go_loopw [7, 13] (fun out i wr => ∃ k : Nat, k ≤ bs.length ∧ i = .int .i64 k ∧ OwnB wr w.heap.size out (leng (bs.take k) lo hi) ∧ Below w.heap.size w wr) (fun _ i _ => bs.length - (intOf i).toNat)
  case atStart => exact ⟨0, Nat.zero_le _, rfl, OwnB.nil _ _, Below.refl _ _⟩
  case round =>
    obtain ⟨k, hk, rfl, hown, hbr⟩ := hrel
    by_cases hlt : k < bs.length
    · obtain ⟨b0, o0, rfl, hc0⟩ := Hx.out k hlt
      have hc := cell_below hc0 hbr
      have hrise := Hbs.out _ (gr_mem hlt)
      have Hown := Lib.hid hown
      have Hbr := Lib.hid hbr
      have Hlt := Lib.hid (leng_take hlt lo hi)
      have hlen : (leng (bs.take k) lo hi).length ≤ k * 16 := by
        unfold leng
        refine flatMap_le (n := k) (k := 16) (by rw [List.length_take]; omega) (fun b _ => ?_)
        rw [List.length_map]
        exact rng_filter_le hlo hhi _
      obtain ⟨b, hb⟩ : ∃ b, b = gr bs k := ⟨_, rfl⟩
      obtain ⟨L0, hL0⟩ : ∃ L0, L0 = leng (bs.take k) lo hi := ⟨_, rfl⟩
      rw [← hb] at hc hrise
      rw [← hL0] at hlen
      have Hb := Lib.hid hb
      have HL0 := Lib.hid hL0
      have Hrise := Lib.hid hrise
      obtain ⟨m, hm⟩ : ∃ m : Int, m = (mask b : Nat) := ⟨_, rfl⟩
      have hc' : wr.cell? ⟨b0, o0 + k, none⟩ = some (.int .u64 m) := by rw [hm]; exact hc
      have Hm := Lib.hid hm
      obtain ⟨wo, hwo⟩ : ∃ wo : World, wo = wr := ⟨_, rfl⟩
      subst hwo
      clear hc0 hown hbr hc hrise hb hL0 hm
      go_wp2
      go_loopw [7, 10] (fun out i wr => ∃ v : Int, lo ≤ v ∧ (lo ≤ hi → v ≤ hi + 1) ∧ (hi < lo → v = lo) ∧ i = .int .i64 v ∧ OwnB wr w.heap.size out (L0 ++ lengPart b lo v) ∧ Below w.heap.size w wr) (fun _ i _ => (hi + 1 - intOf i).toNat)
      case atStart => exact ⟨lo, Int.le_refl _, fun h => by omega, fun _ => rfl, rfl, by rw [lengPart_start, List.append_nil, HL0.out]; exact Hown.out, Hbr.out⟩
      case round =>
        obtain ⟨v, hv1, hv2, hv3, rfl, hown, hbi⟩ := hrel
        clear Hown Hbr hc'
        by_cases hvh : v ≤ hi
        · have hv0 : 0 ≤ v := by omega
          have hv15 : v ≤ 15 := by omega
          have e1 := shl_one hv0 hv15
          have htest := mask_test Hrise.out.1 (fun x hx => (Hrise.out.2 x hx).1) hv0
          have hor := or_step Hrise.out hv0 hv15
          have hlen2 : (lengPart b lo v).length ≤ 16 := by
            unfold lengPart
            rw [List.length_map]
            exact rng_filter_le hlo (by omega) _
          rw [← Hm.out] at hor
          have Hstep := Lib.hid (lengPart_step (b := b) hv1)
          obtain ⟨p, hp⟩ : ∃ p : Int, p = ((2 ^ v.toNat : Nat) : Int) := ⟨_, rfl⟩
          rw [← hp] at e1 hor
          have hmp : m < p ↔ lst b < v := by rw [Hm.out, hp, ← htest]; omega
          obtain ⟨m', hm'⟩ : ∃ m' : Int, m' = (mask (b ++ [v]) : Nat) := ⟨_, rfl⟩
          rw [← hm'] at hor
          have Hm' := Lib.hid hm'
          have Hown := Lib.hid hown
          have Hbi := Lib.hid hbi
          have HB := Lib.hid hbi.size
          clear htest hp hm' hown hbi
          by_cases hcmp : lst b < v
          · have hlt2 := hmp.2 hcmp
            have Hcmp := Lib.hid hcmp
            clear hmp hcmp
            obtain ⟨Lc, hLc⟩ : ∃ Lc, Lc = L0 ++ lengPart b lo v := ⟨_, rfl⟩
            have hlen3 : Lc.length ≤ 33554432 := by rw [hLc, List.length_append]; omega
            have Hown' := Lib.hid (show OwnB wr w.heap.size _ Lc by rw [hLc]; exact Hown.out)
            have HLc := Lib.hid hLc
            clear Hown hLc hlen hlen2
            obtain ⟨ao2, co2, hout, hco2, hco3, _⟩ := Hown'.out.read
            subst hout
            go_wp2_with (at_builtin; refine wpList_append_own _ rfl _ _ 59 rfl w.heap.size 61 i0 (.int .u64 0) 1 8 Tryd.underlying59 hi0 hz0 hz1 hz2 rfl (by decide) _ _ _ rfl (World.ownsRow.alloc Hown'.out _) ⟨wr.heap.size, 0, none⟩ 1 1 [.int .u64 m'] rfl rfl (cell_one_new _ _ _) ?q2 ?q3 ?q4 ?q5 ?_)
            case q2 => intro u hu; simp at hu; subst hu; rfl
            case q3 => unfold maxLen; omega
            case q4 => omega
            case q5 => have := HB.out; simp; omega
            intro v' w3 hown' hgrow _
            have hput := Hown'.out.snoc (x := b ++ [v]) HB.out (by unfold sv; rw [← Hm'.out]; exact hown') hgrow
            obtain ⟨ao', co', rfl, _, _, _⟩ := hput.1.read
            have Hput := Lib.hid hput
            clear hput hown' hgrow
            go_wp2
            go_roundw
            case rel => exact ⟨v + 1, by omega, fun _ => by omega, fun h => by omega, by go_num, by rw [Hstep.out, if_pos Hcmp.out, ← List.append_assoc, ← HLc.out]; exact Hput.out.1, Hbi.out.trans Hput.out.2⟩
            case measure => simp [intOf]; omega
          · have hlt2 : ¬ m < p := fun h => hcmp (hmp.1 h)
            have Hcmp := Lib.hid hcmp
            clear hmp hcmp
            go_wp2
            go_roundw
            case rel => exact ⟨v + 1, by omega, fun _ => by omega, fun h => by omega, by go_num, by rw [Hstep.out, if_neg Hcmp.out, List.append_nil]; exact Hown.out, Hbi.out⟩
            case measure => simp [intOf]; omega
        · have Hown := Lib.hid hown
          have Hbi := Lib.hid hbi
          clear hown hbi
          go_wp2
          go_roundw
          case rel =>
            refine ⟨k + 1, by omega, by go_num, ?_, Hbi.out⟩
            rw [Hlt.out, ← HL0.out, ← Hb.out]
            have e : lengPart b lo (hi + 1) = lengPart b lo v := by
              by_cases h : lo ≤ hi
              · rw [show v = hi + 1 from by have := hv2 h; omega]
              · rw [hv3 (by omega), lengPart_start]
                unfold lengPart
                rw [rng_nil (by omega)]; rfl
            rw [e]
            exact Hown.out
          case measure => simp [intOf]; omega
    · obtain rfl : k = bs.length := by omega
      rw [List.take_length] at hown
      go_wp2
      go_ret
      exact ⟨_, rfl, hown, hbr⟩

theorem leng_rise {bs : List (List Int)} {lo hi : Int} (h : ∀ b ∈ bs, Rise b) (hlo : 0 ≤ lo) (hhi : hi ≤ 15) : ∀ b ∈ leng bs lo hi, Rise b := by
  intro b' hb'
  simp only [leng, List.mem_flatMap, List.mem_map, List.mem_filter, decide_eq_true_eq, mem_rng] at hb'
  obtain ⟨b, hb, v, ⟨⟨h1, h2⟩, h3⟩, rfl⟩ := hb'
  have hr := h b hb
  refine ⟨up_join hr.1 trivial (fun x hx y hy => ?_), fun x hx => ?_⟩
  · simp at hy; subst hy
    have := le_lst hr.1 x hx
    omega
  · rcases List.mem_append.1 hx with hx | hx
    · exact hr.2 x hx
    · simp at hx; subst hx; omega
theorem leng_len {bs : List (List Int)} {lo hi : Int} (hlo : 0 ≤ lo) (hhi : hi ≤ 15) : (leng bs lo hi).length ≤ bs.length * 16 := by
  unfold leng
  refine flatMap_le (Nat.le_refl _) (fun b _ => ?_)
  rw [List.length_map]
  exact rng_filter_le hlo hhi _
theorem bfs_step {xs : List Int} {k : Nat} (h0 : 0 < k) (h : k < xs.length) (bs : List (List Int)) : bfs (xs.drop (k - 1)) bs = bfs (xs.drop k) (leng bs (gi xs (k - 1)) (gi xs k)) := by
  rw [List.drop_eq_getElem_cons (by omega : k - 1 < xs.length), show k - 1 + 1 = k from by omega, List.drop_eq_getElem_cons h, bfs, gi_lt h, gi_lt (by omega)]
theorem bfs_last {xs : List Int} (h : 1 ≤ xs.length) (bs : List (List Int)) : bfs (xs.drop (xs.length - 1)) bs = bs := by
  rw [List.drop_eq_getElem_cons (by omega), show xs.length - 1 + 1 = xs.length from by omega, List.drop_length]
  rfl

set_option maxRecDepth 100000 in
set_option maxHeartbeats 1600000 in
theorem setsAbove_any {xs : List Int} (h : Rise xs) (hl : xs.length ≤ 6) (w : World) (hD : Dj w) :
    Calls Tryd.prog 61 #[.int .u64 (mask xs : Nat)] w fun e w' => ∃ v, e = .returned v ∧ OwnB w' w.heap.size v (above xs) ∧ Below w.heap.size w w' := by
  have hrow := row_any h hl w hD
  obtain ⟨m, hm⟩ : ∃ m : Int, m = (mask xs : Nat) := ⟨_, rfl⟩
  rw [← hm] at hrow ⊢
  have Hrow := Lib.hid hrow
  have H := Lib.hid h
  clear hm hD hrow h
  go_enter Tryd.func61, Tryd.ntmps61
  go_wp2_with fail
  refine Hrow.out.mono ?_
  rintro e w1 ⟨v, rfl, hv, hb⟩
  obtain ⟨r, cr, rfl, hcr, hcr2, hx⟩ := hv.read
  have Hx := Lib.hid hx
  have Hb := Lib.hid hb
  have HB := Lib.hid hb.size
  clear hx hb hv
  by_cases h2 : 2 ≤ xs.length
  · have hn2 : ¬ (xs.length : Int) < 2 := by omega
    have one := OwnB.one w1
    have onb : Below w1.heap.size w1 (w1.alloc (.cells #[sv []] 61)) := (Below.refl _ _).alloc (Nat.le_refl _) _
    have One := Lib.hid one
    have Onb := Lib.hid onb
    clear one onb
    go_wp2
    go_loopw [4, 5] (fun sets i wr => ∃ (k : Nat) (bs : List (List Int)), k + 1 ≤ xs.length ∧ i = .int .i64 ((k : Int) + 1) ∧ OwnB wr w1.heap.size sets bs ∧ bfs (xs.drop k) bs = above xs ∧ (∀ b ∈ bs, Rise b) ∧ bs.length ≤ 16 ^ k ∧ Below w1.heap.size w1 wr) (fun _ i _ => xs.length - (intOf i).toNat)
    case atStart => exact ⟨0, [[]], by omega, rfl, One.out, bfs_above h2, fun b hb => by simp at hb; subst hb; exact ⟨trivial, fun x hx => by cases hx⟩, by simp, Onb.out⟩
    case round =>
      obtain ⟨k, bs, hk, rfl, hown, hbfs, hrise, hlen, hbr⟩ := hrel
      clear One Onb
      have Hbr := Lib.hid hbr
      have HBr := Lib.hid hbr.size
      by_cases hlt : k + 1 < xs.length
      · have hx' := Hx.out.below hbr
        obtain ⟨b0, o0, e0, hc0⟩ := hx' (k + 1) hlt
        obtain ⟨b0', o0', e0', hc1⟩ := hx' k (by omega)
        rw [e0] at e0'
        cases e0'
        have g1 := H.out.2 _ (gi_mem hlt)
        have g0 := H.out.2 _ (gi_mem (show k < xs.length by omega))
        have hpow : 16 ^ k ≤ 16 ^ 4 := Nat.pow_le_pow_right (by omega) (by omega)
        have hpow2 : 16 ^ (k + 1) = 16 ^ k * 16 := Nat.pow_succ _ _
        have hll := leng_len (bs := bs) g0.1 g1.2
        have Hlen2 := Lib.hid (show (leng bs (gi xs k) (gi xs (k + 1))).length ≤ 16 ^ (k + 1) by rw [hpow2]; exact Nat.le_trans hll (Nat.mul_le_mul_right _ hlen))
        have Hrise2 := Lib.hid (leng_rise hrise g0.1 g1.2)
        have Hbfs := Lib.hid (show bfs (xs.drop (k + 1)) (leng bs (gi xs k) (gi xs (k + 1))) = above xs by have := bfs_step (k := k + 1) (by omega) hlt bs; rw [show k + 1 - 1 = k from rfl] at this; rw [← this]; exact hbfs)
        obtain ⟨sa, sc, rfl, _, _, hsr⟩ := hown.read
        have hcall : ∀ w', Below wr.heap.size wr w' → Calls Tryd.prog 94 #[.slice sa bs.length sc, .int .i64 (gi xs k), .int .i64 (gi xs (k + 1))] w' fun e w'' => ∃ v, e = .returned v ∧ OwnB w'' w'.heap.size v (leng bs (gi xs k) (gi xs (k + 1))) ∧ Below w'.heap.size w' w'' :=
          fun w' hw' => lengthened_any sa sc bs _ _ w' (by omega) hrise g0.1 g0.2 g1.2 (hsr.below hw')
        obtain ⟨y, hy⟩ : ∃ y, y = gi xs k := ⟨_, rfl⟩
        obtain ⟨z, hz⟩ : ∃ z, z = gi xs (k + 1) := ⟨_, rfl⟩
        rw [← hy] at hc1
        rw [← hz] at hc0
        rw [← hy, ← hz] at hcall
        have Hy := Lib.hid hy
        have Hz := Lib.hid hz
        have Hcall := Lib.hid hcall
        have hk2 : (k : Int) < (xs.length : Int) := by omega
        have hk3 : (k : Int) + 1 < (xs.length : Int) := by omega
        have hk4 : k < xs.length := by omega
        have hwk : IntKind.i64.wrap (k : Int) = (k : Int) := i64_small (by omega) (by omega)
        subst e0
        clear hx' g1 g0 hpow hpow2 hll hown hbfs hrise hlen hsr hcall hy hz hbr
        go_wp2
        go_region_with (go_at_call 94; refine (Hcall.out _ ?_).mono ?_; exact below_drewN (Below.refl _ _) 1; rintro e w2 ⟨v, rfl, hv, hb2⟩)
        all_goals
          obtain ⟨va, vc, hvv, _, _, _⟩ := hv.read
          rw [Hy.out, Hz.out] at hv
          have Hv := Lib.hid hv
          obtain ⟨nv, hnv⟩ : ∃ nv, nv = (leng bs y z).length := ⟨_, rfl⟩
          rw [← hnv] at hvv
          subst hvv
          have Hb2 := Lib.hid hb2
          clear hv hb2 hnv
          go_wp2
          go_roundw
          case rel =>
            have hb3 : Below wr.heap.size wr w2 := (below_drewN (Below.refl _ _) 1).trans Hb2.out
            exact ⟨k + 1, _, by omega, by go_num, Hv.out.base HBr.out, Hbfs.out, Hrise2.out, Hlen2.out, Hbr.out.trans (hb3.mono HBr.out)⟩
          case measure => simp [intOf]; omega
      · obtain rfl : k = xs.length - 1 := by omega
        rw [bfs_last (by omega)] at hbfs
        subst hbfs
        go_wp2
        go_ret
        exact ⟨_, rfl, hown.base HB.out, Hb.out.trans (hbr.mono HB.out)⟩
  · have hn2 : (xs.length : Int) < 2 := by omega
    go_wp2
    go_ret
    rw [above_one (by omega)]
    exact ⟨_, rfl, OwnB.nil _ _, Hb.out⟩
end Go.Proofs.YtmkldodkpijfjaaDoor

namespace Go.Proofs.YtmkldodkpijfjaaDoor
open Go.RowKit

theorem gr_append_left {m k : List (List Int)} {i : Nat} (h : i < m.length) : gr (m ++ k) i = gr m i := by
  rw [gr_lt (by simp; omega), gr_lt h, List.getElem_append_left h]
theorem gr_append_right {m k : List (List Int)} {i : Nat} (h : i < k.length) : gr (m ++ k) (m.length + i) = gr k i := by
  rw [gr_lt (by simp; omega), gr_lt h, List.getElem_append_right (by omega)]
  simp

/-- a table behind which the rows of another one, younger, have been put -/
theorem OwnP.join {w w1 : World} {B B' : Nat} {v v' u : Value} {m k : List (List Int)} {vs us : List Value} (h : OwnP w B v m.length m m.length vs) (hk : OwnP w B' u k.length k k.length us) (hBB : B ≤ B')
    (hold : ∀ i, i < m.length → ∀ g, (vs.getD i undef).ownBlock = some g → g < B')
    (h1 : w1.ownsRow B 22 1 v' (m.length + k.length) (vs ++ us)) (kept : ∀ (x : Value) (ys : List Int), OwnI w B x ys → OwnI w1 B x ys) : OwnP w1 B v' (m ++ k).length (m ++ k) (m ++ k).length (vs ++ us) := by
  have hl : vs.length = m.length := by simpa using h.top.1
  have hl2 : us.length = k.length := by simpa using hk.top.1
  have gl : ∀ i, i < m.length → (vs ++ us).getD i undef = vs.getD i undef := fun i hi => by
    simp only [List.getD]; rw [List.getElem?_append_left (by omega)]
  have grr : ∀ i, m.length ≤ i → (vs ++ us).getD i undef = us.getD (i - m.length) undef := fun i hi => by
    simp only [List.getD]; rw [List.getElem?_append_right (by omega), hl]
  refine ⟨by rw [List.length_append]; exact h1, fun i hi => ?_, fun i j hij hj g hg => ?_⟩
  · rw [List.length_append] at hi
    by_cases hi2 : i < m.length
    · rw [gl i hi2, gr_append_left hi2]
      exact kept _ _ (h.rows i hi2)
    · rw [grr i (by omega), show i = m.length + (i - m.length) from by omega, gr_append_right (by omega), show m.length + (i - m.length) - m.length = i - m.length from by omega]
      exact kept _ _ ((hk.rows (i - m.length) (by omega)).base hBB)
  · rw [List.length_append] at hj
    by_cases hj2 : j < m.length
    · rw [gl i (by omega)] at hg
      rw [gl j hj2]
      exact h.apart i j hij hj2 g hg
    · rw [grr j (by omega)]
      by_cases hi2 : i < m.length
      · rw [gl i hi2] at hg
        intro hg2
        have a := hold i hi2 g hg
        have b := ((hk.rows (j - m.length) (by omega)).lt g hg2).1
        omega
      · rw [grr i (by omega)] at hg
        exact hk.apart (i - m.length) (j - m.length) (by omega) (by omega) g hg

theorem OwnP.nil (w : World) (B : Nat) (m : List (List Int)) : OwnP w B (.slice none 0 0) 0 m 0 [] := ⟨World.ownsRow_nil _ _ _ _, fun i hi => absurd hi (by omega), fun i j _ hj => absurd hj (by omega)⟩

theorem lst_gi {xs : List Int} (h : 0 < xs.length) : lst xs = gi xs (xs.length - 1) := by
  unfold lst
  rw [List.getLast?_eq_getElem?, gi, List.getD]
  cases hh : xs[xs.length - 1]? with
  | some a => rfl
  | none => rw [List.getElem?_eq_none_iff] at hh; omega

/-- of the rows that go on 'first', those whose next number is below v -/
def abPart (xs first : List Int) (v : Int) : List (List Int) :=
  ((rng (gi xs first.length) (v - 1)).filter fun x => decide (lst first < x)).flatMap fun x => (ab (xs.drop (first.length + 1)) x).map fun ys => (first ++ [x]) ++ ys
theorem abPart_start (xs first : List Int) : abPart xs first (gi xs first.length) = [] := by unfold abPart; rw [rng_nil (by omega)]; rfl
theorem abPart_step {xs first : List Int} {v : Int} (h : gi xs first.length ≤ v) :
    abPart xs first (v + 1) = abPart xs first v ++ (if lst first < v then (ab (xs.drop (first.length + 1)) v).map (fun ys => (first ++ [v]) ++ ys) else []) := by
  unfold abPart
  rw [show v + 1 - 1 = v from by omega, rng_snoc h, List.filter_append, List.flatMap_append]
  by_cases hl : lst first < v <;> simp [hl]
theorem abPart_end {xs first : List Int} (h : first.length + 1 < xs.length) : abPart xs first (gi xs (first.length + 1) + 1) = (ab (xs.drop first.length) (lst first)).map fun ys => first ++ ys := by
  unfold abPart
  rw [show gi xs (first.length + 1) + 1 - 1 = gi xs (first.length + 1) from by omega]
  have e1 : xs.drop first.length = gi xs first.length :: gi xs (first.length + 1) :: xs.drop (first.length + 1 + 1) := by
    rw [List.drop_eq_getElem_cons (by omega), List.drop_eq_getElem_cons h, gi_lt (by omega), gi_lt h]
  have e2 : xs.drop (first.length + 1) = gi xs (first.length + 1) :: xs.drop (first.length + 1 + 1) := by
    rw [List.drop_eq_getElem_cons h, gi_lt h]
  rw [e1, e2, ab]
  simp only [List.map_flatMap, List.map_map, Function.comp_def, List.append_assoc, List.cons_append, List.nil_append]

theorem abPart_len {xs first : List Int} {v : Int} (h : Rise xs) (hk : first.length + 1 < xs.length) (h6 : xs.length ≤ 6) (hv : v ≤ gi xs (first.length + 1) + 1) : (abPart xs first v).length ≤ 1048576 := by
  have g0 := h.2 _ (gi_mem (show first.length < xs.length by omega))
  have g1 := h.2 _ (gi_mem hk)
  unfold abPart
  refine Nat.le_trans (flatMap_le (n := 16) (k := 16 ^ 4) (rng_filter_le (by omega) (by omega) _) (fun x _ => ?_)) (by omega)
  rw [List.length_map]
  refine Nat.le_trans (ab_len (fun y hy => h.2 y (List.mem_of_mem_drop hy)) x) (Nat.pow_le_pow_right (by omega) ?_)
  rw [List.length_drop]; omega

theorem OwnI.kept_top {w w1 : World} {B n : Nat} {x u : Value} {ys : List Int} {vs : List Value} (hx : OwnI w B x ys) (ht : w.ownsRow B 22 1 u n vs) (hg : w.grownBy w1 u.ownBlock) : OwnI w1 B x ys := by
  refine World.ownsRow.kept hx hg ?_
  cases hb : x.ownBlock with
  | none => exact .inl rfl
  | some g => exact .inr (fun e => hx.ne_row ht g hb e.symm)

theorem rows_cells {w : World} {B n : Nat} {ad : Addr} {m : List (List Int)} {vs : List Value} {c : Nat} (h : OwnP w B (.slice (some ad) n c) n m n vs) : (∀ j u, vs[j]? = some u → w.cell? (ad.add j) = some u) ∧ (∀ u ∈ vs, u.oneCell' = true) := by
  have hl : vs.length = n := by simpa using h.top.1
  obtain ⟨ao, c', e, _, _, hc⟩ := ownsRow_read h.top
  cases e
  refine ⟨fun j u hj => ?_, fun u hu => ?_⟩
  · have hjl : j < vs.length := (List.getElem?_eq_some_iff.1 hj).1
    obtain ⟨b3, o3, e3, hc3⟩ := hc j (by omega)
    cases e3
    rw [Addr.add_lit, hc3, List.getD, hj]
    rfl
  · obtain ⟨i, hi, rfl⟩ := List.mem_iff_getElem.1 hu
    have := (h.rows i (by omega)).read
    rw [List.getD, List.getElem?_eq_getElem hi] at this
    obtain ⟨_, _, e, _⟩ := this
    rw [show vs[i] = (some vs[i]).getD undef from rfl, e]
    rfl

theorem above_small {xs : List Int} (h : isRowP xs) : Small (above xs) := by
  have hr := ((isRowP_iff _).1 h).2.2
  have h6 := h.2.1
  have hl := above_len hr
  have hp : 16 ^ (xs.length - 1) ≤ 16 ^ 5 := Nat.pow_le_pow_right (by omega) (by omega)
  exact ⟨by omega, fun i hi => by have := (above_mem hr (gr_mem hi)).2; omega⟩
end Go.Proofs.YtmkldodkpijfjaaDoor

