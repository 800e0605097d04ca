/- Parts of proofs: contracts and plain facts. Conditions: as each says. -/
import Derived.Test.YtmonhmbnbhaemaaDoorK05
import Derived.Laws.AppendOwnNone
import Derived.Maps.AppendAt
namespace Go.Proofs.YtmonhmbnbhaemaaDoor
open Go.RowKit

/-- rows of columns -/
def colsOk (t : List (List Int)) : Prop := 1 ≤ t.length ∧ t.length ≤ 6 ∧ ∀ i, i < t.length → (gr t i).length ≤ 6 ∧ ∀ k, k < (gr t i).length → 0 ≤ gi (gr t i) k ∧ gi (gr t i) k < t.length
theorem fullTri.cols {t : List (List Int)} (h : fullTri t) : colsOk t := ⟨h.1.1, h.1.2.1, fun i hi => ⟨by have := (h.1.2.2 i hi).1; have := h.1.2.1; omega, fun k hk => full_lt h hi hk⟩⟩

/-- the numbers behind k rows -/
def soF (t : List (List Int)) (k a b : Nat) : Int := (if a < k then occ (gr t a) b (gr t a).length else 0) - (if 0 < a ∧ a ≤ k then occ (gr t (a - 1)) b (gr t (a - 1)).length else 0)
theorem soF_zero (t : List (List Int)) (a b : Nat) : soF t 0 a b = 0 := by
  unfold soF
  rw [if_neg (by omega), if_neg (by omega)]
  rfl
theorem soF_full {t : List (List Int)} {a : Nat} (b : Nat) (ha : a < t.length) : soF t t.length a b = signAt t a b := by
  unfold soF signAt
  rw [if_pos ha]
  by_cases h : 0 < a
  · rw [if_pos ⟨h, by omega⟩, if_pos h]
  · rw [if_neg (by omega), if_neg h]
def soG (t : List (List Int)) (k u a b : Nat) : Int := soF t k a b + (if a = k then occ (gr t k) b u else 0) - (if a = k + 1 then occ (gr t k) b u else 0)
theorem soG_zero (t : List (List Int)) (k a b : Nat) : soG t k 0 a b = soF t k a b := by unfold soG; simp [occ]
theorem soG_full (t : List (List Int)) (k a b : Nat) : soG t k (gr t k).length a b = soF t (k + 1) a b := by
  unfold soG soF
  by_cases h1 : a = k
  · subst h1
    rw [if_neg (show ¬ a < a by omega), if_pos rfl, if_neg (show ¬ a = a + 1 by omega), if_pos (show a < a + 1 by omega)]
    by_cases h0 : 0 < a
    · rw [if_pos ⟨h0, by omega⟩, if_pos ⟨h0, by omega⟩]; omega
    · rw [if_neg (by omega), if_neg (by omega)]; omega
  · rw [if_neg h1]
    by_cases h2 : a = k + 1
    · subst h2
      rw [if_neg (by omega), if_neg (by omega), if_pos rfl, if_neg (by omega), if_pos (by omega)]
      rw [show k + 1 - 1 = k from rfl]
      omega
    · rw [if_neg h2]
      have e1 : (a < k + 1) = (a < k) := propext (by omega)
      have e2 : (0 < a ∧ a ≤ k + 1) = (0 < a ∧ a ≤ k) := propext (by omega)
      simp only [e1, e2]
      omega
theorem soG_bd {t : List (List Int)} (h : colsOk t) {k u a b : Nat} (hk : k < t.length) (hu : u ≤ (gr t k).length) (ha : a < t.length) : -100 ≤ soG t k u a b ∧ soG t k u a b ≤ 100 := by
  have h1 := occ_bd (gr t a) b (gr t a).length
  have h2 := occ_bd (gr t (a - 1)) b (gr t (a - 1)).length
  have h3 := occ_bd (gr t k) b u
  have h4 := (h.2.2 a ha).1
  have h5 := (h.2.2 (a - 1) (by omega)).1
  have h6 := (h.2.2 k hk).1
  unfold soG soF
  repeat' split
  all_goals omega
theorem soG_step {t : List (List Int)} (k u a b J : Nat) (hJ : gi (gr t k) u = (J : Int)) : soG t k (u + 1) a b = if a = k ∧ b = J then soG t k u a b + 1 else if a = k + 1 ∧ b = J then soG t k u a b - 1 else soG t k u a b := by
  unfold soG
  simp only [occ, hJ]
  by_cases hb : b = J
  · subst hb
    simp only [if_true, and_true]
    by_cases h1 : a = k
    · subst h1; simp; omega
    · by_cases h2 : a = k + 1
      · subst h2; simp; omega
      · simp [h1, h2]
  · have hb2 : ¬ ((J : Int) = (b : Int)) := fun e => hb (by omega)
    simp [hb, hb2]

def fromTab (t : List (List Int)) : List (List Int) := tab t.length t.length (signAt t)
theorem fromTab_len (t : List (List Int)) : (fromTab t).length = t.length := tab_len _ _ _
theorem fromTab_small {t : List (List Int)} (h : t.length ≤ 6) : Small (fromTab t) := ⟨by rw [fromTab_len]; omega, fun i hi => by rw [fromTab_len] at hi; unfold fromTab; rw [tab_row hi]; omega⟩

set_option maxRecDepth 100000 in
set_option maxHeartbeats 1600000 in
theorem signsOf_any (ao : Option Addr) (c : Nat) (m : List (List Int)) (w : World) (hco : colsOk m) (hm : MatAt w ao m) :
    Calls Tryd.prog 43 #[.slice ao m.length c] w fun e w' => ∃ v, e = .returned v ∧ OwnM w' w.heap.size v (fromTab m) ∧ Below w.heap.size w w' := by
  have hn := hco.2.1
  have hmx : m.length ≤ 9223372036854775807 := by omega
  have Hco := Lib.hid hco
  have Hm := Lib.hid hm
  clear hco hm
  go_enter Tryd.func43, Tryd.ntmps43
  go_wp2_with fail
  refine (newGrid_any m.length w (by omega)).mono ?_
  rintro e w1 ⟨vs, rfl, hv, hb⟩
  have Hv := Lib.hid hv
  have Hb := Lib.hid hb
  clear hv hb
  go_wp2
  go_loopw [13] (fun i wr => ∃ (k : Nat) (f : Nat → Nat → Int), k ≤ m.length ∧ i = .int .i64 k ∧ OwnP wr w.heap.size (.slice (some ⟨w.heap.size, 0, none⟩) m.length m.length) m.length (tab m.length m.length f) m.length vs ∧
      (∀ a b, a < m.length → b < m.length → f a b = soF m k a b) ∧ Below w.heap.size w wr) (fun i _ => m.length - (intOf i).toNat)
  case atStart => exact ⟨0, _, Nat.zero_le _, rfl, Hv.out, fun a b _ _ => (soF_zero m a b).symm, Hb.out⟩
  case round =>
    obtain ⟨k, f, hk, rfl, hown, heq, hbr⟩ := hrel
    obtain ⟨wo, rfl⟩ : ∃ wo : World, wo = wr := ⟨_, rfl⟩
    clear Hv Hb
    by_cases hlt : k < m.length
    · obtain ⟨b1, o1, r1, d1, e0, hc0, hx1, _, _⟩ := Hm.out k hlt
      have hr6 := (Hco.out.2.2 k hlt).1
      have hrx : (gr m k).length ≤ 9223372036854775807 := by omega
      have hc1 := cell_below hc0 hbr
      subst e0
      have Hrow := Lib.hid hx1
      have Hown := Lib.hid hown
      have Heq := Lib.hid heq
      have Hbr := Lib.hid hbr
      clear hown heq hbr hx1 hc0
      go_wp2
      go_loopw [20] (fun i wr => ∃ (u : Nat) (f : Nat → Nat → Int), u ≤ (gr m k).length ∧ i = .int .i64 u ∧ OwnP wr w.heap.size (.slice (some ⟨w.heap.size, 0, none⟩) m.length m.length) m.length (tab m.length m.length f) m.length vs ∧
          (∀ a b, a < m.length → b < m.length → f a b = soG m k u a b) ∧ Below w.heap.size w wr) (fun i _ => (gr m k).length - (intOf i).toNat)
      case atStart => exact ⟨0, f, Nat.zero_le _, rfl, Hown.out, fun a b ha hb => by rw [Heq.out a b ha hb, soG_zero], Hbr.out⟩
      case round =>
        obtain ⟨u, f, hu, rfl, hown, heq, hbi⟩ := hrel
        clear Hown Heq
        by_cases hul : u < (gr m k).length
        · obtain ⟨b2, o2, e2, hc2⟩ := Hrow.out.below hbi u hul
          have hcol := (Hco.out.2.2 k hlt).2 u hul
          obtain ⟨J, hJ⟩ : ∃ J : Nat, gi (gr m k) u = (J : Int) := ⟨(gi (gr m k) u).toNat, by omega⟩
          rw [hJ] at hc2 hcol
          have hJn : J < m.length := by omega
          have HJ := Lib.hid hJ
          clear hcol hJ
          have hd := hown.cellAt k hlt
          obtain ⟨g, cap, hvs, hd2, hf2, hg, hst⟩ := hown.at2 hlt hJn
          rw [hvs] at hd
          have hfb := soG_bd Hco.out (b := J) hlt hu hlt
          rw [← heq k J hlt hJn] at hfb
          have hst1 := hst (f k J + 1)
          have hbs := hbi.setCell (p := ⟨g, J, none⟩) hg (.int .i64 (f k J + 1))
          by_cases hk1 : k + 1 < m.length
          · have hd' := hst1.cellAt (k + 1) hk1
            obtain ⟨g', cap', hvs', hd2', hf2', hg', hst'⟩ := hst1.at2 hk1 hJn
            rw [hvs'] at hd'
            rw [if_neg (by omega)] at hd2'
            have hfb' := soG_bd Hco.out (b := J) hlt hu hk1
            rw [← heq (k + 1) J hk1 hJn] at hfb'
            have Hst := Lib.hid (hst' (f (k + 1) J - 1))
            have Hbs := Lib.hid (hbs.setCell (p := ⟨g', J, none⟩) hg' (.int .i64 (f (k + 1) J - 1)))
            have Heq := Lib.hid heq
            subst e2
            clear hown heq hbi hvs hst hg hst1 hbs hvs' hst' hg'
            go_wp2
            go_roundw
            case rel =>
              refine ⟨u + 1, _, by omega, by go_num, Hst.out, fun a b ha hb => ?_, Hbs.out⟩
              rw [soG_step k u a b J HJ.out]
              by_cases h2 : a = k + 1 ∧ b = J
              · obtain ⟨rfl, rfl⟩ := h2
                rw [if_pos ⟨rfl, rfl⟩, if_neg (by omega), if_pos ⟨rfl, rfl⟩, Heq.out _ _ ha hb]
              · rw [if_neg h2]
                by_cases h1 : a = k ∧ b = J
                · obtain ⟨rfl, rfl⟩ := h1
                  rw [if_pos ⟨rfl, rfl⟩, if_pos ⟨rfl, rfl⟩, Heq.out _ _ ha hb]
                · rw [if_neg h1, if_neg h1, if_neg h2, Heq.out _ _ ha hb]
            case measure => simp [intOf]; omega
          · have Hst := Lib.hid hst1
            have Hbs := Lib.hid hbs
            have Heq := Lib.hid heq
            have hk2 : ¬ ((k : Int) + 1 < (m.length : Int)) := by omega
            subst e2
            clear hown heq hbi hvs hst hg hst1 hbs
            go_wp2
            go_roundw
            case rel =>
              refine ⟨u + 1, _, by omega, by go_num, Hst.out, fun a b ha hb => ?_, Hbs.out⟩
              rw [soG_step k u a b J HJ.out]
              by_cases h1 : a = k ∧ b = J
              · obtain ⟨rfl, rfl⟩ := h1
                rw [if_pos ⟨rfl, rfl⟩, if_pos ⟨rfl, rfl⟩, Heq.out _ _ ha hb]
              · rw [if_neg h1, if_neg h1, if_neg (fun h => by omega), Heq.out _ _ ha hb]
            case measure => simp [intOf]; omega
        · obtain rfl : u = (gr m k).length := by omega
          have Hown := Lib.hid hown
          have Heq := Lib.hid heq
          have Hbi := Lib.hid hbi
          clear hown heq hbi
          go_wp2
          go_roundw
          case rel => exact ⟨k + 1, f, by omega, by go_num, Hown.out, fun a b ha hb => by rw [Heq.out a b ha hb, soG_full], Hbi.out⟩
          case measure => simp [intOf]; omega
    · obtain rfl : k = m.length := by omega
      go_wp2
      go_ret
      refine ⟨_, rfl, ⟨vs, ?_⟩, hbr⟩
      rw [fromTab_len]
      have e : fromTab m = tab m.length m.length f := eq_tab (fromTab_len m) (fun i hi => tab_row hi) (fun i j hi hj => by unfold fromTab; rw [gi_tab hi hj, heq i j hi hj, soF_full j hi])
      rw [e]
      exact hown

/-- the model's numbers behind k rows, and within one -/
def tfF (t : List (List Int)) (k a b : Nat) : Int := if a < k then signAt t a b else 0
def tfG (t : List (List Int)) (k u a b : Nat) : Int := if a = k then occ (gr t k) b u else tfF t k a b
def tfH (t : List (List Int)) (k u a b : Nat) : Int := if a = k then occ (gr t k) b (gr t k).length - occ (gr t (k - 1)) b u else tfF t k a b
theorem tfG_zero (t : List (List Int)) (k a b : Nat) : tfG t k 0 a b = tfF t k a b := by
  unfold tfG tfF
  split
  · next h => subst h; rw [if_neg (by omega)]; rfl
  · rfl
theorem tfH_zero (t : List (List Int)) (k a b : Nat) : tfH t k 0 a b = tfG t k (gr t k).length a b := by
  unfold tfG tfH
  split
  · simp [occ]
  · rfl
theorem tfH_full (t : List (List Int)) {k : Nat} (a b : Nat) (hk : 0 < k) : tfH t k (gr t (k - 1)).length a b = tfF t (k + 1) a b := by
  unfold tfH tfF signAt
  by_cases h : a = k
  · subst h; rw [if_pos rfl, if_pos (by omega), if_pos hk]
  · rw [if_neg h]
    have e : (a < k + 1) = (a < k) := propext (by omega)
    simp only [e]
theorem tfG_full (t : List (List Int)) (a b : Nat) : tfG t 0 (gr t 0).length a b = tfF t 1 a b := by
  unfold tfG tfF signAt
  by_cases h : a = 0
  · subst h; simp
  · rw [if_neg h, if_neg (by omega), if_neg (by omega)]
theorem tfG_step {t : List (List Int)} (k u a b J : Nat) (hJ : gi (gr t k) u = (J : Int)) : tfG t k (u + 1) a b = if a = k ∧ b = J then tfG t k u a b + 1 else tfG t k u a b := by
  unfold tfG
  simp only [occ, hJ]
  by_cases hb : b = J
  · subst hb; by_cases h1 : a = k <;> simp [h1]
  · have hb2 : ¬ ((J : Int) = (b : Int)) := fun e => hb (by omega)
    simp [hb, hb2]
theorem tfH_step {t : List (List Int)} (k u a b J : Nat) (hJ : gi (gr t (k - 1)) u = (J : Int)) : tfH t k (u + 1) a b = if a = k ∧ b = J then tfH t k u a b - 1 else tfH t k u a b := by
  unfold tfH
  simp only [occ, hJ]
  by_cases hb : b = J
  · subst hb
    by_cases h1 : a = k
    · simp [h1]; omega
    · simp [h1]
  · have hb2 : ¬ ((J : Int) = (b : Int)) := fun e => hb (by omega)
    simp [hb, hb2]
theorem tf_bd {t : List (List Int)} (h : colsOk t) {k u b : Nat} (hk : k < t.length) (hu : u ≤ 6) : (-100 ≤ tfG t k u k b ∧ tfG t k u k b ≤ 100) ∧ -100 ≤ tfH t k u k b ∧ tfH t k u k b ≤ 100 := by
  have h1 := occ_bd (gr t k) b (gr t k).length
  have h2 := occ_bd (gr t (k - 1)) b u
  have h3 := occ_bd (gr t k) b u
  have h4 := (h.2.2 k hk).1
  unfold tfG tfH
  simp only [if_true]
  omega

end Go.Proofs.YtmonhmbnbhaemaaDoor

namespace Go.Proofs.YtmonhmbnbhaemaaDoor
open Go.RowKit

/-- all triangles whose last row is xs, of d + 1 numbers -/
def trisD : Nat → List Int → List (List (List Int))
  | 0, xs => [[xs]]
  | d + 1, xs => (above xs).flatMap fun ys => (trisD d ys).map fun t => t ++ [xs]
def trisP (d : Nat) (xs : List Int) (k : Nat) : List (List (List Int)) := ((above xs).take k).flatMap fun ys => (trisD d ys).map fun t => t ++ [xs]
def trisQ (d : Nat) (xs : List Int) (k t : Nat) : List (List (List Int)) := trisP d xs k ++ ((trisD d (gr (above xs) k)).take t).map fun t => t ++ [xs]
theorem trisP_zero (d : Nat) (xs : List Int) : trisP d xs 0 = [] := by simp [trisP]
theorem trisQ_zero (d : Nat) (xs : List Int) (k : Nat) : trisQ d xs k 0 = trisP d xs k := by simp [trisQ]
theorem trisQ_step {d : Nat} {xs : List Int} {k t : Nat} (h : t < (trisD d (gr (above xs) k)).length) : trisQ d xs k (t + 1) = trisQ d xs k t ++ [gt (trisD d (gr (above xs) k)) t ++ [xs]] := by
  unfold trisQ
  rw [List.take_add_one, List.map_append, List.getElem?_eq_getElem h, gt_lt h]
  simp
theorem trisQ_end {d : Nat} {xs : List Int} {k : Nat} (h : k < (above xs).length) : trisQ d xs k (trisD d (gr (above xs) k)).length = trisP d xs (k + 1) := by
  unfold trisQ trisP
  rw [List.take_length, List.take_add_one (i := k), List.flatMap_append, List.getElem?_eq_getElem h, gr_lt h]
  simp
theorem trisP_end (d : Nat) (xs : List Int) : trisP d xs (above xs).length = trisD (d + 1) xs := by
  unfold trisP
  rw [List.take_length]
  rfl
def trB : Nat → Nat
  | 0 => 1
  | d + 1 => 16 ^ (d + 1) * trB d
theorem trisD_le : ∀ (d : Nat) (xs : List Int), Rise xs → xs.length = d + 1 → (trisD d xs).length ≤ trB d
  | 0, xs, _, _ => by simp [trisD, trB]
  | d + 1, xs, hr, hl => by
    unfold trisD
    refine Nat.le_trans (flatL_len _ (trB d) _ fun ys hy => ?_) ?_
    · rw [List.length_map]
      obtain ⟨h1, h2⟩ := above_mem hr hy
      exact trisD_le d ys h1 (by omega)
    · rw [trB]
      refine Nat.mul_le_mul_right _ ?_
      have := above_len hr
      rw [hl] at this
      exact this
theorem trisQ_le {d : Nat} {xs : List Int} (hr : Rise xs) (hl : xs.length = d + 2) {k t : Nat} (hk : k < (above xs).length) : (trisQ d xs k t).length ≤ trB (d + 1) := by
  have h1 : (trisQ d xs k t).length ≤ (trisP d xs (k + 1)).length := by
    rw [← trisQ_end hk]
    unfold trisQ
    rw [List.length_append, List.length_append, List.length_map, List.length_map, List.length_take, List.take_length]
    omega
  refine Nat.le_trans h1 ?_
  have h2 : (trisP d xs (k + 1)).length ≤ ((above xs).take (k + 1)).length * trB d := flatL_len _ (trB d) _ fun ys hy => by
    rw [List.length_map]
    obtain ⟨h1, h2⟩ := above_mem hr (List.mem_of_mem_take hy)
    exact trisD_le d ys h1 (by omega)
  refine Nat.le_trans h2 ?_
  rw [trB]
  refine Nat.mul_le_mul_right _ ?_
  have h3 := above_len hr
  rw [hl] at h3
  rw [List.length_take]
  exact Nat.le_trans (Nat.min_le_right _ _) h3
theorem trB_le : ∀ d, d < 5 → trB d ≤ 1099511627776 := by decide +kernel
theorem trisD_len : ∀ (d : Nat) (xs : List Int), Rise xs → xs.length = d + 1 → ∀ t, t ∈ trisD d xs → t.length = d + 1
  | 0, xs, _, _, t, h => by simp [trisD] at h; rw [h]; rfl
  | d + 1, xs, hr, hl, t, h => by
    unfold trisD at h
    rw [List.mem_flatMap] at h
    obtain ⟨ys, hy, h⟩ := h
    rw [List.mem_map] at h
    obtain ⟨t', ht', rfl⟩ := h
    obtain ⟨h1, h2⟩ := above_mem hr hy
    rw [List.length_append, trisD_len d ys h1 (by omega) t' ht']
    rfl

/-- the last row of triangles of sign matrices -/
def fullR (n : Nat) : List Int := (List.range n).map fun j : Nat => (j : Int)
theorem fullR_len (n : Nat) : (fullR n).length = n := by simp [fullR]
theorem fullR_ok : ∀ n, n < 7 → mask (fullR n) = 2 ^ n - 1 := by decide +kernel
theorem fullR_up (n : Nat) : Up (fullR n) := by
  unfold fullR
  rw [up_iff]
  intro k hk _
  rw [List.length_map, List.length_range] at hk
  have h1 : gi ((List.range n).map fun j : Nat => (j : Int)) k = (k : Int) := gi_row hk
  have h2 : gi ((List.range n).map fun j : Nat => (j : Int)) (k - 1) = ((k - 1 : Nat) : Int) := gi_row (by omega)
  rw [h1, h2]
  omega
theorem fullR_rise {n : Nat} (h : n ≤ 16) : Rise (fullR n) := ⟨fullR_up n, fun x hx => by
  simp only [fullR, List.mem_map, List.mem_range] at hx
  obtain ⟨j, hj, rfl⟩ := hx
  omega⟩
instance (t : List (List Int)) : Decidable (colsOk t) := by unfold colsOk; infer_instance
theorem tris_cols : ∀ n, n < 6 → ∀ t, t ∈ trisD (n - 1) (fullR n) → n = 0 ∨ (t.length = n ∧ colsOk t) := by decide +kernel
/-- all sign matrices with n rows, as the program makes them of triangles -/
def allI (n : Nat) : List (List (List Int)) := (trisD (n - 1) (fullR n)).map fun t => (fromTab t).reverse
theorem allI_W : ∀ n, n < 5 → n = 0 ∨ allI n = allW n := by decide +kernel
end Go.Proofs.YtmonhmbnbhaemaaDoor

namespace Go.Proofs.YtmonhmbnbhaemaaDoor
open Go.RowKit

theorem ints_cells {w : World} {ad : Addr} {xs : List Int} {o : Obj} (h : IntsAt w (some ad) xs) : ∀ j u, (xs.map (Value.int .i64))[j]? = some u → (w.alloc o).cell? (ad.add j) = some u := by
  intro j u hj
  have hjl : j < xs.length := by
    have := (List.getElem?_eq_some_iff.1 hj).1
    simpa using this
  obtain ⟨b, o', e, hc⟩ := h j hjl
  cases e
  have e : (xs.map (Value.int .i64))[j]? = some (Value.int .i64 (gi xs j)) := by simp [gi, List.getD, hjl]
  rw [e] at hj
  cases hj
  rw [Addr.add_lit]
  exact Lib.cell?_alloc_some _ hc

set_option maxRecDepth 100000 in
set_option maxHeartbeats 400000 in
theorem l1Own_any (ao : Option Addr) (c : Nat) (xs : List Int) (w : World) (hn : xs.length ≤ 1048576) (hc0 : ao = none → c = 0) (hx : IntsAt w ao xs) :
    Calls Tryd.prog 47 #[.slice ao xs.length c] w fun e w' => ∃ v, e = .returned v ∧ OwnI w' w.heap.size v xs ∧ Below w.heap.size w w' := by
  obtain ⟨i0, hi, hz0, hz1, hz2⟩ := info_parts Tryd.info_int
  cases ao with
  | none =>
    obtain rfl : xs = [] := by
      cases xs with
      | nil => rfl
      | cons a r => obtain ⟨b, o, e, _⟩ := hx 0 (by simp); cases e
    obtain rfl := hc0 rfl
    clear hx
    go_enter Tryd.func47, Tryd.ntmps47
    go_wp2_with (at_builtin; refine wpList_append_own_none rfl _ _ 33 rfl w.heap.size 3 i0 1 Tryd.underlying33 hi _ _ _ rfl (World.ownsRow_made w #[] 0 (Nat.le_refl _) (Nat.zero_le _) rfl) rfl ?_)
    go_wp2
    go_ret
    exact ⟨_, rfl, World.ownsRow_made w #[] 0 (Nat.le_refl _) (Nat.zero_le _) rfl, (Below.refl _ _).alloc (Nat.le_refl _) _⟩
  | some ad =>
    have A := Lib.hid hx
    clear hx
    go_enter Tryd.func47, Tryd.ntmps47
    go_wp2_with (at_builtin; refine wpList_append_own _ rfl _ _ 33 rfl w.heap.size 3 i0 (.int .i64 0) 1 8 Tryd.underlying33 hi hz0 hz1 hz2 rfl (by decide) _ _ _ rfl (World.ownsRow_made w #[] 0 (Nat.le_refl _) (Nat.zero_le _) rfl) ad xs.length c (xs.map (Value.int .i64)) rfl ?qc1 ?qc2 ?qc3 ?qc4 ?qc5 ?qc6 ?_)
    case qc1 => simp
    case qc2 => exact ints_cells A.out
    case qc3 => intro u hu; obtain ⟨x, _, rfl⟩ := List.mem_map.1 hu; rfl
    case qc4 => unfold maxLen; omega
    case qc5 => omega
    case qc6 => simp
    intro v' w1 hown hgrow hnil
    go_wp2
    go_ret
    refine ⟨v', rfl, by simpa [OwnI] using hown, ?_⟩
    exact ((Below.refl _ w).alloc (Nat.le_refl _) _).grown hgrow (by simp) (by intro k hk; simp [Value.ownBlock] at hk; omega)

/-- a slice that is written out -/
theorem ownsRow_built {e : TypeId} {base : Nat} (w : World) (vs : List Value) (hb : base ≤ w.heap.size) (hm : vs.length ≤ 9223372036854775807) :
    (w.alloc (.cells vs.toArray e)).ownsRow base e 1 (.slice (some ⟨w.heap.size, 0, none⟩) vs.length vs.length) vs.length vs :=
  ⟨by simp, .inr ⟨w.heap.size, vs.length, vs.toArray, rfl, hb, heap_alloc_new w _, Nat.le_refl _, hm, by simp, by simp⟩⟩

def slLen : Value → Nat
  | .slice _ n _ => n
  | _ => 0

/-- rows ahead of which a new one has been put: what append leaves of a slice of one row behind which all others come -/
theorem OwnP.front {w w1 : World} {B n : Nat} {v v' u : Value} {m : List (List Int)} {xs : List Int} {vs : List Value} (h : OwnP w B v n m n vs) (hu : OwnI w B u xs)
    (hne : ∀ j, j < n → ∀ g, (vs.getD j undef).ownBlock = some g → u.ownBlock ≠ some g)
    (h1 : w1.ownsRow B 33 1 v' (1 + n) ([u] ++ vs)) (hb : Below w.heap.size w w1) : OwnP w1 B v' (n + 1) (xs :: m) (n + 1) (u :: vs) := by
  refine ⟨by rw [Nat.add_comm]; exact h1, fun i hi => ?_, fun i j hij hj g hg => ?_⟩
  · cases i with
    | zero => exact hu.below hb
    | succ i =>
      have := (h.rows i (by omega)).below hb
      simpa [gr_cons_succ] using this
  · obtain ⟨j, rfl⟩ : ∃ k, j = k + 1 := ⟨j - 1, by omega⟩
    cases i with
    | zero =>
      intro hg2
      exact hne j (by omega) g (by simpa using hg2) (by simpa using hg)
    | succ i =>
      have := h.apart i j (by omega) (by omega) g (by simpa using hg)
      simpa using this
end Go.Proofs.YtmonhmbnbhaemaaDoor

namespace Go.Proofs.YtmonhmbnbhaemaaDoor
open Go.RowKit

theorem ownsRow_raise {w : World} {B B' : Nat} {e : TypeId} {v : Value} {n : Nat} {xs : List Value} (h : w.ownsRow B e 1 v n xs) (hb : ∀ g, v.ownBlock = some g → B' ≤ g) : w.ownsRow B' e 1 v n xs := by
  refine ⟨h.1, ?_⟩
  rcases h.2 with h0 | ⟨g, cap, cur, rfl, hg, r⟩
  · exact .inl h0
  · exact .inr ⟨g, cap, cur, rfl, hb g rfl, r⟩
theorem wSmall {x : Int} (h : -1000 ≤ x ∧ x ≤ 1000) : IntKind.i64.wrap x = x := by
  rw [IntKind.wrap_i64]
  omega
theorem wSmall64 {x : Int} (h : -1000 ≤ x ∧ x ≤ 1000) : wrap64 x = x := by
  unfold wrap64
  omega
theorem OwnI.none_cap {w : World} {B n c : Nat} {ao : Option Addr} {xs : List Int} (h : OwnI w B (.slice ao n c) xs) : ao = none → c = 0 := by
  intro e
  rcases h.2 with ⟨h0, _⟩ | ⟨g, cap, cur, hv, _⟩
  · simp only [Value.slice.injEq] at h0; exact h0.2.2
  · simp only [Value.slice.injEq] at hv; rw [e] at hv; simp at hv

set_option maxRecDepth 100000 in
set_option maxHeartbeats 6400000 in
theorem weRows_any (sums : List Int) (h01 : bits01 sums) (hn : sums.length ≤ 5) (a1 : Option Addr) (c1 : Nat) : ∀ (d : Nat) (row : List Int) (sum : Int) (a2 : Option Addr) (c2 B : Nat) (w : World), row.length + d = sums.length → 0 ≤ sum ∧ sum ≤ 1 → B ≤ w.heap.size → IntsAt w a1 sums → OwnI w B (.slice a2 row.length c2) row →
    Calls Tryd.prog 46 #[.slice a1 sums.length c1, .slice a2 row.length c2, .int .i64 sum] w fun e w' => ∃ v vs, e = .returned v ∧ OwnR w' B v (rowsW sums d row sum) vs ∧ (∀ g, v.ownBlock = some g → w.heap.size ≤ g) ∧ Below w.heap.size w w' := by
  intro d
  induction d with
  | zero =>
    intro row sum a2 c2 B w hd hs hB h1 h2
    have hl : ((row.length : Int) == (sums.length : Int)) = true := by simp; omega
    have hx1 : row.length ≤ 9223372036854775807 := by omega
    have hx2 : sums.length ≤ 9223372036854775807 := by omega
    have hb1 : Below w.heap.size w (w.alloc (.cells #[.slice a2 row.length c2] 33)) := (Below.refl _ _).alloc (Nat.le_refl _) _
    have hres : OwnR (w.alloc (.cells #[.slice a2 row.length c2] 33)) B (.slice (some ⟨w.heap.size, 0, none⟩) 1 1) [row] [.slice a2 row.length c2] :=
      ⟨ownsRow_built w [.slice a2 row.length c2] hB (by simp), fun i hi => by obtain rfl : i = 0 := (by simpa using hi); exact h2.below hb1⟩
    have Hres := Lib.hid hres
    have Hb := Lib.hid hb1
    obtain ⟨r, hr⟩ : ∃ r, r = row.length := ⟨_, rfl⟩
    rw [← hr] at hl hx1 Hb Hres ⊢
    clear h1 h2 hd hb1 hres hr
    by_cases e1 : sum = 1
    · have hb : (sum == 1) = true := by simpa using e1
      have HV := Lib.hid (show rowsW sums 0 row sum = [row] by unfold rowsW; rw [if_pos e1])
      clear e1
      go_enter Tryd.func46, Tryd.ntmps46
      go_wp2
      go_ret
      exact ⟨_, _, rfl, by rw [HV.out]; exact Hres.out, fun g hg => by simp [Value.ownBlock] at hg; omega, Hb.out⟩
    · have hb : (sum == 1) = false := by simpa using e1
      have HV := Lib.hid (show rowsW sums 0 row sum = [] by unfold rowsW; rw [if_neg e1])
      clear e1
      go_enter Tryd.func46, Tryd.ntmps46
      go_wp2
      go_ret
      exact ⟨_, _, rfl, by rw [HV.out]; exact OwnR.nil _ _, fun g hg => by simp [Value.ownBlock] at hg, Below.refl _ _⟩
  | succ d ih =>
    intro row sum a2 c2 B w hd hs hB h1 h2
    have hl : ((row.length : Int) == (sums.length : Int)) = false := by simp; omega
    have hx1 : row.length ≤ 9223372036854775807 := by omega
    have hx2 : sums.length ≤ 9223372036854775807 := by omega
    have hlt : row.length < sums.length := by omega
    obtain ⟨j0, hj, hy0, hy1, hy2⟩ := info_parts Tryd.info_ints
    obtain ⟨i0, hi, hz0, hz1, hz2⟩ := info_parts Tryd.info_int
    obtain ⟨b0, o0, e0, hc0⟩ := h1 row.length hlt
    subst e0
    have hs01 := h01 row.length hlt
    obtain ⟨s, hsv⟩ : ∃ s, s = gi sums row.length := ⟨_, rfl⟩
    rw [← hsv] at hc0 hs01
    have Hd := Lib.hid hd
    have H1 := Lib.hid h1
    have H2 := Lib.hid h2
    have Hih := Lib.hid ih
    have Hsv := Lib.hid hsv
    have Hok := Lib.hid (show ∀ x : Int, okX sums row sum x ↔ (0 ≤ sum + x ∧ sum + x ≤ 1) ∧ 0 ≤ s + x ∧ s + x ≤ 1 from fun x => by unfold okX; rw [← hsv])
    have HBl := Lib.hid hB
    clear h1 h2 ih hd hsv
    go_enter Tryd.func46, Tryd.ntmps46
    go_wp2
    go_loopw [7, 8] (fun out i wr => ∃ (k : Nat) (x : Int) (vs : List Value), k ≤ 3 ∧ i = .int .i64 x ∧ x = (k : Int) - 1 ∧ OwnR wr B out (rowsP sums d row sum k) vs ∧ (∀ g, out.ownBlock = some g → w.heap.size ≤ g) ∧ Below w.heap.size w wr) (fun _ i _ => (2 - intOf i).toNat)
    case atStart => exact ⟨0, -1, [], by omega, rfl, rfl, OwnR.nil _ _, fun g hg => by simp [Value.ownBlock] at hg, Below.refl _ _⟩
    case round =>
      obtain ⟨k, x, vs, hk, rfl, hxk, hown, htop, hbr⟩ := hrel
      have hc0' := cell_below hc0 hbr
      have Hown := Lib.hid hown
      have Htop := Lib.hid htop
      have Hbr := Lib.hid hbr
      have HB := Lib.hid hbr.size
      have Hxk := Lib.hid hxk
      have hxb : -1 ≤ x ∧ x ≤ 2 := by omega
      clear hown htop hbr
      by_cases hk3 : k < 3
      · have hx1' : x ≤ 1 := by omega
        have hdx : decide (x ≤ 1) = true := by simpa using hx1'
        obtain ⟨u, hu⟩ : ∃ u, u = sum + x := ⟨_, rfl⟩
        obtain ⟨v, hv⟩ : ∃ v, v = s + x := ⟨_, rfl⟩
        obtain ⟨x', hx'⟩ : ∃ x', x' = x + 1 := ⟨_, rfl⟩
        have Hx' := Lib.hid hx'
        have hw1 : wrap64 (sum + x) = u := by rw [hu]; exact wSmall64 (by omega)
        have hw2 : wrap64 (s + x) = v := by rw [hv]; exact wSmall64 (by omega)
        have hw3 : wrap64 (x + 1) = x' := by rw [hx']; exact wSmall64 (by omega)
        have Hw3 := Lib.hid hw3
        have Hokx := Lib.hid (Hok.out x)
        rw [← hu, ← hv] at Hokx
        have Hu := Lib.hid hu
        clear hxk hu hv hx' hk hxb
        by_cases h1 : 0 ≤ u ∧ u ≤ 1
        · have H1in := Lib.hid h1
          clear h1
          go_wp2_with fail
          refine (l1In_any _ _ _ wr).mono ?_
          rintro e w2 ⟨ha, rfl⟩
          obtain rfl := ha.is H1in.out
          clear ha
          by_cases h2 : 0 ≤ v ∧ v ≤ 1
          · have H2in := Lib.hid h2
            clear h2
            have HP := Lib.hid (rowsP_yes (d := d) (k := k) (by rw [← Hxk.out]; exact Hokx.out.2 ⟨H1in.out, H2in.out⟩))
            rw [← Hxk.out, ← Hu.out] at HP
            go_wp2_with fail
            refine (l1In_any _ _ _ wr).mono ?_
            rintro e w2 ⟨ha, rfl⟩
            obtain rfl := ha.is H2in.out
            clear ha
            have Hl1 := Lib.hid (l1Own_any a2 c2 row wr (by omega) H2.out.none_cap (own_at (H2.out.below Hbr.out)))
            go_wp2_with fail
            refine Hl1.out.mono ?_
            rintro e w2 ⟨f1, rfl, hf1, hb2⟩
            obtain ⟨fa, fc, hff, _, _, _⟩ := hf1.read
            obtain ⟨fl, hfl⟩ : ∃ fl, fl = row.length := ⟨_, rfl⟩
            rw [← hfl] at hff
            subst hff
            have HF1 := Lib.hid hf1
            have Hb2 := Lib.hid hb2
            have HB2 := Lib.hid hb2.size
            have Hfl := Lib.hid hfl
            have hflb : fl ≤ 6 := by omega
            clear hf1 hb2 hfl Hl1
            go_wp2_with (at_builtin; refine wpList_append_own _ rfl _ _ 33 rfl wr.heap.size 3 i0 (.int .i64 0) 1 8 Tryd.underlying33 hi hz0 hz1 hz2 rfl (by decide) _ fl _ rfl (by have := World.ownsRow.alloc HF1.out (.cells #[.int .i64 x] 3); rw [← Hfl.out] at this; exact this) ⟨w2.heap.size, 0, none⟩ 1 1 [.int .i64 x] rfl rfl ?e1 ?e2 ?e3 ?e4 ?e5 ?_)
            case e1 => exact cell_one_new _ _ _
            case e2 => intro u hu; simp at hu; subst hu; rfl
            case e3 => unfold maxLen; omega
            case e4 => omega
            case e5 => have := HB2.out; simp; omega
            intro v' w3 hown' hgrow _
            rw [Hfl.out] at hown'
            have hput := HF1.out.snoc HB2.out hown' hgrow
            obtain ⟨ga, gc, hgg, hgc, hgc2, hgr⟩ := hput.1.read
            have h13 := Hb2.out.trans hput.2
            have hlen1 : (row ++ [x]).length = row.length + 1 := by simp
            have hor : OwnI w3 B (.slice ga (row ++ [x]).length gc) (row ++ [x]) := by rw [← hgg]; exact hput.1.base (Nat.le_trans HBl.out HB.out)
            have hrec := Hih.out (row ++ [x]) u ga gc B w3 (by have := Hd.out; rw [hlen1]; omega) H1in.out (Nat.le_trans HBl.out (Nat.le_trans HB.out h13.size)) ((H1.out.below Hbr.out).below h13) hor
            rw [hlen1] at hrec hgg
            obtain ⟨fl1, hfl1⟩ : ∃ fl1, fl1 = row.length + 1 := ⟨_, rfl⟩
            rw [← hfl1] at hgg hrec
            subst hgg
            have Hrec := Lib.hid hrec
            have Hput := Lib.hid h13
            clear hown' hgrow hput hgc hgc2 hgr hor hrec hfl1 h13 hlen1 HF1 Hb2 HB2 Hfl hflb
            go_wp2_with fail
            refine Hrec.out.mono ?_
            rintro e w4 ⟨sub, us, rfl, hsub, hst, hb4⟩
            obtain ⟨M, hM⟩ : ∃ M, M = rowsW sums d (row ++ [x]) u := ⟨_, rfl⟩
            obtain ⟨P0, hP0⟩ : ∃ P0, P0 = rowsP sums d row sum k := ⟨_, rfl⟩
            have hMl : M.length ≤ 1000000 := by rw [hM]; exact Nat.le_trans (rowsW_le _ _ _ _) (Nat.le_trans (Nat.pow_le_pow_right (by omega) (show d ≤ 5 by have := Hd.out; omega)) (by decide))
            have hPl : P0.length ≤ 1000000 := by rw [hP0]; exact Nat.le_trans (rowsP_le _ _ _ _ (by omega)) (Nat.le_trans (Nat.pow_le_pow_right (by omega) (show d + 1 ≤ 5 by have := Hd.out; omega)) (by decide))
            rw [← hM] at hsub HP
            rw [← hP0] at Hown HP
            obtain ⟨sa, sc, rfl, hs1, hs2, _⟩ := hsub.read
            have hb34 := Hput.out.trans (hb4.mono Hput.out.size)
            have Hown4 := Lib.hid (Hown.out.below hb34)
            have Hb4 := Lib.hid (Hbr.out.trans (hb34.mono HB.out))
            have HB4 := Lib.hid Hb4.out.size
            have Hsub := Lib.hid hsub
            obtain ⟨oa, oc, hoo, _, _, _⟩ := ownsRow_read Hown4.out.top
            obtain ⟨Ml, hMl2⟩ : ∃ Ml, Ml = M.length := ⟨_, rfl⟩
            obtain ⟨Pl, hPl2⟩ : ∃ Pl, Pl = P0.length := ⟨_, rfl⟩
            rw [← hPl2] at hoo hPl
            rw [← hMl2] at hMl hs1
            have HMl := Lib.hid hMl2
            have HPl := Lib.hid hPl2
            clear hsub hst hb4 hM hP0 hPl2 hb34 Hrec Hput
            subst hoo
            have Htop4 := Lib.hid (ownsRow_raise Hown4.out.top Htop.out)
            cases sa with
            | none =>
              have hM0 : M = [] := by
                rcases Hsub.out.top.2 with ⟨h1, h2⟩ | ⟨g, cap, cur, h1, _⟩
                · exact List.eq_nil_of_length_eq_zero h2
                · simp at h1
              have hsc : sc = 0 := by
                rcases Hsub.out.top.2 with ⟨h1, h2⟩ | ⟨g, cap, cur, h1, _⟩
                · simp at h1; exact h1.2
                · simp at h1
              subst hM0 hsc
              obtain rfl : Ml = 0 := by rw [hMl2]; rfl
              clear hs1 hs2 hMl hMl2 HMl
              go_wp2_with (at_builtin; refine wpList_append_own_none rfl _ _ 22 rfl w.heap.size 33 j0 1 Tryd.underlying22 hj _ _ _ rfl (by have := Htop4.out; rw [← HPl.out] at this; exact this) rfl ?_)
              go_wp2
              go_roundw
              case rel => exact ⟨k + 1, x', vs, by omega, by rw [Hw3.out], by have := Hxk.out; have := Hx'.out; omega, by rw [HP.out, List.append_nil]; exact Hown4.out, Htop.out, Hb4.out⟩
              case measure => simp [intOf]; have := Hx'.out; omega
            | some ad =>
              have Hcl := Lib.hid Hsub.out.cells
              have Hus := Lib.hid Hsub.out.len
              rw [← hMl2]
              clear hMl2 hs1 hs2
              go_wp2_with (at_builtin; refine wpList_append_own _ rfl _ _ 22 rfl w.heap.size 33 j0 (.slice none 0 0) 1 24 Tryd.underlying22 hj hy0 hy1 hy2 rfl (by decide) _ Pl vs rfl (by have := Htop4.out; rw [← HPl.out] at this; exact this) ad Ml sc us rfl ?f1 ?f2 ?f3 ?f4 ?f5 ?f6 ?_)
              case f1 => rw [Hus.out, HMl.out]; omega
              case f2 => exact Hcl.out.1
              case f3 => exact Hcl.out.2
              case f4 => unfold maxLen; omega
              case f5 => omega
              case f6 => exact HB4.out
              intro v'' w5 hown5 hgrow5 _
              have hjoin := Hown4.out.join (k := M) Hus.out Hsub.out.rows (by have := ownsRow_base hown5 HBl.out; rw [HPl.out, HMl.out] at this; exact this) hgrow5
              have hb5 : Below w.heap.size w4 w5 := Below.grown (Below.refl _ _) hgrow5 HB4.out (fun k hk => Htop.out k hk)
              have htop5 : ∀ g, v''.ownBlock = some g → w.heap.size ≤ g := fun g hg => (World.ownsRow.lt hown5 g hg).1
              have Hjoin := Lib.hid hjoin
              have Hb5 := Lib.hid (Hb4.out.trans hb5)
              have Htop5 := Lib.hid htop5
              clear hown5 hgrow5 hjoin hb5 htop5
              go_wp2
              go_roundw
              case rel => exact ⟨k + 1, x', _, by omega, by rw [Hw3.out], by have := Hxk.out; have := Hx'.out; omega, by rw [HP.out]; exact Hjoin.out, Htop5.out, Hb5.out⟩
              case measure => simp [intOf]; have := Hx'.out; omega
          · have H2in := Lib.hid h2
            clear h2
            have HP := Lib.hid (rowsP_no (d := d) (k := k) (fun h => by rw [← Hxk.out] at h; exact H2in.out (Hokx.out.1 h).2))
            go_wp2_with fail
            refine (l1In_any _ _ _ wr).mono ?_
            rintro e w2 ⟨ha, rfl⟩
            obtain rfl := ha.isnt H2in.out
            clear ha
            go_wp2
            go_roundw
            case rel => exact ⟨k + 1, x', vs, by omega, by rw [Hw3.out], by have := Hxk.out; have := Hx'.out; omega, by rw [HP.out]; exact Hown.out, Htop.out, Hbr.out⟩
            case measure => simp [intOf]; have := Hx'.out; omega
        · have H1in := Lib.hid h1
          clear h1
          have HP := Lib.hid (rowsP_no (d := d) (k := k) (fun h => by rw [← Hxk.out] at h; exact H1in.out (Hokx.out.1 h).1))
          go_wp2_with fail
          refine (l1In_any _ _ _ wr).mono ?_
          rintro e w2 ⟨ha, rfl⟩
          obtain rfl := ha.isnt H1in.out
          clear ha
          go_wp2
          go_roundw
          case rel => exact ⟨k + 1, x', vs, by omega, by rw [Hw3.out], by have := Hxk.out; have := Hx'.out; omega, by rw [HP.out]; exact Hown.out, Htop.out, Hbr.out⟩
          case measure => simp [intOf]; have := Hx'.out; omega
      · obtain rfl : k = 3 := by omega
        have hx2' : x = 2 := by omega
        subst hx2'
        clear hxk Hxk
        go_wp2
        go_ret
        exact ⟨_, vs, rfl, by rw [← rowsP_end]; exact Hown.out, Htop.out, Hbr.out⟩
end Go.Proofs.YtmonhmbnbhaemaaDoor

