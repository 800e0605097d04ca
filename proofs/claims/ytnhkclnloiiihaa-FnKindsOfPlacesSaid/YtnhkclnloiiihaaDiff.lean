/- Contracts of the program: the table whose corner sums a table could be, with int's own wrapping; that it is a sign matrix just where the model says so. -/
import Derived.Test.YtnhkclnloiiihaaFrm
namespace Go.Proofs.Ytnhkclnloiiihaa
open Go.RowKit

/-- differences of corner sums, as int wraps them -/
def dfW (c : List (List Int)) (i j : Nat) : Int :=
  IntKind.i64.wrap (IntKind.i64.wrap (IntKind.i64.wrap (gi (gr c i) j - atC c ((i : Int) - 1) j) - atC c i ((j : Int) - 1)) + atC c ((i : Int) - 1) ((j : Int) - 1))
def dmW (c : List (List Int)) : List (List Int) := tab c.length c.length (dfW c)
theorem dmW_len (c : List (List Int)) : (dmW c).length = c.length := tab_len _ _ _

theorem sumF_add (f g : Nat → Int) (k : Nat) : sumF (fun i => f i + g i) k = sumF f k + sumF g k := by
  induction k with
  | zero => rfl
  | succ k ih => simp only [sumF]; omega
theorem sumF_zero (k : Nat) : sumF (fun _ => 0) k = 0 := by
  induction k with
  | zero => rfl
  | succ k ih => simp only [sumF]; omega
theorem S2_swap (m : List (List Int)) (a b : Nat) : S2 m a b = sumF (fun j => sumF (fun i => gi (gr m i) j) a) b := by
  induction a with
  | zero => show (0 : Int) = sumF (fun _ => 0) b; rw [sumF_zero]
  | succ a ih =>
    rw [S2_succ, ih, ← sumF_add]
    rfl
theorem sumK_sumF (xs : List Int) (k : Nat) : sumK xs k = sumF (fun i => gi xs i) k := by
  induction k with
  | zero => rfl
  | succ k ih => simp only [sumK, sumF]; rw [ih]
theorem S2_cols {m : List (List Int)} {a b : Nat} (ha : a ≤ m.length) (hb : b ≤ m.length) : S2 m a b = sumF (fun j => sumK (gr (tr m) j) a) b := by
  rw [S2_swap]
  refine sumF_congr fun j hj => ?_
  rw [sumK_sumF]
  exact sumF_congr fun i hi => (gi_tr (by omega) (by omega)).symm
theorem S2_range {m : List (List Int)} (h : good m) {a b : Nat} (ha : a ≤ m.length) (hb : b ≤ m.length) : 0 ≤ S2 m a b ∧ S2 m a b ≤ b := by
  rw [S2_cols ha hb]
  have : ∀ k, k ≤ b → 0 ≤ sumF (fun j => sumK (gr (tr m) j) a) k ∧ sumF (fun j => sumK (gr (tr m) j) a) k ≤ k := by
    intro k
    induction k with
    | zero => simp [sumF]
    | succ k ih =>
      intro hk
      have h1 := ih (by omega)
      have h2 := (h.2.2 k (by rw [tr_len]; omega)).1 a (by rw [tr_row (by omega)]; exact ha)
      simp only [sumF]
      omega
  exact this b (Nat.le_refl _)
theorem S2_step (m : List (List Int)) (i j : Nat) : S2 m (i + 1) (j + 1) = S2 m i (j + 1) + S2 m (i + 1) j - S2 m i j + gi (gr m i) j := by
  rw [S2_succ, S2_succ]
  simp only [sumF]
  omega
theorem S2_zero_col (m : List (List Int)) (a : Nat) : S2 m a 0 = 0 := by
  show sumF (fun _ => (0 : Int)) a = 0
  exact sumF_zero a

theorem wrap_eq (n : Int) : IntKind.i64.wrap n = (n + 9223372036854775808) % 18446744073709551616 - 9223372036854775808 := by
  rw [IntKind.wrap_i64]

theorem wrap_core {x A B C d : Int} (hx : -9223372036854775808 ≤ x ∧ x ≤ 9223372036854775807) (hA : -36 ≤ A ∧ A ≤ 36) (hB : -36 ≤ B ∧ B ≤ 36) (hC : -36 ≤ C ∧ C ≤ 36) (hd : -1 ≤ d ∧ d ≤ 1)
    (h : d = IntKind.i64.wrap (IntKind.i64.wrap (IntKind.i64.wrap (x - A) - B) + C)) : x = A + B - C + d := by
  rw [wrap_eq, wrap_eq, wrap_eq] at h
  omega

theorem dmW_sums {c : List (List Int)} (hsq : square c) (hwf : WfM c) (hg : good (dmW c)) : ∀ i, i < c.length → ∀ j, j < c.length → gi (gr c i) j = S2 (dmW c) (i + 1) (j + 1) := by
  intro i
  induction i with
  | zero =>
    intro h0 j
    induction j with
    | zero =>
      intro hj
      have hd := good_entry hg (i := 0) (j := 0) (by rw [dmW_len]; exact h0) (by rw [dmW_len]; exact hj)
      have e : gi (gr (dmW c) 0) 0 = dfW c 0 0 := gi_tab h0 hj
      have hx := hwf 0 h0 0 (by rw [hsq.2.2 0 h0]; exact hj)
      rw [S2_step, S2_zero_col, S2_zero_col]
      have := wrap_core hx (A := 0) (B := 0) (C := 0) (by omega) (by omega) (by omega) hd (by rw [e]; rfl)
      show _ = 0 + 0 - 0 + _
      omega
    | succ j ih =>
      intro hj
      have ih := ih (by omega)
      have hd := good_entry hg (i := 0) (j := j + 1) (by rw [dmW_len]; exact h0) (by rw [dmW_len]; exact hj)
      have e : gi (gr (dmW c) 0) (j + 1) = dfW c 0 (j + 1) := gi_tab h0 hj
      have hx := hwf 0 h0 (j + 1) (by rw [hsq.2.2 0 h0]; exact hj)
      have hb := S2_bound hg (a := 0 + 1) (b := j + 1) (by rw [dmW_len]; omega) (by rw [dmW_len]; omega)
      have eB : atC c ((0 : Nat) : Int) (((j + 1 : Nat) : Int) - 1) = S2 (dmW c) (0 + 1) (j + 1) := by
        rw [show (((j + 1 : Nat) : Int) - 1) = (j : Int) from by omega, atC_nat, ih]
      rw [S2_step]
      have := wrap_core hx (A := 0) (B := S2 (dmW c) (0 + 1) (j + 1)) (C := 0) (by omega) hb (by omega) hd (by rw [e, ← eB]; rfl)
      show _ = 0 + _ - 0 + _
      omega
  | succ i ihi =>
    intro hi j
    have ihi := ihi (by omega)
    induction j with
    | zero =>
      intro hj
      have hd := good_entry hg (i := i + 1) (j := 0) (by rw [dmW_len]; exact hi) (by rw [dmW_len]; exact hj)
      have e : gi (gr (dmW c) (i + 1)) 0 = dfW c (i + 1) 0 := gi_tab hi hj
      have hx := hwf (i + 1) hi 0 (by rw [hsq.2.2 (i + 1) hi]; exact hj)
      have hb := S2_bound hg (a := i + 1) (b := 0 + 1) (by rw [dmW_len]; omega) (by rw [dmW_len]; omega)
      have eA : atC c (((i + 1 : Nat) : Int) - 1) ((0 : Nat) : Int) = S2 (dmW c) (i + 1) (0 + 1) := by
        rw [show (((i + 1 : Nat) : Int) - 1) = (i : Int) from by omega, atC_nat, ihi 0 hj]
      have z1 : atC c ((i + 1 : Nat) : Int) (((0 : Nat) : Int) - 1) = 0 := by unfold atC; rw [if_neg (by omega), if_pos (by omega)]
      have z2 : atC c (((i + 1 : Nat) : Int) - 1) (((0 : Nat) : Int) - 1) = 0 := by unfold atC; rw [if_neg (by omega), if_pos (by omega)]
      rw [S2_step, S2_zero_col, S2_zero_col]
      have := wrap_core hx (A := S2 (dmW c) (i + 1) (0 + 1)) (B := 0) (C := 0) hb (by omega) (by omega) hd (by rw [e]; unfold dfW; rw [eA, z1, z2])
      omega
    | succ j ihj =>
      intro hj
      have ihj := ihj (by omega)
      have hd := good_entry hg (i := i + 1) (j := j + 1) (by rw [dmW_len]; exact hi) (by rw [dmW_len]; exact hj)
      have e : gi (gr (dmW c) (i + 1)) (j + 1) = dfW c (i + 1) (j + 1) := gi_tab hi hj
      have hx := hwf (i + 1) hi (j + 1) (by rw [hsq.2.2 (i + 1) hi]; exact hj)
      have b1 := S2_bound hg (a := i + 1) (b := j + 1 + 1) (by rw [dmW_len]; omega) (by rw [dmW_len]; omega)
      have b2 := S2_bound hg (a := i + 1 + 1) (b := j + 1) (by rw [dmW_len]; omega) (by rw [dmW_len]; omega)
      have b3 := S2_bound hg (a := i + 1) (b := j + 1) (by rw [dmW_len]; omega) (by rw [dmW_len]; omega)
      have eA : atC c (((i + 1 : Nat) : Int) - 1) ((j + 1 : Nat) : Int) = S2 (dmW c) (i + 1) (j + 1 + 1) := by
        rw [show (((i + 1 : Nat) : Int) - 1) = (i : Int) from by omega, atC_nat, ihi (j + 1) hj]
      have eB : atC c ((i + 1 : Nat) : Int) (((j + 1 : Nat) : Int) - 1) = S2 (dmW c) (i + 1 + 1) (j + 1) := by
        rw [show (((j + 1 : Nat) : Int) - 1) = (j : Int) from by omega, atC_nat, ihj]
      have eC : atC c (((i + 1 : Nat) : Int) - 1) (((j + 1 : Nat) : Int) - 1) = S2 (dmW c) (i + 1) (j + 1) := by
        rw [show (((i + 1 : Nat) : Int) - 1) = (i : Int) from by omega, show (((j + 1 : Nat) : Int) - 1) = (j : Int) from by omega, atC_nat, ihi j (by omega)]
      rw [S2_step]
      have := wrap_core hx b1 b2 b3 hd (by rw [e]; unfold dfW; rw [eA, eB, eC])
      omega

theorem dmW_dm {c : List (List Int)} (hsq : square c) (h : inRange c) : dmW c = dm c := by
  have hn := hsq.2.1
  refine eq_tab (dmW_len c) (fun i hi => tab_row hi) fun i j hi hj => ?_
  rw [show gi (gr (dmW c) i) j = dfW c i j from gi_tab hi hj]
  have h1 := atC_range h (i := i) (j := j) (by omega) (by omega)
  have h2 := atC_range h (i := (i : Int) - 1) (j := j) (by omega) (by omega)
  have h3 := atC_range h (i := i) (j := (j : Int) - 1) (by omega) (by omega)
  have h4 := atC_range h (i := (i : Int) - 1) (j := (j : Int) - 1) (by omega) (by omega)
  unfold dfW df
  rw [← atC_nat]
  rw [w64 (n := atC c i j - atC c ((i : Int) - 1) j) (by omega), w64 (n := atC c i j - atC c ((i : Int) - 1) j - atC c i ((j : Int) - 1)) (by omega), w64 (by omega)]

/-- corner sums of a sign matrix -/
def isCorners (c : List (List Int)) : Prop := square c ∧ inRange c ∧ good (dm c)
theorem corners_iff {c : List (List Int)} (hwf : WfM c) : square c ∧ good (dmW c) ↔ isCorners c := by
  constructor
  · rintro ⟨hsq, hg⟩
    have hr : inRange c := by
      intro i j hi hj
      rw [dmW_sums hsq hwf hg i hi j hj]
      have := S2_range hg (a := i + 1) (b := j + 1) (by rw [dmW_len]; omega) (by rw [dmW_len]; omega)
      omega
    exact ⟨hsq, hr, by rw [← dmW_dm hsq hr]; exact hg⟩
  · rintro ⟨hsq, hr, hg⟩
    exact ⟨hsq, by rw [dmW_dm hsq hr]; exact hg⟩

theorem wf_dmW {c : List (List Int)} : WfM (dmW c) := by
  intro i hi j hj
  rw [dmW_len] at hi
  have hj' : j < c.length := by have := tab_row (n := c.length) (c := c.length) (f := dfW c) hi; unfold dmW at hj; omega
  rw [show gi (gr (dmW c) i) j = dfW c i j from gi_tab hi hj']
  unfold dfW
  rw [wrap_eq (_ + _)]
  omega
theorem square_dmW {c : List (List Int)} (h : square c) : square (dmW c) := ⟨by rw [dmW_len]; exact h.1, by rw [dmW_len]; exact h.2.1, fun i hi => by rw [dmW_len] at hi ⊢; exact tab_row hi⟩

set_option maxRecDepth 100000 in
set_option maxHeartbeats 3200000 in
theorem differences_any (ao : Option Addr) (c : Nat) (m : List (List Int)) (w : World) (hsq : square m) (hm : MatAt w ao m) :
    Calls Try.prog 131 #[.slice ao m.length c] w fun e w' => ∃ v, e = .returned v ∧ OwnM w' w.heap.size v (dmW m) ∧ Below w.heap.size w w' := by
  have hn := hsq.2.1
  have hmx : m.length ≤ 9223372036854775807 := by omega
  have Hsq := Lib.hid hsq
  have Hm := Lib.hid hm
  clear hsq hm
  go_enter Try.func131, Try.ntmps131
  go_wp2_with fail
  refine (newGrid_any m.length w (by omega)).mono ?_
  rintro e w1 ⟨vs, rfl, hv, hb⟩
  have Hv := Lib.hid hv
  have Hb := Lib.hid hb
  clear hv hb
  go_wp2
  go_loopw [13] (fun i wr => ∃ (k : Nat) (f : Nat → Nat → Int), k ≤ m.length ∧ i = .int .i64 k ∧ OwnP wr w.heap.size (.slice (some ⟨w.heap.size, 0, none⟩) m.length m.length) m.length (tab m.length m.length f) m.length vs ∧
      (∀ a b, a < k → b < m.length → f a b = dfW m a b) ∧ Below w.heap.size w wr) (fun i _ => m.length - (intOf i).toNat)
  case atStart => exact ⟨0, _, Nat.zero_le _, rfl, Hv.out, fun a b ha _ => absurd ha (by omega), Hb.out⟩
  case round =>
    obtain ⟨k, f, hk, rfl, hown, heq, hbr⟩ := hrel
    obtain ⟨wo, rfl⟩ : ∃ wo : World, wo = wr := ⟨_, rfl⟩
    clear Hv Hb
    by_cases hlt : k < m.length
    · obtain ⟨b1, o1, r1, d1, e0, hc0, hx1, _, _⟩ := Hm.out k hlt
      have hrl : (gr m k).length = m.length := Hsq.out.2.2 k hlt
      rw [hrl] at hc0
      have hc1 := cell_below hc0 hbr
      subst e0
      have Hrow := Lib.hid hx1
      have Hown := Lib.hid hown
      have Heq := Lib.hid heq
      have Hbr := Lib.hid hbr
      clear hown heq hbr hx1 hrl hc0
      go_wp2
      go_loopw [20] (fun i wr => ∃ (t : Nat) (f : Nat → Nat → Int), t ≤ m.length ∧ i = .int .i64 t ∧ OwnP wr w.heap.size (.slice (some ⟨w.heap.size, 0, none⟩) m.length m.length) m.length (tab m.length m.length f) m.length vs ∧
          (∀ a b, a < k → b < m.length → f a b = dfW m a b) ∧ (∀ b, b < t → f k b = dfW m k b) ∧ Below w.heap.size w wr) (fun i _ => m.length - (intOf i).toNat)
      case atStart => exact ⟨0, f, Nat.zero_le _, rfl, Hown.out, Heq.out, fun a ha => absurd ha (by omega), Hbr.out⟩
      case round =>
        obtain ⟨t, f, ht, rfl, hown, heq, hcol, hbi⟩ := hrel
        clear Hown Heq Hbr
        by_cases htl : t < m.length
        · obtain ⟨b2, o2, e2, hc2⟩ := Hrow.out.below hbi t (by rw [Hsq.out.2.2 k hlt]; exact htl)
          have hd := hown.cellAt k hlt
          obtain ⟨g, cap, hvs, hd2, hf2, hg, hst⟩ := hown.at2 hlt htl
          rw [hvs] at hd
          have hmr := (Hm.out.below hbi).drewD
          have c2 := corner_any (some ⟨b1, o1, none⟩) c m ((k : Int) - 1) t _ Hsq.out (by omega) (by omega) hmr
          have c3 := corner_any (some ⟨b1, o1, none⟩) c m k ((t : Int) - 1) _ Hsq.out (by omega) (by omega) hmr
          have c4 := corner_any (some ⟨b1, o1, none⟩) c m ((k : Int) - 1) ((t : Int) - 1) _ Hsq.out (by omega) (by omega) hmr
          have hdf : dfW m k t = IntKind.i64.wrap (IntKind.i64.wrap (IntKind.i64.wrap (gi (gr m k) t - atC m ((k : Int) - 1) t) - atC m k ((t : Int) - 1)) + atC m ((k : Int) - 1) ((t : Int) - 1)) := rfl
          generalize gi (gr m k) t = x1 at hc2 hdf
          generalize atC m ((k : Int) - 1) t = x2 at c2 hdf
          generalize atC m k ((t : Int) - 1) = x3 at c3 hdf
          generalize atC m ((k : Int) - 1) ((t : Int) - 1) = x4 at c4 hdf
          have k1 : IntKind.i64.wrap ((k : Int) - 1) = (k : Int) - 1 := w64 (by omega)
          have k2 : IntKind.i64.wrap ((t : Int) - 1) = (t : Int) - 1 := w64 (by omega)
          have C2 := Lib.hid c2
          have C3 := Lib.hid c3
          have C4 := Lib.hid c4
          have Hvs := Lib.hid hvs
          obtain ⟨y1, hy1⟩ : ∃ y1, y1 = IntKind.i64.wrap (x1 - x2) := ⟨_, rfl⟩
          obtain ⟨y2, hy2⟩ : ∃ y2, y2 = IntKind.i64.wrap (y1 - x3) := ⟨_, rfl⟩
          obtain ⟨y3, hy3⟩ : ∃ y3, y3 = IntKind.i64.wrap (y2 + x4) := ⟨_, rfl⟩
          rw [← hy1, ← hy2, ← hy3] at hdf
          have k3 : IntKind.i64.wrap (x1 - x2) = y1 := hy1.symm
          have k4 : IntKind.i64.wrap (y1 - x3) = y2 := hy2.symm
          have k5 : IntKind.i64.wrap (y2 + x4) = y3 := hy3.symm
          have Hdf := Lib.hid hdf
          have Hst := Lib.hid (hst y3)
          have Heq := Lib.hid heq
          have Hcol := Lib.hid hcol
          have Hbs := Lib.hid (hbi.setCell (p := ⟨g, t, none⟩) hg (.int .i64 y3))
          subst e2
          have hdD := cellD hd
          have hd2D := cellD hd2
          clear hown heq hcol hbi hst hvs hmr c2 c3 c4 hdf hg hy1 hy2 hy3
          go_upto_region 8 with (fail)
          refine wp_region_still_tail 26 (by kernel_rfl) (by kernel_rfl) ?_
          simp only [List.take_succ_cons, List.take_zero, List.drop_succ_cons, List.drop_zero]
          repeat still_step
          still_call C2.out
          repeat still_step
          still_call C3.out
          repeat still_step
          still_call C4.out
          repeat still_step
          refine wpStill_nil ?_
          change wpList _ _ _ _ _ wr.drew
          clear k1 k2 k3 k4 k5 hdD hd2D
          go_wp2
          go_roundw
          case rel =>
            refine ⟨t + 1, _, by omega, by go_num, Hst.out.drew, fun a b ha hb => ?_, fun b hb => ?_, Hbs.out.drew⟩
            · rw [if_neg (fun h => by omega)]
              exact Heq.out a b ha hb
            · by_cases e : b = t
              · subst e; rw [if_pos ⟨rfl, rfl⟩]; exact Hdf.out.symm
              · rw [if_neg (fun h => by omega)]
                exact Hcol.out b (by omega)
          case measure => simp [intOf]; omega
        · obtain rfl : t = m.length := by omega
          have Hown := Lib.hid hown
          have Heq := Lib.hid heq
          have Hcol := Lib.hid hcol
          have Hbi := Lib.hid hbi
          clear hown heq hcol hbi
          go_wp2
          go_roundw
          case rel =>
            refine ⟨k + 1, f, by omega, by go_num, Hown.out, fun a b ha hb => ?_, Hbi.out⟩
            by_cases e : a = k
            · subst e; exact Hcol.out b hb
            · exact Heq.out a b (by omega) hb
          case measure => simp [intOf]; omega
    · obtain rfl : k = m.length := by omega
      have e : dmW m = tab m.length m.length f := (eq_tab (dmW_len m) (fun i hi => tab_row hi) (fun i j hi hj => by unfold dmW; rw [gi_tab hi hj, heq i j hi hj]))
      have hfin : OwnM wo w.heap.size (.slice (some ⟨w.heap.size, 0, none⟩) m.length m.length) (dmW m) := ⟨vs, by rw [dmW_len, e]; exact hown⟩
      have Hfin := Lib.hid hfin
      have Hbr := Lib.hid hbr
      clear hown heq e hfin hbr
      go_wp2
      go_ret
      exact ⟨_, rfl, Hfin.out, Hbr.out⟩

set_option maxRecDepth 100000 in
set_option maxHeartbeats 800000 in
theorem ifSigns_any (ao : Option Addr) (c : Nat) (m : List (List Int)) (w : World) (hs : Small m) (hwf : WfM m) (hm : MatAt w ao m) :
    Calls Try.prog 130 #[.slice ao m.length c] w fun e w' =>
      ∃ b, e = .returned (.tuple #[if b then .slice ao m.length c else .slice none 0 0, .bool b]) ∧ (b = true ↔ good m) ∧ Below w.heap.size w w' := by
  have Hs := Lib.hid hs
  have Hm := Lib.hid hm
  have Hwf := Lib.hid hwf
  clear hs hm hwf
  go_enter Try.func130, Try.ntmps130
  go_wp2_with fail
  refine (implIsSign_any ao c m w Hs.out Hwf.out Hm.out).mono ?_
  rintro e w1 ⟨⟨b, rfl, ha⟩, hb⟩
  have Ha := Lib.hid ha
  have Hb := Lib.hid hb
  clear ha hb
  cases b
  · go_wp2
    go_ret2
    exact ⟨false, rfl, Ha.out, Hb.out⟩
  · go_wp2
    go_ret2
    exact ⟨true, rfl, by simpa using Ha.out, Hb.out⟩

set_option maxRecDepth 100000 in
set_option maxHeartbeats 800000 in
theorem implFromCorners_any (ao : Option Addr) (c : Nat) (m : List (List Int)) (w : World) (hs : Small m) (hwf : WfM m) (hm : MatAt w ao m) :
    Calls Try.prog 41 #[.slice ao m.length c] w fun e w' => MRes (isCorners m) (dm m) w' w.heap.size e ∧ Below w.heap.size w w' := by
  have Hs := Lib.hid hs
  have Hm := Lib.hid hm
  have Hwf := Lib.hid hwf
  clear hs hm hwf
  by_cases hsq : square m
  · have Hsq := Lib.hid hsq
    clear hsq
    go_enter Try.func41, Try.ntmps41
    go_wp2_with fail
    refine (isSquare_any ao c m w Hs.out Hm.out).mono ?_
    rintro e w2 ⟨ha, hb0⟩
    obtain rfl := ha.is Hsq.out
    have Hb0 := Lib.hid hb0
    clear ha hb0
    go_wp2_with fail
    refine (differences_any ao c m w2 Hsq.out (Hm.out.below Hb0.out)).mono ?_
    rintro e w1 ⟨v, rfl, hv0, hb0⟩
    have hv := hv0.base Hb0.out.size
    have hb := Hb0.out.trans (hb0.mono Hb0.out.size)
    clear hv0 hb0
    obtain ⟨a1, c1, rfl, _, _, hm1⟩ := hv.read
    have Hm1 := Lib.hid hm1
    have Hv := Lib.hid hv
    have Hb := Lib.hid hb
    have HB := Lib.hid hb.size
    clear hv hb hm1
    go_wp2_with fail
    refine (ifSigns_any a1 c1 (dmW m) w1 (square_dmW Hsq.out).small wf_dmW Hm1.out).mono ?_
    rintro e w2 ⟨b, rfl, hg, hb2⟩
    have Hg := Lib.hid hg
    have Hv2 := Lib.hid (Hv.out.below hb2)
    have Hb2 := Lib.hid (Hb.out.trans (hb2.mono HB.out))
    clear hg hb2
    cases b
    · go_wp2
      go_ret2
      refine ⟨MRes.no (fun h => ?_), Hb2.out⟩
      have := ((corners_iff Hwf.out).2 h).2
      have h2 := Hg.out.2 this
      cases h2
    · have hg : good (dmW m) := Hg.out.1 rfl
      have hc := (corners_iff Hwf.out).1 ⟨Hsq.out, hg⟩
      have hv3 := Hv2.out
      rw [show OwnM w2 w.heap.size (.slice a1 (dmW m).length c1) (dmW m) = OwnM w2 w.heap.size (.slice a1 (dmW m).length c1) (dm m) from by rw [dmW_dm Hsq.out hc.2.1]] at hv3
      have Hv3 := Lib.hid hv3
      have Hc := Lib.hid hc
      clear hg hc hv3
      go_wp2
      go_ret2
      exact ⟨MRes.yes Hc.out Hv3.out, Hb2.out⟩
  · have Hsq := Lib.hid hsq
    clear hsq
    go_enter Try.func41, Try.ntmps41
    go_wp2_with fail
    refine (isSquare_any ao c m w Hs.out Hm.out).mono ?_
    rintro e w2 ⟨ha, hb0⟩
    obtain rfl := ha.isnt Hsq.out
    have Hb0 := Lib.hid hb0
    clear ha hb0
    go_wp2
    go_ret2
    exact ⟨MRes.no (fun h => Hsq.out h.1), Hb0.out⟩

set_option maxRecDepth 100000 in
set_option maxHeartbeats 800000 in
theorem implAreCorners_any (ao : Option Addr) (c : Nat) (m : List (List Int)) (w : World) (hs : Small m) (hwf : WfM m) (hm : MatAt w ao m) :
    Calls Try.prog 42 #[.slice ao m.length c] w fun e w' => Ans (isCorners m) e ∧ Below w.heap.size w w' := by
  have Hs := Lib.hid hs
  have Hm := Lib.hid hm
  have Hwf := Lib.hid hwf
  clear hs hm hwf
  go_enter Try.func42, Try.ntmps42
  go_wp2_with fail
  refine (implFromCorners_any ao c m w Hs.out Hwf.out Hm.out).mono ?_
  rintro e w1 ⟨⟨v, b, r, rfl, hv, hr⟩, hb⟩
  have hb' : b = true ↔ isCorners m := by
    rcases hr with ⟨h1, rfl, _⟩ | ⟨h1, rfl, _⟩
    · simp [h1]
    · simp [h1]
  have Hb' := Lib.hid hb'
  have Hb := Lib.hid hb
  clear hv hr hb' hb
  go_wp2
  go_ret
  exact ⟨⟨b, rfl, Hb'.out⟩, Hb.out⟩

/-- all numbers lie between two bounds -/
def allIn (xs : List Int) (lo hi : Int) : Prop := ∀ i, i < xs.length → lo ≤ gi xs i ∧ gi xs i ≤ hi

set_option maxRecDepth 100000 in
set_option maxHeartbeats 800000 in
theorem l1All_any (ao : Option Addr) (c : Nat) (xs : List Int) (lo hi : Int) (w : World) (hn : xs.length ≤ 1048576) (hx : IntsAt w ao xs) :
    Calls Try.prog 99 #[.slice ao xs.length c, .int .i64 lo, .int .i64 hi] w fun e w' => Ans (allIn xs lo hi) e ∧ w = w' := by
  have hmx : xs.length ≤ 9223372036854775807 := by omega
  have Hx := Lib.hid hx
  clear hx
  go_enter Try.func99, Try.ntmps99
  go_wp2
  go_loop [11] (fun i => ∃ k : Nat, k ≤ xs.length ∧ i = .int .i64 k ∧ ∀ j, j < k → lo ≤ gi xs j ∧ gi xs j ≤ hi) (fun i => xs.length - (intOf i).toNat)
  case atStart => exact ⟨0, Nat.zero_le _, rfl, fun j hj => absurd hj (by omega)⟩
  case round =>
    obtain ⟨k, hk, rfl, hd⟩ := hrel
    have Hd := Lib.hid hd
    clear hd
    by_cases hlt : k < xs.length
    · obtain ⟨b1, o1, rfl, hc1⟩ := Hx.out k hlt
      go_wp2_with fail
      refine (l1In_any _ _ _ w).mono ?_
      rintro e w2 ⟨ha, rfl⟩
      by_cases hin : lo ≤ gi xs k ∧ gi xs k ≤ hi
      · have Hin := Lib.hid hin
        clear hin
        obtain rfl := ha.is Hin.out
        clear ha
        go_wp2
        go_round
        case rel =>
          refine ⟨k + 1, by omega, by go_num, fun j hj => ?_⟩
          by_cases e : j = k
          · subst e; exact Hin.out
          · exact Hd.out j (by omega)
        case measure => simp [intOf]; omega
      · have Hin := Lib.hid hin
        clear hin
        obtain rfl := ha.isnt Hin.out
        clear ha
        go_wp2
        go_ret
        exact ⟨Ans.no fun h => Hin.out (h k hlt), rfl⟩
    · obtain rfl : k = xs.length := by omega
      go_wp2
      go_ret
      exact ⟨Ans.yes Hd.out, rfl⟩

set_option maxRecDepth 100000 in
set_option maxHeartbeats 1600000 in
theorem sgIsCorners_any (ao : Option Addr) (c : Nat) (m : List (List Int)) (w : World) (hs : Small m) (hm : MatAt w ao m) :
    Calls Try.prog 133 #[.slice ao m.length c] w fun e w' => Ans (isCorners m) e ∧ Below w.heap.size w w' := by
  have Hs := Lib.hid hs
  have Hm := Lib.hid hm
  clear hs hm
  by_cases hsq : square m
  · have Hsq := Lib.hid hsq
    have hn := hsq.2.1
    have hmx : m.length ≤ 9223372036854775807 := by omega
    clear hsq
    go_enter Try.func133, Try.ntmps133
    go_wp2_with fail
    refine (sgSquare_any ao c m w Hs.out Hm.out).mono ?_
    rintro e w2 ⟨ha, rfl⟩
    obtain rfl := ha.is Hsq.out
    clear ha
    go_wp2
    go_loop [10] (fun i => ∃ k : Nat, k ≤ m.length ∧ i = .int .i64 k ∧ ∀ i, i < k → ∀ j, j < m.length → 0 ≤ gi (gr m i) j ∧ gi (gr m i) j ≤ m.length) (fun i => m.length - (intOf i).toNat)
    case atStart => exact ⟨0, Nat.zero_le _, rfl, fun j hj => absurd hj (by omega)⟩
    case round =>
      obtain ⟨k, hk, rfl, hd⟩ := hrel
      have Hd := Lib.hid hd
      clear hd
      by_cases hlt : k < m.length
      · obtain ⟨b1, o1, r1, d1, rfl, hc1, hr1, _, _⟩ := Hm.out k hlt
        have Hr1 := Lib.hid hr1
        clear hr1
        go_wp2_with fail
        refine (l1All_any r1 d1 (gr m k) 0 m.length w (by rw [Hsq.out.2.2 k hlt]; omega) Hr1.out).mono ?_
        rintro e w2 ⟨ha, rfl⟩
        by_cases hin : allIn (gr m k) 0 m.length
        · have Hin := Lib.hid hin
          clear hin
          obtain rfl := ha.is Hin.out
          clear ha
          go_wp2
          go_round
          case rel =>
            refine ⟨k + 1, by omega, by go_num, fun i hi j hj => ?_⟩
            by_cases e : i = k
            · subst e; exact Hin.out j (by rw [Hsq.out.2.2 i hlt]; exact hj)
            · exact Hd.out i (by omega) j hj
          case measure => simp [intOf]; omega
        · have Hin := Lib.hid hin
          clear hin
          obtain rfl := ha.isnt Hin.out
          clear ha
          go_wp2
          go_ret
          exact ⟨Ans.no fun h => Hin.out (fun j hj => h.2.1 k j hlt (by rw [Hsq.out.2.2 k hlt] at hj; exact hj)), Below.refl _ _⟩
      · obtain rfl : k = m.length := by omega
        have hin : inRange m := fun i j hi hj => Hd.out i hi j hj
        have Hin := Lib.hid hin
        clear hin
        go_wp2_with fail
        refine (sgFrom_any ao c m w Hsq.out Hin.out Hm.out).mono ?_
        rintro e w1 ⟨v, rfl, hv, hb⟩
        obtain ⟨a1, c1, rfl, _, _, hm1⟩ := hv.read
        have Hm1 := Lib.hid hm1
        have Hb := Lib.hid hb
        have HB := Lib.hid hb.size
        clear hv hb hm1
        go_wp2_with fail
        refine (sgGood_any a1 c1 (dm m) w1 (by rw [← dmW_dm Hsq.out Hin.out]; exact (square_dmW Hsq.out).small) Hm1.out).mono ?_
        rintro e w2 ⟨⟨b, rfl, hg⟩, hb2⟩
        have Hg := Lib.hid hg
        have Hb2 := Lib.hid (Hb.out.trans (hb2.mono HB.out))
        clear hg hb2
        go_wp2
        go_ret
        exact ⟨⟨b, rfl, Hg.out.trans ⟨fun h => ⟨Hsq.out, Hin.out, h⟩, fun h => h.2.2⟩⟩, Hb2.out⟩
  · have Hsq := Lib.hid hsq
    clear hsq
    go_enter Try.func133, Try.ntmps133
    go_wp2_with fail
    refine (sgSquare_any ao c m w Hs.out Hm.out).mono ?_
    rintro e w2 ⟨ha, rfl⟩
    obtain rfl := ha.isnt Hsq.out
    clear ha
    go_wp2
    go_ret
    exact ⟨Ans.no fun h => Hsq.out h.1, Below.refl _ _⟩

set_option maxRecDepth 100000 in
set_option maxHeartbeats 800000 in
theorem specFromCorners_any (ao : Option Addr) (c : Nat) (m : List (List Int)) (w : World) (hs : Small m) (hm : MatAt w ao m) :
    Calls Try.prog 44 #[.slice ao m.length c] w fun e w' => MRes (isCorners m) (dm m) w' w.heap.size e ∧ Below w.heap.size w w' := by
  have Hs := Lib.hid hs
  have Hm := Lib.hid hm
  clear hs hm
  go_enter Try.func44, Try.ntmps44
  go_wp2_with fail
  refine (sgIsCorners_any ao c m w Hs.out Hm.out).mono ?_
  rintro e w1 ⟨ha, hb⟩
  have Hb := Lib.hid hb
  have HB := Lib.hid hb.size
  clear hb
  by_cases hg : isCorners m
  · have Hg := Lib.hid hg
    clear hg
    obtain rfl := ha.is Hg.out
    clear ha
    go_wp2_with fail
    refine (sgFrom_any ao c m w1 Hg.out.1 Hg.out.2.1 (Hm.out.below Hb.out)).mono ?_
    rintro e w2 ⟨v, rfl, hv, hb2⟩
    have Hv := Lib.hid (hv.base HB.out)
    have Hb2 := Lib.hid (Hb.out.trans (hb2.mono HB.out))
    clear hv hb2
    go_wp2
    go_ret2
    exact ⟨MRes.yes Hg.out Hv.out, Hb2.out⟩
  · have Hg := Lib.hid hg
    clear hg
    obtain rfl := ha.isnt Hg.out
    clear ha
    go_wp2
    go_ret2
    exact ⟨MRes.no Hg.out, Hb.out⟩

theorem dm_small {m : List (List Int)} (h : square m) : Small (dm m) := ⟨by rw [dm_len]; have := h.2.1; omega, fun i hi => by rw [dm_len] at hi; unfold dm; rw [tab_row hi]; have := h.2.1; omega⟩
end Go.Proofs.Ytnhkclnloiiihaa
