/- Parts of proofs: contracts and plain facts. Conditions: as each says. -/
import Derived.Test.YtmkldodkpijfjaaDoorK03
import Derived.Laws.AppendOwnNone
import Derived.Maps.AppendAt
import Derived.StillTailTactics
import Derived.Deep.Cut
namespace Go.Proofs.YtmkldodkpijfjaaDoor
open Go.RowKit

def okX (sums row : List Int) (sum x : Int) : Prop := (0 ≤ sum + x ∧ sum + x ≤ 1) ∧ 0 ≤ gi sums row.length + x ∧ gi sums row.length + x ≤ 1
instance (sums row : List Int) (sum x : Int) : Decidable (okX sums row sum x) := by unfold okX; infer_instance
/-- the rows that go on a row: d numbers more -/
def rowsW (sums : List Int) : Nat → List Int → Int → List (List Int)
  | 0, row, sum => if sum = 1 then [row] else []
  | d + 1, row, sum => (List.range 3).flatMap fun k : Nat => if okX sums row sum ((k : Int) - 1) then rowsW sums d (row ++ [(k : Int) - 1]) (sum + ((k : Int) - 1)) else []
/-- .. up to the k-th number -/
def rowsP (sums : List Int) (d : Nat) (row : List Int) (sum : Int) (k : Nat) : List (List Int) :=
  (List.range k).flatMap fun k : Nat => if okX sums row sum ((k : Int) - 1) then rowsW sums d (row ++ [(k : Int) - 1]) (sum + ((k : Int) - 1)) else []
theorem rowsP_zero (sums : List Int) (d : Nat) (row : List Int) (sum : Int) : rowsP sums d row sum 0 = [] := rfl
theorem rowsP_yes {sums : List Int} {d : Nat} {row : List Int} {sum : Int} {k : Nat} (h : okX sums row sum ((k : Int) - 1)) : rowsP sums d row sum (k + 1) = rowsP sums d row sum k ++ rowsW sums d (row ++ [(k : Int) - 1]) (sum + ((k : Int) - 1)) := by
  unfold rowsP
  rw [List.range_succ, List.flatMap_append]
  simp [h]
theorem rowsP_no {sums : List Int} {d : Nat} {row : List Int} {sum : Int} {k : Nat} (h : ¬okX sums row sum ((k : Int) - 1)) : rowsP sums d row sum (k + 1) = rowsP sums d row sum k := by
  unfold rowsP
  rw [List.range_succ, List.flatMap_append]
  simp [h]
theorem rowsP_end (sums : List Int) (d : Nat) (row : List Int) (sum : Int) : rowsP sums d row sum 3 = rowsW sums (d + 1) row sum := rfl
theorem flatL_len {α β : Type} (g : α → List β) (B : Nat) : ∀ l : List α, (∀ x, x ∈ l → (g x).length ≤ B) → (l.flatMap g).length ≤ l.length * B
  | [], _ => by simp
  | a :: l, h => by
    have h1 := flatL_len g B l (fun x hx => h x (by simp [hx]))
    have h2 := h a (by simp)
    rw [List.flatMap_cons, List.length_append, List.length_cons, Nat.add_mul]
    omega
theorem rowsW_le (sums : List Int) : ∀ (d : Nat) (row : List Int) (sum : Int), (rowsW sums d row sum).length ≤ 3 ^ d
  | 0, row, sum => by unfold rowsW; split <;> simp
  | d + 1, row, sum => by
    rw [Nat.pow_succ, Nat.mul_comm]
    refine Nat.le_trans (flatL_len _ (3 ^ d) _ fun k _ => ?_) (by simp)
    split
    · exact rowsW_le sums d _ _
    · simp
theorem rowsP_le (sums : List Int) (d : Nat) (row : List Int) (sum : Int) {k : Nat} (hk : k ≤ 3) : (rowsP sums d row sum k).length ≤ 3 ^ (d + 1) := by
  rw [Nat.pow_succ, Nat.mul_comm]
  refine Nat.le_trans (flatL_len _ (3 ^ d) _ fun k _ => ?_) (by rw [List.length_range]; exact Nat.mul_le_mul_right _ hk)
  split
  · exact rowsW_le sums d _ _
  · simp
theorem rowsW_mem (sums : List Int) : ∀ (d : Nat) (row : List Int) (sum : Int) (r : List Int), r ∈ rowsW sums d row sum →
    r.length = row.length + d ∧ (∀ j, j < row.length → gi r j = gi row j) ∧ ∀ j, row.length ≤ j → j < row.length + d → -1 ≤ gi r j ∧ gi r j ≤ 1 ∧ 0 ≤ gi sums j + gi r j ∧ gi sums j + gi r j ≤ 1
  | 0, row, sum, r, h => by
    unfold rowsW at h
    split at h
    · simp only [List.mem_singleton] at h
      subst h
      exact ⟨rfl, fun _ _ => rfl, fun j h1 h2 => absurd h1 (by omega)⟩
    · simp at h
  | d + 1, row, sum, r, h => by
    unfold rowsW at h
    rw [List.mem_flatMap] at h
    obtain ⟨k, hk, h⟩ := h
    have hk3 : k < 3 := by simpa using hk
    split at h
    · next hok =>
      obtain ⟨h1, h2, h3⟩ := rowsW_mem sums d _ _ r h
      rw [List.length_append] at h1 h2 h3
      simp only [List.length_cons, List.length_nil] at h1 h2 h3
      have hlast : gi r row.length = (k : Int) - 1 := by
        rw [h2 row.length (by omega)]
        simp [gi, List.getD]
      refine ⟨by omega, fun j hj => ?_, fun j hj1 hj2 => ?_⟩
      · rw [h2 j (by omega)]
        simp [gi, List.getD, List.getElem?_append_left hj]
      · by_cases e : j = row.length
        · subst e
          rw [hlast]
          have := hok.2
          exact ⟨by omega, by omega, this.1, this.2⟩
        · exact h3 j (by omega) (by omega)
    · simp at h

def addL (sums row : List Int) : List Int := (List.range sums.length).map fun j => gi sums j + gi row j
theorem addL_len (sums row : List Int) : (addL sums row).length = sums.length := by simp [addL]
theorem gi_addL {sums row : List Int} {j : Nat} (h : j < sums.length) : gi (addL sums row) j = gi sums j + gi row j := gi_row h
/-- the first t sums added to -/
def addP (sums row : List Int) (t : Nat) : List Int := (List.range sums.length).map fun j => gi sums j + (if j < t then gi row j else 0)
theorem addP_len (sums row : List Int) (t : Nat) : (addP sums row t).length = sums.length := by simp [addP]
theorem gi_addP {sums row : List Int} {t j : Nat} (h : j < sums.length) : gi (addP sums row t) j = gi sums j + (if j < t then gi row j else 0) := gi_row h
theorem addP_zero (sums row : List Int) : addP sums row 0 = sums := ext_gi (addP_len _ _ _) fun j hj => by
  rw [addP_len] at hj
  rw [gi_addP hj, if_neg (by omega)]
  omega
theorem addP_end (sums row : List Int) : addP sums row sums.length = addL sums row := ext_gi (by rw [addP_len, addL_len]) fun j hj => by
  rw [addP_len] at hj
  rw [gi_addP hj, gi_addL hj, if_pos hj]
theorem addP_set {sums row : List Int} {t : Nat} (ht : t < sums.length) : (addP sums row t).set t (gi sums t + gi row t) = addP sums row (t + 1) := by
  refine ext_gi (by rw [List.length_set, addP_len, addP_len]) fun j hj => ?_
  rw [List.length_set, addP_len] at hj
  rw [gi_set (by rw [addP_len]; exact ht), gi_addP (t := t) hj, gi_addP (t := t + 1) hj]
  by_cases e : j = t
  · subst e; rw [if_pos rfl, if_pos (by omega)]
  · rw [if_neg e]
    have : (j < t + 1) = (j < t) := propext (by omega)
    simp only [this]

/-- sums of columns that are 0 or 1 -/
def bits01 (sums : List Int) : Prop := ∀ j, j < sums.length → 0 ≤ gi sums j ∧ gi sums j ≤ 1
theorem bits01.add {sums : List Int} {r : List Int} (hr : r ∈ rowsW sums sums.length [] 0) : bits01 (addL sums r) := fun j hj => by
  rw [addL_len] at hj
  obtain ⟨_, _, h3⟩ := rowsW_mem sums sums.length [] 0 r hr
  have := h3 j (by simp) (by simpa using hj)
  rw [gi_addL hj]
  exact ⟨this.2.2.1, this.2.2.2⟩
def allOne (sums : List Int) : Bool := sums.all fun x => decide (x = 1)
theorem allOne_iff {sums : List Int} : allOne sums = true ↔ ∀ j, j < sums.length → gi sums j = 1 := by
  unfold allOne
  rw [List.all_eq_true]
  constructor
  · intro h j hj
    exact of_decide_eq_true (h _ (gi_mem hj))
  · intro h x hx
    obtain ⟨i, hi, rfl⟩ := List.mem_iff_getElem.1 hx
    have := h i hi
    rw [gi_lt hi] at this
    exact decide_eq_true this
/-- the matrices that go on some rows: d rows more -/
def goW : Nat → List (List Int) → List Int → List (List (List Int))
  | 0, rows, sums => if allOne sums = true then [rows] else []
  | d + 1, rows, sums => (rowsW sums sums.length [] 0).flatMap fun row => goW d (rows ++ [row]) (addL sums row)
/-- .. up to the k-th row -/
def goP (d : Nat) (rows : List (List Int)) (sums : List Int) (k : Nat) : List (List (List Int)) := ((rowsW sums sums.length [] 0).take k).flatMap fun row => goW d (rows ++ [row]) (addL sums row)
theorem goP_zero (d : Nat) (rows : List (List Int)) (sums : List Int) : goP d rows sums 0 = [] := by simp [goP]
theorem goP_step {d : Nat} {rows : List (List Int)} {sums : List Int} {k : Nat} (h : k < (rowsW sums sums.length [] 0).length) :
    goP d rows sums (k + 1) = goP d rows sums k ++ goW d (rows ++ [gr (rowsW sums sums.length [] 0) k]) (addL sums (gr (rowsW sums sums.length [] 0) k)) := by
  unfold goP
  rw [List.take_add_one, List.flatMap_append, List.getElem?_eq_getElem h, gr_lt h]
  simp
theorem goP_end (d : Nat) (rows : List (List Int)) (sums : List Int) : goP d rows sums (rowsW sums sums.length [] 0).length = goW (d + 1) rows sums := by
  unfold goP
  rw [List.take_length]
  rfl
theorem goW_le : ∀ (d : Nat) (rows : List (List Int)) (sums : List Int), sums.length ≤ 5 → (goW d rows sums).length ≤ 243 ^ d
  | 0, rows, sums, _ => by unfold goW; split <;> simp
  | d + 1, rows, sums, h => by
    unfold goW
    rw [Nat.pow_succ, Nat.mul_comm]
    refine Nat.le_trans (flatL_len _ (243 ^ d) _ fun r _ => goW_le d _ _ (by rw [addL_len]; exact h)) (Nat.mul_le_mul_right _ ?_)
    refine Nat.le_trans (rowsW_le _ _ _ _) (Nat.le_trans (Nat.pow_le_pow_right (by omega) h) (by decide))
theorem goP_le (d : Nat) (rows : List (List Int)) (sums : List Int) (k : Nat) (h : sums.length ≤ 5) : (goP d rows sums k).length ≤ 243 ^ (d + 1) := by
  unfold goP
  rw [Nat.pow_succ, Nat.mul_comm]
  refine Nat.le_trans (flatL_len _ (243 ^ d) _ fun r _ => goW_le d _ _ (by rw [addL_len]; exact h)) (Nat.mul_le_mul_right _ ?_)
  rw [List.length_take]
  refine Nat.le_trans (Nat.min_le_right _ _) (Nat.le_trans (rowsW_le _ _ _ _) (Nat.le_trans (Nat.pow_le_pow_right (by omega) h) (by decide)))
/-- all sign matrices with n rows, in order -/
def allW (n : Nat) : List (List (List Int)) := goW n [] (List.replicate n 0)
instance (xs : List Int) : Decidable (lineOk xs) := by unfold lineOk; infer_instance
instance (m : List (List Int)) : Decidable (rowsOk m) := by unfold rowsOk; infer_instance
instance (m : List (List Int)) : Decidable (square m) := by unfold square; infer_instance
instance (m : List (List Int)) : Decidable (good m) := by unfold good; infer_instance
theorem allW_good : ∀ n, n < 5 → ∀ m, m ∈ allW n → n = 0 ∨ (m.length = n ∧ good m) := by decide +kernel
theorem allW_len : ∀ n, n < 5 → (allW n).length ≤ 42 := by decide +kernel
end Go.Proofs.YtmkldodkpijfjaaDoor

namespace Go.Proofs.YtmkldodkpijfjaaDoor
open Go.RowKit

theorem ownsRow_raise {w : World} {B B' : Nat} {e : TypeId} {v : Value} {n : Nat} {xs : List Value} (h : w.ownsRow B e 1 v n xs) (hb : ∀ g, v.ownBlock = some g → B' ≤ g) : w.ownsRow B' e 1 v n xs := by
  refine ⟨h.1, ?_⟩
  rcases h.2 with h0 | ⟨g, cap, cur, rfl, hg, r⟩
  · exact .inl h0
  · exact .inr ⟨g, cap, cur, rfl, hb g rfl, r⟩
theorem wSmall {x : Int} (h : -1000 ≤ x ∧ x ≤ 1000) : IntKind.i64.wrap x = x := by
  rw [IntKind.wrap_i64]
  omega
theorem wSmall64 {x : Int} (h : -1000 ≤ x ∧ x ≤ 1000) : wrap64 x = x := by
  unfold wrap64
  omega
theorem OwnI.none_cap {w : World} {B n c : Nat} {ao : Option Addr} {xs : List Int} (h : OwnI w B (.slice ao n c) xs) : ao = none → c = 0 := by
  intro e
  rcases h.2 with ⟨h0, _⟩ | ⟨g, cap, cur, hv, _⟩
  · simp only [Value.slice.injEq] at h0; exact h0.2.2
  · simp only [Value.slice.injEq] at hv; rw [e] at hv; simp at hv

set_option maxRecDepth 100000 in
set_option maxHeartbeats 6400000 in
theorem weRows_any (sums : List Int) (h01 : bits01 sums) (hn : sums.length ≤ 5) (a1 : Option Addr) (c1 : Nat) : ∀ (d : Nat) (row : List Int) (sum : Int) (a2 : Option Addr) (c2 B : Nat) (w : World), row.length + d = sums.length → 0 ≤ sum ∧ sum ≤ 1 → B ≤ w.heap.size → IntsAt w a1 sums → OwnI w B (.slice a2 row.length c2) row →
    Calls Tryd.prog 102 #[.slice a1 sums.length c1, .slice a2 row.length c2, .int .i64 sum] w fun e w' => ∃ v vs, e = .returned v ∧ OwnR w' B v (rowsW sums d row sum) vs ∧ (∀ g, v.ownBlock = some g → w.heap.size ≤ g) ∧ Below w.heap.size w w' := by
  intro d
  induction d with
  | zero =>
    intro row sum a2 c2 B w hd hs hB h1 h2
    have hl : ((row.length : Int) == (sums.length : Int)) = true := by simp; omega
    have hx1 : row.length ≤ 9223372036854775807 := by omega
    have hx2 : sums.length ≤ 9223372036854775807 := by omega
    have hb1 : Below w.heap.size w (w.alloc (.cells #[.slice a2 row.length c2] 22)) := (Below.refl _ _).alloc (Nat.le_refl _) _
    have hres : OwnR (w.alloc (.cells #[.slice a2 row.length c2] 22)) B (.slice (some ⟨w.heap.size, 0, none⟩) 1 1) [row] [.slice a2 row.length c2] :=
      ⟨ownsRow_built w [.slice a2 row.length c2] hB (by simp), fun i hi => by obtain rfl : i = 0 := (by simpa using hi); exact h2.below hb1⟩
    have Hres := Lib.hid hres
    have Hb := Lib.hid hb1
    obtain ⟨r, hr⟩ : ∃ r, r = row.length := ⟨_, rfl⟩
    rw [← hr] at hl hx1 Hb Hres ⊢
    clear h1 h2 hd hb1 hres hr
    by_cases e1 : sum = 1
    · have hb : (sum == 1) = true := by simpa using e1
      have HV := Lib.hid (show rowsW sums 0 row sum = [row] by unfold rowsW; rw [if_pos e1])
      clear e1
      go_enter Tryd.func102, Tryd.ntmps102
      go_wp2
      go_ret
      exact ⟨_, _, rfl, by rw [HV.out]; exact Hres.out, fun g hg => by simp [Value.ownBlock] at hg; omega, Hb.out⟩
    · have hb : (sum == 1) = false := by simpa using e1
      have HV := Lib.hid (show rowsW sums 0 row sum = [] by unfold rowsW; rw [if_neg e1])
      clear e1
      go_enter Tryd.func102, Tryd.ntmps102
      go_wp2
      go_ret
      exact ⟨_, _, rfl, by rw [HV.out]; exact OwnR.nil _ _, fun g hg => by simp [Value.ownBlock] at hg, Below.refl _ _⟩
  | succ d ih =>
    intro row sum a2 c2 B w hd hs hB h1 h2
    have hl : ((row.length : Int) == (sums.length : Int)) = false := by simp; omega
    have hx1 : row.length ≤ 9223372036854775807 := by omega
    have hx2 : sums.length ≤ 9223372036854775807 := by omega
    have hlt : row.length < sums.length := by omega
    obtain ⟨j0, hj, hy0, hy1, hy2⟩ := info_parts Tryd.info_ints
    obtain ⟨i0, hi, hz0, hz1, hz2⟩ := info_parts Tryd.info_int
    obtain ⟨b0, o0, e0, hc0⟩ := h1 row.length hlt
    subst e0
    have hs01 := h01 row.length hlt
    obtain ⟨s, hsv⟩ : ∃ s, s = gi sums row.length := ⟨_, rfl⟩
    rw [← hsv] at hc0 hs01
    have Hd := Lib.hid hd
    have H1 := Lib.hid h1
    have H2 := Lib.hid h2
    have Hih := Lib.hid ih
    have Hsv := Lib.hid hsv
    have Hok := Lib.hid (show ∀ x : Int, okX sums row sum x ↔ (0 ≤ sum + x ∧ sum + x ≤ 1) ∧ 0 ≤ s + x ∧ s + x ≤ 1 from fun x => by unfold okX; rw [← hsv])
    have HBl := Lib.hid hB
    clear h1 h2 ih hd hsv
    go_enter Tryd.func102, Tryd.ntmps102
    go_wp2
    go_loopw [7, 8] (fun out i wr => ∃ (k : Nat) (x : Int) (vs : List Value), k ≤ 3 ∧ i = .int .i64 x ∧ x = (k : Int) - 1 ∧ OwnR wr B out (rowsP sums d row sum k) vs ∧ (∀ g, out.ownBlock = some g → w.heap.size ≤ g) ∧ Below w.heap.size w wr) (fun _ i _ => (2 - intOf i).toNat)
    case atStart => exact ⟨0, -1, [], by omega, rfl, rfl, OwnR.nil _ _, fun g hg => by simp [Value.ownBlock] at hg, Below.refl _ _⟩
    case round =>
      obtain ⟨k, x, vs, hk, rfl, hxk, hown, htop, hbr⟩ := hrel
      have hc0' := cell_below hc0 hbr
      have Hown := Lib.hid hown
      have Htop := Lib.hid htop
      have Hbr := Lib.hid hbr
      have HB := Lib.hid hbr.size
      have Hxk := Lib.hid hxk
      have hxb : -1 ≤ x ∧ x ≤ 2 := by omega
      clear hown htop hbr
      by_cases hk3 : k < 3
      · have hx1' : x ≤ 1 := by omega
        have hdx : decide (x ≤ 1) = true := by simpa using hx1'
        obtain ⟨u, hu⟩ : ∃ u, u = sum + x := ⟨_, rfl⟩
        obtain ⟨v, hv⟩ : ∃ v, v = s + x := ⟨_, rfl⟩
        obtain ⟨x', hx'⟩ : ∃ x', x' = x + 1 := ⟨_, rfl⟩
        have Hx' := Lib.hid hx'
        have hw1 : wrap64 (sum + x) = u := by rw [hu]; exact wSmall64 (by omega)
        have hw2 : wrap64 (s + x) = v := by rw [hv]; exact wSmall64 (by omega)
        have hw3 : wrap64 (x + 1) = x' := by rw [hx']; exact wSmall64 (by omega)
        have Hw3 := Lib.hid hw3
        have Hokx := Lib.hid (Hok.out x)
        rw [← hu, ← hv] at Hokx
        have Hu := Lib.hid hu
        clear hxk hu hv hx' hk hxb
        by_cases h1 : 0 ≤ u ∧ u ≤ 1
        · have H1in := Lib.hid h1
          clear h1
          go_wp2_with fail
          refine (l1In_any _ _ _ wr).mono ?_
          rintro e w2 ⟨ha, rfl⟩
          obtain rfl := ha.is H1in.out
          clear ha
          by_cases h2 : 0 ≤ v ∧ v ≤ 1
          · have H2in := Lib.hid h2
            clear h2
            have HP := Lib.hid (rowsP_yes (d := d) (k := k) (by rw [← Hxk.out]; exact Hokx.out.2 ⟨H1in.out, H2in.out⟩))
            rw [← Hxk.out, ← Hu.out] at HP
            go_wp2_with fail
            refine (l1In_any _ _ _ wr).mono ?_
            rintro e w2 ⟨ha, rfl⟩
            obtain rfl := ha.is H2in.out
            clear ha
            have Hl1 := Lib.hid (l1Own_any a2 c2 row wr (by omega) H2.out.none_cap (own_at (H2.out.below Hbr.out)))
            go_wp2_with fail
            refine Hl1.out.mono ?_
            rintro e w2 ⟨f1, rfl, hf1, hb2⟩
            obtain ⟨fa, fc, hff, _, _, _⟩ := hf1.read
            obtain ⟨fl, hfl⟩ : ∃ fl, fl = row.length := ⟨_, rfl⟩
            rw [← hfl] at hff
            subst hff
            have HF1 := Lib.hid hf1
            have Hb2 := Lib.hid hb2
            have HB2 := Lib.hid hb2.size
            have Hfl := Lib.hid hfl
            have hflb : fl ≤ 6 := by omega
            clear hf1 hb2 hfl Hl1
            go_wp2_with (at_builtin; refine wpList_append_own _ rfl _ _ 22 rfl wr.heap.size 3 i0 (.int .i64 0) 1 8 Tryd.underlying22 hi hz0 hz1 hz2 rfl (by decide) _ fl _ rfl (by have := World.ownsRow.alloc HF1.out (.cells #[.int .i64 x] 3); rw [← Hfl.out] at this; exact this) ⟨w2.heap.size, 0, none⟩ 1 1 [.int .i64 x] rfl rfl ?e1 ?e2 ?e3 ?e4 ?e5 ?_)
            case e1 => exact cell_one_new _ _ _
            case e2 => intro u hu; simp at hu; subst hu; rfl
            case e3 => unfold maxLen; omega
            case e4 => omega
            case e5 => have := HB2.out; simp; omega
            intro v' w3 hown' hgrow _
            rw [Hfl.out] at hown'
            have hput := HF1.out.snoc HB2.out hown' hgrow
            obtain ⟨ga, gc, hgg, hgc, hgc2, hgr⟩ := hput.1.read
            have h13 := Hb2.out.trans hput.2
            have hlen1 : (row ++ [x]).length = row.length + 1 := by simp
            have hor : OwnI w3 B (.slice ga (row ++ [x]).length gc) (row ++ [x]) := by rw [← hgg]; exact hput.1.base (Nat.le_trans HBl.out HB.out)
            have hrec := Hih.out (row ++ [x]) u ga gc B w3 (by have := Hd.out; rw [hlen1]; omega) H1in.out (Nat.le_trans HBl.out (Nat.le_trans HB.out h13.size)) ((H1.out.below Hbr.out).below h13) hor
            rw [hlen1] at hrec hgg
            obtain ⟨fl1, hfl1⟩ : ∃ fl1, fl1 = row.length + 1 := ⟨_, rfl⟩
            rw [← hfl1] at hgg hrec
            subst hgg
            have Hrec := Lib.hid hrec
            have Hput := Lib.hid h13
            clear hown' hgrow hput hgc hgc2 hgr hor hrec hfl1 h13 hlen1 HF1 Hb2 HB2 Hfl hflb
            go_wp2_with fail
            refine Hrec.out.mono ?_
            rintro e w4 ⟨sub, us, rfl, hsub, hst, hb4⟩
            obtain ⟨M, hM⟩ : ∃ M, M = rowsW sums d (row ++ [x]) u := ⟨_, rfl⟩
            obtain ⟨P0, hP0⟩ : ∃ P0, P0 = rowsP sums d row sum k := ⟨_, rfl⟩
            have hMl : M.length ≤ 1000000 := by rw [hM]; exact Nat.le_trans (rowsW_le _ _ _ _) (Nat.le_trans (Nat.pow_le_pow_right (by omega) (show d ≤ 5 by have := Hd.out; omega)) (by decide))
            have hPl : P0.length ≤ 1000000 := by rw [hP0]; exact Nat.le_trans (rowsP_le _ _ _ _ (by omega)) (Nat.le_trans (Nat.pow_le_pow_right (by omega) (show d + 1 ≤ 5 by have := Hd.out; omega)) (by decide))
            rw [← hM] at hsub HP
            rw [← hP0] at Hown HP
            obtain ⟨sa, sc, rfl, hs1, hs2, _⟩ := hsub.read
            have hb34 := Hput.out.trans (hb4.mono Hput.out.size)
            have Hown4 := Lib.hid (Hown.out.below hb34)
            have Hb4 := Lib.hid (Hbr.out.trans (hb34.mono HB.out))
            have HB4 := Lib.hid Hb4.out.size
            have Hsub := Lib.hid hsub
            obtain ⟨oa, oc, hoo, _, _, _⟩ := ownsRow_read Hown4.out.top
            obtain ⟨Ml, hMl2⟩ : ∃ Ml, Ml = M.length := ⟨_, rfl⟩
            obtain ⟨Pl, hPl2⟩ : ∃ Pl, Pl = P0.length := ⟨_, rfl⟩
            rw [← hPl2] at hoo hPl
            rw [← hMl2] at hMl hs1
            have HMl := Lib.hid hMl2
            have HPl := Lib.hid hPl2
            clear hsub hst hb4 hM hP0 hPl2 hb34 Hrec Hput
            subst hoo
            have Htop4 := Lib.hid (ownsRow_raise Hown4.out.top Htop.out)
            cases sa with
            | none =>
              have hM0 : M = [] := by
                rcases Hsub.out.top.2 with ⟨h1, h2⟩ | ⟨g, cap, cur, h1, _⟩
                · exact List.eq_nil_of_length_eq_zero h2
                · simp at h1
              have hsc : sc = 0 := by
                rcases Hsub.out.top.2 with ⟨h1, h2⟩ | ⟨g, cap, cur, h1, _⟩
                · simp at h1; exact h1.2
                · simp at h1
              subst hM0 hsc
              obtain rfl : Ml = 0 := by rw [hMl2]; rfl
              clear hs1 hs2 hMl hMl2 HMl
              go_wp2_with (at_builtin; refine wpList_append_own_none rfl _ _ 28 rfl w.heap.size 22 j0 1 Tryd.underlying28 hj _ _ _ rfl (by have := Htop4.out; rw [← HPl.out] at this; exact this) rfl ?_)
              go_wp2
              go_roundw
              case rel => exact ⟨k + 1, x', vs, by omega, by rw [Hw3.out], by have := Hxk.out; have := Hx'.out; omega, by rw [HP.out, List.append_nil]; exact Hown4.out, Htop.out, Hb4.out⟩
              case measure => simp [intOf]; have := Hx'.out; omega
            | some ad =>
              have Hcl := Lib.hid Hsub.out.cells
              have Hus := Lib.hid Hsub.out.len
              rw [← hMl2]
              clear hMl2 hs1 hs2
              go_wp2_with (at_builtin; refine wpList_append_own _ rfl _ _ 28 rfl w.heap.size 22 j0 (.slice none 0 0) 1 24 Tryd.underlying28 hj hy0 hy1 hy2 rfl (by decide) _ Pl vs rfl (by have := Htop4.out; rw [← HPl.out] at this; exact this) ad Ml sc us rfl ?f1 ?f2 ?f3 ?f4 ?f5 ?f6 ?_)
              case f1 => rw [Hus.out, HMl.out]; omega
              case f2 => exact Hcl.out.1
              case f3 => exact Hcl.out.2
              case f4 => unfold maxLen; omega
              case f5 => omega
              case f6 => exact HB4.out
              intro v'' w5 hown5 hgrow5 _
              have hjoin := Hown4.out.join (k := M) Hus.out Hsub.out.rows (by have := ownsRow_base hown5 HBl.out; rw [HPl.out, HMl.out] at this; exact this) hgrow5
              have hb5 : Below w.heap.size w4 w5 := Below.grown (Below.refl _ _) hgrow5 HB4.out (fun k hk => Htop.out k hk)
              have htop5 : ∀ g, v''.ownBlock = some g → w.heap.size ≤ g := fun g hg => (World.ownsRow.lt hown5 g hg).1
              have Hjoin := Lib.hid hjoin
              have Hb5 := Lib.hid (Hb4.out.trans hb5)
              have Htop5 := Lib.hid htop5
              clear hown5 hgrow5 hjoin hb5 htop5
              go_wp2
              go_roundw
              case rel => exact ⟨k + 1, x', _, by omega, by rw [Hw3.out], by have := Hxk.out; have := Hx'.out; omega, by rw [HP.out]; exact Hjoin.out, Htop5.out, Hb5.out⟩
              case measure => simp [intOf]; have := Hx'.out; omega
          · have H2in := Lib.hid h2
            clear h2
            have HP := Lib.hid (rowsP_no (d := d) (k := k) (fun h => by rw [← Hxk.out] at h; exact H2in.out (Hokx.out.1 h).2))
            go_wp2_with fail
            refine (l1In_any _ _ _ wr).mono ?_
            rintro e w2 ⟨ha, rfl⟩
            obtain rfl := ha.isnt H2in.out
            clear ha
            go_wp2
            go_roundw
            case rel => exact ⟨k + 1, x', vs, by omega, by rw [Hw3.out], by have := Hxk.out; have := Hx'.out; omega, by rw [HP.out]; exact Hown.out, Htop.out, Hbr.out⟩
            case measure => simp [intOf]; have := Hx'.out; omega
        · have H1in := Lib.hid h1
          clear h1
          have HP := Lib.hid (rowsP_no (d := d) (k := k) (fun h => by rw [← Hxk.out] at h; exact H1in.out (Hokx.out.1 h).1))
          go_wp2_with fail
          refine (l1In_any _ _ _ wr).mono ?_
          rintro e w2 ⟨ha, rfl⟩
          obtain rfl := ha.isnt H1in.out
          clear ha
          go_wp2
          go_roundw
          case rel => exact ⟨k + 1, x', vs, by omega, by rw [Hw3.out], by have := Hxk.out; have := Hx'.out; omega, by rw [HP.out]; exact Hown.out, Htop.out, Hbr.out⟩
          case measure => simp [intOf]; have := Hx'.out; omega
      · obtain rfl : k = 3 := by omega
        have hx2' : x = 2 := by omega
        subst hx2'
        clear hxk Hxk
        go_wp2
        go_ret
        exact ⟨_, vs, rfl, by rw [← rowsP_end]; exact Hown.out, Htop.out, Hbr.out⟩
end Go.Proofs.YtmkldodkpijfjaaDoor

namespace Go.Proofs.YtmkldodkpijfjaaDoor
open Go.RowKit

/-- the sum of the numbers in the first a rows and b columns -/
def S2 (m : List (List Int)) (a b : Nat) : Int := sumF (fun i => sumF (fun j => gi (gr m i) j) b) a
/-- corner sums -/
def cs (m : List (List Int)) : List (List Int) := tab m.length m.length fun i j => S2 m (i + 1) (j + 1)
theorem cs_len (m : List (List Int)) : (cs m).length = m.length := tab_len _ _ _
theorem S2_succ (m : List (List Int)) (a b : Nat) : S2 m (a + 1) b = S2 m a b + sumF (fun j => gi (gr m a) j) b := rfl
theorem bsum_take {m : List (List Int)} {a b : Nat} (ha : a ≤ m.length) : bsum (m.take a) b = S2 m a b := by
  unfold bsum S2
  rw [show (m.take a).length = a from by rw [List.length_take]; omega]
  exact sumF_congr fun i hi => by rw [gr_take hi]

theorem good.tame {m : List (List Int)} (h : good m) {cols : Nat} (hc : cols ≤ m.length) : Tame m cols := by
  have hn := h.1.2.1
  have h1 := h.1.1
  refine ⟨hn, by omega, fun i hi => ?_⟩
  have hl := h.1.2.2 i hi
  refine ⟨by omega, by omega, by omega, fun j hj => good_entry h hi (by omega)⟩
theorem Tame.take {m : List (List Int)} {cols : Nat} (h : Tame m cols) (k : Nat) : Tame (m.take k) cols := by
  refine ⟨by rw [List.length_take]; have := h.1; omega, h.2.1, fun i hi => ?_⟩
  rw [List.length_take] at hi
  rw [gr_take (by omega)]
  exact h.2.2 i (by omega)
theorem Tame.drop {m : List (List Int)} {cols : Nat} (h : Tame m cols) (k : Nat) : Tame (m.drop k) cols := by
  refine ⟨by rw [List.length_drop]; have := h.1; omega, h.2.1, fun i hi => ?_⟩
  rw [List.length_drop] at hi
  rw [gr_drop]
  exact h.2.2 (k + i) (by omega)

theorem S2_bound {m : List (List Int)} (h : good m) {a b : Nat} (ha : a ≤ m.length) (hb : b ≤ m.length) : -36 ≤ S2 m a b ∧ S2 m a b ≤ 36 := block_bound (h.tame hb) ha

end Go.Proofs.YtmkldodkpijfjaaDoor

namespace Go.Proofs.YtmkldodkpijfjaaDoor
open Go.RowKit

theorem OwnP.drewN {w : World} {B n k : Nat} {v : Value} {m : List (List Int)} {vs : List Value} (h : OwnP w B v n m k vs) (q : Nat) : OwnP (w.drewN q) B v n m k vs := ⟨h.top, h.rows, h.apart⟩
theorem OwnP.drew {w : World} {B n k : Nat} {v : Value} {m : List (List Int)} {vs : List Value} (h : OwnP w B v n m k vs) : OwnP w.drew B v n m k vs := ⟨h.top, h.rows, h.apart⟩

theorem rowsum_bound {m : List (List Int)} (h : good m) {a b : Nat} (ha : a < m.length) (hb : b ≤ m.length) : -6 ≤ sumF (fun j => gi (gr m a) j) b ∧ sumF (fun j => gi (gr m a) j) b ≤ 6 :=
  row_bound (f := fun j => gi (gr m a) j) (n := m.length) h.1.2.1 (fun _ hj => good_entry h ha hj) hb

theorem cs_small {m : List (List Int)} (h : square m) : Small (cs m) := ⟨by rw [cs_len]; have := h.2.1; omega, fun i hi => by rw [cs_len] at hi; unfold cs; rw [tab_row hi]; have := h.2.1; omega⟩
end Go.Proofs.YtmkldodkpijfjaaDoor

namespace Go.Proofs.YtmkldodkpijfjaaDoor
open Go.RowKit

/-- a number of a table, 0 beside it -/
def atC (c : List (List Int)) (i j : Int) : Int := if i < 0 then 0 else if j < 0 then 0 else gi (gr c i.toNat) j.toNat
theorem atC_nat (c : List (List Int)) (i j : Nat) : atC c (i : Int) (j : Int) = gi (gr c i) j := by
  unfold atC
  rw [if_neg (by omega), if_neg (by omega), Int.toNat_natCast, Int.toNat_natCast]

theorem cellD {w : World} {a : Addr} {v : Value} (h : w.cell? a = some v) : ({ w with drawn := w.drawn + 1 } : World).cell? a = some v := h
theorem MatAt.drewD {w : World} {ao : Option Addr} {m : List (List Int)} (h : MatAt w ao m) : MatAt { w with drawn := w.drawn + 1 } ao m := h

/-- the numbers of a table are in 0..n -/
def inRange (c : List (List Int)) : Prop := ∀ i j, i < c.length → j < c.length → 0 ≤ gi (gr c i) j ∧ gi (gr c i) j ≤ c.length

/-- differences of corner sums -/
def df (c : List (List Int)) (i j : Nat) : Int := atC c i j - atC c ((i : Int) - 1) j - atC c i ((j : Int) - 1) + atC c ((i : Int) - 1) ((j : Int) - 1)
def dm (c : List (List Int)) : List (List Int) := tab c.length c.length (df c)
theorem dm_len (c : List (List Int)) : (dm c).length = c.length := tab_len _ _ _

theorem atC_range {c : List (List Int)} (h : inRange c) {i j : Int} (hi : -1 ≤ i ∧ i < c.length) (hj : -1 ≤ j ∧ j < c.length) : 0 ≤ atC c i j ∧ atC c i j ≤ c.length := by
  unfold atC
  split
  · omega
  · split
    · omega
    · exact h i.toNat j.toNat (by omega) (by omega)

theorem w64 {n : Int} (h : -9223372036854775808 ≤ n ∧ n ≤ 9223372036854775807) : IntKind.i64.wrap n = n := by
  exact IntWalk.i64_in n h

/-- .. or not far from it -/
def inWide (c : List (List Int)) : Prop := ∀ i j, i < c.length → j < c.length → -100 ≤ gi (gr c i) j ∧ gi (gr c i) j ≤ 100
theorem atC_wide {c : List (List Int)} (h : inWide c) {i j : Int} (hi : -1 ≤ i ∧ i < c.length) (hj : -1 ≤ j ∧ j < c.length) : -100 ≤ atC c i j ∧ atC c i j ≤ 100 := by
  unfold atC
  split
  · omega
  · split
    · omega
    · exact h i.toNat j.toNat (by omega) (by omega)

end Go.Proofs.YtmkldodkpijfjaaDoor

namespace Go.Proofs.YtmkldodkpijfjaaDoor
open Go.RowKit

/-- differences of corner sums, as int wraps them -/
def dfW (c : List (List Int)) (i j : Nat) : Int :=
  IntKind.i64.wrap (IntKind.i64.wrap (IntKind.i64.wrap (gi (gr c i) j - atC c ((i : Int) - 1) j) - atC c i ((j : Int) - 1)) + atC c ((i : Int) - 1) ((j : Int) - 1))
def dmW (c : List (List Int)) : List (List Int) := tab c.length c.length (dfW c)
theorem dmW_len (c : List (List Int)) : (dmW c).length = c.length := tab_len _ _ _

theorem sumF_add (f g : Nat → Int) (k : Nat) : sumF (fun i => f i + g i) k = sumF f k + sumF g k := by
  induction k with
  | zero => rfl
  | succ k ih => simp only [sumF]; omega
theorem sumF_zero (k : Nat) : sumF (fun _ => 0) k = 0 := by
  induction k with
  | zero => rfl
  | succ k ih => simp only [sumF]; omega
theorem S2_swap (m : List (List Int)) (a b : Nat) : S2 m a b = sumF (fun j => sumF (fun i => gi (gr m i) j) a) b := by
  induction a with
  | zero => show (0 : Int) = sumF (fun _ => 0) b; rw [sumF_zero]
  | succ a ih =>
    rw [S2_succ, ih, ← sumF_add]
    rfl
theorem sumK_sumF (xs : List Int) (k : Nat) : sumK xs k = sumF (fun i => gi xs i) k := by
  induction k with
  | zero => rfl
  | succ k ih => simp only [sumK, sumF]; rw [ih]
theorem S2_cols {m : List (List Int)} {a b : Nat} (ha : a ≤ m.length) (hb : b ≤ m.length) : S2 m a b = sumF (fun j => sumK (gr (tr m) j) a) b := by
  rw [S2_swap]
  refine sumF_congr fun j hj => ?_
  rw [sumK_sumF]
  exact sumF_congr fun i hi => (gi_tr (by omega) (by omega)).symm
theorem S2_range {m : List (List Int)} (h : good m) {a b : Nat} (ha : a ≤ m.length) (hb : b ≤ m.length) : 0 ≤ S2 m a b ∧ S2 m a b ≤ b := by
  rw [S2_cols ha hb]
  have : ∀ k, k ≤ b → 0 ≤ sumF (fun j => sumK (gr (tr m) j) a) k ∧ sumF (fun j => sumK (gr (tr m) j) a) k ≤ k := by
    intro k
    induction k with
    | zero => simp [sumF]
    | succ k ih =>
      intro hk
      have h1 := ih (by omega)
      have h2 := (h.2.2 k (by rw [tr_len]; omega)).1 a (by rw [tr_row (by omega)]; exact ha)
      simp only [sumF]
      omega
  exact this b (Nat.le_refl _)
theorem S2_step (m : List (List Int)) (i j : Nat) : S2 m (i + 1) (j + 1) = S2 m i (j + 1) + S2 m (i + 1) j - S2 m i j + gi (gr m i) j := by
  rw [S2_succ, S2_succ]
  simp only [sumF]
  omega
theorem S2_zero_col (m : List (List Int)) (a : Nat) : S2 m a 0 = 0 := by
  show sumF (fun _ => (0 : Int)) a = 0
  exact sumF_zero a

theorem wrap_eq (n : Int) : IntKind.i64.wrap n = (n + 9223372036854775808) % 18446744073709551616 - 9223372036854775808 := by
  rw [IntKind.wrap_i64]

theorem wrap_core {x A B C d : Int} (hx : -9223372036854775808 ≤ x ∧ x ≤ 9223372036854775807) (hA : -36 ≤ A ∧ A ≤ 36) (hB : -36 ≤ B ∧ B ≤ 36) (hC : -36 ≤ C ∧ C ≤ 36) (hd : -1 ≤ d ∧ d ≤ 1)
    (h : d = IntKind.i64.wrap (IntKind.i64.wrap (IntKind.i64.wrap (x - A) - B) + C)) : x = A + B - C + d := by
  rw [wrap_eq, wrap_eq, wrap_eq] at h
  omega

theorem dmW_sums {c : List (List Int)} (hsq : square c) (hwf : WfM c) (hg : good (dmW c)) : ∀ i, i < c.length → ∀ j, j < c.length → gi (gr c i) j = S2 (dmW c) (i + 1) (j + 1) := by
  intro i
  induction i with
  | zero =>
    intro h0 j
    induction j with
    | zero =>
      intro hj
      have hd := good_entry hg (i := 0) (j := 0) (by rw [dmW_len]; exact h0) (by rw [dmW_len]; exact hj)
      have e : gi (gr (dmW c) 0) 0 = dfW c 0 0 := gi_tab h0 hj
      have hx := hwf 0 h0 0 (by rw [hsq.2.2 0 h0]; exact hj)
      rw [S2_step, S2_zero_col, S2_zero_col]
      have := wrap_core hx (A := 0) (B := 0) (C := 0) (by omega) (by omega) (by omega) hd (by rw [e]; rfl)
      show _ = 0 + 0 - 0 + _
      omega
    | succ j ih =>
      intro hj
      have ih := ih (by omega)
      have hd := good_entry hg (i := 0) (j := j + 1) (by rw [dmW_len]; exact h0) (by rw [dmW_len]; exact hj)
      have e : gi (gr (dmW c) 0) (j + 1) = dfW c 0 (j + 1) := gi_tab h0 hj
      have hx := hwf 0 h0 (j + 1) (by rw [hsq.2.2 0 h0]; exact hj)
      have hb := S2_bound hg (a := 0 + 1) (b := j + 1) (by rw [dmW_len]; omega) (by rw [dmW_len]; omega)
      have eB : atC c ((0 : Nat) : Int) (((j + 1 : Nat) : Int) - 1) = S2 (dmW c) (0 + 1) (j + 1) := by
        rw [show (((j + 1 : Nat) : Int) - 1) = (j : Int) from by omega, atC_nat, ih]
      rw [S2_step]
      have := wrap_core hx (A := 0) (B := S2 (dmW c) (0 + 1) (j + 1)) (C := 0) (by omega) hb (by omega) hd (by rw [e, ← eB]; rfl)
      show _ = 0 + _ - 0 + _
      omega
  | succ i ihi =>
    intro hi j
    have ihi := ihi (by omega)
    induction j with
    | zero =>
      intro hj
      have hd := good_entry hg (i := i + 1) (j := 0) (by rw [dmW_len]; exact hi) (by rw [dmW_len]; exact hj)
      have e : gi (gr (dmW c) (i + 1)) 0 = dfW c (i + 1) 0 := gi_tab hi hj
      have hx := hwf (i + 1) hi 0 (by rw [hsq.2.2 (i + 1) hi]; exact hj)
      have hb := S2_bound hg (a := i + 1) (b := 0 + 1) (by rw [dmW_len]; omega) (by rw [dmW_len]; omega)
      have eA : atC c (((i + 1 : Nat) : Int) - 1) ((0 : Nat) : Int) = S2 (dmW c) (i + 1) (0 + 1) := by
        rw [show (((i + 1 : Nat) : Int) - 1) = (i : Int) from by omega, atC_nat, ihi 0 hj]
      have z1 : atC c ((i + 1 : Nat) : Int) (((0 : Nat) : Int) - 1) = 0 := by unfold atC; rw [if_neg (by omega), if_pos (by omega)]
      have z2 : atC c (((i + 1 : Nat) : Int) - 1) (((0 : Nat) : Int) - 1) = 0 := by unfold atC; rw [if_neg (by omega), if_pos (by omega)]
      rw [S2_step, S2_zero_col, S2_zero_col]
      have := wrap_core hx (A := S2 (dmW c) (i + 1) (0 + 1)) (B := 0) (C := 0) hb (by omega) (by omega) hd (by rw [e]; unfold dfW; rw [eA, z1, z2])
      omega
    | succ j ihj =>
      intro hj
      have ihj := ihj (by omega)
      have hd := good_entry hg (i := i + 1) (j := j + 1) (by rw [dmW_len]; exact hi) (by rw [dmW_len]; exact hj)
      have e : gi (gr (dmW c) (i + 1)) (j + 1) = dfW c (i + 1) (j + 1) := gi_tab hi hj
      have hx := hwf (i + 1) hi (j + 1) (by rw [hsq.2.2 (i + 1) hi]; exact hj)
      have b1 := S2_bound hg (a := i + 1) (b := j + 1 + 1) (by rw [dmW_len]; omega) (by rw [dmW_len]; omega)
      have b2 := S2_bound hg (a := i + 1 + 1) (b := j + 1) (by rw [dmW_len]; omega) (by rw [dmW_len]; omega)
      have b3 := S2_bound hg (a := i + 1) (b := j + 1) (by rw [dmW_len]; omega) (by rw [dmW_len]; omega)
      have eA : atC c (((i + 1 : Nat) : Int) - 1) ((j + 1 : Nat) : Int) = S2 (dmW c) (i + 1) (j + 1 + 1) := by
        rw [show (((i + 1 : Nat) : Int) - 1) = (i : Int) from by omega, atC_nat, ihi (j + 1) hj]
      have eB : atC c ((i + 1 : Nat) : Int) (((j + 1 : Nat) : Int) - 1) = S2 (dmW c) (i + 1 + 1) (j + 1) := by
        rw [show (((j + 1 : Nat) : Int) - 1) = (j : Int) from by omega, atC_nat, ihj]
      have eC : atC c (((i + 1 : Nat) : Int) - 1) (((j + 1 : Nat) : Int) - 1) = S2 (dmW c) (i + 1) (j + 1) := by
        rw [show (((i + 1 : Nat) : Int) - 1) = (i : Int) from by omega, show (((j + 1 : Nat) : Int) - 1) = (j : Int) from by omega, atC_nat, ihi j (by omega)]
      rw [S2_step]
      have := wrap_core hx b1 b2 b3 hd (by rw [e]; unfold dfW; rw [eA, eB, eC])
      omega

theorem dmW_dm {c : List (List Int)} (hsq : square c) (h : inRange c) : dmW c = dm c := by
  have hn := hsq.2.1
  refine eq_tab (dmW_len c) (fun i hi => tab_row hi) fun i j hi hj => ?_
  rw [show gi (gr (dmW c) i) j = dfW c i j from gi_tab hi hj]
  have h1 := atC_range h (i := i) (j := j) (by omega) (by omega)
  have h2 := atC_range h (i := (i : Int) - 1) (j := j) (by omega) (by omega)
  have h3 := atC_range h (i := i) (j := (j : Int) - 1) (by omega) (by omega)
  have h4 := atC_range h (i := (i : Int) - 1) (j := (j : Int) - 1) (by omega) (by omega)
  unfold dfW df
  rw [← atC_nat]
  rw [w64 (n := atC c i j - atC c ((i : Int) - 1) j) (by omega), w64 (n := atC c i j - atC c ((i : Int) - 1) j - atC c i ((j : Int) - 1)) (by omega), w64 (by omega)]

/-- corner sums of a sign matrix -/
def isCorners (c : List (List Int)) : Prop := square c ∧ inRange c ∧ good (dm c)
theorem corners_iff {c : List (List Int)} (hwf : WfM c) : square c ∧ good (dmW c) ↔ isCorners c := by
  constructor
  · rintro ⟨hsq, hg⟩
    have hr : inRange c := by
      intro i j hi hj
      rw [dmW_sums hsq hwf hg i hi j hj]
      have := S2_range hg (a := i + 1) (b := j + 1) (by rw [dmW_len]; omega) (by rw [dmW_len]; omega)
      omega
    exact ⟨hsq, hr, by rw [← dmW_dm hsq hr]; exact hg⟩
  · rintro ⟨hsq, hr, hg⟩
    exact ⟨hsq, by rw [dmW_dm hsq hr]; exact hg⟩

theorem wf_dmW {c : List (List Int)} : WfM (dmW c) := by
  intro i hi j hj
  rw [dmW_len] at hi
  have hj' : j < c.length := by have := tab_row (n := c.length) (c := c.length) (f := dfW c) hi; unfold dmW at hj; omega
  rw [show gi (gr (dmW c) i) j = dfW c i j from gi_tab hi hj']
  unfold dfW
  rw [wrap_eq (_ + _)]
  omega
theorem square_dmW {c : List (List Int)} (h : square c) : square (dmW c) := ⟨by rw [dmW_len]; exact h.1, by rw [dmW_len]; exact h.2.1, fun i hi => by rw [dmW_len] at hi ⊢; exact tab_row hi⟩

/-- all numbers lie between two bounds -/
def allIn (xs : List Int) (lo hi : Int) : Prop := ∀ i, i < xs.length → lo ≤ gi xs i ∧ gi xs i ≤ hi

set_option maxRecDepth 100000 in
set_option maxHeartbeats 800000 in
theorem l1All_any (ao : Option Addr) (c : Nat) (xs : List Int) (lo hi : Int) (w : World) (hn : xs.length ≤ 1048576) (hx : IntsAt w ao xs) :
    Calls Tryd.prog 101 #[.slice ao xs.length c, .int .i64 lo, .int .i64 hi] w fun e w' => Ans (allIn xs lo hi) e ∧ w = w' := by
  have hmx : xs.length ≤ 9223372036854775807 := by omega
  have Hx := Lib.hid hx
  clear hx
  go_enter Tryd.func101, Tryd.ntmps101
  go_wp2
  go_loop [11] (fun i => ∃ k : Nat, k ≤ xs.length ∧ i = .int .i64 k ∧ ∀ j, j < k → lo ≤ gi xs j ∧ gi xs j ≤ hi) (fun i => xs.length - (intOf i).toNat)
  case atStart => exact ⟨0, Nat.zero_le _, rfl, fun j hj => absurd hj (by omega)⟩
  case round =>
    obtain ⟨k, hk, rfl, hd⟩ := hrel
    have Hd := Lib.hid hd
    clear hd
    by_cases hlt : k < xs.length
    · obtain ⟨b1, o1, rfl, hc1⟩ := Hx.out k hlt
      go_wp2_with fail
      refine (l1In_any _ _ _ w).mono ?_
      rintro e w2 ⟨ha, rfl⟩
      by_cases hin : lo ≤ gi xs k ∧ gi xs k ≤ hi
      · have Hin := Lib.hid hin
        clear hin
        obtain rfl := ha.is Hin.out
        clear ha
        go_wp2
        go_round
        case rel =>
          refine ⟨k + 1, by omega, by go_num, fun j hj => ?_⟩
          by_cases e : j = k
          · subst e; exact Hin.out
          · exact Hd.out j (by omega)
        case measure => simp [intOf]; omega
      · have Hin := Lib.hid hin
        clear hin
        obtain rfl := ha.isnt Hin.out
        clear ha
        go_wp2
        go_ret
        exact ⟨Ans.no fun h => Hin.out (h k hlt), rfl⟩
    · obtain rfl : k = xs.length := by omega
      go_wp2
      go_ret
      exact ⟨Ans.yes Hd.out, rfl⟩

theorem dm_small {m : List (List Int)} (h : square m) : Small (dm m) := ⟨by rw [dm_len]; have := h.2.1; omega, fun i hi => by rw [dm_len] at hi; unfold dm; rw [tab_row hi]; have := h.2.1; omega⟩
end Go.Proofs.YtmkldodkpijfjaaDoor

