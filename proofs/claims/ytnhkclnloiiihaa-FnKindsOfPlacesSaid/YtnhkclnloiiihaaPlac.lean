/- Contracts: the sign matrix of a placing, by the model and by the program. -/
import Derived.Test.YtnhkclnloiiihaaDiff
namespace Go.Proofs.Ytnhkclnloiiihaa
open Go.RowKit

/-- the table with 1 in row i at column p[i] -/
def pm (p : List Int) : List (List Int) := tab p.length p.length fun i j => if gi p i = j then 1 else 0
theorem pm_len (p : List Int) : (pm p).length = p.length := tab_len _ _ _
theorem gi_pm {p : List Int} {i j : Nat} (hi : i < p.length) (hj : j < p.length) : gi (gr (pm p) i) j = if gi p i = j then 1 else 0 := gi_tab hi hj
def isPerm (p : List Int) : Prop := 1 ≤ p.length ∧ p.length ≤ 6 ∧ allIn p 0 (p.length - 1) ∧ ∀ i j, i < j → j < p.length → gi p i ≠ gi p j

theorem pm_square {p : List Int} (h1 : 1 ≤ p.length) (h2 : p.length ≤ 6) : square (pm p) := ⟨by rw [pm_len]; exact h1, by rw [pm_len]; exact h2, fun i hi => by rw [pm_len] at hi ⊢; exact tab_row hi⟩

theorem one_sum {x : Int} {f : Nat → Int} (hf : ∀ j, f j = if x = j then 1 else 0) (k : Nat) : sumF f k = if 0 ≤ x ∧ x < k then 1 else 0 := by
  induction k with
  | zero => rw [if_neg (by omega)]; rfl
  | succ k ih =>
    simp only [sumF]
    rw [ih, hf k]
    by_cases h1 : x = k
    · rw [if_neg (by omega), if_pos h1, if_pos (by omega)]; rfl
    · rw [if_neg h1]
      by_cases h2 : 0 ≤ x ∧ x < k
      · rw [if_pos h2, if_pos (by omega)]; rfl
      · rw [if_neg h2, if_neg (by omega)]; rfl

theorem pm_rowsum {p : List Int} {i k : Nat} (hi : i < p.length) (hk : k ≤ p.length) : sumK (gr (pm p) i) k = if 0 ≤ gi p i ∧ gi p i < k then 1 else 0 := by
  rw [sumK_sumF, sumF_congr (g := fun j => if gi p i = j then 1 else 0) (fun j hj => gi_pm hi (by omega))]
  exact one_sum (fun _ => rfl) k

theorem pm_colsum {p : List Int} {j k : Nat} (hj : j < p.length) (hk : k ≤ p.length) (hd : ∀ i i', i < i' → i' < p.length → gi p i ≠ gi p i') :
    0 ≤ sumK (gr (tr (pm p)) j) k ∧ sumK (gr (tr (pm p)) j) k ≤ 1 ∧ (1 ≤ sumK (gr (tr (pm p)) j) k → ∃ i, i < k ∧ gi p i = j) := by
  induction k with
  | zero => simp [sumK]
  | succ k ih =>
    obtain ⟨h1, h2, h3⟩ := ih (by omega)
    have e : gi (gr (tr (pm p)) j) k = if gi p k = j then 1 else 0 := by rw [gi_tr (by rw [pm_len]; exact hj) (by rw [pm_len]; omega), gi_pm (by omega) hj]
    simp only [sumK]
    rw [e]
    by_cases hp : gi p k = j
    · rw [if_pos hp]
      have : ¬ 1 ≤ sumK (gr (tr (pm p)) j) k := fun h => by
        obtain ⟨i, hi, hij⟩ := h3 h
        exact hd i k hi (by omega) (hij.trans hp.symm)
      exact ⟨by omega, by omega, fun _ => ⟨k, by omega, hp⟩⟩
    · rw [if_neg hp]
      refine ⟨by omega, by omega, fun h => ?_⟩
      obtain ⟨i, hi, hij⟩ := h3 (by omega)
      exact ⟨i, by omega, hij⟩

theorem all_one {f : Nat → Int} : ∀ {k : Nat}, (∀ i, i < k → f i ≤ 1) → sumF f k = k → ∀ i, i < k → f i = 1
  | 0, _, _ => fun i hi => absurd hi (by omega)
  | k + 1, h, he => by
    have h0 : sumF f k ≤ k := by
      have : ∀ t, t ≤ k → sumF f t ≤ t := by
        intro t
        induction t with
        | zero => simp [sumF]
        | succ t ih => intro ht; have := ih (by omega); have := h t (by omega); simp only [sumF]; omega
      exact this k (Nat.le_refl _)
    have h1 := h k (by omega)
    simp only [sumF] at he
    intro i hi
    by_cases e : i = k
    · subst e; omega
    · exact all_one (k := k) (fun i hi => h i (by omega)) (by omega) i (by omega)

theorem pm_good {p : List Int} (h : isPerm p) : good (pm p) := by
  obtain ⟨h1, h2, h3, h4⟩ := h
  have hrow : rowsOk (pm p) := by
    intro i hi
    rw [pm_len] at hi
    have hl : (gr (pm p) i).length = p.length := tab_row hi
    refine ⟨fun k hk => ?_, ?_⟩
    · rw [hl] at hk
      rw [pm_rowsum hi hk]
      split <;> omega
    · rw [hl, pm_rowsum hi (Nat.le_refl _), if_pos]
      have := h3 i hi
      omega
  have hcol : ∀ j, j < p.length → sumK (gr (tr (pm p)) j) p.length = 1 := by
    refine all_one (f := fun j => sumK (gr (tr (pm p)) j) p.length) (fun j hj => (pm_colsum hj (Nat.le_refl _) h4).2.1) ?_
    have e1 := S2_cols (m := pm p) (a := p.length) (b := p.length) (by rw [pm_len]; exact Nat.le_refl _) (by rw [pm_len]; exact Nat.le_refl _)
    rw [← e1]
    show sumF (fun i => sumF (fun j => gi (gr (pm p) i) j) p.length) p.length = p.length
    rw [sumF_congr (g := fun _ => 1) (fun i hi => by
      have := (hrow i (by rw [pm_len]; exact hi)).2
      rw [show (gr (pm p) i).length = p.length from tab_row hi, sumK_sumF] at this
      exact this)]
    have : ∀ k : Nat, sumF (fun _ => (1 : Int)) k = k := by
      intro k
      induction k with
      | zero => rfl
      | succ k ih => simp only [sumF]; omega
    exact this _
  refine ⟨pm_square h1 h2, hrow, fun j hj => ?_⟩
  rw [tr_len, pm_len] at hj
  have hl : (gr (tr (pm p)) j).length = p.length := by rw [tr_row (by rw [pm_len]; exact hj), pm_len]
  refine ⟨fun k hk => ?_, by rw [hl]; exact hcol j hj⟩
  rw [hl] at hk
  have := pm_colsum hj hk h4
  omega

theorem perm_of_good {p : List Int} (hin : allIn p 0 (p.length - 1)) (hg : good (pm p)) : isPerm p := by
  have h1 := hg.1.1
  have h2 := hg.1.2.1
  rw [pm_len] at h1 h2
  refine ⟨h1, h2, hin, fun i i' hii hi' he => ?_⟩
  have hp := hin i' hi'
  obtain ⟨j, hj⟩ := Int.eq_ofNat_of_zero_le hp.1
  have hjl : j < p.length := by omega
  have hc := hg.2.2 j (by rw [tr_len, pm_len]; exact hjl)
  have hl : (gr (tr (pm p)) j).length = p.length := by rw [tr_row (by rw [pm_len]; exact hjl), pm_len]
  have g1 : gi (gr (tr (pm p)) j) i = 1 := by rw [gi_tr (by rw [pm_len]; exact hjl) (by rw [pm_len]; omega), gi_pm (by omega) hjl, if_pos (by rw [he]; exact hj)]
  have g2 : gi (gr (tr (pm p)) j) i' = 1 := by rw [gi_tr (by rw [pm_len]; exact hjl) (by rw [pm_len]; omega), gi_pm (by omega) hjl, if_pos hj]
  have pos : ∀ k, k < p.length → 0 ≤ gi (gr (tr (pm p)) j) k := fun k hk => by
    rw [gi_tr (by rw [pm_len]; exact hjl) (by rw [pm_len]; omega), gi_pm hk hjl]
    split <;> omega
  have mono : ∀ a b, a ≤ b → b ≤ p.length → sumK (gr (tr (pm p)) j) a ≤ sumK (gr (tr (pm p)) j) b := by
    intro a b hab
    induction b with
    | zero => intro _; obtain rfl : a = 0 := by omega
              exact Int.le_refl _
    | succ b ih =>
      intro hb
      by_cases e : a = b + 1
      · subst e; exact Int.le_refl _
      · have := ih (by omega) (by omega)
        have := pos b (by omega)
        simp only [sumK]
        omega
  have a1 := (hc.1 i (by omega)).1
  have a2 := (hc.1 (i' + 1) (by omega)).2
  have a3 := mono (i + 1) i' (by omega) (by omega)
  simp only [sumK] at a2 a3
  omega

/-- the numbers are told apart as far as k -/
def has (xs : List Int) (x : Int) : Prop := ∃ j, j < xs.length ∧ gi xs j = x

set_option maxRecDepth 100000 in
set_option maxHeartbeats 800000 in
theorem l1Has_any (ao : Option Addr) (c : Nat) (xs : List Int) (x : Int) (w : World) (hn : xs.length ≤ 1048576) (hx : IntsAt w ao xs) :
    Calls Try.prog 137 #[.slice ao xs.length c, .int .i64 x] w fun e w' => Ans (has xs x) e ∧ w = w' := by
  have hmx : xs.length ≤ 9223372036854775807 := by omega
  have Hx := Lib.hid hx
  clear hx
  go_enter Try.func137, Try.ntmps137
  go_wp2
  go_loop [9] (fun i => ∃ k : Nat, k ≤ xs.length ∧ i = .int .i64 k ∧ ∀ j, j < k → gi xs j ≠ x) (fun i => xs.length - (intOf i).toNat)
  case atStart => exact ⟨0, Nat.zero_le _, rfl, fun j hj => absurd hj (by omega)⟩
  case round =>
    obtain ⟨k, hk, rfl, hd⟩ := hrel
    have Hd := Lib.hid hd
    clear hd
    by_cases hlt : k < xs.length
    · obtain ⟨b1, o1, rfl, hc1⟩ := Hx.out k hlt
      by_cases he : gi xs k = x
      · have hb : (gi xs k == x) = true := by simp [he]
        have He := Lib.hid he
        clear he
        go_wp2
        go_ret
        exact ⟨Ans.yes ⟨k, hlt, He.out⟩, rfl⟩
      · have hb : (gi xs k == x) = false := by simp [he]
        have He := Lib.hid he
        clear he
        go_wp2
        go_round
        case rel =>
          refine ⟨k + 1, by omega, by go_num, fun j hj => ?_⟩
          by_cases e : j = k
          · subst e; exact He.out
          · exact Hd.out j (by omega)
        case measure => simp [intOf]; omega
    · obtain rfl : k = xs.length := by omega
      go_wp2
      go_ret
      exact ⟨Ans.no fun ⟨j, hj, e⟩ => Hd.out j hj e, rfl⟩

set_option maxRecDepth 100000 in
set_option maxHeartbeats 1600000 in
theorem implFromPlacing_any (ao : Option Addr) (c : Nat) (p : List Int) (w : World) (hn : p.length ≤ 1048576) (_hwf : WfI p) (hx : IntsAt w ao p) :
    Calls Try.prog 46 #[.slice ao p.length c] w fun e w' => MRes (isPerm p) (pm p) w' w.heap.size e ∧ Below w.heap.size w w' := by
  have hmx : p.length ≤ 9223372036854775807 := by omega
  have Hx := Lib.hid hx
  clear hx
  by_cases h6 : p.length ≤ 6
  · have hd6 : decide ((6 : Int) < (p.length : Int)) = false := by simp; omega
    go_enter Try.func46, Try.ntmps46
    go_wp2_with fail
    refine (newGrid_any p.length w (by omega)).mono ?_
    rintro e w1 ⟨vs, rfl, hv, hb⟩
    have Hv := Lib.hid hv
    have Hb := Lib.hid hb
    clear hv hb
    go_wp2
    go_loopw [16] (fun i wr => ∃ (k : Nat) (f : Nat → Nat → Int), k ≤ p.length ∧ i = .int .i64 k ∧ OwnP wr w.heap.size (.slice (some ⟨w.heap.size, 0, none⟩) p.length p.length) p.length (tab p.length p.length f) p.length vs ∧
        (∀ a, a < k → 0 ≤ gi p a ∧ gi p a < p.length) ∧ (∀ a b, a < p.length → b < p.length → f a b = if a < k ∧ gi p a = b then 1 else 0) ∧ Below w.heap.size w wr) (fun i _ => p.length - (intOf i).toNat)
    case atStart => exact ⟨0, _, Nat.zero_le _, rfl, Hv.out, fun a ha => absurd ha (by omega), fun a b _ _ => by rw [if_neg (fun h => by omega)], Hb.out⟩
    case round =>
      obtain ⟨k, f, hk, rfl, hown, hin, heq, hbr⟩ := hrel
      clear Hv Hb
      have Hin := Lib.hid hin
      have Heq := Lib.hid heq
      clear hin heq
      by_cases hlt : k < p.length
      · obtain ⟨b2, o2, e2, hc2⟩ := Hx.out.below hbr k hlt
        by_cases h0 : gi p k < 0
        · have Hbr := Lib.hid hbr
          subst e2
          clear hown hbr
          go_wp2
          go_ret2
          refine ⟨MRes.no fun h => ?_, Hbr.out⟩
          have := h.2.2.1 k hlt
          omega
        · by_cases hge : (p.length : Int) ≤ gi p k
          · have hd : decide ((p.length : Int) ≤ gi p k) = true := by simpa using hge
            have Hbr := Lib.hid hbr
            subst e2
            clear hown hbr
            go_wp2
            go_ret2
            refine ⟨MRes.no fun h => ?_, Hbr.out⟩
            have := h.2.2.1 k hlt
            omega
          · obtain ⟨j, hj⟩ := Int.eq_ofNat_of_zero_le (show 0 ≤ gi p k by omega)
            have hjl : j < p.length := by omega
            rw [hj] at hc2
            have hd0 : decide ((p.length : Int) ≤ (j : Int)) = false := by simp; omega
            have hd := hown.cellAt k hlt
            obtain ⟨g, cap, hvs, hd2, hf2, hg, hst⟩ := hown.at2 hlt hjl
            rw [hvs] at hd
            have Hst := Lib.hid (hst 1)
            have Hbs := Lib.hid (hbr.setCell (p := ⟨g, j, none⟩) hg (.int .i64 1))
            have Hj := Lib.hid hj
            subst e2
            clear hown hvs hst hg hbr h0 hge hj
            go_wp2
            go_roundw
            case rel =>
              refine ⟨k + 1, _, by omega, by go_num, Hst.out, fun a ha => ?_, fun a b ha hb => ?_, Hbs.out⟩
              · by_cases e : a = k
                · subst e; rw [Hj.out]; omega
                · exact Hin.out a (by omega)
              · by_cases e : a = k
                · subst e
                  by_cases e3 : b = j
                  · subst e3; rw [if_pos ⟨rfl, rfl⟩, if_pos ⟨by omega, Hj.out⟩]
                  · rw [if_neg (fun h => e3 h.2), Heq.out a b ha hb, if_neg (fun h => by omega), if_neg (fun h => by have := h.2; rw [Hj.out] at this; omega)]
                · rw [if_neg (fun h => e h.1), Heq.out a b ha hb]
                  by_cases e3 : a < k ∧ gi p a = b
                  · rw [if_pos e3, if_pos ⟨by omega, e3.2⟩]
                  · rw [if_neg e3, if_neg (fun h => e3 ⟨by omega, h.2⟩)]
            case measure => simp [intOf]; omega
      · obtain rfl : k = p.length := by omega
        have e : tab p.length p.length f = pm p := by
          refine (eq_tab (tab_len _ _ _) (fun i hi => tab_row hi) fun i j hi hj => ?_)
          rw [gi_tab hi hj, Heq.out i j hi hj]
          by_cases e3 : gi p i = j
          · rw [if_pos e3, if_pos ⟨hi, e3⟩]
          · rw [if_neg e3, if_neg (fun h => e3 h.2)]
        rw [e] at hown
        have hin : allIn p 0 (p.length - 1) := fun i hi => by have := Hin.out i hi; omega
        have hsmall : Small (pm p) := ⟨by rw [pm_len]; omega, fun i hi => by rw [pm_len] at hi; unfold pm; rw [tab_row hi]; omega⟩
        have hwf2 : WfM (pm p) := fun i hi j hj => by
          rw [pm_len] at hi
          have hj' : j < p.length := by unfold pm at hj; rw [tab_row hi] at hj; exact hj
          rw [gi_pm hi hj']
          split <;> omega
        have Hown := Lib.hid hown
        have Hsm := Lib.hid hsmall
        have Hwf2 := Lib.hid hwf2
        have Hin2 := Lib.hid hin
        have Hbr := Lib.hid hbr
        have hB := hbr.size
        have hm := hown.at (pm_len p)
        have hif := ifSigns_any (some ⟨w.heap.size, 0, none⟩) p.length (pm p) wr hsmall hwf2 hm
        rw [pm_len] at hif
        have Hif := Lib.hid hif
        clear hown hsmall hwf2 hin hbr hm e hif
        go_wp2_with fail
        refine Hif.out.mono ?_
        rintro e w2 ⟨b, rfl, hg, hb2⟩
        have Hg := Lib.hid hg
        have Hb2 := Lib.hid (Hbr.out.trans (hb2.mono hB))
        have Hown2 := Lib.hid (Hown.out.below hb2)
        clear hg hb2
        cases b
        · go_wp2
          go_ret2
          refine ⟨MRes.no fun h => ?_, Hb2.out⟩
          have := Hg.out.2 (pm_good h)
          cases this
        · have hgood : good (pm p) := Hg.out.1 rfl
          have hperm := perm_of_good Hin2.out hgood
          have hfin : OwnM w2 w.heap.size (.slice (some ⟨w.heap.size, 0, none⟩) p.length p.length) (pm p) := ⟨vs, by rw [pm_len]; exact Hown2.out⟩
          have Hfin := Lib.hid hfin
          have Hperm := Lib.hid hperm
          clear hgood hperm hfin
          go_wp2
          go_ret2
          exact ⟨MRes.yes Hperm.out Hfin.out, Hb2.out⟩
  · have hd6 : decide ((6 : Int) < (p.length : Int)) = true := by simp; omega
    go_enter Try.func46, Try.ntmps46
    go_wp2
    go_ret2
    exact ⟨MRes.no fun h => h6 h.2.1, Below.refl _ _⟩

set_option maxRecDepth 100000 in
set_option maxHeartbeats 1600000 in
theorem specFromPlacing_any (ao : Option Addr) (c : Nat) (p : List Int) (w : World) (hn : p.length ≤ 1048576) (hx : IntsAt w ao p) (hcap : p.length ≤ c) :
    Calls Try.prog 47 #[.slice ao p.length c] w fun e w' => MRes (isPerm p) (pm p) w' w.heap.size e ∧ Below w.heap.size w w' := by
  have hmx : p.length ≤ 9223372036854775807 := by omega
  have Hx := Lib.hid hx
  clear hx
  by_cases h6 : 1 ≤ p.length ∧ p.length ≤ 6
  · obtain ⟨h1, h6⟩ := h6
    by_cases hin : allIn p 0 (p.length - 1)
    · have Hin := Lib.hid hin
      clear hin
      go_enter Try.func47, Try.ntmps47
      go_wp2_with fail
      refine (l1In_any _ _ _ w).mono ?_
      rintro e w2 ⟨ha, rfl⟩
      obtain rfl := ha.is ⟨by omega, by omega⟩
      clear ha
      go_wp2_with fail
      refine (l1All_any ao c p 0 (p.length - 1) w hn Hx.out).mono ?_
      rintro e w2 ⟨ha, rfl⟩
      obtain rfl := ha.is Hin.out
      clear ha
      go_wp2_with fail
      refine (sgZero_any p.length w (by omega)).mono ?_
      rintro e w1 ⟨v, rfl, hv, hb⟩
      obtain ⟨oa, oc, vs, rfl, hp, _, _⟩ := hv.open
      rw [tab_len] at hp ⊢
      obtain ⟨og, rfl, _⟩ : ∃ g, oa = some ⟨g, 0, none⟩ ∧ w.heap.size ≤ g := by
        rcases hp.top.2 with ⟨h0, h1'⟩ | ⟨g, cap, cur, hv2, hg2, _⟩
        · exact absurd h1' (by omega)
        · simp only [Value.slice.injEq] at hv2
          exact ⟨g, hv2.1, hg2⟩
      have Hv := Lib.hid hp
      have Hb := Lib.hid hb
      clear hv hp hb
      go_wp2
      go_loopw [24] (fun i wr => ∃ (k : Nat) (f : Nat → Nat → Int), k ≤ p.length ∧ i = .int .i64 k ∧ OwnP wr w.heap.size (.slice (some ⟨og, 0, none⟩) p.length oc) p.length (tab p.length p.length f) p.length vs ∧
          (∀ a b, a < b → b < k → gi p a ≠ gi p b) ∧ (∀ a b, a < p.length → b < p.length → f a b = if a < k ∧ gi p a = b then 1 else 0) ∧ Below w.heap.size w wr) (fun i _ => p.length - (intOf i).toNat)
      case atStart => exact ⟨0, _, Nat.zero_le _, rfl, Hv.out, fun a b _ hb => absurd hb (by omega), fun a b _ _ => by rw [if_neg (fun h => by omega)], Hb.out⟩
      case round =>
        obtain ⟨k, f, hk, rfl, hown, hdis, heq, hbr⟩ := hrel
        clear Hv Hb
        have Hdis := Lib.hid hdis
        have Heq := Lib.hid heq
        clear hdis heq
        by_cases hlt : k < p.length
        · obtain ⟨b2, o2, e2, hc2⟩ := Hx.out.below hbr k hlt
          have htk : (p.take k).length = k := by rw [List.length_take]; omega
          have hh := l1Has_any ao c (p.take k) (gi p k) wr (by omega) ((Hx.out.below hbr).take k)
          rw [htk] at hh
          have hr := Hin.out k hlt
          obtain ⟨j, hj⟩ := Int.eq_ofNat_of_zero_le hr.1
          rw [hj] at hh
          have HH := Lib.hid hh
          have Htk := Lib.hid htk
          have hjl : j < p.length := by omega
          have hd := hown.cellAt k hlt
          obtain ⟨g, cap, hvs, hd2, hf2, hg, hst⟩ := hown.at2 hlt hjl
          rw [hvs] at hd
          have Hst := Lib.hid (hst 1)
          have Hbs := Lib.hid (hbr.setCell (p := ⟨g, j, none⟩) hg (.int .i64 1))
          have Hj := Lib.hid hj
          have Hbr := Lib.hid hbr
          rw [hj] at hc2
          subst e2
          clear hown hvs hst hg hbr hr hj hh htk
          go_wp2_with fail
          refine HH.out.mono ?_
          rintro e w2 ⟨ha, rfl⟩
          by_cases hhas : has (p.take k) (j : Int)
          · have Hhas := Lib.hid hhas
            clear hhas
            obtain rfl := ha.is Hhas.out
            clear ha
            go_wp2
            go_ret2
            refine ⟨MRes.no fun h => ?_, Hbr.out⟩
            obtain ⟨a, ha1, ha2⟩ := Hhas.out
            rw [Htk.out] at ha1
            rw [gi_take ha1] at ha2
            exact h.2.2.2 a k ha1 hlt (ha2.trans Hj.out.symm)
          · have Hhas := Lib.hid hhas
            clear hhas
            obtain rfl := ha.isnt Hhas.out
            clear ha
            go_wp2
            go_roundw
            case rel =>
              refine ⟨k + 1, _, by omega, by go_num, Hst.out, fun a b hab hb => ?_, fun a b ha hb => ?_, Hbs.out⟩
              · by_cases e : b = k
                · subst e
                  exact fun h => Hhas.out ⟨a, by rw [Htk.out]; exact hab, by rw [gi_take hab]; exact h.trans Hj.out⟩
                · exact Hdis.out a b hab (by omega)
              · by_cases e : a = k
                · subst e
                  by_cases e3 : b = j
                  · subst e3; rw [if_pos ⟨rfl, rfl⟩, if_pos ⟨by omega, Hj.out⟩]
                  · rw [if_neg (fun h => e3 h.2), Heq.out a b ha hb, if_neg (fun h => by omega), if_neg (fun h => by have := h.2; rw [Hj.out] at this; omega)]
                · rw [if_neg (fun h => e h.1), Heq.out a b ha hb]
                  by_cases e3 : a < k ∧ gi p a = b
                  · rw [if_pos e3, if_pos ⟨by omega, e3.2⟩]
                  · rw [if_neg e3, if_neg (fun h => e3 ⟨by omega, h.2⟩)]
            case measure => simp [intOf]; omega
        · obtain rfl : k = p.length := by omega
          have e : tab p.length p.length f = pm p := by
            refine (eq_tab (tab_len _ _ _) (fun i hi => tab_row hi) fun i j hi hj => ?_)
            rw [gi_tab hi hj, Heq.out i j hi hj]
            by_cases e3 : gi p i = j
            · rw [if_pos e3, if_pos ⟨hi, e3⟩]
            · rw [if_neg e3, if_neg (fun h => e3 h.2)]
          rw [e] at hown
          have hfin : OwnM wr w.heap.size (.slice (some ⟨og, 0, none⟩) p.length oc) (pm p) := ⟨vs, by rw [pm_len]; exact hown⟩
          have hperm : isPerm p := ⟨h1, h6, Hin.out, Hdis.out⟩
          have Hfin := Lib.hid hfin
          have Hperm := Lib.hid hperm
          have Hbr := Lib.hid hbr
          clear hown e hfin hperm hbr
          go_wp2
          go_ret2
          exact ⟨MRes.yes Hperm.out Hfin.out, Hbr.out⟩
    · have Hin := Lib.hid hin
      clear hin
      go_enter Try.func47, Try.ntmps47
      go_wp2_with fail
      refine (l1In_any _ _ _ w).mono ?_
      rintro e w2 ⟨ha, rfl⟩
      obtain rfl := ha.is ⟨by omega, by omega⟩
      clear ha
      go_wp2_with fail
      refine (l1All_any ao c p 0 (p.length - 1) w hn Hx.out).mono ?_
      rintro e w2 ⟨ha, rfl⟩
      obtain rfl := ha.isnt Hin.out
      clear ha
      go_wp2
      go_ret2
      exact ⟨MRes.no fun h => Hin.out h.2.2.1, Below.refl _ _⟩
  · have H6 := Lib.hid h6
    clear h6
    go_enter Try.func47, Try.ntmps47
    go_wp2_with fail
    refine (l1In_any _ _ _ w).mono ?_
    rintro e w2 ⟨ha, rfl⟩
    obtain rfl := ha.isnt (fun h => H6.out ⟨by omega, by omega⟩)
    clear ha
    go_wp2
    go_ret2
    exact ⟨MRes.no fun h => H6.out ⟨h.1, h.2.1⟩, Below.refl _ _⟩

theorem pm_small {p : List Int} (h : isPerm p) : Small (pm p) := (pm_good h).1.small
end Go.Proofs.Ytnhkclnloiiihaa
