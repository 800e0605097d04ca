/- Contracts of the laws' helpers at lists of tables: comparing, marking, and whether the marks still hold. Conditions: small lists. -/
import Derived.Test.YtfempacfaeknpaaLawB
import Derived.Test.YtfempacfaeknpaaOwnL
namespace Go.Proofs.Ytfempacfaeknpaa
open Go.RowKit

-- markIntSS
set_option maxRecDepth 100000 in
set_option maxHeartbeats 400000 in
theorem markIntSS_any2 (B : Nat) (ao : Option Addr) (c : Nat) (q : Int) (m : List (List Int)) (vs : List Value) (w : World) (hs : Small m) (hq0 : 0 ≤ q) (hq1 : q ≤ 500000000000) (hx : OwnP w B (.slice ao m.length c) m.length m m.length vs) :
    Calls Try.prog 42 #[.slice ao m.length c, .int .i64 q] w fun e w' => e = .returned (.int .i64 (q + tot m m.length)) ∧ OwnP w' B (.slice ao m.length c) m.length (markM q m) m.length vs ∧
      OnlyW (fun g => ∃ i, i < m.length ∧ (vs.getD i undef).ownBlock = some g) w w' := by
  have hn := hs.1
  have hmx : m.length ≤ 9223372036854775807 := by omega
  go_enter Try.func42, Try.ntmps42
  go_wp2
  go_loopw [1, 5] (fun kk i wr => ∃ k : Nat, k ≤ m.length ∧ i = .int .i64 k ∧ kk = .int .i64 (q + tot m k) ∧ wr.ownsRow B 42 1 (.slice ao m.length c) m.length vs ∧
      (∀ i, i < k → OwnI wr B (vs.getD i undef) (gr (markM q m) i)) ∧ (∀ i, k ≤ i → i < m.length → OwnI wr B (vs.getD i undef) (gr m i)) ∧ OnlyW (fun g => ∃ i, i < m.length ∧ (vs.getD i undef).ownBlock = some g) w wr)
    (fun _ i _ => m.length - (intOf i).toNat)
  case atStart => exact ⟨0, Nat.zero_le _, rfl, by simp [tot], hx.top, fun i hi => absurd hi (by omega), fun i _ hi => hx.rows i hi, OnlyW.refl _ _⟩
  case round =>
    obtain ⟨k, hk, rfl, rfl, htop, hlo, hhi, hbr⟩ := hrel
    by_cases hlt : k < m.length
    · obtain ⟨ao', c', hv', _, _, hcells⟩ := ownsRow_read htop
      obtain ⟨rfl, -, rfl⟩ := (Value.slice.injEq _ _ _ _ _ _).mp hv'
      obtain ⟨b, o, rfl, hc⟩ := hcells k hlt
      have hrow := hhi k (Nat.le_refl _) hlt
      obtain ⟨r, d, hr, h3, h4, _⟩ := hrow.read
      have Hr := Lib.hid hr
      rw [hr] at hc hrow
      have h2 := hs.2 k hlt
      have h5 := tot_big hs hk
      have Hs := Lib.hid hs
      have Hx := Lib.hid hx
      have Htop := Lib.hid htop
      have Hlo := Lib.hid hlo
      have Hhi := Lib.hid hhi
      have Hrow := Lib.hid hrow
      clear hs hx htop hlo hhi hr hcells hv' hrow
      go_wp2_with fail
      refine (markIntS_any B r d (gr m k).length _ _ wr h2 (by omega) (by omega) Hrow.out).mono ?_
      rintro e w2 ⟨rfl, hv, hb2⟩
      have e1 : q + (tot m k : Int) + ((gr m k).length : Int) = q + (tot m (k + 1) : Int) := by simp only [tot]; omega
      have h6 := tot_big Hs.out (show k + 1 ≤ m.length by omega)
      rw [e1]
      rw [← Hr.out] at hv hb2
      have Hv := Lib.hid hv
      have Hb2 := Lib.hid hb2
      clear e1 hv hb2
      go_wp2
      go_roundw
      case rel =>
        have hb2 := Hb2.out
        refine ⟨k + 1, by omega, by go_num, rfl, ?_, fun i hi => ?_, fun i hi1 hi2 => ?_, hbr.trans (hb2.mono (fun g hg => ⟨k, hlt, hg⟩))⟩
        · exact ownsRow_only Htop.out hb2 (fun g hg hg' => (Hhi.out k (Nat.le_refl _) hlt).ne_row Htop.out g hg' hg)
        · by_cases e : i = k
          · subst e
            rw [gr_markM hlt]
            exact Hv.out
          · exact ownsRow_only (Hlo.out i (by omega)) hb2 (fun g hg hg' => Hx.out.apart i k (by omega) hlt g hg hg')
        · exact ownsRow_only (Hhi.out i (by omega) hi2) hb2 (fun g hg hg' => Hx.out.apart k i (by omega) hi2 g hg' hg)
      case measure => simp [intOf]; omega
    · obtain rfl : k = m.length := by omega
      go_wp2
      go_ret
      exact ⟨rfl, ⟨htop, hlo, hx.apart⟩, hbr⟩


/-- a list of tables, read -/
def ListAt (w : World) (ao : Option Addr) (ts : List (List (List Int))) : Prop := ∀ i, i < ts.length → ∃ b o r d, ao = some ⟨b, o, none⟩ ∧ w.cell? ⟨b, o + i, none⟩ = some (.slice r (gt ts i).length d) ∧ MatAt w r (gt ts i) ∧ (gt ts i).length ≤ d ∧ d ≤ 9223372036854775807
theorem ListAt.below {w w' : World} {ao : Option Addr} {ts : List (List (List Int))} (h : ListAt w ao ts) (hb : Below w.heap.size w w') : ListAt w' ao ts := fun i hi => by
  obtain ⟨b, o, r, d, e, hc, hm, h1, h2⟩ := h i hi
  exact ⟨b, o, r, d, e, cell_below hc hb, hm.below hb, h1, h2⟩
theorem OwnW.lists {w : World} {B n c : Nat} {ao : Option Addr} {ts : List (List (List Int))} {vs : List Value} (h : OwnW w B (.slice ao n c) ts vs) : ListAt w ao ts := fun i hi => by
  obtain ⟨b, o, r, d, e, hc, hm, h1, h2⟩ := h.at hi
  exact ⟨b, o, r, d, e, hc, hm, h1, h2⟩
theorem OwnL.lists {w : World} {B n c : Nat} {ao : Option Addr} {ts : List (List (List Int))} {vs : List Value} {uss : List (List Value)} (h : OwnL w B (.slice ao n c) ts vs uss) : ListAt w ao ts := h.toW.lists
def Small3 (ts : List (List (List Int))) : Prop := ts.length ≤ 10000 ∧ ∀ i, i < ts.length → Small (gt ts i) ∧ tot (gt ts i) (gt ts i).length ≤ 1000
def totL (ts : List (List (List Int))) : Nat → Nat
  | 0 => 0
  | k + 1 => totL ts k + tot (gt ts k) (gt ts k).length
theorem totL_le {ts : List (List (List Int))} (hs : Small3 ts) : ∀ k, k ≤ ts.length → totL ts k ≤ k * 1000
  | 0, _ => by simp [totL]
  | k + 1, h => by
    have h1 := totL_le hs k (by omega)
    have h2 := (hs.2 k (by omega)).2
    simp only [totL]
    omega
theorem totL_big {ts : List (List (List Int))} (hs : Small3 ts) {k : Nat} (h : k ≤ ts.length) : totL ts k ≤ 10000000 := by
  have h1 := totL_le hs k h
  have h2 := hs.1
  omega
def markL (q : Int) (ts : List (List (List Int))) : List (List (List Int)) := (List.range ts.length).map fun i => markM (q + (totL ts i : Int)) (gt ts i)
theorem markL_len (q : Int) (ts : List (List (List Int))) : (markL q ts).length = ts.length := by simp [markL]
theorem gt_markL {q : Int} {ts : List (List (List Int))} {i : Nat} (h : i < ts.length) : gt (markL q ts) i = markM (q + (totL ts i : Int)) (gt ts i) := by
  rw [gt_lt (by rw [markL_len]; exact h)]
  simp [markL]

set_option maxRecDepth 100000 in
set_option maxHeartbeats 400000 in
theorem eqIntSSS_same (a1 a2 : Option Addr) (c1 c2 : Nat) (ts : List (List (List Int))) (w : World) (hs : Small3 ts) (h1 : ListAt w a1 ts) (h2 : ListAt w a2 ts) :
    Calls Try.prog 25 #[.slice a1 ts.length c1, .slice a2 ts.length c2] w fun e w' => e = .returned (.bool true) ∧ Q w w' := by
  obtain ⟨hn, hrow⟩ := hs
  have hmx : ts.length ≤ 9223372036854775807 := by omega
  have H1 := Lib.hid h1
  have H2 := Lib.hid h2
  have Hr := Lib.hid hrow
  clear h1 h2 hrow
  go_enter Try.func25, Try.ntmps25
  go_wp2
  go_loopw [5] (fun i wr => ∃ k : Nat, k ≤ ts.length ∧ i = .int .i64 k ∧ Q w wr) (fun i _ => ts.length - (intOf i).toNat)
  case atStart => exact ⟨0, Nat.zero_le _, rfl, Q.refl _⟩
  case round =>
    obtain ⟨k, hk, rfl, hbr⟩ := hrel
    by_cases hlt : k < ts.length
    · obtain ⟨b1, o1, r1, d1, rfl, hc1, hx1, _, _⟩ := H1.out.below (hbr.below _) k hlt
      obtain ⟨b2, o2, r2, d2, rfl, hc2, hx2, _, _⟩ := H2.out.below (hbr.below _) k hlt
      have hrk := (Hr.out k hlt).1
      have Hx1 := Lib.hid hx1
      have Hx2 := Lib.hid hx2
      have Hrk := Lib.hid hrk
      have hl0 : (gt ts k).length ≤ 9223372036854775807 := by have := hrk.1; omega
      have CE := Lib.hid (fun w h1 h2 => eqIntSS_same r1 r2 d1 d2 (gt ts k) w Hrk.out h1 h2)
      obtain ⟨G, hG⟩ : ∃ G, G = gt ts k := ⟨_, rfl⟩
      rw [← hG] at hc1 hc2 Hx1 Hx2 hl0 CE
      clear hx1 hx2 hrk Hrk hG
      go_wp2
      go_quiet ((go_at_call 22; exact Calls.quiet_of (CE.out _ Hx1.out Hx2.out)))
      go_wp2
      go_roundw
      case rel => exact ⟨k + 1, by omega, by go_num, hbr.drewN _⟩
      case measure => simp [intOf]; omega
    · go_wp2
      go_ret
      exact ⟨rfl, hbr⟩

set_option maxRecDepth 100000 in
set_option maxHeartbeats 400000 in
theorem heldIntSSS_yes (ao : Option Addr) (c : Nat) (ts : List (List (List Int))) (q : Int) (w : World) (hs : Small3 ts) (hq0 : 0 ≤ q) (hq1 : q ≤ 10) (hx : ListAt w ao (markL q ts)) :
    Calls Try.prog 27 #[.slice ao ts.length c, .int .i64 q] w fun e w' => e = .returned (.int .i64 (q + totL ts ts.length)) ∧ Q w w' := by
  have hn := hs.1
  have hmx : ts.length ≤ 9223372036854775807 := by omega
  have Hs := Lib.hid hs
  have Hx := Lib.hid hx
  clear hx hs
  go_enter Try.func27, Try.ntmps27
  go_wp2
  go_loopw [1, 5] (fun kk i wr => ∃ k : Nat, k ≤ ts.length ∧ i = .int .i64 k ∧ kk = .int .i64 (q + totL ts k) ∧ Q w wr) (fun _ i _ => ts.length - (intOf i).toNat)
  case atStart => exact ⟨0, Nat.zero_le _, rfl, by simp [totL], Q.refl _⟩
  case round =>
    obtain ⟨k, hk, rfl, rfl, hbr⟩ := hrel
    by_cases hlt : k < ts.length
    · obtain ⟨b1, o1, r1, d1, rfl, hc1, hr1, _, _⟩ := Hx.out.below (hbr.below _) k (by rw [markL_len]; exact hlt)
      rw [gt_markL hlt, markM_len] at hc1
      rw [gt_markL hlt] at hr1
      have h2 := (Hs.out.2 k hlt).1
      have h22 := (Hs.out.2 k hlt).2
      have h3 := totL_big Hs.out hk
      have CH := Lib.hid (heldIntSS_yes r1 d1 (gt ts k) (q + (totL ts k : Int)) wr h2 (by omega) (by omega) hr1)
      have e1 : q + (totL ts k : Int) + (tot (gt ts k) (gt ts k).length : Int) = q + (totL ts (k + 1) : Int) := by simp only [totL]; omega
      rw [e1] at CH
      have h4 := totL_big Hs.out (show k + 1 ≤ ts.length by omega)
      have hl0 : (gt ts k).length ≤ 9223372036854775807 := by have := h2.1; omega
      obtain ⟨G, hG⟩ : ∃ G, G = gt ts k := ⟨_, rfl⟩
      rw [← hG] at hc1 CH hl0
      clear hr1 h2 h22 e1 hG
      go_wp2_with fail
      refine CH.out.mono ?_
      rintro e w2 ⟨rfl, hb2⟩
      go_wp2
      go_roundw
      case rel => exact ⟨k + 1, by omega, by go_num, rfl, hbr.trans hb2⟩
      case measure => simp [intOf]; omega
    · obtain rfl : k = ts.length := by omega
      go_wp2
      go_ret
      exact ⟨rfl, hbr⟩

/-- a table is kept where the rows of another one are marked -/
theorem OwnT.onlyRows {w w' : World} {B B' : Nat} {x y : Value} {m m' : List (List Int)} {us us' : List Value} (h : OwnT w B x m us) (k : OwnT w B' y m' us') (hap : Apart2 us us') (ho : OnlyW (fun g => ∃ i, i < m'.length ∧ (us'.getD i undef).ownBlock = some g) w w') : OwnT w' B x m us := by
  refine ⟨ownsRow_only h.top ho (fun g hg hs => ?_), fun i hi => ownsRow_only (h.rows i hi) ho (fun g hg hs => ?_), h.apart⟩
  · obtain ⟨i, hi, e⟩ := hs
    exact row_apart h.top (k.rows i hi) (by decide) g hg e
  · obtain ⟨j, hj, e⟩ := hs
    exact hap i j (by rw [h.len]; exact hi) (by rw [k.len]; exact hj) g hg e
theorem Apart2.symm {us vs : List Value} (h : Apart2 us vs) : Apart2 vs us := fun a b ha hb g hg1 hg2 => h b a hb ha g hg2 hg1
/-- the blocks of all rows of a list -/
def RowsOf (ts : List (List (List Int))) (uss : List (List Value)) (g : Nat) : Prop := ∃ i a, i < ts.length ∧ a < (gt ts i).length ∧ ((ug uss i).getD a undef).ownBlock = some g

set_option maxRecDepth 100000 in
set_option maxHeartbeats 800000 in
theorem markIntSSS_any (B : Nat) (ao : Option Addr) (c : Nat) (q : Int) (ts : List (List (List Int))) (vs : List Value) (uss : List (List Value)) (w : World) (hs : Small3 ts) (hq0 : 0 ≤ q) (hq1 : q ≤ 10) (hx : OwnL w B (.slice ao ts.length c) ts vs uss) :
    Calls Try.prog 26 #[.slice ao ts.length c, .int .i64 q] w fun e w' => e = .returned (.int .i64 (q + totL ts ts.length)) ∧ OwnL w' B (.slice ao ts.length c) (markL q ts) vs uss ∧ OnlyW (RowsOf ts uss) w w' := by
  have hn := hs.1
  have hmx : ts.length ≤ 9223372036854775807 := by omega
  have Hs := Lib.hid hs
  have Hx := Lib.hid hx
  clear hs hx
  go_enter Try.func26, Try.ntmps26
  go_wp2
  go_loopw [1, 5] (fun kk i wr => ∃ k : Nat, k ≤ ts.length ∧ i = .int .i64 k ∧ kk = .int .i64 (q + totL ts k) ∧ wr.ownsRow B 22 1 (.slice ao ts.length c) ts.length vs ∧
      (∀ i, i < k → OwnT wr B (vs.getD i undef) (gt (markL q ts) i) (ug uss i)) ∧ (∀ i, k ≤ i → i < ts.length → OwnT wr B (vs.getD i undef) (gt ts i) (ug uss i)) ∧ OnlyW (RowsOf ts uss) w wr)
    (fun _ i _ => ts.length - (intOf i).toNat)
  case atStart => exact ⟨0, Nat.zero_le _, rfl, by simp [totL], Hx.out.top, fun i hi => absurd hi (by omega), fun i _ hi => Hx.out.each i hi, OnlyW.refl _ _⟩
  case round =>
    obtain ⟨k, hk, rfl, rfl, htop, hlo, hhi, hbr⟩ := hrel
    have Htop := Lib.hid htop
    have Hlo := Lib.hid hlo
    have Hhi := Lib.hid hhi
    have Hbr := Lib.hid hbr
    clear htop hlo hhi hbr
    by_cases hlt : k < ts.length
    · obtain ⟨ao', c', hv', _, _, hcells⟩ := ownsRow_read Htop.out
      obtain ⟨rfl, -, rfl⟩ := (Value.slice.injEq _ _ _ _ _ _).mp hv'
      obtain ⟨b, o, rfl, hc⟩ := hcells k hlt
      have hrow := Hhi.out k (Nat.le_refl _) hlt
      obtain ⟨r, d, hr, h3, h4, _⟩ := hrow.read
      have Hr := Lib.hid hr
      have Hrow := Lib.hid hrow
      rw [hr] at hc
      have h2 := (Hs.out.2 k hlt).1
      have h5 := totL_big Hs.out hk
      have CM := Lib.hid (markIntSS_any2 B r d (q + (totL ts k : Int)) (gt ts k) (ug uss k) wr h2 (by omega) (by omega) (by rw [hr] at hrow; exact hrow))
      have e1 : q + (totL ts k : Int) + (tot (gt ts k) (gt ts k).length : Int) = q + (totL ts (k + 1) : Int) := by simp only [totL]; omega
      rw [e1] at CM
      have h6 := totL_big Hs.out (show k + 1 ≤ ts.length by omega)
      have hl0 : (gt ts k).length ≤ 9223372036854775807 := by have := h2.1; omega
      have HG := Lib.hid (gt_markL (q := q) hlt)
      obtain ⟨G, hG⟩ : ∃ G, G = gt ts k := ⟨_, rfl⟩
      rw [← hG] at hc CM hl0 h3 HG
      have HGk := Lib.hid hG
      clear hrow hr hcells hv' e1 h2 hG
      go_wp2_with fail
      refine CM.out.mono ?_
      rintro e w2 ⟨rfl, hv, hb2⟩
      have Hv := Lib.hid hv
      have Hb2 := Lib.hid hb2
      clear hv hb2 CM
      go_wp2
      go_roundw
      case rel =>
        have hb2 := Hb2.out
        have hrk := Hrow.out
        rw [← HGk.out] at hrk
        refine ⟨k + 1, by omega, by go_num, rfl, ?_, fun i hi => ?_, fun i hi1 hi2 => ?_, Hbr.out.trans (hb2.mono (fun g hg => ?_))⟩
        · refine ownsRow_only Htop.out hb2 (fun g hg hg' => ?_)
          obtain ⟨i, hi, e⟩ := hg'
          exact row_apart Htop.out (hrk.rows i hi) (by decide) g hg e
        · by_cases e : i = k
          · subst e
            rw [HG.out, Hr.out, ← HGk.out]
            show OwnP _ _ _ _ _ _ _
            have := Hv.out
            rw [← markM_len (q + (totL ts i : Int)) G] at this
            rw [markM_len] at this ⊢
            exact this
          · exact (Hlo.out i (by omega)).onlyRows hrk (Hx.out.apart i k (by omega) hlt) hb2
        · exact (Hhi.out i (by omega) hi2).onlyRows hrk (Hx.out.apart k i (by omega) hi2).symm hb2
        · obtain ⟨i, hi, e⟩ := hg
          exact ⟨k, i, hlt, by rw [← HGk.out]; exact hi, e⟩
      case measure => simp [intOf]; omega
    · obtain rfl : k = ts.length := by omega
      have HF := Lib.hid (show OwnL wr B (.slice ao ts.length c) (markL q ts) vs uss from ⟨by rw [markL_len]; exact Htop.out, by rw [markL_len]; exact Hx.out.num, fun i hi => Hlo.out i (by rw [markL_len] at hi; exact hi), fun i j hij hj => Hx.out.apart i j hij (by rw [markL_len] at hj; exact hj)⟩)
      go_wp2
      go_ret
      exact ⟨rfl, HF.out, Hbr.out⟩
theorem OwnL.span {w : World} {B : Nat} {v : Value} {ts : List (List (List Int))} {vs : List Value} {uss : List (List Value)} (h : OwnL w B v ts vs uss) {g : Nat} (hg : RowsOf ts uss g) : B ≤ g ∧ g < w.heap.size := by
  obtain ⟨i, a, hi, ha, e⟩ := hg
  exact h.old hi (by rw [(h.each i hi).len]; exact ha) e

/-- a list of tables of the call's own, all rows apart -/
def OwnLM (w : World) (B : Nat) (v : Value) (ts : List (List (List Int))) : Prop := ∃ vs uss, OwnL w B v ts vs uss
theorem OwnLM.open {w : World} {B : Nat} {v : Value} {ts : List (List (List Int))} (h : OwnLM w B v ts) : ∃ ao c vs uss, v = .slice ao ts.length c ∧ OwnL w B (.slice ao ts.length c) ts vs uss := by
  obtain ⟨vs, uss, h⟩ := h
  obtain ⟨ao, c, rfl, _, _⟩ := h.head
  exact ⟨ao, c, vs, uss, rfl, h⟩
theorem OwnLM.read {w : World} {B : Nat} {v : Value} {ts : List (List (List Int))} (h : OwnLM w B v ts) : ∃ ao c, v = .slice ao ts.length c ∧ ListAt w ao ts := by
  obtain ⟨ao, c, vs, uss, rfl, h2⟩ := h.open
  exact ⟨ao, c, rfl, h2.lists⟩
/-- ([][][]int, bool) -/
def TRes (p : Prop) (r : List (List (List Int))) (w : World) (B : Nat) (e : Ending) : Prop :=
  ∃ v b r', e = .returned (.tuple #[v, .bool b]) ∧ OwnLM w B v r' ∧ ((p ∧ b = true ∧ r' = r) ∨ (¬p ∧ b = false ∧ r' = []))
theorem OwnL.nil (w : World) (B : Nat) : OwnL w B (.slice none 0 0) [] [] [] := ⟨World.ownsRow_nil _ _ _ _, rfl, fun i hi => absurd hi (by simp), fun i j _ hj => absurd hj (by simp)⟩
theorem TRes.yes {p : Prop} {r : List (List (List Int))} {w : World} {B : Nat} {v : Value} (h : p) (ho : OwnLM w B v r) : TRes p r w B (.returned (.tuple #[v, .bool true])) := ⟨v, true, r, rfl, ho, .inl ⟨h, rfl, rfl⟩⟩
theorem TRes.no {p : Prop} {r : List (List (List Int))} {w : World} {B : Nat} (h : ¬p) : TRes p r w B (.returned (.tuple #[.slice none 0 0, .bool false])) := ⟨_, false, [], rfl, ⟨[], [], OwnL.nil _ _⟩, .inr ⟨h, rfl, rfl⟩⟩
/-- .., the list only read -/
def ReadsL (w : World) (v : Value) (ts : List (List (List Int))) : Prop := ∃ ao c, v = .slice ao ts.length c ∧ ListAt w ao ts
theorem ReadsL.read {w : World} {v : Value} {ts : List (List (List Int))} (h : ReadsL w v ts) : ∃ ao c, v = .slice ao ts.length c ∧ ListAt w ao ts := h
theorem OwnW.reads {w : World} {B : Nat} {v : Value} {ts : List (List (List Int))} {vs : List Value} (h : OwnW w B v ts vs) : ReadsL w v ts := by
  obtain ⟨ao, c, rfl, _, _⟩ := h.head
  exact ⟨ao, c, rfl, h.lists⟩
def TVRes (p : Prop) (r : List (List (List Int))) (w : World) (e : Ending) : Prop :=
  ∃ v b r', e = .returned (.tuple #[v, .bool b]) ∧ ReadsL w v r' ∧ ((p ∧ b = true ∧ r' = r) ∨ (¬p ∧ b = false ∧ r' = []))
theorem TVRes.yes {p : Prop} {r : List (List (List Int))} {w : World} {v : Value} (h : p) (ho : ReadsL w v r) : TVRes p r w (.returned (.tuple #[v, .bool true])) := ⟨v, true, r, rfl, ho, .inl ⟨h, rfl, rfl⟩⟩
theorem TVRes.no {p : Prop} {r : List (List (List Int))} {w : World} (h : ¬p) : TVRes p r w (.returned (.tuple #[.slice none 0 0, .bool false])) := ⟨_, false, [], rfl, (OwnW.nil w 0).reads, .inr ⟨h, rfl, rfl⟩⟩
theorem tres_same {p : Prop} {r q : List (List (List Int))} {b : Bool} (h : (p ∧ b = true ∧ q = r) ∨ (¬p ∧ b = false ∧ q = [])) :
    ∀ b' q', ((p ∧ b' = true ∧ q' = r) ∨ (¬p ∧ b' = false ∧ q' = [])) → b = b' ∧ q = q' := by
  intro b' q' k
  rcases h with ⟨h1, h2, h3⟩ | ⟨h1, h2, h3⟩ <;> rcases k with ⟨k1, k2, k3⟩ | ⟨k1, k2, k3⟩
  · exact ⟨h2.trans k2.symm, h3.trans k3.symm⟩
  · exact absurd h1 k1
  · exact absurd k1 h1
  · exact ⟨h2.trans k2.symm, h3.trans k3.symm⟩
end Go.Proofs.Ytfempacfaeknpaa
