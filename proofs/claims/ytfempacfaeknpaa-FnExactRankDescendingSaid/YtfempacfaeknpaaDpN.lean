/- Contracts: all rows that limits allow, by the program. Conditions: at most 5 limits of at most 6. -/
import Derived.Test.YtfempacfaeknpaaDpL
import Derived.Test.YtfempacfaeknpaaOwnT
import Derived.Test.YtfempacfaeknpaaDpD
namespace Go.Proofs.Ytfempacfaeknpaa
open Go.RowKit

/-- how many rows there are at most -/
def boundL : Nat → Nat
  | 0 => 0
  | f + 1 => 6 * (1 + boundL f)
theorem longTo_len {l : List Int} {go : List Int → List (List Int)} {B : Nat} (h : ∀ b, (go b).length ≤ B) (b : List Int) : ∀ k, (longTo l go b k).length ≤ k * (1 + B)
  | 0 => by simp [longTo]
  | k + 1 => by
    rw [longTo_succ, List.length_append, Nat.succ_mul]
    have ih := longTo_len (l := l) h b k
    have : (longStep l go b k).length ≤ 1 + B := by
      unfold longStep
      split
      · have := h (b ++ [(k : Int) + 1])
        simp only [List.length_cons]
        omega
      · simp
    omega
theorem longL_len {l : List Int} (hl : ∀ i, gi l i ≤ 6) : ∀ f b, (longL l f b).length ≤ boundL f
  | 0, b => by simp [longL, boundL]
  | f + 1, b => by
    unfold longL boundL
    have h1 := longTo_len (l := l) (longL_len hl f) b (gi l b.length).toNat
    have h2 := hl b.length
    have : (gi l b.length).toNat * (1 + boundL f) ≤ 6 * (1 + boundL f) := Nat.mul_le_mul_right _ (by omega)
    omega
theorem boundL_le {f : Nat} (h : f ≤ 5) : boundL f ≤ 9330 := by
  have : f = 0 ∨ f = 1 ∨ f = 2 ∨ f = 3 ∨ f = 4 ∨ f = 5 := by omega
  rcases this with rfl | rfl | rfl | rfl | rfl | rfl <;> decide

set_option maxRecDepth 100000 in
set_option maxHeartbeats 3200000 in
theorem longer_any (l : List Int) (hl6 : ∀ i, gi l i ≤ 6) : ∀ (f : Nat), f ≤ 5 → ∀ (a1 a2 : Option Addr) (c1 c2 : Nat) (b : List Int) (w : World), b.length + f = l.length → l.length ≤ 5 → IntsAt w a1 l → IntsAt w a2 b →
    Calls Try.prog 120 #[.slice a1 l.length c1, .slice a2 b.length c2] w fun e w' => ∃ v vs, e = .returned v ∧ OwnT w' w.heap.size v (longL l f b) vs ∧ Below w.heap.size w w' := by
  intro f
  induction f with
  | zero =>
    intro _ a1 a2 c1 c2 b w hb hl h1 h2
    have hd : ((b.length : Int) == (l.length : Int)) = true := by simp; omega
    have hmx : l.length ≤ 9223372036854775807 := by omega
    have hmx2 : b.length ≤ 9223372036854775807 := by omega
    clear h1 h2
    go_enter Try.func120, Try.ntmps120
    go_wp2
    go_ret
    exact ⟨_, _, rfl, OwnT.nil _ _, Below.refl _ _⟩
  | succ f ih =>
    intro hf a1 a2 c1 c2 b w hb hl h1 h2
    have hd : ((b.length : Int) == (l.length : Int)) = false := beq_eq_false_iff_ne.2 (by omega)
    have hmx : l.length ≤ 9223372036854775807 := by omega
    have hmx2 : b.length ≤ 9223372036854775807 := by omega
    have hbl : b.length < l.length := by omega
    have H1 := Lib.hid h1
    have H2 := Lib.hid h2
    have IH := Lib.hid (ih (by omega))
    have HL := Lib.hid hb
    have Hlen := Lib.hid (longTo_len (l := l) (longL_len hl6 f) b)
    have Hbd := Lib.hid (boundL_le (f := f) (by omega))
    have h6 := hl6 b.length
    obtain ⟨top, htop⟩ : ∃ top, top = gi l b.length := ⟨_, rfl⟩
    have hE : longL l (f + 1) b = longTo l (longL l f) b top.toNat := by rw [htop]; rfl
    rw [hE]
    rw [← htop] at h6
    have Htop := Lib.hid htop
    clear h1 h2 ih hb hE htop
    go_enter Try.func120, Try.ntmps120
    go_wp2
    go_loopw [5, 6] (fun rows part wr => ∃ (k : Nat) (vs : List Value), k ≤ top.toNat ∧ part = .int .i64 ((k : Int) + 1) ∧ OwnT wr w.heap.size rows (longTo l (longL l f) b k) vs ∧ Below w.heap.size w wr) (fun _ i _ => 7 - (intOf i).toNat)
    case atStart => exact ⟨0, [], Nat.zero_le _, rfl, OwnT.nil _ _, Below.refl _ _⟩
    case round =>
      obtain ⟨k, vs, hk, rfl, hown, hbr⟩ := hrel
      have Hown := Lib.hid hown
      have Hbr := Lib.hid hbr
      have HBr := Lib.hid hbr.size
      obtain ⟨b1, o1, e1, hc1⟩ := (H1.out.below hbr) b.length hbl
      rw [← Htop.out] at hc1
      subst e1
      clear hown hbr
      obtain ⟨q, hq⟩ : ∃ q : Int, q = (k : Int) + 1 := ⟨_, rfl⟩
      rw [← hq]
      by_cases hlt : q ≤ top
      · have hd2 : decide (q ≤ top) = true := decide_eq_true hlt
        have hwq : IntKind.i64.wrap (q + 1) = q + 1 := w64 (by omega)
        have Hst := Lib.hid (longTo_succ l (longL l f) b k)
        have Hq := Lib.hid (show q = (k : Int) + 1 ∧ k + 1 ≤ top.toNat by omega)
        have hll := Hlen.out k
        have Hkb := Lib.hid (show (longTo l (longL l f) b k).length ≤ 60000 by
          have := Hbd.out
          have h2 : k * (1 + boundL f) ≤ 6 * (1 + boundL f) := Nat.mul_le_mul_right _ (by omega)
          omega)
        unfold longStep at Hst
        rw [← hq] at Hst
        obtain ⟨M, hM⟩ : ∃ M, M = longTo l (longL l f) b k := ⟨_, rfl⟩
        rw [← hM] at Hown Hst Hkb
        clear hq hk hll hM hlt
        go_wp2_with fail
        refine (sClone_any a2 c2 b wr (by omega) (H2.out.below Hbr.out)).mono ?_
        rintro e w2 ⟨cv, rfl, hv, hb2⟩
        have HV := Lib.hid hv
        have Hb2 := Lib.hid hb2
        clear hv hb2
        go_wp2_with (at_builtin; refine wpList_numT rfl _ _ rfl wr.heap.size _ _ q HV.out rfl rfl Hb2.out.size (by omega) ?_)
        intro rv w3 hrow hb3
        obtain ⟨ra, rc, hrv, hrc1, hrc2, hri⟩ := hrow.read
        have HR := Lib.hid hrow
        have HRI := Lib.hid hri
        obtain ⟨row, hrw⟩ : ∃ row, row = b ++ [q] := ⟨_, rfl⟩
        have hrl : row.length = b.length + 1 := by rw [hrw]; simp
        rw [← hrw] at HR HRI Hst hrv
        have Hb3 := Lib.hid (Hb2.out.trans hb3)
        obtain ⟨rl, hrl2⟩ : ∃ rl, rl = row.length := ⟨_, rfl⟩
        rw [← hrl2] at hrv
        have Hrl := Lib.hid (And.intro hrl hrl2)
        have hrlm : rl ≤ 9223372036854775807 := by omega
        subst hrv
        have CA := Lib.hid (allow_any (some ⟨b1, o1, none⟩) ra c1 rc l row w3 (by omega) (by omega) (H1.out.below (Hbr.out.trans (Hb3.out.mono HBr.out))) HRI.out)
        rw [← hrl2] at CA
        clear hrow hb3 hri hrw hrl hrl2 HV Hb2 hrc1 hrc2
        go_wp2_with fail
        refine CA.out.mono ?_
        rintro e w4 ⟨ha, rfl⟩
        have Hown3 := Lib.hid (Hown.out.below Hb3.out)
        have HB3 := Lib.hid (Hbr.out.trans (Hb3.out.mono HBr.out))
        have Hold3 := Lib.hid (show ∀ i, i < M.length → ∀ g, (vs.getD i undef).ownBlock = some g → (Value.slice ra rl rc).ownBlock ≠ some g from fun i hi g hg hg2 => by
          have h1 := (Hown.out.old i hi g hg).2
          have h2 := (HR.out.lt g hg2).1
          omega)
        by_cases hal : Allow l row
        · rw [if_pos hal] at Hst
          have Hal := Lib.hid hal
          obtain rfl := ha.is hal
          clear ha hal CA Hown Hbr
          go_wp2_with (at_builtin; refine wpList_rowT rfl _ _ rfl w.heap.size _ (.slice ra rl rc) M vs row Hown3.out (HR.out.base HBr.out) rfl rfl Hold3.out HB3.out.size (by have := Hkb.out; omega) ?_)
          intro v5 w5 hown5 hrow5 hb5
          obtain ⟨M2, hM2⟩ : ∃ M2, M2 = M ++ [row] := ⟨_, rfl⟩
          rw [← hM2] at hown5
          have HM2 := Lib.hid hM2
          clear hM2
          have Hown5 := Lib.hid hown5
          have HR5 := Lib.hid (own_at (show OwnI w5 w.heap.size (.slice ra rl rc) row from hrow5))
          have HB5 := Lib.hid (HB3.out.trans hb5)
          obtain ⟨va, vc, hva, _, _, _⟩ := hown5.read
          subst hva
          have CL := Lib.hid (IH.out (some ⟨b1, o1, none⟩) ra c1 rc row w5 (by have := HL.out; have := Hrl.out; omega) hl (H1.out.below HB5.out) HR5.out)
          rw [← Hrl.out.2] at CL
          clear hown5 hrow5 hb5 Hold3 Hown3 HR HRI Hb3
          go_wp2_with fail
          refine CL.out.mono ?_
          rintro e w6 ⟨sv, us, rfl, hsub, hb6⟩
          have Hown6 := Lib.hid (Hown5.out.below hb6)
          have Hold6 := Lib.hid (fun i hi g hg => (Hown5.out.old i hi g hg).2)
          have Hsub := Lib.hid hsub
          have HB6 := Lib.hid (HB5.out.trans (hb6.mono HB5.out.size))
          have HS5 := Lib.hid HB5.out.size
          have Hsl := Lib.hid (longL_len hl6 f row)
          obtain ⟨sa, sc, hsv, _, _, _⟩ := hsub.read
          obtain ⟨K, hK⟩ : ∃ K, K = longL l f row := ⟨_, rfl⟩
          rw [← hK] at Hsub Hst Hsl hsv
          have Hlen6 := Lib.hid (show M2.length + K.length ≤ 1048576 by
            rw [HM2.out, List.length_append, List.length_singleton]
            have := Hkb.out
            have := Hsl.out
            have := Hbd.out
            omega)
          subst hsv
          clear hsub hb6 hK CL
          go_wp2_with (at_builtin; refine wpList_rowsT rfl _ _ rfl w.heap.size w5.heap.size _ _ M2 K _ us Hown6.out Hsub.out rfl rfl HS5.out Hold6.out HB6.out.size Hlen6.out ?_)
          intro v7 w7 hown7 hb7
          rw [HM2.out, List.append_assoc, List.singleton_append, ← Hst.out] at hown7
          have Hown7 := Lib.hid hown7
          have HB7 := Lib.hid (HB6.out.trans hb7)
          clear hown7 hb7
          go_wp2
          go_roundw
          case rel => exact ⟨k + 1, _, Hq.out.2, by have := Hq.out.1; rw [this]; rfl, Hown7.out, HB7.out⟩
          case measure => have := Hq.out; simp [intOf]; omega
        · rw [if_neg hal, List.append_nil] at Hst
          obtain rfl := ha.isnt hal
          clear ha hal CA
          go_wp2
          go_roundw
          case rel => exact ⟨k + 1, vs, Hq.out.2, by have := Hq.out.1; rw [this]; rfl, by rw [Hst.out]; exact Hown3.out, HB3.out⟩
          case measure => have := Hq.out; simp [intOf]; omega
      · have hd2 : decide (q ≤ top) = false := decide_eq_false hlt
        have Hk := Lib.hid (show k = top.toNat by omega)
        clear hlt hq hk
        go_wp2
        go_ret
        exact ⟨_, vs, rfl, by rw [← Hk.out]; exact Hown.out, Hbr.out⟩
end Go.Proofs.Ytfempacfaeknpaa
