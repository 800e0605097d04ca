/- Contracts: the period of a pattern, by both sides. Condition: the numbers fit an int. -/
import Derived.Test.YtncpoljjfhmkeaaPpM
namespace Go.Proofs.Ytncpoljjfhmkeaa
open Go.RowKit

set_option maxRecDepth 100000 in
set_option maxHeartbeats 800000 in
theorem specPatternPeriod_any (ao : Option Addr) (c : Nat) (p : List Int) (w : World) (hn : p.length ≤ 1048576) (hx : IntsAt w ao p) :
    Calls Try.prog 49 #[.slice ao p.length c] w fun e w' => IRes (isPat p) (perP p : Nat) e ∧ Below w.heap.size w w' := by
  have hmx : p.length ≤ 9223372036854775807 := by omega
  have Hx := Lib.hid hx
  clear hx
  go_enter Try.func49, Try.ntmps49
  go_wp2_with fail
  refine (loIsPattern_any ao c p w hn Hx.out).mono ?_
  rintro e w1 ⟨ha, rfl⟩
  by_cases hg : isPat p
  · have Hg := Lib.hid hg
    have h12 := hg.hi
    have hP := perP_in hg
    have HE := Lib.hid (fun k h1 h2 => perP_is hg (k := k) h1 h2)
    obtain ⟨K, hK⟩ : ∃ K, K = perP p := ⟨_, rfl⟩
    rw [← hK] at hP HE
    have HK := Lib.hid hK
    obtain rfl := ha.is hg
    clear ha hg hK
    go_wp2
    go_loopw [4] (fun x wr => ∃ k : Nat, 1 ≤ k ∧ k ≤ K ∧ x = .int .i64 k ∧ Below w.heap.size w wr) (fun x _ => K - (intOf x).toNat)
    case atStart => exact ⟨1, Nat.le_refl _, by omega, rfl, Below.refl _ _⟩
    case round =>
      obtain ⟨k, hk1, hkK, rfl, hbr⟩ := hrel
      have Hbr := Lib.hid hbr
      clear hbr
      go_wp2_with fail
      refine (loTurn_any ao c p (k : Int) wr Hg.out (by omega) (Hx.out.below Hbr.out)).mono ?_
      rintro e w2 ⟨v, rfl, hv, hb⟩
      obtain ⟨va, vc, rfl, _, _, hm⟩ := hv.read
      have Hb2 := Lib.hid (Hbr.out.trans (hb.mono Hbr.out.size))
      have CS := Lib.hid (l1Same_any va ao vc c (trn p k) p w2 (by rw [trn_len]; exact hn) hn hm (Hx.out.below Hb2.out))
      have he := HE.out k hk1 hkK
      rw [he] at CS
      have HL := Lib.hid (show (renP (turnF p.length (k : Int)) p p.length) = trn p k from rfl)
      clear hv hb hm he
      rw [HL.out]
      go_wp2_with fail
      refine CS.out.mono ?_
      rintro e w3 ⟨rfl, hq⟩
      have HB3 := Lib.hid (Hb2.out.trans (hq.below _))
      clear hq CS
      by_cases e : k = K
      · subst e
        have hd : decide (k = k) = true := by simp
        rw [hd]
        go_wp2
        go_ret2
        exact ⟨by rw [← HK.out]; exact IRes.yes Hg.out, HB3.out⟩
      · have hd : decide (k = K) = false := by simpa using e
        rw [hd]
        have hk1 : k + 1 ≤ K := by omega
        clear e hd
        go_wp2
        go_roundw
        case rel => exact ⟨k + 1, by omega, hk1, by go_num, HB3.out⟩
        case measure => simp [intOf]; omega
  · have Hg := Lib.hid hg
    obtain rfl := ha.isnt hg
    clear ha hg
    go_wp2
    go_ret2
    exact ⟨IRes.no Hg.out, Below.refl _ _⟩

theorem WfI_pat {p : List Int} (h : isPat p) : WfI p := fun i hi => by have := h.inside i hi; have := h.hi; omega

set_option maxRecDepth 100000 in
set_option maxHeartbeats 1600000 in
theorem implPatternPeriod_any (ao : Option Addr) (c : Nat) (p : List Int) (w : World) (hn : p.length ≤ 1048576) (hwf : WfI p) (hx : IntsAt w ao p) :
    Calls Try.prog 50 #[.slice ao p.length c] w fun e w' => IRes (isPat p) (perP p : Nat) e ∧ Below w.heap.size w w' := by
  have hmx : p.length ≤ 9223372036854775807 := by omega
  have Hx := Lib.hid hx
  have Hwf := Lib.hid hwf
  clear hx hwf
  go_enter Try.func50, Try.ntmps50
  go_wp2_with fail
  refine (implIsPattern_any ao c p w hn Hwf.out Hx.out).mono ?_
  rintro e w1 ⟨ha, hb1⟩
  have HB := Lib.hid hb1
  clear hb1
  by_cases hg : isPat p
  · have Hg := Lib.hid hg
    have h12 := hg.hi
    have hP := perP_in hg
    have HE := Lib.hid (fun k h1 h2 => perP_is hg (k := k) h1 h2)
    have HS := Lib.hid (fun k hk => trn_succ hg (k := k) hk (hg.trn k hk))
    have HP := Lib.hid (fun k hk => hg.trn k hk)
    obtain ⟨K, hK⟩ : ∃ K, K = perP p := ⟨_, rfl⟩
    rw [← hK] at hP HE
    have HK := Lib.hid hK
    obtain rfl := ha.is hg
    have CT := Lib.hid (fun q qa qc w (hq : isPat q) hx => implTurnPattern_any qa qc q 1 w (by have := hq.hi; omega) (WfI_pat hq) hx (by omega))
    have HT := Lib.hid (show ∀ q : List Int, renP (turnF q.length 1) q q.length = trn q 1 from fun _ => rfl)
    have CT1 := CT.out p ao c w1 hg (Hx.out.below HB.out)
    rw [HT.out] at CT1
    have CT1 := Lib.hid CT1
    clear ha hg hK
    go_wp2_with fail
    refine CT1.out.mono ?_
    rintro e w2 ⟨⟨v, b, r, rfl, hv, hr⟩, hb⟩
    have hr2 : b = true ∧ r = trn p 1 := by
      rcases hr with ⟨_, h1, h2⟩ | ⟨h, _, _⟩
      · exact ⟨h1, h2⟩
      · exact absurd ⟨Hg.out, by omega, by omega⟩ h
    obtain ⟨rfl, rfl⟩ := hr2
    obtain ⟨va, vc, rfl, _, _, hm⟩ := hv.read
    rw [trn_len]
    have Hm := Lib.hid (show IntsAt w2 va (trn p (1 : Nat)) from hm)
    have Hb2 := Lib.hid (HB.out.trans (hb.mono HB.out.size))
    clear hv hb hm hr CT1
    go_wp2
    go_loopw [4, 5] (fun x q wr => ∃ (k : Nat) (qa : Option Addr) (qc : Nat), 1 ≤ k ∧ k ≤ K ∧ x = .int .i64 k ∧ q = .slice qa p.length qc ∧ IntsAt wr qa (trn p k) ∧ Below w.heap.size w wr) (fun x _ _ => K - (intOf x).toNat)
    case atStart => exact ⟨1, _, _, Nat.le_refl _, by omega, rfl, rfl, Hm.out, Hb2.out⟩
    case round =>
      obtain ⟨k, qa, qc, hk1, hkK, rfl, rfl, hq, hbr⟩ := hrel
      have Hbr := Lib.hid hbr
      have Hq := Lib.hid hq
      have CS := sEqualInts_any qa ao qc c (trn p k) p wr (by rw [trn_len]; exact hn) hn hq (Hx.out.below hbr)
      rw [HE.out k hk1 hkK, trn_len] at CS
      have CS := Lib.hid CS
      clear hbr hq Hm Hb2
      go_wp2_with fail
      refine CS.out.mono ?_
      rintro e w3 ⟨rfl, hq⟩
      have HB3 := Lib.hid (Hbr.out.trans (hq.below _))
      have Hq3 := Lib.hid (Hq.out.below (hq.below _))
      clear hq CS Hbr Hq
      by_cases e : k = K
      · subst e
        have hd : decide (k = k) = true := by simp
        rw [hd]
        go_wp2
        go_ret2
        exact ⟨by rw [← HK.out]; exact IRes.yes Hg.out, HB3.out⟩
      · have hd : decide (k = K) = false := by simpa using e
        rw [hd]
        have hk1 : k + 1 ≤ K := by omega
        have CTk := CT.out (trn p k) qa qc w3 (HP.out k (by omega)) Hq3.out
        have hl := trn_len p (k : Int)
        rw [HT.out, HS.out k (by omega), hl] at CTk
        have CTk := Lib.hid CTk
        clear e hd hl
        go_wp2_with fail
        refine CTk.out.mono ?_
        rintro e w4 ⟨⟨v, b, r, rfl, hv, hr⟩, hb⟩
        have hr2 : b = true ∧ r = trn p ((k : Int) + 1) := by
          rcases hr with ⟨_, h1, h2⟩ | ⟨h, _, _⟩
          · exact ⟨h1, h2⟩
          · exact absurd ⟨HP.out k (by omega), by omega, by omega⟩ h
        obtain ⟨rfl, rfl⟩ := hr2
        obtain ⟨va, vc, rfl, _, _, hm⟩ := hv.read
        rw [trn_len]
        have Hm := Lib.hid (show IntsAt w4 va (trn p ((k + 1 : Nat) : Int)) from by rw [Int.natCast_add]; exact hm)
        have HB4 := Lib.hid (HB3.out.trans (hb.mono HB3.out.size))
        clear hv hb hm hr CTk
        go_wp2
        go_roundw
        case rel => exact ⟨k + 1, _, _, by omega, hk1, by go_num, rfl, Hm.out, HB4.out⟩
        case measure => simp [intOf]; omega
  · have Hg := Lib.hid hg
    obtain rfl := ha.isnt hg
    clear ha hg
    go_wp2
    go_ret2
    exact ⟨IRes.no Hg.out, HB.out⟩
end Go.Proofs.Ytncpoljjfhmkeaa
