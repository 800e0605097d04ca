/- Parts of proofs: contracts and plain facts. Conditions: as each says. -/
import Derived.Test.YtgdijjfipicodaaDoorK18
namespace Go.Proofs.YtgdijjfipicodaaDoor
open Go.RowKit

set_option maxRecDepth 100000 in
set_option maxHeartbeats 800000 in
theorem indexI_any (a1 : Option Addr) (c : Nat) (xs : List Int) (x : Int) (w : World) (hn : xs.length ≤ 1048576) (hx : IntsAt w a1 xs) :
    Calls Tryd.prog 90 #[.slice a1 xs.length c, .int .i64 x] w fun e w' => (∃ y : Int, e = .returned (.int .i64 y) ∧ (0 ≤ y ↔ x ∈ xs)) ∧ Q w w' := by
  have hmx : xs.length ≤ 9223372036854775807 := by omega
  have Hx := Lib.hid hx
  clear hx
  go_enter Tryd.func90, Tryd.ntmps90
  go_wp2
  go_loopw [8] (fun i wr => ∃ k : Nat, k ≤ xs.length ∧ i = .int .i64 k ∧ (∀ j, j < k → ¬gi xs j = x) ∧ Q w wr) (fun i _ => xs.length - (intOf i).toNat)
  case atStart => exact ⟨0, Nat.zero_le _, rfl, fun j hj => absurd hj (by omega), Q.refl _⟩
  case round =>
    obtain ⟨k, hk, rfl, hno, hbr⟩ := hrel
    have Hno := Lib.hid hno
    by_cases hlt : k < xs.length
    · obtain ⟨b1, o1, rfl, hc1⟩ := Hx.out.below (hbr.below _) k hlt
      have Hbr := Lib.hid hbr
      by_cases e : gi xs k = x
      · have Hin := Lib.hid (show x ∈ xs from by rw [← e]; exact gi_mem hlt)
        have hb : (x == gi xs k) = true := by simp [e]
        obtain ⟨y, hy⟩ : ∃ y, y = gi xs k := ⟨_, rfl⟩
        rw [← hy] at hc1 hb
        clear hy e hno hbr
        go_wp2
        go_ret
        exact ⟨⟨(k : Int), rfl, by simp [Hin.out]⟩, Hbr.out⟩
      · have He := Lib.hid e
        have hb : (x == gi xs k) = false := by simpa using fun h => e h.symm
        obtain ⟨y, hy⟩ : ∃ y, y = gi xs k := ⟨_, rfl⟩
        rw [← hy] at hc1 hb
        clear hy e hno hbr
        go_wp2
        go_roundw
        case rel => exact ⟨k + 1, by omega, by go_num, fun j hj => by
          by_cases ej : j = k
          · subst ej; exact He.out
          · exact Hno.out j (by omega), Hbr.out⟩
        case measure => simp [intOf]; omega
    · obtain rfl : k = xs.length := by omega
      have Hnn := Lib.hid (show ¬x ∈ xs from fun h => by
        obtain ⟨i, hi, e⟩ := List.mem_iff_getElem.1 h
        exact hno i hi (by rw [gi_lt hi]; exact e))
      have Hbr := Lib.hid hbr
      clear hno hbr
      go_wp2
      go_ret
      exact ⟨⟨-1, rfl, by simp [Hnn.out]⟩, Hbr.out⟩

set_option maxRecDepth 100000 in
set_option maxHeartbeats 800000 in
theorem containsI_any (a1 : Option Addr) (c : Nat) (xs : List Int) (x : Int) (w : World) (hn : xs.length ≤ 1048576) (hx : IntsAt w a1 xs) :
    Calls Tryd.prog 70 #[.slice a1 xs.length c, .int .i64 x] w fun e w' => Ans (x ∈ xs) e ∧ Q w w' := by
  have C := Lib.hid (indexI_any a1 c xs x w hn hx)
  clear hx
  go_enter Tryd.func70, Tryd.ntmps70
  go_wp2_with fail
  refine C.out.mono ?_
  rintro e w2 ⟨⟨y, rfl, hy⟩, hq⟩
  have Hy := Lib.hid hy
  have Hq := Lib.hid hq
  clear hy hq
  go_wp2
  go_ret
  exact ⟨⟨decide (0 ≤ y), rfl, by rw [decide_eq_true_iff]; exact Hy.out⟩, Hq.out⟩

theorem ofK_iff (m : List (List Int)) {k : Nat} (hk : k < 5) : ofK m k ↔ ∀ i, i < (kindL k).length → gi (kindL k) i ∈ smLk m 8 := by
  have h2 := smLk_mem m 2 8
  have h1 := smLk_mem m 1 8
  have h4 := smLk_mem m 4 8
  have h5 := smLk_mem m 5 8
  have h6 := smLk_mem m 6 8
  have g : ∀ (a : Int) (p : Int → Prop), (∀ i, i < [a].length → p (gi [a] i)) ↔ p a := fun a p => ⟨fun h => h 0 (by simp), fun h i hi => by
    obtain rfl : i = 0 := by simp at hi; omega
    exact h⟩
  have hk5 : k = 0 ∨ k = 1 ∨ k = 2 ∨ k = 3 ∨ k = 4 := by omega
  rcases hk5 with rfl | rfl | rfl | rfl | rfl
  · rw [show kindL 0 = [2] from rfl, g 2 (fun x => x ∈ smLk m 8)]
    simp only [ofK, if_true]
    exact ⟨fun h => h2.2 ⟨by omega, h⟩, fun h => (h2.1 h).2⟩
  · rw [show kindL 1 = [1] from rfl, g 1 (fun x => x ∈ smLk m 8)]
    exact ⟨fun h => h1.2 ⟨by omega, h⟩, fun h => (h1.1 h).2⟩
  · rw [show kindL 2 = [4] from rfl, g 4 (fun x => x ∈ smLk m 8)]
    exact ⟨fun h => h4.2 ⟨by omega, h⟩, fun h => (h4.1 h).2⟩
  · rw [show kindL 3 = [5] from rfl, g 5 (fun x => x ∈ smLk m 8)]
    exact ⟨fun h => h5.2 ⟨by omega, h⟩, fun h => (h5.1 h).2⟩
  · rw [show kindL 4 = [4, 6] from rfl]
    constructor
    · rintro ⟨e4, e6⟩ i hi
      have hi2 : i = 0 ∨ i = 1 := by simp at hi; omega
      rcases hi2 with rfl | rfl
      · exact h4.2 ⟨by omega, e4⟩
      · exact h6.2 ⟨by omega, e6⟩
    · intro h
      exact ⟨(h4.1 (h 0 (by simp))).2, (h6.1 (h 1 (by simp))).2⟩

set_option maxRecDepth 100000 in
set_option maxHeartbeats 1600000 in
theorem isOfKind_any (ao : Option Addr) (c k : Nat) (m : List (List Int)) (w : World) (hsq : square m) (hm : MatAt w ao m) (hk : k < 5) (hS : Sk w) :
    Calls Tryd.prog 45 #[.slice ao m.length c, .int .i64 (k : Int)] w fun e w' => Ans (ofK m k) e ∧ Below w.heap.size w w' := by
  have CS := symmetriesOf_any ao c m w hsq hm
  have HK := Lib.hid (ofK_iff m hk)
  have HS := Lib.hid hS
  obtain ⟨n, hn⟩ : ∃ n, n = m.length := ⟨_, rfl⟩
  rw [← hn] at CS ⊢
  have CS := Lib.hid CS
  have hln : (kindL k).length ≤ 2 := by
    have hk5 : k = 0 ∨ k = 1 ∨ k = 2 ∨ k = 3 ∨ k = 4 := by omega
    rcases hk5 with rfl | rfl | rfl | rfl | rfl <;> decide
  obtain ⟨L, hL⟩ : ∃ L, L = kindL k := ⟨_, rfl⟩
  have HL := Lib.hid hL
  rw [← hL] at hln HK
  have Hsl := Lib.hid (smLk_len m 8)
  have hLm : L.length ≤ 9223372036854775807 := by omega
  have hkr : (k : Int) < 5 := by omega
  clear hsq hm hS hn hL
  go_enter Tryd.func45, Tryd.ntmps45
  go_wp2_with fail
  refine CS.out.mono ?_
  rintro e w1 ⟨v, rfl, hv, hb1⟩
  obtain ⟨va, vc, rfl, _, _, hvx⟩ := hv.read
  have Hvx := Lib.hid hvx
  have Hb1 := Lib.hid hb1
  obtain ⟨ga, gc, hcell, hgx⟩ := (HS.out.below hb1) k hk
  rw [← HL.out] at hcell hgx
  have Hgx := Lib.hid hgx
  have CC := Lib.hid (fun x w' (h : Q w1 w') => containsI_any va vc (smLk m 8) x w' (by have := Hsl.out; omega) (Hvx.out.below (h.below _)))
  obtain ⟨Z, hZ⟩ : ∃ Z, Z = smLk m 8 := ⟨_, rfl⟩
  rw [← hZ] at HK CC Hsl ⊢
  clear hv hvx hgx hb1 CS hZ Hvx
  go_wp2
  go_loopw [14] (fun i wr => ∃ j : Nat, j ≤ L.length ∧ i = .int .i64 j ∧ (∀ t, t < j → gi L t ∈ Z) ∧ Q w1 wr) (fun i _ => L.length - (intOf i).toNat)
  case atStart => exact ⟨0, Nat.zero_le _, rfl, fun t ht => absurd ht (by omega), Q.refl _⟩
  case round =>
    obtain ⟨j, hj, rfl, hin, hq⟩ := hrel
    have Hin := Lib.hid hin
    have Hq := Lib.hid hq
    clear hin hq
    by_cases hlt : j < L.length
    · obtain ⟨b1, o1, rfl, hc1⟩ := Hgx.out.below (Hq.out.below _) j hlt
      have C1 := CC.out (gi L j) wr Hq.out
      have Hx := Lib.hid (show ∀ p, (p ↔ gi L j ∈ Z) → (p ↔ gi L j ∈ Z) from fun p h => h)
      obtain ⟨x, hx⟩ : ∃ x, x = gi L j := ⟨_, rfl⟩
      rw [← hx] at hc1 C1
      have Hxe := Lib.hid hx
      have C1 := Lib.hid C1
      clear hx
      go_wp2_with fail
      refine C1.out.mono ?_
      rintro e w3 ⟨ha, hq3⟩
      have Hq3 := Lib.hid (Hq.out.trans hq3)
      clear hq3 C1
      by_cases hz : x ∈ Z
      · obtain rfl := ha.is hz
        have Hz := Lib.hid hz
        clear ha hz
        go_wp2
        go_roundw
        case rel => exact ⟨j + 1, by omega, by go_num, fun t ht => by
          by_cases et : t = j
          · subst et; rw [← Hxe.out]; exact Hz.out
          · exact Hin.out t (by omega), Hq3.out⟩
        case measure => simp [intOf]; omega
      · obtain rfl := ha.isnt hz
        have Hz := Lib.hid (show ¬ofK m k from fun h => hz (by rw [Hxe.out]; exact HK.out.1 h j hlt))
        clear ha hz
        go_wp2
        go_ret
        exact ⟨Ans.no Hz.out, Hb1.out.trans (Hq3.out.below _)⟩
    · obtain rfl : j = L.length := by omega
      have Hy := Lib.hid (HK.out.2 Hin.out)
      go_wp2
      go_ret
      exact ⟨Ans.yes Hy.out, Hb1.out.trans (Hq.out.below _)⟩

set_option maxRecDepth 100000 in
set_option maxHeartbeats 1600000 in
theorem smHas_any (ao : Option Addr) (c k : Nat) (m : List (List Int)) (w : World) (hsq : square m) (hm : MatAt w ao m) (hk : k < 5) :
    Calls Tryd.prog 41 #[.slice ao m.length c, .int .i64 (k : Int)] w fun e w' => Ans (ofK m k) e ∧ Below w.heap.size w w' := by
  have CS := smSymmetries_any ao c m w hsq hm
  have CW := Lib.hid (fun a1 c1 i w' (h1 : MatAt w' a1 (im m i)) (h2 : MatAt w' ao m) => weSame_any a1 ao c1 c (im m i) m w' (im_small hsq i) hsq.small h1 h2)
  have HI := Lib.hid (fun i => (sq_im hsq i).1)
  have CT := fun w' (h : MatAt w' ao m) => sgTurn_any ao c m w' hsq h
  have H5 := Lib.hid (im_five hsq)
  have Hm := Lib.hid hm
  obtain ⟨n, hn⟩ : ∃ n, n = m.length := ⟨_, rfl⟩
  have hn6 : n ≤ 6 := by rw [hn]; exact hsq.2.1
  have HN := Lib.hid hn
  rw [← hn] at CS CT ⊢
  have CS := Lib.hid CS
  have CT := Lib.hid CT
  clear hsq hm hn
  have hk5 : k = 0 ∨ k = 1 ∨ k = 2 ∨ k = 3 ∨ k = 4 := by omega
  rcases hk5 with rfl | rfl | rfl | rfl | rfl
  · skip
    go_enter Tryd.func41, Tryd.ntmps41
    go_wp2_with fail
    refine CS.out.mono ?_
    rintro e w1 ⟨g, cap, rfl, hc1, hc2, hi1, hb1⟩
    have Hi1 := Lib.hid hi1
    have Hb1 := Lib.hid hb1
    have Hm1 := Lib.hid (Hm.out.below hb1)
    clear hi1 hb1 CS
    obtain ⟨a1, d1, hcell, hm1⟩ := Hi1.out 2 (by omega)
    have C1 := CW.out a1 d1 2 w1 hm1 Hm1.out
    rw [HI.out 2, ← HN.out] at C1
    rw [← HN.out] at hcell
    have C1 := Lib.hid C1
    clear hm1
    go_wp2_with fail
    refine C1.out.mono ?_
    rintro e w2 ⟨rfl, hq⟩
    have HB2 := Lib.hid (Hb1.out.trans (hq.below _))
    clear hq C1 hcell
    go_wp2
    go_ret
    exact ⟨⟨_, rfl, by simp [ofK]⟩, HB2.out⟩
  · skip
    go_enter Tryd.func41, Tryd.ntmps41
    go_wp2_with fail
    refine CS.out.mono ?_
    rintro e w1 ⟨g, cap, rfl, hc1, hc2, hi1, hb1⟩
    have Hi1 := Lib.hid hi1
    have Hb1 := Lib.hid hb1
    have Hm1 := Lib.hid (Hm.out.below hb1)
    clear hi1 hb1 CS
    obtain ⟨a1, d1, hcell, hm1⟩ := Hi1.out 1 (by omega)
    have C1 := CW.out a1 d1 1 w1 hm1 Hm1.out
    rw [HI.out 1, ← HN.out] at C1
    rw [← HN.out] at hcell
    have C1 := Lib.hid C1
    clear hm1
    go_wp2_with fail
    refine C1.out.mono ?_
    rintro e w2 ⟨rfl, hq⟩
    have HB2 := Lib.hid (Hb1.out.trans (hq.below _))
    clear hq C1 hcell
    go_wp2
    go_ret
    exact ⟨⟨_, rfl, by simp [ofK]⟩, HB2.out⟩
  · skip
    go_enter Tryd.func41, Tryd.ntmps41
    go_wp2_with fail
    refine CS.out.mono ?_
    rintro e w1 ⟨g, cap, rfl, hc1, hc2, hi1, hb1⟩
    have Hi1 := Lib.hid hi1
    have Hb1 := Lib.hid hb1
    have Hm1 := Lib.hid (Hm.out.below hb1)
    clear hi1 hb1 CS
    obtain ⟨a1, d1, hcell, hm1⟩ := Hi1.out 4 (by omega)
    have C1 := CW.out a1 d1 4 w1 hm1 Hm1.out
    rw [HI.out 4, ← HN.out] at C1
    rw [← HN.out] at hcell
    have C1 := Lib.hid C1
    clear hm1
    go_wp2_with fail
    refine C1.out.mono ?_
    rintro e w2 ⟨rfl, hq⟩
    have HB2 := Lib.hid (Hb1.out.trans (hq.below _))
    clear hq C1 hcell
    go_wp2
    go_ret
    exact ⟨⟨_, rfl, by simp [ofK]⟩, HB2.out⟩
  · skip
    go_enter Tryd.func41, Tryd.ntmps41
    go_wp2_with fail
    refine CS.out.mono ?_
    rintro e w1 ⟨g, cap, rfl, hc1, hc2, hi1, hb1⟩
    have Hi1 := Lib.hid hi1
    have Hb1 := Lib.hid hb1
    have Hm1 := Lib.hid (Hm.out.below hb1)
    clear hi1 hb1 CS
    go_wp2_with fail
    refine (CT.out w1 Hm1.out).mono ?_
    rintro e w2 ⟨v, rfl, hv, hb2⟩
    obtain ⟨va, vc, rfl, _, _, hvm⟩ := hv.read
    have C1 := CW.out va vc 5 w2 (by rw [H5.out]; exact hvm) (Hm1.out.below hb2)
    rw [HI.out 5, ← HN.out] at C1
    have C1 := Lib.hid C1
    have HB2 := Lib.hid (Hb1.out.trans (hb2.mono Hb1.out.size))
    rw [tr_len, ← HN.out]
    clear hv hvm hb2
    go_wp2_with fail
    refine C1.out.mono ?_
    rintro e w3 ⟨rfl, hq⟩
    have HB3 := Lib.hid (HB2.out.trans (hq.below _))
    clear hq C1
    go_wp2
    go_ret
    exact ⟨⟨_, rfl, by simp [ofK]⟩, HB3.out⟩
  · skip
    go_enter Tryd.func41, Tryd.ntmps41
    go_wp2_with fail
    refine CS.out.mono ?_
    rintro e w1 ⟨g, cap, rfl, hc1, hc2, hi1, hb1⟩
    have Hi1 := Lib.hid hi1
    have Hb1 := Lib.hid hb1
    have Hm1 := Lib.hid (Hm.out.below hb1)
    clear hi1 hb1 CS
    obtain ⟨a1, d1, hcell, hm1⟩ := Hi1.out 4 (by omega)
    have C1 := CW.out a1 d1 4 w1 hm1 Hm1.out
    rw [HI.out 4, ← HN.out] at C1
    rw [← HN.out] at hcell
    have HE := Lib.hid (show ofK m 4 ↔ im m 4 = m ∧ im m 6 = m by simp [ofK])
    by_cases h4 : im m 4 = m
    · have hb : (im m 4 == m) = true := by simpa using h4
      rw [hb] at C1
      have C1 := Lib.hid C1
      have H4 := Lib.hid h4
      clear hm1 hb h4
      go_wp2_with fail
      refine C1.out.mono ?_
      rintro e w2 ⟨rfl, hq⟩
      obtain ⟨a2, d2, hcell2, hm2⟩ := (Hi1.out.below (hq.below _)) 6 (by omega)
      have C2 := CW.out a2 d2 6 w2 hm2 (Hm1.out.below (hq.below _))
      rw [HI.out 6, ← HN.out] at C2
      rw [← HN.out] at hcell2
      have C2 := Lib.hid C2
      have HB2 := Lib.hid (Hb1.out.trans (hq.below _))
      clear hq C1 hcell hm2
      go_wp2_with fail
      refine C2.out.mono ?_
      rintro e w3 ⟨rfl, hq⟩
      have HB3 := Lib.hid (HB2.out.trans (hq.below _))
      clear hq C2 hcell2
      go_wp2
      go_ret
      exact ⟨⟨_, rfl, by rw [HE.out]; simp [H4.out]⟩, HB3.out⟩
    · have hb : (im m 4 == m) = false := by simpa using h4
      rw [hb] at C1
      have C1 := Lib.hid C1
      have H4 := Lib.hid (show ¬ofK m 4 from fun h => h4 (HE.out.1 h).1)
      clear hm1 hb h4
      go_wp2_with fail
      refine C1.out.mono ?_
      rintro e w2 ⟨rfl, hq⟩
      have HB2 := Lib.hid (Hb1.out.trans (hq.below _))
      clear hq C1 hcell
      go_wp2
      go_ret
      exact ⟨Ans.no H4.out, HB2.out⟩

/-- the answer to HasSymmetry is told -/
def hsP (m : List (List Int)) (z : Int) : Prop := good m ∧ 0 ≤ z ∧ z ≤ 4

set_option maxRecDepth 100000 in
set_option maxHeartbeats 1600000 in
theorem specHasSymmetry_any (ao : Option Addr) (c : Nat) (m : List (List Int)) (z : Int) (w : World) (hs : Small m) (hm : MatAt w ao m) (_hz : -9223372036854775808 ≤ z ∧ z ≤ 9223372036854775807) :
    Calls Tryd.prog 12 #[.slice ao m.length c, .int .i64 z] w fun e w' => BRes (hsP m z) (ofK m z.toNat) e ∧ Below w.heap.size w w' := by
  have Hm := Lib.hid hm
  have CG := Lib.hid (sgGood_any ao c m w hs hm)
  have CO := Lib.hid (fun k w' (h : good m) (h2 : MatAt w' ao m) (hk : k < 5) => smHas_any ao c k m w' h.1 h2 hk)
  have CK : ∀ w', Calls Tryd.prog 40 #[.int .i64 z] w' fun e w'' => Ans (0 ≤ z ∧ z ≤ 4) e ∧ w' = w'' := fun w' => by
    have CI := Lib.hid (l1In_any z 0 4 w')
    go_enter Tryd.func40, Tryd.ntmps40
    go_wp2_with fail
    refine CI.out.mono ?_
    rintro e w2 ⟨⟨b, rfl, hb⟩, rfl⟩
    have Hb := Lib.hid hb
    clear hb
    go_wp2
    go_ret
    exact ⟨⟨_, rfl, Hb.out⟩, rfl⟩
  have CK := Lib.hid CK
  clear hm hs _hz
  go_enter Tryd.func12, Tryd.ntmps12
  go_wp2_with fail
  refine CG.out.mono ?_
  rintro e w1 ⟨ha, hb⟩
  have Hb := Lib.hid hb
  have hB := hb.size
  clear hb
  by_cases hg : good m
  · obtain rfl := ha.is hg
    have Hg := Lib.hid hg
    have Hm1 := Lib.hid (Hm.out.below Hb.out)
    clear ha hg CG
    go_wp2_with fail
    refine (CK.out _).mono ?_
    rintro e w2 ⟨ha, rfl⟩
    by_cases hz : 0 ≤ z ∧ z ≤ 4
    · obtain rfl := ha.is hz
      have Hz := Lib.hid hz
      obtain ⟨k, rfl⟩ : ∃ k : Nat, z = k := ⟨z.toNat, by omega⟩
      have CO2 := Lib.hid (CO.out k w1 Hg.out Hm1.out (by omega))
      clear ha hz CO
      go_wp2_with fail
      refine CO2.out.mono ?_
      rintro e w3 ⟨⟨b, rfl, hbb⟩, hb3⟩
      have Hbb := Lib.hid hbb
      have HB3 := Lib.hid (Hb.out.trans (hb3.mono hB))
      clear hbb hb3
      go_wp2
      go_ret2
      exact ⟨⟨_, _, rfl, .inl ⟨⟨Hg.out, Hz.out⟩, rfl, Hbb.out⟩⟩, HB3.out⟩
    · obtain rfl := ha.isnt hz
      have Hz := Lib.hid (show ¬hsP m z from fun h => hz h.2)
      clear ha hz
      go_wp2
      go_ret2
      exact ⟨⟨_, _, rfl, .inr ⟨Hz.out, rfl, rfl⟩⟩, Hb.out⟩
  · obtain rfl := ha.isnt hg
    have Hg := Lib.hid (show ¬hsP m z from fun h => hg h.1)
    clear ha hg
    go_wp2
    go_ret2
    exact ⟨⟨_, _, rfl, .inr ⟨Hg.out, rfl, rfl⟩⟩, Hb.out⟩

set_option maxRecDepth 100000 in
set_option maxHeartbeats 1600000 in
theorem isKind_any (z : Int) (w : World) : Calls Tryd.prog 44 #[.int .i64 z] w fun e w' => Ans (0 ≤ z ∧ z ≤ 4) e ∧ Below w.heap.size w w' := by
  obtain ⟨w1, hw1⟩ : ∃ w1, w1 = w.alloc (.cells #[.int .i64 z] 3) := ⟨_, rfl⟩
  have C := Lib.hid (allIn_any 0 4 (some ⟨w.heap.size, 0, none⟩) 1 [z] w1 (by simp) (by rw [hw1]; exact ints_oneH w _))
  have HB1 := Lib.hid (show Below w.heap.size w w1 by rw [hw1]; exact (Below.refl _ _).alloc (Nat.le_refl _) _)
  have Hw1 := Lib.hid hw1
  clear hw1
  go_enter Tryd.func44, Tryd.ntmps44
  go_wp2_with fail
  rw [← Hw1.out]
  refine C.out.mono ?_
  rintro e w2 ⟨⟨b, rfl, hb⟩, rfl⟩
  have Hb := Lib.hid (hb.trans allIn_oneH)
  clear hb
  go_wp2
  go_ret
  exact ⟨⟨_, rfl, Hb.out⟩, HB1.out⟩

set_option maxRecDepth 100000 in
set_option maxHeartbeats 1600000 in
theorem implHasSymmetry_any (ao : Option Addr) (c : Nat) (m : List (List Int)) (z : Int) (w : World) (hs : Small m) (hwf : WfM m) (hm : MatAt w ao m) (_hz : -9223372036854775808 ≤ z ∧ z ≤ 9223372036854775807) (hS : Sk w) :
    Calls Tryd.prog 14 #[.slice ao m.length c, .int .i64 z] w fun e w' => BRes (hsP m z) (ofK m z.toNat) e ∧ Below w.heap.size w w' := by
  have Hm := Lib.hid hm
  have HS := Lib.hid hS
  have CG := Lib.hid (implIsSign_any ao c m w hs hwf hm)
  have CO := Lib.hid (fun k w' (h : good m) (h2 : MatAt w' ao m) (hk : k < 5) (h3 : Sk w') => isOfKind_any ao c k m w' h.1 h2 hk h3)
  have CK := Lib.hid (fun w' => isKind_any z w')
  clear hm hs hwf hS _hz
  go_enter Tryd.func14, Tryd.ntmps14
  go_wp2_with fail
  refine CG.out.mono ?_
  rintro e w1 ⟨ha, hb⟩
  have Hb := Lib.hid hb
  have hB := hb.size
  clear hb
  by_cases hg : good m
  · obtain rfl := ha.is hg
    have Hg := Lib.hid hg
    clear ha hg CG
    go_wp2_with fail
    refine (CK.out _).mono ?_
    rintro e w2 ⟨ha, hb2⟩
    have Hb2 := Lib.hid (Hb.out.trans (hb2.mono hB))
    clear hb2
    by_cases hz : 0 ≤ z ∧ z ≤ 4
    · obtain rfl := ha.is hz
      have Hz := Lib.hid hz
      obtain ⟨k, rfl⟩ : ∃ k : Nat, z = k := ⟨z.toNat, by omega⟩
      have CO2 := Lib.hid (CO.out k w2 Hg.out (Hm.out.below Hb2.out) (by omega) (HS.out.below Hb2.out))
      clear ha hz CO
      go_wp2_with fail
      refine CO2.out.mono ?_
      rintro e w3 ⟨⟨b, rfl, hbb⟩, hb3⟩
      have Hbb := Lib.hid hbb
      have HB3 := Lib.hid (Hb2.out.trans (hb3.mono Hb2.out.size))
      clear hbb hb3
      go_wp2
      go_ret2
      exact ⟨⟨_, _, rfl, .inl ⟨⟨Hg.out, Hz.out⟩, rfl, Hbb.out⟩⟩, HB3.out⟩
    · obtain rfl := ha.isnt hz
      have Hz := Lib.hid (show ¬hsP m z from fun h => hz h.2)
      clear ha hz
      go_wp2
      go_ret2
      exact ⟨⟨_, _, rfl, .inr ⟨Hz.out, rfl, rfl⟩⟩, Hb2.out⟩
  · obtain rfl := ha.isnt hg
    have Hg := Lib.hid (show ¬hsP m z from fun h => hg h.1)
    clear ha hg
    go_wp2
    go_ret2
    exact ⟨⟨_, _, rfl, .inr ⟨Hg.out, rfl, rfl⟩⟩, Hb.out⟩
end Go.Proofs.YtgdijjfipicodaaDoor

namespace Go.Proofs.YtgdijjfipicodaaDoor
open Go.RowKit

/-- the first k rows can be those of a left half -/
def hfTo (rows : List (List Int)) (k : Nat) : Prop := ∀ i, i < k → (gr rows i).length = rows.length / 2 ∧ allIn (gr rows i) (-1) 1
theorem hfTo.lhP {rows : List (List Int)} (h : hfTo rows rows.length) (h1 : 1 ≤ rows.length ∧ rows.length ≤ 6) (h2 : rows.length % 2 = 1) : lhP rows := ⟨h1.1, h1.2, h2, fun i hi => (h i hi).1⟩
theorem sumK_bd {xs : List Int} (h : allIn xs (-1) 1) : ∀ t, t ≤ xs.length → -(t : Int) ≤ sumK xs t ∧ sumK xs t ≤ (t : Int)
  | 0, _ => by simp [sumK]
  | t + 1, ht => by
    have h1 := sumK_bd h t (by omega)
    have h2 := h t (by omega)
    rw [sumK]
    omega
theorem take_snoc {xs : List Int} {k : Nat} (hk : k < xs.length) : xs.take (k + 1) = xs.take k ++ [gi xs k] := by
  rw [List.take_succ_eq_append_getElem hk, gi_lt hk]
theorem lsM_row {rows : List (List Int)} {i : Nat} (hi : i < rows.length) : (gr (lsM rows) i).length = rows.length := tab_row hi
theorem lsM_low {rows : List (List Int)} {i h : Nat} (hi : i < rows.length) (hh : h = rows.length / 2) (hl : (gr rows i).length = h) : (gr (lsM rows) i).take h = gr rows i := by
  refine ext_gi (by rw [List.length_take, lsM_row hi]; omega) fun j hj => ?_
  rw [List.length_take, lsM_row hi] at hj
  have e : gi ((gr (lsM rows) i).take h) j = gi (gr (lsM rows) i) j := by
    unfold gi
    rw [List.getD, List.getD, List.getElem?_take_of_lt (by omega)]
  rw [e]
  unfold lsM
  rw [gi_tab hi (by omega)]
  unfold lsF
  rw [if_pos (by omega)]
theorem lsM_mid {rows : List (List Int)} {i h : Nat} (hi : i < rows.length) (hh : h = rows.length / 2) : gi (gr (lsM rows) i) h = 1 - 2 * sumK (gr rows i) h := by
  unfold lsM
  rw [gi_tab hi (by omega), hh, ls_mid]
theorem lsM_high {rows : List (List Int)} {i h t : Nat} (hi : i < rows.length) (hn : rows.length = 2 * h + 1) (ht : t < h) : gi (gr (lsM rows) i) (h + 1 + t) = gi (gr rows i) (h - 1 - t) := by
  unfold lsM
  rw [gi_tab hi (by omega)]
  unfold lsF
  rw [if_neg (by omega), if_neg (by omega), show rows.length - 1 - (h + 1 + t) = h - 1 - t from by omega]
theorem lsM_small {rows : List (List Int)} (h : rows.length ≤ 6) : Small (lsM rows) := ⟨by rw [lsM_len]; omega, fun i hi => by rw [lsM_len] at hi; rw [lsM_row hi]; omega⟩
theorem no_lh {rows : List (List Int)} {i : Nat} (hi : i < rows.length) (h : ¬((gr rows i).length = rows.length / 2)) : ¬(lhP rows ∧ good (lhM rows)) := fun k => h (k.1.2.2.2 i hi)
theorem no_ls {rows : List (List Int)} {i : Nat} (hi : i < rows.length) (hl : (gr rows i).length = rows.length / 2) (h : ¬allIn (gr rows i) (-1) 1) : ¬(lhP rows ∧ good (lhM rows)) := fun k => h fun j hj => (lh_good k.1 k.2).1 i hi j (by omega)

theorem OwnM.nilR {w : World} {B n c : Nat} {ao : Option Addr} {m : List (List Int)} (h : OwnM w B (.slice ao n c) m) : NilRows w ao m := by
  intro k b o r d hk e hc hr
  obtain ⟨vs, h⟩ := h
  obtain ⟨ao', c', e', _, _, hcell⟩ := ownsRow_read h.top
  cases e'
  obtain ⟨b1, o1, e1, hc1⟩ := hcell k hk
  rw [e] at e1
  cases e1
  rw [hc] at hc1
  have h2 := h.rows k hk
  rw [← Option.some.inj hc1, hr] at h2
  exact OwnI.nil_of h2 rfl

end Go.Proofs.YtgdijjfipicodaaDoor

namespace Go.Proofs.YtgdijjfipicodaaDoor
open Go.RowKit

theorem OwnP.extU {w : World} {B n k : Nat} {v : Value} {m m' : List (List Int)} {vs : List Value} (h : OwnP w B v n m k vs) (e : ∀ i, i < k → gr m' i = gr m i) : OwnP w B v n m' k vs :=
  ⟨h.top, fun i hi => by rw [e i hi]; exact h.rows i hi, h.apart⟩

set_option maxRecDepth 100000 in
set_option maxHeartbeats 1600000 in
theorem smCopy_any (ao : Option Addr) (c : Nat) (m : List (List Int)) (w : World) (hs : Small m) (hm : MatAt w ao m) (hz : NilRows w ao m) :
    Calls Tryd.prog 48 #[.slice ao m.length c] w fun e w' => ∃ v, e = .returned v ∧ OwnM w' w.heap.size v m ∧ Below w.heap.size w w' := by
  obtain ⟨j0, hj, hy0, hy1, hy2⟩ := info_parts Tryd.info_ints
  have hl := hs.1
  have hmx : m.length ≤ 9223372036854775807 := by omega
  have Hm := Lib.hid hm
  have Hs := Lib.hid hs
  have Hz := Lib.hid hz
  clear hm hs hz
  go_enter Tryd.func48, Tryd.ntmps48
  go_wp2
  go_loopw [3, 8] (fun out i wr => ∃ (k : Nat) (vs : List Value), k ≤ m.length ∧ i = .int .i64 k ∧ OwnP wr w.heap.size out k m k vs ∧ Below w.heap.size w wr) (fun _ i _ => m.length - (intOf i).toNat)
  case atStart => exact ⟨0, [], Nat.zero_le _, rfl, ⟨World.ownsRow_nil _ _ _ _, fun i hi => absurd hi (by omega), fun i j _ hj => absurd hj (by omega)⟩, Below.refl _ _⟩
  case round =>
    obtain ⟨k, vs, hk, rfl, hout, hbr⟩ := hrel
    have Hout := Lib.hid hout
    have Hbr := Lib.hid hbr
    have hB := hbr.size
    clear hout hbr
    by_cases hlt : k < m.length
    · obtain ⟨b1, o1, r1, d1, e1, hc0, hr1, _, _⟩ := Hm.out k hlt
      have hzk := Hz.out k b1 o1 r1 d1 hlt e1 hc0
      have hc1 := cell_below hc0 Hbr.out
      have CO := Lib.hid (l1Own_any r1 d1 (gr m k) wr (Hs.out.2 k hlt) (fun e => (hzk e).1) (hr1.below Hbr.out))
      subst e1
      clear hr1 hzk hc0
      go_wp2_with fail
      refine CO.out.mono ?_
      rintro e w2 ⟨cv, rfl, hv, hb⟩
      obtain ⟨ca, cc, rfl, _, _, _⟩ := hv.read
      have HV := Lib.hid hv
      have Hout2 := Lib.hid (Hout.out.below hb)
      have Hb := Lib.hid hb
      have hB2 := hb.size
      have hfr := Lib.hid (Hout.out.fresh hv (Nat.le_refl _))
      clear hv hb CO
      go_wp2_with (at_builtin; refine wpList_append_own _ rfl _ _ 22 rfl w.heap.size 42 j0 (.slice none 0 0) 1 24 Tryd.underlying22 hj hy0 hy1 hy2 rfl (by decide) _ _ _ rfl (World.ownsRow.alloc Hout2.out.top _) ⟨w2.heap.size, 0, none⟩ 1 1 [.slice ca (gr m k).length cc] rfl rfl ?d1 ?d2 ?d3 ?d4 ?d5 ?_)
      case d1 => exact cell_one_new _ _ _
      case d2 => intro u hu; simp at hu; subst hu; rfl
      case d3 => unfold maxLen; omega
      case d4 => omega
      case d5 => simp; omega
      intro v' w1 hown' hgrow _
      have hput := Hout2.out.snoc (show w.heap.size ≤ w2.heap.size by omega) (HV.out.base hB) hfr.out hown' hgrow
      have Hput := Lib.hid hput
      clear hput hown' hgrow
      go_wp2
      go_roundw
      case rel => exact ⟨k + 1, _, by omega, by go_num, Hput.out.1, (Hbr.out.trans (Hb.out.mono hB)).trans Hput.out.2⟩
      case measure => simp [intOf]; omega
    · obtain rfl : k = m.length := by omega
      go_wp2
      go_ret
      exact ⟨_, rfl, ⟨vs, Hout.out⟩, Hbr.out⟩

theorem usM_row {rows : List (List Int)} {L t q : Nat} (hL : L = rows.length) (ht : t < L) (hq : q = L - 1 - t) : gr (usM rows) (L + t) = (gr rows q).reverse := by
  rw [usM_high (by omega) (by omega), show 2 * rows.length - 1 - (L + t) = q from by omega]
theorem usM_small {rows : List (List Int)} (hs : Small rows) (h : rows.length ≤ 3) : Small (usM rows) := by
  refine ⟨by rw [usM_len]; omega, fun i hi => ?_⟩
  rw [usM_len] at hi
  by_cases e : i < rows.length
  · rw [usM_low e]; exact hs.2 i e
  · rw [usM_high (by omega) hi, List.length_reverse]; exact hs.2 _ (by omega)

end Go.Proofs.YtgdijjfipicodaaDoor

namespace Go.Proofs.YtgdijjfipicodaaDoor
open Go.RowKit

/-- the matrices of a kind among some -/
def ofL (k : Nat) (A : List (List (List Int))) : List (List (List Int)) := A.filter fun m => decide (ofK m k)
theorem ofL_len (k : Nat) (A : List (List (List Int))) : (ofL k A).length ≤ A.length := List.length_filter_le _ _
theorem ofL_yes {k j : Nat} {A : List (List (List Int))} (hj : j < A.length) (h : ofK (gt A j) k) : ofL k (A.take (j + 1)) = ofL k (A.take j) ++ [gt A j] := by
  unfold ofL
  rw [List.take_succ_eq_append_getElem hj, List.filter_append, gt_lt hj]
  rw [gt_lt hj] at h
  simp [h]
theorem ofL_no {k j : Nat} {A : List (List (List Int))} (hj : j < A.length) (h : ¬ofK (gt A j) k) : ofL k (A.take (j + 1)) = ofL k (A.take j) := by
  unfold ofL
  rw [List.take_succ_eq_append_getElem hj, List.filter_append]
  rw [gt_lt hj] at h
  simp [h]
theorem ofL_mem {k : Nat} {A : List (List (List Int))} {m : List (List Int)} (h : m ∈ ofL k A) : m ∈ A := (List.mem_filter.1 h).1
theorem OwnR.toV {w : World} {B : Nat} {v : Value} {m : List (List Int)} {vs : List Value} (h : OwnR w B v m vs) : OwnV w B v m vs := ⟨h.top, fun i hi => (h.rows i hi).base (Nat.zero_le _)⟩
theorem OwnP.toV2 {w : World} {B : Nat} {v : Value} {m : List (List Int)} {vs : List Value} (h : OwnP w B v m.length m m.length vs) : OwnV w B v m vs := ⟨h.top, fun i hi => (h.rows i hi).base (Nat.zero_le _)⟩

set_option maxRecDepth 100000 in
set_option maxHeartbeats 1600000 in
theorem smList_any (n k : Nat) (w : World) (h1 : 1 ≤ n) (h5 : n ≤ 5) (hk : k < 5) :
    Calls Tryd.prog 47 #[.int .i64 (n : Int), .int .i64 (k : Int)] w fun e w' => ∃ v us, e = .returned v ∧ OwnW w' w.heap.size v (ofL k (allW n)) us ∧ Below w.heap.size w w' := by
  have CA := Lib.hid (fun w' => weAll5_any n w' h1 h5)
  have Hsq := Lib.hid (fun m hm => (allW_sq n (by omega) m hm).resolve_left (by omega))
  have hlen := allW_len5 n (by omega)
  obtain ⟨A, hA⟩ : ∃ A, A = allW n := ⟨_, rfl⟩
  rw [← hA] at CA Hsq hlen ⊢
  have CH := Lib.hid (fun (a : Option Addr) c m w' (h : square m) (h2 : MatAt w' a m) => smHas_any a c k m w' h h2 hk)
  have hAm : A.length ≤ 9223372036854775807 := by omega
  clear hA h1 h5 hk
  go_enter Tryd.func47, Tryd.ntmps47
  go_wp2_with fail
  refine (CA.out _).mono ?_
  rintro e w2 ⟨v, vs, rfl, hv, hb⟩
  obtain ⟨ta, tc, rfl, _, _⟩ := hv.head
  have Hv := Lib.hid hv
  have Hb := Lib.hid hb
  clear hv hb CA
  go_wp2
  go_loopw [5, 11] (fun out i wr => ∃ (j : Nat) (us : List Value), j ≤ A.length ∧ i = .int .i64 j ∧ OwnW wr w2.heap.size out (ofL k (A.take j)) us ∧ Below w2.heap.size w2 wr) (fun _ i _ => A.length - (intOf i).toNat)
  case atStart => exact ⟨0, [], Nat.zero_le _, rfl, OwnW.nil _ _, Below.refl _ _⟩
  case round =>
    obtain ⟨j, us, hj, rfl, hown, hbr⟩ := hrel
    have Hown := Lib.hid hown
    have Hbr := Lib.hid hbr
    clear hown hbr
    by_cases hlt : j < A.length
    · have hvr := Hv.out.below Hbr.out
      obtain ⟨b1, o1, r1, d1, e1, hc1, hm1, _, _⟩ := hvr.at hlt
      obtain ⟨xs, hx⟩ := hvr.each j hlt
      have hval : vs.getD j undef = .slice r1 (gt A j).length d1 := by
        obtain ⟨ao', c', e', _, _, hcs⟩ := ownsRow_read hvr.top
        cases e'
        obtain ⟨b2, o2, e2, hc2⟩ := hcs j hlt
        rw [e1] at e2
        cases e2
        rw [hc1] at hc2
        exact (Option.some.inj hc2).symm
      rw [hval] at hx
      have CO := CH.out r1 d1 (gt A j) wr (Hsq.out _ (gt_mem hlt)) hm1
      have Hx := Lib.hid (hx.toV.base (Nat.zero_le _))
      have HS1 := Lib.hid (fun (h : ofK (gt A j) k) => ofL_yes hlt h)
      have HS2 := Lib.hid (fun (h : ¬ofK (gt A j) k) => ofL_no hlt h)
      have hln := ofL_len k (A.take j)
      rw [List.length_take] at hln
      obtain ⟨m, hm⟩ : ∃ m, m = gt A j := ⟨_, rfl⟩
      rw [← hm] at hc1 CO Hx HS1 HS2
      obtain ⟨u, hu⟩ : ∃ u, u = m.length := ⟨_, rfl⟩
      rw [← hu] at hc1 CO Hx
      have CO := Lib.hid CO
      subst e1
      clear hm hu hm1 hvr hx hval
      go_wp2_with fail
      refine CO.out.mono ?_
      rintro e w4 ⟨ha, hb4⟩
      have Hown4 := Lib.hid (Hown.out.below hb4)
      have Hx4 := Lib.hid (Hx.out.below hb4)
      have Hb4 := Lib.hid (Hbr.out.trans (hb4.mono Hbr.out.size))
      clear hb4 CO hc1 Hown Hx Hbr
      by_cases hok : ofK m k
      · obtain rfl := ha.is hok
        have HS := Lib.hid (HS1.out hok)
        have H1 := Lib.hid (OwnW.one (B := w2.heap.size) Hx4.out Hb4.out.size)
        clear ha hok
        go_wp2_with (at_builtin; refine wpList_tabsW rfl _ _ rfl w2.heap.size w2.heap.size _ (.slice (some ⟨w4.heap.size, 0, none⟩) 1 1) (ofL k (A.take j)) [m] us _ (Hown4.out.below ((Below.refl _ w4).alloc (Nat.le_refl _) _)) H1.out.1 rfl rfl ?c1 ?c2 ?_)
        case c1 => have := Hb4.out.size; simp; omega
        case c2 => simp; omega
        intro v5 w5 hown5 _ hb5
        rw [← HS.out] at hown5
        have Hown5 := Lib.hid hown5
        have HB5 := Lib.hid (Hb4.out.trans (H1.out.2.trans hb5))
        clear hown5 hb5
        go_wp2
        go_roundw
        case rel => exact ⟨j + 1, _, by omega, by go_num, Hown5.out, HB5.out⟩
        case measure => simp [intOf]; omega
      · obtain rfl := ha.isnt hok
        have HS := Lib.hid (HS2.out hok)
        clear ha hok
        go_wp2
        go_roundw
        case rel => exact ⟨j + 1, us, by omega, by go_num, by rw [HS.out]; exact Hown4.out, Hb4.out⟩
        case measure => simp [intOf]; omega
    · obtain rfl : j = A.length := by omega
      have HF := Lib.hid (show OwnW wr w.heap.size _ (ofL k A) us from by have h := Hown.out; rw [List.take_length] at h; exact h.base Hb.out.size)
      have HBf := Lib.hid (Hb.out.trans (Hbr.out.mono Hb.out.size))
      clear Hown
      go_wp2
      go_ret
      exact ⟨_, us, rfl, HF.out, HBf.out⟩

/-- a list of symmetric matrices is told -/
def lsP (n z : Int) : Prop := (1 ≤ n ∧ n ≤ 5) ∧ 0 ≤ z ∧ z ≤ 4
def lsL (n z : Int) : List (List (List Int)) := ofL z.toNat (allW n.toNat)

theorem smKind_any (z : Int) (w : World) : Calls Tryd.prog 40 #[.int .i64 z] w fun e w'' => Ans (0 ≤ z ∧ z ≤ 4) e ∧ w = w'' := by
  have CI := Lib.hid (l1In_any z 0 4 w)
  go_enter Tryd.func40, Tryd.ntmps40
  go_wp2_with fail
  refine CI.out.mono ?_
  rintro e w2 ⟨⟨b, rfl, hb⟩, rfl⟩
  have Hb := Lib.hid hb
  clear hb
  go_wp2
  go_ret
  exact ⟨⟨_, rfl, Hb.out⟩, rfl⟩

set_option maxRecDepth 100000 in
set_option maxHeartbeats 1600000 in
theorem specListSymmetric_any (n z : Int) (w : World) (_hn : -9223372036854775808 ≤ n ∧ n ≤ 9223372036854775807) (_hz : -9223372036854775808 ≤ z ∧ z ≤ 9223372036854775807) :
    Calls Tryd.prog 16 #[.int .i64 n, .int .i64 z] w fun e w' => TVRes (lsP n z) (lsL n z) w' e ∧ Below w.heap.size w w' := by
  clear _hn _hz
  by_cases hn : 1 ≤ n ∧ n ≤ 5
  · by_cases hz : 0 ≤ z ∧ z ≤ 4
    · obtain ⟨N, rfl⟩ : ∃ N : Nat, n = N := ⟨n.toNat, by omega⟩
      obtain ⟨K, rfl⟩ : ∃ K : Nat, z = K := ⟨z.toNat, by omega⟩
      have HP := Lib.hid (show lsP (N : Int) (K : Int) from ⟨hn, hz⟩)
      have HL := Lib.hid (show lsL (N : Int) (K : Int) = ofL K (allW N) from rfl)
      have Hn := Lib.hid hn
      have Hz := Lib.hid hz
      have CS := Lib.hid (fun w' => smList_any N K w' (by omega) (by omega) (by omega))
      have Hsq := Lib.hid (fun m hm => (allW_sq N (by omega) m (ofL_mem (k := K) hm)).resolve_left (by omega))
      have hlen := Nat.le_trans (ofL_len K (allW N)) (allW_len5 N (by omega))
      obtain ⟨A, hA⟩ : ∃ A, A = ofL K (allW N) := ⟨_, rfl⟩
      rw [← hA] at CS Hsq hlen HL
      have hAm : A.length ≤ 9223372036854775807 := by omega
      clear hn hz hA
      go_enter Tryd.func16, Tryd.ntmps16
      go_wp2_with fail
      refine (l1In_any _ _ _ w).mono ?_
      rintro e w1 ⟨ha, rfl⟩
      obtain rfl := ha.is Hn.out
      clear ha
      go_wp2_with fail
      refine (smKind_any _ _).mono ?_
      rintro e w1 ⟨ha, rfl⟩
      obtain rfl := ha.is Hz.out
      clear ha
      go_wp2_with fail
      refine (CS.out _).mono ?_
      rintro e w2 ⟨v, vs, rfl, hv, hb⟩
      obtain ⟨ta, tc, rfl, _, _⟩ := hv.head
      have Hv := Lib.hid hv
      have Hb := Lib.hid hb
      clear hv hb CS
      go_wp2
      go_loopw [6, 21] (fun out i wr => ∃ (j : Nat) (us : List Value), j ≤ A.length ∧ i = .int .i64 j ∧ OwnW wr w2.heap.size out (A.take j) us ∧ Below w2.heap.size w2 wr) (fun _ i _ => A.length - (intOf i).toNat)
      case atStart => exact ⟨0, [], Nat.zero_le _, rfl, OwnW.nil _ _, Below.refl _ _⟩
      case round =>
        obtain ⟨j, us, hj, rfl, hown, hbr⟩ := hrel
        have Hown := Lib.hid hown
        have Hbr := Lib.hid hbr
        clear hown hbr
        by_cases hlt : j < A.length
        · obtain ⟨b1, o1, r1, d1, e1, hc1, hm1, _, _⟩ := (Hv.out.below Hbr.out).at hlt
          have hsq := Hsq.out _ (gt_mem hlt)
          have CO := smCopy_any r1 d1 (gt A j) wr hsq.small hm1 (nilRows_full hm1 (fun i hi => by rw [hsq.2.2 i hi]; exact hsq.1))
          have HS := Lib.hid (show A.take (j + 1) = A.take j ++ [gt A j] from by rw [List.take_succ_eq_append_getElem hlt, gt_lt hlt])
          obtain ⟨m, hm⟩ : ∃ m, m = gt A j := ⟨_, rfl⟩
          rw [← hm] at hc1 CO HS
          obtain ⟨u, hu⟩ : ∃ u, u = m.length := ⟨_, rfl⟩
          have Hu := Lib.hid hu
          rw [← hu] at hc1 CO
          have CO := Lib.hid CO
          subst e1
          clear hm hu hm1 hsq
          go_wp2_with fail
          refine CO.out.mono ?_
          rintro e w4 ⟨x, rfl, hx, hb4⟩
          obtain ⟨xs, hxp⟩ := hx
          have Hx4 := Lib.hid (show OwnV w4 0 x m xs from (OwnP.toV2 hxp).base (Nat.zero_le _))
          obtain ⟨xa, xc, hxe, _, _, _⟩ := Hx4.out.read
          rw [hxe] at Hx4 ⊢
          have Hown4 := Lib.hid (Hown.out.below hb4)
          have Hb4 := Lib.hid (Hbr.out.trans (hb4.mono Hbr.out.size))
          have H1 := Lib.hid (OwnW.one (B := w2.heap.size) Hx4.out Hb4.out.size)
          clear hb4 CO hc1 Hown Hbr hxp hxe
          go_wp2_with (at_builtin; refine wpList_tabsW rfl _ _ rfl w2.heap.size w2.heap.size _ (.slice (some ⟨w4.heap.size, 0, none⟩) 1 1) (A.take j) [m] us _ (Hown4.out.below ((Below.refl _ w4).alloc (Nat.le_refl _) _)) H1.out.1 rfl rfl ?c1 ?c2 ?_)
          case c1 => have := Hb4.out.size; simp; omega
          case c2 => simp; omega
          intro v5 w5 hown5 _ hb5
          rw [← HS.out] at hown5
          have Hown5 := Lib.hid hown5
          have HB5 := Lib.hid (Hb4.out.trans (H1.out.2.trans hb5))
          clear hown5 hb5
          go_wp2
          go_roundw
          case rel => exact ⟨j + 1, _, by omega, by go_num, Hown5.out, HB5.out⟩
          case measure => simp [intOf]; omega
        · obtain rfl : j = A.length := by omega
          have HF := Lib.hid (show ReadsL wr _ (lsL (N : Int) (K : Int)) from by rw [HL.out]; have h := Hown.out; rw [List.take_length] at h; exact h.reads)
          have HBf := Lib.hid (Hb.out.trans (Hbr.out.mono Hb.out.size))
          clear Hown
          go_wp2
          go_ret2
          exact ⟨TVRes.yes HP.out HF.out, HBf.out⟩
    · have Hn := Lib.hid hn
      have Hz := Lib.hid hz
      have HP := Lib.hid (show ¬lsP n z from fun h => hz h.2)
      clear hn hz
      go_enter Tryd.func16, Tryd.ntmps16
      go_wp2_with fail
      refine (l1In_any _ _ _ w).mono ?_
      rintro e w1 ⟨ha, rfl⟩
      obtain rfl := ha.is Hn.out
      clear ha
      go_wp2_with fail
      refine (smKind_any _ _).mono ?_
      rintro e w1 ⟨ha, rfl⟩
      obtain rfl := ha.isnt Hz.out
      clear ha
      go_wp2
      go_ret2
      exact ⟨TVRes.no HP.out, Below.refl _ _⟩
  · have Hn := Lib.hid hn
    have HP := Lib.hid (show ¬lsP n z from fun h => hn h.1)
    clear hn
    go_enter Tryd.func16, Tryd.ntmps16
    go_wp2_with fail
    refine (l1In_any _ _ _ w).mono ?_
    rintro e w1 ⟨ha, rfl⟩
    obtain rfl := ha.isnt Hn.out
    clear ha
    go_wp2
    go_ret2
    exact ⟨TVRes.no HP.out, Below.refl _ _⟩
end Go.Proofs.YtgdijjfipicodaaDoor

