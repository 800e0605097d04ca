/- Parts of proofs: contracts and plain facts. Conditions: as each says. -/
import Derived.Test.YtfempacfaeknpaaK07
namespace Go.Proofs.Ytfempacfaeknpaa
open Go.RowKit

def boundD : Nat → Nat
  | 0 => 1
  | f + 1 => 1 + 6 * boundD f
theorem selfD_len (n : Nat) (row : List Int) : (selfD n row).length ≤ 1 := by unfold selfD; split <;> simp
theorem rowsTo_len {go : List Int → List (List Int)} {B : Nat} (h : ∀ b, (go b).length ≤ B) (row : List Int) : ∀ k, (rowsTo go row k).length ≤ k * B
  | 0 => by simp [rowsTo]
  | k + 1 => by
    rw [rowsTo_succ, List.length_append, Nat.succ_mul]
    have ih := rowsTo_len h row k
    have := h (row ++ [(k : Int) + 1])
    omega
/-- numbers of a row are 1 to n -/
def In1 (n : Nat) (row : List Int) : Prop := ∀ i, i < row.length → 1 ≤ gi row i ∧ gi row i ≤ n
theorem In1.most {n : Nat} (hn : n ≤ 6) {row : List Int} (h : In1 n row) : mostD n row ≤ n := by
  unfold mostD
  split
  · omega
  · next e => exact (h (row.length - 1) (by omega)).2
theorem In1.snoc {n : Nat} {row : List Int} (h : In1 n row) {x : Int} (h1 : 1 ≤ x) (h2 : x ≤ n) : In1 n (row ++ [x]) := by
  intro i hi
  rw [List.length_append, List.length_singleton] at hi
  by_cases e : i < row.length
  · have : gi (row ++ [x]) i = gi row i := by simp [gi, List.getD, List.getElem?_append_left e]
    rw [this]; exact h i e
  · obtain rfl : i = row.length := by omega
    have : gi (row ++ [x]) row.length = x := by simp [gi]
    rw [this]; exact ⟨h1, h2⟩
theorem rowsD_len {n : Nat} (hn : n ≤ 6) : ∀ f row, In1 n row → (rowsD n f row).length ≤ boundD f
  | 0, row, _ => by unfold rowsD boundD; exact selfD_len n row
  | f + 1, row, h => by
    unfold rowsD boundD
    rw [List.length_append]
    have h1 := selfD_len n row
    have h2 := h.most hn
    have h3 : (rowsTo (rowsD n f) row (mostD n row).toNat).length ≤ (mostD n row).toNat * boundD f := by
      have : ∀ k, k ≤ (mostD n row).toNat → (rowsTo (rowsD n f) row k).length ≤ k * boundD f := by
        intro k
        induction k with
        | zero => intro _; simp [rowsTo]
        | succ k ih =>
          intro hk
          rw [rowsTo_succ, List.length_append, Nat.succ_mul]
          have := ih (by omega)
          have := rowsD_len hn f (row ++ [(k : Int) + 1]) (h.snoc (by omega) (by omega))
          omega
      exact this _ (Nat.le_refl _)
    have h4 : (mostD n row).toNat * boundD f ≤ 6 * boundD f := Nat.mul_le_mul_right _ (by omega)
    omega
theorem rowsTo_part {n : Nat} (hn : n ≤ 6) {f : Nat} {row : List Int} (h : In1 n row) : ∀ k, k ≤ (mostD n row).toNat → (rowsTo (rowsD n f) row k).length ≤ k * boundD f := by
  intro k
  induction k with
  | zero => intro _; simp [rowsTo]
  | succ k ih =>
    intro hk
    rw [rowsTo_succ, List.length_append, Nat.succ_mul]
    have := ih (by omega)
    have h2 := h.most hn
    have := rowsD_len hn f (row ++ [(k : Int) + 1]) (h.snoc (by omega) (by omega))
    omega
theorem boundD_le {f : Nat} (h : f ≤ 5) : boundD f ≤ 9331 := by
  have : f = 0 ∨ f = 1 ∨ f = 2 ∨ f = 3 ∨ f = 4 ∨ f = 5 := by omega
  rcases this with rfl | rfl | rfl | rfl | rfl | rfl <;> decide
/-- all of them are rows of parts -/
theorem rowsD_row {n : Nat} : ∀ f row r, r ∈ rowsD n f row → DpRow r n
  | 0, row, r, h => by
    unfold rowsD selfD at h
    split at h
    · next e => rw [List.mem_singleton.1 h]; exact e
    · simp at h
  | f + 1, row, r, h => by
    unfold rowsD at h
    rcases List.mem_append.1 h with h | h
    · unfold selfD at h
      split at h
      · next e => rw [List.mem_singleton.1 h]; exact e
      · simp at h
    · unfold rowsTo at h
      obtain ⟨x, _, hx⟩ := List.mem_flatMap.1 h
      exact rowsD_row f _ r hx

set_option maxRecDepth 100000 in
set_option maxHeartbeats 6400000 in
theorem dpRows_any (n : Nat) (hn : n ≤ 6) : ∀ (f : Nat) (ao : Option Addr) (c : Nat) (row : List Int) (w : World), (f = 0 ∧ n ≤ row.length + 1 ∨ row.length + 1 + f = n) → In1 n row → row.length ≤ 6 → OwnI w 0 (.slice ao row.length c) row →
    Calls Try.prog 119 #[.slice ao row.length c, .int .i64 n] w fun e w' => ∃ v vs, e = .returned v ∧ OwnV w' w.heap.size v (rowsD n f row) vs ∧ Below w.heap.size w w' := by
  intro f
  induction f with
  | zero =>
    intro ao c row w hfl hin hr6 ho
    have hmx : row.length ≤ 9223372036854775807 := by omega
    have Ho := Lib.hid ho
    have hge : decide (n ≤ row.length + 1) = true := by simp; omega
    obtain ⟨L1, hL1⟩ : ∃ L1, L1 = row.length + 1 := ⟨_, rfl⟩
    have hw : IntKind.i64.wrap ((row.length : Int) + 1) = (L1 : Int) := by rw [w64 (by omega)]; omega
    rw [← hL1] at hge
    obtain ⟨R, hR⟩ : ∃ R, R = rowsD n 0 row := ⟨_, rfl⟩
    rw [← hR]
    have HR := Lib.hid (show R = selfD n row from hR)
    clear ho hfl hin hL1 hR
    go_enter Try.func119, Try.ntmps119
    go_wp2_with fail
    refine (dpRow_any ao c row n w hn (by omega) (own_at Ho.out)).mono ?_
    rintro e w2 ⟨ha, hq⟩
    have Ho2 := Lib.hid (Ho.out.below (hq.below _))
    have HB := Lib.hid (hq.below w.heap.size)
    clear hq
    by_cases q : DpRow row n
    · have HS := Lib.hid (show R = [row] from HR.out.trans (if_pos q))
      obtain rfl := ha.is q
      clear q ha Ho
      go_wp2_with (at_builtin; refine wpList_rowV rfl _ _ rfl w.heap.size 0 _ (.slice ao row.length c) [] [] row (OwnV.nil _ _) Ho2.out rfl rfl HB.out.size (by simp) ?_)
      intro v' w3 hown hb3
      have Hown := Lib.hid (show OwnV w3 w.heap.size v' R _ by rw [HS.out]; exact hown)
      have HB3 := Lib.hid (HB.out.trans hb3)
      clear hown hb3
      go_wp2
      go_ret
      exact ⟨_, _, rfl, Hown.out, HB3.out⟩
    · have HS := Lib.hid (show R = [] from HR.out.trans (if_neg q))
      obtain rfl := ha.isnt q
      clear q ha Ho
      go_wp2
      go_ret
      exact ⟨_, _, rfl, by rw [HS.out]; exact OwnV.nil _ _, HB.out⟩
  | succ f ih =>
    intro ao c row w hfl hin hr6 ho
    have hmx : row.length ≤ 9223372036854775807 := by omega
    have Ho := Lib.hid ho
    have IH := Lib.hid ih
    have Hin := Lib.hid hin
    have HL := Lib.hid (show row.length + 1 + (f + 1) = n by omega)
    obtain ⟨L1, hL1⟩ : ∃ L1, L1 = row.length + 1 := ⟨_, rfl⟩
    have hw : IntKind.i64.wrap ((row.length : Int) + 1) = (L1 : Int) := by rw [w64 (by omega)]; omega
    have hge : decide (n ≤ L1) = false := by simp; omega
    have Hbd := Lib.hid (boundD_le (f := f) (by omega))
    have Hpart := Lib.hid (rowsTo_part hn (f := f) hin)
    have Hself := Lib.hid (selfD_len n row)
    have hmost := hin.most hn
    obtain ⟨top, htop⟩ : ∃ top, top = mostD n row := ⟨_, rfl⟩
    obtain ⟨R, hR⟩ : ∃ R, R = rowsD n (f + 1) row := ⟨_, rfl⟩
    have hE : R = selfD n row ++ rowsTo (rowsD n f) row top.toNat := by rw [hR, htop]; rfl
    rw [← hR, hE]
    rw [← htop] at hmost Hpart
    have Htop := Lib.hid htop
    clear ho hfl hin hL1 ih hE htop hR
    go_enter Try.func119, Try.ntmps119
    go_wp2_with fail
    refine (dpRow_any ao c row n w hn (by omega) (own_at Ho.out)).mono ?_
    rintro e w2 ⟨ha, hq⟩
    have Ho2 := Lib.hid (Ho.out.below (hq.below _))
    have HB := Lib.hid (hq.below w.heap.size)
    clear hq
    by_cases h0 : row.length = 0
    · have q : ¬ DpRow row n := fun h => by have := h.1; omega
      have HS := Lib.hid (show selfD n row = [] from if_neg q)
      obtain rfl := ha.isnt q
      clear q ha
      have Hown := Lib.hid (show OwnV w2 w.heap.size (.slice none 0 0) (selfD n row) [] by rw [HS.out]; exact OwnV.nil _ _)
      have HB3 := HB
      have Ho0 := Ho
      clear Ho2
      have hz : decide (0 < row.length) = false := by rw [h0]; rfl
      have Htop2 := Lib.hid (show top = (n : Int) by rw [Htop.out]; exact if_pos h0)
      obtain rfl : top = (n : Int) := Htop2.out
      clear Htop2 Htop
      have hz1 : decide (0 < row.length) = false := hz
      clear h0 hz
      go_wp2
      go_loopw [5, 7] (fun out i wr => ∃ (k : Nat) (vs : List Value), k ≤ (n : Int).toNat ∧ i = .int .i64 ((k : Int) + 1) ∧ OwnV wr w.heap.size out (selfD n row ++ rowsTo (rowsD n f) row k) vs ∧ Below w.heap.size w wr) (fun _ i _ => 8 - (intOf i).toNat)
      case atStart => exact ⟨0, _, Nat.zero_le _, rfl, by rw [show rowsTo (rowsD n f) row 0 = [] from rfl, List.append_nil]; exact Hown.out, HB3.out⟩
      case round =>
        obtain ⟨k, vs, hk, rfl, hown, hbr⟩ := hrel
        have Hown1 := Lib.hid hown
        have Hbr := Lib.hid hbr
        have HBr := Lib.hid hbr.size
        have Hor := Lib.hid (Ho0.out.below hbr)
        clear hown hbr Hown HB3
        obtain ⟨q, hq⟩ : ∃ q : Int, q = (k : Int) + 1 := ⟨_, rfl⟩
        rw [← hq]
        by_cases hlt : q ≤ (n : Int)
        · have hd2 : decide (q ≤ (n : Int)) = true := decide_eq_true hlt
          have hwq : IntKind.i64.wrap (q + 1) = q + 1 := w64 (by omega)
          have Hst := Lib.hid (show selfD n row ++ rowsTo (rowsD n f) row (k + 1) = (selfD n row ++ rowsTo (rowsD n f) row k) ++ rowsD n f (row ++ [q]) by rw [rowsTo_succ, List.append_assoc, hq])
          have Hq := Lib.hid (show q = (k : Int) + 1 ∧ k + 1 ≤ (n : Int).toNat by omega)
          have Hkb := Lib.hid (show (selfD n row ++ rowsTo (rowsD n f) row k).length ≤ 60000 by
            rw [List.length_append]
            have h1 := Hself.out
            have h2 := Hpart.out k hk
            have h3 := Hbd.out
            have h4 : k * boundD f ≤ 6 * boundD f := Nat.mul_le_mul_right _ (by omega)
            omega)
          have Hin2 := Lib.hid (Hin.out.snoc (x := q) (by omega) (by omega))
          obtain ⟨M, hM⟩ : ∃ M, M = selfD n row ++ rowsTo (rowsD n f) row k := ⟨_, rfl⟩
          rw [← hM] at Hown1 Hst Hkb
          clear hq hk hM hlt
          go_wp2_with fail
          refine (l1Own_any _ c row wr (by omega) (fun e => (Hor.out.nil_of e).1) (own_at Hor.out)).mono ?_
          rintro e w4 ⟨cv, rfl, hv, hb2⟩
          have HV := Lib.hid hv
          have Hb2 := Lib.hid hb2
          clear hv hb2
          go_wp2_with (at_builtin; refine wpList_numT rfl _ _ rfl wr.heap.size _ _ q HV.out rfl rfl Hb2.out.size (by omega) ?_)
          intro rv w5 hrow hb3
          obtain ⟨ra, rc, hrv, _, _, _⟩ := hrow.read
          have HR := Lib.hid (hrow.base (Nat.zero_le _))
          obtain ⟨row2, hrw⟩ : ∃ row2, row2 = row ++ [q] := ⟨_, rfl⟩
          have hrl : row2.length = row.length + 1 := by rw [hrw]; simp
          rw [← hrw] at HR Hst hrv Hin2
          have HB5 := Lib.hid (Hbr.out.trans ((Hb2.out.trans hb3).mono HBr.out))
          have Hown5 := Lib.hid (Hown1.out.below (Hb2.out.trans hb3))
          obtain ⟨rl, hrl2⟩ : ∃ rl, rl = row2.length := ⟨_, rfl⟩
          rw [← hrl2] at hrv
          have hrlm : rl ≤ 9223372036854775807 := by omega
          subst hrv
          have CL := Lib.hid (IH.out ra rc row2 w5 (by have := HL.out; omega) Hin2.out (by have := HL.out; omega) (by rw [← hrl2]; exact HR.out))
          rw [← hrl2] at CL
          have Hsl := Lib.hid (rowsD_len hn f row2 Hin2.out)
          clear hrow hb3 hrw hrl hrl2 HV Hb2 HR
          go_wp2_with fail
          refine CL.out.mono ?_
          rintro e w6 ⟨sv, us, rfl, hsub, hb6⟩
          have Hown6 := Lib.hid (Hown5.out.below hb6)
          have Hsub := Lib.hid hsub
          have HB6 := Lib.hid (HB5.out.trans (hb6.mono HB5.out.size))
          obtain ⟨sa, sc, hsv, _, _, _⟩ := hsub.read
          obtain ⟨K, hK⟩ : ∃ K, K = rowsD n f row2 := ⟨_, rfl⟩
          rw [← hK] at Hsub Hst Hsl hsv
          have Hlen6 := Lib.hid (show M.length + K.length ≤ 1048576 by
            have := Hkb.out
            have := Hsl.out
            have := Hbd.out
            omega)
          subst hsv
          clear hsub hb6 hK CL
          go_wp2_with (at_builtin; refine wpList_rowsV rfl _ _ rfl w.heap.size w5.heap.size _ _ M K _ us Hown6.out Hsub.out rfl rfl HB6.out.size Hlen6.out ?_)
          intro v7 w7 hown7 hb7
          rw [← Hst.out] at hown7
          have Hown7 := Lib.hid hown7
          have HB7 := Lib.hid (HB6.out.trans hb7)
          clear hown7 hb7
          go_wp2
          go_roundw
          case rel => exact ⟨k + 1, _, Hq.out.2, by have := Hq.out.1; rw [this]; rfl, Hown7.out, HB7.out⟩
          case measure => have := Hq.out; simp [intOf]; omega
        · have hd2 : decide (q ≤ (n : Int)) = false := decide_eq_false hlt
          have Hk := Lib.hid (show k = (n : Int).toNat by omega)
          clear hlt hq hk
          go_wp2
          go_ret
          exact ⟨_, vs, rfl, by rw [← Hk.out]; exact Hown1.out, Hbr.out⟩
    · have hpos : 0 < row.length := by omega
      clear h0
      by_cases q : DpRow row n
      · have HS := Lib.hid (show selfD n row = [row] from if_pos q)
        obtain rfl := ha.is q
        clear q ha
        go_wp2_with (at_builtin; refine wpList_rowV rfl _ _ rfl w.heap.size 0 _ (.slice ao row.length c) [] [] row (OwnV.nil _ _) Ho2.out rfl rfl HB.out.size (by simp) ?_)
        intro v' w3 hown hb3
        have Hown := Lib.hid (show OwnV w3 w.heap.size v' (selfD n row) _ by rw [HS.out]; exact hown)
        have HB3 := Lib.hid (HB.out.trans hb3)
        have Ho0 := Lib.hid Ho
        clear Ho0
        have Ho0 := Ho
        clear hown hb3 Ho2
        have hz : decide (0 < row.length) = true := by simp; exact hpos
        obtain ⟨p, hp⟩ : ∃ p, p = row.length - 1 := ⟨_, rfl⟩
        have hwp : IntKind.i64.wrap ((row.length : Int) - 1) = (p : Int) := by rw [w64 (by omega)]; omega
        have hpl : p < row.length := by omega
        obtain ⟨b1, o1, e1, hc1⟩ := (own_at (Ho.out.below HB3.out)) p hpl
        have htp : gi row p = top := by rw [Htop.out, hp]; exact (if_neg (by omega)).symm
        rw [htp] at hc1
        subst e1
        clear hp htp
        go_wp2
        clear hc1 hwp
        go_loopw [5, 7] (fun out i wr => ∃ (k : Nat) (vs : List Value), k ≤ top.toNat ∧ i = .int .i64 ((k : Int) + 1) ∧ OwnV wr w.heap.size out (selfD n row ++ rowsTo (rowsD n f) row k) vs ∧ Below w.heap.size w wr) (fun _ i _ => 8 - (intOf i).toNat)
        case atStart => exact ⟨0, _, Nat.zero_le _, rfl, by rw [show rowsTo (rowsD n f) row 0 = [] from rfl, List.append_nil]; exact Hown.out, HB3.out⟩
        case round =>
          obtain ⟨k, vs, hk, rfl, hown, hbr⟩ := hrel
          have Hown1 := Lib.hid hown
          have Hbr := Lib.hid hbr
          have HBr := Lib.hid hbr.size
          have Hor := Lib.hid (Ho0.out.below hbr)
          clear hown hbr Hown HB3
          obtain ⟨q, hq⟩ : ∃ q : Int, q = (k : Int) + 1 := ⟨_, rfl⟩
          rw [← hq]
          by_cases hlt : q ≤ top
          · have hd2 : decide (q ≤ top) = true := decide_eq_true hlt
            have hwq : IntKind.i64.wrap (q + 1) = q + 1 := w64 (by omega)
            have Hst := Lib.hid (show selfD n row ++ rowsTo (rowsD n f) row (k + 1) = (selfD n row ++ rowsTo (rowsD n f) row k) ++ rowsD n f (row ++ [q]) by rw [rowsTo_succ, List.append_assoc, hq])
            have Hq := Lib.hid (show q = (k : Int) + 1 ∧ k + 1 ≤ top.toNat by omega)
            have Hkb := Lib.hid (show (selfD n row ++ rowsTo (rowsD n f) row k).length ≤ 60000 by
              rw [List.length_append]
              have h1 := Hself.out
              have h2 := Hpart.out k hk
              have h3 := Hbd.out
              have h4 : k * boundD f ≤ 6 * boundD f := Nat.mul_le_mul_right _ (by omega)
              omega)
            have Hin2 := Lib.hid (Hin.out.snoc (x := q) (by omega) (by omega))
            obtain ⟨M, hM⟩ : ∃ M, M = selfD n row ++ rowsTo (rowsD n f) row k := ⟨_, rfl⟩
            rw [← hM] at Hown1 Hst Hkb
            clear hq hk hM hlt
            go_wp2_with fail
            refine (l1Own_any _ c row wr (by omega) (fun e => (Hor.out.nil_of e).1) (own_at Hor.out)).mono ?_
            rintro e w4 ⟨cv, rfl, hv, hb2⟩
            have HV := Lib.hid hv
            have Hb2 := Lib.hid hb2
            clear hv hb2
            go_wp2_with (at_builtin; refine wpList_numT rfl _ _ rfl wr.heap.size _ _ q HV.out rfl rfl Hb2.out.size (by omega) ?_)
            intro rv w5 hrow hb3
            obtain ⟨ra, rc, hrv, _, _, _⟩ := hrow.read
            have HR := Lib.hid (hrow.base (Nat.zero_le _))
            obtain ⟨row2, hrw⟩ : ∃ row2, row2 = row ++ [q] := ⟨_, rfl⟩
            have hrl : row2.length = row.length + 1 := by rw [hrw]; simp
            rw [← hrw] at HR Hst hrv Hin2
            have HB5 := Lib.hid (Hbr.out.trans ((Hb2.out.trans hb3).mono HBr.out))
            have Hown5 := Lib.hid (Hown1.out.below (Hb2.out.trans hb3))
            obtain ⟨rl, hrl2⟩ : ∃ rl, rl = row2.length := ⟨_, rfl⟩
            rw [← hrl2] at hrv
            have hrlm : rl ≤ 9223372036854775807 := by omega
            subst hrv
            have CL := Lib.hid (IH.out ra rc row2 w5 (by have := HL.out; omega) Hin2.out (by have := HL.out; omega) (by rw [← hrl2]; exact HR.out))
            rw [← hrl2] at CL
            have Hsl := Lib.hid (rowsD_len hn f row2 Hin2.out)
            clear hrow hb3 hrw hrl hrl2 HV Hb2 HR
            go_wp2_with fail
            refine CL.out.mono ?_
            rintro e w6 ⟨sv, us, rfl, hsub, hb6⟩
            have Hown6 := Lib.hid (Hown5.out.below hb6)
            have Hsub := Lib.hid hsub
            have HB6 := Lib.hid (HB5.out.trans (hb6.mono HB5.out.size))
            obtain ⟨sa, sc, hsv, _, _, _⟩ := hsub.read
            obtain ⟨K, hK⟩ : ∃ K, K = rowsD n f row2 := ⟨_, rfl⟩
            rw [← hK] at Hsub Hst Hsl hsv
            have Hlen6 := Lib.hid (show M.length + K.length ≤ 1048576 by
              have := Hkb.out
              have := Hsl.out
              have := Hbd.out
              omega)
            subst hsv
            clear hsub hb6 hK CL
            go_wp2_with (at_builtin; refine wpList_rowsV rfl _ _ rfl w.heap.size w5.heap.size _ _ M K _ us Hown6.out Hsub.out rfl rfl HB6.out.size Hlen6.out ?_)
            intro v7 w7 hown7 hb7
            rw [← Hst.out] at hown7
            have Hown7 := Lib.hid hown7
            have HB7 := Lib.hid (HB6.out.trans hb7)
            clear hown7 hb7
            go_wp2
            go_roundw
            case rel => exact ⟨k + 1, _, Hq.out.2, by have := Hq.out.1; rw [this]; rfl, Hown7.out, HB7.out⟩
            case measure => have := Hq.out; simp [intOf]; omega
          · have hd2 : decide (q ≤ top) = false := decide_eq_false hlt
            have Hk := Lib.hid (show k = top.toNat by omega)
            clear hlt hq hk
            go_wp2
            go_ret
            exact ⟨_, vs, rfl, by rw [← Hk.out]; exact Hown1.out, Hbr.out⟩
      · have HS := Lib.hid (show selfD n row = [] from if_neg q)
        obtain rfl := ha.isnt q
        clear q ha
        have Hown := Lib.hid (show OwnV w2 w.heap.size (.slice none 0 0) (selfD n row) [] by rw [HS.out]; exact OwnV.nil _ _)
        have HB3 := HB
        have Ho0 := Ho
        clear Ho2
        have hz : decide (0 < row.length) = true := by simp; exact hpos
        obtain ⟨p, hp⟩ : ∃ p, p = row.length - 1 := ⟨_, rfl⟩
        have hwp : IntKind.i64.wrap ((row.length : Int) - 1) = (p : Int) := by rw [w64 (by omega)]; omega
        have hpl : p < row.length := by omega
        obtain ⟨b1, o1, e1, hc1⟩ := (own_at (Ho.out.below HB3.out)) p hpl
        have htp : gi row p = top := by rw [Htop.out, hp]; exact (if_neg (by omega)).symm
        rw [htp] at hc1
        subst e1
        clear hp htp
        go_wp2
        clear hc1 hwp
        go_loopw [5, 7] (fun out i wr => ∃ (k : Nat) (vs : List Value), k ≤ top.toNat ∧ i = .int .i64 ((k : Int) + 1) ∧ OwnV wr w.heap.size out (selfD n row ++ rowsTo (rowsD n f) row k) vs ∧ Below w.heap.size w wr) (fun _ i _ => 8 - (intOf i).toNat)
        case atStart => exact ⟨0, _, Nat.zero_le _, rfl, by rw [show rowsTo (rowsD n f) row 0 = [] from rfl, List.append_nil]; exact Hown.out, HB3.out⟩
        case round =>
          obtain ⟨k, vs, hk, rfl, hown, hbr⟩ := hrel
          have Hown1 := Lib.hid hown
          have Hbr := Lib.hid hbr
          have HBr := Lib.hid hbr.size
          have Hor := Lib.hid (Ho0.out.below hbr)
          clear hown hbr Hown HB3
          obtain ⟨q, hq⟩ : ∃ q : Int, q = (k : Int) + 1 := ⟨_, rfl⟩
          rw [← hq]
          by_cases hlt : q ≤ top
          · have hd2 : decide (q ≤ top) = true := decide_eq_true hlt
            have hwq : IntKind.i64.wrap (q + 1) = q + 1 := w64 (by omega)
            have Hst := Lib.hid (show selfD n row ++ rowsTo (rowsD n f) row (k + 1) = (selfD n row ++ rowsTo (rowsD n f) row k) ++ rowsD n f (row ++ [q]) by rw [rowsTo_succ, List.append_assoc, hq])
            have Hq := Lib.hid (show q = (k : Int) + 1 ∧ k + 1 ≤ top.toNat by omega)
            have Hkb := Lib.hid (show (selfD n row ++ rowsTo (rowsD n f) row k).length ≤ 60000 by
              rw [List.length_append]
              have h1 := Hself.out
              have h2 := Hpart.out k hk
              have h3 := Hbd.out
              have h4 : k * boundD f ≤ 6 * boundD f := Nat.mul_le_mul_right _ (by omega)
              omega)
            have Hin2 := Lib.hid (Hin.out.snoc (x := q) (by omega) (by omega))
            obtain ⟨M, hM⟩ : ∃ M, M = selfD n row ++ rowsTo (rowsD n f) row k := ⟨_, rfl⟩
            rw [← hM] at Hown1 Hst Hkb
            clear hq hk hM hlt
            go_wp2_with fail
            refine (l1Own_any _ c row wr (by omega) (fun e => (Hor.out.nil_of e).1) (own_at Hor.out)).mono ?_
            rintro e w4 ⟨cv, rfl, hv, hb2⟩
            have HV := Lib.hid hv
            have Hb2 := Lib.hid hb2
            clear hv hb2
            go_wp2_with (at_builtin; refine wpList_numT rfl _ _ rfl wr.heap.size _ _ q HV.out rfl rfl Hb2.out.size (by omega) ?_)
            intro rv w5 hrow hb3
            obtain ⟨ra, rc, hrv, _, _, _⟩ := hrow.read
            have HR := Lib.hid (hrow.base (Nat.zero_le _))
            obtain ⟨row2, hrw⟩ : ∃ row2, row2 = row ++ [q] := ⟨_, rfl⟩
            have hrl : row2.length = row.length + 1 := by rw [hrw]; simp
            rw [← hrw] at HR Hst hrv Hin2
            have HB5 := Lib.hid (Hbr.out.trans ((Hb2.out.trans hb3).mono HBr.out))
            have Hown5 := Lib.hid (Hown1.out.below (Hb2.out.trans hb3))
            obtain ⟨rl, hrl2⟩ : ∃ rl, rl = row2.length := ⟨_, rfl⟩
            rw [← hrl2] at hrv
            have hrlm : rl ≤ 9223372036854775807 := by omega
            subst hrv
            have CL := Lib.hid (IH.out ra rc row2 w5 (by have := HL.out; omega) Hin2.out (by have := HL.out; omega) (by rw [← hrl2]; exact HR.out))
            rw [← hrl2] at CL
            have Hsl := Lib.hid (rowsD_len hn f row2 Hin2.out)
            clear hrow hb3 hrw hrl hrl2 HV Hb2 HR
            go_wp2_with fail
            refine CL.out.mono ?_
            rintro e w6 ⟨sv, us, rfl, hsub, hb6⟩
            have Hown6 := Lib.hid (Hown5.out.below hb6)
            have Hsub := Lib.hid hsub
            have HB6 := Lib.hid (HB5.out.trans (hb6.mono HB5.out.size))
            obtain ⟨sa, sc, hsv, _, _, _⟩ := hsub.read
            obtain ⟨K, hK⟩ : ∃ K, K = rowsD n f row2 := ⟨_, rfl⟩
            rw [← hK] at Hsub Hst Hsl hsv
            have Hlen6 := Lib.hid (show M.length + K.length ≤ 1048576 by
              have := Hkb.out
              have := Hsl.out
              have := Hbd.out
              omega)
            subst hsv
            clear hsub hb6 hK CL
            go_wp2_with (at_builtin; refine wpList_rowsV rfl _ _ rfl w.heap.size w5.heap.size _ _ M K _ us Hown6.out Hsub.out rfl rfl HB6.out.size Hlen6.out ?_)
            intro v7 w7 hown7 hb7
            rw [← Hst.out] at hown7
            have Hown7 := Lib.hid hown7
            have HB7 := Lib.hid (HB6.out.trans hb7)
            clear hown7 hb7
            go_wp2
            go_roundw
            case rel => exact ⟨k + 1, _, Hq.out.2, by have := Hq.out.1; rw [this]; rfl, Hown7.out, HB7.out⟩
            case measure => have := Hq.out; simp [intOf]; omega
          · have hd2 : decide (q ≤ top) = false := decide_eq_false hlt
            have Hk := Lib.hid (show k = top.toNat by omega)
            clear hlt hq hk
            go_wp2
            go_ret
            exact ⟨_, vs, rfl, by rw [← Hk.out]; exact Hown1.out, Hbr.out⟩

end Go.Proofs.Ytfempacfaeknpaa

namespace Go.Proofs.Ytfempacfaeknpaa
open Go.RowKit

theorem filter_take {A : List (List Int)} {p : List Int → Bool} {k : Nat} (h : k < A.length) : (A.take (k + 1)).filter p = (A.take k).filter p ++ if p (gr A k) then [gr A k] else [] := by
  rw [List.take_succ_eq_append_getElem h, List.filter_append, gr_lt h]
  congr 1
  by_cases e : p A[k] <;> simp [e]

set_option maxRecDepth 100000 in
set_option maxHeartbeats 3200000 in
theorem dpNext_any (n : Nat) (h1 : 1 ≤ n) (hn : n ≤ 6) (ao : Option Addr) (c : Nat) (rows : List (List Int)) (w : World) (hs : Small rows) (hm : MatAt w ao rows) :
    Calls Try.prog 88 #[.slice ao rows.length c, .int .i64 n] w fun e w' => ∃ v vs, e = .returned v ∧ OwnV w' w.heap.size v (nextD n rows) vs ∧ Below w.heap.size w w' := by
  have hmx : rows.length ≤ 9223372036854775807 := by have := hs.1; omega
  have Hs := Lib.hid hs
  have Hm := Lib.hid hm
  have CD := Lib.hid (dpRows_any n hn (n - 1) none 0 [] w (by simp; omega) (fun i hi => absurd hi (by simp)) (by simp) (OwnI.nil _ _))
  have Hall := Lib.hid (fun r => rowsD_row (n := n) (n - 1) [] r)
  have hlen := rowsD_len hn (n - 1) [] (fun i hi => absurd hi (by simp))
  have hbl := boundD_le (f := n - 1) (by omega)
  unfold nextD
  obtain ⟨A, hA⟩ : ∃ A, A = rowsD n (n - 1) [] := ⟨_, rfl⟩
  rw [← hA] at CD Hall hlen ⊢
  have hAl : A.length ≤ 9331 := by omega
  have hAm : A.length ≤ 9223372036854775807 := by omega
  clear hs hm hA hlen hbl
  go_enter Try.func88, Try.ntmps88
  go_wp2_with fail
  refine CD.out.mono ?_
  rintro e w2 ⟨v, us, rfl, hv, hb⟩
  obtain ⟨aa, ac, hva, _, _, _⟩ := hv.read
  subst hva
  have HA := Lib.hid hv
  have HB := Lib.hid hb
  have HM2 := Lib.hid (Hm.out.below hb)
  clear hv hb CD Hm
  go_wp2
  go_loopw [5, 11] (fun out i wr => ∃ (k : Nat) (vs : List Value), k ≤ A.length ∧ i = .int .i64 k ∧ OwnV wr w2.heap.size out ((A.take k).filter (belD rows)) vs ∧ Below w2.heap.size w2 wr) (fun _ i _ => A.length - (intOf i).toNat)
  case atStart => exact ⟨0, [], Nat.zero_le _, rfl, OwnV.nil _ _, Below.refl _ _⟩
  case round =>
    obtain ⟨k, vs, hk, rfl, hown, hbr⟩ := hrel
    have Hown := Lib.hid hown
    have Hbr := Lib.hid hbr
    clear hown hbr
    by_cases hlt : k < A.length
    · obtain ⟨b1, o1, r1, d1, e1, hc1, hr1, hi1, _, _⟩ := (HA.out.below Hbr.out).rowAt hlt
      have Hu := Lib.hid (show OwnI wr 0 (.slice r1 (gr A k).length d1) (gr A k) by rw [← hr1]; exact (HA.out.below Hbr.out).rows k hlt)
      have HR := Lib.hid (Hall.out _ (gr_mem hlt))
      have Hst := Lib.hid (filter_take (p := belD rows) hlt)
      have Hlk := Lib.hid (show ((A.take k).filter (belD rows)).length < 1048576 by
        have h1 := List.length_filter_le (belD rows) (A.take k)
        rw [List.length_take] at h1
        omega)
      obtain ⟨F, hF⟩ : ∃ F, F = (A.take k).filter (belD rows) := ⟨_, rfl⟩
      rw [← hF] at Hown Hst Hlk
      obtain ⟨row, hrow⟩ : ∃ row, row = gr A k := ⟨_, rfl⟩
      rw [← hrow] at hc1 hi1 Hu HR Hst
      have Hi1 := Lib.hid hi1
      have hrl : row.length ≤ 6 := by have := HR.out.2.1; omega
      have hrm : row.length ≤ 9223372036854775807 := by omega
      have HBr := Lib.hid Hbr.out.size
      subst e1
      clear hr1 hi1 hF hrow
      by_cases h0 : rows.length = 0
      · have hz : ((rows.length : Int) == 0) = true := by simp [h0]
        have Hb1 := Lib.hid (show belD rows row = true by unfold belD; simp [h0])
        rw [Hb1.out, if_pos rfl] at Hst
        clear h0
        go_wp2_with (at_builtin; refine wpList_rowV rfl _ _ rfl w2.heap.size 0 _ (.slice r1 row.length d1) F vs row Hown.out Hu.out rfl rfl HBr.out Hlk.out ?_)
        intro v7 w7 hown7 hb7
        rw [← Hst.out] at hown7
        have Hown7 := Lib.hid hown7
        have HB7 := Lib.hid (Hbr.out.trans hb7)
        clear hown7 hb7
        go_wp2
        go_roundw
        case rel => exact ⟨k + 1, _, by omega, by go_num, Hown7.out, HB7.out⟩
        case measure => simp [intOf]; omega
      · have hz : ((rows.length : Int) == 0) = false := beq_eq_false_iff_ne.2 (by omega)
        obtain ⟨p, hp⟩ : ∃ p, p = rows.length - 1 := ⟨_, rfl⟩
        have hwp : IntKind.i64.wrap ((rows.length : Int) - 1) = (p : Int) := by rw [w64 (by omega)]; omega
        have hpl : p < rows.length := by omega
        obtain ⟨b3, o3, r3, d3, e3, hc3, hr3, _, _⟩ := (HM2.out.below Hbr.out) p hpl
        have Hr3 := Lib.hid hr3
        have Hlp := Lib.hid (Hs.out.2 p hpl)
        have Hp := Lib.hid (show belD rows row = decide (DpBel row (gr rows p)) by unfold belD; rw [← hp]; simp [h0])
        subst e3
        clear hr3 hp h0
        go_wp2_with fail
        refine (dpBelow_any r1 r3 d1 d3 row (gr rows p) wr HR.out.1 (by omega) Hlp.out Hi1.out Hr3.out).mono ?_
        rintro e w5 ⟨ha, rfl⟩
        by_cases q : DpBel row (gr rows p)
        · rw [Hp.out, decide_eq_true q, if_pos rfl] at Hst
          obtain rfl := ha.is q
          clear q ha hc3
          go_wp2_with (at_builtin; refine wpList_rowV rfl _ _ rfl w2.heap.size 0 _ (.slice r1 row.length d1) F vs row Hown.out Hu.out rfl rfl HBr.out Hlk.out ?_)
          intro v7 w7 hown7 hb7
          rw [← Hst.out] at hown7
          have Hown7 := Lib.hid hown7
          have HB7 := Lib.hid (Hbr.out.trans hb7)
          clear hown7 hb7
          go_wp2
          go_roundw
          case rel => exact ⟨k + 1, _, by omega, by go_num, Hown7.out, HB7.out⟩
          case measure => simp [intOf]; omega
        · rw [Hp.out, decide_eq_false q, if_neg (by simp), List.append_nil] at Hst
          obtain rfl := ha.isnt q
          clear q ha hc3
          go_wp2
          go_roundw
          case rel => exact ⟨k + 1, vs, by omega, by go_num, by rw [Hst.out]; exact Hown.out, Hbr.out⟩
          case measure => simp [intOf]; omega
    · obtain rfl : k = A.length := by omega
      have HF := Lib.hid (show OwnV wr w.heap.size _ (A.filter (belD rows)) vs from by have := Hown.out; rw [List.take_length] at this; exact this.base HB.out.size)
      have HB3 := Lib.hid (HB.out.trans (Hbr.out.mono HB.out.size))
      clear Hown
      go_wp2
      go_ret
      exact ⟨_, vs, rfl, HF.out, HB3.out⟩
end Go.Proofs.Ytfempacfaeknpaa

