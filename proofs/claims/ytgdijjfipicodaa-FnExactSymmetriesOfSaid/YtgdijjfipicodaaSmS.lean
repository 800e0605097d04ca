/- Contracts of the model: the images of a matrix, the symmetries that it has. Condition: a square table of at most six rows. -/
import Derived.Test.YtgdijjfipicodaaSmM
import Derived.Test.YtgdijjfipicodaaSpecC
import Derived.Test.YtgdijjfipicodaaWeq
import Derived.Test.YtgdijjfipicodaaOwnT
import Derived.Test.YtgdijjfipicodaaOwnW
import Derived.Test.YtgdijjfipicodaaLRes
namespace Go.Proofs.Ytgdijjfipicodaa
open Go.RowKit

/-- the images of a matrix, read at an address -/
def ImAt (w : World) (g : Nat) (m : List (List Int)) : Prop := ∀ i, i < 8 → ∃ ao c, w.cell? ⟨g, i, none⟩ = some (.slice ao m.length c) ∧ MatAt w ao (im m i)
theorem ImAt.below {w w' : World} {g : Nat} {m : List (List Int)} (h : ImAt w g m) (hb : Below w.heap.size w w') : ImAt w' g m := fun i hi => by
  obtain ⟨ao, c, h1, h2⟩ := h i hi
  exact ⟨ao, c, cell_below h1 hb, h2.below hb⟩

theorem OwnM.grownT {w w1 : World} {B B' n : Nat} {x v : Value} {m : List (List Int)} {ys : List Value} {e' : TypeId} {o : Obj} (h : OwnM w B x m) (h1 : 24 ≠ e') (h2 : 3 ≠ e') (ht : w.ownsRow B' e' 1 v n ys) (hg : (w.alloc o).grownBy w1 v.ownBlock) : OwnM w1 B x m := by
  have hb : Below w.heap.size w (w.alloc o) := (Below.refl _ _).alloc (Nat.le_refl _) _
  obtain ⟨vs, h⟩ := h
  exact ⟨vs, row_kept (ownsRow_below h.top hb) (ownsRow_below ht hb) h1 hg, fun i hi => row_kept (ownsRow_below (h.rows i hi) hb) (ownsRow_below ht hb) h2 hg, h.apart⟩

/-- a list of images under way: the first one is the matrix itself, the others are the call's own -/
structure SymO (w : World) (B : Nat) (ao : Option Addr) (c : Nat) (m : List (List Int)) (v : Value) (K : Nat) (vs : List Value) : Prop where
  top : w.ownsRow B 22 1 v K vs
  pos : 1 ≤ K
  zero : vs.getD 0 undef = .slice ao m.length c
  each : ∀ i, 1 ≤ i → i < K → OwnM w B (vs.getD i undef) (im m i)
theorem SymO.below {w w' : World} {B c K : Nat} {ao : Option Addr} {m : List (List Int)} {v : Value} {vs : List Value} (h : SymO w B ao c m v K vs) (hb : Below w.heap.size w w') : SymO w' B ao c m v K vs :=
  ⟨ownsRow_below h.top hb, h.pos, h.zero, fun i h1 h2 => (h.each i h1 h2).below hb⟩
theorem SymO.len {w : World} {B c K : Nat} {ao : Option Addr} {m : List (List Int)} {v : Value} {vs : List Value} (h : SymO w B ao c m v K vs) : vs.length = K := by simpa using h.top.1
theorem SymO.read {w : World} {B c K : Nat} {ao : Option Addr} {m : List (List Int)} {v : Value} {vs : List Value} (h : SymO w B ao c m v K vs) (hsq : square m) (hm : MatAt w ao m) {i : Nat} (hi : i < K) : ∃ a d, vs.getD i undef = .slice a m.length d ∧ MatAt w a (im m i) := by
  by_cases h0 : i = 0
  · subst h0; exact ⟨ao, c, h.zero, by rw [im_zero]; exact hm⟩
  · obtain ⟨a, d, e, _, _, hmm⟩ := (h.each i (by omega) hi).read
    exact ⟨a, d, by rw [e, (sq_im hsq i).1], hmm⟩
theorem SymO.snoc {w w1 : World} {B c K : Nat} {ao : Option Addr} {m : List (List Int)} {v v' u : Value} {vs : List Value} {o : Obj} (h : SymO w B ao c m v K vs) (hB : B ≤ w.heap.size) (hu : OwnM w B u (im m K))
    (h1 : w1.ownsRow B 22 1 v' (K + 1) (vs ++ [u])) (hg : (w.alloc o).grownBy w1 v.ownBlock) : SymO w1 B ao c m v' (K + 1) (vs ++ [u]) ∧ Below B w w1 := by
  have hl := h.len
  have hp := h.pos
  have hget : ∀ i, (vs ++ [u]).getD i undef = if i = K then u else vs.getD i undef := fun i => by
    simp only [List.getD]
    split
    · next e => subst e; rw [List.getElem?_append_right (by omega), hl]; simp
    · next e =>
      by_cases h2 : i < K
      · rw [List.getElem?_append_left (by omega)]
      · rw [List.getElem?_eq_none (by simp; omega), List.getElem?_eq_none (by omega)]
  refine ⟨⟨h1, by omega, by rw [hget, if_neg (by omega)]; exact h.zero, fun i hi1 hi2 => ?_⟩, Below.grown ((Below.refl B w).alloc hB o) hg (by simp; omega) (fun k hk => (World.ownsRow.lt h.top k hk).1)⟩
  rw [hget]
  split
  · next e => subst e; exact hu.grownT (by decide) (by decide) h.top hg
  · next e => exact (h.each i hi1 (by omega)).grownT (by decide) (by decide) h.top hg
theorem SymO.one (w : World) (ao : Option Addr) (c : Nat) (m : List (List Int)) : SymO (w.alloc (.cells #[.slice ao m.length c] 22)) w.heap.size ao c m (.slice (some ⟨w.heap.size, 0, none⟩) 1 1) 1 [.slice ao m.length c] :=
  ⟨⟨by simp, .inr ⟨w.heap.size, 1, _, rfl, Nat.le_refl _, heap_alloc_new w _, Nat.le_refl _, by decide, rfl, rfl⟩⟩, Nat.le_refl _, rfl, fun i h1 h2 => by omega⟩
theorem SymO.isAt {w : World} {B c K : Nat} {ao : Option Addr} {m : List (List Int)} {v : Value} {vs : List Value} (h : SymO w B ao c m v K vs) : ∃ g cap, v = .slice (some ⟨g, 0, none⟩) K cap ∧ K ≤ cap ∧ cap ≤ 9223372036854775807 ∧ B ≤ g := by
  rcases h.top.2 with ⟨_, h0⟩ | ⟨g, cap, cur, hv, hb, _, hn, hm, _⟩
  · have := h.pos; omega
  · exact ⟨g, cap, hv, hn, hm, hb⟩
theorem SymO.cellAt {w : World} {B c K g cap : Nat} {ao : Option Addr} {m : List (List Int)} {vs : List Value} (h : SymO w B ao c m (.slice (some ⟨g, 0, none⟩) K cap) K vs) {i : Nat} (hi : i < K) : w.cell? ⟨g, i, none⟩ = some (vs.getD i undef) := by
  have hl := h.len
  rw [World.ownsRow.cellAt h.top i (by omega), List.getD, List.getElem?_eq_getElem (by omega)]
  rfl

set_option maxRecDepth 100000 in
set_option maxHeartbeats 3200000 in
theorem smSymmetries_any (ao : Option Addr) (c : Nat) (m : List (List Int)) (w : World) (hsq : square m) (hm : MatAt w ao m) :
    Calls Try.prog 50 #[.slice ao m.length c] w fun e w' => ∃ g cap, e = .returned (.slice (some ⟨g, 0, none⟩) 8 cap) ∧ 8 ≤ cap ∧ cap ≤ 9223372036854775807 ∧ ImAt w' g m ∧ Below w.heap.size w w' := by
  obtain ⟨j0, hj, hy0, hy1, hy2⟩ := info_parts Try.info_intssW
  obtain ⟨n, hn⟩ : ∃ n, n = m.length := ⟨_, rfl⟩
  have HN := Lib.hid hn
  have hn6 : n ≤ 6 := by rw [hn]; exact hsq.2.1
  have hmx : n ≤ 9223372036854775807 := by omega
  have Hsq := Lib.hid hsq
  have Hm := Lib.hid hm
  have H0 := SymO.one w ao c m
  rw [← hn] at H0 ⊢
  have H0 := Lib.hid H0
  have HB0 := Lib.hid (show Below w.heap.size w (w.alloc (.cells #[.slice ao n c] 22)) from (Below.refl _ _).alloc (Nat.le_refl _) _)
  clear hsq hm hn
  go_enter Try.func50, Try.ntmps50
  go_wp2
  go_loopw [3, 4, 5] (fun all now i wr => ∃ (k : Nat) (vs : List Value), k ≤ 3 ∧ i = .int .i64 k ∧ SymO wr w.heap.size ao c m all (k + 1) vs ∧ now = vs.getD k undef ∧ Below w.heap.size w wr) (fun _ _ i _ => 3 - (intOf i).toNat)
  case atStart => exact ⟨0, _, Nat.zero_le _, rfl, H0.out, rfl, HB0.out⟩
  case round =>
    obtain ⟨k, vs, hk, rfl, hsy, rfl, hbr⟩ := hrel
    clear H0 HB0
    have Hsy := Lib.hid hsy
    have Hbr := Lib.hid hbr
    have hB := hbr.size
    clear hsy hbr
    by_cases hlt : k < 3
    · obtain ⟨a1, c1, e1, hm1⟩ := Hsy.out.read Hsq.out (Hm.out.below Hbr.out) (Nat.lt_succ_self k)
      rw [im_ltS (by omega)] at hm1
      have CC := sgClockwise_any a1 c1 (cwN m k) wr (Hsq.out.cwN k) hm1
      rw [cwN_len, ← HN.out] at CC
      have CC := Lib.hid CC
      rw [← HN.out] at e1
      rw [e1]
      clear hm1 e1
      go_wp2_with fail
      refine CC.out.mono ?_
      rintro e w2 ⟨u, rfl, hu, hb2⟩
      obtain ⟨a3, c3, hue, _, _, _⟩ := hu.read
      have hlen : (cw (cwN m k)).length = n := by rw [cw_len, cwN_len, HN.out]
      rw [hlen] at hue
      subst hue
      have Hu := Lib.hid (show OwnM w2 w.heap.size (.slice a3 n c3) (im m (k + 1)) from by rw [im_ltS (by omega)]; exact hu.base hB)
      have Hsy2 := Lib.hid (Hsy.out.below hb2)
      have Hb2 := Lib.hid (Hbr.out.trans (hb2.mono hB))
      have hB2 := Hb2.out.size
      clear hu hb2 hlen CC Hsy
      go_wp2_with (at_builtin; refine wpList_append_own _ rfl _ _ 35 rfl w.heap.size 22 j0 (.slice none 0 0) 1 24 Try.underlying35 hj hy0 hy1 hy2 rfl (by decide) _ _ _ rfl (World.ownsRow.alloc Hsy2.out.top _) ⟨w2.heap.size, 0, none⟩ 1 1 [.slice a3 n c3] rfl rfl ?c1 ?c2 ?c3 ?c4 ?c5 ?_)
      case c1 => exact cell_one_new _ _ _
      case c2 => intro u hu; simp at hu; subst hu; rfl
      case c3 => unfold maxLen; omega
      case c4 => omega
      case c5 => simp; omega
      intro v' w3 hown' hgrow _
      have hput := Hsy2.out.snoc hB2 Hu.out hown' hgrow
      have Hput := Lib.hid hput
      have Hnow := Lib.hid (show Value.slice a3 n c3 = (vs ++ [Value.slice a3 n c3]).getD (k + 1) undef from by
        have hl := Hsy2.out.len
        rw [List.getD, List.getElem?_append_right (by omega), hl, Nat.sub_self]
        rfl)
      clear hput hown' hgrow
      go_wp2
      go_roundw
      case rel => exact ⟨k + 1, _, by omega, by go_num, Hput.out.1, Hnow.out, Hb2.out.trans Hput.out.2⟩
      case measure => simp [intOf]; omega
    · obtain ⟨nv, hnv⟩ : ∃ nv, nv = vs.getD k undef := ⟨_, rfl⟩
      rw [← hnv]
      rw [show ((k : Nat) : Int) = 3 from by omega]
      clear hnv
      obtain rfl : k = 3 := by omega
      go_wp2
      go_loopw [3, 6] (fun all i wr => ∃ (t : Nat) (vs : List Value), t ≤ 4 ∧ i = .int .i64 t ∧ SymO wr w.heap.size ao c m all (4 + t) vs ∧ Below w.heap.size w wr) (fun _ i _ => 4 - (intOf i).toNat)
      case atStart => exact ⟨0, vs, Nat.zero_le _, rfl, Hsy.out, Hbr.out⟩
      case round =>
        obtain ⟨t, vs, ht, rfl, hsy, hbr⟩ := hrel
        clear Hsy Hbr hB
        have Hsy := Lib.hid hsy
        have Hbr := Lib.hid hbr
        have hB := hbr.size
        clear hsy hbr
        obtain ⟨g, cap, rfl, hcap, hcap2, _⟩ := Hsy.out.isAt
        by_cases htl : t < 4
        · obtain ⟨a1, c1, e1, hm1⟩ := Hsy.out.read Hsq.out (Hm.out.below Hbr.out) (show t < 4 + t by omega)
          have hcell := Hsy.out.cellAt (show t < 4 + t by omega)
          rw [im_ltS (by omega)] at hm1
          have CC := sgMirror_any a1 c1 (cwN m t) wr (Hsq.out.cwN t) hm1
          rw [cwN_len, ← HN.out] at CC
          have CC := Lib.hid CC
          rw [← HN.out] at e1
          rw [e1] at hcell
          clear hm1 e1
          go_wp2_with fail
          refine CC.out.mono ?_
          rintro e w2 ⟨u, rfl, hu, hb2⟩
          obtain ⟨a3, c3, hue, _, _, _⟩ := hu.read
          have hlen : (mir (cwN m t)).length = n := by rw [mir_len, cwN_len, HN.out]
          rw [hlen] at hue
          subst hue
          have Hu := Lib.hid (show OwnM w2 w.heap.size (.slice a3 n c3) (im m (4 + t)) from by rw [im_geS (by omega), show 4 + t - 4 = t from by omega]; exact hu.base hB)
          have Hsy2 := Lib.hid (Hsy.out.below hb2)
          have Hb2 := Lib.hid (Hbr.out.trans (hb2.mono hB))
          have hB2 := Hb2.out.size
          clear hu hb2 hlen CC Hsy hcell
          go_wp2_with (at_builtin; refine wpList_append_own _ rfl _ _ 35 rfl w.heap.size 22 j0 (.slice none 0 0) 1 24 Try.underlying35 hj hy0 hy1 hy2 rfl (by decide) _ _ _ rfl (World.ownsRow.alloc Hsy2.out.top _) ⟨w2.heap.size, 0, none⟩ 1 1 [.slice a3 n c3] rfl rfl ?c1 ?c2 ?c3 ?c4 ?c5 ?_)
          case c1 => exact cell_one_new _ _ _
          case c2 => intro u hu; simp at hu; subst hu; rfl
          case c3 => unfold maxLen; omega
          case c4 => omega
          case c5 => simp; omega
          intro v' w3 hown' hgrow _
          have hput := Hsy2.out.snoc hB2 Hu.out hown' hgrow
          have Hput := Lib.hid hput
          clear hput hown' hgrow
          go_wp2
          go_roundw
          case rel => exact ⟨t + 1, _, by omega, by go_num, Hput.out.1, Hb2.out.trans Hput.out.2⟩
          case measure => simp [intOf]; omega
        · obtain rfl : t = 4 := by omega
          have HI := Lib.hid (show ImAt wr g m from fun i hi => by
            obtain ⟨a1, c1, e1, hm1⟩ := Hsy.out.read Hsq.out (Hm.out.below Hbr.out) (show i < 4 + 4 by omega)
            exact ⟨a1, c1, by rw [Hsy.out.cellAt (by omega), e1], hm1⟩)
          clear Hsy
          go_wp2
          go_ret
          exact ⟨g, cap, rfl, hcap, hcap2, HI.out, Hbr.out⟩

theorem im_small {m : List (List Int)} (h : square m) (i : Nat) : Small (im m i) := by
  have hl := sq_im h i
  have hn := h.2.1
  exact ⟨by rw [hl.1]; omega, fun j hj => by rw [hl.1] at hj; rw [hl.2 j hj]; omega⟩
theorem smLk_yes {m : List (List Int)} {k : Nat} (h : im m k = m) : smLk m (k + 1) = smLk m k ++ [(k : Int)] := by simp [smLk, h]
theorem smLk_no {m : List (List Int)} {k : Nat} (h : ¬im m k = m) : smLk m (k + 1) = smLk m k := by simp [smLk, h]

set_option maxRecDepth 100000 in
set_option maxHeartbeats 1600000 in
theorem smOwn_any (ao : Option Addr) (c : Nat) (m : List (List Int)) (w : World) (hsq : square m) (hm : MatAt w ao m) :
    Calls Try.prog 37 #[.slice ao m.length c] w fun e w' => ∃ v, e = .returned v ∧ OwnI w' w.heap.size v (smLk m 8) ∧ Below w.heap.size w w' := by
  obtain ⟨n, hn⟩ : ∃ n, n = m.length := ⟨_, rfl⟩
  have HN := Lib.hid hn
  have hn6 : n ≤ 6 := by rw [hn]; exact hsq.2.1
  have hmx : n ≤ 9223372036854775807 := by omega
  have CS := smSymmetries_any ao c m w hsq hm
  have CW := Lib.hid (fun a1 c1 i w' (h1 : MatAt w' a1 (im m i)) (h2 : MatAt w' ao m) => weSame_any a1 ao c1 c (im m i) m w' (im_small hsq i) hsq.small h1 h2)
  have HI := Lib.hid (fun i => (sq_im hsq i).1)
  have Hm := Lib.hid hm
  rw [← hn] at CS ⊢
  have CS := Lib.hid CS
  clear hsq hm hn
  go_enter Try.func37, Try.ntmps37
  go_wp2_with fail
  refine CS.out.mono ?_
  rintro e w1 ⟨g, cap, rfl, hc1, hc2, hi1, hb1⟩
  have Hi1 := Lib.hid hi1
  have Hb1 := Lib.hid hb1
  clear hi1 hb1 CS
  go_wp2
  go_loopw [3, 9] (fun out i wr => ∃ k : Nat, k ≤ 8 ∧ i = .int .i64 k ∧ OwnI wr w1.heap.size out (smLk m k) ∧ Below w1.heap.size w1 wr) (fun _ i _ => 8 - (intOf i).toNat)
  case atStart => exact ⟨0, Nat.zero_le _, rfl, OwnI.nil _ _, Below.refl _ _⟩
  case round =>
    obtain ⟨k, hk, rfl, hown, hbr⟩ := hrel
    have Hown := Lib.hid hown
    have Hbr := Lib.hid hbr
    clear hown hbr
    by_cases hlt : k < 8
    · obtain ⟨a1, c1, hcell, hm1⟩ := Hi1.out.below Hbr.out k hlt
      have CW2 := CW.out a1 c1 k wr hm1 (Hm.out.below (Hb1.out.trans (Hbr.out.mono Hb1.out.size)))
      rw [HI.out k, ← HN.out] at CW2
      rw [← HN.out] at hcell
      have CW2 := Lib.hid CW2
      clear hm1
      by_cases he : im m k = m
      · have hb : (im m k == m) = true := by simpa using he
        have HS := Lib.hid (smLk_yes he)
        rw [hb] at CW2
        clear hb he
        go_wp2_with fail
        refine CW2.out.mono ?_
        rintro e w2 ⟨rfl, hq⟩
        have Ho2 := Lib.hid (Hown.out.below (hq.below _))
        have HB2 := Lib.hid (Hbr.out.trans ((hq.below _).mono Hbr.out.size))
        have hBl := Lib.hid (HB2.out.size)
        have hln := Lib.hid (show (smLk m k).length < 1048576 by have := smLk_len m k; omega)
        clear hq CW2 hcell Hown Hbr
        go_wp2_with (at_builtin; refine wpList_numT rfl _ _ rfl w1.heap.size _ (smLk m k) (k : Int) Ho2.out rfl rfl hBl.out hln.out ?_)
        intro v3 w3 hv3 hb3
        rw [← HS.out] at hv3
        have HV3 := Lib.hid hv3
        have HB3 := Lib.hid (HB2.out.trans hb3)
        clear hv3 hb3 Ho2 HB2
        go_wp2
        go_roundw
        case rel => exact ⟨k + 1, by omega, by go_num, HV3.out, HB3.out⟩
        case measure => simp [intOf]; omega
      · have hb : (im m k == m) = false := by simpa using he
        have HS := Lib.hid (smLk_no he)
        rw [hb] at CW2
        clear hb he
        go_wp2_with fail
        refine CW2.out.mono ?_
        rintro e w2 ⟨rfl, hq⟩
        have Ho2 := Lib.hid (Hown.out.below (hq.below _))
        have HB2 := Lib.hid (Hbr.out.trans ((hq.below _).mono Hbr.out.size))
        clear hq CW2 hcell Hown Hbr
        go_wp2
        go_roundw
        case rel => exact ⟨k + 1, by omega, by go_num, by rw [HS.out]; exact Ho2.out, HB2.out⟩
        case measure => simp [intOf]; omega
    · obtain rfl : k = 8 := by omega
      go_wp2
      go_ret
      exact ⟨_, rfl, Hown.out.base Hb1.out.size, Hb1.out.trans (Hbr.out.mono Hb1.out.size)⟩
end Go.Proofs.Ytgdijjfipicodaa
