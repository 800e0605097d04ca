/- Parts of proofs: contracts and plain facts. Conditions: as each says. -/
import Derived.Test.YtgdijjfipicodaaK07
import Derived.StillTailTactics
namespace Go.Proofs.Ytgdijjfipicodaa
open Go.RowKit

/-- the number of the operator of a point, for a list of patterns -/
def opN (l : List (List Int)) (i r c : Nat) : Int := if rk l (joinL (gr l c) i) = r then 1 else 0
def opT (l : List (List Int)) (i : Nat) : List (List Int) := tab l.length l.length (opN l i)
/-- .. its first b columns -/
def opK (l : List (List Int)) (i b r c : Nat) : Int := if c < b then opN l i r c else 0
theorem opK_step {l : List (List Int)} {i b R : Nat} (h : rk l (joinL (gr l b) i) = R) : (fun r c => if r = R ∧ c = b then (1 : Int) else opK l i b r c) = opK l i (b + 1) := by
  funext r c
  unfold opK opN
  by_cases e : c = b
  · subst e
    rw [h, if_neg (Nat.lt_irrefl c), if_pos (Nat.lt_succ_self c)]
    by_cases er : r = R
    · rw [if_pos ⟨er, rfl⟩, if_pos er.symm]
    · rw [if_neg (fun h => er h.1), if_neg (fun h => er h.symm)]
  · rw [if_neg (fun h => e h.2)]
    by_cases ec : c < b
    · rw [if_pos ec, if_pos (show c < b + 1 by omega)]
    · rw [if_neg ec, if_neg (show ¬c < b + 1 by omega)]
theorem opK_zero (l : List (List Int)) (i : Nat) : opK l i 0 = fun _ _ => 0 := by funext r c; unfold opK; simp
theorem opK_end (l : List (List Int)) (i : Nat) : tab l.length l.length (opK l i l.length) = opT l i := by
  refine eq_tab (tab_len _ _ _) (fun i hi => tab_row hi) fun r c hr hc => ?_
  rw [gi_tab hr hc]
  unfold opK
  rw [if_pos hc]
theorem opN_01 (l : List (List Int)) (i r c : Nat) : 0 ≤ opN l i r c ∧ opN l i r c ≤ 1 := by unfold opN; split <;> omega
theorem opK_same (l : List (List Int)) (i b r : Nat) : opK l i b r b = 0 := if_neg (Nat.lt_irrefl b)

theorem OwnM.head {w : World} {B : Nat} {v : Value} {m : List (List Int)} (h : OwnM w B v m) (h1 : 1 ≤ m.length) : ∃ g c vs, v = .slice (some ⟨g, 0, none⟩) m.length c ∧ OwnP w B (.slice (some ⟨g, 0, none⟩) m.length c) m.length m m.length vs ∧ B ≤ g := by
  obtain ⟨ao, c, vs, rfl, hp, _, _⟩ := h.open
  rcases hp.top.2 with ⟨h0, h2⟩ | ⟨g, cap, cur, hv2, hg2, _⟩
  · omega
  · simp only [Value.slice.injEq] at hv2
    obtain ⟨rfl, _, _⟩ := hv2
    exact ⟨g, c, vs, rfl, hp, hg2⟩

set_option maxRecDepth 100000 in
set_option maxHeartbeats 1600000 in
theorem syOperator_any (n i : Nat) (w : World) (h1 : 1 ≤ n) (h4 : n ≤ 4) (hi : i < 2 * n) :
    Calls Try.prog 120 #[.int .i64 (n : Int), .int .i64 (i : Int)] w fun e w' => ∃ v, e = .returned v ∧ OwnM w' w.heap.size v (opT (patP 6 n) i) ∧ Below w.heap.size w w' := by
  obtain ⟨i0, hi0, hz0, hz1, hz2⟩ := info_parts Try.info_int
  obtain ⟨j0, hj, hy0, hy1, hy2⟩ := info_parts Try.info_ints
  have CL := Lib.hid (loAll4_any n w h4)
  have Hsh := Lib.hid (patP_short (n := n) (by omega))
  have hl14 := Hsh.out.1
  have hl1 : 1 ≤ (patP 6 n).length := catN_pos n (by omega)
  have Hlk := Lib.hid (fun p hp => patP_lk (n := n) h1 (by omega) (p := p) hp)
  have Hlen := Lib.hid (fun p hp => patP_len (n := n) (by omega) (p := p) hp)
  have Hjm := Lib.hid (fun p hp => join_mem (n := n) (by omega) (p := p) hp hi)
  obtain ⟨l, hl⟩ : ∃ l, l = patP 6 n := ⟨_, rfl⟩
  rw [← hl] at CL Hsh hl14 hl1 Hlk Hlen Hjm ⊢
  clear hl
  have hlm : l.length ≤ 9223372036854775807 := by omega
  go_enter Try.func120, Try.ntmps120
  go_wp2_with fail
  refine CL.out.mono ?_
  rintro e w1 ⟨la, lc, rfl, hv, hb⟩
  have Hb1 := Lib.hid hb
  obtain ⟨_, _, hve, _, _, hm⟩ := hv.read
  have hve2 := (Value.slice.injEq _ _ _ _ _ _).mp hve
  obtain ⟨rfl, -, rfl⟩ := hve2
  have Hm := Lib.hid hm
  clear hb hv hve hm CL
  go_wp2
  go_loopw [6, 13] (fun out i wr => ∃ (k : Nat) (vs : List Value), k ≤ l.length ∧ i = .int .i64 k ∧ OwnP wr w1.heap.size out k (tab l.length l.length fun _ _ => 0) k vs ∧ Below w1.heap.size w1 wr) (fun _ i _ => l.length - (intOf i).toNat)
  case atStart => exact ⟨0, [], Nat.zero_le _, rfl, ⟨World.ownsRow_nil _ _ _ _, fun i hi => absurd hi (by omega), fun i j _ hj => absurd hj (by omega)⟩, Below.refl _ _⟩
  case round =>
    obtain ⟨k, vs, hk, rfl, hout, hbr⟩ := hrel
    by_cases hlt : k < l.length
    · have hB := hbr.size
      have Hout := Lib.hid hout
      have Hbr := Lib.hid hbr
      clear hout hbr
      go_wp2_with (at_make; refine wpList_make_full _ rfl _ _ 24 rfl wr.heap.size 3 i0 (.int .i64 0) 1 Try.underlying24 hi0 hz0 hz1 _ _ _ _ l.length rfl rfl rfl rfl ?d1 ?d2 ?d3 ?_)
      case d1 => rw [hz2]; omega
      case d2 => unfold maxLen; omega
      case d3 => simp
      intro w2 hown2 hg2
      have hb2 : Below wr.heap.size wr w2 := (Below.refl _ _).grown hg2 (Nat.le_refl _) (fun _ h => by cases h)
      have hrow := OwnI.made hown2
      have hB2 := hb2.size
      have e1 : gr (tab l.length l.length fun _ _ => (0 : Int)) k = List.replicate l.length 0 := zero_row hlt
      have Hout2 := Lib.hid (Hout.out.below hb2)
      have hrow2 : OwnI w2 w1.heap.size (.slice (some ⟨wr.heap.size, 0, none⟩) l.length l.length) (gr (tab l.length l.length fun _ _ => (0 : Int)) k) := by rw [e1]; exact hrow.base hB
      have Hrow := Lib.hid hrow2
      have hfr := Lib.hid (Hout.out.fresh hrow (Nat.le_refl _))
      have Hb2 := Lib.hid (Hbr.out.trans (hb2.mono hB))
      clear hown2 hg2 hb2 hrow e1 hrow2
      go_wp2_with (at_builtin; refine wpList_append_own _ rfl _ _ 22 rfl w1.heap.size 24 j0 (.slice none 0 0) 1 24 Try.underlying22 hj hy0 hy1 hy2 rfl (by decide) _ _ _ rfl (World.ownsRow.alloc Hout2.out.top _) ⟨w2.heap.size, 0, none⟩ 1 1 [.slice (some ⟨wr.heap.size, 0, none⟩) l.length l.length] rfl rfl ?e1 ?e2 ?e3 ?e4 ?e5 ?_)
      case e1 => exact cell_one_new _ _ _
      case e2 => intro u hu; simp at hu; subst hu; rfl
      case e3 => unfold maxLen; omega
      case e4 => omega
      case e5 => simp; omega
      intro v' w3 hown' hgrow _
      have hput := Hout2.out.snoc (show w1.heap.size ≤ w2.heap.size by omega) Hrow.out hfr.out hown' hgrow
      have Hput := Lib.hid hput
      clear hput hown' hgrow
      go_wp2
      go_roundw
      case rel => exact ⟨k + 1, _, by omega, by go_num, Hput.out.1, Hb2.out.trans Hput.out.2⟩
      case measure => simp [intOf]; omega
    · obtain rfl : k = l.length := by omega
      have hO : OwnM wr w1.heap.size u6 (tab l.length l.length fun _ _ => 0) := ⟨vs, by rw [tab_len]; exact hout⟩
      obtain ⟨g, c, us, rfl, hp, hg⟩ := hO.head (by rw [tab_len]; omega)
      rw [tab_len] at hp ⊢
      have Hp := Lib.hid hp
      have Hbr := Lib.hid hbr
      rw [← opK_zero l i] at hp
      have Hp := Lib.hid hp
      clear hp hO hout hbr hg
      go_wp2
      go_loopw [24] (fun x wr => ∃ k : Nat, k ≤ l.length ∧ x = .int .i64 k ∧ OwnP wr w1.heap.size (.slice (some ⟨g, 0, none⟩) l.length c) l.length (tab l.length l.length (opK l i k)) l.length us ∧ Below w1.heap.size w1 wr) (fun x _ => l.length - (intOf x).toNat)
      case atStart => exact ⟨0, Nat.zero_le _, rfl, Hp.out, Hbr.out⟩
      case round =>
        obtain ⟨k, hk2, rfl, hout, hbr⟩ := hrel
        have Hout := Lib.hid hout
        have Hbr := Lib.hid hbr
        clear hout hbr Hp
        by_cases hlt : k < l.length
        · obtain ⟨b1, o1, r1, d1, rfl, hc1, hx1, _, _⟩ := Hm.out.below Hbr.out k hlt
          have hlk := Hlk.out _ (gr_mem hlt)
          have hlen := Hlen.out _ (gr_mem hlt)
          have CJ := Lib.hid (syJoin_any r1 d1 (gr l k) i wr hlk (by omega) hx1)
          have hmem := Hjm.out _ (gr_mem hlt)
          have Hmem := Lib.hid hmem
          have hR := rk_lt hmem
          have HS := Lib.hid (fun R (h : rk l (joinL (gr l k) i) = R) => opK_step h)
          have hgl : (gr l k).length ≤ 9223372036854775807 := by have := hlk.hi; omega
          have HJl := Lib.hid (show (joinL (gr l k) i).length ≤ 12 by rw [joinL_len]; exact hlk.hi)
          obtain ⟨J, hJ⟩ : ∃ J, J = joinL (gr l k) i := ⟨_, rfl⟩
          rw [← hJ] at CJ Hmem HJl HS hR
          obtain ⟨G, hG⟩ : ∃ G, G = gr l k := ⟨_, rfl⟩
          rw [← hG] at hc1 CJ hgl
          obtain ⟨R, hR2⟩ : ∃ R, rk l J = R := ⟨_, rfl⟩
          have HR2 := Lib.hid hR2
          rw [hR2] at hR
          clear hmem hJ hG hlk hlen hx1 hR2
          go_wp2_with fail
          refine CJ.out.mono ?_
          rintro e w3 ⟨v, rfl, hv, hb⟩
          obtain ⟨ja, jc, rfl, hj1, hj2, hji⟩ := hv.read
          have Hb3 := Lib.hid (Hbr.out.trans (hb.mono Hbr.out.size))
          have Hout3 := Lib.hid (Hout.out.below hb)
          have CR := Lib.hid (syRank_any (some ⟨b1, o1, none⟩) ja lc jc l J w3 Hsh.out HJl.out Hmem.out (Hm.out.below Hb3.out) hji)
          rw [HR2.out] at CR
          clear hv hb hji hj1 hj2 CJ Hout Hbr
          go_wp2_with fail
          refine CR.out.mono ?_
          rintro e w4 ⟨rfl, hb⟩
          have Hb4 := Lib.hid (Hb3.out.trans (hb.mono Hb3.out.size))
          have Hout4 := Lib.hid (Hout3.out.below hb)
          have hd := Hout4.out.cellAt R hR
          obtain ⟨q, cap, hvs, hd2, hf2, hg, hst⟩ := Hout4.out.at2 hR hlt
          rw [hvs] at hd
          rw [opK_same] at hd2
          have Hst := Lib.hid (hst 1)
          rw [HS.out R HR2.out] at Hst
          have Hbs := Lib.hid (Hb4.out.setCell (p := ⟨q, k, none⟩) hg (.int .i64 1))
          clear hb hst hvs CR Hb3 Hout3 hg
          go_wp2
          go_roundw
          case rel => exact ⟨k + 1, by omega, by go_num, Hst.out, Hbs.out⟩
          case measure => simp [intOf]; omega
        · obtain rfl : k = l.length := by omega
          have Hfin := Lib.hid (show OwnM wr w.heap.size (.slice (some ⟨g, 0, none⟩) l.length c) (opT l i) from ⟨us, by
            have e : (opT l i).length = l.length := tab_len _ _ _
            rw [e, ← opK_end]
            exact Hout.out.base Hb1.out.size⟩)
          have HB := Lib.hid (Hb1.out.trans (Hbr.out.mono Hb1.out.size))
          go_wp2
          go_ret
          exact ⟨_, rfl, Hfin.out, HB.out⟩

/-- n and one of the points of its patterns -/
def pointIn (n i : Int) : Prop := (1 ≤ n ∧ n ≤ 4) ∧ 0 ≤ i ∧ i < 2 * n

/-- the sum of the operators of the first k points -/
def sumN (l : List (List Int)) : Nat → Nat → Nat → Int
  | 0, _, _ => 0
  | k + 1, r, c => sumN l k r c + opN l k r c
theorem sumN_in (l : List (List Int)) : ∀ (k r c : Nat), 0 ≤ sumN l k r c ∧ sumN l k r c ≤ (k : Int)
  | 0, _, _ => by simp [sumN]
  | k + 1, r, c => by have := sumN_in l k r c; have := opN_01 l k r c; unfold sumN; omega
def sumT (l : List (List Int)) : List (List Int) := tab l.length l.length (sumN l (gr l 0).length)
/-- .. with the k-th added in the rows before a, and before b in the row a -/
def addN (l : List (List Int)) (k a b r c : Nat) : Int := if r < a ∨ (r = a ∧ c < b) then sumN l (k + 1) r c else sumN l k r c
theorem addN_step (l : List (List Int)) (k a b : Nat) : (fun r c => if r = a ∧ c = b then sumN l k a b + opN l k a b else addN l k a b r c) = addN l k a (b + 1) := by
  funext r c
  unfold addN
  by_cases e : r = a ∧ c = b
  · obtain ⟨rfl, rfl⟩ := e
    rw [if_pos ⟨rfl, rfl⟩, if_pos (show r < r ∨ (r = r ∧ c < c + 1) by omega)]
    rfl
  · rw [if_neg e]
    by_cases e2 : r < a ∨ (r = a ∧ c < b)
    · rw [if_pos e2, if_pos (show r < a ∨ (r = a ∧ c < b + 1) by omega)]
    · rw [if_neg e2, if_neg (show ¬(r < a ∨ (r = a ∧ c < b + 1)) by omega)]
theorem addN_here (l : List (List Int)) (k a b : Nat) : addN l k a b a b = sumN l k a b := if_neg (by omega)
theorem addN_zero (l : List (List Int)) (k : Nat) : addN l k 0 0 = sumN l k := by funext r c; exact if_neg (by omega)
theorem addN_row (l : List (List Int)) (k a : Nat) : tab l.length l.length (addN l k a l.length) = tab l.length l.length (addN l k (a + 1) 0) := by
  refine eq_tab (tab_len _ _ _) (fun i hi => tab_row hi) fun r c hr hc => ?_
  rw [gi_tab hr hc]
  unfold addN
  by_cases e : r < a ∨ (r = a ∧ c < l.length)
  · rw [if_pos e, if_pos (by omega)]
  · rw [if_neg e, if_neg (by omega)]
theorem addN_end (l : List (List Int)) (k : Nat) : tab l.length l.length (addN l k l.length 0) = tab l.length l.length (sumN l (k + 1)) := by
  refine eq_tab (tab_len _ _ _) (fun i hi => tab_row hi) fun r c hr hc => ?_
  rw [gi_tab hr hc]
  unfold addN
  rw [if_pos (by omega)]
theorem opT_one (l : List (List Int)) : opT l 0 = tab l.length l.length (sumN l 1) := by
  refine eq_tab (tab_len _ _ _) (fun i hi => tab_row hi) fun r c hr hc => ?_
  unfold opT
  rw [gi_tab hr hc]
  simp [sumN]
theorem sumT_at {n : Nat} (h1 : 1 ≤ n) (h4 : n < 5) : sumT (patP 6 n) = tab (patP 6 n).length (patP 6 n).length (sumN (patP 6 n) (2 * n)) := by
  unfold sumT
  rw [patP_len h4 (gr_mem (catN_pos n h4))]

set_option maxRecDepth 100000 in
set_option maxHeartbeats 3200000 in
theorem sySum_any (n : Nat) (w : World) (h1 : 1 ≤ n) (h4 : n ≤ 4) :
    Calls Try.prog 97 #[.int .i64 (n : Int)] w fun e w' => ∃ v, e = .returned v ∧ OwnM w' w.heap.size v (sumT (patP 6 n)) ∧ Below w.heap.size w w' := by
  rw [sumT_at h1 (by omega)]
  have CO := Lib.hid (fun i w h => syOperator_any n i w h1 h4 h)
  have hl14 : (patP 6 n).length ≤ 14 := catN_le n (by omega)
  have hl1 : 1 ≤ (patP 6 n).length := catN_pos n (by omega)
  obtain ⟨l, hl⟩ : ∃ l, l = patP 6 n := ⟨_, rfl⟩
  rw [← hl] at CO hl14 hl1 ⊢
  clear hl
  obtain ⟨N, hN⟩ : ∃ N, N = l.length := ⟨_, rfl⟩
  have HO1 := Lib.hid (opT_one l)
  have HR := Lib.hid (addN_row l)
  have HE := Lib.hid (addN_end l)
  have HT := Lib.hid (fun i => show opT l i = tab N N (opN l i) by rw [hN]; rfl)
  rw [← hN] at hl14 hl1 HO1 HR HE ⊢
  clear hN
  have hNm : N ≤ 9223372036854775807 := by omega
  go_enter Try.func97, Try.ntmps97
  go_wp2_with fail
  refine (CO.out 0 w (by omega)).mono ?_
  rintro e w1 ⟨v, rfl, hv, hb⟩
  rw [HO1.out] at hv
  obtain ⟨g, c, us, rfl, hp, hg⟩ := hv.head (by rw [tab_len]; exact hl1)
  rw [tab_len] at hp ⊢
  have Hp := Lib.hid hp
  have Hb := Lib.hid hb
  clear hp hv hb
  go_wp2
  go_loopw [4] (fun x wr => ∃ k : Nat, 1 ≤ k ∧ k ≤ 2 * n ∧ x = .int .i64 k ∧ OwnP wr w.heap.size (.slice (some ⟨g, 0, none⟩) N c) N (tab N N (sumN l k)) N us ∧ Below w.heap.size w wr) (fun x _ => 2 * n - (intOf x).toNat)
  case atStart => exact ⟨1, Nat.le_refl _, by omega, rfl, Hp.out, Hb.out⟩
  case round =>
    obtain ⟨k, hk1, hk2, rfl, hout, hbr⟩ := hrel
    have Hout := Lib.hid hout
    have Hbr := Lib.hid hbr
    clear hout hbr Hp Hb
    by_cases hlt : k < 2 * n
    · go_wp2_with fail
      refine (CO.out k wr hlt).mono ?_
      rintro e w2 ⟨v, rfl, hv, hb⟩
      rw [HT.out] at hv
      obtain ⟨g2, c2, us2, rfl, hp2, hg2⟩ := hv.head (by rw [tab_len]; exact hl1)
      rw [tab_len] at hp2 ⊢
      have HP2 := Lib.hid hp2
      have Hout2 := Lib.hid (Hout.out.below hb)
      have Hbr2 := Lib.hid (Hbr.out.trans (hb.mono Hbr.out.size))
      have Hsp := Lib.hid (show ∀ i, i < N → ∀ q, (us.getD i undef).ownBlock = some q → q < wr.heap.size from fun i hi q hq => (((Hout.out.rows i hi).lt q hq).2))
      clear hp2 hv hb Hout Hbr hg2
      rw [← addN_zero l k] at Hout2
      go_wp2
      go_loopw [21] (fun x wq => ∃ a : Nat, a ≤ N ∧ x = .int .i64 a ∧ OwnP wq w.heap.size (.slice (some ⟨g, 0, none⟩) N c) N (tab N N (addN l k a 0)) N us ∧ OwnP wq wr.heap.size (.slice (some ⟨g2, 0, none⟩) N c2) N (tab N N (opN l k)) N us2 ∧ Below w.heap.size w wq) (fun x _ => N - (intOf x).toNat)
      case atStart => exact ⟨0, Nat.zero_le _, rfl, Hout2.out, HP2.out, Hbr2.out⟩
      case round =>
        rename World => wq
        obtain ⟨a, ha, rfl, hout, hp2, hbq⟩ := hrel
        have Hout := Lib.hid hout
        have HP := Lib.hid hp2
        have Hbq := Lib.hid hbq
        clear hout hp2 hbq Hout2 HP2 Hbr2
        by_cases hal : a < N
        · have hc2 := HP.out.cellAt a hal
          obtain ⟨r2, d2, hv2, _, _, _⟩ := (HP.out.rows a hal).read
          rw [tab_row hal] at hv2
          rw [hv2] at hc2
          have HV2 := Lib.hid hv2
          clear hv2
          go_wp2
          go_loopw [28] (fun x wp => ∃ b : Nat, b ≤ N ∧ x = .int .i64 b ∧ OwnP wp w.heap.size (.slice (some ⟨g, 0, none⟩) N c) N (tab N N (addN l k a b)) N us ∧ OwnP wp wr.heap.size (.slice (some ⟨g2, 0, none⟩) N c2) N (tab N N (opN l k)) N us2 ∧ Below w.heap.size w wp) (fun x _ => N - (intOf x).toNat)
          case atStart => exact ⟨0, Nat.zero_le _, rfl, Hout.out, HP.out, Hbq.out⟩
          case round =>
            rename World => wp
            obtain ⟨b, hb, rfl, hout, hp2, hbp⟩ := hrel
            clear Hout HP Hbq
            by_cases hbl : b < N
            · have hd := hout.cellAt a hal
              obtain ⟨q, cap, hvs, hd2, hf2, hgq, hst⟩ := hout.at2 hal hbl
              rw [hvs] at hd
              rw [addN_here] at hd2
              obtain ⟨q3, cap3, hvs3, hd3, _, _, _⟩ := hp2.at2 hal hbl
              rw [HV2.out] at hvs3
              simp only [Value.slice.injEq] at hvs3
              obtain ⟨rfl, -, rfl⟩ := hvs3
              have hs1 := sumN_in l k a b
              have hs2 := opN_01 l k a b
              have Hst := Lib.hid (hst (sumN l k a b + opN l k a b))
              rw [addN_step] at Hst
              have Hbs := Lib.hid (hbp.setCell (p := ⟨q, b, none⟩) hgq (.int .i64 (sumN l k a b + opN l k a b)))
              have Hp2 := Lib.hid (hp2.only ((OnlyW.refl (fun z => z = q) wp).setCell (p := ⟨q, b, none⟩) rfl (.int .i64 (sumN l k a b + opN l k a b))) (fun z hz => by
                rw [hz]
                exact Hsp.out a hal q (by rw [hvs]; rfl)))
              obtain ⟨y, hy⟩ : ∃ y, y = sumN l k a b := ⟨_, rfl⟩
              obtain ⟨z, hz⟩ : ∃ z, z = opN l k a b := ⟨_, rfl⟩
              rw [← hy] at hd2 hs1 Hst Hbs Hp2
              rw [← hz] at hd3 hs2 Hst Hbs Hp2
              clear hout hp2 hbp hst hvs hy hz hgq
              go_wp2
              go_roundw
              case rel => exact ⟨b + 1, by omega, by go_num, Hst.out, Hp2.out, Hbs.out⟩
              case measure => simp [intOf]; omega
            · obtain rfl : b = N := by omega
              rw [HR.out] at hout
              have Hout := Lib.hid hout
              have HP := Lib.hid hp2
              have Hbp := Lib.hid hbp
              clear hout hp2 hbp
              go_wp2
              go_roundw
              case rel => exact ⟨a + 1, by omega, by go_num, Hout.out, HP.out, Hbp.out⟩
              case measure => simp [intOf]; omega
        · obtain rfl : a = N := by omega
          rw [HE.out] at Hout
          go_wp2
          go_roundw
          case rel => exact ⟨k + 1, by omega, by omega, by go_num, Hout.out, Hbq.out⟩
          case measure => simp [intOf]; omega
    · obtain rfl : k = 2 * n := by omega
      go_wp2
      go_ret
      exact ⟨_, rfl, ⟨us, by rw [tab_len]; exact Hout.out⟩, Hbr.out⟩
end Go.Proofs.Ytgdijjfipicodaa

namespace Go.Proofs.Ytgdijjfipicodaa
open Go.RowKit

/-- the ranks of the joined patterns -/
def jnL (l : List (List Int)) (i : Nat) : List Int := (List.range l.length).map fun c => (rk l (joinL (gr l c) i) : Int)
theorem jnL_len (l : List (List Int)) (i : Nat) : (jnL l i).length = l.length := by simp [jnL]
theorem jnL_at {l : List (List Int)} {i c : Nat} (h : c < l.length) : gi (jnL l i) c = (rk l (joinL (gr l c) i) : Int) := gi_row h
theorem opN_at {l : List (List Int)} {i r c : Nat} (h : c < l.length) : opN l i r c = if gi (jnL l i) c = (r : Int) then 1 else 0 := by
  rw [jnL_at h]
  unfold opN
  by_cases e : rk l (joinL (gr l c) i) = r
  · rw [if_pos e, if_pos (by omega)]
  · rw [if_neg e, if_neg (by omega)]

set_option maxRecDepth 100000 in
set_option maxHeartbeats 1600000 in
theorem joiningAt_any (n i : Nat) (w : World) (h1 : 1 ≤ n) (h4 : n ≤ 4) (hi : i < 2 * n) :
    Calls Try.prog 103 #[.int .i64 (n : Int), .int .i64 (i : Int)] w fun e w' => ∃ a c, e = .returned (.slice a (patP 6 n).length c) ∧ OwnI w' w.heap.size (.slice a (patP 6 n).length c) (jnL (patP 6 n) i) ∧ Below w.heap.size w w' := by
  obtain ⟨i0, hi0, hz0, hz1, hz2⟩ := info_parts Try.info_int
  have CL := Lib.hid (patterns4_any n w h4)
  have Hsh := Lib.hid (patP_short (n := n) (by omega))
  have hl14 := Hsh.out.1
  have Hlk := Lib.hid (fun p hp => patP_lk (n := n) h1 (by omega) (p := p) hp)
  have Hlen := Lib.hid (fun p hp => patP_len (n := n) (by omega) (p := p) hp)
  have Hjm := Lib.hid (fun p hp => join_mem (n := n) (by omega) (p := p) hp hi)
  obtain ⟨l, hl⟩ : ∃ l, l = patP 6 n := ⟨_, rfl⟩
  rw [← hl] at CL Hsh hl14 Hlk Hlen Hjm ⊢
  clear hl
  have hlm : l.length ≤ 9223372036854775807 := by omega
  go_enter Try.func103, Try.ntmps103
  go_wp2_with fail
  refine CL.out.mono ?_
  rintro e w1 ⟨la, lc, rfl, hv, hb⟩
  have Hb1 := Lib.hid hb
  have HBs := Lib.hid hb.size
  obtain ⟨_, _, hve, _, _, hm⟩ := hv.read
  have hve2 := (Value.slice.injEq _ _ _ _ _ _).mp hve
  obtain ⟨rfl, -, rfl⟩ := hve2
  have Hm := Lib.hid hm
  clear hb hv hve hm CL
  go_wp2_with (at_make; refine wpList_make_full _ rfl _ _ 102 rfl w1.heap.size 3 i0 (.int .i64 0) 1 Try.underlying102 hi0 hz0 hz1 _ _ _ _ l.length rfl rfl rfl rfl ?c1 ?c2 ?c3 ?_)
  case c1 => rw [hz2]; omega
  case c2 => unfold maxLen; omega
  case c3 => simp
  intro w2 hown hgr
  have Hb2 := Lib.hid ((Below.refl _ _).grown hgr (Nat.le_refl _) (fun _ h => by cases h))
  have Hown2 := Lib.hid (OwnI.made hown)
  clear hown hgr
  go_wp2
  go_loopw [16] (fun x wr => ∃ (k : Nat) (q : List Int), k ≤ l.length ∧ x = .int .i64 k ∧ OwnI wr w1.heap.size (.slice (some ⟨w1.heap.size, 0, none⟩) l.length l.length) q ∧ (∀ j, j < k → gi q j = (rk l (joinL (gr l j) i) : Int)) ∧ Below w1.heap.size w1 wr) (fun x _ => l.length - (intOf x).toNat)
  case atStart => exact ⟨0, _, Nat.zero_le _, rfl, Hown2.out, fun j hj => absurd hj (by omega), Hb2.out⟩
  case round =>
    obtain ⟨k, q, hk, rfl, hown, hd, hbr⟩ := hrel
    have Hown := Lib.hid hown
    have Hd := Lib.hid hd
    have Hbr := Lib.hid hbr
    clear hown hd hbr Hown2 Hb2
    by_cases hlt : k < l.length
    · obtain ⟨b1, o1, r1, d1, rfl, hc1, hx1, _, _⟩ := Hm.out.below Hbr.out k hlt
      have hlk := Hlk.out _ (gr_mem hlt)
      have hlen := Hlen.out _ (gr_mem hlt)
      have CJ := Lib.hid (joined_any r1 d1 (gr l k) i wr hlk (by omega) hx1)
      have hmem := Hjm.out _ (gr_mem hlt)
      have Hmem := Lib.hid hmem
      have hgl : (gr l k).length ≤ 9223372036854775807 := by have := hlk.hi; omega
      have HJl := Lib.hid (show (joinL (gr l k) i).length ≤ 12 by rw [joinL_len]; exact hlk.hi)
      obtain ⟨J, hJ⟩ : ∃ J, J = joinL (gr l k) i := ⟨_, rfl⟩
      have HJ := Lib.hid hJ
      rw [← hJ] at CJ Hmem HJl
      obtain ⟨G, hG⟩ : ∃ G, G = gr l k := ⟨_, rfl⟩
      rw [← hG] at hc1 CJ hgl
      clear hmem hJ hG hlk hlen hx1
      go_wp2_with fail
      refine CJ.out.mono ?_
      rintro e w3 ⟨v, rfl, hv, hb⟩
      obtain ⟨ja, jc, rfl, hj1, hj2, hji⟩ := hv.read
      have Hb3 := Lib.hid (Hbr.out.trans (hb.mono Hbr.out.size))
      have Hown3 := Lib.hid (Hown.out.below hb)
      have CR := Lib.hid (indexOf_any (some ⟨b1, o1, none⟩) ja lc jc l J w3 Hsh.out HJl.out (Hm.out.below Hb3.out) hji)
      rw [ixOf_in Hmem.out] at CR
      obtain ⟨R, hR⟩ : ∃ R, rk l J = R := ⟨_, rfl⟩
      have HR := Lib.hid hR
      rw [hR] at CR
      clear hv hb hji hj1 hj2 CJ Hown Hbr hR
      go_wp2_with fail
      refine CR.out.mono ?_
      rintro e w4 ⟨rfl, hb⟩
      have Hb4 := Lib.hid (Hb3.out.trans (hb.mono Hb3.out.size))
      have hown4 := Hown3.out.below hb
      have hl := hown4.len
      have hd := hown4.cellAt k hlt
      have hf := hown4.frozenAt k
      have Hst := Lib.hid (hown4.store k (R : Int))
      have Hbs := Lib.hid (Hb4.out.setCell (p := ⟨w1.heap.size, k, none⟩) (Nat.le_refl _) (.int .i64 (R : Int)))
      have Hd2 := Lib.hid (show ∀ j, j < k + 1 → gi (q.set k (R : Int)) j = (rk l (joinL (gr l j) i) : Int) from fun j hj => by
        rw [gi_set (by omega)]
        by_cases e : j = k
        · rw [if_pos e, e, ← HJ.out, HR.out]
        · rw [if_neg e]; exact Hd.out j (by omega))
      clear hb CR Hb3 Hown3 hown4 hl
      go_wp2
      go_roundw
      case rel => exact ⟨k + 1, _, by omega, by go_num, Hst.out, Hd2.out, Hbs.out⟩
      case measure => simp [intOf]; omega
    · obtain rfl : k = l.length := by omega
      have Hfin := Lib.hid (show q = jnL l i from ext_gi (by rw [jnL_len]; exact Hown.out.len) fun j hj => by
        have hj2 : j < l.length := by rw [← Hown.out.len]; exact hj
        rw [Hd.out j hj2, jnL_at hj2])
      have HB := Lib.hid (Hb1.out.trans (Hbr.out.mono Hb1.out.size))
      go_wp2
      go_ret
      exact ⟨_, _, rfl, by rw [← Hfin.out]; exact Hown.out.base Hb1.out.size, HB.out⟩

/-- the operator of a point -/
def JnAt (w : World) (v : Value) (l : List (List Int)) (i : Nat) : Prop := ∃ a c, v = .slice a l.length c ∧ IntsAt w a (jnL l i)
theorem JnAt.below {w w' : World} {v : Value} {l : List (List Int)} {i : Nat} (h : JnAt w v l i) (hb : Below w.heap.size w w') : JnAt w' v l i := by
  obtain ⟨a, c, e, hx⟩ := h
  exact ⟨a, c, e, hx.below hb⟩

theorem jnSize_any (v : Value) (l : List (List Int)) (i : Nat) (w : World) (hl : l.length ≤ 14) (h : JnAt w v l i) :
    Calls Try.prog 161 #[v] w fun e w' => e = .returned (.int .i64 (l.length : Int)) ∧ w' = w := by
  obtain ⟨a, c, rfl, _⟩ := h
  have hm : l.length ≤ 9223372036854775807 := by omega
  go_enter Try.func161, Try.ntmps161
  go_wp2
  go_ret
  exact ⟨rfl, rfl⟩

theorem jnAt_any (v : Value) (l : List (List Int)) (i r c : Nat) (w : World) (hl : l.length ≤ 14) (hr : r < l.length) (hc : c < l.length) (h : JnAt w v l i) :
    Calls Try.prog 160 #[v, .int .i64 (r : Int), .int .i64 (c : Int)] w fun e w' => e = .returned (.int .i64 (opN l i r c)) ∧ w' = w := by
  obtain ⟨a, cp, rfl, hx⟩ := h
  have hm : l.length ≤ 9223372036854775807 := by omega
  obtain ⟨b, o, rfl, hcell⟩ := hx c (by rw [jnL_len]; exact hc)
  have HO := Lib.hid (opN_at (l := l) (i := i) (r := r) hc)
  obtain ⟨x, hxe⟩ : ∃ x, x = gi (jnL l i) c := ⟨_, rfl⟩
  rw [← hxe] at hcell HO
  clear hxe hx
  by_cases e : x = (r : Int)
  · have hne : (x == (r : Int)) = true := by simp [e]
    have HO2 := Lib.hid (HO.out.trans (if_pos e))
    clear e
    go_enter Try.func160, Try.ntmps160
    go_wp2
    go_ret
    exact ⟨by rw [HO2.out]; rfl, rfl⟩
  · have hne : (x == (r : Int)) = false := by simp [e]
    have HO2 := Lib.hid (HO.out.trans (if_neg e))
    clear e
    go_enter Try.func160, Try.ntmps160
    go_wp2
    go_ret
    exact ⟨by rw [HO2.out]; rfl, rfl⟩

theorem method_jn_size (a : Option Addr) (k c : Nat) (w : World) : (method 245 102 (.slice a k c) "loop.example/g01123/impl.size").run Try.prog w = .ok (161, .slice a k c) w := by kernel_rfl
theorem method_jn_at (a : Option Addr) (k c : Nat) (w : World) : (method 245 102 (.slice a k c) "loop.example/g01123/impl.at").run Try.prog w = .ok (160, .slice a k c) w := by kernel_rfl
theorem ahead_jn_size (a : Option Addr) (k c : Nat) (w : World) : (nilAhead 245 102 (.slice a k c) "loop.example/g01123/impl.size").run Try.prog w = .ok (some false) w := by kernel_rfl
theorem ahead_jn_at (a : Option Addr) (k c : Nat) (w : World) : (nilAhead 245 102 (.slice a k c) "loop.example/g01123/impl.at").run Try.prog w = .ok (some false) w := by kernel_rfl
theorem method_tt_size (a : Option Addr) (k c : Nat) (w : World) : (method 245 78 (.slice a k c) "loop.example/g01123/impl.size").run Try.prog w = .ok (157, .slice a k c) w := by kernel_rfl
theorem method_tt_at (a : Option Addr) (k c : Nat) (w : World) : (method 245 78 (.slice a k c) "loop.example/g01123/impl.at").run Try.prog w = .ok (156, .slice a k c) w := by kernel_rfl
theorem ahead_tt_size (a : Option Addr) (k c : Nat) (w : World) : (nilAhead 245 78 (.slice a k c) "loop.example/g01123/impl.size").run Try.prog w = .ok (some false) w := by kernel_rfl
theorem ahead_tt_at (a : Option Addr) (k c : Nat) (w : World) : (nilAhead 245 78 (.slice a k c) "loop.example/g01123/impl.at").run Try.prog w = .ok (some false) w := by kernel_rfl
theorem Try.info_opr : (Try.prog.info? 96).map (fun i => (i.zero, i.size, i.bytes)) = some (some .nilIface, 1, 16) := by kernel_rfl
end Go.Proofs.Ytgdijjfipicodaa

namespace Go.Proofs.Ytgdijjfipicodaa
open Go.RowKit

/-- the operators of the first k points, in a row -/
def TotAt (w : World) (v : Value) (l : List (List Int)) (k : Nat) : Prop := ∃ g c, v = .slice (some ⟨g, 0, none⟩) k c ∧ ∀ j, j < k → ∃ a d, w.cell? ⟨g, j, none⟩ = some (.iface 102 (.slice a l.length d)) ∧ IntsAt w a (jnL l j)
theorem TotAt.below {w w' : World} {v : Value} {l : List (List Int)} {k : Nat} (h : TotAt w v l k) (hb : Below w.heap.size w w') : TotAt w' v l k := by
  obtain ⟨g, c, e, hc⟩ := h
  refine ⟨g, c, e, fun j hj => ?_⟩
  obtain ⟨a, d, h1, h2⟩ := hc j hj
  exact ⟨a, d, cell_below h1 hb, h2.below hb⟩

set_option maxRecDepth 100000 in
set_option maxHeartbeats 1600000 in
theorem joiningAtAll_any (n : Nat) (w : World) (h1 : 1 ≤ n) (h4 : n ≤ 4) :
    Calls Try.prog 71 #[.int .i64 (n : Int)] w fun e w' => ∃ v, e = .returned v ∧ TotAt w' v (patP 6 n) (2 * n) ∧ Below w.heap.size w w' := by
  obtain ⟨i0, hi0, hz0, hz1, hz2⟩ := info_parts Try.info_opr
  have CJ := Lib.hid (fun i w h => joiningAt_any n i w h1 h4 h)
  obtain ⟨l, hl⟩ : ∃ l, l = patP 6 n := ⟨_, rfl⟩
  rw [← hl] at CJ ⊢
  clear hl
  obtain ⟨K, hK⟩ : ∃ K : Nat, 2 * (n : Int) = (K : Int) := ⟨2 * n, by omega⟩
  have hK8 : K ≤ 8 := by omega
  have HK := Lib.hid (show K = 2 * n by omega)
  rw [← HK.out]
  go_enter Try.func71, Try.ntmps71
  go_wp2_with (at_make; refine wpList_make_full _ rfl _ _ 78 rfl w.heap.size 96 i0 .nilIface 1 Try.underlying78 hi0 hz0 hz1 _ _ _ _ K rfl rfl rfl rfl ?c1 ?c2 ?c3 ?_)
  case c1 => rw [hz2]; omega
  case c2 => unfold maxLen; omega
  case c3 => simp
  intro w2 hown hgr
  have Hb2 := Lib.hid ((Below.refl _ _).grown hgr (Nat.le_refl _) (fun _ h => by cases h))
  have hsz : w.heap.size + 1 ≤ w2.heap.size := by
    have := (World.ownsRow.lt hown w.heap.size rfl).2
    omega
  have Hown2 := Lib.hid hown
  clear hown hgr
  go_wp2
  go_loopw [10] (fun x wr => ∃ (t : Nat) (xs : List Value), t ≤ K ∧ x = .int .i64 t ∧ wr.ownsRow w.heap.size 96 1 (.slice (some ⟨w.heap.size, 0, none⟩) K K) K xs ∧ (∀ j, j < t → ∃ a d, xs.getD j undef = .iface 102 (.slice a l.length d) ∧ OwnI wr (w.heap.size + 1) (.slice a l.length d) (jnL l j)) ∧ w.heap.size + 1 ≤ wr.heap.size ∧ Below w.heap.size w wr) (fun x _ => K - (intOf x).toNat)
  case atStart => exact ⟨0, _, Nat.zero_le _, rfl, Hown2.out, fun j hj => absurd hj (by omega), hsz, Hb2.out⟩
  case round =>
    obtain ⟨t, xs, ht, rfl, hown, hd, hsr, hbr⟩ := hrel
    have Hown := Lib.hid hown
    have Hd := Lib.hid hd
    have Hbr := Lib.hid hbr
    have Hsr := Lib.hid hsr
    clear hown hd hbr Hown2 Hb2 hsr hsz
    by_cases hlt : t < K
    · go_wp2_with fail
      refine (CJ.out t wr (by have := HK.out; omega)).mono ?_
      rintro e w3 ⟨a, d, rfl, hv, hb⟩
      have hown3 := ownsRow_below Hown.out hb
      have hl : xs.length = K := by simpa using hown3.1
      have hd3 : w3.cell? ⟨w.heap.size, t, none⟩ = some (xs.getD t undef) := by
        rw [World.ownsRow.cellAt hown3 t (by omega), List.getD, List.getElem?_eq_getElem (by omega)]; rfl
      have hf3 := World.ownsRow.frozenAt hown3 t
      have Hst := Lib.hid (World.ownsRow.stored hown3 t (.iface 102 (.slice a l.length d))).1
      have Hbs := Lib.hid ((Hbr.out.trans (hb.mono Hbr.out.size)).setCell (p := ⟨w.heap.size, t, none⟩) (Nat.le_refl _) (.iface 102 (.slice a l.length d)))
      have hne : ∀ (u : Value) (q : List Int) (W : World), OwnI W (w.heap.size + 1) u q → u.ownBlock ≠ some (⟨w.heap.size, t, none⟩ : Addr).block := fun u q W h e => by
        have := (h.lt _ e).1
        simp at this
        omega
      have Hnew := Lib.hid (show ∀ j, j < t + 1 → ∃ a' d', (xs.set t (.iface 102 (.slice a l.length d))).getD j undef = .iface 102 (.slice a' l.length d') ∧ OwnI (w3.setCell ⟨w.heap.size, t, none⟩ (.iface 102 (.slice a l.length d))) (w.heap.size + 1) (.slice a' l.length d') (jnL l j) from fun j hj => by
        simp only [List.getD, List.getElem?_set]
        by_cases e : j = t
        · subst e
          have hv2 := hv.base Hsr.out
          exact ⟨a, d, by rw [if_pos rfl, if_pos (by omega)]; rfl, hv2.setOther (hne _ _ _ hv2) _⟩
        · obtain ⟨a', d', h5, h6⟩ := Hd.out j (by omega)
          have h7 := h6.below hb
          exact ⟨a', d', by rw [if_neg (fun h => e h.symm)]; exact h5, h7.setOther (hne _ _ _ h7) _⟩)
      have Hsz := Lib.hid (show w.heap.size + 1 ≤ (w3.setCell ⟨w.heap.size, t, none⟩ (.iface 102 (.slice a l.length d))).heap.size by
        have h8 := Hsr.out
        have h9 := hb.size
        simp [World.setCell]
        omega)
      clear hv hb hown3 hl hne
      go_wp2
      go_roundw
      case rel => exact ⟨t + 1, _, by omega, by go_num, Hst.out, Hnew.out, Hsz.out, Hbs.out⟩
      case measure => simp [intOf]; omega
    · obtain rfl : t = K := by omega
      have hl : xs.length = t := by simpa using Hown.out.1
      have Hfin := Lib.hid (show TotAt wr (.slice (some ⟨w.heap.size, 0, none⟩) t t) l t from ⟨_, _, rfl, fun j hj => by
        obtain ⟨a', d', h5, h6⟩ := Hd.out j hj
        refine ⟨a', d', ?_, own_at h6⟩
        rw [World.ownsRow.cellAt Hown.out j (by omega), ← h5, List.getD, List.getElem?_eq_getElem (by omega)]
        rfl⟩)
      clear hl
      go_wp2
      go_ret
      exact ⟨_, rfl, Hfin.out, Hbr.out⟩

theorem ttSize_any (v : Value) (l : List (List Int)) (k : Nat) (w : World) (hl : l.length ≤ 14) (hk : 1 ≤ k) (hk8 : k ≤ 8) (h : TotAt w v l k) :
    Calls Try.prog 157 #[v] w fun e w' => e = .returned (.int .i64 (l.length : Int)) ∧ w' = w := by
  obtain ⟨g, c, rfl, hc⟩ := h
  obtain ⟨a, d, hc0, hx⟩ := hc 0 (by omega)
  have CS := Lib.hid (jnSize_any (.slice a l.length d) l 0 w hl ⟨a, d, rfl, hx⟩)
  have hmt := fun w' => method_jn_size a l.length d w'
  have hna := fun w' => ahead_jn_size a l.length d w'
  clear hc hx
  go_enter Try.func157, Try.ntmps157
  go_wp2_with fail
  refine CS.out.mono ?_
  rintro e w2 ⟨rfl, rfl⟩
  go_wp2
  go_ret
  exact ⟨rfl, rfl⟩

set_option maxRecDepth 100000 in
set_option maxHeartbeats 800000 in
theorem ttAt1_any (a : Option Addr) (d : Nat) (l : List (List Int)) (i r c g1 g2 : Nat) (w : World) (hl : l.length ≤ 14) (hr : r < l.length) (hc : c < l.length) (hx : IntsAt w a (jnL l i)) (hc1 : w.cell? ⟨g1, 0, none⟩ = some (.int .i64 (r : Int))) (hc2 : w.cell? ⟨g2, 0, none⟩ = some (.int .i64 (c : Int))) :
    Calls Try.prog 159 #[.iface 102 (.slice a l.length d), .pointer (some ⟨g1, 0, none⟩), .pointer (some ⟨g2, 0, none⟩)] w fun e w' => e = .returned (.int .i64 (opN l i r c)) ∧ w' = w := by
  have CA := Lib.hid (jnAt_any (.slice a l.length d) l i r c w hl hr hc ⟨a, d, rfl, hx⟩)
  have hmt := fun w' => method_jn_at a l.length d w'
  have hna := fun w' => ahead_jn_at a l.length d w'
  clear hx
  go_enter Try.func159, Try.ntmps159
  go_wp2_with fail
  refine CA.out.mono ?_
  rintro e w2 ⟨rfl, rfl⟩
  go_wp2
  go_ret
  exact ⟨rfl, rfl⟩

set_option maxRecDepth 100000 in
set_option maxHeartbeats 800000 in
theorem sumOfOps_any (g cp k : Nat) (l : List (List Int)) (r c g1 g2 : Nat) (w : World) (hl : l.length ≤ 14) (hk8 : k ≤ 8) (hr : r < l.length) (hc : c < l.length) (hx : TotAt w (.slice (some ⟨g, 0, none⟩) k cp) l k) (hc1 : w.cell? ⟨g1, 0, none⟩ = some (.int .i64 (r : Int))) (hc2 : w.cell? ⟨g2, 0, none⟩ = some (.int .i64 (c : Int))) :
    Calls Try.prog 158 #[.slice (some ⟨g, 0, none⟩) k cp, .func (.func 159) #[] #[.pointer (some ⟨g1, 0, none⟩), .pointer (some ⟨g2, 0, none⟩)]] w fun e w' => e = .returned (.int .i64 (sumN l k r c)) ∧ w' = w := by
  obtain ⟨g', c', e, hcs⟩ := hx
  simp only [Value.slice.injEq, Option.some.injEq, Addr.mk.injEq, and_true, true_and] at e
  obtain ⟨rfl, rfl⟩ := e
  have Hcs := Lib.hid hcs
  have Hc1 := Lib.hid hc1
  have Hc2 := Lib.hid hc2
  clear hcs hc1 hc2
  go_enter Try.func158, Try.ntmps158
  go_wp2
  go_loop [5, 10] (fun s x => ∃ t : Nat, t ≤ k ∧ x = .int .i64 t ∧ s = .int .i64 (sumN l t r c)) (fun _ x => k - (intOf x).toNat)
  case atStart => exact ⟨0, Nat.zero_le _, rfl, rfl⟩
  case round =>
    obtain ⟨t, ht, rfl, rfl⟩ := hrel
    by_cases hlt : t < k
    · obtain ⟨a, d, hct, hxt⟩ := Hcs.out t hlt
      have CA := Lib.hid (ttAt1_any a d l t r c g1 g2 w hl hr hc hxt Hc1.out Hc2.out)
      have h1 := sumN_in l t r c
      have h2 := opN_01 l t r c
      have HS := Lib.hid (show sumN l (t + 1) r c = sumN l t r c + opN l t r c from rfl)
      obtain ⟨s, hs⟩ : ∃ s, s = sumN l t r c := ⟨_, rfl⟩
      obtain ⟨x, hx⟩ : ∃ x, x = opN l t r c := ⟨_, rfl⟩
      rw [← hs] at h1 HS ⊢
      rw [← hx] at h2 HS CA
      clear hs hx hxt
      go_wp2_with fail
      refine CA.out.mono ?_
      rintro e w2 ⟨rfl, rfl⟩
      go_wp2
      go_round
      case rel => exact ⟨t + 1, by omega, by go_num, by rw [HS.out]⟩
      case measure => simp [intOf]; omega
    · obtain rfl : t = k := by omega
      go_wp2
      go_ret
      exact ⟨rfl, rfl⟩

set_option maxRecDepth 100000 in
set_option maxHeartbeats 800000 in
theorem ttAt_any (v : Value) (l : List (List Int)) (k r c : Nat) (w : World) (hl : l.length ≤ 14) (hk8 : k ≤ 8) (hr : r < l.length) (hc : c < l.length) (h : TotAt w v l k) :
    Calls Try.prog 156 #[v, .int .i64 (r : Int), .int .i64 (c : Int)] w fun e w' => e = .returned (.int .i64 (sumN l k r c)) ∧ Below w.heap.size w w' := by
  have h' := h
  obtain ⟨g, cp, rfl, _⟩ := h'
  have HB := Lib.hid (((Below.refl w.heap.size w).alloc (Nat.le_refl _) (.cells #[.int .i64 (r : Int)] 3)).alloc (by simp) (.cells #[.int .i64 (c : Int)] 3))
  have CS := Lib.hid (sumOfOps_any g cp k l r c w.heap.size (w.heap.size + 1) ((w.alloc (.cells #[.int .i64 (r : Int)] 3)).alloc (.cells #[.int .i64 (c : Int)] 3)) hl hk8 hr hc (h.below HB.out) (by rw [cell_of_row _ _ 0 _ _ _ (heap_alloc2_old w _ _)]; rfl) (by rw [cell_of_row _ _ 0 _ _ _ (heap_alloc2_new w _ _)]; rfl))
  clear h
  go_enter Try.func156, Try.ntmps156
  go_wp2_with fail
  refine CS.out.mono ?_
  rintro e w2 ⟨rfl, rfl⟩
  go_wp2
  go_ret
  exact ⟨rfl, HB.out⟩

end Go.Proofs.Ytgdijjfipicodaa

namespace Go.Proofs.Ytgdijjfipicodaa
open Go.RowKit

/-- a ratio without a common divisor -/
def nrm (p q : Nat) : Nat × Nat := (p / Nat.gcd p q, q / Nat.gcd p q)
def Cop (a : Nat × Nat) : Prop := Nat.gcd a.1 a.2 = 1 ∧ 0 < a.2
theorem nrm_mul {k : Nat} (hk : 0 < k) (p q : Nat) : nrm (k * p) (k * q) = nrm p q := by
  unfold nrm
  rw [Nat.gcd_mul_left, Nat.mul_div_mul_left _ _ hk, Nat.mul_div_mul_left _ _ hk]
theorem nrm_id {a : Nat × Nat} (h : Cop a) : nrm a.1 a.2 = a := by
  unfold nrm
  rw [h.1, Nat.div_one, Nat.div_one]
theorem nrm_parts {p q : Nat} (hq : 0 < q) : 0 < Nat.gcd p q ∧ p = Nat.gcd p q * (nrm p q).1 ∧ q = Nat.gcd p q * (nrm p q).2 ∧ Cop (nrm p q) := by
  have hg : 0 < Nat.gcd p q := Nat.gcd_pos_of_pos_right _ hq
  have h1 : p = Nat.gcd p q * (p / Nat.gcd p q) := (Nat.mul_div_cancel' (Nat.gcd_dvd_left p q)).symm
  have h2 : q = Nat.gcd p q * (q / Nat.gcd p q) := (Nat.mul_div_cancel' (Nat.gcd_dvd_right p q)).symm
  refine ⟨hg, h1, h2, ?_, ?_⟩
  · show Nat.gcd (p / Nat.gcd p q) (q / Nat.gcd p q) = 1
    have h3 : Nat.gcd (Nat.gcd p q * (p / Nat.gcd p q)) (Nat.gcd p q * (q / Nat.gcd p q)) = Nat.gcd p q := by rw [← h1, ← h2]
    rw [Nat.gcd_mul_left] at h3
    exact Nat.eq_of_mul_eq_mul_left hg (by rw [h3, Nat.mul_one])
  · show 0 < q / Nat.gcd p q
    rcases Nat.eq_zero_or_pos (q / Nat.gcd p q) with h | h
    · rw [h, Nat.mul_zero] at h2; omega
    · exact h
theorem nrm_cop {p q : Nat} (hq : 0 < q) : Cop (nrm p q) := (nrm_parts hq).2.2.2
theorem nrm_le (p q : Nat) : (nrm p q).1 ≤ p ∧ (nrm p q).2 ≤ q := ⟨Nat.div_le_self _ _, Nat.div_le_self _ _⟩
theorem nrm_times {p q : Nat} (hq : 0 < q) (x y : Nat) : nrm ((nrm p q).1 * x) ((nrm p q).2 * y) = nrm (p * x) (q * y) := by
  obtain ⟨hg, h1, h2, _⟩ := nrm_parts (p := p) hq
  obtain ⟨g, hgg⟩ : ∃ g, g = Nat.gcd p q := ⟨_, rfl⟩
  obtain ⟨a, ha⟩ : ∃ a, a = nrm p q := ⟨_, rfl⟩
  rw [← hgg] at hg h1 h2
  rw [← ha] at h1 h2 ⊢
  rw [h1, h2, Nat.mul_assoc, Nat.mul_assoc, nrm_mul hg]
/-- products, sums, one divided by another -/
def tm (a b : Nat × Nat) : Nat × Nat := nrm (a.1 * b.1) (a.2 * b.2)
def pl (a b : Nat × Nat) : Nat × Nat := nrm (a.1 * b.2 + b.1 * a.2) (a.2 * b.2)
def ov (a b : Nat × Nat) : Nat × Nat := nrm (a.1 * b.2) (a.2 * b.1)
theorem tm_cop {a b : Nat × Nat} (ha : Cop a) (hb : Cop b) : Cop (tm a b) := nrm_cop (Nat.mul_pos ha.2 hb.2)
theorem pl_cop {a b : Nat × Nat} (ha : Cop a) (hb : Cop b) : Cop (pl a b) := nrm_cop (Nat.mul_pos ha.2 hb.2)
theorem ov_cop {a b : Nat × Nat} (ha : Cop a) (hb : 0 < b.1) : Cop (ov a b) := nrm_cop (Nat.mul_pos ha.2 hb)
theorem cop_swap {b : Nat × Nat} (h : Cop b) (hb : 0 < b.1) : Cop (b.2, b.1) := ⟨by rw [Nat.gcd_comm]; exact h.1, hb⟩
theorem cop_one (x : Nat) : Cop (x, 1) := ⟨Nat.gcd_one_right x, Nat.one_pos⟩
theorem gcd_of_dvd {a b p s : Nat} (h : Nat.gcd a b = 1) (hp : p ∣ a) (hs : s ∣ b) : Nat.gcd p s = 1 := by
  have : Nat.gcd p s ∣ Nat.gcd a b := Nat.dvd_gcd (Nat.dvd_trans (Nat.gcd_dvd_left _ _) hp) (Nat.dvd_trans (Nat.gcd_dvd_right _ _) hs)
  rw [h] at this
  exact Nat.dvd_one.1 this
/-- a product made of two ratios across -/
theorem tm_cross {a b : Nat × Nat} (ha : Cop a) (hb : Cop b) : ((nrm a.1 b.2).1 * (nrm b.1 a.2).1, (nrm a.1 b.2).2 * (nrm b.1 a.2).2) = tm a b := by
  obtain ⟨g1, p1, q1, c1⟩ := nrm_parts (p := a.1) hb.2
  obtain ⟨g2, p2, q2, c2⟩ := nrm_parts (p := b.1) ha.2
  obtain ⟨G, hG⟩ : ∃ G, G = Nat.gcd a.1 b.2 := ⟨_, rfl⟩
  obtain ⟨H, hH⟩ : ∃ H, H = Nat.gcd b.1 a.2 := ⟨_, rfl⟩
  obtain ⟨⟨p, q⟩, hx⟩ : ∃ x, x = nrm a.1 b.2 := ⟨_, rfl⟩
  obtain ⟨⟨r, s⟩, hy⟩ : ∃ y, y = nrm b.1 a.2 := ⟨_, rfl⟩
  rw [← hG] at g1 p1 q1
  rw [← hH] at g2 p2 q2
  rw [← hx] at p1 q1 c1 ⊢
  rw [← hy] at p2 q2 c2 ⊢
  simp only at p1 q1 p2 q2 ⊢
  have k1 : Nat.gcd p s = 1 := gcd_of_dvd ha.1 ⟨G, by rw [p1, Nat.mul_comm]⟩ ⟨H, by rw [q2, Nat.mul_comm]⟩
  have k2 : Nat.gcd r q = 1 := gcd_of_dvd hb.1 ⟨H, by rw [p2, Nat.mul_comm]⟩ ⟨G, by rw [q1, Nat.mul_comm]⟩
  have k3 : Nat.gcd p q = 1 := c1.1
  have k4 : Nat.gcd r s = 1 := c2.1
  have hc : Nat.gcd (p * r) (q * s) = 1 := by
    have e1 : Nat.Coprime p (q * s) := Nat.Coprime.mul_right k3 k1
    have e2 : Nat.Coprime r (q * s) := Nat.Coprime.mul_right k2 k4
    exact Nat.Coprime.mul_left e1 e2
  have hpos : 0 < q * s := Nat.mul_pos c1.2 c2.2
  have e : tm a b = nrm (p * r) (q * s) := by
    unfold tm
    rw [p1, q1, p2, q2, show G * p * (H * r) = (G * H) * (p * r) from by simp [Nat.mul_assoc, Nat.mul_left_comm, Nat.mul_comm], show H * s * (G * q) = (G * H) * (q * s) from by simp [Nat.mul_assoc, Nat.mul_left_comm, Nat.mul_comm], nrm_mul (Nat.mul_pos g1 g2)]
  rw [e]
  exact (nrm_id (a := (p * r, q * s)) ⟨hc, hpos⟩).symm
theorem tm_whole {p q : Nat} (hq : 0 < q) (x : Nat) : tm (nrm p q) (x, 1) = nrm (p * x) q := by
  unfold tm
  simp only
  rw [nrm_times hq x 1, Nat.mul_one]
theorem ov_whole {p q : Nat} (hq : 0 < q) (x : Nat) : ov (nrm p q) (x, 1) = nrm p (q * x) := by
  unfold ov
  simp only
  rw [nrm_times hq 1 x, Nat.mul_one]
end Go.Proofs.Ytgdijjfipicodaa

