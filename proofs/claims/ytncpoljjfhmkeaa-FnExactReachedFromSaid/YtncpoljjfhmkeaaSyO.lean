/- Contracts of the model: operators of points. Conditions: numbers of an int. -/
import Derived.Test.YtncpoljjfhmkeaaSyR
import Derived.Test.YtncpoljjfhmkeaaSpecC
import Derived.Test.YtncpoljjfhmkeaaImplC
import Derived.StillTailTactics
namespace Go.Proofs.Ytncpoljjfhmkeaa
open Go.RowKit

/-- the number of the operator of a point, for a list of patterns -/
def opN (l : List (List Int)) (i r c : Nat) : Int := if rk l (joinL (gr l c) i) = r then 1 else 0
def opT (l : List (List Int)) (i : Nat) : List (List Int) := tab l.length l.length (opN l i)
/-- .. its first b columns -/
def opK (l : List (List Int)) (i b r c : Nat) : Int := if c < b then opN l i r c else 0
theorem opK_step {l : List (List Int)} {i b R : Nat} (h : rk l (joinL (gr l b) i) = R) : (fun r c => if r = R ∧ c = b then (1 : Int) else opK l i b r c) = opK l i (b + 1) := by
  funext r c
  unfold opK opN
  by_cases e : c = b
  · subst e
    rw [h, if_neg (Nat.lt_irrefl c), if_pos (Nat.lt_succ_self c)]
    by_cases er : r = R
    · rw [if_pos ⟨er, rfl⟩, if_pos er.symm]
    · rw [if_neg (fun h => er h.1), if_neg (fun h => er h.symm)]
  · rw [if_neg (fun h => e h.2)]
    by_cases ec : c < b
    · rw [if_pos ec, if_pos (show c < b + 1 by omega)]
    · rw [if_neg ec, if_neg (show ¬c < b + 1 by omega)]
theorem opK_zero (l : List (List Int)) (i : Nat) : opK l i 0 = fun _ _ => 0 := by funext r c; unfold opK; simp
theorem opK_end (l : List (List Int)) (i : Nat) : tab l.length l.length (opK l i l.length) = opT l i := by
  refine eq_tab (tab_len _ _ _) (fun i hi => tab_row hi) fun r c hr hc => ?_
  rw [gi_tab hr hc]
  unfold opK
  rw [if_pos hc]
theorem opN_01 (l : List (List Int)) (i r c : Nat) : 0 ≤ opN l i r c ∧ opN l i r c ≤ 1 := by unfold opN; split <;> omega
theorem opK_same (l : List (List Int)) (i b r : Nat) : opK l i b r b = 0 := if_neg (Nat.lt_irrefl b)

theorem OwnM.head {w : World} {B : Nat} {v : Value} {m : List (List Int)} (h : OwnM w B v m) (h1 : 1 ≤ m.length) : ∃ g c vs, v = .slice (some ⟨g, 0, none⟩) m.length c ∧ OwnP w B (.slice (some ⟨g, 0, none⟩) m.length c) m.length m m.length vs ∧ B ≤ g := by
  obtain ⟨ao, c, vs, rfl, hp, _, _⟩ := h.open
  rcases hp.top.2 with ⟨h0, h2⟩ | ⟨g, cap, cur, hv2, hg2, _⟩
  · omega
  · simp only [Value.slice.injEq] at hv2
    obtain ⟨rfl, _, _⟩ := hv2
    exact ⟨g, c, vs, rfl, hp, hg2⟩

set_option maxRecDepth 100000 in
set_option maxHeartbeats 1600000 in
theorem syOperator_any (n i : Nat) (w : World) (h1 : 1 ≤ n) (h4 : n ≤ 4) (hi : i < 2 * n) :
    Calls Try.prog 68 #[.int .i64 (n : Int), .int .i64 (i : Int)] w fun e w' => ∃ v, e = .returned v ∧ OwnM w' w.heap.size v (opT (patP 6 n) i) ∧ Below w.heap.size w w' := by
  obtain ⟨i0, hi0, hz0, hz1, hz2⟩ := info_parts Try.info_int
  obtain ⟨j0, hj, hy0, hy1, hy2⟩ := info_parts Try.info_ints
  have CL := Lib.hid (loAll4_any n w h4)
  have Hsh := Lib.hid (patP_short (n := n) (by omega))
  have hl14 := Hsh.out.1
  have hl1 : 1 ≤ (patP 6 n).length := catN_pos n (by omega)
  have Hlk := Lib.hid (fun p hp => patP_lk (n := n) h1 (by omega) (p := p) hp)
  have Hlen := Lib.hid (fun p hp => patP_len (n := n) (by omega) (p := p) hp)
  have Hjm := Lib.hid (fun p hp => join_mem (n := n) (by omega) (p := p) hp hi)
  obtain ⟨l, hl⟩ : ∃ l, l = patP 6 n := ⟨_, rfl⟩
  rw [← hl] at CL Hsh hl14 hl1 Hlk Hlen Hjm ⊢
  clear hl
  have hlm : l.length ≤ 9223372036854775807 := by omega
  go_enter Try.func68, Try.ntmps68
  go_wp2_with fail
  refine CL.out.mono ?_
  rintro e w1 ⟨la, lc, rfl, hv, hb⟩
  have Hb1 := Lib.hid hb
  obtain ⟨_, _, hve, _, _, hm⟩ := hv.read
  have hve2 := (Value.slice.injEq _ _ _ _ _ _).mp hve
  obtain ⟨rfl, -, rfl⟩ := hve2
  have Hm := Lib.hid hm
  clear hb hv hve hm CL
  go_wp2
  go_loopw [6, 13] (fun out i wr => ∃ (k : Nat) (vs : List Value), k ≤ l.length ∧ i = .int .i64 k ∧ OwnP wr w1.heap.size out k (tab l.length l.length fun _ _ => 0) k vs ∧ Below w1.heap.size w1 wr) (fun _ i _ => l.length - (intOf i).toNat)
  case atStart => exact ⟨0, [], Nat.zero_le _, rfl, ⟨World.ownsRow_nil _ _ _ _, fun i hi => absurd hi (by omega), fun i j _ hj => absurd hj (by omega)⟩, Below.refl _ _⟩
  case round =>
    obtain ⟨k, vs, hk, rfl, hout, hbr⟩ := hrel
    by_cases hlt : k < l.length
    · have hB := hbr.size
      have Hout := Lib.hid hout
      have Hbr := Lib.hid hbr
      clear hout hbr
      go_wp2_with (at_make; refine wpList_make_full _ rfl _ _ 22 rfl wr.heap.size 3 i0 (.int .i64 0) 1 Try.underlying22 hi0 hz0 hz1 _ _ _ _ l.length rfl rfl rfl rfl ?d1 ?d2 ?d3 ?_)
      case d1 => rw [hz2]; omega
      case d2 => unfold maxLen; omega
      case d3 => simp
      intro w2 hown2 hg2
      have hb2 : Below wr.heap.size wr w2 := (Below.refl _ _).grown hg2 (Nat.le_refl _) (fun _ h => by cases h)
      have hrow := OwnI.made hown2
      have hB2 := hb2.size
      have e1 : gr (tab l.length l.length fun _ _ => (0 : Int)) k = List.replicate l.length 0 := zero_row hlt
      have Hout2 := Lib.hid (Hout.out.below hb2)
      have hrow2 : OwnI w2 w1.heap.size (.slice (some ⟨wr.heap.size, 0, none⟩) l.length l.length) (gr (tab l.length l.length fun _ _ => (0 : Int)) k) := by rw [e1]; exact hrow.base hB
      have Hrow := Lib.hid hrow2
      have hfr := Lib.hid (Hout.out.fresh hrow (Nat.le_refl _))
      have Hb2 := Lib.hid (Hbr.out.trans (hb2.mono hB))
      clear hown2 hg2 hb2 hrow e1 hrow2
      go_wp2_with (at_builtin; refine wpList_append_own _ rfl _ _ 36 rfl w1.heap.size 22 j0 (.slice none 0 0) 1 24 Try.underlying36 hj hy0 hy1 hy2 rfl (by decide) _ _ _ rfl (World.ownsRow.alloc Hout2.out.top _) ⟨w2.heap.size, 0, none⟩ 1 1 [.slice (some ⟨wr.heap.size, 0, none⟩) l.length l.length] rfl rfl ?e1 ?e2 ?e3 ?e4 ?e5 ?_)
      case e1 => exact cell_one_new _ _ _
      case e2 => intro u hu; simp at hu; subst hu; rfl
      case e3 => unfold maxLen; omega
      case e4 => omega
      case e5 => simp; omega
      intro v' w3 hown' hgrow _
      have hput := Hout2.out.snoc (show w1.heap.size ≤ w2.heap.size by omega) Hrow.out hfr.out hown' hgrow
      have Hput := Lib.hid hput
      clear hput hown' hgrow
      go_wp2
      go_roundw
      case rel => exact ⟨k + 1, _, by omega, by go_num, Hput.out.1, Hb2.out.trans Hput.out.2⟩
      case measure => simp [intOf]; omega
    · obtain rfl : k = l.length := by omega
      have hO : OwnM wr w1.heap.size u6 (tab l.length l.length fun _ _ => 0) := ⟨vs, by rw [tab_len]; exact hout⟩
      obtain ⟨g, c, us, rfl, hp, hg⟩ := hO.head (by rw [tab_len]; omega)
      rw [tab_len] at hp ⊢
      have Hp := Lib.hid hp
      have Hbr := Lib.hid hbr
      rw [← opK_zero l i] at hp
      have Hp := Lib.hid hp
      clear hp hO hout hbr hg
      go_wp2
      go_loopw [24] (fun x wr => ∃ k : Nat, k ≤ l.length ∧ x = .int .i64 k ∧ OwnP wr w1.heap.size (.slice (some ⟨g, 0, none⟩) l.length c) l.length (tab l.length l.length (opK l i k)) l.length us ∧ Below w1.heap.size w1 wr) (fun x _ => l.length - (intOf x).toNat)
      case atStart => exact ⟨0, Nat.zero_le _, rfl, Hp.out, Hbr.out⟩
      case round =>
        obtain ⟨k, hk2, rfl, hout, hbr⟩ := hrel
        have Hout := Lib.hid hout
        have Hbr := Lib.hid hbr
        clear hout hbr Hp
        by_cases hlt : k < l.length
        · obtain ⟨b1, o1, r1, d1, rfl, hc1, hx1, _, _⟩ := Hm.out.below Hbr.out k hlt
          have hlk := Hlk.out _ (gr_mem hlt)
          have hlen := Hlen.out _ (gr_mem hlt)
          have CJ := Lib.hid (syJoin_any r1 d1 (gr l k) i wr hlk (by omega) hx1)
          have hmem := Hjm.out _ (gr_mem hlt)
          have Hmem := Lib.hid hmem
          have hR := rk_lt hmem
          have HS := Lib.hid (fun R (h : rk l (joinL (gr l k) i) = R) => opK_step h)
          have hgl : (gr l k).length ≤ 9223372036854775807 := by have := hlk.hi; omega
          have HJl := Lib.hid (show (joinL (gr l k) i).length ≤ 12 by rw [joinL_len]; exact hlk.hi)
          obtain ⟨J, hJ⟩ : ∃ J, J = joinL (gr l k) i := ⟨_, rfl⟩
          rw [← hJ] at CJ Hmem HJl HS hR
          obtain ⟨G, hG⟩ : ∃ G, G = gr l k := ⟨_, rfl⟩
          rw [← hG] at hc1 CJ hgl
          obtain ⟨R, hR2⟩ : ∃ R, rk l J = R := ⟨_, rfl⟩
          have HR2 := Lib.hid hR2
          rw [hR2] at hR
          clear hmem hJ hG hlk hlen hx1 hR2
          go_wp2_with fail
          refine CJ.out.mono ?_
          rintro e w3 ⟨v, rfl, hv, hb⟩
          obtain ⟨ja, jc, rfl, hj1, hj2, hji⟩ := hv.read
          have Hb3 := Lib.hid (Hbr.out.trans (hb.mono Hbr.out.size))
          have Hout3 := Lib.hid (Hout.out.below hb)
          have CR := Lib.hid (syRank_any (some ⟨b1, o1, none⟩) ja lc jc l J w3 Hsh.out HJl.out Hmem.out (Hm.out.below Hb3.out) hji)
          rw [HR2.out] at CR
          clear hv hb hji hj1 hj2 CJ Hout Hbr
          go_wp2_with fail
          refine CR.out.mono ?_
          rintro e w4 ⟨rfl, hb⟩
          have Hb4 := Lib.hid (Hb3.out.trans (hb.mono Hb3.out.size))
          have Hout4 := Lib.hid (Hout3.out.below hb)
          have hd := Hout4.out.cellAt R hR
          obtain ⟨q, cap, hvs, hd2, hf2, hg, hst⟩ := Hout4.out.at2 hR hlt
          rw [hvs] at hd
          rw [opK_same] at hd2
          have Hst := Lib.hid (hst 1)
          rw [HS.out R HR2.out] at Hst
          have Hbs := Lib.hid (Hb4.out.setCell (p := ⟨q, k, none⟩) hg (.int .i64 1))
          clear hb hst hvs CR Hb3 Hout3 hg
          go_wp2
          go_roundw
          case rel => exact ⟨k + 1, by omega, by go_num, Hst.out, Hbs.out⟩
          case measure => simp [intOf]; omega
        · obtain rfl : k = l.length := by omega
          have Hfin := Lib.hid (show OwnM wr w.heap.size (.slice (some ⟨g, 0, none⟩) l.length c) (opT l i) from ⟨us, by
            have e : (opT l i).length = l.length := tab_len _ _ _
            rw [e, ← opK_end]
            exact Hout.out.base Hb1.out.size⟩)
          have HB := Lib.hid (Hb1.out.trans (Hbr.out.mono Hb1.out.size))
          go_wp2
          go_ret
          exact ⟨_, rfl, Hfin.out, HB.out⟩

/-- n and one of the points of its patterns -/
def pointIn (n i : Int) : Prop := (1 ≤ n ∧ n ≤ 4) ∧ 0 ≤ i ∧ i < 2 * n

set_option maxRecDepth 100000 in
set_option maxHeartbeats 800000 in
theorem specOperatorOf_any (n i : Int) (w : World) (_ : -9223372036854775808 ≤ n ∧ n ≤ 9223372036854775807) (_ : -9223372036854775808 ≤ i ∧ i ≤ 9223372036854775807) :
    Calls Try.prog 30 #[.int .i64 n, .int .i64 i] w fun e w' => MRes (pointIn n i) (opT (patP 6 n.toNat) i.toNat) w' w.heap.size e ∧ Below w.heap.size w w' := by
  go_enter Try.func30, Try.ntmps30
  go_wp2_with fail
  refine (syPairs_any _ w).mono ?_
  rintro e w1 ⟨ha, rfl⟩
  by_cases hn : 1 ≤ n ∧ n ≤ 4
  · obtain rfl := ha.is hn
    clear ha
    go_wp2_with fail
    refine (l1In_any _ _ _ w).mono ?_
    rintro e w1 ⟨ha, rfl⟩
    by_cases hi : 0 ≤ i ∧ i ≤ 2 * n - 1
    · obtain rfl := ha.is (by first | exact hi | omega)
      have Hp := Lib.hid (show pointIn n i from ⟨hn, by omega⟩)
      have C := syOperator_any n.toNat i.toNat w (by omega) (by omega) (by omega)
      rw [Int.toNat_of_nonneg (by omega), Int.toNat_of_nonneg (by omega)] at C
      have C := Lib.hid C
      clear ha hi hn
      go_wp2_with fail
      refine C.out.mono ?_
      rintro e w2 ⟨v, rfl, hv, hb⟩
      have Hv := Lib.hid hv
      have Hb := Lib.hid hb
      clear hv hb
      go_wp2
      go_ret2
      exact ⟨MRes.yes Hp.out Hv.out, Hb.out⟩
    · obtain rfl := ha.isnt (by first | exact hi | omega)
      have Hp := Lib.hid (show ¬pointIn n i from fun h => hi (by have := h.2; omega))
      clear ha hi hn
      go_wp2
      go_ret2
      exact ⟨MRes.no Hp.out, Below.refl _ _⟩
  · obtain rfl := ha.isnt hn
    have Hn := Lib.hid hn
    clear ha hn
    go_wp2
    go_ret2
    exact ⟨MRes.no fun h => Hn.out h.1, Below.refl _ _⟩

/-- the sum of the operators of the first k points -/
def sumN (l : List (List Int)) : Nat → Nat → Nat → Int
  | 0, _, _ => 0
  | k + 1, r, c => sumN l k r c + opN l k r c
theorem sumN_in (l : List (List Int)) : ∀ (k r c : Nat), 0 ≤ sumN l k r c ∧ sumN l k r c ≤ (k : Int)
  | 0, _, _ => by simp [sumN]
  | k + 1, r, c => by have := sumN_in l k r c; have := opN_01 l k r c; unfold sumN; omega
def sumT (l : List (List Int)) : List (List Int) := tab l.length l.length (sumN l (gr l 0).length)
/-- .. with the k-th added in the rows before a, and before b in the row a -/
def addN (l : List (List Int)) (k a b r c : Nat) : Int := if r < a ∨ (r = a ∧ c < b) then sumN l (k + 1) r c else sumN l k r c
theorem addN_step (l : List (List Int)) (k a b : Nat) : (fun r c => if r = a ∧ c = b then sumN l k a b + opN l k a b else addN l k a b r c) = addN l k a (b + 1) := by
  funext r c
  unfold addN
  by_cases e : r = a ∧ c = b
  · obtain ⟨rfl, rfl⟩ := e
    rw [if_pos ⟨rfl, rfl⟩, if_pos (show r < r ∨ (r = r ∧ c < c + 1) by omega)]
    rfl
  · rw [if_neg e]
    by_cases e2 : r < a ∨ (r = a ∧ c < b)
    · rw [if_pos e2, if_pos (show r < a ∨ (r = a ∧ c < b + 1) by omega)]
    · rw [if_neg e2, if_neg (show ¬(r < a ∨ (r = a ∧ c < b + 1)) by omega)]
theorem addN_here (l : List (List Int)) (k a b : Nat) : addN l k a b a b = sumN l k a b := if_neg (by omega)
theorem addN_zero (l : List (List Int)) (k : Nat) : addN l k 0 0 = sumN l k := by funext r c; exact if_neg (by omega)
theorem addN_row (l : List (List Int)) (k a : Nat) : tab l.length l.length (addN l k a l.length) = tab l.length l.length (addN l k (a + 1) 0) := by
  refine eq_tab (tab_len _ _ _) (fun i hi => tab_row hi) fun r c hr hc => ?_
  rw [gi_tab hr hc]
  unfold addN
  by_cases e : r < a ∨ (r = a ∧ c < l.length)
  · rw [if_pos e, if_pos (by omega)]
  · rw [if_neg e, if_neg (by omega)]
theorem addN_end (l : List (List Int)) (k : Nat) : tab l.length l.length (addN l k l.length 0) = tab l.length l.length (sumN l (k + 1)) := by
  refine eq_tab (tab_len _ _ _) (fun i hi => tab_row hi) fun r c hr hc => ?_
  rw [gi_tab hr hc]
  unfold addN
  rw [if_pos (by omega)]
theorem opT_one (l : List (List Int)) : opT l 0 = tab l.length l.length (sumN l 1) := by
  refine eq_tab (tab_len _ _ _) (fun i hi => tab_row hi) fun r c hr hc => ?_
  unfold opT
  rw [gi_tab hr hc]
  simp [sumN]
theorem sumT_at {n : Nat} (h1 : 1 ≤ n) (h4 : n < 5) : sumT (patP 6 n) = tab (patP 6 n).length (patP 6 n).length (sumN (patP 6 n) (2 * n)) := by
  unfold sumT
  rw [patP_len h4 (gr_mem (catN_pos n h4))]

set_option maxRecDepth 100000 in
set_option maxHeartbeats 3200000 in
theorem sySum_any (n : Nat) (w : World) (h1 : 1 ≤ n) (h4 : n ≤ 4) :
    Calls Try.prog 71 #[.int .i64 (n : Int)] w fun e w' => ∃ v, e = .returned v ∧ OwnM w' w.heap.size v (sumT (patP 6 n)) ∧ Below w.heap.size w w' := by
  rw [sumT_at h1 (by omega)]
  have CO := Lib.hid (fun i w h => syOperator_any n i w h1 h4 h)
  have hl14 : (patP 6 n).length ≤ 14 := catN_le n (by omega)
  have hl1 : 1 ≤ (patP 6 n).length := catN_pos n (by omega)
  obtain ⟨l, hl⟩ : ∃ l, l = patP 6 n := ⟨_, rfl⟩
  rw [← hl] at CO hl14 hl1 ⊢
  clear hl
  obtain ⟨N, hN⟩ : ∃ N, N = l.length := ⟨_, rfl⟩
  have HO1 := Lib.hid (opT_one l)
  have HR := Lib.hid (addN_row l)
  have HE := Lib.hid (addN_end l)
  have HT := Lib.hid (fun i => show opT l i = tab N N (opN l i) by rw [hN]; rfl)
  rw [← hN] at hl14 hl1 HO1 HR HE ⊢
  clear hN
  have hNm : N ≤ 9223372036854775807 := by omega
  go_enter Try.func71, Try.ntmps71
  go_wp2_with fail
  refine (CO.out 0 w (by omega)).mono ?_
  rintro e w1 ⟨v, rfl, hv, hb⟩
  rw [HO1.out] at hv
  obtain ⟨g, c, us, rfl, hp, hg⟩ := hv.head (by rw [tab_len]; exact hl1)
  rw [tab_len] at hp ⊢
  have Hp := Lib.hid hp
  have Hb := Lib.hid hb
  clear hp hv hb
  go_wp2
  go_loopw [4] (fun x wr => ∃ k : Nat, 1 ≤ k ∧ k ≤ 2 * n ∧ x = .int .i64 k ∧ OwnP wr w.heap.size (.slice (some ⟨g, 0, none⟩) N c) N (tab N N (sumN l k)) N us ∧ Below w.heap.size w wr) (fun x _ => 2 * n - (intOf x).toNat)
  case atStart => exact ⟨1, Nat.le_refl _, by omega, rfl, Hp.out, Hb.out⟩
  case round =>
    obtain ⟨k, hk1, hk2, rfl, hout, hbr⟩ := hrel
    have Hout := Lib.hid hout
    have Hbr := Lib.hid hbr
    clear hout hbr Hp Hb
    by_cases hlt : k < 2 * n
    · go_wp2_with fail
      refine (CO.out k wr hlt).mono ?_
      rintro e w2 ⟨v, rfl, hv, hb⟩
      rw [HT.out] at hv
      obtain ⟨g2, c2, us2, rfl, hp2, hg2⟩ := hv.head (by rw [tab_len]; exact hl1)
      rw [tab_len] at hp2 ⊢
      have HP2 := Lib.hid hp2
      have Hout2 := Lib.hid (Hout.out.below hb)
      have Hbr2 := Lib.hid (Hbr.out.trans (hb.mono Hbr.out.size))
      have Hsp := Lib.hid (show ∀ i, i < N → ∀ q, (us.getD i undef).ownBlock = some q → q < wr.heap.size from fun i hi q hq => (((Hout.out.rows i hi).lt q hq).2))
      clear hp2 hv hb Hout Hbr hg2
      rw [← addN_zero l k] at Hout2
      go_wp2
      go_loopw [21] (fun x wq => ∃ a : Nat, a ≤ N ∧ x = .int .i64 a ∧ OwnP wq w.heap.size (.slice (some ⟨g, 0, none⟩) N c) N (tab N N (addN l k a 0)) N us ∧ OwnP wq wr.heap.size (.slice (some ⟨g2, 0, none⟩) N c2) N (tab N N (opN l k)) N us2 ∧ Below w.heap.size w wq) (fun x _ => N - (intOf x).toNat)
      case atStart => exact ⟨0, Nat.zero_le _, rfl, Hout2.out, HP2.out, Hbr2.out⟩
      case round =>
        rename World => wq
        obtain ⟨a, ha, rfl, hout, hp2, hbq⟩ := hrel
        have Hout := Lib.hid hout
        have HP := Lib.hid hp2
        have Hbq := Lib.hid hbq
        clear hout hp2 hbq Hout2 HP2 Hbr2
        by_cases hal : a < N
        · have hc2 := HP.out.cellAt a hal
          obtain ⟨r2, d2, hv2, _, _, _⟩ := (HP.out.rows a hal).read
          rw [tab_row hal] at hv2
          rw [hv2] at hc2
          have HV2 := Lib.hid hv2
          clear hv2
          go_wp2
          go_loopw [28] (fun x wp => ∃ b : Nat, b ≤ N ∧ x = .int .i64 b ∧ OwnP wp w.heap.size (.slice (some ⟨g, 0, none⟩) N c) N (tab N N (addN l k a b)) N us ∧ OwnP wp wr.heap.size (.slice (some ⟨g2, 0, none⟩) N c2) N (tab N N (opN l k)) N us2 ∧ Below w.heap.size w wp) (fun x _ => N - (intOf x).toNat)
          case atStart => exact ⟨0, Nat.zero_le _, rfl, Hout.out, HP.out, Hbq.out⟩
          case round =>
            rename World => wp
            obtain ⟨b, hb, rfl, hout, hp2, hbp⟩ := hrel
            clear Hout HP Hbq
            by_cases hbl : b < N
            · have hd := hout.cellAt a hal
              obtain ⟨q, cap, hvs, hd2, hf2, hgq, hst⟩ := hout.at2 hal hbl
              rw [hvs] at hd
              rw [addN_here] at hd2
              obtain ⟨q3, cap3, hvs3, hd3, _, _, _⟩ := hp2.at2 hal hbl
              rw [HV2.out] at hvs3
              simp only [Value.slice.injEq] at hvs3
              obtain ⟨rfl, -, rfl⟩ := hvs3
              have hs1 := sumN_in l k a b
              have hs2 := opN_01 l k a b
              have Hst := Lib.hid (hst (sumN l k a b + opN l k a b))
              rw [addN_step] at Hst
              have Hbs := Lib.hid (hbp.setCell (p := ⟨q, b, none⟩) hgq (.int .i64 (sumN l k a b + opN l k a b)))
              have Hp2 := Lib.hid (hp2.only ((OnlyW.refl (fun z => z = q) wp).setCell (p := ⟨q, b, none⟩) rfl (.int .i64 (sumN l k a b + opN l k a b))) (fun z hz => by
                rw [hz]
                exact Hsp.out a hal q (by rw [hvs]; rfl)))
              obtain ⟨y, hy⟩ : ∃ y, y = sumN l k a b := ⟨_, rfl⟩
              obtain ⟨z, hz⟩ : ∃ z, z = opN l k a b := ⟨_, rfl⟩
              rw [← hy] at hd2 hs1 Hst Hbs Hp2
              rw [← hz] at hd3 hs2 Hst Hbs Hp2
              clear hout hp2 hbp hst hvs hy hz hgq
              go_wp2
              go_roundw
              case rel => exact ⟨b + 1, by omega, by go_num, Hst.out, Hp2.out, Hbs.out⟩
              case measure => simp [intOf]; omega
            · obtain rfl : b = N := by omega
              rw [HR.out] at hout
              have Hout := Lib.hid hout
              have HP := Lib.hid hp2
              have Hbp := Lib.hid hbp
              clear hout hp2 hbp
              go_wp2
              go_roundw
              case rel => exact ⟨a + 1, by omega, by go_num, Hout.out, HP.out, Hbp.out⟩
              case measure => simp [intOf]; omega
        · obtain rfl : a = N := by omega
          rw [HE.out] at Hout
          go_wp2
          go_roundw
          case rel => exact ⟨k + 1, by omega, by omega, by go_num, Hout.out, Hbq.out⟩
          case measure => simp [intOf]; omega
    · obtain rfl : k = 2 * n := by omega
      go_wp2
      go_ret
      exact ⟨_, rfl, ⟨us, by rw [tab_len]; exact Hout.out⟩, Hbr.out⟩
end Go.Proofs.Ytncpoljjfhmkeaa
