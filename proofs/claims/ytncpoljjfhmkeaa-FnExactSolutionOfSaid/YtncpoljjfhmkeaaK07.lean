/- Parts of proofs: contracts and plain facts. Conditions: as each says. -/
import Derived.Test.YtncpoljjfhmkeaaK06
namespace Go.Proofs.Ytncpoljjfhmkeaa
open Go.RowKit

/-- a row of an owned list: its cell, and that it is owned -/
theorem OwnM.row {w : World} {B n c : Nat} {ao : Option Addr} {m : List (List Int)} (h : OwnM w B (.slice ao n c) m) {i : Nat} (hi : i < m.length) :
    ∃ g r d, ao = some ⟨g, 0, none⟩ ∧ w.cell? ⟨g, i, none⟩ = some (.slice r (gr m i).length d) ∧ OwnI w B (.slice r (gr m i).length d) (gr m i) ∧ IntsAt w r (gr m i) := by
  obtain ⟨vs, hp⟩ := h
  obtain ⟨r, d, hv, _, _, hx⟩ := (hp.rows i hi).read
  rcases hp.top.2 with ⟨h0, h1⟩ | ⟨g, cap, cur, hv2, _⟩
  · omega
  · simp only [Value.slice.injEq] at hv2
    obtain ⟨rfl, rfl, _⟩ := hv2
    refine ⟨g, r, d, rfl, ?_, ?_, hx⟩
    · rw [hp.cellAt i hi, hv]
    · rw [← hv]; exact hp.rows i hi
theorem OwnM.len {w : World} {B n c : Nat} {ao : Option Addr} {m : List (List Int)} (h : OwnM w B (.slice ao n c) m) : m.length = n := by
  obtain ⟨vs, hp⟩ := h
  rcases hp.top.2 with ⟨h0, h1⟩ | ⟨g, cap, cur, hv2, _⟩
  · simp only [Value.slice.injEq] at h0; omega
  · simp only [Value.slice.injEq] at hv2; exact hv2.2.1.symm

/-- all patterns of at most 4 lines, by the model -/
theorem loAll4_any (n : Nat) (w : World) (hn : n ≤ 4) : Calls Try.prog 53 #[.int .i64 (n : Int), .int .i64 0] w fun e w' => ∃ a c, e = .returned (.slice a (patP 6 n).length c) ∧ OwnM w' w.heap.size (.slice a (patP 6 n).length c) (patP 6 n) ∧ Below w.heap.size w w' := by
  have h := loAll_any 6 (by omega) n (by omega) 0 (by omega) w
  rw [pat_same n (by omega)] at h
  refine h.mono ?_
  rintro e w' ⟨v, rfl, hv, hb⟩
  obtain ⟨a, c, rfl, _, _, _⟩ := hv.read
  exact ⟨a, c, rfl, hv, hb⟩
theorem patterns4_any (n : Nat) (w : World) (hn : n ≤ 4) : Calls Try.prog 55 #[.int .i64 (n : Int)] w fun e w' => ∃ a c, e = .returned (.slice a (patP 6 n).length c) ∧ OwnM w' w.heap.size (.slice a (patP 6 n).length c) (patP 6 n) ∧ Below w.heap.size w w' := by
  refine (patterns_any 6 (by omega) n (by omega) w).mono ?_
  rintro e w' ⟨v, rfl, hv, hb⟩
  obtain ⟨a, c, rfl, _, _, _⟩ := hv.read
  exact ⟨a, c, rfl, hv, hb⟩

/-- the rows of a list of patterns are short -/
def Short (l : List (List Int)) : Prop := l.length ≤ 14 ∧ ∀ i, i < l.length → (gr l i).length ≤ 12
theorem patP_short {n : Nat} (hn : n < 5) : Short (patP 6 n) := ⟨catN_le n hn, fun i hi => by rw [patP_len hn (gr_mem hi)]; omega⟩

set_option maxRecDepth 100000 in
set_option maxHeartbeats 800000 in
theorem syRank_any (ao a2 : Option Addr) (c c2 : Nat) (l : List (List Int)) (p : List Int) (w : World) (hs : Short l) (hp : p.length ≤ 12) (hm : p ∈ l) (hl : MatAt w ao l) (hx : IntsAt w a2 p) :
    Calls Try.prog 57 #[.slice ao l.length c, .slice a2 p.length c2] w fun e w' => e = .returned (.int .i64 (rk l p : Nat)) ∧ Below w.heap.size w w' := by
  have hlt := rk_lt hm
  have hl14 := hs.1
  have HE := Lib.hid (fun j (hj : j ≤ rk l p) => show (gr l j == p) = decide (j = rk l p) from by
    by_cases e : j = rk l p
    · rw [e, rk_at hm]; simp
    · rw [decide_eq_false e, beq_eq_false_iff_ne]; exact rk_before (by omega))
  obtain ⟨K, hK⟩ : ∃ K, K = rk l p := ⟨_, rfl⟩
  rw [← hK] at hlt HE ⊢
  have Hs := Lib.hid hs.2
  have Hl := Lib.hid hl
  have Hx := Lib.hid hx
  have hm1 : l.length ≤ 9223372036854775807 := by omega
  clear hs hm hl hx hK
  go_enter Try.func57, Try.ntmps57
  go_wp2
  go_loopw [5] (fun i wr => ∃ k : Nat, k ≤ K ∧ i = .int .i64 k ∧ Below w.heap.size w wr) (fun i _ => l.length - (intOf i).toNat)
  case atStart => exact ⟨0, Nat.zero_le _, rfl, Below.refl _ _⟩
  case round =>
    obtain ⟨k, hk, rfl, hbr⟩ := hrel
    have Hbr := Lib.hid hbr
    clear hbr
    have hkl : k < l.length := by omega
    obtain ⟨b1, o1, r1, d1, rfl, hc1, hx1, _, _⟩ := Hl.out.below Hbr.out k hkl
    have CS := Lib.hid (l1Same_any r1 a2 d1 c2 (gr l k) p wr (by have := Hs.out k hkl; omega) (by omega) hx1 (Hx.out.below Hbr.out))
    have hgl : (gr l k).length ≤ 9223372036854775807 := by have := Hs.out k hkl; omega
    have he := HE.out k hk
    rw [he] at CS
    obtain ⟨G, hG⟩ : ∃ G, G = gr l k := ⟨_, rfl⟩
    rw [← hG] at hc1 CS hgl
    clear hx1 he hG
    go_wp2_with fail
    refine CS.out.mono ?_
    rintro e w5 ⟨rfl, hq⟩
    have HB5 := Lib.hid (Hbr.out.trans (hq.below _))
    clear hq CS
    by_cases e : k = K
    · subst e
      have hd : decide (k = k) = true := by simp
      rw [hd]
      go_wp2
      go_ret
      exact ⟨rfl, HB5.out⟩
    · have hd : decide (k = K) = false := by simpa using e
      rw [hd]
      have hk1 : k + 1 ≤ K := by omega
      clear e hd
      go_wp2
      go_roundw
      case rel => exact ⟨k + 1, hk1, by go_num, HB5.out⟩
      case measure => simp [intOf]; omega

/-- a pattern of at most 4 lines -/
def pat4 (p : List Int) : Prop := isPat p ∧ p.length ≤ 8
/-- its rank -/
def rankOf (p : List Int) : Nat := rk (patP 6 (p.length / 2)) p
theorem pat4.mem {p : List Int} (h : pat4 p) : p ∈ patP 6 (p.length / 2) := h.1.mem h.2

set_option maxRecDepth 100000 in
set_option maxHeartbeats 800000 in
theorem specRankPattern_any (ao : Option Addr) (c : Nat) (p : List Int) (w : World) (hn : p.length ≤ 1048576) (hx : IntsAt w ao p) :
    Calls Try.prog 21 #[.slice ao p.length c] w fun e w' => IRes (pat4 p) (rankOf p : Nat) e ∧ Below w.heap.size w w' := by
  have hmx : p.length ≤ 9223372036854775807 := by omega
  have Hx := Lib.hid hx
  clear hx
  go_enter Try.func21, Try.ntmps21
  go_wp2_with fail
  refine (loIsPattern_any ao c p w hn Hx.out).mono ?_
  rintro e w1 ⟨ha, rfl⟩
  by_cases hg : isPat p
  · have Hg := Lib.hid hg
    have h2 := hg.lo
    have h12 := hg.hi
    clear hg
    obtain rfl := ha.is Hg.out
    clear ha
    by_cases h8 : 8 < p.length
    · have hd : decide ((8 : Int) < (p.length : Int)) = true := by simp; omega
      go_wp2
      go_ret2
      exact ⟨IRes.no fun h => by have := h.2; omega, Below.refl _ _⟩
    have hd : decide ((8 : Int) < (p.length : Int)) = false := by simp; omega
    have H4 := Lib.hid (show pat4 p from ⟨Hg.out, by omega⟩)
    obtain ⟨n, hne⟩ : ∃ n, n = p.length / 2 := ⟨_, rfl⟩
    have hq1 : (p.length : Int) / 2 = (n : Int) := by omega
    have hq2 : (p.length : Int).tdiv 2 = (n : Int) := by rw [Int.tdiv_eq_ediv_of_nonneg (by omega)]; exact hq1
    have hn4 : n ≤ 4 := by omega
    have HK := Lib.hid (show rankOf p = rk (patP 6 n) p by unfold rankOf; rw [hne])
    have Hmem := Lib.hid (show p ∈ patP 6 n by rw [hne]; exact H4.out.mem)
    have CL := Lib.hid (loAll4_any n w hn4)
    have Hsh := Lib.hid (patP_short (n := n) (by omega))
    obtain ⟨l, hl⟩ : ∃ l, l = patP 6 n := ⟨_, rfl⟩
    rw [← hl] at HK Hmem CL Hsh
    clear h8 hne hl
    go_wp2_with fail
    refine CL.out.mono ?_
    rintro e w2 ⟨la, lc, rfl, hv, hb⟩
    have Hb := Lib.hid hb
    obtain ⟨_, _, hve, _, _, hm⟩ := hv.read
    have hve2 := (Value.slice.injEq _ _ _ _ _ _).mp hve
    obtain ⟨rfl, -, rfl⟩ := hve2
    have CR := Lib.hid (syRank_any la ao lc c l p w2 Hsh.out (by omega) Hmem.out hm (Hx.out.below hb))
    clear hb hv hve hm CL
    go_wp2_with fail
    refine CR.out.mono ?_
    rintro e w3 ⟨rfl, hb⟩
    have Hb3 := Lib.hid (Hb.out.trans (hb.mono Hb.out.size))
    clear hb CR
    go_wp2
    go_ret2
    exact ⟨by rw [← HK.out]; exact IRes.yes H4.out, Hb3.out⟩
  · have Hg := Lib.hid hg
    clear hg
    obtain rfl := ha.isnt Hg.out
    clear ha
    go_wp2
    go_ret2
    exact ⟨IRes.no fun h => Hg.out h.1, Below.refl _ _⟩

theorem syPairs_any (n : Int) (w : World) : Calls Try.prog 51 #[.int .i64 n] w fun e w' => Ans (1 ≤ n ∧ n ≤ 4) e ∧ w = w' := by
  go_enter Try.func51, Try.ntmps51
  go_wp2_with fail
  refine (l1In_any _ _ _ w).mono ?_
  rintro e w1 ⟨⟨b, rfl, hb⟩, rfl⟩
  have Hb := Lib.hid hb
  clear hb
  go_wp2
  go_ret
  exact ⟨⟨b, rfl, Hb.out⟩, rfl⟩

/-- a rank of patterns of n lines -/
def rankIn (n r : Int) : Prop := (1 ≤ n ∧ n ≤ 4) ∧ 0 ≤ r ∧ r < catN n.toNat

set_option maxRecDepth 100000 in
set_option maxHeartbeats 800000 in
theorem specPatternWith_any (n r : Int) (w : World) (_ : -9223372036854775808 ≤ n ∧ n ≤ 9223372036854775807) (_ : -9223372036854775808 ≤ r ∧ r ≤ 9223372036854775807) :
    Calls Try.prog 16 #[.int .i64 n, .int .i64 r] w fun e w' => LRes (rankIn n r) (gr (patP 6 n.toNat) r.toNat) w' w.heap.size e ∧ Below w.heap.size w w' := by
  by_cases hn : 1 ≤ n ∧ n ≤ 4
  · have Hn := Lib.hid hn
    obtain ⟨N, rfl⟩ : ∃ N : Nat, n = N := ⟨n.toNat, by omega⟩
    have CL := Lib.hid (fun w => loAll4_any N w (by omega))
    have HR := Lib.hid (show rankIn N r ↔ 0 ≤ r ∧ r ≤ ((patP 6 N).length : Int) - 1 by
      unfold rankIn catN
      rw [Int.toNat_natCast]
      omega)
    have hl14 : (patP 6 N).length ≤ 14 := catN_le N (by omega)
    rw [Int.toNat_natCast]
    obtain ⟨l, hl⟩ : ∃ l, l = patP 6 N := ⟨_, rfl⟩
    rw [← hl] at CL HR hl14 ⊢
    clear hn hl
    go_enter Try.func16, Try.ntmps16
    go_wp2_with fail
    refine (syPairs_any _ w).mono ?_
    rintro e w1 ⟨ha, rfl⟩
    obtain rfl := ha.is Hn.out
    clear ha
    go_wp2_with fail
    refine (CL.out w).mono ?_
    rintro e w2 ⟨la, lc, rfl, hv, hb⟩
    have Hb := Lib.hid hb
    clear hb hv
    go_wp2_with fail
    refine (l1In_any _ _ _ w2).mono ?_
    rintro e w3 ⟨ha, rfl⟩
    by_cases hr : 0 ≤ r ∧ r ≤ (l.length : Int) - 1
    · obtain ⟨k, rfl⟩ : ∃ k : Nat, r = k := ⟨r.toNat, by omega⟩
      have hkl : k < l.length := by omega
      have Hr := Lib.hid (HR.out.2 hr)
      obtain rfl := ha.is (by first | exact hr | omega)
      clear ha hr
      go_wp2_with fail
      refine (CL.out w2).mono ?_
      rintro e w3 ⟨la2, lc2, rfl, hv, hb⟩
      obtain ⟨g, ra, d, rfl, hc, hrow, _⟩ := hv.row hkl
      have Hrow := Lib.hid (hrow.base Hb.out.size)
      have Hb3 := Lib.hid (Hb.out.trans (hb.mono Hb.out.size))
      clear hv hb hrow
      go_wp2
      go_ret2
      exact ⟨LRes.yes Hr.out (by rw [Int.toNat_natCast]; exact Hrow.out), Hb3.out⟩
    · have Hr := Lib.hid (fun h => hr (HR.out.1 h))
      obtain rfl := ha.isnt (by first | exact hr | omega)
      clear ha hr
      go_wp2
      go_ret2
      exact ⟨LRes.no Hr.out, Hb.out⟩
  · have Hn := Lib.hid hn
    clear hn
    go_enter Try.func16, Try.ntmps16
    go_wp2_with fail
    refine (syPairs_any _ w).mono ?_
    rintro e w1 ⟨ha, rfl⟩
    obtain rfl := ha.isnt Hn.out
    clear ha
    go_wp2
    go_ret2
    exact ⟨LRes.no fun h => Hn.out h.1, Below.refl _ _⟩
end Go.Proofs.Ytncpoljjfhmkeaa

namespace Go.Proofs.Ytncpoljjfhmkeaa
open Go.RowKit

/-- the index in a list, or -1 -/
def ixOf (l : List (List Int)) (p : List Int) : Int := if p ∈ l then (rk l p : Int) else -1
theorem ixOf_in {l : List (List Int)} {p : List Int} (h : p ∈ l) : ixOf l p = (rk l p : Int) := if_pos h
theorem ixOf_out {l : List (List Int)} {p : List Int} (h : p ∉ l) : ixOf l p = -1 := if_neg h

set_option maxRecDepth 100000 in
set_option maxHeartbeats 800000 in
theorem indexOf1_any (ao a2 : Option Addr) (c c2 g : Nat) (q p : List Int) (w : World) (hq : q.length ≤ 12) (hp : p.length ≤ 12) (h1 : IntsAt w ao q) (h2 : IntsAt w a2 p) (hc : w.cell? ⟨g, 0, none⟩ = some (.slice a2 p.length c2)) :
    Calls Try.prog 93 #[.slice ao q.length c, .pointer (some ⟨g, 0, none⟩)] w fun e w' => e = .returned (.bool (p == q)) ∧ Below w.heap.size w w' := by
  have C := Lib.hid (sEqualInts_any a2 ao c2 c p q w (by omega) (by omega) h2 h1)
  have hm1 : q.length ≤ 9223372036854775807 := by omega
  have hm2 : p.length ≤ 9223372036854775807 := by omega
  obtain ⟨b, hb⟩ : ∃ b, b = (p == q) := ⟨_, rfl⟩
  rw [← hb] at C ⊢
  clear h1 h2 hb
  go_enter Try.func93, Try.ntmps93
  go_wp2_with fail
  refine C.out.mono ?_
  rintro e w2 ⟨rfl, hq⟩
  have Hq := Lib.hid (hq.below w.heap.size)
  clear hq
  go_wp2
  go_ret
  exact ⟨rfl, Hq.out⟩

set_option maxRecDepth 100000 in
set_option maxHeartbeats 800000 in
theorem indexFunc_any (ao a2 : Option Addr) (c c2 g : Nat) (l : List (List Int)) (p : List Int) (w : World) (hs : Short l) (hp : p.length ≤ 12) (hl : MatAt w ao l) (hx : IntsAt w a2 p) (hc : w.cell? ⟨g, 0, none⟩ = some (.slice a2 p.length c2)) :
    Calls Try.prog 92 #[.slice ao l.length c, .func (.func 93) #[] #[.pointer (some ⟨g, 0, none⟩)]] w fun e w' => e = .returned (.int .i64 (ixOf l p)) ∧ Below w.heap.size w w' := by
  have hl14 := hs.1
  have Hs := Lib.hid hs.2
  have Hl := Lib.hid hl
  have Hx := Lib.hid hx
  have Hc := Lib.hid hc
  have hm1 : l.length ≤ 9223372036854775807 := by omega
  clear hs hl hx hc
  go_enter Try.func92, Try.ntmps92
  go_wp2
  go_loopw [8] (fun i wr => ∃ k : Nat, k ≤ l.length ∧ i = .int .i64 k ∧ (∀ j, j < k → gr l j ≠ p) ∧ Below w.heap.size w wr) (fun i _ => l.length - (intOf i).toNat)
  case atStart => exact ⟨0, Nat.zero_le _, rfl, fun j hj => absurd hj (by omega), Below.refl _ _⟩
  case round =>
    obtain ⟨k, hk, rfl, hd, hbr⟩ := hrel
    have Hbr := Lib.hid hbr
    have Hd := Lib.hid hd
    clear hbr hd
    by_cases hkl : k < l.length
    · obtain ⟨b1, o1, r1, d1, rfl, hc1, hx1, _, _⟩ := Hl.out.below Hbr.out k hkl
      have CI := Lib.hid (indexOf1_any r1 a2 d1 c2 g (gr l k) p wr (Hs.out k hkl) hp hx1 (Hx.out.below Hbr.out) (cell_below Hc.out Hbr.out))
      have hgl : (gr l k).length ≤ 9223372036854775807 := by have := Hs.out k hkl; omega
      have HE := Lib.hid (show (p == gr l k) = true ↔ gr l k = p from by rw [beq_iff_eq]; exact eq_comm)
      have HY := Lib.hid (show gr l k = p → (ixOf l p) = (k : Int) from fun e => by
        rw [ixOf_in (e ▸ gr_mem hkl), rk_is hkl e Hd.out])
      obtain ⟨G, hG⟩ : ∃ G, G = gr l k := ⟨_, rfl⟩
      have HN := Lib.hid (show G ≠ p → ∀ j, j < k + 1 → gr l j ≠ p from fun h j hj => by
        by_cases e : j = k
        · rw [e, ← hG]; exact h
        · exact Hd.out j (by omega))
      rw [← hG] at hc1 CI hgl HE HY
      obtain ⟨b, hb⟩ : ∃ b, b = (p == G) := ⟨_, rfl⟩
      rw [← hb] at CI HE
      clear hx1 hb hG
      go_wp2_with fail
      refine CI.out.mono ?_
      rintro e w5 ⟨rfl, hb⟩
      have HB5 := Lib.hid (Hbr.out.trans (hb.mono Hbr.out.size))
      clear hb CI
      cases b with
      | true =>
        have HY2 := Lib.hid (HY.out (HE.out.1 rfl))
        clear HY HN
        go_wp2
        go_ret
        exact ⟨by rw [HY2.out]; rfl, HB5.out⟩
      | false =>
        have HN2 := Lib.hid (HN.out (fun e => by have := HE.out.2 e; cases this))
        clear HY HN
        go_wp2
        go_roundw
        case rel => exact ⟨k + 1, by omega, by go_num, HN2.out, HB5.out⟩
        case measure => simp [intOf]; omega
    · obtain rfl : k = l.length := by omega
      have HZ := Lib.hid (show (ixOf l p) = -1 from ixOf_out (fun h => Hd.out _ (rk_lt h) (rk_at h)))
      go_wp2
      go_ret
      exact ⟨by rw [HZ.out]; rfl, Hbr.out⟩

set_option maxRecDepth 100000 in
set_option maxHeartbeats 800000 in
theorem indexOf_any (ao a2 : Option Addr) (c c2 : Nat) (l : List (List Int)) (p : List Int) (w : World) (hs : Short l) (hp : p.length ≤ 12) (hl : MatAt w ao l) (hx : IntsAt w a2 p) :
    Calls Try.prog 59 #[.slice ao l.length c, .slice a2 p.length c2] w fun e w' => e = .returned (.int .i64 (ixOf l p)) ∧ Below w.heap.size w w' := by
  have HB := Lib.hid ((Below.refl w.heap.size w).alloc (Nat.le_refl _) (.cells #[.slice a2 p.length c2] 22))
  have CF := Lib.hid (indexFunc_any ao a2 c c2 w.heap.size l p (w.alloc (.cells #[.slice a2 p.length c2] 22)) hs hp (hl.below HB.out) (hx.below HB.out) (by rw [cell_new]; rfl))
  obtain ⟨x, hxx⟩ : ∃ x, x = (ixOf l p) := ⟨_, rfl⟩
  rw [← hxx] at CF ⊢
  clear hl hx hxx
  go_enter Try.func59, Try.ntmps59
  go_wp2_with fail
  refine CF.out.mono ?_
  rintro e w2 ⟨rfl, hb⟩
  have HB2 := Lib.hid (HB.out.trans (hb.mono HB.out.size))
  clear hb CF
  go_wp2
  go_ret
  exact ⟨rfl, HB2.out⟩

set_option maxRecDepth 100000 in
set_option maxHeartbeats 800000 in
theorem isRankedPattern_any (ao : Option Addr) (c : Nat) (p : List Int) (w : World) (hn : p.length ≤ 1048576) (hwf : WfI p) (hx : IntsAt w ao p) :
    Calls Try.prog 58 #[.slice ao p.length c] w fun e w' => Ans (pat4 p) e ∧ Below w.heap.size w w' := by
  have Hx := Lib.hid hx
  have Hwf := Lib.hid hwf
  clear hx hwf
  go_enter Try.func58, Try.ntmps58
  go_wp2_with fail
  refine (implIsPattern_any ao c p w hn Hwf.out Hx.out).mono ?_
  rintro e w1 ⟨ha, hb1⟩
  have HB := Lib.hid hb1
  clear hb1
  by_cases hg : isPat p
  · have Hg := Lib.hid hg
    have h2 := hg.lo
    have h12 := hg.hi
    obtain rfl := ha.is hg
    obtain ⟨n, hne⟩ : ∃ n, n = p.length / 2 := ⟨_, rfl⟩
    have hq1 : (p.length : Int) / 2 = (n : Int) := by omega
    have hq2 : (p.length : Int).tdiv 2 = (n : Int) := by rw [Int.tdiv_eq_ediv_of_nonneg (by omega)]; exact hq1
    have he := hg.even
    have HI := Lib.hid (show (1 ≤ (n : Int) ∧ (n : Int) ≤ 4) ↔ pat4 p from ⟨fun h => ⟨Hg.out, by omega⟩, fun h => by have := h.2; omega⟩)
    have hn6 : n ≤ 6 := by omega
    clear ha hg hne he
    go_wp2_with fail
    refine (isRanked_any (n : Int) w1).mono ?_
    rintro e w2 ⟨ha, hb⟩
    obtain ⟨b, rfl, hb3⟩ := ha.iff HI.out
    have HB2 := Lib.hid (HB.out.trans (hb.mono HB.out.size))
    have Hb3 := Lib.hid hb3
    clear ha hb hb3
    go_wp2
    go_ret
    exact ⟨⟨b, rfl, Hb3.out⟩, HB2.out⟩
  · have Hg := Lib.hid hg
    obtain rfl := ha.isnt hg
    clear ha hg
    go_wp2
    go_ret
    exact ⟨Ans.no fun h => Hg.out h.1, HB.out⟩

set_option maxRecDepth 100000 in
set_option maxHeartbeats 800000 in
theorem implRankPattern_any (ao : Option Addr) (c : Nat) (p : List Int) (w : World) (hn : p.length ≤ 1048576) (hwf : WfI p) (hx : IntsAt w ao p) :
    Calls Try.prog 23 #[.slice ao p.length c] w fun e w' => IRes (pat4 p) (rankOf p : Nat) e ∧ Below w.heap.size w w' := by
  have hmx : p.length ≤ 9223372036854775807 := by omega
  have Hx := Lib.hid hx
  have Hwf := Lib.hid hwf
  clear hx hwf
  go_enter Try.func23, Try.ntmps23
  go_wp2_with fail
  refine (isRankedPattern_any ao c p w hn Hwf.out Hx.out).mono ?_
  rintro e w1 ⟨ha, hb1⟩
  have HB := Lib.hid hb1
  clear hb1
  by_cases hg : pat4 p
  · have H4 := Lib.hid hg
    have h2 := hg.1.lo
    have h8 := hg.2
    obtain rfl := ha.is hg
    obtain ⟨n, hne⟩ : ∃ n, n = p.length / 2 := ⟨_, rfl⟩
    have hq1 : (p.length : Int) / 2 = (n : Int) := by omega
    have hq2 : (p.length : Int).tdiv 2 = (n : Int) := by rw [Int.tdiv_eq_ediv_of_nonneg (by omega)]; exact hq1
    have hn4 : n ≤ 4 := by omega
    have HK := Lib.hid (show rankOf p = rk (patP 6 n) p by unfold rankOf; rw [hne])
    have Hmem := Lib.hid (show p ∈ patP 6 n by rw [hne]; exact H4.out.mem)
    have CL := Lib.hid (fun w => patterns4_any n w hn4)
    have Hsh := Lib.hid (patP_short (n := n) (by omega))
    obtain ⟨l, hl⟩ : ∃ l, l = patP 6 n := ⟨_, rfl⟩
    rw [← hl] at HK Hmem CL Hsh
    clear hne hl ha hg
    go_wp2_with fail
    refine (CL.out w1).mono ?_
    rintro e w2 ⟨la, lc, rfl, hv, hb⟩
    have Hb := Lib.hid (HB.out.trans (hb.mono HB.out.size))
    obtain ⟨_, _, hve, _, _, hm⟩ := hv.read
    have hve2 := (Value.slice.injEq _ _ _ _ _ _).mp hve
    obtain ⟨rfl, -, rfl⟩ := hve2
    have CR := Lib.hid (indexOf_any la ao lc c l p w2 Hsh.out (by omega) hm (Hx.out.below Hb.out))
    rw [ixOf_in Hmem.out] at CR
    clear hb hv hve hm CL
    go_wp2_with fail
    refine CR.out.mono ?_
    rintro e w3 ⟨rfl, hb⟩
    have Hb3 := Lib.hid (Hb.out.trans (hb.mono Hb.out.size))
    clear hb CR
    go_wp2
    go_ret2
    exact ⟨by rw [← HK.out]; exact IRes.yes H4.out, Hb3.out⟩
  · have Hg := Lib.hid hg
    obtain rfl := ha.isnt Hg.out
    clear ha hg
    go_wp2
    go_ret2
    exact ⟨IRes.no Hg.out, HB.out⟩

set_option maxRecDepth 100000 in
set_option maxHeartbeats 800000 in
theorem implPatternWith_any (n r : Int) (w : World) (_ : -9223372036854775808 ≤ n ∧ n ≤ 9223372036854775807) (_ : -9223372036854775808 ≤ r ∧ r ≤ 9223372036854775807) :
    Calls Try.prog 17 #[.int .i64 n, .int .i64 r] w fun e w' => LRes (rankIn n r) (gr (patP 6 n.toNat) r.toNat) w' w.heap.size e ∧ Below w.heap.size w w' := by
  by_cases hn : 1 ≤ n ∧ n ≤ 4
  · have Hn := Lib.hid hn
    obtain ⟨N, rfl⟩ : ∃ N : Nat, n = N := ⟨n.toNat, by omega⟩
    have CL := Lib.hid (fun w => patterns4_any N w (by omega))
    have HR := Lib.hid (show rankIn N r ↔ 0 ≤ r ∧ r < ((patP 6 N).length : Int) by
      unfold rankIn catN
      rw [Int.toNat_natCast]
      omega)
    have hl14 : (patP 6 N).length ≤ 14 := catN_le N (by omega)
    rw [Int.toNat_natCast]
    obtain ⟨l, hl⟩ : ∃ l, l = patP 6 N := ⟨_, rfl⟩
    rw [← hl] at CL HR hl14 ⊢
    clear hn hl
    go_enter Try.func17, Try.ntmps17
    go_wp2_with fail
    refine (isRanked_any _ w).mono ?_
    rintro e w1 ⟨ha, hb⟩
    have HB := Lib.hid hb
    obtain rfl := ha.is Hn.out
    clear ha hb
    go_wp2_with fail
    refine (CL.out w1).mono ?_
    rintro e w2 ⟨la, lc, rfl, hv, hb⟩
    have Hb := Lib.hid (HB.out.trans (hb.mono HB.out.size))
    by_cases h0 : r < 0
    · have hd : decide (r < 0) = true := by simpa using h0
      have Hr := Lib.hid (show ¬rankIn (N : Int) r from fun h => absurd (HR.out.1 h).1 (by omega))
      clear hv hb h0
      go_wp2
      go_ret2
      exact ⟨LRes.no Hr.out, Hb.out⟩
    have hd : decide (r < 0) = false := by simpa using h0
    by_cases h1 : r < (l.length : Int)
    · obtain ⟨k, rfl⟩ : ∃ k : Nat, r = k := ⟨r.toNat, by omega⟩
      have hkl : k < l.length := by omega
      have Hr := Lib.hid (HR.out.2 (by omega))
      obtain ⟨g, ra, d, rfl, hc, hrow, _⟩ := hv.row hkl
      have Hrow := Lib.hid (hrow.base HB.out.size)
      have hd1 : decide (l.length ≤ k) = false := by simpa using hkl
      clear hv hb hrow h0 h1 hd
      go_wp2
      go_ret2
      exact ⟨LRes.yes Hr.out (by rw [Int.toNat_natCast]; exact Hrow.out), Hb.out⟩
    · have Hr := Lib.hid (show ¬rankIn (N : Int) r from fun h => h1 (HR.out.1 h).2)
      have hd1 : decide ((l.length : Int) ≤ r) = true := by simp; omega
      clear hv hb h0 h1
      go_wp2
      go_ret2
      exact ⟨LRes.no Hr.out, Hb.out⟩
  · have Hn := Lib.hid hn
    clear hn
    go_enter Try.func17, Try.ntmps17
    go_wp2_with fail
    refine (isRanked_any _ w).mono ?_
    rintro e w1 ⟨ha, hb⟩
    have HB := Lib.hid hb
    obtain rfl := ha.isnt Hn.out
    clear ha hb
    go_wp2
    go_ret2
    exact ⟨LRes.no fun h => Hn.out h.1, HB.out⟩
end Go.Proofs.Ytncpoljjfhmkeaa

