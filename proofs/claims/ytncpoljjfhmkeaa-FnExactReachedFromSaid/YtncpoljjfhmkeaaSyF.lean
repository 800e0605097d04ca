/- Contracts of the model: all patterns that are reached by joining. Conditions: lengths up to 2^20, numbers of an int. -/
import Derived.Test.YtncpoljjfhmkeaaSyE
import Derived.Test.YtncpoljjfhmkeaaSyO
namespace Go.Proofs.Ytncpoljjfhmkeaa
open Go.RowKit

theorem Try.info_boo : (Try.prog.info? 4).map (fun i => (i.zero, i.size, i.bytes)) = some (some (.bool false), 1, 1) := by kernel_rfl
/-- a slice of marks that the call owns -/
def OwnB (w : World) (B : Nat) (v : Value) (bs : List Bool) : Prop := w.ownsRow B 4 1 v bs.length (bs.map Value.bool)
theorem OwnB.below {w w' : World} {B : Nat} {v : Value} {bs : List Bool} (h : OwnB w B v bs) (hb : Below w.heap.size w w') : OwnB w' B v bs := ownsRow_below h hb
theorem OwnB.len {w : World} {B n c : Nat} {ao : Option Addr} {bs : List Bool} (h : OwnB w B (.slice ao n c) bs) : bs.length = n := by
  rcases h.2 with ⟨h0, h1⟩ | ⟨g, cap, cur, hv, _⟩
  · simp only [Value.slice.injEq] at h0; omega
  · simp only [Value.slice.injEq] at hv; omega
theorem OwnB.store {w : World} {B g n c : Nat} {bs : List Bool} (h : OwnB w B (.slice (some ⟨g, 0, none⟩) n c) bs) (i : Nat) (x : Bool) :
    OwnB (w.setCell ⟨g, i, none⟩ (.bool x)) B (.slice (some ⟨g, 0, none⟩) n c) (bs.set i x) := by
  have hl := h.len
  subst hl
  have := (World.ownsRow.stored h i (.bool x)).1
  unfold OwnB
  rw [List.length_set, List.map_set]
  exact this
theorem OwnB.cellAt {w : World} {B g n c : Nat} {bs : List Bool} (h : OwnB w B (.slice (some ⟨g, 0, none⟩) n c) bs) (i : Nat) (hi : i < n) : w.cell? ⟨g, i, none⟩ = some (.bool (gb bs i)) := by
  have hl := h.len
  subst hl
  rw [World.ownsRow.cellAt h i (by omega)]
  simp [gb, List.getD, hi]
theorem OwnB.frozenAt {w : World} {B g n c : Nat} {bs : List Bool} (h : OwnB w B (.slice (some ⟨g, 0, none⟩) n c) bs) (i : Nat) : w.frozen? ⟨g, i, none⟩ = false := by
  have hl := h.len
  subst hl
  exact World.ownsRow.frozenAt h i
theorem OwnB.made {w : World} {B g n : Nat} (h : w.ownsRow B 4 1 (.slice (some ⟨g, 0, none⟩) n n) n (madeCells #[Value.bool false] n).toList) :
    OwnB w B (.slice (some ⟨g, 0, none⟩) n n) (List.replicate n false) := by
  unfold OwnB
  rw [List.length_replicate, List.map_replicate, ← toList_madeCells_one]
  exact h

/-- the marks read off a world, and how many are not set -/
def rdB : Option Value → Bool
  | some (.bool b) => b
  | _ => false
def cnt0 (w : World) (g N : Nat) : Nat := ((List.range N).map fun j => rdB (w.cell? ⟨g, j, none⟩)).countP fun b => !b
theorem OwnB.cnt {w : World} {B g n c : Nat} {bs : List Bool} (h : OwnB w B (.slice (some ⟨g, 0, none⟩) n c) bs) : cnt0 w g n = bs.countP fun b => !b := by
  have hl := h.len
  unfold cnt0
  congr 1
  apply List.ext_getElem (by simp [hl])
  intro i h1 h2
  simp only [List.getElem_map, List.getElem_range]
  rw [h.cellAt i (by omega)]
  simp [rdB, gb, List.getD, h2]
def msB (x : Value) (w : World) (g N : Nat) : Nat := 2 * cnt0 w g N + (if rdB (some x) then 1 else 0)

/-- what is listed of all: as many as are marked -/
theorem take_snoc {l : List (List Int)} {k : Nat} (h : k < l.length) : l.take (k + 1) = l.take k ++ [gr l k] := by
  rw [List.take_add_one, gr_lt h]
  simp [h]

set_option maxRecDepth 100000 in
set_option maxHeartbeats 800000 in
theorem specReachedFrom_any (ao : Option Addr) (c : Nat) (p : List Int) (w : World) (hn : p.length ≤ 1048576) (hx : IntsAt w ao p) :
    Calls Try.prog 45 #[.slice ao p.length c] w fun e w' => MRes (pat4 p) (patP 6 (p.length / 2)) w' w.heap.size e ∧ Below w.heap.size w w' := by
  obtain ⟨i0, hi0, hz0, hz1, hz2⟩ := info_parts Try.info_boo
  obtain ⟨j0, hj, hy0, hy1, hy2⟩ := info_parts Try.info_ints
  have hmx : p.length ≤ 9223372036854775807 := by omega
  have Hx := Lib.hid hx
  clear hx
  by_cases h4 : pat4 p
  · have H4 := Lib.hid h4
    have h2 := h4.1.lo
    have h8 := h4.2
    obtain ⟨n, hne⟩ : ∃ n, n = p.length / 2 := ⟨_, rfl⟩
    have he := h4.1.even
    have hn1 : 1 ≤ n := by omega
    have hn4 : n ≤ 4 := by omega
    have hq1 : (p.length : Int) / 2 = (n : Int) := by omega
    have hq2 : (p.length : Int).tdiv 2 = (n : Int) := by rw [Int.tdiv_eq_ediv_of_nonneg (by omega)]; exact hq1
    have Hmem := Lib.hid (show p ∈ patP 6 n by rw [hne]; exact h4.mem)
    have CL := Lib.hid (loAll4_any n w hn4)
    have Hsh := Lib.hid (patP_short (n := n) (by omega))
    have hl14 := Hsh.out.1
    have hl1 : 1 ≤ (patP 6 n).length := catN_pos n (by omega)
    have Hlk := Lib.hid (fun q hq => patP_lk (n := n) hn1 (by omega) (p := q) hq)
    have Hlen := Lib.hid (fun q hq => patP_len (n := n) (by omega) (p := q) hq)
    have Hjm := Lib.hid (fun q hq i hi => join_mem (n := n) (by omega) (p := q) hq (i := i) hi)
    have HM := Lib.hid (marks_is hn1 (by omega) Hmem.out)
    rw [← hne]
    obtain ⟨l, hl⟩ : ∃ l, l = patP 6 n := ⟨_, rfl⟩
    rw [← hl] at Hmem CL Hsh hl14 hl1 Hlk Hlen Hjm HM ⊢
    obtain ⟨K, hK⟩ : ∃ K, K = rk l p := ⟨_, rfl⟩
    have hKl : K < l.length := by rw [hK]; exact rk_lt Hmem.out
    obtain ⟨S0, hS0⟩ : ∃ S0, S0 = bFirst l p := ⟨_, rfl⟩
    rw [← hS0] at HM
    have HS0 := Lib.hid (show S0 = (List.replicate l.length false).set K true by rw [hS0, hK]; rfl)
    have hd8 : decide ((8 : Int) < (p.length : Int)) = false := by simp; omega
    have hlm : l.length ≤ 9223372036854775807 := by omega
    obtain ⟨m, hm⟩ : ∃ m, m = 2 * n := ⟨_, rfl⟩
    rw [← hm] at HM
    have Hm2 := Lib.hid hm
    have hm8 : m ≤ 8 := by omega
    have HK := Lib.hid hK
    clear h4 hne he hl hK hS0 hm
    go_enter Try.func45, Try.ntmps45
    go_wp2_with fail
    refine (loIsPattern_any ao c p w hn Hx.out).mono ?_
    rintro e w1 ⟨ha, rfl⟩
    obtain rfl := ha.is H4.out.1
    clear ha
    go_wp2_with fail
    refine CL.out.mono ?_
    rintro e w1 ⟨la, lc, rfl, hv, hb⟩
    have Hb1 := Lib.hid hb
    obtain ⟨lg, lc2, lvs, hve, hlp, hlg⟩ := hv.head hl1
    have hve2 := (Value.slice.injEq _ _ _ _ _ _).mp hve
    obtain ⟨rfl, -, rfl⟩ := hve2
    have HL := Lib.hid hlp
    have HM1 := Lib.hid (hlp.at rfl)
    clear hb hv hve CL hlp hlg
    go_wp2_with (at_make; refine wpList_make_full _ rfl _ _ 73 rfl w1.heap.size 4 i0 (.bool false) 1 Try.underlying73 hi0 hz0 hz1 _ _ _ _ l.length rfl rfl rfl rfl ?d1 ?d2 ?d3 ?_)
    case d1 => rw [hz2]; omega
    case d2 => unfold maxLen; omega
    case d3 => simp
    intro w2 hown hgr
    have hb2 : Below w1.heap.size w1 w2 := (Below.refl _ _).grown hgr (Nat.le_refl _) (fun _ h => by cases h)
    have Hb2 := Lib.hid hb2
    obtain ⟨g, hg⟩ : ∃ g, g = w1.heap.size := ⟨_, rfl⟩
    have Hown := Lib.hid (show OwnB w2 w1.heap.size (.slice (some ⟨g, 0, none⟩) l.length l.length) (List.replicate l.length false) by rw [hg]; exact OwnB.made hown)
    have Hg := Lib.hid (show w1.heap.size ≤ g by omega)
    rw [← hg]
    have CR := Lib.hid (syRank_any (some ⟨lg, 0, none⟩) ao lc c l p w2 Hsh.out (by omega) Hmem.out (HM1.out.below hb2) (Hx.out.below (Hb1.out.trans (hb2.mono Hb1.out.size))))
    rw [← HK.out] at CR
    clear hown hgr hb2 hg
    go_wp2_with fail
    refine CR.out.mono ?_
    rintro e w3 ⟨rfl, hb⟩
    have hown3 := Hown.out.below hb
    have hd3 := hown3.cellAt K hKl
    have hf3 := hown3.frozenAt K
    have hst := hown3.store K true
    rw [← HS0.out] at hst
    have Hst := Lib.hid hst
    have Hb3 := Lib.hid ((Hb2.out.trans (hb.mono Hb2.out.size)).setCell (p := ⟨g, K, none⟩) Hg.out (.bool true))
    clear hb hown3 hst CR Hown Hb2
    go_wp2
    go_loopw [6] (fun x wr => ∃ t : Nat, t ≤ 4 ∧ x = .bool (bSeq l m S0 t).2 ∧ OwnB wr w1.heap.size (.slice (some ⟨g, 0, none⟩) l.length l.length) (bSeq l m S0 t).1 ∧ Below w1.heap.size w1 wr) (fun x wr => msB x wr g l.length)
    case atStart => exact ⟨0, by omega, rfl, Hst.out, Hb3.out⟩
    case round =>
      obtain ⟨t, ht, rfl, hown, hbr⟩ := hrel
      have Hown := Lib.hid hown
      have Hbr := Lib.hid hbr
      have hok := HM.out.1 t (by omega)
      clear hown hbr Hst Hb3 hd3 hf3
      cases hfl : (bSeq l m S0 t).2 with
      | true =>
        have Hok := Lib.hid (show bMs (bSeq l m S0 (t + 1)) < bMs (bSeq l m S0 t) by unfold bOk at hok; rw [if_pos hfl] at hok; simpa using hok)
        have Hms0 := Lib.hid (show msB (.bool true) wr g l.length = bMs (bSeq l m S0 t) by
          unfold msB bMs
          rw [Hown.out.cnt, hfl]
          rfl)
        have Ht3 := Lib.hid (show t + 1 ≤ 4 by
          rcases Nat.lt_or_ge t 4 with h | h
          · omega
          · obtain rfl : t = 4 := by omega
            rw [HM.out.2] at hfl
            cases hfl)
        obtain ⟨s, hs⟩ : ∃ s : List Bool × Bool, s = ((bSeq l m S0 t).1, false) := ⟨_, rfl⟩
        have HE := Lib.hid (show bPass l m s l.length = bSeq l m S0 (t + 1) by rw [hs]; rfl)
        have Hown := Lib.hid (show OwnB wr w1.heap.size (.slice (some ⟨g, 0, none⟩) l.length l.length) (bPass l m s 0).1 by rw [hs]; exact Hown.out)
        have Hs2 := Lib.hid (show (false : Bool) = (bPass l m s 0).2 by rw [hs]; rfl)
        clear hok hfl hs
        go_wp2
        go_loopw [6, 37] (fun x y wq => ∃ k : Nat, k ≤ l.length ∧ y = .int .i64 k ∧ x = .bool (bPass l m s k).2 ∧ OwnB wq w1.heap.size (.slice (some ⟨g, 0, none⟩) l.length l.length) (bPass l m s k).1 ∧ Below w1.heap.size w1 wq) (fun _ y _ => l.length - (intOf y).toNat)
        case atStart => exact ⟨0, Nat.zero_le _, rfl, by rw [← Hs2.out], Hown.out, Hbr.out⟩
        case round =>
          rename World => wq
          obtain ⟨k, hk, rfl, rfl, hown, hbq⟩ := hrel
          have Hown2 := Lib.hid hown
          have Hbq := Lib.hid hbq
          clear hown hbq Hown Hbr
          by_cases hkl : k < l.length
          · obtain ⟨b1, o1, r1, d1, e1, hc0, hx1, _, _⟩ := HM1.out k hkl
            simp only [Option.some.injEq, Addr.mk.injEq, and_true] at e1
            obtain ⟨rfl, rfl⟩ := e1
            rw [Nat.zero_add] at hc0
            have hlen : (gr l k).length = m := by rw [Hlen.out _ (gr_mem hkl), ← Hm2.out]
            have Hlkk := Lib.hid (Hlk.out _ (gr_mem hkl))
            have Hjk := Lib.hid (fun i hi => Hjm.out _ (gr_mem hkl) i hi)
            have CJ := Lib.hid (fun i wx (hi : i < m) (hx : Below w1.heap.size w1 wx) => syJoin_any r1 d1 (gr l k) i wx Hlkk.out (by rw [hlen]; exact hi) (hx1.below hx))
            have HJl := Lib.hid (fun i => show (joinL (gr l k) i).length ≤ 12 by rw [joinL_len]; exact Hlkk.out.hi)
            have hc1 := cell_below hc0 Hbq.out
            rw [hlen] at hc1 CJ
            obtain ⟨u, hu⟩ : ∃ u, u = bPass l m s k := ⟨_, rfl⟩
            have HU := Lib.hid (show bRow l k u m = bPass l m s (k + 1) by rw [hu]; rfl)
            rw [← hu] at Hown2 ⊢
            clear hx1 hlen hu hc0
            go_wp2
            go_loopw [6, 44] (fun x y wp => ∃ i : Nat, i ≤ m ∧ y = .int .i64 i ∧ x = .bool (bRow l k u i).2 ∧ OwnB wp w1.heap.size (.slice (some ⟨g, 0, none⟩) l.length l.length) (bRow l k u i).1 ∧ Below w1.heap.size w1 wp) (fun _ y _ => m - (intOf y).toNat)
            case atStart => exact ⟨0, Nat.zero_le _, rfl, rfl, Hown2.out, Hbq.out⟩
            case round =>
              rename World => wp
              obtain ⟨i, hi, rfl, rfl, hown, hbp⟩ := hrel
              have Hown3 := Lib.hid hown
              have Hbp := Lib.hid hbp
              clear hown hbp Hown2 Hbq hc1
              by_cases him : i < m
              · have CJ2 := Lib.hid (CJ.out i wp him Hbp.out)
                have Hmm := Lib.hid (Hjk.out i (by rw [← Hm2.out]; exact him))
                have HJ2 := Lib.hid (HJl.out i)
                obtain ⟨J, hJ⟩ : ∃ J, J = joinL (gr l k) i := ⟨_, rfl⟩
                have HN := Lib.hid (show nxR l k i = rk l J by rw [hJ]; rfl)
                rw [← hJ] at CJ2 Hmm HJ2
                clear hJ
                go_wp2_with fail
                refine CJ2.out.mono ?_
                rintro e w3 ⟨v, rfl, hv, hb⟩
                obtain ⟨ja, jc, rfl, hj1, hj2, hji⟩ := hv.read
                have Hb3 := Lib.hid (Hbp.out.trans (hb.mono Hbp.out.size))
                have Hown4 := Lib.hid (Hown3.out.below hb)
                have CR := Lib.hid (syRank_any (some ⟨lg, 0, none⟩) ja lc jc l J w3 Hsh.out HJ2.out Hmm.out (HM1.out.below Hb3.out) hji)
                obtain ⟨R, hR⟩ : ∃ R, rk l J = R := ⟨_, rfl⟩
                have hRl : R < l.length := by rw [← hR]; exact rk_lt Hmm.out
                rw [hR] at CR HN
                clear hv hb hji hj1 hj2 CJ2 Hown3 Hbp hR
                go_wp2_with fail
                refine CR.out.mono ?_
                rintro e w4 ⟨rfl, hb⟩
                have Hb4 := Lib.hid (Hb3.out.trans (hb.mono Hb3.out.size))
                have Hown5 := Lib.hid (Hown4.out.below hb)
                have hdk := Hown5.out.cellAt k hkl
                have hdR := Hown5.out.cellAt R hRl
                have hfR := Hown5.out.frozenAt R
                have HS := Lib.hid (show bRow l k u (i + 1) = if gb (bRow l k u i).1 k = true ∧ gb (bRow l k u i).1 R = false then ((bRow l k u i).1.set R true, true) else bRow l k u i by rw [← HN.out]; rfl)
                obtain ⟨v, hv⟩ : ∃ v, v = bRow l k u i := ⟨_, rfl⟩
                rw [← hv] at Hown5 hdk hdR HS ⊢
                obtain ⟨bk, hbk⟩ : ∃ bk, bk = gb v.1 k := ⟨_, rfl⟩
                obtain ⟨bR, hbR⟩ : ∃ bR, bR = gb v.1 R := ⟨_, rfl⟩
                rw [← hbk] at hdk HS
                rw [← hbR] at hdR HS
                clear hb CR Hb3 Hown4 hv hbk hbR
                cases bk with
                | false =>
                  have HS2 := Lib.hid (HS.out.trans (if_neg (by simp)))
                  go_wp2
                  go_roundw
                  case rel => exact ⟨i + 1, by omega, by go_num, by rw [HS2.out], by rw [HS2.out]; exact Hown5.out, Hb4.out⟩
                  case measure => simp [intOf]; omega
                | true =>
                  cases bR with
                  | true =>
                    have HS2 := Lib.hid (HS.out.trans (if_neg (by simp)))
                    go_wp2
                    go_roundw
                    case rel => exact ⟨i + 1, by omega, by go_num, by rw [HS2.out], by rw [HS2.out]; exact Hown5.out, Hb4.out⟩
                    case measure => simp [intOf]; omega
                  | false =>
                    have HS2 := Lib.hid (HS.out.trans (if_pos ⟨rfl, rfl⟩))
                    have Hst := Lib.hid (Hown5.out.store R true)
                    have Hbs := Lib.hid (Hb4.out.setCell (p := ⟨g, R, none⟩) Hg.out (.bool true))
                    go_wp2
                    go_roundw
                    case rel => exact ⟨i + 1, by omega, by go_num, by rw [HS2.out], by rw [HS2.out]; exact Hst.out, Hbs.out⟩
                    case measure => simp [intOf]; omega
              · obtain rfl : i = m := by omega
                rw [HU.out] at Hown3 ⊢
                go_wp2
                go_roundw
                case rel => exact ⟨k + 1, by omega, by go_num, rfl, Hown3.out, Hbp.out⟩
                case measure => simp [intOf]; omega
          · obtain rfl : k = l.length := by omega
            rw [HE.out] at Hown2 ⊢
            have Hms := Lib.hid (show msB (.bool (bSeq l m S0 (t + 1)).2) wq g l.length < msB (.bool true) wr g l.length by
              rw [Hms0.out]
              refine Nat.lt_of_le_of_lt (Nat.le_of_eq ?_) Hok.out
              unfold msB bMs
              rw [Hown2.out.cnt]
              rfl)
            go_wp2
            go_roundw
            case rel => exact ⟨t + 1, Ht3.out, rfl, Hown2.out, Hbq.out⟩
            case measure => first | exact Hms.out | simpa using Hms.out
      | false =>
        have Hall := Lib.hid (show (bSeq l m S0 t).1 = List.replicate l.length true by unfold bOk at hok; rw [if_neg (by rw [hfl]; simp)] at hok; simpa using hok)
        rw [Hall.out] at Hown
        clear hok hfl
        go_wp2
        go_loopw [11, 70] (fun o y wq => ∃ k : Nat, k ≤ l.length ∧ y = .int .i64 k ∧ wq.ownsRow wr.heap.size 22 1 o k (lvs.take k) ∧ Below wr.heap.size wr wq) (fun _ y _ => l.length - (intOf y).toNat)
        case atStart => exact ⟨0, Nat.zero_le _, rfl, World.ownsRow_nil _ _ _ _, Below.refl _ _⟩
        case round =>
          rename World => wq
          obtain ⟨k, hk, rfl, ho, hbq⟩ := hrel
          have Ho := Lib.hid ho
          have Hbq := Lib.hid hbq
          clear ho hbq
          by_cases hkl : k < l.length
          · have hll : lvs.length = l.length := by simpa using HL.out.top.1
            have hc0 := HL.out.cellAt k hkl
            obtain ⟨r1, d1, hv1, _, _, _⟩ := (HL.out.rows k hkl).read
            have HT := Lib.hid (show lvs.take (k + 1) = lvs.take k ++ [.slice r1 (gr l k).length d1] by
              rw [List.take_add_one, ← hv1, List.getD, List.getElem?_eq_getElem (by omega)]
              simp)
            rw [hv1] at hc0
            have hc1 := cell_below (cell_below hc0 Hbr.out) Hbq.out
            have hdk : wq.cell? ⟨g, k, none⟩ = some (.bool true) := by
              have h := (Hown.out.below Hbq.out).cellAt k hkl
              rw [h]
              simp [gb, List.getD, hkl]
            obtain ⟨L, hL⟩ : ∃ L, L = (gr l k).length := ⟨_, rfl⟩
            rw [← hL] at hc1 HT
            clear hll hc0 hv1 hL
            go_wp2_with (at_builtin; refine wpList_append_own _ rfl _ _ 36 rfl wr.heap.size 22 j0 (.slice none 0 0) 1 24 Try.underlying36 hj hy0 hy1 hy2 rfl (by decide) _ _ _ rfl (World.ownsRow.alloc Ho.out _) ⟨wq.heap.size, 0, none⟩ 1 1 [.slice r1 L d1] rfl rfl ?e1 ?e2 ?e3 ?e4 ?e5 ?_)
            case e1 => exact cell_one_new _ _ _
            case e2 => first | rfl | (intro u hu; simp at hu; subst hu; rfl)
            case e3 => unfold maxLen; omega
            case e4 => omega
            case e5 => have := Hbq.out.size; simp; omega
            intro v' w3 hown' hgrow _
            have Hb3 := Lib.hid (Hbq.out.trans (Below.grown ((Below.refl wr.heap.size wq).alloc Hbq.out.size _) hgrow (by have := Hbq.out.size; simp; omega) (fun k hk => (World.ownsRow.lt Ho.out k hk).1)))
            rw [← HT.out] at hown'
            have Ho3 := Lib.hid hown'
            clear hown' hgrow
            go_wp2
            go_roundw
            case rel => exact ⟨k + 1, by omega, by go_num, Ho3.out, Hb3.out⟩
            case measure => simp [intOf]; omega
          · obtain rfl : k = l.length := by omega
            have HB := Lib.hid (Hb1.out.trans ((Hbr.out.trans (Hbq.out.mono Hbr.out.size)).mono Hb1.out.size))
            have hll : lvs.length = l.length := by simpa using HL.out.top.1
            have HL2 := (HL.out.below Hbr.out).below Hbq.out
            have Hfin := Lib.hid (show OwnM wq w.heap.size u11 l from ⟨lvs, ⟨by
              have h := Ho.out
              rw [List.take_of_length_le (by omega)] at h
              exact ownsRow_base h (Nat.le_trans Hb1.out.size Hbr.out.size), HL2.rows, HL2.apart⟩⟩)
            clear hll HL2
            go_wp2
            go_ret2
            exact ⟨MRes.yes H4.out Hfin.out, HB.out⟩
  · have H4 := Lib.hid h4
    clear h4
    go_enter Try.func45, Try.ntmps45
    go_wp2_with fail
    refine (loIsPattern_any ao c p w hn Hx.out).mono ?_
    rintro e w1 ⟨ha, rfl⟩
    by_cases hg : isPat p
    · obtain rfl := ha.is hg
      have hd8 : decide ((8 : Int) < (p.length : Int)) = true := by
        have : ¬p.length ≤ 8 := fun h => H4.out ⟨hg, h⟩
        simp
        omega
      clear ha hg
      go_wp2
      go_ret2
      exact ⟨MRes.no H4.out, Below.refl _ _⟩
    · obtain rfl := ha.isnt hg
      clear ha hg
      go_wp2
      go_ret2
      exact ⟨MRes.no H4.out, Below.refl _ _⟩
end Go.Proofs.Ytncpoljjfhmkeaa
