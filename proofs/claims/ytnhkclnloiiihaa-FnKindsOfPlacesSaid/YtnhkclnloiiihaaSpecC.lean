/- Contracts of the model: rows backwards, a table turned clockwise, and the functions that hand these over. -/
import Derived.Test.YtnhkclnloiiihaaImplC
namespace Go.Proofs.Ytnhkclnloiiihaa
open Go.RowKit

theorem OwnP.only {w w' : World} {S : Nat → Prop} {B n k : Nat} {v : Value} {m : List (List Int)} {vs : List Value} (h : OwnP w B v n m k vs) (ho : OnlyW S w w') (hS : ∀ g, S g → g < B) : OwnP w' B v n m k vs := by
  refine ⟨ownsRow_only h.top ho (fun g hg hs => ?_), fun i hi => ownsRow_only (h.rows i hi) ho (fun g hg hs => ?_), h.apart⟩
  · have h1 := (World.ownsRow.lt h.top g hg).1
    have h2 := hS g hs
    omega
  · have h1 := ((h.rows i hi).lt g hg).1
    have h2 := hS g hs
    omega

/-- the blocks of the rows -/
theorem OwnP.span {w : World} {B n : Nat} {v : Value} {m : List (List Int)} {vs : List Value} (h : OwnP w B v n m n vs) {g : Nat} (hg : ∃ i, i < n ∧ (vs.getD i undef).ownBlock = some g) : B ≤ g ∧ g < w.heap.size := by
  obtain ⟨i, hi, e⟩ := hg
  exact (h.rows i hi).lt g e

theorem OwnP.at {w : World} {B n c : Nat} {ao : Option Addr} {m : List (List Int)} {vs : List Value} (h : OwnP w B (.slice ao n c) n m n vs) (hn : m.length = n) : MatAt w ao m := by
  subst hn
  obtain ⟨ao', c', hv, _, _, hm⟩ := OwnM.read ⟨vs, h⟩
  obtain ⟨rfl, -, rfl⟩ := (Value.slice.injEq _ _ _ _ _ _).mp hv
  exact hm

theorem OwnM.open {w : World} {B : Nat} {v : Value} {m : List (List Int)} (h : OwnM w B v m) : ∃ ao c vs, v = .slice ao m.length c ∧ OwnP w B (.slice ao m.length c) m.length m m.length vs ∧ m.length ≤ c ∧ c ≤ 9223372036854775807 := by
  obtain ⟨ao, c, hv, h1, h2, _⟩ := h.read
  obtain ⟨vs, h⟩ := h
  exact ⟨ao, c, vs, hv, by rw [← hv]; exact h, h1, h2⟩

theorem mres_same {p : Prop} {r q : List (List Int)} {b : Bool} (h : (p ∧ b = true ∧ q = r) ∨ (¬p ∧ b = false ∧ q = [])) :
    ∀ (b' : Bool) (q' : List (List Int)), ((p ∧ b' = true ∧ q' = r) ∨ (¬p ∧ b' = false ∧ q' = [])) → b = b' ∧ q = q' := by
  intro b' q' h'
  rcases h with ⟨h1, rfl, rfl⟩ | ⟨h1, rfl, rfl⟩ <;> rcases h' with ⟨k1, rfl, rfl⟩ | ⟨k1, rfl, rfl⟩
  · exact ⟨rfl, rfl⟩
  · exact absurd h1 k1
  · exact absurd k1 h1
  · exact ⟨rfl, rfl⟩

theorem own_at {w : World} {B n c : Nat} {ao : Option Addr} {xs : List Int} (h : OwnI w B (.slice ao n c) xs) : IntsAt w ao xs := by
  obtain ⟨ao', c', hv, _, _, hx⟩ := h.read
  obtain ⟨rfl, -, rfl⟩ := (Value.slice.injEq _ _ _ _ _ _).mp hv
  exact hx

/-- the last t numbers of row k, backwards -/
def backTo (m : List (List Int)) (k t : Nat) : List Int := (List.range t).map fun i => gi (gr m k) (m.length - 1 - i)
theorem backTo_succ (m : List (List Int)) (k t : Nat) : backTo m k (t + 1) = backTo m k t ++ [gi (gr m k) (m.length - 1 - t)] := by simp [backTo, List.range_succ]
theorem backTo_len (m : List (List Int)) (k t : Nat) : (backTo m k t).length = t := by simp [backTo]
theorem backTo_mir {m : List (List Int)} {k : Nat} (hk : k < m.length) : backTo m k m.length = gr (mir m) k := by unfold mir; rw [gr_tab hk]; rfl

set_option maxRecDepth 100000 in
set_option maxHeartbeats 800000 in
theorem sgMirror_any (ao : Option Addr) (c : Nat) (m : List (List Int)) (w : World) (hsq : square m) (hm : MatAt w ao m) :
    Calls Try.prog 145 #[.slice ao m.length c] w fun e w' => ∃ v, e = .returned v ∧ OwnM w' w.heap.size v (mir m) ∧ Below w.heap.size w w' := by
  obtain ⟨i0, hi, hz0, hz1, hz2⟩ := info_parts Try.info_int
  obtain ⟨j0, hj, hy0, hy1, hy2⟩ := info_parts Try.info_ints
  have hn := hsq.2.1
  have hmx : m.length ≤ 9223372036854775807 := by omega
  have Hsq := Lib.hid hsq
  clear hsq
  go_enter Try.func145, Try.ntmps145
  go_wp2
  go_loopw [3, 10] (fun out i wr => ∃ (k : Nat) (vs : List Value), k ≤ m.length ∧ i = .int .i64 k ∧ OwnP wr w.heap.size out k (mir m) k vs ∧ Below w.heap.size w wr) (fun _ i _ => m.length - (intOf i).toNat)
  case atStart => exact ⟨0, [], Nat.zero_le _, rfl, ⟨World.ownsRow_nil _ _ _ _, fun i hi => absurd hi (by omega), fun i j _ hj => absurd hj (by omega)⟩, Below.refl _ _⟩
  case round =>
    obtain ⟨k, vs, hk, rfl, hout, hbr⟩ := hrel
    obtain ⟨wo, rfl⟩ : ∃ wo : World, wo = wr := ⟨_, rfl⟩
    by_cases hlt : k < m.length
    · obtain ⟨b1, o1, r1, d1, e0, hc1, hx1, _, _⟩ := hm.below hbr k hlt
      have hrl : (gr m k).length = m.length := Hsq.out.2.2 k hlt
      rw [hrl] at hc1
      subst e0
      have Hx1 := Lib.hid hx1
      have Hout := Lib.hid hout
      have Hbr := Lib.hid hbr
      have hB := hbr.size
      clear hout hbr hm hrl hx1
      go_wp2
      go_loopw [6, 7] (fun row i wr => ∃ t : Nat, t ≤ m.length ∧ i = .int .i64 ((m.length : Int) - 1 - t) ∧ OwnI wr wo.heap.size row (backTo m k t) ∧ Below wo.heap.size wo wr) (fun _ i _ => (intOf i + 1).toNat)
      case atStart => exact ⟨0, Nat.zero_le _, by go_num, OwnI.nil _ _, Below.refl _ _⟩
      case round =>
        obtain ⟨t, ht, rfl, hrow, hbi⟩ := hrel
        by_cases htl : t < m.length
        · obtain ⟨b2, o2, e2, hc2⟩ := Hx1.out.below hbi (m.length - 1 - t) (by rw [Hsq.out.2.2 k hlt]; omega)
          subst e2
          have hB2 := hbi.size
          have Hbi := Lib.hid hbi
          have Hrow := Lib.hid hrow
          clear hbi hrow
          go_wp2_with (at_builtin; refine wpList_append_own _ rfl _ _ 24 rfl wo.heap.size 3 i0 (.int .i64 0) 1 8 Try.underlying24 hi hz0 hz1 hz2 rfl (by decide) _ _ _ rfl (World.ownsRow.alloc Hrow.out _) ⟨wr.heap.size, 0, none⟩ 1 1 [.int .i64 (gi (gr m k) (m.length - 1 - t))] rfl rfl ?c1 ?c2 ?c3 ?c4 ?c5 ?_)
          case c1 => exact cell_one_new _ _ _
          case c2 => intro u hu; simp at hu; subst hu; rfl
          case c3 => unfold maxLen; rw [backTo_len]; omega
          case c4 => rw [backTo_len]; omega
          case c5 => simp; omega
          intro v' w1 hown' hgrow _
          obtain ⟨hr2, hb2⟩ := Hrow.out.snoc hB2 hown' hgrow
          rw [← backTo_succ] at hr2
          have Hr2 := Lib.hid hr2
          have Hb2 := Lib.hid hb2
          clear hown' hgrow hr2 hb2
          go_wp2
          go_roundw
          case rel => exact ⟨t + 1, by omega, by go_num, Hr2.out, Hbi.out.trans Hb2.out⟩
          case measure => simp [intOf]; omega
        · obtain rfl : t = m.length := by omega
          rw [backTo_mir hlt] at hrow
          obtain ⟨rr, rc, hr, _, _, _⟩ := hrow.read
          have Hrow := Lib.hid hrow
          have hB2 := hbi.size
          have Hout2 := Lib.hid (Hout.out.below hbi)
          have Hbi := Lib.hid hbi
          have hfr := Lib.hid (Hout.out.fresh hrow (Nat.le_refl _))
          clear hrow hbi
          subst hr
          go_wp2_with (at_builtin; refine wpList_append_own _ rfl _ _ 40 rfl w.heap.size 24 j0 (.slice none 0 0) 1 24 Try.underlying40 hj hy0 hy1 hy2 rfl (by decide) _ _ _ rfl (World.ownsRow.alloc Hout2.out.top _) ⟨wr.heap.size, 0, none⟩ 1 1 [.slice rr (gr (mir m) k).length rc] rfl rfl ?d1 ?d2 ?d3 ?d4 ?d5 ?_)
          case d1 => exact cell_one_new _ _ _
          case d2 => intro u hu; simp at hu; subst hu; rfl
          case d3 => unfold maxLen; omega
          case d4 => omega
          case d5 => simp; omega
          intro v' w1 hown' hgrow _
          have hput := Hout2.out.snoc (show w.heap.size ≤ wr.heap.size by omega) (Hrow.out.base hB) hfr.out hown' hgrow
          have Hput := Lib.hid hput
          clear hput hown' hgrow
          go_wp2
          go_roundw
          case rel => exact ⟨k + 1, _, by omega, by go_num, Hput.out.1, (Hbr.out.trans (Hbi.out.mono hB)).trans Hput.out.2⟩
          case measure => simp [intOf]; omega
    · obtain rfl : k = m.length := by omega
      go_wp2
      go_ret
      exact ⟨_, rfl, ⟨vs, by rw [mir_len]; exact hout⟩, hbr⟩

set_option maxRecDepth 100000 in
set_option maxHeartbeats 800000 in
theorem sgClockwise_any (ao : Option Addr) (c : Nat) (m : List (List Int)) (w : World) (hsq : square m) (hm : MatAt w ao m) :
    Calls Try.prog 143 #[.slice ao m.length c] w fun e w' => ∃ v, e = .returned v ∧ OwnM w' w.heap.size v (cw m) ∧ Below w.heap.size w w' := by
  have Hsq := Lib.hid hsq
  have Hm := Lib.hid hm
  clear hsq hm
  go_enter Try.func143, Try.ntmps143
  go_wp2_with fail
  refine (sgTurn_any ao c m w Hsq.out Hm.out).mono ?_
  rintro e w1 ⟨v, rfl, hv, hb⟩
  obtain ⟨a1, c1, rfl, _, _, hm1⟩ := hv.read
  have Hm1 := Lib.hid hm1
  have Hb := Lib.hid hb
  have HB := Lib.hid hb.size
  clear hv hm1 hb
  go_wp2_with fail
  refine (sgMirror_any a1 c1 (tr m) w1 Hsq.out.tr Hm1.out).mono ?_
  rintro e w2 ⟨v, rfl, hv, hb2⟩
  have Hv := Lib.hid (hv.base HB.out)
  have Hb2 := Lib.hid (Hb.out.trans (hb2.mono HB.out))
  clear hv hb2
  go_wp2
  go_ret
  exact ⟨v, rfl, Hv.out, Hb2.out⟩

set_option maxRecDepth 100000 in
set_option maxHeartbeats 800000 in
theorem specTurnMatrix_any (ao : Option Addr) (c : Nat) (m : List (List Int)) (w : World) (hs : Small m) (hm : MatAt w ao m) :
    Calls Try.prog 55 #[.slice ao m.length c] w fun e w' => MRes (good m) (cw m) w' w.heap.size e ∧ Below w.heap.size w w' := by
  have Hs := Lib.hid hs
  have Hm := Lib.hid hm
  clear hs hm
  go_enter Try.func55, Try.ntmps55
  go_wp2_with fail
  refine (sgGood_any ao c m w Hs.out Hm.out).mono ?_
  rintro e w1 ⟨ha, hb⟩
  have Hb := Lib.hid hb
  have HB := Lib.hid hb.size
  clear hb
  by_cases hg : good m
  · have Hg := Lib.hid hg
    clear hg
    obtain rfl := ha.is Hg.out
    clear ha
    go_wp2_with fail
    refine (sgClockwise_any ao c m w1 Hg.out.1 (Hm.out.below Hb.out)).mono ?_
    rintro e w2 ⟨v, rfl, hv, hb2⟩
    have Hv := Lib.hid (hv.base HB.out)
    have Hb2 := Lib.hid (Hb.out.trans (hb2.mono HB.out))
    clear hv hb2
    go_wp2
    go_ret2
    exact ⟨MRes.yes Hg.out Hv.out, Hb2.out⟩
  · have Hg := Lib.hid hg
    clear hg
    obtain rfl := ha.isnt Hg.out
    clear ha
    go_wp2
    go_ret2
    exact ⟨MRes.no Hg.out, Hb.out⟩

set_option maxRecDepth 100000 in
set_option maxHeartbeats 800000 in
theorem specMirrorMatrix_any (ao : Option Addr) (c : Nat) (m : List (List Int)) (w : World) (hs : Small m) (hm : MatAt w ao m) :
    Calls Try.prog 57 #[.slice ao m.length c] w fun e w' => MRes (good m) (mir m) w' w.heap.size e ∧ Below w.heap.size w w' := by
  have Hs := Lib.hid hs
  have Hm := Lib.hid hm
  clear hs hm
  go_enter Try.func57, Try.ntmps57
  go_wp2_with fail
  refine (sgGood_any ao c m w Hs.out Hm.out).mono ?_
  rintro e w1 ⟨ha, hb⟩
  have Hb := Lib.hid hb
  have HB := Lib.hid hb.size
  clear hb
  by_cases hg : good m
  · have Hg := Lib.hid hg
    clear hg
    obtain rfl := ha.is Hg.out
    clear ha
    go_wp2_with fail
    refine (sgMirror_any ao c m w1 Hg.out.1 (Hm.out.below Hb.out)).mono ?_
    rintro e w2 ⟨v, rfl, hv, hb2⟩
    have Hv := Lib.hid (hv.base HB.out)
    have Hb2 := Lib.hid (Hb.out.trans (hb2.mono HB.out))
    clear hv hb2
    go_wp2
    go_ret2
    exact ⟨MRes.yes Hg.out Hv.out, Hb2.out⟩
  · have Hg := Lib.hid hg
    clear hg
    obtain rfl := ha.isnt Hg.out
    clear ha
    go_wp2
    go_ret2
    exact ⟨MRes.no Hg.out, Hb.out⟩

set_option maxRecDepth 100000 in
set_option maxHeartbeats 800000 in
theorem specTransposeMatrix_any (ao : Option Addr) (c : Nat) (m : List (List Int)) (w : World) (hs : Small m) (hm : MatAt w ao m) :
    Calls Try.prog 59 #[.slice ao m.length c] w fun e w' => MRes (good m) (tr m) w' w.heap.size e ∧ Below w.heap.size w w' := by
  have Hs := Lib.hid hs
  have Hm := Lib.hid hm
  clear hs hm
  go_enter Try.func59, Try.ntmps59
  go_wp2_with fail
  refine (sgGood_any ao c m w Hs.out Hm.out).mono ?_
  rintro e w1 ⟨ha, hb⟩
  have Hb := Lib.hid hb
  have HB := Lib.hid hb.size
  clear hb
  by_cases hg : good m
  · have Hg := Lib.hid hg
    clear hg
    obtain rfl := ha.is Hg.out
    clear ha
    go_wp2_with fail
    refine (sgTurn_any ao c m w1 Hg.out.1 (Hm.out.below Hb.out)).mono ?_
    rintro e w2 ⟨v, rfl, hv, hb2⟩
    have Hv := Lib.hid (hv.base HB.out)
    have Hb2 := Lib.hid (Hb.out.trans (hb2.mono HB.out))
    clear hv hb2
    go_wp2
    go_ret2
    exact ⟨MRes.yes Hg.out Hv.out, Hb2.out⟩
  · have Hg := Lib.hid hg
    clear hg
    obtain rfl := ha.isnt Hg.out
    clear ha
    go_wp2
    go_ret2
    exact ⟨MRes.no Hg.out, Hb.out⟩
end Go.Proofs.Ytnhkclnloiiihaa
