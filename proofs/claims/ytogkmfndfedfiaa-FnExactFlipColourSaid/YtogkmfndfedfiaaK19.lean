/- Parts of proofs: contracts and plain facts. Conditions: as each says. -/
import Derived.Test.YtogkmfndfedfiaaK18
import Derived.Deep.RegionHeld3
import Derived.Laws.OwnMore
namespace Go.Proofs.Ytogkmfndfedfiaa
open Go.RowKit

theorem isColour_any (col : Int) (w : World) : Calls Try.prog 76 #[.int .i64 col] w fun e w' => Ans (0 ≤ col ∧ col ≤ 1) e ∧ w' = w := by
  by_cases h0 : col = 0
  · subst h0
    go_enter Try.func76, Try.ntmps76
    go_wp2
    go_ret
    exact ⟨Ans.yes (by omega), rfl⟩
  · by_cases h1 : col = 1
    · subst h1
      go_enter Try.func76, Try.ntmps76
      go_wp2
      go_ret
      exact ⟨Ans.yes (by omega), rfl⟩
    · have e0 : (col == 0) = false := by simpa using h0
      have e1 : (col == 1) = false := by simpa using h1
      have hn : ¬ (0 ≤ col ∧ col ≤ 1) := by omega
      have Hn := Lib.hid hn
      clear h0 h1 hn
      go_enter Try.func76, Try.ntmps76
      go_wp2
      go_ret
      exact ⟨Ans.no Hn.out, rfl⟩

set_option maxRecDepth 100000 in
set_option maxHeartbeats 1600000 in
theorem implFlipColour_any (ao : Option Addr) (c : Nat) (m : List (List Int)) (col : Int) (w : World) (hs : Small m) (hwf : WfM m) (hm : MatAt w ao m) (hc : m.length ≤ c) (hc2 : c ≤ 9223372036854775807) (hcol : -9223372036854775808 ≤ col ∧ col ≤ 9223372036854775807) :
    Calls Try.prog 29 #[.slice ao m.length c, .int .i64 col] w fun e w' => MRes (fcOk m col) (gyC m [col]) w' w.heap.size e ∧ Below w.heap.size w w' := by
  have Hcall := Lib.hid (behind_flip ao c m col w hs hwf hm hc hc2)
  clear hs hwf hm hcol
  go_enter Try.func29, Try.ntmps29
  go_wp2_with fail
  refine (isColour_any col w).mono ?_
  rintro e w1 ⟨ha, rfl⟩
  by_cases h : 0 ≤ col ∧ col ≤ 1
  · obtain rfl := ha.is h
    have H := Lib.hid h
    clear ha h
    go_wp2_with fail
    refine Hcall.out.mono ?_
    rintro e w2 ⟨⟨v, b, r, rfl, hv, hr⟩, hb2⟩
    have Hv := Lib.hid hv
    have Hr := Lib.hid hr
    have Hb2 := Lib.hid hb2
    clear hv hr hb2
    go_wp2
    go_ret2
    exact ⟨⟨v, b, r, rfl, Hv.out, by
      rcases Hr.out with ⟨h1, h2, h3⟩ | ⟨h1, h2, h3⟩
      · exact .inl ⟨⟨h1, H.out⟩, h2, h3⟩
      · exact .inr ⟨fun h => h1 h.1, h2, h3⟩⟩, Hb2.out⟩
  · obtain rfl := ha.isnt h
    have H := Lib.hid h
    clear ha h
    go_wp2
    go_ret2
    exact ⟨MRes.no (fun h => H.out h.2), Below.refl _ _⟩

set_option maxRecDepth 100000 in
set_option maxHeartbeats 1600000 in
theorem implGyrateSigns_any (ao : Option Addr) (c : Nat) (m : List (List Int)) (w : World) (hs : Small m) (hwf : WfM m) (hm : MatAt w ao m) (hc : m.length ≤ c) (hc2 : c ≤ 9223372036854775807) :
    Calls Try.prog 31 #[.slice ao m.length c] w fun e w' => MRes (good m) (gyC m [0, 1]) w' w.heap.size e ∧ Below w.heap.size w w' := by
  have Hs := Lib.hid hs
  have Hwf := Lib.hid hwf
  have Hm := Lib.hid hm
  clear hs hwf hm
  go_enter Try.func31, Try.ntmps31
  go_wp2_with fail
  refine (gyration_any w).mono ?_
  rintro e w1 ⟨v, rfl, ⟨so, sc, rfl, hst, _⟩, hb1⟩
  have Hcall := Lib.hid (behind_flips ao c m so sc [0, 1] w1 Hs.out Hwf.out (Hm.out.below hb1) hc hc2 (by simp) hst)
  have Hb1 := Lib.hid hb1
  clear hb1 hst
  go_wp2_with fail
  refine Hcall.out.mono ?_
  rintro e w2 ⟨⟨v, b, r, rfl, hv, hr⟩, hb2⟩
  have Hv := Lib.hid (hv.base Hb1.out.size)
  have Hr := Lib.hid hr
  have Hb2 := Lib.hid (Hb1.out.trans (hb2.mono Hb1.out.size))
  clear hv hr hb2
  go_wp2
  go_ret2
  exact ⟨⟨v, b, r, rfl, Hv.out, Hr.out⟩, Hb2.out⟩

set_option maxRecDepth 100000 in
set_option maxHeartbeats 1600000 in
theorem implGyrateBack_any (ao : Option Addr) (c : Nat) (m : List (List Int)) (w : World) (hs : Small m) (hwf : WfM m) (hm : MatAt w ao m) (hc : m.length ≤ c) (hc2 : c ≤ 9223372036854775807) :
    Calls Try.prog 33 #[.slice ao m.length c] w fun e w' => MRes (good m) (gyC m [1, 0]) w' w.heap.size e ∧ Below w.heap.size w w' := by
  have Hs := Lib.hid hs
  have Hwf := Lib.hid hwf
  have Hm := Lib.hid hm
  clear hs hwf hm
  go_enter Try.func33, Try.ntmps33
  go_wp2_with fail
  refine (gyration_any w).mono ?_
  rintro e w1 ⟨v, rfl, ⟨so, sc, rfl, hst, _⟩, hb1⟩
  have Hst := Lib.hid hst
  have Hb1 := Lib.hid hb1
  clear hb1 hst
  go_wp2_with fail
  refine (backwards_flips [0, 1] so 2 sc w1 rfl (by omega) Hst.out).mono ?_
  rintro e w2 ⟨v, rfl, ⟨so2, sc2, rfl, hst, _⟩, hb2⟩
  have Hb2 := Lib.hid (Hb1.out.trans (hb2.mono Hb1.out.size))
  have Hcall := Lib.hid (behind_flips ao c m so2 sc2 [1, 0] w2 Hs.out Hwf.out (Hm.out.below Hb2.out) hc hc2 (by simp) hst)
  clear hb2 hst
  go_wp2_with fail
  refine Hcall.out.mono ?_
  rintro e w3 ⟨⟨v, b, r, rfl, hv, hr⟩, hb3⟩
  have Hv := Lib.hid (hv.base Hb2.out.size)
  have Hr := Lib.hid hr
  have Hb3 := Lib.hid (Hb2.out.trans (hb3.mono Hb2.out.size))
  clear hv hr hb3
  go_wp2
  go_ret2
  exact ⟨⟨v, b, r, rfl, Hv.out, Hr.out⟩, Hb3.out⟩
end Go.Proofs.Ytogkmfndfedfiaa

namespace Go.Proofs.Ytogkmfndfedfiaa
open Go.RowKit

def canB (c : Nat → Nat → Int) (p : Nat × Nat) : Bool := !(way (hOf c) p.1 p.2 == 0)
def fcS (c : Nat → Nat → Int) (col : Int) (cs : List (Nat × Nat)) : List (Nat × Nat) := (colL col cs).filter (canB c)
def fcL (m : List (List Int)) (col : Int) : List (Nat × Nat) := fcS (S2 m) col (allCells m.length m.length)
theorem fcS_snoc (c : Nat → Nat → Int) (col : Int) (cs : List (Nat × Nat)) (p : Nat × Nat) : fcS c col (cs ++ [p]) = if ((p.1 : Int) + (p.2 : Int)) % 2 = col ∧ canB c p = true then fcS c col cs ++ [p] else fcS c col cs := by
  unfold fcS
  rw [colL_snoc]
  by_cases h : ((p.1 : Int) + (p.2 : Int)) % 2 = col
  · rw [if_pos h, List.filter_append]
    by_cases h2 : canB c p = true
    · rw [if_pos ⟨h, h2⟩]; simp [h2]
    · rw [if_neg (fun k => h2 k.2)]; simp [h2]
  · rw [if_neg h, if_neg (fun k => h k.1)]
theorem fcS_len (c : Nat → Nat → Int) (col : Int) (cs : List (Nat × Nat)) : (fcS c col cs).length ≤ cs.length := Nat.le_trans (List.length_filter_le _ _) (colL_len _ _)
end Go.Proofs.Ytogkmfndfedfiaa

namespace Go.Proofs.Ytogkmfndfedfiaa
open Go.RowKit

def frOk (m path : List (List Int)) : Prop := good m ∧ path.length ≤ 200 ∧ (runC m.length (S2 m) path).isSome = true
def frM (m path : List (List Int)) : List (List Int) := unC m.length ((runC m.length (S2 m) path).getD (S2 m))
theorem take_snoc_gr {path : List (List Int)} {k : Nat} (h : k < path.length) : path.take (k + 1) = path.take k ++ [gr path k] := by
  rw [List.take_add_one, List.getElem?_eq_getElem h, gr_lt h]
  rfl
theorem okCell_okB {n : Nat} {r : List Int} (h : r.length = 2) : okCell n r ↔ okB n (gi r 0) (gi r 1) = true := by
  rw [okB_true]
  exact ⟨fun h => h.2, fun k => ⟨h, k⟩⟩
theorem run_step {n : Nat} {c d : Nat → Nat → Int} {path : List (List Int)} {k : Nat} (h : runC n c (path.take k) = some d) (hk : k < path.length) (ho : okCell n (gr path k)) (hw : way (hOf d) (gi (gr path k) 0).toNat (gi (gr path k) 1).toNat ≠ 0) :
    runC n c (path.take (k + 1)) = some (flipC d (gi (gr path k) 0).toNat (gi (gr path k) 1).toNat) := by
  rw [take_snoc_gr hk, runC_snoc, h]
  show runC n d [gr path k] = _
  unfold runC
  rw [if_pos ⟨ho, hw⟩]
  rfl
theorem run_stop {n : Nat} {c d : Nat → Nat → Int} {path : List (List Int)} {k : Nat} (h : runC n c (path.take k) = some d) (hk : k < path.length) (ho : ¬ (okCell n (gr path k) ∧ way (hOf d) (gi (gr path k) 0).toNat (gi (gr path k) 1).toNat ≠ 0)) :
    runC n c path = none := by
  apply runC_none (k := k + 1)
  rw [take_snoc_gr hk, runC_snoc, h]
  show runC n d [gr path k] = _
  unfold runC
  rw [if_neg ho]
theorem frM_some {m path : List (List Int)} {d : Nat → Nat → Int} (h : runC m.length (S2 m) path = some d) : frM m path = unC m.length d := by
  unfold frM
  rw [h]
  rfl
theorem frOk_yes {m path : List (List Int)} {d : Nat → Nat → Int} (hg : good m) (hl : path.length ≤ 200) (h : runC m.length (S2 m) path = some d) : frOk m path := ⟨hg, hl, by rw [h]; rfl⟩
theorem frOk_no {m path : List (List Int)} (h : runC m.length (S2 m) path = none) : ¬ frOk m path := fun k => by
  have := k.2.2
  rw [h] at this
  cases this
theorem frM_small {m path : List (List Int)} (h : frOk m path) : Small (frM m path) := unC_small _ h.1.1.2.1
/-- one flip -/
def faOk (m : List (List Int)) (i j : Int) : Prop := frOk m [[i, j]]
def faM (m : List (List Int)) (i j : Int) : List (List Int) := frM m [[i, j]]
theorem run_one {n : Nat} {c : Nat → Nat → Int} {i j : Int} : runC n c [[i, j]] = if okB n i j = true ∧ way (hOf c) i.toNat j.toNat ≠ 0 then some (flipC c i.toNat j.toNat) else none := by
  have e : okCell n [i, j] ↔ okB n i j = true := okCell_okB rfl
  unfold runC
  by_cases h : okB n i j = true ∧ way (hOf c) i.toNat j.toNat ≠ 0
  · rw [if_pos h, if_pos ⟨e.2 h.1, h.2⟩]; rfl
  · rw [if_neg h, if_neg (fun k => h ⟨e.1 k.1, k.2⟩)]
end Go.Proofs.Ytogkmfndfedfiaa

namespace Go.Proofs.Ytogkmfndfedfiaa
open Go.RowKit

theorem two_of_len' {r : List Int} (h : r.length = 2) : r = [gi r 0, gi r 1] := by
  match r, h with
  | [a, b], _ => rfl

/-- what a flip's store needs, and what it leaves -/
theorem flip_store {n N B cp i j : Nat} {ao : Option Addr} {vs : List Value} {c : Nat → Nat → Int} {w : World} (hN : N = n + 1) (hn : n ≤ 6) (hc : Crn n c) (hp : inn n (i, j)) (hH : OwnP w B (.slice ao N cp) N (htT n c) N vs) :
    ∃ b o g cr x, ao = some ⟨b, o, none⟩ ∧ B ≤ g ∧ 0 ≤ x ∧ x ≤ 6 ∧ (∀ w', OwnP w' B (.slice ao N cp) N (htT n c) N vs → w'.cell? ⟨b, o + i, none⟩ = some (.slice (some ⟨g, 0, none⟩) N cr) ∧ w'.cell? ⟨g, j, none⟩ = some (.int .i64 x) ∧ w'.frozen? ⟨g, j, none⟩ = false ∧
      OwnP (w'.setCell ⟨g, j, none⟩ (.int .i64 (x + 2 * way (hOf c) i j))) B (.slice ao N cp) N (htT n (flipC c i j)) N vs) := by
  have hT : Tab N (htT n c) := by rw [hN]; exact htT_tab hc hn
  obtain ⟨hi1, hi2, hj1, hj2⟩ := hp
  simp only at hi1 hi2 hj1 hj2
  obtain ⟨b, o, g, cr, rfl, hv, hBg, hcells⟩ := hH.numAt hT (i := i) (j := j) (by omega) (by omega)
  have hx : gi (gr (htT n c) i) j = hOf c i j := gi_htT (by omega) (by omega)
  rw [hx] at hcells
  have hb := hc.hbound (show i ≤ n by omega) (show j ≤ n by omega)
  refine ⟨b, o, g, cr, hOf c i j, rfl, hBg, hb.1, by omega, fun w' h' => ⟨(hcells w' h').1, (hcells w' h').2.1, (hcells w' h').2.2, ?_⟩⟩
  have h2 := h'.storeAt (by rw [htT_len, hN]) (i := i) (j := j) (show i < N by omega) hv (hOf c i j + 2 * way (hOf c) i j)
  rwa [setM_htT c (p := (i, j)) ⟨hi1, hi2, hj1, hj2⟩] at h2

theorem way_small (f : Nat → Nat → Int) (i j : Nat) : -1 ≤ way f i j ∧ way f i j ≤ 1 := by unfold way; split <;> (try split) <;> omega

theorem heWay_htT {n N B cp i j : Nat} {ao : Option Addr} {vs : List Value} {c : Nat → Nat → Int} {w : World} (hN : N = n + 1) (hn : n ≤ 6) (hc : Crn n c) (hp : inn n (i, j)) (hH : OwnP w B (.slice ao N cp) N (htT n c) N vs) :
    Calls Try.prog 59 #[.slice ao N cp, .int .i64 (i : Int), .int .i64 (j : Int)] w fun e w2 => e = .returned (.int .i64 (way (hOf c) i j)) ∧ Below w.heap.size w w2 := by
  have hT : Tab N (htT n c) := by rw [hN]; exact htT_tab hc hn
  obtain ⟨hi1, hi2, hj1, hj2⟩ := hp
  simp only at hi1 hi2 hj1 hj2
  have := heWay_any N ao cp (htT n c) i j w (by omega) hT hi1 (by omega) hj1 (by omega) (hH.at (by rw [htT_len, hN]))
  have e : way (fun a b => gi (gr (htT n c) a) b) i j = way (hOf c) i j := way_htT c (p := (i, j)) ⟨hi1, hi2, hj1, hj2⟩
  rwa [e] at this

set_option maxRecDepth 100000 in
set_option maxHeartbeats 1600000 in
theorem specFlipAt_any (ao : Option Addr) (cp : Nat) (m : List (List Int)) (x y : Int) (w : World) (hs : Small m) (hm : MatAt w ao m)
    (hx : -9223372036854775808 ≤ x ∧ x ≤ 9223372036854775807) (hy : -9223372036854775808 ≤ y ∧ y ≤ 9223372036854775807) :
    Calls Try.prog 18 #[.slice ao m.length cp, .int .i64 x, .int .i64 y] w fun e w' => MRes (faOk m x y) (faM m x y) w' w.heap.size e ∧ Below w.heap.size w w' := by
  have Hs := Lib.hid hs
  have Hm := Lib.hid hm
  clear hs hm hx hy
  go_enter Try.func18, Try.ntmps18
  go_wp2_with fail
  refine (sgGood_any ao cp m w Hs.out Hm.out).mono ?_
  rintro e w1 ⟨ha, hb⟩
  have Hb := Lib.hid hb
  have HB := Lib.hid hb.size
  clear hb
  by_cases hg : good m
  · have Hg := Lib.hid hg
    have hn := hg.1.2.1
    have hn1 := hg.1.1
    clear hg
    obtain rfl := ha.is Hg.out
    clear ha
    go_wp2_with fail
    refine (heCell_any m.length x y w1 hn1 hn).mono ?_
    rintro e w1' ⟨rfl, rfl⟩
    obtain ⟨ok, hok⟩ : ∃ ok, ok = okB m.length x y := ⟨_, rfl⟩
    rw [← hok]
    have Hok := Lib.hid hok
    clear hok
    cases ok
    · go_wp2
      go_ret2
      exact ⟨MRes.no (frOk_no (by rw [run_one, if_neg (fun h => by rw [← Hok.out] at h; cases h.1)])), Hb.out⟩
    · obtain ⟨hx0, hx1, hy0, hy1⟩ := okB_true.1 Hok.out.symm
      obtain ⟨i, rfl⟩ : ∃ i : Nat, x = i := ⟨x.toNat, by omega⟩
      obtain ⟨j, rfl⟩ : ∃ j : Nat, y = j := ⟨y.toNat, by omega⟩
      have hinn : inn m.length (i, j) := ⟨by show 1 ≤ i; omega, by show i < m.length; omega, by show 1 ≤ j; omega, by show j < m.length; omega⟩
      have Hinn := Lib.hid hinn
      clear hinn hx0 hx1 hy0 hy1
      go_wp2_with fail
      refine (heOf_any ao cp m w1' Hg.out (Hm.out.below Hb.out)).mono ?_
      rintro e w2 ⟨v, rfl, hv, hb2⟩
      obtain ⟨a1, c1, vs, rfl, hvo, hc1, hc2⟩ := hv.open
      rw [ht_len] at hvo hc1 ⊢
      obtain ⟨N, hN⟩ : ∃ N, N = m.length + 1 := ⟨_, rfl⟩
      rw [← hN] at hvo hc1 ⊢
      have HN := Lib.hid hN
      have Hvo := Lib.hid (hvo.base HB.out)
      have Hb2 := Lib.hid (Hb.out.trans (hb2.mono HB.out))
      have HB2 := Lib.hid Hb2.out.size
      clear hN hvo hb2 hv
      have Hcr := Lib.hid (good_crn Hg.out)
      have Hcall := Lib.hid (heWay_htT HN.out hn Hcr.out Hinn.out Hvo.out)
      go_wp2_with fail
      refine Hcall.out.mono ?_
      rintro e w3 ⟨rfl, hb3⟩
      have hvo3 := Hvo.out.below hb3
      have Hvo3 := Lib.hid hvo3
      have Hb3 := Lib.hid (Hb2.out.trans (hb3.mono HB2.out))
      have HB3 := Lib.hid Hb3.out.size
      obtain ⟨b, o, g, cr, z, rfl, hBg, hz0, hz6, hst⟩ := flip_store HN.out hn Hcr.out Hinn.out hvo3
      obtain ⟨f1, f2, f3, hfin⟩ := hst w3 hvo3
      have hw := way_small (hOf (S2 m)) i j
      obtain ⟨y, hyy⟩ : ∃ y, y = way (hOf (S2 m)) i j := ⟨_, rfl⟩
      rw [← hyy] at hw hfin ⊢
      have Hyy := Lib.hid hyy
      have Hfin := Lib.hid hfin
      have HBg := Lib.hid hBg
      clear hvo3 hb3 hst hfin hyy hBg Hvo Hcall
      by_cases hy0 : y = 0
      · have hbq : (y == 0) = true := by simp [hy0]
        have Hy0 := Lib.hid hy0
        clear hy0
        go_wp2
        go_ret2
        exact ⟨MRes.no (frOk_no (by rw [run_one, if_neg (fun h => h.2 (by show way (hOf (S2 m)) i j = 0; rw [← Hyy.out]; exact Hy0.out))])), Hb3.out⟩
      · have hbq : (y == 0) = false := by simp [hy0]
        have Hy0 := Lib.hid hy0
        have k1 : IntKind.i64.wrap (2 * y) = 2 * y := w64 (by omega)
        have k2 : IntKind.i64.wrap (z + 2 * y) = z + 2 * y := w64 (by omega)
        have m1 : (i : Int) < N := by have := Hinn.out.2.1; have := HN.out; simp only at *; omega
        have m2 : (j : Int) < N := by have := Hinn.out.2.2.2; have := HN.out; simp only at *; omega
        have hrun : runC m.length (S2 m) [[(i : Int), (j : Int)]] = some (flipC (S2 m) i j) := by
          rw [run_one, if_pos ⟨Hok.out.symm, by show way (hOf (S2 m)) i j ≠ 0; rw [← Hyy.out]; exact Hy0.out⟩]
          rfl
        have Hrun := Lib.hid hrun
        have Hcr2 := Lib.hid (Hcr.out.tog (p := (i, j)) Hinn.out)
        have hm4 := Hfin.out.at (m := htT m.length (flipC (S2 m) i j)) (by rw [htT_len, HN.out])
        have hcall : ∀ w', (∃ q, w' = (w3.setCell ⟨g, j, none⟩ (.int .i64 (z + 2 * y))).drewN q) → Calls Try.prog 60 #[.slice (some ⟨b, o, none⟩) N c1] w' fun e w2 => ∃ v, e = .returned v ∧ OwnM w2 w'.heap.size v (frM m [[(i : Int), (j : Int)]]) ∧ Below w'.heap.size w' w2 := by
          rintro w' ⟨q, rfl⟩
          have h := heFrom_any (some ⟨b, o, none⟩) c1 m.length (flipC (S2 m) i j) ((w3.setCell ⟨g, j, none⟩ (.int .i64 (z + 2 * y))).drewN q) Hcr2.out hn1 hn hm4
          rw [← HN.out, ← frM_some hrun] at h
          exact h
        have Hcall := Lib.hid hcall
        have hb4 : ∀ q, Below w.heap.size w ((w3.setCell ⟨g, j, none⟩ (.int .i64 (z + 2 * y))).drewN q) := fun q => below_drewN (Hb3.out.setCell (p := ⟨g, j, none⟩) HBg.out _) q
        have Hb4 := Lib.hid hb4
        clear hy0 hrun hm4 hcall hb4 hw hz0 hz6
        go_wp2_with fail
        first
          | refine (Hcall.out _ ⟨0, rfl⟩).mono ?_
          | refine (Hcall.out _ ⟨1, rfl⟩).mono ?_
        rintro e w5 ⟨v, rfl, hv, hb5⟩
        have hq : ∀ q, Below ((w3.setCell ⟨g, j, none⟩ (.int .i64 (z + 2 * y))).drewN q).heap.size ((w3.setCell ⟨g, j, none⟩ (.int .i64 (z + 2 * y))).drewN q) w5 → Below w.heap.size w w5 := fun q h => (Hb4.out q).trans (h.mono (Hb4.out q).size)
        have Hv := Lib.hid (hv.base (Hb4.out 0).size)
        have Hb5 := Lib.hid (hq 0 hb5)
        clear hv hb5 hq
        go_wp2
        go_ret2
        exact ⟨MRes.yes (frOk_yes Hg.out (by simp) Hrun.out) Hv.out, Hb5.out⟩
  · have Hg := Lib.hid hg
    clear hg
    obtain rfl := ha.isnt Hg.out
    clear ha
    go_wp2
    go_ret2
    exact ⟨MRes.no (fun h => Hg.out h.1), Hb.out⟩
end Go.Proofs.Ytogkmfndfedfiaa

namespace Go.Proofs.Ytogkmfndfedfiaa
open Go.RowKit

theorem OwnP.more {w : World} {B : Nat} {v : Value} {M : List (List Int)} {r : List Int} {vs : List Value} (h : OwnP w B v M.length M M.length vs) : OwnP w B v M.length (M ++ [r]) M.length vs :=
  ⟨h.top, fun i hi => by rw [gr_lt (by simp; omega), List.getElem_append_left hi, ← gr_lt hi]; exact h.rows i hi, h.apart⟩
theorem gr_last (M : List (List Int)) (r : List Int) : gr (M ++ [r]) M.length = r := by
  rw [gr_lt (by simp)]
  simp
end Go.Proofs.Ytogkmfndfedfiaa

namespace Go.Proofs.Ytogkmfndfedfiaa
open Go.RowKit

theorem cellM_snoc (ps : List (Nat × Nat)) (c : Nat × Nat) : cellM (ps ++ [c]) = cellM ps ++ [[(c.1 : Int), (c.2 : Int)]] := by simp [cellM]
theorem fewCells {n s t : Nat} (hn : n ≤ 6) (hs : s ≤ n) (ht : t ≤ n) : (allCells n s ++ rowCells s t).length ≤ 42 := by
  have h1 := allCells_len n s
  have h2 := rowCells_len s t
  have h3 : s * n ≤ 6 * 6 := Nat.mul_le_mul (by omega) hn
  rw [List.length_append]
  omega

set_option maxRecDepth 100000 in
set_option maxHeartbeats 1600000 in
theorem heFlips_any (N n : Nat) (ao : Option Addr) (c : Nat) (H : List (List Int)) (v : Int) (w : World) (hNn : N = n + 1) (hn1 : 1 ≤ n) (hn : n ≤ 6) (hH : Tab N H) (hm : MatAt w ao H) :
    Calls Try.prog 111 #[.slice ao N c, .int .i64 v] w fun e w' => ∃ u, e = .returned u ∧ OwnM w' w.heap.size u (cellM (flipsL (fun a b => gi (gr H a) b) v (allCells n n))) ∧ Below w.heap.size w w' := by
  obtain ⟨j0, hj, hy0, hy1, hy2⟩ := info_parts Try.info_ints
  obtain ⟨F, hF⟩ : ∃ F : Nat → Nat → Int, F = fun a b => gi (gr H a) b := ⟨_, rfl⟩
  have HF := Lib.hid hF
  rw [← hF]
  have HH := Lib.hid hH
  have Hm := Lib.hid hm
  have HN := Lib.hid hNn
  have kN : IntKind.i64.wrap ((N : Int) - 1) = (n : Int) := by rw [w64 (by omega)]; omega
  clear hNn hH hm hF
  go_enter Try.func111, Try.ntmps111
  go_wp2
  go_loopw [5, 6] (fun out i wr => ∃ s : Nat, 1 ≤ s ∧ s ≤ n ∧ i = .int .i64 s ∧ OwnM wr w.heap.size out (cellM (flipsL F v (allCells n s))) ∧ Below w.heap.size w wr) (fun _ i _ => n - (intOf i).toNat)
  case atStart => exact ⟨1, by omega, hn1, rfl, by rw [allCells_one]; exact ⟨[], ⟨World.ownsRow_nil _ _ _ _, fun i hi => absurd hi (by simp [flipsL, cellM]), fun i j _ hj => absurd hj (by simp [flipsL, cellM])⟩⟩, Below.refl _ _⟩
  case round =>
    obtain ⟨s, hs1, hs, rfl, hown, hbr⟩ := hrel
    obtain ⟨wo, rfl⟩ : ∃ wo : World, wo = wr := ⟨_, rfl⟩
    by_cases hlt : s < n
    · have Hown := Lib.hid hown
      have Hbr := Lib.hid hbr
      clear hown hbr
      go_wp2
      go_loopw [5, 7] (fun out j wr => ∃ t : Nat, 1 ≤ t ∧ t ≤ n ∧ j = .int .i64 t ∧ OwnM wr w.heap.size out (cellM (flipsL F v (allCells n s ++ rowCells s t))) ∧ Below w.heap.size w wr) (fun _ j _ => n - (intOf j).toNat)
      case atStart => exact ⟨1, by omega, hn1, by go_num, by rw [rowCells_one, List.append_nil]; exact Hown.out, Hbr.out⟩
      case round =>
        obtain ⟨t, ht1, ht, rfl, hown, hbr⟩ := hrel
        by_cases htl : t < n
        · obtain ⟨vs, hown⟩ := hown
          obtain ⟨cs, hcs⟩ : ∃ cs, cs = allCells n s ++ rowCells s t := ⟨_, rfl⟩
          have hle : cs.length ≤ 42 := by rw [hcs]; exact fewCells hn hs ht
          have hsn := flipsL_snoc F v cs (s, t)
          rw [← hcs] at hown
          obtain ⟨ps, hps⟩ : ∃ ps, ps = flipsL F v cs := ⟨_, rfl⟩
          have hpl : ps.length ≤ 42 := by rw [hps]; exact Nat.le_trans (flipsL_len _ _ _) hle
          rw [← hps] at hown hsn
          have Hcs := Lib.hid (show allCells n s ++ rowCells s (t + 1) = cs ++ [(s, t)] by rw [rowCells_succ s t ht1, ← List.append_assoc, ← hcs])
          have Hsn := Lib.hid hsn
          have Hpl := Lib.hid (show (cellM ps).length ≤ 42 by rw [cellM_len]; exact hpl)
          have Hown := Lib.hid hown
          have Hbr := Lib.hid hbr
          have HZr := Lib.hid hbr.size
          have hcall := heWay_any N ao c H s t wr (by have := HN.out; omega) HH.out hs1 (by have := HN.out; omega) ht1 (by have := HN.out; omega) (Hm.out.below hbr)
          rw [← HF.out] at hcall
          obtain ⟨x, hx⟩ : ∃ x, x = way F s t := ⟨_, rfl⟩
          rw [← hx] at hcall
          have hsn2 := Hsn.out
          rw [show way F (s, t).1 (s, t).2 = x from hx.symm] at hsn2
          have Hsn2 := Lib.hid hsn2
          have Hcall := Lib.hid hcall
          clear hcs hle hsn hps hpl hown hbr hcall hx hsn2 Hsn
          go_wp2_with fail
          refine Hcall.out.mono ?_
          rintro e w2 ⟨rfl, hb2⟩
          have Hown2 := Lib.hid (Hown.out.below hb2)
          have Hbr2 := Lib.hid (Hbr.out.trans (hb2.mono HZr.out))
          have HZ2 := Lib.hid Hbr2.out.size
          clear hb2 Hown Hbr Hcall
          by_cases hw : x = v
          · have hb : (x == v) = true := by simpa using hw
            rw [if_pos hw] at Hsn2
            clear hw
            have Hnew := Lib.hid ((Below.refl w2.heap.size w2).alloc (Nat.le_refl _) (.cells #[.int .i64 (s : Int), .int .i64 (t : Int)] 3))
            have Hown3 := Lib.hid ((Hown2.out.below Hnew.out).more (r := [(s : Int), (t : Int)]))
            have hu : OwnI (w2.alloc (.cells #[.int .i64 (s : Int), .int .i64 (t : Int)] 3)) w2.heap.size (.slice (some ⟨w2.heap.size, 0, none⟩) 2 2) [(s : Int), (t : Int)] := World.ownsRow_lit w2 #[.int .i64 (s : Int), .int .i64 (t : Int)] 2 (Nat.le_refl _) (by unfold maxLen; omega) rfl
            have Hu := Lib.hid hu
            have Hfr := Lib.hid (Hown2.out.fresh hu (Nat.le_refl _))
            clear hu
            go_wp2_with (at_builtin; refine wpList_append_own _ rfl _ _ 22 rfl w.heap.size 41 j0 (.slice none 0 0) 1 24 Try.underlying22 hj hy0 hy1 hy2 rfl (by decide) _ _ _ rfl (World.ownsRow.alloc Hown3.out.top _) ⟨w2.heap.size + 1, 0, none⟩ 1 1 [.slice (some ⟨w2.heap.size, 0, none⟩) 2 2] rfl rfl ?d1 ?d2 ?d3 ?d4 ?d5 ?_)
            case d1 =>
              have e : (w2.alloc (.cells #[.int .i64 (s : Int), .int .i64 (t : Int)] 3)).heap.size = w2.heap.size + 1 := by simp
              rw [← e]
              exact cell_one_new _ _ _
            case d2 => intro u hu; simp at hu; subst hu; rfl
            case d3 => have := Hpl.out; unfold maxLen; omega
            case d4 => have := Hpl.out; omega
            case d5 => have := HZ2.out; simp; omega
            intro v' w5 hown' hgrow _
            have hput := Hown3.out.snoc (Nat.le_trans HZ2.out Hnew.out.size) (by rw [gr_last]; exact Hu.out.base HZ2.out) Hfr.out hown' hgrow
            have Hput := Lib.hid hput
            have Hb5 := Lib.hid ((Hbr2.out.trans (Hnew.out.mono HZ2.out)).trans hput.2)
            clear hput hown' hgrow
            go_wp2
            go_roundw
            case rel => exact ⟨t + 1, by omega, by omega, by go_num, by rw [Hcs.out, Hsn2.out, cellM_snoc]; exact ⟨_, by rw [List.length_append]; exact Hput.out.1⟩, Hb5.out⟩
            case measure => simp [intOf]; omega
          · have hb : (x == v) = false := by simpa using hw
            rw [if_neg hw] at Hsn2
            clear hw
            go_wp2
            go_roundw
            case rel => exact ⟨t + 1, by omega, by omega, by go_num, by rw [Hcs.out, Hsn2.out]; exact ⟨_, Hown2.out⟩, Hbr2.out⟩
            case measure => simp [intOf]; omega
        · obtain rfl : t = n := by omega
          have Hown := Lib.hid hown
          have Hbr := Lib.hid hbr
          clear hown hbr
          go_wp2
          go_roundw
          case rel => exact ⟨s + 1, by omega, by omega, by go_num, by rw [allCells_succ _ s hs1]; exact Hown.out, Hbr.out⟩
          case measure => simp [intOf]; omega
    · obtain rfl : s = n := by omega
      have Hown := Lib.hid hown
      have Hbr := Lib.hid hbr
      clear hown hbr
      go_wp2
      go_ret
      exact ⟨_, rfl, Hown.out, Hbr.out⟩
end Go.Proofs.Ytogkmfndfedfiaa

namespace Go.Proofs.Ytogkmfndfedfiaa
open Go.RowKit

theorem fewF {n s t : Nat} {c : Nat → Nat → Int} {col : Int} (hn : n ≤ 6) (hs : s ≤ n) (ht : t ≤ n) : (fcS c col (allCells n s ++ rowCells s t)).length ≤ 42 := Nat.le_trans (fcS_len _ _ _) (fewCells hn hs ht)

set_option maxRecDepth 100000 in
set_option maxHeartbeats 3200000 in
theorem specFlippedCells_any (ao : Option Addr) (cp : Nat) (m : List (List Int)) (col : Int) (w : World) (hs : Small m) (hm : MatAt w ao m) (hcol : -9223372036854775808 ≤ col ∧ col ≤ 9223372036854775807) :
    Calls Try.prog 45 #[.slice ao m.length cp, .int .i64 col] w fun e w' => MRes (fcOk m col) (cellM (fcL m col)) w' w.heap.size e ∧ Below w.heap.size w w' := by
  obtain ⟨j0, hj, hy0, hy1, hy2⟩ := info_parts Try.info_ints
  have Hs := Lib.hid hs
  have Hm := Lib.hid hm
  clear hs hm hcol
  go_enter Try.func45, Try.ntmps45
  go_wp2_with fail
  refine (sgGood_any ao cp m w Hs.out Hm.out).mono ?_
  rintro e w1 ⟨ha, hb⟩
  have Hb := Lib.hid hb
  have HB := Lib.hid hb.size
  clear hb
  by_cases hg : good m
  · have Hg := Lib.hid hg
    have hn := hg.1.2.1
    have hn1 := hg.1.1
    clear hg
    obtain rfl := ha.is Hg.out
    clear ha
    go_wp2_with fail
    refine (l1In_any col 0 1 w1).mono ?_
    rintro e w1' ⟨ha, rfl⟩
    by_cases hc : 0 ≤ col ∧ col ≤ 1
    · have Hc := Lib.hid hc
      obtain rfl := ha.is hc
      clear ha hc
      go_wp2_with fail
      refine (heOf_any ao cp m w1 Hg.out (Hm.out.below Hb.out)).mono ?_
      rintro e w2 ⟨v, rfl, hv, hb2⟩
      obtain ⟨a1, c1, vs, rfl, hvo, hc1, hc2⟩ := hv.open
      rw [ht_len] at hvo hc1 ⊢
      obtain ⟨N, hN⟩ : ∃ N, N = m.length + 1 := ⟨_, rfl⟩
      rw [← hN] at hvo hc1 ⊢
      have HN := Lib.hid hN
      have Hvo := Lib.hid (show OwnP w2 w.heap.size (.slice a1 N c1) N (htT m.length (S2 m)) N vs from hvo.base HB.out)
      have Hb2 := Lib.hid (Hb.out.trans (hb2.mono HB.out))
      have HB2 := Lib.hid Hb2.out.size
      have Hcr := Lib.hid (good_crn Hg.out)
      obtain ⟨n, hnn⟩ : ∃ n, n = m.length := ⟨_, rfl⟩
      rw [← hnn] at hn hn1 Hcr HN Hvo ⊢
      have Hnn := Lib.hid hnn
      clear hN hvo hb2 hv hnn
      go_wp2
      go_loopw [7, 8] (fun out i wr => ∃ s : Nat, 1 ≤ s ∧ s ≤ n ∧ i = .int .i64 s ∧ OwnM wr w2.heap.size out (cellM (fcS (S2 m) col (allCells n s))) ∧ Below w2.heap.size w2 wr) (fun _ i _ => n - (intOf i).toNat)
      case atStart => exact ⟨1, by omega, hn1, rfl, by rw [allCells_one]; exact OwnM.nil _ _, Below.refl _ _⟩
      case round =>
        obtain ⟨s, hs1, hs, rfl, hown, hbr⟩ := hrel
        by_cases hlt : s < n
        · have Hown := Lib.hid hown
          have Hbr := Lib.hid hbr
          clear hown hbr
          go_wp2
          go_loopw [7, 9] (fun out j wr => ∃ t : Nat, 1 ≤ t ∧ t ≤ n ∧ j = .int .i64 t ∧ OwnM wr w2.heap.size out (cellM (fcS (S2 m) col (allCells n s ++ rowCells s t))) ∧ Below w2.heap.size w2 wr) (fun _ j _ => n - (intOf j).toNat)
          case atStart => exact ⟨1, by omega, hn1, by go_num, by rw [rowCells_one, List.append_nil]; exact Hown.out, Hbr.out⟩
          case round =>
            obtain ⟨t, ht1, ht, rfl, hown, hbr⟩ := hrel
            by_cases htl : t < n
            · obtain ⟨us, hown⟩ := hown
              have hsn := fcS_snoc (S2 m) col (allCells n s ++ rowCells s t) (s, t)
              rw [← mod2, List.append_assoc, ← rowCells_succ s t ht1] at hsn
              have hpl : (fcS (S2 m) col (allCells n s ++ rowCells s t)).length ≤ 42 := fewF hn hs ht
              obtain ⟨ps, hps⟩ : ∃ ps, ps = fcS (S2 m) col (allCells n s ++ rowCells s t) := ⟨_, rfl⟩
              rw [← hps] at hown hsn hpl
              have Hsn := Lib.hid hsn
              have Hpl := Lib.hid (show (cellM ps).length ≤ 42 by rw [cellM_len]; exact hpl)
              have Hown := Lib.hid hown
              have Hbr := Lib.hid hbr
              have HZr := Lib.hid hbr.size
              have hinn : inn n (s, t) := ⟨hs1, hlt, ht1, htl⟩
              have hcall := fun (wq : World) (h : OwnP wq w.heap.size (.slice a1 N c1) N (htT n (S2 m)) N vs) => heWay_htT (by rw [HN.out]) hn Hcr.out hinn h
              obtain ⟨x, hx⟩ : ∃ x, x = way (hOf (S2 m)) s t := ⟨_, rfl⟩
              rw [← hx] at hcall
              have hcan : canB (S2 m) (s, t) = (x != 0) := by
                unfold canB
                show (!(way (hOf (S2 m)) s t == 0)) = (x != 0)
                rw [← hx]
                rfl
              have Hcan := Lib.hid hcan
              have Hvr := Lib.hid (show OwnP wr w.heap.size (.slice a1 N c1) N (htT n (S2 m)) N vs from Hvo.out.below hbr)
              have Hcall := Lib.hid (hcall wr Hvr.out)
              clear hsn hpl hps hown hbr hinn hcall hx hcan
              by_cases hw : ((s : Int) + t) % 2 = col
              · have hb : (((s : Int) + t) % 2 == col) = true := by simpa using hw
                have Hw := Lib.hid hw
                clear hw
                go_wp2_with fail
                refine Hcall.out.mono ?_
                rintro e w3 ⟨rfl, hb3⟩
                have Hown3 := Lib.hid (Hown.out.below hb3)
                have Hbr3 := Lib.hid (Hbr.out.trans (hb3.mono HZr.out))
                have HZ3 := Lib.hid Hbr3.out.size
                clear hb3 Hown Hcall
                by_cases hx0 : x = 0
                · have hbx : (x != 0) = false := by simp [hx0]
                  rw [if_neg (fun h => by rw [Hcan.out, hbx] at h; cases h.2)] at Hsn
                  clear hx0
                  go_wp2
                  go_roundw
                  case rel => exact ⟨t + 1, by omega, by omega, by go_num, by rw [Hsn.out]; exact ⟨_, Hown3.out⟩, Hbr3.out⟩
                  case measure => simp [intOf]; omega
                · have hbx : (x != 0) = true := by simp [hx0]
                  rw [if_pos ⟨Hw.out, by rw [Hcan.out, hbx]⟩] at Hsn
                  clear hx0
                  have Hnew := Lib.hid ((Below.refl w3.heap.size w3).alloc (Nat.le_refl _) (.cells #[.int .i64 (s : Int), .int .i64 (t : Int)] 3))
                  have Hown4 := Lib.hid ((Hown3.out.below Hnew.out).more (r := [(s : Int), (t : Int)]))
                  have hu : OwnI (w3.alloc (.cells #[.int .i64 (s : Int), .int .i64 (t : Int)] 3)) w3.heap.size (.slice (some ⟨w3.heap.size, 0, none⟩) 2 2) [(s : Int), (t : Int)] := World.ownsRow_lit w3 #[.int .i64 (s : Int), .int .i64 (t : Int)] 2 (Nat.le_refl _) (by unfold maxLen; omega) rfl
                  have Hu := Lib.hid hu
                  have Hfr := Lib.hid (Hown3.out.fresh hu (Nat.le_refl _))
                  clear hu
                  go_wp2_with (at_builtin; refine wpList_append_own _ rfl _ _ 22 rfl w2.heap.size 41 j0 (.slice none 0 0) 1 24 Try.underlying22 hj hy0 hy1 hy2 rfl (by decide) _ _ _ rfl (World.ownsRow.alloc Hown4.out.top _) ⟨w3.heap.size + 1, 0, none⟩ 1 1 [.slice (some ⟨w3.heap.size, 0, none⟩) 2 2] rfl rfl ?d1 ?d2 ?d3 ?d4 ?d5 ?_)
                  case d1 =>
                    have e : (w3.alloc (.cells #[.int .i64 (s : Int), .int .i64 (t : Int)] 3)).heap.size = w3.heap.size + 1 := by simp
                    rw [← e]
                    exact cell_one_new _ _ _
                  case d2 => intro u hu; simp at hu; subst hu; rfl
                  case d3 => have := Hpl.out; unfold maxLen; omega
                  case d4 => have := Hpl.out; omega
                  case d5 => have := HZ3.out; simp; omega
                  intro v' w5 hown' hgrow _
                  have hput := Hown4.out.snoc (Nat.le_trans HZ3.out Hnew.out.size) (by rw [gr_last]; exact Hu.out.base HZ3.out) Hfr.out hown' hgrow
                  have Hput := Lib.hid hput
                  have Hb5 := Lib.hid ((Hbr3.out.trans (Hnew.out.mono HZ3.out)).trans hput.2)
                  clear hput hown' hgrow
                  go_wp2
                  go_roundw
                  case rel => exact ⟨t + 1, by omega, by omega, by go_num, by rw [Hsn.out, cellM_snoc]; exact ⟨_, by rw [List.length_append]; exact Hput.out.1⟩, Hb5.out⟩
                  case measure => simp [intOf]; omega
              · have hb : (((s : Int) + t) % 2 == col) = false := by simpa using hw
                rw [if_neg (fun h => hw h.1)] at Hsn
                clear hw
                go_wp2
                go_roundw
                case rel => exact ⟨t + 1, by omega, by omega, by go_num, by rw [Hsn.out]; exact ⟨_, Hown.out⟩, Hbr.out⟩
                case measure => simp [intOf]; omega
            · obtain rfl : t = n := by omega
              have Hown := Lib.hid hown
              have Hbr := Lib.hid hbr
              clear hown hbr
              go_wp2
              go_roundw
              case rel => exact ⟨s + 1, by omega, by omega, by go_num, by rw [allCells_succ _ s hs1]; exact Hown.out, Hbr.out⟩
              case measure => simp [intOf]; omega
        · obtain rfl : s = n := by omega
          have Hown := Lib.hid hown
          have Hbr := Lib.hid hbr
          clear hown hbr
          go_wp2
          go_ret2
          exact ⟨MRes.yes ⟨Hg.out, Hc.out⟩ (by unfold fcL; rw [← Hnn.out]; exact Hown.out.base HB2.out), Hb2.out.trans (Hbr.out.mono HB2.out)⟩
    · have Hc := Lib.hid hc
      obtain rfl := ha.isnt hc
      clear ha hc
      go_wp2
      go_ret2
      exact ⟨MRes.no (fun h => Hc.out h.2), Hb.out⟩
  · have Hg := Lib.hid hg
    clear hg
    obtain rfl := ha.isnt Hg.out
    clear ha
    go_wp2
    go_ret2
    exact ⟨MRes.no (fun h => Hg.out h.1), Hb.out⟩
end Go.Proofs.Ytogkmfndfedfiaa

