/- Parts of proofs: contracts and plain facts. Conditions: as each says. -/
import Derived.Test.YtogkmfndfedfiaaK43
namespace Go.Proofs.Ytogkmfndfedfiaa
open Go.RowKit

def AllOk (n : Nat) (cells : List (List Int)) (t : Nat) : Prop := ∀ k, k < t → okCell n (gr cells k)
def tcOk (m cells : List (List Int)) : Prop := good m ∧ cells.length ≤ 200 ∧ AllOk m.length cells cells.length
def pairOf (r : List Int) : Nat × Nat := ((gi r 0).toNat, (gi r 1).toNat)
def tcM (m cells : List (List Int)) : List (List Int) := gyM m (cells.map pairOf)
theorem okCell_inn {n : Nat} {r : List Int} (h : okCell n r) : inn n (pairOf r) := by
  obtain ⟨_, h1, h2, h3, h4⟩ := h
  unfold inn pairOf
  simp only
  omega
theorem okCell_pair {n : Nat} {r : List Int} (h : okCell n r) : r = [((pairOf r).1 : Int), ((pairOf r).2 : Int)] := by
  obtain ⟨hl, h1, h2, h3, h4⟩ := h
  match r, hl with
  | [a, b], _ =>
    simp only [pairOf, gi, List.getD_cons_zero, List.getD_cons_succ] at *
    rw [Int.toNat_of_nonneg (by omega), Int.toNat_of_nonneg (by omega)]
theorem AllOk.snoc {n : Nat} {cells : List (List Int)} {t : Nat} (h : AllOk n cells t) (k : okCell n (gr cells t)) : AllOk n cells (t + 1) := fun j hj => by
  by_cases e : j = t
  · subst e; exact k
  · exact h j (by omega)
theorem AllOk.inn {n : Nat} {cells : List (List Int)} {t : Nat} (h : AllOk n cells t) : ∀ p ∈ (cells.take t).map pairOf, inn n p := fun p hp => by
  obtain ⟨r, hr, rfl⟩ := List.mem_map.1 hp
  obtain ⟨j, hj, e⟩ := List.mem_iff_getElem.1 hr
  rw [List.length_take] at hj
  rw [List.getElem_take] at e
  have := h j (by omega)
  rw [gr_lt (by omega), e] at this
  exact okCell_inn this
theorem pairs_snoc {cells : List (List Int)} {t : Nat} (h : t < cells.length) : (cells.take (t + 1)).map pairOf = (cells.take t).map pairOf ++ [pairOf (gr cells t)] := by
  rw [take_snoc_gr h, List.map_append]
  rfl

set_option maxRecDepth 100000 in
set_option maxHeartbeats 3200000 in
theorem specToggleCells_any (ao : Option Addr) (cp : Nat) (m : List (List Int)) (bo : Option Addr) (d : Nat) (cells : List (List Int)) (w : World) (hs : Small m) (hm : MatAt w ao m) (hs2 : Small cells) (hk : MatAt w bo cells) :
    Calls Try.prog 53 #[.slice ao m.length cp, .slice bo cells.length d] w fun e w' => MRes (tcOk m cells) (tcM m cells) w' w.heap.size e ∧ Below w.heap.size w w' := by
  have hpl := hs2.1
  have Hs := Lib.hid hs
  have Hm := Lib.hid hm
  have Hk := Lib.hid hk
  clear hs hm hk hs2
  go_enter Try.func53, Try.ntmps53
  go_wp2_with fail
  refine (sgGood_any ao cp m w Hs.out Hm.out).mono ?_
  rintro e w1 ⟨ha, hb⟩
  have Hb := Lib.hid hb
  have HB := Lib.hid hb.size
  clear hb
  by_cases hg : good m
  · have Hg := Lib.hid hg
    have hn := hg.1.2.1
    have hn1 := hg.1.1
    clear hg
    obtain rfl := ha.is Hg.out
    clear ha
    by_cases hl : 200 < cells.length
    · have hlt : (200 : Int) < (cells.length : Int) := by omega
      have Hl := Lib.hid hl
      clear hl
      go_wp2
      go_ret2
      exact ⟨MRes.no (fun h => by have := h.2.1; have := Hl.out; omega), Hb.out⟩
    · have hlt : ¬ (200 : Int) < (cells.length : Int) := by omega
      have Hl := Lib.hid hl
      clear hl
      go_wp2
      clear hlt
      go_loopw [21] (fun i wr => ∃ t : Nat, t ≤ cells.length ∧ i = .int .i64 t ∧ AllOk m.length cells t ∧ Below w.heap.size w wr) (fun i _ => cells.length - (intOf i).toNat)
      case atStart => exact ⟨0, Nat.zero_le _, rfl, fun k hk => absurd hk (by omega), Hb.out⟩
      case round =>
        obtain ⟨t, ht, rfl, hall, hbr⟩ := hrel
        have Hall := Lib.hid hall
        have Hbr := Lib.hid hbr
        have HZr := Lib.hid hbr.size
        clear hall
        by_cases hlt : t < cells.length
        · obtain ⟨b, o, r, rc, rfl, hrow, hr, _, _⟩ := (Hk.out.below hbr) t hlt
          obtain ⟨row, hrw⟩ : ∃ row, row = gr cells t := ⟨_, rfl⟩
          rw [← hrw] at hrow hr
          have Hrw := Lib.hid hrw
          have Hr := Lib.hid hr
          clear hrw hr hbr
          by_cases hl2 : row.length = 2
          · obtain ⟨x, y, rfl⟩ : ∃ x y, row = [x, y] := ⟨_, _, two_of_len' hl2⟩
            simp only [List.length_cons, List.length_nil, Nat.zero_add, Nat.reduceAdd] at hrow
            obtain ⟨ok, hok⟩ : ∃ ok, ok = okB m.length x y := ⟨_, rfl⟩
            have Hok := Lib.hid hok
            obtain ⟨b2, o2, rfl, hcells⟩ := two_at Hr.out
            obtain ⟨f0, f1⟩ := hcells wr (Below.refl _ _)
            have hcall := fun w' => heCell_any m.length x y w' hn1 hn
            rw [← hok] at hcall
            have Hcall := Lib.hid hcall
            clear hl2 hok hcall hcells
            go_upto_region 6 with fail
            go_quiet ((go_at_call 57; exact Calls.quiet_of_same (Hcall.out _)))
            generalize hW : World.drewN wr _ = wq
            have hbq : Below wr.heap.size wr wq := by rw [← hW]; exact below_drewN (Below.refl _ _) _
            have Hbq := Lib.hid (Hbr.out.trans (hbq.mono HZr.out))
            clear hW hbq hrow f0 f1
            cases ok
            · go_wp2
              go_ret2
              exact ⟨MRes.no (fun h => by
                have h2 := h.2.2 t hlt
                rw [← Hrw.out, okCell_okB rfl] at h2
                have h3 : okB m.length x y = true := h2
                rw [← Hok.out] at h3
                cases h3), Hbq.out⟩
            · have Hnext := Lib.hid (Hall.out.snoc (by rw [← Hrw.out, okCell_okB rfl]; exact Hok.out.symm))
              go_wp2
              go_roundw
              case rel => exact ⟨t + 1, by omega, by go_num, Hnext.out, Hbq.out⟩
              case measure => simp [intOf]; omega
          · have Hl2 := Lib.hid hl2
            have hb2 : ((row.length : Int) != 2) = true := by simp; omega
            clear hl2
            go_upto_region 6 with fail
            go_quiet (fail)
            generalize hW : World.drewN wr _ = wq
            have hbq : Below wr.heap.size wr wq := by rw [← hW]; exact below_drewN (Below.refl _ _) _
            have Hbq := Lib.hid (Hbr.out.trans (hbq.mono HZr.out))
            clear hW hbq
            go_wp2
            go_ret2
            exact ⟨MRes.no (fun h => Hl2.out (by rw [Hrw.out]; exact (h.2.2 t hlt).1)), Hbq.out⟩
        · obtain rfl : t = cells.length := by omega
          have Hok := Lib.hid (show tcOk m cells from ⟨Hg.out, by have := Hl.out; omega, Hall.out⟩)
          clear hbr
          go_wp2_with fail
          refine (heOf_any ao cp m wr Hg.out (Hm.out.below Hbr.out)).mono ?_
          rintro e w2 ⟨v, rfl, hv, hb2⟩
          obtain ⟨a1, c1, vs, rfl, hvo, hc1, hc2⟩ := hv.open
          rw [ht_len] at hvo hc1 ⊢
          obtain ⟨N, hN⟩ : ∃ N, N = m.length + 1 := ⟨_, rfl⟩
          rw [← hN] at hvo hc1 ⊢
          have HN := Lib.hid hN
          have Hvo := Lib.hid (show OwnP w2 w.heap.size (.slice a1 N c1) N (htT m.length (S2 m)) N vs from hvo.base HZr.out)
          have Hb2 := Lib.hid (Hbr.out.trans (hb2.mono HZr.out))
          have Hcr := Lib.hid (good_crn Hg.out)
          clear hN hvo hb2 hv
          go_wp2
          go_loopw [8, 45] (fun h i wr => ∃ t : Nat, t ≤ cells.length ∧ i = .int .i64 t ∧ h = .slice a1 N c1 ∧ OwnP wr w.heap.size (.slice a1 N c1) N (htT m.length (togL (S2 m) ((cells.take t).map pairOf))) N vs ∧ Below w.heap.size w wr) (fun _ i _ => cells.length - (intOf i).toNat)
          case atStart => exact ⟨0, Nat.zero_le _, rfl, rfl, Hvo.out, Hb2.out⟩
          case round =>
            obtain ⟨t, ht, rfl, rfl, hown, hbr⟩ := hrel
            have Hown := Lib.hid hown
            have Hbr := Lib.hid hbr
            have HZr := Lib.hid hbr.size
            clear hown Hvo Hb2
            by_cases hlt : t < cells.length
            · obtain ⟨b, o, r, rc, rfl, hrow, hr, _, _⟩ := (Hk.out.below hbr) t hlt
              have hokc := Hok.out.2.2 t hlt
              have hpair := okCell_pair hokc
              have hinn := okCell_inn hokc
              have hsn := pairs_snoc hlt
              obtain ⟨p, hpp⟩ : ∃ p, p = pairOf (gr cells t) := ⟨_, rfl⟩
              rw [← hpp] at hpair hinn hsn
              rw [hpair] at hrow hr
              simp only [List.length_cons, List.length_nil, Nat.zero_add, Nat.reduceAdd] at hrow
              obtain ⟨i, hi⟩ : ∃ i, i = p.1 := ⟨_, rfl⟩
              obtain ⟨j, hj⟩ : ∃ j, j = p.2 := ⟨_, rfl⟩
              rw [← hi, ← hj] at hr
              obtain ⟨b2, o2, rfl, hcells⟩ := two_at hr
              obtain ⟨f0, f1⟩ := hcells wr (Below.refl _ _)
              have Hsn := Lib.hid hsn
              have Hcr2 := Lib.hid (Hcr.out.togL ((cells.take t).map pairOf) ((fun p hp => AllOk.inn (t := cells.length) Hok.out.2.2 p (by
                rw [List.take_length]
                obtain ⟨r, hr, e⟩ := List.mem_map.1 hp
                exact List.mem_map.2 ⟨r, List.mem_of_mem_take hr, e⟩)) ))
              have hcall := fun (wq : World) (hq : Below wr.heap.size wr wq) => gyToggle_any m.length N w.heap.size c1 i j a1 vs (togL (S2 m) ((cells.take t).map pairOf)) wq HN.out hn Hcr2.out (by rw [hi, hj]; exact hinn) (Nat.le_trans HZr.out hq.size) (Hown.out.below hq)
              have hfl : flipC (togL (S2 m) ((cells.take t).map pairOf)) i j = togL (S2 m) ((cells.take (t + 1)).map pairOf) := by rw [Hsn.out, togL_snoc, hi, hj]
              rw [hfl] at hcall
              have Hcall := Lib.hid hcall
              clear hokc hpair hinn hsn hpp hi hj hr hcells hcall hfl hbr
              go_upto_region 13 with fail
              go_region_with (go_at_call 100; refine (Hcall.out _ ?_).mono ?_; exact below_drewN (Below.refl _ _) 1; rintro e w3 ⟨rfl, ho, hb3⟩; have Ho := Lib.hid ho; have Hb3 := Lib.hid (Hbr.out.trans ((below_drewN (Below.refl w.heap.size wr) 1).trans hb3)); clear ho hb3)
              all_goals
                go_wp2
                go_roundw
                case rel => exact ⟨t + 1, by omega, by go_num, rfl, Ho.out, Hb3.out⟩
                case measure => simp [intOf]; omega
            · obtain rfl : t = cells.length := by omega
              have Hcr2 := Lib.hid (Hcr.out.togL ((cells.take cells.length).map pairOf) (AllOk.inn Hok.out.2.2))
              have hcall := heFrom_any a1 c1 m.length (togL (S2 m) ((cells.take cells.length).map pairOf)) wr Hcr2.out hn1 hn (Hown.out.at (by rw [htT_len, HN.out]))
              rw [← HN.out, List.take_length] at hcall
              have Hcall := Lib.hid hcall
              clear hcall hbr
              go_wp2_with fail
              refine Hcall.out.mono ?_
              rintro e w4 ⟨v, rfl, hv, hb4⟩
              have Hv := Lib.hid (hv.base HZr.out)
              have Hb4 := Lib.hid (Hbr.out.trans (hb4.mono HZr.out))
              clear hv hb4
              go_wp2
              go_ret2
              exact ⟨MRes.yes Hok.out Hv.out, Hb4.out⟩
  · have Hg := Lib.hid hg
    clear hg
    obtain rfl := ha.isnt Hg.out
    clear ha
    go_wp2
    go_ret2
    exact ⟨MRes.no (fun h => Hg.out h.1), Hb.out⟩
end Go.Proofs.Ytogkmfndfedfiaa

