/- Parts of proofs: contracts and plain facts. Conditions: as each says. -/
import Derived.Test.YtogkmfndfedfiaaK23
import Derived.Deep.RegionWith
import Derived.Deep.RegionHeld3
namespace Go.Proofs.Ytogkmfndfedfiaa
open Go.RowKit

def AllOk (n : Nat) (cells : List (List Int)) (t : Nat) : Prop := ∀ k, k < t → okCell n (gr cells k)
def tcOk (m cells : List (List Int)) : Prop := good m ∧ cells.length ≤ 200 ∧ AllOk m.length cells cells.length
def pairOf (r : List Int) : Nat × Nat := ((gi r 0).toNat, (gi r 1).toNat)
def tcM (m cells : List (List Int)) : List (List Int) := gyM m (cells.map pairOf)
theorem okCell_inn {n : Nat} {r : List Int} (h : okCell n r) : inn n (pairOf r) := by
  obtain ⟨_, h1, h2, h3, h4⟩ := h
  unfold inn pairOf
  simp only
  omega
theorem okCell_pair {n : Nat} {r : List Int} (h : okCell n r) : r = [((pairOf r).1 : Int), ((pairOf r).2 : Int)] := by
  obtain ⟨hl, h1, h2, h3, h4⟩ := h
  match r, hl with
  | [a, b], _ =>
    simp only [pairOf, gi, List.getD_cons_zero, List.getD_cons_succ] at *
    rw [Int.toNat_of_nonneg (by omega), Int.toNat_of_nonneg (by omega)]
theorem AllOk.snoc {n : Nat} {cells : List (List Int)} {t : Nat} (h : AllOk n cells t) (k : okCell n (gr cells t)) : AllOk n cells (t + 1) := fun j hj => by
  by_cases e : j = t
  · subst e; exact k
  · exact h j (by omega)
theorem AllOk.inn {n : Nat} {cells : List (List Int)} {t : Nat} (h : AllOk n cells t) : ∀ p ∈ (cells.take t).map pairOf, inn n p := fun p hp => by
  obtain ⟨r, hr, rfl⟩ := List.mem_map.1 hp
  obtain ⟨j, hj, e⟩ := List.mem_iff_getElem.1 hr
  rw [List.length_take] at hj
  rw [List.getElem_take] at e
  have := h j (by omega)
  rw [gr_lt (by omega), e] at this
  exact okCell_inn this
theorem pairs_snoc {cells : List (List Int)} {t : Nat} (h : t < cells.length) : (cells.take (t + 1)).map pairOf = (cells.take t).map pairOf ++ [pairOf (gr cells t)] := by
  rw [take_snoc_gr h, List.map_append]
  rfl

set_option maxRecDepth 100000 in
set_option maxHeartbeats 3200000 in
theorem specToggleCells_any (ao : Option Addr) (cp : Nat) (m : List (List Int)) (bo : Option Addr) (d : Nat) (cells : List (List Int)) (w : World) (hs : Small m) (hm : MatAt w ao m) (hs2 : Small cells) (hk : MatAt w bo cells) :
    Calls Try.prog 53 #[.slice ao m.length cp, .slice bo cells.length d] w fun e w' => MRes (tcOk m cells) (tcM m cells) w' w.heap.size e ∧ Below w.heap.size w w' := by
  have hpl := hs2.1
  have Hs := Lib.hid hs
  have Hm := Lib.hid hm
  have Hk := Lib.hid hk
  clear hs hm hk hs2
  go_enter Try.func53, Try.ntmps53
  go_wp2_with fail
  refine (sgGood_any ao cp m w Hs.out Hm.out).mono ?_
  rintro e w1 ⟨ha, hb⟩
  have Hb := Lib.hid hb
  have HB := Lib.hid hb.size
  clear hb
  by_cases hg : good m
  · have Hg := Lib.hid hg
    have hn := hg.1.2.1
    have hn1 := hg.1.1
    clear hg
    obtain rfl := ha.is Hg.out
    clear ha
    by_cases hl : 200 < cells.length
    · have hlt : (200 : Int) < (cells.length : Int) := by omega
      have Hl := Lib.hid hl
      clear hl
      go_wp2
      go_ret2
      exact ⟨MRes.no (fun h => by have := h.2.1; have := Hl.out; omega), Hb.out⟩
    · have hlt : ¬ (200 : Int) < (cells.length : Int) := by omega
      have Hl := Lib.hid hl
      clear hl
      go_wp2
      clear hlt
      go_loopw [21] (fun i wr => ∃ t : Nat, t ≤ cells.length ∧ i = .int .i64 t ∧ AllOk m.length cells t ∧ Below w.heap.size w wr) (fun i _ => cells.length - (intOf i).toNat)
      case atStart => exact ⟨0, Nat.zero_le _, rfl, fun k hk => absurd hk (by omega), Hb.out⟩
      case round =>
        obtain ⟨t, ht, rfl, hall, hbr⟩ := hrel
        have Hall := Lib.hid hall
        have Hbr := Lib.hid hbr
        have HZr := Lib.hid hbr.size
        clear hall
        by_cases hlt : t < cells.length
        · obtain ⟨b, o, r, rc, rfl, hrow, hr, _, _⟩ := (Hk.out.below hbr) t hlt
          obtain ⟨row, hrw⟩ : ∃ row, row = gr cells t := ⟨_, rfl⟩
          rw [← hrw] at hrow hr
          have Hrw := Lib.hid hrw
          have Hr := Lib.hid hr
          clear hrw hr hbr
          by_cases hl2 : row.length = 2
          · obtain ⟨x, y, rfl⟩ : ∃ x y, row = [x, y] := ⟨_, _, two_of_len' hl2⟩
            simp only [List.length_cons, List.length_nil, Nat.zero_add, Nat.reduceAdd] at hrow
            obtain ⟨ok, hok⟩ : ∃ ok, ok = okB m.length x y := ⟨_, rfl⟩
            have Hok := Lib.hid hok
            obtain ⟨b2, o2, rfl, hcells⟩ := two_at Hr.out
            obtain ⟨f0, f1⟩ := hcells wr (Below.refl _ _)
            have hcall := fun w' => heCell_any m.length x y w' hn1 hn
            rw [← hok] at hcall
            have Hcall := Lib.hid hcall
            clear hl2 hok hcall hcells
            go_upto_region 6 with fail
            go_quiet ((go_at_call 57; exact Calls.quiet_of_same (Hcall.out _)))
            generalize hW : World.drewN wr _ = wq
            have hbq : Below wr.heap.size wr wq := by rw [← hW]; exact below_drewN (Below.refl _ _) _
            have Hbq := Lib.hid (Hbr.out.trans (hbq.mono HZr.out))
            clear hW hbq hrow f0 f1
            cases ok
            · go_wp2
              go_ret2
              exact ⟨MRes.no (fun h => by
                have h2 := h.2.2 t hlt
                rw [← Hrw.out, okCell_okB rfl] at h2
                have h3 : okB m.length x y = true := h2
                rw [← Hok.out] at h3
                cases h3), Hbq.out⟩
            · have Hnext := Lib.hid (Hall.out.snoc (by rw [← Hrw.out, okCell_okB rfl]; exact Hok.out.symm))
              go_wp2
              go_roundw
              case rel => exact ⟨t + 1, by omega, by go_num, Hnext.out, Hbq.out⟩
              case measure => simp [intOf]; omega
          · have Hl2 := Lib.hid hl2
            have hb2 : ((row.length : Int) != 2) = true := by simp; omega
            clear hl2
            go_upto_region 6 with fail
            go_quiet (fail)
            generalize hW : World.drewN wr _ = wq
            have hbq : Below wr.heap.size wr wq := by rw [← hW]; exact below_drewN (Below.refl _ _) _
            have Hbq := Lib.hid (Hbr.out.trans (hbq.mono HZr.out))
            clear hW hbq
            go_wp2
            go_ret2
            exact ⟨MRes.no (fun h => Hl2.out (by rw [Hrw.out]; exact (h.2.2 t hlt).1)), Hbq.out⟩
        · obtain rfl : t = cells.length := by omega
          have Hok := Lib.hid (show tcOk m cells from ⟨Hg.out, by have := Hl.out; omega, Hall.out⟩)
          clear hbr
          go_wp2_with fail
          refine (heOf_any ao cp m wr Hg.out (Hm.out.below Hbr.out)).mono ?_
          rintro e w2 ⟨v, rfl, hv, hb2⟩
          obtain ⟨a1, c1, vs, rfl, hvo, hc1, hc2⟩ := hv.open
          rw [ht_len] at hvo hc1 ⊢
          obtain ⟨N, hN⟩ : ∃ N, N = m.length + 1 := ⟨_, rfl⟩
          rw [← hN] at hvo hc1 ⊢
          have HN := Lib.hid hN
          have Hvo := Lib.hid (show OwnP w2 w.heap.size (.slice a1 N c1) N (htT m.length (S2 m)) N vs from hvo.base HZr.out)
          have Hb2 := Lib.hid (Hbr.out.trans (hb2.mono HZr.out))
          have Hcr := Lib.hid (good_crn Hg.out)
          clear hN hvo hb2 hv
          go_wp2
          go_loopw [8, 45] (fun h i wr => ∃ t : Nat, t ≤ cells.length ∧ i = .int .i64 t ∧ h = .slice a1 N c1 ∧ OwnP wr w.heap.size (.slice a1 N c1) N (htT m.length (togL (S2 m) ((cells.take t).map pairOf))) N vs ∧ Below w.heap.size w wr) (fun _ i _ => cells.length - (intOf i).toNat)
          case atStart => exact ⟨0, Nat.zero_le _, rfl, rfl, Hvo.out, Hb2.out⟩
          case round =>
            obtain ⟨t, ht, rfl, rfl, hown, hbr⟩ := hrel
            have Hown := Lib.hid hown
            have Hbr := Lib.hid hbr
            have HZr := Lib.hid hbr.size
            clear hown Hvo Hb2
            by_cases hlt : t < cells.length
            · obtain ⟨b, o, r, rc, rfl, hrow, hr, _, _⟩ := (Hk.out.below hbr) t hlt
              have hokc := Hok.out.2.2 t hlt
              have hpair := okCell_pair hokc
              have hinn := okCell_inn hokc
              have hsn := pairs_snoc hlt
              obtain ⟨p, hpp⟩ : ∃ p, p = pairOf (gr cells t) := ⟨_, rfl⟩
              rw [← hpp] at hpair hinn hsn
              rw [hpair] at hrow hr
              simp only [List.length_cons, List.length_nil, Nat.zero_add, Nat.reduceAdd] at hrow
              obtain ⟨i, hi⟩ : ∃ i, i = p.1 := ⟨_, rfl⟩
              obtain ⟨j, hj⟩ : ∃ j, j = p.2 := ⟨_, rfl⟩
              rw [← hi, ← hj] at hr
              obtain ⟨b2, o2, rfl, hcells⟩ := two_at hr
              obtain ⟨f0, f1⟩ := hcells wr (Below.refl _ _)
              have Hsn := Lib.hid hsn
              have Hcr2 := Lib.hid (Hcr.out.togL ((cells.take t).map pairOf) ((fun p hp => AllOk.inn (t := cells.length) Hok.out.2.2 p (by
                rw [List.take_length]
                obtain ⟨r, hr, e⟩ := List.mem_map.1 hp
                exact List.mem_map.2 ⟨r, List.mem_of_mem_take hr, e⟩)) ))
              have hcall := fun (wq : World) (hq : Below wr.heap.size wr wq) => gyToggle_any m.length N w.heap.size c1 i j a1 vs (togL (S2 m) ((cells.take t).map pairOf)) wq HN.out hn Hcr2.out (by rw [hi, hj]; exact hinn) (Nat.le_trans HZr.out hq.size) (Hown.out.below hq)
              have hfl : flipC (togL (S2 m) ((cells.take t).map pairOf)) i j = togL (S2 m) ((cells.take (t + 1)).map pairOf) := by rw [Hsn.out, togL_snoc, hi, hj]
              rw [hfl] at hcall
              have Hcall := Lib.hid hcall
              clear hokc hpair hinn hsn hpp hi hj hr hcells hcall hfl hbr
              go_upto_region 13 with fail
              go_region_with (go_at_call 100; refine (Hcall.out _ ?_).mono ?_; exact below_drewN (Below.refl _ _) 1; rintro e w3 ⟨rfl, ho, hb3⟩; have Ho := Lib.hid ho; have Hb3 := Lib.hid (Hbr.out.trans ((below_drewN (Below.refl w.heap.size wr) 1).trans hb3)); clear ho hb3)
              all_goals
                go_wp2
                go_roundw
                case rel => exact ⟨t + 1, by omega, by go_num, rfl, Ho.out, Hb3.out⟩
                case measure => simp [intOf]; omega
            · obtain rfl : t = cells.length := by omega
              have Hcr2 := Lib.hid (Hcr.out.togL ((cells.take cells.length).map pairOf) (AllOk.inn Hok.out.2.2))
              have hcall := heFrom_any a1 c1 m.length (togL (S2 m) ((cells.take cells.length).map pairOf)) wr Hcr2.out hn1 hn (Hown.out.at (by rw [htT_len, HN.out]))
              rw [← HN.out, List.take_length] at hcall
              have Hcall := Lib.hid hcall
              clear hcall hbr
              go_wp2_with fail
              refine Hcall.out.mono ?_
              rintro e w4 ⟨v, rfl, hv, hb4⟩
              have Hv := Lib.hid (hv.base HZr.out)
              have Hb4 := Lib.hid (Hbr.out.trans (hb4.mono HZr.out))
              clear hv hb4
              go_wp2
              go_ret2
              exact ⟨MRes.yes Hok.out Hv.out, Hb4.out⟩
  · have Hg := Lib.hid hg
    clear hg
    obtain rfl := ha.isnt Hg.out
    clear ha
    go_wp2
    go_ret2
    exact ⟨MRes.no (fun h => Hg.out h.1), Hb.out⟩
end Go.Proofs.Ytogkmfndfedfiaa

namespace Go.Proofs.Ytogkmfndfedfiaa
open Go.RowKit

theorem Try.load_clI {w : World} {g : Nat} {x y : Int} (h : CellI w g x y) : (loadVar 59 ⟨g, 0, none⟩).run Try.prog w = .ok (.agg (clI x y)) w :=
  run_loadVar_row w g _ _ _ _ _ h Try.underlying59 rfl (Try.size_clI x y)
theorem clI_one (x y : Int) : (clI x y).all (·.oneCell') = true := by simp [clI, Value.oneCell']
theorem CellI.setRow {w : World} {g : Nat} {x y : Int} (h : CellI w g x y) (x' y' : Int) : CellI (w.setRow g (clI x' y')) g x' y' := setRow_heap w g _ _ _ _ h

theorem CellI.set2 {w : World} {g : Nat} {a b : Int} (h : CellI w g a b) (x y : Int) : CellI ((w.setCell ⟨g, 0, none⟩ (.int .i64 x)).setCell ⟨g, 1, none⟩ (.int .i64 y)).drew g x y := by
  have h1 := heap_setCell_same w g 0 _ _ (.int .i64 x) h
  have h2 := heap_setCell_same _ g 1 _ _ (.int .i64 y) h1
  exact h2

set_option maxRecDepth 100000 in
set_option maxHeartbeats 1600000 in
theorem cellAt_bad (n : Nat) (f : Nat → Nat → Int) (ao : Option Addr) (k c : Nat) (w : World) (hk : k ≠ 2) :
    Calls Try.prog 72 #[.agg (tc n f), .slice ao k c] w fun e w' => e = .returned (.tuple #[.agg (clI 0 0), .bool false]) ∧ Below w.heap.size w w' := by
  have hb : ((k : Int) != 2) = true := by simp; omega
  clear hk
  go_enter Try.func72, Try.ntmps72
  go_upto_region 1 with (first | (refine wpList_boxT rfl 54 _ rfl _ rfl ?_))
  generalize hW : World.alloc (World.alloc w _) _ = w1
  have hC : CellI w1 (w.heap.size + 1) 0 0 := by rw [← hW]; exact CellI.top w _ _ _
  have hB : Below w.heap.size w w1 := by rw [← hW]; exact two_below w _ _
  clear hW
  have HC := Lib.hid hC
  have HB := Lib.hid hB
  clear hC hB
  go_wp2_with (refine wpList_storeG rfl 59 _ _ rfl (w.heap.size + 1) (clI 0 0) _ rfl rfl HC.out (Try.size_clI _ _) rfl (clI_one _ _) ?_)
  refine bodyPost_ret (v := .tuple #[.agg (clI 0 0), .bool false]) ?_ rfl ⟨rfl, below_setRowT HB.out (by omega) (clI 0 0)⟩
  exact results_cell_two (p := 4) (q := 5) rfl _ _ (w.heap.size + 1) _ rfl (Try.load_clI (HC.out.setRow 0 0))

set_option maxRecDepth 100000 in
set_option maxHeartbeats 1600000 in
theorem cellAt_two (n : Nat) (f : Nat → Nat → Int) (ao : Option Addr) (c : Nat) (x y : Int) (w : World) (hx : IntsAt w ao [x, y]) :
    Calls Try.prog 72 #[.agg (tc n f), .slice ao 2 c] w fun e w' => e = .returned (.tuple #[.agg (clI x y), .bool (okB n x y)]) ∧ Below w.heap.size w w' := by
  obtain ⟨b, o, rfl, hc0⟩ := hx 0 (by simp)
  obtain ⟨b', o', e', hc1⟩ := hx 1 (by simp)
  simp only [Option.some.injEq, Addr.mk.injEq, and_true] at e'
  obtain ⟨rfl, rfl⟩ := e'
  simp only [gi, List.getD_cons_zero, List.getD_cons_succ, Nat.add_zero] at hc0 hc1
  obtain ⟨ok, hok⟩ : ∃ ok, ok = okB n x y := ⟨_, rfl⟩
  rw [← hok]
  have Hok := Lib.hid hok
  clear hok hx
  have Hc := Lib.hid (show ∀ w', Below w.heap.size w w' → w'.cell? ⟨b, o, none⟩ = some (.int .i64 x) ∧ w'.cell? ⟨b, o + 1, none⟩ = some (.int .i64 y) from fun w' hb => ⟨cell_below hc0 hb, cell_below hc1 hb⟩)
  clear hc0 hc1
  go_enter Try.func72, Try.ntmps72
  go_upto_region 1 with (first | (refine wpList_boxT rfl 54 _ rfl _ rfl ?_))
  generalize hW : World.alloc (World.alloc w _) _ = w1
  have hT : TerrAt w1 w.heap.size n f := by rw [← hW]; exact two_bot w _ _ _
  have hC : CellI w1 (w.heap.size + 1) 0 0 := by rw [← hW]; exact CellI.top w _ _ _
  have hB : Below w.heap.size w w1 := by rw [← hW]; exact two_below w _ _
  have hz : w1.heap.size = w.heap.size + 2 := by rw [← hW]; simp
  clear hW
  obtain ⟨f0, f1⟩ := Hc.out w1 hB
  have HC := Lib.hid hC
  have HT := Lib.hid hT
  have HB := Lib.hid hB
  have HZ := Lib.hid hz
  clear hC hB hT hz
  go_upto_region 3 with fail
  go_region_held3 (fun w' => w'.cell? ⟨b, o, none⟩ = some (.int .i64 x) ∧ w'.cell? ⟨b, o + 1, none⟩ = some (.int .i64 y)) (go_keep) (fail)
  all_goals
    generalize hW : World.drew _ = w3
    have hC0 : CellI w3 (w.heap.size + 1) 0 0 := by rw [← hW]; exact (HC.out.alloc _)
    have hC1 : CellI w3 w1.heap.size x y := by rw [← hW]; exact heap_alloc_new w1 _
    have hT3 : TerrAt w3 w.heap.size n f := by rw [← hW]; exact (HT.out.alloc _).drew
    have hb3 : Below w.heap.size w w3 := by rw [← hW]; exact below_drewN (HB.out.alloc (by rw [HZ.out]; omega) _) 1
    have hne : w1.heap.size ≠ w.heap.size + 1 := by rw [HZ.out]; omega
    clear hW f0 f1
    generalize w1.heap.size = g6 at hC1 hne ⊢
    have c0 := hC1.c0
    have c1 := hC1.c1
    have d0 := hC0.c0
    have d1 := hC0.c1
    have e0 := hT3.head
    have q0 := frozen_of_row w3 (w.heap.size + 1) 0 _ _ hC0
    have q1 := frozen_of_row w3 (w.heap.size + 1) 1 _ _ hC0
    have Hb3 := Lib.hid hb3
    have HC0 := Lib.hid hC0
    clear hC0 hC1 hT3 hb3
    have hlt : w.heap.size ≠ w.heap.size + 1 := by omega
    have hne2 : ¬ w.heap.size + 1 = g6 := fun h => hne h.symm
    by_cases a1 : 0 < x
    · by_cases a2 : x < (n : Int)
      · by_cases a3 : 0 < y
        · by_cases a4 : y < (n : Int)
          · go_upto_region 4 with fail
            go_region_held3 (fun w' => w'.cell? ⟨g6, 0, none⟩ = some (.int .i64 x) ∧ w'.cell? ⟨g6, 1, none⟩ = some (.int .i64 y) ∧ w'.cell? ⟨w.heap.size, 0, none⟩ = some (.int .i64 (n : Int))) (go_keep) (fail)
            all_goals
              go_wp2
              refine bodyPost_ret (v := .tuple #[.agg (clI x y), .bool true]) ?_ rfl ⟨by rw [Hok.out, okB_yes (by omega)], below_drewN ((Hb3.out.setCell (p := ⟨w.heap.size + 1, 0, none⟩) (by simp) _).setCell (p := ⟨w.heap.size + 1, 1, none⟩) (by simp) _) 1⟩
              exact results_cell_two (p := 4) (q := 5) rfl _ _ (w.heap.size + 1) _ rfl (Try.load_clI (HC0.out.set2 x y))
          · go_upto_region 4 with fail
            refine wp_region_held_drew (S := fun w' => w'.cell? ⟨g6, 0, none⟩ = some (.int .i64 x) ∧ w'.cell? ⟨g6, 1, none⟩ = some (.int .i64 y) ∧ w'.cell? ⟨w.heap.size, 0, none⟩ = some (.int .i64 (n : Int))) (by kernel_rfl) ⟨c0, c1, e0⟩ (fun hHeld => ?_)
            refine wpAnyH_take (i := 0) (oi := ⟨some 18, _, _, _, _, _⟩) (v := .agg #[.int .i64 x, .int .i64 y]) rfl (by kernel_rfl) (by kernel_rfl) (by kernel_rfl) (fun _ _ _ h => h) (Or.inl ⟨by rfl, ?y1⟩) hHeld ?_
            case y1 => intro w hSw; obtain ⟨s0, s1, s2⟩ := hSw; go_simp
            simp only [Act.put, List.setIfInBounds_toArray, List.set_cons_zero, List.set_cons_succ]
            refine wpAnyH_take (i := 1) (oi := ⟨some 19, _, _, _, _, _⟩) (v := .pointer (some ⟨g6, 0, none⟩)) rfl (by kernel_rfl) (by kernel_rfl) (by kernel_rfl) (fun _ _ _ h => h) (Or.inl ⟨by rfl, ?y1⟩) hHeld ?_
            case y1 => intro w hSw; obtain ⟨s0, s1, s2⟩ := hSw; go_simp
            simp only [Act.put, List.setIfInBounds_toArray, List.set_cons_zero, List.set_cons_succ]
            refine wpAnyH_take (i := 2) (oi := ⟨some 20, _, _, _, _, _⟩) (v := .int .i64 x) rfl (by kernel_rfl) (by kernel_rfl) (by kernel_rfl) (fun _ _ _ h => h) (Or.inl ⟨by rfl, ?y1⟩) hHeld ?_
            case y1 => intro w hSw; obtain ⟨s0, s1, s2⟩ := hSw; go_simp
            simp only [Act.put, List.setIfInBounds_toArray, List.set_cons_zero, List.set_cons_succ]
            refine wpAnyH_take (i := 3) (oi := ⟨some 21, _, _, _, _, _⟩) (v := .bool true) rfl (by kernel_rfl) (by kernel_rfl) (by kernel_rfl) (fun _ _ _ h => h) (Or.inl ⟨by rfl, ?y1⟩) hHeld ?_
            case y1 => intro w hSw; obtain ⟨s0, s1, s2⟩ := hSw; go_simp
            simp only [Act.put, List.setIfInBounds_toArray, List.set_cons_zero, List.set_cons_succ]
            refine wpAnyH_take (i := 4) (oi := ⟨some 22, _, _, _, _, _⟩) (v := .bool true) rfl (by kernel_rfl) (by kernel_rfl) (by kernel_rfl) (fun _ _ _ h => h) (Or.inl ⟨by rfl, ?y1⟩) hHeld ?_
            case y1 => intro w hSw; obtain ⟨s0, s1, s2⟩ := hSw; go_simp
            simp only [Act.put, List.setIfInBounds_toArray, List.set_cons_zero, List.set_cons_succ]
            refine wpAnyH_take (i := 5) (oi := ⟨some 23, _, _, _, _, _⟩) (v := .pointer (some ⟨g6, 0, none⟩)) rfl (by kernel_rfl) (by kernel_rfl) (by kernel_rfl) (fun _ _ _ h => h) (Or.inl ⟨by rfl, ?y1⟩) hHeld ?_
            case y1 => intro w hSw; obtain ⟨s0, s1, s2⟩ := hSw; go_simp
            simp only [Act.put, List.setIfInBounds_toArray, List.set_cons_zero, List.set_cons_succ]
            refine wpAnyH_take (i := 6) (oi := ⟨some 24, _, _, _, _, _⟩) (v := .int .i64 x) rfl (by kernel_rfl) (by kernel_rfl) (by kernel_rfl) (fun _ _ _ h => h) (Or.inl ⟨by rfl, ?y1⟩) hHeld ?_
            case y1 => intro w hSw; obtain ⟨s0, s1, s2⟩ := hSw; go_simp
            simp only [Act.put, List.setIfInBounds_toArray, List.set_cons_zero, List.set_cons_succ]
            refine wpAnyH_take (i := 7) (oi := ⟨some 25, _, _, _, _, _⟩) (v := .pointer (some ⟨w.heap.size, 0, none⟩)) rfl (by kernel_rfl) (by kernel_rfl) (by kernel_rfl) (fun _ _ _ h => h) (Or.inl ⟨by rfl, ?y1⟩) hHeld ?_
            case y1 => intro w hSw; obtain ⟨s0, s1, s2⟩ := hSw; go_simp
            simp only [Act.put, List.setIfInBounds_toArray, List.set_cons_zero, List.set_cons_succ]
            refine wpAnyH_take (i := 8) (oi := ⟨some 26, _, _, _, _, _⟩) (v := .int .i64 (n : Int)) rfl (by kernel_rfl) (by kernel_rfl) (by kernel_rfl) (fun _ _ _ h => h) (Or.inl ⟨by rfl, ?y1⟩) hHeld ?_
            case y1 => intro w hSw; obtain ⟨s0, s1, s2⟩ := hSw; go_simp
            simp only [Act.put, List.setIfInBounds_toArray, List.set_cons_zero, List.set_cons_succ]
            refine wpAnyH_take (i := 9) (oi := ⟨some 27, _, _, _, _, _⟩) (v := .bool true) rfl (by kernel_rfl) (by kernel_rfl) (by kernel_rfl) (fun _ _ _ h => h) (Or.inl ⟨by rfl, ?y1⟩) hHeld ?_
            case y1 => intro w hSw; obtain ⟨s0, s1, s2⟩ := hSw; go_simp
            simp only [Act.put, List.setIfInBounds_toArray, List.set_cons_zero, List.set_cons_succ]
            refine wpAnyH_take (i := 10) (oi := ⟨some 28, _, _, _, _, _⟩) (v := .bool true) rfl (by kernel_rfl) (by kernel_rfl) (by kernel_rfl) (fun _ _ _ h => h) (Or.inl ⟨by rfl, ?y1⟩) hHeld ?_
            case y1 => intro w hSw; obtain ⟨s0, s1, s2⟩ := hSw; go_simp
            simp only [Act.put, List.setIfInBounds_toArray, List.set_cons_zero, List.set_cons_succ]
            refine wpAnyH_take (i := 11) (oi := ⟨some 29, _, _, _, _, _⟩) (v := .bool true) rfl (by kernel_rfl) (by kernel_rfl) (by kernel_rfl) (fun _ _ _ h => h) (Or.inl ⟨by rfl, ?y1⟩) hHeld ?_
            case y1 => intro w hSw; obtain ⟨s0, s1, s2⟩ := hSw; go_simp
            simp only [Act.put, List.setIfInBounds_toArray, List.set_cons_zero, List.set_cons_succ]
            refine wpAnyH_take (i := 12) (oi := ⟨some 30, _, _, _, _, _⟩) (v := .pointer (some ⟨g6, 1, none⟩)) rfl (by kernel_rfl) (by kernel_rfl) (by kernel_rfl) (fun _ _ _ h => h) (Or.inl ⟨by rfl, ?y1⟩) hHeld ?_
            case y1 => intro w hSw; obtain ⟨s0, s1, s2⟩ := hSw; go_simp
            simp only [Act.put, List.setIfInBounds_toArray, List.set_cons_zero, List.set_cons_succ]
            refine wpAnyH_take (i := 13) (oi := ⟨some 31, _, _, _, _, _⟩) (v := .int .i64 y) rfl (by kernel_rfl) (by kernel_rfl) (by kernel_rfl) (fun _ _ _ h => h) (Or.inl ⟨by rfl, ?y1⟩) hHeld ?_
            case y1 => intro w hSw; obtain ⟨s0, s1, s2⟩ := hSw; go_simp
            simp only [Act.put, List.setIfInBounds_toArray, List.set_cons_zero, List.set_cons_succ]
            refine wpAnyH_take (i := 14) (oi := ⟨some 32, _, _, _, _, _⟩) (v := .bool true) rfl (by kernel_rfl) (by kernel_rfl) (by kernel_rfl) (fun _ _ _ h => h) (Or.inl ⟨by rfl, ?y1⟩) hHeld ?_
            case y1 => intro w hSw; obtain ⟨s0, s1, s2⟩ := hSw; go_simp
            simp only [Act.put, List.setIfInBounds_toArray, List.set_cons_zero, List.set_cons_succ]
            refine wpAnyH_take (i := 15) (oi := ⟨some 33, _, _, _, _, _⟩) (v := .bool true) rfl (by kernel_rfl) (by kernel_rfl) (by kernel_rfl) (fun _ _ _ h => h) (Or.inl ⟨by rfl, ?y1⟩) hHeld ?_
            case y1 => intro w hSw; obtain ⟨s0, s1, s2⟩ := hSw; go_simp
            simp only [Act.put, List.setIfInBounds_toArray, List.set_cons_zero, List.set_cons_succ]
            refine wpAnyH_take (i := 16) (oi := ⟨some 34, _, _, _, _, _⟩) (v := .bool true) rfl (by kernel_rfl) (by kernel_rfl) (by kernel_rfl) (fun _ _ _ h => h) (Or.inl ⟨by rfl, ?y1⟩) hHeld ?_
            case y1 => intro w hSw; obtain ⟨s0, s1, s2⟩ := hSw; go_simp
            simp only [Act.put, List.setIfInBounds_toArray, List.set_cons_zero, List.set_cons_succ]
            refine wpAnyH_take (i := 17) (oi := ⟨some 35, _, _, _, _, _⟩) (v := .pointer (some ⟨g6, 1, none⟩)) rfl (by kernel_rfl) (by kernel_rfl) (by kernel_rfl) (fun _ _ _ h => h) (Or.inl ⟨by rfl, ?y1⟩) hHeld ?_
            case y1 => intro w hSw; obtain ⟨s0, s1, s2⟩ := hSw; go_simp
            simp only [Act.put, List.setIfInBounds_toArray, List.set_cons_zero, List.set_cons_succ]
            refine wpAnyH_take (i := 18) (oi := ⟨some 36, _, _, _, _, _⟩) (v := .int .i64 y) rfl (by kernel_rfl) (by kernel_rfl) (by kernel_rfl) (fun _ _ _ h => h) (Or.inl ⟨by rfl, ?y1⟩) hHeld ?_
            case y1 => intro w hSw; obtain ⟨s0, s1, s2⟩ := hSw; go_simp
            simp only [Act.put, List.setIfInBounds_toArray, List.set_cons_zero, List.set_cons_succ]
            refine wpAnyH_take (i := 19) (oi := ⟨some 37, _, _, _, _, _⟩) (v := .pointer (some ⟨w.heap.size, 0, none⟩)) rfl (by kernel_rfl) (by kernel_rfl) (by kernel_rfl) (fun _ _ _ h => h) (Or.inl ⟨by rfl, ?y1⟩) hHeld ?_
            case y1 => intro w hSw; obtain ⟨s0, s1, s2⟩ := hSw; go_simp
            simp only [Act.put, List.setIfInBounds_toArray, List.set_cons_zero, List.set_cons_succ]
            refine wpAnyH_take (i := 20) (oi := ⟨some 38, _, _, _, _, _⟩) (v := .int .i64 (n : Int)) rfl (by kernel_rfl) (by kernel_rfl) (by kernel_rfl) (fun _ _ _ h => h) (Or.inl ⟨by rfl, ?y1⟩) hHeld ?_
            case y1 => intro w hSw; obtain ⟨s0, s1, s2⟩ := hSw; go_simp
            simp only [Act.put, List.setIfInBounds_toArray, List.set_cons_zero, List.set_cons_succ]
            refine wpAnyH_take (i := 21) (oi := ⟨some 39, _, _, _, _, _⟩) (v := .bool false) rfl (by kernel_rfl) (by kernel_rfl) (by kernel_rfl) (fun _ _ _ h => h) (Or.inl ⟨by rfl, ?y1⟩) hHeld ?_
            case y1 => intro w hSw; obtain ⟨s0, s1, s2⟩ := hSw; go_simp
            simp only [Act.put, List.setIfInBounds_toArray, List.set_cons_zero, List.set_cons_succ]
            refine wpAnyH_take (i := 22) (oi := ⟨some 40, _, _, _, _, _⟩) (v := .bool false) rfl (by kernel_rfl) (by kernel_rfl) (by kernel_rfl) (fun _ _ _ h => h) (Or.inl ⟨by rfl, ?y1⟩) hHeld ?_
            case y1 => intro w hSw; obtain ⟨s0, s1, s2⟩ := hSw; go_simp
            simp only [Act.put, List.setIfInBounds_toArray, List.set_cons_zero, List.set_cons_succ]
            refine wpAnyH_ready (rs := [23]) (by kernel_rfl) (by simp) (AllReadyH.cons (o := ⟨none, _, _, _, _, _⟩) rfl (fun KK hKK => ?_) AllReadyH.nil)
            rw [if_pos (by rfl)]
            have Hheld := Lib.hid hHeld
            clear hHeld
            go_simp
            refine hKK.out _ _ (by go_keep) (fun hHeld => ?_)
            refine wpAnyH_take (i := 24) (oi := ⟨some 5, _, _, _, _, _⟩) (v := .bool false) rfl (by kernel_rfl) (by kernel_rfl) (by kernel_rfl) (fun _ _ _ h => h) (Or.inl ⟨by rfl, ?y1⟩) hHeld ?_
            case y1 => intro w hSw; go_simp
            simp only [Act.put, List.setIfInBounds_toArray, List.set_cons_zero, List.set_cons_succ]
            refine wpAnyH_done (by kernel_rfl) ?_ _
            all_goals
              go_wp2
              refine bodyPost_ret (v := .tuple #[.agg (clI x y), .bool false]) ?_ rfl ⟨by rw [Hok.out, okB_no (by omega)], below_drewN ((Hb3.out.setCell (p := ⟨w.heap.size + 1, 0, none⟩) (by simp) _).setCell (p := ⟨w.heap.size + 1, 1, none⟩) (by simp) _) 1⟩
              exact results_cell_two (p := 4) (q := 5) rfl _ _ (w.heap.size + 1) _ rfl (Try.load_clI (HC0.out.set2 x y))
        · go_upto_region 4 with fail
          refine wp_region_held_drew (S := fun w' => w'.cell? ⟨g6, 0, none⟩ = some (.int .i64 x) ∧ w'.cell? ⟨g6, 1, none⟩ = some (.int .i64 y) ∧ w'.cell? ⟨w.heap.size, 0, none⟩ = some (.int .i64 (n : Int))) (by kernel_rfl) ⟨c0, c1, e0⟩ (fun hHeld => ?_)
          refine wpAnyH_take (i := 0) (oi := ⟨some 18, _, _, _, _, _⟩) (v := .agg #[.int .i64 x, .int .i64 y]) rfl (by kernel_rfl) (by kernel_rfl) (by kernel_rfl) (fun _ _ _ h => h) (Or.inl ⟨by rfl, ?y1⟩) hHeld ?_
          case y1 => intro w hSw; obtain ⟨s0, s1, s2⟩ := hSw; go_simp
          simp only [Act.put, List.setIfInBounds_toArray, List.set_cons_zero, List.set_cons_succ]
          refine wpAnyH_take (i := 1) (oi := ⟨some 19, _, _, _, _, _⟩) (v := .pointer (some ⟨g6, 0, none⟩)) rfl (by kernel_rfl) (by kernel_rfl) (by kernel_rfl) (fun _ _ _ h => h) (Or.inl ⟨by rfl, ?y1⟩) hHeld ?_
          case y1 => intro w hSw; obtain ⟨s0, s1, s2⟩ := hSw; go_simp
          simp only [Act.put, List.setIfInBounds_toArray, List.set_cons_zero, List.set_cons_succ]
          refine wpAnyH_take (i := 2) (oi := ⟨some 20, _, _, _, _, _⟩) (v := .int .i64 x) rfl (by kernel_rfl) (by kernel_rfl) (by kernel_rfl) (fun _ _ _ h => h) (Or.inl ⟨by rfl, ?y1⟩) hHeld ?_
          case y1 => intro w hSw; obtain ⟨s0, s1, s2⟩ := hSw; go_simp
          simp only [Act.put, List.setIfInBounds_toArray, List.set_cons_zero, List.set_cons_succ]
          refine wpAnyH_take (i := 3) (oi := ⟨some 21, _, _, _, _, _⟩) (v := .bool true) rfl (by kernel_rfl) (by kernel_rfl) (by kernel_rfl) (fun _ _ _ h => h) (Or.inl ⟨by rfl, ?y1⟩) hHeld ?_
          case y1 => intro w hSw; obtain ⟨s0, s1, s2⟩ := hSw; go_simp
          simp only [Act.put, List.setIfInBounds_toArray, List.set_cons_zero, List.set_cons_succ]
          refine wpAnyH_take (i := 4) (oi := ⟨some 22, _, _, _, _, _⟩) (v := .bool true) rfl (by kernel_rfl) (by kernel_rfl) (by kernel_rfl) (fun _ _ _ h => h) (Or.inl ⟨by rfl, ?y1⟩) hHeld ?_
          case y1 => intro w hSw; obtain ⟨s0, s1, s2⟩ := hSw; go_simp
          simp only [Act.put, List.setIfInBounds_toArray, List.set_cons_zero, List.set_cons_succ]
          refine wpAnyH_take (i := 5) (oi := ⟨some 23, _, _, _, _, _⟩) (v := .pointer (some ⟨g6, 0, none⟩)) rfl (by kernel_rfl) (by kernel_rfl) (by kernel_rfl) (fun _ _ _ h => h) (Or.inl ⟨by rfl, ?y1⟩) hHeld ?_
          case y1 => intro w hSw; obtain ⟨s0, s1, s2⟩ := hSw; go_simp
          simp only [Act.put, List.setIfInBounds_toArray, List.set_cons_zero, List.set_cons_succ]
          refine wpAnyH_take (i := 6) (oi := ⟨some 24, _, _, _, _, _⟩) (v := .int .i64 x) rfl (by kernel_rfl) (by kernel_rfl) (by kernel_rfl) (fun _ _ _ h => h) (Or.inl ⟨by rfl, ?y1⟩) hHeld ?_
          case y1 => intro w hSw; obtain ⟨s0, s1, s2⟩ := hSw; go_simp
          simp only [Act.put, List.setIfInBounds_toArray, List.set_cons_zero, List.set_cons_succ]
          refine wpAnyH_take (i := 7) (oi := ⟨some 25, _, _, _, _, _⟩) (v := .pointer (some ⟨w.heap.size, 0, none⟩)) rfl (by kernel_rfl) (by kernel_rfl) (by kernel_rfl) (fun _ _ _ h => h) (Or.inl ⟨by rfl, ?y1⟩) hHeld ?_
          case y1 => intro w hSw; obtain ⟨s0, s1, s2⟩ := hSw; go_simp
          simp only [Act.put, List.setIfInBounds_toArray, List.set_cons_zero, List.set_cons_succ]
          refine wpAnyH_take (i := 8) (oi := ⟨some 26, _, _, _, _, _⟩) (v := .int .i64 (n : Int)) rfl (by kernel_rfl) (by kernel_rfl) (by kernel_rfl) (fun _ _ _ h => h) (Or.inl ⟨by rfl, ?y1⟩) hHeld ?_
          case y1 => intro w hSw; obtain ⟨s0, s1, s2⟩ := hSw; go_simp
          simp only [Act.put, List.setIfInBounds_toArray, List.set_cons_zero, List.set_cons_succ]
          refine wpAnyH_take (i := 9) (oi := ⟨some 27, _, _, _, _, _⟩) (v := .bool true) rfl (by kernel_rfl) (by kernel_rfl) (by kernel_rfl) (fun _ _ _ h => h) (Or.inl ⟨by rfl, ?y1⟩) hHeld ?_
          case y1 => intro w hSw; obtain ⟨s0, s1, s2⟩ := hSw; go_simp
          simp only [Act.put, List.setIfInBounds_toArray, List.set_cons_zero, List.set_cons_succ]
          refine wpAnyH_take (i := 10) (oi := ⟨some 28, _, _, _, _, _⟩) (v := .bool true) rfl (by kernel_rfl) (by kernel_rfl) (by kernel_rfl) (fun _ _ _ h => h) (Or.inl ⟨by rfl, ?y1⟩) hHeld ?_
          case y1 => intro w hSw; obtain ⟨s0, s1, s2⟩ := hSw; go_simp
          simp only [Act.put, List.setIfInBounds_toArray, List.set_cons_zero, List.set_cons_succ]
          refine wpAnyH_take (i := 11) (oi := ⟨some 29, _, _, _, _, _⟩) (v := .bool true) rfl (by kernel_rfl) (by kernel_rfl) (by kernel_rfl) (fun _ _ _ h => h) (Or.inl ⟨by rfl, ?y1⟩) hHeld ?_
          case y1 => intro w hSw; obtain ⟨s0, s1, s2⟩ := hSw; go_simp
          simp only [Act.put, List.setIfInBounds_toArray, List.set_cons_zero, List.set_cons_succ]
          refine wpAnyH_take (i := 12) (oi := ⟨some 30, _, _, _, _, _⟩) (v := .pointer (some ⟨g6, 1, none⟩)) rfl (by kernel_rfl) (by kernel_rfl) (by kernel_rfl) (fun _ _ _ h => h) (Or.inl ⟨by rfl, ?y1⟩) hHeld ?_
          case y1 => intro w hSw; obtain ⟨s0, s1, s2⟩ := hSw; go_simp
          simp only [Act.put, List.setIfInBounds_toArray, List.set_cons_zero, List.set_cons_succ]
          refine wpAnyH_take (i := 13) (oi := ⟨some 31, _, _, _, _, _⟩) (v := .int .i64 y) rfl (by kernel_rfl) (by kernel_rfl) (by kernel_rfl) (fun _ _ _ h => h) (Or.inl ⟨by rfl, ?y1⟩) hHeld ?_
          case y1 => intro w hSw; obtain ⟨s0, s1, s2⟩ := hSw; go_simp
          simp only [Act.put, List.setIfInBounds_toArray, List.set_cons_zero, List.set_cons_succ]
          refine wpAnyH_take (i := 14) (oi := ⟨some 32, _, _, _, _, _⟩) (v := .bool false) rfl (by kernel_rfl) (by kernel_rfl) (by kernel_rfl) (fun _ _ _ h => h) (Or.inl ⟨by rfl, ?y1⟩) hHeld ?_
          case y1 => intro w hSw; obtain ⟨s0, s1, s2⟩ := hSw; go_simp
          simp only [Act.put, List.setIfInBounds_toArray, List.set_cons_zero, List.set_cons_succ]
          refine wpAnyH_take (i := 15) (oi := ⟨some 33, _, _, _, _, _⟩) (v := .bool false) rfl (by kernel_rfl) (by kernel_rfl) (by kernel_rfl) (fun _ _ _ h => h) (Or.inl ⟨by rfl, ?y1⟩) hHeld ?_
          case y1 => intro w hSw; obtain ⟨s0, s1, s2⟩ := hSw; go_simp
          simp only [Act.put, List.setIfInBounds_toArray, List.set_cons_zero, List.set_cons_succ]
          refine wpAnyH_take (i := 16) (oi := ⟨some 34, _, _, _, _, _⟩) (v := .bool false) rfl (by kernel_rfl) (by kernel_rfl) (by kernel_rfl) (fun _ _ _ h => h) (Or.inl ⟨by rfl, ?y1⟩) hHeld ?_
          case y1 => intro w hSw; obtain ⟨s0, s1, s2⟩ := hSw; go_simp
          simp only [Act.put, List.setIfInBounds_toArray, List.set_cons_zero, List.set_cons_succ]
          refine wpAnyH_take (i := 17) (oi := ⟨some 35, _, _, _, _, _⟩) (v := undef) rfl (by kernel_rfl) (by kernel_rfl) (by kernel_rfl) (fun _ _ _ h => h) (Or.inr ⟨by rfl, rfl⟩) hHeld ?_
          refine wpAnyH_take (i := 18) (oi := ⟨some 36, _, _, _, _, _⟩) (v := undef) rfl (by kernel_rfl) (by kernel_rfl) (by kernel_rfl) (fun _ _ _ h => h) (Or.inr ⟨by rfl, rfl⟩) hHeld ?_
          refine wpAnyH_take (i := 19) (oi := ⟨some 37, _, _, _, _, _⟩) (v := undef) rfl (by kernel_rfl) (by kernel_rfl) (by kernel_rfl) (fun _ _ _ h => h) (Or.inr ⟨by rfl, rfl⟩) hHeld ?_
          refine wpAnyH_take (i := 20) (oi := ⟨some 38, _, _, _, _, _⟩) (v := undef) rfl (by kernel_rfl) (by kernel_rfl) (by kernel_rfl) (fun _ _ _ h => h) (Or.inr ⟨by rfl, rfl⟩) hHeld ?_
          refine wpAnyH_take (i := 21) (oi := ⟨some 39, _, _, _, _, _⟩) (v := undef) rfl (by kernel_rfl) (by kernel_rfl) (by kernel_rfl) (fun _ _ _ h => h) (Or.inr ⟨by rfl, rfl⟩) hHeld ?_
          refine wpAnyH_take (i := 22) (oi := ⟨some 40, _, _, _, _, _⟩) (v := .bool false) rfl (by kernel_rfl) (by kernel_rfl) (by kernel_rfl) (fun _ _ _ h => h) (Or.inl ⟨by rfl, ?y1⟩) hHeld ?_
          case y1 => intro w hSw; obtain ⟨s0, s1, s2⟩ := hSw; go_simp
          simp only [Act.put, List.setIfInBounds_toArray, List.set_cons_zero, List.set_cons_succ]
          refine wpAnyH_ready (rs := [23]) (by kernel_rfl) (by simp) (AllReadyH.cons (o := ⟨none, _, _, _, _, _⟩) rfl (fun KK hKK => ?_) AllReadyH.nil)
          rw [if_pos (by rfl)]
          have Hheld := Lib.hid hHeld
          clear hHeld
          go_simp
          refine hKK.out _ _ (by go_keep) (fun hHeld => ?_)
          refine wpAnyH_take (i := 24) (oi := ⟨some 5, _, _, _, _, _⟩) (v := .bool false) rfl (by kernel_rfl) (by kernel_rfl) (by kernel_rfl) (fun _ _ _ h => h) (Or.inl ⟨by rfl, ?y1⟩) hHeld ?_
          case y1 => intro w hSw; go_simp
          simp only [Act.put, List.setIfInBounds_toArray, List.set_cons_zero, List.set_cons_succ]
          refine wpAnyH_done (by kernel_rfl) ?_ _
          all_goals
            go_wp2
            refine bodyPost_ret (v := .tuple #[.agg (clI x y), .bool false]) ?_ rfl ⟨by rw [Hok.out, okB_no (by omega)], below_drewN ((Hb3.out.setCell (p := ⟨w.heap.size + 1, 0, none⟩) (by simp) _).setCell (p := ⟨w.heap.size + 1, 1, none⟩) (by simp) _) 1⟩
            exact results_cell_two (p := 4) (q := 5) rfl _ _ (w.heap.size + 1) _ rfl (Try.load_clI (HC0.out.set2 x y))
      · go_upto_region 4 with fail
        refine wp_region_held_drew (S := fun w' => w'.cell? ⟨g6, 0, none⟩ = some (.int .i64 x) ∧ w'.cell? ⟨g6, 1, none⟩ = some (.int .i64 y) ∧ w'.cell? ⟨w.heap.size, 0, none⟩ = some (.int .i64 (n : Int))) (by kernel_rfl) ⟨c0, c1, e0⟩ (fun hHeld => ?_)
        refine wpAnyH_take (i := 0) (oi := ⟨some 18, _, _, _, _, _⟩) (v := .agg #[.int .i64 x, .int .i64 y]) rfl (by kernel_rfl) (by kernel_rfl) (by kernel_rfl) (fun _ _ _ h => h) (Or.inl ⟨by rfl, ?y1⟩) hHeld ?_
        case y1 => intro w hSw; obtain ⟨s0, s1, s2⟩ := hSw; go_simp
        simp only [Act.put, List.setIfInBounds_toArray, List.set_cons_zero, List.set_cons_succ]
        refine wpAnyH_take (i := 1) (oi := ⟨some 19, _, _, _, _, _⟩) (v := .pointer (some ⟨g6, 0, none⟩)) rfl (by kernel_rfl) (by kernel_rfl) (by kernel_rfl) (fun _ _ _ h => h) (Or.inl ⟨by rfl, ?y1⟩) hHeld ?_
        case y1 => intro w hSw; obtain ⟨s0, s1, s2⟩ := hSw; go_simp
        simp only [Act.put, List.setIfInBounds_toArray, List.set_cons_zero, List.set_cons_succ]
        refine wpAnyH_take (i := 2) (oi := ⟨some 20, _, _, _, _, _⟩) (v := .int .i64 x) rfl (by kernel_rfl) (by kernel_rfl) (by kernel_rfl) (fun _ _ _ h => h) (Or.inl ⟨by rfl, ?y1⟩) hHeld ?_
        case y1 => intro w hSw; obtain ⟨s0, s1, s2⟩ := hSw; go_simp
        simp only [Act.put, List.setIfInBounds_toArray, List.set_cons_zero, List.set_cons_succ]
        refine wpAnyH_take (i := 3) (oi := ⟨some 21, _, _, _, _, _⟩) (v := .bool true) rfl (by kernel_rfl) (by kernel_rfl) (by kernel_rfl) (fun _ _ _ h => h) (Or.inl ⟨by rfl, ?y1⟩) hHeld ?_
        case y1 => intro w hSw; obtain ⟨s0, s1, s2⟩ := hSw; go_simp
        simp only [Act.put, List.setIfInBounds_toArray, List.set_cons_zero, List.set_cons_succ]
        refine wpAnyH_take (i := 4) (oi := ⟨some 22, _, _, _, _, _⟩) (v := .bool true) rfl (by kernel_rfl) (by kernel_rfl) (by kernel_rfl) (fun _ _ _ h => h) (Or.inl ⟨by rfl, ?y1⟩) hHeld ?_
        case y1 => intro w hSw; obtain ⟨s0, s1, s2⟩ := hSw; go_simp
        simp only [Act.put, List.setIfInBounds_toArray, List.set_cons_zero, List.set_cons_succ]
        refine wpAnyH_take (i := 5) (oi := ⟨some 23, _, _, _, _, _⟩) (v := .pointer (some ⟨g6, 0, none⟩)) rfl (by kernel_rfl) (by kernel_rfl) (by kernel_rfl) (fun _ _ _ h => h) (Or.inl ⟨by rfl, ?y1⟩) hHeld ?_
        case y1 => intro w hSw; obtain ⟨s0, s1, s2⟩ := hSw; go_simp
        simp only [Act.put, List.setIfInBounds_toArray, List.set_cons_zero, List.set_cons_succ]
        refine wpAnyH_take (i := 6) (oi := ⟨some 24, _, _, _, _, _⟩) (v := .int .i64 x) rfl (by kernel_rfl) (by kernel_rfl) (by kernel_rfl) (fun _ _ _ h => h) (Or.inl ⟨by rfl, ?y1⟩) hHeld ?_
        case y1 => intro w hSw; obtain ⟨s0, s1, s2⟩ := hSw; go_simp
        simp only [Act.put, List.setIfInBounds_toArray, List.set_cons_zero, List.set_cons_succ]
        refine wpAnyH_take (i := 7) (oi := ⟨some 25, _, _, _, _, _⟩) (v := .pointer (some ⟨w.heap.size, 0, none⟩)) rfl (by kernel_rfl) (by kernel_rfl) (by kernel_rfl) (fun _ _ _ h => h) (Or.inl ⟨by rfl, ?y1⟩) hHeld ?_
        case y1 => intro w hSw; obtain ⟨s0, s1, s2⟩ := hSw; go_simp
        simp only [Act.put, List.setIfInBounds_toArray, List.set_cons_zero, List.set_cons_succ]
        refine wpAnyH_take (i := 8) (oi := ⟨some 26, _, _, _, _, _⟩) (v := .int .i64 (n : Int)) rfl (by kernel_rfl) (by kernel_rfl) (by kernel_rfl) (fun _ _ _ h => h) (Or.inl ⟨by rfl, ?y1⟩) hHeld ?_
        case y1 => intro w hSw; obtain ⟨s0, s1, s2⟩ := hSw; go_simp
        simp only [Act.put, List.setIfInBounds_toArray, List.set_cons_zero, List.set_cons_succ]
        refine wpAnyH_take (i := 9) (oi := ⟨some 27, _, _, _, _, _⟩) (v := .bool false) rfl (by kernel_rfl) (by kernel_rfl) (by kernel_rfl) (fun _ _ _ h => h) (Or.inl ⟨by rfl, ?y1⟩) hHeld ?_
        case y1 => intro w hSw; obtain ⟨s0, s1, s2⟩ := hSw; go_simp
        simp only [Act.put, List.setIfInBounds_toArray, List.set_cons_zero, List.set_cons_succ]
        refine wpAnyH_take (i := 10) (oi := ⟨some 28, _, _, _, _, _⟩) (v := .bool false) rfl (by kernel_rfl) (by kernel_rfl) (by kernel_rfl) (fun _ _ _ h => h) (Or.inl ⟨by rfl, ?y1⟩) hHeld ?_
        case y1 => intro w hSw; obtain ⟨s0, s1, s2⟩ := hSw; go_simp
        simp only [Act.put, List.setIfInBounds_toArray, List.set_cons_zero, List.set_cons_succ]
        refine wpAnyH_take (i := 11) (oi := ⟨some 29, _, _, _, _, _⟩) (v := .bool false) rfl (by kernel_rfl) (by kernel_rfl) (by kernel_rfl) (fun _ _ _ h => h) (Or.inl ⟨by rfl, ?y1⟩) hHeld ?_
        case y1 => intro w hSw; obtain ⟨s0, s1, s2⟩ := hSw; go_simp
        simp only [Act.put, List.setIfInBounds_toArray, List.set_cons_zero, List.set_cons_succ]
        refine wpAnyH_take (i := 12) (oi := ⟨some 30, _, _, _, _, _⟩) (v := undef) rfl (by kernel_rfl) (by kernel_rfl) (by kernel_rfl) (fun _ _ _ h => h) (Or.inr ⟨by rfl, rfl⟩) hHeld ?_
        refine wpAnyH_take (i := 13) (oi := ⟨some 31, _, _, _, _, _⟩) (v := undef) rfl (by kernel_rfl) (by kernel_rfl) (by kernel_rfl) (fun _ _ _ h => h) (Or.inr ⟨by rfl, rfl⟩) hHeld ?_
        refine wpAnyH_take (i := 14) (oi := ⟨some 32, _, _, _, _, _⟩) (v := undef) rfl (by kernel_rfl) (by kernel_rfl) (by kernel_rfl) (fun _ _ _ h => h) (Or.inr ⟨by rfl, rfl⟩) hHeld ?_
        refine wpAnyH_take (i := 15) (oi := ⟨some 33, _, _, _, _, _⟩) (v := .bool false) rfl (by kernel_rfl) (by kernel_rfl) (by kernel_rfl) (fun _ _ _ h => h) (Or.inl ⟨by rfl, ?y1⟩) hHeld ?_
        case y1 => intro w hSw; obtain ⟨s0, s1, s2⟩ := hSw; go_simp
        simp only [Act.put, List.setIfInBounds_toArray, List.set_cons_zero, List.set_cons_succ]
        refine wpAnyH_take (i := 16) (oi := ⟨some 34, _, _, _, _, _⟩) (v := .bool false) rfl (by kernel_rfl) (by kernel_rfl) (by kernel_rfl) (fun _ _ _ h => h) (Or.inl ⟨by rfl, ?y1⟩) hHeld ?_
        case y1 => intro w hSw; obtain ⟨s0, s1, s2⟩ := hSw; go_simp
        simp only [Act.put, List.setIfInBounds_toArray, List.set_cons_zero, List.set_cons_succ]
        refine wpAnyH_take (i := 17) (oi := ⟨some 35, _, _, _, _, _⟩) (v := undef) rfl (by kernel_rfl) (by kernel_rfl) (by kernel_rfl) (fun _ _ _ h => h) (Or.inr ⟨by rfl, rfl⟩) hHeld ?_
        refine wpAnyH_take (i := 18) (oi := ⟨some 36, _, _, _, _, _⟩) (v := undef) rfl (by kernel_rfl) (by kernel_rfl) (by kernel_rfl) (fun _ _ _ h => h) (Or.inr ⟨by rfl, rfl⟩) hHeld ?_
        refine wpAnyH_take (i := 19) (oi := ⟨some 37, _, _, _, _, _⟩) (v := undef) rfl (by kernel_rfl) (by kernel_rfl) (by kernel_rfl) (fun _ _ _ h => h) (Or.inr ⟨by rfl, rfl⟩) hHeld ?_
        refine wpAnyH_take (i := 20) (oi := ⟨some 38, _, _, _, _, _⟩) (v := undef) rfl (by kernel_rfl) (by kernel_rfl) (by kernel_rfl) (fun _ _ _ h => h) (Or.inr ⟨by rfl, rfl⟩) hHeld ?_
        refine wpAnyH_take (i := 21) (oi := ⟨some 39, _, _, _, _, _⟩) (v := undef) rfl (by kernel_rfl) (by kernel_rfl) (by kernel_rfl) (fun _ _ _ h => h) (Or.inr ⟨by rfl, rfl⟩) hHeld ?_
        refine wpAnyH_take (i := 22) (oi := ⟨some 40, _, _, _, _, _⟩) (v := .bool false) rfl (by kernel_rfl) (by kernel_rfl) (by kernel_rfl) (fun _ _ _ h => h) (Or.inl ⟨by rfl, ?y1⟩) hHeld ?_
        case y1 => intro w hSw; obtain ⟨s0, s1, s2⟩ := hSw; go_simp
        simp only [Act.put, List.setIfInBounds_toArray, List.set_cons_zero, List.set_cons_succ]
        refine wpAnyH_ready (rs := [23]) (by kernel_rfl) (by simp) (AllReadyH.cons (o := ⟨none, _, _, _, _, _⟩) rfl (fun KK hKK => ?_) AllReadyH.nil)
        rw [if_pos (by rfl)]
        have Hheld := Lib.hid hHeld
        clear hHeld
        go_simp
        refine hKK.out _ _ (by go_keep) (fun hHeld => ?_)
        refine wpAnyH_take (i := 24) (oi := ⟨some 5, _, _, _, _, _⟩) (v := .bool false) rfl (by kernel_rfl) (by kernel_rfl) (by kernel_rfl) (fun _ _ _ h => h) (Or.inl ⟨by rfl, ?y1⟩) hHeld ?_
        case y1 => intro w hSw; go_simp
        simp only [Act.put, List.setIfInBounds_toArray, List.set_cons_zero, List.set_cons_succ]
        refine wpAnyH_done (by kernel_rfl) ?_ _
        all_goals
          go_wp2
          refine bodyPost_ret (v := .tuple #[.agg (clI x y), .bool false]) ?_ rfl ⟨by rw [Hok.out, okB_no (by omega)], below_drewN ((Hb3.out.setCell (p := ⟨w.heap.size + 1, 0, none⟩) (by simp) _).setCell (p := ⟨w.heap.size + 1, 1, none⟩) (by simp) _) 1⟩
          exact results_cell_two (p := 4) (q := 5) rfl _ _ (w.heap.size + 1) _ rfl (Try.load_clI (HC0.out.set2 x y))
    · go_upto_region 4 with fail
      refine wp_region_held_drew (S := fun w' => w'.cell? ⟨g6, 0, none⟩ = some (.int .i64 x) ∧ w'.cell? ⟨g6, 1, none⟩ = some (.int .i64 y) ∧ w'.cell? ⟨w.heap.size, 0, none⟩ = some (.int .i64 (n : Int))) (by kernel_rfl) ⟨c0, c1, e0⟩ (fun hHeld => ?_)
      refine wpAnyH_take (i := 0) (oi := ⟨some 18, _, _, _, _, _⟩) (v := .agg #[.int .i64 x, .int .i64 y]) rfl (by kernel_rfl) (by kernel_rfl) (by kernel_rfl) (fun _ _ _ h => h) (Or.inl ⟨by rfl, ?y1⟩) hHeld ?_
      case y1 => intro w hSw; obtain ⟨s0, s1, s2⟩ := hSw; go_simp
      simp only [Act.put, List.setIfInBounds_toArray, List.set_cons_zero, List.set_cons_succ]
      refine wpAnyH_take (i := 1) (oi := ⟨some 19, _, _, _, _, _⟩) (v := .pointer (some ⟨g6, 0, none⟩)) rfl (by kernel_rfl) (by kernel_rfl) (by kernel_rfl) (fun _ _ _ h => h) (Or.inl ⟨by rfl, ?y1⟩) hHeld ?_
      case y1 => intro w hSw; obtain ⟨s0, s1, s2⟩ := hSw; go_simp
      simp only [Act.put, List.setIfInBounds_toArray, List.set_cons_zero, List.set_cons_succ]
      refine wpAnyH_take (i := 2) (oi := ⟨some 20, _, _, _, _, _⟩) (v := .int .i64 x) rfl (by kernel_rfl) (by kernel_rfl) (by kernel_rfl) (fun _ _ _ h => h) (Or.inl ⟨by rfl, ?y1⟩) hHeld ?_
      case y1 => intro w hSw; obtain ⟨s0, s1, s2⟩ := hSw; go_simp
      simp only [Act.put, List.setIfInBounds_toArray, List.set_cons_zero, List.set_cons_succ]
      refine wpAnyH_take (i := 3) (oi := ⟨some 21, _, _, _, _, _⟩) (v := .bool false) rfl (by kernel_rfl) (by kernel_rfl) (by kernel_rfl) (fun _ _ _ h => h) (Or.inl ⟨by rfl, ?y1⟩) hHeld ?_
      case y1 => intro w hSw; obtain ⟨s0, s1, s2⟩ := hSw; go_simp
      simp only [Act.put, List.setIfInBounds_toArray, List.set_cons_zero, List.set_cons_succ]
      refine wpAnyH_take (i := 4) (oi := ⟨some 22, _, _, _, _, _⟩) (v := .bool false) rfl (by kernel_rfl) (by kernel_rfl) (by kernel_rfl) (fun _ _ _ h => h) (Or.inl ⟨by rfl, ?y1⟩) hHeld ?_
      case y1 => intro w hSw; obtain ⟨s0, s1, s2⟩ := hSw; go_simp
      simp only [Act.put, List.setIfInBounds_toArray, List.set_cons_zero, List.set_cons_succ]
      refine wpAnyH_take (i := 5) (oi := ⟨some 23, _, _, _, _, _⟩) (v := undef) rfl (by kernel_rfl) (by kernel_rfl) (by kernel_rfl) (fun _ _ _ h => h) (Or.inr ⟨by rfl, rfl⟩) hHeld ?_
      refine wpAnyH_take (i := 6) (oi := ⟨some 24, _, _, _, _, _⟩) (v := undef) rfl (by kernel_rfl) (by kernel_rfl) (by kernel_rfl) (fun _ _ _ h => h) (Or.inr ⟨by rfl, rfl⟩) hHeld ?_
      refine wpAnyH_take (i := 7) (oi := ⟨some 25, _, _, _, _, _⟩) (v := undef) rfl (by kernel_rfl) (by kernel_rfl) (by kernel_rfl) (fun _ _ _ h => h) (Or.inr ⟨by rfl, rfl⟩) hHeld ?_
      refine wpAnyH_take (i := 8) (oi := ⟨some 26, _, _, _, _, _⟩) (v := undef) rfl (by kernel_rfl) (by kernel_rfl) (by kernel_rfl) (fun _ _ _ h => h) (Or.inr ⟨by rfl, rfl⟩) hHeld ?_
      refine wpAnyH_take (i := 9) (oi := ⟨some 27, _, _, _, _, _⟩) (v := undef) rfl (by kernel_rfl) (by kernel_rfl) (by kernel_rfl) (fun _ _ _ h => h) (Or.inr ⟨by rfl, rfl⟩) hHeld ?_
      refine wpAnyH_take (i := 10) (oi := ⟨some 28, _, _, _, _, _⟩) (v := .bool false) rfl (by kernel_rfl) (by kernel_rfl) (by kernel_rfl) (fun _ _ _ h => h) (Or.inl ⟨by rfl, ?y1⟩) hHeld ?_
      case y1 => intro w hSw; obtain ⟨s0, s1, s2⟩ := hSw; go_simp
      simp only [Act.put, List.setIfInBounds_toArray, List.set_cons_zero, List.set_cons_succ]
      refine wpAnyH_take (i := 11) (oi := ⟨some 29, _, _, _, _, _⟩) (v := .bool false) rfl (by kernel_rfl) (by kernel_rfl) (by kernel_rfl) (fun _ _ _ h => h) (Or.inl ⟨by rfl, ?y1⟩) hHeld ?_
      case y1 => intro w hSw; obtain ⟨s0, s1, s2⟩ := hSw; go_simp
      simp only [Act.put, List.setIfInBounds_toArray, List.set_cons_zero, List.set_cons_succ]
      refine wpAnyH_take (i := 12) (oi := ⟨some 30, _, _, _, _, _⟩) (v := undef) rfl (by kernel_rfl) (by kernel_rfl) (by kernel_rfl) (fun _ _ _ h => h) (Or.inr ⟨by rfl, rfl⟩) hHeld ?_
      refine wpAnyH_take (i := 13) (oi := ⟨some 31, _, _, _, _, _⟩) (v := undef) rfl (by kernel_rfl) (by kernel_rfl) (by kernel_rfl) (fun _ _ _ h => h) (Or.inr ⟨by rfl, rfl⟩) hHeld ?_
      refine wpAnyH_take (i := 14) (oi := ⟨some 32, _, _, _, _, _⟩) (v := undef) rfl (by kernel_rfl) (by kernel_rfl) (by kernel_rfl) (fun _ _ _ h => h) (Or.inr ⟨by rfl, rfl⟩) hHeld ?_
      refine wpAnyH_take (i := 15) (oi := ⟨some 33, _, _, _, _, _⟩) (v := .bool false) rfl (by kernel_rfl) (by kernel_rfl) (by kernel_rfl) (fun _ _ _ h => h) (Or.inl ⟨by rfl, ?y1⟩) hHeld ?_
      case y1 => intro w hSw; obtain ⟨s0, s1, s2⟩ := hSw; go_simp
      simp only [Act.put, List.setIfInBounds_toArray, List.set_cons_zero, List.set_cons_succ]
      refine wpAnyH_take (i := 16) (oi := ⟨some 34, _, _, _, _, _⟩) (v := .bool false) rfl (by kernel_rfl) (by kernel_rfl) (by kernel_rfl) (fun _ _ _ h => h) (Or.inl ⟨by rfl, ?y1⟩) hHeld ?_
      case y1 => intro w hSw; obtain ⟨s0, s1, s2⟩ := hSw; go_simp
      simp only [Act.put, List.setIfInBounds_toArray, List.set_cons_zero, List.set_cons_succ]
      refine wpAnyH_take (i := 17) (oi := ⟨some 35, _, _, _, _, _⟩) (v := undef) rfl (by kernel_rfl) (by kernel_rfl) (by kernel_rfl) (fun _ _ _ h => h) (Or.inr ⟨by rfl, rfl⟩) hHeld ?_
      refine wpAnyH_take (i := 18) (oi := ⟨some 36, _, _, _, _, _⟩) (v := undef) rfl (by kernel_rfl) (by kernel_rfl) (by kernel_rfl) (fun _ _ _ h => h) (Or.inr ⟨by rfl, rfl⟩) hHeld ?_
      refine wpAnyH_take (i := 19) (oi := ⟨some 37, _, _, _, _, _⟩) (v := undef) rfl (by kernel_rfl) (by kernel_rfl) (by kernel_rfl) (fun _ _ _ h => h) (Or.inr ⟨by rfl, rfl⟩) hHeld ?_
      refine wpAnyH_take (i := 20) (oi := ⟨some 38, _, _, _, _, _⟩) (v := undef) rfl (by kernel_rfl) (by kernel_rfl) (by kernel_rfl) (fun _ _ _ h => h) (Or.inr ⟨by rfl, rfl⟩) hHeld ?_
      refine wpAnyH_take (i := 21) (oi := ⟨some 39, _, _, _, _, _⟩) (v := undef) rfl (by kernel_rfl) (by kernel_rfl) (by kernel_rfl) (fun _ _ _ h => h) (Or.inr ⟨by rfl, rfl⟩) hHeld ?_
      refine wpAnyH_take (i := 22) (oi := ⟨some 40, _, _, _, _, _⟩) (v := .bool false) rfl (by kernel_rfl) (by kernel_rfl) (by kernel_rfl) (fun _ _ _ h => h) (Or.inl ⟨by rfl, ?y1⟩) hHeld ?_
      case y1 => intro w hSw; obtain ⟨s0, s1, s2⟩ := hSw; go_simp
      simp only [Act.put, List.setIfInBounds_toArray, List.set_cons_zero, List.set_cons_succ]
      refine wpAnyH_ready (rs := [23]) (by kernel_rfl) (by simp) (AllReadyH.cons (o := ⟨none, _, _, _, _, _⟩) rfl (fun KK hKK => ?_) AllReadyH.nil)
      rw [if_pos (by rfl)]
      have Hheld := Lib.hid hHeld
      clear hHeld
      go_simp
      refine hKK.out _ _ (by go_keep) (fun hHeld => ?_)
      refine wpAnyH_take (i := 24) (oi := ⟨some 5, _, _, _, _, _⟩) (v := .bool false) rfl (by kernel_rfl) (by kernel_rfl) (by kernel_rfl) (fun _ _ _ h => h) (Or.inl ⟨by rfl, ?y1⟩) hHeld ?_
      case y1 => intro w hSw; go_simp
      simp only [Act.put, List.setIfInBounds_toArray, List.set_cons_zero, List.set_cons_succ]
      refine wpAnyH_done (by kernel_rfl) ?_ _
      all_goals
        go_wp2
        refine bodyPost_ret (v := .tuple #[.agg (clI x y), .bool false]) ?_ rfl ⟨by rw [Hok.out, okB_no (by omega)], below_drewN ((Hb3.out.setCell (p := ⟨w.heap.size + 1, 0, none⟩) (by simp) _).setCell (p := ⟨w.heap.size + 1, 1, none⟩) (by simp) _) 1⟩
        exact results_cell_two (p := 4) (q := 5) rfl _ _ (w.heap.size + 1) _ rfl (Try.load_clI (HC0.out.set2 x y))
end Go.Proofs.Ytogkmfndfedfiaa

