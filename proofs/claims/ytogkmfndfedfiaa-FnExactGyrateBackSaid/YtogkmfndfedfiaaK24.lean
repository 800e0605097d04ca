/- Parts of proofs: contracts and plain facts. Conditions: as each says. -/
import Derived.Test.YtogkmfndfedfiaaK23
namespace Go.Proofs.Ytogkmfndfedfiaa
open Go.RowKit

/-- not of the colour -/
def offCol (col : Int) (p : Nat × Nat) : Bool := !(decide (((p.1 : Int) + (p.2 : Int)) % 2 = col))
theorem offCol_filter (col : Int) (cs : List (Nat × Nat)) : cs.filter (fun p => !offCol col p) = colL col cs := by
  unfold colL offCol
  congr 1
  funext p
  simp

theorem CellsAt.setRow {w : World} {ao : Option Addr} {cs : List (Nat × Nat)} (h : CellsAt w ao cs) {g' : Nat} (v : Array Value) (hne : ∀ g o, ao = some ⟨g, o, none⟩ → g ≠ g') : CellsAt (w.setRow g' v) ao cs := fun t ht => by
  obtain ⟨g, o, e, hr⟩ := h t ht
  refine ⟨g, o, e, fun j u hj => ?_⟩
  have h1 := hr j u hj
  have h2 := Go.setRow_other w g' g v (hne g o e)
  simp only [World.cell?] at h1 ⊢
  rw [h2]
  exact h1

set_option maxRecDepth 100000 in
set_option maxHeartbeats 1600000 in
theorem colClosure (gc : Nat) (col : Int) (i j : Nat) (w : World) (hi : i ≤ 100) (hj : j ≤ 100) (hc : w.cell? ⟨gc, 0, none⟩ = some (.int .i64 col)) :
    Calls Try.prog 126 #[.agg (cl i j), .pointer (some ⟨gc, 0, none⟩)] w fun e w' => e = .returned (.bool (offCol col (i, j))) ∧ Below w.heap.size w w' := by
  have hlt := World.block_lt_of_cell? _ _ hc
  obtain ⟨d, hd⟩ : ∃ d, d = offCol col (i, j) := ⟨_, rfl⟩
  rw [← hd]
  have hdd : (((i : Int) + j) % 2 != col) = d := by
    rw [hd]
    unfold offCol
    by_cases e : ((i : Int) + j) % 2 = col <;> simp [e]
  have Hdd := Lib.hid hdd
  clear hd hdd
  go_enter Try.func126, Try.ntmps126
  go_upto_region 1 with (refine wpList_boxT rfl 59 _ rfl _ rfl ?_)
  generalize hW : World.alloc w _ = w1
  have hC : CellAt w1 w.heap.size i j := by rw [← hW]; exact heap_alloc_new w _
  have hB : Below w.heap.size w w1 := by rw [← hW]; exact (Below.refl _ _).alloc (Nat.le_refl _) _
  clear hW
  have h0 := hC.c0
  have h1 := hC.c1
  have hc' := cell_below hc hB
  have HB := Lib.hid hB
  clear hC hB hc hlt
  cases d
  all_goals
    have hq := Hdd.out
    go_wp2
    go_ret
    exact ⟨rfl, HB.out⟩

set_option maxRecDepth 100000 in
set_option maxHeartbeats 1600000 in
theorem coloured_any (n : Nat) (f : Nat → Nat → Int) (col : Int) (w : World) (hn1 : 1 ≤ n) (hn : n ≤ 6) :
    Calls Try.prog 91 #[.agg (tc n f), .int .i64 col] w fun e w' => ∃ v, e = .returned v ∧ OwnK w' (w.heap.size + 1) v (colL col (allCells n n)) ∧ Below w.heap.size w w' := by
  go_enter Try.func91, Try.ntmps91
  go_upto_region 1 with (refine wpList_boxT rfl 54 _ rfl _ rfl ?_)
  generalize hW : World.alloc (World.alloc w _) _ = w1
  have hT : TerrAt w1 w.heap.size n f := by rw [← hW]; exact two_bot w _ _ _
  have hc : w1.cell? ⟨w.heap.size + 1, 0, none⟩ = some (.int .i64 col) := by
    rw [← hW]
    have e := heap_alloc2_new w (.cells (tc n f) 54) (.cells #[.int .i64 col] 3)
    rw [cell_of_row _ _ 0 _ _ _ e]
    rfl
  have hB : Below w.heap.size w w1 := by rw [← hW]; exact two_below w _ _
  have hz3 : w1.heap.size = w.heap.size + 2 := by rw [← hW]; simp
  clear hW
  have HZ3 := Lib.hid hz3
  clear hz3
  have HT := Lib.hid hT
  have Hc := Lib.hid hc
  have HB := Lib.hid hB
  have HZ := Lib.hid hB.size
  clear hT hc hB
  go_wp2_with (refine wpList_loadG rfl 54 _ rfl w.heap.size rfl _ _ HT.out Try.underlying54 rfl (Try.size_terr _ _) ?_)
  refine (cells_any n f w1 hn1 hn).mono ?_
  rintro e w2 ⟨v2, rfl, hv2, hb2⟩
  have hpred : PredCol w1.heap.size (w.heap.size + 1) (offCol col) (allCells n n) w2 := fun w' hb p hp => by
    have hin := mem_allCells hp
    have hcc := cell_below Hc.out hb2
    have hlt := World.block_lt_of_cell? _ _ Hc.out
    refine colClosure (w.heap.size + 1) col p.1 p.2 w' (by omega) (by omega) ?_
    rw [hb.cell (p := ⟨w.heap.size + 1, 0, none⟩) hlt]
    exact hcc
  have hcall := deleteCol w1.heap.size (w.heap.size + 1) (offCol col) (allCells n n) v2 w2 hb2.size (Nat.le_trans (allCells_all hn) (by omega)) hv2.k hpred
  rw [offCol_filter] at hcall
  have Hcall := Lib.hid hcall
  have Hb2 := Lib.hid (HB.out.trans (hb2.mono HZ.out))
  have HZ2 := Lib.hid hb2.size
  obtain ⟨ca, cc, rfl, _, _, _⟩ := hv2.read
  clear hcall hpred hv2 hb2
  go_wp2_with fail
  refine Hcall.out.mono ?_
  rintro e w3 ⟨v3, rfl, hk3, hb3⟩
  have hk4 : OwnK w3 (w.heap.size + 1) v3 (colL col (allCells n n)) := by
    obtain ⟨a, c, e, h1, h2, h3, h4⟩ := hk3
    exact ⟨a, c, e, h1, h2, h3, fun g o e => by have := h4 g o e; have := HZ3.out; omega⟩
  have Hk4 := Lib.hid hk4
  have Hb3 := Lib.hid (Hb2.out.trans (hb3.mono HZ.out))
  clear hk3 hb3 hk4
  go_wp2
  go_ret
  exact ⟨v3, rfl, Hk4.out, Hb3.out⟩

set_option maxRecDepth 100000 in
set_option maxHeartbeats 1600000 in
theorem flipOf_any (n : Nat) (c : Nat → Nat → Int) (col : Int) (w : World) (hn1 : 1 ≤ n) (hn : n ≤ 6) (hc : Crn n c) :
    Calls Try.prog 161 #[.int .i64 col, .agg (tc n (pad n (hOf c)))] w fun e w' => e = .returned (.agg (tc n (pad n (hOf (togL c (colL col (allCells n n))))))) ∧ Below w.heap.size w w' := by
  have Hc := Lib.hid hc
  clear hc
  go_enter Try.func161, Try.ntmps161
  go_upto_region 1 with (first | (refine wpList_boxT rfl 54 _ rfl _ rfl ?_) | (refine wpList_allocT rfl 54 rfl _ _ Try.info_terr ?_))
  generalize hW : World.alloc (World.alloc w _) _ = w1
  have hT : TerrAt w1 w.heap.size n (pad n (hOf c)) := by rw [← hW]; exact two_bot w _ _ _
  have hR : TerrAt w1 (w.heap.size + 1) 0 z0 := by rw [← hW]; exact two_top w _ _ _
  have hB : Below w.heap.size w w1 := by rw [← hW]; exact two_below w _ _
  clear hW
  have HT := Lib.hid hT
  have HR := Lib.hid hR
  have HB := Lib.hid hB
  have HZ := Lib.hid hB.size
  clear hT hR hB
  go_wp2_with (refine wpList_loadG rfl 54 _ rfl w.heap.size rfl _ _ HT.out Try.underlying54 rfl (Try.size_terr _ _) ?_)
  refine (coloured_any n (pad n (hOf c)) col w1 hn1 hn).mono ?_
  rintro e w2 ⟨v2, rfl, hk2, hb2⟩
  have hx0 := hk2
  obtain ⟨ao, cap, rfl, _, _, _, hbl⟩ := hk2
  have hx := hx0.cells
  clear hx0
  obtain ⟨cs, hcs⟩ : ∃ cs, cs = colL col (allCells n n) := ⟨_, rfl⟩
  rw [← hcs]
  rw [← hcs] at hx
  have Hcs := Lib.hid hcs
  have Hin := Lib.hid (show ∀ p ∈ cs, inn n p by rw [hcs]; exact fun p hp => allCells_inn p (colL_mem hp))
  have hle : cs.length ≤ 36 := by rw [hcs]; exact Nat.le_trans (colL_len _ _) (allCells_all hn)
  have Hbl := Lib.hid (show ∀ g o, ao = some ⟨g, o, none⟩ → g ≠ w.heap.size from fun g o e => by have := hbl g o e; have := HZ.out; omega)
  have Hx := Lib.hid hx
  have HT2 := Lib.hid (HT.out.below hb2)
  have HR2 := Lib.hid (HR.out.below hb2)
  have Hb2 := Lib.hid (HB.out.trans (hb2.mono HZ.out))
  obtain ⟨k, hk⟩ : ∃ k, k = cs.length := ⟨_, rfl⟩
  rw [← hk]
  rw [← hk] at hle
  have Hk := Lib.hid hk
  clear hcs hx hb2 hk HT HR HB hbl
  go_wp2
  go_loopw [11] (fun i wr => ∃ t : Nat, t ≤ k ∧ i = .int .i64 t ∧ TerrAt wr w.heap.size n (pad n (hOf (togL c (cs.take t)))) ∧ TerrAt wr (w.heap.size + 1) 0 z0 ∧ CellsAt wr ao cs ∧ Below w.heap.size w wr) (fun i _ => k - (intOf i).toNat)
  case atStart => exact ⟨0, Nat.zero_le _, rfl, HT2.out, HR2.out, Hx.out, Hb2.out⟩
  case round =>
    obtain ⟨t, ht, rfl, hT, hR, hx, hbr⟩ := hrel
    have Hbr := Lib.hid hbr
    have HZr := Lib.hid hbr.size
    have HTr := Lib.hid hT
    have HRr := Lib.hid hR
    have Hxr := Lib.hid hx
    clear hT hR HT2 HR2 Hx
    by_cases hlt : t < k
    · have hlt' : t < cs.length := by rw [← Hk.out]; exact hlt
      obtain ⟨g, o, rfl, hr⟩ := hx t hlt'
      obtain ⟨p, hpv⟩ : ∃ p, p = cs[t] := ⟨_, rfl⟩
      rw [← hpv] at hr
      have Hr := Lib.hid hr
      have hpi : inn n p := by rw [hpv]; exact Hin.out _ (List.getElem_mem _)
      have Hstep := Lib.hid (show togL c (cs.take (t + 1)) = flipC (togL c (cs.take t)) p.1 p.2 by rw [take_snoc hlt', togL_snoc, hpv])
      have Hcr := Lib.hid (Hc.out.togL (cs.take t) (fun q hq => Hin.out q (List.mem_of_mem_take hq)))
      have hcall := fun w' => toggle_any n (togL c (cs.take t)) p.1 p.2 w' hn Hcr.out hpi
      rw [← Hstep.out] at hcall
      obtain ⟨F, hF⟩ : ∃ F, F = pad n (hOf (togL c (cs.take (t + 1)))) := ⟨_, rfl⟩
      rw [← hF] at hcall
      have HF := Lib.hid hF
      have Hcall := Lib.hid hcall
      clear hlt' hpv hpi hcall hF hr hx hbr
      go_upto_region 4 with (first
        | (refine wpList_load_mid rfl 59 _ rfl g (o + t * 2) rfl (crow p) _ Hr.out Try.underlying59 rfl (Try.size_celll _ _) ?_)
        | (refine wpList_allocT rfl 59 rfl _ _ Try.info_cell ?_)
        | (refine wpList_storeT rfl 59 _ _ rfl (crow p).toArray (cl 0 0) wr.heap.size rfl rfl rfl (Try.size_cell p.1 p.2) rfl (crow_one p) ?_))
      generalize hW : World.alloc wr _ = w3
      have hC : CellAt w3 wr.heap.size p.1 p.2 := by rw [← hW]; exact heap_alloc_new wr _
      have hb3 : Below wr.heap.size wr w3 := by rw [← hW]; exact (Below.refl _ _).alloc (Nat.le_refl _) _
      clear hW
      have HC := Lib.hid hC
      have HT3 := Lib.hid (HTr.out.below hb3)
      have Hb3 := Lib.hid hb3
      clear hC hb3
      go_wp2_with (first
        | (refine wpList_loadG rfl 59 _ rfl wr.heap.size rfl _ _ HC.out Try.underlying59 rfl (Try.size_cell _ _) ?_)
        | (refine wpList_loadG rfl 54 _ rfl w.heap.size rfl _ _ HT3.out Try.underlying54 rfl (Try.size_terr _ _) ?_))
      refine (Hcall.out _).mono ?_
      rintro e w4 ⟨rfl, hb4⟩
      have hbb := Hb3.out.trans (hb4.mono Hb3.out.size)
      have HT4 := Lib.hid (HT3.out.below hb4)
      have HR4 := Lib.hid (HRr.out.below hbb)
      have Hx4 := Lib.hid (Hxr.out.below hbb)
      have Hb4 := Lib.hid (Hbr.out.trans (hbb.mono HZr.out))
      have hR5 : TerrAt (w4.setRow w.heap.size (tc n F)) (w.heap.size + 1) 0 z0 := by
        unfold TerrAt
        rw [Go.setRow_other w4 _ _ _ (by omega)]
        exact HR4.out
      have HR5 := Lib.hid hR5
      have HT5 := Lib.hid (HT4.out.setRow n F)
      have Hx5 := Lib.hid (Hx4.out.setRow (tc n F) Hbl.out)
      have Hb5 := Lib.hid (below_setRowT Hb4.out (Nat.le_refl _) (tc n F))
      clear hb4 hbb hR5
      go_wp2_with (refine wpList_storeG rfl 54 _ _ rfl w.heap.size (tc n F) _ rfl rfl HT4.out (Try.size_terr _ _) (tc_same _ _ _ _) (tc_one _ _) ?_)
      go_roundw
      case rel => exact ⟨t + 1, by omega, by go_num, by rw [← HF.out]; exact HT5.out, HR5.out, Hx5.out, Hb5.out⟩
      case measure => simp [intOf]; omega
    · obtain rfl : t = k := by omega
      have hfin : cs.take t = cs := by rw [Hk.out]; exact List.take_length
      rw [hfin] at HTr
      obtain ⟨F, hF⟩ : ∃ F, F = pad n (hOf (togL c cs)) := ⟨_, rfl⟩
      rw [← hF] at HTr
      have HF := Lib.hid (show F = pad n (hOf (togL c (colL col (allCells n n)))) by rw [hF, Hcs.out])
      clear hfin hbr hF hx
      go_wp2_with (first
        | (refine wpList_loadG rfl 54 _ rfl w.heap.size rfl _ _ HTr.out Try.underlying54 rfl (Try.size_terr _ _) ?_)
        | (refine wpList_storeG rfl 54 _ _ rfl (w.heap.size + 1) (tc n F) _ rfl rfl HRr.out (Try.size_terr _ _) (tc_same _ _ _ _) (tc_one _ _) ?_))
      refine bodyPost_ret (v := .agg (tc n F)) ?_ rfl ⟨by rw [HF.out], below_setRowT Hbr.out (by omega) (tc n F)⟩
      exact results_cell_one (p := 4) rfl _ _ (w.heap.size + 1) _ rfl (Try.load_terr (HRr.out.setRow n F))
end Go.Proofs.Ytogkmfndfedfiaa

