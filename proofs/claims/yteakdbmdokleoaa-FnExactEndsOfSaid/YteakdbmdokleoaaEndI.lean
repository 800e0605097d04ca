/- Contract of the program: the ends of the drawn edges outwards, in order, as edges and as lists. Condition: 1 to 6 rows. -/
import Derived.Test.YteakdbmdokleoaaEdge
import Derived.Test.YteakdbmdokleoaaCntP
import Derived.Deep.RegionHeld3
import Derived.Deep.AppendLies
namespace Go.Proofs.Yteakdbmdokleoaa
open Go.RowKit

/-- the point of an end by its side -/
def ptAt (n1 a b q : Nat) : Nat × Nat := if q = 0 then (0, a) else if q = 1 then (a, n1) else if q = 2 then (n1, b) else (b, 0)
theorem endAt_pt (n t : Nat) : endAt n t = (if (2 * t + 1) / n < 3 then (2 * t + 1) / n else 3, ptAt (n - 1) ((2 * t + 1) % n) (n - 1 - (2 * t + 1) % n) ((2 * t + 1) / n)) := by
  unfold endAt ptAt
  generalize (2 * t + 1) / n = q
  split
  · next h => rw [if_pos (by omega), h]
  · split
    · next h => rw [if_pos (by omega), h]
    · split
      · next h => rw [if_pos (by omega), h]
      · rw [if_neg (by omega)]
def cellsP (n1 a b : Nat) : Array Value := pts (0, (a : Int)) ((a : Int), (n1 : Int)) ((n1 : Int), (b : Int)) ((b : Int), 0)
theorem Try.built_cellsP (n1 a b : Nat) : Try.prog.built 126 [(0, .agg #[.int .i64 0, .int .i64 (a : Int)]), (1, .agg #[.int .i64 (a : Int), .int .i64 (n1 : Int)]), (2, .agg #[.int .i64 (n1 : Int), .int .i64 (b : Int)]), (3, .agg #[.int .i64 (b : Int), .int .i64 0])] = some (cellsP n1 a b) := Try.built_points _ _ _ _ _ _ _ _
theorem Try.size_cellsP (n1 a b : Nat) : (Try.prog.info? 126).map (·.size) = some (cellsP n1 a b).size := Try.size_points _ _ _ _
theorem cellsP_one (n1 a b : Nat) : (cellsP n1 a b).all (·.oneCell') = true := by simp [cellsP, pts, Value.oneCell']
theorem erow_one (e : Nat × Nat × Nat) : (erow e).toArray.all (·.oneCell') = true := by simp [erow, Value.oneCell']
theorem cellsP_at {w : World} {g n1 a b q : Nat} {t : TypeId} {fz : Nat × Nat} (h : w.heap[g]? = some (.cells (cellsP n1 a b) t fz)) (hq : q < 4) : w.rangeAt g (2 * q) [.int .i64 ((ptAt n1 a b q).1 : Int), .int .i64 ((ptAt n1 a b q).2 : Int)] := by
  intro j v hv
  have hj2 : j < 2 := (List.getElem?_eq_some_iff.1 hv).1
  rw [cell_of_row w g _ _ _ _ h]
  obtain rfl | rfl | rfl | rfl : q = 0 ∨ q = 1 ∨ q = 2 ∨ q = 3 := by omega
  all_goals
    rcases j with _ | j
    · rw [← hv]; rfl
    · obtain rfl : j = 0 := by omega
      rw [← hv]; rfl

set_option maxRecDepth 100000 in
set_option maxHeartbeats 800000 in
theorem endsOf_any (n : Nat) (w : World) (hn1 : 1 ≤ n) (hn : n ≤ 6) :
    Calls Try.prog 86 #[.int .i64 (n : Int)] w fun e w' => ∃ v, e = .returned v ∧ OwnE w' w.heap.size v (endsL n) ∧ Below w.heap.size w w' := by
  obtain ⟨c0, hc, hz0, hz1, hz2⟩ := info_parts Try.info_edge
  have hn0 : ((n : Int) == 0) = false := beq_false_of_ne (by omega)
  go_enter Try.func86, Try.ntmps86
  go_wp2
  go_loopw [3, 4] (fun out i wr => ∃ (t kk : Nat), t ≤ 2 * n ∧ kk = 2 * t + 1 ∧ i = .int .i64 (kk : Int) ∧ OwnE wr w.heap.size out ((List.range t).map (endAt n)) ∧ Below w.heap.size w wr) (fun _ i _ => 4 * n + 2 - (intOf i).toNat)
  case atStart => exact ⟨0, 1, Nat.zero_le _, rfl, rfl, OwnE.nil _ _, Below.refl _ _⟩
  case round =>
    obtain ⟨t, kk, ht, hkk, rfl, hown, hbr⟩ := hrel
    have Hkk := Lib.hid hkk
    have hkb : kk ≤ 25 := by omega
    by_cases hlt : kk < 4 * n
    · obtain ⟨q, hq⟩ : ∃ q : Nat, (kk : Int) / (n : Int) = (q : Int) := ⟨kk / n, by rw [Int.natCast_ediv]⟩
      obtain ⟨a, ha⟩ : ∃ a : Nat, (kk : Int) % (n : Int) = (a : Int) := ⟨kk % n, by rw [Int.natCast_emod]⟩
      have hqn : q = kk / n := by rw [← Int.natCast_ediv] at hq; omega
      have han : a = kk % n := by rw [← Int.natCast_emod] at ha; omega
      have hal : a < n := by rw [han]; exact Nat.mod_lt _ (by omega)
      have hq4 : q < 4 := by rw [hqn]; exact Nat.div_lt_of_lt_mul (by omega)
      obtain ⟨b, hb⟩ : ∃ b : Nat, (n : Int) - 1 - (a : Int) = (b : Int) := ⟨n - 1 - a, by omega⟩
      obtain ⟨n1, hn1'⟩ : ∃ n1 : Nat, (n : Int) - 1 = (n1 : Int) := ⟨n - 1, by omega⟩
      have he : endAt n t = (q, ptAt n1 a b q) := by
        rw [endAt_pt, ← hkk, ← hqn, ← han, show n - 1 = n1 from by omega, show n1 - a = b from by omega]
        by_cases h3 : q < 3
        · rw [if_pos h3]
        · rw [if_neg h3, show q = 3 from by omega]
      have Hsn := Lib.hid (show (List.range (t + 1)).map (endAt n) = (List.range t).map (endAt n) ++ [(q, ptAt n1 a b q)] by rw [← he]; simp [List.range_succ])
      have Hlen := Lib.hid (show ((List.range t).map (endAt n)).length = t by simp)
      have hb1 : (n1 : Int) - (a : Int) = (b : Int) := by omega
      have hbn : n1 ≤ 5 ∧ b ≤ 5 := by omega
      obtain ⟨oa, oc, rfl, _, _, _⟩ := hown.read
      have Hown := Lib.hid hown
      have Hbr := Lib.hid hbr
      have HZ := Lib.hid hbr.size
      have hlt4 : (kk : Int) < 4 * (n : Int) := by omega
      rw [Hlen.out] at Hown ⊢
      clear hown hbr hqn han he hkk hal
      go_upto_region 5 with (fail)
      go_quiet (fail)
      go_upto_region 6 with (fail)
      generalize hWd : World.drewN wr _ = wd
      have hqd : Below wr.heap.size wr wd := by rw [← hWd]; exact (Q.refl _).drewN _ |>.below _
      have HZd := Lib.hid (Nat.le_trans HZ.out hqd.size)
      have Hbd := Lib.hid (Hbr.out.trans (hqd.mono HZ.out))
      have Hod := Lib.hid (Hown.out.below hqd)
      clear hqd hWd
      go_upto_region 7 with (first
        | (refine wpList_allocT rfl 126 rfl _ _ Try.info_points ?_)
        | (refine wpList_storeT rfl 126 _ _ rfl (cellsP n1 a b) (pts (0, 0) (0, 0) (0, 0) (0, 0)) wd.heap.size rfl rfl rfl (Try.size_cellsP n1 a b) rfl (cellsP_one n1 a b) ?_))
      generalize hW : World.alloc wd _ = w3
      have hP : w3.heap[wd.heap.size]? = some (.cells (cellsP n1 a b) 126 (0, 0)) := by rw [← hW]; exact heap_alloc_new wd _
      have hb3 : Below wd.heap.size wd w3 := by rw [← hW]; exact (Below.refl _ _).alloc (Nat.le_refl _) _
      have hR := cellsP_at hP hq4
      obtain ⟨pi, hpi⟩ : ∃ pi, pi = (ptAt n1 a b q).1 := ⟨_, rfl⟩
      obtain ⟨pj, hpj⟩ : ∃ pj, pj = (ptAt n1 a b q).2 := ⟨_, rfl⟩
      have hpt : ptAt n1 a b q = (pi, pj) := by rw [hpi, hpj]
      rw [← hpi, ← hpj] at hR
      rw [hpt] at Hsn
      have HR := Lib.hid hR
      have HO3 := Lib.hid (Hod.out.below hb3)
      have HB3 := Lib.hid (Hbd.out.trans (hb3.mono HZd.out))
      have HZ3 := Lib.hid HB3.out.size
      clear hW hP hb3 hR hpi hpj hpt Hown Hbr
      simp only [Act.put, List.setIfInBounds_toArray, List.set_cons_zero, List.set_cons_succ]
      refine wp_region_held_drew (S := fun w' => w'.rangeAt wd.heap.size (2 * q) [.int .i64 (pi : Int), .int .i64 (pj : Int)]) (by kernel_rfl) HR.out (fun hHeld => ?_)
      refine wpAnyH_take (i := 0) (oi := ⟨some 36, _, _, _, _, _⟩) (v := .slice oa t oc) rfl (by kernel_rfl) (by kernel_rfl) (by kernel_rfl) (fun _ _ _ h => h) (Or.inl ⟨by rfl, ?y0⟩) hHeld ?_
      case y0 => intro w hSw; go_simp
      simp only [Act.put, List.setIfInBounds_toArray, List.set_cons_zero, List.set_cons_succ]
      refine wpAnyH_take (i := 1) (oi := ⟨some 37, _, _, _, _, _⟩) (v := .int .i64 (kk : Int)) rfl (by kernel_rfl) (by kernel_rfl) (by kernel_rfl) (fun _ _ _ h => h) (Or.inl ⟨by rfl, ?y1⟩) hHeld ?_
      case y1 => intro w hSw; go_simp
      simp only [Act.put, List.setIfInBounds_toArray, List.set_cons_zero, List.set_cons_succ]
      refine wpAnyH_take (i := 2) (oi := ⟨some 38, _, _, _, _, _⟩) (v := .int .i64 (n : Int)) rfl (by kernel_rfl) (by kernel_rfl) (by kernel_rfl) (fun _ _ _ h => h) (Or.inl ⟨by rfl, ?y2⟩) hHeld ?_
      case y2 => intro w hSw; go_simp
      simp only [Act.put, List.setIfInBounds_toArray, List.set_cons_zero, List.set_cons_succ]
      refine wpAnyH_take (i := 3) (oi := ⟨some 39, _, _, _, _, _⟩) (v := .int .i64 (q : Int)) rfl (by kernel_rfl) (by kernel_rfl) (by kernel_rfl) (fun _ _ _ h => h) (Or.inl ⟨by rfl, ?y3⟩) hHeld ?_
      case y3 => intro w hSw; go_simp; rw [if_neg (by omega), w64 (by omega)]
      simp only [Act.put, List.setIfInBounds_toArray, List.set_cons_zero, List.set_cons_succ]
      refine wpAnyH_take (i := 4) (oi := ⟨some 40, _, _, _, _, _⟩) (v := .pointer (some ⟨wd.heap.size, 2 * q, none⟩)) rfl (by kernel_rfl) (by kernel_rfl) (by kernel_rfl) (fun _ _ _ h => h) (Or.inl ⟨by rfl, ?y4⟩) hHeld ?_
      case y4 => intro w hSw; go_simp; rw [if_pos (by omega), Nat.mul_comm]
      simp only [Act.put, List.setIfInBounds_toArray, List.set_cons_zero, List.set_cons_succ]
      refine wpAnyH_take (i := 5) (oi := ⟨some 41, _, _, _, _, _⟩) (v := .agg [.int .i64 (pi : Int), .int .i64 (pj : Int)].toArray) rfl (by kernel_rfl) (by kernel_rfl) (by kernel_rfl) (fun _ _ _ h => h) (yieldsIf_load_mid (by rfl) _ _ rfl wd.heap.size (2 * q) rfl [.int .i64 (pi : Int), .int .i64 (pj : Int)] _ (fun w hw => hw) Try.underlying72 rfl (Try.size_pointl pi pj)) hHeld ?_
      simp only [Act.put, List.setIfInBounds_toArray, List.set_cons_zero, List.set_cons_succ]
      refine wpAnyH_take (i := 6) (oi := ⟨some 42, _, _, _, _, _⟩) (v := .int .i64 (kk : Int)) rfl (by kernel_rfl) (by kernel_rfl) (by kernel_rfl) (fun _ _ _ h => h) (Or.inl ⟨by rfl, ?y6⟩) hHeld ?_
      case y6 => intro w hSw; go_simp
      simp only [Act.put, List.setIfInBounds_toArray, List.set_cons_zero, List.set_cons_succ]
      refine wpAnyH_take (i := 7) (oi := ⟨some 43, _, _, _, _, _⟩) (v := .int .i64 (n : Int)) rfl (by kernel_rfl) (by kernel_rfl) (by kernel_rfl) (fun _ _ _ h => h) (Or.inl ⟨by rfl, ?y7⟩) hHeld ?_
      case y7 => intro w hSw; go_simp
      simp only [Act.put, List.setIfInBounds_toArray, List.set_cons_zero, List.set_cons_succ]
      refine wpAnyH_take (i := 8) (oi := ⟨some 44, _, _, _, _, _⟩) (v := .int .i64 (q : Int)) rfl (by kernel_rfl) (by kernel_rfl) (by kernel_rfl) (fun _ _ _ h => h) (Or.inl ⟨by rfl, ?y8⟩) hHeld ?_
      case y8 => intro w hSw; go_simp; rw [if_neg (by omega), w64 (by omega)]
      simp only [Act.put, List.setIfInBounds_toArray, List.set_cons_zero, List.set_cons_succ]
      refine wpAnyH_take (i := 9) (oi := ⟨some 45, _, _, _, _, _⟩) (v := .agg #[.int .i64 (pi : Int), .int .i64 (pj : Int), .int .i64 (q : Int)]) rfl (by kernel_rfl) (by kernel_rfl) (by kernel_rfl) (fun _ _ _ h => h) (Or.inl ⟨by rfl, ?y9⟩) hHeld ?_
      case y9 => intro w hSw; go_simp
      simp only [Act.put, List.setIfInBounds_toArray, List.set_cons_zero, List.set_cons_succ]
      refine wpAnyH_ready (rs := [10]) (by kernel_rfl) (by simp) (AllReadyH.cons (o := ⟨some 46, _, _, _, _, _⟩) rfl (fun KK hKK => ?_) AllReadyH.nil)
      rw [if_pos (by rfl)]
      have Hheld := Lib.hid hHeld
      clear hHeld
      go_wp2
      have hb4 : Below w3.heap.size w3 (w3.alloc (.cells #[.int .i64 (pi : Int), .int .i64 (pj : Int), .int .i64 (q : Int)] 74)) := (Below.refl _ _).alloc (Nat.le_refl _) _
      have hnews : ∀ j u, [Value.int .i64 (pi : Int), .int .i64 (pj : Int), .int .i64 (q : Int)][j]? = some u → (w3.alloc (.cells #[.int .i64 (pi : Int), .int .i64 (pj : Int), .int .i64 (q : Int)] 74)).cell? ((⟨w3.heap.size, 0, none⟩ : Addr).add j) = some u := World.news_of_block (cs := #[.int .i64 (pi : Int), .int .i64 (pj : Int), .int .i64 (q : Int)]) (t := 74) (fr := (0, 0)) (heap_alloc_new w3 _)
      have hne : ∀ g, (Value.slice oa t oc).ownBlock = some g → g < wd.heap.size := fun g hg => (Hod.out.lt g hg).2
      have hR4 : (w3.alloc (.cells #[.int .i64 (pi : Int), .int .i64 (pj : Int), .int .i64 (q : Int)] 74)).rangeAt wd.heap.size (2 * q) [.int .i64 (pi : Int), .int .i64 (pj : Int)] := fun j v hv => cell_below (HR.out j v hv) hb4
      have HR4 := Lib.hid hR4
      have HO4 := Lib.hid (World.ownsRow.alloc HO3.out (.cells #[.int .i64 (pi : Int), .int .i64 (pj : Int), .int .i64 (q : Int)] 74))
      rw [Hlen.out] at HO4
      have Hnews := Lib.hid hnews
      have Hne := Lib.hid hne
      clear hb4 hnews hne hR4
      refine hKK.out _ _ HR4.out (fun hHeld => ?_)
      clear Hheld hKK KK
      refine wpAnyH_ready (rs := [11]) (by kernel_rfl) (by simp) (AllReadyH.cons (o := ⟨some 47, _, _, _, _, _⟩) rfl (fun KK hKK => ?_) AllReadyH.nil)
      rw [if_pos (by rfl)]
      clear hHeld
      refine wp_append_lies _ _ _ 69 (by rfl) w.heap.size 74 c0 _ 3 24 Try.underlying69 hc hz0 hz1 hz2 rfl (by omega) (.slice oa t oc) t _ (by rfl) (World.ownsRow.drew HO4.out) ⟨w3.heap.size, 0, none⟩ 1 1 [.int .i64 (pi : Int), .int .i64 (pj : Int), .int .i64 (q : Int)] (by rfl) (by rfl) Hnews.out (by simp [Value.oneCell']) (by omega) (by unfold maxLen; omega) (by omega) (by have := HZ3.out; simp; omega) (w3.heap.size + 1) (by simp) ?_
      intro g cap w5 hown5 hgrow hat hlt5
      have hR5 : w5.rangeAt wd.heap.size (2 * q) [.int .i64 (pi : Int), .int .i64 (pj : Int)] := fun j v hv => by
        refine hgrow.cell (HR4.out j v hv) ?_
        intro h
        have := Hne.out wd.heap.size h.symm
        omega
      have hput : OwnE w5 w.heap.size (.slice (some ⟨g, 0, none⟩) (t + 1) cap) ((List.range t).map (endAt n) ++ [(q, pi, pj)]) ∧ Below w.heap.size w3 w5 := by
        have hO := HO3.out
        refine ⟨?_, Below.grown (below_drewN ((Below.refl w.heap.size w3).alloc HZ3.out _) 1) hgrow (by have := HZ3.out; simp; omega) (fun k hk => (hO.lt k hk).1)⟩
        unfold OwnE
        rw [List.length_append, List.flatMap_append, Hlen.out]
        simpa [erow] using hown5
      have Hput := Lib.hid hput
      clear hput hown5 hgrow hat hlt5
      refine hKK.out _ _ hR5 (fun hHeld => ?_)
      clear hKK KK hR5
      refine wpAnyH_take (i := 12) (oi := ⟨some 3, _, _, _, _, _⟩) (v := .slice (some ⟨g, 0, none⟩) (t + 1) cap) rfl (by kernel_rfl) (by kernel_rfl) (by kernel_rfl) (fun _ _ _ h => h) (Or.inl ⟨by rfl, ?y12⟩) hHeld ?_
      case y12 => intro w hSw; go_simp
      simp only [Act.put, List.setIfInBounds_toArray, List.set_cons_zero, List.set_cons_succ]
      refine wpAnyH_done (by kernel_rfl) ?_ _
      clear hHeld
      go_wp2
      go_roundw
      case rel => exact ⟨t + 1, kk + 2, by have := Hkk.out; omega, by rw [Hkk.out]; omega, by go_num, by rw [Hsn.out]; exact Hput.out.1, HB3.out.trans Hput.out.2⟩
      case measure => simp [intOf]; omega
    · have Et := Lib.hid (show t = 2 * n by omega)
      have Hown := Lib.hid hown
      have Hbr := Lib.hid hbr
      have hge : ¬ ((kk : Int) < 4 * (n : Int)) := by omega
      clear hown hbr hkk
      go_wp2
      go_ret
      exact ⟨_, rfl, by unfold endsL; rw [← Et.out]; exact Hown.out, Hbr.out⟩

set_option maxRecDepth 100000 in
set_option maxHeartbeats 1600000 in
theorem implEndsOf_any (n : Int) (w : World) (_ : -9223372036854775808 ≤ n ∧ n ≤ 9223372036854775807) :
    Calls Try.prog 39 #[.int .i64 n] w fun e w' => MRes (in6 n) (endsM n.toNat) w' w.heap.size e ∧ Below w.heap.size w w' := by
  obtain ⟨j0, hj, hy0, hy1, hy2⟩ := info_parts Try.info_ints
  by_cases h1 : 1 ≤ n
  · by_cases h6 : n ≤ 6
    · obtain ⟨m, rfl⟩ : ∃ m : Nat, n = m := ⟨n.toNat, by omega⟩
      have Hy := Lib.hid (show in6 (m : Int) from ⟨h1, h6⟩)
      rw [Int.toNat_natCast]
      go_enter Try.func39, Try.ntmps39
      go_wp2_with fail
      refine (endsOf_any m w (by omega) (by omega)).mono ?_
      rintro e w2 ⟨v, rfl, hv, hb⟩
      obtain ⟨ea, ec, rfl, _, _, hx⟩ := hv.read
      have Hx := Lib.hid hx
      have Hb := Lib.hid hb
      have HZ2 := Lib.hid hb.size
      obtain ⟨es, hes⟩ : ∃ es, es = endsL m := ⟨_, rfl⟩
      have hlen : es.length = 2 * m := by rw [hes, endsL_len]
      rw [← hes] at Hx ⊢
      have Hes := Lib.hid (show endsM m = es.map endRow by rw [hes]; rfl)
      clear hv hx hb hes
      go_wp2
      go_loopw [4, 16] (fun out i wr => ∃ k : Nat, k ≤ es.length ∧ i = .int .i64 k ∧ OwnM wr w2.heap.size out ((es.take k).map endRow) ∧ Below w2.heap.size w2 wr) (fun _ i _ => es.length - (intOf i).toNat)
      case atStart => exact ⟨0, Nat.zero_le _, rfl, OwnM.nil _ _, Below.refl _ _⟩
      case round =>
        obtain ⟨k, hk, rfl, hown, hbr⟩ := hrel
        by_cases hlt : k < es.length
        · obtain ⟨g, o, rfl, hr⟩ := Hx.out.below hbr k hlt
          obtain ⟨d, hdv⟩ : ∃ d, d = es[k] := ⟨_, rfl⟩
          have htk : es.take (k + 1) = es.take k ++ [d] := by rw [List.take_add_one, List.getElem?_eq_getElem hlt, hdv]; rfl
          rw [← hdv] at hr
          have Hr := Lib.hid hr
          have Hown := Lib.hid hown
          have Hbr := Lib.hid hbr
          have HZr := Lib.hid hbr.size
          obtain ⟨M, hM⟩ : ∃ M, M = (es.take k).map endRow := ⟨_, rfl⟩
          have hml : M.length ≤ 12 := by rw [hM, List.length_map, List.length_take]; omega
          have Hsn := Lib.hid (show (es.take (k + 1)).map endRow = M ++ [endRow d] by rw [htk, List.map_append, ← hM]; rfl)
          rw [← hM] at Hown
          clear hown hbr hr hdv htk hM
          go_upto_region 7 with (first
            | (refine wpList_load_mid rfl 74 _ rfl g (o + k * 3) rfl (erow d) _ Hr.out Try.underlying74 rfl (Try.size_edgel _) ?_)
            | (refine wpList_allocT rfl 74 rfl _ _ Try.info_edge2 ?_)
            | (refine wpList_storeT rfl 74 _ _ rfl (erow d).toArray #[.int .i64 0, .int .i64 0, .int .i64 0] wr.heap.size rfl rfl rfl (Try.size_edgel _) rfl (erow_one d) ?_))
          generalize hW : World.alloc wr _ = w3
          have hC : w3.heap[wr.heap.size]? = some (.cells (erow d).toArray 74 (0, 0)) := by rw [← hW]; exact heap_alloc_new wr _
          have hb3 : Below wr.heap.size wr w3 := by rw [← hW]; exact (Below.refl _ _).alloc (Nat.le_refl _) _
          clear hW
          have h0 : w3.cell? ⟨wr.heap.size, 0, none⟩ = some (.int .i64 (d.2.1 : Int)) := by rw [cell_of_row w3 _ 0 _ _ _ hC]; rfl
          have h1 : w3.cell? ⟨wr.heap.size, 1, none⟩ = some (.int .i64 (d.2.2 : Int)) := by rw [cell_of_row w3 _ 1 _ _ _ hC]; rfl
          have h2 : w3.cell? ⟨wr.heap.size, 2, none⟩ = some (.int .i64 (d.1 : Int)) := by rw [cell_of_row w3 _ 2 _ _ _ hC]; rfl
          have hrow : endRow d = [(d.1 : Int), (d.2.1 : Int), (d.2.2 : Int)] := rfl
          rw [hrow] at Hsn
          have Hown3 := Lib.hid (Hown.out.below hb3)
          have Hbr3 := Lib.hid (Hbr.out.trans (hb3.mono HZr.out))
          have HZ3 := Lib.hid Hbr3.out.size
          clear hC hb3 Hown Hbr hrow
          generalize (d.1 : Int) = x at h2 Hsn
          generalize (d.2.1 : Int) = y at h0 Hsn
          generalize (d.2.2 : Int) = z at h1 Hsn
          obtain ⟨vs, hown⟩ := Hown3.out
          have Hnew := Lib.hid ((Below.refl w3.heap.size w3).alloc (Nat.le_refl _) (.cells #[.int .i64 x, .int .i64 y, .int .i64 z] 3))
          have Hown4 := Lib.hid ((hown.below Hnew.out).more (r := [x, y, z]))
          have hu : OwnI (w3.alloc (.cells #[.int .i64 x, .int .i64 y, .int .i64 z] 3)) w3.heap.size (.slice (some ⟨w3.heap.size, 0, none⟩) 3 3) [x, y, z] := World.ownsRow_lit w3 #[.int .i64 x, .int .i64 y, .int .i64 z] 3 (Nat.le_refl _) (by unfold maxLen; omega) rfl
          have Hu := Lib.hid hu
          have Hfr := Lib.hid (hown.fresh hu (Nat.le_refl _))
          clear hu hown Hown3
          go_wp2_with (at_builtin; refine wpList_append_own _ rfl _ _ 22 rfl w2.heap.size 42 j0 (.slice none 0 0) 1 24 Try.underlying22 hj hy0 hy1 hy2 rfl (by decide) _ _ _ rfl (World.ownsRow.alloc Hown4.out.top _) ⟨w3.heap.size + 1, 0, none⟩ 1 1 [.slice (some ⟨w3.heap.size, 0, none⟩) 3 3] rfl rfl ?d1 ?d2 ?d3 ?d4 ?d5 ?_)
          case d1 =>
            have e : (w3.alloc (.cells #[.int .i64 x, .int .i64 y, .int .i64 z] 3)).heap.size = w3.heap.size + 1 := by simp
            rw [← e]
            exact cell_one_new _ _ _
          case d2 => intro u hu; simp at hu; subst hu; rfl
          case d3 => unfold maxLen; omega
          case d4 => omega
          case d5 => have := HZ3.out; simp; omega
          intro v' w5 hown' hgrow _
          have hput := Hown4.out.snoc (Nat.le_trans HZ3.out Hnew.out.size) (by rw [gr_last]; exact Hu.out.base HZ3.out) Hfr.out hown' hgrow
          have Hput := Lib.hid (show OwnM w5 w2.heap.size v' (M ++ [[x, y, z]]) from ⟨_, by rw [List.length_append]; exact hput.1⟩)
          have Hb5 := Lib.hid (Hbr3.out.trans ((Hnew.out.mono Hbr3.out.size).trans hput.2))
          clear hput hown' hgrow Hown4 Hu Hfr Hnew h0 h1 h2
          go_wp2
          go_roundw
          case rel => exact ⟨k + 1, by omega, by go_num, by rw [Hsn.out]; exact Hput.out, Hb5.out⟩
          case measure => simp [intOf]; omega
        · have Ek := Lib.hid (show k = es.length by omega)
          have ho := hown
          rw [Ek.out, List.take_length, ← Hes.out] at ho
          have Ho := Lib.hid ho
          have Hbr := Lib.hid (Hb.out.trans (hbr.mono HZ2.out))
          clear ho hown hbr
          go_wp2
          go_ret2
          exact ⟨MRes.yes Hy.out (Ho.out.base HZ2.out), Hbr.out⟩
    · go_enter Try.func39, Try.ntmps39
      go_wp2
      go_ret2
      exact ⟨MRes.no fun h => by have := h.2; omega, Below.refl _ _⟩
  · go_enter Try.func39, Try.ntmps39
    go_wp2
    go_ret2
    exact ⟨MRes.no fun h => by have := h.1; omega, Below.refl _ _⟩
end Go.Proofs.Yteakdbmdokleoaa
