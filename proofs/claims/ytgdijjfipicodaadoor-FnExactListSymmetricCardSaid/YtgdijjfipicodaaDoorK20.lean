/- Parts of proofs: contracts and plain facts. Conditions: as each says. -/
import Derived.Test.YtgdijjfipicodaaDoorK19
namespace Go.Proofs.YtgdijjfipicodaaDoor
open Go.RowKit

theorem OwnLM.base {w : World} {B B' : Nat} {v : Value} {ts : List (List (List Int))} (h : OwnLM w B v ts) (hB : B' ≤ B) : OwnLM w B' v ts := by
  obtain ⟨vs, uss, h⟩ := h
  exact ⟨vs, uss, h.base hB⟩

set_option maxRecDepth 100000 in
set_option maxHeartbeats 1600000 in
theorem kindClosure_any (a : Option Addr) (c k P : Nat) (m : List (List Int)) (w : World) (hsq : square m) (hm : MatAt w a m) (hk : k < 5) (hS : Sk w) (hc : w.cell? ⟨P, 0, none⟩ = some (.int .i64 (k : Int))) :
    Calls Tryd.prog 72 #[.slice a m.length c, .pointer (some ⟨P, 0, none⟩)] w fun e w2 => e = .returned (.bool (!decide (ofK m k))) ∧ Below w.heap.size w w2 := by
  have C := Lib.hid (isOfKind_any a c k m w hsq hm hk hS)
  clear hsq hm hk hS
  go_enter Tryd.func72, Tryd.ntmps72
  go_wp2_with fail
  refine C.out.mono ?_
  rintro e w2 ⟨⟨b, rfl, hb⟩, hbw⟩
  have Hb := Lib.hid (show (!b) = !decide (ofK m k) from by
    by_cases h : ofK m k
    · rw [hb.2 h]; simp [h]
    · have : b = false := by
        cases b
        · rfl
        · exact absurd (hb.1 rfl) h
      rw [this]; simp [h])
  have HBw := Lib.hid hbw
  clear hb hbw C
  go_wp2
  go_ret
  exact ⟨by rw [← Hb.out]; rfl, HBw.out⟩

theorem keepZ_fst {k : Nat} (Z : List (List (List Int) × Value × List Value)) : (keepZ (fun m => !decide (ofK m k)) Z).map (·.1) = ofL k (Z.map (·.1)) := by
  unfold keepZ ofL
  rw [List.filter_map]
  congr 1
  refine List.filter_congr fun z _ => ?_
  simp

set_option maxRecDepth 100000 in
set_option maxHeartbeats 1600000 in
theorem signsOfKind_any (n k : Nat) (w : World) (h1 : 1 ≤ n) (h5 : n ≤ 5) (hk : k < 5) (hD : Dj w) (hS : Sk w) :
    Calls Tryd.prog 50 #[.int .i64 (n : Int), .int .i64 (k : Int)] w fun e w' => ∃ v, e = .returned v ∧ OwnLM w' w.heap.size v (ofL k (allW n)) ∧ Below w.heap.size w w' := by
  have HA0 := (allI_W5 n (by omega)).resolve_left (by omega)
  have CA := fun w' (h : Dj w') => allSignsL_any n w' h1 h5 h
  rw [HA0] at CA
  have CA := Lib.hid CA
  have Hsq := Lib.hid (fun m hm => (allW_sq n (by omega) m hm).resolve_left (by omega))
  have Hlen := Lib.hid (allW_len5 n (by omega))
  obtain ⟨w1, hw1⟩ : ∃ w1, w1 = w.alloc (.cells #[.int .i64 (k : Int)] 3) := ⟨_, rfl⟩
  have hb1 : Below w.heap.size w w1 := by rw [hw1]; exact (Below.refl _ _).alloc (Nat.le_refl _) _
  have Hc1 := Lib.hid (show w1.cell? ⟨w.heap.size, 0, none⟩ = some (.int .i64 (k : Int)) from by rw [hw1, cell_of_row _ _ 0 _ _ _ (heap_alloc_new w _)]; rfl)
  have HD1 := Lib.hid (hD.next hb1)
  have HS1 := Lib.hid (hS.below hb1)
  have HB1 := Lib.hid hb1
  have Hw1 := Lib.hid hw1
  have Hk := Lib.hid hk
  clear hw1 hb1 hD hS h1 h5 HA0
  go_enter Tryd.func50, Tryd.ntmps50
  go_wp2_with fail
  rw [← Hw1.out]
  refine (CA.out w1 HD1.out).mono ?_
  rintro e w2 ⟨v, rfl, hv, hb2⟩
  obtain ⟨vs, uss, hl⟩ := hv
  obtain ⟨Z, hZ, hZf⟩ := hl.toZ
  have hzl : Z.length ≤ 1048576 := by
    have h := congrArg List.length hZf
    rw [List.length_map] at h
    have := Hlen.out
    omega
  have CD := Lib.hid (deleteZ_any w1.heap.size w.heap.size (fun m => !decide (ofK m k)) Z v w2 hb2.size hzl hZ (fun w' hb z hz a c hm => by
    have hb3 : Below w1.heap.size w1 w' := hb2.trans hb
    exact kindClosure_any a c k w.heap.size z.1 w' (Hsq.out _ (by rw [← hZf]; exact List.mem_map_of_mem hz)) hm Hk.out (HS1.out.below hb3) (cell_below Hc1.out hb3)))
  have HF := Lib.hid (show (keepZ (fun m => !decide (ofK m k)) Z).map (·.1) = ofL k (allW n) from by rw [keepZ_fst, hZf])
  have HB2 := Lib.hid (HB1.out.trans (hb2.mono HB1.out.size))
  obtain ⟨ta, tc, rfl, _, _⟩ := hl.head
  have hll := hl.len
  obtain ⟨q, hq⟩ : ∃ q, q = (allW n).length := ⟨_, rfl⟩
  rw [← hq] at CD ⊢
  clear hl hZ hZf hb2 CA hzl hll hq
  go_wp2_with fail
  refine CD.out.mono ?_
  rintro e w3 ⟨v', rfl, hv, hb3⟩
  have HL := Lib.hid (show OwnLM w3 w.heap.size v' (ofL k (allW n)) from by rw [← HF.out]; exact hv.toL.base HB1.out.size)
  have HB3 := Lib.hid (HB2.out.trans (hb3.mono HB1.out.size))
  clear hv hb3 CD
  go_wp2
  go_ret
  exact ⟨_, rfl, HL.out, HB3.out⟩

set_option maxRecDepth 100000 in
set_option maxHeartbeats 1600000 in
theorem implListSymmetric_any (n z : Int) (w : World) (_hn : -9223372036854775808 ≤ n ∧ n ≤ 9223372036854775807) (_hz : -9223372036854775808 ≤ z ∧ z ≤ 9223372036854775807) (hD : Dj w) (hS : Sk w) :
    Calls Tryd.prog 17 #[.int .i64 n, .int .i64 z] w fun e w' => TRes (lsP n z) (lsL n z) w' w.heap.size e ∧ Below w.heap.size w w' := by
  clear _hn _hz
  obtain ⟨w1, hw1⟩ : ∃ w1, w1 = w.alloc (.cells #[.int .i64 n] 3) := ⟨_, rfl⟩
  have C := Lib.hid (allIn_any 1 5 (some ⟨w.heap.size, 0, none⟩) 1 [n] w1 (by simp) (by rw [hw1]; exact ints_oneH w _))
  have HB1 := Lib.hid (show Below w.heap.size w w1 by rw [hw1]; exact (Below.refl _ _).alloc (Nat.le_refl _) _)
  have Hw1 := Lib.hid hw1
  have CK := Lib.hid (fun w' => isKind_any z w')
  have HD := Lib.hid hD
  have HS := Lib.hid hS
  clear hw1 hD hS
  by_cases hn : 1 ≤ n ∧ n ≤ 5
  · by_cases hz : 0 ≤ z ∧ z ≤ 4
    · obtain ⟨N, rfl⟩ : ∃ N : Nat, n = N := ⟨n.toNat, by omega⟩
      obtain ⟨K, rfl⟩ : ∃ K : Nat, z = K := ⟨z.toNat, by omega⟩
      have HP := Lib.hid (show lsP (N : Int) (K : Int) from ⟨hn, hz⟩)
      have HL := Lib.hid (show lsL (N : Int) (K : Int) = ofL K (allW N) from rfl)
      have Hn := Lib.hid hn
      have Hz := Lib.hid hz
      have CS := Lib.hid (fun w' (h : Dj w') (h2 : Sk w') => signsOfKind_any N K w' (by omega) (by omega) (by omega) h h2)
      clear hn hz
      go_enter Tryd.func17, Tryd.ntmps17
      go_wp2_with fail
      rw [← Hw1.out]
      refine C.out.mono ?_
      rintro e w2 ⟨ha, rfl⟩
      obtain rfl := ha.is (allIn_oneH.2 Hn.out)
      clear ha C
      go_wp2_with fail
      refine (CK.out _).mono ?_
      rintro e w2 ⟨ha, hb⟩
      obtain rfl := ha.is Hz.out
      have HB2 := Lib.hid (HB1.out.trans (hb.mono HB1.out.size))
      clear ha hb CK
      go_wp2_with fail
      refine (CS.out w2 (HD.out.next HB2.out) (HS.out.below HB2.out)).mono ?_
      rintro e w3 ⟨v, rfl, hv, hb3⟩
      have Hv := Lib.hid (show OwnLM w3 w.heap.size v (lsL (N : Int) (K : Int)) from by rw [HL.out]; exact hv.base HB2.out.size)
      have HB3 := Lib.hid (HB2.out.trans (hb3.mono HB2.out.size))
      clear hv hb3 CS
      go_wp2
      go_ret2
      exact ⟨TRes.yes HP.out Hv.out, HB3.out⟩
    · have Hn := Lib.hid hn
      have Hz := Lib.hid hz
      have HP := Lib.hid (show ¬lsP n z from fun h => hz h.2)
      clear hn hz
      go_enter Tryd.func17, Tryd.ntmps17
      go_wp2_with fail
      rw [← Hw1.out]
      refine C.out.mono ?_
      rintro e w2 ⟨ha, rfl⟩
      obtain rfl := ha.is (allIn_oneH.2 Hn.out)
      clear ha C
      go_wp2_with fail
      refine (CK.out _).mono ?_
      rintro e w2 ⟨ha, hb⟩
      obtain rfl := ha.isnt Hz.out
      have HB2 := Lib.hid (HB1.out.trans (hb.mono HB1.out.size))
      clear ha hb CK
      go_wp2
      go_ret2
      exact ⟨TRes.no HP.out, HB2.out⟩
  · have Hn := Lib.hid hn
    have HP := Lib.hid (show ¬lsP n z from fun h => hn h.1)
    clear hn
    go_enter Tryd.func17, Tryd.ntmps17
    go_wp2_with fail
    rw [← Hw1.out]
    refine C.out.mono ?_
    rintro e w2 ⟨ha, rfl⟩
    obtain rfl := ha.isnt (fun k => Hn.out (allIn_oneH.1 k))
    clear ha C
    go_wp2
    go_ret2
    exact ⟨TRes.no HP.out, HB1.out⟩
theorem tot_sq {m : List (List Int)} (h : square m) : ∀ k, k ≤ m.length → tot m k ≤ 6 * k
  | 0, _ => Nat.le_refl _
  | k + 1, hk => by
    have h1 := tot_sq h k (by omega)
    have h2 := h.2.2 k (by omega)
    have h3 := h.2.1
    show tot m k + (gr m k).length ≤ _
    omega
theorem lsL_small3 {n z : Int} (h : lsP n z) : Small3 (lsL n z) := by
  have h1 := ofL_len z.toNat (allW n.toNat)
  have h2 := allW_len5 n.toNat (by have := h.1; omega)
  refine ⟨by unfold lsL; omega, fun i hi => ?_⟩
  have hs := (allW_sq n.toNat (by have := h.1; omega) _ (ofL_mem (gt_mem hi))).resolve_left (by have := h.1; omega)
  have h3 := tot_sq hs _ (Nat.le_refl _)
  have h4 := hs.2.1
  exact ⟨hs.small, Nat.le_trans h3 (by omega)⟩
end Go.Proofs.YtgdijjfipicodaaDoor

