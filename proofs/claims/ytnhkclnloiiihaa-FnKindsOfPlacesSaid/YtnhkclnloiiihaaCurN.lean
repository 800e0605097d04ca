/- Contracts of the model's draws: the next byte, a number below a bound, one of a list. Conditions: a place that is small. -/
import Derived.Test.YtnhkclnloiiihaaCur
import Derived.Laws.BitsAllLaws
namespace Go.Proofs.Ytnhkclnloiiihaa
open Go.RowKit

theorem u64_bd (n : Int) : 0 ≤ IntKind.u64.wrap n ∧ IntKind.u64.wrap n < 18446744073709551616 := by simp [IntKind.wrap, IntKind.bits, IntKind.signed]; omega
theorem and255 (x : Int) (h0 : 0 ≤ x) (h1 : x < 18446744073709551616) : 0 ≤ wrap64 (bits .and .u64 (x / 1099511627776) 255) ∧ wrap64 (bits .and .u64 (x / 1099511627776) 255) ≤ 255 := by
  rw [u64_and _ _ (by omega) (by omega) (by omega) (by omega)]
  have h := Nat.and_le_right (n := (x / 1099511627776).toNat) (m := (255 : Int).toNat)
  have e : (255 : Int).toNat = 255 := rfl
  rw [e] at h ⊢
  unfold wrap64
  omega
set_option maxRecDepth 100000 in
set_option maxHeartbeats 1600000 in
theorem curNext_any (g : Nat) (a : Option Addr) (n c k : Nat) (s : Int) (w : World) (_hn : n ≤ 9223372036854775807) (hk : k ≤ 1000000000) (hB : BytesIn w a n) (hC : CurAt w g a n c k s) :
    Calls Try.prog 174 #[.pointer (some ⟨g, 0, none⟩)] w fun e w' => ∃ v s', e = .returned (.int .i64 v) ∧ 0 ≤ v ∧ v ≤ 255 ∧ CurAt w' g a n c (k + 1) s' ∧ OnlyW (fun b => b = g) w w' := by
  have h0 := hC.c0
  have h1 := hC.c1
  have h2 := hC.c2
  have f1 := hC.frozen 1
  have f2 := hC.frozen 2
  have HC := Lib.hid hC
  by_cases hlt : k < n
  · obtain ⟨b, o, x, rfl, hx, x0, x1⟩ := hB k hlt
    clear hB hC
    go_enter Try.func174, Try.ntmps174
    go_wp2
    go_quiet (fail)
    go_wp2
    go_quiet (fail)
    go_wp2
    generalize hW : World.setCell (World.setCell _ _ _) _ _ = w2
    obtain ⟨s2, hC2⟩ : ∃ s2, CurAt w2 g (some ⟨b, o, none⟩) n c (k + 1) s2 := ⟨_, by rw [← hW]; exact ((HC.out.drewN _).set1 (k + 1) (by omega)).set2 _⟩
    have HO := Lib.hid (show OnlyW (fun b => b = g) w w2 by rw [← hW]; exact (((OnlyW.refl (fun b => b = g) w).drewN _).setCell rfl _).setCell rfl _)
    have e0 := hC2.c0
    have e1 := hC2.c1
    have HC2 := Lib.hid hC2
    clear hW hC2 h0 h1 h2 f1 f2 hx HC
    go_quiet (fail)
    go_wp2
    go_ret
    exact ⟨x, s2, rfl, x0, x1, HC2.out.drewN _, HO.out.drewN _⟩
  · clear hB hC
    go_enter Try.func174, Try.ntmps174
    go_wp2
    go_quiet (fail)
    go_wp2
    generalize hW : World.setCell (World.setCell _ _ _) _ _ = w2
    obtain ⟨s2, hC2, hs⟩ : ∃ s2, CurAt w2 g a n c (k + 1) s2 ∧ 0 ≤ s2 ∧ s2 < 18446744073709551616 := ⟨_, by rw [← hW]; exact ((HC.out.drewN _).set1 (k + 1) (by omega)).set2 _, u64_bd _⟩
    have hv := and255 s2 hs.1 hs.2
    have HO := Lib.hid (show OnlyW (fun b => b = g) w w2 by rw [← hW]; exact (((OnlyW.refl (fun b => b = g) w).drewN _).setCell rfl _).setCell rfl _)
    have e0 := hC2.c0
    have e1 := hC2.c1
    have e2 := hC2.c2
    have HC2 := Lib.hid hC2
    have Hv := Lib.hid hv
    clear hW hC2 h0 h1 h2 f1 f2 HC hv hs
    go_quiet (fail)
    go_wp2
    go_ret
    exact ⟨_, s2, rfl, Hv.out.1, Hv.out.2, HC2.out.drewN _, HO.out.drewN _⟩
/-- a number below a bound -/
theorem curPick_any (g : Nat) (a : Option Addr) (n c k m : Nat) (s : Int) (w : World) (hn : n ≤ 9223372036854775807) (hk : k ≤ 1000000000) (hm1 : 1 ≤ m) (hm2 : m ≤ 200) (hB : BytesIn w a n) (hC : CurAt w g a n c k s) :
    Calls Try.prog 91 #[.pointer (some ⟨g, 0, none⟩), .int .i64 (m : Int)] w fun e w' => ∃ (v k' : Nat) (s' : Int), e = .returned (.int .i64 (v : Int)) ∧ v < m ∧ k' ≤ k + 1 ∧ CurAt w' g a n c k' s' ∧ OnlyW (fun b => b = g) w w' := by
  by_cases h1 : m ≤ 1
  · have hd : (m : Int) ≤ 1 := by omega
    have HC := Lib.hid hC
    clear hB hC
    go_enter Try.func91, Try.ntmps91
    go_wp2
    go_ret
    exact ⟨0, k, s, rfl, by omega, by omega, HC.out, OnlyW.refl _ _⟩
  · have hd : ¬ (m : Int) ≤ 1 := by omega
    have hd2 : ¬ (200 : Int) < (m : Int) := by omega
    have CN := Lib.hid (curNext_any g a n c k s w hn hk hB hC)
    clear hB hC
    go_enter Try.func91, Try.ntmps91
    go_wp2_with fail
    refine CN.out.mono ?_
    rintro e w2 ⟨v, s', rfl, h0, h2, hC2, hO⟩
    obtain ⟨V, rfl⟩ := Int.eq_ofNat_of_zero_le h0
    have HC2 := Lib.hid hC2
    have HO := Lib.hid hO
    have hm0 : ((m : Int) == 0) = false := by simp; omega
    have hmne : ¬ (m : Int) = 0 := by omega
    clear hC2 hO CN
    go_wp2
    go_ret
    exact ⟨V % m, k + 1, s', by simp, Nat.mod_lt _ (by omega), by omega, HC2.out, HO.out⟩
/-- one of a list -/
theorem curAmong_any (g : Nat) (a : Option Addr) (n c k : Nat) (s : Int) (la : Option Addr) (lc : Nat) (L : List Int) (w : World) (hn : n ≤ 9223372036854775807) (hk : k ≤ 1000000000) (hL1 : 1 ≤ L.length) (hL2 : L.length ≤ 200) (hL : IntsAt w la L) (hne : ∀ b o, la = some ⟨b, o, none⟩ → b ≠ g) (hB : BytesIn w a n) (hC : CurAt w g a n c k s) :
    Calls Try.prog 95 #[.pointer (some ⟨g, 0, none⟩), .slice la L.length lc] w fun e w' => ∃ (v : Int) (k' : Nat) (s' : Int), e = .returned (.int .i64 v) ∧ v ∈ L ∧ k' ≤ k + 1 ∧ CurAt w' g a n c k' s' ∧ OnlyW (fun b => b = g) w w' := by
  have CP := Lib.hid (curPick_any g a n c k L.length s w hn hk hL1 hL2 hB hC)
  have HL := Lib.hid hL
  have Hne := Lib.hid hne
  have hlm : L.length ≤ 9223372036854775807 := by omega
  clear hB hC hL hne
  go_enter Try.func95, Try.ntmps95
  go_wp2_with fail
  refine CP.out.mono ?_
  rintro e w2 ⟨v, k', s', rfl, hv, hk', hC2, hO⟩
  obtain ⟨b, o, rfl, hc⟩ := HL.out v hv
  have hc2 : w2.cell? ⟨b, o + v, none⟩ = some (.int .i64 (gi L v)) := by
    have hb := hO.block b (Hne.out b o rfl)
    rw [World.cell?_of_block (a := ⟨b, o + v, none⟩) hb]
    exact hc
  have Hm := Lib.hid (gi_mem hv)
  have HC2 := Lib.hid hC2
  have HO := Lib.hid hO
  obtain ⟨x, hx⟩ : ∃ x, x = gi L v := ⟨_, rfl⟩
  rw [← hx] at hc2 Hm
  clear hC2 hO CP hc hx
  go_wp2
  go_ret
  exact ⟨x, k', s', rfl, Hm.out, hk', HC2.out, HO.out⟩
theorem CurAt.new (w : World) (a : Option Addr) (n c : Nat) : CurAt (w.alloc (.cells #[.slice a n c, .int .i64 0, .int .u64 0] 62)) w.heap.size a n c 0 0 := heap_alloc_new w _
theorem cur_ints (w : World) (xs : List Int) : IntsAt (w.alloc (.cells (xs.map (Value.int .i64)).toArray 3)) (some ⟨w.heap.size, 0, none⟩) xs := fun i hi => ⟨w.heap.size, 0, rfl, by
  rw [Nat.zero_add, cell_new]
  simp [gi, List.getD, hi]⟩
/-- a fresh cursor and one of a written-out list -/
theorem drawOne (a : Option Addr) (n c : Nat) (L : List Int) (w : World) (hn : n ≤ 1048576) (hL1 : 1 ≤ L.length) (hL2 : L.length ≤ 200) (hB : BytesIn w a n) :
    Calls Try.prog 95 #[.pointer (some ⟨w.heap.size, 0, none⟩), .slice (some ⟨w.heap.size + 1, 0, none⟩) L.length L.length] ((w.alloc (.cells #[.slice a n c, .int .i64 0, .int .u64 0] 62)).alloc (.cells (L.map (Value.int .i64)).toArray 3))
      fun e w' => ∃ v : Int, e = .returned (.int .i64 v) ∧ v ∈ L ∧ Below w.heap.size w w' := by
  obtain ⟨w1, hw1⟩ : ∃ w1, w1 = w.alloc (.cells #[.slice a n c, .int .i64 0, .int .u64 0] 62) := ⟨_, rfl⟩
  have s1 : w1.heap.size = w.heap.size + 1 := by rw [hw1]; simp
  have hC1 : CurAt w1 w.heap.size a n c 0 0 := by rw [hw1]; exact CurAt.new w a n c
  have hb1 : Below w.heap.size w w1 := by rw [hw1]; exact (Below.refl _ _).alloc (Nat.le_refl _) _
  rw [← hw1, ← s1]
  have hb2 : Below w1.heap.size w1 (w1.alloc (.cells (L.map (Value.int .i64)).toArray 3)) := (Below.refl _ _).alloc (Nat.le_refl _) _
  refine (curAmong_any w.heap.size a n c 0 0 (some ⟨w1.heap.size, 0, none⟩) L.length L _ (by omega) (by omega) hL1 hL2 (cur_ints w1 L) (fun b o e => by cases e; omega) ((hB.below hb1).below hb2) (hC1.below hb2)).mono ?_
  rintro e w3 ⟨v, k', s', rfl, hv, _, _, hO⟩
  refine ⟨v, rfl, hv, (hb1.trans (hb2.mono hb1.size)).trans (hO.below (fun k hk => by have := hk; omega))⟩
end Go.Proofs.Ytnhkclnloiiihaa
