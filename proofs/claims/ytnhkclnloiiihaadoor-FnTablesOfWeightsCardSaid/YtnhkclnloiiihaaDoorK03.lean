/- Parts of proofs: contracts and plain facts. Conditions: as each says. -/
import Derived.Test.YtnhkclnloiiihaaDoorK02
import Derived.Laws.BitsAllLaws
namespace Go.Proofs.YtnhkclnloiiihaaDoor
open Go.RowKit

theorem u64_bd (n : Int) : 0 ≤ IntKind.u64.wrap n ∧ IntKind.u64.wrap n < 18446744073709551616 := by simp [IntKind.wrap, IntKind.bits, IntKind.signed]; omega
theorem and255 (x : Int) (h0 : 0 ≤ x) (h1 : x < 18446744073709551616) : 0 ≤ wrap64 (bits .and .u64 (x / 1099511627776) 255) ∧ wrap64 (bits .and .u64 (x / 1099511627776) 255) ≤ 255 := by
  rw [u64_and _ _ (by omega) (by omega) (by omega) (by omega)]
  have h := Nat.and_le_right (n := (x / 1099511627776).toNat) (m := (255 : Int).toNat)
  have e : (255 : Int).toNat = 255 := rfl
  rw [e] at h ⊢
  unfold wrap64
  omega
set_option maxRecDepth 100000 in
set_option maxHeartbeats 1600000 in
theorem curNext_any (g : Nat) (a : Option Addr) (n c k : Nat) (s : Int) (w : World) (_hn : n ≤ 9223372036854775807) (hk : k ≤ 1000000000) (hB : BytesIn w a n) (hC : CurAt w g a n c k s) :
    Calls Tryd.prog 143 #[.pointer (some ⟨g, 0, none⟩)] w fun e w' => ∃ v s', e = .returned (.int .i64 v) ∧ 0 ≤ v ∧ v ≤ 255 ∧ CurAt w' g a n c (k + 1) s' ∧ OnlyW (fun b => b = g) w w' := by
  have h0 := hC.c0
  have h1 := hC.c1
  have h2 := hC.c2
  have f1 := hC.frozen 1
  have f2 := hC.frozen 2
  have HC := Lib.hid hC
  by_cases hlt : k < n
  · obtain ⟨b, o, x, rfl, hx, x0, x1⟩ := hB k hlt
    clear hB hC
    go_enter Tryd.func143, Tryd.ntmps143
    go_wp2
    go_quiet (fail)
    go_wp2
    go_quiet (fail)
    go_wp2
    generalize hW : World.setCell (World.setCell _ _ _) _ _ = w2
    obtain ⟨s2, hC2⟩ : ∃ s2, CurAt w2 g (some ⟨b, o, none⟩) n c (k + 1) s2 := ⟨_, by rw [← hW]; exact ((HC.out.drewN _).set1 (k + 1) (by omega)).set2 _⟩
    have HO := Lib.hid (show OnlyW (fun b => b = g) w w2 by rw [← hW]; exact (((OnlyW.refl (fun b => b = g) w).drewN _).setCell rfl _).setCell rfl _)
    have e0 := hC2.c0
    have e1 := hC2.c1
    have HC2 := Lib.hid hC2
    clear hW hC2 h0 h1 h2 f1 f2 hx HC
    go_quiet (fail)
    go_wp2
    go_ret
    exact ⟨x, s2, rfl, x0, x1, HC2.out.drewN _, HO.out.drewN _⟩
  · clear hB hC
    go_enter Tryd.func143, Tryd.ntmps143
    go_wp2
    go_quiet (fail)
    go_wp2
    generalize hW : World.setCell (World.setCell _ _ _) _ _ = w2
    obtain ⟨s2, hC2, hs⟩ : ∃ s2, CurAt w2 g a n c (k + 1) s2 ∧ 0 ≤ s2 ∧ s2 < 18446744073709551616 := ⟨_, by rw [← hW]; exact ((HC.out.drewN _).set1 (k + 1) (by omega)).set2 _, u64_bd _⟩
    have hv := and255 s2 hs.1 hs.2
    have HO := Lib.hid (show OnlyW (fun b => b = g) w w2 by rw [← hW]; exact (((OnlyW.refl (fun b => b = g) w).drewN _).setCell rfl _).setCell rfl _)
    have e0 := hC2.c0
    have e1 := hC2.c1
    have e2 := hC2.c2
    have HC2 := Lib.hid hC2
    have Hv := Lib.hid hv
    clear hW hC2 h0 h1 h2 f1 f2 HC hv hs
    go_quiet (fail)
    go_wp2
    go_ret
    exact ⟨_, s2, rfl, Hv.out.1, Hv.out.2, HC2.out.drewN _, HO.out.drewN _⟩
/-- a number below a bound -/
theorem curPick_any (g : Nat) (a : Option Addr) (n c k m : Nat) (s : Int) (w : World) (hn : n ≤ 9223372036854775807) (hk : k ≤ 1000000000) (hm1 : 1 ≤ m) (hm2 : m ≤ 200) (hB : BytesIn w a n) (hC : CurAt w g a n c k s) :
    Calls Tryd.prog 105 #[.pointer (some ⟨g, 0, none⟩), .int .i64 (m : Int)] w fun e w' => ∃ (v k' : Nat) (s' : Int), e = .returned (.int .i64 (v : Int)) ∧ v < m ∧ k' ≤ k + 1 ∧ CurAt w' g a n c k' s' ∧ OnlyW (fun b => b = g) w w' := by
  by_cases h1 : m ≤ 1
  · have hd : (m : Int) ≤ 1 := by omega
    have HC := Lib.hid hC
    clear hB hC
    go_enter Tryd.func105, Tryd.ntmps105
    go_wp2
    go_ret
    exact ⟨0, k, s, rfl, by omega, by omega, HC.out, OnlyW.refl _ _⟩
  · have hd : ¬ (m : Int) ≤ 1 := by omega
    have hd2 : ¬ (200 : Int) < (m : Int) := by omega
    have CN := Lib.hid (curNext_any g a n c k s w hn hk hB hC)
    clear hB hC
    go_enter Tryd.func105, Tryd.ntmps105
    go_wp2_with fail
    refine CN.out.mono ?_
    rintro e w2 ⟨v, s', rfl, h0, h2, hC2, hO⟩
    obtain ⟨V, rfl⟩ := Int.eq_ofNat_of_zero_le h0
    have HC2 := Lib.hid hC2
    have HO := Lib.hid hO
    have hm0 : ((m : Int) == 0) = false := by simp; omega
    have hmne : ¬ (m : Int) = 0 := by omega
    clear hC2 hO CN
    go_wp2
    go_ret
    exact ⟨V % m, k + 1, s', by simp, Nat.mod_lt _ (by omega), by omega, HC2.out, HO.out⟩
/-- one of a list -/
theorem curAmong_any (g : Nat) (a : Option Addr) (n c k : Nat) (s : Int) (la : Option Addr) (lc : Nat) (L : List Int) (w : World) (hn : n ≤ 9223372036854775807) (hk : k ≤ 1000000000) (hL1 : 1 ≤ L.length) (hL2 : L.length ≤ 200) (hL : IntsAt w la L) (hne : ∀ b o, la = some ⟨b, o, none⟩ → b ≠ g) (hB : BytesIn w a n) (hC : CurAt w g a n c k s) :
    Calls Tryd.prog 121 #[.pointer (some ⟨g, 0, none⟩), .slice la L.length lc] w fun e w' => ∃ (v : Int) (k' : Nat) (s' : Int), e = .returned (.int .i64 v) ∧ v ∈ L ∧ k' ≤ k + 1 ∧ CurAt w' g a n c k' s' ∧ OnlyW (fun b => b = g) w w' := by
  have CP := Lib.hid (curPick_any g a n c k L.length s w hn hk hL1 hL2 hB hC)
  have HL := Lib.hid hL
  have Hne := Lib.hid hne
  have hlm : L.length ≤ 9223372036854775807 := by omega
  clear hB hC hL hne
  go_enter Tryd.func121, Tryd.ntmps121
  go_wp2_with fail
  refine CP.out.mono ?_
  rintro e w2 ⟨v, k', s', rfl, hv, hk', hC2, hO⟩
  obtain ⟨b, o, rfl, hc⟩ := HL.out v hv
  have hc2 : w2.cell? ⟨b, o + v, none⟩ = some (.int .i64 (gi L v)) := by
    have hb := hO.block b (Hne.out b o rfl)
    rw [World.cell?_of_block (a := ⟨b, o + v, none⟩) hb]
    exact hc
  have Hm := Lib.hid (gi_mem hv)
  have HC2 := Lib.hid hC2
  have HO := Lib.hid hO
  obtain ⟨x, hx⟩ : ∃ x, x = gi L v := ⟨_, rfl⟩
  rw [← hx] at hc2 Hm
  clear hC2 hO CP hc hx
  go_wp2
  go_ret
  exact ⟨x, k', s', rfl, Hm.out, hk', HC2.out, HO.out⟩
theorem CurAt.new (w : World) (a : Option Addr) (n c : Nat) : CurAt (w.alloc (.cells #[.slice a n c, .int .i64 0, .int .u64 0] 57)) w.heap.size a n c 0 0 := heap_alloc_new w _
theorem cur_ints (w : World) (xs : List Int) : IntsAt (w.alloc (.cells (xs.map (Value.int .i64)).toArray 3)) (some ⟨w.heap.size, 0, none⟩) xs := fun i hi => ⟨w.heap.size, 0, rfl, by
  rw [Nat.zero_add, cell_new]
  simp [gi, List.getD, hi]⟩
/-- a fresh cursor and one of a written-out list -/
theorem drawOne (a : Option Addr) (n c : Nat) (L : List Int) (w : World) (hn : n ≤ 1048576) (hL1 : 1 ≤ L.length) (hL2 : L.length ≤ 200) (hB : BytesIn w a n) :
    Calls Tryd.prog 121 #[.pointer (some ⟨w.heap.size, 0, none⟩), .slice (some ⟨w.heap.size + 1, 0, none⟩) L.length L.length] ((w.alloc (.cells #[.slice a n c, .int .i64 0, .int .u64 0] 57)).alloc (.cells (L.map (Value.int .i64)).toArray 3))
      fun e w' => ∃ v : Int, e = .returned (.int .i64 v) ∧ v ∈ L ∧ Below w.heap.size w w' := by
  obtain ⟨w1, hw1⟩ : ∃ w1, w1 = w.alloc (.cells #[.slice a n c, .int .i64 0, .int .u64 0] 57) := ⟨_, rfl⟩
  have s1 : w1.heap.size = w.heap.size + 1 := by rw [hw1]; simp
  have hC1 : CurAt w1 w.heap.size a n c 0 0 := by rw [hw1]; exact CurAt.new w a n c
  have hb1 : Below w.heap.size w w1 := by rw [hw1]; exact (Below.refl _ _).alloc (Nat.le_refl _) _
  rw [← hw1, ← s1]
  have hb2 : Below w1.heap.size w1 (w1.alloc (.cells (L.map (Value.int .i64)).toArray 3)) := (Below.refl _ _).alloc (Nat.le_refl _) _
  refine (curAmong_any w.heap.size a n c 0 0 (some ⟨w1.heap.size, 0, none⟩) L.length L _ (by omega) (by omega) hL1 hL2 (cur_ints w1 L) (fun b o e => by cases e; omega) ((hB.below hb1).below hb2) (hC1.below hb2)).mono ?_
  rintro e w3 ⟨v, k', s', rfl, hv, _, _, hO⟩
  refine ⟨v, rfl, hv, (hb1.trans (hb2.mono hb1.size)).trans (hO.below (fun k hk => by have := hk; omega))⟩
end Go.Proofs.YtnhkclnloiiihaaDoor

namespace Go.Proofs.YtnhkclnloiiihaaDoor
open Go.RowKit

/-- once in m times -/
theorem curOneS_any (g : Nat) (a : Option Addr) (n c k m : Nat) (w : World)
    (hP : Calls Tryd.prog 105 #[.pointer (some ⟨g, 0, none⟩), .int .i64 (m : Int)] w fun e w' => ∃ (v k' : Nat) (s' : Int), e = .returned (.int .i64 (v : Int)) ∧ v < m ∧ k' ≤ k + 1 ∧ CurAt w' g a n c k' s' ∧ OnlyW (fun b => b = g) w w') :
    Calls Tryd.prog 104 #[.pointer (some ⟨g, 0, none⟩), .int .i64 (m : Int)] w fun e w' => ∃ (b : Bool) (k' : Nat) (s' : Int), e = .returned (.bool b) ∧ k' ≤ k + 1 ∧ CurAt w' g a n c k' s' ∧ OnlyW (fun b => b = g) w w' := by
  have HP := Lib.hid hP
  clear hP
  go_enter Tryd.func104, Tryd.ntmps104
  go_wp2_with fail
  refine HP.out.mono ?_
  rintro e w2 ⟨v, k', s', rfl, _, hk', hC, hO⟩
  have HC := Lib.hid hC
  have HO := Lib.hid hO
  by_cases hv : v = 0
  · subst hv
    clear hC hO HP
    go_wp2
    go_ret
    exact ⟨_, k', s', rfl, hk', HC.out, HO.out⟩
  · have hv0 : ((v : Int) == 0) = false := by simp; omega
    clear hC hO HP
    go_wp2
    go_ret
    exact ⟨_, k', s', rfl, hk', HC.out, HO.out⟩
set_option maxRecDepth 100000 in
set_option maxHeartbeats 800000 in
theorem sideDraw_any (a : Option Addr) (n c : Nat) (mo : Nat) (w : World) (h1 : 1 ≤ mo) (h6 : mo ≤ 6) (hn : n ≤ 1048576) (hB : BytesIn w a n) :
    Calls Tryd.prog 109 #[.pointer (some ⟨w.heap.size, 0, none⟩), .int .i64 (mo : Int)] (w.alloc (.cells #[.slice a n c, .int .i64 0, .int .u64 0] 57))
      fun e w' => ∃ v : Int, e = .returned (.int .i64 v) ∧ -1 ≤ v ∧ v ≤ (mo : Int) + 1 ∧ Below w.heap.size w w' := by
  obtain ⟨g, hg⟩ : ∃ g, g = w.heap.size := ⟨_, rfl⟩
  obtain ⟨w1, hw1⟩ : ∃ w1, w1 = w.alloc (.cells #[.slice a n c, .int .i64 0, .int .u64 0] 57) := ⟨_, rfl⟩
  have hb1 : Below w.heap.size w w1 := by rw [hw1]; exact (Below.refl _ _).alloc (Nat.le_refl _) _
  have hs1 : w1.heap.size = w.heap.size + 1 := by rw [hw1]; simp
  have hC1 : CurAt w1 g a n c 0 0 := by rw [hw1, hg]; exact CurAt.new w a n c
  have C8 := Lib.hid (curOneS_any g a n c 0 8 w1 (curPick_any g a n c 0 8 0 w1 (by omega) (by omega) (by omega) (by omega) (hB.below hb1) hC1))
  rw [← hw1, ← hg]
  have HB := Lib.hid hB
  have Hb1 := Lib.hid hb1
  have Hs1 := Lib.hid hs1
  have Hg := Lib.hid hg
  have hmo : mo ≤ 9223372036854775807 := by omega
  clear hB hb1 hC1 hs1 hg hw1
  go_enter Tryd.func109, Tryd.ntmps109
  go_wp2_with fail
  refine C8.out.mono ?_
  rintro e w2 ⟨b, k2, s2, rfl, hk2, hC2, hO2⟩
  have hb2 : Below w.heap.size w w2 := Hb1.out.trans (hO2.below (fun k hk => by rw [hk, Hg.out]; exact Nat.le_refl _))
  have hs2 : w2.heap.size = w.heap.size + 1 := by rw [hO2.size, Hs1.out]
  have Hb2 := Lib.hid hb2
  have Hs2 := Lib.hid hs2
  have HC2 := Lib.hid hC2
  clear hO2 hb2 hs2 hC2 C8
  cases b
  · have CP := Lib.hid (curPick_any g a n c k2 mo s2 w2 (by omega) (by omega) h1 (by omega) (HB.out.below Hb2.out) HC2.out)
    go_wp2_with fail
    refine CP.out.mono ?_
    rintro e w3 ⟨v, k3, s3, rfl, hv, hk3, hC3, hO3⟩
    have HO3 := Lib.hid hO3
    have hw : wrap64 (1 + (v : Int)) = 1 + (v : Int) := by unfold wrap64; omega
    clear hC3 hO3 CP
    go_wp2
    go_ret
    exact ⟨_, rfl, by omega, by omega, by rw [Hg.out]; exact Hb2.out.trans (HO3.out.below (fun k hk => by rw [hk, Hg.out]; exact Nat.le_refl _))⟩
  · have hw : wrap64 ((mo : Int) + 1) = (mo : Int) + 1 := by unfold wrap64; omega
    have hba : Below w2.heap.size w2 (w2.alloc (.cells (([-1, 0, 1, (mo : Int), (mo : Int) + 1] : List Int).map (Value.int .i64)).toArray 3)) := (Below.refl _ _).alloc (Nat.le_refl _) _
    have CA := Lib.hid (curAmong_any g a n c k2 s2 (some ⟨w2.heap.size, 0, none⟩) 5 [-1, 0, 1, (mo : Int), (mo : Int) + 1] _ (by omega) (by omega) (by simp) (by simp) (cur_ints w2 _) (fun b o e => by cases e; have h1 := Hs2.out; have h2 := Hg.out; omega) ((HB.out.below Hb2.out).below (hba.mono (by have := Hs2.out; omega))) (HC2.out.below hba))
    have Hba := Lib.hid hba
    clear hba
    go_wp2_with fail
    refine CA.out.mono ?_
    rintro e w3 ⟨v, k3, s3, rfl, hv, hk3, hC3, hO3⟩
    have hvb : -1 ≤ v ∧ v ≤ (mo : Int) + 1 := by simp at hv; omega
    have Hv := Lib.hid hvb
    have HO3 := Lib.hid hO3
    clear hC3 hO3 CA hv hvb
    go_wp2
    go_ret
    exact ⟨_, rfl, Hv.out.1, Hv.out.2, by rw [Hg.out]; exact (Hb2.out.trans (Hba.out.mono (by have := Hs2.out; omega))).trans (HO3.out.below (fun k hk => by rw [hk, Hg.out]; exact Nat.le_refl _))⟩
/-- what a draw of a number of rows hands back -/
def NPost (mo : Nat) (w : World) (e : Ending) (w' : World) : Prop := ∃ v : Int, e = .returned (.int .i64 v) ∧ -1 ≤ v ∧ v ≤ (mo : Int) + 1 ∧ Below w.heap.size w w'
theorem drawMinusTable_any (a : Option Addr) (n c : Nat) (w : World) (hn : n ≤ 1048576) (hB : BytesIn w a n) :
    Calls Tryd.prog 55 #[.slice a n c] w (NPost 4 w) := by
  have C := Lib.hid (sideDraw_any a n c 4 w (by decide) (by decide) hn hB)
  clear hB
  go_enter Tryd.func55, Tryd.ntmps55
  go_wp2_with fail
  refine C.out.mono ?_
  rintro e w2 ⟨v, rfl, h1, h2, hb⟩
  have H := Lib.hid (show NPost 4 w (.returned (.int .i64 v)) w2 from ⟨v, rfl, h1, h2, hb⟩)
  clear h1 h2 hb
  go_wp2
  go_ret
  exact H.out
theorem drawJointTable_any (a : Option Addr) (n c : Nat) (w : World) (hn : n ≤ 1048576) (hB : BytesIn w a n) :
    Calls Tryd.prog 8 #[.slice a n c] w (NPost 4 w) := by
  have C := Lib.hid (drawMinusTable_any a n c w hn hB)
  clear hB
  go_enter Tryd.func8, Tryd.ntmps8
  go_wp2_with fail
  refine C.out.mono ?_
  rintro e w2 ⟨v, rfl, h1, h2, hb⟩
  have H := Lib.hid (show NPost 4 w (.returned (.int .i64 v)) w2 from ⟨v, rfl, h1, h2, hb⟩)
  clear h1 h2 hb
  go_wp2
  go_ret
  exact H.out
end Go.Proofs.YtnhkclnloiiihaaDoor

namespace Go.Proofs.YtnhkclnloiiihaaDoor
open Go.RowKit

def okX (sums row : List Int) (sum x : Int) : Prop := (0 ≤ sum + x ∧ sum + x ≤ 1) ∧ 0 ≤ gi sums row.length + x ∧ gi sums row.length + x ≤ 1
instance (sums row : List Int) (sum x : Int) : Decidable (okX sums row sum x) := by unfold okX; infer_instance
/-- the rows that go on a row: d numbers more -/
def rowsW (sums : List Int) : Nat → List Int → Int → List (List Int)
  | 0, row, sum => if sum = 1 then [row] else []
  | d + 1, row, sum => (List.range 3).flatMap fun k : Nat => if okX sums row sum ((k : Int) - 1) then rowsW sums d (row ++ [(k : Int) - 1]) (sum + ((k : Int) - 1)) else []
/-- .. up to the k-th number -/
def rowsP (sums : List Int) (d : Nat) (row : List Int) (sum : Int) (k : Nat) : List (List Int) :=
  (List.range k).flatMap fun k : Nat => if okX sums row sum ((k : Int) - 1) then rowsW sums d (row ++ [(k : Int) - 1]) (sum + ((k : Int) - 1)) else []
theorem rowsP_zero (sums : List Int) (d : Nat) (row : List Int) (sum : Int) : rowsP sums d row sum 0 = [] := rfl
theorem rowsP_yes {sums : List Int} {d : Nat} {row : List Int} {sum : Int} {k : Nat} (h : okX sums row sum ((k : Int) - 1)) : rowsP sums d row sum (k + 1) = rowsP sums d row sum k ++ rowsW sums d (row ++ [(k : Int) - 1]) (sum + ((k : Int) - 1)) := by
  unfold rowsP
  rw [List.range_succ, List.flatMap_append]
  simp [h]
theorem rowsP_no {sums : List Int} {d : Nat} {row : List Int} {sum : Int} {k : Nat} (h : ¬okX sums row sum ((k : Int) - 1)) : rowsP sums d row sum (k + 1) = rowsP sums d row sum k := by
  unfold rowsP
  rw [List.range_succ, List.flatMap_append]
  simp [h]
theorem rowsP_end (sums : List Int) (d : Nat) (row : List Int) (sum : Int) : rowsP sums d row sum 3 = rowsW sums (d + 1) row sum := rfl
theorem flatL_len {α β : Type} (g : α → List β) (B : Nat) : ∀ l : List α, (∀ x, x ∈ l → (g x).length ≤ B) → (l.flatMap g).length ≤ l.length * B
  | [], _ => by simp
  | a :: l, h => by
    have h1 := flatL_len g B l (fun x hx => h x (by simp [hx]))
    have h2 := h a (by simp)
    rw [List.flatMap_cons, List.length_append, List.length_cons, Nat.add_mul]
    omega
theorem rowsW_le (sums : List Int) : ∀ (d : Nat) (row : List Int) (sum : Int), (rowsW sums d row sum).length ≤ 3 ^ d
  | 0, row, sum => by unfold rowsW; split <;> simp
  | d + 1, row, sum => by
    rw [Nat.pow_succ, Nat.mul_comm]
    refine Nat.le_trans (flatL_len _ (3 ^ d) _ fun k _ => ?_) (by simp)
    split
    · exact rowsW_le sums d _ _
    · simp
theorem rowsP_le (sums : List Int) (d : Nat) (row : List Int) (sum : Int) {k : Nat} (hk : k ≤ 3) : (rowsP sums d row sum k).length ≤ 3 ^ (d + 1) := by
  rw [Nat.pow_succ, Nat.mul_comm]
  refine Nat.le_trans (flatL_len _ (3 ^ d) _ fun k _ => ?_) (by rw [List.length_range]; exact Nat.mul_le_mul_right _ hk)
  split
  · exact rowsW_le sums d _ _
  · simp
theorem rowsW_mem (sums : List Int) : ∀ (d : Nat) (row : List Int) (sum : Int) (r : List Int), r ∈ rowsW sums d row sum →
    r.length = row.length + d ∧ (∀ j, j < row.length → gi r j = gi row j) ∧ ∀ j, row.length ≤ j → j < row.length + d → -1 ≤ gi r j ∧ gi r j ≤ 1 ∧ 0 ≤ gi sums j + gi r j ∧ gi sums j + gi r j ≤ 1
  | 0, row, sum, r, h => by
    unfold rowsW at h
    split at h
    · simp only [List.mem_singleton] at h
      subst h
      exact ⟨rfl, fun _ _ => rfl, fun j h1 h2 => absurd h1 (by omega)⟩
    · simp at h
  | d + 1, row, sum, r, h => by
    unfold rowsW at h
    rw [List.mem_flatMap] at h
    obtain ⟨k, hk, h⟩ := h
    have hk3 : k < 3 := by simpa using hk
    split at h
    · next hok =>
      obtain ⟨h1, h2, h3⟩ := rowsW_mem sums d _ _ r h
      rw [List.length_append] at h1 h2 h3
      simp only [List.length_cons, List.length_nil] at h1 h2 h3
      have hlast : gi r row.length = (k : Int) - 1 := by
        rw [h2 row.length (by omega)]
        simp [gi, List.getD]
      refine ⟨by omega, fun j hj => ?_, fun j hj1 hj2 => ?_⟩
      · rw [h2 j (by omega)]
        simp [gi, List.getD, List.getElem?_append_left hj]
      · by_cases e : j = row.length
        · subst e
          rw [hlast]
          have := hok.2
          exact ⟨by omega, by omega, this.1, this.2⟩
        · exact h3 j (by omega) (by omega)
    · simp at h

def addL (sums row : List Int) : List Int := (List.range sums.length).map fun j => gi sums j + gi row j
theorem addL_len (sums row : List Int) : (addL sums row).length = sums.length := by simp [addL]
theorem gi_addL {sums row : List Int} {j : Nat} (h : j < sums.length) : gi (addL sums row) j = gi sums j + gi row j := gi_row h
/-- the first t sums added to -/
def addP (sums row : List Int) (t : Nat) : List Int := (List.range sums.length).map fun j => gi sums j + (if j < t then gi row j else 0)
theorem addP_len (sums row : List Int) (t : Nat) : (addP sums row t).length = sums.length := by simp [addP]
theorem gi_addP {sums row : List Int} {t j : Nat} (h : j < sums.length) : gi (addP sums row t) j = gi sums j + (if j < t then gi row j else 0) := gi_row h
theorem addP_zero (sums row : List Int) : addP sums row 0 = sums := ext_gi (addP_len _ _ _) fun j hj => by
  rw [addP_len] at hj
  rw [gi_addP hj, if_neg (by omega)]
  omega
theorem addP_end (sums row : List Int) : addP sums row sums.length = addL sums row := ext_gi (by rw [addP_len, addL_len]) fun j hj => by
  rw [addP_len] at hj
  rw [gi_addP hj, gi_addL hj, if_pos hj]
theorem addP_set {sums row : List Int} {t : Nat} (ht : t < sums.length) : (addP sums row t).set t (gi sums t + gi row t) = addP sums row (t + 1) := by
  refine ext_gi (by rw [List.length_set, addP_len, addP_len]) fun j hj => ?_
  rw [List.length_set, addP_len] at hj
  rw [gi_set (by rw [addP_len]; exact ht), gi_addP (t := t) hj, gi_addP (t := t + 1) hj]
  by_cases e : j = t
  · subst e; rw [if_pos rfl, if_pos (by omega)]
  · rw [if_neg e]
    have : (j < t + 1) = (j < t) := propext (by omega)
    simp only [this]

/-- sums of columns that are 0 or 1 -/
def bits01 (sums : List Int) : Prop := ∀ j, j < sums.length → 0 ≤ gi sums j ∧ gi sums j ≤ 1
theorem bits01.add {sums : List Int} {r : List Int} (hr : r ∈ rowsW sums sums.length [] 0) : bits01 (addL sums r) := fun j hj => by
  rw [addL_len] at hj
  obtain ⟨_, _, h3⟩ := rowsW_mem sums sums.length [] 0 r hr
  have := h3 j (by simp) (by simpa using hj)
  rw [gi_addL hj]
  exact ⟨this.2.2.1, this.2.2.2⟩
def allOne (sums : List Int) : Bool := sums.all fun x => decide (x = 1)
theorem allOne_iff {sums : List Int} : allOne sums = true ↔ ∀ j, j < sums.length → gi sums j = 1 := by
  unfold allOne
  rw [List.all_eq_true]
  constructor
  · intro h j hj
    exact of_decide_eq_true (h _ (gi_mem hj))
  · intro h x hx
    obtain ⟨i, hi, rfl⟩ := List.mem_iff_getElem.1 hx
    have := h i hi
    rw [gi_lt hi] at this
    exact decide_eq_true this
/-- the matrices that go on some rows: d rows more -/
def goW : Nat → List (List Int) → List Int → List (List (List Int))
  | 0, rows, sums => if allOne sums = true then [rows] else []
  | d + 1, rows, sums => (rowsW sums sums.length [] 0).flatMap fun row => goW d (rows ++ [row]) (addL sums row)
/-- .. up to the k-th row -/
def goP (d : Nat) (rows : List (List Int)) (sums : List Int) (k : Nat) : List (List (List Int)) := ((rowsW sums sums.length [] 0).take k).flatMap fun row => goW d (rows ++ [row]) (addL sums row)
theorem goP_zero (d : Nat) (rows : List (List Int)) (sums : List Int) : goP d rows sums 0 = [] := by simp [goP]
theorem goP_step {d : Nat} {rows : List (List Int)} {sums : List Int} {k : Nat} (h : k < (rowsW sums sums.length [] 0).length) :
    goP d rows sums (k + 1) = goP d rows sums k ++ goW d (rows ++ [gr (rowsW sums sums.length [] 0) k]) (addL sums (gr (rowsW sums sums.length [] 0) k)) := by
  unfold goP
  rw [List.take_add_one, List.flatMap_append, List.getElem?_eq_getElem h, gr_lt h]
  simp
theorem goP_end (d : Nat) (rows : List (List Int)) (sums : List Int) : goP d rows sums (rowsW sums sums.length [] 0).length = goW (d + 1) rows sums := by
  unfold goP
  rw [List.take_length]
  rfl
theorem goW_le : ∀ (d : Nat) (rows : List (List Int)) (sums : List Int), sums.length ≤ 5 → (goW d rows sums).length ≤ 243 ^ d
  | 0, rows, sums, _ => by unfold goW; split <;> simp
  | d + 1, rows, sums, h => by
    unfold goW
    rw [Nat.pow_succ, Nat.mul_comm]
    refine Nat.le_trans (flatL_len _ (243 ^ d) _ fun r _ => goW_le d _ _ (by rw [addL_len]; exact h)) (Nat.mul_le_mul_right _ ?_)
    refine Nat.le_trans (rowsW_le _ _ _ _) (Nat.le_trans (Nat.pow_le_pow_right (by omega) h) (by decide))
theorem goP_le (d : Nat) (rows : List (List Int)) (sums : List Int) (k : Nat) (h : sums.length ≤ 5) : (goP d rows sums k).length ≤ 243 ^ (d + 1) := by
  unfold goP
  rw [Nat.pow_succ, Nat.mul_comm]
  refine Nat.le_trans (flatL_len _ (243 ^ d) _ fun r _ => goW_le d _ _ (by rw [addL_len]; exact h)) (Nat.mul_le_mul_right _ ?_)
  rw [List.length_take]
  refine Nat.le_trans (Nat.min_le_right _ _) (Nat.le_trans (rowsW_le _ _ _ _) (Nat.le_trans (Nat.pow_le_pow_right (by omega) h) (by decide)))
/-- all sign matrices with n rows, in order -/
def allW (n : Nat) : List (List (List Int)) := goW n [] (List.replicate n 0)
instance (xs : List Int) : Decidable (lineOk xs) := by unfold lineOk; infer_instance
instance (m : List (List Int)) : Decidable (rowsOk m) := by unfold rowsOk; infer_instance
instance (m : List (List Int)) : Decidable (square m) := by unfold square; infer_instance
instance (m : List (List Int)) : Decidable (good m) := by unfold good; infer_instance
theorem allW_good : ∀ n, n < 5 → ∀ m, m ∈ allW n → n = 0 ∨ (m.length = n ∧ good m) := by decide +kernel
theorem allW_len : ∀ n, n < 5 → (allW n).length ≤ 42 := by decide +kernel
end Go.Proofs.YtnhkclnloiiihaaDoor

namespace Go.Proofs.YtnhkclnloiiihaaDoor
open Go.RowKit

/-- the sum of the first k numbers of a column -/
def colS (m : List (List Int)) (j : Nat) : Nat → Int
  | 0 => 0
  | k + 1 => colS m j k + gi (gr m k) j
theorem colS_tr {m : List (List Int)} {j : Nat} (hj : j < m.length) : ∀ k, k ≤ m.length → colS m j k = sumK (gr (tr m) j) k
  | 0, _ => rfl
  | k + 1, hk => by simp only [colS, sumK]; rw [colS_tr hj k (by omega), gi_tr hj (by omega)]
theorem colS_01 {m : List (List Int)} (h : good m) {j k : Nat} (hj : j < m.length) (hk : k ≤ m.length) : 0 ≤ colS m j k ∧ colS m j k ≤ 1 := by
  rw [colS_tr hj k hk]
  exact (h.2.2 j (by rw [tr_len]; exact hj)).1 k (by rw [tr_row hj]; exact hk)
theorem rowS_01 {m : List (List Int)} (h : good m) {i k : Nat} (hi : i < m.length) (hk : k ≤ m.length) : 0 ≤ sumK (gr m i) k ∧ sumK (gr m i) k ≤ 1 :=
  (h.2.1 i hi).1 k (by rw [h.1.2.2 i hi]; exact hk)

/-- the kind of a place by its number and the sums before and above it -/
def kdV (v before above : Int) : Int := if v = 1 then 4 else if v = -1 then 5 else 2 * before + above
def kd (m : List (List Int)) (i j : Nat) : Int := kdV (gi (gr m i) j) (sumK (gr m i) j) (colS m j i)
def kinds (m : List (List Int)) : List (List Int) := tab m.length m.length (kd m)
theorem kinds_len (m : List (List Int)) : (kinds m).length = m.length := tab_len _ _ _
theorem kinds_row {m : List (List Int)} {i : Nat} (h : i < m.length) : (gr (kinds m) i).length = m.length := tab_row h
theorem gi_kinds {m : List (List Int)} {i j : Nat} (hi : i < m.length) (hj : j < m.length) : gi (gr (kinds m) i) j = kd m i j := gi_tab hi hj
theorem kdV_range {v b a : Int} (hb : 0 ≤ b ∧ b ≤ 1) (ha : 0 ≤ a ∧ a ≤ 1) : 0 ≤ kdV v b a ∧ kdV v b a ≤ 5 := by
  unfold kdV
  split
  · omega
  · split <;> omega
theorem kd_range {m : List (List Int)} (h : good m) {i j : Nat} (hi : i < m.length) (hj : j < m.length) : 0 ≤ kd m i j ∧ kd m i j ≤ 5 :=
  kdV_range (rowS_01 h hi (by omega)) (colS_01 h hj (by omega))
theorem kinds_square {m : List (List Int)} (h : square m) : square (kinds m) :=
  ⟨by rw [kinds_len]; exact h.1, by rw [kinds_len]; exact h.2.1, fun i hi => by rw [kinds_len] at hi ⊢; exact kinds_row hi⟩

/-- the sums of the columns in the middle of row k -/
def colMid (m : List (List Int)) (k t : Nat) : List Int := (List.range m.length).map fun j => colS m j (if j < t then k + 1 else k)
theorem colMid_len (m : List (List Int)) (k t : Nat) : (colMid m k t).length = m.length := by simp [colMid]
theorem gi_colMid {m : List (List Int)} {k t j : Nat} (hj : j < m.length) : gi (colMid m k t) j = colS m j (if j < t then k + 1 else k) := gi_row hj
theorem colMid_set {m : List (List Int)} {k t : Nat} (ht : t < m.length) : (colMid m k t).set t (colS m t k + gi (gr m k) t) = colMid m k (t + 1) := by
  refine ext_gi (by rw [List.length_set, colMid_len, colMid_len]) fun j hj => ?_
  rw [List.length_set, colMid_len] at hj
  rw [gi_set (by rw [colMid_len]; exact ht), gi_colMid hj, gi_colMid hj]
  by_cases e : j = t
  · subst e; rw [if_pos rfl, if_pos (by omega), colS]
  · rw [if_neg e]
    have : (j < t + 1) = (j < t) := propext (by omega)
    simp only [this]
theorem colMid_next (m : List (List Int)) (k : Nat) : colMid m k m.length = colMid m (k + 1) 0 := by
  refine ext_gi (by rw [colMid_len, colMid_len]) fun j hj => ?_
  rw [colMid_len] at hj
  rw [gi_colMid hj, gi_colMid hj, if_pos hj, if_neg (by omega)]
theorem colMid_zero (m : List (List Int)) : colMid m 0 0 = List.replicate m.length 0 := by
  refine ext_gi (by rw [colMid_len, List.length_replicate]) fun j hj => ?_
  rw [colMid_len] at hj
  rw [gi_colMid hj, if_neg (by omega), gi_lt (by simpa using hj)]
  simp [colS]

/-- how many places of the kind q there are in the first k rows and t places more -/
def ind (x q : Int) : Int := if x = q then 1 else 0
def cntP (m : List (List Int)) (q : Int) (k t : Nat) : Int := sumF (fun a => sumF (fun b => ind (kd m a b) q) m.length) k + sumF (fun b => ind (kd m k b) q) t
def cntK (m : List (List Int)) (q : Int) : Int := sumF (fun a => sumF (fun b => ind (kd m a b) q) m.length) m.length
theorem ind_01 (x q : Int) : 0 ≤ ind x q ∧ ind x q ≤ 1 := by unfold ind; split <;> omega
theorem cntP_zero (m : List (List Int)) (q : Int) : cntP m q 0 0 = 0 := rfl
theorem cntP_step (m : List (List Int)) (q : Int) (k t : Nat) : cntP m q k (t + 1) = cntP m q k t + ind (kd m k t) q := by unfold cntP; simp only [sumF]; omega
theorem cntP_row (m : List (List Int)) (q : Int) (k : Nat) : cntP m q k m.length = cntP m q (k + 1) 0 := by unfold cntP; simp only [sumF]; omega
theorem cntP_end (m : List (List Int)) (q : Int) : cntP m q m.length 0 = cntK m q := by unfold cntP cntK; simp only [sumF]; omega
theorem sumF_01 {f : Nat → Int} : ∀ {k : Nat}, (∀ i, i < k → 0 ≤ f i ∧ f i ≤ 1) → 0 ≤ sumF f k ∧ sumF f k ≤ k
  | 0, _ => by simp [sumF]
  | k + 1, h => by
    have h1 := sumF_01 (k := k) (fun i hi => h i (by omega))
    have h2 := h k (by omega)
    simp only [sumF]
    omega
theorem cnt_rows {m : List (List Int)} (q : Int) (hm : m.length ≤ 6) : ∀ {k : Nat}, k ≤ 6 → 0 ≤ sumF (fun a => sumF (fun b => ind (kd m a b) q) m.length) k ∧ sumF (fun a => sumF (fun b => ind (kd m a b) q) m.length) k ≤ 6 * k
  | 0, _ => by simp [sumF]
  | k + 1, h => by
    have h1 := cnt_rows (m := m) q hm (k := k) (by omega)
    have h2 := sumF_01 (f := fun b => ind (kd m k b) q) (k := m.length) (fun i _ => ind_01 _ _)
    simp only [sumF]
    omega
theorem cntP_bd {m : List (List Int)} (q : Int) (hm : m.length ≤ 6) {k t : Nat} (hk : k ≤ 6) (ht : t ≤ 6) : 0 ≤ cntP m q k t ∧ cntP m q k t ≤ 42 := by
  have h1 := cnt_rows (m := m) q hm hk
  have h2 := sumF_01 (f := fun b => ind (kd m k b) q) (k := t) (fun i _ => ind_01 _ _)
  unfold cntP
  omega
theorem cntK_bd {m : List (List Int)} (q : Int) (hm : m.length ≤ 6) : 0 ≤ cntK m q ∧ cntK m q ≤ 36 := by
  have := cnt_rows (m := m) q hm hm
  unfold cntK
  omega
/-- the six counts -/
def cntL (f : Int → Int) : List Int := [f 0, f 1, f 2, f 3, f 4, f 5]
theorem cntL_gi (f : Int → Int) {k : Nat} (h : k < 6) : gi (cntL f) k = f k := by
  match k, h with
  | 0, _ => rfl
  | 1, _ => rfl
  | 2, _ => rfl
  | 3, _ => rfl
  | 4, _ => rfl
  | 5, _ => rfl
theorem cntL_len (f : Int → Int) : (cntL f).length = 6 := rfl
theorem cntL_ext {f g : Int → Int} (h : ∀ k : Nat, k < 6 → f k = g k) : cntL f = cntL g :=
  ext_gi rfl fun j hj => by rw [cntL_gi f hj, cntL_gi g hj]; exact h j hj
theorem cntL_set (f g : Int → Int) (k : Nat) (hk : k < 6) (h1 : g k = f k + 1) (h2 : ∀ j : Nat, j < 6 → j ≠ k → g j = f j) : (cntL f).set k (f k + 1) = cntL g := by
  refine ext_gi (by rw [List.length_set, cntL_len, cntL_len]) fun j hj => ?_
  rw [List.length_set, cntL_len] at hj
  rw [gi_set (by rw [cntL_len]; exact hk), cntL_gi g hj]
  by_cases e : j = k
  · subst e; rw [if_pos rfl, h1]
  · rw [if_neg e, cntL_gi f hj, h2 j hj e]

/-- the sign of a kind; the matrix that kinds tell -/
def sgK (x : Int) : Int := if x = 4 then 1 else if x = 5 then -1 else 0
def fkM (t : List (List Int)) : List (List Int) := tab t.length t.length fun i j => sgK (gi (gr t i) j)
theorem fkM_len (t : List (List Int)) : (fkM t).length = t.length := tab_len _ _ _
theorem fkM_square {t : List (List Int)} (h : square t) : square (fkM t) := ⟨by rw [fkM_len]; exact h.1, by rw [fkM_len]; exact h.2.1, fun i hi => by rw [fkM_len] at hi ⊢; exact tab_row hi⟩
theorem fkM_wf {t : List (List Int)} : WfM (fkM t) := fun i hi j hj => by
  rw [fkM_len] at hi
  unfold fkM at hj ⊢
  rw [tab_row hi] at hj
  rw [gi_tab hi hj]
  unfold sgK
  split
  · omega
  · split <;> omega
/-- kinds of a sign matrix -/
def isKinds (t : List (List Int)) : Prop := square t ∧ good (fkM t) ∧ kinds (fkM t) = t

/-- powers -/
def pw (x : Int) : Nat → Int
  | 0 => 1
  | k + 1 => pw x k * x
theorem pw_zero (x : Int) : pw x 0 = 1 := rfl
theorem pw_succ (x : Int) (k : Nat) : pw x (k + 1) = pw x k * x := rfl
theorem pw_add (x : Int) (a b : Nat) : pw x (a + b) = pw x a * pw x b := by
  induction b with
  | zero => simp [pw]
  | succ b ih => rw [Nat.add_succ, pw, pw, ih, Int.mul_assoc]
theorem pw_one (k : Nat) : pw 1 k = 1 := by
  induction k with
  | zero => rfl
  | succ k ih => rw [pw, ih]; rfl
theorem pw_nonneg {x : Int} (h : 0 ≤ x) (k : Nat) : 0 ≤ pw x k := by
  induction k with
  | zero => simp [pw]
  | succ k ih => rw [pw]; exact Int.mul_nonneg ih h
theorem sumF_const (x : Int) (k : Nat) : sumF (fun _ => x) k = k * x := by
  induction k with
  | zero => simp [sumF]
  | succ k ih => simp only [sumF]; rw [ih, show ((k + 1 : Nat) : Int) = (k : Int) + 1 from by omega, Int.add_mul, Int.one_mul]
theorem sumF_plus (f g : Nat → Int) (k : Nat) : sumF f k + sumF g k = sumF (fun i => f i + g i) k := by
  induction k with
  | zero => rfl
  | succ k ih => simp only [sumF]; omega
theorem ind_total {x : Int} (h : 0 ≤ x ∧ x ≤ 5) : ind x 0 + ind x 1 + ind x 2 + ind x 3 + ind x 4 + ind x 5 = 1 := by
  obtain ⟨k, hk⟩ : ∃ k : Nat, x = (k : Int) := ⟨x.toNat, by omega⟩
  subst hk
  obtain rfl | rfl | rfl | rfl | rfl | rfl : k = 0 ∨ k = 1 ∨ k = 2 ∨ k = 3 ∨ k = 4 ∨ k = 5 := by omega
  all_goals decide
/-- the counts of all kinds together -/
theorem cnt_total {m : List (List Int)} (h : good m) : cntK m 0 + cntK m 1 + cntK m 2 + cntK m 3 + cntK m 4 + cntK m 5 = m.length * m.length := by
  unfold cntK
  rw [sumF_plus, sumF_plus, sumF_plus, sumF_plus, sumF_plus, ← sumF_const]
  refine sumF_congr fun i hi => ?_
  rw [sumF_plus, sumF_plus, sumF_plus, sumF_plus, sumF_plus]
  rw [sumF_congr (g := fun _ => 1) fun j hj => ind_total (kd_range h hi hj), sumF_const]
  omega
/-- the count of a kind as a natural number -/
def cN (m : List (List Int)) (q : Nat) : Nat := (cntK m q).toNat
theorem cN_eq {m : List (List Int)} (hm : m.length ≤ 6) (q : Nat) : cntK m q = (cN m q : Int) := by
  have := (cntK_bd (m := m) q hm).1
  unfold cN
  omega
theorem cN_total {m : List (List Int)} (h : good m) : cN m 0 + cN m 1 + cN m 2 + cN m 3 + cN m 4 + cN m 5 = m.length * m.length := by
  have h1 := cnt_total h
  have h2 := cN_eq h.1.2.1
  have e0 : cntK m 0 = (cN m 0 : Int) := h2 0
  have e1 : cntK m 1 = (cN m 1 : Int) := h2 1
  have e2 : cntK m 2 = (cN m 2 : Int) := h2 2
  have e3 : cntK m 3 = (cN m 3 : Int) := h2 3
  have e4 : cntK m 4 = (cN m 4 : Int) := h2 4
  have e5 : cntK m 5 = (cN m 5 : Int) := h2 5
  rw [e0, e1, e2, e3, e4, e5] at h1
  have h3 : ((cN m 0 + cN m 1 + cN m 2 + cN m 3 + cN m 4 + cN m 5 : Nat) : Int) = ((m.length * m.length : Nat) : Int) := by
    rw [Int.natCast_mul]
    omega
  exact Int.ofNat.inj h3
theorem sq_le {n : Nat} (h : n ≤ 4) : n * n ≤ 16 := Nat.mul_le_mul h h
/-- the product of powers -/
def prodW (wt : Nat → Int) (c : Nat → Nat) : Nat → Int
  | 0 => 1
  | k + 1 => prodW wt c k * pw (wt k) (c k)
def sumC (c : Nat → Nat) : Nat → Nat
  | 0 => 0
  | k + 1 => sumC c k + c k
theorem sumC_mono {c : Nat → Nat} {k l : Nat} (h : k ≤ l) : sumC c k ≤ sumC c l := by
  induction l with
  | zero => obtain rfl : k = 0 := by omega
            exact Nat.le_refl _
  | succ l ih =>
    by_cases e : k = l + 1
    · subst e; exact Nat.le_refl _
    · have := ih (by omega)
      simp only [sumC]
      omega
theorem pw_le {x : Int} (h : 0 ≤ x ∧ x ≤ 10) : ∀ k, 0 ≤ pw x k ∧ pw x k ≤ pw 10 k
  | 0 => by simp [pw]
  | k + 1 => by
    have ih := pw_le h k
    rw [pw, pw]
    exact ⟨Int.mul_nonneg ih.1 h.1, Int.mul_le_mul ih.2 h.2 h.1 (Int.le_trans ih.1 ih.2)⟩
theorem pw_ten : ∀ {k l : Nat}, k ≤ l → pw 10 k ≤ pw 10 l := by
  intro k l h
  induction l with
  | zero => obtain rfl : k = 0 := by omega
            exact Int.le_refl _
  | succ l ih =>
    by_cases e : k = l + 1
    · subst e; exact Int.le_refl _
    · have := ih (by omega)
      have h2 := pw_nonneg (x := 10) (by decide) l
      rw [pw]
      omega
theorem pw_16 : pw 10 16 = 10000000000000000 := by decide +kernel
theorem pw_small {x : Int} (h : 0 ≤ x ∧ x ≤ 10) {k : Nat} (hk : k ≤ 16) : 0 ≤ pw x k ∧ pw x k ≤ 10000000000000000 := by
  have h1 := pw_le h k
  have h2 := pw_ten hk
  rw [pw_16] at h2
  omega
theorem prodW_le {wt : Nat → Int} {c : Nat → Nat} : ∀ {k : Nat}, (∀ q, q < k → 0 ≤ wt q ∧ wt q ≤ 10) → 0 ≤ prodW wt c k ∧ prodW wt c k ≤ pw 10 (sumC c k)
  | 0, _ => by simp [prodW, sumC, pw]
  | k + 1, h => by
    have ih := prodW_le (c := c) (k := k) (fun q hq => h q (by omega))
    have h1 := pw_le (h k (by omega)) (c k)
    rw [prodW, sumC, pw_add]
    exact ⟨Int.mul_nonneg ih.1 h1.1, Int.mul_le_mul ih.2 h1.2 h1.1 (Int.le_trans ih.1 ih.2)⟩
theorem prodW_small {wt : Nat → Int} {c : Nat → Nat} (h : ∀ q, q < 6 → 0 ≤ wt q ∧ wt q ≤ 10) (hc : sumC c 6 ≤ 16) {k : Nat} (hk : k ≤ 6) : 0 ≤ prodW wt c k ∧ prodW wt c k ≤ 10000000000000000 := by
  have h1 := prodW_le (wt := wt) (c := c) (k := k) (fun q hq => h q (by omega))
  have h2 := pw_ten (Nat.le_trans (sumC_mono (c := c) hk) hc)
  rw [pw_16] at h2
  omega
theorem sumC_cN {m : List (List Int)} (h : good m) (h4 : m.length ≤ 4) : sumC (cN m) 6 ≤ 16 := by
  have h1 := cN_total h
  have h2 := sq_le h4
  simp only [sumC]
  omega
end Go.Proofs.YtnhkclnloiiihaaDoor

namespace Go.Proofs.YtnhkclnloiiihaaDoor
open Go.RowKit

/-- 1 more at k, in a list that is made longer if need be -/
def addAt (L : List Int) (k : Nat) : List Int := (L ++ List.replicate (k + 1 - L.length) 0).set k (gi L k + 1)
def padTo (L : List Int) (t : Nat) : List Int := L ++ List.replicate t 0
theorem padTo_len (L : List Int) (t : Nat) : (padTo L t).length = L.length + t := by simp [padTo]
theorem padTo_zero (L : List Int) : padTo L 0 = L := by simp [padTo]
theorem padTo_succ (L : List Int) (t : Nat) : padTo L (t + 1) = padTo L t ++ [0] := by
  unfold padTo
  rw [List.replicate_succ', List.append_assoc]
theorem gi_padTo (L : List Int) (t k : Nat) : gi (padTo L t) k = gi L k := by
  unfold padTo gi
  by_cases h : k < L.length
  · simp [List.getD, List.getElem?_append_left h]
  · have h1 : L.length ≤ k := by omega
    simp only [List.getD]
    rw [List.getElem?_append_right h1, List.getElem?_eq_none h1]
    by_cases h2 : k - L.length < t
    · rw [List.getElem?_replicate, if_pos h2]; rfl
    · rw [List.getElem?_eq_none (by simp; omega)]
theorem addAt_of {L : List Int} {k t : Nat} (h : L.length + t = max L.length (k + 1)) : (padTo L t).set k (gi L k + 1) = addAt L k := by
  unfold addAt
  rw [show k + 1 - L.length = t by omega]
  rfl
def fMin (m : List (List Int)) : Nat := (mcount m).toNat
def invW (m : List (List Int)) : Int := cntK m 0 + cntK m 5
def fInv (m : List (List Int)) : Nat := (invW m).toNat
def tabW (f : List (List Int) → Nat) (ts : List (List (List Int))) : List Int := ts.foldl (fun L m => addAt L (f m)) []
theorem tabW_step (f : List (List Int) → Nat) (ts : List (List (List Int))) {k : Nat} (h : k < ts.length) : tabW f (ts.take (k + 1)) = addAt (tabW f (ts.take k)) (f (ts.getD k [])) := by
  unfold tabW
  rw [List.take_add_one, List.foldl_append, List.getElem?_eq_getElem h]
  simp [List.getD, h]
def okA (L : List Int) : Bool := decide (L.length ≤ 100) && L.all fun x => decide (0 ≤ x) && decide (x ≤ 100)
theorem okA_at {L : List Int} (h : okA L = true) : L.length ≤ 100 ∧ ∀ k, 0 ≤ gi L k ∧ gi L k ≤ 100 := by
  unfold okA at h
  simp only [Bool.and_eq_true, decide_eq_true_eq, List.all_eq_true] at h
  refine ⟨h.1, fun k => ?_⟩
  by_cases hk : k < L.length
  · have := h.2 _ (gi_mem hk)
    exact this
  · unfold gi
    rw [List.getD, List.getElem?_eq_none (by omega)]
    simp
theorem tab_ok : ∀ n, n < 5 → ∀ k, k < (allW n).length + 1 → okA (tabW fMin ((allW n).take k)) = true ∧ okA (tabW fInv ((allW n).take k)) = true := by decide +kernel
theorem tab_okF {n : Int} (h : 1 ≤ n ∧ n ≤ 4) : okA (tabW fMin (allW n.toNat)) = true ∧ okA (tabW fInv (allW n.toNat)) = true := by
  have := tab_ok n.toNat (by omega) (allW n.toNat).length (by omega)
  rwa [List.take_length] at this
theorem okA_small {p : Prop} (_ : p) (L : List Int) (h : okA L = true) : L.length ≤ 1048576 := by
  have := (okA_at h).1
  omega
theorem f_ok : ∀ n, n < 5 → ∀ m, m ∈ allW n → (mcount m = (fMin m : Int) ∧ fMin m < 100) ∧ invW m = (fInv m : Int) ∧ fInv m < 100 := by decide +kernel
end Go.Proofs.YtnhkclnloiiihaaDoor

namespace Go.Proofs.YtnhkclnloiiihaaDoor
open Go.RowKit

def jR (n : Nat) : Nat := (tabW fInv (allW n)).length
def jC (n : Nat) : Nat := (tabW fMin (allW n)).length
/-- how many of the first t matrices have p inversions and k minus ones -/
def jF (A : List (List (List Int))) (t p k : Nat) : Int := sumF (fun i => if fInv (A.getD i []) = p ∧ fMin (A.getD i []) = k then 1 else 0) t
theorem jF_zero (A : List (List (List Int))) (p k : Nat) : jF A 0 p k = 0 := rfl
theorem jF_step (A : List (List (List Int))) (t p k : Nat) : jF A (t + 1) p k = if p = fInv (A.getD t []) ∧ k = fMin (A.getD t []) then jF A t (fInv (A.getD t [])) (fMin (A.getD t [])) + 1 else jF A t p k := by
  unfold jF
  simp only [sumF]
  by_cases e : p = fInv (A.getD t []) ∧ k = fMin (A.getD t [])
  · rw [if_pos e, e.1, e.2, if_pos ⟨rfl, rfl⟩]
  · rw [if_neg e, if_neg (fun h => e ⟨h.1.symm, h.2.symm⟩)]
    omega
theorem jF_bd (A : List (List (List Int))) (t p k : Nat) : 0 ≤ jF A t p k ∧ jF A t p k ≤ t := sumF_01 fun i _ => by split <;> omega
def joint (n : Nat) : List (List Int) := tab (jR n) (jC n) (jF (allW n) (allW n).length)
theorem j_ok : ∀ n, n < 5 → ∀ m, m ∈ allW n → fInv m < jR n ∧ fMin m < jC n ∧ cN m 5 = fMin m ∧ cN m 0 + cN m 5 = fInv m := by decide +kernel
theorem j_size : ∀ n, n < 5 → n = 0 ∨ (jR n = n * (n - 1) / 2 + 1 ∧ jR n ≤ 100 ∧ jC n ≤ 100 ∧ 1 ≤ jC n) := by decide +kernel
theorem joint_small {n : Int} (h : 1 ≤ n ∧ n ≤ 4) : Small (joint n.toNat) := by
  have hs := (j_size n.toNat (by omega)).resolve_left (by omega)
  refine ⟨by unfold joint; rw [tab_len]; omega, fun i hi => ?_⟩
  unfold joint at hi ⊢
  rw [tab_len] at hi
  rw [tab_row hi]
  omega
end Go.Proofs.YtnhkclnloiiihaaDoor

namespace Go.Proofs.YtnhkclnloiiihaaDoor
open Go.RowKit

set_option maxRecDepth 100000 in
set_option maxHeartbeats 400000 in
theorem l1Same_any (a1 a2 : Option Addr) (c1 c2 : Nat) (xs ys : List Int) (w : World) (hn : xs.length ≤ 1048576) (hn2 : ys.length ≤ 1048576) (h1 : IntsAt w a1 xs) (h2 : IntsAt w a2 ys) :
    Calls Tryd.prog 158 #[.slice a1 xs.length c1, .slice a2 ys.length c2] w fun e w' => e = .returned (.bool (xs == ys)) ∧ Q w w' := by
  have hm1 : xs.length ≤ 9223372036854775807 := by omega
  have hm2 : ys.length ≤ 9223372036854775807 := by omega
  have H1 := Lib.hid h1
  have H2 := Lib.hid h2
  clear h1 h2
  by_cases hl : ys.length = xs.length
  · have Hl := Lib.hid hl
    have hb : ((xs.length : Int) != (ys.length : Int)) = false := by simp; omega
    go_enter Tryd.func158, Tryd.ntmps158
    go_wp2
    go_loopw [13] (fun i wr => ∃ k : Nat, k ≤ xs.length ∧ i = .int .i64 k ∧ (∀ j, j < k → gi xs j = gi ys j) ∧ Q w wr) (fun i _ => xs.length - (intOf i).toNat)
    case atStart => exact ⟨0, Nat.zero_le _, rfl, fun j hj => absurd hj (by omega), Q.refl _⟩
    case round =>
      obtain ⟨k, hk, rfl, hr, hbr⟩ := hrel
      by_cases hlt : k < xs.length
      · obtain ⟨b1, o1, rfl, hc1⟩ := H1.out.below (hbr.below _) k hlt
        obtain ⟨b2, o2, rfl, hc2⟩ := H2.out.below (hbr.below _) k (by omega)
        have Hr := Lib.hid hr
        have Hbr := Lib.hid hbr
        by_cases e : gi xs k = gi ys k
        · have He := Lib.hid e
          rw [← e] at hc2
          obtain ⟨x, hx⟩ : ∃ x, x = gi xs k := ⟨_, rfl⟩
          rw [← hx] at hc1 hc2
          clear hx e hr hbr
          go_wp2
          go_quiet (fail)
          go_wp2
          go_roundw
          case rel => exact ⟨k + 1, by omega, by go_num, fun j hj => by
            by_cases ej : j = k
            · subst ej; exact He.out
            · exact Hr.out j (by omega), Hbr.out.drewN _⟩
          case measure => simp [intOf]; omega
        · have Hs := Lib.hid (show (xs == ys) = false by
            rw [beq_eq_false_iff_ne]
            intro h
            exact e (by rw [h]))
          have hne : (gi xs k != gi ys k) = true := by simpa using e
          obtain ⟨x, hx⟩ : ∃ x, x = gi xs k := ⟨_, rfl⟩
          obtain ⟨y, hy⟩ : ∃ y, y = gi ys k := ⟨_, rfl⟩
          rw [← hx] at hc1 hne
          rw [← hy] at hc2 hne
          clear hx hy e hr hbr
          go_wp2
          go_quiet (fail)
          go_wp2
          go_ret
          exact ⟨by rw [Hs.out]; rfl, Hbr.out.drewN _⟩
      · obtain rfl : k = xs.length := by omega
        have Hs := Lib.hid (show (xs == ys) = true by
          rw [beq_iff_eq]
          exact ext_gi Hl.out.symm hr)
        have Hbr := Lib.hid hbr
        clear hr hbr
        go_wp2
        go_ret
        exact ⟨by rw [Hs.out]; rfl, Hbr.out⟩
  · have Hs := Lib.hid (show (xs == ys) = false by
      rw [beq_eq_false_iff_ne]
      intro h
      exact hl (by rw [h]))
    have hb : ((xs.length : Int) != (ys.length : Int)) = true := by simp; omega
    go_enter Tryd.func158, Tryd.ntmps158
    go_wp2
    go_ret
    exact ⟨by rw [Hs.out]; rfl, Q.refl _⟩

end Go.Proofs.YtnhkclnloiiihaaDoor

