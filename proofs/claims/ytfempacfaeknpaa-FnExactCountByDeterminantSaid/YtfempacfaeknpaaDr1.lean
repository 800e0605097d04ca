/- Contract: a table without one of its columns, by the program. Conditions: at most 6 rows of n numbers, n at most 6. -/
import Derived.Test.YtfempacfaeknpaaDr0
import Derived.Test.YtfempacfaeknpaaOwnV
import Derived.Deep.RegionWith
namespace Go.Proofs.Ytfempacfaeknpaa
open Go.RowKit

theorem two_cells (w : World) (x y : Value) (e : TypeId) : (w.alloc (.cells #[x, y] e)).cell? ⟨w.heap.size, 0, none⟩ = some x ∧ (w.alloc (.cells #[x, y] e)).cell? ⟨w.heap.size, 1, none⟩ = some y :=
  ⟨by rw [cell_of_row _ _ 0 _ _ _ (heap_alloc_new w _)]; rfl, by rw [cell_of_row _ _ 1 _ _ _ (heap_alloc_new w _)]; rfl⟩
/-- two rows, written out, put together -/
theorem concat2_any (a1 a2 : Addr) (c1 c2 : Nat) (xs ys : List Int) (w w0 : World) (h1 : xs.length ≤ c1) (h2 : ys.length ≤ c2) (hc1 : c1 ≤ 9223372036854775807) (hc2 : c2 ≤ 9223372036854775807) (hl : xs.length + ys.length ≤ 1048576) (hx : IntsAt w (some a1) xs) (hy : IntsAt w (some a2) ys)
    (hw0 : Below (w.alloc (.cells #[.slice (some a1) xs.length c1, .slice (some a2) ys.length c2] 42)).heap.size (w.alloc (.cells #[.slice (some a1) xs.length c1, .slice (some a2) ys.length c2] 42)) w0) :
    Calls Try.prog 109 #[.slice (some ⟨w.heap.size, 0, none⟩) 2 2] w0 fun e w' => ∃ v, e = .returned v ∧ OwnI w' w.heap.size v (xs ++ ys) ∧ Below w.heap.size w w' := by
  obtain ⟨w1, hw1⟩ : ∃ w1, w1 = w.alloc (.cells #[.slice (some a1) xs.length c1, .slice (some a2) ys.length c2] 42) := ⟨_, rfl⟩
  have hb1 : Below w.heap.size w w1 := by rw [hw1]; exact (Below.refl _ _).alloc (Nat.le_refl _) _
  have hcs1 := two_cells w (.slice (some a1) xs.length c1) (.slice (some a2) ys.length c2) 42
  rw [← hw1] at hcs1 hw0
  have hb : Below w.heap.size w w0 := hb1.trans (hw0.mono hb1.size)
  have hcs := And.intro (cell_below hcs1.1 hw0) (cell_below hcs1.2 hw0)
  have hm : MatAt w0 (some ⟨w.heap.size, 0, none⟩) [xs, ys] := fun k hk => by
    have : k = 0 ∨ k = 1 := by simp at hk; omega
    rcases this with rfl | rfl
    · exact ⟨w.heap.size, 0, some a1, c1, rfl, hcs.1, hx.below hb, h1, hc1⟩
    · exact ⟨w.heap.size, 0, some a2, c2, rfl, hcs.2, hy.below hb, h2, hc2⟩
  have hz : NilRows w0 (some ⟨w.heap.size, 0, none⟩) [xs, ys] := fun k b o r c hk e hc hr => by
    cases e
    have : k = 0 ∨ k = 1 := by simp at hk; omega
    rcases this with rfl | rfl
    · rw [hcs.1] at hc; cases hc; cases hr
    · rw [hcs.2] at hc; cases hc; cases hr
  have C := concat_any (some ⟨w.heap.size, 0, none⟩) 2 [xs, ys] w0 (by simp) (by simp; omega) hm hz
  refine C.mono ?_
  rintro e w2 ⟨v, rfl, hv, hb2⟩
  refine ⟨v, rfl, ?_, hb.trans (hb2.mono hb.size)⟩
  have := hv.base hb.size
  simpa using this
theorem IntsAt.dropN {w : World} {b o : Nat} {xs : List Int} (h : IntsAt w (some ⟨b, o, none⟩) xs) (q : Nat) : IntsAt w (some ⟨b, o + q, none⟩) (xs.drop q) := fun k hk => by
  rw [List.length_drop] at hk
  obtain ⟨b1, o1, e, hc⟩ := h (q + k) (by omega)
  cases e
  refine ⟨b, o + q, rfl, ?_⟩
  rw [show o + q + k = o + (q + k) by omega, hc]
  simp [gi, List.getD]
theorem IntsAt.takeN {w : World} {ao : Option Addr} {xs : List Int} (h : IntsAt w ao xs) (q : Nat) : IntsAt w ao (xs.take q) := fun k hk => by
  rw [List.length_take] at hk
  obtain ⟨b1, o1, e, hc⟩ := h k (by omega)
  refine ⟨b1, o1, e, ?_⟩
  rw [hc]
  simp [gi, List.getD, List.getElem?_take, show k < q by omega]

set_option maxRecDepth 100000 in
set_option maxHeartbeats 3200000 in
theorem withoutColumn_any (ao : Option Addr) (c : Nat) (t : List (List Int)) (n j : Nat) (w : World) (hn : n ≤ 6) (hj : j < n) (ht : t.length ≤ 6) (hr : ∀ i, i < t.length → (gr t i).length = n) (hm : MatAt w ao t) :
    Calls Try.prog 105 #[.slice ao t.length c, .int .i64 j] w fun e w' => ∃ v vs, e = .returned v ∧ OwnT w' w.heap.size v (t.map (dropC j)) vs ∧ Below w.heap.size w w' := by
  obtain ⟨j0, hj0, hy0, hy1, hy2⟩ := info_parts Try.info_ints
  have Hm := Lib.hid hm
  have Hr := Lib.hid hr
  have hmx : t.length ≤ 9223372036854775807 := by omega
  obtain ⟨N, hN⟩ : ∃ N, N = t.length := ⟨_, rfl⟩
  have HN := Lib.hid hN
  have hN6 : N ≤ 6 := by omega
  have hNm : N ≤ 9223372036854775807 := by omega
  rw [← hN]
  clear hm hr hN hmx ht
  go_enter Try.func105, Try.ntmps105
  go_wp2_with (at_make; refine wpList_make_full _ rfl _ _ 22 rfl w.heap.size 42 j0 (.slice none 0 0) 1 Try.underlying22 hj0 hy0 hy1 _ _ _ _ N rfl rfl rfl rfl ?c1 ?c2 ?c3 ?_)
  case c1 => rw [hy2]; omega
  case c2 => unfold maxLen; omega
  case c3 => simp
  intro w1 hown hgr
  have hb1 : Below w.heap.size w w1 := (Below.refl _ _).grown hgr (Nat.le_refl _) (fun _ h => by cases h)
  have Hown := Lib.hid (OwnP.made (m := t.map (dropC j)) hown)
  have HB := Lib.hid hb1
  have HH := Lib.hid (show w.heap.size < w1.heap.size from by obtain ⟨cur, hcur⟩ := ownsRow_block hown; exact lt_of_block hcur)
  clear hown hgr hb1
  go_wp2
  go_loopw [13] (fun i wr => ∃ (k : Nat) (vs : List Value), k ≤ N ∧ i = .int .i64 k ∧ OwnP wr w.heap.size (.slice (some ⟨w.heap.size, 0, none⟩) N N) N (t.map (dropC j)) k vs ∧ Below w.heap.size w wr) (fun i _ => N - (intOf i).toNat)
  case atStart => exact ⟨0, _, Nat.zero_le _, rfl, Hown.out, HB.out⟩
  case round =>
    obtain ⟨k, vs, hk, rfl, hown, hbr⟩ := hrel
    have Hown2 := Lib.hid hown
    have Hbr := Lib.hid hbr
    have HBr := Lib.hid hbr.size
    clear hown hbr Hown HB
    by_cases hlt : k < N
    · have hlt2 : k < t.length := by rw [← HN.out]; exact hlt
      obtain ⟨b1, o1, r1, d1, rfl, hc0, hr1, hd1, hd2⟩ := Hm.out k hlt2
      rw [Hr.out k hlt2] at hc0 hd1
      have hc1 := cell_below hc0 Hbr.out
      have Hr1 := Lib.hid (hr1.below Hbr.out)
      have hrl := Hr.out k hlt2
      obtain ⟨br, or, er, _⟩ := hr1 0 (by omega)
      subst er
      have HM := Lib.hid (gr_map (f := dropC j) hlt2)
      obtain ⟨row, hrow⟩ : ∃ row, row = gr t k := ⟨_, rfl⟩
      rw [← hrow] at Hr1 hrl HM
      obtain ⟨q, hq⟩ : ∃ q, q = j + 1 := ⟨_, rfl⟩
      have hwq : IntKind.i64.wrap ((j : Int) + 1) = (q : Int) := by rw [w64 (by omega)]; omega
      have hrm : n ≤ 9223372036854775807 := by omega
      have hHs := HH.out
      have Hhs := Lib.hid (show w.heap.size < wr.heap.size by obtain ⟨cur, hcur⟩ := ownsRow_block Hown2.out.top; exact lt_of_block hcur)
      have Hfac := Lib.hid (show ∀ w', Below wr.heap.size wr w' → ∀ v, OwnI w' wr.heap.size v (dropC j row) → (w'.cell? ⟨w.heap.size, k, none⟩ = some (vs.getD k undef) ∧ w'.frozen? ⟨w.heap.size, k, none⟩ = false) ∧ OwnP (w'.setCell ⟨w.heap.size, k, none⟩ v) w.heap.size (.slice (some ⟨w.heap.size, 0, none⟩) N N) N (t.map (dropC j)) (k + 1) (vs.set k v) ∧ Below w.heap.size w (w'.setCell ⟨w.heap.size, k, none⟩ v) from fun w' hb v hv => by
        have h1 := Hown2.out.below hb
        refine ⟨⟨h1.cellAt k hlt, World.ownsRow.frozenAt h1.top k⟩, h1.put hlt (by rw [HM.out]; exact hv.base HBr.out) (Hown2.out.fresh hv (Nat.le_refl _)), (Hbr.out.trans (hb.mono HBr.out)).setCell (p := ⟨w.heap.size, k, none⟩) (Nat.le_refl _) v⟩)
      by_cases hdq : d1 = q
      · obtain rfl : d1 = n := by omega
        obtain rfl : q = d1 := by omega
        have HC := Lib.hid (show ∀ w', Below (wr.alloc (.cells #[.slice (some ⟨br, or, none⟩) j q, .slice (some ⟨br, or, none⟩) 0 0] 42)).heap.size (wr.alloc (.cells #[.slice (some ⟨br, or, none⟩) j q, .slice (some ⟨br, or, none⟩) 0 0] 42)) w' → Calls Try.prog 109 #[.slice (some ⟨wr.heap.size, 0, none⟩) 2 2] w' fun e w'' => ∃ v, e = .returned v ∧ OwnI w'' wr.heap.size v (dropC j row) ∧ Below wr.heap.size wr w'' from fun w' hb => by
          have e1 : (row.take j).length = j := by rw [List.length_take]; omega
          have e2 : row.drop (j + 1) = [] := List.drop_eq_nil_of_le (by omega)
          have C := concat2_any ⟨br, or, none⟩ ⟨br, or, none⟩ q 0 (row.take j) [] wr w' (by omega) (Nat.le_refl _) (by omega) (by omega) (by simp; omega) (Hr1.out.takeN j) (IntsAt.nil _ _) (by rw [e1]; exact hb)
          unfold dropC
          rw [e2]
          exact C)
        obtain ⟨DR, hDR⟩ : ∃ DR, DR = dropC j row := ⟨_, rfl⟩
        rw [← hDR] at HC Hfac
        clear hr1 hc0 hd1 hrl hrow hq hdq hDR
        go_wp2_with fail
        go_region_with (go_at_call 109; refine (HC.out _ ?_).mono ?_; exact below_drewN (Below.refl _ _) 1; rintro e w5 ⟨v, rfl, hv, hb5⟩; obtain ⟨va, vc, hvv, _, _, _⟩ := hv.read; subst hvv; obtain ⟨⟨hcc, hff⟩, hO, hBB⟩ := Hfac.out w5 hb5 _ hv; have HO := Lib.hid hO; have HBB := Lib.hid hBB; clear hO hBB hv hb5)
        all_goals
          clear hcc hff
          go_wp2
          go_roundw
          case rel => exact ⟨k + 1, _, by omega, by go_num, HO.out, HBB.out⟩
          case measure => simp [intOf]; omega
      · have hqn : q ≤ n := by omega
        have hqd : q ≤ d1 := by omega
        have hd0 : ¬ d1 = 0 := by omega
        have hjd : j ≤ d1 := by omega
        have HC := Lib.hid (show ∀ w', Below (wr.alloc (.cells #[.slice (some ⟨br, or, none⟩) j d1, .slice (some ⟨br, or + q, none⟩) (n - q) (d1 - q)] 42)).heap.size (wr.alloc (.cells #[.slice (some ⟨br, or, none⟩) j d1, .slice (some ⟨br, or + q, none⟩) (n - q) (d1 - q)] 42)) w' → Calls Try.prog 109 #[.slice (some ⟨wr.heap.size, 0, none⟩) 2 2] w' fun e w'' => ∃ v, e = .returned v ∧ OwnI w'' wr.heap.size v (dropC j row) ∧ Below wr.heap.size wr w'' from fun w' hb => by
          have e1 : (row.take j).length = j := by rw [List.length_take]; omega
          have e2 : (row.drop (j + 1)).length = n - q := by rw [List.length_drop]; omega
          have C := concat2_any ⟨br, or, none⟩ ⟨br, or + q, none⟩ d1 (d1 - q) (row.take j) (row.drop (j + 1)) wr w' (by omega) (by omega) (by omega) (by omega) (by omega) (Hr1.out.takeN j) (by rw [← hq]; exact Hr1.out.dropN q) (by rw [e1, e2]; exact hb)
          unfold dropC
          exact C)
        obtain ⟨DR, hDR⟩ : ∃ DR, DR = dropC j row := ⟨_, rfl⟩
        rw [← hDR] at HC Hfac
        clear hr1 hc0 hd1 hrl hrow hq hDR
        go_wp2_with fail
        go_region_with (go_at_call 109; refine (HC.out _ ?_).mono ?_; exact below_drewN (Below.refl _ _) 1; rintro e w5 ⟨v, rfl, hv, hb5⟩; obtain ⟨va, vc, hvv, _, _, _⟩ := hv.read; subst hvv; obtain ⟨⟨hcc, hff⟩, hO, hBB⟩ := Hfac.out w5 hb5 _ hv; have HO := Lib.hid hO; have HBB := Lib.hid hBB; clear hO hBB hv hb5)
        all_goals
          clear hcc hff
          go_wp2
          go_roundw
          case rel => exact ⟨k + 1, _, by omega, by go_num, HO.out, HBB.out⟩
          case measure => simp [intOf]; omega
    · obtain rfl : k = N := by omega
      have HF := Lib.hid (show OwnT wr w.heap.size (.slice (some ⟨w.heap.size, 0, none⟩) k k) (t.map (dropC j)) vs from by unfold OwnT; rw [List.length_map, ← HN.out]; exact Hown2.out)
      clear Hown2
      go_wp2
      go_ret
      exact ⟨_, vs, rfl, HF.out, Hbr.out⟩
end Go.Proofs.Ytfempacfaeknpaa
