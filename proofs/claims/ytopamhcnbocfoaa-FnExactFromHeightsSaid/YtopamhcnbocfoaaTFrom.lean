/- Contracts of the program: the terrain that any table makes; the sign matrix with given heights. Condition: the numbers fit an int. -/
import Derived.Test.YtopamhcnbocfoaaHtQ
import Derived.Laws.CopyOwn
namespace Go.Proofs.Ytopamhcnbocfoaa
open Go.RowKit

/-- a table's numbers, 0 behind them -/
def padH (H : List (List Int)) (i j : Nat) : Int := if i < H.length ∧ j < H.length then gi (gr H i) j else 0
/-- the first numbers of a row of heights replaced -/
def updR (f : Nat → Nat → Int) (i N : Nat) (xs : List Int) : Nat → Nat → Int := fun a b => if a = i ∧ b < N then gi xs b else f a b

theorem tl_copy (n : Int) (f : Nat → Nat → Int) {i N : Nat} {xs : List Int} (hi : i < 7) (hN : N ≤ 7) (hx : xs.length = N) :
    ((tc n f).toList.take (1 + i * 7) ++ (xs.map (Value.int .i64) ++ (tc n f).toList.drop (1 + i * 7 + (xs.map (Value.int .i64)).length))).toArray = tc n (updR f i N xs) := by
  apply Array.ext_getElem?
  intro k
  have hl : (tc n f).toList.length = 50 := by simp [tc, tl]
  have hat : ∀ j, (tc n f).toList[j]? = (tc n f)[j]? := fun j => Array.getElem?_toList
  have ht : ((tc n f).toList.take (1 + i * 7)).length = 1 + i * 7 := by rw [List.length_take, hl]; omega
  have hm : (xs.map (Value.int .i64)).length = N := by rw [List.length_map, hx]
  rw [List.getElem?_toArray]
  by_cases hk : k < 50
  · by_cases h0 : k = 0
    · subst h0
      rw [List.getElem?_append_left (by omega), List.getElem?_take, if_pos (by omega), hat, tc_zero, tc_zero]
    · obtain ⟨a, b, ha, hb, rfl⟩ : ∃ a b, a < 7 ∧ b < 7 ∧ k = 1 + a * 7 + b := ⟨(k - 1) / 7, (k - 1) % 7, by omega, by omega, by omega⟩
      rw [tc_at n _ ha hb]
      unfold updR
      by_cases h1 : 1 + a * 7 + b < 1 + i * 7
      · rw [List.getElem?_append_left (by omega), List.getElem?_take, if_pos h1, hat, tc_at n f ha hb, if_neg (by omega)]
      · rw [List.getElem?_append_right (by omega), ht]
        by_cases h2 : a = i ∧ b < N
        · obtain ⟨rfl, h2⟩ := h2
          rw [if_pos ⟨rfl, h2⟩, List.getElem?_append_left (by omega), show 1 + a * 7 + b - (1 + a * 7) = b from by omega]
          simp [gi, List.getD, show b < xs.length by omega]
        · rw [if_neg h2, List.getElem?_append_right (by omega), hm, List.getElem?_drop, hat, show 1 + i * 7 + N + (1 + a * 7 + b - (1 + i * 7) - N) = 1 + a * 7 + b from by omega, tc_at n f ha hb]
  · have hsz : (tc n (updR f i N xs))[k]? = none := Array.getElem?_eq_none (by rw [tc_size]; omega)
    rw [hsz, List.getElem?_eq_none]
    simp only [List.length_append, ht, hm, List.length_drop, hl]
    omega

def TF (H : List (List Int)) (e : Ending) : Prop := (shape0 H ∧ e = .returned (.tuple #[.agg (tc ((H.length - 1 : Nat) : Int) (padH H)), .bool true])) ∨ (¬ shape0 H ∧ e = .returned (.tuple #[tz, .bool false]))

set_option maxRecDepth 100000 in
set_option maxHeartbeats 1600000 in
theorem terrainFrom_any (ao : Option Addr) (c : Nat) (H : List (List Int)) (w : World) (hs : Small H) (hm : MatAt w ao H) :
    Calls Try.prog 62 #[.slice ao H.length c] w fun e w' => TF H e ∧ Below w.heap.size w w' := by
  have hn := hs.1
  have hmx : H.length ≤ 9223372036854775807 := by omega
  have hw1 : IntKind.i64.wrap ((H.length : Int) - 1) = (H.length : Int) - 1 := w64 (by omega)
  have Hs := Lib.hid hs
  have Hm := Lib.hid hm
  clear hs hm
  go_enter Try.func62, Try.ntmps62
  go_upto_region 2 with (first | (refine wpList_allocT rfl 47 rfl _ _ Try.info_terr ?_) | (refine wpList_buildT1 rfl 47 0 _ rfl (.int .i64 _) rfl _ (Try.built_terr _) ?_) | (refine wpList_buildT0 rfl 47 rfl _ Try.built_terr0 ?_) | (refine wpList_boxT rfl 47 _ rfl _ rfl ?_) | (refine wpList_storeT rfl 47 _ _ rfl _ _ _ (by first | rfl | simp) rfl rfl (Try.size_terr _ _) (tc_same _ _ _ _) (tc_one _ _) ?_))
  generalize hW : World.alloc (World.alloc w _) _ = w1
  have hR : TerrAt w1 w.heap.size 0 z0 := by rw [← hW]; exact two_bot w _ _ _
  have hT : TerrAt w1 (w.heap.size + 1) ((H.length : Int) - 1) z0 := by rw [← hW]; exact two_top w _ _ _
  have hB : Below w.heap.size w w1 := by rw [← hW]; exact two_below w _ _
  clear hW
  have hh := hT.head
  have HT := Lib.hid hT
  have HR := Lib.hid hR
  have HB := Lib.hid hB
  clear hT hR hB
  have F3 := Lib.hid (below_setRowT HB.out (Nat.le_refl _) (tc 0 z0))
  have F1 := Lib.hid (HR.out.setRow 0 z0)
  by_cases hl1 : H.length < 2
  · have hd1 : decide ((H.length : Int) - 1 < 1) = true := by simp; omega
    have Hl := Lib.hid hl1
    clear hl1
    go_wp2_with (first | (refine wpList_buildT0 rfl 47 rfl _ Try.built_terr0 ?_) | (refine wpList_storeG rfl 47 _ _ rfl w.heap.size (tc 0 z0) _ rfl rfl HR.out (Try.size_terr _ _) (tc_same _ _ _ _) (tc_one _ _) ?_))
    refine bodyPost_ret (v := .tuple #[tz, .bool false]) ?_ rfl ⟨.inr ⟨fun h => by have h1 := h.1; have h2 := Hl.out; omega, rfl⟩, F3.out⟩
    exact results_cell_two (p := 2) (q := 3) rfl _ _ w.heap.size _ rfl (Try.load_terr F1.out)
  · have hd1 : decide ((H.length : Int) - 1 < 1) = false := by simp; omega
    by_cases hl7 : 7 < H.length
    · have hd2 : decide ((6 : Int) < (H.length : Int) - 1) = true := by simp; omega
      have Hl := Lib.hid hl7
      clear hl7 hl1
      go_wp2_with (first | (refine wpList_buildT0 rfl 47 rfl _ Try.built_terr0 ?_) | (refine wpList_storeG rfl 47 _ _ rfl w.heap.size (tc 0 z0) _ rfl rfl HR.out (Try.size_terr _ _) (tc_same _ _ _ _) (tc_one _ _) ?_))
      refine bodyPost_ret (v := .tuple #[tz, .bool false]) ?_ rfl ⟨.inr ⟨fun h => by have h1 := h.2.1; have h2 := Hl.out; omega, rfl⟩, F3.out⟩
      exact results_cell_two (p := 2) (q := 3) rfl _ _ w.heap.size _ rfl (Try.load_terr F1.out)
    · have hd2 : decide ((6 : Int) < (H.length : Int) - 1) = false := by simp; omega
      have hH7 : H.length ≤ 7 := by omega
      have hH2 : 2 ≤ H.length := by omega
      clear hl7 hl1 F3 F1
      go_wp2
      clear hh hd1 hd2
      go_loopw [22] (fun i wr => ∃ (k : Nat) (f : Nat → Nat → Int), k ≤ H.length ∧ i = .int .i64 k ∧ TerrAt wr (w.heap.size + 1) ((H.length : Int) - 1) f ∧ TerrAt wr w.heap.size 0 z0 ∧
          (∀ a b, a < 7 → b < 7 → f a b = if a < k ∧ b < H.length then gi (gr H a) b else 0) ∧ (∀ j, j < k → (gr H j).length = H.length) ∧ Below w.heap.size w wr) (fun i _ => H.length - (intOf i).toNat)
      case atStart => exact ⟨0, z0, Nat.zero_le _, rfl, HT.out, HR.out, fun a b _ _ => by rw [if_neg (by omega)]; rfl, fun j hj => absurd hj (by omega), HB.out⟩
      case round =>
        obtain ⟨k, f, hk, rfl, hT, hR, heq, hrows, hbr⟩ := hrel
        clear HT HR HB
        have HT := Lib.hid hT
        have HR := Lib.hid hR
        have HE := Lib.hid heq
        have HRows := Lib.hid hrows
        have HB := Lib.hid hbr
        clear hT hR heq hrows hbr
        by_cases hlt : k < H.length
        · obtain ⟨b1, o1, r1, d1, e1, hc1, hx1, _, _⟩ := Hm.out.below HB.out k hlt
          subst e1
          have hrk := Hs.out.2 k hlt
          have Hx1 := Lib.hid hx1
          clear hx1
          by_cases he : (gr H k).length = H.length
          · have hb : (((gr H k).length : Int) != (H.length : Int)) = false := by simp [he]
            have He := Lib.hid he
            have hk7 : (k : Int) < 7 := by omega
            have hk77 : k < 7 := by omega
            obtain ⟨b2, o2, e2, _⟩ := Hx1.out 0 (by omega)
            subst e2
            have Hnew := Lib.hid (show TerrAt (wr.setRow (w.heap.size + 1) (tc ((H.length : Int) - 1) (updR f k H.length (gr H k)))) (w.heap.size + 1) ((H.length : Int) - 1) (updR f k H.length (gr H k)) from HT.out.setRow _ _)
            have htc := tl_copy ((H.length : Int) - 1) f hk77 hH7 he
            rw [List.length_map] at htc
            have Htc := Lib.hid htc
            clear htc
            have Hsrc := Lib.hid (show ∀ j v, ((gr H k).map (Value.int .i64))[j]? = some v → wr.cell? ((⟨b2, o2, none⟩ : Addr).add j) = some v from by
              intro j u hu
              rw [List.getElem?_map] at hu
              cases hj : (gr H k)[j]? with
              | none => rw [hj] at hu; cases hu
              | some x =>
                rw [hj] at hu
                have hjl : j < (gr H k).length := (List.getElem?_eq_some_iff.1 hj).1
                obtain ⟨b, o', e, hc⟩ := Hx1.out j hjl
                simp only [Option.some.injEq, Addr.mk.injEq, and_true] at e
                obtain ⟨rfl, rfl⟩ := e
                rw [Addr.add_lit, hc, ← hu]
                simp [gi, List.getD, hj])
            have Hlen := Lib.hid (show ((gr H k).map (Value.int .i64)).length = Nat.min (gr H k).length 7 from by rw [List.length_map]; exact (Nat.min_eq_left (by omega)).symm)
            have Hheap : Hid (wr.heap[w.heap.size + 1]? = some (.cells (tc ((H.length : Int) - 1) f) 47 (0, 0))) := Lib.hid HT.out
            clear he
            go_wp2_with ((with_reducible refine wpList_copy_own (o := ⟨some 38, _, _, _, _, _⟩) ?gA1 (.tmp 36) (.tmp 37) 41 41 ?gA2 3 Try.underlying41 ?gA3 (w.heap.size + 1) (1 + k * 7) 7 7 ⟨b2, o2, none⟩ (gr H k).length d1 ?gA4 ?gA5 (tc ((H.length : Int) - 1) f) 47 Hheap.out ((gr H k).map (Value.int .i64)) Hlen.out Hsrc.out ?gA6 ?gA7 ?_))
            case gA1 => rfl
            case gA2 => rfl
            case gA3 => exact Try.size_num
            case gA4 => rfl
            case gA5 => rfl
            case gA6 => rw [List.length_map, He.out, tc_size]; omega
            case gA7 =>
              intro u hu
              obtain ⟨_, _, rfl⟩ := List.mem_map.1 hu
              rfl
            rw [Htc.out]
            go_roundw
            case rel =>
              refine ⟨k + 1, _, by omega, by go_num, Hnew.out, HR.out.setRow_other (by omega) _, fun a b ha hb => ?_, fun j hj => ?_, below_setRowT HB.out (by omega) _⟩
              · unfold updR
                by_cases e : a = k ∧ b < H.length
                · rw [if_pos e, if_pos (by omega), e.1]
                · rw [if_neg e, HE.out a b ha hb]
                  by_cases e2 : a < k ∧ b < H.length
                  · rw [if_pos e2, if_pos (by omega)]
                  · rw [if_neg e2, if_neg (by omega)]
              · by_cases e : j = k
                · subst e; exact He.out
                · exact HRows.out j (by omega)
            case measure => simp [intOf]; omega
          · have hb : (((gr H k).length : Int) != (H.length : Int)) = true := by simp; omega
            have He := Lib.hid he
            have F3 := Lib.hid (below_setRowT HB.out (Nat.le_refl _) (tc 0 z0))
            have F1 := Lib.hid (HR.out.setRow 0 z0)
            clear he
            go_wp2_with (first | (refine wpList_buildT0 rfl 47 rfl _ Try.built_terr0 ?_) | (refine wpList_storeG rfl 47 _ _ rfl w.heap.size (tc 0 z0) _ rfl rfl HR.out (Try.size_terr _ _) (tc_same _ _ _ _) (tc_one _ _) ?_))
            refine bodyPost_ret (v := .tuple #[tz, .bool false]) ?_ rfl ⟨.inr ⟨fun h => He.out (h.2.2 k hlt), rfl⟩, F3.out⟩
            exact results_cell_two (p := 2) (q := 3) rfl _ _ w.heap.size _ rfl (Try.load_terr F1.out)
        · obtain rfl : k = H.length := by omega
          have HT2 := Lib.hid (HT.out.congr (f' := padH H) fun a b ha hb => by rw [HE.out a b ha hb]; rfl)
          have F3 := Lib.hid (below_setRowT HB.out (Nat.le_refl _) (tc ((H.length : Int) - 1) (padH H)))
          have F1 := Lib.hid (HR.out.setRow ((H.length : Int) - 1) (padH H))
          have E0 := Lib.hid (show ((H.length - 1 : Nat) : Int) = (H.length : Int) - 1 by omega)
          go_wp2_with (first | (refine wpList_loadG rfl 47 _ rfl (w.heap.size + 1) rfl _ _ HT2.out Try.underlying47 rfl (Try.size_terr _ _) ?_) | (refine wpList_storeG rfl 47 _ _ rfl w.heap.size (tc ((H.length : Int) - 1) (padH H)) _ rfl rfl HR.out (Try.size_terr _ _) (tc_same _ _ _ _) (tc_one _ _) ?_))
          refine bodyPost_ret (v := .tuple #[.agg (tc ((H.length : Int) - 1) (padH H)), .bool true]) ?_ rfl ⟨.inl ⟨⟨hH2, hH7, HRows.out⟩, by rw [E0.out]⟩, F3.out⟩
          exact results_cell_two (p := 2) (q := 3) rfl _ _ w.heap.size _ rfl (Try.load_terr F1.out)
end Go.Proofs.Ytopamhcnbocfoaa
