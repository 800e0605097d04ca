/- Contract of the program: cells as lists i, j. Condition: few cells. -/
import Derived.Test.YtopamhcnbocfoaaFlD
import Derived.Test.YtopamhcnbocfoaaZero
namespace Go.Proofs.Ytopamhcnbocfoaa
open Go.RowKit

theorem gr_cellM {cs : List (Nat × Nat)} {k : Nat} (h : k < cs.length) : gr (cellM cs) k = [((cs[k]).1 : Int), ((cs[k]).2 : Int)] := by
  rw [gr_lt (by rw [cellM_len]; exact h)]
  simp [cellM]

set_option maxRecDepth 100000 in
set_option maxHeartbeats 1600000 in
theorem cellLists_any (ao : Option Addr) (c : Nat) (cs : List (Nat × Nat)) (w : World) (hn : cs.length ≤ 64) (hx : CellsAt w ao cs) :
    Calls Try.prog 77 #[.slice ao cs.length c] w fun e w' => ∃ v, e = .returned v ∧ OwnM w' w.heap.size v (cellM cs) ∧ Below w.heap.size w w' := by
  obtain ⟨i0, hi, hz0, hz1, hz2⟩ := info_parts Try.info_ints
  have Hx := Lib.hid hx
  clear hx
  go_enter Try.func77, Try.ntmps77
  go_wp2_with (at_make; refine wpList_make_full _ rfl _ _ 22 rfl w.heap.size 41 i0 (.slice none 0 0) 1 Try.underlying22 hi hz0 hz1 _ _ _ _ cs.length rfl rfl rfl rfl ?c1 ?c2 ?c3 ?_)
  case c1 => rw [hz2]; omega
  case c2 => unfold maxLen; omega
  case c3 => simp
  intro w1 hown hgr
  have hb1 : Below w.heap.size w w1 := (Below.refl _ _).grown hgr (Nat.le_refl _) (fun _ h => by cases h)
  have hown1 := OwnP.made (m := cellM cs) hown
  clear hown hgr
  go_wp2
  go_loopw [11] (fun i wr => ∃ (k : Nat) (vs : List Value), k ≤ cs.length ∧ i = .int .i64 k ∧ OwnP wr w.heap.size (.slice (some ⟨w.heap.size, 0, none⟩) cs.length cs.length) cs.length (cellM cs) k vs ∧ Below w.heap.size w wr)
    (fun i _ => cs.length - (intOf i).toNat)
  case atStart => exact ⟨0, _, Nat.zero_le _, rfl, hown1, hb1⟩
  case round =>
    obtain ⟨k, vs, hk, rfl, hown, hbr⟩ := hrel
    clear hown1 hb1
    by_cases hlt : k < cs.length
    · have hB := hbr.size
      obtain ⟨b, o, rfl, hr⟩ := Hx.out.below hbr k hlt
      have hgr := gr_cellM hlt
      obtain ⟨d, hdv⟩ : ∃ d, d = cs[k] := ⟨_, rfl⟩
      rw [← hdv] at hr hgr
      have Hr := Lib.hid hr
      have Hgr := Lib.hid hgr
      have Hown := Lib.hid hown
      have Hbr := Lib.hid hbr
      have HB := Lib.hid hB
      clear hown hbr hr hgr hdv hB
      go_upto_region 5 with (first
        | (refine wpList_load_mid rfl 79 _ rfl b (o + k * 2) rfl (crow d) _ Hr.out Try.underlying79 rfl (Try.size_celll _ _) ?_)
        | (refine wpList_allocT rfl 79 rfl _ _ Try.info_cell ?_)
        | (refine wpList_storeT rfl 79 _ _ rfl (crow d).toArray (cl 0 0) wr.heap.size rfl rfl rfl (Try.size_cell d.1 d.2) rfl (crow_one d) ?_))
      generalize hW : World.alloc wr _ = w3
      have hC : CellAt w3 wr.heap.size d.1 d.2 := by rw [← hW]; exact heap_alloc_new wr _
      have hb3 : Below wr.heap.size wr w3 := by rw [← hW]; exact (Below.refl _ _).alloc (Nat.le_refl _) _
      clear hW
      have h0 := hC.c0
      have h1 := hC.c1
      have Hown3 := Lib.hid (Hown.out.below hb3)
      have Hbr3 := Lib.hid (Hbr.out.trans (hb3.mono HB.out))
      have HZ3 := Lib.hid Hbr3.out.size
      clear hC hb3 Hown Hbr
      generalize hx1 : (d.1 : Int) = x1 at h0 Hgr
      generalize hx2 : (d.2 : Int) = x2 at h1 Hgr
      have Hnew := Lib.hid ((Below.refl w3.heap.size w3).alloc (Nat.le_refl _) (.cells #[.int .i64 x1, .int .i64 x2] 3))
      have Hown4 := Lib.hid (Hown3.out.below Hnew.out)
      have hu : OwnI (w3.alloc (.cells #[.int .i64 x1, .int .i64 x2] 3)) w3.heap.size (.slice (some ⟨w3.heap.size, 0, none⟩) 2 2) [x1, x2] := World.ownsRow_lit w3 #[.int .i64 x1, .int .i64 x2] 2 (Nat.le_refl _) (by unfold maxLen; omega) rfl
      have hd := Hown4.out.cellAt k hlt
      have hf : (w3.alloc (.cells #[.int .i64 x1, .int .i64 x2] 3)).frozen? ⟨w.heap.size, k, none⟩ = false := World.ownsRow.frozenAt Hown4.out.top k
      have Hput := Lib.hid (Hown4.out.put hlt (by rw [Hgr.out]; exact hu.base HZ3.out) (Hown3.out.fresh hu (Nat.le_refl _)))
      have Hbs := Lib.hid ((Hbr3.out.trans (Hnew.out.mono HZ3.out)).setCell (p := ⟨w.heap.size, k, none⟩) (Nat.le_refl _) (.slice (some ⟨w3.heap.size, 0, none⟩) 2 2))
      clear hu hx1 hx2
      go_wp2
      go_roundw
      case rel => exact ⟨k + 1, _, by omega, by go_num, Hput.out, Hbs.out⟩
      case measure => simp [intOf]; omega
    · obtain rfl : k = cs.length := by omega
      have Hown := Lib.hid hown
      have Hbr := Lib.hid hbr
      clear hown hbr
      go_wp2
      go_ret
      exact ⟨_, rfl, ⟨vs, by rw [cellM_len]; exact Hown.out⟩, Hbr.out⟩
end Go.Proofs.Ytopamhcnbocfoaa
