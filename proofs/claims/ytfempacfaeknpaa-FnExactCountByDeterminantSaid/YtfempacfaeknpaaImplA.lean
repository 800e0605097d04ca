/- Contracts of the program: squares, new grids, transposes, lines whose signs alternate. -/
import Derived.Test.YtfempacfaeknpaaSpecB
namespace Go.Proofs.Ytfempacfaeknpaa
open Go.RowKit

/-- every row has this many columns -/
def wideAll (m : List (List Int)) (c : Nat) : Prop := ∀ i, i < m.length → (gr m i).length = c

set_option maxRecDepth 100000 in
set_option maxHeartbeats 400000 in
theorem newTable_any (n c : Nat) (w : World) (hn : n ≤ 1048576) (hcn : c ≤ 1048576) :
    Calls Try.prog 104 #[.int .i64 (n : Int), .int .i64 (c : Int)] w fun e w' => ∃ vs, e = .returned (.slice (some ⟨w.heap.size, 0, none⟩) n n) ∧ OwnP w' w.heap.size (.slice (some ⟨w.heap.size, 0, none⟩) n n) n (tab n c fun _ _ => 0) n vs ∧ Below w.heap.size w w' := by
  obtain ⟨i0, hi, hz0, hz1, hz2⟩ := info_parts Try.info_int
  obtain ⟨j0, hj, hy0, hy1, hy2⟩ := info_parts Try.info_ints
  have hmx : n ≤ 9223372036854775807 := by omega
  go_enter Try.func104, Try.ntmps104
  go_wp2_with (at_make; refine wpList_make_full _ rfl _ _ 22 rfl w.heap.size 42 j0 (.slice none 0 0) 1 Try.underlying22 hj hy0 hy1 _ _ _ _ n rfl rfl rfl rfl ?c1 ?c2 ?c3 ?_)
  case c1 => rw [hy2]; omega
  case c2 => unfold maxLen; omega
  case c3 => simp
  intro w1 hown hg
  have hb1 : Below w.heap.size w w1 := (Below.refl _ _).grown hg (Nat.le_refl _) (fun _ h => by cases h)
  have hown1 := OwnP.made (m := tab n c fun _ _ => 0) hown
  clear hown hg
  go_wp2
  go_loopw [11] (fun i wr => ∃ (k : Nat) (vs : List Value), k ≤ n ∧ i = .int .i64 k ∧ OwnP wr w.heap.size (.slice (some ⟨w.heap.size, 0, none⟩) n n) n (tab n c fun _ _ => 0) k vs ∧ Below w.heap.size w wr)
    (fun i _ => n - (intOf i).toNat)
  case atStart => exact ⟨0, _, Nat.zero_le _, rfl, hown1, hb1⟩
  case round =>
    obtain ⟨k, vs, hk, rfl, hown, hbr⟩ := hrel
    clear hown1 hb1
    by_cases hlt : k < n
    · have hB := hbr.size
      have Hown := Lib.hid hown
      have Hbr := Lib.hid hbr
      clear hown hbr
      go_wp2_with (at_make; refine wpList_make_full _ rfl _ _ 42 rfl wr.heap.size 3 i0 (.int .i64 0) 1 Try.underlying42 hi hz0 hz1 _ _ _ _ c rfl rfl rfl rfl ?d1 ?d2 ?d3 ?_)
      case d1 => rw [hz2]; omega
      case d2 => unfold maxLen; omega
      case d3 => simp
      intro w2 hown2 hg2
      have hb2 : Below wr.heap.size wr w2 := (Below.refl _ _).grown hg2 (Nat.le_refl _) (fun _ h => by cases h)
      have hrow := OwnI.made hown2
      have hpos := Hown.out.below hb2
      have hd := hpos.cellAt k hlt
      have hf : w2.frozen? ⟨w.heap.size, k, none⟩ = false := World.ownsRow.frozenAt hpos.top k
      have e1 : gr (tab n c fun _ _ => (0 : Int)) k = List.replicate c 0 := zero_row hlt
      have hput := hpos.put hlt (v := .slice (some ⟨wr.heap.size, 0, none⟩) c c) (by rw [e1]; exact hrow.base hB) (Hown.out.fresh hrow (Nat.le_refl _))
      have Hput := Lib.hid hput
      have Hbs := Lib.hid ((Hbr.out.trans (hb2.mono hB)).setCell (p := ⟨w.heap.size, k, none⟩) (Nat.le_refl _) (.slice (some ⟨wr.heap.size, 0, none⟩) c c))
      clear hown2 hg2 hb2 hrow hpos e1 hput
      go_wp2
      go_roundw
      case rel => exact ⟨k + 1, _, by omega, by go_num, Hput.out, Hbs.out⟩
      case measure => simp [intOf]; omega
    · obtain rfl : k = n := by omega
      go_wp2
      go_ret
      exact ⟨vs, rfl, hown, hbr⟩

set_option maxRecDepth 100000 in
set_option maxHeartbeats 400000 in
theorem newGrid_any (n : Nat) (w : World) (hn : n ≤ 1048576) :
    Calls Try.prog 74 #[.int .i64 (n : Int)] w fun e w' => ∃ vs, e = .returned (.slice (some ⟨w.heap.size, 0, none⟩) n n) ∧ OwnP w' w.heap.size (.slice (some ⟨w.heap.size, 0, none⟩) n n) n (tab n n fun _ _ => 0) n vs ∧ Below w.heap.size w w' := by
  go_enter Try.func74, Try.ntmps74
  go_wp2_with fail
  refine (newTable_any n n w hn hn).mono ?_
  rintro e w1 ⟨vs, rfl, hv, hb⟩
  have Hv := Lib.hid hv
  have Hb := Lib.hid hb
  clear hv hb
  go_wp2
  go_ret
  exact ⟨vs, rfl, Hv.out, Hb.out⟩

end Go.Proofs.Ytfempacfaeknpaa
