/- Contracts of the program: the cells where a flip adds a step; cells as lists. Conditions: up to six rows; heights near one another; few cells. -/
import Derived.Test.YtopamhcnbocfoaaFlC
namespace Go.Proofs.Ytopamhcnbocfoaa
open Go.RowKit

theorem allCells_all {n : Nat} (hn : n ≤ 6) : (allCells n n).length ≤ 36 := by
  have h1 := allCells_len n n
  have h3 : n * n ≤ 6 * 6 := Nat.mul_le_mul hn hn
  omega
theorem crow_one (c : Nat × Nat) : (crow c).toArray.all (·.oneCell') = true := by simp [crow, Value.oneCell']
theorem take_snoc {α : Type _} {cs : List α} {k : Nat} (h : k < cs.length) : cs.take (k + 1) = cs.take k ++ [cs[k]] := by
  rw [List.take_add_one, List.getElem?_eq_getElem h]
  rfl

set_option maxRecDepth 100000 in
set_option maxHeartbeats 1600000 in
theorem flips_any (n : Nat) (f : Nat → Nat → Int) (v st : Int) (w : World) (hn1 : 1 ≤ n) (hn : n ≤ 6) (hf : Near f) (hst : st = 2 * v) (_hv : -1 ≤ v) (_hv2 : v ≤ 1) :
    Calls Try.prog 78 #[.agg (tc n f), .int .i64 st] w fun e w' => ∃ u, e = .returned u ∧ OwnC w' w.heap.size u (flipsL f v (allCells n n)) ∧ Below w.heap.size w w' := by
  obtain ⟨c0, hc, hz0, hz1, hz2⟩ := info_parts Try.infob_cell
  have Hst := Lib.hid hst
  have Hf := Lib.hid hf
  have Hall := Lib.hid (allCells_all hn)
  have Hin := Lib.hid (fun (k : Nat) (hk : k < (allCells n n).length) => mem_allCells (List.getElem_mem hk))
  clear hst hf
  go_enter Try.func78, Try.ntmps78
  go_upto_region 1 with (refine wpList_boxT rfl 47 _ rfl _ rfl ?_)
  generalize hW : World.alloc w _ = w1
  have hT : TerrAt w1 w.heap.size n f := by rw [← hW]; exact TerrAt.new w _ _
  have hB : Below w.heap.size w w1 := by rw [← hW]; exact (Below.refl _ _).alloc (Nat.le_refl _) _
  clear hW
  have HT := Lib.hid hT
  have HB := Lib.hid hB
  have HZ := Lib.hid hB.size
  clear hT hB
  go_wp2_with (refine wpList_loadG rfl 47 _ rfl w.heap.size rfl _ _ HT.out Try.underlying47 rfl (Try.size_terr _ _) ?_)
  refine (cells_any n f w1 hn1 hn).mono ?_
  rintro e w2 ⟨v2, rfl, hv2', hb2⟩
  obtain ⟨ca, cc, rfl, hcc1, hcc2, hca⟩ := hv2'.read
  obtain ⟨cs, hcs⟩ : ∃ cs, cs = allCells n n := ⟨_, rfl⟩
  rw [← hcs] at hca hcc1 ⊢
  have Hlen := Lib.hid (show cs.length ≤ 36 by rw [hcs]; exact Hall.out)
  have Hmem := Lib.hid (show ∀ (k : Nat) (hk : k < cs.length), 1 ≤ (cs[k]).1 ∧ (cs[k]).1 < n ∧ 1 ≤ (cs[k]).2 ∧ (cs[k]).2 < n by subst hcs; exact Hin.out)
  have HT2 := Lib.hid (HT.out.below hb2)
  have Hca := Lib.hid hca
  have Hb2 := Lib.hid (HB.out.trans (hb2.mono HZ.out))
  have HZ2 := Lib.hid Hb2.out.size
  have hmx : cs.length ≤ 36 := Hlen.out
  have Hcs := Lib.hid hcs
  clear hcs hca hv2' hb2 HT Hin Hall
  go_wp2
  go_loopw [5, 11] (fun list i wr => ∃ k : Nat, k ≤ cs.length ∧ i = .int .i64 k ∧ OwnC wr w2.heap.size list (flipsL f v (cs.take k)) ∧ Below w2.heap.size w2 wr) (fun _ i _ => cs.length - (intOf i).toNat)
  case atStart => exact ⟨0, Nat.zero_le _, rfl, OwnC.nil _ _, Below.refl _ _⟩
  case round =>
    obtain ⟨k, hk, rfl, hown, hbr⟩ := hrel
    by_cases hlt : k < cs.length
    · obtain ⟨g, o, rfl, hr⟩ := Hca.out.below hbr k hlt
      obtain ⟨c, hcv⟩ : ∃ c, c = cs[k] := ⟨_, rfl⟩
      have hin := Hmem.out k hlt
      have htk := take_snoc hlt
      rw [← hcv] at hr hin htk
      have Htk := Lib.hid htk
      have Hown := Lib.hid hown
      have Hbr := Lib.hid hbr
      have HZr := Lib.hid hbr.size
      have Hr := Lib.hid hr
      have Hin := Lib.hid hin
      have hcall := fun w' => stepAt_any n f c.1 c.2 w' hin.1 (by omega) hin.2.2.1 (by omega) Hf.out
      have Hcall := Lib.hid hcall
      clear hown hbr hr hin htk hcv hcall
      go_upto_region 5 with (first
        | (refine wpList_load_mid rfl 79 _ rfl g (o + k * 2) rfl (crow c) _ Hr.out Try.underlying79 rfl (Try.size_celll _ _) ?_)
        | (refine wpList_allocT rfl 79 rfl _ _ Try.info_cell ?_)
        | (refine wpList_storeT rfl 79 _ _ rfl (crow c).toArray (cl 0 0) wr.heap.size rfl rfl rfl (Try.size_cell c.1 c.2) rfl (crow_one c) ?_))
      generalize hW : World.alloc wr _ = w3
      have hC : CellAt w3 wr.heap.size c.1 c.2 := by rw [← hW]; exact heap_alloc_new wr _
      have hb3 : Below wr.heap.size wr w3 := by rw [← hW]; exact (Below.refl _ _).alloc (Nat.le_refl _) _
      clear hW
      have HC := Lib.hid hC
      have HT3 := Lib.hid ((HT2.out.below Hbr.out).below hb3)
      have Hown3 := Lib.hid (Hown.out.below hb3)
      have Hbr3 := Lib.hid (Hbr.out.trans (hb3.mono HZr.out))
      have HZ3 := Lib.hid Hbr3.out.size
      have Hgz := Lib.hid hb3.size
      clear hC hb3 Hown Hbr
      go_wp2_with (first
        | (refine wpList_loadG rfl 47 _ rfl w.heap.size rfl _ _ HT3.out Try.underlying47 rfl (Try.size_terr _ _) ?_)
        | (refine wpList_loadG rfl 79 _ rfl wr.heap.size rfl _ _ HC.out Try.underlying79 rfl (Try.size_cell _ _) ?_))
      refine (Hcall.out w3).mono ?_
      rintro e w4 ⟨rfl, hb4⟩
      have HC4 := Lib.hid (HC.out.below hb4)
      have Hown4 := Lib.hid (Hown3.out.below hb4)
      have Hbr4 := Lib.hid (Hbr3.out.trans (hb4.mono HZ3.out))
      have HZ4 := Lib.hid Hbr4.out.size
      obtain ⟨x, hx⟩ : ∃ x, x = way f c.1 c.2 := ⟨_, rfl⟩
      have hsn := flipsL_snoc f v (cs.take k) c
      rw [← Htk.out, ← hx] at hsn
      have Hsn := Lib.hid hsn
      rw [← hx]
      clear hb4 hx hsn Hcall Hown3
      by_cases hw : x = v
      · rw [if_pos hw] at Hsn
        have hb : (2 * x == st) = true := by simp; rw [Hst.out, hw]
        clear hw
        obtain ⟨ps, hps⟩ : ∃ ps, ps = flipsL f v (cs.take k) := ⟨_, rfl⟩
        have Hlp := Lib.hid (show ps.length ≤ 36 by rw [hps]; exact Nat.le_trans (flipsL_len _ _ _) (by rw [List.length_take]; have := Hlen.out; omega))
        rw [← hps] at Hown4 Hsn
        clear hps
        go_wp2_with (first
          | (refine wpList_loadG rfl 79 _ rfl wr.heap.size rfl #[.int .i64 (c.1 : Int), .int .i64 (c.2 : Int)] _ HC4.out Try.underlying79 rfl (Try.size_cell c.1 c.2) ?_)
          | (at_builtin; refine wpList_append_own _ rfl _ _ 64 rfl w2.heap.size 79 c0 (.agg (cl 0 0)) 2 16 Try.underlying64 hc hz0 hz1 hz2 rfl (by decide) _ _ _ rfl (World.ownsRow.alloc Hown4.out _) ⟨w4.heap.size, 0, none⟩ 1 1 (crow c) rfl rfl ?c1 ?c2 ?c3 ?c4 ?c5 ?_))
        case c1 => exact two_new
        case c2 => intro u hu; simp [crow] at hu; rcases hu with rfl | rfl <;> rfl
        case c3 => have := Hlp.out; unfold maxLen; omega
        case c4 => have := Hlp.out; omega
        case c5 => have := HZ4.out; simp; omega
        intro v' w5 hown' hgrow _
        have hput := Hown4.out.snoc (c := c) HZ4.out hown' hgrow
        have Hput := Lib.hid hput
        clear hput hown' hgrow
        go_wp2
        go_roundw
        case rel => exact ⟨k + 1, by omega, by go_num, by rw [Hsn.out]; exact Hput.out.1, Hbr4.out.trans Hput.out.2⟩
        case measure => simp [intOf]; omega
      · rw [if_neg hw] at Hsn
        have hb : (2 * x == st) = false := by simp; rw [Hst.out]; omega
        clear hw
        go_wp2
        go_roundw
        case rel => exact ⟨k + 1, by omega, by go_num, by rw [Hsn.out]; exact Hown4.out, Hbr4.out⟩
        case measure => simp [intOf]; omega
    · obtain rfl : k = cs.length := by omega
      rw [List.take_length] at hown
      have Hown := Lib.hid hown
      have Hbr := Lib.hid hbr
      clear hown hbr
      go_wp2
      go_ret
      exact ⟨_, rfl, by rw [← Hcs.out]; exact Hown.out.base HZ2.out, Hb2.out.trans (Hbr.out.mono HZ2.out)⟩
end Go.Proofs.Ytopamhcnbocfoaa
