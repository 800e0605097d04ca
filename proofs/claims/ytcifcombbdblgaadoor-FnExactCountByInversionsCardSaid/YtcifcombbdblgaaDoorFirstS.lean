/- Contract: how many sign matrices have the 1 of the first row in each column, by the model. No conditions. -/
import Derived.Test.YtcifcombbdblgaaDoorFirstC
namespace Go.Proofs.YtcifcombbdblgaaDoor
open Go.RowKit

set_option maxRecDepth 100000 in
set_option maxHeartbeats 400000 in
theorem trKnown_any (n : Int) (SZ : Nat) (w : World) (h0 : 0 ≤ n) (h6 : n ≤ 6) (e1 : wrap64 ((2 : Int) ^ n.toNat) = (SZ : Int)) (hb : SZ ≤ 64) :
    Calls Tryd.prog 65 #[.int .i64 n] w fun e w' => e = .returned (.slice (some ⟨w.heap.size, 0, none⟩) SZ SZ) ∧ OwnI w' w.heap.size (.slice (some ⟨w.heap.size, 0, none⟩) SZ SZ) (List.replicate SZ 0) ∧ Below w.heap.size w w' := by
  obtain ⟨i0, hi, hz0, hz1, hz2⟩ := info_parts Tryd.info_int
  go_enter Tryd.func65, Tryd.ntmps65
  go_wp2_with (at_make; refine wpList_make_full _ rfl _ _ 29 rfl w.heap.size 3 i0 (.int .i64 0) 1 Tryd.underlying29 hi hz0 hz1 _ _ _ _ SZ rfl rfl e1 e1 ?c1 ?c2 ?c3 ?_)
  case c1 => rw [hz2]; omega
  case c2 => unfold maxLen; omega
  case c3 => simp
  intro w1 hown hgr
  have hb1 : Below w.heap.size w w1 := (Below.refl _ _).grown hgr (Nat.le_refl _) (fun _ h => by cases h)
  have Hown1 := Lib.hid (OwnI.made hown)
  have Hb1 := Lib.hid hb1
  clear hown hgr hb1
  go_wp2
  go_ret
  exact ⟨rfl, Hown1.out, Hb1.out⟩

theorem firstW_len (n : Nat) : (firstW n).length = n := by simp [firstW, firstB]
theorem firstW_take {N k : Nat} (h : k < N) : (firstW N).take (k + 1) = (firstW N).take k ++ [wrap64 (waysB N [(k : Int)])] := by
  rw [List.take_succ_eq_append_getElem (by rw [firstW_len]; exact h)]
  simp [firstW, firstB]

set_option maxRecDepth 100000 in
set_option maxHeartbeats 1600000 in
theorem specCountByFirst_any (n : Int) (w : World) (hbn : -9223372036854775808 ≤ n ∧ n ≤ 9223372036854775807) :
    Calls Tryd.prog 38 #[.int .i64 n] w fun e w' => LRes (inN n) (firstW n.toNat) w' w.heap.size e ∧ Below w.heap.size w w' := by
  obtain ⟨i0, hi, hz0, hz1, hz2⟩ := info_parts Tryd.info_int
  by_cases hg : inN n
  · obtain ⟨h1, h6⟩ := hg
    obtain ⟨SZ, hSZ⟩ : ∃ SZ : Nat, SZ = 2 ^ n.toNat := ⟨_, rfl⟩
    have hSb : SZ ≤ 64 := by have : 2 ^ n.toNat ≤ 2 ^ 6 := Nat.pow_le_pow_right (by omega) (by omega); omega
    have e1 : wrap64 ((2 : Int) ^ n.toNat) = (SZ : Int) := by
      have : ((2 : Int) ^ n.toNat) = ((2 ^ n.toNat : Nat) : Int) := by simp
      rw [this, ← hSZ]; unfold wrap64; omega
    have Hk := Lib.hid (trKnown_any n SZ w (by omega) h6 e1 hSb)
    obtain ⟨N, rfl⟩ : ∃ N : Nat, n = (N : Int) := ⟨n.toNat, by omega⟩
    rw [Int.toNat_natCast] at hSZ
    have hN6 : N ≤ 6 := by omega
    have hN1 : 1 ≤ N := by omega
    have HSZ := Lib.hid hSZ
    clear hSZ e1
    go_enter Tryd.func38, Tryd.ntmps38
    go_wp2_with fail
    refine (l1In_any (N : Int) 1 6 w).mono ?_
    rintro e w2 ⟨ha, rfl⟩
    obtain rfl := ha.is ⟨h1, h6⟩
    clear ha
    go_wp2_with fail
    refine Hk.out.mono ?_
    rintro e w1 ⟨rfl, hown1, hb1⟩
    have Hown1 := Lib.hid hown1
    have Hb1 := Lib.hid hb1
    have Hs1 := Lib.hid (show w.heap.size < w1.heap.size from (hown1.lt w.heap.size rfl).2)
    clear hown1 hb1 Hk
    go_wp2
    go_loopw [5, 6] (fun s i wr => ∃ (k : Nat) (ks' : List Int) (sv : Value), k ≤ N ∧ i = .int .i64 k ∧ s = sv ∧ OwnI wr w1.heap.size sv ((firstW N).take k) ∧ OwnI wr w.heap.size (.slice (some ⟨w.heap.size, 0, none⟩) SZ SZ) ks' ∧ KnowsW N ks' ∧ Below w.heap.size w wr ∧ w1.heap.size ≤ wr.heap.size)
      (fun _ i _ => N - (intOf i).toNat)
    case atStart => exact ⟨0, _, _, Nat.zero_le _, rfl, rfl, by rw [List.take_zero]; exact OwnI.nil _ _, Hown1.out, knowsW_zero _ _, Hb1.out, Nat.le_refl _⟩
    case round =>
      obtain ⟨k, ks', s, hk, rfl, hsv, hs, hown, hkn, hbr, hsr⟩ := hrel
      rw [hsv]
      clear hsv
      by_cases hlt : k < N
      · have hkw : w.heap.size < wr.heap.size := by have := Hs1.out; omega
        have hin : IntsAt (wr.alloc (.cells #[.int .i64 (k : Int)] 3)) (some ⟨wr.heap.size, 0, none⟩) [(k : Int)] := fun i hi => by
          obtain rfl : i = 0 := by simpa using hi
          exact ⟨wr.heap.size, 0, rfl, cell_one_new wr (.int .i64 (k : Int)) 3 0 _ rfl⟩
        have hcol : ColsN N [(k : Int)] := ⟨by simp [Up], fun x hx => by simp at hx; omega⟩
        have hcall := trWays_any N hN6 SZ HSZ.out (N - 1) [(k : Int)] (some ⟨wr.heap.size, 0, none⟩) 1 w.heap.size w.heap.size SZ ks' (wr.alloc (.cells #[.int .i64 (k : Int)] 3)) (by simp; omega) hcol hin (fun b o e => by simp at e; omega) (World.ownsRow.alloc hown _) hkn (Nat.le_refl _)
        rw [show [(k : Int)].length = 1 from rfl] at hcall
        have Hst := Lib.hid (firstW_take hlt)
        obtain ⟨y, hy⟩ : ∃ y, y = wrap64 (waysB N [(k : Int)]) := ⟨_, rfl⟩
        rw [← hy] at hcall
        have Hy := Lib.hid hy
        have Hcall := Lib.hid hcall
        have Hs := Lib.hid (World.ownsRow.alloc hs (.cells #[.int .i64 (k : Int)] 3))
        have Hsl := Lib.hid hs.lt
        have Hbr := Lib.hid hbr
        have Hlen := Lib.hid (show ((firstW N).take k).length = k by rw [List.length_take, firstW_len]; omega)
        clear hin hcol hcall hown hkn hs hbr hy
        go_wp2_with fail
        refine Hcall.out.mono ?_
        rintro e w3 ⟨ks2, rfl, ho2, hk2, hg2⟩
        have hs3 : OwnI w3 w1.heap.size s ((firstW N).take k) := World.ownsRow.kept Hs.out hg2 (by
          cases hb : s.ownBlock with
          | none => exact .inl rfl
          | some g => have := (Hsl.out g hb).1; have := Hs1.out; exact .inr (by simp; omega))
        have hsz3 : wr.heap.size ≤ w3.heap.size := by have := hg2.size; simp at this; omega
        have Hs3 := Lib.hid hs3
        have Ho2 := Lib.hid ho2
        have Hk2 := Lib.hid hk2
        have Hb3 := Lib.hid (show Below w.heap.size w w3 from (Hbr.out.alloc (by omega) _).grown hg2 (by simp; omega) (fun b hb => by cases hb; exact Nat.le_refl _))
        obtain ⟨L, hL⟩ : ∃ L, L = (firstW N).take k := ⟨_, rfl⟩
        have HL := Lib.hid hL
        clear hs3 ho2 hk2 hg2 hL
        go_wp2_with (at_builtin; refine wpList_append_own _ rfl _ _ 29 rfl w1.heap.size 3 i0 (.int .i64 0) 1 8 Tryd.underlying29 hi hz0 hz1 hz2 rfl (by decide) _ k _ rfl (by have := World.ownsRow.alloc Hs3.out (.cells #[.int .i64 y] 3); rw [Hlen.out] at this; exact this) ⟨w3.heap.size, 0, none⟩ 1 1 [.int .i64 y] rfl rfl ?e1 ?e2 ?e3 ?e4 ?e5 ?_)
        case e1 => exact cell_one_new _ _ _
        case e2 => intro u hu; simp at hu; subst hu; rfl
        case e3 => unfold maxLen; omega
        case e4 => omega
        case e5 => simp; omega
        intro v' w4 hown' hgrow _
        have hput := Hs3.out.snoc (x := y) (by omega) (by rw [Hlen.out, List.map_take]; exact hown') hgrow
        have ho4 : OwnI w4 w.heap.size (.slice (some ⟨w.heap.size, 0, none⟩) SZ SZ) ks2 := World.ownsRow.kept (World.ownsRow.alloc Ho2.out _) hgrow (.inr fun e => by
          have := (Hsl.out w.heap.size (by rw [← e]; rfl)).1; have := Hs1.out; omega)
        have Hp1 := Lib.hid hput.1
        have Ho4 := Lib.hid ho4
        have Hb4 := Lib.hid (Hb3.out.trans (hput.2.mono (by have := Hs1.out; omega)))
        have hsz4 : w1.heap.size ≤ w4.heap.size := Nat.le_trans (by omega) hput.2.size
        clear hput ho4 hown' hgrow HL
        go_wp2
        go_roundw
        case rel => exact ⟨k + 1, ks2, _, by omega, by go_num, rfl, by rw [Hst.out, ← Hy.out]; exact Hp1.out, Ho4.out, Hk2.out, Hb4.out, hsz4⟩
        case measure => simp [intOf]; omega
      · obtain rfl : N = k := by omega
        have Hfin := Lib.hid (show OwnI wr w1.heap.size s (firstW N) by have := hs; rwa [List.take_of_length_le (by rw [firstW_len]; omega)] at this)
        have Hbr := Lib.hid hbr
        clear hs hown hkn hbr
        go_wp2
        go_ret2
        exact ⟨LRes.yes ⟨h1, h6⟩ (by rw [Int.toNat_natCast]; exact Hfin.out.base (by have := Hs1.out; omega)), Hbr.out⟩
  · go_enter Tryd.func38, Tryd.ntmps38
    go_wp2_with fail
    refine (l1In_any n 1 6 w).mono ?_
    rintro e w2 ⟨ha, rfl⟩
    obtain rfl := ha.isnt hg
    clear ha
    go_wp2
    go_ret2
    exact ⟨LRes.no hg, Below.refl _ _⟩
end Go.Proofs.YtcifcombbdblgaaDoor
