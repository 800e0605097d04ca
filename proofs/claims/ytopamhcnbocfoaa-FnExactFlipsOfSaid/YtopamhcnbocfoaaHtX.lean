/- Contract of the model: the lesser or the greater heights of two tables. Condition: tables of up to seven rows. -/
import Derived.Test.YtopamhcnbocfoaaHtP
namespace Go.Proofs.Ytopamhcnbocfoaa
open Go.RowKit

def mixF (low : Bool) (A B : List (List Int)) (i j : Nat) : Int := if low then min (gi (gr A i) j) (gi (gr B i) j) else max (gi (gr A i) j) (gi (gr B i) j)

set_option maxRecDepth 100000 in
set_option maxHeartbeats 1600000 in
theorem heMix_true (N : Nat) (ao bo : Option Addr) (c d : Nat) (A B : List (List Int)) (w : World) (hN : N ≤ 7) (hA : Tab N A) (hB : Tab N B) (hm : MatAt w ao A) (hk : MatAt w bo B) :
    Calls Try.prog 68 #[.slice ao N c, .slice bo N d, .bool true] w fun e w' => ∃ v, e = .returned v ∧ OwnM w' w.heap.size v (tab N N (mixF true A B)) ∧ Below w.heap.size w w' := by
  obtain ⟨i0, hi, hz0, hz1, hz2⟩ := info_parts Try.info_int
  obtain ⟨j0, hj, hy0, hy1, hy2⟩ := info_parts Try.info_ints
  have hmx : N ≤ 9223372036854775807 := by omega
  have HA := Lib.hid hA
  have HBB := Lib.hid hB
  have Hm := Lib.hid hm
  have Hk := Lib.hid hk
  clear hA hB hm hk
  go_enter Try.func68, Try.ntmps68
  go_wp2
  go_loopw [7, 15] (fun out i wr => ∃ (k : Nat) (vs : List Value), k ≤ N ∧ i = .int .i64 k ∧ OwnP wr w.heap.size out k (tab N N (mixF true A B)) k vs ∧ Below w.heap.size w wr) (fun _ i _ => N - (intOf i).toNat)
  case atStart => exact ⟨0, [], Nat.zero_le _, rfl, ⟨World.ownsRow_nil _ _ _ _, fun i hi => absurd hi (by omega), fun i j _ hj => absurd hj (by omega)⟩, Below.refl _ _⟩
  case round =>
    obtain ⟨k, vs, hk, rfl, hout, hbr⟩ := hrel
    obtain ⟨wo, rfl⟩ : ∃ wo : World, wo = wr := ⟨_, rfl⟩
    by_cases hlt : k < N
    · obtain ⟨b1, o1, r1, d1, e1, hc1, hx1, _, _⟩ := Hm.out.below hbr k (by rw [HA.out.len]; exact hlt)
      obtain ⟨b2, o2, r2, d2, e2, hc2, hx2, _, _⟩ := Hk.out.below hbr k (by rw [HBB.out.len]; exact hlt)
      rw [HA.out.row k hlt] at hc1
      rw [HBB.out.row k hlt] at hc2
      subst e1 e2
      have Hx1 := Lib.hid hx1
      have Hx2 := Lib.hid hx2
      have Hc2 := Lib.hid hc2
      have Hout := Lib.hid hout
      have Hbr := Lib.hid hbr
      have hB := hbr.size
      clear hout hbr hx1 hx2
      go_wp2
      clear hc1 hc2
      go_loopw [10, 22] (fun row i wr => ∃ t : Nat, t ≤ N ∧ i = .int .i64 t ∧ OwnI wr wo.heap.size row (rowF (fun j => mixF true A B k j) t) ∧ Below wo.heap.size wo wr) (fun _ i _ => N - (intOf i).toNat)
      case atStart => exact ⟨0, Nat.zero_le _, by go_num, OwnI.nil _ _, Below.refl _ _⟩
      case round =>
        obtain ⟨t, ht, rfl, hrow, hbi⟩ := hrel
        by_cases htl : t < N
        · obtain ⟨b3, o3, e3, hc3⟩ := Hx1.out.below hbi t (by rw [HA.out.row k hlt]; exact htl)
          obtain ⟨b4, o4, e4, hc4⟩ := Hx2.out.below hbi t (by rw [HBB.out.row k hlt]; exact htl)
          subst e3 e4
          have hc5 := cell_below Hc2.out hbi
          have hB2 := hbi.size
          have hval : mixF true A B k t = min (gi (gr A k) t) (gi (gr B k) t) := rfl
          generalize gi (gr A k) t = x at hc3 hval
          generalize gi (gr B k) t = y at hc4 hval
          have Hval := Lib.hid hval
          have Hbi := Lib.hid hbi
          have Hrow := Lib.hid hrow
          clear hbi hrow hval
          by_cases hxy : x < y
          · have hd : decide (x < y) = true := by simpa using hxy
            have Hxy := Lib.hid hxy
            clear hxy
            go_wp2_with (at_builtin; refine wpList_append_own _ rfl _ _ 41 rfl wo.heap.size 3 i0 (.int .i64 0) 1 8 Try.underlying41 hi hz0 hz1 hz2 rfl (by decide) _ _ _ rfl (World.ownsRow.alloc Hrow.out _) ⟨wr.heap.size, 0, none⟩ 1 1 [.int .i64 x] rfl rfl ?c1 ?c2 ?c3 ?c4 ?c5 ?_)
            try (case c1 => exact cell_one_new _ _ _)
            case c2 => first | rfl | (intro u hu; simp at hu; subst hu; rfl)
            case c3 => unfold maxLen; rw [rowF_len]; omega
            case c4 => rw [rowF_len]; omega
            case c5 => first | omega | (simp; omega)
            intro v' w3 hown' hgrow _
            obtain ⟨hr2, hb2⟩ := Hrow.out.snoc hB2 hown' hgrow
            rw [show x = (fun j => mixF true A B k j) t from by have := Hval.out; have := Hxy.out; show x = mixF true A B k t; omega, ← rowF_succ (fun j => mixF true A B k j)] at hr2
            have Hr2 := Lib.hid hr2
            have Hb2 := Lib.hid hb2
            clear hown' hgrow hr2 hb2
            go_wp2
            go_roundw
            case rel => exact ⟨t + 1, by omega, by go_num, Hr2.out, Hbi.out.trans Hb2.out⟩
            case measure => simp [intOf]; omega
          · have hd : decide (x < y) = false := by simpa using hxy
            have Hxy := Lib.hid hxy
            clear hxy
            go_wp2_with (at_builtin; refine wpList_append_own _ rfl _ _ 41 rfl wo.heap.size 3 i0 (.int .i64 0) 1 8 Try.underlying41 hi hz0 hz1 hz2 rfl (by decide) _ _ _ rfl (World.ownsRow.alloc Hrow.out _) ⟨wr.heap.size, 0, none⟩ 1 1 [.int .i64 y] rfl rfl ?c1 ?c2 ?c3 ?c4 ?c5 ?_)
            try (case c1 => exact cell_one_new _ _ _)
            case c2 => first | rfl | (intro u hu; simp at hu; subst hu; rfl)
            case c3 => unfold maxLen; rw [rowF_len]; omega
            case c4 => rw [rowF_len]; omega
            case c5 => first | omega | (simp; omega)
            intro v' w3 hown' hgrow _
            obtain ⟨hr2, hb2⟩ := Hrow.out.snoc hB2 hown' hgrow
            rw [show y = (fun j => mixF true A B k j) t from by have := Hval.out; have := Hxy.out; show y = mixF true A B k t; omega, ← rowF_succ (fun j => mixF true A B k j)] at hr2
            have Hr2 := Lib.hid hr2
            have Hb2 := Lib.hid hb2
            clear hown' hgrow hr2 hb2
            go_wp2
            go_roundw
            case rel => exact ⟨t + 1, by omega, by go_num, Hr2.out, Hbi.out.trans Hb2.out⟩
            case measure => simp [intOf]; omega
        · obtain rfl : t = N := by omega
          rw [rowF_tab (n := t) hlt] at hrow
          obtain ⟨rr, rc, hr, _, _, _⟩ := hrow.read
          have Hrow := Lib.hid hrow
          have hB2 := hbi.size
          have Hout2 := Lib.hid (Hout.out.below hbi)
          have Hbi := Lib.hid hbi
          have hfr := Lib.hid (Hout.out.fresh hrow (Nat.le_refl _))
          clear hrow hbi
          subst hr
          go_wp2_with (at_builtin; refine wpList_append_own _ rfl _ _ 22 rfl w.heap.size 41 j0 (.slice none 0 0) 1 24 Try.underlying22 hj hy0 hy1 hy2 rfl (by decide) _ _ _ rfl (World.ownsRow.alloc Hout2.out.top _) ⟨wr.heap.size, 0, none⟩ 1 1 [.slice rr (gr (tab t t (mixF true A B)) k).length rc] rfl rfl ?d1 ?d2 ?d3 ?d4 ?d5 ?_)
          case d1 => exact cell_one_new _ _ _
          case d2 => intro u hu; simp at hu; subst hu; rfl
          case d3 => unfold maxLen; omega
          case d4 => omega
          case d5 => simp; omega
          intro v' w3 hown' hgrow _
          have hput := Hout2.out.snoc (show w.heap.size ≤ wr.heap.size by omega) (Hrow.out.base hB) hfr.out hown' hgrow
          have Hput := Lib.hid hput
          clear hput hown' hgrow
          go_wp2
          go_roundw
          case rel => exact ⟨k + 1, _, by omega, by go_num, Hput.out.1, (Hbr.out.trans (Hbi.out.mono hB)).trans Hput.out.2⟩
          case measure => simp [intOf]; omega
    · obtain rfl : k = N := by omega
      have hfin : OwnM wo w.heap.size u7 (tab k k (mixF true A B)) := ⟨vs, by rw [tab_len]; exact hout⟩
      have Hfin := Lib.hid hfin
      have Hbr := Lib.hid hbr
      clear hout hbr hfin
      go_wp2
      go_ret
      exact ⟨_, rfl, Hfin.out, Hbr.out⟩

set_option maxRecDepth 100000 in
set_option maxHeartbeats 1600000 in
theorem heMix_false (N : Nat) (ao bo : Option Addr) (c d : Nat) (A B : List (List Int)) (w : World) (hN : N ≤ 7) (hA : Tab N A) (hB : Tab N B) (hm : MatAt w ao A) (hk : MatAt w bo B) :
    Calls Try.prog 68 #[.slice ao N c, .slice bo N d, .bool false] w fun e w' => ∃ v, e = .returned v ∧ OwnM w' w.heap.size v (tab N N (mixF false A B)) ∧ Below w.heap.size w w' := by
  obtain ⟨i0, hi, hz0, hz1, hz2⟩ := info_parts Try.info_int
  obtain ⟨j0, hj, hy0, hy1, hy2⟩ := info_parts Try.info_ints
  have hmx : N ≤ 9223372036854775807 := by omega
  have HA := Lib.hid hA
  have HBB := Lib.hid hB
  have Hm := Lib.hid hm
  have Hk := Lib.hid hk
  clear hA hB hm hk
  go_enter Try.func68, Try.ntmps68
  go_wp2
  go_loopw [7, 15] (fun out i wr => ∃ (k : Nat) (vs : List Value), k ≤ N ∧ i = .int .i64 k ∧ OwnP wr w.heap.size out k (tab N N (mixF false A B)) k vs ∧ Below w.heap.size w wr) (fun _ i _ => N - (intOf i).toNat)
  case atStart => exact ⟨0, [], Nat.zero_le _, rfl, ⟨World.ownsRow_nil _ _ _ _, fun i hi => absurd hi (by omega), fun i j _ hj => absurd hj (by omega)⟩, Below.refl _ _⟩
  case round =>
    obtain ⟨k, vs, hk, rfl, hout, hbr⟩ := hrel
    obtain ⟨wo, rfl⟩ : ∃ wo : World, wo = wr := ⟨_, rfl⟩
    by_cases hlt : k < N
    · obtain ⟨b1, o1, r1, d1, e1, hc1, hx1, _, _⟩ := Hm.out.below hbr k (by rw [HA.out.len]; exact hlt)
      obtain ⟨b2, o2, r2, d2, e2, hc2, hx2, _, _⟩ := Hk.out.below hbr k (by rw [HBB.out.len]; exact hlt)
      rw [HA.out.row k hlt] at hc1
      rw [HBB.out.row k hlt] at hc2
      subst e1 e2
      have Hx1 := Lib.hid hx1
      have Hx2 := Lib.hid hx2
      have Hc2 := Lib.hid hc2
      have Hout := Lib.hid hout
      have Hbr := Lib.hid hbr
      have hB := hbr.size
      clear hout hbr hx1 hx2
      go_wp2
      clear hc1 hc2
      go_loopw [10, 22] (fun row i wr => ∃ t : Nat, t ≤ N ∧ i = .int .i64 t ∧ OwnI wr wo.heap.size row (rowF (fun j => mixF false A B k j) t) ∧ Below wo.heap.size wo wr) (fun _ i _ => N - (intOf i).toNat)
      case atStart => exact ⟨0, Nat.zero_le _, by go_num, OwnI.nil _ _, Below.refl _ _⟩
      case round =>
        obtain ⟨t, ht, rfl, hrow, hbi⟩ := hrel
        by_cases htl : t < N
        · obtain ⟨b3, o3, e3, hc3⟩ := Hx1.out.below hbi t (by rw [HA.out.row k hlt]; exact htl)
          obtain ⟨b4, o4, e4, hc4⟩ := Hx2.out.below hbi t (by rw [HBB.out.row k hlt]; exact htl)
          subst e3 e4
          have hc5 := cell_below Hc2.out hbi
          have hB2 := hbi.size
          have hval : mixF false A B k t = max (gi (gr A k) t) (gi (gr B k) t) := rfl
          generalize gi (gr A k) t = x at hc3 hval
          generalize gi (gr B k) t = y at hc4 hval
          have Hval := Lib.hid hval
          have Hbi := Lib.hid hbi
          have Hrow := Lib.hid hrow
          clear hbi hrow hval
          by_cases hxy : x < y
          · have hd : decide (x < y) = true := by simpa using hxy
            have Hxy := Lib.hid hxy
            clear hxy
            go_wp2_with (at_builtin; refine wpList_append_own _ rfl _ _ 41 rfl wo.heap.size 3 i0 (.int .i64 0) 1 8 Try.underlying41 hi hz0 hz1 hz2 rfl (by decide) _ _ _ rfl (World.ownsRow.alloc Hrow.out _) ⟨wr.heap.size, 0, none⟩ 1 1 [.int .i64 y] rfl rfl ?c1 ?c2 ?c3 ?c4 ?c5 ?_)
            try (case c1 => exact cell_one_new _ _ _)
            case c2 => first | rfl | (intro u hu; simp at hu; subst hu; rfl)
            case c3 => unfold maxLen; rw [rowF_len]; omega
            case c4 => rw [rowF_len]; omega
            case c5 => first | omega | (simp; omega)
            intro v' w3 hown' hgrow _
            obtain ⟨hr2, hb2⟩ := Hrow.out.snoc hB2 hown' hgrow
            rw [show y = (fun j => mixF false A B k j) t from by have := Hval.out; have := Hxy.out; show y = mixF false A B k t; omega, ← rowF_succ (fun j => mixF false A B k j)] at hr2
            have Hr2 := Lib.hid hr2
            have Hb2 := Lib.hid hb2
            clear hown' hgrow hr2 hb2
            go_wp2
            go_roundw
            case rel => exact ⟨t + 1, by omega, by go_num, Hr2.out, Hbi.out.trans Hb2.out⟩
            case measure => simp [intOf]; omega
          · have hd : decide (x < y) = false := by simpa using hxy
            have Hxy := Lib.hid hxy
            clear hxy
            go_wp2_with (at_builtin; refine wpList_append_own _ rfl _ _ 41 rfl wo.heap.size 3 i0 (.int .i64 0) 1 8 Try.underlying41 hi hz0 hz1 hz2 rfl (by decide) _ _ _ rfl (World.ownsRow.alloc Hrow.out _) ⟨wr.heap.size, 0, none⟩ 1 1 [.int .i64 x] rfl rfl ?c1 ?c2 ?c3 ?c4 ?c5 ?_)
            try (case c1 => exact cell_one_new _ _ _)
            case c2 => first | rfl | (intro u hu; simp at hu; subst hu; rfl)
            case c3 => unfold maxLen; rw [rowF_len]; omega
            case c4 => rw [rowF_len]; omega
            case c5 => first | omega | (simp; omega)
            intro v' w3 hown' hgrow _
            obtain ⟨hr2, hb2⟩ := Hrow.out.snoc hB2 hown' hgrow
            rw [show x = (fun j => mixF false A B k j) t from by have := Hval.out; have := Hxy.out; show x = mixF false A B k t; omega, ← rowF_succ (fun j => mixF false A B k j)] at hr2
            have Hr2 := Lib.hid hr2
            have Hb2 := Lib.hid hb2
            clear hown' hgrow hr2 hb2
            go_wp2
            go_roundw
            case rel => exact ⟨t + 1, by omega, by go_num, Hr2.out, Hbi.out.trans Hb2.out⟩
            case measure => simp [intOf]; omega
        · obtain rfl : t = N := by omega
          rw [rowF_tab (n := t) hlt] at hrow
          obtain ⟨rr, rc, hr, _, _, _⟩ := hrow.read
          have Hrow := Lib.hid hrow
          have hB2 := hbi.size
          have Hout2 := Lib.hid (Hout.out.below hbi)
          have Hbi := Lib.hid hbi
          have hfr := Lib.hid (Hout.out.fresh hrow (Nat.le_refl _))
          clear hrow hbi
          subst hr
          go_wp2_with (at_builtin; refine wpList_append_own _ rfl _ _ 22 rfl w.heap.size 41 j0 (.slice none 0 0) 1 24 Try.underlying22 hj hy0 hy1 hy2 rfl (by decide) _ _ _ rfl (World.ownsRow.alloc Hout2.out.top _) ⟨wr.heap.size, 0, none⟩ 1 1 [.slice rr (gr (tab t t (mixF false A B)) k).length rc] rfl rfl ?d1 ?d2 ?d3 ?d4 ?d5 ?_)
          case d1 => exact cell_one_new _ _ _
          case d2 => intro u hu; simp at hu; subst hu; rfl
          case d3 => unfold maxLen; omega
          case d4 => omega
          case d5 => simp; omega
          intro v' w3 hown' hgrow _
          have hput := Hout2.out.snoc (show w.heap.size ≤ wr.heap.size by omega) (Hrow.out.base hB) hfr.out hown' hgrow
          have Hput := Lib.hid hput
          clear hput hown' hgrow
          go_wp2
          go_roundw
          case rel => exact ⟨k + 1, _, by omega, by go_num, Hput.out.1, (Hbr.out.trans (Hbi.out.mono hB)).trans Hput.out.2⟩
          case measure => simp [intOf]; omega
    · obtain rfl : k = N := by omega
      have hfin : OwnM wo w.heap.size u7 (tab k k (mixF false A B)) := ⟨vs, by rw [tab_len]; exact hout⟩
      have Hfin := Lib.hid hfin
      have Hbr := Lib.hid hbr
      clear hout hbr hfin
      go_wp2
      go_ret
      exact ⟨_, rfl, Hfin.out, Hbr.out⟩
end Go.Proofs.Ytopamhcnbocfoaa
