/- Contracts: the texts of descending plane partitions, by the model. Condition: the text has at most 2^20 bytes. -/
import Derived.Test.YtfempacfaeknpaaDoorPdM
import Derived.Test.YtfempacfaeknpaaDoorParseS
import Derived.Test.YtfempacfaeknpaaDoorParseT
import Derived.Test.YtfempacfaeknpaaDoorDpS
import Derived.Test.YtfempacfaeknpaaDoorOwnT
namespace Go.Proofs.YtfempacfaeknpaaDoor
open Go.RowKit

theorem u8_sub : ∀ x : Nat, x < 58 → x < 48 ∨ IntKind.u8.wrap ((x : Int) - 48) = (x : Int) - 48 := by decide +kernel

set_option maxRecDepth 100000 in
set_option maxHeartbeats 1600000 in
theorem l1Read_one (b : UInt8) (w : World) :
    Calls Tryd.prog 10 #[.string (bstr [b])] w fun e w' => e = .returned (.int .i64 (dg b)) ∧ w = w' := by
  have hsz : (bstr [b]).size = 1 := rfl
  have hix : ∀ w, (Instr.index 9 (.string (bstr [b])) (.int .i64 0)).run Tryd.prog w = .ok (.int .u8 (b.toNat : Int)) w := fun w => str_at (l := [b]) (k := 0) rfl w
  have C := Lib.hid (l1In_any 1 1 6 w)
  obtain ⟨x, hx⟩ : ∃ x, x = b.toNat := ⟨_, rfl⟩
  obtain ⟨s, hs⟩ : ∃ s, s = bstr [b] := ⟨_, rfl⟩
  obtain ⟨d, hd⟩ : ∃ d, d = dg b := ⟨_, rfl⟩
  have hdx : d = if 48 ≤ x ∧ x ≤ 57 then (x : Int) - 48 else -1 := by rw [hd, hx]; rfl
  rw [← hx, ← hs] at hix
  rw [← hs] at hsz ⊢
  rw [← hd]
  clear hx hs hd
  by_cases h : 48 ≤ x ∧ x ≤ 57
  · rw [if_pos h] at hdx
    have hsub : IntKind.u8.wrap ((x : Int) - 48) = d := by rw [(u8_sub x (by omega)).resolve_left (by omega), hdx]
    have hd0 : 0 ≤ d ∧ d ≤ 9 := by omega
    have h1 : decide ((x : Int) < 48) = false := by simp; omega
    have h2 : decide ((57 : Int) < (x : Int)) = false := by simp; omega
    have hw : IntKind.i64.wrap d = d := w64 (by omega)
    have Hdx := Lib.hid hdx
    by_cases h0 : x = 48
    · have hq : ((x : Int) == 48) = true := by simp; omega
      clear hdx h h0
      go_enter Tryd.func10, Tryd.ntmps10
      go_wp2_with fail
      refine C.out.mono ?_
      rintro e w1 ⟨ha, rfl⟩
      obtain rfl := ha.is (by omega)
      clear ha
      go_wp2
      go_loopw [3, 4] (fun n i wr => (i = .int .i64 0 ∧ n = .int .i64 0 ∨ i = .int .i64 1 ∧ n = .int .i64 d) ∧ w = wr) (fun _ i _ => 1 - (intOf i).toNat)
      case atStart => exact ⟨.inl ⟨rfl, rfl⟩, rfl⟩
      case round =>
        obtain ⟨⟨rfl, rfl⟩ | ⟨rfl, rfl⟩, rfl⟩ := hrel
        · go_wp2
          go_roundw
          case rel => simp
          case measure => decide
        · go_wp2
          go_ret
          exact ⟨rfl, rfl⟩
    · have hq : ((x : Int) == 48) = false := by simp; omega
      clear hdx h h0
      go_enter Tryd.func10, Tryd.ntmps10
      go_wp2_with fail
      refine C.out.mono ?_
      rintro e w1 ⟨ha, rfl⟩
      obtain rfl := ha.is (by omega)
      clear ha
      go_wp2
      go_loopw [3, 4] (fun n i wr => (i = .int .i64 0 ∧ n = .int .i64 0 ∨ i = .int .i64 1 ∧ n = .int .i64 d) ∧ w = wr) (fun _ i _ => 1 - (intOf i).toNat)
      case atStart => exact ⟨.inl ⟨rfl, rfl⟩, rfl⟩
      case round =>
        obtain ⟨⟨rfl, rfl⟩ | ⟨rfl, rfl⟩, rfl⟩ := hrel
        · go_wp2
          go_roundw
          case rel => simp
          case measure => decide
        · go_wp2
          go_ret
          exact ⟨rfl, rfl⟩
  · rw [if_neg h] at hdx
    have hq : ((x : Int) == 48) = false := by simp; omega
    by_cases h1' : x < 48
    · have h1 : decide ((x : Int) < 48) = true := by simp; omega
      clear h h1'
      subst hdx
      go_enter Tryd.func10, Tryd.ntmps10
      go_wp2_with fail
      refine C.out.mono ?_
      rintro e w1 ⟨ha, rfl⟩
      obtain rfl := ha.is (by omega)
      clear ha
      go_wp2
      go_loopw [3, 4] (fun n i wr => (i = .int .i64 0 ∧ n = .int .i64 0) ∧ w = wr) (fun _ i _ => 1 - (intOf i).toNat)
      case atStart => exact ⟨⟨rfl, rfl⟩, rfl⟩
      case round =>
        obtain ⟨⟨rfl, rfl⟩, rfl⟩ := hrel
        go_wp2
        go_ret
        exact ⟨rfl, rfl⟩
    · have h1 : decide ((x : Int) < 48) = false := by simp; omega
      have h2 : decide ((57 : Int) < (x : Int)) = true := by simp; omega
      clear h h1'
      subst hdx
      go_enter Tryd.func10, Tryd.ntmps10
      go_wp2_with fail
      refine C.out.mono ?_
      rintro e w1 ⟨ha, rfl⟩
      obtain rfl := ha.is (by omega)
      clear ha
      go_wp2
      go_loopw [3, 4] (fun n i wr => (i = .int .i64 0 ∧ n = .int .i64 0) ∧ w = wr) (fun _ i _ => 1 - (intOf i).toNat)
      case atStart => exact ⟨⟨rfl, rfl⟩, rfl⟩
      case round =>
        obtain ⟨⟨rfl, rfl⟩, rfl⟩ := hrel
        go_wp2
        go_ret
        exact ⟨rfl, rfl⟩

theorem cut_one {p : List UInt8} {j : Nat} {b : UInt8} (h : p[j]? = some b) (w : World) : (Instr.slice 9 (.string (bstr p)) (some (.int .i64 (j : Int))) (some (.int .i64 ((j : Int) + 1))) none).run Tryd.prog w = .ok (.string (bstr [b])) w := by
  obtain ⟨hj, hb⟩ := List.getElem?_eq_some_iff.1 h
  have h1 := str_cut (l := p) (a := j) (k := j + 1) (by omega) (by omega) w
  rw [show j + 1 - j = 1 by omega, List.drop_eq_getElem_cons hj, hb] at h1
  exact h1

set_option maxRecDepth 100000 in
set_option maxHeartbeats 3200000 in
theorem specParseDescending_any (l : List UInt8) (w : World) (hl : l.length ≤ 1048576) :
    Calls Tryd.prog 4 #[.string (bstr l)] w fun e w' => MRes (pdOk l) (pdOf l) w' w.heap.size e ∧ Below w.heap.size w w' := by
  have hsz := bstr_size l
  have heq : ((bstr l).toList == [45]) = decide (l = [45]) := by
    rw [bstr_list]
    by_cases h : l = [45] <;> simp [h]
  by_cases h45 : l = [45]
  · have Hp := Lib.hid (pd_dash h45)
    rw [show decide (l = [45]) = true by simpa using h45] at heq
    clear h45
    go_enter Tryd.func4, Tryd.ntmps4
    go_wp2
    go_ret2
    exact ⟨⟨_, true, [], rfl, (OwnT.nil _ _).toM, .inl ⟨Hp.out.1, rfl, Hp.out.2.symm⟩⟩, Below.refl _ _⟩
  rw [show decide (l = [45]) = false by simpa using h45] at heq
  by_cases h30 : 30 < l.length
  · have Hno := Lib.hid (pd_no h45 fun hg => by have := good_short hg; omega)
    have d1 : decide ((30 : Int) < (l.length : Int)) = true := by simp; omega
    clear h45 h30
    go_enter Tryd.func4, Tryd.ntmps4
    go_wp2
    go_ret2
    exact ⟨MRes.no Hno.out, Below.refl _ _⟩
  have d1 : decide ((30 : Int) < (l.length : Int)) = false := by simp; omega
  have H45 := Lib.hid h45
  have CS := Lib.hid (l1Split_any l w hl)
  clear h45
  go_enter Tryd.func4, Tryd.ntmps4
  go_wp2_with fail
  refine CS.out.mono ?_
  rintro e w1 ⟨v, rfl, hv, hb⟩
  obtain ⟨pa, pc, rfl, _, _, hts⟩ := hv.read
  have Hts := Lib.hid hts
  have Hb := Lib.hid hb
  have hcl := cut_len l
  have Hpl := Lib.hid (cut_piece l)
  have Hsn0 := Lib.hid (fun k (h : k < (cut l).length) => show (md l).take (k + 1) = (md l).take k ++ [rowD (cut l)[k]] by
    have h1 := map_snoc (f := rowD) h
    rw [List.map_take, List.map_take] at h1
    exact h1)
  have hTl := md_len l
  have HS := Lib.hid (show Small (md l) from map_small rowD_len (by omega) fun p hp => by have := Hpl.out p hp; omega)
  have HY := Lib.hid (fun g => pd_yes H45.out g)
  have HN := Lib.hid (fun g => pd_no H45.out g)
  obtain ⟨T, hT⟩ : ∃ T, T = md l := ⟨_, rfl⟩
  rw [← hT] at Hsn0 hTl HS HY HN
  obtain ⟨P, hP⟩ : ∃ P, P = cut l := ⟨_, rfl⟩
  rw [← hP] at Hts hcl hTl ⊢
  have Hpl2 := Lib.hid (show ∀ k (h : k < P.length), (P[k]).length ≤ l.length from fun k h => by subst hP; exact Hpl.out _ (List.getElem_mem h))
  have Hsn1 := Lib.hid (show ∀ k (h : k < P.length), T.take (k + 1) = T.take k ++ [rowD P[k]] from fun k h => by subst hP; exact Hsn0.out k h)
  obtain ⟨n, hn⟩ : ∃ n, n = P.length := ⟨_, rfl⟩
  rw [← hn] at hcl hTl ⊢
  have Hn := Lib.hid hn
  clear hv hb hts CS hP hT hn Hsn0 Hpl
  go_wp2
  go_loopw [4, 17] (fun rows i wr => ∃ (k : Nat) (vs : List Value), k ≤ n ∧ i = .int .i64 k ∧ OwnT wr w1.heap.size rows (T.take k) vs ∧ Below w1.heap.size w1 wr) (fun _ i _ => n - (intOf i).toNat)
  case atStart => exact ⟨0, [], Nat.zero_le _, rfl, OwnT.nil _ _, Below.refl _ _⟩
  case round =>
    rename World => wr
    obtain ⟨k, vs, hk, rfl, hown, hbr⟩ := hrel
    have Hown := Lib.hid hown
    have Hbr := Lib.hid hbr
    have HBr := Lib.hid hbr.size
    obtain ⟨ra, rc, hr, _, _, _⟩ := hown.read
    have hml : (T.take k).length = k := by rw [List.length_take]; omega
    rw [hml] at hr
    clear hown hbr
    subst hr
    by_cases hlt : k < n
    · have hltP : k < P.length := by rw [← Hn.out]; exact hlt
      obtain ⟨b1, o1, e1, hc1⟩ := (Hts.out.below Hbr.out) k hltP
      subst e1
      have Hsn := Lib.hid (Hsn1.out k hltP)
      have hpl := Hpl2.out k hltP
      obtain ⟨p, hp⟩ : ∃ p, p = P[k] := ⟨_, rfl⟩
      rw [← hp] at hc1 Hsn hpl
      have hps := bstr_size p
      clear hp hltP
      go_wp2
      go_loopw [7, 8] (fun row i wq => ∃ (j : Nat), j ≤ p.length ∧ i = .int .i64 j ∧ OwnI wq wr.heap.size row (rowD (p.take j)) ∧ Below wr.heap.size wr wq) (fun _ i _ => p.length - (intOf i).toNat)
      case atStart => exact ⟨0, Nat.zero_le _, rfl, OwnI.nil _ _, Below.refl _ _⟩
      case round =>
        rename World => wq
        obtain ⟨j, hj, rfl, hrow, hbq⟩ := hrel
        have Hrow := Lib.hid hrow
        have Hbq := Lib.hid hbq
        have HBq := Lib.hid hbq.size
        obtain ⟨sa, sc, hs, _, _, _⟩ := hrow.read
        have hrl : (rowD (p.take j)).length = j := by rw [rowD_len, List.length_take]; omega
        rw [hrl] at hs
        clear hrow hbq
        subst hs
        by_cases hlt2 : j < p.length
        · obtain ⟨b, hb⟩ : ∃ b, p[j]? = some b := ⟨_, List.getElem?_eq_getElem hlt2⟩
          have hix := cut_one hb
          have Hst := Lib.hid (rowD_snoc hb)
          have CR := Lib.hid (l1Read_one b wq)
          have hdb := dg_bd b
          obtain ⟨x, hx⟩ : ∃ x, x = dg b := ⟨_, rfl⟩
          rw [← hx] at CR Hst hdb
          clear hb hx hc1
          go_wp2_with fail
          refine CR.out.mono ?_
          rintro e w5 ⟨rfl, rfl⟩
          go_wp2_with (at_builtin; refine wpList_numT rfl _ _ rfl wr.heap.size _ _ x Hrow.out rfl rfl HBq.out (by omega) ?_)
          intro rv w6 hrow2 hb2
          rw [← Hst.out] at hrow2
          have HR := Lib.hid hrow2
          have HB2 := Lib.hid (Hbq.out.trans hb2)
          clear hrow2 hb2 hrl Hst Hrow
          go_wp2
          go_roundw
          case rel => exact ⟨j + 1, by omega, by go_num, HR.out, HB2.out⟩
          case measure => simp [intOf]; omega
        · obtain rfl : p.length = j := by omega
          rw [List.take_length] at Hrow
          have Hown2 := Lib.hid (Hown.out.below Hbq.out)
          have HB2 := Lib.hid (Hbr.out.trans (Hbq.out.mono HBr.out))
          have Hne := Lib.hid (show ∀ i, i < (T.take k).length → ∀ g, (vs.getD i undef).ownBlock = some g → (Value.slice sa p.length sc).ownBlock ≠ some g from fun i hi g hg hg2 => by
            have h1 := (Hown.out.old i hi g hg).2
            have h2 := (Hrow.out.lt g hg2).1
            omega)
          clear hrl hc1
          go_wp2_with (at_builtin; refine wpList_rowT rfl _ _ rfl w1.heap.size _ (.slice sa p.length sc) _ vs (rowD p) Hown2.out (Hrow.out.base HBr.out) rfl rfl Hne.out HB2.out.size (by omega) ?_)
          intro v5 w5 hown5 _ hb5
          rw [← Hsn.out] at hown5
          have Hown5 := Lib.hid hown5
          have HB5 := Lib.hid (HB2.out.trans hb5)
          clear hown5 hb5
          go_wp2
          go_roundw
          case rel => exact ⟨k + 1, _, by omega, by go_num, Hown5.out, HB5.out⟩
          case measure => simp [intOf]; omega
    · obtain rfl : n = k := by omega
      have hT : OwnT wr w1.heap.size (.slice ra n rc) T vs := by
        have h := Hown.out
        rw [List.take_of_length_le (by omega)] at h
        exact h
      obtain ⟨a2, c2, e2, _, _, hm⟩ := hT.read
      rw [hTl] at e2
      cases e2
      have CG := Lib.hid (dpGood_any ra rc T 6 wr (by omega) HS.out hm)
      rw [hTl] at CG
      have HT := Lib.hid hT
      clear hT hm Hown hlt
      go_wp2_with fail
      refine CG.out.mono ?_
      rintro e w4 ⟨ha, hq⟩
      have HT4 := Lib.hid ((HT.out.below (hq.below _)).base Hb.out.size)
      have HB4 := Lib.hid (Hb.out.trans ((Hbr.out.trans ((hq.below wr.heap.size).mono HBr.out)).mono Hb.out.size))
      by_cases g : DpGood T 6
      · have Hg := Lib.hid (HY.out g)
        obtain rfl := ha.is g
        clear ha g hq
        go_wp2
        go_ret2
        exact ⟨MRes.yes Hg.out.1 (by rw [Hg.out.2]; exact HT4.out.toM), HB4.out⟩
      · have Hg := Lib.hid (HN.out g)
        obtain rfl := ha.isnt g
        clear ha g hq
        go_wp2
        go_ret2
        exact ⟨MRes.no Hg.out, HB4.out⟩
end Go.Proofs.YtfempacfaeknpaaDoor
