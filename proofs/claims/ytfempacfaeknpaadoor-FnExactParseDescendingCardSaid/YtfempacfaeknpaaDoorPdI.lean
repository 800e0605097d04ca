/- Contracts: the texts of descending plane partitions, by the program. Conditions: the text has at most 2^20 bytes; the library's variable MaxLen holds an integer. -/
import Derived.Test.YtfempacfaeknpaaDoorPdS
import Derived.Test.YtfempacfaeknpaaDoorShelfSp
import Derived.Test.YtfempacfaeknpaaDoorDpD
namespace Go.Proofs.YtfempacfaeknpaaDoor
open Go.RowKit

theorem splitK_piece : ∀ (k : Nat) (l : List UInt8), ∀ p ∈ Lib.splitK [47] 0 k l, p.length ≤ l.length
  | 0, l, p, h => by
    have h2 : p ∈ [l] := h
    rw [List.mem_singleton.1 h2]
    exact Nat.le_refl _
  | k + 1, l, p, h => by
    unfold Lib.splitK at h
    rw [Lib.index_one] at h
    rcases idx_cases l with ⟨h1, _⟩ | ⟨i, h1, _⟩
    · rw [h1] at h
      have h2 : p ∈ [l] := h
      rw [List.mem_singleton.1 h2]
      exact Nat.le_refl _
    · have h3 : ((i : Int) == -1) = false := by simp
      rw [h1, h3] at h
      simp only [Bool.false_eq_true, if_false, Int.toNat_natCast, List.length_singleton, Nat.add_zero] at h
      rcases List.mem_cons.1 h with rfl | h
      · rw [List.length_take]
        omega
      · have h4 := splitK_piece k _ p h
        rw [List.length_drop] at h4
        omega

theorem splitN6_any (l : List UInt8) (mx : Int) (w : World) (hl : l.length ≤ 1048576) (hmx : w.cell? ⟨0, 0, none⟩ = some (.int .i64 mx)) :
    Calls Tryd.prog 12 #[.string (bstr l), .string ⟨#[47]⟩, .int .i64 6] w fun e w' =>
      ∃ ps c, e = .returned (.slice (some ⟨w.heap.size, 0, none⟩) ps.length c) ∧ c ≤ 6 ∧ ps.length ≤ c ∧ TextsAt w' (some ⟨w.heap.size, 0, none⟩) ps ∧ Below w.heap.size w w' ∧
        (∀ p ∈ ps, p.length ≤ l.length) ∧ ((5 < (cut l).length ∧ 5 < ps.length) ∨ ps = cut l) := by
  have h := Any.strings_SplitN (P := Tryd.prog) (ρ := Tryd.shelf_renS) { Tryd.lays147S with } Tryd.lays147S.i9 (bstr l) ⟨#[47]⟩ 6 mx w (by rw [bstr_size]; omega) hmx (by decide) (by decide) (by decide)
  rw [bstr_size] at h
  refine h.mono ?_
  obtain ⟨k, hk⟩ : ∃ k, k = min 6 (l.length + 1) - 1 := ⟨_, rfl⟩
  obtain ⟨ds, hds⟩ : ∃ ds, ds = Lib.splitB ⟨#[47]⟩ 0 k (bstr l) := ⟨_, rfl⟩
  rw [← hk, ← hds]
  rintro e w' ⟨rfl, rfl⟩
  have hdl : ds.length ≤ k + 1 := by rw [hds]; exact Lib.splitB_length_le _ _ _ _
  have hps : ds.map (·.data.toList) = Lib.splitK [47] 0 k l := by rw [hds, Lib.splitB_data]; rfl
  refine ⟨ds.map (·.data.toList), min 6 (l.length + 1), by rw [List.length_map], by omega, by rw [List.length_map]; omega, fun i hi => ⟨w.heap.size, 0, rfl, ?_⟩, (Below.refl _ _).alloc (Nat.le_refl _) _, ?_, ?_⟩
  · rw [List.length_map] at hi
    rw [Nat.zero_add, World.cell?_alloc_at _ _ _ _ rfl]
    unfold Lib.cellsOf
    rw [List.getElem?_toArray, List.getElem?_append_left (by rw [List.length_map]; exact hi), List.getElem?_map, List.getElem?_eq_getElem hi]
    simp [bstr]
  · rw [hps]
    exact splitK_piece k l
  · have h1 := cut_len l
    rw [hps]
    by_cases h6 : (cut l).length ≤ 5
    · exact .inr (splitK_cut k l (by omega))
    · refine .inl ⟨by omega, ?_⟩
      rw [splitK_long k l (by omega)]
      omega

theorem pd_impl {l : List UInt8} {ps : List (List UInt8)} (h : l ≠ [45]) (hor : (5 < (cut l).length ∧ 5 < ps.length) ∨ ps = cut l) :
    (DpGood (ps.map rowE) 6 → pdOk l ∧ pdOf l = ps.map rowE) ∧ (¬ DpGood (ps.map rowE) 6 → ¬ pdOk l) := by
  rcases hor with ⟨h1, h2⟩ | rfl
  · exact ⟨fun hg => absurd hg (bad_many (by simpa using h2)), fun _ => pd_no h (bad_many (by rw [md_len]; exact h1))⟩
  · refine ⟨fun hg => ?_, fun hg => pd_no h fun k => hg ((good_iff _).2 k)⟩
    have h1 := pd_yes h ((good_iff _).1 hg)
    exact ⟨h1.1, h1.2.trans (good_de hg)⟩

set_option maxRecDepth 100000 in
set_option maxHeartbeats 1600000 in
theorem digitsOf_any (p : List UInt8) (w : World) (hp : p.length ≤ 1048576) :
    Calls Tryd.prog 13 #[.string (bstr p)] w fun e w' => ∃ v, e = .returned v ∧ OwnI w' w.heap.size v (rowE p) ∧ Below w.heap.size w w' := by
  obtain ⟨i0, hi, hz0, hz1, hz2⟩ := info_parts Tryd.info_int
  have hsz := bstr_size p
  have hpm : p.length ≤ 9223372036854775807 := by omega
  go_enter Tryd.func13, Tryd.ntmps13
  go_wp2_with (at_make; refine wpList_make_full _ rfl _ _ 30 rfl w.heap.size 3 i0 (.int .i64 0) 1 Tryd.underlying30 hi hz0 hz1 _ _ _ _ p.length rfl rfl rfl rfl ?c1 ?c2 ?c3 ?_)
  case c1 => rw [hz2]; omega
  case c2 => unfold maxLen; omega
  case c3 => simp
  intro w1 hown hg
  have hb1 : Below w.heap.size w w1 := (Below.refl _ _).grown hg (Nat.le_refl _) (fun _ h => by cases h)
  have Hown1 := Lib.hid (OwnI.made hown)
  have Hb1 := Lib.hid hb1
  clear hown hg hb1
  go_wp2
  go_loopw [10] (fun i wr => ∃ (t : Nat) (ys : List Int), t ≤ p.length ∧ i = .int .i64 t ∧ OwnI wr w.heap.size (.slice (some ⟨w.heap.size, 0, none⟩) p.length p.length) ys ∧ (∀ j, j < t → gi ys j = gi (rowE p) j) ∧ Below w.heap.size w wr)
    (fun i _ => p.length - (intOf i).toNat)
  case atStart => exact ⟨0, _, Nat.zero_le _, rfl, Hown1.out, fun j hj => absurd hj (by omega), Hb1.out⟩
  case round =>
    obtain ⟨t, ys, ht, rfl, hown, heq, hbr⟩ := hrel
    have Hbr := Lib.hid hbr
    have Heq := Lib.hid heq
    have Hown := Lib.hid hown
    clear hbr heq hown Hown1 Hb1
    by_cases htl : t < p.length
    · obtain ⟨b, hb⟩ : ∃ b, p[t]? = some b := ⟨_, List.getElem?_eq_getElem htl⟩
      have hix := str_at hb
      have hlt := b.toNat_lt
      have Hv := Lib.hid (show gi (rowE p) t = (b.toNat : Int) - 48 by
        rw [gi_lt (by rw [rowE_len]; exact htl)]
        have h2 := (List.getElem?_eq_some_iff.1 hb).2
        simp only [rowE, List.getElem_map]
        rw [h2]
        rfl)
      obtain ⟨x, hx⟩ : ∃ x, x = b.toNat := ⟨_, rfl⟩
      rw [← hx] at hix hlt Hv
      have hd := Hown.out.cellAt t htl
      have hf := Hown.out.frozenAt t
      have Hst := Lib.hid (Hown.out.store t ((x : Int) - 48))
      have Hl := Lib.hid Hown.out.len
      have Hbs := Lib.hid (Hbr.out.setCell (p := ⟨w.heap.size, t, none⟩) (Nat.le_refl _) (.int .i64 ((x : Int) - 48)))
      have hw : IntKind.i64.wrap (x : Int) = (x : Int) := w64 (by omega)
      have hw2 : IntKind.i64.wrap ((x : Int) - 48) = (x : Int) - 48 := w64 (by omega)
      clear hb hx
      go_wp2
      go_roundw
      case rel =>
        refine ⟨t + 1, _, by omega, by go_num, Hst.out, fun j hj => ?_, Hbs.out⟩
        rw [gi_set (by rw [Hl.out]; exact htl)]
        split
        · next e =>
          subst e
          rw [Hv.out]
        · exact Heq.out j (by omega)
      case measure => simp [intOf]; omega
    · obtain rfl : p.length = t := by omega
      have hl := Hown.out.len
      have hfin : ys = rowE p := ext_gi (by rw [hl, rowE_len]) (fun j hj => Heq.out j (by rw [hl] at hj; exact hj))
      have HF := Lib.hid (show OwnI wr w.heap.size (.slice (some ⟨w.heap.size, 0, none⟩) p.length p.length) (rowE p) by rw [← hfin]; exact Hown.out)
      clear hl hfin Hown
      go_wp2
      go_ret
      exact ⟨_, rfl, HF.out, Hbr.out⟩

theorem wpList_buildPd {P : Program} {ops : Array Oper} {rest : List Oper} {o : Oper} {a : Act} {w : World} {Q : Exit → Act → World → Prop} (hg : o.guard = none) (t : TypeId) (xs : Array (Nat × Operand)) (ho : o.op = .build t xs)
    (vs : List (Nat × Value)) (hv : (xs.map fun (i, x) => (i, a.eval x)).toList = vs) (cells : Array Value) (hb : P.built t vs = some cells)
    (h : wpList P ops Q rest (a.put o.dst (.agg cells)) w) : wpList P ops Q (o :: rest) a w := by
  refine wpList_build hg t _ ho (by rw [hv, hb]; rfl) ?_
  rw [hv, hb]
  exact h

set_option maxRecDepth 100000 in
set_option maxHeartbeats 800000 in
theorem planeOf_any (ao : Option Addr) (k c : Nat) (n : Int) (w : World) :
    Calls Tryd.prog 15 #[.agg (ptA (.slice ao k c) n)] w fun e w' => e = .returned (.slice ao k c) ∧ Below w.heap.size w w' := by
  go_enter Tryd.func15, Tryd.ntmps15
  go_upto_region 1 with (refine wpList_boxT rfl 38 _ rfl _ rfl ?_)
  generalize hW : World.alloc w _ = w1
  have hP : PtAt w1 w.heap.size (.slice ao k c) n := by rw [← hW]; exact PtAt.new _ _ _
  have HB := Lib.hid (show Below w.heap.size w w1 by rw [← hW]; exact (Below.refl _ w).alloc (Nat.le_refl _) _)
  have hc0 := hP.c0
  clear hW hP
  go_wp2
  go_ret
  exact ⟨rfl, HB.out⟩

set_option maxRecDepth 100000 in
set_option maxHeartbeats 1600000 in
theorem told_plane (ao : Option Addr) (c : Nat) (rows : List (List Int)) (w : World) (hs : Small rows) (hwf : WfM rows) (hm : MatAt w ao rows) :
    Calls Tryd.prog 14 #[.slice ao rows.length c, .func (.func 15) #[] #[]] w fun e w' =>
      ((DpGood rows 6 ∧ e = .returned (.tuple #[.slice ao rows.length c, .bool true])) ∨ (¬ DpGood rows 6 ∧ e = .returned (.tuple #[.slice none 0 0, .bool false]))) ∧ Below w.heap.size w w' := by
  have hl := hs.1
  have Hm := Lib.hid hm
  have Hs := Lib.hid hs
  have Hwf := Lib.hid hwf
  clear hm hs hwf
  go_enter Tryd.func14, Tryd.ntmps14
  go_upto_region 2 with (first | (refine wpList_buildPd rfl 38 _ rfl [(0, .slice ao rows.length c), (1, .int .i64 6)] rfl (ptA (.slice ao rows.length c) 6) (Tryd.built_pt _ _ _ _) ?_) | (refine wpList_allocT rfl 38 rfl _ _ Tryd.info_pt ?_) | (refine wpList_storeT rfl 38 _ _ rfl (ptA (.slice ao rows.length c) 6) (ptA (.slice none 0 0) 0) w.heap.size rfl rfl rfl (Tryd.size_pt _ _) (pt_same _ _ _ _) (pt_one _ _ _ _) ?_))
  generalize hW : World.alloc w _ = w1
  have HP := Lib.hid (show PtAt w1 w.heap.size (.slice ao rows.length c) 6 by rw [← hW]; exact PtAt.new _ _ _)
  have HB := Lib.hid (show Below w.heap.size w w1 by rw [← hW]; exact (Below.refl _ w).alloc (Nat.le_refl _) _)
  clear hW
  go_wp2_with (first | (refine wpList_loadG rfl 38 _ rfl w.heap.size rfl _ _ HP.out Tryd.underlying38 rfl (Tryd.size_pt _ _) ?_))
  refine (isDescending_any ao c rows 6 w1 (by omega) (by omega) Hs.out Hwf.out (Hm.out.below HB.out)).mono ?_
  rintro e w2 ⟨ha, hb⟩
  have HP2 := Lib.hid (HP.out.below hb)
  have HB2 := Lib.hid (HB.out.trans (hb.mono HB.out.size))
  clear hb HP HB
  by_cases q : DpGood rows 6
  · have Q1 := Lib.hid q
    obtain rfl := ha.is q
    clear q ha
    go_wp2_with (first | (refine wpList_loadG rfl 38 _ rfl w.heap.size rfl _ _ HP2.out Tryd.underlying38 rfl (Tryd.size_pt _ _) ?_))
    refine (planeOf_any ao rows.length c 6 w2).mono ?_
    rintro e w3 ⟨rfl, hb3⟩
    have HB3 := Lib.hid (HB2.out.trans (hb3.mono HB2.out.size))
    clear hb3
    go_wp2
    go_ret2
    exact ⟨.inl ⟨Q1.out, rfl⟩, HB3.out⟩
  · have Q1 := Lib.hid q
    obtain rfl := ha.isnt q
    clear q ha
    go_wp2
    go_ret2
    exact ⟨.inr ⟨Q1.out, rfl⟩, HB2.out⟩

set_option maxRecDepth 100000 in
set_option maxHeartbeats 3200000 in
theorem implParseDescending_any (l : List UInt8) (mx : Int) (w : World) (hl : l.length ≤ 1048576) (hmx : w.cell? ⟨0, 0, none⟩ = some (.int .i64 mx)) :
    Calls Tryd.prog 5 #[.string (bstr l)] w fun e w' => MRes (pdOk l) (pdOf l) w' w.heap.size e ∧ Below w.heap.size w w' := by
  have hsz := bstr_size l
  have heq : ((bstr l).toList == [45]) = decide (l = [45]) := by
    rw [bstr_list]
    by_cases h : l = [45] <;> simp [h]
  have CS := Lib.hid (splitN6_any l mx w hl hmx)
  clear hmx
  by_cases h45 : l = [45]
  · have Hp := Lib.hid (pd_dash h45)
    rw [show decide (l = [45]) = true by simpa using h45] at heq
    clear h45
    go_enter Tryd.func5, Tryd.ntmps5
    go_wp2
    go_ret2
    exact ⟨⟨_, true, [], rfl, (OwnT.nil _ _).toM, .inl ⟨Hp.out.1, rfl, Hp.out.2.symm⟩⟩, Below.refl _ _⟩
  rw [show decide (l = [45]) = false by simpa using h45] at heq
  have H45 := Lib.hid h45
  clear h45
  go_enter Tryd.func5, Tryd.ntmps5
  go_wp2_with fail
  refine CS.out.mono ?_
  rintro e w1 ⟨ps, c, rfl, hc6, hpc, hts, hb, hpl, hor⟩
  have HD := Lib.hid (pd_impl H45.out hor)
  have Hts := Lib.hid hts
  have Hb := Lib.hid hb
  have Hpl := Lib.hid (show ∀ k (h : k < ps.length), (ps[k]).length ≤ 1048576 from fun k h => by have := hpl _ (List.getElem_mem h); omega)
  have Hsn := Lib.hid (show ∀ k (h : k < ps.length), (ps.map rowE).take (k + 1) = (ps.map rowE).take k ++ [rowE ps[k]] from fun k h => by
    have h1 := map_snoc (f := rowE) h
    rw [List.map_take, List.map_take] at h1
    exact h1)
  have HS := Lib.hid (show Small (ps.map rowE) from map_small rowE_len (by omega) fun p hp => by have := hpl p hp; omega)
  have HW := Lib.hid (rowE_wf ps)
  have hTl : (ps.map rowE).length = ps.length := List.length_map ..
  obtain ⟨T, hT⟩ : ∃ T, T = ps.map rowE := ⟨_, rfl⟩
  rw [← hT] at HD Hsn HS HW hTl
  obtain ⟨n, hn⟩ : ∃ n, n = ps.length := ⟨_, rfl⟩
  rw [← hn] at hpc hTl ⊢
  have Hn := Lib.hid hn
  clear hts hb hpl hor hT hn CS H45
  go_wp2
  go_loopw [4, 12] (fun rows i wr => ∃ (k : Nat) (vs : List Value), k ≤ n ∧ i = .int .i64 k ∧ OwnT wr w1.heap.size rows (T.take k) vs ∧ Below w1.heap.size w1 wr) (fun _ i _ => n - (intOf i).toNat)
  case atStart => exact ⟨0, [], Nat.zero_le _, rfl, OwnT.nil _ _, Below.refl _ _⟩
  case round =>
    rename World => wr
    obtain ⟨k, vs, hk, rfl, hown, hbr⟩ := hrel
    have Hown := Lib.hid hown
    have Hbr := Lib.hid hbr
    have HBr := Lib.hid hbr.size
    obtain ⟨ra, rc, hr, _, _, _⟩ := hown.read
    have hml : (T.take k).length = k := by rw [List.length_take]; omega
    rw [hml] at hr
    clear hown hbr
    subst hr
    by_cases hlt : k < n
    · have hltP : k < ps.length := by rw [← Hn.out]; exact hlt
      obtain ⟨b1, o1, e1, hc1⟩ := (Hts.out.below Hbr.out) k hltP
      injection e1 with e1
      injection e1 with e2 e3 _
      subst e2 e3
      rw [Nat.zero_add] at hc1
      have Hsn1 := Lib.hid (Hsn.out k hltP)
      have hpl := Hpl.out k hltP
      obtain ⟨p, hp⟩ : ∃ p, p = ps[k] := ⟨_, rfl⟩
      rw [← hp] at hc1 Hsn1 hpl
      have CD := Lib.hid (digitsOf_any p wr hpl)
      clear hp hltP
      go_wp2_with fail
      refine CD.out.mono ?_
      rintro e w5 ⟨v, rfl, hv, hb5⟩
      obtain ⟨sa, sc, rfl, _, _, _⟩ := hv.read
      have Hv := Lib.hid hv
      have Hown2 := Lib.hid (Hown.out.below hb5)
      have HB2 := Lib.hid (Hbr.out.trans (hb5.mono HBr.out))
      have Hne := Lib.hid (show ∀ i, i < (T.take k).length → ∀ g, (vs.getD i undef).ownBlock = some g → (Value.slice sa (rowE p).length sc).ownBlock ≠ some g from fun i hi g hg hg2 => by
        have h1 := (Hown.out.old i hi g hg).2
        have h2 := (Hv.out.lt g hg2).1
        omega)
      clear hv hb5 CD hc1 Hown
      go_wp2_with (at_builtin; refine wpList_rowT rfl _ _ rfl w1.heap.size _ (.slice sa (rowE p).length sc) _ vs (rowE p) Hown2.out (Hv.out.base HBr.out) rfl rfl Hne.out HB2.out.size (by omega) ?_)
      intro v5 w6 hown5 _ hb6
      rw [← Hsn1.out] at hown5
      have Hown5 := Lib.hid hown5
      have HB5 := Lib.hid (HB2.out.trans hb6)
      clear hown5 hb6
      go_wp2
      go_roundw
      case rel => exact ⟨k + 1, _, by omega, by go_num, Hown5.out, HB5.out⟩
      case measure => simp [intOf]; omega
    · obtain rfl : n = k := by omega
      have hT : OwnT wr w1.heap.size (.slice ra n rc) T vs := by
        have h := Hown.out
        rw [List.take_of_length_le (by omega)] at h
        exact h
      obtain ⟨a2, c2, e2, _, _, hm⟩ := hT.read
      rw [hTl] at e2
      cases e2
      have CT := Lib.hid (told_plane ra rc T wr HS.out HW.out hm)
      rw [hTl] at CT
      have HT := Lib.hid hT
      clear hT hm Hown hlt
      go_wp2_with fail
      refine CT.out.mono ?_
      rintro e w4 ⟨ha, hq⟩
      have HT4 := Lib.hid ((HT.out.below hq).base Hb.out.size)
      have HB4 := Lib.hid (Hb.out.trans ((Hbr.out.trans (hq.mono HBr.out)).mono Hb.out.size))
      rcases ha with ⟨g, rfl⟩ | ⟨g, rfl⟩
      · have Hg := Lib.hid (HD.out.1 g)
        clear g hq
        go_wp2
        go_ret2
        exact ⟨MRes.yes Hg.out.1 (by rw [Hg.out.2]; exact HT4.out.toM), HB4.out⟩
      · have Hg := Lib.hid (HD.out.2 g)
        clear g hq
        go_wp2
        go_ret2
        exact ⟨MRes.no Hg.out, HB4.out⟩
theorem pd_small {l : List UInt8} (h : pdOk l) : Small (pdOf l) := by
  unfold pdOf
  by_cases e : l = [45]
  · rw [if_pos e]
    exact ⟨by simp, fun i hi => absurd hi (by simp)⟩
  · rw [if_neg e]
    have hg := good_len (h.resolve_left e)
    exact ⟨by omega, fun i hi => by have := hg.2 i hi; omega⟩
end Go.Proofs.YtfempacfaeknpaaDoor
