/- Contracts of the program's parseSignRow and ParseSigns, of the model's ParseSigns. Conditions: the text has at most 2^20 bytes; the library's variable MaxLen holds an integer. -/
import Derived.Test.YtiocbogdiaalgaaDoorParseT
import Derived.Test.YtiocbogdiaalgaaDoorShelfSplit
namespace Go.Proofs.YtiocbogdiaalgaaDoor
open Go.RowKit

set_option maxRecDepth 100000 in
set_option maxHeartbeats 800000 in
theorem specParseSigns_any (l : List UInt8) (w : World) (hl : l.length ≤ 1048576) :
    Calls Tryd.prog 4 #[.string (bstr l)] w fun e w' => MRes (parses l) (mv l) w' w.heap.size e ∧ Below w.heap.size w w' := by
  go_enter Tryd.func4, Tryd.ntmps4
  go_wp2_with fail
  refine (sgParse_any l w hl).mono ?_
  rintro e w1 ⟨⟨v, b, r, rfl, hv, hr⟩, hb⟩
  go_wp2
  go_ret2
  exact ⟨⟨v, b, r, rfl, hv, hr⟩, hb⟩

theorem indexByte_any (b : UInt8) (w : World) :
    Calls Tryd.prog 20 #[.string ⟨#[45, 48, 43]⟩, .int .u8 (b.toNat : Int)] w fun e w' => e = .returned (.int .i64 (Lib.indexByte [45, 48, 43] b)) ∧ w' = w := by
  have h := Any.strings_IndexByte Tryd.lays137 ⟨#[45, 48, 43]⟩ (b.toNat : Int) w
  have e : ((b.toNat : Int).toNat.toUInt8) = b := by simp
  rw [e] at h
  exact h

/-- the row's text is well formed -/
def rowOk (p : List UInt8) (n : Nat) : Prop := p.length = n ∧ ∀ c ∈ p, sgc (val c) = c
def PRow (p : List UInt8) (n : Nat) (w : World) (B : Nat) (e : Ending) : Prop :=
  ∃ v b xs, e = .returned (.tuple #[v, .bool b]) ∧ OwnI w B v xs ∧ ((rowOk p n ∧ b = true ∧ xs = rowV p) ∨ (¬ rowOk p n ∧ b = false ∧ xs = []))
theorem PRow.no {p : List UInt8} {n : Nat} {w : World} {B : Nat} (h : ¬ rowOk p n) : PRow p n w B (.returned (.tuple #[.slice none 0 0, .bool false])) := ⟨_, false, [], rfl, OwnI.nil _ _, .inr ⟨h, rfl, rfl⟩⟩

set_option maxRecDepth 100000 in
set_option maxHeartbeats 1600000 in
theorem parseSignRow_any (p : List UInt8) (n : Nat) (w : World) (_hp : p.length ≤ 1048576) (hn : n ≤ 6) :
    Calls Tryd.prog 11 #[.string (bstr p), .int .i64 n] w fun e w' => PRow p n w' w.heap.size e ∧ Below w.heap.size w w' := by
  obtain ⟨i0, hi, hz0, hz1, hz2⟩ := info_parts Tryd.info_int
  have hsz := bstr_size p
  by_cases hlen : p.length = n
  · have hne : ((p.length : Int) != (n : Int)) = false := by simp [hlen]
    have Hlen := Lib.hid hlen
    clear hlen
    go_enter Tryd.func11, Tryd.ntmps11
    go_wp2_with (at_make; refine wpList_make_full _ rfl _ _ 31 rfl w.heap.size 3 i0 (.int .i64 0) 1 Tryd.underlying31 hi hz0 hz1 _ _ _ _ n rfl rfl rfl rfl ?c1 ?c2 ?c3 ?_)
    case c1 => rw [hz2]; omega
    case c2 => unfold maxLen; omega
    case c3 => simp
    intro w1 hown hg
    have hb1 : Below w.heap.size w w1 := (Below.refl _ _).grown hg (Nat.le_refl _) (fun _ h => by cases h)
    have hown1 := OwnI.made hown
    clear hown hg
    go_wp2
    go_loopw [17] (fun i wr => ∃ (t : Nat) (ys : List Int), t ≤ n ∧ i = .int .i64 t ∧ OwnI wr w.heap.size (.slice (some ⟨w.heap.size, 0, none⟩) n n) ys ∧ (∀ j, j < t → gi ys j = gi (rowV p) j) ∧ (∀ j c, j < t → p[j]? = some c → sgc (val c) = c) ∧ Below w.heap.size w wr)
      (fun i _ => n - (intOf i).toNat)
    case atStart => exact ⟨0, _, Nat.zero_le _, rfl, hown1, fun j hj => absurd hj (by omega), fun j c hj => absurd hj (by omega), hb1⟩
    case round =>
      obtain ⟨t, ys, ht, rfl, hown, heq, hok, hbr⟩ := hrel
      clear hown1 hb1
      by_cases htl : t < n
      · obtain ⟨b, hb⟩ : ∃ b, p[t]? = some b := ⟨_, List.getElem?_eq_getElem (by rw [Hlen.out]; exact htl)⟩
        have hix := str_at hb
        have hcall := indexByte_any b wr
        have Hb := Lib.hid hb
        have Hbr := Lib.hid hbr
        have Heq := Lib.hid heq
        have Hok := Lib.hid hok
        have Hown := Lib.hid hown
        clear hb hbr heq hok hown
        rcases idx3 b with ⟨hgo, hidx⟩ | ⟨hgo, hidx⟩
        · rw [hidx] at hcall
          have Hcall := Lib.hid hcall
          have hvl := val_le b
          obtain ⟨x, hx⟩ : ∃ x, x = val b := ⟨_, rfl⟩
          have Hgo := Lib.hid hgo
          clear hcall hidx hgo
          rw [← hx] at hvl Hcall
          have Hx := Lib.hid hx
          clear hx
          have hd := Hown.out.cellAt t htl
          have hf := Hown.out.frozenAt t
          have Hst := Lib.hid (Hown.out.store t x)
          have Hl := Lib.hid Hown.out.len
          have Hbs := Lib.hid (Hbr.out.setCell (p := ⟨w.heap.size, t, none⟩) (Nat.le_refl _) (.int .i64 x))
          go_wp2_with fail
          refine Hcall.out.mono ?_
          rintro e w2 ⟨rfl, rfl⟩
          have hsub : x + 1 - 1 = x := by omega
          go_wp2
          go_roundw
          case rel =>
            refine ⟨t + 1, _, by omega, by go_num, Hst.out, fun j hj => ?_, fun j c hj hc => ?_, Hbs.out⟩
            · rw [gi_set (by rw [Hl.out]; exact htl)]
              split
              · next e =>
                subst e
                rw [Hx.out, gi_lt (by simp only [rowV, List.length_map]; rw [Hlen.out]; exact htl)]
                have := (List.getElem?_eq_some_iff.1 Hb.out).2
                simp only [rowV, List.getElem_map]
                rw [this]
              · exact Heq.out j (by omega)
            · by_cases e : j = t
              · subst e
                rw [Hb.out] at hc
                injection hc with hc
                subst hc
                exact Hgo.out
              · exact Hok.out j c (by omega) hc
          case measure => simp [intOf]; omega
        · rw [hidx] at hcall
          have Hcall := Lib.hid hcall
          have Hno := Lib.hid (show ¬ rowOk p n from fun h => hgo (h.2 b (List.mem_of_getElem? Hb.out)))
          clear hcall hidx hgo
          go_wp2_with fail
          refine Hcall.out.mono ?_
          rintro e w2 ⟨rfl, rfl⟩
          go_wp2
          go_ret2
          exact ⟨PRow.no Hno.out, Hbr.out⟩
      · obtain rfl : t = n := by omega
        have hl := hown.len
        have hfin : ys = rowV p := ext_gi (by rw [hl]; simp only [rowV, List.length_map]; exact Hlen.out.symm) (fun j hj => heq j (by rw [hl] at hj; exact hj))
        have hro : rowOk p t := ⟨Hlen.out, fun c hc => by
          obtain ⟨j, hj⟩ := List.mem_iff_getElem?.1 hc
          have hjl : j < p.length := (List.getElem?_eq_some_iff.1 hj).1
          exact hok j c (by rw [← Hlen.out]; exact hjl) hj⟩
        have Hro := Lib.hid hro
        have Hown := Lib.hid hown
        have Hfin := Lib.hid hfin
        have Hbr := Lib.hid hbr
        clear hown heq hok hbr hl hfin hro
        go_wp2
        go_ret2
        exact ⟨⟨_, true, ys, rfl, Hown.out, .inl ⟨Hro.out, rfl, Hfin.out⟩⟩, Hbr.out⟩
  · have hne : ((p.length : Int) != (n : Int)) = true := by simp; omega
    have Hno := Lib.hid (show ¬ rowOk p n from fun h => hlen h.1)
    clear hlen
    go_enter Tryd.func11, Tryd.ntmps11
    go_wp2
    go_ret2
    exact ⟨PRow.no Hno.out, Below.refl _ _⟩

theorem mv_wf (l : List UInt8) : WfM (mv l) := by
  intro i hi
  rw [mv_len] at hi
  rw [gr_mv hi]
  intro j hj
  rw [gi_lt hj]
  simp only [rowV, List.getElem_map]
  have := val_le ((cut l)[i][j]'(by simpa [rowV] using hj))
  omega

theorem splitN_any (l : List UInt8) (mx : Int) (w : World) (hl : l.length ≤ 1048576) (hmx : w.cell? ⟨0, 0, none⟩ = some (.int .i64 mx)) :
    Calls Tryd.prog 10 #[.string (bstr l), .string ⟨#[47]⟩, .int .i64 7] w fun e w' =>
      ∃ ps c, e = .returned (.slice (some ⟨w.heap.size, 0, none⟩) ps.length c) ∧ c ≤ 7 ∧ ps.length ≤ c ∧ TextsAt w' (some ⟨w.heap.size, 0, none⟩) ps ∧ Below w.heap.size w w' ∧
        ((6 < (cut l).length ∧ 6 < ps.length) ∨ ((cut l).length ≤ 6 ∧ ps = cut l)) := by
  have h := Any.strings_SplitN (P := Tryd.prog) (ρ := Tryd.shelf_ren) { Tryd.lays147M with } Tryd.lays147M.i9 (bstr l) ⟨#[47]⟩ 7 mx w (by rw [bstr_size]; omega) hmx (by decide) (by decide) (by decide)
  rw [bstr_size] at h
  refine h.mono ?_
  obtain ⟨k, hk⟩ : ∃ k, k = min 7 (l.length + 1) - 1 := ⟨_, rfl⟩
  obtain ⟨ds, hds⟩ : ∃ ds, ds = Lib.splitB ⟨#[47]⟩ 0 k (bstr l) := ⟨_, rfl⟩
  rw [← hk, ← hds]
  rintro e w' ⟨rfl, rfl⟩
  have hdl : ds.length ≤ k + 1 := by rw [hds]; exact Lib.splitB_length_le _ _ _ _
  have hps : ds.map (·.data.toList) = Lib.splitK [47] 0 k l := by rw [hds, Lib.splitB_data]; rfl
  refine ⟨ds.map (·.data.toList), min 7 (l.length + 1), by rw [List.length_map], by omega, by rw [List.length_map]; omega, fun i hi => ⟨w.heap.size, 0, rfl, ?_⟩, (Below.refl _ _).alloc (Nat.le_refl _) _, ?_⟩
  · rw [List.length_map] at hi
    rw [Nat.zero_add, World.cell?_alloc_at _ _ _ _ rfl]
    unfold Lib.cellsOf
    rw [List.getElem?_toArray, List.getElem?_append_left (by rw [List.length_map]; exact hi), List.getElem?_map, List.getElem?_eq_getElem hi]
    simp [bstr]
  · have h1 := cut_len l
    rw [hps]
    by_cases h6 : (cut l).length ≤ 6
    · exact .inr ⟨h6, splitK_cut k l (by omega)⟩
    · refine .inl ⟨by omega, ?_⟩
      rw [splitK_long k l (by omega)]
      omega

set_option maxRecDepth 100000 in
set_option maxHeartbeats 3200000 in
theorem implParseSigns_any (l : List UInt8) (mx : Int) (w : World) (hl : l.length ≤ 1048576) (hmx : w.cell? ⟨0, 0, none⟩ = some (.int .i64 mx)) :
    Calls Tryd.prog 5 #[.string (bstr l)] w fun e w' => MRes (parses l) (mv l) w' w.heap.size e ∧ Below w.heap.size w w' := by
  obtain ⟨j0, hj, hy0, hy1, hy2⟩ := info_parts Tryd.info_ints
  have hsp := splitN_any l mx w hl hmx
  clear hmx
  go_enter Tryd.func5, Tryd.ntmps5
  go_wp2_with fail
  refine hsp.mono ?_
  rintro e w1 ⟨ps, c, rfl, hc7, hpc, hts, hb1, hor⟩
  clear hsp
  have hB := hb1.size
  have Hb1 := Lib.hid hb1
  have Hts := Lib.hid hts
  clear hb1 hts
  rcases hor with ⟨hcl, h6⟩ | ⟨h6, rfl⟩
  · have Hno := Lib.hid (not_parses_many hcl)
    clear hcl
    go_wp2
    go_ret2
    exact ⟨MRes.no Hno.out, Hb1.out⟩
  · obtain ⟨n, hn⟩ : ∃ n, n = (cut l).length := ⟨_, rfl⟩
    rw [← hn] at hpc h6 ⊢
    have Hn := Lib.hid hn
    clear hn
    go_wp2_with (at_make; refine wpList_make_full _ rfl _ _ 30 rfl w1.heap.size 31 j0 (.slice none 0 0) 1 Tryd.underlying30 hj hy0 hy1 _ _ _ _ n rfl rfl rfl rfl ?c1 ?c2 ?c3 ?_)
    case c1 => rw [hy2]; omega
    case c2 => unfold maxLen; omega
    case c3 => simp
    intro w2 hown hg
    have hb2 : Below w1.heap.size w1 w2 := (Below.refl _ _).grown hg (Nat.le_refl _) (fun _ h => by cases h)
    have hown1 := OwnP.made (m := mv l) hown
    clear hown hg
    go_wp2
    go_loopw [20] (fun i wr => ∃ (k : Nat) (vs : List Value), k ≤ n ∧ i = .int .i64 k ∧ OwnP wr w1.heap.size (.slice (some ⟨w1.heap.size, 0, none⟩) n n) n (mv l) k vs ∧ (∀ j (h : j < (cut l).length), j < k → rowOk ((cut l)[j]) n) ∧ Below w1.heap.size w1 wr)
      (fun i _ => n - (intOf i).toNat)
    case atStart => exact ⟨0, _, Nat.zero_le _, rfl, hown1, fun j _ hj => absurd hj (by omega), hb2⟩
    case round =>
      obtain ⟨k, vs, hk, rfl, hown, hrows, hbr⟩ := hrel
      clear hown1 hb2
      have hBr := hbr.size
      have Hown := Lib.hid hown
      have Hrows := Lib.hid hrows
      have Hbr := Lib.hid hbr
      clear hown hrows hbr
      by_cases hlt : k < n
      · have hkc : k < (cut l).length := by rw [← Hn.out]; exact hlt
        obtain ⟨p, hp⟩ : ∃ p, p = (cut l)[k] := ⟨_, rfl⟩
        obtain ⟨b1, o1, e1, hc1⟩ := (Hts.out.below Hbr.out) k hkc
        rw [← hp] at hc1
        injection e1 with e1
        injection e1 with e2 e3 _
        subst e2 e3
        rw [Nat.zero_add] at hc1
        have hpl : p.length ≤ 1048576 := by have := cut_piece l p (by rw [hp]; exact List.getElem_mem _); omega
        have Hrow := Lib.hid (parseSignRow_any p n wr hpl h6)
        have Hp := Lib.hid hp
        clear hp
        go_wp2_with fail
        refine Hrow.out.mono ?_
        rintro e w3 ⟨⟨v, b, xs, rfl, hv, hr⟩, hb3⟩
        have hbr3 := Hbr.out.trans (hb3.mono hBr)
        rcases hr with ⟨hro, rfl, rfl⟩ | ⟨hro, rfl, _⟩
        · have hgr : gr (mv l) k = rowV p := by rw [gr_mv hkc, Hp.out]
          obtain ⟨ra, rc, rfl, _, _, _⟩ := hv.read
          rw [show (rowV p).length = n from by simp only [rowV, List.length_map]; exact hro.1] at hv ⊢
          have hpos := Hown.out.below hb3
          have hd := hpos.cellAt k hlt
          have hf : w3.frozen? ⟨w1.heap.size, k, none⟩ = false := World.ownsRow.frozenAt hpos.top k
          have hput := hpos.put hlt (v := .slice ra n rc) (by rw [hgr]; exact hv.base hBr) (Hown.out.fresh hv (Nat.le_refl _))
          have Hput := Lib.hid hput
          have Hbs := Lib.hid (hbr3.setCell (p := ⟨w1.heap.size, k, none⟩) (Nat.le_refl _) (.slice ra n rc))
          have Hro := Lib.hid hro
          clear hro hgr hv hb3 hbr3 hpos hput Hrow
          go_wp2
          go_roundw
          case rel =>
            refine ⟨k + 1, _, by omega, by go_num, Hput.out, fun j h hj => ?_, Hbs.out⟩
            by_cases e : j = k
            · subst e; rw [← Hp.out]; exact Hro.out
            · exact Hrows.out j h (by omega)
          case measure => simp [intOf]; omega
        · have hnp : ¬ parses l := fun h => by
            by_cases hpn : p.length = n
            · exact hro ⟨hpn, fun c hc => parses_chars h p (by rw [Hp.out]; exact List.getElem_mem _) c hc⟩
            · exact not_parses_len hkc (by rw [← Hp.out, ← Hn.out]; exact hpn) h
          obtain ⟨ra, rc, rfl, _, _, _⟩ := hv.read
          have Hnp := Lib.hid hnp
          have Hfin := Lib.hid (Hb1.out.trans (hbr3.mono hB))
          clear hro hnp hv hb3 hbr3 Hrow
          go_wp2
          go_ret2
          exact ⟨MRes.no Hnp.out, Hfin.out⟩
      · obtain rfl : k = n := by omega
        have hml : (mv l).length = k := by rw [mv_len, ← Hn.out]
        have hM : OwnM wr w1.heap.size (.slice (some ⟨w1.heap.size, 0, none⟩) k k) (mv l) := ⟨vs, by rw [hml]; exact Hown.out⟩
        have hmat : MatAt wr (some ⟨w1.heap.size, 0, none⟩) (mv l) := by
          obtain ⟨oa, oc, e0, _, _, hmat⟩ := hM.read
          injection e0 with e1 _ e2
          subst e1
          exact hmat
        have hall : ∀ p ∈ cut l, rowOk p k := by
          intro p hp
          obtain ⟨j, hj, rfl⟩ := List.mem_iff_getElem.1 hp
          exact Hrows.out j hj (by rw [Hn.out]; exact hj)
        have hsm : Small (mv l) := ⟨by rw [hml]; omega, fun i hi => by
          rw [mv_len] at hi
          rw [gr_mv hi, rowV, List.length_map, (hall _ (List.getElem_mem hi)).1]
          omega⟩
        have hpar : good (mv l) ↔ parses l := ⟨fun h => parses_of_chars h (fun p hp => (hall p hp).2), fun h => h.1⟩
        have hif := ifSigns_any (some ⟨w1.heap.size, 0, none⟩) k (mv l) wr hsm (mv_wf l) hmat
        rw [hml] at hif
        have Hif := Lib.hid hif
        have Hpar := Lib.hid hpar
        have HM := Lib.hid hM
        have Hb2 := Lib.hid (Hb1.out.trans (Hbr.out.mono hB))
        have hB2 := Hb2.out.size
        clear hif hpar hM hmat hall hsm Hown Hrows
        go_wp2_with fail
        refine Hif.out.mono ?_
        rintro e w3 ⟨b, rfl, hb, hb3⟩
        have Hiff := Lib.hid (hb.trans Hpar.out)
        have Hb3 := Lib.hid (Hb2.out.trans (hb3.mono hB2))
        have HM2 := Lib.hid ((HM.out.below hb3).base hB)
        clear hb hb3 Hif
        cases b
        · have Hnp := Lib.hid (show ¬ parses l from fun h => by have := Hiff.out.2 h; cases this)
          go_wp2
          go_ret2
          exact ⟨MRes.no Hnp.out, Hb3.out⟩
        · have Hyes := Lib.hid (Hiff.out.1 rfl)
          go_wp2
          go_ret2
          exact ⟨MRes.yes Hyes.out HM2.out, Hb3.out⟩
end Go.Proofs.YtiocbogdiaalgaaDoor
