/- Parts of proofs: contracts and plain facts. Conditions: as each says. -/
import Derived.Test.YtmkldodkpijfjaaK12
namespace Go.Proofs.Ytmkldodkpijfjaa
open Go.RowKit

/-- the closure's answers, as long as nothing below block B has changed -/
def PredCol (B gc : Nat) (del : Nat × Nat → Bool) (cs : List (Nat × Nat)) (w : World) : Prop :=
  ∀ w', Below B w w' → ∀ p ∈ cs, Calls Try.prog 101 #[.agg (cl p.1 p.2), .pointer (some ⟨gc, 0, none⟩)] w' fun e w2 => e = .returned (.bool (del p)) ∧ Below w'.heap.size w' w2
theorem PredCol.next {B gc : Nat} {del : Nat × Nat → Bool} {cs : List (Nat × Nat)} {w w1 : World} (h : PredCol B gc del cs w) (hb : Below B w w1) : PredCol B gc del cs w1 := fun w' hb' p hp => h w' (hb.trans hb') p hp

set_option maxRecDepth 100000 in
set_option maxHeartbeats 1600000 in
theorem indexCol (B gc : Nat) (del : Nat × Nat → Bool) (cs : List (Nat × Nat)) (ao : Option Addr) (k cp : Nat) (w : World) (hB : B ≤ w.heap.size) (hk : cs.length = k) (hk2 : k ≤ 64) (hx : CellsAt w ao cs) (hp : PredCol B gc del cs w) :
    Calls Try.prog 103 #[.slice ao k cp, .func (.func 101) #[] #[.pointer (some ⟨gc, 0, none⟩)]] w fun e w' => Found del cs e ∧ Below w.heap.size w w' := by
  have Hk := Lib.hid hk
  have Hx := Lib.hid hx
  have Hp := Lib.hid hp
  have HB := Lib.hid hB
  clear hk hx hp hB
  go_enter Try.func103, Try.ntmps103
  go_wp2
  go_loopw [8] (fun i wr => ∃ t : Nat, t ≤ k ∧ i = .int .i64 t ∧ NoneOf del (cs.take t) ∧ Below w.heap.size w wr) (fun i _ => k - (intOf i).toNat)
  case atStart => exact ⟨0, Nat.zero_le _, rfl, (fun p hp => by simp at hp), Below.refl _ _⟩
  case round =>
    obtain ⟨t, ht, rfl, hno, hbr⟩ := hrel
    have Hno := Lib.hid hno
    have Hbr := Lib.hid hbr
    have HZr := Lib.hid hbr.size
    clear hno
    by_cases hlt : t < k
    · have hlt' : t < cs.length := by rw [Hk.out]; exact hlt
      obtain ⟨g, o, rfl, hr⟩ := (Hx.out.below hbr) t hlt'
      obtain ⟨p, hpv⟩ : ∃ p, p = cs[t] := ⟨_, rfl⟩
      have hmem : p ∈ cs := by rw [hpv]; exact List.getElem_mem _
      have hcall := fun w' (hb : Below wr.heap.size wr w') => Hp.out w' ((hbr.mono HB.out).trans (hb.mono (Nat.le_trans HB.out HZr.out))) p hmem
      have hsn := take_snoc hlt'
      rw [← hpv] at hr hsn
      have Hr := Lib.hid hr
      have Hsn := Lib.hid hsn
      have Hcall := Lib.hid hcall
      have Hpv := Lib.hid hpv
      obtain ⟨d, hd⟩ : ∃ d, d = del p := ⟨_, rfl⟩
      rw [← hd] at Hcall
      have Hd := Lib.hid hd
      clear hpv hmem hcall hsn hr hd hbr
      go_wp2_with (refine wpList_load_mid rfl 104 _ rfl g (o + t * 2) rfl (crow p) _ Hr.out Try.underlying104 rfl (Try.size_celll _ _) ?_)
      refine (Hcall.out _ (Below.refl _ _)).mono ?_
      rintro e w2 ⟨rfl, hb2⟩
      have Hb2 := Lib.hid (Hbr.out.trans (hb2.mono HZr.out))
      clear hb2
      cases d
      · go_wp2
        go_roundw
        case rel => exact ⟨t + 1, by omega, by go_num, (fun q hq => by
          rw [Hsn.out] at hq
          rcases List.mem_append.1 hq with h | h
          · exact Hno.out q h
          · rw [List.mem_singleton.1 h]; exact Hd.out.symm), Hb2.out⟩
        case measure => simp [intOf]; omega
      · go_wp2
        go_ret
        exact ⟨.inr ⟨t, hlt', rfl, by rw [← Hpv.out]; exact Hd.out.symm, Hno.out⟩, Hb2.out⟩
    · obtain rfl : t = k := by omega
      have hall : ∀ p ∈ cs, del p = false := by have := Hno.out; rwa [← Hk.out, List.take_length] at this
      have Hall := Lib.hid hall
      clear hall hbr
      go_wp2
      go_ret
      exact ⟨.inl ⟨rfl, Hall.out⟩, Hbr.out⟩

set_option maxRecDepth 100000 in
set_option maxHeartbeats 3200000 in
theorem deleteCol (B gc : Nat) (del : Nat × Nat → Bool) (cs : List (Nat × Nat)) (v : Value) (w : World) (hB : B ≤ w.heap.size) (hk2 : cs.length ≤ 64) (ho : OwnK w B v cs) (hp : PredCol B gc del cs w) :
    Calls Try.prog 100 #[v, .func (.func 101) #[] #[.pointer (some ⟨gc, 0, none⟩)]] w fun e w' => ∃ v', e = .returned v' ∧ OwnK w' B v' (cs.filter (fun p => !del p)) ∧ Below B w w' := by
  obtain ⟨ao, cap, rfl, hc1, hc2, hh0, hbl⟩ := id ho
  have hx := ho.cells
  have Hbl := Lib.hid hbl
  have Hh0 := Lib.hid hh0
  clear hbl hh0
  obtain ⟨k, hk⟩ : ∃ k, k = cs.length := ⟨_, rfl⟩
  rw [← hk] at hc1 hk2 ⊢
  have hidx := indexCol B gc del cs ao k cap w hB hk.symm hk2 hx hp
  have Hk := Lib.hid hk
  have Hx := Lib.hid hx
  have Hp := Lib.hid hp
  have HB := Lib.hid hB
  have Ho := Lib.hid ho
  have Hidx := Lib.hid hidx
  clear hk hx hp hB ho hidx
  go_enter Try.func100, Try.ntmps100
  go_wp2_with fail
  refine Hidx.out.mono ?_
  rintro e w1 ⟨hf, hb1⟩
  have Hb1 := Lib.hid hb1
  rcases hf with ⟨rfl, hall⟩ | ⟨t0, ht0, rfl, hdel, hno⟩
  · have Hall := Lib.hid hall
    clear hall hb1
    go_wp2
    go_ret
    refine ⟨.slice ao k cap, rfl, ?_, Hb1.out.mono HB.out⟩
    rw [keep_all Hall.out]
    have h := Ho.out.below Hb1.out
    rwa [← Hk.out] at h
  · have ht0' : t0 < k := by rw [Hk.out]; exact ht0
    have hpos : 0 < cs.length := by omega
    obtain ⟨g, rfl, hh⟩ : ∃ g, ao = some ⟨g, 0, none⟩ ∧ HoldsC w g cs := by
      rcases Hh0.out with h | h
      · rw [h] at hpos; simp at hpos
      · exact h
    have hBg := Hbl.out g 0 rfl
    have HBg := Lib.hid hBg
    have Hh := Lib.hid (hh.below hb1)
    have hk0 : (cs.take (t0 + 1)).filter (fun p => !del p) = cs.take t0 := by rw [keep_snoc ht0, hdel, if_pos rfl, keep_all hno]
    have Hk0 := Lib.hid hk0
    have Ht0 := Lib.hid ht0
    have hne1 : ((t0 : Int) == -1) = false := beq_eq_false_iff_ne.2 (by omega)
    clear hb1 ht0 hdel hno hpos hBg hh hk0 Hx Ho Hidx Hh0
    go_wp2
    clear hne1
    go_loopw [5, 6, 7] (fun i j _ wr => ∃ (t : Nat) (L ds : List (Nat × Nat)), j = .int .i64 t ∧ i = .int .i64 (L.length : Int) ∧ DelInv del cs k t L ds ∧ HoldsC wr g ds ∧ Below B w wr) (fun _ j _ _ => k - (intOf j).toNat)
    case atStart => exact ⟨t0 + 1, cs.take t0, cs, by go_num, by rw [List.length_take, Nat.min_eq_left (by have := Ht0.out; omega)], ⟨by omega, Hk0.out.symm, by rw [List.length_take]; omega, Hk.out.symm, by rw [List.length_take, Nat.min_eq_left (by have := Ht0.out; omega)], fun _ _ => rfl⟩, Hh.out, Hb1.out.mono HB.out⟩
    case round =>
      obtain ⟨t, L, ds, rfl, rfl, ⟨ht, hL, hLt, hdl, hdt, hdu⟩, hhr, hbr⟩ := hrel
      obtain ⟨i, hi⟩ : ∃ i, i = L.length := ⟨_, rfl⟩
      rw [← hi] at hLt hdt ⊢
      have Hi := Lib.hid hi
      have HL := Lib.hid hL
      have Hdl := Lib.hid hdl
      have Hdt := Lib.hid hdt
      have Hdu := Lib.hid hdu
      have Hhr := Lib.hid hhr
      have Hbr := Lib.hid hbr
      have HBr := Lib.hid (Nat.le_trans HB.out hbr.size)
      clear hi hL hdl hdt hdu
      by_cases hlt : t < k
      · have hlt' : t < cs.length := by rw [← Hk.out]; exact hlt
        have hltd : t < ds.length := by rw [Hdl.out]; exact hlt
        obtain ⟨p, hpv⟩ : ∃ p, p = cs[t] := ⟨_, rfl⟩
        have hmem : p ∈ cs := by rw [hpv]; exact List.getElem_mem _
        have hpd : ds[t] = p := by
          have := Hdu.out t (Nat.le_refl _)
          rw [List.getElem?_eq_getElem hltd, List.getElem?_eq_getElem hlt'] at this
          rw [hpv]
          exact Option.some.inj this
        have hr := (hhr t hltd).1
        rw [hpd] at hr
        have hcall := fun w' (hb : Below wr.heap.size wr w') => Hp.out w' (hbr.trans (hb.mono HBr.out)) p hmem
        have hsn := keep_snoc (del := del) hlt'
        rw [← hpv, ← HL.out] at hsn
        obtain ⟨d, hd⟩ : ∃ d, d = del p := ⟨_, rfl⟩
        rw [← hd] at hcall hsn
        have Hr := Lib.hid hr
        have Hsn := Lib.hid hsn
        have Hcall := Lib.hid hcall
        clear hpd hpv hmem hr hcall hsn hd hhr hbr
        go_upto_region 8 with (first
          | (refine wpList_load_mid rfl 104 _ rfl g (t * 2) rfl (crow p) _ Hr.out Try.underlying104 rfl (Try.size_celll _ _) ?_)
          | (refine wpList_allocT rfl 104 rfl _ _ Try.info_cell ?_)
          | (refine wpList_storeT rfl 104 _ _ rfl (crow p).toArray (cl 0 0) wr.heap.size rfl rfl rfl (Try.size_cell p.1 p.2) rfl (crow_one p) ?_))
        generalize hW : World.alloc wr _ = w3
        have hC : CellAt w3 wr.heap.size p.1 p.2 := by rw [← hW]; exact heap_alloc_new wr _
        have hb3 : Below wr.heap.size wr w3 := by rw [← hW]; exact (Below.refl _ _).alloc (Nat.le_refl _) _
        clear hW
        have HC := Lib.hid hC
        have Hb3 := Lib.hid hb3
        clear hC hb3
        go_wp2_with (refine wpList_loadG rfl 104 _ rfl wr.heap.size rfl _ _ HC.out Try.underlying104 rfl (Try.size_cell _ _) ?_)
        refine (Hcall.out w3 Hb3.out).mono ?_
        rintro e w4 ⟨rfl, hb4⟩
        have Hb4 := Lib.hid (Hb3.out.trans (hb4.mono Hb3.out.size))
        have HC4 := Lib.hid (HC.out.below hb4)
        have Hh4 := Lib.hid (Hhr.out.below Hb4.out)
        have Hbt := Lib.hid (Hbr.out.trans (Hb4.out.mono HBr.out))
        clear hb4
        cases d
        · have hput := Hh4.out.put (i := i) (by rw [Hdl.out]; omega) p
          have Hput := Lib.hid hput
          have hthere := (Hh4.out i (by rw [Hdl.out]; omega)).2
          have Hthere := Lib.hid hthere
          have hm1 : (i : Int) < k := by omega
          have Hbp := Lib.hid (below_setC HBg.out (crow p) (i * 2) Hbt.out)
          clear hput hthere
          go_wp2_with (first
            | (refine wpList_loadG rfl 104 _ rfl wr.heap.size rfl (crow p).toArray _ HC4.out Try.underlying104 rfl (Try.size_cell p.1 p.2) ?_)
            | (refine wpList_store_mid rfl 104 _ _ rfl g (i * 2) (crow p).toArray rfl rfl Hthere.out (Try.size_cell p.1 p.2) (crow_one p) ?_))
          go_roundw
          case rel =>
            refine ⟨t + 1, L ++ [p], ds.set i p, by go_num, by rw [List.length_append, ← Hi.out]; go_num, ⟨by omega, Hsn.out.symm, by rw [List.length_append, ← Hi.out]; simp; omega, by rw [List.length_set]; exact Hdl.out, ?_, fun u hu => ?_⟩, Hput.out, Hbp.out⟩
            · rw [List.length_append, ← Hi.out]
              show (ds.set i p).take (i + 1) = L ++ [p]
              rw [List.take_add_one, List.take_set_of_le (Nat.le_refl _), Hdt.out, List.getElem?_set_self (by rw [Hdl.out]; omega)]
              rfl
            · rw [List.getElem?_set_ne (by omega)]
              exact Hdu.out u (by omega)
          case measure => simp [intOf]; omega
        · go_wp2
          go_roundw
          case rel => exact ⟨t + 1, L, ds, by go_num, by rw [Hi.out], ⟨by omega, Hsn.out.symm, by rw [← Hi.out]; omega, Hdl.out, by rw [← Hi.out]; exact Hdt.out, fun u hu => Hdu.out u (by omega)⟩, Hh4.out, Hbt.out⟩
          case measure => simp [intOf]; omega
      · obtain rfl : t = k := by omega
        have hfin : L = cs.filter (fun p => !del p) := by have := HL.out; rwa [Hk.out, List.take_length] at this
        have Hfin := Lib.hid hfin
        obtain ⟨vs, hvs⟩ : ∃ vs, ∀ ty, (Builtin.clear_ #[101] ty #[.slice (some ⟨g, i * 2, none⟩) (t - i) (cap - i)]).run Try.prog wr = .ok (.tuple #[]) (wr.setCells g (i * 2) vs) := by
          have hth : wr.there g (i * 2) ((t - i) * 2) := fun j hj => by
            have h := (Hhr.out (i + j / 2) (by rw [Hdl.out]; omega)).2 (j % 2) (by omega)
            rw [show (i + j / 2) * 2 + j % 2 = i * 2 + j from by omega] at h
            exact h
          obtain ⟨vs, hvs⟩ := run_clear_cells wr 0 g i (t - i) (cap - i) (by omega) hth
          exact ⟨vs, fun _ => hvs⟩
        have Hcut := Lib.hid (Hhr.out.cut Hdt.out vs)
        have Hbp := Lib.hid (below_setC HBg.out vs (i * 2) Hbr.out)
        have hm1 : (i : Int) ≤ t := by omega
        have hm2 : (i : Int) ≤ cap := by omega
        have hne : ¬ cap = i := by omega
        clear hfin hhr hbr
        go_wp2
        go_ret
        exact ⟨_, rfl, ⟨some ⟨g, 0, none⟩, cap, by rw [← Hfin.out, ← Hi.out]; rfl, by rw [← Hfin.out, ← Hi.out]; omega, hc2, .inr ⟨g, rfl, by rw [← Hfin.out]; exact Hcut.out⟩, Hbl.out⟩, Hbp.out⟩
end Go.Proofs.Ytmkldodkpijfjaa

