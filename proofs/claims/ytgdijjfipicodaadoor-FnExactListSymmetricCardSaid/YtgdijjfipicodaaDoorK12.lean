/- Parts of proofs: contracts and plain facts. Conditions: as each says. -/
import Derived.Test.YtgdijjfipicodaaDoorK11
import Derived.Lib.SliceRun
namespace Go.Proofs.YtgdijjfipicodaaDoor
open Go.RowKit

/-- a list of tables that a call owns, told table by table -/
structure OwnZ (w : World) (B : Nat) (v : Value) (Z : List (List (List Int) × Value × List Value)) : Prop where
  top : w.ownsRow B 22 1 v Z.length (Z.map (·.2.1))
  each : ∀ z, z ∈ Z → OwnT w B z.2.1 z.1 z.2.2
  apart : Z.Pairwise (fun a b => Apart2 a.2.2 b.2.2)
theorem OwnZ.below {w w' : World} {B : Nat} {v : Value} {Z : List (List (List Int) × Value × List Value)} (h : OwnZ w B v Z) (hb : Below w.heap.size w w') : OwnZ w' B v Z := ⟨ownsRow_below h.top hb, fun z hz => (h.each z hz).below hb, h.apart⟩
theorem OwnL.toZ {w : World} {B : Nat} {v : Value} {ts : List (List (List Int))} {vs : List Value} {uss : List (List Value)} (h : OwnL w B v ts vs uss) : ∃ Z : List (List (List Int) × Value × List Value), OwnZ w B v Z ∧ Z.map (·.1) = ts := by
  have hl := h.len
  have e2 : ((List.range ts.length).map (fun i => ((gt ts i, vs.getD i undef, ug uss i) : (List (List Int) × Value × List Value)))).map (·.2.1) = vs := by
    apply List.ext_getElem
    · simp [hl]
    · intro i h1 h2
      simp [List.getD, h2]
  have e1 : ((List.range ts.length).map (fun i => ((gt ts i, vs.getD i undef, ug uss i) : (List (List Int) × Value × List Value)))).map (·.1) = ts := by
    apply List.ext_getElem
    · simp
    · intro i h1 h2
      simp [gt_lt h2]
  refine ⟨(List.range ts.length).map (fun i => ((gt ts i, vs.getD i undef, ug uss i) : (List (List Int) × Value × List Value))), ⟨?_, fun z hz => ?_, ?_⟩, e1⟩
  · rw [e2, List.length_map, List.length_range]
    exact h.top
  · obtain ⟨i, hi, rfl⟩ := List.mem_map.1 hz
    exact h.each i (List.mem_range.1 hi)
  · rw [List.pairwise_map]
    refine List.Pairwise.imp_of_mem (fun ha hb hab => ?_) List.pairwise_lt_range
    exact h.apart _ _ hab (List.mem_range.1 hb)
theorem OwnZ.toL {w : World} {B : Nat} {v : Value} {Z : List (List (List Int) × Value × List Value)} (h : OwnZ w B v Z) : OwnLM w B v (Z.map (·.1)) := by
  refine ⟨Z.map (·.2.1), Z.map (·.2.2), by rw [List.length_map]; exact h.top, by simp, fun i hi => ?_, fun i j hij hj => ?_⟩
  · rw [List.length_map] at hi
    have hz := h.each _ (List.getElem_mem hi)
    have a1 : (Z.map (·.2.1)).getD i undef = Z[i].2.1 := by simp [List.getD, hi]
    have a2 : gt (Z.map (·.1)) i = Z[i].1 := by rw [gt_lt (by simpa using hi)]; simp
    have a3 : ug (Z.map (·.2.2)) i = Z[i].2.2 := by simp [ug, List.getD, hi]
    rw [a1, a2, a3]
    exact hz
  · rw [List.length_map] at hj
    have hp := List.pairwise_iff_getElem.1 h.apart i j (by omega) hj hij
    have a3 : ∀ t, (ht : t < Z.length) → ug (Z.map (·.2.2)) t = Z[t].2.2 := fun t ht => by simp [ug, List.getD, ht]
    rw [a3 i (by omega), a3 j hj]
    exact hp
theorem pick_at {Z : List (List (List Int) × Value × List Value)} {i : Nat} (hi : i < Z.length) : ∃ z, z ∈ Z ∧ Z[i]? = some z ∧ Z.take (i + 1) = Z.take i ++ [z] :=
  ⟨Z[i], List.getElem_mem hi, List.getElem?_eq_getElem hi, List.take_succ_eq_append_getElem hi⟩
/-- reading one of the tables -/
theorem OwnZ.at {w : World} {B n c : Nat} {ao : Option Addr} {Z : List (List (List Int) × Value × List Value)} (h : OwnZ w B (.slice ao n c) Z) {i : Nat} {z : List (List Int) × Value × List Value} (hi : i < Z.length) (hz : Z[i]? = some z) :
    ∃ b o r d, ao = some ⟨b, o, none⟩ ∧ w.cell? ⟨b, o + i, none⟩ = some (.slice r z.1.length d) ∧ z.2.1 = .slice r z.1.length d ∧ MatAt w r z.1 := by
  obtain ⟨ao', c', e, _, _, hc⟩ := ownsRow_read h.top
  cases e
  obtain ⟨b, o, e, hcell⟩ := hc i hi
  obtain ⟨r, d, hr, _, _, hm⟩ := (h.each z (List.mem_of_getElem? hz)).read
  have a1 : (Z.map (·.2.1)).getD i undef = z.2.1 := by rw [List.getD, List.getElem?_map, hz]; rfl
  exact ⟨b, o, r, d, e, by rw [hcell, a1, hr], hr, hm⟩
theorem OwnZ.base {w : World} {B B' : Nat} {v : Value} {Z : List (List (List Int) × Value × List Value)} (h : OwnZ w B v Z) (hB : B' ≤ B) : OwnZ w B' v Z := ⟨ownsRow_base h.top hB, fun z hz => (h.each z hz).base hB, h.apart⟩

theorem ownsRow_cut {w : World} {B : Nat} {e : TypeId} {g n c i : Nat} {xs : List Value} (h : w.ownsRow B e 1 (.slice (some ⟨g, 0, none⟩) n c) n xs) (hi : i ≤ n) : w.ownsRow B e 1 (.slice (some ⟨g, 0, none⟩) i c) i (xs.take i) := by
  have hl : xs.length = n := by simpa using h.1
  refine ⟨by simp; omega, ?_⟩
  rcases h.2 with ⟨h0, _⟩ | ⟨g', cap, cur, hv, hg, hh, hn, hm, hs, ht⟩
  · simp at h0
  · simp only [Value.slice.injEq, Option.some.injEq, Addr.mk.injEq, and_true, true_and] at hv
    obtain ⟨rfl, rfl⟩ := hv
    refine .inr ⟨g, c, cur, rfl, hg, hh, by omega, hm, hs, ?_⟩
    rw [← ht, Nat.mul_one, Nat.mul_one, List.take_take, Nat.min_eq_left hi]
theorem ownsRow_setCells {B : Nat} {e : TypeId} {g n c : Nat} : ∀ (zs : List Value) (o : Nat) {w : World} {xs : List Value}, w.ownsRow B e 1 (.slice (some ⟨g, 0, none⟩) n c) n xs → ∃ ys, (w.setCells g o zs).ownsRow B e 1 (.slice (some ⟨g, 0, none⟩) n c) n ys ∧ ys.take o = xs.take o
  | [], _, _, xs, h => ⟨xs, h, rfl⟩
  | z :: zs, o, w, xs, h => by
    obtain ⟨ys, h1, h2⟩ := ownsRow_setCells zs (o + 1) (World.ownsRow.stored h o z).1
    refine ⟨ys, h1, ?_⟩
    have h3 := congrArg (List.take o) h2
    rw [List.take_take, List.take_take, Nat.min_eq_left (by omega), List.take_set_of_le (Nat.le_refl _)] at h3
    exact h3
theorem OwnT.setCells {B B' : Nat} {x : Value} {m : List (List Int)} {vs : List Value} {g n c : Nat} : ∀ (zs : List Value) (o : Nat) {w : World} {xs : List Value}, OwnT w B x m vs → w.ownsRow B' 22 1 (.slice (some ⟨g, 0, none⟩) n c) n xs → OwnT (w.setCells g o zs) B x m vs
  | [], _, _, _, h, _ => h
  | z :: zs, o, _, _, h, k => OwnT.setCells zs (o + 1) (h.setOther k rfl (by decide) (by decide) z) (World.ownsRow.stored k o z).1
theorem below_setCellsT {B b : Nat} {a : World} (hb : B ≤ b) : ∀ (vs : List Value) (o : Nat) {w : World}, Below B a w → Below B a (w.setCells b o vs)
  | [], _, _, h => h
  | v :: r, o, _, h => below_setCellsT hb r (o + 1) (h.setCell (p := ⟨b, o, none⟩) hb v)

def NoneZ (del : List (List Int) → Bool) (L : List (List (List Int) × Value × List Value)) : Prop := ∀ z ∈ L, del z.1 = false
def keepZ (del : List (List Int) → Bool) (L : List (List (List Int) × Value × List Value)) : List (List (List Int) × Value × List Value) := L.filter (fun z => !del z.1)
theorem keepZ_all {del : List (List Int) → Bool} {L : List (List (List Int) × Value × List Value)} (h : NoneZ del L) : keepZ del L = L := by
  unfold keepZ
  rw [List.filter_eq_self]
  intro z hz
  rw [h z hz]
  rfl
theorem keepZ_snoc {del : List (List Int) → Bool} {Z : List (List (List Int) × Value × List Value)} {t : Nat} {z : List (List Int) × Value × List Value} (h : Z.take (t + 1) = Z.take t ++ [z]) : keepZ del (Z.take (t + 1)) = if del z.1 then keepZ del (Z.take t) else keepZ del (Z.take t) ++ [z] := by
  unfold keepZ
  rw [h, List.filter_append]
  cases e : del z.1 <;> simp [e]
theorem keepZ_len (del : List (List Int) → Bool) (L : List (List (List Int) × Value × List Value)) : (keepZ del L).length ≤ L.length := List.length_filter_le _ _
/-- the first that is struck -/
def FoundZ (del : List (List Int) → Bool) (Z : List (List (List Int) × Value × List Value)) (e : Ending) : Prop :=
  (e = .returned (.int .i64 (-1)) ∧ NoneZ del Z) ∨ ∃ (t : Nat) (z : List (List Int) × Value × List Value), t < Z.length ∧ e = .returned (.int .i64 (t : Int)) ∧ del z.1 = true ∧ Z.take (t + 1) = Z.take t ++ [z] ∧ NoneZ del (Z.take t)
/-- the closure's answers, as long as nothing below block B has changed -/
def PredZ (B P : Nat) (del : List (List Int) → Bool) (Z : List (List (List Int) × Value × List Value)) (w : World) : Prop :=
  ∀ w', Below B w w' → ∀ z ∈ Z, ∀ a c, MatAt w' a z.1 → Calls Tryd.prog 72 #[.slice a z.1.length c, .pointer (some ⟨P, 0, none⟩)] w' fun e w2 => e = .returned (.bool (del z.1)) ∧ Below w'.heap.size w' w2

set_option maxRecDepth 100000 in
set_option maxHeartbeats 1600000 in
theorem indexZ_any (B P : Nat) (del : List (List Int) → Bool) (Z : List (List (List Int) × Value × List Value)) (ao : Option Addr) (n c : Nat) (w : World) (hB : B ≤ w.heap.size) (hn : Z.length = n) (hn2 : n ≤ 1048576) (hZ : OwnZ w B (.slice ao n c) Z) (hp : PredZ B P del Z w) :
    Calls Tryd.prog 91 #[.slice ao n c, .func (.func 72) #[] #[.pointer (some ⟨P, 0, none⟩)]] w fun e w' => FoundZ del Z e ∧ Below w.heap.size w w' := by
  have hmx : n ≤ 9223372036854775807 := by omega
  have Hn := Lib.hid hn
  have HZ := Lib.hid hZ
  have Hp := Lib.hid hp
  have HB := Lib.hid hB
  clear hn hZ hp hB
  go_enter Tryd.func91, Tryd.ntmps91
  go_wp2
  go_loopw [8] (fun i wr => ∃ t : Nat, t ≤ n ∧ i = .int .i64 t ∧ NoneZ del (Z.take t) ∧ Below w.heap.size w wr) (fun i _ => n - (intOf i).toNat)
  case atStart => exact ⟨0, Nat.zero_le _, rfl, (fun z hz => by simp at hz), Below.refl _ _⟩
  case round =>
    obtain ⟨t, ht, rfl, hno, hbr⟩ := hrel
    have Hno := Lib.hid hno
    have Hbr := Lib.hid hbr
    clear hno hbr
    by_cases hlt : t < n
    · have hlt' : t < Z.length := by rw [Hn.out]; exact hlt
      obtain ⟨z, hzm, hzi, hsn⟩ := pick_at hlt'
      obtain ⟨b, o, r, d, rfl, hcell, _, hm⟩ := (HZ.out.below Hbr.out).at hlt' hzi
      have CC := Hp.out wr (Hbr.out.mono HB.out) z hzm r d hm
      have Hsn := Lib.hid hsn
      have Hlt' := Lib.hid hlt'
      obtain ⟨q, hq⟩ : ∃ q, q = del z.1 := ⟨_, rfl⟩
      rw [← hq] at CC
      have Hq := Lib.hid hq
      obtain ⟨u, hu⟩ : ∃ u, u = z.1.length := ⟨_, rfl⟩
      rw [← hu] at CC hcell
      have CC := Lib.hid CC
      clear hm hzm hzi hsn hq hu hlt'
      go_wp2_with fail
      refine CC.out.mono ?_
      rintro e w2 ⟨rfl, hb2⟩
      have Hb2 := Lib.hid (Hbr.out.trans (hb2.mono Hbr.out.size))
      clear hb2 CC hcell
      cases q
      · go_wp2
        go_roundw
        case rel => exact ⟨t + 1, by omega, by go_num, (fun y hy => by
          rw [Hsn.out] at hy
          rcases List.mem_append.1 hy with h | h
          · exact Hno.out y h
          · rw [List.mem_singleton.1 h]; exact Hq.out.symm), Hb2.out⟩
        case measure => simp [intOf]; omega
      · go_wp2
        go_ret
        exact ⟨.inr ⟨t, z, Hlt'.out, rfl, Hq.out.symm, Hsn.out, Hno.out⟩, Hb2.out⟩
    · obtain rfl : t = n := by omega
      have Hall := Lib.hid (show NoneZ del Z from by have := Hno.out; rw [← Hn.out, List.take_length] at this; exact this)
      clear Hno
      go_wp2
      go_ret
      exact ⟨.inl ⟨rfl, Hall.out⟩, Hbr.out⟩

/-- the list's slices as they are while those that are struck are left out -/
structure DelZ (del : List (List Int) → Bool) (Z : List (List (List Int) × Value × List Value)) (n t : Nat) (L : List (List (List Int) × Value × List Value)) (us : List Value) : Prop where
  ht : t ≤ n
  hL : L = keepZ del (Z.take t)
  hlt : L.length < t
  hul : us.length = n
  hut : us.take L.length = L.map (·.2.1)
  huu : ∀ u, t ≤ u → us[u]? = (Z.map (·.2.1))[u]?

set_option maxRecDepth 100000 in
set_option maxHeartbeats 3200000 in
theorem deleteZ_any (B P : Nat) (del : List (List Int) → Bool) (Z : List (List (List Int) × Value × List Value)) (v : Value) (w : World) (hB : B ≤ w.heap.size) (hn2 : Z.length ≤ 1048576) (hZ : OwnZ w B v Z) (hp : PredZ B P del Z w) :
    Calls Tryd.prog 71 #[v, .func (.func 72) #[] #[.pointer (some ⟨P, 0, none⟩)]] w fun e w' => ∃ v', e = .returned v' ∧ OwnZ w' B v' (keepZ del Z) ∧ Below B w w' := by
  obtain ⟨ao, c, rfl, hc1, hc2, _⟩ := ownsRow_read hZ.top
  obtain ⟨n, hn⟩ : ∃ n, n = Z.length := ⟨_, rfl⟩
  rw [← hn] at hn2 hc1
  have hZ' : OwnZ w B (.slice ao n c) Z := by rw [hn]; exact hZ
  rw [← hn]
  have hidx := indexZ_any B P del Z ao n c w hB hn.symm hn2 hZ' hp
  have hmx : n ≤ 9223372036854775807 := by omega
  have Hn := Lib.hid hn
  have HZ := Lib.hid hZ'
  have Hp := Lib.hid hp
  have HB := Lib.hid hB
  have Hidx := Lib.hid hidx
  clear hn hZ hZ' hp hB hidx
  go_enter Tryd.func71, Tryd.ntmps71
  go_wp2_with fail
  refine Hidx.out.mono ?_
  rintro e w1 ⟨hf, hb1⟩
  have Hb1 := Lib.hid hb1
  rcases hf with ⟨rfl, hall⟩ | ⟨t0, z0, ht0, rfl, hdel, hs0, hno⟩
  · have HF := Lib.hid (show OwnZ w1 B (.slice ao n c) (keepZ del Z) from by rw [keepZ_all hall]; exact HZ.out.below hb1)
    clear hall hb1
    go_wp2
    go_ret
    exact ⟨_, rfl, HF.out, Hb1.out.mono HB.out⟩
  · have ht0' : t0 < n := by rw [Hn.out]; exact ht0
    obtain ⟨g, hg, hBg⟩ : ∃ g, ao = some ⟨g, 0, none⟩ ∧ B ≤ g := by
      rcases HZ.out.top.2 with ⟨h0, h1⟩ | ⟨g, cap, cur, hv, hgb, _⟩
      · omega
      · simp only [Value.slice.injEq] at hv
        exact ⟨g, hv.1, hgb⟩
    subst hg
    have HBg := Lib.hid hBg
    have hne1 : ((t0 : Int) == -1) = false := beq_eq_false_iff_ne.2 (by omega)
    have Hk0 := Lib.hid (show keepZ del (Z.take (t0 + 1)) = Z.take t0 from by rw [keepZ_snoc hs0, hdel, if_pos rfl, keepZ_all hno])
    have Htop := Lib.hid (show w1.ownsRow B 22 1 (.slice (some ⟨g, 0, none⟩) n c) n (Z.map (·.2.1)) from by rw [Hn.out]; rw [Hn.out] at HZ; exact (HZ.out.below hb1).top)
    have Heach := Lib.hid (HZ.out.below hb1).each
    have Ht0 := Lib.hid ht0
    have Hap := Lib.hid HZ.out.apart
    have HBw := Lib.hid (Hb1.out.mono HB.out)
    have HB1 := Lib.hid (Nat.le_trans HB.out hb1.size)
    clear hb1 ht0 hdel hs0 hno hBg Hidx HZ
    go_wp2
    clear hne1
    go_loopw [5, 6, 7] (fun i j _ wr => ∃ (t : Nat) (L : List (List (List Int) × Value × List Value)) (us : List Value), j = .int .i64 t ∧ i = .int .i64 (L.length : Int) ∧ DelZ del Z n t L us ∧ wr.ownsRow B 22 1 (.slice (some ⟨g, 0, none⟩) n c) n us ∧ (∀ z, z ∈ Z → OwnT wr B z.2.1 z.1 z.2.2) ∧ B ≤ wr.heap.size ∧ Below B w wr) (fun _ j _ _ => n - (intOf j).toNat)
    case atStart => exact ⟨t0 + 1, Z.take t0, Z.map (·.2.1), by go_num, by rw [List.length_take, Nat.min_eq_left (by have := Ht0.out; omega)], ⟨by omega, Hk0.out.symm, by rw [List.length_take]; omega, by rw [List.length_map, Hn.out], by rw [List.length_take, Nat.min_eq_left (by have := Ht0.out; omega), List.map_take], fun u _ => rfl⟩, Htop.out, Heach.out, HB1.out, HBw.out⟩
    case round =>
      obtain ⟨t, L, us, rfl, rfl, ⟨ht, hL, hLt, hul, hut, huu⟩, htop, heach, hBr, hbr⟩ := hrel
      clear Htop Heach HB1 HBw
      obtain ⟨i, hi⟩ : ∃ i, i = L.length := ⟨_, rfl⟩
      rw [← hi] at hLt hut ⊢
      have Hi := Lib.hid hi
      have HL := Lib.hid hL
      have Hul := Lib.hid hul
      have Hut := Lib.hid hut
      have Huu := Lib.hid huu
      have Htop := Lib.hid htop
      have Heach := Lib.hid heach
      have Hbr := Lib.hid hbr
      have HBr := Lib.hid hBr
      clear hi hL hul hut huu htop heach hbr hBr
      by_cases hlt : t < n
      · have hlt' : t < Z.length := by rw [← Hn.out]; exact hlt
        obtain ⟨z, hzm, hzi, hts⟩ := pick_at hlt'
        obtain ⟨r, d, hr, _, _, hm⟩ := (Heach.out z hzm).read
        have hcell : wr.cell? ⟨g, t, none⟩ = some (.slice r z.1.length d) := by
          have h1 := World.ownsRow.cellAt Htop.out t (by omega)
          rw [h1, Huu.out t (Nat.le_refl _), List.getElem?_map, hzi]
          simp [hr]
        have CC := Hp.out wr Hbr.out z hzm r d hm
        have hsn := keepZ_snoc (del := del) hts
        rw [← HL.out] at hsn
        have Hzv := Lib.hid hr
        obtain ⟨q, hq⟩ : ∃ q, q = del z.1 := ⟨_, rfl⟩
        rw [← hq] at CC hsn
        obtain ⟨u, hu⟩ : ∃ u, u = z.1.length := ⟨_, rfl⟩
        rw [← hu] at CC hcell Hzv
        have CC := Lib.hid CC
        have Hsn := Lib.hid hsn
        clear hm hzm hzi hts hq hu hlt' hr hsn
        go_wp2_with fail
        refine CC.out.mono ?_
        rintro e w2 ⟨rfl, hb2⟩
        have Htop2 := Lib.hid (ownsRow_below Htop.out hb2)
        have Heach2 := Lib.hid (fun y hy => (Heach.out y hy).below hb2)
        have Hbr2 := Lib.hid (Hbr.out.trans (hb2.mono HBr.out))
        have HBr2 := Lib.hid (Nat.le_trans HBr.out hb2.size)
        clear hb2 CC hcell
        cases q
        · have hc2' : w2.cell? ⟨g, i, none⟩ = us[i]? := World.ownsRow.cellAt Htop2.out i (by omega)
          rw [List.getElem?_eq_getElem (by rw [Hul.out]; omega)] at hc2'
          have hf := World.ownsRow.frozenAt Htop2.out i
          have hit : i < n := by omega
          have Hset := Lib.hid (World.ownsRow.stored Htop2.out i (.slice r u d)).1
          have HeS := Lib.hid (fun y hy => (Heach2.out y hy).setOther Htop2.out (i := i) rfl (by decide) (by decide) (.slice r u d))
          have HbS := Lib.hid (Hbr2.out.setCell (p := ⟨g, i, none⟩) HBg.out (.slice r u d))
          have Hsn2 := Lib.hid (show keepZ del (Z.take (t + 1)) = L ++ [z] from by have := Hsn.out; simpa using this)
          obtain ⟨x, hx⟩ : ∃ x, x = us[i]'(by rw [Hul.out]; omega) := ⟨_, rfl⟩
          rw [← hx] at hc2'
          clear hx
          go_wp2
          go_roundw
          case rel =>
            refine ⟨t + 1, L ++ [z], us.set i (.slice r u d), by go_num, by rw [List.length_append, ← Hi.out]; go_num, ⟨by omega, Hsn2.out.symm, by rw [List.length_append, ← Hi.out]; simp; omega, by rw [List.length_set]; exact Hul.out, ?_, fun y hy => ?_⟩, Hset.out, HeS.out, by simpa using HBr2.out, HbS.out⟩
            · rw [List.length_append, ← Hi.out]
              show (us.set i (.slice r u d)).take (i + 1) = (L ++ [z]).map (·.2.1)
              rw [List.take_add_one, List.take_set_of_le (Nat.le_refl _), Hut.out, List.getElem?_set_self (by rw [Hul.out]; omega), List.map_append, ← Hzv.out]
              rfl
            · rw [List.getElem?_set_ne (by omega)]
              exact Huu.out y (by omega)
          case measure => simp [intOf]; omega
        · have Hsn2 := Lib.hid (show keepZ del (Z.take (t + 1)) = L from by have := Hsn.out; simpa using this)
          go_wp2
          go_roundw
          case rel => exact ⟨t + 1, L, us, by go_num, by rw [Hi.out], ⟨by omega, Hsn2.out.symm, by rw [← Hi.out]; omega, Hul.out, by rw [← Hi.out]; exact Hut.out, fun y hy => Huu.out y (by omega)⟩, Htop2.out, Heach2.out, HBr2.out, Hbr2.out⟩
          case measure => simp [intOf]; omega
      · obtain rfl : t = n := by omega
        have hfin : L = keepZ del Z := by have := HL.out; rw [Hn.out, List.take_length] at this; exact this
        have Hfin := Lib.hid hfin
        have hvs : ∀ ty, (Builtin.clear_ #[29] ty #[.slice (some ⟨g, i, none⟩) (t - i) (c - i)]).run Tryd.prog wr = .ok (.tuple #[]) (wr.setCells g i (List.replicate (t - i) (.slice none 0 0))) := fun ty =>
          Lib.run_clear_slice wr 29 22 ty (.slice none 0 0) Tryd.underlying29 (fun w => by kernel_rfl) rfl rfl g i (t - i) (c - i) (by omega) (fun j hj => by
            rw [World.ownsRow.cellAt Htop.out (i + j) (by omega), List.getElem?_eq_getElem (by rw [Hul.out]; omega)]
            rfl) (fun j hj => World.ownsRow.frozenAt Htop.out (i + j))
        obtain ⟨ys, hy1, hy2⟩ := ownsRow_setCells (List.replicate (t - i) (.slice none 0 0)) i Htop.out
        have HF := Lib.hid (show OwnZ (wr.setCells g i (List.replicate (t - i) (.slice none 0 0))) B (.slice (some ⟨g, 0, none⟩) i c) (keepZ del Z) from by
          refine ⟨?_, fun z hz => ?_, ?_⟩
          · rw [← Hfin.out, ← Hi.out, ← Hut.out, ← hy2]
            exact ownsRow_cut hy1 (by omega)
          · exact (Heach.out z (List.mem_filter.1 hz).1).setCells _ i Htop.out
          · exact Hap.out.filter _)
        have HbF := Lib.hid (below_setCellsT HBg.out (List.replicate (t - i) (.slice none 0 0)) i Hbr.out)
        have hm1 : (i : Int) ≤ t := by omega
        have hm2 : (i : Int) ≤ c := by omega
        have hne : ¬ c = i := by omega
        clear hfin hy1 hy2
        go_wp2
        go_ret
        exact ⟨_, rfl, HF.out, HbF.out⟩
end Go.Proofs.YtgdijjfipicodaaDoor

