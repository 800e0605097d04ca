/- Contracts of the program: the images of a matrix as an array, the symmetries that it has. Condition: a square table of at most six rows. -/
import Derived.Test.YtgdijjfipicodaaSmM
import Derived.Test.YtgdijjfipicodaaLeastC
import Derived.Test.YtgdijjfipicodaaWeq
import Derived.Test.YtgdijjfipicodaaTLaw
import Derived.Test.YtgdijjfipicodaaOwnT
import Derived.Test.YtgdijjfipicodaaLRes
namespace Go.Proofs.Ytgdijjfipicodaa
open Go.RowKit

/-- the first k of eight slices, nil behind them -/
def arF (vs : List Value) (k : Nat) : List Value := (List.range 8).map fun i => if i < k then vs.getD i undef else .slice none 0 0
theorem arF_len (vs : List Value) (k : Nat) : (arF vs k).length = 8 := by simp [arF]
theorem arF_at (vs : List Value) (k : Nat) {i : Nat} (h : i < 8) : (arF vs k)[i]? = some (if i < k then vs.getD i undef else .slice none 0 0) := by simp [arF, h]
theorem arF_set (vs : List Value) {k : Nat} (h : k < 8) : (arF vs k).set k (vs.getD k undef) = arF vs (k + 1) := by
  refine List.ext_getElem? fun i => ?_
  rw [List.getElem?_set]
  by_cases hi : i < 8
  · rw [arF_at vs k hi, arF_at vs (k + 1) hi, arF_len]
    by_cases e : k = i
    · subst e; simp [h]
    · rw [if_neg e]
      by_cases e2 : i < k
      · rw [if_pos e2, if_pos (by omega)]
      · rw [if_neg e2, if_neg (by omega)]
  · rw [List.getElem?_eq_none (by rw [arF_len]; omega), List.getElem?_eq_none (by rw [arF_len]; omega)]
    split <;> simp_all
/-- an array of eight slices as a variable -/
def arA (vs : List Value) (k : Nat) : Array Value := (arF vs k).toArray
def ArAt (w : World) (g : Nat) (cs : Array Value) : Prop := w.heap[g]? = some (.cells cs 61 (0, 0))
theorem ArAt.lt {w : World} {g : Nat} {a : Array Value} (h : ArAt w g a) : g < w.heap.size := lt_of_block h
theorem ArAt.below {w w' : World} {g : Nat} {a : Array Value} (h : ArAt w g a) (hb : Below w.heap.size w w') : ArAt w' g a := by
  unfold ArAt
  rw [hb.block g h.lt]
  exact h
theorem ArAt.cell {w : World} {g : Nat} {vs : List Value} {k i : Nat} (h : ArAt w g (arA vs k)) (hi : i < 8) : w.cell? ⟨g, i, none⟩ = some (if i < k then vs.getD i undef else .slice none 0 0) := by
  rw [cell_of_row w g i _ _ _ h]
  simp only [arA, List.getElem?_toArray]
  exact arF_at vs k hi
theorem ArAt.put {w : World} {g : Nat} {vs : List Value} {k : Nat} (h : ArAt w g (arA vs k)) (hk : k < 8) : ArAt (w.setCell ⟨g, k, none⟩ (vs.getD k undef)) g (arA vs (k + 1)) := by
  unfold ArAt
  rw [heap_setCell_same w g k _ _ _ h]
  have e : (arA vs k).setIfInBounds k (vs.getD k undef) = arA vs (k + 1) := by
    unfold arA
    rw [List.setIfInBounds_toArray, arF_set vs hk]
  rw [e]
theorem ArAt.only {S : Nat → Prop} {w w' : World} {g : Nat} {a : Array Value} (h : ArAt w g a) (ho : OnlyW S w w') (hS : ¬S g) : ArAt w' g a := by
  unfold ArAt
  rw [ho.block g hS]
  exact h
theorem Try.info_im : (Try.prog.info? 61).map (fun i => (i.zero, i.size)) = some (some (.agg (arA [] 0)), 8) := by kernel_rfl
theorem Try.size_im (vs : List Value) (k : Nat) : (Try.prog.info? 61).map (·.size) = some (arA vs k).size := by
  rw [show (arA vs k).size = 8 from by simp [arA, arF_len]]
  exact (zero_of_info Try.info_im).2
theorem Try.size_tab : (Try.prog.info? 22).map (·.size) = some 1 := by kernel_rfl
theorem arA_zero (vs : List Value) : arA vs 0 = arA [] 0 := rfl
theorem arA_same (vs us : List Value) (k l : Nat) : (arA vs k).size = (arA us l).size := by simp [arA, arF_len]
theorem arA_one {vs : List Value} {k : Nat} (h : ∀ i, i < 8 → ∃ a n c, vs.getD i undef = .slice a n c) : (arA vs k).all (·.oneCell') = true := by
  rw [Array.all_eq_true_iff_forall_mem]
  intro v hv
  simp only [arA, arF, List.mem_toArray, List.mem_map, List.mem_range] at hv
  obtain ⟨i, hi, rfl⟩ := hv
  split
  · obtain ⟨a, n, c, e⟩ := h i hi
    rw [e]
    rfl
  · rfl
theorem onlyW_setRow (w : World) (g : Nat) (cs : Array Value) : OnlyW (fun b => b = g) w (w.setRow g cs) :=
  ⟨rfl, rfl, rfl, by simp [World.setRow], fun k hk => Go.setRow_other w g k cs (fun e => hk e)⟩
section
variable {P : Program}
/-- a slice of an array of slices -/
theorem wpList_indexSl {ops : Array Oper} {rest : List Oper} {o : Oper} {a : Act} {w : World} {Q : Exit → Act → World → Prop} (hg : o.guard = none) (t : TypeId) (x y : Operand) (ho : o.op = .index t x y)
    (cs : Array Value) (hx : a.eval x = .agg cs) (k N : Nat) (hy : a.eval y = .int .i64 (k : Int)) (e e2 : TypeId) (hu : P.underlying t = some (.array N e)) (hk : k < N)
    (he : P.underlying e = some (.slice e2)) (hs : (P.info? e).map (·.size) = some 1) (v : Value) (hv : cs[k]? = some v)
    (h : wpList P ops Q rest (a.put o.dst v) w) : wpList P ops Q (o :: rest) a w := by
  refine wpList_plain hg fun K hK => ?_
  cases hq : P.info? e with
  | none => simp [hq] at hs
  | some ie =>
    have hie : ie.size = 1 := by simpa [hq] using hs
    have hrun : (Instr.index t (.agg cs) (.int .i64 (k : Int))).run P w = .ok v w := by
      simp [Instr.index, Sem.run_bind, run_underlying hu, asIntOf, hk, part, isAgg, run_underlying he, sizeOf, typeInfo, hq, hie, go_sem, hv]
    unfold Oper.wp execOp
    simp only [ho, hx, hy, Sem.run_bind, hrun, Result.andThen_ok, Sem.run_pure]
    exact hK _ _ h
end

set_option maxRecDepth 100000 in
set_option maxHeartbeats 1600000 in
theorem symClosure_any (ao a1 : Option Addr) (c c1 i P : Nat) (m : List (List Int)) (w : World) (hsq : square m) (hm : MatAt w ao m) (h1 : MatAt w a1 (im m i)) (hc : w.cell? ⟨P, 0, none⟩ = some (.slice ao m.length c)) :
    Calls Try.prog 80 #[.slice a1 m.length c1, .pointer (some ⟨P, 0, none⟩)] w fun e w' => e = .returned (.bool (im m i == m)) ∧ Q w w' := by
  have C := equalTables_any a1 ao c1 c (im m i) m w (by
    have hl := sq_im hsq i
    have hn := hsq.2.1
    exact ⟨by rw [hl.1]; omega, fun j hj => by rw [hl.1] at hj; rw [hl.2 j hj]; omega⟩) hsq.small h1 hm
  rw [(sq_im hsq i).1] at C
  obtain ⟨b, hb⟩ : ∃ b, b = (im m i == m) := ⟨_, rfl⟩
  obtain ⟨n, hn⟩ : ∃ n, n = m.length := ⟨_, rfl⟩
  rw [← hb] at C ⊢
  rw [← hn] at C hc ⊢
  have C := Lib.hid C
  clear hsq hm h1 hb hn
  go_enter Try.func80, Try.ntmps80
  go_wp2_with fail
  refine C.out.mono ?_
  rintro e w2 ⟨rfl, hq⟩
  have Hq := Lib.hid hq
  clear hq
  go_wp2
  go_ret
  exact ⟨rfl, Hq.out⟩

set_option maxRecDepth 100000 in
set_option maxHeartbeats 3200000 in
theorem imagesOf_any (ao : Option Addr) (c : Nat) (m : List (List Int)) (w : World) (hsq : square m) (hm : MatAt w ao m) :
    Calls Try.prog 53 #[.slice ao m.length c] w fun e w' => ∃ vs, e = .returned (.agg (arA vs 8)) ∧ (∀ i, i < 8 → OwnM w' w.heap.size (vs.getD i undef) (im m i)) ∧ Below w.heap.size w w' := by
  obtain ⟨n, hn⟩ : ∃ n, n = m.length := ⟨_, rfl⟩
  have HN := Lib.hid hn
  have hn6 : n ≤ 6 := by rw [hn]; exact hsq.2.1
  have Hsq := Lib.hid hsq
  have Hm := Lib.hid hm
  have CI := Lib.hid (fun w' (h : MatAt w' ao m) => images_any ao c m w' hsq h)
  rw [← hn] at CI ⊢
  clear hsq hm hn
  go_enter Try.func53, Try.ntmps53
  go_wp2_with (refine wpList_allocT rfl 61 rfl _ _ Try.info_im ?_)
  generalize hW : World.alloc (World.alloc w _) _ = w1
  obtain ⟨P, hP⟩ : ∃ P, P = w.heap.size := ⟨_, rfl⟩
  obtain ⟨R, hR⟩ : ∃ R, R = w.heap.size + 1 := ⟨_, rfl⟩
  have HA1 := Lib.hid (show ArAt w1 P (arA [] 0) from by rw [← hW, hP]; exact heap_alloc2_old w _ _)
  have HA2 := Lib.hid (show ArAt w1 R (arA [] 0) from by rw [← hW, hR]; exact heap_alloc2_new w _ _)
  have HB1 := Lib.hid (show Below w.heap.size w w1 from by rw [← hW]; exact ((Below.refl _ w).alloc (Nat.le_refl _) _).alloc (by simp) _)
  have HZ := Lib.hid (show w.heap.size ≤ P ∧ P < R ∧ R < w1.heap.size from by rw [← hW, hP, hR]; simp)
  rw [← hR, ← hP]
  clear hW hP hR
  refine (CI.out w1 (Hm.out.below HB1.out)).mono ?_
  rintro e w2 ⟨g, cap, vs, rfl, hcap, hG, hb2⟩
  have HG := Lib.hid hG
  have HB2 := Lib.hid (HB1.out.trans (hb2.mono HB1.out.size))
  have HA1' := Lib.hid (HA1.out.below hb2)
  have HA2' := Lib.hid (show ArAt w2 R (arA vs 0) from HA2.out.below hb2)
  have hgR := Lib.hid (show w1.heap.size ≤ g from by
    obtain ⟨g', cap', e', _, _, hh⟩ := hG.isAt (by omega)
    simp only [Value.slice.injEq, Option.some.injEq, Addr.mk.injEq] at e'
    rw [e'.1.1]
    exact hh)
  clear hG hb2 HA1 HA2 CI
  go_wp2
  go_loopw [9] (fun x wr => ∃ k : Nat, k ≤ 8 ∧ x = .int .i64 k ∧ ArAt wr R (arA vs k) ∧ OnlyW (fun b => b = R) w2 wr) (fun x _ => 8 - (intOf x).toNat)
  case atStart => exact ⟨0, Nat.zero_le _, rfl, HA2'.out, OnlyW.refl _ _⟩
  case round =>
    obtain ⟨k, hk, rfl, ha, ho⟩ := hrel
    have Ha := Lib.hid ha
    have Ho := Lib.hid ho
    clear ha ho
    by_cases hlt : k < 8
    · have hcell : wr.cell? ⟨g, k, none⟩ = some (vs.getD k undef) := by
        rw [show wr.cell? ⟨g, k, none⟩ = w2.cell? ⟨g, k, none⟩ from by
          have hb := Ho.out.block g (by have := hgR.out; have := HZ.out; omega)
          simp only [World.cell?, hb]]
        exact HG.out.cellAt k hlt
      have hd := Ha.out.cell hlt
      rw [if_neg (by omega)] at hd
      have hf := frozen_of_row wr R k _ _ Ha.out
      have Hput := Lib.hid (Ha.out.put hlt)
      have Hput2 := Lib.hid (Ho.out.setCell (p := ⟨R, k, none⟩) rfl (vs.getD k undef))
      obtain ⟨ua, uc, hu, _⟩ := (HG.out.each k hlt).read
      obtain ⟨ul, hul⟩ : ∃ ul, ul = (im m k).length := ⟨_, rfl⟩
      rw [← hul] at hu
      rw [hu] at hcell Hput Hput2
      clear hu hul
      go_wp2
      go_roundw
      case rel => exact ⟨k + 1, by omega, by go_num, Hput.out, Hput2.out⟩
      case measure => simp [intOf]; omega
    · obtain rfl : k = 8 := by omega
      have Hr := Lib.hid (HA1'.out.only Ho.out (by have := HZ.out; omega))
      have Hown := Lib.hid (show ∀ i, i < 8 → OwnM wr w1.heap.size (vs.getD i undef) (im m i) from fun i hi => by
        obtain ⟨us, h⟩ := HG.out.each i hi
        exact ⟨us, h.only Ho.out (fun b hb => by have := HZ.out; omega)⟩)
      have Hsl := Lib.hid (show ∀ i, i < 8 → ∃ a n c, vs.getD i undef = .slice a n c from fun i hi => by
        obtain ⟨a, c, e, _⟩ := (HG.out.each i hi).read
        exact ⟨a, _, c, e⟩)
      have HBr := Lib.hid (HB2.out.trans (Ho.out.below (fun b hb => by have := HZ.out; omega)))
      clear HG Ho HA1' HA2'
      go_wp2_with (first | (refine wpList_loadG rfl 61 _ rfl R rfl _ _ Ha.out Try.underlying61 rfl (Try.size_im _ _) ?_) | (refine wpList_storeG rfl 61 _ _ rfl _ (arA vs 8) _ rfl rfl Hr.out (Try.size_im _ _) (arA_same _ _ _ _) (arA_one Hsl.out) ?_))
      have hout : (wr.setRow P (arA vs 8)).heap[P]? = some (.cells (arA vs 8) 61 (0, 0)) := setRow_heap wr P _ _ _ _ Hr.out
      refine bodyPost_ret (v := .agg (arA vs 8)) ?_ rfl ⟨vs, rfl, fun i hi => ?_, below_setRowT HBr.out HZ.out.1 (arA vs 8)⟩
      · exact results_cell_one rfl _ _ P _ rfl (run_loadVar_row _ _ _ _ _ _ _ hout Try.underlying61 rfl (Try.size_im vs 8))
      · obtain ⟨us, h⟩ := Hown.out i hi
        have h2 := h.only (onlyW_setRow wr P (arA vs 8)) (fun b hb => by have := HZ.out; omega)
        exact OwnM.base ⟨us, h2⟩ (by have := HZ.out; omega)
theorem arA_get (vs : List Value) {k : Nat} (h : k < 8) : (arA vs 8)[k]? = some (vs.getD k undef) := by
  simp only [arA, List.getElem?_toArray]
  rw [arF_at vs 8 h, if_pos h]
theorem smLk_yesI {m : List (List Int)} {k : Nat} (h : im m k = m) : smLk m (k + 1) = smLk m k ++ [(k : Int)] := by simp [smLk, h]
theorem smLk_noI {m : List (List Int)} {k : Nat} (h : ¬im m k = m) : smLk m (k + 1) = smLk m k := by simp [smLk, h]

set_option maxRecDepth 100000 in
set_option maxHeartbeats 3200000 in
theorem where_any (ao : Option Addr) (c P : Nat) (m : List (List Int)) (vs : List Value) (w : World) (hsq : square m) (hm : MatAt w ao m) (hc : w.cell? ⟨P, 0, none⟩ = some (.slice ao m.length c)) (hv : ∀ i, i < 8 → ∃ a d, vs.getD i undef = .slice a m.length d ∧ MatAt w a (im m i)) :
    Calls Try.prog 79 #[.agg (arA vs 8), .func (.func 80) #[] #[.pointer (some ⟨P, 0, none⟩)]] w fun e w' => ∃ v, e = .returned v ∧ OwnI w' w.heap.size v (smLk m 8) ∧ Below w.heap.size w w' := by
  have CC := Lib.hid (fun i a1 c1 w' (h0 : MatAt w' ao m) (h1 : MatAt w' a1 (im m i)) (h2 : w'.cell? ⟨P, 0, none⟩ = some (.slice ao m.length c)) => symClosure_any ao a1 c c1 i P m w' hsq h0 h1 h2)
  obtain ⟨n, hn⟩ : ∃ n, n = m.length := ⟨_, rfl⟩
  rw [← hn] at CC hc hv
  have hn6 : n ≤ 6 := by rw [hn]; exact hsq.2.1
  have Hm := Lib.hid hm
  have Hc := Lib.hid hc
  have Hv := Lib.hid hv
  have HA := Lib.hid (show ArAt (w.alloc (.cells (arA vs 8) 61)) w.heap.size (arA vs 8) from heap_alloc_new w _)
  have HB := Lib.hid (show Below w.heap.size w (w.alloc (.cells (arA vs 8) 61)) from (Below.refl _ w).alloc (Nat.le_refl _) _)
  clear hm hc hv hsq hn
  go_enter Try.func79, Try.ntmps79
  go_wp2_with (first | (refine wpList_boxT rfl 61 _ rfl _ rfl ?_) | (refine wpList_loadG rfl 61 _ rfl w.heap.size rfl _ _ HA.out Try.underlying61 rfl (Try.size_im _ _) ?_))
  go_loopw [5, 9] (fun out x wr => ∃ k : Nat, k ≤ 8 ∧ x = .int .i64 k ∧ OwnI wr w.heap.size out (smLk m k) ∧ Below w.heap.size w wr) (fun _ x _ => 8 - (intOf x).toNat)
  case atStart => exact ⟨0, Nat.zero_le _, rfl, OwnI.nil _ _, HB.out⟩
  case round =>
    obtain ⟨k, hk, rfl, hown, hbr⟩ := hrel
    have Hown := Lib.hid hown
    have Hbr := Lib.hid hbr
    clear hown hbr HA HB
    by_cases hlt : k < 8
    · obtain ⟨a1, d1, hv1, hm1⟩ := Hv.out k hlt
      have hget := arA_get vs hlt
      rw [hv1] at hget
      have C1 := CC.out k a1 d1 wr (Hm.out.below Hbr.out) (hm1.below Hbr.out) (cell_below Hc.out Hbr.out)
      have Hget := Lib.hid hget
      have hkr : ((k : Nat) : Int) < 8 := by omega
      clear hm1 hv1 hget
      by_cases he : im m k = m
      · have hb : (im m k == m) = true := by simpa using he
        have HS := Lib.hid (smLk_yesI he)
        rw [hb] at C1
        have C1 := Lib.hid C1
        clear hb he
        go_wp2_with (refine wpList_indexSl rfl 61 _ _ rfl _ rfl k 8 rfl _ _ Try.underlying61 hlt Try.underlying22 Try.size_tab _ Hget.out ?_)
        refine C1.out.mono ?_
        rintro e w2 ⟨rfl, hq⟩
        have Ho2 := Lib.hid (Hown.out.below (hq.below _))
        have HB2 := Lib.hid (Hbr.out.trans ((hq.below _).mono Hbr.out.size))
        have hln := Lib.hid (show (smLk m k).length < 1048576 by have := smLk_len m k; omega)
        clear hq C1 Hown Hbr
        go_wp2_with (at_builtin; refine wpList_numT rfl _ _ rfl w.heap.size _ (smLk m k) (k : Int) Ho2.out rfl rfl HB2.out.size hln.out ?_)
        intro v3 w3 hv3 hb3
        rw [← HS.out] at hv3
        have HV3 := Lib.hid hv3
        have HB3 := Lib.hid (HB2.out.trans hb3)
        clear hv3 hb3 Ho2 HB2
        go_wp2
        go_roundw
        case rel => exact ⟨k + 1, by omega, by go_num, HV3.out, HB3.out⟩
        case measure => simp [intOf]; omega
      · have hb : (im m k == m) = false := by simpa using he
        have HS := Lib.hid (smLk_noI he)
        rw [hb] at C1
        have C1 := Lib.hid C1
        clear hb he
        go_wp2_with (refine wpList_indexSl rfl 61 _ _ rfl _ rfl k 8 rfl _ _ Try.underlying61 hlt Try.underlying22 Try.size_tab _ Hget.out ?_)
        refine C1.out.mono ?_
        rintro e w2 ⟨rfl, hq⟩
        have Ho2 := Lib.hid (Hown.out.below (hq.below _))
        have HB2 := Lib.hid (Hbr.out.trans ((hq.below _).mono Hbr.out.size))
        clear hq C1 Hown Hbr
        go_wp2
        go_roundw
        case rel => exact ⟨k + 1, by omega, by go_num, by rw [HS.out]; exact Ho2.out, HB2.out⟩
        case measure => simp [intOf]; omega
    · obtain rfl : k = 8 := by omega
      go_wp2
      go_ret
      exact ⟨_, rfl, Hown.out, Hbr.out⟩

set_option maxRecDepth 100000 in
set_option maxHeartbeats 1600000 in
theorem symmetriesOf_any (ao : Option Addr) (c : Nat) (m : List (List Int)) (w : World) (hsq : square m) (hm : MatAt w ao m) :
    Calls Try.prog 40 #[.slice ao m.length c] w fun e w' => ∃ v, e = .returned v ∧ OwnI w' w.heap.size v (smLk m 8) ∧ Below w.heap.size w w' := by
  have CI := fun w' (h : MatAt w' ao m) => imagesOf_any ao c m w' hsq h
  have CW := Lib.hid (fun P vs w' (h0 : MatAt w' ao m) (h1 : w'.cell? ⟨P, 0, none⟩ = some (.slice ao m.length c)) (h2 : ∀ i, i < 8 → ∃ a d, vs.getD i undef = .slice a m.length d ∧ MatAt w' a (im m i)) => where_any ao c P m vs w' hsq h0 h1 h2)
  have HL := Lib.hid (fun i => (sq_im hsq i).1)
  obtain ⟨n, hn⟩ : ∃ n, n = m.length := ⟨_, rfl⟩
  rw [← hn] at CI CW HL ⊢
  have CI := Lib.hid CI
  have Hm := Lib.hid hm
  obtain ⟨w1, hw1⟩ : ∃ w1, w1 = w.alloc (.cells #[.slice ao n c] 22) := ⟨_, rfl⟩
  have Hc1 := Lib.hid (show w1.cell? ⟨w.heap.size, 0, none⟩ = some (.slice ao n c) from by rw [hw1, cell_of_row _ _ 0 _ _ _ (heap_alloc_new w _)]; rfl)
  have HB1 := Lib.hid (show Below w.heap.size w w1 from by rw [hw1]; exact (Below.refl _ w).alloc (Nat.le_refl _) _)
  have Hw1 := Lib.hid hw1
  clear hsq hm hn hw1
  go_enter Try.func40, Try.ntmps40
  go_wp2_with fail
  rw [← Hw1.out]
  refine (CI.out w1 (Hm.out.below HB1.out)).mono ?_
  rintro e w2 ⟨vs, rfl, hv, hb2⟩
  have HB2 := Lib.hid (HB1.out.trans (hb2.mono HB1.out.size))
  have CW2 := Lib.hid (CW.out w.heap.size vs w2 (Hm.out.below HB2.out) (cell_below Hc1.out hb2) (fun i hi => by
    obtain ⟨a, d, e, _, _, hmm⟩ := (hv i hi).read
    exact ⟨a, d, by rw [e, HL.out i], hmm⟩))
  clear hv hb2 CI CW
  go_wp2_with fail
  refine CW2.out.mono ?_
  rintro e w3 ⟨v, rfl, ho, hb3⟩
  have Ho := Lib.hid (ho.base HB2.out.size)
  have HB3 := Lib.hid (HB2.out.trans (hb3.mono HB2.out.size))
  clear ho hb3 CW2
  go_wp2
  go_ret
  exact ⟨_, rfl, Ho.out, HB3.out⟩
end Go.Proofs.Ytgdijjfipicodaa
