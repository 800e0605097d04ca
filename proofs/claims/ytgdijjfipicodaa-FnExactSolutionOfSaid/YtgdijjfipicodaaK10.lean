/- Parts of proofs: contracts and plain facts. Conditions: as each says. -/
import Derived.Test.YtgdijjfipicodaaK09
import Derived.Deep.RegionWith
import Derived.StillTailTactics
namespace Go.Proofs.Ytgdijjfipicodaa
open Go.RowKit

/-- a ratio of a row, a row of a table -/
def gq (row : List (Nat × Nat)) (j : Nat) : Nat × Nat := row.getD j (0, 0)
def gqr (m : List (List (Nat × Nat))) (i : Nat) : List (Nat × Nat) := m.getD i []
def tabQ (N : Nat) (f : Nat → Nat → Nat × Nat) : List (List (Nat × Nat)) := (List.range N).map fun r => (List.range N).map fun c => f r c
def okQ (a : Nat × Nat) : Bool := decide (a.1 ≤ 1000000) && decide (1 ≤ a.2) && decide (a.2 ≤ 1000000)
/-- what comes to the last rank, from the first r ranks -/
def leaQ (m : List (List (Nat × Nat))) (last : Nat) : Nat → Nat × Nat
  | 0 => (0, 1)
  | r + 1 => pl (leaQ m last r) (gq (gqr m r) last)
def partQ (m : List (List (Nat × Nat))) (last c : Nat) : Nat × Nat := ov (gq (gqr m last) c) (leaQ m last last)
def newQ (m : List (List (Nat × Nat))) (last r c : Nat) : Nat × Nat := pl (gq (gqr m r) c) (tm (gq (gqr m r) last) (partQ m last c))
/-- the table up to the column a, and in it up to the row b -/
def tkF (m : List (List (Nat × Nat))) (last a b r c : Nat) : Nat × Nat :=
  if r < last ∧ c < last ∧ (c < a ∨ (c = a ∧ r < b)) then newQ m last r c
  else if r = last ∧ c < last ∧ c < a then partQ m last c
  else gq (gqr m r) c
def tkQ (N : Nat) (m : List (List (Nat × Nat))) (last : Nat) : List (List (Nat × Nat)) := tabQ N (tkF m last last 0)
/-- all numbers stay small -/
def okT (N : Nat) (m : List (List (Nat × Nat))) : Bool := (List.range N).all fun r => (List.range N).all fun c => okQ (gq (gqr m r) c)
def okL (m : List (List (Nat × Nat))) (last : Nat) : Bool := ((List.range (last + 1)).all fun r => okQ (leaQ m last r)) && decide (1 ≤ (leaQ m last last).1)
/-- the last k ranks taken out, with the look -/
def elimQ (N : Nat) (m : List (List (Nat × Nat))) : Nat → List (List (Nat × Nat)) × Bool
  | 0 => (m, true)
  | k + 1 => (tkQ N (elimQ N m k).1 (N - 1 - k), (elimQ N m k).2 && okT N (elimQ N m k).1 && okL (elimQ N m k).1 (N - 1 - k))
/-- the parts that a rank has of those before it -/
def shQ (parts before : List (Nat × Nat)) : Nat → Nat × Nat
  | 0 => (0, 1)
  | k + 1 => pl (shQ parts before k) (tm (gq parts k) (gq before k))
def vecQ (m : List (List (Nat × Nat))) : Nat → List (Nat × Nat) × Bool
  | 0 => ([(1, 1)], true)
  | k + 1 => ((vecQ m k).1 ++ [shQ (gqr m (k + 1)) (vecQ m k).1 (k + 1)], (vecQ m k).2 && ((List.range (k + 2)).all fun j => okQ (shQ (gqr m (k + 1)) (vecQ m k).1 j)))
/-- the least common multiple of the denominators, and the whole numbers -/
def mulQ (v : List (Nat × Nat)) : Nat → Nat
  | 0 => 1
  | k + 1 => mulQ v k * ((gq v k).2 / Nat.gcd (mulQ v k) (gq v k).2)
def wholeQ (v : List (Nat × Nat)) : List Int := v.map fun a => ((mulQ v v.length / a.2 * a.1 : Nat) : Int)
def sysQ (n : Nat) : List (List (Nat × Nat)) := tabQ (catN n) fun r c => ((sumN (patP 6 n) (2 * n) r c).toNat, 1)
set_option maxRecDepth 100000 in
theorem solQ_all : ∀ n, n < 5 → n = 0 ∨ ((elimQ (catN n) (sysQ n) (catN n - 1)).2 && okT (catN n) (elimQ (catN n) (sysQ n) (catN n - 1)).1
  && (vecQ (elimQ (catN n) (sysQ n) (catN n - 1)).1 (catN n - 1)).2
  && ((List.range (catN n + 1)).all fun k => decide (mulQ (vecQ (elimQ (catN n) (sysQ n) (catN n - 1)).1 (catN n - 1)).1 k ≤ 1000000))
  && wholeQ (vecQ (elimQ (catN n) (sysQ n) (catN n - 1)).1 (catN n - 1)).1 == sol n) = true := by decide +kernel
end Go.Proofs.Ytgdijjfipicodaa

namespace Go.Proofs.Ytgdijjfipicodaa
open Go.RowKit

theorem frozen_below {w w' : World} {a : Addr} (h : w.frozen? a = false) (hl : a.block < w.heap.size) (hb : Below w.heap.size w w') : w'.frozen? a = false := by
  unfold World.frozen? at h ⊢
  rw [hb.block a.block hl]
  exact h

/-- a table of ratios: N rows of N, the first k of them made and told by f -/
structure Tq (w : World) (B g N k : Nat) (rw' : Nat → Nat) (f : Nat → Nat → Nat × Nat) : Prop where
  top : ∀ i, i < k → w.cell? ⟨g, i, none⟩ = some (.slice (some ⟨rw' i, 0, none⟩) N N)
  rest : ∀ i, i < N → ∃ u, w.cell? ⟨g, i, none⟩ = some u
  topf : ∀ i, w.frozen? ⟨g, i, none⟩ = false
  num : ∀ i j, i < k → j < N → w.cell? ⟨rw' i, j * 2, none⟩ = some (.int .i64 ((f i j).1 : Int))
  den : ∀ i j, i < k → j < N → w.cell? ⟨rw' i, j * 2 + 1, none⟩ = some (.int .i64 ((f i j).2 : Int))
  fr : ∀ i q, i < k → w.frozen? ⟨rw' i, q, none⟩ = false
  inj : ∀ i j, i < k → j < k → i ≠ j → rw' i ≠ rw' j
  base : ∀ i, i < k → B ≤ rw' i ∧ rw' i ≠ g ∧ rw' i < w.heap.size
  lt : B ≤ g ∧ g < w.heap.size
theorem Tq.below {w w' : World} {B g N k : Nat} {rw' : Nat → Nat} {f : Nat → Nat → Nat × Nat} (h : Tq w B g N k rw' f) (hb : Below w.heap.size w w') : Tq w' B g N k rw' f :=
  ⟨fun i hi => cell_below (h.top i hi) hb, fun i hi => by obtain ⟨u, hu⟩ := h.rest i hi; exact ⟨u, cell_below hu hb⟩, fun i => frozen_below (h.topf i) h.lt.2 hb,
   fun i j hi hj => cell_below (h.num i j hi hj) hb, fun i j hi hj => cell_below (h.den i j hi hj) hb, fun i q hi => frozen_below (h.fr i q hi) (h.base i hi).2.2 hb, h.inj,
   fun i hi => ⟨(h.base i hi).1, (h.base i hi).2.1, Nat.lt_of_lt_of_le (h.base i hi).2.2 hb.size⟩, ⟨h.lt.1, Nat.lt_of_lt_of_le h.lt.2 hb.size⟩⟩
theorem size_set2 (w : World) (a b : Addr) (u v : Value) : ((w.setCell a u).setCell b v).heap.size = w.heap.size := by simp [World.setCell]
/-- a ratio is stored -/
theorem Tq.store {w : World} {B g N k : Nat} {rw' : Nat → Nat} {f : Nat → Nat → Nat × Nat} (h : Tq w B g N k rw' f) {i j : Nat} (hi : i < k) (hj : j < N) (x y : Nat) :
    Tq ((w.setCell ⟨rw' i, j * 2, none⟩ (.int .i64 (x : Int))).setCell ⟨rw' i, j * 2 + 1, none⟩ (.int .i64 (y : Int))) B g N k rw' (fun a b => if a = i ∧ b = j then (x, y) else f a b) := by
  have hg := (h.base i hi).2.1
  have oth : ∀ (b o : Nat) (v : Value), w.cell? ⟨b, o, none⟩ = some v → (b ≠ rw' i ∨ (o ≠ j * 2 ∧ o ≠ j * 2 + 1)) → ((w.setCell ⟨rw' i, j * 2, none⟩ (.int .i64 (x : Int))).setCell ⟨rw' i, j * 2 + 1, none⟩ (.int .i64 (y : Int))).cell? ⟨b, o, none⟩ = some v := fun b o v hv hne => by
    rw [World.cell?_setCell_other _ _ _ _ (by intro e; simp only [Addr.mk.injEq, and_true] at e; omega), World.cell?_setCell_other _ _ _ _ (by intro e; simp only [Addr.mk.injEq, and_true] at e; omega)]
    exact hv
  have fro : ∀ a, ((w.setCell ⟨rw' i, j * 2, none⟩ (.int .i64 (x : Int))).setCell ⟨rw' i, j * 2 + 1, none⟩ (.int .i64 (y : Int))).frozen? a = w.frozen? a := fun a => by rw [World.frozen?_setCell, World.frozen?_setCell]
  refine ⟨fun a ha => oth _ _ _ (h.top a ha) (.inl (fun e => hg e.symm)), fun a ha => ?_, fun a => by rw [fro]; exact h.topf a, fun a b ha hb => ?_, fun a b ha hb => ?_, fun a q ha => by rw [fro]; exact h.fr a q ha, h.inj, fun a ha => ?_, ?_⟩
  · obtain ⟨u, hu⟩ := h.rest a ha
    exact ⟨u, oth _ _ _ hu (.inl (fun e => hg e.symm))⟩
  · by_cases e : a = i ∧ b = j
    · obtain ⟨rfl, rfl⟩ := e
      rw [if_pos ⟨rfl, rfl⟩, World.cell?_setCell_other _ _ _ _ (by intro e; simp only [Addr.mk.injEq, and_true] at e; omega)]
      exact World.cell?_setCell_same _ _ _ (h.num a b ha hb)
    · rw [if_neg e]
      refine oth _ _ _ (h.num a b ha hb) ?_
      by_cases e2 : a = i
      · right; have : b ≠ j := fun e3 => e ⟨e2, e3⟩; omega
      · left; exact h.inj a i ha hi e2
  · by_cases e : a = i ∧ b = j
    · obtain ⟨rfl, rfl⟩ := e
      rw [if_pos ⟨rfl, rfl⟩]
      exact World.cell?_setCell_same _ _ _ (by rw [World.cell?_setCell_other _ _ _ _ (by intro e; simp only [Addr.mk.injEq, and_true] at e; omega)]; exact h.den a b ha hb)
    · rw [if_neg e]
      refine oth _ _ _ (h.den a b ha hb) ?_
      by_cases e2 : a = i
      · right; have : b ≠ j := fun e3 => e ⟨e2, e3⟩; omega
      · left; exact h.inj a i ha hi e2
  · obtain ⟨h1, h2, h3⟩ := h.base a ha
    exact ⟨h1, h2, by rw [size_set2]; exact h3⟩
  · exact ⟨h.lt.1, by rw [size_set2]; exact h.lt.2⟩
theorem Tq.congr {w : World} {B g N k : Nat} {rw' : Nat → Nat} {f f' : Nat → Nat → Nat × Nat} (h : Tq w B g N k rw' f) (e : ∀ i j, i < k → j < N → f' i j = f i j) : Tq w B g N k rw' f' :=
  ⟨h.top, h.rest, h.topf, fun i j hi hj => by rw [e i j hi hj]; exact h.num i j hi hj, fun i j hi hj => by rw [e i j hi hj]; exact h.den i j hi hj, h.fr, h.inj, h.base, h.lt⟩
theorem Tq.drew {w : World} {B g N k : Nat} {rw' : Nat → Nat} {f : Nat → Nat → Nat × Nat} (h : Tq w B g N k rw' f) : Tq w.drew B g N k rw' f :=
  ⟨h.top, h.rest, h.topf, h.num, h.den, h.fr, h.inj, h.base, h.lt⟩

theorem Try.infob_rt : (Try.prog.info? 52).map (fun i => (i.zero, i.size, i.bytes)) = some (some (.agg (rtA (0, 0))), 2, 16) := by kernel_rfl
theorem Try.info_rts : (Try.prog.info? 54).map (fun i => (i.zero, i.size, i.bytes)) = some (some (.slice none 0 0), 1, 24) := by kernel_rfl

set_option maxRecDepth 100000 in
set_option maxHeartbeats 800000 in
theorem fixedBy1_any (v : Value) (l : List (List Int)) (k r c h : Nat) (w : World) (hl : l.length ≤ 14) (hk8 : k ≤ 8) (hr : r < l.length) (hc : c < l.length) (ht : TotAt w v l k) (hcell : w.cell? ⟨h, 0, none⟩ = some (.iface 78 v)) :
    Calls Try.prog 100 #[.int .i64 (r : Int), .int .i64 (c : Int), .pointer (some ⟨h, 0, none⟩)] w fun e w' => e = .returned (.agg (rtA ((sumN l k r c).toNat, 1))) ∧ Below w.heap.size w w' := by
  have CA := Lib.hid (fun w' (hb : Below w.heap.size w w') => ttAt_any v l k r c w' hl hk8 hr hc (ht.below hb))
  have hsn := sumN_in l k r c
  have Hcell := Lib.hid hcell
  obtain ⟨g, cp, rfl, _⟩ := ht
  have hmt := fun w' => method_tt_at (some ⟨g, 0, none⟩) k cp w'
  have hna := fun w' => ahead_tt_at (some ⟨g, 0, none⟩) k cp w'
  obtain ⟨x, hx⟩ : ∃ x : Nat, sumN l k r c = (x : Int) := ⟨(sumN l k r c).toNat, by omega⟩
  rw [hx] at CA
  have HX := Lib.hid (show ((sumN l k r c).toNat, 1) = (x, 1) by rw [hx]; rfl)
  rw [HX.out]
  clear hsn hcell hx
  go_enter Try.func100, Try.ntmps100
  go_upto_region 1 with (refine wpList_allocT rfl 52 rfl _ _ Try.info_rt ?_)
  generalize hW : World.alloc w _ = w1
  have HR := Lib.hid (show RtAt w1 w.heap.size (0, 0) by rw [← hW]; exact RtAt.new w (0, 0))
  have hb1 : Below w.heap.size w w1 := by rw [← hW]; exact (Below.refl _ w).alloc (Nat.le_refl _) _
  have HB := Lib.hid hb1
  have hc1 := cell_below Hcell.out hb1
  clear hW hb1
  go_wp2_with fail
  refine (CA.out w1 HB.out).mono ?_
  rintro e w2 ⟨rfl, hb⟩
  have HR2 := Lib.hid (HR.out.below hb)
  have HB2 := Lib.hid (HB.out.trans (hb.mono HB.out.size))
  clear hb HR CA hc1
  go_wp2_with fail
  refine (whole_any x w2).mono ?_
  rintro e w3 ⟨rfl, hb⟩
  have HR3 := Lib.hid (HR2.out.below hb)
  have HB3 := Lib.hid (HB2.out.trans (hb.mono HB2.out.size))
  clear hb HR2
  go_wp2_with (refine wpList_storeG rfl 52 _ _ rfl _ (rtA (x, 1)) _ rfl rfl HR3.out (Try.size_rt _) (rt_same _ _) (rt_one _) ?_)
  have HR4 := Lib.hid (HR3.out.setRow (x, 1))
  have HB4 := Lib.hid (below_setRowT HB3.out (Nat.le_refl _) (rtA (x, 1)))
  refine bodyPost_ret (v := .agg (rtA (x, 1))) ?_ rfl ⟨rfl, HB4.out⟩
  exact results_cell_one rfl _ _ w.heap.size _ rfl (Try.load_rt HR4.out)
end Go.Proofs.Ytgdijjfipicodaa

namespace Go.Proofs.Ytgdijjfipicodaa
open Go.RowKit

/-- a row of ratios in a block, the first j of them told by f -/
structure RowQ (w : World) (b N j : Nat) (f : Nat → Nat × Nat) : Prop where
  ex : ∀ q, q < N * 2 → ∃ u, w.cell? ⟨b, q, none⟩ = some u
  fr : ∀ q, w.frozen? ⟨b, q, none⟩ = false
  num : ∀ i, i < j → w.cell? ⟨b, i * 2, none⟩ = some (.int .i64 ((f i).1 : Int))
  den : ∀ i, i < j → w.cell? ⟨b, i * 2 + 1, none⟩ = some (.int .i64 ((f i).2 : Int))
  lt : b < w.heap.size
theorem RowQ.below {w w' : World} {b N j : Nat} {f : Nat → Nat × Nat} (h : RowQ w b N j f) (hb : Below w.heap.size w w') : RowQ w' b N j f :=
  ⟨fun q hq => by obtain ⟨u, hu⟩ := h.ex q hq; exact ⟨u, cell_below hu hb⟩, fun q => frozen_below (h.fr q) h.lt hb, fun i hi => cell_below (h.num i hi) hb, fun i hi => cell_below (h.den i hi) hb, Nat.lt_of_lt_of_le h.lt hb.size⟩
theorem RowQ.other {w : World} {b N j : Nat} {f : Nat → Nat × Nat} (h : RowQ w b N j f) {a : Addr} (ha : a.block ≠ b) (u : Value) : RowQ (w.setCell a u) b N j f := by
  have oth : ∀ (o : Nat) (v : Value), w.cell? ⟨b, o, none⟩ = some v → (w.setCell a u).cell? ⟨b, o, none⟩ = some v := fun o v hv => by
    rw [World.cell?_setCell_other _ _ _ _ (by intro e; rw [e] at ha; exact ha rfl)]
    exact hv
  exact ⟨fun q hq => by obtain ⟨x, hx⟩ := h.ex q hq; exact ⟨x, oth _ _ hx⟩, fun q => by rw [World.frozen?_setCell]; exact h.fr q, fun i hi => oth _ _ (h.num i hi), fun i hi => oth _ _ (h.den i hi), by simp [World.setCell]; exact h.lt⟩
theorem RowQ.store {w : World} {b N j : Nat} {f : Nat → Nat × Nat} (h : RowQ w b N j f) (hj : j < N) (x y : Nat) (hx : f j = (x, y)) :
    RowQ ((w.setCell ⟨b, j * 2, none⟩ (.int .i64 (x : Int))).setCell ⟨b, j * 2 + 1, none⟩ (.int .i64 (y : Int))) b N (j + 1) f := by
  obtain ⟨u1, h1⟩ := h.ex (j * 2) (by omega)
  obtain ⟨u2, h2⟩ := h.ex (j * 2 + 1) (by omega)
  have c1 : ((w.setCell ⟨b, j * 2, none⟩ (.int .i64 (x : Int))).setCell ⟨b, j * 2 + 1, none⟩ (.int .i64 (y : Int))).cell? ⟨b, j * 2, none⟩ = some (.int .i64 (x : Int)) := by
    rw [World.cell?_setCell_other _ _ _ _ (by intro e; simp only [Addr.mk.injEq, and_true] at e; omega)]
    exact World.cell?_setCell_same _ _ _ h1
  have c2 : ((w.setCell ⟨b, j * 2, none⟩ (.int .i64 (x : Int))).setCell ⟨b, j * 2 + 1, none⟩ (.int .i64 (y : Int))).cell? ⟨b, j * 2 + 1, none⟩ = some (.int .i64 (y : Int)) :=
    World.cell?_setCell_same _ _ _ (by rw [World.cell?_setCell_other _ _ _ _ (by intro e; simp only [Addr.mk.injEq, and_true] at e; omega)]; exact h2)
  have oth : ∀ (o : Nat) (v : Value), w.cell? ⟨b, o, none⟩ = some v → o ≠ j * 2 → o ≠ j * 2 + 1 → ((w.setCell ⟨b, j * 2, none⟩ (.int .i64 (x : Int))).setCell ⟨b, j * 2 + 1, none⟩ (.int .i64 (y : Int))).cell? ⟨b, o, none⟩ = some v := fun o v hv e1 e2 => by
    rw [World.cell?_setCell_other _ _ _ _ (by intro e; simp only [Addr.mk.injEq, and_true] at e; omega), World.cell?_setCell_other _ _ _ _ (by intro e; simp only [Addr.mk.injEq, and_true] at e; omega)]
    exact hv
  refine ⟨fun q hq => ?_, fun q => by rw [World.frozen?_setCell, World.frozen?_setCell]; exact h.fr q, fun i hi => ?_, fun i hi => ?_, by rw [size_set2]; exact h.lt⟩
  · by_cases e1 : q = j * 2
    · rw [e1]; exact ⟨_, c1⟩
    · by_cases e2 : q = j * 2 + 1
      · rw [e2]; exact ⟨_, c2⟩
      · obtain ⟨u, hu⟩ := h.ex q hq
        exact ⟨u, oth q u hu e1 e2⟩
  · by_cases e : i = j
    · subst e; rw [hx]; exact c1
    · exact oth _ _ (h.num i (by omega)) (by omega) (by omega)
  · by_cases e : i = j
    · subst e; rw [hx]; exact c2
    · exact oth _ _ (h.den i (by omega)) (by omega) (by omega)
theorem RowQ.drew {w : World} {b N j : Nat} {f : Nat → Nat × Nat} (h : RowQ w b N j f) : RowQ w.drew b N j f := ⟨h.ex, h.fr, h.num, h.den, h.lt⟩
/-- stores into another block, one that is in no row of the table and not its head -/
theorem Tq.other {w : World} {B g N k : Nat} {rw' : Nat → Nat} {f : Nat → Nat → Nat × Nat} (h : Tq w B g N k rw' f) {a : Addr} (ha : a.block ≠ g) (hr : ∀ i, i < k → a.block ≠ rw' i) (u : Value) : Tq (w.setCell a u) B g N k rw' f := by
  have oth : ∀ (b o : Nat) (v : Value), w.cell? ⟨b, o, none⟩ = some v → a.block ≠ b → (w.setCell a u).cell? ⟨b, o, none⟩ = some v := fun b o v hv hne => by
    rw [World.cell?_setCell_other _ _ _ _ (by intro e; rw [e] at hne; exact hne rfl)]
    exact hv
  have hz : (w.setCell a u).heap.size = w.heap.size := by simp [World.setCell]
  exact ⟨fun i hi => oth _ _ _ (h.top i hi) ha, fun i hi => by obtain ⟨x, hx⟩ := h.rest i hi; exact ⟨x, oth _ _ _ hx ha⟩, fun i => by rw [World.frozen?_setCell]; exact h.topf i, fun i j hi hj => oth _ _ _ (h.num i j hi hj) (hr i hi), fun i j hi hj => oth _ _ _ (h.den i j hi hj) (hr i hi),
    fun i q hi => by rw [World.frozen?_setCell]; exact h.fr i q hi, h.inj, fun i hi => ⟨(h.base i hi).1, (h.base i hi).2.1, by rw [hz]; exact (h.base i hi).2.2⟩, ⟨h.lt.1, by rw [hz]; exact h.lt.2⟩⟩
/-- a row is laid into the table's head -/
theorem Tq.head {w : World} {B g N k b : Nat} {rw' : Nat → Nat} {f : Nat → Nat → Nat × Nat} (h : Tq w B g N k rw' f) (hk : k < N) (v : Value) : (∀ i, i < k → (w.setCell ⟨g, k, none⟩ v).cell? ⟨g, i, none⟩ = some (.slice (some ⟨rw' i, 0, none⟩) N N)) ∧ (w.setCell ⟨g, k, none⟩ v).cell? ⟨g, k, none⟩ = some v ∧ Tq (w.setCell ⟨g, k, none⟩ v) B g N k rw' f ∧ b = b := by
  obtain ⟨u0, h0⟩ := h.rest k hk
  have same := World.cell?_setCell_same w ⟨g, k, none⟩ v h0
  have oth : ∀ (o : Nat) (x : Value), w.cell? ⟨g, o, none⟩ = some x → o ≠ k → (w.setCell ⟨g, k, none⟩ v).cell? ⟨g, o, none⟩ = some x := fun o x hx hne => by
    rw [World.cell?_setCell_other _ _ _ _ (by intro e; simp only [Addr.mk.injEq, and_true, true_and] at e; omega)]
    exact hx
  have oth2 : ∀ (b o : Nat) (x : Value), w.cell? ⟨b, o, none⟩ = some x → b ≠ g → (w.setCell ⟨g, k, none⟩ v).cell? ⟨b, o, none⟩ = some x := fun b o x hx hne => by
    rw [World.cell?_setCell_other _ _ _ _ (by intro e; simp only [Addr.mk.injEq, and_true] at e; omega)]
    exact hx
  have hz : (w.setCell ⟨g, k, none⟩ v).heap.size = w.heap.size := by simp [World.setCell]
  refine ⟨fun i hi => oth _ _ (h.top i hi) (by omega), same, ⟨fun i hi => oth _ _ (h.top i hi) (by omega), fun i hi => ?_, fun i => by rw [World.frozen?_setCell]; exact h.topf i, fun i j hi hj => oth2 _ _ _ (h.num i j hi hj) (h.base i hi).2.1, fun i j hi hj => oth2 _ _ _ (h.den i j hi hj) (h.base i hi).2.1,
    fun i q hi => by rw [World.frozen?_setCell]; exact h.fr i q hi, h.inj, fun i hi => ⟨(h.base i hi).1, (h.base i hi).2.1, by rw [hz]; exact (h.base i hi).2.2⟩, ⟨h.lt.1, by rw [hz]; exact h.lt.2⟩⟩, rfl⟩
  by_cases e : i = k
  · rw [e]; exact ⟨_, same⟩
  · obtain ⟨x, hx⟩ := h.rest i hi
    exact ⟨x, oth _ _ hx e⟩
/-- the row belongs to the table -/
theorem Tq.more {w : World} {B g N k b : Nat} {rw' : Nat → Nat} {f : Nat → Nat → Nat × Nat} (h : Tq w B g N k rw' f) (hr : RowQ w b N N (f k)) (hc : w.cell? ⟨g, k, none⟩ = some (.slice (some ⟨b, 0, none⟩) N N)) (hB : B ≤ b) (hbg : b ≠ g) (hne : ∀ i, i < k → rw' i ≠ b) :
    Tq w B g N (k + 1) (fun i => if i = k then b else rw' i) f := by
  refine ⟨fun i hi => ?_, h.rest, h.topf, fun i j hi hj => ?_, fun i j hi hj => ?_, fun i q hi => ?_, fun i j hi hj hij => ?_, fun i hi => ?_, h.lt⟩
  · skip
    by_cases e : i = k
    · subst e; rw [if_pos rfl]; exact hc
    · rw [if_neg e]; exact h.top i (by omega)
  · skip
    by_cases e : i = k
    · subst e; rw [if_pos rfl]; exact hr.num j hj
    · rw [if_neg e]; exact h.num i j (by omega) hj
  · skip
    by_cases e : i = k
    · subst e; rw [if_pos rfl]; exact hr.den j hj
    · rw [if_neg e]; exact h.den i j (by omega) hj
  · skip
    by_cases e : i = k
    · subst e; rw [if_pos rfl]; exact hr.fr q
    · rw [if_neg e]; exact h.fr i q (by omega)
  · skip
    by_cases e : i = k
    · subst e
      rw [if_pos rfl, if_neg (fun h => hij h.symm)]
      exact fun e2 => hne j (by omega) e2.symm
    · rw [if_neg e]
      by_cases e2 : j = k
      · rw [if_pos e2]; exact hne i (by omega)
      · rw [if_neg e2]; exact h.inj i j (by omega) (by omega) hij
  · skip
    by_cases e : i = k
    · rw [if_pos e]; exact ⟨hB, hbg, hr.lt⟩
    · rw [if_neg e]; exact h.base i (by omega)

/-- .. told by the sum of all operators -/
def sumQ (l : List (List Int)) (k r c : Nat) : Nat × Nat := ((sumN l k r c).toNat, 1)

set_option maxRecDepth 100000 in
set_option maxHeartbeats 1600000 in
theorem ratioTable_any (v : Value) (l : List (List Int)) (k h : Nat) (w : World) (hl : l.length ≤ 14) (hl1 : 1 ≤ l.length) (hk8 : k ≤ 8) (ht : TotAt w v l k) (hcell : w.cell? ⟨h, 0, none⟩ = some (.iface 78 v)) :
    Calls Try.prog 99 #[.int .i64 (l.length : Int), .func (.func 100) #[] #[.pointer (some ⟨h, 0, none⟩)]] w fun e w' => ∃ g rw', e = .returned (.slice (some ⟨g, 0, none⟩) l.length l.length) ∧ Tq w' w.heap.size g l.length l.length rw' (sumQ l k) ∧ Below w.heap.size w w' := by
  obtain ⟨r0, hr, hr0, hr1, hr2⟩ := info_parts Try.infob_rt
  obtain ⟨j0, hj, hy0, hy1, hy2⟩ := info_parts Try.info_rts
  have CA := Lib.hid (fun w' (hb : Below w.heap.size w w') r c hr hc => fixedBy1_any v l k r c h w' hl hk8 hr hc (ht.below hb) (cell_below hcell hb))
  have HQ := Lib.hid (show ∀ r c, ((sumN l k r c).toNat, 1) = sumQ l k r c from fun _ _ => rfl)
  obtain ⟨N, hN⟩ : ∃ N, N = l.length := ⟨_, rfl⟩
  rw [← hN] at CA hl hl1 ⊢
  obtain ⟨f, hf⟩ : ∃ f, f = sumQ l k := ⟨_, rfl⟩
  rw [← hf] at HQ ⊢
  have hNm : N ≤ 9223372036854775807 := by omega
  clear ht hcell hN hf
  go_enter Try.func99, Try.ntmps99
  go_wp2_with (at_make; refine wpList_make_full _ rfl _ _ 97 rfl w.heap.size 54 j0 (.slice none 0 0) 1 Try.underlying97 hj hy0 hy1 _ _ _ _ N rfl rfl rfl rfl ?c1 ?c2 ?c3 ?_)
  case c1 => rw [hy2]; omega
  case c2 => unfold maxLen; omega
  case c3 => simp
  intro w1 hown hgr
  have hb1 : Below w.heap.size w w1 := (Below.refl _ _).grown hgr (Nat.le_refl _) (fun _ h => by cases h)
  obtain ⟨G, hG⟩ : ∃ G, G = w.heap.size := ⟨_, rfl⟩
  have HT := Lib.hid (show Tq w1 w.heap.size G N 0 (fun _ => 0) f from by
    rw [hG]
    refine ⟨fun i hi => absurd hi (by omega), fun i hi => ?_, fun i => World.ownsRow.frozenAt hown i, fun i j hi => absurd hi (by omega), fun i j hi => absurd hi (by omega), fun i q hi => absurd hi (by omega), fun i j hi => absurd hi (by omega), fun i hi => absurd hi (by omega), ⟨Nat.le_refl _, (World.ownsRow.lt hown _ rfl).2⟩⟩
    have hll := hown.1
    rw [World.ownsRow.cellAt hown i (by omega), List.getElem?_eq_getElem (by omega)]
    exact ⟨_, rfl⟩)
  have HB := Lib.hid hb1
  rw [← hG]
  clear hown hgr hb1 hG
  go_wp2
  go_loopw [12] (fun x wr => ∃ (i : Nat) (rw' : Nat → Nat), i ≤ N ∧ x = .int .i64 i ∧ Tq wr w.heap.size G N i rw' f ∧ Below w.heap.size w wr) (fun x _ => N - (intOf x).toNat)
  case atStart => exact ⟨0, _, Nat.zero_le _, rfl, HT.out, HB.out⟩
  case round =>
    obtain ⟨i, rw', hi, rfl, ht, hbr⟩ := hrel
    have Ht := Lib.hid ht
    have Hbr := Lib.hid hbr
    clear ht hbr HT HB
    by_cases hiN : i < N
    · go_wp2_with (at_make; refine wpList_make_full _ rfl _ _ 54 rfl wr.heap.size 52 r0 (.agg (rtA (0, 0))) 2 Try.underlying54 hr hr0 hr1 _ _ _ _ N rfl rfl rfl rfl ?d1 ?d2 ?d3 ?_)
      case d1 => rw [hr2]; omega
      case d2 => unfold maxLen; omega
      case d3 => simp
      intro w2 hown hgr
      have hb2 : Below wr.heap.size wr w2 := (Below.refl _ _).grown hgr (Nat.le_refl _) (fun _ h => by cases h)
      obtain ⟨b, hb⟩ : ∃ b, b = wr.heap.size := ⟨_, rfl⟩
      have hrow : RowQ w2 b N 0 (f i) := by
        rw [hb]
        refine ⟨fun q hq => ?_, fun q => World.ownsRow.frozenAt hown q, fun q hq => absurd hq (by omega), fun q hq => absurd hq (by omega), (World.ownsRow.lt hown _ rfl).2⟩
        have hll := hown.1
        rw [World.ownsRow.cellAt hown q hq, List.getElem?_eq_getElem (by omega)]
        exact ⟨_, rfl⟩
      have ht2 := Ht.out.below hb2
      have hbG : b ≠ G := by have := Ht.out.lt.2; omega
      have hne : ∀ a, a < i → rw' a ≠ b := fun a ha => by have := (Ht.out.base a ha).2.2; omega
      obtain ⟨u0, hd0⟩ := ht2.rest i hiN
      have hf0 := ht2.topf i
      obtain ⟨_, hck, ht3, _⟩ := ht2.head (b := b) hiN (.slice (some ⟨b, 0, none⟩) N N)
      have Ht3 := Lib.hid ht3
      have Hck := Lib.hid hck
      have Hrow := Lib.hid (hrow.other (a := ⟨G, i, none⟩) (fun e => hbG e.symm) (.slice (some ⟨b, 0, none⟩) N N))
      have Hb2 := Lib.hid ((Hbr.out.trans (hb2.mono Hbr.out.size)).setCell (p := ⟨G, i, none⟩) (by exact Ht.out.lt.1) (.slice (some ⟨b, 0, none⟩) N N))
      have HbB := Lib.hid (show w.heap.size ≤ b by rw [hb]; exact Hbr.out.size)
      have Hbg := Lib.hid hbG
      have Hne := Lib.hid hne
      rw [← hb]
      clear hown hgr hb2 hb hrow ht2 hbG hne hck ht3
      go_upto_region 6 with (fail)
      generalize World.setCell w2 _ _ = w3 at Ht3 Hck Hrow Hb2 ⊢
      have hck := Hck.out
      clear hd0 hf0
      go_wp2
      go_loopw [25] (fun x wq => ∃ j : Nat, j ≤ N ∧ x = .int .i64 j ∧ Tq wq w.heap.size G N i rw' f ∧ RowQ wq b N j (f i) ∧ wq.cell? ⟨G, i, none⟩ = some (.slice (some ⟨b, 0, none⟩) N N) ∧ Below w.heap.size w wq) (fun x _ => N - (intOf x).toNat)
      case atStart => exact ⟨0, Nat.zero_le _, rfl, Ht3.out, Hrow.out, Hck.out, Hb2.out⟩
      case round =>
        rename World => wq
        obtain ⟨j, hjn, rfl, ht, hrow, hck2, hbq⟩ := hrel
        have Ht4 := Lib.hid ht
        have Hrow4 := Lib.hid hrow
        have Hck4 := Lib.hid hck2
        have Hbq := Lib.hid hbq
        clear ht hrow hck2 hbq Ht3 Hrow Hck Hb2 hck
        by_cases hjN : j < N
        · have Hz := Lib.hid Hbq.out.size
          have CX := Lib.hid (show ∀ wx, Below wq.heap.size wq wx → Calls Try.prog 100 #[.int .i64 (i : Int), .int .i64 (j : Int), .pointer (some ⟨h, 0, none⟩)] wx fun e w' => e = .returned (.agg #[.int .i64 ((f i j).1 : Int), .int .i64 ((f i j).2 : Int)]) ∧ Below wx.heap.size wx w' from fun wx hx => by
            have h5 := CA.out wx (Hbq.out.trans (hx.mono Hz.out)) i j hiN hjN
            rw [HQ.out] at h5
            exact h5)
          obtain ⟨u1, hu1⟩ := Hrow4.out.ex (j * 2) (by omega)
          obtain ⟨u2, hu2⟩ := Hrow4.out.ex (j * 2 + 1) (by omega)
          have hfacts : ∀ w'', Below wq.heap.size wq w'' → w''.cell? ⟨G, i, none⟩ = some (.slice (some ⟨b, 0, none⟩) N N) ∧ w''.cell? ⟨b, j * 2, none⟩ = some u1 ∧ w''.cell? ⟨b, j * 2 + 1, none⟩ = some u2 ∧ w''.frozen? ⟨b, j * 2, none⟩ = false ∧ w''.frozen? ⟨b, j * 2 + 1, none⟩ = false := fun w'' hb =>
            ⟨cell_below Hck4.out hb, cell_below hu1 hb, cell_below hu2 hb, (Hrow4.out.below hb).fr _, (Hrow4.out.below hb).fr _⟩
          have Hfacts := Lib.hid hfacts
          have HBc := Lib.hid (show Below wq.heap.size wq wq.drew from below_drewN (Below.refl _ _) 1)
          obtain ⟨x, hx⟩ : ∃ x, x = (f i j).1 := ⟨_, rfl⟩
          obtain ⟨y, hy⟩ : ∃ y, y = (f i j).2 := ⟨_, rfl⟩
          have HXY := Lib.hid (show f i j = (x, y) by rw [hx, hy])
          rw [← hx, ← hy] at CX
          clear hu1 hu2 hfacts hx hy
          have ⟨q0, q1, q2, q3, q4⟩ := Hfacts.out wq (Below.refl _ _)
          go_wp2
          go_region_with (go_at_call 100; refine (CX.out _ HBc.out).mono ?_; rintro e w6 ⟨rfl, hb6⟩; have HBd := Lib.hid (HBc.out.trans (hb6.mono HBc.out.size)); clear hb6 HBc; have HBc := HBd; clear HBd; obtain ⟨r0, r1, r2, r3, r4⟩ := Hfacts.out _ HBc.out)
          all_goals
            have HRn := Lib.hid ((Hrow4.out.below HBc.out).store hjN x y HXY.out)
            have HTn := Lib.hid (((Ht4.out.below HBc.out).other (a := ⟨b, j * 2, none⟩) Hbg.out (fun a ha e => Hne.out a ha e.symm) (.int .i64 (x : Int))).other (a := ⟨b, j * 2 + 1, none⟩) Hbg.out (fun a ha e => Hne.out a ha e.symm) (.int .i64 (y : Int)))
            have HCn := Lib.hid (show ((w6.setCell ⟨b, j * 2, none⟩ (.int .i64 (x : Int))).setCell ⟨b, j * 2 + 1, none⟩ (.int .i64 (y : Int))).cell? ⟨G, i, none⟩ = some (.slice (some ⟨b, 0, none⟩) N N) by
              have hbg := Hbg.out
              rw [World.cell?_setCell_other _ _ _ _ (by intro e; simp only [Addr.mk.injEq, and_true] at e; exact hbg e.1), World.cell?_setCell_other _ _ _ _ (by intro e; simp only [Addr.mk.injEq, and_true] at e; exact hbg e.1)]
              exact r0)
            have HBn := Lib.hid (((Hbq.out.trans (HBc.out.mono Hz.out)).setCell (p := ⟨b, j * 2, none⟩) HbB.out (.int .i64 (x : Int))).setCell (p := ⟨b, j * 2 + 1, none⟩) HbB.out (.int .i64 (y : Int)))
            clear q0 q1 q2 q3 q4 r0 r1 r2 r3 r4 CX Hfacts
            go_wp2
            go_roundw
            case rel => exact ⟨j + 1, by omega, by go_num, HTn.out, HRn.out, HCn.out, HBn.out⟩
            case measure => simp [intOf]; omega
        · obtain rfl : j = N := by omega
          have HT5 := Lib.hid (Ht4.out.more Hrow4.out Hck4.out HbB.out Hbg.out Hne.out)
          go_wp2
          go_roundw
          case rel => exact ⟨i + 1, _, by omega, by go_num, HT5.out, Hbq.out⟩
          case measure => simp [intOf]; omega
    · obtain rfl : i = N := by omega
      go_wp2
      go_ret
      exact ⟨_, _, rfl, Ht.out, Hbr.out⟩
end Go.Proofs.Ytgdijjfipicodaa

namespace Go.Proofs.Ytgdijjfipicodaa
open Go.RowKit

/-- a ratio of small numbers -/
def SmQ (a : Nat × Nat) : Prop := a.1 ≤ 1000000 ∧ 1 ≤ a.2 ∧ a.2 ≤ 1000000
theorem okQ_is {a : Nat × Nat} (h : okQ a = true) : SmQ a := by
  unfold okQ at h
  rw [Bool.and_eq_true, Bool.and_eq_true, decide_eq_true_eq, decide_eq_true_eq, decide_eq_true_eq] at h
  exact ⟨h.1.1, h.1.2, h.2⟩
theorem okT_is {N : Nat} {m : List (List (Nat × Nat))} (h : okT N m = true) {r c : Nat} (hr : r < N) (hc : c < N) : SmQ (gq (gqr m r) c) := by
  unfold okT at h
  rw [List.all_eq_true] at h
  have h2 := h r (by simpa using hr)
  rw [List.all_eq_true] at h2
  exact okQ_is (h2 c (by simpa using hc))
theorem okL_is {m : List (List (Nat × Nat))} {last : Nat} (h : okL m last = true) : (∀ r, r ≤ last → SmQ (leaQ m last r)) ∧ 1 ≤ (leaQ m last last).1 := by
  unfold okL at h
  rw [Bool.and_eq_true, List.all_eq_true, decide_eq_true_eq] at h
  exact ⟨fun r hr => okQ_is (h.1 r (by simp; omega)), h.2⟩
theorem SmQ.plus {a b : Nat × Nat} (ha : SmQ a) (hb : SmQ b) (w : World) : Calls Try.prog 121 #[.agg (rtA a), .agg (rtA b)] w fun e w' => e = .returned (.agg (rtA (pl a b))) ∧ Below w.heap.size w w' := by
  have h1 := Nat.mul_le_mul ha.1 hb.2.2
  have h2 := Nat.mul_le_mul hb.1 ha.2.2
  have h3 := Nat.mul_le_mul ha.2.2 hb.2.2
  exact plus_any a b w (Nat.mul_pos ha.2.1 hb.2.1) (by omega) (by omega)
theorem SmQ.over {a b : Nat × Nat} (ha : SmQ a) (hb : SmQ b) (h0 : 1 ≤ b.1) (w : World) : Calls Try.prog 122 #[.agg (rtA a), .agg (rtA b)] w fun e w' => e = .returned (.agg (rtA (ov a b))) ∧ Below w.heap.size w w' := by
  have h1 := Nat.mul_le_mul ha.1 hb.2.2
  have h2 := Nat.mul_le_mul ha.2.2 hb.1
  exact over_any a b w (Nat.mul_pos ha.2.1 h0) (by omega) (by omega)
theorem SmQ.times {a b : Nat × Nat} (ha : SmQ a) (hb : SmQ b) (w : World) : Calls Try.prog 83 #[.agg (rtA a), .agg (rtA b)] w fun e w' => e = .returned (.agg (rtA (tm a b))) ∧ Below w.heap.size w w' := by
  have h1 := Nat.mul_le_mul ha.1 hb.1
  have h2 := Nat.mul_le_mul ha.2.2 hb.2.2
  exact times_any a b w (Nat.mul_pos ha.2.1 hb.2.1) (by omega) (by omega)
theorem tm_bd {a b : Nat × Nat} (ha : SmQ a) (hb : SmQ b) : (tm a b).1 ≤ 1000000000000 ∧ 1 ≤ (tm a b).2 ∧ (tm a b).2 ≤ 1000000000000 := by
  have h1 := Nat.mul_le_mul ha.1 hb.1
  have h2 := Nat.mul_le_mul ha.2.2 hb.2.2
  have h3 := nrm_le (a.1 * b.1) (a.2 * b.2)
  have h4 := (nrm_cop (p := a.1 * b.1) (Nat.mul_pos ha.2.1 hb.2.1)).2
  unfold tm
  exact ⟨by omega, h4, by omega⟩
theorem SmQ.plus2 {a b : Nat × Nat} (ha : SmQ a) (hb : b.1 ≤ 1000000000000 ∧ 1 ≤ b.2 ∧ b.2 ≤ 1000000000000) (w : World) : Calls Try.prog 121 #[.agg (rtA a), .agg (rtA b)] w fun e w' => e = .returned (.agg (rtA (pl a b))) ∧ Below w.heap.size w w' := by
  have h1 := Nat.mul_le_mul ha.1 hb.2.2
  have h2 := Nat.mul_le_mul hb.1 ha.2.2
  have h3 := Nat.mul_le_mul ha.2.2 hb.2.2
  exact plus_any a b w (Nat.mul_pos ha.2.1 hb.2.1) (by omega) (by omega)

theorem tkF_start (m : List (List (Nat × Nat))) (last : Nat) : tkF m last 0 0 = fun r c => gq (gqr m r) c := by
  funext r c
  unfold tkF
  rw [if_neg (by omega), if_neg (by omega)]
theorem tkF_step {m : List (List (Nat × Nat))} {last a b : Nat} (ha : a < last) (hb : b < last) : (fun r c => if r = b ∧ c = a then newQ m last b a else tkF m last a b r c) = tkF m last a (b + 1) := by
  funext r c
  unfold tkF
  by_cases e : r = b ∧ c = a
  · obtain ⟨rfl, rfl⟩ := e
    rw [if_pos ⟨rfl, rfl⟩, if_pos (by omega)]
  · rw [if_neg e]
    by_cases e2 : r < last ∧ c < last ∧ (c < a ∨ (c = a ∧ r < b))
    · rw [if_pos e2, if_pos (show r < last ∧ c < last ∧ (c < a ∨ (c = a ∧ r < b + 1)) by omega)]
    · rw [if_neg e2, if_neg (show ¬(r < last ∧ c < last ∧ (c < a ∨ (c = a ∧ r < b + 1))) by omega)]
theorem tkF_part {m : List (List (Nat × Nat))} {last a : Nat} (ha : a < last) : (fun r c => if r = last ∧ c = a then partQ m last a else tkF m last a last r c) = tkF m last (a + 1) 0 := by
  funext r c
  unfold tkF
  by_cases e : r = last ∧ c = a
  · obtain ⟨rfl, rfl⟩ := e
    rw [if_pos ⟨rfl, rfl⟩, if_neg (by omega), if_pos (by omega)]
  · rw [if_neg e]
    by_cases e2 : r < last ∧ c < last ∧ (c < a ∨ (c = a ∧ r < last))
    · rw [if_pos e2, if_pos (show r < last ∧ c < last ∧ (c < a + 1 ∨ (c = a + 1 ∧ r < 0)) by omega)]
    · rw [if_neg e2, if_neg (show ¬(r < last ∧ c < last ∧ (c < a + 1 ∨ (c = a + 1 ∧ r < 0))) by omega)]
      by_cases e3 : r = last ∧ c < last ∧ c < a
      · rw [if_pos e3, if_pos (show r = last ∧ c < last ∧ c < a + 1 by omega)]
      · rw [if_neg e3, if_neg (show ¬(r = last ∧ c < last ∧ c < a + 1) by omega)]
theorem tkF_old {m : List (List (Nat × Nat))} {last a b : Nat} : tkF m last a b b a = gq (gqr m b) a := by
  unfold tkF
  rw [if_neg (by omega), if_neg (by omega)]
theorem tkF_last {m : List (List (Nat × Nat))} {last a b r : Nat} : tkF m last a b r last = gq (gqr m r) last := by
  unfold tkF
  rw [if_neg (by omega), if_neg (by omega)]
theorem tkF_low {m : List (List (Nat × Nat))} {last a b : Nat} : tkF m last a b last a = gq (gqr m last) a := by
  unfold tkF
  rw [if_neg (by omega), if_neg (by omega)]
end Go.Proofs.Ytgdijjfipicodaa

