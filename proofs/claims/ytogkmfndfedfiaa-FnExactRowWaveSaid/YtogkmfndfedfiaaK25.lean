/- Parts of proofs: contracts and plain facts. Conditions: as each says. -/
import Derived.Test.YtogkmfndfedfiaaK24
namespace Go.Proofs.Ytogkmfndfedfiaa
open Go.RowKit

/-- the flip of a colour as a value of the interface -/
def fv (col : Int) : Value := .iface 72 (.int .i64 col)
theorem method_flip (col : Int) (w : World) : (method 245 72 (.int .i64 col) "loop.example/g01123/impl.from").run Try.prog w = .ok (161, .int .i64 col) w := by kernel_rfl
theorem method_series (ao : Option Addr) (k c : Nat) (w : World) : (method 245 78 (.slice ao k c) "loop.example/g01123/impl.from").run Try.prog w = .ok (163, .slice ao k c) w := by kernel_rfl
theorem ahead_flip (col : Int) (w : World) : (nilAhead 245 72 (.int .i64 col) "loop.example/g01123/impl.from").run Try.prog w = .ok (some false) w := by kernel_rfl
theorem ahead_series (ao : Option Addr) (k c : Nat) (w : World) : (nilAhead 245 78 (.slice ao k c) "loop.example/g01123/impl.from").run Try.prog w = .ok (some false) w := by kernel_rfl
theorem assert_flip (col : Int) (w : World) : (Instr.typeAssert (.iface 72 (.int .i64 col)) 74 78 true).run Try.prog w = .ok (.tuple #[.slice none 0 0, .bool false]) w := by kernel_rfl
theorem assert_series (ao : Option Addr) (k c : Nat) (w : World) : (Instr.typeAssert (.iface 78 (.slice ao k c)) 74 78 true).run Try.prog w = .ok (.tuple #[.slice ao k c, .bool true]) w := by kernel_rfl
theorem Try.info_step : (Try.prog.info? 74).map (fun i => (i.zero, i.size, i.bytes)) = some (some .nilIface, 1, 16) := by kernel_rfl

theorem steps_new (w : World) (x y : Value) (e : TypeId) : StepsAt (w.alloc (.cells #[x, y] e)) (some ⟨w.heap.size, 0, none⟩) [x, y] := fun k hk => by
  refine ⟨w.heap.size, 0, rfl, ?_⟩
  rw [Nat.zero_add, cell_of_row _ _ k _ _ _ (heap_alloc_new w _)]
  have : k = 0 ∨ k = 1 := by simp at hk; omega
  rcases this with rfl | rfl <;> rfl

/-- a series of flips -/
def SerAt (w : World) (B : Nat) (v : Value) (cols : List Int) : Prop := ∃ ao c, v = .iface 78 (.slice ao cols.length c) ∧ StepsAt w ao (cols.map fv) ∧ ∀ g o, ao = some ⟨g, o, none⟩ → B ≤ g ∧ g < w.heap.size ∧ ∃ cur q, w.heap[g]? = some (.cells cur 74 q)
theorem SerAt.below {w w' : World} {B : Nat} {v : Value} {cols : List Int} (h : SerAt w B v cols) (hb : Below w.heap.size w w') : SerAt w' B v cols := by
  obtain ⟨ao, c, e, hs, hg⟩ := h
  refine ⟨ao, c, e, hs.below hb, fun g o e => ?_⟩
  obtain ⟨h1, h2, cur, q, h3⟩ := hg g o e
  exact ⟨h1, Nat.lt_of_lt_of_le h2 hb.size, cur, q, by rw [hb.block g h2]; exact h3⟩

set_option maxRecDepth 100000 in
set_option maxHeartbeats 800000 in
theorem gyration_any (w : World) : Calls Try.prog 79 #[] w fun e w' => ∃ v, e = .returned v ∧ SerAt w' w.heap.size v [0, 1] ∧ Below w.heap.size w w' := by
  have hs : StepsAt (w.alloc (.cells #[fv 0, fv 1] 74)) (some ⟨w.heap.size, 0, none⟩) [fv 0, fv 1] := steps_new w _ _ _
  have hb : Below w.heap.size w (w.alloc (.cells #[fv 0, fv 1] 74)) := (Below.refl _ _).alloc (Nat.le_refl _) _
  have hz : (w.alloc (.cells #[fv 0, fv 1] 74)).heap.size = w.heap.size + 1 := by simp
  have hq : (w.alloc (.cells #[fv 0, fv 1] 74)).heap[w.heap.size]? = some (.cells #[fv 0, fv 1] 74 (0, 0)) := heap_alloc_new w _
  unfold fv at hs hb hz hq
  have Hq := Lib.hid hq
  have Hs := Lib.hid hs
  have Hb := Lib.hid hb
  have Hz := Lib.hid hz
  clear hs hb hz hq
  go_enter Try.func79, Try.ntmps79
  go_wp2
  go_ret
  exact ⟨_, rfl, ⟨_, _, rfl, Hs.out, fun g o e => by
    simp only [Option.some.injEq, Addr.mk.injEq, and_true] at e
    obtain ⟨rfl, rfl⟩ := e
    exact ⟨Nat.le_refl _, by rw [Hz.out]; omega, _, _, Hq.out⟩⟩, Hb.out⟩

set_option maxRecDepth 100000 in
set_option maxHeartbeats 800000 in
theorem backwards_flip (col : Int) (w : World) : Calls Try.prog 81 #[.iface 72 (.int .i64 col)] w fun e w' => e = .returned (.iface 72 (.int .i64 col)) ∧ w' = w := by
  have hta := fun w' => assert_flip col w'
  go_enter Try.func81, Try.ntmps81
  go_wp2
  go_ret
  exact ⟨rfl, rfl⟩

/-- the first t of a list, in a row from the end on -/
def RevOf (cols : List Int) (t : Nat) (xs : List Value) : Prop := ∀ j, j < t → xs.getD (cols.length - 1 - j) undef = fv (gi cols j)

set_option maxRecDepth 100000 in
set_option maxHeartbeats 1600000 in
theorem backwards_flips (cols : List Int) (ao : Option Addr) (k cp : Nat) (w : World) (hk : cols.length = k) (hk2 : k ≤ 4096) (hs : StepsAt w ao (cols.map fv)) :
    Calls Try.prog 81 #[.iface 78 (.slice ao k cp)] w fun e w' => ∃ v, e = .returned v ∧ SerAt w' w.heap.size v cols.reverse ∧ Below w.heap.size w w' := by
  obtain ⟨i0, hi, hz0, hz1, hz2⟩ := info_parts Try.info_step
  have Hk := Lib.hid hk
  have Hs := Lib.hid hs
  have hta := fun w' => assert_series ao k cp w'
  clear hk hs
  go_enter Try.func81, Try.ntmps81
  go_wp2_with (at_make; refine wpList_make_full _ rfl _ _ 78 rfl w.heap.size 74 i0 .nilIface 1 Try.underlying78 hi hz0 hz1 _ _ _ _ k rfl rfl rfl rfl ?c1 ?c2 ?c3 ?_)
  case c1 => rw [hz2]; omega
  case c2 => unfold maxLen; omega
  case c3 => simp
  intro w1 hown hg
  have hb1 : Below w.heap.size w w1 := (Below.refl _ _).grown hg (Nat.le_refl _) (fun _ h => by cases h)
  have Hown := Lib.hid hown
  have Hb1 := Lib.hid hb1
  clear hown hg hb1 hta
  go_wp2
  go_loopw [18] (fun i wr => ∃ (t : Nat) (xs : List Value), t ≤ k ∧ i = .int .i64 t ∧ wr.ownsRow w.heap.size 74 1 (.slice (some ⟨w.heap.size, 0, none⟩) k k) k xs ∧ RevOf cols t xs ∧ Below w.heap.size w wr) (fun i _ => k - (intOf i).toNat)
  case atStart => exact ⟨0, _, Nat.zero_le _, rfl, Hown.out, fun j hj => absurd hj (by omega), Hb1.out⟩
  case round =>
    obtain ⟨t, xs, ht, rfl, hown, hrev, hbr⟩ := hrel
    have Hrev := Lib.hid hrev
    have Hbr := Lib.hid hbr
    clear hrev Hown Hb1
    by_cases hlt : t < k
    · obtain ⟨b, o, rfl, hcell⟩ := Hs.out.below hbr t (by rw [List.length_map, Hk.out]; exact hlt)
      have hu : (cols.map fv).getD t undef = .iface 72 (.int .i64 (gi cols t)) := by simp [List.getD, gi, fv, Hk.out, hlt]
      rw [hu] at hcell
      obtain ⟨x, hx⟩ : ∃ x, x = gi cols t := ⟨_, rfl⟩
      rw [← hx] at hcell
      have Hx := Lib.hid hx
      obtain ⟨p, hp⟩ : ∃ p, p = k - 1 := ⟨_, rfl⟩
      obtain ⟨r, hr⟩ : ∃ r, r = p - t := ⟨_, rfl⟩
      have hl : xs.length = k := by simpa using hown.1
      have Hl := Lib.hid hl
      obtain ⟨old, hd⟩ : ∃ old, wr.cell? ⟨w.heap.size, r, none⟩ = some old := ⟨xs.getD r undef, by rw [World.ownsRow.cellAt hown r (by omega), List.getD, List.getElem?_eq_getElem (by omega)]; rfl⟩
      have hf := World.ownsRow.frozenAt hown r
      have Hst := Lib.hid (World.ownsRow.stored hown r (.iface 72 (.int .i64 x))).1
      have Hbs := Lib.hid (hbr.setCell (p := ⟨w.heap.size, r, none⟩) (Nat.le_refl _) (.iface 72 (.int .i64 x)))
      have k1 : IntKind.i64.wrap ((k : Int) - 1) = (p : Int) := by rw [w64 (by omega)]; omega
      have k2 : IntKind.i64.wrap ((p : Int) - t) = (r : Int) := by rw [w64 (by omega)]; omega
      have m1 : (r : Int) < k := by omega
      have Hr := Lib.hid (show r = k - 1 - t by omega)
      clear hu hx hp hr hl hown hbr
      go_wp2_with fail
      refine (backwards_flip x wr).mono ?_
      rintro e w2 ⟨rfl, rfl⟩
      go_wp2
      go_roundw
      case rel =>
        refine ⟨t + 1, _, by omega, by go_num, Hst.out, fun j hj => ?_, Hbs.out⟩
        have h1 := Hrev.out j
        have h2 := Hl.out
        have h3 := Hk.out
        have h4 := Hr.out
        simp only [List.getD, List.getElem?_set] at h1 ⊢
        by_cases e : j = t
        · subst e
          rw [if_pos (by omega), if_pos (by omega)]
          show Value.iface 72 (.int .i64 x) = fv (gi cols j)
          rw [Hx.out]
          rfl
        · rw [if_neg (by omega)]
          exact h1 (by omega)
      case measure => simp [intOf]; omega
    · obtain rfl : t = k := by omega
      have hser : StepsAt wr (some ⟨w.heap.size, 0, none⟩) (cols.reverse.map fv) := fun i hi => by
        have hi' : i < t := by rw [List.length_map, List.length_reverse, Hk.out] at hi; exact hi
        have hl : xs.length = t := by simpa using hown.1
        refine ⟨w.heap.size, 0, rfl, ?_⟩
        rw [Nat.zero_add, World.ownsRow.cellAt hown i (by omega)]
        have h1 := Hrev.out (t - 1 - i) (by omega)
        rw [show cols.length - 1 - (t - 1 - i) = i from by rw [Hk.out]; omega] at h1
        have h5 : xs.getD i undef = fv (gi cols (t - 1 - i)) := h1
        have h6 : (cols.reverse.map fv).getD i undef = fv (gi cols (t - 1 - i)) := by
          have h7 : t - 1 - i < cols.length := by rw [Hk.out]; omega
          simp only [List.getD, List.getElem?_map, gi]
          rw [List.getElem?_reverse (by rw [Hk.out]; exact hi'), Hk.out, List.getElem?_eq_getElem h7]
          rfl
        rw [h6, ← h5, List.getD, List.getElem?_eq_getElem (by omega)]
        rfl
      have Hser := Lib.hid hser
      have hz : w.heap.size < wr.heap.size := (World.ownsRow.lt hown w.heap.size rfl).2
      have Hq := Lib.hid (ownsRow_block hown)
      clear hser hown hbr
      go_wp2
      go_ret
      exact ⟨_, rfl, ⟨some ⟨w.heap.size, 0, none⟩, t, by rw [List.length_reverse, Hk.out]; rfl, Hser.out, fun g o e => by
        simp only [Option.some.injEq, Addr.mk.injEq, and_true] at e
        obtain ⟨rfl, rfl⟩ := e
        obtain ⟨cur, hq⟩ := Hq.out
        exact ⟨Nat.le_refl _, hz, cur, _, hq⟩⟩, Hbr.out⟩
end Go.Proofs.Ytogkmfndfedfiaa

