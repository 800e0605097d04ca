/- Contract: rows put together, by the library. Conditions: lengths. -/
import Derived.Test.YtfempacfaeknpaaDpV
import Derived.Test.YtfempacfaeknpaaOwn
import Derived.Test.YtfempacfaeknpaaDiff
import Derived.Laws.AppendOwnNone
import Derived.Lib.AppendZeros
namespace Go.Proofs.Ytfempacfaeknpaa
open Go.RowKit

/-- appending a slice of integers, whatever its address, to one that the call owns -/
theorem wpList_appendI {w : World} {ops : Array Oper} {rest : List Oper} {o : Oper} {a : Act} {Q : Exit → Act → World → Prop} (hgd : o.guard = none) (s x : Operand)
    (ho : o.op = .call { callee := .builtin .append, args := #[s, x], argTypes := #[42, 42] })
    (base : Nat) (v : Value) (xs : List Int) (hs : a.eval s = v) (hown : OwnI w base v xs)
    (ao : Option Addr) (c : Nat) (ys : List Int) (hx : a.eval x = .slice ao ys.length c) (hc : ao = none → c = 0 ∧ ys = []) (hys : IntsAt w ao ys)
    (h63 : xs.length + ys.length ≤ 1048576) (hbase : base ≤ w.heap.size)
    (h : ∀ v' w', OwnI w' base v' (xs ++ ys) → w.grownBy w' v.ownBlock → Below base w w' → wpList Try.prog ops Q rest (a.put o.dst v') w') : wpList Try.prog ops Q (o :: rest) a w := by
  obtain ⟨i0, hi, hz0, hz1, hz2⟩ := info_parts Try.info_int
  cases ao with
  | none =>
    obtain ⟨rfl, rfl⟩ := hc rfl
    exact wpList_append_own_none hgd s x 42 ho base 3 i0 1 Try.underlying42 hi v xs.length _ hs hown hx (h v w (by rw [List.append_nil]; exact hown) (World.grownBy.refl _ _) (Below.refl _ _))
  | some ad =>
    refine wpList_append_own _ hgd s x 42 ho base 3 i0 (.int .i64 0) 1 8 Try.underlying42 hi hz0 hz1 hz2 rfl (by decide) v xs.length _ hs hown ad ys.length c (ys.map (Value.int .i64)) hx (by simp) ?_ (by intro u hu; obtain ⟨y, _, rfl⟩ := List.mem_map.1 hu; rfl) (by unfold maxLen; omega) (by omega) hbase ?_
    · intro j u hj
      have hjl : j < ys.length := by
        have := (List.getElem?_eq_some_iff.1 hj).1
        simpa using this
      obtain ⟨b, o', e, hcell⟩ := hys j hjl
      cases e
      have e : (ys.map (Value.int .i64))[j]? = some (Value.int .i64 (gi ys j)) := by simp [gi, List.getD, hjl]
      rw [e] at hj
      cases hj
      rw [Addr.add_lit]
      exact hcell
    · intro v' w' h1 h2 _
      refine h v' w' ?_ h2 (Below.grown (Below.refl _ _) h2 hbase (fun k hk => (World.ownsRow.lt hown k hk).1))
      unfold OwnI
      rw [List.length_append, List.map_append]
      exact h1

set_option maxRecDepth 100000 in
set_option maxHeartbeats 1600000 in
theorem growNil_any (n : Nat) (w : World) (hn : n ≤ 1048576) :
    Calls Try.prog 130 #[.slice none 0 0, .int .i64 n] w fun e w' => ∃ v, e = .returned v ∧ OwnI w' w.heap.size v [] ∧ Below w.heap.size w w' := by
  obtain ⟨i0, hi, hz0, hz1, hz2⟩ := info_parts Try.info_int
  by_cases h0 : n = 0
  · subst h0
    go_enter Try.func130, Try.ntmps130
    go_wp2
    go_ret
    exact ⟨_, rfl, OwnI.nil _ _, Below.refl _ _⟩
  · have hz : ∀ ty, (Builtin.append_ #[42, 3] ty #[.slice none 0 0, .int .i64 n]).run Try.prog w = .ok (.slice (some ⟨w.heap.size, 0, none⟩) n (grownCap w n 0 3)) (w.drew.alloc (.cells (Builtin.zeroCells #[Value.int .i64 0] n ++ Builtin.zeroCells #[Value.int .i64 0] (grownCap w n 0 3 - n)) 3)) :=
      fun ty => Lib.run_append_nil_zeros w 42 3 ty 3 i0 (.int .i64 0) .i64 .i64 Try.underlying42 Try.underlying3 hi hz0 n (by omega) (by omega) (by omega) (by rw [hz2]; omega)
    have hG1 : n ≤ grownCap w n 0 3 := grownCap_ge w _ _ _
    have hG2 : grownCap w n 0 3 ≤ 9223372036854775807 := by
      have := grownCap_le_maxLen w n 0 3 (by unfold maxLen; omega)
      unfold maxLen at this
      omega
    obtain ⟨G, hG⟩ : ∃ G, G = grownCap w n 0 3 := ⟨_, rfl⟩
    rw [← hG] at hz hG1 hG2
    have hpos : 0 < n := by omega
    have hd : decide ((n : Int) < 0) = false := by simp
    obtain ⟨w1, hw1⟩ : ∃ w1, w1 = w.drew.alloc (.cells (Builtin.zeroCells #[Value.int .i64 0] n ++ Builtin.zeroCells #[Value.int .i64 0] (G - n)) 3) := ⟨_, rfl⟩
    rw [← hw1] at hz
    have HO := Lib.hid (show OwnI w1 w.heap.size (.slice (some ⟨w.heap.size, 0, none⟩) 0 G) [] from
      ⟨rfl, .inr ⟨w.heap.size, G, _, rfl, Nat.le_refl _, by rw [hw1]; exact heap_alloc_new w.drew _, Nat.zero_le _, hG2, by simp [Builtin.zeroCells, Value.cells]; omega, by simp⟩⟩)
    have HB := Lib.hid (show Below w.heap.size w w1 by rw [hw1]; exact (below_drewN (Below.refl _ w) 1).alloc (Nat.le_refl _) _)
    clear hG hw1 h0
    go_enter Try.func130, Try.ntmps130
    go_wp2_with (at_builtin; refine Lib.wpList_append_run _ rfl _ _ _ _ rfl _ _ rfl rfl _ _ (hz _) ?_)
    go_wp2
    go_ret
    exact ⟨_, rfl, HO.out, HB.out⟩

/-- rows that are empty and have no address have no room either -/
def NilRows (w : World) (ao : Option Addr) (rows : List (List Int)) : Prop := ∀ k b o r c, k < rows.length → ao = some ⟨b, o, none⟩ → w.cell? ⟨b, o + k, none⟩ = some (.slice r (gr rows k).length c) → r = none → c = 0 ∧ gr rows k = []
theorem nilRows_full {w : World} {ao : Option Addr} {rows : List (List Int)} (hm : MatAt w ao rows) (h : ∀ k, k < rows.length → 1 ≤ (gr rows k).length) : NilRows w ao rows := by
  intro k b o r c hk e hc hr
  obtain ⟨b1, o1, r1, d1, e1, hc1, hr1, _, _⟩ := hm k hk
  rw [e] at e1
  simp only [Option.some.injEq, Addr.mk.injEq, and_true] at e1
  obtain ⟨rfl, rfl⟩ := e1
  rw [hc1] at hc
  simp only [Option.some.injEq, Value.slice.injEq] at hc
  obtain ⟨b2, o2, e2, _⟩ := hr1 0 (h k hk)
  rw [hc.1, hr] at e2
  cases e2

def lenT (rows : List (List Int)) (k : Nat) : Nat := (rows.take k).flatten.length
theorem lenT_succ {rows : List (List Int)} {k : Nat} (h : k < rows.length) : lenT rows (k + 1) = lenT rows k + (gr rows k).length := by
  unfold lenT
  rw [take_flat h, List.length_append]
theorem lenT_mono {rows : List (List Int)} {k : Nat} (h : k ≤ rows.length) : lenT rows k ≤ rows.flatten.length := by
  unfold lenT
  have := List.take_append_drop k rows
  conv => rhs; rw [← this]
  rw [List.flatten_append, List.length_append]
  omega

set_option maxRecDepth 100000 in
set_option maxHeartbeats 1600000 in
theorem concat_any (ao : Option Addr) (c : Nat) (rows : List (List Int)) (w : World) (hl : rows.length ≤ 1048576) (hf : rows.flatten.length ≤ 1048576) (hm : MatAt w ao rows) (hz : NilRows w ao rows) :
    Calls Try.prog 109 #[.slice ao rows.length c] w fun e w' => ∃ v, e = .returned v ∧ OwnI w' w.heap.size v rows.flatten ∧ Below w.heap.size w w' := by
  have hmx : rows.length ≤ 9223372036854775807 := by omega
  have Hm := Lib.hid hm
  have Hz := Lib.hid hz
  have Hf := Lib.hid hf
  clear hm hz hf
  go_enter Try.func109, Try.ntmps109
  go_wp2
  go_loop [3, 11] (fun s i => ∃ k : Nat, k ≤ rows.length ∧ i = .int .i64 k ∧ s = .int .i64 (lenT rows k)) (fun _ i => rows.length - (intOf i).toNat)
  case atStart => exact ⟨0, Nat.zero_le _, rfl, rfl⟩
  case round =>
    obtain ⟨k, hk, rfl, rfl⟩ := hrel
    by_cases hlt : k < rows.length
    · obtain ⟨b1, o1, r1, d1, rfl, hc1, hr1, hd1, hd2⟩ := Hm.out k hlt
      have e1 := lenT_succ hlt
      have e2 := lenT_mono (rows := rows) (k := k + 1) (by omega)
      have e3 := Hf.out
      obtain ⟨s, hs⟩ : ∃ s, s = lenT rows k := ⟨_, rfl⟩
      obtain ⟨y, hy⟩ : ∃ y, y = (gr rows k).length := ⟨_, rfl⟩
      obtain ⟨z, hz⟩ : ∃ z, z = lenT rows (k + 1) := ⟨_, rfl⟩
      rw [← hs]
      rw [← hy] at hc1
      rw [← hs, ← hy, ← hz] at e1
      rw [← hz] at e2
      have hw : IntKind.i64.wrap ((s : Int) + (y : Int)) = (z : Int) := by rw [w64 (by omega)]; omega
      have hzn : decide ((z : Int) < 0) = false := by simp
      have Hz2 := Lib.hid hz
      have hy6 : y ≤ 9223372036854775807 := by omega
      clear hr1 hs hz e1 hy
      go_wp2
      go_round
      case rel => exact ⟨k + 1, by omega, by go_num, by rw [Hz2.out]⟩
      case measure => simp [intOf]; omega
    · obtain rfl : k = rows.length := by omega
      have hfl : lenT rows rows.length = rows.flatten.length := by unfold lenT; rw [List.take_length]
      rw [hfl]
      have hf2 := Hf.out
      obtain ⟨L, hL⟩ : ∃ L, L = rows.flatten.length := ⟨_, rfl⟩
      rw [← hL] at hf2 ⊢
      clear hL hfl
      go_wp2_with fail
      refine (growNil_any L w hf2).mono ?_
      rintro e w2 ⟨v, rfl, hv, hb⟩
      have Hv := Lib.hid hv
      have Hb := Lib.hid hb
      clear hv hb
      go_wp2
      go_loopw [6, 27] (fun s i wr => ∃ k : Nat, k ≤ rows.length ∧ i = .int .i64 k ∧ OwnI wr w.heap.size s (rows.take k).flatten ∧ Below w.heap.size w wr) (fun _ i _ => rows.length - (intOf i).toNat)
      case atStart => exact ⟨0, Nat.zero_le _, rfl, Hv.out, Hb.out⟩
      case round =>
        obtain ⟨k, hk, rfl, hown, hbr⟩ := hrel
        have Hown := Lib.hid hown
        have Hbr := Lib.hid hbr
        clear hown hbr
        by_cases hlt : k < rows.length
        · obtain ⟨b1, o1, r1, d1, rfl, hc1, hr1, hd1, hd2⟩ := Hm.out k hlt
          have Hr := Lib.hid (hr1.below Hbr.out)
          have Hzk := Lib.hid (Hz.out k b1 o1 r1 d1 hlt rfl hc1)
          have hc2 := cell_below hc1 Hbr.out
          have Hfit := Lib.hid (show (rows.take k).flatten.length + (gr rows k).length ≤ 1048576 by
            have e1 := lenT_succ hlt
            have e2 := lenT_mono (rows := rows) (k := k + 1) (by omega)
            have e3 := Hf.out
            unfold lenT at e1 e2
            omega)
          obtain ⟨sa, sc, hsr, _, _, _⟩ := Hown.out.read
          subst hsr
          have Hbs := Lib.hid Hbr.out.size
          have Hty := Lib.hid (take_flat hlt)
          clear hr1 hc1 hd1 hd2
          go_wp2_with (at_builtin; refine wpList_appendI rfl _ _ rfl w.heap.size _ _ rfl Hown.out r1 d1 (gr rows k) rfl Hzk.out Hr.out Hfit.out Hbs.out ?_)
          intro v' w5 hown5 _ hb5
          rw [← Hty.out] at hown5
          have Hown5 := Lib.hid hown5
          have Hbr5 := Lib.hid (Hbr.out.trans hb5)
          clear hown5 hb5
          go_wp2
          go_roundw
          case rel => exact ⟨k + 1, by omega, by go_num, Hown5.out, Hbr5.out⟩
          case measure => simp [intOf]; omega
        · obtain rfl : k = rows.length := by omega
          have Hfin := Lib.hid (show OwnI wr w.heap.size _ rows.flatten by have := Hown.out; rw [List.take_length] at this; exact this)
          clear Hown
          go_wp2
          go_ret
          exact ⟨_, rfl, Hfin.out, Hbr.out⟩
end Go.Proofs.Ytfempacfaeknpaa
