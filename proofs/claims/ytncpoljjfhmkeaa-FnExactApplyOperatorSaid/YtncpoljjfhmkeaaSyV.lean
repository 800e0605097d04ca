/- Contracts of the program: the sum of all operators, and a written one, behind the interface. Conditions: as each says. -/
import Derived.Test.YtncpoljjfhmkeaaSyQ
namespace Go.Proofs.Ytncpoljjfhmkeaa
open Go.RowKit

/-- the operators of the first k points, in a row -/
def TotAt (w : World) (v : Value) (l : List (List Int)) (k : Nat) : Prop := ∃ g c, v = .slice (some ⟨g, 0, none⟩) k c ∧ ∀ j, j < k → ∃ a d, w.cell? ⟨g, j, none⟩ = some (.iface 59 (.slice a l.length d)) ∧ IntsAt w a (jnL l j)
theorem TotAt.below {w w' : World} {v : Value} {l : List (List Int)} {k : Nat} (h : TotAt w v l k) (hb : Below w.heap.size w w') : TotAt w' v l k := by
  obtain ⟨g, c, e, hc⟩ := h
  refine ⟨g, c, e, fun j hj => ?_⟩
  obtain ⟨a, d, h1, h2⟩ := hc j hj
  exact ⟨a, d, cell_below h1 hb, h2.below hb⟩

set_option maxRecDepth 100000 in
set_option maxHeartbeats 1600000 in
theorem joiningAtAll_any (n : Nat) (w : World) (h1 : 1 ≤ n) (h4 : n ≤ 4) :
    Calls Try.prog 72 #[.int .i64 (n : Int)] w fun e w' => ∃ v, e = .returned v ∧ TotAt w' v (patP 6 n) (2 * n) ∧ Below w.heap.size w w' := by
  obtain ⟨i0, hi0, hz0, hz1, hz2⟩ := info_parts Try.info_opr
  have CJ := Lib.hid (fun i w h => joiningAt_any n i w h1 h4 h)
  obtain ⟨l, hl⟩ : ∃ l, l = patP 6 n := ⟨_, rfl⟩
  rw [← hl] at CJ ⊢
  clear hl
  obtain ⟨K, hK⟩ : ∃ K : Nat, 2 * (n : Int) = (K : Int) := ⟨2 * n, by omega⟩
  have hK8 : K ≤ 8 := by omega
  have HK := Lib.hid (show K = 2 * n by omega)
  rw [← HK.out]
  go_enter Try.func72, Try.ntmps72
  go_wp2_with (at_make; refine wpList_make_full _ rfl _ _ 62 rfl w.heap.size 83 i0 .nilIface 1 Try.underlying62 hi0 hz0 hz1 _ _ _ _ K rfl rfl rfl rfl ?c1 ?c2 ?c3 ?_)
  case c1 => rw [hz2]; omega
  case c2 => unfold maxLen; omega
  case c3 => simp
  intro w2 hown hgr
  have Hb2 := Lib.hid ((Below.refl _ _).grown hgr (Nat.le_refl _) (fun _ h => by cases h))
  have hsz : w.heap.size + 1 ≤ w2.heap.size := by
    have := (World.ownsRow.lt hown w.heap.size rfl).2
    omega
  have Hown2 := Lib.hid hown
  clear hown hgr
  go_wp2
  go_loopw [10] (fun x wr => ∃ (t : Nat) (xs : List Value), t ≤ K ∧ x = .int .i64 t ∧ wr.ownsRow w.heap.size 83 1 (.slice (some ⟨w.heap.size, 0, none⟩) K K) K xs ∧ (∀ j, j < t → ∃ a d, xs.getD j undef = .iface 59 (.slice a l.length d) ∧ OwnI wr (w.heap.size + 1) (.slice a l.length d) (jnL l j)) ∧ w.heap.size + 1 ≤ wr.heap.size ∧ Below w.heap.size w wr) (fun x _ => K - (intOf x).toNat)
  case atStart => exact ⟨0, _, Nat.zero_le _, rfl, Hown2.out, fun j hj => absurd hj (by omega), hsz, Hb2.out⟩
  case round =>
    obtain ⟨t, xs, ht, rfl, hown, hd, hsr, hbr⟩ := hrel
    have Hown := Lib.hid hown
    have Hd := Lib.hid hd
    have Hbr := Lib.hid hbr
    have Hsr := Lib.hid hsr
    clear hown hd hbr Hown2 Hb2 hsr hsz
    by_cases hlt : t < K
    · go_wp2_with fail
      refine (CJ.out t wr (by have := HK.out; omega)).mono ?_
      rintro e w3 ⟨a, d, rfl, hv, hb⟩
      have hown3 := ownsRow_below Hown.out hb
      have hl : xs.length = K := by simpa using hown3.1
      have hd3 : w3.cell? ⟨w.heap.size, t, none⟩ = some (xs.getD t undef) := by
        rw [World.ownsRow.cellAt hown3 t (by omega), List.getD, List.getElem?_eq_getElem (by omega)]; rfl
      have hf3 := World.ownsRow.frozenAt hown3 t
      have Hst := Lib.hid (World.ownsRow.stored hown3 t (.iface 59 (.slice a l.length d))).1
      have Hbs := Lib.hid ((Hbr.out.trans (hb.mono Hbr.out.size)).setCell (p := ⟨w.heap.size, t, none⟩) (Nat.le_refl _) (.iface 59 (.slice a l.length d)))
      have hne : ∀ (u : Value) (q : List Int) (W : World), OwnI W (w.heap.size + 1) u q → u.ownBlock ≠ some (⟨w.heap.size, t, none⟩ : Addr).block := fun u q W h e => by
        have := (h.lt _ e).1
        simp at this
        omega
      have Hnew := Lib.hid (show ∀ j, j < t + 1 → ∃ a' d', (xs.set t (.iface 59 (.slice a l.length d))).getD j undef = .iface 59 (.slice a' l.length d') ∧ OwnI (w3.setCell ⟨w.heap.size, t, none⟩ (.iface 59 (.slice a l.length d))) (w.heap.size + 1) (.slice a' l.length d') (jnL l j) from fun j hj => by
        simp only [List.getD, List.getElem?_set]
        by_cases e : j = t
        · subst e
          have hv2 := hv.base Hsr.out
          exact ⟨a, d, by rw [if_pos rfl, if_pos (by omega)]; rfl, hv2.setOther (hne _ _ _ hv2) _⟩
        · obtain ⟨a', d', h5, h6⟩ := Hd.out j (by omega)
          have h7 := h6.below hb
          exact ⟨a', d', by rw [if_neg (fun h => e h.symm)]; exact h5, h7.setOther (hne _ _ _ h7) _⟩)
      have Hsz := Lib.hid (show w.heap.size + 1 ≤ (w3.setCell ⟨w.heap.size, t, none⟩ (.iface 59 (.slice a l.length d))).heap.size by
        have h8 := Hsr.out
        have h9 := hb.size
        simp [World.setCell]
        omega)
      clear hv hb hown3 hl hne
      go_wp2
      go_roundw
      case rel => exact ⟨t + 1, _, by omega, by go_num, Hst.out, Hnew.out, Hsz.out, Hbs.out⟩
      case measure => simp [intOf]; omega
    · obtain rfl : t = K := by omega
      have hl : xs.length = t := by simpa using Hown.out.1
      have Hfin := Lib.hid (show TotAt wr (.slice (some ⟨w.heap.size, 0, none⟩) t t) l t from ⟨_, _, rfl, fun j hj => by
        obtain ⟨a', d', h5, h6⟩ := Hd.out j hj
        refine ⟨a', d', ?_, own_at h6⟩
        rw [World.ownsRow.cellAt Hown.out j (by omega), ← h5, List.getD, List.getElem?_eq_getElem (by omega)]
        rfl⟩)
      clear hl
      go_wp2
      go_ret
      exact ⟨_, rfl, Hfin.out, Hbr.out⟩

theorem ttSize_any (v : Value) (l : List (List Int)) (k : Nat) (w : World) (hl : l.length ≤ 14) (hk : 1 ≤ k) (hk8 : k ≤ 8) (h : TotAt w v l k) :
    Calls Try.prog 82 #[v] w fun e w' => e = .returned (.int .i64 (l.length : Int)) ∧ w' = w := by
  obtain ⟨g, c, rfl, hc⟩ := h
  obtain ⟨a, d, hc0, hx⟩ := hc 0 (by omega)
  have CS := Lib.hid (jnSize_any (.slice a l.length d) l 0 w hl ⟨a, d, rfl, hx⟩)
  have hmt := fun w' => method_jn_size a l.length d w'
  have hna := fun w' => ahead_jn_size a l.length d w'
  clear hc hx
  go_enter Try.func82, Try.ntmps82
  go_wp2_with fail
  refine CS.out.mono ?_
  rintro e w2 ⟨rfl, rfl⟩
  go_wp2
  go_ret
  exact ⟨rfl, rfl⟩

set_option maxRecDepth 100000 in
set_option maxHeartbeats 800000 in
theorem ttAt1_any (a : Option Addr) (d : Nat) (l : List (List Int)) (i r c g1 g2 : Nat) (w : World) (hl : l.length ≤ 14) (hr : r < l.length) (hc : c < l.length) (hx : IntsAt w a (jnL l i)) (hc1 : w.cell? ⟨g1, 0, none⟩ = some (.int .i64 (r : Int))) (hc2 : w.cell? ⟨g2, 0, none⟩ = some (.int .i64 (c : Int))) :
    Calls Try.prog 154 #[.iface 59 (.slice a l.length d), .pointer (some ⟨g1, 0, none⟩), .pointer (some ⟨g2, 0, none⟩)] w fun e w' => e = .returned (.int .i64 (opN l i r c)) ∧ w' = w := by
  have CA := Lib.hid (jnAt_any (.slice a l.length d) l i r c w hl hr hc ⟨a, d, rfl, hx⟩)
  have hmt := fun w' => method_jn_at a l.length d w'
  have hna := fun w' => ahead_jn_at a l.length d w'
  clear hx
  go_enter Try.func154, Try.ntmps154
  go_wp2_with fail
  refine CA.out.mono ?_
  rintro e w2 ⟨rfl, rfl⟩
  go_wp2
  go_ret
  exact ⟨rfl, rfl⟩

set_option maxRecDepth 100000 in
set_option maxHeartbeats 800000 in
theorem sumOfOps_any (g cp k : Nat) (l : List (List Int)) (r c g1 g2 : Nat) (w : World) (hl : l.length ≤ 14) (hk8 : k ≤ 8) (hr : r < l.length) (hc : c < l.length) (hx : TotAt w (.slice (some ⟨g, 0, none⟩) k cp) l k) (hc1 : w.cell? ⟨g1, 0, none⟩ = some (.int .i64 (r : Int))) (hc2 : w.cell? ⟨g2, 0, none⟩ = some (.int .i64 (c : Int))) :
    Calls Try.prog 153 #[.slice (some ⟨g, 0, none⟩) k cp, .func (.func 154) #[] #[.pointer (some ⟨g1, 0, none⟩), .pointer (some ⟨g2, 0, none⟩)]] w fun e w' => e = .returned (.int .i64 (sumN l k r c)) ∧ w' = w := by
  obtain ⟨g', c', e, hcs⟩ := hx
  simp only [Value.slice.injEq, Option.some.injEq, Addr.mk.injEq, and_true, true_and] at e
  obtain ⟨rfl, rfl⟩ := e
  have Hcs := Lib.hid hcs
  have Hc1 := Lib.hid hc1
  have Hc2 := Lib.hid hc2
  clear hcs hc1 hc2
  go_enter Try.func153, Try.ntmps153
  go_wp2
  go_loop [5, 10] (fun s x => ∃ t : Nat, t ≤ k ∧ x = .int .i64 t ∧ s = .int .i64 (sumN l t r c)) (fun _ x => k - (intOf x).toNat)
  case atStart => exact ⟨0, Nat.zero_le _, rfl, rfl⟩
  case round =>
    obtain ⟨t, ht, rfl, rfl⟩ := hrel
    by_cases hlt : t < k
    · obtain ⟨a, d, hct, hxt⟩ := Hcs.out t hlt
      have CA := Lib.hid (ttAt1_any a d l t r c g1 g2 w hl hr hc hxt Hc1.out Hc2.out)
      have h1 := sumN_in l t r c
      have h2 := opN_01 l t r c
      have HS := Lib.hid (show sumN l (t + 1) r c = sumN l t r c + opN l t r c from rfl)
      obtain ⟨s, hs⟩ : ∃ s, s = sumN l t r c := ⟨_, rfl⟩
      obtain ⟨x, hx⟩ : ∃ x, x = opN l t r c := ⟨_, rfl⟩
      rw [← hs] at h1 HS ⊢
      rw [← hx] at h2 HS CA
      clear hs hx hxt
      go_wp2_with fail
      refine CA.out.mono ?_
      rintro e w2 ⟨rfl, rfl⟩
      go_wp2
      go_round
      case rel => exact ⟨t + 1, by omega, by go_num, by rw [HS.out]⟩
      case measure => simp [intOf]; omega
    · obtain rfl : t = k := by omega
      go_wp2
      go_ret
      exact ⟨rfl, rfl⟩

set_option maxRecDepth 100000 in
set_option maxHeartbeats 800000 in
theorem ttAt_any (v : Value) (l : List (List Int)) (k r c : Nat) (w : World) (hl : l.length ≤ 14) (hk8 : k ≤ 8) (hr : r < l.length) (hc : c < l.length) (h : TotAt w v l k) :
    Calls Try.prog 152 #[v, .int .i64 (r : Int), .int .i64 (c : Int)] w fun e w' => e = .returned (.int .i64 (sumN l k r c)) ∧ Below w.heap.size w w' := by
  have h' := h
  obtain ⟨g, cp, rfl, _⟩ := h'
  have HB := Lib.hid (((Below.refl w.heap.size w).alloc (Nat.le_refl _) (.cells #[.int .i64 (r : Int)] 3)).alloc (by simp) (.cells #[.int .i64 (c : Int)] 3))
  have CS := Lib.hid (sumOfOps_any g cp k l r c w.heap.size (w.heap.size + 1) ((w.alloc (.cells #[.int .i64 (r : Int)] 3)).alloc (.cells #[.int .i64 (c : Int)] 3)) hl hk8 hr hc (h.below HB.out) (by rw [cell_of_row _ _ 0 _ _ _ (heap_alloc2_old w _ _)]; rfl) (by rw [cell_of_row _ _ 0 _ _ _ (heap_alloc2_new w _ _)]; rfl))
  clear h
  go_enter Try.func152, Try.ntmps152
  go_wp2_with fail
  refine CS.out.mono ?_
  rintro e w2 ⟨rfl, rfl⟩
  go_wp2
  go_ret
  exact ⟨rfl, HB.out⟩

/-- a written operator -/
theorem wrSize_any (ao : Option Addr) (c : Nat) (m : List (List Int)) (w : World) (hl : m.length ≤ 14) :
    Calls Try.prog 156 #[.slice ao m.length c] w fun e w' => e = .returned (.int .i64 (m.length : Int)) ∧ w' = w := by
  have hm : m.length ≤ 9223372036854775807 := by omega
  go_enter Try.func156, Try.ntmps156
  go_wp2
  go_ret
  exact ⟨rfl, rfl⟩
theorem wrAt_any (ao : Option Addr) (cp : Nat) (m : List (List Int)) (r c : Nat) (w : World) (hl : m.length ≤ 14) (hr : r < m.length) (hrow : (gr m r).length = m.length) (hc : c < m.length) (hm : MatAt w ao m) :
    Calls Try.prog 155 #[.slice ao m.length cp, .int .i64 (r : Int), .int .i64 (c : Int)] w fun e w' => e = .returned (.int .i64 (gi (gr m r) c)) ∧ w' = w := by
  have hml : m.length ≤ 9223372036854775807 := by omega
  obtain ⟨b, o, a, d, rfl, hc1, hx, _, _⟩ := hm r hr
  obtain ⟨b2, o2, rfl, hc2⟩ := hx c (by omega)
  rw [hrow] at hc1
  obtain ⟨x, hxe⟩ : ∃ x, x = gi (gr m r) c := ⟨_, rfl⟩
  rw [← hxe] at hc2 ⊢
  clear hxe hx hm hrow
  go_enter Try.func155, Try.ntmps155
  go_wp2
  go_ret
  exact ⟨rfl, rfl⟩
end Go.Proofs.Ytncpoljjfhmkeaa
