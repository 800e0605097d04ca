/- Contracts of the program: the operator of a point, and all of them, behind the interface. Conditions: as each says. -/
import Derived.Test.YtncpoljjfhmkeaaSyK
import Derived.Test.YtncpoljjfhmkeaaSyO
namespace Go.Proofs.Ytncpoljjfhmkeaa
open Go.RowKit

/-- the ranks of the joined patterns -/
def jnL (l : List (List Int)) (i : Nat) : List Int := (List.range l.length).map fun c => (rk l (joinL (gr l c) i) : Int)
theorem jnL_len (l : List (List Int)) (i : Nat) : (jnL l i).length = l.length := by simp [jnL]
theorem jnL_at {l : List (List Int)} {i c : Nat} (h : c < l.length) : gi (jnL l i) c = (rk l (joinL (gr l c) i) : Int) := gi_row h
theorem opN_at {l : List (List Int)} {i r c : Nat} (h : c < l.length) : opN l i r c = if gi (jnL l i) c = (r : Int) then 1 else 0 := by
  rw [jnL_at h]
  unfold opN
  by_cases e : rk l (joinL (gr l c) i) = r
  · rw [if_pos e, if_pos (by omega)]
  · rw [if_neg e, if_neg (by omega)]

set_option maxRecDepth 100000 in
set_option maxHeartbeats 1600000 in
theorem joiningAt_any (n i : Nat) (w : World) (h1 : 1 ≤ n) (h4 : n ≤ 4) (hi : i < 2 * n) :
    Calls Try.prog 70 #[.int .i64 (n : Int), .int .i64 (i : Int)] w fun e w' => ∃ a c, e = .returned (.slice a (patP 6 n).length c) ∧ OwnI w' w.heap.size (.slice a (patP 6 n).length c) (jnL (patP 6 n) i) ∧ Below w.heap.size w w' := by
  obtain ⟨i0, hi0, hz0, hz1, hz2⟩ := info_parts Try.info_int
  have CL := Lib.hid (patterns4_any n w h4)
  have Hsh := Lib.hid (patP_short (n := n) (by omega))
  have hl14 := Hsh.out.1
  have Hlk := Lib.hid (fun p hp => patP_lk (n := n) h1 (by omega) (p := p) hp)
  have Hlen := Lib.hid (fun p hp => patP_len (n := n) (by omega) (p := p) hp)
  have Hjm := Lib.hid (fun p hp => join_mem (n := n) (by omega) (p := p) hp hi)
  obtain ⟨l, hl⟩ : ∃ l, l = patP 6 n := ⟨_, rfl⟩
  rw [← hl] at CL Hsh hl14 Hlk Hlen Hjm ⊢
  clear hl
  have hlm : l.length ≤ 9223372036854775807 := by omega
  go_enter Try.func70, Try.ntmps70
  go_wp2_with fail
  refine CL.out.mono ?_
  rintro e w1 ⟨la, lc, rfl, hv, hb⟩
  have Hb1 := Lib.hid hb
  have HBs := Lib.hid hb.size
  obtain ⟨_, _, hve, _, _, hm⟩ := hv.read
  have hve2 := (Value.slice.injEq _ _ _ _ _ _).mp hve
  obtain ⟨rfl, -, rfl⟩ := hve2
  have Hm := Lib.hid hm
  clear hb hv hve hm CL
  go_wp2_with (at_make; refine wpList_make_full _ rfl _ _ 59 rfl w1.heap.size 3 i0 (.int .i64 0) 1 Try.underlying59 hi0 hz0 hz1 _ _ _ _ l.length rfl rfl rfl rfl ?c1 ?c2 ?c3 ?_)
  case c1 => rw [hz2]; omega
  case c2 => unfold maxLen; omega
  case c3 => simp
  intro w2 hown hgr
  have Hb2 := Lib.hid ((Below.refl _ _).grown hgr (Nat.le_refl _) (fun _ h => by cases h))
  have Hown2 := Lib.hid (OwnI.made hown)
  clear hown hgr
  go_wp2
  go_loopw [16] (fun x wr => ∃ (k : Nat) (q : List Int), k ≤ l.length ∧ x = .int .i64 k ∧ OwnI wr w1.heap.size (.slice (some ⟨w1.heap.size, 0, none⟩) l.length l.length) q ∧ (∀ j, j < k → gi q j = (rk l (joinL (gr l j) i) : Int)) ∧ Below w1.heap.size w1 wr) (fun x _ => l.length - (intOf x).toNat)
  case atStart => exact ⟨0, _, Nat.zero_le _, rfl, Hown2.out, fun j hj => absurd hj (by omega), Hb2.out⟩
  case round =>
    obtain ⟨k, q, hk, rfl, hown, hd, hbr⟩ := hrel
    have Hown := Lib.hid hown
    have Hd := Lib.hid hd
    have Hbr := Lib.hid hbr
    clear hown hd hbr Hown2 Hb2
    by_cases hlt : k < l.length
    · obtain ⟨b1, o1, r1, d1, rfl, hc1, hx1, _, _⟩ := Hm.out.below Hbr.out k hlt
      have hlk := Hlk.out _ (gr_mem hlt)
      have hlen := Hlen.out _ (gr_mem hlt)
      have CJ := Lib.hid (joined_any r1 d1 (gr l k) i wr hlk (by omega) hx1)
      have hmem := Hjm.out _ (gr_mem hlt)
      have Hmem := Lib.hid hmem
      have hgl : (gr l k).length ≤ 9223372036854775807 := by have := hlk.hi; omega
      have HJl := Lib.hid (show (joinL (gr l k) i).length ≤ 12 by rw [joinL_len]; exact hlk.hi)
      obtain ⟨J, hJ⟩ : ∃ J, J = joinL (gr l k) i := ⟨_, rfl⟩
      have HJ := Lib.hid hJ
      rw [← hJ] at CJ Hmem HJl
      obtain ⟨G, hG⟩ : ∃ G, G = gr l k := ⟨_, rfl⟩
      rw [← hG] at hc1 CJ hgl
      clear hmem hJ hG hlk hlen hx1
      go_wp2_with fail
      refine CJ.out.mono ?_
      rintro e w3 ⟨v, rfl, hv, hb⟩
      obtain ⟨ja, jc, rfl, hj1, hj2, hji⟩ := hv.read
      have Hb3 := Lib.hid (Hbr.out.trans (hb.mono Hbr.out.size))
      have Hown3 := Lib.hid (Hown.out.below hb)
      have CR := Lib.hid (indexOf_any (some ⟨b1, o1, none⟩) ja lc jc l J w3 Hsh.out HJl.out (Hm.out.below Hb3.out) hji)
      rw [ixOf_in Hmem.out] at CR
      obtain ⟨R, hR⟩ : ∃ R, rk l J = R := ⟨_, rfl⟩
      have HR := Lib.hid hR
      rw [hR] at CR
      clear hv hb hji hj1 hj2 CJ Hown Hbr hR
      go_wp2_with fail
      refine CR.out.mono ?_
      rintro e w4 ⟨rfl, hb⟩
      have Hb4 := Lib.hid (Hb3.out.trans (hb.mono Hb3.out.size))
      have hown4 := Hown3.out.below hb
      have hl := hown4.len
      have hd := hown4.cellAt k hlt
      have hf := hown4.frozenAt k
      have Hst := Lib.hid (hown4.store k (R : Int))
      have Hbs := Lib.hid (Hb4.out.setCell (p := ⟨w1.heap.size, k, none⟩) (Nat.le_refl _) (.int .i64 (R : Int)))
      have Hd2 := Lib.hid (show ∀ j, j < k + 1 → gi (q.set k (R : Int)) j = (rk l (joinL (gr l j) i) : Int) from fun j hj => by
        rw [gi_set (by omega)]
        by_cases e : j = k
        · rw [if_pos e, e, ← HJ.out, HR.out]
        · rw [if_neg e]; exact Hd.out j (by omega))
      clear hb CR Hb3 Hown3 hown4 hl
      go_wp2
      go_roundw
      case rel => exact ⟨k + 1, _, by omega, by go_num, Hst.out, Hd2.out, Hbs.out⟩
      case measure => simp [intOf]; omega
    · obtain rfl : k = l.length := by omega
      have Hfin := Lib.hid (show q = jnL l i from ext_gi (by rw [jnL_len]; exact Hown.out.len) fun j hj => by
        have hj2 : j < l.length := by rw [← Hown.out.len]; exact hj
        rw [Hd.out j hj2, jnL_at hj2])
      have HB := Lib.hid (Hb1.out.trans (Hbr.out.mono Hb1.out.size))
      go_wp2
      go_ret
      exact ⟨_, _, rfl, by rw [← Hfin.out]; exact Hown.out.base Hb1.out.size, HB.out⟩

/-- the operator of a point -/
def JnAt (w : World) (v : Value) (l : List (List Int)) (i : Nat) : Prop := ∃ a c, v = .slice a l.length c ∧ IntsAt w a (jnL l i)
theorem JnAt.below {w w' : World} {v : Value} {l : List (List Int)} {i : Nat} (h : JnAt w v l i) (hb : Below w.heap.size w w') : JnAt w' v l i := by
  obtain ⟨a, c, e, hx⟩ := h
  exact ⟨a, c, e, hx.below hb⟩

theorem jnSize_any (v : Value) (l : List (List Int)) (i : Nat) (w : World) (hl : l.length ≤ 14) (h : JnAt w v l i) :
    Calls Try.prog 151 #[v] w fun e w' => e = .returned (.int .i64 (l.length : Int)) ∧ w' = w := by
  obtain ⟨a, c, rfl, _⟩ := h
  have hm : l.length ≤ 9223372036854775807 := by omega
  go_enter Try.func151, Try.ntmps151
  go_wp2
  go_ret
  exact ⟨rfl, rfl⟩

theorem jnAt_any (v : Value) (l : List (List Int)) (i r c : Nat) (w : World) (hl : l.length ≤ 14) (hr : r < l.length) (hc : c < l.length) (h : JnAt w v l i) :
    Calls Try.prog 150 #[v, .int .i64 (r : Int), .int .i64 (c : Int)] w fun e w' => e = .returned (.int .i64 (opN l i r c)) ∧ w' = w := by
  obtain ⟨a, cp, rfl, hx⟩ := h
  have hm : l.length ≤ 9223372036854775807 := by omega
  obtain ⟨b, o, rfl, hcell⟩ := hx c (by rw [jnL_len]; exact hc)
  have HO := Lib.hid (opN_at (l := l) (i := i) (r := r) hc)
  obtain ⟨x, hxe⟩ : ∃ x, x = gi (jnL l i) c := ⟨_, rfl⟩
  rw [← hxe] at hcell HO
  clear hxe hx
  by_cases e : x = (r : Int)
  · have hne : (x == (r : Int)) = true := by simp [e]
    have HO2 := Lib.hid (HO.out.trans (if_pos e))
    clear e
    go_enter Try.func150, Try.ntmps150
    go_wp2
    go_ret
    exact ⟨by rw [HO2.out]; rfl, rfl⟩
  · have hne : (x == (r : Int)) = false := by simp [e]
    have HO2 := Lib.hid (HO.out.trans (if_neg e))
    clear e
    go_enter Try.func150, Try.ntmps150
    go_wp2
    go_ret
    exact ⟨by rw [HO2.out]; rfl, rfl⟩

theorem method_jn_size (a : Option Addr) (k c : Nat) (w : World) : (method 240 59 (.slice a k c) "loop.example/g01123/impl.size").run Try.prog w = .ok (151, .slice a k c) w := by kernel_rfl
theorem method_jn_at (a : Option Addr) (k c : Nat) (w : World) : (method 240 59 (.slice a k c) "loop.example/g01123/impl.at").run Try.prog w = .ok (150, .slice a k c) w := by kernel_rfl
theorem ahead_jn_size (a : Option Addr) (k c : Nat) (w : World) : (nilAhead 240 59 (.slice a k c) "loop.example/g01123/impl.size").run Try.prog w = .ok (some false) w := by kernel_rfl
theorem ahead_jn_at (a : Option Addr) (k c : Nat) (w : World) : (nilAhead 240 59 (.slice a k c) "loop.example/g01123/impl.at").run Try.prog w = .ok (some false) w := by kernel_rfl
theorem method_tt_size (a : Option Addr) (k c : Nat) (w : World) : (method 240 62 (.slice a k c) "loop.example/g01123/impl.size").run Try.prog w = .ok (82, .slice a k c) w := by kernel_rfl
theorem method_tt_at (a : Option Addr) (k c : Nat) (w : World) : (method 240 62 (.slice a k c) "loop.example/g01123/impl.at").run Try.prog w = .ok (152, .slice a k c) w := by kernel_rfl
theorem ahead_tt_size (a : Option Addr) (k c : Nat) (w : World) : (nilAhead 240 62 (.slice a k c) "loop.example/g01123/impl.size").run Try.prog w = .ok (some false) w := by kernel_rfl
theorem ahead_tt_at (a : Option Addr) (k c : Nat) (w : World) : (nilAhead 240 62 (.slice a k c) "loop.example/g01123/impl.at").run Try.prog w = .ok (some false) w := by kernel_rfl
theorem method_wr_size (a : Option Addr) (k c : Nat) (w : World) : (method 240 67 (.slice a k c) "loop.example/g01123/impl.size").run Try.prog w = .ok (156, .slice a k c) w := by kernel_rfl
theorem method_wr_at (a : Option Addr) (k c : Nat) (w : World) : (method 240 67 (.slice a k c) "loop.example/g01123/impl.at").run Try.prog w = .ok (155, .slice a k c) w := by kernel_rfl
theorem ahead_wr_size (a : Option Addr) (k c : Nat) (w : World) : (nilAhead 240 67 (.slice a k c) "loop.example/g01123/impl.size").run Try.prog w = .ok (some false) w := by kernel_rfl
theorem ahead_wr_at (a : Option Addr) (k c : Nat) (w : World) : (nilAhead 240 67 (.slice a k c) "loop.example/g01123/impl.at").run Try.prog w = .ok (some false) w := by kernel_rfl
theorem Try.info_opr : (Try.prog.info? 83).map (fun i => (i.zero, i.size, i.bytes)) = some (some .nilIface, 1, 16) := by kernel_rfl
end Go.Proofs.Ytncpoljjfhmkeaa
