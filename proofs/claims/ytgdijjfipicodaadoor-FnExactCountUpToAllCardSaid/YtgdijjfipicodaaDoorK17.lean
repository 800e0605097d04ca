/- Parts of proofs: contracts and plain facts. Conditions: as each says. -/
import Derived.Test.YtgdijjfipicodaaDoorK16
import Derived.Test.YtgdijjfipicodaaDoorRows
import Derived.Deep.RegionWith
import Derived.ProofKit
import Derived.OpenShut
import Derived.ShutString
import Derived.ChangeOld
import Derived.Deep.Matrix
import Derived.Test.YtgdijjfipicodaaDoorTie
import Derived.Test.YtgdijjfipicodaaDoorCards
import Derived.Shelf.Vars
import Derived.Lay
import Derived.SevenTiedAt
import Derived.HandedShaped
import Derived.LaidMore
import Derived.Stop.Joined
namespace Go.Proofs.YtgdijjfipicodaaDoor
open Go.RowKit

def ptA (v : Value) (n : Int) : Array Value := #[v, .int .i64 n]
theorem pt_one (a : Option Addr) (l c : Nat) (n : Int) : (ptA (.slice a l c) n).all (·.oneCell') = true := by simp [ptA, Value.oneCell']
theorem pt_same (u v : Value) (n k : Int) : (ptA u n).size = (ptA v k).size := rfl
end Go.Proofs.YtgdijjfipicodaaDoor

namespace Go.Proofs.YtgdijjfipicodaaDoor
open Go.RowKit

set_option maxRecDepth 100000 in
set_option maxHeartbeats 800000 in
theorem allIn_any (lo hi : Int) (ao : Option Addr) (c : Nat) (xs : List Int) (w : World) (hn : xs.length ≤ 1048576) (hx : IntsAt w ao xs) :
    Calls Tryd.prog 49 #[.int .i64 lo, .int .i64 hi, .slice ao xs.length c] w fun e w' => Ans (allIn xs lo hi) e ∧ w = w' := by
  have hmx : xs.length ≤ 9223372036854775807 := by omega
  have Hx := Lib.hid hx
  clear hx
  go_enter Tryd.func49, Tryd.ntmps49
  go_wp2
  go_loop [11] (fun i => ∃ k : Nat, k ≤ xs.length ∧ i = .int .i64 k ∧ ∀ j, j < k → lo ≤ gi xs j ∧ gi xs j ≤ hi) (fun i => xs.length - (intOf i).toNat)
  case atStart => exact ⟨0, Nat.zero_le _, rfl, fun j hj => absurd hj (by omega)⟩
  case round =>
    obtain ⟨k, hk, rfl, hd⟩ := hrel
    have Hd := Lib.hid hd
    clear hd
    by_cases hlt : k < xs.length
    · obtain ⟨b1, o1, rfl, hc1⟩ := Hx.out k hlt
      by_cases h1 : gi xs k < lo
      · have d1 : decide (gi xs k < lo) = true := by simp [h1]
        have Hn := Lib.hid (show ¬ allIn xs lo hi from fun h => by have := (h k hlt).1; omega)
        clear h1
        go_wp2
        go_ret
        exact ⟨Ans.no Hn.out, rfl⟩
      · have d1 : decide (gi xs k < lo) = false := by simp; omega
        by_cases h2 : hi < gi xs k
        · have d2 : decide (hi < gi xs k) = true := by simp [h2]
          have Hn := Lib.hid (show ¬ allIn xs lo hi from fun h => by have := (h k hlt).2; omega)
          clear h1 h2
          go_wp2
          go_ret
          exact ⟨Ans.no Hn.out, rfl⟩
        · have d2 : decide (hi < gi xs k) = false := by simp; omega
          have Hin := Lib.hid (show lo ≤ gi xs k ∧ gi xs k ≤ hi by omega)
          clear h1 h2
          go_wp2
          go_round
          case rel =>
            refine ⟨k + 1, by omega, by go_num, fun j hj => ?_⟩
            by_cases e : j = k
            · subst e; exact Hin.out
            · exact Hd.out j (by omega)
          case measure => simp [intOf]; omega
    · obtain rfl : k = xs.length := by omega
      go_wp2
      go_ret
      exact ⟨Ans.yes Hd.out, rfl⟩

end Go.Proofs.YtgdijjfipicodaaDoor

namespace Go.Proofs.YtgdijjfipicodaaDoor
open Go.RowKit

theorem allIn_oneH {n lo hi : Int} : allIn [n] lo hi ↔ lo ≤ n ∧ n ≤ hi := by
  constructor
  · intro h
    exact h 0 (by simp)
  · intro h k hk
    obtain rfl : k = 0 := by simp at hk; omega
    exact h
theorem ints_oneH (w : World) (n : Int) : IntsAt (w.alloc (.cells #[.int .i64 n] 3)) (some ⟨w.heap.size, 0, none⟩) [n] := by
  intro k hk
  obtain rfl : k = 0 := by simp at hk; omega
  refine ⟨w.heap.size, 0, rfl, ?_⟩
  rw [cell_of_row _ _ 0 _ _ _ (heap_alloc_new w _)]
  rfl
theorem wfI_tab {n c : Nat} {f : Nat → Nat → Int} (h : ∀ i j, i < n → j < c → -9223372036854775808 ≤ f i j ∧ f i j ≤ 9223372036854775807) : WfM (tab n c f) := by
  intro i hi j hj
  rw [tab_len] at hi
  rw [tab_row hi] at hj
  rw [gi_tab hi hj]
  exact h i j hi hj

/-- integers copied into a row of an owned grid, from a slice that may be nil -/
theorem wpList_copy_gridZ {w : World} {ops : Array Oper} {rest : List Oper} {o : Oper} {a : Act} {QQ : Exit → Act → World → Prop} (hgd : o.guard = none) (d s : Operand)
    (ho : o.op = .call { callee := .builtin .copy, args := #[d, s], argTypes := #[42, 42] }) {B n c : Nat} {v : Value} {f : Nat → Nat → Int} {vs : List Value} (hown : OwnP w B v n (tab n c f) n vs)
    (i off : Nat) (hi : i < n) (xs : List Int) (hfit : off + xs.length ≤ c) (g cap : Nat) (hvs : vs.getD i undef = .slice (some ⟨g, 0, none⟩) c cap) (dLen dCap sCap : Nat) (sp : Option Addr)
    (hd : a.eval d = .slice (some ⟨g, off, none⟩) dLen dCap) (hmin : xs.length ≤ dLen) (hs : a.eval s = .slice sp xs.length sCap) (hx : IntsAt w sp xs)
    (h : ∀ w', OwnP w' B v n (tab n c fun a b => if a = i ∧ off ≤ b ∧ b < off + xs.length then gi xs (b - off) else f a b) n vs → Below B w w' → wpList Tryd.prog ops QQ rest (a.put o.dst (goInt xs.length)) w') :
    wpList Tryd.prog ops QQ (o :: rest) a w := by
  by_cases h0 : xs.length = 0
  · refine wpList_copy_nothing hgd d s 42 42 ho 3 Tryd.underlying42 (by kernel_rfl) (some ⟨g, off, none⟩) sp dLen dCap xs.length sCap hd hs (by rw [h0]; exact Nat.zero_min _) ?_
    have e : (fun a b => if a = i ∧ off ≤ b ∧ b < off + xs.length then gi xs (b - off) else f a b) = f := by
      funext a b
      rw [if_neg (by omega)]
    have k := h w (by rw [e]; exact hown) (Below.refl _ _)
    rw [h0] at k
    exact k
  · obtain ⟨b2, o2, e, _⟩ := hx 0 (by omega)
    subst e
    exact wpList_copy_grid hgd d s ho hown i off hi xs hfit g cap hvs dLen dCap sCap b2 o2 hd hmin hs hx h

theorem lhF_wf {rows : List (List Int)} (hwf : WfM rows) (h : lhP rows) : WfM (lhM rows) := by
  refine wfI_tab fun i j hi hj => ?_
  unfold lhF
  have hl := h.2.2.2 i hi
  split
  · exact hwf i hi j (by omega)
  · split
    · omega
    · exact hwf i hi _ (by have := h.2.2.1; omega)
theorem lhM_small {rows : List (List Int)} (h : lhP rows) : Small (lhM rows) := ⟨by rw [lhM_len]; have := h.2.1; omega, fun i hi => by rw [lhM_len] at hi; unfold lhM; rw [tab_row hi]; have := h.2.1; omega⟩
theorem lhM_tab {rows : List (List Int)} {f : Nat → Nat → Int} (h : ∀ a b, a < rows.length → b < rows.length → f a b = lhF rows a b) : tab rows.length rows.length f = lhM rows :=
  eq_tab (tab_len _ _ _) (fun i hi => tab_row hi) fun i j hi hj => by rw [gi_tab hi hj, h i j hi hj]

end Go.Proofs.YtgdijjfipicodaaDoor

namespace Go.Proofs.YtgdijjfipicodaaDoor
open Go.RowKit

theorem OwnRL.same {w w' : World} {B : Nat} {v : Value} {ts : List (List (List Int))} {vs : List Value} (h : OwnRL w B v ts vs) (hs : Same B w.heap.size w w') : OwnRL w' B v ts vs :=
  ⟨ownsRow_same h.top hs, fun i hi => by
    obtain ⟨us, h1⟩ := h.each i hi
    exact ⟨us, ownsRow_same h1.top hs, fun j hj => ownsRow_same (h1.rows j hj) hs⟩⟩

theorem sumF_idC (xs : List Int) : ∀ k, sumF (fun i => idI (gi xs i)) k = sumK xs k
  | 0 => rfl
  | k + 1 => by
    show sumF (fun i => idI (gi xs i)) k + idI (gi xs k) = sumK xs k + gi xs k
    rw [sumF_idC xs k]
    rfl
/-- eight counts in a variable -/
def hvA (hs : List Int) : Array Value := (hs.map (Value.int .i64)).toArray
def HvAt (w : World) (g : Nat) (hs : List Int) : Prop := w.heap[g]? = some (.cells (hvA hs) 55 (0, 0))
theorem HvAt.lt {w : World} {g : Nat} {hs : List Int} (h : HvAt w g hs) : g < w.heap.size := lt_of_block h
theorem HvAt.below {w w' : World} {g : Nat} {hs : List Int} (h : HvAt w g hs) (hb : Below w.heap.size w w') : HvAt w' g hs := by
  unfold HvAt
  rw [hb.block g h.lt]
  exact h
theorem HvAt.cell {w : World} {g : Nat} {hs : List Int} {i : Nat} (h : HvAt w g hs) (hi : i < hs.length) : w.cell? ⟨g, i, none⟩ = some (.int .i64 (gi hs i)) := by
  rw [cell_of_row w g i _ _ _ h]
  simp only [hvA, List.getElem?_toArray]
  rw [List.getElem?_map, List.getElem?_eq_getElem hi, gi_lt hi]
  rfl
theorem HvAt.put {w : World} {g : Nat} {hs : List Int} (h : HvAt w g hs) (i : Nat) (x : Int) : HvAt (w.setCell ⟨g, i, none⟩ (.int .i64 x)) g (hs.set i x) := by
  unfold HvAt
  rw [heap_setCell_same w g i _ _ _ h]
  have e : (hvA hs).setIfInBounds i (.int .i64 x) = hvA (hs.set i x) := by
    unfold hvA
    rw [List.setIfInBounds_toArray, List.map_set]
  rw [e]
theorem HvAt.ints {w : World} {g : Nat} {hs : List Int} (h : HvAt w g hs) : IntsAt w (some ⟨g, 0, none⟩) hs := fun i hi => ⟨g, 0, rfl, by rw [Nat.zero_add]; exact h.cell hi⟩
/-- eight counts that are T together -/
structure HsOk (hs : List Int) (T : Nat) : Prop where
  len : hs.length = 8
  pos : ∀ i, i < 8 → 0 ≤ gi hs i
  sum : sumK hs 8 = (T : Int)
theorem sumK_mono {xs : List Int} (n : Nat) (h : ∀ i, i < n → 0 ≤ gi xs i) : ∀ k, k ≤ n → 0 ≤ sumK xs k ∧ ∀ i, i < k → gi xs i ≤ sumK xs k
  | 0, _ => ⟨by simp [sumK], fun i hi => absurd hi (by omega)⟩
  | k + 1, hk => by
    obtain ⟨h1, h2⟩ := sumK_mono n h k (by omega)
    have h3 := h k (by omega)
    rw [sumK]
    refine ⟨by omega, fun i hi => ?_⟩
    by_cases e : i = k
    · subst e; omega
    · have := h2 i (by omega); omega
theorem sumK_le {xs : List Int} (n : Nat) (h : ∀ i, i < n → 0 ≤ gi xs i) (k : Nat) : ∀ d, k + d ≤ n → sumK xs k ≤ sumK xs (k + d)
  | 0, _ => Int.le_refl _
  | d + 1, hd => by
    have h1 := sumK_le n h k d (by omega)
    have h2 := h (k + d) (by omega)
    show sumK xs k ≤ sumK xs (k + d) + gi xs (k + d)
    omega
theorem sumK_set {xs : List Int} {x : Nat} (hx : x < xs.length) (v : Int) : ∀ k, sumK (xs.set x v) k = if x < k then sumK xs k - gi xs x + v else sumK xs k
  | 0 => by simp [sumK]
  | k + 1 => by
    rw [sumK, sumK_set hx v k, gi_set hx, sumK]
    by_cases e : k = x
    · subst e
      rw [if_neg (by omega), if_pos rfl, if_pos (by omega)]
      omega
    · rw [if_neg e]
      by_cases h : x < k
      · rw [if_pos h, if_pos (by omega)]; omega
      · rw [if_neg h, if_neg (by omega)]
theorem HsOk.le {hs : List Int} {T : Nat} (h : HsOk hs T) {x : Nat} (hx : x < 8) : gi hs x ≤ (T : Int) := by
  have := (sumK_mono 8 h.pos 8 (Nat.le_refl _)).2 x hx
  rw [h.sum] at this
  exact this
theorem HsOk.inc {hs : List Int} {T : Nat} (h : HsOk hs T) {x : Nat} (hx : x < 8) : HsOk (hs.set x (gi hs x + 1)) (T + 1) := by
  have hl := h.len
  refine ⟨by rw [List.length_set]; exact hl, fun i hi => ?_, ?_⟩
  · rw [gi_set (by omega)]
    have h0 := h.pos i hi
    have h1 := h.pos x hx
    split <;> omega
  · rw [sumK_set (by omega), if_pos hx, h.sum]
    omega
theorem Tryd.info_hv : (Tryd.prog.info? 55).map (fun i => (i.zero, i.size)) = some (some (.agg (hvA [0, 0, 0, 0, 0, 0, 0, 0])), 8) := by kernel_rfl
theorem hsOk_zero : HsOk [0, 0, 0, 0, 0, 0, 0, 0] 0 := ⟨rfl, fun i hi => by
  have : i = 0 ∨ i = 1 ∨ i = 2 ∨ i = 3 ∨ i = 4 ∨ i = 5 ∨ i = 6 ∨ i = 7 := by omega
  rcases this with rfl | rfl | rfl | rfl | rfl | rfl | rfl | rfl <;> decide, rfl⟩
theorem smLk_nat (m : List (List Int)) : ∀ k, ∀ x ∈ smLk m k, ∃ n : Nat, x = n ∧ n < k
  | 0, x, h => by simp [smLk] at h
  | k + 1, x, h => by
    unfold smLk at h
    split at h
    · rw [List.mem_append, List.mem_singleton] at h
      rcases h with h | h
      · obtain ⟨n, e, hn⟩ := smLk_nat m k x h
        exact ⟨n, e, by omega⟩
      · exact ⟨k, h, by omega⟩
    · obtain ⟨n, e, hn⟩ := smLk_nat m k x h
      exact ⟨n, e, by omega⟩

set_option maxRecDepth 100000 in
set_option maxHeartbeats 3200000 in
theorem implCountUpToAll_any (n : Int) (w : World) (_hz : -9223372036854775808 ≤ n ∧ n ≤ 9223372036854775807) (hD : Dj w) :
    Calls Tryd.prog 24 #[.int .i64 n] w fun e w' => IRes (1 ≤ n ∧ n ≤ 5) (cuV n.toNat : Nat) e ∧ Below w.heap.size w w' := by
  obtain ⟨w1, hw1⟩ : ∃ w1, w1 = w.alloc (.cells #[.int .i64 n] 3) := ⟨_, rfl⟩
  have C := Lib.hid (allIn_any 1 5 (some ⟨w.heap.size, 0, none⟩) 1 [n] w1 (by simp) (by rw [hw1]; exact ints_oneH w _))
  have HB1 := Lib.hid (show Below w.heap.size w w1 by rw [hw1]; exact (Below.refl _ _).alloc (Nat.le_refl _) _)
  have Hw1 := Lib.hid hw1
  clear hw1
  by_cases hn : 1 ≤ n ∧ n ≤ 5
  · obtain ⟨N, rfl⟩ : ∃ N : Nat, n = N := ⟨n.toNat, by omega⟩
    have HV := Lib.hid (show ((N : Int)).toNat = N from rfl)
    rw [HV.out]
    have Hn := Lib.hid hn
    have HA0 := (allI_W5 N (by omega)).resolve_left (by omega)
    have CA := fun w' (h : Dj w') => allSigns_any N w' (by omega) (by omega) h
    rw [HA0] at CA
    have Hsq := Lib.hid (fun m hm => (allW_sq N (by omega) m hm).resolve_left (by omega))
    have hlen := allW_len5 N (by omega)
    have HR := Lib.hid (show cuV N = cuK (allW N) (allW N).length / 8 from rfl)
    obtain ⟨R, hR⟩ : ∃ R, R = cuV N := ⟨_, rfl⟩
    rw [← hR] at HR ⊢
    obtain ⟨A, hA⟩ : ∃ A, A = allW N := ⟨_, rfl⟩
    rw [← hA] at CA Hsq hlen HR
    have CA := Lib.hid CA
    have hAm : A.length ≤ 9223372036854775807 := by omega
    have HD := Lib.hid hD
    clear hn hR hA hD _hz HA0
    go_enter Tryd.func24, Tryd.ntmps24
    go_wp2_with fail
    rw [← Hw1.out]
    refine C.out.mono ?_
    rintro e w2 ⟨ha, rfl⟩
    obtain rfl := ha.is (allIn_oneH.2 Hn.out)
    clear ha C
    go_wp2_with (refine wpList_allocT rfl 55 rfl _ _ Tryd.info_hv ?_)
    generalize hW : World.alloc w1 _ = w2
    obtain ⟨P, hP⟩ : ∃ P, P = w1.heap.size := ⟨_, rfl⟩
    have HH := Lib.hid (show HvAt w2 P [0, 0, 0, 0, 0, 0, 0, 0] from by rw [← hW, hP]; exact heap_alloc_new w1 _)
    have HB2 := Lib.hid (show Below w.heap.size w w2 from by rw [← hW]; exact HB1.out.alloc HB1.out.size _)
    have HPw := Lib.hid (show w.heap.size ≤ P ∧ P < w2.heap.size from by rw [← hW, hP]; exact ⟨HB1.out.size, by simp⟩)
    rw [← hP]
    clear hW hP
    refine (CA.out w2 (HD.out.next HB2.out)).mono ?_
    rintro e w3 ⟨v, vs, rfl, hv, hb⟩
    obtain ⟨ta, tc, rfl, _, _⟩ := hv.head
    have Hv := Lib.hid hv
    have HH3 := Lib.hid (HH.out.below hb)
    have HB3 := Lib.hid (HB2.out.trans (hb.mono HB2.out.size))
    have HS3 := Lib.hid hb.size
    clear hv hb CA HH
    go_wp2
    go_loopw [16] (fun i wr => ∃ (k : Nat) (hs : List Int), k ≤ A.length ∧ i = .int .i64 k ∧ HvAt wr P hs ∧ HsOk hs (cuK A k) ∧ Same w2.heap.size w3.heap.size w3 wr ∧ w3.heap.size ≤ wr.heap.size ∧ Below w.heap.size w wr) (fun i _ => A.length - (intOf i).toNat)
    case atStart => exact ⟨0, _, Nat.zero_le _, rfl, HH3.out, hsOk_zero, Same.refl _ _ _, Nat.le_refl _, HB3.out⟩
    case round =>
      obtain ⟨k, hs, hk, rfl, hh, hok, hsame, hsz, hbr⟩ := hrel
      have Hh := Lib.hid hh
      have Hok := Lib.hid hok
      have Hsame := Lib.hid hsame
      have Hsz := Lib.hid hsz
      have Hbr := Lib.hid hbr
      clear hh hok hsame hsz hbr HH3 HB3
      by_cases hlt : k < A.length
      · obtain ⟨b1, o1, r1, d1, e1, hc1, hm1, _, _⟩ := (Hv.out.same Hsame.out).at hlt
        have CO := symmetriesOf_any r1 d1 (gt A k) wr (Hsq.out _ (gt_mem hlt)) hm1
        have hle := cuK_le A k
        have hl2 := smLk_len (gt A k) 8
        have HL := Lib.hid (smLk_nat (gt A k) 8)
        have HS := Lib.hid (show cuK A (k + 1) = cuK A k + (smLk (gt A k) 8).length from rfl)
        obtain ⟨s, hse⟩ : ∃ s, s = cuK A k := ⟨_, rfl⟩
        rw [← hse] at HS hle Hok
        obtain ⟨L, hL⟩ : ∃ L, L = smLk (gt A k) 8 := ⟨_, rfl⟩
        rw [← hL] at HS hl2 CO HL
        obtain ⟨u, hu⟩ : ∃ u, u = (gt A k).length := ⟨_, rfl⟩
        rw [← hu] at hc1 CO
        have CO := Lib.hid CO
        have hLm : L.length ≤ 9223372036854775807 := by omega
        subst e1
        clear hse hL hu hm1
        go_wp2_with fail
        refine CO.out.mono ?_
        rintro e w4 ⟨x, rfl, hx, hb4⟩
        obtain ⟨xa, xc, rfl, _, _, _⟩ := hx.read
        have Hx := Lib.hid hx
        have Hh4 := Lib.hid (Hh.out.below hb4)
        have Hb4 := Lib.hid (Hbr.out.trans (hb4.mono Hbr.out.size))
        have Hsame4 := Lib.hid (Hsame.out.trans (Same.of_below hb4 Hsz.out))
        have Hsz4 := Lib.hid (Nat.le_trans Hsz.out hb4.size)
        have HPr := Lib.hid (show P < wr.heap.size from Hh.out.lt)
        clear hx hb4 CO hc1 Hh Hsame
        go_wp2
        go_loopw [23] (fun i wq => ∃ (t : Nat) (hs : List Int), t ≤ L.length ∧ i = .int .i64 t ∧ HvAt wq P hs ∧ HsOk hs (s + t) ∧ OnlyW (fun b => b = P) w4 wq) (fun i _ => L.length - (intOf i).toNat)
        case atStart => exact ⟨0, hs, Nat.zero_le _, rfl, Hh4.out, Hok.out, OnlyW.refl _ _⟩
        case round =>
          rename World => wq
          obtain ⟨t, hs2, ht, rfl, hh, hok, ho⟩ := hrel
          have Hh := Lib.hid hh
          have Hok2 := Lib.hid hok
          have Ho := Lib.hid ho
          clear hh hok ho Hh4
          by_cases htl : t < L.length
          · have hxq : IntsAt wq xa L := own_at (ownsRow_only Hx.out Ho.out (fun g hg hg2 => by have h1 := (Hx.out.lt g hg).1; have h2 := HPr.out; omega))
            obtain ⟨b2, o2, rfl, hc2⟩ := hxq t htl
            obtain ⟨y, hy, hy8⟩ := HL.out (gi L t) (gi_mem htl)
            rw [hy] at hc2
            have hyl : y < hs2.length := by rw [Hok2.out.len]; exact hy8
            have hcell := Hh.out.cell hyl
            have hf := frozen_of_row wq P y _ _ Hh.out
            have h0 := Hok2.out.pos y hy8
            have h1 := Hok2.out.le hy8
            have hy8i : (y : Int) < 8 := by omega
            have Hput := Lib.hid (Hh.out.put y (gi hs2 y + 1))
            have Hinc := Lib.hid (Hok2.out.inc hy8)
            have Hput2 := Lib.hid (Ho.out.setCell (p := ⟨P, y, none⟩) rfl (.int .i64 (gi hs2 y + 1)))
            obtain ⟨z, hz⟩ : ∃ z, z = gi hs2 y := ⟨_, rfl⟩
            rw [← hz] at hcell h0 h1 Hput Hinc Hput2
            have hwz : IntKind.i64.wrap (z + 1) = z + 1 := w64 (by omega)
            clear hxq hy hz hyl
            go_wp2
            go_roundw
            case rel => exact ⟨t + 1, _, by omega, by go_num, Hput.out, by rw [show s + (t + 1) = s + t + 1 from rfl]; exact Hinc.out, Hput2.out⟩
            case measure => simp [intOf]; omega
          · obtain rfl : t = L.length := by omega
            have Hok5 := Lib.hid (show HsOk hs2 (cuK A (k + 1)) from by rw [HS.out]; exact Hok2.out)
            have Hsame5 := Lib.hid (Hsame4.out.trans (show Same w2.heap.size w3.heap.size w4 wq from fun g h1 _ => Ho.out.block g (by have := HPw.out; omega)))
            have Hsz5 := Lib.hid (show w3.heap.size ≤ wq.heap.size from by rw [Ho.out.size]; exact Hsz4.out)
            have Hb5 := Lib.hid (Hb4.out.trans (Ho.out.below (fun b hb => by have := HPw.out; omega)))
            clear Hok2 Ho Hx
            go_wp2
            go_roundw
            case rel => exact ⟨k + 1, hs2, by omega, by go_num, Hh.out, Hok5.out, Hsame5.out, Hsz5.out, Hb5.out⟩
            case measure => simp [intOf]; omega
      · obtain rfl : k = A.length := by omega
        have hle := cuK_le A A.length
        have hl8 := Hok.out.len
        have hsum := Hok.out.sum
        have CS := sumOfInt_itself (some ⟨P, 0, none⟩) 8 hs wr (by omega) (fun j hj => by
          rw [sumF_idC]
          have h1 := (sumK_mono 8 Hok.out.pos j (by omega)).1
          have h2 := sumK_le 8 Hok.out.pos j (8 - j) (by omega)
          rw [show j + (8 - j) = 8 from by omega, hsum] at h2
          omega) Hh.out.ints
        rw [hl8, sumF_idC, hsum] at CS
        obtain ⟨s, hse⟩ : ∃ s, s = cuK A A.length := ⟨_, rfl⟩
        rw [← hse] at HR hle CS
        have CS := Lib.hid CS
        have hd : (s : Int) / 8 = (R : Int) := by rw [HR.out]; omega
        have hRle : R ≤ s := by rw [HR.out]; omega
        have hwR : IntKind.i64.wrap (R : Int) = (R : Int) := w64 (by omega)
        clear hse hl8 hsum
        go_wp2_with fail
        refine CS.out.mono ?_
        rintro e w5 ⟨rfl, rfl⟩
        go_wp2
        go_ret2
        exact ⟨IRes.yes Hn.out, Hbr.out⟩
  · have Hn := Lib.hid hn
    clear hn hD
    go_enter Tryd.func24, Tryd.ntmps24
    go_wp2_with fail
    rw [← Hw1.out]
    refine C.out.mono ?_
    rintro e w2 ⟨ha, rfl⟩
    obtain rfl := ha.isnt (fun k => Hn.out (allIn_oneH.1 k))
    clear ha
    go_wp2
    go_ret2
    exact ⟨IRes.no Hn.out, HB1.out⟩
end Go.Proofs.YtgdijjfipicodaaDoor

namespace Go.Proofs.YtgdijjfipicodaaDoor
open Go.ChangeShapes Go.WideShapes Go.ChangeAt Go.RowKit Go.Deep

theorem Tryd.own : ownKnob Tryd.prog.godebug = none := by kernel_rfl
theorem Tryd.laidOut : laidOutB Tryd.prog = true := by kernel_rfl
theorem Tryd.cells_int : Tryd.prog.cellsOf 3 = 1 := by kernel_rfl
theorem Tryd.cells_ints : Tryd.prog.cellsOf 42 = 1 := by kernel_rfl

theorem at_zero {w : World} {a : Addr} {v : Value} (h : w.cell? (a.add 0) = some v) : ∃ b o, a = ⟨b, o, none⟩ := by
  have hs := World.cell?_spot h
  obtain ⟨b, o, s⟩ := a
  exact ⟨b, o, by simpa [Addr.add] using hs⟩

/-- a slice of integers that came in -/
theorem open_ints_arg {H : Type} {enc : TypeId × Value → H} {w : World} {ao : Option Addr} {n c : Nat} {d : DataW H} {p : List MemPlace}
    (h : DataW.Trod enc Tryd.prog w 0 (fun _ => true) true 42 (.slice ao n c) d p) :
    ∃ xs : List Int, xs.length = n ∧ n ≤ 9223372036854775807 ∧ WfI xs ∧ IntsAt w ao xs := by
  obtain ⟨fuel, hf⟩ := h
  rcases open_ints Tryd.underlying42 Tryd.underlying3 Tryd.cells_int hf with ⟨hcs, _⟩ | ⟨x, l, c', zs, hcs, _, hl, hm, hz, _, hcell, hwz⟩
  · simp [Value.cells] at hcs
    obtain ⟨rfl, rfl, rfl⟩ := hcs
    exact ⟨[], rfl, by omega, fun i hi => absurd hi (by simp), IntsAt.nil _ _⟩
  · simp [Value.cells] at hcs
    obtain ⟨rfl, rfl, rfl⟩ := hcs
    simp only [if_true] at hz
    have hlen : (zs.take n).length = n := by rw [List.length_take]; omega
    have hgi : ∀ i, i < n → gi (zs.take n) i = zs.getD i 0 := fun i hi => by simp [gi, List.getD, hi]
    have hm' : c ≤ 9223372036854775807 := by simpa [maxLen] using hm
    refine ⟨zs.take n, hlen, by omega, fun i hi => ?_, fun i hi => ?_⟩
    · rw [hlen] at hi
      rw [hgi i hi]
      exact range_i64 hwz i
    · rw [hlen] at hi
      have hc := hcell i (by omega)
      obtain ⟨b, o, rfl⟩ := at_zero (hcell 0 (by omega))
      rw [Addr.add_lit] at hc
      exact ⟨b, o, rfl, by rw [hgi i hi]; exact hc⟩

/-- a slice of slices of integers that came in -/
theorem open_mat_arg {H : Type} {enc : TypeId × Value → H} {w : World} {ao : Option Addr} {n c : Nat} {d : DataW H} {p : List MemPlace}
    (h : DataW.Trod enc Tryd.prog w 0 (fun _ => true) true 22 (.slice ao n c) d p) :
    ∃ m : List (List Int), m.length = n ∧ n ≤ 9223372036854775807 ∧ WfM m ∧ (∀ i, i < m.length → (gr m i).length ≤ 9223372036854775807) ∧ MatAt w ao m := by
  obtain ⟨fuel, hf⟩ := h
  rcases open_int_rows Tryd.underlying22 Tryd.underlying42 Tryd.underlying3 Tryd.cells_ints Tryd.cells_int hf with ⟨hcs, _⟩ | ⟨x, l, c', A, L, C, Z, hcs, _, hl, hm, _, hrows⟩
  · simp [Value.cells] at hcs
    obtain ⟨rfl, rfl, rfl⟩ := hcs
    exact ⟨[], rfl, by omega, fun i hi => absurd hi (by simp), fun i hi => absurd hi (by simp), MatAt.nil _ _⟩
  · simp [Value.cells] at hcs
    obtain ⟨rfl, rfl, rfl⟩ := hcs
    have hm' : c ≤ 9223372036854775807 := by simpa [maxLen] using hm
    obtain ⟨m, hmd⟩ : ∃ m : List (List Int), m = (List.range n).map fun r => (Z r).take (L r) := ⟨_, rfl⟩
    have hlen : m.length = n := by rw [hmd]; simp
    have hgr : ∀ r, r < n → gr m r = (Z r).take (L r) := fun r hr => by rw [gr_lt (by omega)]; simp [hmd]
    have hL : ∀ r, r < n → (gr m r).length = L r ∧ L r ≤ C r ∧ C r ≤ 9223372036854775807 ∧ ∀ i, i < L r → gi (gr m r) i = (Z r).getD i 0 := by
      intro r hr
      obtain ⟨_, h1, h2, h3, _⟩ := hrows r (by omega)
      rw [hgr r hr]
      exact ⟨by rw [List.length_take]; omega, h1, by simpa [maxLen] using h2, fun i hi => by simp [gi, List.getD, hi]⟩
    refine ⟨m, hlen, by omega, fun r hr i hi => ?_, fun r hr => ?_, fun r hr => ?_⟩
    · rw [hlen] at hr
      obtain ⟨e, _, _, hg⟩ := hL r hr
      rw [e] at hi
      rw [hg i hi]
      exact range_i64 (hrows r (by omega)).2.2.2.2.1 i
    · rw [hlen] at hr
      obtain ⟨e, h1, h2, _⟩ := hL r hr
      omega
    · rw [hlen] at hr
      obtain ⟨e, h1, h2, hg⟩ := hL r hr
      obtain ⟨hc, _, _, hz, _, hnil, hcell⟩ := hrows r (by omega)
      obtain ⟨b, o, rfl⟩ := at_zero (hrows 0 (by omega)).1
      rw [Addr.add_lit] at hc
      refine ⟨b, o, A r, C r, rfl, by rw [e]; exact hc, fun i hi => ?_, by omega, h2⟩
      rw [e] at hi
      cases hA : A r with
      | none => have := hnil hA; omega
      | some a' =>
        have hc' := (hcell a' hA).2 i (by omega)
        obtain ⟨b', o', rfl⟩ := at_zero ((hcell a' hA).2 0 (by omega))
        rw [Addr.add_lit] at hc'
        exact ⟨b', o', rfl, by rw [hg i hi]; exact hc'⟩
end Go.Proofs.YtgdijjfipicodaaDoor

namespace Go.Proofs.YtgdijjfipicodaaDoor
open Go.ChangeShapes Go.WideShapes Go.ChangeAt Go.RowKit Go.Deep

def laid2 : List (String × DataW Unit) := [("math/bits.deBruijn32tab", Rows.laid_math_bits_deBruijn32tab), ("math/bits.deBruijn64tab", Rows.laid_math_bits_deBruijn64tab)]
def tab64 : List Int := [0, 1, 56, 2, 57, 49, 28, 3, 61, 58, 42, 50, 38, 29, 17, 4, 62, 47, 59, 36, 45, 43, 51, 22, 53, 39, 33, 30, 24, 18, 12, 5, 63, 55, 48, 27, 60, 41, 37, 16, 46, 35, 44, 21, 52, 32, 23, 11, 54, 26, 40, 15, 34, 20, 31, 10, 25, 14, 19, 9, 13, 8, 7, 6]
theorem tab64_is : (Rows.laid_math_bits_deBruijn64tab : DataW Unit) = .agg (tab64.map fun n => .lit (.int .u8 n)) := rfl
theorem tab64_at : ∀ i, i < 16 → tab64.getD (dbAt i) 0 = i := by decide

theorem tab_cell {W : World} (h : laidMetH Tryd.prog laid2 W) (j : Nat) (hr : j < 64) : W.cell? ⟨2, j, none⟩ = some (.int .u8 (tab64.getD j 0)) := by
  rw [MakeChecks.laidMetH_plain _ _ _ (by kernel_rfl)] at h
  obtain ⟨ps, hps, _, _⟩ := h
  obtain ⟨_, _, _, _, _, _, _, _, _, _, ⟨g, t, cs, fuel, p, q, hg, ht, hv, hd, _, _⟩, _⟩ := hps
  obtain rfl := Option.some.inj ((show Tryd.prog.globalNamed "math/bits.deBruijn64tab" = some 2 by kernel_rfl).symm.trans hg)
  obtain rfl := Option.some.inj ((show (Tryd.prog.globals[2]?).map (·.type) = some 103 by kernel_rfl).symm.trans ht)
  obtain ⟨xs, m, _, ex, _, hl, hel⟩ := DataW.trod_array Tryd.underlying103 hd
  have c5 : Tryd.prog.cellsOf 5 = 1 := by kernel_rfl
  have hE := hel (j) hr
  rw [c5, Nat.mul_one, List.getElem?_eq_getElem (by omega)] at hE
  obtain ⟨z, e1, e2, _⟩ := DataW.trod_int Tryd.underlying5 hE
  have hlen : tab64.length = 64 := by kernel_rfl
  rw [tab64_is] at ex
  have e3 : (xs.map (·.1)) = tab64.map fun n => .lit (.int .u8 n) := (DataW.agg.inj (Prod.mk.inj ex).1).symm
  have e4 : (xs.map (·.1))[j]? = (tab64.map fun n => (DataW.lit (.int .u8 n) : DataW Unit))[j]? := by rw [e3]
  rw [List.getElem?_map, List.getElem?_map, List.getElem?_eq_getElem (by omega : j < xs.length), List.getElem?_eq_getElem (by omega : j < tab64.length), e2] at e4
  have hz : z = tab64.getD (j) 0 := by
    simp only [Option.map_some, Option.some.injEq, DataW.lit.injEq, Lit.int.injEq, true_and] at e4
    rw [e4, List.getD, List.getElem?_eq_getElem (by omega : j < tab64.length)]; rfl
  rw [World.var?_cell hg hv (j), ← hz]
  have : cs.toList[j]? = some (.int .u8 z) := by
    have h0 : ((cs.toList.drop (j)).take 1)[0]? = some (.int .u8 z) := by rw [e1]; rfl
    simpa using h0
  simpa using this
theorem dj_of_laid {W : World} (h : laidMetH Tryd.prog laid2 W) : Dj W := by
  intro i hi
  have := tab_cell h (dbAt i) (dbAt_lt i hi)
  rw [tab64_at i hi] at this
  exact this
end Go.Proofs.YtgdijjfipicodaaDoor

