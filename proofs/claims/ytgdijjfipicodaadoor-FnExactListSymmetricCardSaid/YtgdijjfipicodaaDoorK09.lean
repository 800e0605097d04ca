/- Parts of proofs: contracts and plain facts. Conditions: as each says. -/
import Derived.Test.YtgdijjfipicodaaDoorK08
import Derived.Lib.SliceRun
namespace Go.Proofs.YtgdijjfipicodaaDoor
open Go.RowKit Go.Maps
open Go.WideMaps (KeyLaw)


end Go.Proofs.YtgdijjfipicodaaDoor

namespace Go.Proofs.YtgdijjfipicodaaDoor
open Go.RowKit Go.Maps

end Go.Proofs.YtgdijjfipicodaaDoor

namespace Go.Proofs.YtgdijjfipicodaaDoor
open Go.RowKit Go.Maps
open Go.WideMaps (KeyLaw)

end Go.Proofs.YtgdijjfipicodaaDoor

namespace Go.Proofs.YtgdijjfipicodaaDoor
open Go.RowKit Go.Maps
open Go.WideMaps (KeyLaw)


end Go.Proofs.YtgdijjfipicodaaDoor

namespace Go.Proofs.YtgdijjfipicodaaDoor
open Go.RowKit Go.Maps

end Go.Proofs.YtgdijjfipicodaaDoor

namespace Go.Proofs.YtgdijjfipicodaaDoor
open Go.RowKit

theorem Up.filter {xs : List Int} (h : Up xs) (p : Int → Bool) : Up (xs.filter p) := by
  induction xs with
  | nil => exact h
  | cons a r ih =>
    rw [List.filter_cons]
    split
    · exact Up.of (ih h.tail) fun x hx => h.lt x (List.mem_filter.1 hx).1
    · exact ih h.tail
/-- the numbers of ys that xs lacks -/
def lacks (xs ys : List Int) : List Int := ys.filter fun y => !xs.contains y
theorem lacks_rise {xs ys : List Int} (h : Rise ys) : Rise (lacks xs ys) := ⟨h.1.filter _, fun x hx => h.2 x (List.mem_filter.1 hx).1⟩
theorem lacks_len (xs ys : List Int) : (lacks xs ys).length ≤ ys.length := List.length_filter_le _ _
theorem mask_lacks {xs ys : List Int} (hx : Rise xs) (hy : Rise ys) : bits .andNot .u64 ((mask ys : Nat) : Int) ((mask xs : Nat) : Int) = ((mask (lacks xs ys) : Nat) : Int) := by
  have h1 := mask_lt16 hx
  have h2 := mask_lt16 hy
  rw [u64_andNot_nat _ _ (by omega) (by omega)]
  congr 1
  apply Nat.eq_of_testBit_eq
  intro i
  rw [Nat.testBit_and, show 18446744073709551615 - mask xs = 2 ^ 64 - (mask xs + 1) from by omega, Nat.testBit_two_pow_sub_succ (by omega), testBit_mask (fun x hx' => (hy.2 x hx').1), testBit_mask (fun x hx' => (hx.2 x hx').1), testBit_mask (fun x hx' => ((lacks_rise hy).2 x hx').1)]
  unfold lacks
  by_cases hm : (i : Int) ∈ ys
  · have := (hy.2 _ hm).2
    have hi : i < 64 := by omega
    by_cases hn : (i : Int) ∈ xs <;> simp [hm, hn, hi]
  · simp [hm]

def lostSc (xs ys : List Int) : Int := (lacks xs ys).length
def movedSc (xs ys : List Int) : Int := ys.length - eqn xs ys ys.length

theorem lost_small : SmallSc lostSc := by
  intro xs ys hr h6 hy
  obtain ⟨hry, hly⟩ := above_mem hr hy
  have := lacks_len xs ys
  unfold lostSc
  omega
theorem moved_small : SmallSc movedSc := by
  intro xs ys hr h6 hy
  obtain ⟨hry, hly⟩ := above_mem hr hy
  have := eqn_bd xs ys ys.length
  unfold movedSc
  omega
def limC (sc : List Int → List Int → Int) (n g : Nat) : Bool := (reach sc (iota n) (n - 1)).all fun p => decide (p.2 ≤ (g : Int))
set_option maxRecDepth 1000000 in
theorem lost_ok : limC lostSc 1 0 = true ∧ limC lostSc 2 0 = true ∧ limC lostSc 3 1 = true ∧ limC lostSc 4 2 = true ∧ limC lostSc 5 4 = true := by decide +kernel
set_option maxRecDepth 1000000 in
theorem moved_ok : limC movedSc 1 0 = true ∧ limC movedSc 2 1 = true ∧ limC movedSc 3 3 = true ∧ limC movedSc 4 6 = true ∧ limC movedSc 5 10 = true := by decide +kernel
theorem limC_lim {sc : List Int → List Int → Int} {n g : Nat} (h : limC sc n g = true) : ∀ p ∈ reach sc (iota n) (n - 1), p.2 ≤ (g : Int) := fun p hp => by
  have := List.all_eq_true.1 h p hp
  simpa using this
end Go.Proofs.YtgdijjfipicodaaDoor

namespace Go.Proofs.YtgdijjfipicodaaDoor
open Go.RowKit

def bump (d : Int) (c : List Int) (v : Int) : List Int := c.set v.toNat (wrap64 (gi c v.toNat + d))
theorem bump_len (d : Int) (c : List Int) (v : Int) : (bump d c v).length = c.length := by simp [bump]
/-- the row of signs between two rows of columns -/
def stepF (n : Nat) (xs ys : List Int) : List Int := xs.foldl (bump (-1)) (ys.foldl (bump 1) (List.replicate n 0))
/-- the minus ones among the first k -/
def minusF (st : List Int) : Nat → Int
  | 0 => 0
  | k + 1 => if gi st k < 0 then wrap64 (minusF st k + 1) else minusF st k
/-- what the sign x of column k adds, by the first j numbers of the row -/
def addIn (xs : List Int) (k : Nat) (x acc : Int) : Nat → Int
  | 0 => acc
  | j + 1 => if (k : Int) < gi xs j then wrap64 (addIn xs k x acc j + x) else addIn xs k x acc j
def addF (xs st : List Int) : Nat → Int
  | 0 => 0
  | k + 1 => addIn xs k (gi st k) (addF xs st k) xs.length
def nextMinus (n : Nat) (xs ys : List Int) (s : Int) : Int := wrap64 (s + minusF (stepF n xs ys) (stepF n xs ys).length)
def nextAdd (n : Nat) (xs ys : List Int) (s : Int) : Int := wrap64 (s + addF xs (stepF n xs ys) (stepF n xs ys).length)
abbrev Nx := Nat → List Int → List Int → Int → Int
/-- the counts with those added that are reached from a row at a score -/
def spreadF (nx : Nx) (n : Nat) : Nat → List Int → Int → List Int → List Int
  | 0, _, s, c => bump 1 c s
  | d + 1, xs, s, c => (behind n xs).foldl (fun c ys => spreadF nx n d ys (nx n xs ys s) c) c
theorem spreadF_len (nx : Nx) (n : Nat) : ∀ (d : Nat) (xs : List Int) (s : Int) (c : List Int), (spreadF nx n d xs s c).length = c.length
  | 0, _, s, c => bump_len _ _ _
  | d + 1, xs, s, c => by
    rw [spreadF]
    generalize behind (n : Int) xs = L
    induction L generalizing c with
    | nil => rfl
    | cons y r ih => rw [List.foldl_cons, ih, spreadF_len nx n d]
/-- no score leaves the table -/
def okF (nx : Nx) (n : Nat) : Nat → List Int → Int → Bool
  | 0, _, s => decide (0 ≤ s) && decide (s ≤ (n * n : Nat))
  | d + 1, xs, s => (behind n xs).all fun ys => okF nx n d ys (nx n xs ys s)
/-- the last place with a positive number -/
def lastF (c : List Int) : Nat → Nat
  | 0 => 0
  | k + 1 => if 0 < gi c k then k else lastF c k
theorem lastF_lt (c : List Int) : ∀ k, 0 < k → lastF c k < k
  | 0, h => absurd h (by omega)
  | k + 1, _ => by
    unfold lastF
    split
    · omega
    · by_cases h : 0 < k
      · have := lastF_lt c k h; omega
      · obtain rfl : k = 0 := by omega
        simp [lastF]
def countsF (nx : Nx) (n : Nat) : List Int := spreadF nx n n [] 0 (List.replicate (n * n + 1) 0)
def trimF (c : List Int) : List Int := c.take (lastF c c.length + 1)
def scoreT (sc : List Int → List Int → Int) (n k : Nat) : List Int := let T := iterT (upCh sc) (n - 1) [((iota n, 0), 1)]
  (List.range k).map fun i : Nat => wrap64 (potL T (fun p => hits (i : Int) p.1 p.2))
theorem scoreT_is (sc : List Int → List Int → Int) (n k : Nat) : scoreL sc n k = scoreT sc n k := by
  unfold scoreL scoreT
  refine List.map_congr_left fun i _ => ?_
  rw [climb_tab0]
def sameC (sc : List Int → List Int → Int) (nx : Nx) (n g : Nat) : Bool := okF nx n n [] 0 && (trimF (countsF nx n) == scoreT sc n (g + 1))
set_option maxRecDepth 1000000 in
theorem lost_same : sameC lostSc nextMinus 1 0 = true ∧ sameC lostSc nextMinus 2 0 = true ∧ sameC lostSc nextMinus 3 1 = true ∧ sameC lostSc nextMinus 4 2 = true ∧ sameC lostSc nextMinus 5 4 = true := by decide +kernel
set_option maxRecDepth 1000000 in
theorem moved_same : sameC movedSc nextAdd 1 0 = true ∧ sameC movedSc nextAdd 2 1 = true ∧ sameC movedSc nextAdd 3 3 = true ∧ sameC movedSc nextAdd 4 6 = true ∧ sameC movedSc nextAdd 5 10 = true := by decide +kernel
end Go.Proofs.YtgdijjfipicodaaDoor

namespace Go.Proofs.YtgdijjfipicodaaDoor
open Go.RowKit

theorem foldl_take {f : List Int → Int → List Int} {z : List Int} {xs : List Int} {k : Nat} (h : k < xs.length) : (xs.take (k + 1)).foldl f z = f ((xs.take k).foldl f z) (gi xs k) := by
  rw [take_succ_gi h, List.foldl_append]
  rfl
theorem bumps_len (d : Int) (xs : List Int) (z : List Int) : (xs.foldl (bump d) z).length = z.length := by
  induction xs generalizing z with
  | nil => rfl
  | cons a r ih => rw [List.foldl_cons, ih, bump_len]
theorem stepF_len (n : Nat) (xs ys : List Int) : (stepF n xs ys).length = n := by unfold stepF; rw [bumps_len, bumps_len, List.length_replicate]

set_option maxRecDepth 100000 in
set_option maxHeartbeats 800000 in
theorem trStep_any (a1 a2 : Option Addr) (c1 c2 n : Nat) (xs ys : List Int) (w : World) (hn : n ≤ 16) (hl1 : xs.length ≤ 1048576) (hl2 : ys.length ≤ 1048576) (hx : ∀ x ∈ xs, 0 ≤ x ∧ x < (n : Int)) (hy : ∀ x ∈ ys, 0 ≤ x ∧ x < (n : Int)) (h1 : IntsAt w a1 xs) (h2 : IntsAt w a2 ys) :
    Calls Tryd.prog 84 #[.slice a1 xs.length c1, .slice a2 ys.length c2, .int .i64 (n : Int)] w fun e w' => ∃ v, e = .returned v ∧ OwnI w' w.heap.size v (stepF n xs ys) ∧ Below w.heap.size w w' := by
  obtain ⟨i0, hi, hz0, hz1, hz2⟩ := info_parts Tryd.info_int
  have hm1 : xs.length ≤ 9223372036854775807 := by omega
  have hm2 : ys.length ≤ 9223372036854775807 := by omega
  have H1 := Lib.hid h1
  have H2 := Lib.hid h2
  have Hx := Lib.hid hx
  have Hy := Lib.hid hy
  clear h1 h2 hx hy
  go_enter Tryd.func84, Tryd.ntmps84
  go_wp2_with (at_make; refine wpList_make_full _ rfl _ _ 42 rfl w.heap.size 3 i0 (.int .i64 0) 1 Tryd.underlying42 hi hz0 hz1 _ _ _ _ n rfl rfl rfl rfl ?c1 ?c2 ?c3 ?_)
  case c1 => rw [hz2]; omega
  case c2 => unfold maxLen; omega
  case c3 => simp
  intro w1 hown hgr
  have hb1 : Below w.heap.size w w1 := (Below.refl _ _).grown hgr (Nat.le_refl _) (fun _ h => by cases h)
  have Hown1 := Lib.hid (OwnI.made hown)
  have Hb1 := Lib.hid hb1
  clear hown hgr hb1
  go_wp2
  go_loopw [16] (fun i wr => ∃ k : Nat, k ≤ ys.length ∧ i = .int .i64 k ∧ OwnI wr w.heap.size (.slice (some ⟨w.heap.size, 0, none⟩) n n) ((ys.take k).foldl (bump 1) (List.replicate n 0)) ∧ Below w.heap.size w wr) (fun i _ => ys.length - (intOf i).toNat)
  case atStart => exact ⟨0, Nat.zero_le _, rfl, Hown1.out, Hb1.out⟩
  case round =>
    obtain ⟨k, hk, rfl, hown, hbr⟩ := hrel
    by_cases hlt : k < ys.length
    · obtain ⟨b, o, rfl, hc⟩ := (H2.out.below hbr) k hlt
      have hb := Hy.out _ (gi_mem hlt)
      have Hst := Lib.hid (foldl_take (f := bump 1) (z := List.replicate n 0) hlt)
      obtain ⟨v, hv⟩ : ∃ v : Nat, gi ys k = (v : Int) := ⟨(gi ys k).toNat, by omega⟩
      rw [hv] at hc hb
      have Hv := Lib.hid hv
      have hvn : v < n := by omega
      obtain ⟨q, hq⟩ : ∃ q, q = (ys.take k).foldl (bump 1) (List.replicate n 0) := ⟨_, rfl⟩
      rw [← hq] at hown
      have Hq := Lib.hid hq
      have hcv := hown.cellAt v hvn
      have hfr := hown.frozenAt v
      obtain ⟨u, hu⟩ : ∃ u, u = gi q v := ⟨_, rfl⟩
      rw [← hu] at hcv
      have Hu := Lib.hid hu
      have hst := hown.store v (wrap64 (u + 1))
      have Hst2 := Lib.hid hst
      have Hb := Lib.hid (hbr.setCell (p := ⟨w.heap.size, v, none⟩) (Nat.le_refl _) (.int .i64 (wrap64 (u + 1))))
      clear hv hq hu hown hst hbr
      go_wp2
      go_roundw
      case rel => exact ⟨k + 1, by omega, by go_num, by rw [Hst.out, ← Hq.out, Hv.out]; unfold bump; rw [Int.toNat_natCast, ← Hu.out]; exact Hst2.out, Hb.out⟩
      case measure => simp [intOf]; omega
    · obtain rfl : k = ys.length := by omega
      rw [List.take_length] at hown
      obtain ⟨z, hz⟩ : ∃ z, z = ys.foldl (bump 1) (List.replicate n 0) := ⟨_, rfl⟩
      rw [← hz] at hown
      have Hz := Lib.hid hz
      have Hown2 := Lib.hid hown
      have Hb2 := Lib.hid hbr
      clear hz hown hbr
      go_wp2
      go_loopw [29] (fun i wr => ∃ k : Nat, k ≤ xs.length ∧ i = .int .i64 k ∧ OwnI wr w.heap.size (.slice (some ⟨w.heap.size, 0, none⟩) n n) ((xs.take k).foldl (bump (-1)) z) ∧ Below w.heap.size w wr) (fun i _ => xs.length - (intOf i).toNat)
      case atStart => exact ⟨0, Nat.zero_le _, rfl, Hown2.out, Hb2.out⟩
      case round =>
        obtain ⟨k, hk, rfl, hown, hbr⟩ := hrel
        by_cases hlt : k < xs.length
        · obtain ⟨b, o, rfl, hc⟩ := (H1.out.below hbr) k hlt
          have hb := Hx.out _ (gi_mem hlt)
          have Hst := Lib.hid (foldl_take (f := bump (-1)) (z := z) hlt)
          obtain ⟨v, hv⟩ : ∃ v : Nat, gi xs k = (v : Int) := ⟨(gi xs k).toNat, by omega⟩
          rw [hv] at hc hb
          have Hv := Lib.hid hv
          have hvn : v < n := by omega
          obtain ⟨q, hq⟩ : ∃ q, q = (xs.take k).foldl (bump (-1)) z := ⟨_, rfl⟩
          rw [← hq] at hown
          have Hq := Lib.hid hq
          have hcv := hown.cellAt v hvn
          have hfr := hown.frozenAt v
          obtain ⟨u, hu⟩ : ∃ u, u = gi q v := ⟨_, rfl⟩
          rw [← hu] at hcv
          have Hu := Lib.hid hu
          have hst := hown.store v (wrap64 (u - 1))
          have Hst2 := Lib.hid hst
          have Hb := Lib.hid (hbr.setCell (p := ⟨w.heap.size, v, none⟩) (Nat.le_refl _) (.int .i64 (wrap64 (u - 1))))
          clear hv hq hu hown hst hbr
          go_wp2
          go_roundw
          case rel => exact ⟨k + 1, by omega, by go_num, by rw [Hst.out, ← Hq.out, Hv.out]; unfold bump; rw [Int.toNat_natCast, ← Hu.out, ← Int.sub_eq_add_neg]; exact Hst2.out, Hb.out⟩
          case measure => simp [intOf]; omega
        · obtain rfl : k = xs.length := by omega
          rw [List.take_length] at hown
          have Hfin := Lib.hid (show OwnI wr w.heap.size (.slice (some ⟨w.heap.size, 0, none⟩) n n) (stepF n xs ys) ∧ Below w.heap.size w wr from ⟨by unfold stepF; rw [← Hz.out]; exact hown, hbr⟩)
          clear hown hbr
          go_wp2
          go_ret
          exact ⟨_, rfl, Hfin.out⟩
end Go.Proofs.YtgdijjfipicodaaDoor

namespace Go.Proofs.YtgdijjfipicodaaDoor
open Go.RowKit

/-- the first number that differs is the lesser one -/
def rowLess : List Int → List Int → Bool
  | [], _ => false
  | a :: r, bs => if a = bs.headD 0 then rowLess r bs.tail else decide (a < bs.headD 0)
/-- a row put into its place -/
def putIn (n : Nat) (s : List Int) (L : List (List Int)) (y : List Int) : List (List Int) :=
  let t := stepF n s y
  let p := L.takeWhile fun z => rowLess (stepF n s z) t
  p ++ y :: L.drop p.length
def nextL (n : Nat) (s : List Int) : List (List Int) := (behind n s).foldl (putIn n s) []
/-- the columns that are not in s -/
def compl (n : Nat) (s : List Int) : List Int := (iota n).filter fun x => !s.contains x
def subs : List Int → List (List Int)
  | [] => [[]]
  | a :: r => (subs r).map (a :: ·) ++ subs r
theorem mem_subs {s l : List Int} (h : s.Sublist l) : s ∈ subs l := by
  induction h with
  | slnil => simp [subs]
  | cons a _ ih => simp [subs, ih]
  | cons_cons a _ ih => simp [subs, ih]
def chainC (n : Nat) : Bool := (subs (iota n)).all fun s => decide (n - 1 ≤ s.length) || ((nextL n s).map (compl n) == above (compl n s))
def waysC (n : Nat) : Bool := (subs (iota n)).all fun s => decide (n ≤ s.length) || (potL (iterT (dnCh n) (n - s.length) [((s, 0), 1)]) (fun _ => 1) == potL (iterT (upCh fun _ _ => 0) (n - s.length - 1) [((compl n s, 0), 1)]) (fun _ => 1))
set_option maxRecDepth 1000000 in
theorem chain_ok : chainC 1 = true ∧ chainC 2 = true ∧ chainC 3 = true ∧ chainC 4 = true ∧ chainC 5 = true := by decide +kernel
set_option maxRecDepth 1000000 in
theorem chain_ok6 : chainC 6 = true := by decide +kernel
set_option maxRecDepth 1000000 in
theorem ways_ok : waysC 1 = true ∧ waysC 2 = true ∧ waysC 3 = true ∧ waysC 4 = true ∧ waysC 5 = true ∧ waysC 6 = true := by decide +kernel
theorem chain_all {n : Nat} (h1 : 1 ≤ n) (h6 : n ≤ 6) : chainC n = true := by
  obtain ⟨a, b, c, d, e⟩ := chain_ok
  rcases (by omega : n = 1 ∨ n = 2 ∨ n = 3 ∨ n = 4 ∨ n = 5 ∨ n = 6) with rfl | rfl | rfl | rfl | rfl | rfl
  · exact a
  · exact b
  · exact c
  · exact d
  · exact e
  · exact chain_ok6
theorem ways_all {n : Nat} (h1 : 1 ≤ n) (h6 : n ≤ 6) : waysC n = true := by
  obtain ⟨a, b, c, d, e, f⟩ := ways_ok
  rcases (by omega : n = 1 ∨ n = 2 ∨ n = 3 ∨ n = 4 ∨ n = 5 ∨ n = 6) with rfl | rfl | rfl | rfl | rfl | rfl
  · exact a
  · exact b
  · exact c
  · exact d
  · exact e
  · exact f
theorem chain_at {n : Nat} (h1 : 1 ≤ n) (h6 : n ≤ 6) {s : List Int} (hs : s.Sublist (iota n)) (hl : s.length + 1 < n) : (nextL n s).map (compl n) = above (compl n s) := by
  have h := List.all_eq_true.1 (chain_all h1 h6) s (mem_subs hs)
  simp only [Bool.or_eq_true, decide_eq_true_eq, beq_iff_eq] at h
  rcases h with h | h
  · omega
  · exact h
end Go.Proofs.YtgdijjfipicodaaDoor

namespace Go.Proofs.YtgdijjfipicodaaDoor
open Go.RowKit

theorem gr_reverse {m : List (List Int)} {i : Nat} (h : i < m.length) : gr m.reverse i = gr m (m.length - 1 - i) := by
  rw [gr_lt (by rw [List.length_reverse]; exact h), gr_lt (by omega), List.getElem_reverse]
theorem colR_reverse (m : List (List Int)) (j : Nat) : ∀ k, k ≤ m.length → colR m.reverse j k + colR m j (m.length - k) = colR m j m.length
  | 0, _ => by simp [colR]
  | k + 1, h => by
    have ih := colR_reverse m j k (by omega)
    have e : m.length - k = (m.length - (k + 1)) + 1 := by omega
    rw [e, colR] at ih
    rw [colR, gr_reverse (by omega), show m.length - 1 - k = m.length - (k + 1) from by omega]
    omega
theorem colR_full {m : List (List Int)} (h : good m) {j : Nat} (hj : j < m.length) : colR m j m.length = 1 := by
  rw [colR_tr hj _ (Nat.le_refl _)]
  have h1 := (h.2.2 j (by rw [tr_len]; exact hj)).2
  rw [tr_row hj] at h1
  exact h1
/-- the rows of the triangle of a matrix upside down -/
theorem triRow_reverse {m : List (List Int)} (h : good m) {k : Nat} (hk : k ≤ m.length) : triRow m.reverse k = compl m.length (triRow m (m.length - k)) := by
  have hx : ∀ {x : Int}, x ∈ triRow m.reverse k ↔ x ∈ compl m.length (triRow m (m.length - k)) := by
    intro x
    unfold triRow compl
    rw [List.length_reverse, mem_colsF, List.mem_filter, mem_iota]
    constructor
    · rintro ⟨j, rfl, hj, hf⟩
      refine ⟨by omega, ?_⟩
      have h1 := colR_reverse m j k hk
      rw [colR_full h hj] at h1
      simp only [decide_eq_true_eq] at hf
      have hn : (j : Int) ∉ colsF m.length fun j => decide (colR m j (m.length - k) = 1) := by
        rw [mem_colsF]
        rintro ⟨i, e, _, hi⟩
        obtain rfl : j = i := by omega
        simp only [decide_eq_true_eq] at hi
        omega
      simp [hn]
    · rintro ⟨⟨h0, hn⟩, hc⟩
      refine ⟨x.toNat, by omega, by omega, ?_⟩
      have hj : x.toNat < m.length := by omega
      have h1 := colR_reverse m x.toNat k hk
      rw [colR_full h hj] at h1
      have h2 := colR_01 h hj (show m.length - k ≤ m.length by omega)
      have h3 : colR m x.toNat (m.length - k) ≠ 1 := by
        intro e
        have : x ∈ colsF m.length fun j => decide (colR m j (m.length - k) = 1) := mem_colsF.2 ⟨x.toNat, by omega, hj, by simpa using e⟩
        simp [this] at hc
      simp only [decide_eq_true_eq]
      omega
  have hu1 : Up (triRow m.reverse k) := colsF_up _ _
  have hu2 : Up (compl m.length (triRow m (m.length - k))) := (up_iota _).filter _
  refine mask_inj hu1 (fun y hy => ?_) hu2 (fun y hy => ?_) ?_
  · obtain ⟨j, rfl, _, _⟩ := mem_colsF.1 hy; omega
  · exact (mem_iota.1 (List.mem_filter.1 hy).1).1
  · apply Nat.eq_of_testBit_eq
    intro i
    rw [testBit_mask (fun y hy => by obtain ⟨j, rfl, _, _⟩ := mem_colsF.1 hy; omega), testBit_mask (xs := compl m.length (triRow m (m.length - k))) (fun y hy => (mem_iota.1 (List.mem_filter.1 hy).1).1)]
    exact decide_eq_decide.2 hx
end Go.Proofs.YtgdijjfipicodaaDoor

namespace Go.Proofs.YtgdijjfipicodaaDoor
open Go.RowKit

set_option maxRecDepth 100000 in
set_option maxHeartbeats 400000 in
theorem sCloneM_any (b o n c : Nat) (news : List Value) (w : World) (hn : n ≤ 1048576) (hl : news.length = n) (hc : ∀ j u, news[j]? = some u → w.cell? ⟨b, o + j, none⟩ = some u) (h1 : ∀ u ∈ news, u.oneCell' = true) :
    Calls Tryd.prog 97 #[.slice (some ⟨b, o, none⟩) n c] w fun e w' => ∃ v, e = .returned v ∧ w'.ownsRow w.heap.size 42 1 v n news ∧ Below w.heap.size w w' := by
  obtain ⟨j0, hj, hy0, hy1, hy2⟩ := info_parts Tryd.info_ints
  have Hc := Lib.hid hc
  have H1 := Lib.hid h1
  have Hl := Lib.hid hl
  clear hc h1 hl
  have q22 : ∀ (w : World) (a : Option Addr) (n c n' c' : Nat), (binOp .eql 22 (.slice a n c) (.slice none n' c')).run Tryd.prog w = .ok (.bool a.isNone) w := fun w a n c n' c' => Lib.run_eql_slice_nil w _ _ a n c n' c' Tryd.underlying22
  go_enter Tryd.func97, Tryd.ntmps97
  go_wp2_with (at_builtin; refine wpList_append_own _ rfl _ _ 22 rfl w.heap.size 42 j0 (.slice none 0 0) 1 24 Tryd.underlying22 hj hy0 hy1 hy2 rfl (by decide) _ _ _ rfl (World.ownsRow_made w #[] 0 (Nat.le_refl _) (Nat.zero_le _) rfl) ⟨b, o, none⟩ n c news rfl ?e1 ?e2 ?e3 ?e4 ?e5 ?e6 ?_)
  case e1 => rw [Hl.out]; omega
  case e2 =>
    intro j u hj
    rw [Addr.add_lit]
    exact Lib.cell?_alloc_some _ (Hc.out j u hj)
  case e3 => exact H1.out
  case e4 => unfold maxLen; omega
  case e5 => omega
  case e6 => simp
  intro v' w1 hown hgrow _
  have Hown := Lib.hid (show w1.ownsRow w.heap.size 42 1 v' n news by simpa using hown)
  have Hb := Lib.hid (((Below.refl w.heap.size w).alloc (Nat.le_refl _) _).grown hgrow (by simp) (by intro k hk; simp [Value.ownBlock] at hk; omega))
  clear hown hgrow
  go_wp2
  go_ret
  exact ⟨_, rfl, Hown.out, Hb.out⟩
end Go.Proofs.YtgdijjfipicodaaDoor

namespace Go.Proofs.YtgdijjfipicodaaDoor
open Go.RowKit

set_option maxRecDepth 100000 in
set_option maxHeartbeats 800000 in
theorem sReverseM_any (B g n c : Nat) (vs : List Value) (w : World) (hn : n ≤ 1048576) (hn1 : 1 ≤ n) (hB : B ≤ g) (hsl : ∀ t, t < n → ∃ r m d, vs.getD t undef = .slice r m d) (ho : w.ownsRow g 42 1 (.slice (some ⟨g, 0, none⟩) n c) n vs) :
    Calls Tryd.prog 98 #[.slice (some ⟨g, 0, none⟩) n c] w fun e w' => e = .returned (.tuple #[]) ∧ w'.ownsRow g 42 1 (.slice (some ⟨g, 0, none⟩) n c) n vs.reverse ∧ Below B w w' := by
  have hmx : n ≤ 9223372036854775807 := by omega
  have hvl : vs.length = n := by simpa using ho.1
  have Hsl := Lib.hid hsl
  have Ho := Lib.hid ho
  have Hvl := Lib.hid hvl
  clear ho hvl hsl
  go_enter Tryd.func98, Tryd.ntmps98
  go_wp2
  go_loopw [2, 3] (fun i j wr => ∃ (k l : Nat) (us : List Value), k + l + 1 = n ∧ k ≤ l + 1 ∧ i = .int .i64 k ∧ j = .int .i64 l ∧ wr.ownsRow g 42 1 (.slice (some ⟨g, 0, none⟩) n c) n us ∧ (∀ t, t < n → us.getD t undef = if t < k ∨ n - k ≤ t then vs.getD (n - 1 - t) undef else vs.getD t undef) ∧ Below B w wr) (fun i _ _ => n - (intOf i).toNat)
  case atStart => exact ⟨0, n - 1, vs, by omega, by omega, rfl, by go_num, Ho.out, fun t ht => by rw [if_neg (by omega)], Below.refl _ _⟩
  case round =>
    obtain ⟨k, l, us, hkl, hle, rfl, rfl, hown, hus, hbr⟩ := hrel
    by_cases hlt : k < l
    · have hul : us.length = n := by simpa using hown.1
      have hck := World.ownsRow.cellAt hown k (by omega)
      have hcl := World.ownsRow.cellAt hown l (by omega)
      have hfk := World.ownsRow.frozenAt hown k
      have hfl := World.ownsRow.frozenAt hown l
      obtain ⟨r1, m1, d1, e1⟩ := Hsl.out k (by omega)
      obtain ⟨r2, m2, d2, e2⟩ := Hsl.out l (by omega)
      have f1 : us[k]? = some (.slice r1 m1 d1) := by
        have := hus k (by omega)
        rw [if_neg (by omega), e1] at this
        simp only [List.getD, List.getElem?_eq_getElem (show k < us.length by omega), Option.getD_some] at this ⊢
        rw [this]
      have f2 : us[l]? = some (.slice r2 m2 d2) := by
        have := hus l (by omega)
        rw [if_neg (by omega), e2] at this
        simp only [List.getD, List.getElem?_eq_getElem (show l < us.length by omega), Option.getD_some] at this ⊢
        rw [this]
      rw [f1] at hck
      rw [f2] at hcl
      have hkn : k < n := by omega
      have hln : l < n := by omega
      have hne : k ≠ l := by omega
      have hne2 : l ≠ k := by omega
      have Hus := Lib.hid hus
      have Hown := Lib.hid hown
      have Hbr := Lib.hid hbr
      have Hf1 := Lib.hid (And.intro e1 e2)
      clear hus hown hbr f1 f2 e1 e2
      go_wp2_with fail
      go_region
      go_wp2
      go_roundw
      case rel =>
        have hz : (k : Int) < l := by omega
        refine ⟨k + 1, l - 1, (us.set k (.slice r2 m2 d2)).set l (.slice r1 m1 d1), by omega, by omega, by go_num, by rw [show ((l - 1 : Nat) : Int) = (l : Int) - 1 from by omega], ?_, ?_, ?_⟩
        · exact (World.ownsRow.stored (World.ownsRow.stored (ownsRow_below Hown.out ((Q.refl wr).drewN 1 |>.below _)) k _).1 l _).1
        · intro t ht
          obtain ⟨e1, e2⟩ := Hf1.out
          have hu := Hus.out t ht
          simp only [List.getD, List.getElem?_set, List.length_set] at hu e1 e2 ⊢
          by_cases ht1 : l = t
          · subst ht1
            rw [if_pos rfl, if_pos (by omega), if_pos (by omega), show n - 1 - l = k from by omega, e1]
            rfl
          · rw [if_neg ht1]
            by_cases ht2 : k = t
            · subst ht2
              rw [if_pos rfl, if_pos (by omega), if_pos (by omega), show n - 1 - k = l from by omega, e2]
              rfl
            · rw [if_neg ht2, hu]
              by_cases hc : t < k ∨ n - k ≤ t
              · rw [if_pos hc, if_pos (by omega)]
              · rw [if_neg hc, if_neg (by omega)]
        · exact ((Hbr.out.trans ((Q.refl wr).drewN 1 |>.below _)).setCell (p := ⟨g, k, none⟩) hB _).setCell (p := ⟨g, l, none⟩) hB _
      case measure => simp [intOf]; omega
    · have hfin : us = vs.reverse := by
        have hul : us.length = n := by simpa using hown.1
        apply List.ext_getElem (by rw [List.length_reverse, hul, Hvl.out])
        intro t h1 h2
        have hu := hus t (by omega)
        rw [List.getElem_reverse]
        have hvl := Hvl.out
        by_cases hc : t < k ∨ n - k ≤ t
        · rw [if_pos hc] at hu
          simp only [List.getD, List.getElem?_eq_getElem h1, List.getElem?_eq_getElem (show n - 1 - t < vs.length by omega), Option.getD_some] at hu
          rw [hu]
          congr 1
          omega
        · rw [if_neg hc] at hu
          simp only [List.getD, List.getElem?_eq_getElem h1, List.getElem?_eq_getElem (show t < vs.length by omega), Option.getD_some] at hu
          rw [hu]
          congr 1
          omega
      rw [hfin] at hown
      have Hown := Lib.hid hown
      have Hbr := Lib.hid hbr
      have hd : decide ((k : Int) < (l : Int)) = false := by simp; omega
      clear hown hus hbr hfin
      go_wp2
      (try simp only [Exit.inBlock, Exit.then]); refine bodyPost_end (results_none rfl _ _ _) rfl ?_
      exact ⟨rfl, Hown.out, Hbr.out⟩
end Go.Proofs.YtgdijjfipicodaaDoor

namespace Go.Proofs.YtgdijjfipicodaaDoor
open Go.RowKit

theorem OwnR.isAt {w : World} {B n c : Nat} {ao : Option Addr} {m : List (List Int)} {vs : List Value} (h : OwnR w B (.slice ao n c) m vs) (hn : 1 ≤ m.length) : ∃ g, ao = some ⟨g, 0, none⟩ ∧ B ≤ g ∧ g < w.heap.size := by
  rcases h.top.2 with ⟨h0, h1⟩ | ⟨g, cap, cur, hv, hg, hh, _⟩
  · omega
  · simp only [Value.slice.injEq] at hv
    obtain ⟨rfl, _⟩ := hv
    exact ⟨g, rfl, hg, lt_of_block hh⟩
theorem gr_rev {m : List (List Int)} {i : Nat} (h : i < m.length) : gr m.reverse i = gr m (m.length - 1 - i) := by
  rw [gr_lt (by simpa using h), gr_lt (by omega), List.getElem_reverse]

set_option maxRecDepth 100000 in
set_option maxHeartbeats 800000 in
theorem upsideDownR_any (B : Nat) (ao : Option Addr) (c : Nat) (m : List (List Int)) (vs : List Value) (w : World) (hn : m.length ≤ 1048576) (h1 : 1 ≤ m.length) (hB : B ≤ w.heap.size) (hm : OwnR w B (.slice ao m.length c) m vs) :
    Calls Tryd.prog 76 #[.slice ao m.length c] w fun e w' => ∃ v, e = .returned v ∧ OwnR w' B v m.reverse vs.reverse ∧ Below w.heap.size w w' := by
  have hmx : m.length ≤ 9223372036854775807 := by omega
  obtain ⟨b, rfl, _, _⟩ := hm.isAt h1
  have hcl := hm.cells
  have hlen := hm.len
  have Hm := Lib.hid hm
  have Hlen := Lib.hid hlen
  have Hcl := Lib.hid (sCloneM_any b 0 m.length c vs w hn hlen (fun j u hj => by have := hcl.1 j u hj; rw [Addr.add_lit] at this; exact this) hcl.2)
  have Hsl := Lib.hid (show ∀ t, t < m.length → ∃ r k d, vs.getD t undef = .slice r k d from fun t ht => by
    obtain ⟨r, d, e, _⟩ := (hm.rows t ht).read
    exact ⟨r, _, d, e⟩)
  have HB := Lib.hid hB
  clear hm hcl hlen
  go_enter Tryd.func76, Tryd.ntmps76
  go_wp2_with fail
  refine Hcl.out.mono ?_
  rintro e w1 ⟨v, rfl, hown, hb1⟩
  obtain ⟨ao', d, e1, _, _, _⟩ := ownsRow_read hown
  subst e1
  obtain ⟨g, hg, hgB⟩ : ∃ g, ao' = some ⟨g, 0, none⟩ ∧ w.heap.size ≤ g := by
    rcases hown.2 with ⟨h0, _⟩ | ⟨g, cap, cur, hv, hb, _⟩
    · simp only [Value.slice.injEq] at h0; omega
    · simp only [Value.slice.injEq] at hv
      exact ⟨g, hv.1, hb⟩
  subst hg
  have Hrv := Lib.hid (sReverseM_any w.heap.size g m.length d vs w1 hn h1 hgB Hsl.out (ownsRow_raise hown (fun k hk => by simp [Value.ownBlock] at hk; omega)))
  have Hb1 := Lib.hid hb1
  clear hown hb1
  go_wp2_with fail
  refine Hrv.out.mono ?_
  rintro e w2 ⟨rfl, hown, hb2⟩
  have Hb2 := Lib.hid (Hb1.out.trans hb2)
  have hfin : OwnR w2 B (.slice (some ⟨g, 0, none⟩) m.length d) m.reverse vs.reverse := by
    refine ⟨by rw [List.length_reverse]; exact ownsRow_base hown (Nat.le_trans HB.out hgB), fun i hi => ?_⟩
    rw [List.length_reverse] at hi
    rw [gr_rev hi]
    have := (Hm.out.rows (m.length - 1 - i) (by omega)).below Hb2.out
    simp only [List.getD] at this ⊢
    rw [List.getElem?_reverse (by rw [Hlen.out]; exact hi), Hlen.out]
    exact this
  have Hfin := Lib.hid hfin
  clear hown hb2 hfin
  go_wp2
  go_ret
  exact ⟨_, rfl, Hfin.out, Hb2.out⟩

theorem OwnR.setOther {w : World} {B B' n' : Nat} {x v : Value} {m : List (List Int)} {vs ys : List Value} {e' : TypeId} {g i : Nat} (h : OwnR w B x m vs) (k : w.ownsRow B' e' 1 v n' ys) (hv : v.ownBlock = some g) (h1 : 42 ≠ e') (h2 : 3 ≠ e') (u : Value) : OwnR (w.setCell ⟨g, i, none⟩ u) B x m vs :=
  ⟨Go.ownsRow_setCell_other h.top (fun e => row_apart h.top k h1 g e hv) u, fun j hj => Go.ownsRow_setCell_other (h.rows j hj) (fun e => row_apart (h.rows j hj) k h2 g e hv) u⟩
/-- a table is put in the place of another one -/
theorem OwnRL.set {w : World} {B g n c i : Nat} {ts : List (List (List Int))} {vs zs : List Value} {v : Value} {M : List (List Int)} (h : OwnRL w B (.slice (some ⟨g, 0, none⟩) n c) ts vs) (hi : i < ts.length) (hv : OwnR w B v M zs) :
    OwnRL (w.setCell ⟨g, i, none⟩ v) B (.slice (some ⟨g, 0, none⟩) n c) (ts.set i M) (vs.set i v) := by
  have hl := h.len
  have hn : ts.length = n := by
    obtain ⟨ao, c', e, _, _⟩ := h.head
    simp only [Value.slice.injEq] at e
    exact e.2.1.symm
  subst hn
  refine ⟨by rw [List.length_set]; exact (World.ownsRow.stored h.top i v).1, fun j hj => ?_⟩
  rw [List.length_set] at hj
  by_cases e : j = i
  · subst e
    refine ⟨zs, ?_⟩
    have e1 : (vs.set j v).getD j undef = v := by simp [List.getD, hl, hj]
    have e2 : gt (ts.set j M) j = M := by unfold gt; simp [List.getD, hj]
    rw [e1, e2]
    exact hv.setOther h.top rfl (by decide) (by decide) v
  · obtain ⟨us, hu⟩ := h.each j hj
    refine ⟨us, ?_⟩
    have e1 : (vs.set i v).getD j undef = vs.getD j undef := by simp only [List.getD]; rw [List.getElem?_set_ne (fun h => e h.symm)]
    have e2 : gt (ts.set i M) j = gt ts j := by unfold gt; simp only [List.getD]; rw [List.getElem?_set_ne (fun h => e h.symm)]
    rw [e1, e2]
    exact hu.setOther h.top rfl (by decide) (by decide) v
theorem OwnRL.isAt {w : World} {B n c : Nat} {ao : Option Addr} {ts : List (List (List Int))} {vs : List Value} (h : OwnRL w B (.slice ao n c) ts vs) (hn : 1 ≤ ts.length) : ∃ g, ao = some ⟨g, 0, none⟩ ∧ B ≤ g ∧ g < w.heap.size := by
  rcases h.top.2 with ⟨h0, h1⟩ | ⟨g, cap, cur, hv, hg, hh, _⟩
  · omega
  · simp only [Value.slice.injEq] at hv
    obtain ⟨rfl, _⟩ := hv
    exact ⟨g, rfl, hg, lt_of_block hh⟩

def flipT (t : List (List Int)) : List (List Int) := (fromTab t).reverse
/-- the first k tables turned into sign matrices -/
def mixT (T : List (List (List Int))) (k : Nat) : List (List (List Int)) := (T.take k).map flipT ++ T.drop k
theorem mixT_len (T : List (List (List Int))) (k : Nat) : (mixT T k).length = T.length := by simp [mixT]; omega
theorem mixT_zero (T : List (List (List Int))) : mixT T 0 = T := by simp [mixT]
theorem mixT_end (T : List (List (List Int))) : mixT T T.length = T.map flipT := by simp [mixT]
theorem mixT_at {T : List (List (List Int))} {k : Nat} (h : k < T.length) : gt (mixT T k) k = gt T k := by
  unfold mixT gt
  simp only [List.getD]
  rw [List.getElem?_append_right (by simp; omega), List.length_map, List.length_take, Nat.min_eq_left (by omega), Nat.sub_self, List.getElem?_drop, Nat.add_zero]
theorem mixT_set {T : List (List (List Int))} {k : Nat} (h : k < T.length) : (mixT T k).set k (flipT (gt T k)) = mixT T (k + 1) := by
  apply List.ext_getElem?
  intro i
  unfold mixT
  rw [List.getElem?_set]
  by_cases e : k = i
  · subst e
    rw [if_pos rfl, if_pos (by simp; omega), List.getElem?_append_left (by simp; omega), List.getElem?_map, List.getElem?_take_of_lt (by omega), gt_lt h, List.getElem?_eq_getElem h]
    rfl
  · rw [if_neg e]
    by_cases h2 : i < k
    · rw [List.getElem?_append_left (by simp; omega), List.getElem?_append_left (by simp; omega), List.getElem?_map, List.getElem?_map, List.getElem?_take_of_lt h2, List.getElem?_take_of_lt (by omega)]
    · rw [List.getElem?_append_right (by simp; omega), List.getElem?_append_right (by simp; omega)]
      simp only [List.length_map, List.length_take, List.getElem?_drop]
      rw [Nat.min_eq_left (by omega), Nat.min_eq_left (by omega)]
      congr 1
      omega

set_option maxRecDepth 100000 in
set_option maxHeartbeats 3200000 in
theorem allSigns_any (n : Nat) (w : World) (h1 : 1 ≤ n) (h5 : n ≤ 5) (hD : Dj w) :
    Calls Tryd.prog 53 #[.int .i64 (n : Int)] w fun e w' => ∃ v vs, e = .returned v ∧ OwnRL w' w.heap.size v (allI n) vs ∧ Below w.heap.size w w' := by
  have hcols := tris_cols n (by omega)
  have C := Lib.hid (triangles_any (n - 1) (fullR n) w (by omega) (fullR_rise (by omega)) (by rw [fullR_len]; omega) hD)
  rw [fullR_ok n (by omega)] at C
  have hTl := trisD_le (n - 1) (fullR n) (fullR_rise (by omega)) (by rw [fullR_len]; omega)
  have hTb := trB_le (n - 1) (by omega)
  obtain ⟨T, hT⟩ : ∃ T, T = trisD (n - 1) (fullR n) := ⟨_, rfl⟩
  rw [← hT] at hcols C hTl
  have HV := Lib.hid (show allI n = T.map flipT by rw [hT]; rfl)
  have Hcols := Lib.hid (show ∀ t, t ∈ T → t.length = n ∧ colsOk t from fun t ht => (hcols t ht).resolve_left (by omega))
  have hTn : T.length ≤ 1099511627776 := Nat.le_trans hTl hTb
  obtain ⟨q, hq⟩ : ∃ q : Int, q = ((2 ^ n - 1 : Nat) : Int) := ⟨_, rfl⟩
  have CA := Lib.hid (allColumns_any n w (by omega))
  rw [← hq] at C CA
  clear hcols hT hTl hTb hD hq
  go_enter Tryd.func53, Tryd.ntmps53
  go_wp2_with fail
  refine CA.out.mono ?_
  rintro e w1 ⟨rfl, rfl⟩
  go_wp2_with fail
  refine C.out.mono ?_
  rintro e w2 ⟨v, vs, rfl, hv, _, hb⟩
  obtain ⟨ta, tc, rfl, ht1, ht2⟩ := hv.head
  have Hv := Lib.hid hv
  have Hb := Lib.hid hb
  clear hv hb C CA
  go_wp2
  go_loopw [11] (fun i wr => ∃ (k : Nat) (vs : List Value), k ≤ T.length ∧ i = .int .i64 k ∧ OwnRL wr w.heap.size (.slice ta T.length tc) (mixT T k) vs ∧ Below w.heap.size w wr) (fun i _ => T.length - (intOf i).toNat)
  case atStart => exact ⟨0, vs, Nat.zero_le _, rfl, by rw [mixT_zero]; exact Hv.out, Hb.out⟩
  case round =>
    obtain ⟨k, vs, hk, rfl, hown, hbr⟩ := hrel
    clear Hv Hb
    have Hown := Lib.hid hown
    have Hbr := Lib.hid hbr
    have HBr := Lib.hid hbr.size
    by_cases hlt : k < T.length
    · obtain ⟨g, rfl, hg1, hg2⟩ := hown.isAt (by rw [mixT_len]; omega)
      obtain ⟨b1, o1, r1, d1, e1, hc1, hm1, _, _⟩ := hown.at (i := k) (by rw [mixT_len]; exact hlt)
      cases e1
      rw [Nat.zero_add] at hc1
      rw [mixT_at hlt] at hc1 hm1
      obtain ⟨hl1, hco⟩ := Hcols.out _ (gt_mem hlt)
      have CS := Lib.hid (signsOf_any r1 d1 (gt T k) wr hco hm1)
      have Hset := Lib.hid (show (mixT T k).set k (flipT (gt T k)) = mixT T (k + 1) from mixT_set hlt)
      have Hfl := Lib.hid (show (fromTab (gt T k)).length = n by rw [fromTab_len]; exact hl1)
      rw [hl1] at hc1 CS
      clear hown hbr hm1 hl1 hco
      go_wp2_with fail
      refine CS.out.mono ?_
      rintro e w3 ⟨v3, rfl, hv3, hb3⟩
      obtain ⟨sa, scp, svs, rfl, hsp, _, _⟩ := hv3.open
      have CU := Lib.hid (upsideDownR_any w.heap.size sa scp (fromTab (gt T k)) svs w3 (by rw [Hfl.out]; omega) (by rw [Hfl.out]; omega) (Nat.le_trans HBr.out hb3.size) (hsp.toR.base HBr.out))
      rw [Hfl.out] at CU ⊢
      have Hb3 := Lib.hid hb3
      clear hv3 hb3 hsp CS
      go_wp2_with fail
      refine CU.out.mono ?_
      rintro e w4 ⟨v4, rfl, hv4, hb4⟩
      have hb34 := Hb3.out.trans (hb4.mono Hb3.out.size)
      have hown4 := Hown.out.below hb34
      have hfr : w4.frozen? ⟨g, k, none⟩ = false := by
        have h := hown4.top
        rw [mixT_len] at h
        exact World.ownsRow.frozenAt h k
      have hcell : w4.cell? ⟨g, k, none⟩ = some (.slice r1 n d1) := cell_below hc1 hb34
      have hset := hown4.set (i := k) (by rw [mixT_len]; exact hlt) hv4
      rw [show (fromTab (gt T k)).reverse = flipT (gt T k) from rfl, Hset.out] at hset
      have Hs := Lib.hid hset
      have Hbs := Lib.hid ((Hbr.out.trans (hb34.mono HBr.out)).setCell (p := ⟨g, k, none⟩) hg1 v4)
      obtain ⟨va, vc, hvv, _, _, _⟩ := hv4.read
      rw [List.length_reverse, Hfl.out] at hvv
      subst hvv
      clear hv4 hb4 hb34 hown4 hset CU hc1
      go_wp2
      go_roundw
      case rel => exact ⟨k + 1, _, by omega, by go_num, Hs.out, Hbs.out⟩
      case measure => simp [intOf]; omega
    · obtain rfl : k = T.length := by omega
      rw [mixT_end, ← HV.out] at hown
      have Hown := Lib.hid hown
      clear hown hbr
      go_wp2
      go_ret
      exact ⟨_, vs, rfl, Hown.out, Hbr.out⟩
end Go.Proofs.YtgdijjfipicodaaDoor

namespace Go.Proofs.YtgdijjfipicodaaDoor

/-- numbers are a row of parts up to n -/
def DpRow (row : List Int) (n : Nat) : Prop :=
  1 ≤ row.length ∧ row.length < n ∧ (∀ i, i < row.length → 1 ≤ gi row i ∧ gi row i ≤ n) ∧ (row.length : Int) < gi row 0 ∧ ∀ i, i < row.length → 1 ≤ i → gi row i ≤ gi row (i - 1)
/-- a row can stand below another one -/
def DpBel (row above : List Int) : Prop :=
  row.length < above.length ∧ gi row 0 ≤ above.length ∧ ∀ i, i < row.length → gi row i < gi above (i + 1)
/-- rows are a descending plane partition, by the model -/
def DpGood (rows : List (List Int)) (n : Nat) : Prop :=
  rows.length ≤ n ∧ ∀ k, k < rows.length → DpRow (gr rows k) n ∧ (0 < k → DpBel (gr rows k) (gr rows (k - 1)))

/-- limits allow a row -/
def Allow (l row : List Int) : Prop :=
  1 ≤ row.length ∧ row.length ≤ l.length ∧ (row.length : Int) < gi row 0 ∧ ∀ i, i < row.length → 1 ≤ gi row i ∧ gi row i ≤ gi l i ∧ (0 < i → gi row i ≤ gi row (i - 1))
instance (l row : List Int) : Decidable (Allow l row) := by unfold Allow; exact inferInstance

def lim1 (n : Nat) : List Int := List.replicate (n - 1) (n : Int)
def limB (row : List Int) : List Int := (List.range (row.length - 1)).map fun i => min (row.length : Int) (gi row (i + 1) - 1)
def limAt (n : Nat) (rows : List (List Int)) (k : Nat) : List Int := if k = 0 then lim1 n else limB (gr rows (k - 1))
/-- the first k rows are allowed, each by the one before, by the program -/
def ChainTo (n : Nat) (rows : List (List Int)) (k : Nat) : Prop := ∀ j, j < k → Allow (limAt n rows j) (gr rows j)

theorem lim1_len (n : Nat) : (lim1 n).length = n - 1 := by simp [lim1]
theorem gi_lim1 {n i : Nat} (h : i < n - 1) : gi (lim1 n) i = n := by
  rw [gi_lt (by rw [lim1_len]; exact h)]
  simp [lim1]
theorem limB_len (row : List Int) : (limB row).length = row.length - 1 := by simp [limB]
theorem gi_limB {row : List Int} {i : Nat} (h : i < row.length - 1) : gi (limB row) i = min (row.length : Int) (gi row (i + 1) - 1) := by
  rw [gi_lt (by rw [limB_len]; exact h)]
  simp [limB]

theorem allow_first (row : List Int) {n : Nat} (hn : 1 ≤ n) : Allow (lim1 n) row ↔ DpRow row n := by
  unfold Allow DpRow
  rw [lim1_len]
  constructor
  · rintro ⟨h1, h2, h3, h4⟩
    refine ⟨h1, by omega, fun i hi => ?_, h3, fun i hi h1 => (h4 i hi).2.2 (by omega)⟩
    have := h4 i hi
    rw [gi_lim1 (by omega)] at this
    exact ⟨this.1, this.2.1⟩
  · rintro ⟨h1, h2, h3, h4, h5⟩
    refine ⟨h1, by omega, h4, fun i hi => ?_⟩
    have := h3 i hi
    rw [gi_lim1 (by omega)]
    exact ⟨this.1, this.2, fun h0 => h5 i hi h0⟩

/-- parts of a row do not rise -/
theorem DpRow.le_first {row : List Int} {n : Nat} (h : DpRow row n) : ∀ i, i < row.length → gi row i ≤ gi row 0 := by
  intro i
  induction i with
  | zero => intro _; exact Int.le_refl _
  | succ i ih =>
    intro hi
    have h1 := h.2.2.2.2 (i + 1) hi (by omega)
    have h2 := ih (by omega)
    simp only [Nat.add_sub_cancel] at h1
    omega

theorem allow_below (row above : List Int) {n : Nat} (ha : DpRow above n) : Allow (limB above) row ↔ DpRow row n ∧ DpBel row above := by
  unfold Allow
  rw [limB_len]
  constructor
  · rintro ⟨h1, h2, h3, h4⟩
    have h5 : ∀ i, i < row.length → 1 ≤ gi row i ∧ gi row i ≤ above.length ∧ gi row i < gi above (i + 1) ∧ (0 < i → gi row i ≤ gi row (i - 1)) := by
      intro i hi
      have := h4 i hi
      rw [gi_limB (by omega)] at this
      omega
    refine ⟨⟨h1, by have := ha.2.1; omega, fun i hi => ?_, h3, fun i hi h0 => (h5 i hi).2.2.2 h0⟩, by omega, (h5 0 (by omega)).2.1, fun i hi => (h5 i hi).2.2.1⟩
    have := h5 i hi
    have := ha.2.2.1 (i + 1) (by omega)
    omega
  · rintro ⟨hr, h1, h2, h3⟩
    refine ⟨hr.1, by omega, hr.2.2.2.1, fun i hi => ?_⟩
    rw [gi_limB (by omega)]
    have h4 := hr.2.2.1 i hi
    have h5 := h3 i hi
    have h6 := hr.le_first i hi
    exact ⟨h4.1, by omega, fun h0 => hr.2.2.2.2 i hi h0⟩

theorem chain_rows {n : Nat} (hn : 1 ≤ n) {rows : List (List Int)} {k : Nat} (h : ChainTo n rows k) : ∀ j, j < k → DpRow (gr rows j) n ∧ (0 < j → DpBel (gr rows j) (gr rows (j - 1))) := by
  intro j
  induction j with
  | zero =>
    intro hj
    have := h 0 hj
    simp only [limAt, if_pos] at this
    exact ⟨(allow_first _ hn).1 this, fun h0 => absurd h0 (by omega)⟩
  | succ j ih =>
    intro hj
    have h1 := ih (by omega)
    have := h (j + 1) hj
    simp only [limAt, if_neg (Nat.succ_ne_zero j), Nat.add_sub_cancel] at this
    have h2 := (allow_below _ _ h1.1).1 this
    exact ⟨h2.1, fun _ => by simpa using h2.2⟩

/-- lengths fall -/
theorem rows_fall {n k : Nat} {rows : List (List Int)} (h : ∀ j, j < k → DpRow (gr rows j) n ∧ (0 < j → DpBel (gr rows j) (gr rows (j - 1)))) : ∀ j, j < k → (gr rows j).length + j + 1 ≤ n := by
  intro j
  induction j with
  | zero => intro hj; have := (h 0 hj).1.2.1; omega
  | succ j ih =>
    intro hj
    have h1 := ih (by omega)
    have h2 := ((h (j + 1) hj).2 (by omega)).1
    simp only [Nat.add_sub_cancel] at h2
    omega

theorem good_chain {n : Nat} (hn : 1 ≤ n) (rows : List (List Int)) : DpGood rows n ↔ ChainTo n rows rows.length := by
  constructor
  · rintro ⟨_, h⟩ j hj
    unfold limAt
    by_cases e : j = 0
    · subst e
      rw [if_pos rfl]
      exact (allow_first _ hn).2 (h 0 hj).1
    · rw [if_neg e]
      exact (allow_below _ _ (h (j - 1) (by omega)).1).2 ⟨(h j hj).1, (h j hj).2 (by omega)⟩
  · intro h
    have hr := chain_rows hn h
    refine ⟨?_, hr⟩
    by_cases e : rows.length = 0
    · omega
    have h1 := rows_fall hr (rows.length - 1) (by omega)
    omega

/-- at most 5 rows of at most 5 parts -/
theorem DpGood.bounds {rows : List (List Int)} {n : Nat} (h : DpGood rows n) (hn : 1 ≤ n) : rows.length < n ∧ ∀ i, i < rows.length → (gr rows i).length < n := by
  have hf := rows_fall h.2
  refine ⟨?_, fun i hi => by have := hf i hi; omega⟩
  by_cases e : rows.length = 0
  · omega
  have := hf (rows.length - 1) (by omega)
  have h2 := (h.2 (rows.length - 1) (by omega)).1.1
  omega
end Go.Proofs.YtgdijjfipicodaaDoor

