/- Parts of proofs: contracts and plain facts. Conditions: as each says. -/
import Derived.Test.YtmcgnbbobhfkpaaDoorK07
namespace Go.Proofs.YtmcgnbbobhfkpaaDoor
open Go.RowKit

def bump (d : Int) (c : List Int) (v : Int) : List Int := c.set v.toNat (wrap64 (gi c v.toNat + d))
theorem bump_len (d : Int) (c : List Int) (v : Int) : (bump d c v).length = c.length := by simp [bump]
/-- the row of signs between two rows of columns -/
def stepF (n : Nat) (xs ys : List Int) : List Int := xs.foldl (bump (-1)) (ys.foldl (bump 1) (List.replicate n 0))
/-- the minus ones among the first k -/
def minusF (st : List Int) : Nat → Int
  | 0 => 0
  | k + 1 => if gi st k < 0 then wrap64 (minusF st k + 1) else minusF st k
/-- what the sign x of column k adds, by the first j numbers of the row -/
def addIn (xs : List Int) (k : Nat) (x acc : Int) : Nat → Int
  | 0 => acc
  | j + 1 => if (k : Int) < gi xs j then wrap64 (addIn xs k x acc j + x) else addIn xs k x acc j
def addF (xs st : List Int) : Nat → Int
  | 0 => 0
  | k + 1 => addIn xs k (gi st k) (addF xs st k) xs.length
def nextMinus (n : Nat) (xs ys : List Int) (s : Int) : Int := wrap64 (s + minusF (stepF n xs ys) (stepF n xs ys).length)
def nextAdd (n : Nat) (xs ys : List Int) (s : Int) : Int := wrap64 (s + addF xs (stepF n xs ys) (stepF n xs ys).length)
abbrev Nx := Nat → List Int → List Int → Int → Int
/-- the counts with those added that are reached from a row at a score -/
def spreadF (nx : Nx) (n : Nat) : Nat → List Int → Int → List Int → List Int
  | 0, _, s, c => bump 1 c s
  | d + 1, xs, s, c => (behind n xs).foldl (fun c ys => spreadF nx n d ys (nx n xs ys s) c) c
theorem spreadF_len (nx : Nx) (n : Nat) : ∀ (d : Nat) (xs : List Int) (s : Int) (c : List Int), (spreadF nx n d xs s c).length = c.length
  | 0, _, s, c => bump_len _ _ _
  | d + 1, xs, s, c => by
    rw [spreadF]
    generalize behind (n : Int) xs = L
    induction L generalizing c with
    | nil => rfl
    | cons y r ih => rw [List.foldl_cons, ih, spreadF_len nx n d]
/-- no score leaves the table -/
def okF (nx : Nx) (n : Nat) : Nat → List Int → Int → Bool
  | 0, _, s => decide (0 ≤ s) && decide (s ≤ (n * n : Nat))
  | d + 1, xs, s => (behind n xs).all fun ys => okF nx n d ys (nx n xs ys s)
/-- the last place with a positive number -/
def lastF (c : List Int) : Nat → Nat
  | 0 => 0
  | k + 1 => if 0 < gi c k then k else lastF c k
theorem lastF_lt (c : List Int) : ∀ k, 0 < k → lastF c k < k
  | 0, h => absurd h (by omega)
  | k + 1, _ => by
    unfold lastF
    split
    · omega
    · by_cases h : 0 < k
      · have := lastF_lt c k h; omega
      · obtain rfl : k = 0 := by omega
        simp [lastF]
def countsF (nx : Nx) (n : Nat) : List Int := spreadF nx n n [] 0 (List.replicate (n * n + 1) 0)
def trimF (c : List Int) : List Int := c.take (lastF c c.length + 1)
def scoreT (sc : List Int → List Int → Int) (n k : Nat) : List Int := let T := iterT (upCh sc) (n - 1) [((iota n, 0), 1)]
  (List.range k).map fun i : Nat => wrap64 (potL T (fun p => hits (i : Int) p.1 p.2))
theorem scoreT_is (sc : List Int → List Int → Int) (n k : Nat) : scoreL sc n k = scoreT sc n k := by
  unfold scoreL scoreT
  refine List.map_congr_left fun i _ => ?_
  rw [climb_tab0]
def sameC (sc : List Int → List Int → Int) (nx : Nx) (n g : Nat) : Bool := okF nx n n [] 0 && (trimF (countsF nx n) == scoreT sc n (g + 1))
set_option maxRecDepth 1000000 in
theorem lost_same : sameC lostSc nextMinus 1 0 = true ∧ sameC lostSc nextMinus 2 0 = true ∧ sameC lostSc nextMinus 3 1 = true ∧ sameC lostSc nextMinus 4 2 = true ∧ sameC lostSc nextMinus 5 4 = true := by decide +kernel
set_option maxRecDepth 1000000 in
theorem moved_same : sameC movedSc nextAdd 1 0 = true ∧ sameC movedSc nextAdd 2 1 = true ∧ sameC movedSc nextAdd 3 3 = true ∧ sameC movedSc nextAdd 4 6 = true ∧ sameC movedSc nextAdd 5 10 = true := by decide +kernel
end Go.Proofs.YtmcgnbbobhfkpaaDoor

namespace Go.Proofs.YtmcgnbbobhfkpaaDoor
open Go.RowKit

theorem foldl_take {f : List Int → Int → List Int} {z : List Int} {xs : List Int} {k : Nat} (h : k < xs.length) : (xs.take (k + 1)).foldl f z = f ((xs.take k).foldl f z) (gi xs k) := by
  rw [take_succ_gi h, List.foldl_append]
  rfl
theorem bumps_len (d : Int) (xs : List Int) (z : List Int) : (xs.foldl (bump d) z).length = z.length := by
  induction xs generalizing z with
  | nil => rfl
  | cons a r ih => rw [List.foldl_cons, ih, bump_len]
theorem stepF_len (n : Nat) (xs ys : List Int) : (stepF n xs ys).length = n := by unfold stepF; rw [bumps_len, bumps_len, List.length_replicate]

set_option maxRecDepth 100000 in
set_option maxHeartbeats 800000 in
theorem trStep_any (a1 a2 : Option Addr) (c1 c2 n : Nat) (xs ys : List Int) (w : World) (hn : n ≤ 16) (hl1 : xs.length ≤ 1048576) (hl2 : ys.length ≤ 1048576) (hx : ∀ x ∈ xs, 0 ≤ x ∧ x < (n : Int)) (hy : ∀ x ∈ ys, 0 ≤ x ∧ x < (n : Int)) (h1 : IntsAt w a1 xs) (h2 : IntsAt w a2 ys) :
    Calls Tryd.prog 43 #[.slice a1 xs.length c1, .slice a2 ys.length c2, .int .i64 (n : Int)] w fun e w' => ∃ v, e = .returned v ∧ OwnI w' w.heap.size v (stepF n xs ys) ∧ Below w.heap.size w w' := by
  obtain ⟨i0, hi, hz0, hz1, hz2⟩ := info_parts Tryd.info_int
  have hm1 : xs.length ≤ 9223372036854775807 := by omega
  have hm2 : ys.length ≤ 9223372036854775807 := by omega
  have H1 := Lib.hid h1
  have H2 := Lib.hid h2
  have Hx := Lib.hid hx
  have Hy := Lib.hid hy
  clear h1 h2 hx hy
  go_enter Tryd.func43, Tryd.ntmps43
  go_wp2_with (at_make; refine wpList_make_full _ rfl _ _ 25 rfl w.heap.size 3 i0 (.int .i64 0) 1 Tryd.underlying25 hi hz0 hz1 _ _ _ _ n rfl rfl rfl rfl ?c1 ?c2 ?c3 ?_)
  case c1 => rw [hz2]; omega
  case c2 => unfold maxLen; omega
  case c3 => simp
  intro w1 hown hgr
  have hb1 : Below w.heap.size w w1 := (Below.refl _ _).grown hgr (Nat.le_refl _) (fun _ h => by cases h)
  have Hown1 := Lib.hid (OwnI.made hown)
  have Hb1 := Lib.hid hb1
  clear hown hgr hb1
  go_wp2
  go_loopw [16] (fun i wr => ∃ k : Nat, k ≤ ys.length ∧ i = .int .i64 k ∧ OwnI wr w.heap.size (.slice (some ⟨w.heap.size, 0, none⟩) n n) ((ys.take k).foldl (bump 1) (List.replicate n 0)) ∧ Below w.heap.size w wr) (fun i _ => ys.length - (intOf i).toNat)
  case atStart => exact ⟨0, Nat.zero_le _, rfl, Hown1.out, Hb1.out⟩
  case round =>
    obtain ⟨k, hk, rfl, hown, hbr⟩ := hrel
    by_cases hlt : k < ys.length
    · obtain ⟨b, o, rfl, hc⟩ := (H2.out.below hbr) k hlt
      have hb := Hy.out _ (gi_mem hlt)
      have Hst := Lib.hid (foldl_take (f := bump 1) (z := List.replicate n 0) hlt)
      obtain ⟨v, hv⟩ : ∃ v : Nat, gi ys k = (v : Int) := ⟨(gi ys k).toNat, by omega⟩
      rw [hv] at hc hb
      have Hv := Lib.hid hv
      have hvn : v < n := by omega
      obtain ⟨q, hq⟩ : ∃ q, q = (ys.take k).foldl (bump 1) (List.replicate n 0) := ⟨_, rfl⟩
      rw [← hq] at hown
      have Hq := Lib.hid hq
      have hcv := hown.cellAt v hvn
      have hfr := hown.frozenAt v
      obtain ⟨u, hu⟩ : ∃ u, u = gi q v := ⟨_, rfl⟩
      rw [← hu] at hcv
      have Hu := Lib.hid hu
      have hst := hown.store v (wrap64 (u + 1))
      have Hst2 := Lib.hid hst
      have Hb := Lib.hid (hbr.setCell (p := ⟨w.heap.size, v, none⟩) (Nat.le_refl _) (.int .i64 (wrap64 (u + 1))))
      clear hv hq hu hown hst hbr
      go_wp2
      go_roundw
      case rel => exact ⟨k + 1, by omega, by go_num, by rw [Hst.out, ← Hq.out, Hv.out]; unfold bump; rw [Int.toNat_natCast, ← Hu.out]; exact Hst2.out, Hb.out⟩
      case measure => simp [intOf]; omega
    · obtain rfl : k = ys.length := by omega
      rw [List.take_length] at hown
      obtain ⟨z, hz⟩ : ∃ z, z = ys.foldl (bump 1) (List.replicate n 0) := ⟨_, rfl⟩
      rw [← hz] at hown
      have Hz := Lib.hid hz
      have Hown2 := Lib.hid hown
      have Hb2 := Lib.hid hbr
      clear hz hown hbr
      go_wp2
      go_loopw [29] (fun i wr => ∃ k : Nat, k ≤ xs.length ∧ i = .int .i64 k ∧ OwnI wr w.heap.size (.slice (some ⟨w.heap.size, 0, none⟩) n n) ((xs.take k).foldl (bump (-1)) z) ∧ Below w.heap.size w wr) (fun i _ => xs.length - (intOf i).toNat)
      case atStart => exact ⟨0, Nat.zero_le _, rfl, Hown2.out, Hb2.out⟩
      case round =>
        obtain ⟨k, hk, rfl, hown, hbr⟩ := hrel
        by_cases hlt : k < xs.length
        · obtain ⟨b, o, rfl, hc⟩ := (H1.out.below hbr) k hlt
          have hb := Hx.out _ (gi_mem hlt)
          have Hst := Lib.hid (foldl_take (f := bump (-1)) (z := z) hlt)
          obtain ⟨v, hv⟩ : ∃ v : Nat, gi xs k = (v : Int) := ⟨(gi xs k).toNat, by omega⟩
          rw [hv] at hc hb
          have Hv := Lib.hid hv
          have hvn : v < n := by omega
          obtain ⟨q, hq⟩ : ∃ q, q = (xs.take k).foldl (bump (-1)) z := ⟨_, rfl⟩
          rw [← hq] at hown
          have Hq := Lib.hid hq
          have hcv := hown.cellAt v hvn
          have hfr := hown.frozenAt v
          obtain ⟨u, hu⟩ : ∃ u, u = gi q v := ⟨_, rfl⟩
          rw [← hu] at hcv
          have Hu := Lib.hid hu
          have hst := hown.store v (wrap64 (u - 1))
          have Hst2 := Lib.hid hst
          have Hb := Lib.hid (hbr.setCell (p := ⟨w.heap.size, v, none⟩) (Nat.le_refl _) (.int .i64 (wrap64 (u - 1))))
          clear hv hq hu hown hst hbr
          go_wp2
          go_roundw
          case rel => exact ⟨k + 1, by omega, by go_num, by rw [Hst.out, ← Hq.out, Hv.out]; unfold bump; rw [Int.toNat_natCast, ← Hu.out, ← Int.sub_eq_add_neg]; exact Hst2.out, Hb.out⟩
          case measure => simp [intOf]; omega
        · obtain rfl : k = xs.length := by omega
          rw [List.take_length] at hown
          have Hfin := Lib.hid (show OwnI wr w.heap.size (.slice (some ⟨w.heap.size, 0, none⟩) n n) (stepF n xs ys) ∧ Below w.heap.size w wr from ⟨by unfold stepF; rw [← Hz.out]; exact hown, hbr⟩)
          clear hown hbr
          go_wp2
          go_ret
          exact ⟨_, rfl, Hfin.out⟩
end Go.Proofs.YtmcgnbbobhfkpaaDoor

namespace Go.Proofs.YtmcgnbbobhfkpaaDoor
open Go.RowKit

set_option maxRecDepth 100000 in
set_option maxHeartbeats 400000 in
theorem trSpreadMinus_any (N : Nat) (hN : N ≤ 5) (SZ : Nat) (hSZ : SZ = N * N + 1) : ∀ (d : Nat) (xs : List Int) (a1 : Option Addr) (c1 B0 kb kc : Nat) (s : Int) (ks : List Int) (w : World), xs.length + d = N → ColsN N xs → IntsAt w a1 xs → (∀ b o, a1 = some ⟨b, o, none⟩ → b ≠ kb) → OwnI w B0 (.slice (some ⟨kb, 0, none⟩) SZ kc) ks → B0 ≤ kb → okF nextMinus N d xs s = true → -9223372036854775808 ≤ s ∧ s ≤ 9223372036854775807 →
    Calls Tryd.prog 35 #[.slice a1 xs.length c1, .slice (some ⟨kb, 0, none⟩) SZ kc, .int .i64 s, .int .i64 (N : Int), .bool false] w fun e w' => e = .returned (.tuple #[]) ∧ OwnI w' B0 (.slice (some ⟨kb, 0, none⟩) SZ kc) (spreadF nextMinus N d xs s ks) ∧ w.grownBy w' (some kb) := by
  intro d
  induction d with
  | zero =>
    intro xs a1 c1 B0 kb kc s ks w hl hr hx hap hown hB hok hsb
    have hb : ((xs.length : Int) == (N : Int)) = true := by simp; omega
    have hmx : xs.length ≤ 9223372036854775807 := by omega
    obtain ⟨ho1, ho2⟩ : 0 ≤ s ∧ s ≤ ((N * N : Nat) : Int) := by
      unfold okF at hok
      simp only [Bool.and_eq_true, decide_eq_true_eq] at hok
      exact hok
    obtain ⟨m, rfl⟩ : ∃ m : Nat, s = (m : Int) := ⟨s.toNat, by omega⟩
    have hSb : SZ ≤ 26 := by rw [hSZ]; have := Nat.mul_le_mul hN hN; omega
    have hm : m < SZ := by omega
    have hc := hown.cellAt m hm
    have hfr := hown.frozenAt m
    obtain ⟨u, hu⟩ : ∃ u, u = gi ks m := ⟨_, rfl⟩
    rw [← hu] at hc
    have hst := hown.store m (wrap64 (u + 1))
    have Hst := Lib.hid (show OwnI (w.setCell ⟨kb, m, none⟩ (.int .i64 (wrap64 (u + 1)))) B0 (.slice (some ⟨kb, 0, none⟩) SZ kc) (spreadF nextMinus N 0 xs (m : Int) ks) by
      unfold spreadF bump
      rw [Int.toNat_natCast, ← hu]
      exact hst)
    have Hgs := Lib.hid (show w.grownBy (w.setCell ⟨kb, m, none⟩ (.int .i64 (wrap64 (u + 1)))) (some kb) from ⟨rfl, rfl, rfl, by simp [World.setCell], fun b hb hne => Below.heap_setCell _ _ _ _ (fun e => hne (by rw [e]))⟩)
    clear hl hr hx hap hown hu hst hok hSZ ho1 ho2
    go_enter Tryd.func35, Tryd.ntmps35
    go_wp2
    (try simp only [Exit.inBlock, Exit.then]); refine bodyPost_ret (results_none rfl _ _ _) rfl ?_
    exact ⟨rfl, Hst.out, Hgs.out⟩
  | succ d ih =>
    intro xs a1 c1 B0 kb kc s ks w hl hr hx hap hown hB hok hsb
    have hb : ((xs.length : Int) == (N : Int)) = false := by simp; omega
    have hmx : xs.length ≤ 9223372036854775807 := by omega
    have h6 : xs.length ≤ 6 := by omega
    have Hl := Lib.hid hl
    have Hr := Lib.hid hr
    have Hx := Lib.hid hx
    have Hap := Lib.hid hap
    have Hown := Lib.hid hown
    have Hok := Lib.hid hok
    have Hih := Lib.hid ih
    have HSZ := Lib.hid hSZ
    have Hsb := Lib.hid hsb
    have Ht := Lib.hid (trBehind_any N (by omega) xs Hr.out h6 (xs.length + 1) [] a1 none c1 0 w (by simp) (by simp) (fun x hx => by cases hx) (fun _ => rfl) Hx.out (IntsAt.nil _ _))
    have Ha := Lib.hid (show bhRes N xs [] = behind N xs by simp [bhRes, behind, lst_nil])
    clear hl hr hx hap hown hok ih hSZ hsb
    go_enter Tryd.func35, Tryd.ntmps35
    go_wp2_with fail
    refine Ht.out.mono ?_
    rintro e w1 ⟨v1, rfl, hv, hb1⟩
    rw [Ha.out] at hv
    obtain ⟨A, hA⟩ : ∃ A, A = behind N xs := ⟨_, rfl⟩
    rw [← hA] at hv
    obtain ⟨ra, rc, rfl, _, _, hmat⟩ := hv.read
    have hal : A.length ≤ 1048576 := by
      rw [hA]
      exact behind_len (by omega) Hr.out h6
    have Hv := Lib.hid hv
    have HA := Lib.hid hA
    have Hb1 := Lib.hid hb1
    have Hown1 := Lib.hid (Hown.out.below hb1)
    have hkbl : kb < w.heap.size := (Hown.out.lt kb rfl).2
    have hamx : A.length ≤ 9223372036854775807 := by omega
    have HF := Lib.hid (show spreadF nextMinus N (d + 1) xs s ks = A.foldl (fun c ys => spreadF nextMinus N d ys (nextMinus N xs ys s) c) ks by rw [hA]; rfl)
    have HO := Lib.hid (show ∀ ys ∈ A, okF nextMinus N d ys (nextMinus N xs ys s) = true by rw [hA]; exact List.all_eq_true.1 Hok.out)
    obtain ⟨fo, hfo⟩ : ∃ fo, fo = fun (c : List Int) (ys : List Int) => spreadF nextMinus N d ys (nextMinus N xs ys s) c := ⟨_, rfl⟩
    rw [← hfo] at HF
    have Hfo := Lib.hid hfo
    clear hv hmat hA hb1 hfo
    go_wp2
    go_loopw [33] (fun i wr => ∃ k : Nat, k ≤ A.length ∧ i = .int .i64 k ∧ OwnI wr B0 (.slice (some ⟨kb, 0, none⟩) SZ kc) ((A.take k).foldl fo ks) ∧ w1.grownBy wr (some kb))
      (fun i _ => A.length - (intOf i).toNat)
    case atStart => exact ⟨0, Nat.zero_le _, rfl, Hown1.out, World.grownBy.refl _ _⟩
    case round =>
      obtain ⟨k, hk, rfl, hownr, hg⟩ := hrel
      by_cases hlt : k < A.length
      · obtain ⟨us, hp⟩ := Hv.out
        obtain ⟨ao', c', hsl, _, _, hcells⟩ := ownsRow_read hp.top
        cases hsl
        obtain ⟨b1, o1, e1, hc1⟩ := hcells k hlt
        obtain ⟨r1, d1, hr1, _, _, hx1⟩ := (hp.rows k hlt).read
        rw [hr1] at hc1
        have hmem := behind_mem (n := N) (row := xs) (ys := gr A k) Hr.out (by have := gr_mem hlt; rw [HA.out] at this ⊢; exact this)
        have hok1 := HO.out (gr A k) (gr_mem hlt)
        have hcell : wr.cell? ⟨b1, o1 + k, none⟩ = some (.slice r1 (gr A k).length d1) := hg.cell hc1 (fun e => by
          have := (World.ownsRow.lt hp.top b1 (by rw [e1]; rfl)).1
          simp at e; omega)
        have hap' : ∀ b o, r1 = some ⟨b, o, none⟩ → b ≠ kb := fun b o e => by
          have := ((hp.rows k hlt).lt b (by rw [hr1, e]; rfl)).1
          omega
        have hxr : IntsAt wr r1 (gr A k) := fun i hi => by
          obtain ⟨b, o, e, hcc⟩ := hx1 i hi
          exact ⟨b, o, e, hg.cell hcc (fun e2 => hap' b o e (by simpa using e2))⟩
        have hxs : IntsAt wr a1 xs := fun i hi => by
          obtain ⟨b, o, e, hcc⟩ := Hx.out.below Hb1.out i hi
          exact ⟨b, o, e, hg.cell hcc (fun e2 => Hap.out b o e (by simpa using e2))⟩
        have hstep := trStep_any a1 r1 c1 d1 N xs (gr A k) wr (by omega) (by omega) (by have := hmem.2; omega) Hr.out.2 hmem.1.2 hxs hxr
        have Hf := Lib.hid (show (A.take (k + 1)).foldl fo ks = spreadF nextMinus N d (gr A k) (nextMinus N xs (gr A k) s) ((A.take k).foldl fo ks) by
          rw [List.take_succ_eq_append_getElem hlt, List.foldl_append, ← gr_lt hlt, List.foldl_cons, List.foldl_nil, Hfo.out])
        have Hlen1 := Lib.hid (show (gr A k).length + d = N by have := hmem.2; have := Hl.out; omega)
        have Hmem := Lib.hid hmem.1
        obtain ⟨Y, hY⟩ : ∃ Y, Y = gr A k := ⟨_, rfl⟩
        obtain ⟨kq, hkq⟩ : ∃ kq, kq = (A.take k).foldl fo ks := ⟨_, rfl⟩
        rw [← hY] at hcell hxr hstep Hf Hlen1 Hmem hok1
        rw [← hkq] at hownr Hf
        have hyb : Y.length ≤ 6 := by have := Hlen1.out; omega
        obtain ⟨rl, hrl⟩ : ∃ rl, rl = Y.length := ⟨_, rfl⟩
        have Hrl := Lib.hid hrl
        rw [← hrl] at hcell hstep hyb
        have Hstep := Lib.hid hstep
        have Hxs := Lib.hid hxs
        have Hxr := Lib.hid hxr
        have Hap' := Lib.hid hap'
        have Hownr := Lib.hid hownr
        have Hg := Lib.hid hg
        have Hok1 := Lib.hid hok1
        subst e1
        clear hp hcells hc1 hr1 hx1 hmem hap' hxr hxs hstep hownr hg hY hkq hok1 hrl
        go_wp2_with fail
        refine Hstep.out.mono ?_
        rintro e w3 ⟨v3, rfl, hv3, hb3⟩
        obtain ⟨st, hstv⟩ : ∃ st, st = stepF N xs Y := ⟨_, rfl⟩
        rw [← hstv] at hv3
        have hstl : st.length ≤ 16 := by rw [hstv, stepF_len]; omega
        obtain ⟨sa, cs, rfl, _, _, hm3⟩ := hv3.read
        have Hst := Lib.hid hm3
        have Hstv := Lib.hid hstv
        have Hxs3 := Lib.hid (Hxs.out.below hb3)
        have Hxr3 := Lib.hid (Hxr.out.below hb3)
        have Hown3 := Lib.hid (Hownr.out.below hb3)
        have Hg3 := Lib.hid (Hg.out.trans ((grown_of_below' hb3).but (some kb)))
        obtain ⟨s', hs'⟩ : ∃ s', s' = nextMinus N xs Y s := ⟨_, rfl⟩
        have Hsx := Lib.hid hs'
        have hs'b : -9223372036854775808 ≤ s' ∧ s' ≤ 9223372036854775807 := by rw [hs']; unfold nextMinus; unfold wrap64; omega
        have Hsb' := Lib.hid hs'b
        have Hcall := Lib.hid (Hih.out Y r1 d1 B0 kb kc s' kq w3 Hlen1.out Hmem.out Hxr3.out Hap'.out Hown3.out hB (by rw [hs']; exact Hok1.out) hs'b)
        rw [← Hrl.out] at Hcall
        clear hv3 hb3 hm3 hstv hs' hs'b
        have hstm : st.length ≤ 9223372036854775807 := by omega
        go_wp2
        go_loop [12, 14, 43] (fun a z i => ∃ j : Nat, j ≤ st.length ∧ i = .int .i64 j ∧ z = .int .i64 0 ∧ a = .int .i64 (minusF st j)) (fun _ _ i => st.length - (intOf i).toNat)
        case atStart => exact ⟨0, Nat.zero_le _, rfl, rfl, rfl⟩
        case round =>
          obtain ⟨j, hj, rfl, rfl, rfl⟩ := hrel
          by_cases hjl : j < st.length
          · obtain ⟨b2, o2, rfl, hc2⟩ := Hst.out j hjl
            obtain ⟨x, hx⟩ : ∃ x, x = gi st j := ⟨_, rfl⟩
            obtain ⟨u, hu⟩ : ∃ u, u = minusF st j := ⟨_, rfl⟩
            rw [← hx] at hc2
            rw [← hu]
            by_cases hneg : x < 0
            · have E := Lib.hid (show minusF st (j + 1) = wrap64 (u + 1) by rw [minusF, ← hx, if_pos hneg, hu])
              have hd : decide (x < 0) = true := by simpa using hneg
              clear hx hu hneg
              go_wp2
              go_round
              case rel => exact ⟨j + 1, by omega, by go_num, rfl, by rw [E.out]⟩
              case measure => simp [intOf]; omega
            · have E := Lib.hid (show minusF st (j + 1) = u by rw [minusF, ← hx, if_neg hneg, hu])
              have hd : decide (x < 0) = false := by simpa using hneg
              clear hx hu hneg
              go_wp2
              go_round
              case rel => exact ⟨j + 1, by omega, by go_num, rfl, by rw [E.out]⟩
              case measure => simp [intOf]; omega
          · obtain rfl : j = st.length := by omega
            obtain ⟨u, hu⟩ : ∃ u, u = minusF st st.length := ⟨_, rfl⟩
            rw [← hu]
            have hs1 : wrap64 (s + u) = s' := by rw [Hsx.out, hu, Hstv.out]; rfl
            have hs2 : wrap64 s' = s' := by have := Hsb'.out; unfold wrap64; omega
            have hs3 : wrap64 s = s := by have := Hsb.out; unfold wrap64; omega
            clear hu
            go_wp2_with fail
            clear hs1 hs2 hs3
            refine Hcall.out.mono ?_
            rintro e w4 ⟨rfl, ho4, hg4⟩
            have Ho4 := Lib.hid (show OwnI w4 B0 (.slice (some ⟨kb, 0, none⟩) SZ kc) ((A.take (k + 1)).foldl fo ks) by rw [Hf.out, ← Hsx.out]; exact ho4)
            have Hg4 := Lib.hid (Hg3.out.trans hg4)
            clear ho4 hg4
            go_wp2
            go_roundw
            case rel => exact ⟨k + 1, by omega, by go_num, Ho4.out, Hg4.out⟩
            case measure => simp [intOf]; omega
      · obtain rfl : k = A.length := by omega
        rw [List.take_length] at hownr
        have Ho := Lib.hid (show OwnI wr B0 (.slice (some ⟨kb, 0, none⟩) SZ kc) (spreadF nextMinus N (d + 1) xs s ks) by rw [HF.out]; exact hownr)
        have Hg := Lib.hid (show w.grownBy wr (some kb) from ((grown_of_below' Hb1.out).but (some kb)).trans hg)
        clear hownr hg
        go_wp2
        (try simp only [Exit.inBlock, Exit.then]); refine bodyPost_end (results_none rfl _ _ _) rfl ?_
        exact ⟨rfl, Ho.out, Hg.out⟩
end Go.Proofs.YtmcgnbbobhfkpaaDoor

namespace Go.Proofs.YtmcgnbbobhfkpaaDoor
open Go.RowKit

set_option maxRecDepth 100000 in
set_option maxHeartbeats 400000 in
theorem trKnown_any (n : Int) (SZ : Nat) (w : World) (h0 : 0 ≤ n) (h6 : n ≤ 6) (e1 : wrap64 ((2 : Int) ^ n.toNat) = (SZ : Int)) (hb : SZ ≤ 64) :
    Calls Tryd.prog 20 #[.int .i64 n] w fun e w' => e = .returned (.slice (some ⟨w.heap.size, 0, none⟩) SZ SZ) ∧ OwnI w' w.heap.size (.slice (some ⟨w.heap.size, 0, none⟩) SZ SZ) (List.replicate SZ 0) ∧ Below w.heap.size w w' := by
  obtain ⟨i0, hi, hz0, hz1, hz2⟩ := info_parts Tryd.info_int
  go_enter Tryd.func20, Tryd.ntmps20
  go_wp2_with (at_make; refine wpList_make_full _ rfl _ _ 25 rfl w.heap.size 3 i0 (.int .i64 0) 1 Tryd.underlying25 hi hz0 hz1 _ _ _ _ SZ rfl rfl e1 e1 ?c1 ?c2 ?c3 ?_)
  case c1 => rw [hz2]; omega
  case c2 => unfold maxLen; omega
  case c3 => simp
  intro w1 hown hgr
  have hb1 : Below w.heap.size w w1 := (Below.refl _ _).grown hgr (Nat.le_refl _) (fun _ h => by cases h)
  have Hown1 := Lib.hid (OwnI.made hown)
  have Hb1 := Lib.hid hb1
  clear hown hgr hb1
  go_wp2
  go_ret
  exact ⟨rfl, Hown1.out, Hb1.out⟩

theorem firstW_len (n : Nat) : (firstW n).length = n := by simp [firstW, firstB]
theorem firstW_take {N k : Nat} (h : k < N) : (firstW N).take (k + 1) = (firstW N).take k ++ [wrap64 (waysB N [(k : Int)])] := by
  rw [List.take_succ_eq_append_getElem (by rw [firstW_len]; exact h)]
  simp [firstW, firstB]

set_option maxRecDepth 100000 in
set_option maxHeartbeats 1600000 in
theorem specCountByFirst_any (n : Int) (w : World) (hbn : -9223372036854775808 ≤ n ∧ n ≤ 9223372036854775807) :
    Calls Tryd.prog 7 #[.int .i64 n] w fun e w' => LRes (inN n) (firstW n.toNat) w' w.heap.size e ∧ Below w.heap.size w w' := by
  obtain ⟨i0, hi, hz0, hz1, hz2⟩ := info_parts Tryd.info_int
  by_cases hg : inN n
  · obtain ⟨h1, h6⟩ := hg
    obtain ⟨SZ, hSZ⟩ : ∃ SZ : Nat, SZ = 2 ^ n.toNat := ⟨_, rfl⟩
    have hSb : SZ ≤ 64 := by have : 2 ^ n.toNat ≤ 2 ^ 6 := Nat.pow_le_pow_right (by omega) (by omega); omega
    have e1 : wrap64 ((2 : Int) ^ n.toNat) = (SZ : Int) := by
      have : ((2 : Int) ^ n.toNat) = ((2 ^ n.toNat : Nat) : Int) := by simp
      rw [this, ← hSZ]; unfold wrap64; omega
    have Hk := Lib.hid (trKnown_any n SZ w (by omega) h6 e1 hSb)
    obtain ⟨N, rfl⟩ : ∃ N : Nat, n = (N : Int) := ⟨n.toNat, by omega⟩
    rw [Int.toNat_natCast] at hSZ
    have hN6 : N ≤ 6 := by omega
    have hN1 : 1 ≤ N := by omega
    have HSZ := Lib.hid hSZ
    clear hSZ e1
    go_enter Tryd.func7, Tryd.ntmps7
    go_wp2_with fail
    refine (l1In_any (N : Int) 1 6 w).mono ?_
    rintro e w2 ⟨ha, rfl⟩
    obtain rfl := ha.is ⟨h1, h6⟩
    clear ha
    go_wp2_with fail
    refine Hk.out.mono ?_
    rintro e w1 ⟨rfl, hown1, hb1⟩
    have Hown1 := Lib.hid hown1
    have Hb1 := Lib.hid hb1
    have Hs1 := Lib.hid (show w.heap.size < w1.heap.size from (hown1.lt w.heap.size rfl).2)
    clear hown1 hb1 Hk
    go_wp2
    go_loopw [5, 6] (fun s i wr => ∃ (k : Nat) (ks' : List Int) (sv : Value), k ≤ N ∧ i = .int .i64 k ∧ s = sv ∧ OwnI wr w1.heap.size sv ((firstW N).take k) ∧ OwnI wr w.heap.size (.slice (some ⟨w.heap.size, 0, none⟩) SZ SZ) ks' ∧ KnowsW N ks' ∧ Below w.heap.size w wr ∧ w1.heap.size ≤ wr.heap.size)
      (fun _ i _ => N - (intOf i).toNat)
    case atStart => exact ⟨0, _, _, Nat.zero_le _, rfl, rfl, by rw [List.take_zero]; exact OwnI.nil _ _, Hown1.out, knowsW_zero _ _, Hb1.out, Nat.le_refl _⟩
    case round =>
      obtain ⟨k, ks', s, hk, rfl, hsv, hs, hown, hkn, hbr, hsr⟩ := hrel
      rw [hsv]
      clear hsv
      by_cases hlt : k < N
      · have hkw : w.heap.size < wr.heap.size := by have := Hs1.out; omega
        have hin : IntsAt (wr.alloc (.cells #[.int .i64 (k : Int)] 3)) (some ⟨wr.heap.size, 0, none⟩) [(k : Int)] := fun i hi => by
          obtain rfl : i = 0 := by simpa using hi
          exact ⟨wr.heap.size, 0, rfl, cell_one_new wr (.int .i64 (k : Int)) 3 0 _ rfl⟩
        have hcol : ColsN N [(k : Int)] := ⟨by simp [Up], fun x hx => by simp at hx; omega⟩
        have hcall := trWays_any N hN6 SZ HSZ.out (N - 1) [(k : Int)] (some ⟨wr.heap.size, 0, none⟩) 1 w.heap.size w.heap.size SZ ks' (wr.alloc (.cells #[.int .i64 (k : Int)] 3)) (by simp; omega) hcol hin (fun b o e => by simp at e; omega) (World.ownsRow.alloc hown _) hkn (Nat.le_refl _)
        rw [show [(k : Int)].length = 1 from rfl] at hcall
        have Hst := Lib.hid (firstW_take hlt)
        obtain ⟨y, hy⟩ : ∃ y, y = wrap64 (waysB N [(k : Int)]) := ⟨_, rfl⟩
        rw [← hy] at hcall
        have Hy := Lib.hid hy
        have Hcall := Lib.hid hcall
        have Hs := Lib.hid (World.ownsRow.alloc hs (.cells #[.int .i64 (k : Int)] 3))
        have Hsl := Lib.hid hs.lt
        have Hbr := Lib.hid hbr
        have Hlen := Lib.hid (show ((firstW N).take k).length = k by rw [List.length_take, firstW_len]; omega)
        clear hin hcol hcall hown hkn hs hbr hy
        go_wp2_with fail
        refine Hcall.out.mono ?_
        rintro e w3 ⟨ks2, rfl, ho2, hk2, hg2⟩
        have hs3 : OwnI w3 w1.heap.size s ((firstW N).take k) := World.ownsRow.kept Hs.out hg2 (by
          cases hb : s.ownBlock with
          | none => exact .inl rfl
          | some g => have := (Hsl.out g hb).1; have := Hs1.out; exact .inr (by simp; omega))
        have hsz3 : wr.heap.size ≤ w3.heap.size := by have := hg2.size; simp at this; omega
        have Hs3 := Lib.hid hs3
        have Ho2 := Lib.hid ho2
        have Hk2 := Lib.hid hk2
        have Hb3 := Lib.hid (show Below w.heap.size w w3 from (Hbr.out.alloc (by omega) _).grown hg2 (by simp; omega) (fun b hb => by cases hb; exact Nat.le_refl _))
        obtain ⟨L, hL⟩ : ∃ L, L = (firstW N).take k := ⟨_, rfl⟩
        have HL := Lib.hid hL
        clear hs3 ho2 hk2 hg2 hL
        go_wp2_with (at_builtin; refine wpList_append_own _ rfl _ _ 25 rfl w1.heap.size 3 i0 (.int .i64 0) 1 8 Tryd.underlying25 hi hz0 hz1 hz2 rfl (by decide) _ k _ rfl (by have := World.ownsRow.alloc Hs3.out (.cells #[.int .i64 y] 3); rw [Hlen.out] at this; exact this) ⟨w3.heap.size, 0, none⟩ 1 1 [.int .i64 y] rfl rfl ?e1 ?e2 ?e3 ?e4 ?e5 ?_)
        case e1 => exact cell_one_new _ _ _
        case e2 => intro u hu; simp at hu; subst hu; rfl
        case e3 => unfold maxLen; omega
        case e4 => omega
        case e5 => simp; omega
        intro v' w4 hown' hgrow _
        have hput := Hs3.out.snoc (x := y) (by omega) (by rw [Hlen.out, List.map_take]; exact hown') hgrow
        have ho4 : OwnI w4 w.heap.size (.slice (some ⟨w.heap.size, 0, none⟩) SZ SZ) ks2 := World.ownsRow.kept (World.ownsRow.alloc Ho2.out _) hgrow (.inr fun e => by
          have := (Hsl.out w.heap.size (by rw [← e]; rfl)).1; have := Hs1.out; omega)
        have Hp1 := Lib.hid hput.1
        have Ho4 := Lib.hid ho4
        have Hb4 := Lib.hid (Hb3.out.trans (hput.2.mono (by have := Hs1.out; omega)))
        have hsz4 : w1.heap.size ≤ w4.heap.size := Nat.le_trans (by omega) hput.2.size
        clear hput ho4 hown' hgrow HL
        go_wp2
        go_roundw
        case rel => exact ⟨k + 1, ks2, _, by omega, by go_num, rfl, by rw [Hst.out, ← Hy.out]; exact Hp1.out, Ho4.out, Hk2.out, Hb4.out, hsz4⟩
        case measure => simp [intOf]; omega
      · obtain rfl : N = k := by omega
        have Hfin := Lib.hid (show OwnI wr w1.heap.size s (firstW N) by have := hs; rwa [List.take_of_length_le (by rw [firstW_len]; omega)] at this)
        have Hbr := Lib.hid hbr
        clear hs hown hkn hbr
        go_wp2
        go_ret2
        exact ⟨LRes.yes ⟨h1, h6⟩ (by rw [Int.toNat_natCast]; exact Hfin.out.base (by have := Hs1.out; omega)), Hbr.out⟩
  · go_enter Tryd.func7, Tryd.ntmps7
    go_wp2_with fail
    refine (l1In_any n 1 6 w).mono ?_
    rintro e w2 ⟨ha, rfl⟩
    obtain rfl := ha.isnt hg
    clear ha
    go_wp2
    go_ret2
    exact ⟨LRes.no hg, Below.refl _ _⟩
end Go.Proofs.YtmcgnbbobhfkpaaDoor

namespace Go.Proofs.YtmcgnbbobhfkpaaDoor
open Go.RowKit

set_option maxRecDepth 100000 in
set_option maxHeartbeats 800000 in
theorem trCountsMinus_any (N : Nat) (_h1 : 1 ≤ N) (h5 : N ≤ 5) (hok : okF nextMinus N N [] 0 = true) (w : World) :
    Calls Tryd.prog 25 #[.int .i64 (N : Int), .bool false] w fun e w' => ∃ v, e = .returned v ∧ OwnI w' w.heap.size v (trimF (countsF nextMinus N)) ∧ Below w.heap.size w w' := by
  obtain ⟨i0, hi, hz0, hz1, hz2⟩ := info_parts Tryd.info_int
  obtain ⟨Q, hQ⟩ : ∃ Q : Nat, Q = N * N := ⟨_, rfl⟩
  have hQ5 : Q ≤ 25 := by rw [hQ]; have := Nat.mul_le_mul h5 h5; omega
  have hm : (N : Int) * (N : Int) = (Q : Int) := by rw [hQ]; simp
  have HQ := Lib.hid hQ
  have Hok := Lib.hid hok
  clear hQ hok
  go_enter Tryd.func25, Tryd.ntmps25
  go_wp2_with (at_make; refine wpList_make_full _ rfl _ _ 25 rfl w.heap.size 3 i0 (.int .i64 0) 1 Tryd.underlying25 hi hz0 hz1 _ _ _ _ (Q + 1) rfl rfl (by omega) (by omega) ?c1 ?c2 ?c3 ?_)
  case c1 => rw [hz2]; omega
  case c2 => unfold maxLen; omega
  case c3 => simp
  intro w1 hown hgr
  have hb1 : Below w.heap.size w w1 := (Below.refl _ _).grown hgr (Nat.le_refl _) (fun _ h => by cases h)
  have hown1 := OwnI.made hown
  have hcall := trSpreadMinus_any N h5 (Q + 1) (by rw [HQ.out]) N [] none 0 w.heap.size w.heap.size (Q + 1) 0 (List.replicate (Q + 1) 0) w1 (by simp) ⟨trivial, fun x hx => by cases hx⟩ (IntsAt.nil _ _) (fun b o e => by cases e) hown1 (Nat.le_refl _) Hok.out (by omega)
  rw [show ([] : List Int).length = 0 from rfl] at hcall
  obtain ⟨C, hC⟩ : ∃ C, C = countsF nextMinus N := ⟨_, rfl⟩
  rw [show spreadF nextMinus N N [] 0 (List.replicate (Q + 1) 0) = C from by rw [hC, HQ.out]; rfl] at hcall
  have HC := Lib.hid hC
  have Hcall := Lib.hid hcall
  have Hb1 := Lib.hid hb1
  clear hown hgr hb1 hown1 hcall hC hm
  go_wp2_with fail
  refine Hcall.out.mono ?_
  rintro e w2 ⟨rfl, ho, hg⟩
  have hcl : C.length = Q + 1 := ho.len
  have hmc : IntsAt w2 (some ⟨w.heap.size, 0, none⟩) C := own_at ho
  have Hm := Lib.hid hmc
  have Hb2 := Lib.hid (Hb1.out.grown hg Hb1.out.size (fun k hk => by cases hk; exact Nat.le_refl _))
  clear ho hg hmc
  go_wp2
  go_loop [6, 20] (fun a i => ∃ k : Nat, k ≤ Q + 1 ∧ i = .int .i64 k ∧ a = .int .i64 (lastF C k : Nat)) (fun _ i => Q + 1 - (intOf i).toNat)
  case atStart => exact ⟨0, Nat.zero_le _, rfl, rfl⟩
  case round =>
    obtain ⟨k, hk, rfl, rfl⟩ := hrel
    by_cases hlt : k < Q + 1
    · obtain ⟨b2, o2, e2, hc2⟩ := Hm.out k (by omega)
      cases e2
      rw [Nat.zero_add] at hc2
      obtain ⟨x, hx⟩ : ∃ x, x = gi C k := ⟨_, rfl⟩
      obtain ⟨u, hu⟩ : ∃ u : Int, u = (lastF C k : Nat) := ⟨_, rfl⟩
      rw [← hx] at hc2
      rw [← hu]
      by_cases hp : 0 < x
      · have E := Lib.hid (show lastF C (k + 1) = k by rw [lastF, ← hx, if_pos hp])
        have hd : decide (0 < x) = true := by simpa using hp
        clear hx hu hp
        go_wp2
        go_round
        case rel => exact ⟨k + 1, by omega, by go_num, by rw [E.out]⟩
        case measure => simp [intOf]; omega
      · have E := Lib.hid (show ((lastF C (k + 1) : Nat) : Int) = u by rw [lastF, ← hx, if_neg hp, hu])
        have hd : decide (0 < x) = false := by simpa using hp
        clear hx hu hp
        go_wp2
        go_round
        case rel => exact ⟨k + 1, by omega, by go_num, by rw [E.out]⟩
        case measure => simp [intOf]; omega
    · obtain rfl : k = Q + 1 := by omega
      have hll := lastF_lt C (Q + 1) (by omega)
      obtain ⟨l, hl⟩ : ∃ l, l = lastF C (Q + 1) := ⟨_, rfl⟩
      rw [← hl] at hll ⊢
      have htl : (C.take (l + 1)).length = l + 1 := by rw [List.length_take]; omega
      have hat : IntsAt w2 (some ⟨w.heap.size, 0, none⟩) (C.take (l + 1)) := fun i hi' => by
        obtain ⟨b, o, e, hc⟩ := Hm.out i (by omega)
        refine ⟨b, o, e, ?_⟩
        rw [hc]
        congr 2
        simp [gi, List.getD, show i < l + 1 from by omega]
      have hw := l1Own_any (some ⟨w.heap.size, 0, none⟩) (Q + 1) (C.take (l + 1)) w2 (by omega) (fun e => by cases e) hat
      rw [htl] at hw
      have ht : C.take (l + 1) = trimF (countsF nextMinus N) := by unfold trimF; rw [← HC.out, hcl, hl]
      rw [ht] at hw
      have Hw := Lib.hid hw
      clear hl htl hat hw ht hk hlt
      go_wp2_with fail
      refine Hw.out.mono ?_
      rintro e w3 ⟨v, rfl, hv, hb3⟩
      have Hv := Lib.hid (hv.base Hb2.out.size)
      have Hb3 := Lib.hid (Hb2.out.trans (hb3.mono Hb2.out.size))
      clear hv hb3
      go_wp2
      go_ret
      exact ⟨_, rfl, Hv.out, Hb3.out⟩

def in5Minus (n : Int) : Prop := 1 ≤ n ∧ n ≤ 5
def listMinus (n : Nat) : List Int := trimF (countsF nextMinus n)
theorem listMinus_len {n : Int} (h : in5Minus n) : (listMinus n.toNat).length ≤ 1048576 := by
  unfold listMinus trimF
  rw [List.length_take]
  have : (countsF nextMinus n.toNat).length = n.toNat * n.toNat + 1 := by unfold countsF; rw [spreadF_len, List.length_replicate]
  unfold in5Minus at h
  have := Nat.mul_le_mul (show n.toNat ≤ 5 by omega) (show n.toNat ≤ 5 by omega)
  omega
theorem Minus_facts {N : Nat} (h1 : 1 ≤ N) (h5 : N ≤ 5) : sameC lostSc nextMinus N ((N - 1) * (N - 1) / 4) = true ∧ limC lostSc N ((N - 1) * (N - 1) / 4) = true := by
  obtain ⟨a, b, c, d, e⟩ := lost_same
  obtain ⟨a', b', c', d', e'⟩ := lost_ok
  rcases (by omega : N = 1 ∨ N = 2 ∨ N = 3 ∨ N = 4 ∨ N = 5) with rfl | rfl | rfl | rfl | rfl
  · exact ⟨a, a'⟩
  · exact ⟨b, b'⟩
  · exact ⟨c, c'⟩
  · exact ⟨d, d'⟩
  · exact ⟨e, e'⟩

set_option maxRecDepth 100000 in
set_option maxHeartbeats 400000 in
theorem specCountByMinus_any (n : Int) (w : World) (_ : -9223372036854775808 ≤ n ∧ n ≤ 9223372036854775807) :
    Calls Tryd.prog 13 #[.int .i64 n] w fun e w' => LRes (in5Minus n) (listMinus n.toNat) w' w.heap.size e ∧ Below w.heap.size w w' := by
  by_cases hg : in5Minus n
  · obtain ⟨h1, h5⟩ := hg
    obtain ⟨N, rfl⟩ : ∃ N : Nat, n = (N : Int) := ⟨n.toNat, by omega⟩
    have hs := (Minus_facts (N := N) (by omega) (by omega)).1
    unfold sameC at hs
    simp only [Bool.and_eq_true] at hs
    have Hc := Lib.hid (trCountsMinus_any N (by omega) (by omega) hs.1 w)
    clear hs
    go_enter Tryd.func13, Tryd.ntmps13
    go_wp2_with fail
    refine (l1In_any (N : Int) 1 5 w).mono ?_
    rintro e w2 ⟨ha, rfl⟩
    obtain rfl := ha.is ⟨h1, h5⟩
    clear ha
    go_wp2_with fail
    refine Hc.out.mono ?_
    rintro e w1 ⟨v, rfl, hv, hb⟩
    have Hv := Lib.hid hv
    have Hb := Lib.hid hb
    clear hv hb
    go_wp2
    go_ret2
    exact ⟨LRes.yes ⟨h1, h5⟩ (by rw [Int.toNat_natCast]; exact Hv.out), Hb.out⟩
  · go_enter Tryd.func13, Tryd.ntmps13
    go_wp2_with fail
    refine (l1In_any n 1 5 w).mono ?_
    rintro e w2 ⟨ha, rfl⟩
    obtain rfl := ha.isnt hg
    clear ha
    go_wp2
    go_ret2
    exact ⟨LRes.no hg, Below.refl _ _⟩

theorem mostMinus5_any (N : Nat) (w : World) (_ : 1 ≤ N) (_ : N ≤ 5) :
    Calls Tryd.prog 23 #[.int .i64 (N : Int)] w fun e w' => e = .returned (.int .i64 (((N - 1) * (N - 1) / 4 : Nat) : Int)) ∧ w = w' := by
  obtain rfl | rfl | rfl | rfl | rfl : N = 1 ∨ N = 2 ∨ N = 3 ∨ N = 4 ∨ N = 5 := by omega
  all_goals
    go_enter Tryd.func23, Tryd.ntmps23
    go_wp2
    go_ret
    exact ⟨rfl, rfl⟩
set_option maxRecDepth 100000 in
set_option maxHeartbeats 800000 in
theorem implCountByMinus_any (n : Int) (w : World) (_ : -9223372036854775808 ≤ n ∧ n ≤ 9223372036854775807) (hD : Dj w) :
    Calls Tryd.prog 12 #[.int .i64 n] w fun e w' => LRes (in5Minus n) (listMinus n.toNat) w' w.heap.size e ∧ Below w.heap.size w w' := by
  by_cases h1 : 1 ≤ n
  · by_cases h5 : n ≤ 5
    · obtain ⟨N, rfl⟩ : ∃ N : Nat, n = (N : Int) := ⟨n.toNat, by omega⟩
      obtain ⟨hs, hl⟩ := Minus_facts (N := N) (by omega) (by omega)
      have hlim := limC_lim hl
      obtain ⟨G, hG⟩ : ∃ G : Nat, G = (N - 1) * (N - 1) / 4 := ⟨_, rfl⟩
      rw [← hG] at hs hlim
      have hG10 : G ≤ 10 := by
        rw [hG]
        rcases (by omega : N = 1 ∨ N = 2 ∨ N = 3 ∨ N = 4 ∨ N = 5) with rfl | rfl | rfl | rfl | rfl <;> decide
      have hc := byScore_lostColumns lostSc lostColumns_any lost_small N G (by omega) (by omega) (by omega) hlim w hD
      have hsame : scoreL lostSc N (G + 1) = listMinus N := by
        unfold sameC at hs
        simp only [Bool.and_eq_true] at hs
        rw [scoreT_is]
        have := hs.2
        simp at this
        exact this.symm
      rw [hsame] at hc
      have Hc := Lib.hid hc
      have hd5 : decide ((5 : Int) < (N : Int)) = false := by simp; omega
      have hmost := mostMinus5_any N w (by omega) (by omega)
      rw [← hG] at hmost
      have Hmost := Lib.hid hmost
      clear hmost
      clear hc hD hs hl hlim hsame hG
      go_enter Tryd.func12, Tryd.ntmps12
      go_wp2_with fail
      refine Hmost.out.mono ?_
      rintro e w2 ⟨rfl, rfl⟩
      go_wp2_with fail
      refine Hc.out.mono ?_
      rintro e w1 ⟨v, rfl, hv, hb⟩
      have Hv := Lib.hid hv
      have Hb := Lib.hid hb
      clear hv hb
      go_wp2
      go_ret2
      exact ⟨LRes.yes ⟨h1, h5⟩ (by rw [Int.toNat_natCast]; exact Hv.out), Hb.out⟩
    · have hd5 : decide ((5 : Int) < n) = true := by simp; omega
      go_enter Tryd.func12, Tryd.ntmps12
      go_wp2
      go_ret2
      exact ⟨LRes.no fun h => by have := h.2; omega, Below.refl _ _⟩
  · go_enter Tryd.func12, Tryd.ntmps12
    go_wp2
    go_ret2
    exact ⟨LRes.no fun h => by have := h.1; omega, Below.refl _ _⟩
end Go.Proofs.YtmcgnbbobhfkpaaDoor

