/- Parts of proofs: contracts and plain facts. Conditions: as each says. -/
import Derived.Test.YtmcgnbbobhfkpaaDoorK03
namespace Go.Proofs.YtmcgnbbobhfkpaaDoor
open Go.RowKit Go.Maps
open Go.WideMaps (KeyLaw)


set_option maxRecDepth 100000 in
set_option maxHeartbeats 1600000 in
theorem climbed_topColumn (sc : List Int → List Int → Int) (hf : Scores 18 sc) (hb : SmallSc sc) {xs : List Int} (hr : Rise xs) (h1 : 1 ≤ xs.length) (h6 : xs.length ≤ 6) (w : World) (hD : Dj w) :
    Calls Tryd.prog 29 #[.int .u64 (mask xs : Nat), .func (.func 18) #[] #[]] w fun e w' => ClimbsTo sc xs w e w' := by
  have hv0 : vk (xs, 0) := ⟨hr, by simp, by simp⟩
  obtain ⟨w1, hrun, hown1, hg1⟩ := (World.ownsMap_made (H := Nat) w Tryd.prog 51 (plainElem Tryd.prog 3)).update S_st.K Tryd.underlying45 (by unfold maxLen; omega) (kl_is S_st hv0) (plainElem_int Tryd.underlying3 (a := 1) (by decide))
  have hm1 : MapW Tryd.prog 51 3 w1 w.heap.size [((xs, 0), 1)] := MapW.of hown1 (by have := (MapD.empty (P := Tryd.prog) (k := 51)).put S_st hv0 1; simpa [strike] using this)
  have hb1 : Below w.heap.size w w1 := ((Below.refl _ w).alloc (Nat.le_refl _) _).grown hg1 (by simp) (fun k hk => by cases hk; exact Nat.le_refl _)
  have hs1 : w.heap.size + 1 ≤ w1.heap.size := by have := hg1.size; simp at this; exact this
  have hm2 : MapW Tryd.prog 51 3 (w1.alloc (.map #[] 0)) w1.heap.size [] := MapW.of (World.ownsMap_made w1 _ _ _) MapD.empty
  have hm1' : MapW Tryd.prog 51 3 (w1.alloc (.map #[] 0)) w.heap.size [((xs, 0), 1)] := hm1.kept (World.grownBy_alloc w1 _ none) (by simp)
  have hb2 : Below w.heap.size w (w1.alloc (.map #[] 0)) := hb1.alloc (by omega) _
  have hsz := size_any hr h6 (w1.alloc (.map #[] 0))
  have hGw := hD.lt
  have hky : ky (xs, 0) = .agg #[.int .u64 (mask xs : Nat), .int .i64 0] := rfl
  rw [hky] at hrun
  obtain ⟨m, hm⟩ : ∃ m : Int, m = (mask xs : Nat) := ⟨_, rfl⟩
  rw [← hm] at hrun hsz ⊢
  have hmm := @run_makeMap Tryd.prog
  have Hsz := Lib.hid hsz
  have Hstart := Lib.hid (And.intro hm1' (And.intro hm2 hb2))
  have Hb := Lib.hid hb
  have Hr := Lib.hid hr
  have Hf := Lib.hid hf
  have HD := Lib.hid hD
  have Hs1 := Lib.hid hs1
  clear hv0 hown1 hg1 hm1 hb1 hm2 hm1' hb2 hsz hm hky hb hr hf hD hs1
  go_enter Tryd.func29, Tryd.ntmps29
  go_wp2_with fail
  refine Hsz.out.mono ?_
  rintro e w2 ⟨rfl, rfl⟩
  go_wp2
  go_loopw [5, 6, 15] (fun now next i wr => ∃ (k bn bx : Nat) (L : List Ent), k + 1 ≤ xs.length ∧ i = .int .i64 (k : Int) ∧ now = .map (some bn) ∧ next = .map (some bx) ∧ bn ≠ bx ∧ w.heap.size ≤ bn ∧ w.heap.size ≤ bx ∧ MapW Tryd.prog 51 3 wr bn L ∧ MapW Tryd.prog 51 3 wr bx [] ∧
      (∀ x ∈ L, x.1 ∈ reach sc xs k) ∧ (∀ φ, Cg (potL L fun p => climbW sc φ (xs.length - 1 - k) p.1 p.2) (climbW sc φ (xs.length - 1) xs 0)) ∧ Below w.heap.size w wr ∧ w.heap.size ≤ wr.heap.size) (fun _ _ i _ => xs.length - (intOf i).toNat)
  case atStart => exact ⟨0, w.heap.size, w1.heap.size, _, h1, rfl, rfl, rfl, by have := Hs1.out; omega, Nat.le_refl _, by have := Hs1.out; omega, Hstart.out.1, Hstart.out.2.1, fun x hx => by simp at hx; subst hx; simp [reach], fun φ => by simpa [potL, sumL] using Cg.refl _, Hstart.out.2.2, by have := Hs1.out; simp; omega⟩
  case round =>
    obtain ⟨k, bn, bx, L, hk, rfl, rfl, rfl, hne, hbn, hbx, hmn, hmx, hkeys, hpot, hbr, hsr⟩ := hrel
    by_cases hlt : k + 1 < xs.length
    · have hlt' : (k : Int) < (xs.length : Int) - 1 := by omega
      have hcall := climb_topColumn sc Hf.out (reach sc xs k) (fun p hp => reach_vk Hb.out Hr.out h6 hp) (fun p hp => (reach_vk Hb.out Hr.out h6 (j := k + 1) hp).1) (reach_short Hb.out Hr.out h6 (j := k + 1) (by omega))
        (fun p hp ys hy => by have := Hb.out p.1 ys (reach_vk Hb.out Hr.out h6 hp).1.1 (reach_vk Hb.out Hr.out h6 hp).2 hy; omega) bn bx hne L hkeys wr hmn hmx (HD.out.next hbr) (by omega) (by omega)
      have Hcall := Lib.hid hcall
      have Hpot := Lib.hid hpot
      have Hbr := Lib.hid hbr
      clear hcall hmn hmx hkeys hpot hbr
      go_wp2_with fail
      refine Hcall.out.mono ?_
      rintro e w3 ⟨rfl, Lx, hn3, hx3, hk3, hp3, hf3⟩
      have Hrel := Lib.hid (show ∃ (L : List Ent), MapW Tryd.prog 51 3 w3 bx L ∧ MapW Tryd.prog 51 3 w3 bn [] ∧ (∀ x ∈ L, x.1 ∈ reach sc xs (k + 1)) ∧ (∀ φ, Cg (potL L fun p => climbW sc φ (xs.length - 1 - (k + 1)) p.1 p.2) (climbW sc φ (xs.length - 1) xs 0)) ∧ Below w.heap.size w w3 ∧ w.heap.size ≤ w3.heap.size from by
        have hb3 := hf3 w.heap.size hbn hbx hsr
        refine ⟨Lx, hx3, hn3, hk3, fun φ => ?_, Hbr.out.trans hb3, Nat.le_trans hsr hb3.size⟩
        have h1 := hp3 (fun p => climbW sc φ (xs.length - 1 - (k + 1)) p.1 p.2)
        have h2 := Hpot.out φ
        rw [show xs.length - 1 - k = (xs.length - 1 - (k + 1)) + 1 from by omega] at h2
        exact h1.trans h2)
      clear hn3 hx3 hk3 hp3 hf3
      go_wp2
      go_roundw
      case rel =>
        obtain ⟨L', q1, q2, q3, q4, q5, q6⟩ := Hrel.out
        exact ⟨k + 1, bx, bn, L', hlt, by go_num, rfl, rfl, hne.symm, hbx, hbn, q1, q2, q3, q4, q5, q6⟩
      case measure => simp [intOf]; omega
    · obtain rfl : k = xs.length - 1 := by omega
      have hfin := Lib.hid (show ClimbsTo sc xs w (.returned (.map (some bn))) wr from ⟨bn, L, rfl, hmn, hbn, hkeys, fun φ => by have := hpot φ; rw [Nat.sub_self] at this; exact this, hbr⟩)
      have hlt' : ¬ (((xs.length - 1 : Nat) : Int) < (xs.length : Int) - 1) := by omega
      clear hmn hmx hkeys hpot hbr
      go_wp2
      go_ret
      exact hfin.out
end Go.Proofs.YtmcgnbbobhfkpaaDoor

namespace Go.Proofs.YtmcgnbbobhfkpaaDoor
/-- the rows behind: rem is what is left of the row, L the number of the row before, p the last number chosen -/
def bh (n : Int) : List Int → Int → Int → List (List Int)
  | [], L, p => (rng (max L (p + 1)) (n - 1)).map fun x => [x]
  | a :: r, L, p => (rng (max L (p + 1)) a).flatMap fun x => (bh n r a x).map fun ys => x :: ys
def behind (n : Int) (row : List Int) : List (List Int) := bh n row 0 (-1)
theorem bh_mem {n : Int} {row : List Int} {L p : Int} (hL : 0 ≤ L) (hr : ∀ x ∈ row, 0 ≤ x ∧ x < n) {ys : List Int} (h : ys ∈ bh n row L p) : Up (p :: ys) ∧ (∀ y ∈ ys, 0 ≤ y ∧ y < n) ∧ ys.length = row.length + 1 := by
  induction row generalizing L p ys with
  | nil =>
    simp only [bh, List.mem_map, mem_rng] at h
    obtain ⟨x, hx, rfl⟩ := h
    refine ⟨⟨by omega, trivial⟩, fun y hy => ?_, rfl⟩
    simp at hy; subst hy
    omega
  | cons a r ih =>
    simp only [bh, List.mem_flatMap, List.mem_map, mem_rng] at h
    obtain ⟨x, hx, zs, hz, rfl⟩ := h
    have ha := hr a (by simp)
    obtain ⟨h1, h2, h3⟩ := ih ha.1 (fun y hy => hr y (by simp [hy])) hz
    refine ⟨⟨by omega, h1⟩, fun y hy => ?_, by simp [h3]⟩
    rcases List.mem_cons.1 hy with rfl | hy
    · omega
    · exact h2 y hy
/-- rows of columns of a matrix with n rows -/
def ColsN (n : Nat) (row : List Int) : Prop := Up row ∧ ∀ x ∈ row, 0 ≤ x ∧ x < n
theorem ColsN.rise {n : Nat} {row : List Int} (h : ColsN n row) (hn : n ≤ 16) : Rise row := ⟨h.1, fun x hx => by have := h.2 x hx; omega⟩
theorem behind_mem {n : Nat} {row : List Int} (h : ColsN n row) {ys : List Int} (hy : ys ∈ behind n row) : ColsN n ys ∧ ys.length = row.length + 1 := by
  obtain ⟨h1, h2, h3⟩ := bh_mem (by omega) h.2 hy
  exact ⟨⟨h1.tail, h2⟩, h3⟩
theorem bh_len {n : Nat} (hn : n ≤ 6) {row : List Int} (hr : ∀ x ∈ row, 0 ≤ x ∧ x < n) {L p : Int} (hL : 0 ≤ L) : (bh n row L p).length ≤ 6 ^ (row.length + 1) := by
  have rl : ∀ a b : Int, 0 ≤ a → b ≤ 5 → (rng a b).length ≤ 6 := fun a b ha hb => by unfold rng; simp; omega
  induction row generalizing L p with
  | nil =>
    simp only [bh, List.length_map]
    exact Nat.le_trans (rl _ _ (by omega) (by omega)) (by simp)
  | cons a r ih =>
    simp only [bh]
    have ha := hr a (by simp)
    refine Nat.le_trans (flatMap_le (k := 6 ^ (r.length + 1)) (rl _ _ (by omega) (by omega)) (fun x _ => ?_)) (by simp [Nat.pow_succ, Nat.mul_comm])
    rw [List.length_map]
    exact ih (fun y hy => hr y (by simp [hy])) ha.1
theorem behind_len {n : Nat} (hn : n ≤ 6) {row : List Int} (h : ColsN n row) (hl : row.length ≤ 6) : (behind n row).length ≤ 1048576 := by
  have h1 := bh_len hn h.2 (L := 0) (p := -1) (by omega)
  have h2 : 6 ^ (row.length + 1) ≤ 6 ^ 7 := Nat.pow_le_pow_right (by omega) (by omega)
  unfold behind
  omega
theorem ColsN.len {n : Nat} {row : List Int} (h : ColsN n row) : row.length ≤ n := by
  have lo : ∀ k, k < row.length → (k : Int) ≤ gi row k := by
    intro k
    induction k with
    | zero => intro hk; exact (h.2 _ (gi_mem hk)).1
    | succ k ih =>
      intro hk
      have a := ih (by omega)
      have b := (up_iff _).1 h.1 (k + 1) hk (by omega)
      rw [show k + 1 - 1 = k from rfl] at b
      omega
  by_cases h0 : row.length = 0
  · omega
  · have := lo (row.length - 1) (by omega)
    have := (h.2 _ (gi_mem (show row.length - 1 < row.length by omega))).2
    omega

/-- ways on to all n columns -/
def waysBN (n : Nat) : Nat → List Int → Int
  | 0, _ => 1
  | d + 1, row => sumL (behind n row) (waysBN n d)
def waysB (n : Nat) (row : List Int) : Int := waysBN n (n - row.length) row
theorem waysB_full {n : Nat} {row : List Int} (h : row.length = n) : waysB n row = 1 := by unfold waysB; rw [h, Nat.sub_self]; rfl
theorem waysB_more {n : Nat} {row : List Int} (hc : ColsN n row) (h : row.length < n) : waysB n row = sumL (behind n row) (waysB n) := by
  unfold waysB
  obtain ⟨d, hd⟩ : ∃ d, n - row.length = d + 1 := ⟨n - row.length - 1, by omega⟩
  rw [hd, waysBN]
  refine sumL_congr fun ys hy => ?_
  have := (behind_mem hc hy).2
  rw [show n - ys.length = d from by omega]

/-- of the rows that go on 'first', those whose next number is below v -/
def bhPart (n : Int) (row first : List Int) (lo v : Int) : List (List Int) :=
  match row.drop first.length with
  | [] => (rng lo (v - 1)).map fun x => first ++ [x]
  | a :: r => (rng lo (v - 1)).flatMap fun x => (bh n r a x).map fun ys => (first ++ [x]) ++ ys
/-- .. whose next number is v -/
def bhNext (n : Int) (row first : List Int) (v : Int) : List (List Int) :=
  match row.drop first.length with
  | [] => [first ++ [v]]
  | a :: r => (bh n r a v).map fun ys => (first ++ [v]) ++ ys
theorem bhPart_start (n : Int) (row first : List Int) (lo : Int) : bhPart n row first lo lo = [] := by
  unfold bhPart
  rw [rng_nil (by omega)]
  split <;> rfl
theorem bhPart_step {n : Int} {row first : List Int} {lo v : Int} (h : lo ≤ v) : bhPart n row first lo (v + 1) = bhPart n row first lo v ++ bhNext n row first v := by
  unfold bhPart bhNext
  rw [show v + 1 - 1 = v from by omega, rng_snoc h]
  split <;> simp
end Go.Proofs.YtmcgnbbobhfkpaaDoor

namespace Go.Proofs.YtmcgnbbobhfkpaaDoor
def addT (p : Pos) (c : Int) : List Ent → List Ent
  | [] => [(p, c)]
  | x :: r => if x.1 = p then (x.1, x.2 + c) :: r else x :: addT p c r
theorem potL_addT (p : Pos) (c : Int) (φ : Pos → Int) : ∀ T, potL (addT p c T) φ = potL T φ + c * φ p
  | [] => by simp [addT, potL, sumL]
  | x :: r => by
    unfold addT
    split
    · next e => unfold potL; rw [sumL_cons, sumL_cons]; simp only; rw [e, Int.add_mul]; omega
    · have := potL_addT p c φ r
      unfold potL at *
      rw [sumL_cons, sumL_cons, this]
      omega
/-- what each place passes on to its children, equal places as one -/
def expandT (ch : Pos → List Pos) (T : List Ent) : List Ent := T.foldl (fun acc x => (ch x.1).foldl (fun acc q => addT q x.2 acc) acc) []
theorem potL_inner (c : Int) (φ : Pos → Int) : ∀ (qs : List Pos) (acc : List Ent), potL (qs.foldl (fun acc q => addT q c acc) acc) φ = potL acc φ + c * sumL qs φ
  | [], acc => by simp [sumL]
  | q :: r, acc => by
    rw [List.foldl_cons, potL_inner c φ r, potL_addT, sumL_cons, Int.mul_add]
    omega
theorem potL_outer (ch : Pos → List Pos) (φ : Pos → Int) : ∀ (T acc : List Ent), potL (T.foldl (fun acc x => (ch x.1).foldl (fun acc q => addT q x.2 acc) acc) acc) φ = potL acc φ + potL T (fun p => sumL (ch p) φ)
  | [], acc => by simp [potL, sumL]
  | x :: r, acc => by
    rw [List.foldl_cons, potL_outer ch φ r, potL_inner]
    unfold potL
    rw [sumL_cons]
    simp only
    omega
theorem potL_expand (ch : Pos → List Pos) (T : List Ent) (φ : Pos → Int) : potL (expandT ch T) φ = potL T (fun p => sumL (ch p) φ) := by
  unfold expandT
  rw [potL_outer]
  simp [potL, sumL]
def iterT (ch : Pos → List Pos) : Nat → List Ent → List Ent
  | 0, T => T
  | j + 1, T => iterT ch j (expandT ch T)
def upCh (sc : List Int → List Int → Int) (p : Pos) : List Pos := (above p.1).map fun ys => (ys, p.2 + sc p.1 ys)
theorem sumL_map {α β : Type} (l : List α) (g : α → β) (f : β → Int) : sumL (l.map g) f = sumL l (fun x => f (g x)) := by
  unfold sumL; rw [List.map_map]; rfl
theorem climb_tab (sc : List Int → List Int → Int) (φ : List Int → Int → Int) : ∀ (j : Nat) (T : List Ent), potL T (fun p => climbW sc φ j p.1 p.2) = potL (iterT (upCh sc) j T) (fun p => φ p.1 p.2)
  | 0, T => rfl
  | j + 1, T => by
    rw [iterT, ← climb_tab sc φ j, potL_expand]
    unfold potL
    refine sumL_congr fun x _ => ?_
    simp only [climbW, upCh, sumL_map]
theorem climb_tab0 (sc : List Int → List Int → Int) (φ : List Int → Int → Int) (j : Nat) (xs : List Int) : climbW sc φ j xs 0 = potL (iterT (upCh sc) j [((xs, 0), 1)]) (fun p => φ p.1 p.2) := by
  rw [← climb_tab]
  simp [potL, sumL]
def dnCh (n : Nat) (p : Pos) : List Pos := (behind n p.1).map fun ys => (ys, p.2)
theorem ways_tab (n : Nat) : ∀ (d : Nat) (T : List Ent), potL T (fun p => waysBN n d p.1) = potL (iterT (dnCh n) d T) (fun _ => 1)
  | 0, T => rfl
  | d + 1, T => by
    rw [iterT, ← ways_tab n d, potL_expand]
    unfold potL
    refine sumL_congr fun x _ => ?_
    simp only [waysBN, dnCh, sumL_map]
theorem ways_tab0 (n : Nat) (d : Nat) (row : List Int) : waysBN n d row = potL (iterT (dnCh n) d [((row, 0), 1)]) (fun _ => 1) := by
  rw [← ways_tab]
  simp [potL, sumL]
def topSc (_ ys : List Int) : Int := if 1 < ys.length then 0 else gi ys 0
def hits (i : Int) : List Int → Int → Int := fun _ s => if s = i then 1 else 0
def firstA (n : Nat) : List Int := (List.range n).map fun i : Nat => climbW topSc (hits (i : Int)) (n - 1) (iota n) 0
def firstB (n : Nat) : List Int := (List.range n).map fun i : Nat => waysB n [(i : Int)]
def firstC (n : Nat) : Bool := let T := iterT (upCh topSc) (n - 1) [((iota n, 0), 1)]
  (List.range n).all fun i => potL T (fun p => hits (i : Int) p.1 p.2) == potL (iterT (dnCh n) (n - 1) [(([(i : Int)], 0), 1)]) (fun _ => 1)
set_option maxRecDepth 1000000 in
theorem first_ok : firstC 1 = true ∧ firstC 2 = true ∧ firstC 3 = true ∧ firstC 4 = true ∧ firstC 5 = true ∧ firstC 6 = true := by decide +kernel
theorem first_same {n : Nat} (h1 : 1 ≤ n) (h6 : n ≤ 6) : firstA n = firstB n := by
  have hc : firstC n = true := by
    obtain ⟨a, b, c, d, e, f⟩ := first_ok
    rcases (by omega : n = 1 ∨ n = 2 ∨ n = 3 ∨ n = 4 ∨ n = 5 ∨ n = 6) with rfl | rfl | rfl | rfl | rfl | rfl
    · exact a
    · exact b
    · exact c
    · exact d
    · exact e
    · exact f
  unfold firstA firstB
  refine List.map_congr_left fun i hi => ?_
  have := List.all_eq_true.1 hc i hi
  rw [climb_tab0]
  unfold waysB
  rw [show n - [(i : Int)].length = n - 1 from rfl, ways_tab0]
  simpa using this
end Go.Proofs.YtmcgnbbobhfkpaaDoor

namespace Go.Proofs.YtmcgnbbobhfkpaaDoor
open Go.RowKit

def risesP (lo hi : Int) (xs : List Int) : Prop := ∀ k, k < xs.length → (lo ≤ gi xs k ∧ gi xs k ≤ hi) ∧ (0 < k → gi xs (k - 1) < gi xs k)

end Go.Proofs.YtmcgnbbobhfkpaaDoor

namespace Go.Proofs.YtmcgnbbobhfkpaaDoor
open Go.RowKit

theorem gr_append_left {m k : List (List Int)} {i : Nat} (h : i < m.length) : gr (m ++ k) i = gr m i := by
  rw [gr_lt (by simp; omega), gr_lt h, List.getElem_append_left h]
theorem gr_append_right {m k : List (List Int)} {i : Nat} (h : i < k.length) : gr (m ++ k) (m.length + i) = gr k i := by
  rw [gr_lt (by simp; omega), gr_lt h, List.getElem_append_right (by omega)]
  simp

/-- a table behind which the rows of another one, younger, have been put -/
theorem OwnP.join {w w1 : World} {B B' : Nat} {v v' u : Value} {m k : List (List Int)} {vs us : List Value} (h : OwnP w B v m.length m m.length vs) (hk : OwnP w B' u k.length k k.length us) (hBB : B ≤ B')
    (hold : ∀ i, i < m.length → ∀ g, (vs.getD i undef).ownBlock = some g → g < B')
    (h1 : w1.ownsRow B 25 1 v' (m.length + k.length) (vs ++ us)) (kept : ∀ (x : Value) (ys : List Int), OwnI w B x ys → OwnI w1 B x ys) : OwnP w1 B v' (m ++ k).length (m ++ k) (m ++ k).length (vs ++ us) := by
  have hl : vs.length = m.length := by simpa using h.top.1
  have hl2 : us.length = k.length := by simpa using hk.top.1
  have gl : ∀ i, i < m.length → (vs ++ us).getD i undef = vs.getD i undef := fun i hi => by
    simp only [List.getD]; rw [List.getElem?_append_left (by omega)]
  have grr : ∀ i, m.length ≤ i → (vs ++ us).getD i undef = us.getD (i - m.length) undef := fun i hi => by
    simp only [List.getD]; rw [List.getElem?_append_right (by omega), hl]
  refine ⟨by rw [List.length_append]; exact h1, fun i hi => ?_, fun i j hij hj g hg => ?_⟩
  · rw [List.length_append] at hi
    by_cases hi2 : i < m.length
    · rw [gl i hi2, gr_append_left hi2]
      exact kept _ _ (h.rows i hi2)
    · rw [grr i (by omega), show i = m.length + (i - m.length) from by omega, gr_append_right (by omega), show m.length + (i - m.length) - m.length = i - m.length from by omega]
      exact kept _ _ ((hk.rows (i - m.length) (by omega)).base hBB)
  · rw [List.length_append] at hj
    by_cases hj2 : j < m.length
    · rw [gl i (by omega)] at hg
      rw [gl j hj2]
      exact h.apart i j hij hj2 g hg
    · rw [grr j (by omega)]
      by_cases hi2 : i < m.length
      · rw [gl i hi2] at hg
        intro hg2
        have a := hold i hi2 g hg
        have b := ((hk.rows (j - m.length) (by omega)).lt g hg2).1
        omega
      · rw [grr i (by omega)] at hg
        exact hk.apart (i - m.length) (j - m.length) (by omega) (by omega) g hg

theorem OwnP.nil (w : World) (B : Nat) (m : List (List Int)) : OwnP w B (.slice none 0 0) 0 m 0 [] := ⟨World.ownsRow_nil _ _ _ _, fun i hi => absurd hi (by omega), fun i j _ hj => absurd hj (by omega)⟩

theorem lst_gi {xs : List Int} (h : 0 < xs.length) : lst xs = gi xs (xs.length - 1) := by
  unfold lst
  rw [List.getLast?_eq_getElem?, gi, List.getD]
  cases hh : xs[xs.length - 1]? with
  | some a => rfl
  | none => rw [List.getElem?_eq_none_iff] at hh; omega

/-- of the rows that go on 'first', those whose next number is below v -/
def abPart (xs first : List Int) (v : Int) : List (List Int) :=
  ((rng (gi xs first.length) (v - 1)).filter fun x => decide (lst first < x)).flatMap fun x => (ab (xs.drop (first.length + 1)) x).map fun ys => (first ++ [x]) ++ ys
theorem abPart_start (xs first : List Int) : abPart xs first (gi xs first.length) = [] := by unfold abPart; rw [rng_nil (by omega)]; rfl
theorem abPart_step {xs first : List Int} {v : Int} (h : gi xs first.length ≤ v) :
    abPart xs first (v + 1) = abPart xs first v ++ (if lst first < v then (ab (xs.drop (first.length + 1)) v).map (fun ys => (first ++ [v]) ++ ys) else []) := by
  unfold abPart
  rw [show v + 1 - 1 = v from by omega, rng_snoc h, List.filter_append, List.flatMap_append]
  by_cases hl : lst first < v <;> simp [hl]
theorem abPart_end {xs first : List Int} (h : first.length + 1 < xs.length) : abPart xs first (gi xs (first.length + 1) + 1) = (ab (xs.drop first.length) (lst first)).map fun ys => first ++ ys := by
  unfold abPart
  rw [show gi xs (first.length + 1) + 1 - 1 = gi xs (first.length + 1) from by omega]
  have e1 : xs.drop first.length = gi xs first.length :: gi xs (first.length + 1) :: xs.drop (first.length + 1 + 1) := by
    rw [List.drop_eq_getElem_cons (by omega), List.drop_eq_getElem_cons h, gi_lt (by omega), gi_lt h]
  have e2 : xs.drop (first.length + 1) = gi xs (first.length + 1) :: xs.drop (first.length + 1 + 1) := by
    rw [List.drop_eq_getElem_cons h, gi_lt h]
  rw [e1, e2, ab]
  simp only [List.map_flatMap, List.map_map, Function.comp_def, List.append_assoc, List.cons_append, List.nil_append]

theorem abPart_len {xs first : List Int} {v : Int} (h : Rise xs) (hk : first.length + 1 < xs.length) (h6 : xs.length ≤ 6) (hv : v ≤ gi xs (first.length + 1) + 1) : (abPart xs first v).length ≤ 1048576 := by
  have g0 := h.2 _ (gi_mem (show first.length < xs.length by omega))
  have g1 := h.2 _ (gi_mem hk)
  unfold abPart
  refine Nat.le_trans (flatMap_le (n := 16) (k := 16 ^ 4) (rng_filter_le (by omega) (by omega) _) (fun x _ => ?_)) (by omega)
  rw [List.length_map]
  refine Nat.le_trans (ab_len (fun y hy => h.2 y (List.mem_of_mem_drop hy)) x) (Nat.pow_le_pow_right (by omega) ?_)
  rw [List.length_drop]; omega

theorem OwnI.kept_top {w w1 : World} {B n : Nat} {x u : Value} {ys : List Int} {vs : List Value} (hx : OwnI w B x ys) (ht : w.ownsRow B 25 1 u n vs) (hg : w.grownBy w1 u.ownBlock) : OwnI w1 B x ys := by
  refine World.ownsRow.kept hx hg ?_
  cases hb : x.ownBlock with
  | none => exact .inl rfl
  | some g => exact .inr (fun e => hx.ne_row ht g hb e.symm)

theorem rows_cells {w : World} {B n : Nat} {ad : Addr} {m : List (List Int)} {vs : List Value} {c : Nat} (h : OwnP w B (.slice (some ad) n c) n m n vs) : (∀ j u, vs[j]? = some u → w.cell? (ad.add j) = some u) ∧ (∀ u ∈ vs, u.oneCell' = true) := by
  have hl : vs.length = n := by simpa using h.top.1
  obtain ⟨ao, c', e, _, _, hc⟩ := ownsRow_read h.top
  cases e
  refine ⟨fun j u hj => ?_, fun u hu => ?_⟩
  · have hjl : j < vs.length := (List.getElem?_eq_some_iff.1 hj).1
    obtain ⟨b3, o3, e3, hc3⟩ := hc j (by omega)
    cases e3
    rw [Addr.add_lit, hc3, List.getD, hj]
    rfl
  · obtain ⟨i, hi, rfl⟩ := List.mem_iff_getElem.1 hu
    have := (h.rows i (by omega)).read
    rw [List.getD, List.getElem?_eq_getElem hi] at this
    obtain ⟨_, _, e, _⟩ := this
    rw [show vs[i] = (some vs[i]).getD undef from rfl, e]
    rfl

theorem above_small {xs : List Int} (h : isRowP xs) : Small (above xs) := by
  have hr := ((isRowP_iff _).1 h).2.2
  have h6 := h.2.1
  have hl := above_len hr
  have hp : 16 ^ (xs.length - 1) ≤ 16 ^ 5 := Nat.pow_le_pow_right (by omega) (by omega)
  exact ⟨by omega, fun i hi => by have := (above_mem hr (gr_mem hi)).2; omega⟩
end Go.Proofs.YtmcgnbbobhfkpaaDoor

namespace Go.Proofs.YtmcgnbbobhfkpaaDoor
open Go.RowKit

theorem i64_or_nat (a b : Nat) (ha : a < 65536) (hb : b < 65536) : bits .or .i64 (a : Int) (b : Int) = ((a ||| b : Nat) : Int) := by
  have h1 : (BitVec.ofInt 64 (a : Int)).toNat = a := ofInt_u64 a (by omega)
  have h2 : (BitVec.ofInt 64 (b : Int)).toNat = b := ofInt_u64 b (by omega)
  have h3 : a ||| b < 65536 := Nat.or_lt_two_pow (n := 16) ha hb
  show IntKind.i64.wrap (((BitVec.ofInt 64 (a : Int) ||| BitVec.ofInt 64 (b : Int)).toNat : Nat) : Int) = _
  rw [BitVec.toNat_or, h1, h2]
  exact i64_small (by omega) (by omega)

set_option maxRecDepth 100000 in
set_option maxHeartbeats 400000 in
theorem trMask_any (ao : Option Addr) (c : Nat) (xs : List Int) (w : World) (hn : xs.length ≤ 1048576) (hr : ∀ x ∈ xs, 0 ≤ x ∧ x ≤ 15) (hx : IntsAt w ao xs) :
    Calls Tryd.prog 33 #[.slice ao xs.length c] w fun e w' => e = .returned (.int .i64 (mask xs : Nat)) ∧ w = w' := by
  have hmx : xs.length ≤ 9223372036854775807 := by omega
  have Hx := Lib.hid hx
  have Hr := Lib.hid hr
  clear hx hr
  go_enter Tryd.func33, Tryd.ntmps33
  go_wp2
  go_loop [3, 8] (fun s i => ∃ k : Nat, k ≤ xs.length ∧ i = .int .i64 k ∧ s = .int .i64 (mask (xs.take k) : Nat)) (fun _ i => xs.length - (intOf i).toNat)
  case atStart => exact ⟨0, Nat.zero_le _, rfl, rfl⟩
  case round =>
    obtain ⟨k, hk, rfl, rfl⟩ := hrel
    by_cases hlt : k < xs.length
    · obtain ⟨b, o, rfl, hc⟩ := Hx.out k hlt
      have hb := Hr.out _ (gi_mem hlt)
      have h1 : mask (xs.take k) < 65536 := mask_lt (n := 16) (fun y hy => by have := Hr.out y (List.mem_of_mem_take hy); omega)
      have h2 : 2 ^ (gi xs k).toNat ≤ 2 ^ 15 := Nat.pow_le_pow_right (by omega) (by omega)
      have e0 : ((2 : Int) ^ (gi xs k).toNat) = ((2 ^ (gi xs k).toNat : Nat) : Int) := by simp
      have e1 : wrap64 ((2 : Int) ^ (gi xs k).toNat) = ((2 ^ (gi xs k).toNat : Nat) : Int) := by rw [e0]; generalize 2 ^ (gi xs k).toNat = q at h2; unfold wrap64; omega
      have e2 : bits .or .i64 ((mask (xs.take k) : Nat) : Int) ((2 ^ (gi xs k).toNat : Nat) : Int) = ((mask (xs.take (k + 1)) : Nat) : Int) := by
        rw [i64_or_nat _ _ (by omega) (by omega), take_succ_gi hlt, mask_snoc]
      have hb0 := hb.1
      have hb15 := hb.2
      obtain ⟨x, hxv⟩ : ∃ x, x = gi xs k := ⟨_, rfl⟩
      rw [← hxv] at hc e1 e2 hb0 hb15
      obtain ⟨p, hp⟩ : ∃ p : Int, p = ((2 ^ x.toNat : Nat) : Int) := ⟨_, rfl⟩
      obtain ⟨s, hs⟩ : ∃ s : Int, s = ((mask (xs.take k) : Nat) : Int) := ⟨_, rfl⟩
      obtain ⟨s', hs'⟩ : ∃ s : Int, s = ((mask (xs.take (k + 1)) : Nat) : Int) := ⟨_, rfl⟩
      rw [← hp] at e1 e2
      rw [← hs, ← hs'] at e2
      rw [← hs]
      have Hs' := Lib.hid hs'
      clear hs hxv h1 h2 hb hp hs' e0
      go_wp2
      go_round
      case rel => exact ⟨k + 1, by omega, by go_num, by rw [Hs'.out]⟩
      case measure => simp [intOf]; omega
    · obtain rfl : k = xs.length := by omega
      rw [List.take_length]
      go_wp2
      go_ret
      exact ⟨rfl, rfl⟩

theorem grown_of_below' {a w : World} (h : Below a.heap.size a w) : a.grownBy w none := ⟨h.os, h.tape, h.output, h.size, fun k hk _ => h.block k hk⟩
/-- what is known is right -/
def KnowsT (xs : List Int) : Prop := ∀ ys, Rise ys → 2 ≤ ys.length → ys.length ≤ 6 → gi xs (mask ys) > 0 → gi xs (mask ys) = wrap64 (ways ys)
theorem KnowsT.set {xs : List Int} (h : KnowsT xs) (hl : xs.length = 65536) {ys : List Int} (hy : Rise ys) : KnowsT (xs.set (mask ys) (wrap64 (ways ys))) := by
  intro zs hz h2 h6
  rw [gi_set (by rw [hl]; exact mask_lt16 hy)]
  by_cases e : mask zs = mask ys
  · have e2 : zs = ys := mask_inj hz.1 (fun x hx => (hz.2 x hx).1) hy.1 (fun x hx => (hy.2 x hx).1) e
    subst e2
    intro _
    rw [if_pos rfl]
  · rw [if_neg e]
    exact h zs hz h2 h6
theorem wrap_add (a b : Int) : wrap64 (wrap64 a + wrap64 b) = wrap64 (a + b) := by unfold wrap64; omega
theorem wrap_add_left (a b : Int) : wrap64 (wrap64 a + b) = wrap64 (a + b) := by unfold wrap64; omega

/-- the sum of the first k -/
def sumTake (L : List (List Int)) (k : Nat) : Int := sumL (L.take k) ways
theorem sumTake_succ {L : List (List Int)} {k : Nat} (h : k < L.length) : sumTake L (k + 1) = sumTake L k + ways (gr L k) := by
  unfold sumTake
  rw [List.take_succ_eq_append_getElem h, sumL_append, gr_lt h]
  simp [sumL]

theorem gi_zero (n i : Nat) : gi (List.replicate n 0) i = 0 := by
  unfold gi
  rw [List.getD, List.getElem?_replicate]
  split <;> rfl
theorem knows_zero (n : Nat) : KnowsT (List.replicate n 0) := fun ys _ _ _ h => by rw [gi_zero] at h; omega

end Go.Proofs.YtmcgnbbobhfkpaaDoor

namespace Go.Proofs.YtmcgnbbobhfkpaaDoor
open Go.RowKit
/-- how many climbs from all n columns have each of the first k scores -/
def scoreL (sc : List Int → List Int → Int) (n k : Nat) : List Int := (List.range k).map fun i : Nat => wrap64 (climbW sc (hits (i : Int)) (n - 1) (iota n) 0)
end Go.Proofs.YtmcgnbbobhfkpaaDoor

namespace Go.Proofs.YtmcgnbbobhfkpaaDoor
open Go.RowKit Go.Maps

set_option maxRecDepth 100000 in
set_option maxHeartbeats 3200000 in
theorem byScore_topColumn (sc : List Int → List Int → Int) (hf : Scores 18 sc) (hb : SmallSc sc) (n gr' : Nat) (hn1 : 1 ≤ n) (hn : n ≤ 6) (hg : gr' ≤ 100) (hlim : ∀ p ∈ reach sc (iota n) (n - 1), p.2 ≤ (gr' : Int)) (w : World) (hD : Dj w) :
    Calls Tryd.prog 17 #[.int .i64 (n : Int), .int .i64 (gr' : Int), .func (.func 18) #[] #[]] w fun e w' => ∃ v, e = .returned v ∧ OwnI w' w.heap.size v (scoreL sc n (gr' + 1)) ∧ Below w.heap.size w w' := by
  obtain ⟨i0, hi, hz0, hz1, hz2⟩ := info_parts Tryd.info_int
  have Hf := Lib.hid hf
  have Hb := Lib.hid hb
  have Hlim := Lib.hid hlim
  have HD := Lib.hid hD
  clear hf hb hlim hD
  go_enter Tryd.func17, Tryd.ntmps17
  go_wp2_with (at_make; refine wpList_make_full _ rfl _ _ 25 rfl w.heap.size 3 i0 (.int .i64 0) 1 Tryd.underlying25 hi hz0 hz1 _ _ _ _ (gr' + 1) rfl rfl (by omega) (by omega) ?c1 ?c2 ?c3 ?_)
  case c1 => rw [hz2]; omega
  case c2 => unfold maxLen; omega
  case c3 => simp
  intro w1 hown hgr
  have hb1 : Below w.heap.size w w1 := (Below.refl _ _).grown hgr (Nat.le_refl _) (fun _ h => by cases h)
  have hown1 := OwnI.made hown
  have hs1 : w.heap.size + 1 ≤ w1.heap.size := by have := (OwnI.lt hown1 w.heap.size rfl).2; omega
  have hr : Rise (iota n) := ⟨up_iota n, fun x hx => by have := mem_iota.1 hx; omega⟩
  have hcl := climbed_topColumn sc Hf.out Hb.out hr (by rw [iota_len]; exact hn1) (by rw [iota_len]; exact hn) w1 (HD.out.next hb1)
  rw [mask_iota] at hcl
  obtain ⟨m, hm⟩ : ∃ m : Int, m = ((2 ^ n - 1 : Nat) : Int) := ⟨_, rfl⟩
  have hac := allColumns_any n w1 (by omega)
  rw [← hm] at hcl hac
  have Hcl := Lib.hid hcl
  have Hac := Lib.hid hac
  have Hown1 := Lib.hid hown1
  have Hb1 := Lib.hid hb1
  have Hs1 := Lib.hid hs1
  clear hown hgr hb1 hown1 hs1 hcl hm hac hr
  go_wp2_with fail
  refine Hac.out.mono ?_
  rintro e wx ⟨rfl, rfl⟩
  go_wp2_with fail
  refine Hcl.out.mono ?_
  rintro e w2 ⟨bm, L0, rfl, hmw, hbm, hkeys, hpot, hb2⟩
  obtain ⟨D, hownm, hd⟩ := hmw
  rw [iota_len] at hkeys hpot
  have Hkeys := Lib.hid hkeys
  have Hpot := Lib.hid hpot
  have Hd := Lib.hid hd
  have Hown2 := Lib.hid (Hown1.out.below hb2)
  have Hb2 := Lib.hid (Hb1.out.trans (hb2.mono (by have := Hs1.out; omega)))
  have Hs2 := Lib.hid (Nat.le_trans Hs1.out hb2.size)
  clear hkeys hpot hb2 hd
  go_wp2_with (at_range; refine wpList_range_own _ rfl _ 45 rfl 51 3 S_st.K Tryd.underlying45 (plainElem Tryd.prog 3) bm L0.length D rfl hownm ?_; intro w0 hrg0 hg0 hs0)
  go_frame
  go_loopw [18] (fun _ wr => ∃ (L : List Ent) (left : Lit → Bool) (cnt : Nat) (cs : List Int), wr.ranges Tryd.prog 51 (plainElem Tryd.prog 3) bm w2.heap.size L0.length D left cnt ∧ OwnI wr w.heap.size (.slice (some ⟨w.heap.size, 0, none⟩) (gr' + 1) (gr' + 1)) cs ∧ (∀ x ∈ L, x ∈ L0) ∧ (L.map (·.1)).Nodup ∧ (∀ x ∈ L0, left (kl Tryd.prog 51 x.1) = L.any fun y => y.1 == x.1) ∧ (∀ i : Nat, i ≤ gr' → Cg (gi cs i + potL L fun p => hits i p.1 p.2) (potL L0 fun p => hits i p.1 p.2) ∧ -9223372036854775808 ≤ gi cs i ∧ gi cs i ≤ 9223372036854775807) ∧ Below w.heap.size w wr ∧ w2.heap.size + 1 ≤ wr.heap.size) (fun _ wr => wr.rangeLeft bm w2.heap.size)
  case atStart =>
    refine ⟨L0, _, _, _, hrg0, World.ownsRow.kept Hown2.out hg0 (.inr (by simp [Value.ownBlock])), fun x hx => hx, Hd.out.nd, fun x hx => Hd.out.has S_st (Hd.out.ok x hx), fun i hi => ?_, Hb2.out.grown hg0 (by have := Hs2.out; omega) (fun _ h => by cases h), by omega⟩
    rw [gi_zero]
    exact ⟨by simpa using Cg.refl _, by omega, by omega⟩
  case round =>
    obtain ⟨L, left, cnt, cs, hrg, hcs, hLs, hnd, hleft, hcg, hbr, hsr⟩ := hrel
    go_wp2_with (at_next; refine wpList_next_ranges _ rfl _ rfl 51 S_st.K (plainElem Tryd.prog 3) (fun x : Value => x) (fun x : Int => .int .i64 x) (fun key _ _ => ⟨key, rfl⟩) (fun v y hv => by obtain ⟨c, e, _⟩ := plainElem_int_inv Tryd.underlying3 hv; exact ⟨c, e⟩) bm w2.heap.size L0.length D left cnt rfl hrg ?_ ?_)
    · intro _ hl0
      have hL : L = [] := by
        cases L with
        | nil => rfl
        | cons x r =>
          have h1 := hleft x (hLs x (by simp))
          rw [hl0] at h1
          simp at h1
      subst hL
      have hfin : cs = scoreL sc n (gr' + 1) := by
        refine ext_gi (by rw [hcs.len]; simp [scoreL]) fun i hi => ?_
        rw [hcs.len] at hi
        obtain ⟨h1, h2, h3⟩ := hcg i (by omega)
        have h4 : Cg (gi cs i) (climbW sc (hits i) (n - 1) (iota n) 0) := by
          have : Cg (gi cs i) (potL L0 fun p => hits i p.1 p.2) := by simpa [potL, sumL] using h1
          exact this.trans (Hpot.out (hits i))
        have h5 : gi (scoreL sc n (gr' + 1)) i = wrap64 (climbW sc (hits i) (n - 1) (iota n) 0) := gi_row hi
        rw [h5, ← h4.wrap]
        unfold wrap64; omega
      have Hfin := Lib.hid (show OwnI wr w.heap.size (.slice (some ⟨w.heap.size, 0, none⟩) (gr' + 1) (gr' + 1)) (scoreL sc n (gr' + 1)) ∧ Below w.heap.size w wr from ⟨by rw [← hfin]; exact hcs, hbr⟩)
      clear hrg hcs hLs hnd hleft hcg hbr hl0 hfin
      go_wp2
      go_ret
      exact ⟨_, rfl, Hfin.out⟩
    · intro key c kl1 y1 y2 w3 cnt1 hkey hlk hRv hat hrg1 hlt hg1 hs1 hen
      obtain ⟨x, hxL0, hxk⟩ := Hd.out.key_of (Maps.has_true_of_atKey hat)
      subst hxk
      have hvk := Hd.out.ok x hxL0
      have hkey2 : key = ky x.1 := S_st.K.inj hkey (kl_is S_st hvk)
      have hc : c = x.2 := by
        obtain ⟨c', e1, e2, _⟩ := plainElem_int_inv Tryd.underlying3 hRv
        have h1 := Hd.out.atKey S_st hvk
        have e3 : y1 = .lit (.int .i64 c') := congrArg Prod.fst e2
        rw [hat, e3, getC_of_mem Hd.out.nd hxL0] at h1
        simp at h1 e1
        rw [e1, h1]
      have hxL : x ∈ L := by
        have h1 := hleft x hxL0
        rw [hlk] at h1
        obtain ⟨y, hy, hye⟩ := List.any_eq_true.1 h1.symm
        have : y = x := nodup_fst Hd.out.nd (hLs y hy) hxL0 (by simpa using hye)
        rw [← this]; exact hy
      subst hkey2
      have hreach := Hkeys.out x hxL0
      have hs := (reach_ok Hb.out (xs := iota n) ⟨up_iota n, fun x hx => by have := mem_iota.1 hx; omega⟩ (by rw [iota_len]; exact hn) (n - 1) x.1 hreach).2.2.1
      have hs' := Hlim.out x.1 hreach
      obtain ⟨s, hsv⟩ : ∃ s : Nat, x.1.2 = (s : Int) := ⟨x.1.2.toNat, by omega⟩
      have hsg : s ≤ gr' := by omega
      have hcell := hcs.cellAt s (by omega)
      have hcell3 : w3.cell? ⟨w.heap.size, s, none⟩ = some (.int .i64 (gi cs s)) := hg1.cell hcell (by simp; have := Hs2.out; omega)
      have hcs3 : OwnI w3 w.heap.size (.slice (some ⟨w.heap.size, 0, none⟩) (gr' + 1) (gr' + 1)) cs := World.ownsRow.kept hcs hg1 (.inr (by simp [Value.ownBlock]; have := Hs2.out; omega))
      obtain ⟨ma, hma⟩ : ∃ ma : Int, ma = (mask x.1.1 : Nat) := ⟨_, rfl⟩
      have hky : ky x.1 = .agg #[.int .u64 ma, .int .i64 (s : Int)] := by unfold ky; rw [hma, hsv]
      rw [hky] at hen ⊢
      obtain ⟨gs, hgs⟩ : ∃ gs, gs = gi cs s := ⟨_, rfl⟩
      rw [← hgs] at hcell3
      have hgb := hcg s hsg
      obtain ⟨vn, hvn⟩ : ∃ vn, vn = wrap64 (gs + c) := ⟨_, rfl⟩
      have hlen := hcs.len
      have hbw3 : Below w.heap.size w w3 := hbr.grown hg1 hbr.size (fun k hk => by cases hk; have := Hs2.out; omega)
      have hsz3 : w2.heap.size + 1 ≤ w3.heap.size := by omega
      have hfz : (w3.alloc (.cells #[.int .u64 ma, .int .i64 (s : Int)] 51)).frozen? ⟨w.heap.size, s, none⟩ = false := OwnI.frozenAt (World.ownsRow.alloc hcs3 _) s
      have Hrel := Lib.hid (show ∀ w4, w4 = (w3.alloc (.cells #[.int .u64 ma, .int .i64 (s : Int)] 51)).setCell ⟨w.heap.size, s, none⟩ (.int .i64 vn) → ∃ (L : List Ent) (left : Lit → Bool) (cnt : Nat) (cs : List Int), w4.ranges Tryd.prog 51 (plainElem Tryd.prog 3) bm w2.heap.size L0.length D left cnt ∧ OwnI w4 w.heap.size (.slice (some ⟨w.heap.size, 0, none⟩) (gr' + 1) (gr' + 1)) cs ∧ (∀ x ∈ L, x ∈ L0) ∧ (L.map (·.1)).Nodup ∧ (∀ x ∈ L0, left (kl Tryd.prog 51 x.1) = L.any fun y => y.1 == x.1) ∧ (∀ i : Nat, i ≤ gr' → Cg (gi cs i + potL L fun p => hits i p.1 p.2) (potL L0 fun p => hits i p.1 p.2) ∧ -9223372036854775808 ≤ gi cs i ∧ gi cs i ≤ 9223372036854775807) ∧ Below w.heap.size w w4 ∧ w2.heap.size + 1 ≤ w4.heap.size ∧ w4.rangeLeft bm w2.heap.size = cnt1 from by
        intro w4 hw4
        have hg34 : w3.grownBy w4 (some w.heap.size) := by
          rw [hw4]
          have h1 := World.grownBy_alloc w3 (.cells #[.int .u64 ma, .int .i64 (s : Int)] 51) (some w.heap.size)
          exact ⟨h1.os, h1.tape, h1.output, by simp [World.setCell], fun b hb hne => (Below.heap_setCell _ _ _ _ (fun e => hne (by rw [e]))).trans (h1.block b hb hne)⟩
        have hrg4 := hrg1.kept hg34 (by simp; have := Hs1.out; omega) (by simp; have := Hs2.out; omega)
        have hcs4 : OwnI w4 w.heap.size (.slice (some ⟨w.heap.size, 0, none⟩) (gr' + 1) (gr' + 1)) (cs.set s vn) := by
          rw [hw4]
          exact OwnI.store (World.ownsRow.alloc hcs3 _) s vn
        refine ⟨strike L x.1, _, cnt1, _, hrg4, hcs4, fun y hy => hLs y (List.mem_filter.1 hy).1, (List.filter_sublist.map _).nodup hnd, fun y hy => ?_, fun i hi => ?_, hbw3.trans ⟨hg34.os, hg34.tape, hg34.output, hg34.size, fun b hb => hg34.block b (by have := Hs2.out; omega) (by simp; omega)⟩, Nat.le_trans hsz3 hg34.size, hrg4.left_eq⟩
        · show (left (kl Tryd.prog 51 y.1) && !(kl Tryd.prog 51 y.1).sameKey (kl Tryd.prog 51 x.1)) = _
          rw [hleft y hy, sameKey_kl S_st hvk (Hd.out.ok y hy), Bool.eq_iff_iff, Bool.and_eq_true, List.any_eq_true, List.any_eq_true]
          constructor
          · rintro ⟨⟨z, hz, hze⟩, hne⟩
            refine ⟨z, List.mem_filter.2 ⟨hz, ?_⟩, hze⟩
            have e : z.1 = y.1 := by simpa using hze
            rw [e]; exact hne
          · rintro ⟨z, hz, hze⟩
            obtain ⟨hz1, hz2⟩ := List.mem_filter.1 hz
            have e : z.1 = y.1 := by simpa using hze
            rw [e] at hz2
            exact ⟨⟨z, hz1, hze⟩, hz2⟩
        · obtain ⟨h1, h2, h3⟩ := hcg i hi
          have hst := potL_strike hnd x.1 (fun p => hits i p.1 p.2)
          rw [getC_of_mem hnd hxL, ← hc] at hst
          rw [hst] at h1
          rw [gi_set (by rw [hlen]; omega)]
          by_cases e : i = s
          · subst e
            have hh : hits (i : Int) x.1.1 x.1.2 = 1 := by unfold hits; rw [if_pos hsv]
            rw [if_pos rfl, hvn, hgs]
            simp only [hh, Int.mul_one] at h1
            refine ⟨Cg.trans ?_ h1, ?_⟩
            · rw [← Int.add_assoc]
              exact (wrap_cg _).add (Cg.refl _)
            · unfold wrap64; omega
          · have hh : hits (i : Int) x.1.1 x.1.2 = 0 := by unfold hits; rw [if_neg (by omega)]
            rw [if_neg e]
            simp only [hh, Int.mul_zero, Int.zero_add] at h1
            exact ⟨h1, h2, h3⟩)
      have hwv : IntKind.i64.wrap (gs + c) = vn := by rw [i64_wrap, hvn]
      have hwv2 : wrap64 (gs + c) = vn := hvn.symm
      have Hlo := Lib.hid hrg.left_eq
      have Hlt := Lib.hid hlt
      have hsx : (s : Int) < ((gr' : Int) + 1) := by omega
      have hcell4 : (w3.alloc (.cells #[.int .u64 ma, .int .i64 (s : Int)] 51)).cell? ⟨w.heap.size, s, none⟩ = some (.int .i64 gs) := Lib.cell?_alloc_some _ hcell3
      clear hrg hcs hLs hnd hleft hcg hbr hkey hlk hRv hat hrg1 hlt hg1 hs1 hvk hc hxL hxL0 hreach hs hs' hsv hcell hcs3 hma hky hgs hgb hlen hbw3 hsz3 hvn
      go_wp2
      go_roundw
      case rel =>
        obtain ⟨L', l', c', cs', q1, q2, q3, q4, q5, q6, q7, q8, _⟩ := Hrel.out _ rfl
        exact ⟨L', l', c', cs', q1, q2, q3, q4, q5, q6, q7, q8⟩
      case measure =>
        obtain ⟨L', l', c', cs', _, _, _, _, _, _, _, _, q9⟩ := Hrel.out _ rfl
        rw [q9, Hlo.out]
        have := Hlt.out
        omega
end Go.Proofs.YtmcgnbbobhfkpaaDoor

