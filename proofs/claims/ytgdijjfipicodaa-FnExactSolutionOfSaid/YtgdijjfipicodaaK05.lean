/- Parts of proofs: contracts and plain facts. Conditions: as each says. -/
import Derived.Test.YtgdijjfipicodaaK04
import Derived.Laws.AppendOwnNone
import Derived.Laws.OwnMore
import Derived.Maps.AppendAt
namespace Go.Proofs.Ytgdijjfipicodaa
open Go.RowKit

theorem ints_cells {w : World} {ad : Addr} {xs : List Int} {o : Obj} (h : IntsAt w (some ad) xs) : ∀ j u, (xs.map (Value.int .i64))[j]? = some u → (w.alloc o).cell? (ad.add j) = some u := by
  intro j u hj
  have hjl : j < xs.length := by
    have := (List.getElem?_eq_some_iff.1 hj).1
    simpa using this
  obtain ⟨b, o', e, hc⟩ := h j hjl
  cases e
  have e : (xs.map (Value.int .i64))[j]? = some (Value.int .i64 (gi xs j)) := by simp [gi, List.getD, hjl]
  rw [e] at hj
  cases hj
  rw [Addr.add_lit]
  exact Lib.cell?_alloc_some _ hc

set_option maxRecDepth 100000 in
set_option maxHeartbeats 400000 in
theorem l1Own_any (ao : Option Addr) (c : Nat) (xs : List Int) (w : World) (hn : xs.length ≤ 1048576) (hc0 : ao = none → c = 0) (hx : IntsAt w ao xs) :
    Calls Try.prog 60 #[.slice ao xs.length c] w fun e w' => ∃ v, e = .returned v ∧ OwnI w' w.heap.size v xs ∧ Below w.heap.size w w' := by
  obtain ⟨i0, hi, hz0, hz1, hz2⟩ := info_parts Try.info_int
  cases ao with
  | none =>
    obtain rfl : xs = [] := by
      cases xs with
      | nil => rfl
      | cons a r => obtain ⟨b, o, e, _⟩ := hx 0 (by simp); cases e
    obtain rfl := hc0 rfl
    clear hx
    go_enter Try.func60, Try.ntmps60
    go_wp2_with (at_builtin; refine wpList_append_own_none rfl _ _ 24 rfl w.heap.size 3 i0 1 Try.underlying24 hi _ _ _ rfl (World.ownsRow_made w #[] 0 (Nat.le_refl _) (Nat.zero_le _) rfl) rfl ?_)
    go_wp2
    go_ret
    exact ⟨_, rfl, World.ownsRow_made w #[] 0 (Nat.le_refl _) (Nat.zero_le _) rfl, (Below.refl _ _).alloc (Nat.le_refl _) _⟩
  | some ad =>
    have A := Lib.hid hx
    clear hx
    go_enter Try.func60, Try.ntmps60
    go_wp2_with (at_builtin; refine wpList_append_own _ rfl _ _ 24 rfl w.heap.size 3 i0 (.int .i64 0) 1 8 Try.underlying24 hi hz0 hz1 hz2 rfl (by decide) _ _ _ rfl (World.ownsRow_made w #[] 0 (Nat.le_refl _) (Nat.zero_le _) rfl) ad xs.length c (xs.map (Value.int .i64)) rfl ?qc1 ?qc2 ?qc3 ?qc4 ?qc5 ?qc6 ?_)
    case qc1 => simp
    case qc2 => exact ints_cells A.out
    case qc3 => intro u hu; obtain ⟨x, _, rfl⟩ := List.mem_map.1 hu; rfl
    case qc4 => unfold maxLen; omega
    case qc5 => omega
    case qc6 => simp
    intro v' w1 hown hgrow hnil
    go_wp2
    go_ret
    refine ⟨v', rfl, by simpa [OwnI] using hown, ?_⟩
    exact ((Below.refl _ w).alloc (Nat.le_refl _) _).grown hgrow (by simp) (by intro k hk; simp [Value.ownBlock] at hk; omega)

set_option maxRecDepth 100000 in
set_option maxHeartbeats 400000 in
theorem sClone_any (ao : Option Addr) (c : Nat) (xs : List Int) (w : World) (hn : xs.length ≤ 1048576) (hx : IntsAt w ao xs) :
    Calls Try.prog 138 #[.slice ao xs.length c] w fun e w' => ∃ v, e = .returned v ∧ OwnI w' w.heap.size v xs ∧ Below w.heap.size w w' := by
  obtain ⟨i0, hi, hz0, hz1, hz2⟩ := info_parts Try.info_int
  have q22 : ∀ (w : World) (a : Option Addr) (n c n' c' : Nat), (binOp .eql 24 (.slice a n c) (.slice none n' c')).run Try.prog w = .ok (.bool a.isNone) w := fun w a n c n' c' => Lib.run_eql_slice_nil w _ _ a n c n' c' Try.underlying24
  cases ao with
  | none =>
    obtain rfl : xs = [] := by
      cases xs with
      | nil => rfl
      | cons a r => obtain ⟨b, o, e, _⟩ := hx 0 (by simp); cases e
    clear hx
    go_enter Try.func138, Try.ntmps138
    go_wp2
    go_ret
    exact ⟨_, rfl, OwnI.nil _ _, Below.refl _ _⟩
  | some ad =>
    have A := Lib.hid hx
    clear hx
    go_enter Try.func138, Try.ntmps138
    go_wp2_with (at_builtin; refine wpList_append_own _ rfl _ _ 24 rfl w.heap.size 3 i0 (.int .i64 0) 1 8 Try.underlying24 hi hz0 hz1 hz2 rfl (by decide) _ _ _ rfl (World.ownsRow_made w #[] 0 (Nat.le_refl _) (Nat.zero_le _) rfl) ad xs.length c (xs.map (Value.int .i64)) rfl ?qc1 ?qc2 ?qc3 ?qc4 ?qc5 ?qc6 ?_)
    case qc1 => simp
    case qc2 => exact ints_cells A.out
    case qc3 => intro u hu; obtain ⟨x, _, rfl⟩ := List.mem_map.1 hu; rfl
    case qc4 => unfold maxLen; omega
    case qc5 => omega
    case qc6 => simp
    intro v' w1 hown hgrow hnil
    go_wp2
    go_ret
    refine ⟨v', rfl, by simpa [OwnI] using hown, ?_⟩
    exact ((Below.refl _ w).alloc (Nat.le_refl _) _).grown hgrow (by simp) (by intro k hk; simp [Value.ownBlock] at hk; omega)

/-- a slice that is written out -/
theorem ownsRow_built {e : TypeId} {base : Nat} (w : World) (vs : List Value) (hb : base ≤ w.heap.size) (hm : vs.length ≤ 9223372036854775807) :
    (w.alloc (.cells vs.toArray e)).ownsRow base e 1 (.slice (some ⟨w.heap.size, 0, none⟩) vs.length vs.length) vs.length vs :=
  ⟨by simp, .inr ⟨w.heap.size, vs.length, vs.toArray, rfl, hb, heap_alloc_new w _, Nat.le_refl _, hm, by simp, by simp⟩⟩

def slLen : Value → Nat
  | .slice _ n _ => n
  | _ => 0

/-- rows ahead of which a new one has been put: what append leaves of a slice of one row behind which all others come -/
theorem OwnP.front {w w1 : World} {B n : Nat} {v v' u : Value} {m : List (List Int)} {xs : List Int} {vs : List Value} (h : OwnP w B v n m n vs) (hu : OwnI w B u xs)
    (hne : ∀ j, j < n → ∀ g, (vs.getD j undef).ownBlock = some g → u.ownBlock ≠ some g)
    (h1 : w1.ownsRow B 24 1 v' (1 + n) ([u] ++ vs)) (hb : Below w.heap.size w w1) : OwnP w1 B v' (n + 1) (xs :: m) (n + 1) (u :: vs) := by
  refine ⟨by rw [Nat.add_comm]; exact h1, fun i hi => ?_, fun i j hij hj g hg => ?_⟩
  · cases i with
    | zero => exact hu.below hb
    | succ i =>
      have := (h.rows i (by omega)).below hb
      simpa [gr_cons_succ] using this
  · obtain ⟨j, rfl⟩ : ∃ k, j = k + 1 := ⟨j - 1, by omega⟩
    cases i with
    | zero =>
      intro hg2
      exact hne j (by omega) g (by simpa using hg2) (by simpa using hg)
    | succ i =>
      have := h.apart i j (by omega) (by omega) g (by simpa using hg)
      simpa using this
end Go.Proofs.Ytgdijjfipicodaa

namespace Go.Proofs.Ytgdijjfipicodaa
open Go.RowKit

set_option maxRecDepth 100000 in
set_option maxHeartbeats 400000 in
theorem l1Same_any (a1 a2 : Option Addr) (c1 c2 : Nat) (xs ys : List Int) (w : World) (hn : xs.length ≤ 1048576) (hn2 : ys.length ≤ 1048576) (h1 : IntsAt w a1 xs) (h2 : IntsAt w a2 ys) :
    Calls Try.prog 104 #[.slice a1 xs.length c1, .slice a2 ys.length c2] w fun e w' => e = .returned (.bool (xs == ys)) ∧ Q w w' := by
  have hm1 : xs.length ≤ 9223372036854775807 := by omega
  have hm2 : ys.length ≤ 9223372036854775807 := by omega
  have H1 := Lib.hid h1
  have H2 := Lib.hid h2
  clear h1 h2
  by_cases hl : ys.length = xs.length
  · have Hl := Lib.hid hl
    have hb : ((xs.length : Int) != (ys.length : Int)) = false := by simp; omega
    go_enter Try.func104, Try.ntmps104
    go_wp2
    go_loopw [13] (fun i wr => ∃ k : Nat, k ≤ xs.length ∧ i = .int .i64 k ∧ (∀ j, j < k → gi xs j = gi ys j) ∧ Q w wr) (fun i _ => xs.length - (intOf i).toNat)
    case atStart => exact ⟨0, Nat.zero_le _, rfl, fun j hj => absurd hj (by omega), Q.refl _⟩
    case round =>
      obtain ⟨k, hk, rfl, hr, hbr⟩ := hrel
      by_cases hlt : k < xs.length
      · obtain ⟨b1, o1, rfl, hc1⟩ := H1.out.below (hbr.below _) k hlt
        obtain ⟨b2, o2, rfl, hc2⟩ := H2.out.below (hbr.below _) k (by omega)
        have Hr := Lib.hid hr
        have Hbr := Lib.hid hbr
        by_cases e : gi xs k = gi ys k
        · have He := Lib.hid e
          rw [← e] at hc2
          obtain ⟨x, hx⟩ : ∃ x, x = gi xs k := ⟨_, rfl⟩
          rw [← hx] at hc1 hc2
          clear hx e hr hbr
          go_wp2
          go_quiet (fail)
          go_wp2
          go_roundw
          case rel => exact ⟨k + 1, by omega, by go_num, fun j hj => by
            by_cases ej : j = k
            · subst ej; exact He.out
            · exact Hr.out j (by omega), Hbr.out.drewN _⟩
          case measure => simp [intOf]; omega
        · have Hs := Lib.hid (show (xs == ys) = false by
            rw [beq_eq_false_iff_ne]
            intro h
            exact e (by rw [h]))
          have hne : (gi xs k != gi ys k) = true := by simpa using e
          obtain ⟨x, hx⟩ : ∃ x, x = gi xs k := ⟨_, rfl⟩
          obtain ⟨y, hy⟩ : ∃ y, y = gi ys k := ⟨_, rfl⟩
          rw [← hx] at hc1 hne
          rw [← hy] at hc2 hne
          clear hx hy e hr hbr
          go_wp2
          go_quiet (fail)
          go_wp2
          go_ret
          exact ⟨by rw [Hs.out]; rfl, Hbr.out.drewN _⟩
      · obtain rfl : k = xs.length := by omega
        have Hs := Lib.hid (show (xs == ys) = true by
          rw [beq_iff_eq]
          exact ext_gi Hl.out.symm hr)
        have Hbr := Lib.hid hbr
        clear hr hbr
        go_wp2
        go_ret
        exact ⟨by rw [Hs.out]; rfl, Hbr.out⟩
  · have Hs := Lib.hid (show (xs == ys) = false by
      rw [beq_eq_false_iff_ne]
      intro h
      exact hl (by rw [h]))
    have hb : ((xs.length : Int) != (ys.length : Int)) = true := by simp; omega
    go_enter Try.func104, Try.ntmps104
    go_wp2
    go_ret
    exact ⟨by rw [Hs.out]; rfl, Q.refl _⟩

end Go.Proofs.Ytgdijjfipicodaa

namespace Go.Proofs.Ytgdijjfipicodaa
open Go.RowKit

theorem rem_nx {p : List Int} (h : 2 ≤ p.length) (i : Nat) : ((i : Int) + 1) % (p.length : Int) = (nx p i : Int) := by unfold nx; rw [Int.natCast_emod, Int.natCast_add]; rfl
theorem trem_nx {p : List Int} (h : 2 ≤ p.length) (i : Nat) : ((i : Int) + 1).tmod (p.length : Int) = (nx p i : Int) := by rw [Int.tmod_eq_emod_of_nonneg (by omega)]; exact rem_nx h i

set_option maxRecDepth 100000 in
set_option maxHeartbeats 1600000 in
theorem syJoin_any (ao : Option Addr) (c : Nat) (p : List Int) (i : Nat) (w : World) (hp : Lk p) (hi : i < p.length) (hx : IntsAt w ao p) :
    Calls Try.prog 134 #[.slice ao p.length c, .int .i64 (i : Int)] w fun e w' => ∃ v, e = .returned v ∧ OwnI w' w.heap.size v (joinL p i) ∧ Below w.heap.size w w' := by
  obtain ⟨k, A, B, hk, hA, hB, k1, A1, B1, ki, Ai, Bk, gA, gB⟩ := hp.four hi
  obtain ⟨b0, o0, rfl, hci⟩ := hx i hi
  obtain ⟨b1, o1, he, hck⟩ := hx k k1
  simp only [Option.some.injEq, Addr.mk.injEq, and_true] at he
  obtain ⟨rfl, rfl⟩ := he
  have h2 := hp.lo
  have h12 := hp.hi
  have hr1 := rem_nx h2 i
  have hr2 := trem_nx h2 i
  rw [hk] at hr1 hr2
  rw [hA] at hci
  rw [hB] at hck
  have hn0 : ((p.length : Int) == 0) = false := beq_false_of_ne (by omega)
  have hmx : p.length ≤ 9223372036854775807 := by omega
  have Hx := Lib.hid hx
  have Hown := Lib.hid (l1Own_any (some ⟨b0, o0, none⟩) c p w (by omega) (fun h => by cases h) hx)
  by_cases hs : A = k
  · have Hj := Lib.hid (hp.join_same hi (by rw [hk, hA, hs]))
    subst hs
    clear hp hx hk hA hB gA gB
    go_enter Try.func134, Try.ntmps134
    go_wp2_with fail
    refine Hown.out.mono ?_
    rintro e w1 ⟨v, rfl, hv, hb⟩
    have Hv := Lib.hid hv
    have Hb := Lib.hid hb
    clear hv hb
    go_wp2
    go_ret
    exact ⟨_, rfl, by rw [Hj.out]; exact Hv.out, Hb.out⟩
  · have Hj := Lib.hid (hp.join_model hi (by rw [hk, hA]; omega))
    have HJ := Lib.hid (show joinS p i = (((p.set i (k : Int)).set k (i : Int)).set A (B : Int)).set B (A : Int) by unfold joinS; rw [hk, hA, hB, Int.toNat_natCast, Int.toNat_natCast])
    have hne : ((A : Int) == (k : Int)) = false := beq_false_of_ne (by omega)
    clear hp hx hk hA hB gA gB hs
    go_enter Try.func134, Try.ntmps134
    go_wp2
    go_quiet (fail)
    go_wp2_with fail
    refine (l1Own_any (some ⟨b0, o0, none⟩) c p _ (by omega) (fun h => by cases h) (Hx.out.below (by exact (below_drewN (Below.refl _ _) _)))).mono ?_
    rintro e w1 ⟨v, rfl, hv, hb⟩
    have hz : (w.drewN nq).heap.size = w.heap.size := by simp
    rw [hz] at hv hb
    obtain ⟨va, vc, rfl, _, _, _⟩ := hv.read
    obtain ⟨g, rfl, hg, _⟩ := hv.isAt (by omega)
    have P1 := hv.store i (k : Int)
    have P2 := P1.store k (i : Int)
    have P3 := P2.store A (B : Int)
    have P4 := P3.store B (A : Int)
    have HP := Lib.hid P4
    have d0 := hv.cellAt i hi
    have f0 := hv.frozenAt i
    have d1 := P1.cellAt k k1
    have f1 := P1.frozenAt k
    have d2 := P2.cellAt A A1
    have f2 := P2.frozenAt A
    have d3 := P3.cellAt B B1
    have f3 := P3.frozenAt B
    have Hb := Lib.hid ((((((below_drewN (Below.refl w.heap.size w) nq).trans hb).setCell (p := ⟨g, i, none⟩) hg (.int .i64 (k : Int))).setCell (p := ⟨g, k, none⟩) hg (.int .i64 (i : Int))).setCell (p := ⟨g, A, none⟩) hg (.int .i64 (B : Int))).setCell (p := ⟨g, B, none⟩) hg (.int .i64 (A : Int)))
    clear hz hv hb P1 P2 P3 P4 Hx Hown
    go_wp2
    go_ret
    refine ⟨_, rfl, ?_, Hb.out⟩
    rw [← Hj.out, HJ.out]
    have h := HP.out
    simpa using h

/-- a pattern, and a word of at most 100 of its points -/
def wordOk (p ws : List Int) : Prop := isPat p ∧ ws.length ≤ 100 ∧ allIn ws 0 ((p.length : Int) - 1)

end Go.Proofs.Ytgdijjfipicodaa

namespace Go.Proofs.Ytgdijjfipicodaa
open Go.RowKit

theorem OwnP.more {w : World} {B : Nat} {v : Value} {M : List (List Int)} {r : List Int} {vs : List Value} (h : OwnP w B v M.length M M.length vs) : OwnP w B v M.length (M ++ [r]) M.length vs :=
  ⟨h.top, fun i hi => by rw [gr_lt (by simp; omega), List.getElem_append_left hi, ← gr_lt hi]; exact h.rows i hi, h.apart⟩
theorem gr_last (M : List (List Int)) (r : List Int) : gr (M ++ [r]) M.length = r := by
  rw [gr_lt (by simp)]
  simp
end Go.Proofs.Ytgdijjfipicodaa

namespace Go.Proofs.Ytgdijjfipicodaa
open Go.RowKit

/-- the blocks from lo up to hi are as they were -/
def Same (lo hi : Nat) (w w' : World) : Prop := ∀ g, lo ≤ g → g < hi → w'.heap[g]? = w.heap[g]?
theorem Same.refl (lo hi : Nat) (w : World) : Same lo hi w w := fun _ _ _ => rfl
theorem Same.trans {lo hi : Nat} {a b c : World} (h : Same lo hi a b) (k : Same lo hi b c) : Same lo hi a c := fun g h1 h2 => (k g h1 h2).trans (h g h1 h2)
theorem Same.of_below {lo hi B : Nat} {w w' : World} (h : Below B w w') (hB : hi ≤ B) : Same lo hi w w' := fun g _ h2 => h.block g (by omega)
theorem Same.of_grown {lo hi : Nat} {w w' : World} {row : Option Nat} (h : w.grownBy w' row) (hs : hi ≤ w.heap.size) (hr : ∀ g, row = some g → g < lo ∨ hi ≤ g) : Same lo hi w w' :=
  fun g h1 h2 => h.block g (by omega) (fun e => by have := hr g e.symm; omega)
theorem ownsRow_same {w w' : World} {B : Nat} {e : TypeId} {v : Value} {n : Nat} {xs : List Value} (h : w.ownsRow B e 1 v n xs) (hs : Same B w.heap.size w w') : w'.ownsRow B e 1 v n xs := by
  refine ⟨h.1, ?_⟩
  rcases h.2 with h0 | ⟨g, cap, cur, rfl, hg, hh, r⟩
  · exact .inl h0
  · exact .inr ⟨g, cap, cur, rfl, hg, by rw [hs g hg (lt_of_block hh)]; exact hh, r⟩
theorem OwnP.same {w w' : World} {B n k : Nat} {v : Value} {m : List (List Int)} {vs : List Value} (h : OwnP w B v n m k vs) (hs : Same B w.heap.size w w') : OwnP w' B v n m k vs :=
  ⟨ownsRow_same h.top hs, fun i hi => ownsRow_same (h.rows i hi) hs, h.apart⟩
/-- a row of an owned table: where its slice lies, and that it is owned -/
theorem OwnP.rowAt {w : World} {B n c : Nat} {ao : Option Addr} {m : List (List Int)} {vs : List Value} (h : OwnP w B (.slice ao n c) n m n vs) {i : Nat} (hi : i < n) :
    ∃ b o r d, ao = some ⟨b, o, none⟩ ∧ w.cell? ⟨b, o + i, none⟩ = some (.slice r (gr m i).length d) ∧ vs.getD i undef = .slice r (gr m i).length d ∧ OwnI w B (.slice r (gr m i).length d) (gr m i) ∧ (gr m i).length ≤ d ∧ d ≤ 9223372036854775807 := by
  obtain ⟨ao', c', hv, _, _, hcells⟩ := ownsRow_read h.top
  obtain ⟨rfl, -, rfl⟩ := (Value.slice.injEq _ _ _ _ _ _).mp hv
  obtain ⟨b, o, e, hc⟩ := hcells i hi
  have hrow := h.rows i hi
  obtain ⟨r, d, hr, h1, h2, _⟩ := hrow.read
  rw [hr] at hc hrow
  exact ⟨b, o, r, d, e, hc, hr, hrow, h1, h2⟩
theorem OwnI.same_at {w w' : World} {B n c : Nat} {ao : Option Addr} {xs : List Int} (h : OwnI w B (.slice ao n c) xs) (hs : Same B w.heap.size w w') : IntsAt w' ao xs := own_at (ownsRow_same h hs)
end Go.Proofs.Ytgdijjfipicodaa

namespace Go.Proofs.Ytgdijjfipicodaa
open Go.RowKit

def inR (n : Int) : Prop := 1 ≤ n ∧ n ≤ 8

/-- choices, factor by factor -/
def ch (n : Nat) : Nat → Nat
  | 0 => 1
  | i + 1 => ch n i * (n - i) / (i + 1)
def cI : Nat → Nat
  | 0 => 1
  | k + 1 => if k = 0 then 1 else cI k * ch (3 * k + 1) k / ch (2 * k) k

theorem ch_b : ∀ n, n < 23 → ∀ i, i < 8 → ch n i ≤ 1000000000 ∧ ch n i * (n - i) ≤ 1000000000 := by decide +kernel
theorem cI_b : ∀ k, k < 8 → cI k ≤ 1000000000 ∧ cI k * ch (3 * k + 1) k ≤ 1000000000000000 ∧ 1 ≤ ch (2 * k) k := by decide +kernel

set_option maxRecDepth 100000 in
set_option maxHeartbeats 800000 in
theorem choicesOf_any (k n : Nat) (w : World) (hk : k ≤ 7) (hkn : k ≤ n) (hn : n ≤ 22) :
    Calls Try.prog 49 #[.int .i64 (k : Int), .int .i64 (n : Int)] w fun e w' => e = .returned (.int .i64 (ch n k : Nat)) ∧ w = w' := by
  go_enter Try.func49, Try.ntmps49
  go_wp2
  go_loop [5, 8] (fun s i => ∃ t : Nat, t ≤ k ∧ i = .int .i64 t ∧ s = .int .i64 (ch n t : Nat)) (fun _ i => k - (intOf i).toNat)
  case atStart => exact ⟨0, Nat.zero_le _, rfl, rfl⟩
  case round =>
    obtain ⟨t, ht, rfl, rfl⟩ := hrel
    by_cases hlt : t < k
    · have hb := ch_b n (by omega) t (by omega)
      have e1 : ch n (t + 1) = ch n t * (n - t) / (t + 1) := rfl
      have E1 := Lib.hid e1
      clear e1
      obtain ⟨s, hs⟩ : ∃ s, s = ch n t := ⟨_, rfl⟩
      obtain ⟨p, hp⟩ : ∃ p, p = ch n t * (n - t) := ⟨_, rfl⟩
      rw [← hs] at hb
      rw [← hs]
      have hp1 : (s : Int) * ((n : Int) - (t : Int)) = (p : Int) := by rw [hp, ← hs, show ((n : Int) - (t : Int)) = ((n - t : Nat) : Int) from by omega, Int.natCast_mul]
      have hpb : p ≤ 1000000000 := by rw [hp, ← hs]; exact hb.2
      have hsb := hb.1
      obtain ⟨q, hq⟩ : ∃ q, q = p / (t + 1) := ⟨_, rfl⟩
      have hq1 : (p : Int) / ((t : Int) + 1) = (q : Int) := by rw [hq, Int.natCast_ediv]; rfl
      have hqb : q ≤ 1000000000 := by rw [hq]; exact Nat.le_trans (Nat.div_le_self _ _) hpb
      have Hp := Lib.hid hp
      have Hs := Lib.hid hs
      have Hq := Lib.hid hq
      clear hb hp hs hq
      go_wp2
      go_round
      case rel =>
        refine ⟨t + 1, by omega, by go_num, ?_⟩
        rw [E1.out, ← Hp.out, ← Hq.out]
      case measure => simp [intOf]; omega
    · obtain rfl : t = k := by omega
      go_wp2
      go_ret
      exact ⟨rfl, rfl⟩

set_option maxRecDepth 100000 in
set_option maxHeartbeats 1600000 in
theorem implCountSigns_any (n : Int) (w : World) :
    Calls Try.prog 45 #[.int .i64 n] w fun e w' => IRes (inR n) (cI n.toNat : Nat) e ∧ w = w' := by
  by_cases h1 : 1 ≤ n
  · by_cases h8 : n ≤ 8
    · obtain ⟨n, rfl⟩ := Int.eq_ofNat_of_zero_le (show 0 ≤ n by omega)
      rw [Int.toNat_natCast]
      have hd : decide ((8 : Int) < (n : Int)) = false := by simp; omega
      go_enter Try.func45, Try.ntmps45
      go_wp2
      go_loop [4, 5] (fun s i => ∃ k : Nat, 1 ≤ k ∧ k ≤ n ∧ i = .int .i64 k ∧ s = .int .i64 (cI k : Nat)) (fun _ i => n - (intOf i).toNat)
      case atStart => exact ⟨1, by omega, by omega, rfl, rfl⟩
      case round =>
        obtain ⟨k, hk1, hk, rfl, rfl⟩ := hrel
        by_cases hlt : k < n
        · have hb := cI_b k (by omega)
          have e1 : cI (k + 1) = cI k * ch (3 * k + 1) k / ch (2 * k) k := by show (if k = 0 then 1 else _) = _; rw [if_neg (by omega)]
          have E1 := Lib.hid e1
          clear e1
          have c1 := choicesOf_any k (3 * k + 1) w (by omega) (by omega) (by omega)
          have c2 := choicesOf_any k (2 * k) w (by omega) (by omega) (by omega)
          rw [show ((3 * k + 1 : Nat) : Int) = 3 * (k : Int) + 1 from by omega] at c1
          rw [show ((2 * k : Nat) : Int) = 2 * (k : Int) from by omega] at c2
          have C1 := Lib.hid c1
          have C2 := Lib.hid c2
          obtain ⟨s, hs⟩ : ∃ s, s = cI k := ⟨_, rfl⟩
          obtain ⟨x, hx⟩ : ∃ x, x = ch (3 * k + 1) k := ⟨_, rfl⟩
          obtain ⟨y, hy⟩ : ∃ y, y = ch (2 * k) k := ⟨_, rfl⟩
          obtain ⟨p, hp⟩ : ∃ p, p = s * x := ⟨_, rfl⟩
          rw [← hs, ← hx, ← hy] at hb
          rw [← hs]
          have hp1 : (s : Int) * (x : Int) = (p : Int) := by rw [hp, Int.natCast_mul]
          have hpb : p ≤ 1000000000000000 := by rw [hp]; exact hb.2.1
          have hsb := hb.1
          have hyb := hb.2.2
          obtain ⟨q, hq⟩ : ∃ q, q = p / y := ⟨_, rfl⟩
          have hq1 : (p : Int) / (y : Int) = (q : Int) := by rw [hq, Int.natCast_ediv]
          have hqb : q ≤ 1000000000000000 := by rw [hq]; exact Nat.le_trans (Nat.div_le_self _ _) hpb
          have Hq := Lib.hid hq
          clear hq
          have Hs := Lib.hid hs
          have Hx := Lib.hid hx
          have Hy := Lib.hid hy
          have Hp := Lib.hid hp
          clear hb hs hx hy hp c1 c2
          go_wp2_with fail
          refine C1.out.mono ?_
          rintro e w2 ⟨rfl, rfl⟩
          rw [← Hx.out]
          go_wp2_with fail
          refine C2.out.mono ?_
          rintro e w2 ⟨rfl, rfl⟩
          rw [← Hy.out]
          go_wp2
          go_round
          case rel =>
            refine ⟨k + 1, by omega, by omega, by go_num, ?_⟩
            rw [E1.out, ← Hs.out, ← Hx.out, ← Hy.out, ← Hp.out, ← Hq.out]
          case measure => simp [intOf]; omega
        · obtain rfl : k = n := by omega
          go_wp2
          go_ret2
          exact ⟨IRes.yes ⟨h1, h8⟩, rfl⟩
    · have hd : decide ((8 : Int) < n) = true := by simp; omega
      go_enter Try.func45, Try.ntmps45
      go_wp2
      go_ret2
      exact ⟨IRes.no fun h => by have := h.2; omega, rfl⟩
  · go_enter Try.func45, Try.ntmps45
    go_wp2
    go_ret2
    exact ⟨IRes.no fun h => by have := h.1; omega, rfl⟩

set_option maxRecDepth 100000 in
set_option maxHeartbeats 800000 in
theorem sgGcd_any (b : Nat) : ∀ (a : Nat) (w : World), a ≤ 4000000000000000000 → b ≤ 4000000000000000000 →
    Calls Try.prog 81 #[.int .i64 (a : Int), .int .i64 (b : Int)] w fun e w' => e = .returned (.int .i64 (Nat.gcd a b : Nat)) ∧ w = w' := by
  induction b using Nat.strongRecOn with
  | _ b ih =>
    intro a w ha hb
    by_cases h0 : b = 0
    · subst h0
      rw [Nat.gcd_zero_right]
      go_enter Try.func81, Try.ntmps81
      go_wp2_with fail
      go_ret
      exact ⟨rfl, rfl⟩
    · have hlt := Nat.mod_lt a (show b > 0 by omega)
      have hh := ih (a % b) hlt b w (by omega) (by omega)
      have hbb : ((b : Int) == 0) = false := by simp [h0]
      have hm : (a : Int) % (b : Int) = ((a % b : Nat) : Int) := by rw [Int.natCast_emod]
      have hg : Nat.gcd b (a % b) = Nat.gcd a b := by rw [Nat.gcd_comm b, ← Nat.gcd_rec, Nat.gcd_comm]
      rw [hg] at hh
      have HH := Lib.hid hh
      obtain ⟨r, hr⟩ : ∃ r, r = a % b := ⟨_, rfl⟩
      rw [← hr] at hm hlt
      have Hr := Lib.hid hr
      clear hh hr hg ih
      go_enter Try.func81, Try.ntmps81
      go_wp2_with fail
      rw [Hr.out]
      refine HH.out.mono ?_
      rintro e w2 ⟨rfl, rfl⟩
      go_wp2_with fail
      go_ret
      exact ⟨rfl, rfl⟩

def stepA (s : Nat × Nat) (x : Nat) : Nat × Nat := (s.1 * (x / Nat.gcd x s.2), s.2 / Nat.gcd x s.2)
def stepB (s : Nat × Nat) (x : Nat) : Nat × Nat := (s.1 / Nat.gcd s.1 x, s.2 * (x / Nat.gcd s.1 x))
def itA (s : Nat × Nat) (x0 : Nat) : Nat → Nat × Nat
  | 0 => s
  | t + 1 => stepA (itA s x0 t) (x0 + t)
def itB (s : Nat × Nat) (x0 : Nat) : Nat → Nat × Nat
  | 0 => s
  | t + 1 => stepB (itB s x0 t) (x0 + t)
def outer (n : Nat) : Nat → Nat × Nat
  | 0 => (1, 1)
  | k + 1 => itB (itA (outer n k) (n + k + 1) (2 * k + 1 - n)) (3 * k + 2) (n - (2 * k + 1))

def okS (s : Nat × Nat) : Bool := decide (s.1 ≤ 1000000000000000000) && decide (s.2 ≤ 1000000000000000000) && decide (1 ≤ s.1) && decide (1 ≤ s.2)
theorem itA_ok : ∀ n, n < 9 → ∀ k, k < n → ∀ t, t < 9 → t ≤ 2 * k + 1 - n → okS (itA (outer n k) (n + k + 1) t) = true := by decide +kernel
theorem itB_ok : ∀ n, n < 9 → ∀ k, k < n → ∀ t, t < 9 → t ≤ n - (2 * k + 1) → okS (itB (itA (outer n k) (n + k + 1) (2 * k + 1 - n)) (3 * k + 2) t) = true := by decide +kernel
theorem outer_ok : ∀ n, n < 9 → okS (outer n n) = true := by decide +kernel
theorem outer_cI : ∀ n, n < 9 → 1 ≤ n → (outer n n).1 / (outer n n).2 = cI n := by decide +kernel

theorem okS_b {s : Nat × Nat} (h : okS s = true) : s.1 ≤ 1000000000000000000 ∧ s.2 ≤ 1000000000000000000 ∧ 1 ≤ s.1 ∧ 1 ≤ s.2 := by
  unfold okS at h
  simp only [Bool.and_eq_true, decide_eq_true_eq] at h
  omega

set_option maxRecDepth 100000 in
set_option maxHeartbeats 6400000 in
theorem specCountSigns_any (n : Int) (w : World) :
    Calls Try.prog 42 #[.int .i64 n] w fun e w' => IRes (inR n) (cI n.toNat : Nat) e ∧ w = w' := by
  by_cases hr : 1 ≤ n ∧ n ≤ 8
  · obtain ⟨h1, h8⟩ := hr
    obtain ⟨n, rfl⟩ := Int.eq_ofNat_of_zero_le (show 0 ≤ n by omega)
    rw [Int.toNat_natCast]
    have h1' : 1 ≤ n := by omega
    have h8' : n ≤ 8 := by omega
    clear h1 h8
    go_enter Try.func42, Try.ntmps42
    go_wp2_with fail
    refine (l1In_any _ _ _ w).mono ?_
    rintro e w2 ⟨ha, rfl⟩
    obtain rfl := ha.is ⟨by omega, by omega⟩
    clear ha
    go_wp2
    go_loop [4, 5, 6] (fun a b i => ∃ k : Nat, k ≤ n ∧ i = .int .i64 k ∧ a = .int .i64 ((outer n k).1 : Nat) ∧ b = .int .i64 ((outer n k).2 : Nat)) (fun _ _ i => n - (intOf i).toNat)
    case atStart => exact ⟨0, Nat.zero_le _, rfl, rfl, rfl⟩
    case round =>
      obtain ⟨k, hk, rfl, rfl, rfl⟩ := hrel
      by_cases hlt : k < n
      · have H0 := Lib.hid (itA_ok n (by omega) k hlt)
        have HB := Lib.hid (itB_ok n (by omega) k hlt)
        obtain ⟨S, hS⟩ : ∃ S, S = outer n k := ⟨_, rfl⟩
        rw [← hS]
        have HS := Lib.hid hS
        clear hS
        go_wp2
        go_loop [4, 5, 7] (fun a b x => ∃ t : Nat, t ≤ 2 * k + 1 - n ∧ x = .int .i64 ((n + k + 1 + t : Nat) : Int) ∧ a = .int .i64 ((itA S (n + k + 1) t).1 : Nat) ∧ b = .int .i64 ((itA S (n + k + 1) t).2 : Nat)) (fun _ _ x => 40 - (intOf x).toNat)
        case atStart => exact ⟨0, Nat.zero_le _, by go_num, rfl, rfl⟩
        case round =>
          obtain ⟨t, ht, rfl, rfl, rfl⟩ := hrel
          obtain ⟨x, hx⟩ : ∃ x, x = n + k + 1 + t := ⟨_, rfl⟩
          rw [← hx]
          have hx1 : x ≤ n + k + 1 + t := by omega
          have hx2 : n + k + 1 + t ≤ x := by omega
          have Hx := Lib.hid hx
          clear hx
          have hok := okS_b (by have := H0.out t (by omega) ht; rw [← HS.out] at this; exact this)
          obtain ⟨⟨a, b⟩, hab⟩ : ∃ ab : Nat × Nat, ab = itA S (n + k + 1) t := ⟨_, rfl⟩
          rw [← hab] at hok ⊢
          have Hab := Lib.hid hab
          clear hab
          obtain ⟨ha1, hb1, ha0, hb0⟩ := hok
          dsimp only at ha1 hb1 ha0 hb0 ⊢
          by_cases htl : t < 2 * k + 1 - n
          · have hok2 := okS_b (by have := H0.out (t + 1) (by omega) (by omega); rw [← HS.out] at this; exact this)
            have es : itA S (n + k + 1) (t + 1) = stepA (a, b) x := by show stepA (itA S (n + k + 1) t) (n + k + 1 + t) = _; rw [← Hab.out, ← Hx.out]
            rw [es] at hok2
            unfold stepA at hok2
            dsimp only at hok2
            have Es := Lib.hid es
            clear es
            have hg1 : 1 ≤ Nat.gcd x b := Nat.gcd_pos_of_pos_left _ (by omega)
            have hgb : Nat.gcd x b ≤ x := Nat.gcd_le_left _ (by omega)
            obtain ⟨g, hg⟩ : ∃ g, g = Nat.gcd x b := ⟨_, rfl⟩
            obtain ⟨q, hq⟩ : ∃ q, q = x / g := ⟨_, rfl⟩
            obtain ⟨p, hp⟩ : ∃ p, p = a * q := ⟨_, rfl⟩
            obtain ⟨d, hd⟩ : ∃ d, d = b / g := ⟨_, rfl⟩
            rw [← hg] at hg1 hgb
            rw [← hg, ← hq, ← hp, ← hd] at hok2
            have hq1 : (x : Int) / (g : Int) = (q : Int) := by rw [hq, Int.natCast_ediv]
            have hp1 : (a : Int) * (q : Int) = (p : Int) := by rw [hp, Int.natCast_mul]
            have hd1 : (b : Int) / (g : Int) = (d : Int) := by rw [hd, Int.natCast_ediv]
            have hqb : q ≤ x := by rw [hq]; exact Nat.div_le_self _ _
            obtain ⟨hpb, hdb, _, _⟩ := hok2
            have hh := sgGcd_any b x w (by omega) (by omega)
            rw [← hg] at hh
            have HH := Lib.hid hh
            have Hfin : Hid (stepA (a, b) x = (p, d)) := Lib.hid (by unfold stepA; dsimp only; rw [← hg, ← hq, ← hp, ← hd])
            clear hh hg hq hp hd
            go_wp2_with fail
            refine HH.out.mono ?_
            rintro e w2 ⟨rfl, rfl⟩
            go_wp2
            go_round
            case rel => exact ⟨t + 1, by omega, by go_num, by rw [Es.out, Hfin.out], by rw [Es.out, Hfin.out]⟩
            case measure => simp [intOf]; omega
          · obtain rfl : t = 2 * k + 1 - n := by omega
            go_wp2
            go_loop [4, 5, 9] (fun a' b' x => ∃ t : Nat, t ≤ n - (2 * k + 1) ∧ x = .int .i64 ((3 * k + 2 + t : Nat) : Int) ∧ a' = .int .i64 ((itB (a, b) (3 * k + 2) t).1 : Nat) ∧ b' = .int .i64 ((itB (a, b) (3 * k + 2) t).2 : Nat)) (fun _ _ x => 40 - (intOf x).toNat)
            case atStart => exact ⟨0, Nat.zero_le _, by go_num, rfl, rfl⟩
            case round =>
              obtain ⟨t, ht, rfl, rfl, rfl⟩ := hrel
              obtain ⟨y, hy⟩ : ∃ y, y = 3 * k + 2 + t := ⟨_, rfl⟩
              rw [← hy]
              have hy1 : y ≤ 3 * k + 2 + t := by omega
              have hy2 : 3 * k + 2 + t ≤ y := by omega
              have Hy := Lib.hid hy
              clear hy
              have hok := okS_b (by have := HB.out t (by omega) ht; rw [← HS.out, ← Hab.out] at this; exact this)
              obtain ⟨⟨c, d⟩, hcd⟩ : ∃ cd : Nat × Nat, cd = itB (a, b) (3 * k + 2) t := ⟨_, rfl⟩
              rw [← hcd] at hok ⊢
              have Hcd := Lib.hid hcd
              clear hcd
              obtain ⟨hc1, hd1, hc0, hd0⟩ := hok
              dsimp only at hc1 hd1 hc0 hd0 ⊢
              by_cases htl : t < n - (2 * k + 1)
              · have hok2 := okS_b (by have := HB.out (t + 1) (by omega) (by omega); rw [← HS.out, ← Hab.out] at this; exact this)
                have es : itB (a, b) (3 * k + 2) (t + 1) = stepB (c, d) y := by show stepB (itB (a, b) (3 * k + 2) t) (3 * k + 2 + t) = _; rw [← Hcd.out, ← Hy.out]
                rw [es] at hok2
                unfold stepB at hok2
                dsimp only at hok2
                have Es := Lib.hid es
                clear es
                have hg1 : 1 ≤ Nat.gcd c y := Nat.gcd_pos_of_pos_left _ (by omega)
                have hgb : Nat.gcd c y ≤ c := Nat.gcd_le_left _ (by omega)
                obtain ⟨g, hg⟩ : ∃ g, g = Nat.gcd c y := ⟨_, rfl⟩
                obtain ⟨q, hq⟩ : ∃ q, q = y / g := ⟨_, rfl⟩
                obtain ⟨p, hp⟩ : ∃ p, p = d * q := ⟨_, rfl⟩
                obtain ⟨f, hf⟩ : ∃ f, f = c / g := ⟨_, rfl⟩
                rw [← hg] at hg1 hgb
                rw [← hg, ← hq, ← hp, ← hf] at hok2
                have hq1 : (y : Int) / (g : Int) = (q : Int) := by rw [hq, Int.natCast_ediv]
                have hp1 : (d : Int) * (q : Int) = (p : Int) := by rw [hp, Int.natCast_mul]
                have hf1 : (c : Int) / (g : Int) = (f : Int) := by rw [hf, Int.natCast_ediv]
                have hqb : q ≤ y := by rw [hq]; exact Nat.div_le_self _ _
                obtain ⟨hfb, hpb, _, _⟩ := hok2
                have hh := sgGcd_any y c w (by omega) (by omega)
                rw [← hg] at hh
                have HH := Lib.hid hh
                have Hfin : Hid (stepB (c, d) y = (f, p)) := Lib.hid (by unfold stepB; dsimp only; rw [← hg, ← hq, ← hp, ← hf])
                clear hh hg hq hp hf
                go_wp2_with fail
                refine HH.out.mono ?_
                rintro e w2 ⟨rfl, rfl⟩
                go_wp2
                go_round
                case rel => exact ⟨t + 1, by omega, by go_num, by rw [Es.out, Hfin.out], by rw [Es.out, Hfin.out]⟩
                case measure => simp [intOf]; omega
              · obtain rfl : t = n - (2 * k + 1) := by omega
                have eo : outer n (k + 1) = (c, d) := by show itB (itA (outer n k) (n + k + 1) (2 * k + 1 - n)) (3 * k + 2) (n - (2 * k + 1)) = _; rw [← HS.out, ← Hab.out, ← Hcd.out]
                have Eo := Lib.hid eo
                clear eo
                go_wp2
                go_round
                case rel => exact ⟨k + 1, by omega, by go_num, by rw [Eo.out], by rw [Eo.out]⟩
                case measure => simp [intOf]; omega
      · obtain rfl : k = n := by omega
        have hok := okS_b (outer_ok k (by omega))
        have hc := outer_cI k (by omega) h1'
        obtain ⟨⟨a, b⟩, hab⟩ : ∃ ab : Nat × Nat, ab = outer k k := ⟨_, rfl⟩
        rw [← hab] at hok hc ⊢
        have Hab := Lib.hid hab
        clear hab
        obtain ⟨ha1, hb1, ha0, hb0⟩ := hok
        dsimp only at ha1 hb1 ha0 hb0 hc ⊢
        have hq1 : (a : Int) / (b : Int) = (cI k : Int) := by rw [← hc, Int.natCast_ediv]
        have hqb : cI k ≤ a := by rw [← hc]; exact Nat.div_le_self _ _
        have Hin : Hid (inR (k : Int)) := Lib.hid ⟨by omega, by omega⟩
        clear hc
        go_wp2
        go_ret2
        exact ⟨IRes.yes Hin.out, rfl⟩
  · have Hr := Lib.hid hr
    clear hr
    go_enter Try.func42, Try.ntmps42
    go_wp2_with fail
    refine (l1In_any _ _ _ w).mono ?_
    rintro e w2 ⟨ha, rfl⟩
    obtain rfl := ha.isnt (fun h => Hr.out ⟨by omega, by omega⟩)
    clear ha
    go_wp2
    go_ret2
    exact ⟨IRes.no Hr.out, rfl⟩
end Go.Proofs.Ytgdijjfipicodaa

namespace Go.Proofs.Ytgdijjfipicodaa
open Go.RowKit

def in6 (n : Int) : Prop := 1 ≤ n ∧ n ≤ 6
def catI : Nat → Nat
  | 0 => 1
  | k + 1 => catI k * 2 * (2 * k + 1) / (k + 2)
theorem cat_b : ∀ k, k < 7 → catI k ≤ 1000 := by decide +kernel
theorem cat_same : ∀ n, n < 7 → ch (2 * n) n / (n + 1) = catI n ∧ ch (2 * n) n ≤ 1000 := by decide +kernel

end Go.Proofs.Ytgdijjfipicodaa

