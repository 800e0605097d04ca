/- Parts of proofs: contracts and plain facts. Conditions: as each says. -/
import Derived.Test.YtncpoljjfhmkeaaK03
import Derived.Laws.OwnMore
import Derived.Maps.AppendAt
namespace Go.Proofs.Ytncpoljjfhmkeaa
open Go.RowKit

theorem rem_nx {p : List Int} (h : 2 ≤ p.length) (i : Nat) : ((i : Int) + 1) % (p.length : Int) = (nx p i : Int) := by unfold nx; rw [Int.natCast_emod, Int.natCast_add]; rfl
theorem trem_nx {p : List Int} (h : 2 ≤ p.length) (i : Nat) : ((i : Int) + 1).tmod (p.length : Int) = (nx p i : Int) := by rw [Int.tmod_eq_emod_of_nonneg (by omega)]; exact rem_nx h i

set_option maxRecDepth 100000 in
set_option maxHeartbeats 1600000 in
theorem syJoin_any (ao : Option Addr) (c : Nat) (p : List Int) (i : Nat) (w : World) (hp : Lk p) (hi : i < p.length) (hx : IntsAt w ao p) :
    Calls Try.prog 60 #[.slice ao p.length c, .int .i64 (i : Int)] w fun e w' => ∃ v, e = .returned v ∧ OwnI w' w.heap.size v (joinL p i) ∧ Below w.heap.size w w' := by
  obtain ⟨k, A, B, hk, hA, hB, k1, A1, B1, ki, Ai, Bk, gA, gB⟩ := hp.four hi
  obtain ⟨b0, o0, rfl, hci⟩ := hx i hi
  obtain ⟨b1, o1, he, hck⟩ := hx k k1
  simp only [Option.some.injEq, Addr.mk.injEq, and_true] at he
  obtain ⟨rfl, rfl⟩ := he
  have h2 := hp.lo
  have h12 := hp.hi
  have hr1 := rem_nx h2 i
  have hr2 := trem_nx h2 i
  rw [hk] at hr1 hr2
  rw [hA] at hci
  rw [hB] at hck
  have hn0 : ((p.length : Int) == 0) = false := beq_false_of_ne (by omega)
  have hmx : p.length ≤ 9223372036854775807 := by omega
  have Hx := Lib.hid hx
  have Hown := Lib.hid (l1Own_any (some ⟨b0, o0, none⟩) c p w (by omega) (fun h => by cases h) hx)
  by_cases hs : A = k
  · have Hj := Lib.hid (hp.join_same hi (by rw [hk, hA, hs]))
    subst hs
    clear hp hx hk hA hB gA gB
    go_enter Try.func60, Try.ntmps60
    go_wp2_with fail
    refine Hown.out.mono ?_
    rintro e w1 ⟨v, rfl, hv, hb⟩
    have Hv := Lib.hid hv
    have Hb := Lib.hid hb
    clear hv hb
    go_wp2
    go_ret
    exact ⟨_, rfl, by rw [Hj.out]; exact Hv.out, Hb.out⟩
  · have Hj := Lib.hid (hp.join_model hi (by rw [hk, hA]; omega))
    have HJ := Lib.hid (show joinS p i = (((p.set i (k : Int)).set k (i : Int)).set A (B : Int)).set B (A : Int) by unfold joinS; rw [hk, hA, hB, Int.toNat_natCast, Int.toNat_natCast])
    have hne : ((A : Int) == (k : Int)) = false := beq_false_of_ne (by omega)
    clear hp hx hk hA hB gA gB hs
    go_enter Try.func60, Try.ntmps60
    go_wp2
    go_quiet (fail)
    go_wp2_with fail
    refine (l1Own_any (some ⟨b0, o0, none⟩) c p _ (by omega) (fun h => by cases h) (Hx.out.below (by exact (below_drewN (Below.refl _ _) _)))).mono ?_
    rintro e w1 ⟨v, rfl, hv, hb⟩
    have hz : (w.drewN nq).heap.size = w.heap.size := by simp
    rw [hz] at hv hb
    obtain ⟨va, vc, rfl, _, _, _⟩ := hv.read
    obtain ⟨g, rfl, hg, _⟩ := hv.isAt (by omega)
    have P1 := hv.store i (k : Int)
    have P2 := P1.store k (i : Int)
    have P3 := P2.store A (B : Int)
    have P4 := P3.store B (A : Int)
    have HP := Lib.hid P4
    have d0 := hv.cellAt i hi
    have f0 := hv.frozenAt i
    have d1 := P1.cellAt k k1
    have f1 := P1.frozenAt k
    have d2 := P2.cellAt A A1
    have f2 := P2.frozenAt A
    have d3 := P3.cellAt B B1
    have f3 := P3.frozenAt B
    have Hb := Lib.hid ((((((below_drewN (Below.refl w.heap.size w) nq).trans hb).setCell (p := ⟨g, i, none⟩) hg (.int .i64 (k : Int))).setCell (p := ⟨g, k, none⟩) hg (.int .i64 (i : Int))).setCell (p := ⟨g, A, none⟩) hg (.int .i64 (B : Int))).setCell (p := ⟨g, B, none⟩) hg (.int .i64 (A : Int)))
    clear hz hv hb P1 P2 P3 P4 Hx Hown
    go_wp2
    go_ret
    refine ⟨_, rfl, ?_, Hb.out⟩
    rw [← Hj.out, HJ.out]
    have h := HP.out
    simpa using h

set_option maxRecDepth 100000 in
set_option maxHeartbeats 800000 in
theorem specJoinAt_any (ao : Option Addr) (c : Nat) (p : List Int) (i : Int) (w : World) (hn : p.length ≤ 1048576) (hx : IntsAt w ao p) (_ : -9223372036854775808 ≤ i ∧ i ≤ 9223372036854775807) :
    Calls Try.prog 24 #[.slice ao p.length c, .int .i64 i] w fun e w' => LRes (isPat p ∧ 0 ≤ i ∧ i < p.length) (joinL p i.toNat) w' w.heap.size e ∧ Below w.heap.size w w' := by
  have hmx : p.length ≤ 9223372036854775807 := by omega
  have Hx := Lib.hid hx
  clear hx
  go_enter Try.func24, Try.ntmps24
  go_wp2_with fail
  refine (loIsPattern_any ao c p w hn Hx.out).mono ?_
  rintro e w1 ⟨ha, rfl⟩
  by_cases hg : isPat p
  · have Hg := Lib.hid hg
    have hl2 := hg.lo
    clear hg
    obtain rfl := ha.is Hg.out
    clear ha
    go_wp2_with fail
    refine (l1In_any _ _ _ w).mono ?_
    rintro e w1 ⟨ha, rfl⟩
    by_cases hb : 0 ≤ i ∧ i ≤ (p.length : Int) - 1
    · have Hb := Lib.hid (show 0 ≤ i ∧ i < p.length by omega)
      obtain ⟨j, rfl⟩ : ∃ j : Nat, i = j := ⟨i.toNat, by omega⟩
      have hj : j < p.length := by omega
      obtain rfl := ha.is (by first | exact hb | omega)
      clear ha hb
      go_wp2_with fail
      refine (syJoin_any ao c p j w Hg.out.lk hj Hx.out).mono ?_
      rintro e w2 ⟨v, rfl, hv, hb2⟩
      have Hv := Lib.hid hv
      have Hb2 := Lib.hid hb2
      clear hv hb2
      go_wp2
      go_ret2
      exact ⟨LRes.yes ⟨Hg.out, Hb.out⟩ Hv.out, Hb2.out⟩
    · have Hb := Lib.hid (show ¬(0 ≤ i ∧ i < p.length) by omega)
      obtain rfl := ha.isnt (by first | exact hb | omega)
      clear ha hb
      go_wp2
      go_ret2
      exact ⟨LRes.no fun h => Hb.out h.2, Below.refl _ _⟩
  · have Hg := Lib.hid hg
    clear hg
    obtain rfl := ha.isnt Hg.out
    clear ha
    go_wp2
    go_ret2
    exact ⟨LRes.no fun h => Hg.out h.1, Below.refl _ _⟩

/-- a pattern, and a word of at most 100 of its points -/
def wordOk (p ws : List Int) : Prop := isPat p ∧ ws.length ≤ 100 ∧ allIn ws 0 ((p.length : Int) - 1)

set_option maxRecDepth 100000 in
set_option maxHeartbeats 800000 in
theorem specJoinWord_any (ao : Option Addr) (c : Nat) (p : List Int) (a2 : Option Addr) (c2 : Nat) (ws : List Int) (w : World) (hn : p.length ≤ 1048576) (hx : IntsAt w ao p) (hn2 : ws.length ≤ 1048576) (hx2 : IntsAt w a2 ws) :
    Calls Try.prog 26 #[.slice ao p.length c, .slice a2 ws.length c2] w fun e w' => LRes (wordOk p ws) (joinT p ws ws.length) w' w.heap.size e ∧ Below w.heap.size w w' := by
  have hmx : p.length ≤ 9223372036854775807 := by omega
  have hmx2 : ws.length ≤ 9223372036854775807 := by omega
  have Hx := Lib.hid hx
  have Hx2 := Lib.hid hx2
  clear hx hx2
  go_enter Try.func26, Try.ntmps26
  go_wp2_with fail
  refine (loIsPattern_any ao c p w hn Hx.out).mono ?_
  rintro e w1 ⟨ha, rfl⟩
  by_cases hg : isPat p
  · have Hg := Lib.hid hg
    have hl2 := hg.lo
    have hl12 := hg.hi
    clear hg
    obtain rfl := ha.is Hg.out
    clear ha
    by_cases h100 : 100 < ws.length
    · have hd : decide ((100 : Int) < (ws.length : Int)) = true := by simp; omega
      go_wp2
      go_ret2
      exact ⟨LRes.no fun h => by have := h.2.1; omega, Below.refl _ _⟩
    have hd : decide ((100 : Int) < (ws.length : Int)) = false := by simp; omega
    have hw100 : ws.length ≤ 100 := by omega
    clear h100
    go_wp2_with fail
    refine (l1All_any a2 c2 ws _ _ w hn2 Hx2.out).mono ?_
    rintro e w1 ⟨ha, rfl⟩
    by_cases hb : allIn ws 0 ((p.length : Int) - 1)
    · have Hb := Lib.hid hb
      obtain rfl := ha.is hb
      clear ha hb hd
      go_wp2_with fail
      refine (l1Own_any ao c p w hn (fun h => by subst h; exact absurd (Hx.out 0 (by omega)) (by rintro ⟨_, _, h, _⟩; cases h)) Hx.out).mono ?_
      rintro e w2 ⟨v, rfl, hv, hb2⟩
      obtain ⟨va, vc, rfl, _, _, _⟩ := hv.read
      have Hv := Lib.hid hv
      have Hb2 := Lib.hid hb2
      clear hv hb2
      go_wp2
      go_loopw [6, 29] (fun q i wr => ∃ (k : Nat) (qa : Option Addr) (qc : Nat), k ≤ ws.length ∧ i = .int .i64 k ∧ q = .slice qa p.length qc ∧ OwnI wr w.heap.size q (joinT p ws k) ∧ Below w.heap.size w wr) (fun _ i _ => ws.length - (intOf i).toNat)
      case atStart => exact ⟨0, _, _, Nat.zero_le _, rfl, rfl, Hv.out, Hb2.out⟩
      case round =>
        obtain ⟨k, qa, qc, hk, rfl, rfl, hq, hbr⟩ := hrel
        have Hq := Lib.hid hq
        have Hbr := Lib.hid hbr
        clear hq hbr Hv Hb2
        by_cases hlt : k < ws.length
        · obtain ⟨b1, o1, rfl, hc1⟩ := Hx2.out.below Hbr.out k hlt
          have hin := Hb.out k hlt
          obtain ⟨x, hxe⟩ : ∃ x : Nat, gi ws k = x := ⟨(gi ws k).toNat, by omega⟩
          rw [hxe] at hc1 hin
          have HE := Lib.hid (show joinT p ws (k + 1) = joinL (joinT p ws k) x by rw [joinT, hxe, Int.toNat_natCast])
          have hl := joinT_len p ws k
          have Hlk := Lib.hid (Hg.out.lk.run (ws := ws) (fun k hk => by have := Hb.out k hk; omega) k hk)
          obtain ⟨qa', qc', hqe, _, _, hqi⟩ := Hq.out.read
          have hqe2 : qa = qa' ∧ qc = qc' := by simp only [Value.slice.injEq] at hqe; exact ⟨hqe.1, hqe.2.2⟩
          obtain ⟨rfl, rfl⟩ := hqe2
          clear hqe
          have CJ := Lib.hid (syJoin_any _ qc (joinT p ws k) x wr Hlk.out (by omega) hqi)
          rw [hl] at CJ
          clear hxe hl hqi
          go_wp2_with fail
          refine CJ.out.mono ?_
          rintro e w3 ⟨v, rfl, hv, hb⟩
          rw [← HE.out] at hv
          obtain ⟨va, vc, hve, hd1, hd2, hd3⟩ := hv.read
          clear hd1 hd2 hd3
          rw [joinT_len] at hve
          subst hve
          have Hv2 := Lib.hid (hv.base Hbr.out.size)
          have Hb3 := Lib.hid (Hbr.out.trans (hb.mono Hbr.out.size))
          clear hv hb CJ
          go_wp2
          go_roundw
          case rel => exact ⟨k + 1, _, _, by omega, by go_num, rfl, Hv2.out, Hb3.out⟩
          case measure => simp [intOf]; omega
        · obtain rfl : k = ws.length := by omega
          go_wp2
          go_ret2
          exact ⟨LRes.yes ⟨Hg.out, hw100, Hb.out⟩ Hq.out, Hbr.out⟩
    · have Hb := Lib.hid hb
      obtain rfl := ha.isnt hb
      clear ha hb
      go_wp2
      go_ret2
      exact ⟨LRes.no fun h => Hb.out h.2.2, Below.refl _ _⟩
  · have Hg := Lib.hid hg
    clear hg
    obtain rfl := ha.isnt Hg.out
    clear ha
    go_wp2
    go_ret2
    exact ⟨LRes.no fun h => Hg.out h.1, Below.refl _ _⟩
end Go.Proofs.Ytncpoljjfhmkeaa

namespace Go.Proofs.Ytncpoljjfhmkeaa
open Go.RowKit

theorem OwnP.more {w : World} {B : Nat} {v : Value} {M : List (List Int)} {r : List Int} {vs : List Value} (h : OwnP w B v M.length M M.length vs) : OwnP w B v M.length (M ++ [r]) M.length vs :=
  ⟨h.top, fun i hi => by rw [gr_lt (by simp; omega), List.getElem_append_left hi, ← gr_lt hi]; exact h.rows i hi, h.apart⟩
theorem gr_last (M : List (List Int)) (r : List Int) : gr (M ++ [r]) M.length = r := by
  rw [gr_lt (by simp)]
  simp
end Go.Proofs.Ytncpoljjfhmkeaa

namespace Go.Proofs.Ytncpoljjfhmkeaa
open Go.RowKit

/-- the blocks from lo up to hi are as they were -/
def Same (lo hi : Nat) (w w' : World) : Prop := ∀ g, lo ≤ g → g < hi → w'.heap[g]? = w.heap[g]?
theorem Same.refl (lo hi : Nat) (w : World) : Same lo hi w w := fun _ _ _ => rfl
theorem Same.trans {lo hi : Nat} {a b c : World} (h : Same lo hi a b) (k : Same lo hi b c) : Same lo hi a c := fun g h1 h2 => (k g h1 h2).trans (h g h1 h2)
theorem Same.of_below {lo hi B : Nat} {w w' : World} (h : Below B w w') (hB : hi ≤ B) : Same lo hi w w' := fun g _ h2 => h.block g (by omega)
theorem Same.of_grown {lo hi : Nat} {w w' : World} {row : Option Nat} (h : w.grownBy w' row) (hs : hi ≤ w.heap.size) (hr : ∀ g, row = some g → g < lo ∨ hi ≤ g) : Same lo hi w w' :=
  fun g h1 h2 => h.block g (by omega) (fun e => by have := hr g e.symm; omega)
theorem ownsRow_same {w w' : World} {B : Nat} {e : TypeId} {v : Value} {n : Nat} {xs : List Value} (h : w.ownsRow B e 1 v n xs) (hs : Same B w.heap.size w w') : w'.ownsRow B e 1 v n xs := by
  refine ⟨h.1, ?_⟩
  rcases h.2 with h0 | ⟨g, cap, cur, rfl, hg, hh, r⟩
  · exact .inl h0
  · exact .inr ⟨g, cap, cur, rfl, hg, by rw [hs g hg (lt_of_block hh)]; exact hh, r⟩
theorem OwnP.same {w w' : World} {B n k : Nat} {v : Value} {m : List (List Int)} {vs : List Value} (h : OwnP w B v n m k vs) (hs : Same B w.heap.size w w') : OwnP w' B v n m k vs :=
  ⟨ownsRow_same h.top hs, fun i hi => ownsRow_same (h.rows i hi) hs, h.apart⟩
/-- a row of an owned table: where its slice lies, and that it is owned -/
theorem OwnP.rowAt {w : World} {B n c : Nat} {ao : Option Addr} {m : List (List Int)} {vs : List Value} (h : OwnP w B (.slice ao n c) n m n vs) {i : Nat} (hi : i < n) :
    ∃ b o r d, ao = some ⟨b, o, none⟩ ∧ w.cell? ⟨b, o + i, none⟩ = some (.slice r (gr m i).length d) ∧ vs.getD i undef = .slice r (gr m i).length d ∧ OwnI w B (.slice r (gr m i).length d) (gr m i) ∧ (gr m i).length ≤ d ∧ d ≤ 9223372036854775807 := by
  obtain ⟨ao', c', hv, _, _, hcells⟩ := ownsRow_read h.top
  obtain ⟨rfl, -, rfl⟩ := (Value.slice.injEq _ _ _ _ _ _).mp hv
  obtain ⟨b, o, e, hc⟩ := hcells i hi
  have hrow := h.rows i hi
  obtain ⟨r, d, hr, h1, h2, _⟩ := hrow.read
  rw [hr] at hc hrow
  exact ⟨b, o, r, d, e, hc, hr, hrow, h1, h2⟩
theorem OwnI.same_at {w w' : World} {B n c : Nat} {ao : Option Addr} {xs : List Int} (h : OwnI w B (.slice ao n c) xs) (hs : Same B w.heap.size w w') : IntsAt w' ao xs := own_at (ownsRow_same h hs)
end Go.Proofs.Ytncpoljjfhmkeaa

namespace Go.Proofs.Ytncpoljjfhmkeaa
open Go.RowKit

def inR (n : Int) : Prop := 1 ≤ n ∧ n ≤ 8

/-- choices, factor by factor -/
def ch (n : Nat) : Nat → Nat
  | 0 => 1
  | i + 1 => ch n i * (n - i) / (i + 1)
def cI : Nat → Nat
  | 0 => 1
  | k + 1 => if k = 0 then 1 else cI k * ch (3 * k + 1) k / ch (2 * k) k

theorem ch_b : ∀ n, n < 23 → ∀ i, i < 8 → ch n i ≤ 1000000000 ∧ ch n i * (n - i) ≤ 1000000000 := by decide +kernel
theorem cI_b : ∀ k, k < 8 → cI k ≤ 1000000000 ∧ cI k * ch (3 * k + 1) k ≤ 1000000000000000 ∧ 1 ≤ ch (2 * k) k := by decide +kernel

def stepA (s : Nat × Nat) (x : Nat) : Nat × Nat := (s.1 * (x / Nat.gcd x s.2), s.2 / Nat.gcd x s.2)
def stepB (s : Nat × Nat) (x : Nat) : Nat × Nat := (s.1 / Nat.gcd s.1 x, s.2 * (x / Nat.gcd s.1 x))
def itA (s : Nat × Nat) (x0 : Nat) : Nat → Nat × Nat
  | 0 => s
  | t + 1 => stepA (itA s x0 t) (x0 + t)
def itB (s : Nat × Nat) (x0 : Nat) : Nat → Nat × Nat
  | 0 => s
  | t + 1 => stepB (itB s x0 t) (x0 + t)
def outer (n : Nat) : Nat → Nat × Nat
  | 0 => (1, 1)
  | k + 1 => itB (itA (outer n k) (n + k + 1) (2 * k + 1 - n)) (3 * k + 2) (n - (2 * k + 1))

def okS (s : Nat × Nat) : Bool := decide (s.1 ≤ 1000000000000000000) && decide (s.2 ≤ 1000000000000000000) && decide (1 ≤ s.1) && decide (1 ≤ s.2)
theorem itA_ok : ∀ n, n < 9 → ∀ k, k < n → ∀ t, t < 9 → t ≤ 2 * k + 1 - n → okS (itA (outer n k) (n + k + 1) t) = true := by decide +kernel
theorem itB_ok : ∀ n, n < 9 → ∀ k, k < n → ∀ t, t < 9 → t ≤ n - (2 * k + 1) → okS (itB (itA (outer n k) (n + k + 1) (2 * k + 1 - n)) (3 * k + 2) t) = true := by decide +kernel
theorem outer_ok : ∀ n, n < 9 → okS (outer n n) = true := by decide +kernel
theorem outer_cI : ∀ n, n < 9 → 1 ≤ n → (outer n n).1 / (outer n n).2 = cI n := by decide +kernel

theorem okS_b {s : Nat × Nat} (h : okS s = true) : s.1 ≤ 1000000000000000000 ∧ s.2 ≤ 1000000000000000000 ∧ 1 ≤ s.1 ∧ 1 ≤ s.2 := by
  unfold okS at h
  simp only [Bool.and_eq_true, decide_eq_true_eq] at h
  omega

end Go.Proofs.Ytncpoljjfhmkeaa

namespace Go.Proofs.Ytncpoljjfhmkeaa
open Go.RowKit

def in6 (n : Int) : Prop := 1 ≤ n ∧ n ≤ 6
def catI : Nat → Nat
  | 0 => 1
  | k + 1 => catI k * 2 * (2 * k + 1) / (k + 2)
theorem cat_b : ∀ k, k < 7 → catI k ≤ 1000 := by decide +kernel
theorem cat_same : ∀ n, n < 7 → ch (2 * n) n / (n + 1) = catI n ∧ ch (2 * n) n ≤ 1000 := by decide +kernel

end Go.Proofs.Ytncpoljjfhmkeaa

namespace Go.Proofs.Ytncpoljjfhmkeaa
open Go.RowKit

/-- appending a slice of integers, whatever its address, to one that the call owns -/
theorem wpList_append_ints {w : World} {ops : Array Oper} {rest : List Oper} {o : Oper} {a : Act} {Q : Exit → Act → World → Prop} (hgd : o.guard = none) (s x : Operand)
    (ho : o.op = .call { callee := .builtin .append, args := #[s, x], argTypes := #[22, 22] })
    (base : Nat) (v : Value) (xs : List Int) (hs : a.eval s = v) (hown : OwnI w base v xs)
    (ao : Option Addr) (c : Nat) (ys : List Int) (hx : a.eval x = .slice ao ys.length c) (hc : ao = none → c = 0 ∧ ys = []) (hys : IntsAt w ao ys)
    (h63 : xs.length + ys.length ≤ 1048576) (hbase : base ≤ w.heap.size)
    (h : ∀ v' w', OwnI w' base v' (xs ++ ys) → Below base w w' → wpList Try.prog ops Q rest (a.put o.dst v') w') : wpList Try.prog ops Q (o :: rest) a w := by
  obtain ⟨i0, hi, hz0, hz1, hz2⟩ := info_parts Try.info_int
  cases ao with
  | none =>
    obtain ⟨rfl, rfl⟩ := hc rfl
    exact wpList_append_own_none hgd s x 22 ho base 3 i0 1 Try.underlying22 hi v xs.length _ hs hown hx (h v w (by rw [List.append_nil]; exact hown) (Below.refl _ _))
  | some ad =>
    refine wpList_append_own _ hgd s x 22 ho base 3 i0 (.int .i64 0) 1 8 Try.underlying22 hi hz0 hz1 hz2 rfl (by decide) v xs.length _ hs hown ad ys.length c (ys.map (Value.int .i64)) hx (by simp) ?_ (by intro u hu; obtain ⟨y, _, rfl⟩ := List.mem_map.1 hu; rfl) (by unfold maxLen; omega) (by omega) hbase ?_
    · intro j u hj
      have hjl : j < ys.length := by
        have := (List.getElem?_eq_some_iff.1 hj).1
        simpa using this
      obtain ⟨b, o', e, hcell⟩ := hys j hjl
      cases e
      have e : (ys.map (Value.int .i64))[j]? = some (Value.int .i64 (gi ys j)) := by simp [gi, List.getD, hjl]
      rw [e] at hj
      cases hj
      rw [Addr.add_lit]
      exact hcell
    · intro v' w' h1 h2 _
      refine h v' w' ?_ (Below.grown (Below.refl _ _) h2 hbase (fun k hk => (World.ownsRow.lt hown k hk).1))
      unfold OwnI
      rw [List.length_append, List.map_append]
      exact h1
theorem OwnI.nil_at {w : World} {B n c : Nat} {ao : Option Addr} {xs : List Int} (h : OwnI w B (.slice ao n c) xs) : ao = none → c = 0 ∧ xs = [] := by
  rintro rfl
  rcases h.2 with ⟨h0, h1⟩ | ⟨g, cap, cur, hv, _⟩
  · simp only [Value.slice.injEq] at h0
    exact ⟨h0.2.2, List.eq_nil_of_length_eq_zero h1⟩
  · simp at hv

/-- what the model lists up to the line with k inside, and of that up to the pattern s inside, and of that up to t behind -/
def rowO (n o k : Nat) (a b : List Int) : List Int := ((o + 2 * k + 1 : Nat) : Int) :: a ++ (o : Int) :: b
def partO (f n o k s t : Nat) : List (List Int) :=
  ((List.range k).flatMap fun k => (patO f k (o + 1)).flatMap fun a => (patO f (n - k) (o + 2 * k + 2)).map fun b => rowO n o k a b) ++
  ((List.range s).flatMap fun i => (patO f (n - k) (o + 2 * k + 2)).map fun b => rowO n o k (gr (patO f k (o + 1)) i) b) ++
  ((List.range t).map fun j => rowO n o k (gr (patO f k (o + 1)) s) (gr (patO f (n - k) (o + 2 * k + 2)) j))
theorem partO_zero (f n o k : Nat) : partO f n o k 0 0 = (List.range k).flatMap fun k => (patO f k (o + 1)).flatMap fun a => (patO f (n - k) (o + 2 * k + 2)).map fun b => rowO n o k a b := by simp [partO]
theorem partO_t (f n o k s t : Nat) : partO f n o k s (t + 1) = partO f n o k s t ++ [rowO n o k (gr (patO f k (o + 1)) s) (gr (patO f (n - k) (o + 2 * k + 2)) t)] := by simp [partO, List.range_succ]
theorem partO_s (f n o k s : Nat) : partO f n o k s (patO f (n - k) (o + 2 * k + 2)).length = partO f n o k (s + 1) 0 := by
  unfold partO
  rw [range_gr (fun b => rowO n o k (gr (patO f k (o + 1)) s) b)]
  simp [List.range_succ]
theorem partO_k (f n o k : Nat) : partO f n o k (patO f k (o + 1)).length 0 = partO f n o (k + 1) 0 0 := by
  rw [partO_zero, List.range_succ, List.flatMap_append]
  unfold partO
  have := range_gr (fun a => (patO f (n - k) (o + 2 * k + 2)).map fun b => rowO n o k a b) (patO f k (o + 1))
  rw [List.flatMap_def (l := List.range (patO f k (o + 1)).length), this]
  simp [List.flatMap_def]
theorem partO_end (f n o : Nat) : partO f n o (n + 1) 0 0 = patO (f + 1) (n + 1) o := by rw [partO_zero]; rfl
theorem partO_len {f n o k s t : Nat} (hf : f < 7) (hn : n ≤ f) (ho : o + 2 * n + 2 < 15) (hk : k ≤ n) (hs : s ≤ 132) (ht : t ≤ 132) (hp : ∀ d, d ≤ f → ∀ o, o < 15 → (patO f d o).length ≤ 132) : (partO f n o k s t).length ≤ 200000 := by
  unfold partO
  rw [List.length_append, List.length_append]
  have h1 := flat_le (fun k => (patO f k (o + 1)).flatMap fun a => (patO f (n - k) (o + 2 * k + 2)).map fun b => rowO n o k a b) (132 * 132) (List.range k) (fun x hx => by
    have hx' : x < k := by simpa using hx
    have h2 := flat_le (fun a => (patO f (n - x) (o + 2 * x + 2)).map fun b => rowO n o x a b) 132 (patO f x (o + 1)) (fun a _ => by rw [List.length_map]; exact hp _ (by omega) _ (by omega))
    have h3 := hp x (by omega) (o + 1) (by omega)
    exact Nat.le_trans h2 (Nat.mul_le_mul_right _ h3))
  have h2 := flat_le (fun i => (patO f (n - k) (o + 2 * k + 2)).map fun b => rowO n o k (gr (patO f k (o + 1)) i) b) 132 (List.range s) (fun x _ => by rw [List.length_map]; exact hp _ (by omega) _ (by omega))
  rw [List.length_range] at h1 h2
  rw [List.length_map, List.length_range]
  have h3 : k * (132 * 132) ≤ 6 * (132 * 132) := Nat.mul_le_mul_right _ (by omega)
  have h4 : s * 132 ≤ 132 * 132 := Nat.mul_le_mul_right _ hs
  omega
theorem patO_ok2 : ∀ f, f < 7 → ∀ n, n < f + 1 → ∀ o, o < 15 → rowsIn (patO f n o) (2 * n) 40 = true ∧ (patO f n o).length ≤ 132 := by decide +kernel

theorem loAll_zero (f o : Nat) (w : World) : Calls Try.prog 53 #[.int .i64 0, .int .i64 (o : Int)] w fun e w' => ∃ v, e = .returned v ∧ OwnM w' w.heap.size v (patO f 0 o) ∧ Below w.heap.size w w' := by
  have e0 : patO f 0 o = [[]] := by cases f <;> rfl
  have Hb := Lib.hid ((Below.refl w.heap.size w).alloc (Nat.le_refl _) (.cells #[.slice none 0 0] 22))
  have Hres := Lib.hid (show OwnM (w.alloc (.cells #[.slice none 0 0] 22)) w.heap.size (.slice (some ⟨w.heap.size, 0, none⟩) 1 1) [[]] from
    ⟨[.slice none 0 0], World.ownsRow_lit w #[.slice none 0 0] 1 (Nat.le_refl _) (by unfold maxLen; omega) rfl, fun i hi => by obtain rfl : i = 0 := (by simpa using hi); exact OwnI.nil _ _, fun i j hij hj => by simp at hj; omega⟩)
  rw [e0]
  clear e0
  go_enter Try.func53, Try.ntmps53
  go_wp2
  go_ret
  exact ⟨_, rfl, Hres.out, Hb.out⟩

set_option maxRecDepth 100000 in
set_option maxHeartbeats 1600000 in
theorem loAll_any : ∀ f : Nat, f < 7 → ∀ n : Nat, n ≤ f → ∀ o : Nat, o + 2 * n < 15 → ∀ w : World, Calls Try.prog 53 #[.int .i64 (n : Int), .int .i64 (o : Int)] w fun e w' => ∃ v, e = .returned v ∧ OwnM w' w.heap.size v (patO f n o) ∧ Below w.heap.size w w' := by
  intro f
  induction f with
  | zero =>
    intro _ n hn o _ w
    obtain rfl : n = 0 := by omega
    exact loAll_zero 0 o w
  | succ f ih =>
    intro hf n hn o ho w
    cases n with
    | zero => exact loAll_zero _ o w
    | succ n =>
      have Ih := Lib.hid (ih (by omega))
      obtain ⟨j0, hj, hy0, hy1, hy2⟩ := info_parts Try.info_ints
      have Hend := Lib.hid (partO_end f n o)
      obtain ⟨N, hN⟩ : ∃ N, N = n + 1 := ⟨_, rfl⟩
      rw [← hN] at Hend hn ho ⊢
      have hne : ((N : Int) == 0) = false := beq_false_of_ne (by omega)
      have hN6 : N ≤ 6 := by omega
      have hNa : N ≤ n + 1 := by omega
      have hNb : n + 1 ≤ N := by omega
      clear hN
      clear ih
      go_enter Try.func53, Try.ntmps53
      go_wp2
      go_loopw [5, 6] (fun out i wr => ∃ k : Nat, k ≤ N ∧ i = .int .i64 k ∧ OwnM wr w.heap.size out (partO f n o k 0 0) ∧ Below w.heap.size w wr) (fun _ i _ => N - (intOf i).toNat)
      case atStart => exact ⟨0, Nat.zero_le _, rfl, by rw [partO_zero]; exact OwnM.nil _ _, Below.refl _ _⟩
      case round =>
        obtain ⟨k, hk, rfl, hown, hbr⟩ := hrel
        have Hown := Lib.hid hown
        have Hbr := Lib.hid hbr
        obtain ⟨wo, rfl⟩ : ∃ wo : World, wo = wr := ⟨_, rfl⟩
        clear hown hbr
        by_cases hlt : k < N
        · have Hk := Lib.hid (partO_k f n o k)
          have Hok := Lib.hid (patO_ok2 f (by omega) k (by omega) (o + 1) (by omega))
          have hcall := Ih.out k (by omega) (o + 1) (by omega) wo
          rw [show ((o + 1 : Nat) : Int) = (o : Int) + 1 from by omega] at hcall
          have HcallA := Lib.hid hcall
          clear hcall
          go_wp2_with fail
          refine HcallA.out.mono ?_
          rintro e wA ⟨va, rfl, hva, hbA⟩
          obtain ⟨aA, cA, vsA, rfl, hpA, _, _⟩ := hva.open
          have HPA := Lib.hid hpA
          have HBA := Lib.hid hbA
          obtain ⟨la, hla⟩ : ∃ la, la = (patO f k (o + 1)).length := ⟨_, rfl⟩
          have hla2 : la ≤ 132 := by rw [hla]; exact Hok.out.2
          rw [← hla] at Hk ⊢
          have Hla := Lib.hid hla
          clear hva hpA hbA hla HcallA
          go_wp2
          go_loopw [5, 25] (fun out i wq => ∃ s : Nat, s ≤ la ∧ i = .int .i64 s ∧ OwnM wq w.heap.size out (partO f n o k s 0) ∧ Below w.heap.size w wq ∧ wA.heap.size ≤ wq.heap.size ∧ Same wo.heap.size wA.heap.size wA wq ∧ (∀ g, out.ownBlock = some g → g < wo.heap.size ∨ wA.heap.size ≤ g)) (fun _ i _ => la - (intOf i).toNat)
          case atStart => exact ⟨0, Nat.zero_le _, rfl, Hown.out.below HBA.out, Hbr.out.trans (HBA.out.mono Hbr.out.size), Nat.le_refl _, Same.refl _ _ _, fun g hg => .inl (World.ownsRow.lt Hown.out.choose_spec.top g hg).2⟩
          case round =>
            obtain ⟨s, hs, rfl, hown, hbq, hszq, hsame, hap⟩ := hrel
            have HownQ := Lib.hid hown
            have Hbq := Lib.hid hbq
            have Hsame := Lib.hid hsame
            have Hap := Lib.hid hap
            obtain ⟨wq', rfl⟩ : ∃ wq' : World, wq' = wr := ⟨_, rfl⟩
            clear hown hbq hsame hap
            by_cases hsl : s < la
            · have hpq := HPA.out.same Hsame.out
              rw [← Hla.out] at hpq
              obtain ⟨b1, o1, r1, d1, rfl, hc1, hv1, _, hd1, hd2⟩ := hpq.rowAt hsl
              have ho1 := HPA.out.rows s (by rw [← Hla.out]; exact hsl)
              rw [hv1] at ho1
              have HI1 := Lib.hid ho1
              have hrl := rowsIn_at Hok.out.1 (i := s) (by rw [← Hla.out]; exact hsl)
              obtain ⟨A, hA⟩ : ∃ A, A = gr (patO f k (o + 1)) s := ⟨_, rfl⟩
              rw [← hA] at hc1 HI1 hrl hd1
              have HA := Lib.hid hA
              have hAl : A.length ≤ 12 := by rw [hrl.1]; omega
              have Hs1 := Lib.hid (partO_s f n o k s)
              obtain ⟨D, hD⟩ : ∃ D, D = n - k := ⟨_, rfl⟩
              obtain ⟨E, hE⟩ : ∃ E, E = o + 2 * k + 2 := ⟨_, rfl⟩
              have Hok2 := Lib.hid (patO_ok2 f (by omega) D (by omega) E (by omega))
              have hcall := Ih.out D (by omega) E (by omega) wq'
              rw [show ((D : Nat) : Int) = (N : Int) - 1 - (k : Int) from by omega, show ((E : Nat) : Int) = (o : Int) + 2 * (k : Int) + 2 from by omega] at hcall
              have Hcall := Lib.hid hcall
              rw [← hD, ← hE] at Hs1
              have HD := Lib.hid hD
              have HE := Lib.hid hE
              clear hpq ho1 hv1 hA hrl hD hcall hE
              go_wp2_with fail
              refine Hcall.out.mono ?_
              rintro e wB ⟨vb, rfl, hvb, hbB⟩
              obtain ⟨aB, cB, vsB, rfl, hpB, _, _⟩ := hvb.open
              have HPB := Lib.hid hpB
              have HBB := Lib.hid hbB
              have hqB := hbB.size
              obtain ⟨lb, hlb⟩ : ∃ lb, lb = (patO f D E).length := ⟨_, rfl⟩
              have hlb2 : lb ≤ 132 := by rw [hlb]; exact Hok2.out.2
              rw [← hlb] at Hs1 ⊢
              have Hlb := Lib.hid hlb
              clear hvb hpB hbB hlb Hcall
              go_wp2
              go_loopw [5, 40] (fun out i wt => ∃ t : Nat, t ≤ lb ∧ i = .int .i64 t ∧ OwnM wt w.heap.size out (partO f n o k s t) ∧ Below w.heap.size w wt ∧ wB.heap.size ≤ wt.heap.size ∧ Same wo.heap.size wA.heap.size wA wt ∧ Same wq'.heap.size wB.heap.size wB wt ∧
                (∀ g, out.ownBlock = some g → (g < wo.heap.size ∨ wA.heap.size ≤ g) ∧ (g < wq'.heap.size ∨ wB.heap.size ≤ g))) (fun _ i _ => lb - (intOf i).toNat)
              case atStart => exact ⟨0, Nat.zero_le _, rfl, HownQ.out.below HBB.out, Hbq.out.trans (HBB.out.mono Hbq.out.size), Nat.le_refl _, Hsame.out.trans (Same.of_below HBB.out hszq), Same.refl _ _ _, fun g hg => ⟨Hap.out g hg, .inl (World.ownsRow.lt HownQ.out.choose_spec.top g hg).2⟩⟩
              case round =>
                obtain ⟨t, ht, rfl, hown, hbt, hszt, hsA, hsB, hap⟩ := hrel
                have HownT := Lib.hid hown
                have Hbt := Lib.hid hbt
                have HsA := Lib.hid hsA
                have HsB := Lib.hid hsB
                have HapT := Lib.hid hap
                obtain ⟨wt', rfl⟩ : ∃ wt' : World, wt' = wr := ⟨_, rfl⟩
                clear hown hbt hsA hsB hap
                by_cases htl : t < lb
                · have hpt := HPB.out.same HsB.out
                  rw [← Hlb.out] at hpt
                  obtain ⟨b2, o2, r2, d2, rfl, hc2, _, ho2, he1, he2⟩ := hpt.rowAt htl
                  have hrl := rowsIn_at Hok2.out.1 (i := t) (by rw [← Hlb.out]; exact htl)
                  have hsnoc := partO_t f n o k s t
                  rw [← HD.out, ← HE.out, ← HA.out] at hsnoc
                  obtain ⟨C, hC⟩ : ∃ C, C = gr (patO f D E) t := ⟨_, rfl⟩
                  rw [← hC] at hc2 ho2 hrl hsnoc he1
                  have hCl : C.length ≤ 12 := by rw [hrl.1]; have := HD.out; omega
                  have HAat := Lib.hid (HI1.out.same_at HsA.out)
                  have HAn := Lib.hid HI1.out.nil_at
                  have HCat := Lib.hid (own_at ho2)
                  have HCn := Lib.hid ho2.nil_at
                  obtain ⟨M, hM⟩ : ∃ M, M = partO f n o k s t := ⟨_, rfl⟩
                  obtain ⟨R, hR⟩ : ∃ R, R = rowO n o k A C := ⟨_, rfl⟩
                  rw [← hM, ← hR] at hsnoc
                  rw [← hM] at HownT
                  have Hsn := Lib.hid hsnoc
                  have HR := Lib.hid (show R = (([(o : Int) + 2 * (k : Int) + 1] ++ A) ++ [(o : Int)]) ++ C by
                    rw [hR]
                    unfold rowO
                    rw [show ((o + 2 * k + 1 : Nat) : Int) = (o : Int) + 2 * (k : Int) + 1 from by omega]
                    simp)
                  have hMl : M.length ≤ 200000 := by rw [hM]; exact partO_len (by omega) (by omega) (by omega) (by omega) (by omega) (by omega) (fun d hd o' ho' => (patO_ok2 f (by omega) d (by omega) o' ho').2)
                  have hRl : R.length ≤ 40 := by rw [HR.out]; simp; omega
                  have HZt := Lib.hid Hbt.out.size
                  have hl0 := Lib.hid ((Below.refl wt'.heap.size wt').alloc (Nat.le_refl _) (.cells #[.int .i64 ((o : Int) + 2 * (k : Int) + 1)] 3))
                  have hu0 := Lib.hid (show OwnI (wt'.alloc (.cells #[.int .i64 ((o : Int) + 2 * (k : Int) + 1)] 3)) wt'.heap.size (.slice (some ⟨wt'.heap.size, 0, none⟩) 1 1) [(o : Int) + 2 * (k : Int) + 1] from World.ownsRow_lit wt' #[.int .i64 ((o : Int) + 2 * (k : Int) + 1)] 1 (Nat.le_refl _) (by unfold maxLen; omega) rfl)
                  clear hpt ho2 hrl hsnoc hC hM hR
                  go_wp2_with (at_builtin; refine wpList_append_ints rfl _ _ rfl wt'.heap.size _ [(o : Int) + 2 * (k : Int) + 1] rfl hu0.out r1 d1 A rfl HAn.out (HAat.out.below hl0.out) ?e1 ?e2 ?_)
                  case e1 => simp; omega
                  case e2 => exact hl0.out.size
                  intro v1 w1 hv1 hb1
                  have hl1 := Lib.hid (hl0.out.trans hb1)
                  have hu1 := Lib.hid hv1
                  clear hv1 hb1 hl0 hu0
                  have hl1a := Lib.hid (show Below wt'.heap.size w1 (w1.alloc (.cells #[.int .i64 (o : Int)] 3)) from (Below.refl _ _).alloc hl1.out.size _)
                  have hx1 := Lib.hid (show IntsAt (w1.alloc (.cells #[.int .i64 (o : Int)] 3)) (some ⟨w1.heap.size, 0, none⟩) [(o : Int)] from own_at (World.ownsRow_lit w1 #[.int .i64 (o : Int)] 1 (Nat.le_refl _) (by unfold maxLen; omega) rfl : OwnI (w1.alloc (.cells #[.int .i64 (o : Int)] 3)) w1.heap.size (.slice (some ⟨w1.heap.size, 0, none⟩) 1 1) [(o : Int)]))
                  go_wp2_with (at_builtin; refine wpList_append_ints rfl _ _ rfl wt'.heap.size _ ([(o : Int) + 2 * (k : Int) + 1] ++ A) rfl (World.ownsRow.alloc hu1.out _) (some ⟨w1.heap.size, 0, none⟩) 1 [(o : Int)] rfl (fun h => by cases h) hx1.out ?e3 ?e4 ?_)
                  case e3 => simp; omega
                  case e4 => exact Nat.le_trans hl1.out.size hl1a.out.size
                  intro v2 w2 hv2 hb2
                  have hl2 := Lib.hid (hl1.out.trans (hl1a.out.trans hb2))
                  have hu2 := Lib.hid hv2
                  clear hv2 hb2 hl1 hl1a hx1 hu1
                  go_wp2_with (at_builtin; refine wpList_append_ints rfl _ _ rfl wt'.heap.size _ (([(o : Int) + 2 * (k : Int) + 1] ++ A) ++ [(o : Int)]) rfl hu2.out r2 d2 C rfl HCn.out (HCat.out.below hl2.out) ?e5 ?e6 ?_)
                  case e5 => simp; omega
                  case e6 => exact hl2.out.size
                  intro v3 w3 hv3 hb3
                  have hv3' : OwnI w3 wt'.heap.size v3 R := by rw [HR.out]; simpa using hv3
                  have hb2 := hl2.out.trans hb3
                  obtain ⟨vs, hownt⟩ := HownT.out
                  have Hnew := Lib.hid hb2
                  have Hown3 := Lib.hid ((hownt.below hb2).more (r := R))
                  have Hu := Lib.hid hv3'
                  have Hfr := Lib.hid (hownt.fresh hv3' (Nat.le_refl _))
                  obtain ⟨ra, rc, hrv, _, _, _⟩ := hv3'.read
                  have HapV := Lib.hid HapT.out
                  have hb2s := hb2.size
                  clear hv3 hv3' hb3 hb2 hownt HownT HapT hu2 hl2
                  rw [hrv] at Hu Hfr
                  subst hrv
                  go_wp2_with (at_builtin; refine wpList_append_own_at _ rfl _ _ 36 rfl w.heap.size 22 j0 (.slice none 0 0) 1 24 Try.underlying36 hj hy0 hy1 hy2 rfl (by decide) _ _ _ rfl (World.ownsRow.alloc Hown3.out.top _) ⟨w3.heap.size, 0, none⟩ 1 1 [.slice ra R.length rc] rfl rfl ?d1 ?d2 ?d3 ?d4 ?d5 ?_)
                  case d1 => exact cell_one_new _ _ _
                  case d2 => intro u hu; simp at hu; subst hu; rfl
                  case d3 => unfold maxLen; omega
                  case d4 => omega
                  case d5 => have := HZt.out; simp; omega
                  intro v' w5 hown' hgrow _ hat
                  have hput := Hown3.out.snoc (Nat.le_trans HZt.out Hnew.out.size) (by rw [gr_last]; exact Hu.out.base HZt.out) Hfr.out hown' hgrow
                  have Hput := Lib.hid (show OwnM w5 w.heap.size v' (M ++ [R]) from ⟨_, by rw [List.length_append]; exact hput.1⟩)
                  have Hb5 := Lib.hid ((Hbt.out.trans (Hnew.out.mono HZt.out)).trans hput.2)
                  have hsz5 : w3.heap.size ≤ w5.heap.size := by have := hput.2.size; omega
                  have HsA5 := Lib.hid (HsA.out.trans ((Same.of_below Hnew.out (by omega)).trans ((Same.of_below ((Below.refl w3.heap.size w3).alloc (Nat.le_refl _) _) (by omega)).trans (Same.of_grown hgrow (by simp; omega) fun g hg => (HapV.out g hg).1))))
                  have HsB5 := Lib.hid (HsB.out.trans ((Same.of_below Hnew.out (by omega)).trans ((Same.of_below ((Below.refl w3.heap.size w3).alloc (Nat.le_refl _) _) (by omega)).trans (Same.of_grown hgrow (by simp; omega) fun g hg => (HapV.out g hg).2))))
                  have Hap5 := Lib.hid (show ∀ g, v'.ownBlock = some g → (g < wo.heap.size ∨ wA.heap.size ≤ g) ∧ (g < wq'.heap.size ∨ wB.heap.size ≤ g) by
                    intro g hg
                    rcases hat with h | h
                    · exact HapV.out g (by rw [← h]; exact hg)
                    · rw [h] at hg; simp at hg; omega)
                  clear hput hown' hgrow hat Hown3 Hu Hfr Hnew HapV
                  go_wp2
                  go_roundw
                  case rel => exact ⟨t + 1, by omega, by go_num, by rw [Hsn.out]; exact Hput.out, Hb5.out, by omega, HsA5.out, HsB5.out, Hap5.out⟩
                  case measure => simp [intOf]; omega
                · have Et := Lib.hid (show t = lb by omega)
                  have ho := HownT.out
                  rw [Et.out, Hs1.out] at ho
                  have Ho := Lib.hid ho
                  clear ho HownT
                  go_wp2
                  go_roundw
                  case rel => exact ⟨s + 1, by omega, by go_num, Ho.out, Hbt.out, by have := HBB.out.size; omega, HsA.out, fun g hg => (HapT.out g hg).1⟩
                  case measure => simp [intOf]; omega
            · have Es := Lib.hid (show s = la by omega)
              have ho := HownQ.out
              rw [Es.out, Hk.out] at ho
              have Ho := Lib.hid ho
              clear ho HownQ
              go_wp2
              go_roundw
              case rel => exact ⟨k + 1, by omega, by go_num, Ho.out, Hbq.out⟩
              case measure => simp [intOf]; omega
        · have Ek := Lib.hid (show k = N by omega)
          have ho := Hown.out
          rw [Ek.out, Hend.out] at ho
          have Ho := Lib.hid ho
          clear ho Hown
          go_wp2
          go_ret
          exact ⟨_, rfl, Ho.out, Hbr.out⟩

end Go.Proofs.Ytncpoljjfhmkeaa

namespace Go.Proofs.Ytncpoljjfhmkeaa
open Go.RowKit

set_option maxRecDepth 100000 in
set_option maxHeartbeats 800000 in
theorem specSmallArcs_any (ao : Option Addr) (c : Nat) (p : List Int) (w : World) (hn : p.length ≤ 1048576) (hx : IntsAt w ao p) :
    Calls Try.prog 28 #[.slice ao p.length c] w fun e w' => LRes (isPat p) (arcsL p p.length) w' w.heap.size e ∧ Below w.heap.size w w' := by
  obtain ⟨i0, hi, hz0, hz1, hz2⟩ := info_parts Try.info_int
  have hmx : p.length ≤ 9223372036854775807 := by omega
  have Hx := Lib.hid hx
  clear hx
  go_enter Try.func28, Try.ntmps28
  go_wp2_with fail
  refine (loIsPattern_any ao c p w hn Hx.out).mono ?_
  rintro e w1 ⟨ha, rfl⟩
  by_cases hg : isPat p
  · have Hg := Lib.hid hg
    have h2 := hg.lo
    have h12 := hg.hi
    have hn0 : ((p.length : Int) == 0) = false := beq_false_of_ne (by omega)
    clear hg
    obtain rfl := ha.is Hg.out
    clear ha
    go_wp2
    go_loopw [4, 12] (fun q i wr => ∃ k : Nat, k ≤ p.length ∧ i = .int .i64 k ∧ OwnI wr w.heap.size q (arcsL p k) ∧ Below w.heap.size w wr) (fun _ i _ => p.length - (intOf i).toNat)
    case atStart => exact ⟨0, Nat.zero_le _, rfl, OwnI.nil _ _, Below.refl _ _⟩
    case round =>
      obtain ⟨k, hk, rfl, hown, hbr⟩ := hrel
      have Hown := Lib.hid hown
      have Hbr := Lib.hid hbr
      clear hown hbr
      by_cases hlt : k < p.length
      · obtain ⟨b1, o1, rfl, hc1⟩ := Hx.out.below Hbr.out k hlt
        have hin := Hg.out.inside k hlt
        have hr1 := rem_nx h2 k
        have hr2 := trem_nx h2 k
        obtain ⟨x, hxe⟩ : ∃ x : Nat, gi p k = x := ⟨(gi p k).toNat, by omega⟩
        obtain ⟨y, hy⟩ : ∃ y, nx p k = y := ⟨_, rfl⟩
        rw [hxe] at hc1 hin
        rw [hy] at hr1 hr2
        have hy12 : y ≤ 12 := by have := Hg.out.lk.nx_lt k; omega
        have HA := Lib.hid (show arcsL p (k + 1) = if (x : Int) = y then arcsL p k ++ [(k : Int)] else arcsL p k by rw [arcsL, hxe, hy])
        have hal := arcsL_len p k
        clear hxe hy
        by_cases e : x = y
        · subst e
          have HA2 := Lib.hid (HA.out.trans (if_pos rfl))
          go_wp2_with (at_builtin; refine wpList_append_own _ rfl _ _ 22 rfl w.heap.size 3 i0 (.int .i64 0) 1 8 Try.underlying22 hi hz0 hz1 hz2 rfl (by decide) _ _ _ rfl (World.ownsRow.alloc Hown.out _) ⟨wr.heap.size, 0, none⟩ 1 1 [.int .i64 (k : Int)] rfl rfl ?c1 ?c2 ?c3 ?c4 ?c5 ?_)
          case c2 => first | rfl | (intro u hu; simp at hu; subst hu; rfl)
          case c3 => unfold maxLen; omega
          case c4 => omega
          case c5 => have := Hbr.out.size; simp; omega
          intro v' w2 hown' hgrow _
          have hs := Hown.out.snoc Hbr.out.size hown' hgrow
          have Hs := Lib.hid hs.1
          have Hb2 := Lib.hid (Hbr.out.trans hs.2)
          clear hown' hgrow hs hal
          go_wp2
          go_roundw
          case rel => exact ⟨k + 1, by omega, by go_num, by rw [HA2.out]; exact Hs.out, Hb2.out⟩
          case measure => simp [intOf]; omega
        · have HA2 := Lib.hid (HA.out.trans (if_neg (by omega)))
          have hne : ((x : Int) == (y : Int)) = false := beq_false_of_ne (by omega)
          clear e
          go_wp2
          go_roundw
          case rel => exact ⟨k + 1, by omega, by go_num, by rw [HA2.out]; exact Hown.out, Hbr.out⟩
          case measure => simp [intOf]; omega
      · obtain rfl : k = p.length := by omega
        go_wp2
        go_ret2
        exact ⟨LRes.yes Hg.out Hown.out, Hbr.out⟩
  · have Hg := Lib.hid hg
    clear hg
    obtain rfl := ha.isnt Hg.out
    clear ha
    go_wp2
    go_ret2
    exact ⟨LRes.no Hg.out, Below.refl _ _⟩

set_option maxRecDepth 100000 in
set_option maxHeartbeats 800000 in
theorem specNestOf_any (ao : Option Addr) (c : Nat) (p : List Int) (w : World) (hn : p.length ≤ 1048576) (hx : IntsAt w ao p) :
    Calls Try.prog 47 #[.slice ao p.length c] w fun e w' => IRes (isPat p) (nestF p p.length).2 e ∧ Below w.heap.size w w' := by
  have hmx : p.length ≤ 9223372036854775807 := by omega
  have Hx := Lib.hid hx
  clear hx
  go_enter Try.func47, Try.ntmps47
  go_wp2_with fail
  refine (loIsPattern_any ao c p w hn Hx.out).mono ?_
  rintro e w1 ⟨ha, rfl⟩
  by_cases hg : isPat p
  · have Hg := Lib.hid hg
    have h12 := hg.hi
    clear hg
    obtain rfl := ha.is Hg.out
    clear ha
    go_wp2
    go_loopw [4, 5, 13] (fun m d i wr => ∃ k : Nat, k ≤ p.length ∧ i = .int .i64 k ∧ m = .int .i64 (nestF p k).2 ∧ d = .int .i64 (nestF p k).1 ∧ Below w.heap.size w wr) (fun _ _ i _ => p.length - (intOf i).toNat)
    case atStart => exact ⟨0, Nat.zero_le _, rfl, rfl, rfl, Below.refl _ _⟩
    case round =>
      obtain ⟨k, hk, rfl, rfl, rfl, hbr⟩ := hrel
      have Hbr := Lib.hid hbr
      clear hbr
      have hN := nestF_in p k
      have HS := Lib.hid (show nestF p (k + 1) = if gi p k > k then ((nestF p k).1 + 1, max (nestF p k).2 ((nestF p k).1 + 1)) else ((nestF p k).1 - 1, (nestF p k).2) from rfl)
      by_cases hlt : k < p.length
      · obtain ⟨b1, o1, rfl, hc1⟩ := Hx.out.below Hbr.out k hlt
        obtain ⟨x, hxe⟩ : ∃ x, x = gi p k := ⟨_, rfl⟩
        obtain ⟨d, hd⟩ : ∃ d, d = (nestF p k).1 := ⟨_, rfl⟩
        obtain ⟨m, hm⟩ : ∃ m, m = (nestF p k).2 := ⟨_, rfl⟩
        rw [← hxe] at hc1 HS
        rw [← hd, ← hm] at hN HS
        rw [← hd, ← hm]
        clear hxe hd hm
        by_cases e : (k : Int) < x
        · have hdec : decide ((k : Int) < x) = true := by simpa using e
          have HS2 := Lib.hid (HS.out.trans (if_pos e))
          clear e
          go_wp2_with fail
          refine (l1Most_any _ _ wr).mono ?_
          rintro e w3 ⟨rfl, rfl⟩
          go_wp2
          go_roundw
          case rel => exact ⟨k + 1, by omega, by go_num, by rw [HS2.out], by rw [HS2.out], Hbr.out⟩
          case measure => simp [intOf]; omega
        · have hdec : decide ((k : Int) < x) = false := by simpa using e
          have HS2 := Lib.hid (HS.out.trans (if_neg e))
          have hmm : max m (d - 1) = m := by omega
          clear e
          go_wp2_with fail
          refine (l1Most_any _ _ wr).mono ?_
          rintro e w3 ⟨rfl, rfl⟩
          rw [hmm]
          go_wp2
          go_roundw
          case rel => exact ⟨k + 1, by omega, by go_num, by rw [HS2.out], by rw [HS2.out], Hbr.out⟩
          case measure => simp [intOf]; omega
      · obtain rfl : k = p.length := by omega
        go_wp2
        go_ret2
        exact ⟨IRes.yes Hg.out, Hbr.out⟩
  · have Hg := Lib.hid hg
    clear hg
    obtain rfl := ha.isnt Hg.out
    clear ha
    go_wp2
    go_ret2
    exact ⟨IRes.no Hg.out, Below.refl _ _⟩
end Go.Proofs.Ytncpoljjfhmkeaa

