/- Parts of proofs: contracts and plain facts. Conditions: as each says. -/
import Derived.Test.YtjkpokpidpampaaDoorK02
import Derived.Laws.AppendOwnNone
import Derived.Laws.BitsAllLaws
import Derived.Laws.Bits128
import Derived.Test.YtjkpokpidpampaaDoorTie
import Derived.Test.YtjkpokpidpampaaDoorCards
import Derived.Shelf.Vars
import Derived.Lay
import Derived.SevenTiedAt
import Derived.HandedShaped
import Derived.ProofKit
import Derived.LaidMore
import Derived.Stop.Joined
import Derived.StillTailTactics
import Derived.Deep.Cut
namespace Go.Proofs.YtjkpokpidpampaaDoor
open Go.RowKit

/-- the answer of a function that hands back a number and whether there is one -/
def IRes (p : Prop) (x : Int) (e : Ending) : Prop := ∃ y b, e = .returned (.tuple #[.int .i64 y, .bool b]) ∧ ((p ∧ b = true ∧ y = x) ∨ (¬p ∧ b = false ∧ y = 0))
theorem IRes.yes {p : Prop} {x : Int} (h : p) : IRes p x (.returned (.tuple #[.int .i64 x, .bool true])) := ⟨x, true, rfl, .inl ⟨h, rfl, rfl⟩⟩
theorem IRes.no {p : Prop} {x : Int} (h : ¬p) : IRes p x (.returned (.tuple #[.int .i64 0, .bool false])) := ⟨0, false, rfl, .inr ⟨h, rfl, rfl⟩⟩
theorem ires_same {p : Prop} {x y y' : Int} {b b' : Bool} (h : (p ∧ b = true ∧ y = x) ∨ (¬p ∧ b = false ∧ y = 0)) (h' : (p ∧ b' = true ∧ y' = x) ∨ (¬p ∧ b' = false ∧ y' = 0)) : b = b' ∧ y = y' := by
  rcases h with ⟨h1, rfl, rfl⟩ | ⟨h1, rfl, rfl⟩ <;> rcases h' with ⟨k1, rfl, rfl⟩ | ⟨k1, rfl, rfl⟩
  · exact ⟨rfl, rfl⟩
  · exact absurd h1 k1
  · exact absurd k1 h1
  · exact ⟨rfl, rfl⟩
/-- .. a bool and whether there is one -/
def BRes (p q : Prop) (e : Ending) : Prop := ∃ y b, e = .returned (.tuple #[.bool y, .bool b]) ∧ ((p ∧ b = true ∧ (y = true ↔ q)) ∨ (¬p ∧ b = false ∧ y = false))
theorem bres_same {p q : Prop} {y y' b b' : Bool} (h : (p ∧ b = true ∧ (y = true ↔ q)) ∨ (¬p ∧ b = false ∧ y = false)) (h' : (p ∧ b' = true ∧ (y' = true ↔ q)) ∨ (¬p ∧ b' = false ∧ y' = false)) : b = b' ∧ y = y' := by
  rcases h with ⟨h1, rfl, h2⟩ | ⟨h1, rfl, rfl⟩ <;> rcases h' with ⟨k1, rfl, k2⟩ | ⟨k1, rfl, rfl⟩
  · have := h2.trans k2.symm
    refine ⟨rfl, ?_⟩
    cases y <;> cases y' <;> simp_all
  · exact absurd h1 k1
  · exact absurd k1 h1
  · exact ⟨rfl, rfl⟩

/-- the first number that isn't 0 of a line whose signs alternate is 1 -/
theorem first_one {xs : List Int} (h : lineOk xs) : ∃ j, j < xs.length ∧ gi xs j = 1 ∧ ∀ i, i < j → gi xs i = 0 := by
  have key : ∀ k, k ≤ xs.length → (∃ j, j < k ∧ gi xs j = 1 ∧ ∀ i, i < j → gi xs i = 0) ∨ (sumK xs k = 0 ∧ ∀ i, i < k → gi xs i = 0) := by
    intro k
    induction k with
    | zero => exact fun _ => .inr ⟨rfl, fun i hi => absurd hi (by omega)⟩
    | succ k ih =>
      intro hk
      rcases ih (by omega) with ⟨j, hj, h1, h2⟩ | ⟨h1, h2⟩
      · exact .inl ⟨j, by omega, h1, h2⟩
      · have hb := h.1 (k + 1) hk
        simp only [sumK] at hb
        by_cases e : gi xs k = 0
        · refine .inr ⟨by simp only [sumK]; omega, fun i hi => ?_⟩
          by_cases e2 : i = k
          · subst e2; exact e
          · exact h2 i (by omega)
        · exact .inl ⟨k, by omega, by omega, h2⟩
  rcases key xs.length (Nat.le_refl _) with h1 | ⟨h1, _⟩
  · exact h1
  · have := h.2
    omega

/-- .. its index -/
def IsFirst (xs : List Int) (j : Nat) : Prop := j < xs.length ∧ gi xs j = 1 ∧ ∀ i, i < j → gi xs i = 0
theorem first_unique {xs : List Int} {j j' : Nat} (h : IsFirst xs j) (h' : IsFirst xs j') : j = j' := by
  rcases Nat.lt_trichotomy j j' with hl | hl | hl
  · have := h'.2.2 j hl; have := h.2.1; omega
  · exact hl
  · have := h.2.2 j' hl; have := h'.2.1; omega

/-- the answer of the first column's functions -/
def CRes (m : List (List Int)) (e : Ending) : Prop := (good m ∧ ∃ j, IsFirst (gr m 0) j ∧ e = .returned (.tuple #[.int .i64 (j : Int), .bool true])) ∨ (¬good m ∧ e = .returned (.tuple #[.int .i64 0, .bool false]))

/-- whatever both hand back is the same number -/
theorem cres_ires {m : List (List Int)} {e : Ending} (h : CRes m e) : ∀ j, IsFirst (gr m 0) j → IRes (good m) (j : Int) e := by
  intro j hj
  rcases h with ⟨hg, j', hj', rfl⟩ | ⟨hg, rfl⟩
  · obtain rfl := first_unique hj hj'
    exact IRes.yes hg
  · exact IRes.no hg

/-- the column of the first 1, where there is one -/
theorem cres_some (m : List (List Int)) : ∃ x : Int, ∀ e, CRes m e → IRes (good m) x e := by
  by_cases hg : good m
  · obtain ⟨j, hj⟩ := first_one (hg.2.1 0 (by have := hg.1.1; omega))
    exact ⟨j, fun e h => cres_ires h j hj⟩
  · refine ⟨0, fun e h => ?_⟩
    rcases h with ⟨h1, _⟩ | ⟨_, rfl⟩
    · exact absurd h1 hg
    · exact IRes.no hg
end Go.Proofs.YtjkpokpidpampaaDoor

namespace Go.Proofs.YtjkpokpidpampaaDoor
open Go.RowKit

theorem gi_take {xs : List Int} {k i : Nat} (h : i < k) : gi (xs.take k) i = gi xs i := by
  simp only [gi, List.getD, List.getElem?_take]
  rw [if_pos h]
theorem gr_take {m : List (List Int)} {k i : Nat} (h : i < k) : gr (m.take k) i = gr m i := by
  simp only [gr, List.getD, List.getElem?_take]
  rw [if_pos h]
theorem gr_drop (m : List (List Int)) (k i : Nat) : gr (m.drop k) i = gr m (k + i) := by simp [gr, List.getD]

theorem IntsAt.take {w : World} {ao : Option Addr} {xs : List Int} (h : IntsAt w ao xs) (k : Nat) : IntsAt w ao (xs.take k) := by
  intro i hi
  have hi' : i < k ∧ i < xs.length := by rw [List.length_take] at hi; omega
  obtain ⟨b, o, e, hc⟩ := h i hi'.2
  exact ⟨b, o, e, by rw [gi_take hi'.1]; exact hc⟩
theorem MatAt.take {w : World} {ao : Option Addr} {m : List (List Int)} (h : MatAt w ao m) (k : Nat) : MatAt w ao (m.take k) := by
  intro i hi
  have hi' : i < k ∧ i < m.length := by rw [List.length_take] at hi; omega
  obtain ⟨b, o, r, c, e, hc, hr, h1, h2⟩ := h i hi'.2
  rw [gr_take hi'.1]
  exact ⟨b, o, r, c, e, hc, hr, h1, h2⟩
theorem MatAt.drop {w : World} {b o : Nat} {m : List (List Int)} (h : MatAt w (some ⟨b, o, none⟩) m) (k : Nat) : MatAt w (some ⟨b, o + k, none⟩) (m.drop k) := by
  intro i hi
  rw [List.length_drop] at hi
  obtain ⟨b', o', r, c, e, hc, hr, h1, h2⟩ := h (k + i) (by omega)
  simp only [Option.some.injEq, Addr.mk.injEq, and_true] at e
  obtain ⟨rfl, rfl⟩ := e
  rw [gr_drop]
  exact ⟨b, o + k, r, c, rfl, by rw [Nat.add_assoc]; exact hc, hr, h1, h2⟩

/-- the numbers of some rows in their first columns -/
def bsum (m : List (List Int)) (cols : Nat) : Int := sumF (fun i => sumF (fun j => gi (gr m i) j) cols) m.length

/-- all numbers are 0, 1 or -1, no row has more than 6, none fewer than the columns -/
def Tame (m : List (List Int)) (cols : Nat) : Prop := m.length ≤ 6 ∧ cols ≤ 6 ∧ ∀ i, i < m.length → cols ≤ (gr m i).length ∧ (gr m i).length ≤ 6 ∧ 0 < (gr m i).length ∧ ∀ j, j < (gr m i).length → -1 ≤ gi (gr m i) j ∧ gi (gr m i) j ≤ 1

theorem row_bound {f : Nat → Int} {n k : Nat} (hn : n ≤ 6) (h : ∀ j, j < n → -1 ≤ f j ∧ f j ≤ 1) (hk : k ≤ n) : -6 ≤ sumF f k ∧ sumF f k ≤ 6 := by
  have := sumF_bound (f := f) (B := 1) (k := k) (fun i hi => h i (by omega))
  omega

theorem block_bound {m : List (List Int)} {cols : Nat} (h : Tame m cols) {k : Nat} (hk : k ≤ m.length) : -36 ≤ sumF (fun i => sumF (fun j => gi (gr m i) j) cols) k ∧ sumF (fun i => sumF (fun j => gi (gr m i) j) cols) k ≤ 36 := by
  have h1 := h.1
  have := sumF_bound (f := fun i => sumF (fun j => gi (gr m i) j) cols) (B := 6) (k := k) (fun i hi => by
    have hr := h.2.2 i (by omega)
    exact row_bound (f := fun j => gi (gr m i) j) hr.2.1 hr.2.2.2 hr.1)
  omega

set_option maxRecDepth 100000 in
set_option maxHeartbeats 800000 in
theorem block1_any (b o d cb cols : Nat) (xs : List Int) (w : World) (hd : xs.length ≤ d) (hn : xs.length ≤ 6) (hc : cols ≤ xs.length) (hx : IntsAt w (some ⟨b, o, none⟩) xs)
    (hb : ∀ j, j < xs.length → -1 ≤ gi xs j ∧ gi xs j ≤ 1) (hcell : w.cell? ⟨cb, 0, none⟩ = some (.int .i64 (cols : Int))) :
    Calls Tryd.prog 70 #[.slice (some ⟨b, o, none⟩) xs.length d, .pointer (some ⟨cb, 0, none⟩)] w fun e w' => e = .returned (.int .i64 (sumF (fun j => gi xs j) cols)) ∧ w = w' := by
  have Hx := Lib.hid (hx.take cols)
  have Hb := Lib.hid hb
  have hl : (xs.take cols).length = cols := by rw [List.length_take]; omega
  have Hl := Lib.hid hl
  clear hx hb hl
  go_enter Tryd.func70, Tryd.ntmps70
  go_wp2_with fail
  have hh := sumOfInt_itself (some ⟨b, o, none⟩) d (xs.take cols) w (by rw [Hl.out]; omega) (fun k hk => by
    rw [Hl.out] at hk
    have := row_bound (f := fun i => idI (gi (xs.take cols) i)) (n := cols) (k := k) (by omega) (fun j hj => by unfold idI; rw [gi_take hj]; exact Hb.out j (by omega)) hk
    omega) Hx.out
  rw [Hl.out] at hh
  refine hh.mono ?_
  rintro e w2 ⟨rfl, rfl⟩
  have e1 : sumF (fun i => idI (gi (xs.take cols) i)) cols = sumF (fun j => gi xs j) cols := sumF_congr fun i hi => by unfold idI; exact gi_take hi
  rw [e1]
  clear e1 hh
  go_wp2
  go_ret
  exact ⟨rfl, rfl⟩

set_option maxRecDepth 100000 in
set_option maxHeartbeats 800000 in
theorem sumOfBlock_any (ao : Option Addr) (c cols : Nat) (m : List (List Int)) (w : World) (ht : Tame m cols) (hm : MatAt w ao m) :
    Calls Tryd.prog 39 #[.slice ao m.length c, .int .i64 (cols : Int)] w fun e w' => e = .returned (.int .i64 (bsum m cols)) ∧ Below w.heap.size w w' := by
  have Ht := Lib.hid ht
  have hb := (Below.refl w.heap.size w).alloc (Nat.le_refl _) (.cells #[.int .i64 (cols : Int)] 3)
  have Hm := Lib.hid (hm.below hb)
  have hcell : (w.alloc (.cells #[.int .i64 (cols : Int)] 3)).cell? ⟨w.heap.size, 0, none⟩ = some (.int .i64 (cols : Int)) := by rw [cell_new]; rfl
  have Hcell := Lib.hid hcell
  have Hb := Lib.hid hb
  clear ht hb hm hcell
  go_enter Tryd.func39, Tryd.ntmps39
  go_wp2_with fail
  refine (sumOfRows_block (fun i => sumF (fun j => gi (gr m i) j) cols) ao c m w.heap.size _ (by have := Ht.out.1; omega) (fun k hk => ?_) Hm.out (fun i hi r d hr h1 _ => ?_)).mono ?_
  · have := block_bound Ht.out hk
    omega
  · obtain ⟨t1, t2, t3, t4⟩ := Ht.out.2.2 i hi
    obtain ⟨b, o, rfl, _⟩ := hr 0 t3
    exact block1_any b o d w.heap.size cols (gr m i) _ h1 t2 t1 hr t4 Hcell.out
  rintro e w2 ⟨rfl, rfl⟩
  go_wp2
  go_ret
  exact ⟨rfl, Hb.out⟩
end Go.Proofs.YtjkpokpidpampaaDoor

namespace Go.Proofs.YtjkpokpidpampaaDoor
open Go.RowKit

theorem ints_cells {w : World} {ad : Addr} {xs : List Int} {o : Obj} (h : IntsAt w (some ad) xs) : ∀ j u, (xs.map (Value.int .i64))[j]? = some u → (w.alloc o).cell? (ad.add j) = some u := by
  intro j u hj
  have hjl : j < xs.length := by
    have := (List.getElem?_eq_some_iff.1 hj).1
    simpa using this
  obtain ⟨b, o', e, hc⟩ := h j hjl
  cases e
  have e : (xs.map (Value.int .i64))[j]? = some (Value.int .i64 (gi xs j)) := by simp [gi, List.getD, hjl]
  rw [e] at hj
  cases hj
  rw [Addr.add_lit]
  exact Lib.cell?_alloc_some _ hc

set_option maxRecDepth 100000 in
set_option maxHeartbeats 400000 in
theorem l1Own_any (ao : Option Addr) (c : Nat) (xs : List Int) (w : World) (hn : xs.length ≤ 1048576) (hc0 : ao = none → c = 0) (hx : IntsAt w ao xs) :
    Calls Tryd.prog 76 #[.slice ao xs.length c] w fun e w' => ∃ v, e = .returned v ∧ OwnI w' w.heap.size v xs ∧ Below w.heap.size w w' := by
  obtain ⟨i0, hi, hz0, hz1, hz2⟩ := info_parts Tryd.info_int
  cases ao with
  | none =>
    obtain rfl : xs = [] := by
      cases xs with
      | nil => rfl
      | cons a r => obtain ⟨b, o, e, _⟩ := hx 0 (by simp); cases e
    obtain rfl := hc0 rfl
    clear hx
    go_enter Tryd.func76, Tryd.ntmps76
    go_wp2_with (at_builtin; refine wpList_append_own_none rfl _ _ 28 rfl w.heap.size 3 i0 1 Tryd.underlying28 hi _ _ _ rfl (World.ownsRow_made w #[] 0 (Nat.le_refl _) (Nat.zero_le _) rfl) rfl ?_)
    go_wp2
    go_ret
    exact ⟨_, rfl, World.ownsRow_made w #[] 0 (Nat.le_refl _) (Nat.zero_le _) rfl, (Below.refl _ _).alloc (Nat.le_refl _) _⟩
  | some ad =>
    have A := Lib.hid hx
    clear hx
    go_enter Tryd.func76, Tryd.ntmps76
    go_wp2_with (at_builtin; refine wpList_append_own _ rfl _ _ 28 rfl w.heap.size 3 i0 (.int .i64 0) 1 8 Tryd.underlying28 hi hz0 hz1 hz2 rfl (by decide) _ _ _ rfl (World.ownsRow_made w #[] 0 (Nat.le_refl _) (Nat.zero_le _) rfl) ad xs.length c (xs.map (Value.int .i64)) rfl ?qc1 ?qc2 ?qc3 ?qc4 ?qc5 ?qc6 ?_)
    case qc1 => simp
    case qc2 => exact ints_cells A.out
    case qc3 => intro u hu; obtain ⟨x, _, rfl⟩ := List.mem_map.1 hu; rfl
    case qc4 => unfold maxLen; omega
    case qc5 => omega
    case qc6 => simp
    intro v' w1 hown hgrow hnil
    go_wp2
    go_ret
    refine ⟨v', rfl, by simpa [OwnI] using hown, ?_⟩
    exact ((Below.refl _ w).alloc (Nat.le_refl _) _).grown hgrow (by simp) (by intro k hk; simp [Value.ownBlock] at hk; omega)

/-- a slice that is written out -/
theorem ownsRow_built {e : TypeId} {base : Nat} (w : World) (vs : List Value) (hb : base ≤ w.heap.size) (hm : vs.length ≤ 9223372036854775807) :
    (w.alloc (.cells vs.toArray e)).ownsRow base e 1 (.slice (some ⟨w.heap.size, 0, none⟩) vs.length vs.length) vs.length vs :=
  ⟨by simp, .inr ⟨w.heap.size, vs.length, vs.toArray, rfl, hb, heap_alloc_new w _, Nat.le_refl _, hm, by simp, by simp⟩⟩

def slLen : Value → Nat
  | .slice _ n _ => n
  | _ => 0

/-- rows ahead of which a new one has been put: what append leaves of a slice of one row behind which all others come -/
theorem OwnP.front {w w1 : World} {B n : Nat} {v v' u : Value} {m : List (List Int)} {xs : List Int} {vs : List Value} (h : OwnP w B v n m n vs) (hu : OwnI w B u xs)
    (hne : ∀ j, j < n → ∀ g, (vs.getD j undef).ownBlock = some g → u.ownBlock ≠ some g)
    (h1 : w1.ownsRow B 28 1 v' (1 + n) ([u] ++ vs)) (hb : Below w.heap.size w w1) : OwnP w1 B v' (n + 1) (xs :: m) (n + 1) (u :: vs) := by
  refine ⟨by rw [Nat.add_comm]; exact h1, fun i hi => ?_, fun i j hij hj g hg => ?_⟩
  · cases i with
    | zero => exact hu.below hb
    | succ i =>
      have := (h.rows i (by omega)).below hb
      simpa [gr_cons_succ] using this
  · obtain ⟨j, rfl⟩ : ∃ k, j = k + 1 := ⟨j - 1, by omega⟩
    cases i with
    | zero =>
      intro hg2
      exact hne j (by omega) g (by simpa using hg2) (by simpa using hg)
    | succ i =>
      have := h.apart i j (by omega) (by omega) g (by simpa using hg)
      simpa using this
end Go.Proofs.YtjkpokpidpampaaDoor

namespace Go.Proofs.YtjkpokpidpampaaDoor
open Go.RowKit

theorem ones64_run (x x1 x2 x3 x4 x5 x6 x7 : Int) (w : World)
    (h1 : IntKind.u64.wrap (bits .and .u64 (x / 2) 6148914691236517205 + bits .and .u64 x 6148914691236517205) = x1)
    (h2 : IntKind.u64.wrap (bits .and .u64 (x1 / 4) 3689348814741910323 + bits .and .u64 x1 3689348814741910323) = x2)
    (h3 : bits .and .u64 (IntKind.u64.wrap (x2 / 16 + x2)) 1085102592571150095 = x3)
    (h4 : IntKind.u64.wrap (x3 + x3 / 256) = x4)
    (h5 : IntKind.u64.wrap (x4 + x4 / 65536) = x5)
    (h6 : IntKind.u64.wrap (x5 + x5 / 4294967296) = x6)
    (h7 : bits .and .i64 (wrap64 x6) 127 = x7) :
    Calls Tryd.prog 92 #[.int .u64 x] w fun e w' => e = .returned (.int .i64 x7) ∧ w = w' := by
  go_enter Tryd.func92, Tryd.ntmps92
  go_wp2
  go_ret
  exact ⟨rfl, rfl⟩

theorem ones64_any {xs : List Int} (h : Rise xs) (hl : xs.length ≤ 6) (w : World) :
    Calls Tryd.prog 92 #[.int .u64 (mask xs : Nat)] w fun e w' => e = .returned (.int .i64 xs.length) ∧ w = w' := by
  have hx := mask_lt16 h
  have hp := pc_mask h hl
  generalize mask xs = x at hx hp ⊢
  have andle : ∀ a b : Nat, Nat.land a b ≤ a := fun a b => @Nat.and_le_left a b
  have wr : ∀ a : Nat, a < 1000000 → IntKind.u64.wrap (a : Int) = (a : Int) := fun a ha => by rw [IntKind.wrap_u64]; omega
  have an1 : ∀ a : Nat, a < 1000000 → bits .and .u64 (a : Int) 6148914691236517205 = ((Nat.land a 6148914691236517205 : Nat) : Int) := fun a ha => u64_and_nat a 6148914691236517205 (by omega) (by omega)
  have an2 : ∀ a : Nat, a < 1000000 → bits .and .u64 (a : Int) 3689348814741910323 = ((Nat.land a 3689348814741910323 : Nat) : Int) := fun a ha => u64_and_nat a 3689348814741910323 (by omega) (by omega)
  have an3 : ∀ a : Nat, a < 1000000 → bits .and .u64 (a : Int) 1085102592571150095 = ((Nat.land a 1085102592571150095 : Nat) : Int) := fun a ha => u64_and_nat a 1085102592571150095 (by omega) (by omega)
  unfold pcF at hp
  simp only at hp
  have b0 : Nat.div x 2 ≤ 32767 := by show x / 2 ≤ _; omega
  have b1a := andle (Nat.div x 2) 6148914691236517205
  have b1b := andle x 6148914691236517205
  generalize e1 : Nat.add (Nat.land (Nat.div x 2) 6148914691236517205) (Nat.land x 6148914691236517205) = x1 at hp
  have b1 : x1 ≤ 98302 := by rw [← e1]; exact Nat.le_trans (Nat.add_le_add b1a b1b) (by omega)
  have b2a := andle (Nat.div x1 4) 3689348814741910323
  have b2b := andle x1 3689348814741910323
  have b2d : Nat.div x1 4 ≤ 24575 := by show x1 / 4 ≤ _; omega
  generalize e2 : Nat.add (Nat.land (Nat.div x1 4) 3689348814741910323) (Nat.land x1 3689348814741910323) = x2 at hp
  have b2 : x2 ≤ 122877 := by rw [← e2]; exact Nat.le_trans (Nat.add_le_add b2a b2b) (by omega)
  have b3a := andle (Nat.add (Nat.div x2 16) x2) 1085102592571150095
  have b3d : Nat.add (Nat.div x2 16) x2 ≤ 130556 := by show x2 / 16 + x2 ≤ _; omega
  generalize e3 : Nat.land (Nat.add (Nat.div x2 16) x2) 1085102592571150095 = x3 at hp
  have b3 : x3 ≤ 130556 := by rw [← e3]; omega
  generalize e4 : Nat.add x3 (Nat.div x3 256) = x4 at hp
  have b4 : x4 ≤ 131100 := by rw [← e4]; show x3 + x3 / 256 ≤ _; omega
  generalize e5 : Nat.add x4 (Nat.div x4 65536) = x5 at hp
  have b5 : x5 ≤ 131200 := by rw [← e5]; show x4 + x4 / 65536 ≤ _; omega
  generalize e6 : Nat.add x5 (Nat.div x5 4294967296) = x6 at hp
  have b6 : x6 ≤ 131300 := by rw [← e6]; show x5 + x5 / 4294967296 ≤ _; omega
  refine ones64_run x x1 x2 x3 x4 x5 x6 xs.length w ?_ ?_ ?_ ?_ ?_ ?_ ?_
  · rw [show ((x : Int) / 2) = ((Nat.div x 2 : Nat) : Int) by show _ = ((x / 2 : Nat) : Int); omega, an1 _ (by omega), an1 _ (by omega), ← e1]
    exact wr (_ + _) (by omega)
  · rw [show ((x1 : Int) / 4) = ((Nat.div x1 4 : Nat) : Int) by show _ = ((x1 / 4 : Nat) : Int); omega, an2 _ (by omega), an2 _ (by omega), ← e2]
    exact wr (_ + _) (by omega)
  · rw [show ((x2 : Int) / 16 + x2) = ((Nat.add (Nat.div x2 16) x2 : Nat) : Int) by show _ = ((x2 / 16 + x2 : Nat) : Int); omega, wr _ (by omega), an3 _ (by omega), ← e3]
  · rw [show ((x3 : Int) + x3 / 256) = ((Nat.add x3 (Nat.div x3 256) : Nat) : Int) by show _ = ((x3 + x3 / 256 : Nat) : Int); omega, e4, wr _ (by omega)]
  · rw [show ((x4 : Int) + x4 / 65536) = ((Nat.add x4 (Nat.div x4 65536) : Nat) : Int) by show _ = ((x4 + x4 / 65536 : Nat) : Int); omega, e5, wr _ (by omega)]
  · rw [show ((x5 : Int) + x5 / 4294967296) = ((Nat.add x5 (Nat.div x5 4294967296) : Nat) : Int) by show _ = ((x5 + x5 / 4294967296 : Nat) : Int); omega, e6, wr _ (by omega)]
  · rw [show wrap64 (x6 : Int) = (x6 : Int) by unfold wrap64; omega]
    rw [i64_and127, ← hp]
    have : Nat.land x6 127 = x6 % 128 := nat_mask7 x6
    omega

theorem onesCount_any {xs : List Int} (h : Rise xs) (hl : xs.length ≤ 6) (w : World) :
    Calls Tryd.prog 86 #[.int .u64 (mask xs : Nat)] w fun e w' => e = .returned (.int .i64 xs.length) ∧ w = w' := by
  have hh := ones64_any h hl w
  obtain ⟨x, hx⟩ : ∃ x : Int, x = (mask xs : Nat) := ⟨_, rfl⟩
  rw [← hx] at hh ⊢
  have H := Lib.hid hh
  clear hh hx
  go_enter Tryd.func86, Tryd.ntmps86
  go_wp2_with fail
  refine H.out.mono ?_
  rintro e w2 ⟨rfl, rfl⟩
  go_wp2
  go_ret
  exact ⟨rfl, rfl⟩

theorem size_any {xs : List Int} (h : Rise xs) (hl : xs.length ≤ 6) (w : World) :
    Calls Tryd.prog 78 #[.int .u64 (mask xs : Nat)] w fun e w' => e = .returned (.int .i64 xs.length) ∧ w = w' := by
  have hh := onesCount_any h hl w
  obtain ⟨x, hx⟩ : ∃ x : Int, x = (mask xs : Nat) := ⟨_, rfl⟩
  rw [← hx] at hh ⊢
  have H := Lib.hid hh
  clear hh hx
  go_enter Tryd.func78, Tryd.ntmps78
  go_wp2_with fail
  refine H.out.mono ?_
  rintro e w2 ⟨rfl, rfl⟩
  go_wp2
  go_ret
  exact ⟨rfl, rfl⟩

theorem tz64_run (x y z q i v : Int) (w : World) (hx : x ≠ 0) (h1 : IntKind.u64.wrap (-x) = y) (h2 : bits .and .u64 x y = z) (h3 : IntKind.u64.wrap (z * 285870213051353865) = q)
    (h4 : q / 288230376151711744 = i) (h5 : 0 ≤ i) (h6 : i < 64) (hc : w.cell? ⟨1, i.toNat, none⟩ = some (.int .u8 v)) (hv0 : 0 ≤ v) (hv1 : v ≤ 255) :
    Calls Tryd.prog 90 #[.int .u64 x] w fun e w' => e = .returned (.int .i64 v) ∧ w = w' := by
  have hb : (x == 0) = false := by simpa using hx
  clear hx
  go_enter Tryd.func90, Tryd.ntmps90
  go_wp2
  go_ret
  exact ⟨rfl, rfl⟩
/-- the table's cells at the places of single bits -/
def dbAt (i : Nat) : Nat := (2 ^ i * 285870213051353865) % 18446744073709551616 / 288230376151711744
def Dj (w : World) : Prop := ∀ i, i < 16 → w.cell? ⟨1, dbAt i, none⟩ = some (.int .u8 (i : Int))
theorem Dj.below {w w' : World} {B : Nat} (h : Dj w) (hb : Below B w w') (hB : w.heap.size ≤ B) : Dj w' := fun i hi => by
  have := h i hi
  rw [hb.cell (Nat.lt_of_lt_of_le (World.block_lt_of_cell? _ _ this) hB)]
  exact this
theorem Dj.next {w w' : World} (h : Dj w) (hb : Below w.heap.size w w') : Dj w' := h.below hb (Nat.le_refl _)
theorem dbAt_lt : ∀ i, i < 16 → dbAt i < 64 := by decide

theorem tz64_any {x : Int} {r : List Int} (h : Rise (x :: r)) (w : World) (hD : Dj w) :
    Calls Tryd.prog 90 #[.int .u64 (mask (x :: r) : Nat)] w fun e w' => e = .returned (.int .i64 x) ∧ w = w' := by
  have hx := h.2 x (by simp)
  have hm := mask_lt16 h
  have hlow := mask_low h.1 hx.1 (fun y hy => (h.2 y hy).2)
  obtain ⟨q, _, hq⟩ := mask_head h.1 hx.1
  have hpos : 0 < mask (x :: r) := by rw [hq]; have := Nat.two_pow_pos x.toNat; omega
  have hc := hD x.toNat (by omega)
  have hlt := dbAt_lt x.toNat (by omega)
  have hp15 : 2 ^ x.toNat ≤ 2 ^ 15 := Nat.pow_le_pow_right (by omega) (by omega)
  rw [Int.toNat_of_nonneg hx.1] at hc
  clear hq
  generalize mask (x :: r) = m at *
  refine tz64_run (m : Int) ((18446744073709551616 - m : Nat) : Int) ((2 ^ x.toNat : Nat) : Int) (((2 ^ x.toNat * 285870213051353865) % 18446744073709551616 : Nat) : Int) (dbAt x.toNat : Nat) x w (by omega) ?_ ?_ ?_ ?_ (by omega) (by omega) ?_ hx.1 (by omega)
  · rw [IntKind.wrap_u64]; omega
  · rw [u64_and_nat _ _ (by omega) (by omega), hlow]
  · rw [IntKind.wrap_u64]; omega
  · unfold dbAt; omega
  · rw [Int.toNat_natCast]; exact hc

theorem trailing_any {x : Int} {r : List Int} (h : Rise (x :: r)) (w : World) (hD : Dj w) :
    Calls Tryd.prog 85 #[.int .u64 (mask (x :: r) : Nat)] w fun e w' => e = .returned (.int .i64 x) ∧ w = w' := by
  have hh := tz64_any h w hD
  obtain ⟨m, hm⟩ : ∃ m : Int, m = (mask (x :: r) : Nat) := ⟨_, rfl⟩
  rw [← hm] at hh ⊢
  have H := Lib.hid hh
  clear hh hm hD
  go_enter Tryd.func85, Tryd.ntmps85
  go_wp2_with fail
  refine H.out.mono ?_
  rintro e w2 ⟨rfl, rfl⟩
  go_wp2
  go_ret
  exact ⟨rfl, rfl⟩

set_option maxRecDepth 100000 in
set_option maxHeartbeats 800000 in
theorem row_any {xs : List Int} (h : Rise xs) (hl : xs.length ≤ 6) (w : World) (hD : Dj w) :
    Calls Tryd.prog 73 #[.int .u64 (mask xs : Nat)] w fun e w' => ∃ v, e = .returned v ∧ OwnI w' w.heap.size v xs ∧ Below w.heap.size w w' := by
  obtain ⟨i0, hi, hz0, hz1, hz2⟩ := info_parts Tryd.info_int
  have hs := size_any h hl w
  obtain ⟨m, hm⟩ : ∃ m : Int, m = (mask xs : Nat) := ⟨_, rfl⟩
  rw [← hm] at hs ⊢
  have Hs := Lib.hid hs
  have Hm := Lib.hid hm
  have H := Lib.hid h
  have HD := Lib.hid hD
  clear hs hm h hD
  go_enter Tryd.func73, Tryd.ntmps73
  go_wp2_with fail
  refine Hs.out.mono ?_
  rintro e w2 ⟨rfl, rfl⟩
  go_wp2_with (at_make; refine wpList_make_own _ rfl _ _ 28 rfl w.heap.size 3 i0 (.int .i64 0) 1 Tryd.underlying28 hi hz0 hz1 _ _ _ xs.length rfl rfl rfl ?c1 ?c2 ?c3 ?_)
  case c1 => rw [hz2]; omega
  case c2 => unfold maxLen; omega
  case c3 => simp
  intro w1 hown hg
  have hb1 : Below w.heap.size w w1 := (Below.refl _ _).grown hg (Nat.le_refl _) (fun _ h => by cases h)
  have hown1 : OwnI w1 w.heap.size (.slice (some ⟨w.heap.size, 0, none⟩) 0 xs.length) [] := hown
  clear hown hg
  go_wp2
  go_loopw [3, 4] (fun out rest wr => ∃ (pre suf : List Int), pre ++ suf = xs ∧ rest = .int .u64 (mask suf : Nat) ∧ OwnI wr w.heap.size out pre ∧ Below w.heap.size w wr) (fun out _ _ => xs.length - slLen out)
  case atStart => exact ⟨[], xs, rfl, by rw [Hm.out], hown1, hb1⟩
  case round =>
    obtain ⟨pre, suf, hps, rfl, hown, hbr⟩ := hrel
    clear hown1 hb1
    cases suf with
    | nil =>
      go_wp2
      go_ret
      rw [List.append_nil] at hps
      subst hps
      exact ⟨_, rfl, hown, hbr⟩
    | cons x r =>
      have hr : Rise (x :: r) := by
        have := H.out
        rw [← hps] at this
        exact ⟨(up_append this.1).2.1, fun y hy => this.2 y (by simp [hy])⟩
      have hx := hr.2 x (by simp)
      have hpos : mask (x :: r) ≠ 0 := by
        obtain ⟨q, _, hq⟩ := mask_head hr.1 hx.1
        rw [hq]
        have := Nat.two_pow_pos x.toNat
        omega
      have hlt := mask_lt16 hr
      have e1 : bits .and .u64 ((mask (x :: r) : Nat) : Int) (IntKind.u64.wrap (((mask (x :: r) : Nat) : Int) - 1)) = ((mask r : Nat) : Int) := by
        have h1 : IntKind.u64.wrap (((mask (x :: r) : Nat) : Int) - 1) = ((mask (x :: r) - 1 : Nat) : Int) := by rw [IntKind.wrap_u64]; omega
        rw [h1, u64_and_nat _ _ (by omega) (by omega), mask_rest hr.1 hx.1]
      have hb : (((mask (x :: r) : Nat) : Int) != 0) = true := by simp; exact hpos
      have hcall := trailing_any hr wr (HD.out.next hbr)
      obtain ⟨m1, hm1⟩ : ∃ m : Int, m = (mask (x :: r) : Nat) := ⟨_, rfl⟩
      obtain ⟨m2, hm2⟩ : ∃ m : Int, m = (mask r : Nat) := ⟨_, rfl⟩
      rw [← hm1, ← hm2] at e1
      rw [← hm1] at hb hcall ⊢
      have hlen : pre.length + (r.length + 1) ≤ 6 := by have := congrArg List.length hps; simp at this; omega
      have hlen2 : pre.length + (r.length + 1) = xs.length := by have := congrArg List.length hps; simpa using this
      have Hc := Lib.hid hcall
      have Hm2 := Lib.hid hm2
      have Hown := Lib.hid hown
      have Hbr := Lib.hid hbr
      have HB := Lib.hid hbr.size
      have E1 := Lib.hid e1
      have Hps := Lib.hid hps
      clear hcall hm1 hm2 hown hbr hr hpos hlt e1 hps
      obtain ⟨ao, co, rfl, hco, hco2, _⟩ := Hown.out.read
      go_wp2_with fail
      refine Hc.out.mono ?_
      rintro e w2 ⟨rfl, rfl⟩
      go_wp2_with (at_builtin; refine wpList_append_own _ rfl _ _ 28 rfl w.heap.size 3 i0 (.int .i64 0) 1 8 Tryd.underlying28 hi hz0 hz1 hz2 rfl (by decide) _ _ _ rfl (World.ownsRow.alloc Hown.out _) ⟨wr.heap.size, 0, none⟩ 1 1 [.int .i64 x] rfl rfl ?e1 ?e2 ?e3 ?e4 ?e5 ?_)
      case e1 => exact cell_one_new _ _ _
      case e2 => intro u hu; simp at hu; subst hu; rfl
      case e3 => unfold maxLen; omega
      case e4 => omega
      case e5 => have := HB.out; simp; omega
      intro v' w3 hown' hgrow _
      have hput := Hown.out.snoc HB.out hown' hgrow
      obtain ⟨ao', co', rfl, _, _, _⟩ := hput.1.read
      have Hput := Lib.hid hput
      clear hput hown' hgrow
      go_wp2
      go_roundw
      case rel => exact ⟨pre ++ [x], r, by rw [List.append_assoc]; exact Hps.out, by rw [E1.out, Hm2.out], Hput.out.1, Hbr.out.trans Hput.out.2⟩
      case measure => simp [slLen]; omega
end Go.Proofs.YtjkpokpidpampaaDoor

namespace Go.Proofs.YtjkpokpidpampaaDoor
open Go.ChangeShapes Go.WideShapes Go.ChangeAt Go.RowKit Go.Deep

def laid2 : List (String × DataW Unit) := [("math/bits.deBruijn32tab", Rows.laid_math_bits_deBruijn32tab), ("math/bits.deBruijn64tab", Rows.laid_math_bits_deBruijn64tab)]
def tab64 : List Int := [0, 1, 56, 2, 57, 49, 28, 3, 61, 58, 42, 50, 38, 29, 17, 4, 62, 47, 59, 36, 45, 43, 51, 22, 53, 39, 33, 30, 24, 18, 12, 5, 63, 55, 48, 27, 60, 41, 37, 16, 46, 35, 44, 21, 52, 32, 23, 11, 54, 26, 40, 15, 34, 20, 31, 10, 25, 14, 19, 9, 13, 8, 7, 6]
theorem tab64_is : (Rows.laid_math_bits_deBruijn64tab : DataW Unit) = .agg (tab64.map fun n => .lit (.int .u8 n)) := rfl
theorem tab64_at : ∀ i, i < 16 → tab64.getD (dbAt i) 0 = i := by decide

theorem tab_cell {W : World} (h : laidMetH Tryd.prog laid2 W) (j : Nat) (hr : j < 64) : W.cell? ⟨1, j, none⟩ = some (.int .u8 (tab64.getD j 0)) := by
  rw [MakeChecks.laidMetH_plain _ _ _ (by kernel_rfl)] at h
  obtain ⟨ps, hps, _, _⟩ := h
  obtain ⟨_, _, _, _, _, _, _, _, _, _, ⟨g, t, cs, fuel, p, q, hg, ht, hv, hd, _, _⟩, _⟩ := hps
  obtain rfl := Option.some.inj ((show Tryd.prog.globalNamed "math/bits.deBruijn64tab" = some 1 by kernel_rfl).symm.trans hg)
  obtain rfl := Option.some.inj ((show (Tryd.prog.globals[1]?).map (·.type) = some 100 by kernel_rfl).symm.trans ht)
  obtain ⟨xs, m, _, ex, _, hl, hel⟩ := DataW.trod_array Tryd.underlying100 hd
  have c5 : Tryd.prog.cellsOf 5 = 1 := by kernel_rfl
  have hE := hel (j) hr
  rw [c5, Nat.mul_one, List.getElem?_eq_getElem (by omega)] at hE
  obtain ⟨z, e1, e2, _⟩ := DataW.trod_int Tryd.underlying5 hE
  have hlen : tab64.length = 64 := by kernel_rfl
  rw [tab64_is] at ex
  have e3 : (xs.map (·.1)) = tab64.map fun n => .lit (.int .u8 n) := (DataW.agg.inj (Prod.mk.inj ex).1).symm
  have e4 : (xs.map (·.1))[j]? = (tab64.map fun n => (DataW.lit (.int .u8 n) : DataW Unit))[j]? := by rw [e3]
  rw [List.getElem?_map, List.getElem?_map, List.getElem?_eq_getElem (by omega : j < xs.length), List.getElem?_eq_getElem (by omega : j < tab64.length), e2] at e4
  have hz : z = tab64.getD (j) 0 := by
    simp only [Option.map_some, Option.some.injEq, DataW.lit.injEq, Lit.int.injEq, true_and] at e4
    rw [e4, List.getD, List.getElem?_eq_getElem (by omega : j < tab64.length)]; rfl
  rw [World.var?_cell hg hv (j), ← hz]
  have : cs.toList[j]? = some (.int .u8 z) := by
    have h0 : ((cs.toList.drop (j)).take 1)[0]? = some (.int .u8 z) := by rw [e1]; rfl
    simpa using h0
  simpa using this
theorem dj_of_laid {W : World} (h : laidMetH Tryd.prog laid2 W) : Dj W := by
  intro i hi
  have := tab_cell h (dbAt i) (dbAt_lt i hi)
  rw [tab64_at i hi] at this
  exact this
end Go.Proofs.YtjkpokpidpampaaDoor

namespace Go.Proofs.YtjkpokpidpampaaDoor
open Go.RowKit

set_option maxRecDepth 100000 in
set_option maxHeartbeats 800000 in
theorem sgZero_any (n : Nat) (w : World) (hn : n ≤ 1048576) :
    Calls Tryd.prog 62 #[.int .i64 (n : Int)] w fun e w' => ∃ v, e = .returned v ∧ OwnM w' w.heap.size v (tab n n fun _ _ => 0) ∧ Below w.heap.size w w' := by
  obtain ⟨i0, hi, hz0, hz1, hz2⟩ := info_parts Tryd.info_int
  obtain ⟨j0, hj, hy0, hy1, hy2⟩ := info_parts Tryd.info_ints
  have hmx : n ≤ 9223372036854775807 := by omega
  go_enter Tryd.func62, Tryd.ntmps62
  go_wp2
  go_loopw [3, 4] (fun out i wr => ∃ (k : Nat) (vs : List Value), k ≤ n ∧ i = .int .i64 k ∧ OwnP wr w.heap.size out k (tab n n fun _ _ => 0) k vs ∧ Below w.heap.size w wr) (fun _ i _ => n - (intOf i).toNat)
  case atStart => exact ⟨0, [], Nat.zero_le _, rfl, ⟨World.ownsRow_nil _ _ _ _, fun i hi => absurd hi (by omega), fun i j _ hj => absurd hj (by omega)⟩, Below.refl _ _⟩
  case round =>
    obtain ⟨k, vs, hk, rfl, hout, hbr⟩ := hrel
    by_cases hlt : k < n
    · have hB := hbr.size
      have Hout := Lib.hid hout
      have Hbr := Lib.hid hbr
      clear hout hbr
      go_wp2_with (at_make; refine wpList_make_full _ rfl _ _ 28 rfl wr.heap.size 3 i0 (.int .i64 0) 1 Tryd.underlying28 hi hz0 hz1 _ _ _ _ n rfl rfl rfl rfl ?d1 ?d2 ?d3 ?_)
      case d1 => rw [hz2]; omega
      case d2 => unfold maxLen; omega
      case d3 => simp
      intro w2 hown2 hg2
      have hb2 : Below wr.heap.size wr w2 := (Below.refl _ _).grown hg2 (Nat.le_refl _) (fun _ h => by cases h)
      have hrow := OwnI.made hown2
      have hB2 := hb2.size
      have e1 : gr (tab n n fun _ _ => (0 : Int)) k = List.replicate n 0 := zero_row hlt
      have Hout2 := Lib.hid (Hout.out.below hb2)
      have hrow2 : OwnI w2 w.heap.size (.slice (some ⟨wr.heap.size, 0, none⟩) n n) (gr (tab n n fun _ _ => (0 : Int)) k) := by rw [e1]; exact hrow.base hB
      have Hrow := Lib.hid hrow2
      have hfr := Lib.hid (Hout.out.fresh hrow (Nat.le_refl _))
      have Hb2 := Lib.hid (Hbr.out.trans (hb2.mono hB))
      clear hown2 hg2 hb2 hrow e1 hrow2
      go_wp2_with (at_builtin; refine wpList_append_own _ rfl _ _ 22 rfl w.heap.size 28 j0 (.slice none 0 0) 1 24 Tryd.underlying22 hj hy0 hy1 hy2 rfl (by decide) _ _ _ rfl (World.ownsRow.alloc Hout2.out.top _) ⟨w2.heap.size, 0, none⟩ 1 1 [.slice (some ⟨wr.heap.size, 0, none⟩) n n] rfl rfl ?e1 ?e2 ?e3 ?e4 ?e5 ?_)
      case e1 => exact cell_one_new _ _ _
      case e2 => intro u hu; simp at hu; subst hu; rfl
      case e3 => unfold maxLen; omega
      case e4 => omega
      case e5 => simp; omega
      intro v' w3 hown' hgrow _
      have hput := Hout2.out.snoc (show w.heap.size ≤ w2.heap.size by omega) Hrow.out hfr.out hown' hgrow
      have Hput := Lib.hid hput
      clear hput hown' hgrow
      go_wp2
      go_roundw
      case rel => exact ⟨k + 1, _, by omega, by go_num, Hput.out.1, Hb2.out.trans Hput.out.2⟩
      case measure => simp [intOf]; omega
    · obtain rfl : k = n := by omega
      go_wp2
      go_ret
      exact ⟨_, rfl, ⟨vs, by rw [tab_len]; exact hout⟩, hbr⟩

/-- the sum of the numbers in the first a rows and b columns -/
def S2 (m : List (List Int)) (a b : Nat) : Int := sumF (fun i => sumF (fun j => gi (gr m i) j) b) a
/-- corner sums -/
def cs (m : List (List Int)) : List (List Int) := tab m.length m.length fun i j => S2 m (i + 1) (j + 1)
theorem cs_len (m : List (List Int)) : (cs m).length = m.length := tab_len _ _ _
theorem S2_succ (m : List (List Int)) (a b : Nat) : S2 m (a + 1) b = S2 m a b + sumF (fun j => gi (gr m a) j) b := rfl
theorem bsum_take {m : List (List Int)} {a b : Nat} (ha : a ≤ m.length) : bsum (m.take a) b = S2 m a b := by
  unfold bsum S2
  rw [show (m.take a).length = a from by rw [List.length_take]; omega]
  exact sumF_congr fun i hi => by rw [gr_take hi]

theorem good.tame {m : List (List Int)} (h : good m) {cols : Nat} (hc : cols ≤ m.length) : Tame m cols := by
  have hn := h.1.2.1
  have h1 := h.1.1
  refine ⟨hn, by omega, fun i hi => ?_⟩
  have hl := h.1.2.2 i hi
  refine ⟨by omega, by omega, by omega, fun j hj => good_entry h hi (by omega)⟩
theorem Tame.take {m : List (List Int)} {cols : Nat} (h : Tame m cols) (k : Nat) : Tame (m.take k) cols := by
  refine ⟨by rw [List.length_take]; have := h.1; omega, h.2.1, fun i hi => ?_⟩
  rw [List.length_take] at hi
  rw [gr_take (by omega)]
  exact h.2.2 i (by omega)
theorem Tame.drop {m : List (List Int)} {cols : Nat} (h : Tame m cols) (k : Nat) : Tame (m.drop k) cols := by
  refine ⟨by rw [List.length_drop]; have := h.1; omega, h.2.1, fun i hi => ?_⟩
  rw [List.length_drop] at hi
  rw [gr_drop]
  exact h.2.2 (k + i) (by omega)

theorem S2_bound {m : List (List Int)} (h : good m) {a b : Nat} (ha : a ≤ m.length) (hb : b ≤ m.length) : -36 ≤ S2 m a b ∧ S2 m a b ≤ 36 := block_bound (h.tame hb) ha

end Go.Proofs.YtjkpokpidpampaaDoor

namespace Go.Proofs.YtjkpokpidpampaaDoor
open Go.RowKit

theorem OwnP.drewN {w : World} {B n k : Nat} {v : Value} {m : List (List Int)} {vs : List Value} (h : OwnP w B v n m k vs) (q : Nat) : OwnP (w.drewN q) B v n m k vs := ⟨h.top, h.rows, h.apart⟩
theorem OwnP.drew {w : World} {B n k : Nat} {v : Value} {m : List (List Int)} {vs : List Value} (h : OwnP w B v n m k vs) : OwnP w.drew B v n m k vs := ⟨h.top, h.rows, h.apart⟩

theorem rowsum_bound {m : List (List Int)} (h : good m) {a b : Nat} (ha : a < m.length) (hb : b ≤ m.length) : -6 ≤ sumF (fun j => gi (gr m a) j) b ∧ sumF (fun j => gi (gr m a) j) b ≤ 6 :=
  row_bound (f := fun j => gi (gr m a) j) (n := m.length) h.1.2.1 (fun _ hj => good_entry h ha hj) hb

set_option maxRecDepth 100000 in
set_option maxHeartbeats 3200000 in
theorem sgCorners_any (ao : Option Addr) (c : Nat) (m : List (List Int)) (w : World) (hg : good m) (hm : MatAt w ao m) :
    Calls Tryd.prog 34 #[.slice ao m.length c] w fun e w' => ∃ v, e = .returned v ∧ OwnM w' w.heap.size v (cs m) ∧ Below w.heap.size w w' := by
  have hn := hg.1.2.1
  have hmx : m.length ≤ 9223372036854775807 := by omega
  have Hg := Lib.hid hg
  have Hm := Lib.hid hm
  clear hg hm
  go_enter Tryd.func34, Tryd.ntmps34
  go_wp2_with fail
  refine (sgZero_any m.length w (by omega)).mono ?_
  rintro e w1 ⟨v, rfl, hv, hb⟩
  obtain ⟨oa, oc, vs, rfl, hp, _, _⟩ := hv.open
  rw [tab_len] at hp ⊢
  obtain ⟨og, rfl, _⟩ : ∃ g, oa = some ⟨g, 0, none⟩ ∧ w.heap.size ≤ g := by
    rcases hp.top.2 with ⟨h0, h1⟩ | ⟨g, cap, cur, hv2, hg2, _⟩
    · exact absurd h1 (by have := Hg.out.1.1; omega)
    · simp only [Value.slice.injEq] at hv2
      exact ⟨g, hv2.1, hg2⟩
  have Hv := Lib.hid hp
  have Hb := Lib.hid hb
  clear hv hp hb
  go_wp2
  go_loopw [13] (fun i wr => ∃ (k : Nat) (f : Nat → Nat → Int), k ≤ m.length ∧ i = .int .i64 k ∧ OwnP wr w.heap.size (.slice (some ⟨og, 0, none⟩) m.length oc) m.length (tab m.length m.length f) m.length vs ∧
      (∀ a b, a < k → b < m.length → f a b = S2 m (a + 1) (b + 1)) ∧ Below w.heap.size w wr) (fun i _ => m.length - (intOf i).toNat)
  case atStart => exact ⟨0, _, Nat.zero_le _, rfl, Hv.out, fun a b ha _ => absurd ha (by omega), Hb.out⟩
  case round =>
    obtain ⟨k, f, hk, rfl, hown, heq, hbr⟩ := hrel
    obtain ⟨wo, rfl⟩ : ∃ wo : World, wo = wr := ⟨_, rfl⟩
    clear Hv Hb
    by_cases hlt : k < m.length
    · obtain ⟨b1, o1, r1, d1, e0, hc0, hx1, _, _⟩ := Hm.out k hlt
      have hrl : (gr m k).length = m.length := Hg.out.1.2.2 k hlt
      rw [hrl] at hc0
      have hc1 := cell_below hc0 hbr
      subst e0
      have Hrow := Lib.hid hx1
      have Hown := Lib.hid hown
      have Heq := Lib.hid heq
      have Hbr := Lib.hid hbr
      clear hown heq hbr hx1 hrl hc0
      go_wp2
      go_loopw [5, 21] (fun s i wr => ∃ (t : Nat) (f : Nat → Nat → Int), t ≤ m.length ∧ i = .int .i64 t ∧ s = .int .i64 (sumF (fun j => gi (gr m k) j) t) ∧ OwnP wr w.heap.size (.slice (some ⟨og, 0, none⟩) m.length oc) m.length (tab m.length m.length f) m.length vs ∧
          (∀ a b, a < k → b < m.length → f a b = S2 m (a + 1) (b + 1)) ∧ (∀ b, b < t → f k b = S2 m (k + 1) (b + 1)) ∧ Below w.heap.size w wr) (fun _ i _ => m.length - (intOf i).toNat)
      case atStart => exact ⟨0, f, Nat.zero_le _, rfl, rfl, Hown.out, Heq.out, fun a ha => absurd ha (by omega), Hbr.out⟩
      case round =>
        obtain ⟨t, f, ht, rfl, rfl, hown, heq, hcol, hbi⟩ := hrel
        clear Hown Heq
        by_cases htl : t < m.length
        · obtain ⟨b2, o2, e2, hc2⟩ := Hrow.out.below hbi t (by rw [Hg.out.1.2.2 k hlt]; exact htl)
          have hd := hown.cellAt k hlt
          obtain ⟨g, cap, hvs, hd2, hf2, hg, hst⟩ := hown.at2 hlt htl
          rw [hvs] at hd
          have hsb := rowsum_bound Hg.out hlt (show t ≤ m.length by omega)
          have hsb2 := rowsum_bound Hg.out hlt (show t + 1 ≤ m.length by omega)
          have e1 : sumF (fun j => gi (gr m k) j) (t + 1) = sumF (fun j => gi (gr m k) j) t + gi (gr m k) t := rfl
          have E1 := Lib.hid e1
          rw [e1] at hsb2
          clear e1
          obtain ⟨s, hs⟩ : ∃ s, s = sumF (fun j => gi (gr m k) j) t := ⟨_, rfl⟩
          obtain ⟨x, hx⟩ : ∃ x, x = gi (gr m k) t := ⟨_, rfl⟩
          rw [← hs, ← hx] at hsb2
          rw [← hs] at hsb ⊢
          rw [← hx] at hc2
          have Hs := Lib.hid hs
          have Hx := Lib.hid hx
          have Hst := Lib.hid (hst (s + x))
          have Heq := Lib.hid heq
          have Hcol := Lib.hid hcol
          have Hbs := Lib.hid (hbi.setCell (p := ⟨g, t, none⟩) hg (.int .i64 (s + x)))
          have Hvs := Lib.hid hvs
          subst e2
          clear hown heq hcol hbi hst hs hx hvs
          by_cases hk0 : 0 < k
          · have hyb := S2_bound Hg.out (show k ≤ m.length by omega) (show t + 1 ≤ m.length by omega)
            have hyk : f (k - 1) t = S2 m k (t + 1) := by
              rw [Heq.out (k - 1) t (by omega) htl, show k - 1 + 1 = k from by omega]
            obtain ⟨y, hy⟩ : ∃ y, y = S2 m k (t + 1) := ⟨_, rfl⟩
            rw [← hy] at hyb hyk
            have Hy := Lib.hid hy
            have Hyk := Lib.hid hyk
            have Hg2 := Lib.hid hg
            have hzb := S2_bound Hg.out (show k + 1 ≤ m.length by omega) (show t + 1 ≤ m.length by omega)
            have hz : S2 m (k + 1) (t + 1) = y + (s + x) := by rw [S2_succ, E1.out, ← Hs.out, ← Hx.out, ← Hy.out]
            rw [hz] at hzb
            have Hz := Lib.hid hz
            clear hg hy hyk hz
            go_upto_region 12 with (fail)
            generalize hW5 : wr.setCell ⟨g, t, none⟩ (.int .i64 (s + x)) = w5 at *
            have hown5 := Hst.out
            have hd5 := hown5.cellAt k hlt
            rw [Hvs.out] at hd5
            obtain ⟨g5, cap5, hvs5, hc5, hf5, hg5, hst5⟩ := hown5.at2 hlt htl
            obtain ⟨g6, cap6, hvs6, hc6, hf6, hg6, hst6⟩ := hown5.at2 (show k - 1 < m.length by omega) htl
            have hd6 := hown5.cellAt (k - 1) (by omega)
            rw [hvs6] at hd6
            obtain rfl : g5 = g := by
              rw [Hvs.out] at hvs5
              simp only [Value.slice.injEq, Option.some.injEq, Addr.mk.injEq, and_true, true_and] at hvs5
              exact hvs5.1.symm
            simp only [and_self, if_true] at hc5
            rw [if_neg (fun h => by omega), Hyk.out] at hc6
            have Hst5 := Lib.hid (hst5 (s + x + y))
            have Hbs5 := Lib.hid (Hbs.out.setCell (p := ⟨g5, t, none⟩) Hg2.out (.int .i64 (s + x + y)))
            clear hown5 hst5 hst6 hvs5 hvs6 hW5 hd hd2 hf2 hc2 hg5 hg6 hc1
            go_region
            all_goals
              go_wp2
              go_roundw
              case rel =>
                refine ⟨t + 1, _, by omega, by go_num, by rw [E1.out, ← Hs.out, ← Hx.out], Hst5.out.drew, fun a b ha hb => ?_, fun b hb => ?_, Hbs5.out.drew⟩
                · rw [if_neg (fun h => by omega), if_neg (fun h => by omega)]
                  exact Heq.out a b ha hb
                · by_cases e : b = t
                  · subst e
                    rw [if_pos ⟨rfl, rfl⟩, Hz.out]
                    omega
                  · rw [if_neg (fun h => by omega), if_neg (fun h => by omega)]
                    exact Hcol.out b (by omega)
              case measure => simp [intOf]; omega
          · obtain rfl : k = 0 := by omega
            go_wp2
            go_roundw
            case rel =>
              refine ⟨t + 1, _, by omega, by go_num, by rw [E1.out, ← Hs.out, ← Hx.out], Hst.out, fun a b ha hb => absurd ha (by omega), fun b hb => ?_, Hbs.out⟩
              by_cases e : b = t
              · subst e
                rw [if_pos ⟨rfl, rfl⟩]
                rw [S2_succ, E1.out, ← Hs.out, ← Hx.out]
                simp [S2, sumF]
              · rw [if_neg (fun h => by omega)]
                exact Hcol.out b (by omega)
            case measure => simp [intOf]; omega
        · obtain rfl : t = m.length := by omega
          have Hown := Lib.hid hown
          have Heq := Lib.hid heq
          have Hcol := Lib.hid hcol
          have Hbi := Lib.hid hbi
          clear hown heq hcol hbi
          go_wp2
          go_roundw
          case rel =>
            refine ⟨k + 1, f, by omega, by go_num, Hown.out, fun a b ha hb => ?_, Hbi.out⟩
            by_cases e : a = k
            · subst e; exact Hcol.out b hb
            · exact Heq.out a b (by omega) hb
          case measure => simp [intOf]; omega
    · obtain rfl : k = m.length := by omega
      go_wp2
      go_ret
      exact ⟨_, rfl, ⟨vs, by
        rw [cs_len]
        have e : cs m = tab m.length m.length f := (eq_tab (cs_len m) (fun i hi => tab_row hi) (fun i j hi hj => by unfold cs; rw [gi_tab hi hj, heq i j hi hj]))
        rw [e]
        exact hown⟩, hbr⟩

theorem cs_small {m : List (List Int)} (h : square m) : Small (cs m) := ⟨by rw [cs_len]; have := h.2.1; omega, fun i hi => by rw [cs_len] at hi; unfold cs; rw [tab_row hi]; have := h.2.1; omega⟩
end Go.Proofs.YtjkpokpidpampaaDoor

namespace Go.Proofs.YtjkpokpidpampaaDoor
open Go.RowKit

/-- a number of a table, 0 beside it -/
def atC (c : List (List Int)) (i j : Int) : Int := if i < 0 then 0 else if j < 0 then 0 else gi (gr c i.toNat) j.toNat
theorem atC_nat (c : List (List Int)) (i j : Nat) : atC c (i : Int) (j : Int) = gi (gr c i) j := by
  unfold atC
  rw [if_neg (by omega), if_neg (by omega), Int.toNat_natCast, Int.toNat_natCast]

theorem cellD {w : World} {a : Addr} {v : Value} (h : w.cell? a = some v) : ({ w with drawn := w.drawn + 1 } : World).cell? a = some v := h
theorem MatAt.drewD {w : World} {ao : Option Addr} {m : List (List Int)} (h : MatAt w ao m) : MatAt { w with drawn := w.drawn + 1 } ao m := h

set_option maxRecDepth 100000 in
set_option maxHeartbeats 800000 in
theorem sgAt_any (ao : Option Addr) (c : Nat) (m : List (List Int)) (i j : Int) (w : World) (hsq : square m) (hi : -1 ≤ i ∧ i < m.length) (hj : -1 ≤ j ∧ j < m.length) (hm : MatAt w ao m) :
    Calls Tryd.prog 35 #[.slice ao m.length c, .int .i64 i, .int .i64 j] w fun e w' => e = .returned (.int .i64 (atC m i j)) ∧ w' = w := by
  have hn := hsq.2.1
  obtain ⟨hi0, hi1⟩ := hi
  obtain ⟨hj0, hj1⟩ := hj
  by_cases h1 : i < 0
  · have e1 : atC m i j = 0 := if_pos h1
    rw [e1]
    clear e1 hm
    go_enter Tryd.func35, Tryd.ntmps35
    go_wp2
    go_ret
    exact ⟨rfl, rfl⟩
  · by_cases h2 : j < 0
    · have e1 : atC m i j = 0 := by unfold atC; rw [if_neg h1, if_pos h2]
      rw [e1]
      clear e1 hm
      go_enter Tryd.func35, Tryd.ntmps35
      go_wp2
      go_ret
      exact ⟨rfl, rfl⟩
    · obtain ⟨i, rfl⟩ := Int.eq_ofNat_of_zero_le (show 0 ≤ i by omega)
      obtain ⟨j, rfl⟩ := Int.eq_ofNat_of_zero_le (show 0 ≤ j by omega)
      rw [atC_nat]
      have hd : decide ((j : Int) < 0) = false := by simp
      obtain ⟨b, o, r, d, rfl, hc, hr, _, _⟩ := hm i (by omega)
      have hl := hsq.2.2 i (by omega)
      rw [hl] at hc
      obtain ⟨b2, o2, rfl, hc2⟩ := hr j (by rw [hl]; omega)
      clear hm hr hl hsq
      go_enter Tryd.func35, Tryd.ntmps35
      go_wp2
      go_ret
      exact ⟨rfl, rfl⟩

/-- the numbers of a table are in 0..n -/
def inRange (c : List (List Int)) : Prop := ∀ i j, i < c.length → j < c.length → 0 ≤ gi (gr c i) j ∧ gi (gr c i) j ≤ c.length

/-- differences of corner sums -/
def df (c : List (List Int)) (i j : Nat) : Int := atC c i j - atC c ((i : Int) - 1) j - atC c i ((j : Int) - 1) + atC c ((i : Int) - 1) ((j : Int) - 1)
def dm (c : List (List Int)) : List (List Int) := tab c.length c.length (df c)
theorem dm_len (c : List (List Int)) : (dm c).length = c.length := tab_len _ _ _

theorem atC_range {c : List (List Int)} (h : inRange c) {i j : Int} (hi : -1 ≤ i ∧ i < c.length) (hj : -1 ≤ j ∧ j < c.length) : 0 ≤ atC c i j ∧ atC c i j ≤ c.length := by
  unfold atC
  split
  · omega
  · split
    · omega
    · exact h i.toNat j.toNat (by omega) (by omega)

theorem w64 {n : Int} (h : -9223372036854775808 ≤ n ∧ n ≤ 9223372036854775807) : IntKind.i64.wrap n = n := by
  exact IntWalk.i64_in n h

/-- .. or not far from it -/
def inWide (c : List (List Int)) : Prop := ∀ i j, i < c.length → j < c.length → -100 ≤ gi (gr c i) j ∧ gi (gr c i) j ≤ 100
theorem atC_wide {c : List (List Int)} (h : inWide c) {i j : Int} (hi : -1 ≤ i ∧ i < c.length) (hj : -1 ≤ j ∧ j < c.length) : -100 ≤ atC c i j ∧ atC c i j ≤ 100 := by
  unfold atC
  split
  · omega
  · split
    · omega
    · exact h i.toNat j.toNat (by omega) (by omega)

end Go.Proofs.YtjkpokpidpampaaDoor

