/- The model's draw of a sign matrix, at times another table: some table of at most 7 rows of at most 7 numbers. Conditions: the most rows in 1..6; a cursor at a place that is small. -/
import Derived.Test.YtnhkclnloiiihaaSur
import Derived.Test.YtnhkclnloiiihaaMore
import Derived.Maps.AppendAt
import Derived.Deep.RegionWith
namespace Go.Proofs.Ytnhkclnloiiihaa
open Go.RowKit

/-- what is drawn: a table of at most 7 rows of at most 7 ints -/
structure Drawn (M : List (List Int)) : Prop where
  len : M.length ≤ 7
  row : ∀ i, i < M.length → (gr M i).length ≤ 7
  wf : WfM M
theorem Drawn.small {M : List (List Int)} (h : Drawn M) : Small M := ⟨by have := h.len; omega, fun i hi => by have := h.row i hi; omega⟩
theorem Drawn.nil : Drawn [] := ⟨by simp, fun i hi => absurd hi (by simp), fun i hi => absurd hi (by simp)⟩
theorem SqN.drawn {N : Nat} {M : List (List Int)} (h : SqN N M) (hN : N ≤ 6) : Drawn M :=
  ⟨by rw [h.len]; omega, fun i hi => by rw [h.len] at hi; rw [h.row i hi]; omega, fun i hi j hj => by
    rw [h.len] at hi
    rw [h.row i hi] at hj
    have := h.bd i j hi hj
    omega⟩
theorem SqN.more {N : Nat} {M : List (List Int)} (h : SqN N M) (hN : N ≤ 6) : Drawn (M ++ [List.replicate N 0]) := by
  have hd := h.drawn hN
  have e : ∀ i, i < (M ++ [List.replicate N (0 : Int)]).length → (i < M.length ∧ gr (M ++ [List.replicate N 0]) i = gr M i) ∨ gr (M ++ [List.replicate N 0]) i = List.replicate N 0 := fun i hi => by
    by_cases hlt : i < M.length
    · exact .inl ⟨hlt, by rw [gr_lt hi, List.getElem_append_left hlt, ← gr_lt hlt]⟩
    · simp at hi
      obtain rfl : i = M.length := by omega
      exact .inr (gr_last _ _)
  refine ⟨by simp [h.len]; omega, fun i hi => ?_, fun i hi => ?_⟩
  · rcases e i hi with ⟨hlt, e⟩ | e
    · rw [e]; exact hd.row i hlt
    · rw [e, List.length_replicate]; omega
  · rcases e i hi with ⟨hlt, e⟩ | e
    · rw [e]; exact hd.wf i hlt
    · rw [e]
      intro j hj
      rw [gi_lt hj, List.getElem_replicate]
      omega
theorem gr_setR {m : List (List Int)} {i k : Nat} (hi : i < m.length) (r : List Int) : gr (m.set i r) k = if k = i then r else gr m k := by
  unfold gr
  rw [List.getD, List.getD, List.getElem?_set]
  by_cases e : i = k
  · subst e; rw [if_pos rfl, if_pos rfl, if_pos hi]; rfl
  · rw [if_neg e, if_neg (fun h => e h.symm)]
theorem SqN.longer {N : Nat} {M : List (List Int)} (h : SqN N M) (hN1 : 1 ≤ N) (hN : N ≤ 6) : Drawn (M.set 0 (gr M 0 ++ [0])) := by
  have hd := h.drawn hN
  have h0 : 0 < M.length := by rw [h.len]; omega
  have hwf := hd.wf 0 h0
  have hr := h.row 0 (by omega)
  refine ⟨by rw [List.length_set]; exact hd.len, fun i hi => ?_, fun i hi => ?_⟩
  · rw [List.length_set] at hi
    rw [gr_setR h0]
    split
    · simp [hr]; omega
    · exact hd.row i hi
  · rw [List.length_set] at hi
    rw [gr_setR h0]
    split
    · intro j hj
      by_cases e : j < (gr M 0).length
      · rw [gi_lt hj, List.getElem_append_left e, ← gi_lt e]; exact hwf j e
      · have hj2 : j = (gr M 0).length := by simp at hj; omega
        subst hj2
        rw [gi_lt hj]
        simp
    · exact hd.wf i hi
theorem SqN.set {N : Nat} {M : List (List Int)} (h : SqN N M) (hN : N ≤ 6) {i : Nat} (hi : i < N) (j : Nat) {x : Int} (hx : -9223372036854775808 ≤ x ∧ x ≤ 9223372036854775807) : Drawn (M.set i ((gr M i).set j x)) := by
  have hd := h.drawn hN
  have hl : (M.set i ((gr M i).set j x)).length = M.length := by simp
  have hi' : i < M.length := by rw [h.len]; exact hi
  refine ⟨by rw [hl]; exact hd.len, fun k hk => ?_, fun k hk => ?_⟩
  · rw [hl] at hk
    rw [gr_setR hi']
    split
    · rw [List.length_set]; exact hd.row _ (by omega)
    · exact hd.row k hk
  · rw [hl] at hk
    rw [gr_setR hi']
    split
    · next e =>
      subst e
      intro t ht
      rw [List.length_set] at ht
      by_cases e : t = j
      · subst e; rw [gi_set ht, if_pos rfl]; exact hx
      · rw [gi_lt (by rw [List.length_set]; exact ht), List.getElem_set_ne (fun h => e h.symm), ← gi_lt ht]; exact hd.wf k hk t ht
    · exact hd.wf k hk

/-- a row has been appended to, in its place or elsewhere, and is stored -/
theorem OwnP.swapRow {w w1 : World} {B g n c : Nat} {m : List (List Int)} {vs : List Value} {u : Value} {r : List Int} (h : OwnP w B (.slice (some ⟨g, 0, none⟩) n c) n m n vs) (hm : m.length = n) {i : Nat} (hi : i < n) (hu : OwnI w1 B u r)
    (hg : w.grownBy w1 (vs.getD i undef).ownBlock) (hat : u.ownBlock = (vs.getD i undef).ownBlock ∨ u.ownBlock = some w.heap.size) :
    OwnP (w1.setCell ⟨g, i, none⟩ u) B (.slice (some ⟨g, 0, none⟩) n c) n (m.set i r) n (vs.set i u) := by
  have ap : ∀ (e : TypeId) (x : Value) (n : Nat) (xs : List Value), w.ownsRow B e 1 x n xs → (∀ q, x.ownBlock = some q → (vs.getD i undef).ownBlock ≠ some q) → w1.ownsRow B e 1 x n xs := fun e x n xs hx hq => by
    refine World.ownsRow.kept hx hg ?_
    cases hb : x.ownBlock with
    | none => exact .inl rfl
    | some g' => exact .inr (fun e => hq g' hb e.symm)
  have htop := ap _ _ _ _ h.top (fun q hq e => (h.rows i hi).ne_row h.top q e hq)
  obtain ⟨cur, hcur⟩ := ownsRow_block htop
  have hl : vs.length = n := by simpa using h.top.1
  have hget : ∀ j, (vs.set i u).getD j undef = if j = i then u else vs.getD j undef := by
    intro j
    simp only [List.getD, List.getElem?_set]
    by_cases e : i = j
    · subst e; rw [if_pos rfl, if_pos rfl, if_pos (by omega)]; rfl
    · rw [if_neg e, if_neg (fun h => e h.symm)]
  have hap : ∀ a b, a < n → b < n → a ≠ b → ∀ q, (vs.getD a undef).ownBlock = some q → (vs.getD b undef).ownBlock ≠ some q := fun a b ha hb hne q hq hq2 => by
    rcases Nat.lt_or_gt_of_ne hne with hlt | hlt
    · exact h.apart a b hlt hb q hq hq2
    · exact h.apart b a hlt ha q hq2 hq
  have hne : ∀ j, j < n → j ≠ i → ∀ q, (vs.getD j undef).ownBlock = some q → u.ownBlock ≠ some q := fun j hj hji q hq hq2 => by
    rcases hat with e | e
    · rw [e] at hq2
      exact hap j i hj hi hji q hq hq2
    · rw [e] at hq2
      have := (h.rows j hj).lt q hq
      simp at hq2
      omega
  refine ⟨(World.ownsRow.stored htop i u).1, fun k hk => ?_, fun a b hab hb q hq => ?_⟩
  · rw [hget k, gr_setR (by omega)]
    split
    · next e => exact hu.setOther (hu.ne_top hcur) _
    · next e =>
      have hr := ap _ _ _ _ (h.rows k hk) (fun q hq => hap k i hk hi e q hq)
      exact OwnI.setOther hr (OwnI.ne_top hr hcur) _
  · rw [hget a] at hq
    rw [hget b]
    split at hq
    · next e =>
      subst e
      rw [if_neg (by omega)]
      exact fun hq2 => hne b hb (by omega) q hq2 hq
    · next e =>
      split
      · exact hne a (by omega) e q hq
      · exact h.apart a b hab hb q hq
theorem OwnP.storeS {w : World} {B n : Nat} {v : Value} {m : List (List Int)} {vs : List Value} (h : OwnP w B v n m n vs) (hn : m.length = n) {i j g l c : Nat} (hi : i < n)
    (hv : vs.getD i undef = .slice (some ⟨g, 0, none⟩) l c) (x : Int) : OwnP (w.setCell ⟨g, j, none⟩ (.int .i64 x)) B v n (m.set i ((gr m i).set j x)) n vs := by
  have hri := h.rows i hi
  have hb : (vs.getD i undef).ownBlock = some g := by rw [hv]; rfl
  have ht : v.ownBlock ≠ some g := hri.ne_row h.top g hb
  refine ⟨ownsRow_setCell_other h.top ht _, fun k hk => ?_, h.apart⟩
  rw [gr_setR (by omega)]
  by_cases e : k = i
  · subst e
    rw [if_pos rfl, hv]
    rw [hv] at hri
    exact hri.store j x
  · rw [if_neg e]
    refine (h.rows k hk).setOther (fun hk' => ?_) _
    rcases Nat.lt_or_gt_of_ne e with hlt | hgt
    · exact h.apart k i hlt hi g hk' hb
    · exact h.apart i k hgt hk g hb hk'

/-- the row of an owned table: where it lies -/
theorem OwnP.rowS {w : World} {B n : Nat} {v : Value} {m : List (List Int)} {vs : List Value} (h : OwnP w B v n m n vs) {i : Nat} (hi : i < n) (hl : 0 < (gr m i).length) :
    ∃ g c, vs.getD i undef = .slice (some ⟨g, 0, none⟩) (gr m i).length c ∧ B ≤ g ∧ g < w.heap.size ∧ (gr m i).length ≤ c := by
  have hr := h.rows i hi
  obtain ⟨ao, c, e, h1, h2, _⟩ := hr.read
  rw [e] at hr
  obtain ⟨g, rfl, hB, hz⟩ := hr.isAt hl
  exact ⟨g, c, e, hB, hz, h1⟩
theorem Kept.alloc {g : Nat} {a b : World} (h : Kept g a b) (o : Obj) : Kept g a (b.alloc o) := h.trans (kept_of ((Below.refl _ _).alloc (Nat.le_refl _) o) g)
theorem CurAt.alloc {w : World} {g n c k : Nat} {a : Option Addr} {s : Int} (h : CurAt w g a n c k s) (o : Obj) : CurAt (w.alloc o) g a n c k s := h.below ((Below.refl _ _).alloc (Nat.le_refl _) o)
theorem IntsAt.drewI {w : World} {a : Option Addr} {xs : List Int} (h : IntsAt w a xs) : IntsAt w.drew a xs := h
theorem IntsAt.onlyG {w w' : World} {b : Nat} {xs : List Int} {g : Nat} (h : IntsAt w (some ⟨b, 0, none⟩) xs) (hO : OnlyW (fun k => k = g) w w') (hb : b ≠ g) : IntsAt w' (some ⟨b, 0, none⟩) xs := fun i hi => by
  obtain ⟨b', o, e, hc⟩ := h i hi
  cases e
  exact ⟨b, 0, rfl, by rw [World.cell?_of_block (a := ⟨b, 0 + i, none⟩) (hO.block b hb)]; exact hc⟩
theorem Kept.low {g : Nat} {a b c : World} (h : Kept g a b) (k : Below a.heap.size b c) : Kept g a c :=
  ⟨k.os.trans h.os, k.tape.trans h.tape, k.output.trans h.output, Nat.le_trans h.size k.size, fun i hi hg => (k.block i hi).trans (h.block i hi hg)⟩
theorem CurAt.low {w w' : World} {g n c k B : Nat} {a : Option Addr} {s : Int} (h : CurAt w g a n c k s) (hb : Below B w w') (hg : g < B) : CurAt w' g a n c k s := by
  unfold CurAt
  rw [hb.block g hg]
  exact h
theorem OwnP.moreS {w : World} {B n : Nat} {v : Value} {M : List (List Int)} {r : List Int} {vs : List Value} (h : OwnP w B v n M n vs) (hl : M.length = n) : OwnP w B v n (M ++ [r]) n vs :=
  ⟨h.top, fun i hi => by rw [gr_lt (by simp; omega), List.getElem_append_left (by omega), ← gr_lt (by omega)]; exact h.rows i hi, h.apart⟩
/-- what is handed back -/
def SgnPost (g : Nat) (a : Option Addr) (n c k : Nat) (w : World) (e : Ending) (w' : World) : Prop :=
  ∃ v M k' s', e = .returned v ∧ OwnM w' w.heap.size v M ∧ Drawn M ∧ k' ≤ k + 1000 ∧ CurAt w' g a n c k' s' ∧ Kept g w w'
/-- once in m times -/
theorem curOne_any (g : Nat) (a : Option Addr) (n c k m : Nat) (_s : Int) (w : World)
    (hP : Calls Try.prog 91 #[.pointer (some ⟨g, 0, none⟩), .int .i64 (m : Int)] w fun e w' => ∃ (v k' : Nat) (s' : Int), e = .returned (.int .i64 (v : Int)) ∧ v < m ∧ k' ≤ k + 1 ∧ CurAt w' g a n c k' s' ∧ OnlyW (fun b => b = g) w w') :
    Calls Try.prog 108 #[.pointer (some ⟨g, 0, none⟩), .int .i64 (m : Int)] w fun e w' => ∃ (b : Bool) (k' : Nat) (s' : Int), e = .returned (.bool b) ∧ k' ≤ k + 1 ∧ CurAt w' g a n c k' s' ∧ OnlyW (fun b => b = g) w w' := by
  have HP := Lib.hid hP
  clear hP
  go_enter Try.func108, Try.ntmps108
  go_wp2_with fail
  refine HP.out.mono ?_
  rintro e w2 ⟨v, k', s', rfl, _, hk', hC, hO⟩
  have HC := Lib.hid hC
  have HO := Lib.hid hO
  by_cases hv : v = 0
  · subst hv
    clear hC hO HP
    go_wp2
    go_ret
    exact ⟨_, k', s', rfl, hk', HC.out, HO.out⟩
  · have hv0 : ((v : Int) == 0) = false := by simp; omega
    clear hC hO HP
    go_wp2
    go_ret
    exact ⟨_, k', s', rfl, hk', HC.out, HO.out⟩
end Go.Proofs.Ytnhkclnloiiihaa
