/- The list of a matrix's images: a law of append that keeps the old row's cells; copies; the images. Conditions: tables of at most six rows. -/
import Derived.Test.YtnhkclnloiiihaaLeastA
namespace Go.Proofs.Ytnhkclnloiiihaa
open Go.RowKit

/-- an append to a row that the call owns: besides, the old row's cells are as they were -/
theorem run_append_keep {P : Program} (w : World) (base : Nat) (t ty e : TypeId) (i : TypeInfo) (z : Value) (bytes : Nat) (ht : P.underlying t = some (.slice e)) (hi : P.info? e = some i) (hz : i.zero = some z)
    (hsize : i.size = 1) (hby : i.bytes = bytes) (hzs : z.cells.size = 1) (g n cap : Nat) (xs : List Value) (hown : w.ownsRow base e 1 (.slice (some ⟨g, 0, none⟩) n cap) n xs)
    (ad : Addr) (m c : Nat) (news : List Value) (hl : news.length = m * 1) (hnews : ∀ j u, news[j]? = some u → w.cell? (ad.add j) = some u) (h1 : ∀ u ∈ news, u.oneCell' = true)
    (h63 : n + m ≤ maxLen) (hbytes : (n + m) * bytes ≤ 140737488355328) (hbase : base ≤ w.heap.size) :
    ∃ v' w', (Builtin.append_ #[t, t] ty #[.slice (some ⟨g, 0, none⟩) n cap, .slice (some ad) m c]).run P w = .ok v' w' ∧ w'.ownsRow base e 1 v' (n + m) (xs ++ news) ∧ w.grownBy w' (some g) ∧
      (∀ j u, xs[j]? = some u → w'.cell? ⟨g, j, none⟩ = some u) := by
  obtain ⟨v', w', hr, h2, h3, _⟩ := run_append_own (P := P) w base t ty e i z 1 bytes ht hi hz hsize hby hzs (by omega) _ n xs hown ad m c news hl hnews h1 h63 hbytes hbase
  refine ⟨v', w', hr, h2, h3, fun j u hu => ?_⟩
  have hold := hown.cells (g := g) rfl j u hu
  have hlt : g < w.heap.size := (hown.lt g rfl).2
  rw [Addr.add_lit, Nat.zero_add] at hold
  rcases hown.2 with ⟨h0, _⟩ | ⟨g', cap', cur, hv, hbg, hg, hnc, hcm, hcs, htake⟩
  · simp at h0
  · simp only [Value.slice.injEq, Option.some.injEq, Addr.mk.injEq, and_true, true_and] at hv
    obtain ⟨rfl, rfl⟩ := hv
    by_cases hroom : n + m ≤ cap
    · have hr2 := run_append_room (P := P) w t ty e i ht hi g n cap cur hg ad m c news (by rw [hsize]; exact hl) hnews h1 hroom (by rw [hsize, hcs, hl, ← Nat.add_mul]; exact Nat.mul_le_mul_right _ hroom)
      rw [hr] at hr2
      simp only [Result.ok.injEq] at hr2
      obtain ⟨rfl, rfl⟩ := hr2
      have := h2.cells (g := g) rfl j u (by rw [List.getElem?_append_left (List.getElem?_eq_some_iff.1 hu).1]; exact hu)
      rw [Addr.add_lit, Nat.zero_add] at this
      exact this
    · have holds : ∀ j u, xs[j]? = some u → w.cell? ((⟨g, 0, none⟩ : Addr).add j) = some u := hown.cells (g := g) rfl
      have hr2 := run_append_grow (P := P) w t ty e i z ht hi hz ⟨g, 0, none⟩ n cap xs (by rw [hsize]; exact hown.1) holds ad m c news (by rw [hsize]; exact hl) hnews (by omega) (by simp only [maxLen] at h63; omega) (growslice_fits (by omega) (by rw [hby]; exact hbytes))
      rw [hr] at hr2
      simp only [Result.ok.injEq] at hr2
      obtain ⟨rfl, rfl⟩ := hr2
      rw [World.cell?_of_block (heap_alloc_old w.drew _ hlt)]
      exact hold

theorem wpList_append_keep {P : Program} {w : World} {ops : Array Oper} {rest : List Oper} {o : Oper} {a : Act} {Q : Exit → Act → World → Prop} (hgd : o.guard = none) (s x : Operand) (t : TypeId)
    (ho : o.op = .call { callee := .builtin .append, args := #[s, x], argTypes := #[t, t] })
    (base : Nat) (e : TypeId) (i : TypeInfo) (z : Value) (bytes : Nat) (ht : P.underlying t = some (.slice e)) (hi : P.info? e = some i) (hz : i.zero = some z)
    (hsize : i.size = 1) (hby : i.bytes = bytes) (hzs : z.cells.size = 1) (g n cap : Nat) (xs : List Value) (hs : a.eval s = .slice (some ⟨g, 0, none⟩) n cap) (hown : w.ownsRow base e 1 (.slice (some ⟨g, 0, none⟩) n cap) n xs)
    (ad : Addr) (m c : Nat) (news : List Value) (hx : a.eval x = .slice (some ad) m c) (hl : news.length = m * 1) (hnews : ∀ j u, news[j]? = some u → w.cell? (ad.add j) = some u) (h1 : ∀ u ∈ news, u.oneCell' = true)
    (h63 : n + m ≤ maxLen) (hbytes : (n + m) * bytes ≤ 140737488355328) (hbase : base ≤ w.heap.size)
    (h : ∀ v' w', w'.ownsRow base e 1 v' (n + m) (xs ++ news) → w.grownBy w' (some g) → (∀ j u, xs[j]? = some u → w'.cell? ⟨g, j, none⟩ = some u) → wpList P ops Q rest (a.put o.dst v') w') : wpList P ops Q (o :: rest) a w := by
  refine wpList_plain hgd fun K hK => ?_
  obtain ⟨v', w', hr, h2, h3, h4⟩ := run_append_keep (P := P) w base t o.type e i z bytes ht hi hz hsize hby hzs g n cap xs hown ad m c news hl hnews h1 h63 hbytes hbase
  unfold Oper.wp execOp
  simp only [ho, resolve, invoke, builtin, Sem.run_bind, Sem.run_pure, Result.andThen_ok, List.map_toArray, List.map_cons, List.map_nil, hs, hx, hr]
  exact hK _ _ (h v' w' h2 h3 h4)

/-- rows of cells of other types lie in other blocks -/
theorem ownsRow_ne {w : World} {B B' n n' : Nat} {e e' : TypeId} {x v : Value} {xs ys : List Value} (h : w.ownsRow B e 1 x n xs) (k : w.ownsRow B' e' 1 v n' ys) (hne : e ≠ e') : ∀ g, x.ownBlock = some g → v.ownBlock ≠ some g := by
  intro g hg hv
  rcases h.2 with ⟨rfl, _⟩ | ⟨g1, cap1, cur1, rfl, _, h1, _⟩
  · simp [Value.ownBlock] at hg
  rcases k.2 with ⟨rfl, _⟩ | ⟨g2, cap2, cur2, rfl, _, h2, _⟩
  · simp [Value.ownBlock] at hv
  simp only [Value.ownBlock, Option.some.injEq] at hg hv
  subst hg hv
  rw [h1] at h2
  simp only [Option.some.injEq, Obj.cells.injEq] at h2
  exact hne h2.2.1

theorem OwnM.grown {w w1 : World} {B B' n : Nat} {x v : Value} {m : List (List Int)} {ys : List Value} {o : Obj} (h : OwnM w B x m) (ht : w.ownsRow B' 81 1 v n ys) (hg : (w.alloc o).grownBy w1 v.ownBlock) : OwnM w1 B x m := by
  have kept : ∀ (e : TypeId) (x : Value) (n : Nat) (xs : List Value), e ≠ 81 → w.ownsRow B e 1 x n xs → w1.ownsRow B e 1 x n xs := by
    intro e x n xs he hx
    refine (World.ownsRow.alloc hx o).kept hg ?_
    cases hb : x.ownBlock with
    | none => exact .inl rfl
    | some g => exact .inr (fun e' => ownsRow_ne hx ht he g hb e'.symm)
  obtain ⟨vs, h⟩ := h
  exact ⟨vs, kept _ _ _ _ (by decide) h.top, fun i hi => kept _ _ _ _ (by decide) (h.rows i hi), h.apart⟩

/-- a slice of n tables that the call owns from block B on -/
structure OwnG (w : World) (B : Nat) (v : Value) (n : Nat) (f : Nat → List (List Int)) (vs : List Value) : Prop where
  top : w.ownsRow B 81 1 v n vs
  each : ∀ i, i < n → OwnM w B (vs.getD i undef) (f i)

theorem OwnG.below {w w' : World} {B n : Nat} {v : Value} {f : Nat → List (List Int)} {vs : List Value} (h : OwnG w B v n f vs) (hb : Below w.heap.size w w') : OwnG w' B v n f vs :=
  ⟨ownsRow_below h.top hb, fun i hi => (h.each i hi).below hb⟩

theorem OwnG.isAt {w : World} {B n : Nat} {v : Value} {f : Nat → List (List Int)} {vs : List Value} (h : OwnG w B v n f vs) (hn : 0 < n) : ∃ g cap, v = .slice (some ⟨g, 0, none⟩) n cap ∧ n ≤ cap ∧ cap ≤ 9223372036854775807 ∧ B ≤ g := by
  rcases h.top.2 with ⟨_, h0⟩ | ⟨g, cap, cur, hv, hb, _, hn, hm, _⟩
  · omega
  · exact ⟨g, cap, hv, hn, hm, hb⟩

theorem OwnG.cellAt {w : World} {B g n c : Nat} {f : Nat → List (List Int)} {vs : List Value} (h : OwnG w B (.slice (some ⟨g, 0, none⟩) n c) n f vs) (i : Nat) (hi : i < n) : w.cell? ⟨g, i, none⟩ = some (vs.getD i undef) := by
  have hl : vs.length = n := by simpa using h.top.1
  rw [World.ownsRow.cellAt h.top i (by omega), List.getD, List.getElem?_eq_getElem (by omega)]
  rfl

theorem OwnG.snoc {w w1 : World} {B k : Nat} {v v' u : Value} {f : Nat → List (List Int)} {vs : List Value} {o : Obj} (h : OwnG w B v k f vs) (hB : B ≤ w.heap.size) (hu : OwnM w B u (f k))
    (h1 : w1.ownsRow B 81 1 v' (k + 1) (vs ++ [u])) (hg : (w.alloc o).grownBy w1 v.ownBlock) : OwnG w1 B v' (k + 1) f (vs ++ [u]) ∧ Below B w w1 := by
  have hl : vs.length = k := by simpa using h.top.1
  refine ⟨⟨h1, fun i hi => ?_⟩, Below.grown ((Below.refl B w).alloc hB o) hg (by simp; omega) (fun k hk => (World.ownsRow.lt h.top k hk).1)⟩
  have hget : (vs ++ [u]).getD i undef = if i = k then u else vs.getD i undef := by
    simp only [List.getD]
    split
    · next e => subst e; rw [List.getElem?_append_right (by omega), hl]; simp
    · next e => rw [List.getElem?_append_left (by omega)]
  rw [hget]
  split
  · next e => subst e; exact hu.grown h.top hg
  · next e => exact (h.each i (by omega)).grown h.top hg

theorem Try.info_grid : (Try.prog.info? 81).map (fun i => (i.zero, i.size, i.bytes)) = some (some (.slice none 0 0), 1, 24) := by kernel_rfl

/-- the first cells of a table as far as rows have been copied -/
def cpF (m : List (List Int)) (t i j : Nat) : Int := if i < t then gi (gr m i) j else 0

set_option maxRecDepth 100000 in
set_option maxHeartbeats 1600000 in
theorem copied_any (ao : Option Addr) (c : Nat) (m : List (List Int)) (w : World) (hsq : square m) (hm : MatAt w ao m) :
    Calls Try.prog 194 #[.slice ao m.length c] w fun e w' => ∃ v, e = .returned v ∧ OwnM w' w.heap.size v m ∧ Below w.heap.size w w' := by
  have hn := hsq.2.1
  have hmx : m.length ≤ 9223372036854775807 := by omega
  have Hsq := Lib.hid hsq
  have Hm := Lib.hid hm
  clear hsq hm
  go_enter Try.func194, Try.ntmps194
  go_wp2_with fail
  refine (newGrid_any m.length w (by omega)).mono ?_
  rintro e w1 ⟨vs, rfl, hv, hb⟩
  have Hv := Lib.hid hv
  have Hb := Lib.hid hb
  clear hv hb
  go_wp2
  go_loopw [11] (fun i wr => ∃ (t : Nat) (f : Nat → Nat → Int), t ≤ m.length ∧ i = .int .i64 t ∧ OwnP wr w.heap.size (.slice (some ⟨w.heap.size, 0, none⟩) m.length m.length) m.length (tab m.length m.length f) m.length vs ∧
      (∀ a b, a < m.length → b < m.length → f a b = cpF m t a b) ∧ Below w.heap.size w wr) (fun i _ => m.length - (intOf i).toNat)
  case atStart => exact ⟨0, _, Nat.zero_le _, rfl, Hv.out, fun a b _ _ => rfl, Hb.out⟩
  case round =>
    obtain ⟨t, f, ht, rfl, hown, heq, hbr⟩ := hrel
    clear Hv Hb
    have Heq := Lib.hid heq
    clear heq
    by_cases hlt : t < m.length
    · obtain ⟨b1, o1, r1, d1, e1, hc1, hr1, _, _⟩ := (Hm.out.below hbr) t hlt
      have hrl : (gr m t).length = m.length := Hsq.out.2.2 t hlt
      obtain ⟨b3, o3, e3, _⟩ := hr1 0 (by omega)
      have hd := hown.cellAt t (by omega)
      obtain ⟨g, cap, hvs, _, _, _, _⟩ := hown.at2 (i := t) (j := 0) (by omega) (by omega)
      rw [hvs] at hd
      subst e1 e3
      rw [hrl] at hc1
      have Hown := Lib.hid hown
      have Hbr := Lib.hid hbr
      have Hvs := Lib.hid hvs
      have Hr1 := Lib.hid hr1
      have Hrl := Lib.hid hrl
      clear hown hbr hvs hr1 hrl
      have H1 := Lib.hid (show t < m.length by omega)
      have H2 := Lib.hid (show 0 + (gr m t).length ≤ m.length by rw [Hrl.out]; omega)
      have H3 := Lib.hid (show (gr m t).length ≤ m.length by rw [Hrl.out]; omega)
      go_wp2_with ((with_reducible refine wpList_copy_grid (o := ⟨some 21, _, _, _, _, _⟩) ?gA1 (.tmp 19) (.tmp 20) ?gA2 Hown.out t 0 H1.out (gr m t) H2.out g cap Hvs.out m.length cap d1 b3 o3 ?gA3 H3.out ?hsA Hr1.out ?_))
      case gA1 => rfl
      case gA2 => rfl
      case gA3 => rfl
      case hsA => rw [Hrl.out]; rfl
      intro w4 hown4 hb4
      have Hown4 := Lib.hid hown4
      have Hb4 := Lib.hid (Hbr.out.trans hb4)
      clear hown4 hb4
      go_wp2
      go_roundw
      case rel =>
        refine ⟨t + 1, _, by omega, by go_num, Hown4.out, fun a b ha hb => ?_, Hb4.out⟩
        rw [Hrl.out, Heq.out a b ha hb]
        unfold cpF
        by_cases e : a = t
        · subst e
          rw [if_pos (show a < a + 1 by omega), if_pos (show a = a ∧ b < m.length from ⟨rfl, hb⟩)]
        · rw [if_neg (fun h => e h.1)]
          by_cases e5 : a < t
          · rw [if_pos e5, if_pos (show a < t + 1 by omega)]
          · rw [if_neg e5, if_neg (show ¬ a < t + 1 by omega)]
      case measure => simp [intOf]; omega
    · obtain rfl : t = m.length := by omega
      have e : m = tab m.length m.length f := eq_tab rfl Hsq.out.2.2 (fun i j hi hj => by rw [Heq.out i j hi hj]; unfold cpF; rw [if_pos hi])
      have hfin : OwnM wr w.heap.size (.slice (some ⟨w.heap.size, 0, none⟩) m.length m.length) m := ⟨vs, by rw [← e] at hown; exact hown⟩
      have Hfin := Lib.hid hfin
      have Hbr := Lib.hid hbr
      clear hown hfin hbr e
      go_wp2
      go_ret
      exact ⟨_, rfl, Hfin.out, Hbr.out⟩
end Go.Proofs.Ytnhkclnloiiihaa
