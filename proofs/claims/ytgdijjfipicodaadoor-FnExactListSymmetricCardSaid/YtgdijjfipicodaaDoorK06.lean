/- Parts of proofs: contracts and plain facts. Conditions: as each says. -/
import Derived.Test.YtgdijjfipicodaaDoorK05
import Derived.Maps.AppendAt
import Derived.Maps.RangeWalk
namespace Go.Proofs.YtgdijjfipicodaaDoor
open Go.RowKit

theorem gr_append_left {m k : List (List Int)} {i : Nat} (h : i < m.length) : gr (m ++ k) i = gr m i := by
  rw [gr_lt (by simp; omega), gr_lt h, List.getElem_append_left h]
theorem gr_append_right {m k : List (List Int)} {i : Nat} (h : i < k.length) : gr (m ++ k) (m.length + i) = gr k i := by
  rw [gr_lt (by simp; omega), gr_lt h, List.getElem_append_right (by omega)]
  simp

/-- a table behind which the rows of another one, younger, have been put -/
theorem OwnP.join {w w1 : World} {B B' : Nat} {v v' u : Value} {m k : List (List Int)} {vs us : List Value} (h : OwnP w B v m.length m m.length vs) (hk : OwnP w B' u k.length k k.length us) (hBB : B ≤ B')
    (hold : ∀ i, i < m.length → ∀ g, (vs.getD i undef).ownBlock = some g → g < B')
    (h1 : w1.ownsRow B 42 1 v' (m.length + k.length) (vs ++ us)) (kept : ∀ (x : Value) (ys : List Int), OwnI w B x ys → OwnI w1 B x ys) : OwnP w1 B v' (m ++ k).length (m ++ k) (m ++ k).length (vs ++ us) := by
  have hl : vs.length = m.length := by simpa using h.top.1
  have hl2 : us.length = k.length := by simpa using hk.top.1
  have gl : ∀ i, i < m.length → (vs ++ us).getD i undef = vs.getD i undef := fun i hi => by
    simp only [List.getD]; rw [List.getElem?_append_left (by omega)]
  have grr : ∀ i, m.length ≤ i → (vs ++ us).getD i undef = us.getD (i - m.length) undef := fun i hi => by
    simp only [List.getD]; rw [List.getElem?_append_right (by omega), hl]
  refine ⟨by rw [List.length_append]; exact h1, fun i hi => ?_, fun i j hij hj g hg => ?_⟩
  · rw [List.length_append] at hi
    by_cases hi2 : i < m.length
    · rw [gl i hi2, gr_append_left hi2]
      exact kept _ _ (h.rows i hi2)
    · rw [grr i (by omega), show i = m.length + (i - m.length) from by omega, gr_append_right (by omega), show m.length + (i - m.length) - m.length = i - m.length from by omega]
      exact kept _ _ ((hk.rows (i - m.length) (by omega)).base hBB)
  · rw [List.length_append] at hj
    by_cases hj2 : j < m.length
    · rw [gl i (by omega)] at hg
      rw [gl j hj2]
      exact h.apart i j hij hj2 g hg
    · rw [grr j (by omega)]
      by_cases hi2 : i < m.length
      · rw [gl i hi2] at hg
        intro hg2
        have a := hold i hi2 g hg
        have b := ((hk.rows (j - m.length) (by omega)).lt g hg2).1
        omega
      · rw [grr i (by omega)] at hg
        exact hk.apart (i - m.length) (j - m.length) (by omega) (by omega) g hg

theorem OwnP.nil (w : World) (B : Nat) (m : List (List Int)) : OwnP w B (.slice none 0 0) 0 m 0 [] := ⟨World.ownsRow_nil _ _ _ _, fun i hi => absurd hi (by omega), fun i j _ hj => absurd hj (by omega)⟩

theorem lst_gi {xs : List Int} (h : 0 < xs.length) : lst xs = gi xs (xs.length - 1) := by
  unfold lst
  rw [List.getLast?_eq_getElem?, gi, List.getD]
  cases hh : xs[xs.length - 1]? with
  | some a => rfl
  | none => rw [List.getElem?_eq_none_iff] at hh; omega

/-- of the rows that go on 'first', those whose next number is below v -/
def abPart (xs first : List Int) (v : Int) : List (List Int) :=
  ((rng (gi xs first.length) (v - 1)).filter fun x => decide (lst first < x)).flatMap fun x => (ab (xs.drop (first.length + 1)) x).map fun ys => (first ++ [x]) ++ ys
theorem abPart_start (xs first : List Int) : abPart xs first (gi xs first.length) = [] := by unfold abPart; rw [rng_nil (by omega)]; rfl
theorem abPart_step {xs first : List Int} {v : Int} (h : gi xs first.length ≤ v) :
    abPart xs first (v + 1) = abPart xs first v ++ (if lst first < v then (ab (xs.drop (first.length + 1)) v).map (fun ys => (first ++ [v]) ++ ys) else []) := by
  unfold abPart
  rw [show v + 1 - 1 = v from by omega, rng_snoc h, List.filter_append, List.flatMap_append]
  by_cases hl : lst first < v <;> simp [hl]
theorem abPart_end {xs first : List Int} (h : first.length + 1 < xs.length) : abPart xs first (gi xs (first.length + 1) + 1) = (ab (xs.drop first.length) (lst first)).map fun ys => first ++ ys := by
  unfold abPart
  rw [show gi xs (first.length + 1) + 1 - 1 = gi xs (first.length + 1) from by omega]
  have e1 : xs.drop first.length = gi xs first.length :: gi xs (first.length + 1) :: xs.drop (first.length + 1 + 1) := by
    rw [List.drop_eq_getElem_cons (by omega), List.drop_eq_getElem_cons h, gi_lt (by omega), gi_lt h]
  have e2 : xs.drop (first.length + 1) = gi xs (first.length + 1) :: xs.drop (first.length + 1 + 1) := by
    rw [List.drop_eq_getElem_cons h, gi_lt h]
  rw [e1, e2, ab]
  simp only [List.map_flatMap, List.map_map, Function.comp_def, List.append_assoc, List.cons_append, List.nil_append]

theorem abPart_len {xs first : List Int} {v : Int} (h : Rise xs) (hk : first.length + 1 < xs.length) (h6 : xs.length ≤ 6) (hv : v ≤ gi xs (first.length + 1) + 1) : (abPart xs first v).length ≤ 1048576 := by
  have g0 := h.2 _ (gi_mem (show first.length < xs.length by omega))
  have g1 := h.2 _ (gi_mem hk)
  unfold abPart
  refine Nat.le_trans (flatMap_le (n := 16) (k := 16 ^ 4) (rng_filter_le (by omega) (by omega) _) (fun x _ => ?_)) (by omega)
  rw [List.length_map]
  refine Nat.le_trans (ab_len (fun y hy => h.2 y (List.mem_of_mem_drop hy)) x) (Nat.pow_le_pow_right (by omega) ?_)
  rw [List.length_drop]; omega

theorem OwnI.kept_top {w w1 : World} {B n : Nat} {x u : Value} {ys : List Int} {vs : List Value} (hx : OwnI w B x ys) (ht : w.ownsRow B 42 1 u n vs) (hg : w.grownBy w1 u.ownBlock) : OwnI w1 B x ys := by
  refine World.ownsRow.kept hx hg ?_
  cases hb : x.ownBlock with
  | none => exact .inl rfl
  | some g => exact .inr (fun e => hx.ne_row ht g hb e.symm)

theorem rows_cells {w : World} {B n : Nat} {ad : Addr} {m : List (List Int)} {vs : List Value} {c : Nat} (h : OwnP w B (.slice (some ad) n c) n m n vs) : (∀ j u, vs[j]? = some u → w.cell? (ad.add j) = some u) ∧ (∀ u ∈ vs, u.oneCell' = true) := by
  have hl : vs.length = n := by simpa using h.top.1
  obtain ⟨ao, c', e, _, _, hc⟩ := ownsRow_read h.top
  cases e
  refine ⟨fun j u hj => ?_, fun u hu => ?_⟩
  · have hjl : j < vs.length := (List.getElem?_eq_some_iff.1 hj).1
    obtain ⟨b3, o3, e3, hc3⟩ := hc j (by omega)
    cases e3
    rw [Addr.add_lit, hc3, List.getD, hj]
    rfl
  · obtain ⟨i, hi, rfl⟩ := List.mem_iff_getElem.1 hu
    have := (h.rows i (by omega)).read
    rw [List.getD, List.getElem?_eq_getElem hi] at this
    obtain ⟨_, _, e, _⟩ := this
    rw [show vs[i] = (some vs[i]).getD undef from rfl, e]
    rfl

theorem above_small {xs : List Int} (h : isRowP xs) : Small (above xs) := by
  have hr := ((isRowP_iff _).1 h).2.2
  have h6 := h.2.1
  have hl := above_len hr
  have hp : 16 ^ (xs.length - 1) ≤ 16 ^ 5 := Nat.pow_le_pow_right (by omega) (by omega)
  exact ⟨by omega, fun i hi => by have := (above_mem hr (gr_mem hi)).2; omega⟩
end Go.Proofs.YtgdijjfipicodaaDoor

namespace Go.Proofs.YtgdijjfipicodaaDoor
open Go.RowKit

/-- tables whose slices of rows lie in different blocks -/
def Tops (vs : List Value) : Prop := ∀ i j, i < j → j < vs.length → ∀ g, (vs.getD i undef).ownBlock = some g → (vs.getD j undef).ownBlock ≠ some g
/-- what grows leaves a table of another block as it was -/
theorem OwnR.keptTop {w w1 : World} {B B' n' : Nat} {x v : Value} {m : List (List Int)} {vs ys : List Value} (h : OwnR w B x m vs) (k : w.ownsRow B' 42 1 v n' ys) (hne : ∀ g, v.ownBlock = some g → x.ownBlock ≠ some g) (hg : w.grownBy w1 v.ownBlock) : OwnR w1 B x m vs :=
  ⟨World.ownsRow.kept h.top hg (by
    cases hb : x.ownBlock with
    | none => exact .inl rfl
    | some g => exact .inr (fun e => hne g e.symm hb)), fun i hi => row_kept (h.rows i hi) k (by decide) hg⟩
theorem OwnR.lt {w : World} {B : Nat} {v : Value} {m : List (List Int)} {vs : List Value} (h : OwnR w B v m vs) : ∀ g, v.ownBlock = some g → B ≤ g ∧ g < w.heap.size := World.ownsRow.lt h.top

/-- the list so far, and the list whose tables are being lengthened, from the t-th on -/
structure TrI (w : World) (B Bi : Nat) (out inn : Value) (n : Nat) (P T : List (List (List Int))) (vs us : List Value) (t : Nat) : Prop where
  own : OwnRL w B out P vs
  ap : Tops vs
  inner : w.ownsRow Bi 22 1 inn n us
  rest : ∀ j, t ≤ j → j < n → ∃ zs, OwnR w Bi (us.getD j undef) (gt T j) zs
  sep : ∀ a, a < vs.length → ∀ j, t ≤ j → j < n → ∀ g, (us.getD j undef).ownBlock = some g → (vs.getD a undef).ownBlock ≠ some g
  dis : ∀ g, out.ownBlock = some g → inn.ownBlock ≠ some g

theorem TrI.below {w w' : World} {B Bi : Nat} {out inn : Value} {n : Nat} {P T : List (List (List Int))} {vs us : List Value} {t : Nat} (h : TrI w B Bi out inn n P T vs us t) (hb : Below w.heap.size w w') : TrI w' B Bi out inn n P T vs us t :=
  ⟨h.own.below hb, h.ap, ownsRow_below h.inner hb, fun j h1 h2 => ⟨_, (h.rest j h1 h2).choose_spec.below hb⟩, h.sep, h.dis⟩
theorem TrI.grow {w w1 : World} {B Bi : Nat} {out inn : Value} {n : Nat} {P T : List (List (List Int))} {vs us : List Value} {t : Nat} {zs : List Value} (h : TrI w B Bi out inn n P T vs us t) (ht : t < n) (hz : OwnR w Bi (us.getD t undef) (gt T t) zs)
    (hua : ∀ j, t < j → j < n → ∀ g, (us.getD t undef).ownBlock = some g → (us.getD j undef).ownBlock ≠ some g) (hg : w.grownBy w1 (us.getD t undef).ownBlock) : TrI w1 B Bi out inn n P T vs us (t + 1) :=
  ⟨⟨row_kept h.own.top hz.top (by decide) hg, fun i hi => ⟨_, (h.own.each i hi).choose_spec.keptTop hz.top (fun g hg2 => h.sep i (by rw [h.own.len]; exact hi) t (Nat.le_refl _) ht g hg2) hg⟩⟩, h.ap,
    row_kept h.inner hz.top (by decide) hg, fun j h1 h2 => ⟨_, (h.rest j (by omega) h2).choose_spec.keptTop hz.top (fun g hg2 => hua j (by omega) h2 g hg2) hg⟩, fun a ha j h1 h2 => h.sep a ha j (by omega) h2, h.dis⟩
theorem TrI.push {w w1 : World} {B Bi : Nat} {out inn out' v : Value} {n : Nat} {P T : List (List (List Int))} {vs us zs : List Value} {t : Nat} {M : List (List Int)} (h : TrI w B Bi out inn n P T vs us t) (hv : OwnR w B v M zs)
    (hs : ∀ j, t ≤ j → j < n → ∀ g, (us.getD j undef).ownBlock = some g → v.ownBlock ≠ some g) (hap : ∀ a, a < vs.length → ∀ g, (vs.getD a undef).ownBlock = some g → v.ownBlock ≠ some g)
    (h1 : w1.ownsRow B 22 1 out' (P.length + 1) (vs ++ [v])) (hg : w.grownBy w1 out.ownBlock) (hat : out'.ownBlock = out.ownBlock ∨ out'.ownBlock = some w.heap.size) : TrI w1 B Bi out' inn n (P ++ [M]) T (vs ++ [v]) us t := by
  have hl := h.own.len
  refine ⟨h.own.join (ks := [M]) rfl (fun i hi => by obtain rfl : i = 0 := by simpa using hi
                                                     exact ⟨zs, hv⟩) h1 hg, fun i j hij hj g hi => ?_, ?_, fun j h2 h3 => ?_, fun a ha j h2 h3 g hgj => ?_, fun g hgo => ?_⟩
  · rw [List.length_append, List.length_singleton] at hj
    rw [getD_left (by omega)] at hi
    by_cases e : j < vs.length
    · rw [getD_left e]; exact h.ap i j hij e g hi
    · rw [getD_right (by omega), show j - vs.length = 0 by omega]
      exact hap i (by omega) g hi
  · refine World.ownsRow.kept h.inner hg ?_
    cases hb : inn.ownBlock with
    | none => exact .inl rfl
    | some g => exact .inr (fun e => h.dis g e.symm hb)
  · obtain ⟨ys, hy⟩ := h.rest j h2 h3
    exact ⟨ys, hy.kept h.own.top (by decide) (by decide) hg⟩
  · rw [List.length_append, List.length_singleton] at ha
    by_cases e : a < vs.length
    · rw [getD_left e]; exact h.sep a e j h2 h3 g hgj
    · rw [getD_right (by omega), show a - vs.length = 0 by omega]
      exact hs j h2 h3 g hgj
  · rcases hat with e | e
    · exact h.dis g (by rw [← e]; exact hgo)
    · rw [e] at hgo
      cases hgo
      intro hi
      have := (World.ownsRow.lt h.inner _ hi).2
      omega

set_option maxRecDepth 100000 in
set_option maxHeartbeats 6400000 in
theorem triangles_any : ∀ (d : Nat) (xs : List Int) (w : World), d < 5 → Rise xs → xs.length = d + 1 → Dj w →
    Calls Tryd.prog 75 #[.int .u64 (mask xs : Nat)] w fun e w' => ∃ v vs, e = .returned v ∧ OwnRL w' w.heap.size v (trisD d xs) vs ∧ Tops vs ∧ Below w.heap.size w w' := by
  intro d
  induction d with
  | zero =>
    intro xs w hd hr hl hD
    have hs := size_any hr (by omega) w
    have hrow := row_any hr (by omega) w hD
    have he : ((xs.length : Int) == 1) = true := by simp; omega
    obtain ⟨m, hm⟩ : ∃ m : Int, m = (mask xs : Nat) := ⟨_, rfl⟩
    rw [← hm] at hs hrow ⊢
    have Hs := Lib.hid hs
    have Hrow := Lib.hid hrow
    clear hs hrow hD hm hr hl
    go_enter Tryd.func75, Tryd.ntmps75
    go_wp2_with fail
    refine Hs.out.mono ?_
    rintro e w1 ⟨rfl, rfl⟩
    go_wp2_with fail
    refine Hrow.out.mono ?_
    rintro e w1 ⟨v, rfl, hv, hb⟩
    obtain ⟨va, vc, hvv, _, _, _⟩ := hv.read
    obtain ⟨l, hll⟩ : ∃ l, l = xs.length := ⟨_, rfl⟩
    rw [← hll] at hvv
    subst hvv
    have hbA : Below w1.heap.size w1 (w1.alloc (.cells #[.slice va l vc] 42)) := (Below.refl _ _).alloc (Nat.le_refl _) _
    have hRA : OwnR (w1.alloc (.cells #[.slice va l vc] 42)) w.heap.size (.slice (some ⟨w1.heap.size, 0, none⟩) 1 1) [xs] [.slice va l vc] :=
      ⟨ownsRow_built w1 [.slice va l vc] hb.size (by simp), fun i hi => by obtain rfl : i = 0 := (by simpa using hi); exact hv.below hbA⟩
    generalize hWA : w1.alloc (.cells #[.slice va l vc] 42) = wA at hbA hRA
    have hszA : wA.heap.size = w1.heap.size + 1 := by rw [← hWA]; simp
    have hbB : Below wA.heap.size wA (wA.alloc (.cells #[.slice (some ⟨w1.heap.size, 0, none⟩) 1 1] 22)) := (Below.refl _ _).alloc (Nat.le_refl _) _
    have hRB : OwnRL (wA.alloc (.cells #[.slice (some ⟨w1.heap.size, 0, none⟩) 1 1] 22)) w.heap.size (.slice (some ⟨wA.heap.size, 0, none⟩) 1 1) [[xs]] [.slice (some ⟨w1.heap.size, 0, none⟩) 1 1] :=
      ⟨ownsRow_built wA [.slice (some ⟨w1.heap.size, 0, none⟩) 1 1] (Nat.le_trans hb.size hbA.size) (by simp), fun i hi => by obtain rfl : i = 0 := (by simpa using hi); exact ⟨_, hRA.below hbB⟩⟩
    have HRB := Lib.hid hRB
    have HbB := Lib.hid (hb.trans ((hbA.trans (hbB.mono hbA.size)).mono hb.size))
    have HWA := Lib.hid hWA
    have HszA := Lib.hid hszA
    clear hv hb hbA hRA hbB hRB hszA hWA hll
    go_wp2
    go_ret
    refine ⟨.slice (some ⟨wA.heap.size, 0, none⟩) 1 1, [.slice (some ⟨w1.heap.size, 0, none⟩) 1 1], by rw [HszA.out]; rfl, ?_, fun i j hij hj => by simp at hj; omega, ?_⟩
    · have := HRB.out; rw [← HWA.out] at this ⊢; exact this
    · have := HbB.out; rw [← HWA.out] at this; exact this
  | succ d ih =>
    intro xs w hd hr hl hD
    have hs := size_any hr (by omega) w
    have hsets := setsAbove_any hr (by omega) w hD
    have he : ((xs.length : Int) == 1) = false := by simp; omega
    obtain ⟨j0, hj, hy0, hy1, hy2⟩ := info_parts Tryd.info_ints
    obtain ⟨k0, hk0, ht0, ht1, ht2⟩ := info_parts Tryd.info_intssW
    have Hrow := Lib.hid (fun w' (hD' : Dj w') => row_any hr (by omega) w' hD')
    have Hys := Lib.hid (fun k (hk : k < (above xs).length) => above_mem hr (gr_mem hk))
    have Hle := Lib.hid (fun k t (hk : k < (above xs).length) => trisQ_le (t := t) hr (by omega) hk)
    have HtB := Lib.hid (trB_le (d + 1) hd)
    have hA5 : (above xs).length ≤ 1099511627776 := by
      have := above_len hr
      rw [hl] at this
      exact Nat.le_trans this (Nat.le_trans (Nat.pow_le_pow_right (by omega) (show d + 1 + 1 - 1 ≤ 5 by omega)) (by decide))
    have Hih := Lib.hid ih
    have HD := Lib.hid hD
    have Hl := Lib.hid hl
    obtain ⟨m, hm⟩ : ∃ m : Int, m = (mask xs : Nat) := ⟨_, rfl⟩
    rw [← hm] at hs hsets Hrow ⊢
    have Hs := Lib.hid hs
    have Hsets := Lib.hid hsets
    clear hs hsets hD hm hl ih hr
    go_enter Tryd.func75, Tryd.ntmps75
    go_wp2_with fail
    refine Hs.out.mono ?_
    rintro e w1 ⟨rfl, rfl⟩
    go_wp2_with fail
    refine Hsets.out.mono ?_
    rintro e w1 ⟨v, rfl, hv, hb⟩
    obtain ⟨sa, sc, rfl, hs1, hs2, hsr⟩ := hv.read
    have Hsr := Lib.hid hsr
    have Hb := Lib.hid hb
    have HB := Lib.hid hb.size
    have HD1 := Lib.hid (HD.out.next hb)
    clear hv hb hsr Hs Hsets HD
    obtain ⟨A, hA⟩ : ∃ A, A = above xs := ⟨_, rfl⟩
    rw [← hA] at Hys Hle hA5 hs1 Hsr ⊢
    have HA := Lib.hid hA
    clear hA
    go_wp2
    go_loopw [3, 18] (fun out i wr => ∃ (k : Nat) (vs : List Value), k ≤ A.length ∧ i = .int .i64 k ∧ OwnRL wr w1.heap.size out (trisP d xs k) vs ∧ Tops vs ∧ Below w1.heap.size w1 wr) (fun _ i _ => A.length - (intOf i).toNat)
    case atStart => exact ⟨0, [], Nat.zero_le _, rfl, by rw [trisP_zero]; exact OwnRL.nil _ _, fun i j _ hj => absurd hj (by simp), Below.refl _ _⟩
    case round =>
      obtain ⟨k, vs, hk, rfl, hown, hap, hbr⟩ := hrel
      obtain ⟨wo, hwo⟩ : ∃ wo : World, wo = wr := ⟨_, rfl⟩
      subst hwo
      have Hown := Lib.hid hown
      have Hap := Lib.hid hap
      have Hbr := Lib.hid hbr
      have HBr := Lib.hid hbr.size
      clear hown hap hbr
      by_cases hlt : k < A.length
      · obtain ⟨b, o, e0, hcell⟩ := Hsr.out.below Hbr.out k hlt
        subst e0
        obtain ⟨hy, hyl⟩ := Hys.out k hlt
        have C := Lib.hid (Hih.out (gr A k) wo (by omega) hy (by have := Hl.out; omega) (HD1.out.next Hbr.out))
        have HTl := Lib.hid (trisD_len d (gr A k) hy (by have := Hl.out; omega))
        have HQ := Lib.hid (fun t (ht : t < (trisD d (gr A k)).length) => show trisQ d xs k (t + 1) = trisQ d xs k t ++ [gt (trisD d (gr A k)) t ++ [xs]] by rw [HA.out] at ht ⊢; exact trisQ_step ht)
        have HQe := Lib.hid (show trisQ d xs k (trisD d (gr A k)).length = trisP d xs (k + 1) by rw [HA.out]; exact trisQ_end (by rw [← HA.out]; exact hlt))
        have HQl := Lib.hid (fun t => Nat.le_trans (Hle.out k t hlt) HtB.out)
        have hcell' : wo.cell? ⟨b, o + k, none⟩ = some (.int .u64 (mask (gr A k) : Nat)) := hcell
        obtain ⟨q, hq⟩ : ∃ q : Int, q = (mask (gr A k) : Nat) := ⟨_, rfl⟩
        rw [← hq] at hcell' C
        clear hcell hy hyl hq
        go_wp2_with fail
        refine C.out.mono ?_
        rintro e w2 ⟨v2, us, rfl, hT, hTa, hb2⟩
        obtain ⟨T, hTT⟩ : ∃ T, T = trisD d (gr A k) := ⟨_, rfl⟩
        rw [← hTT] at hT HTl HQ HQe
        obtain ⟨ta, tc, rfl, htl1, htl2⟩ := hT.head
        have hTn : T.length ≤ 1099511627776 := Nat.le_trans (by
          have h1 := HQl.out T.length
          have h2 : T.length ≤ (trisQ d xs k T.length).length := by
            unfold trisQ
            rw [← HA.out, ← hTT, List.length_append, List.length_map, List.take_length]
            omega
          exact Nat.le_trans h2 h1) (Nat.le_refl _)
        have hlenT := hT.len
        have HI := Lib.hid (show TrI w2 w1.heap.size wo.heap.size _ (.slice ta T.length tc) T.length (trisQ d xs k 0) T vs us 0 from
          ⟨by rw [trisQ_zero]; exact Hown.out.below hb2, Hap.out, hT.top, fun j _ hj => hT.each j hj, fun a ha j _ hj g hg1 hg2 => by
            obtain ⟨ys, hx⟩ := Hown.out.each a (by rw [← Hown.out.len]; exact ha)
            obtain ⟨zs, hz⟩ := hT.each j hj
            have h1 := (hx.lt g hg2).2
            have h2 := (hz.lt g hg1).1
            omega, fun g hg1 hg2 => by
            have h1 := (World.ownsRow.lt Hown.out.top g hg1).2
            have h2 := (World.ownsRow.lt hT.top g hg2).1
            omega⟩)
        have HTa := Lib.hid hTa
        have Hb2 := Lib.hid (Hbr.out.trans (hb2.mono HBr.out))
        have Hb2' := Lib.hid hb2.size
        have HlT := Lib.hid hlenT
        clear hT hTa hb2 hTT Hown Hap C hlenT
        go_wp2
        go_loopw [3, 25] (fun out i wi => ∃ (t : Nat) (vs : List Value), t ≤ T.length ∧ i = .int .i64 t ∧ TrI wi w1.heap.size wo.heap.size out (.slice ta T.length tc) T.length (trisQ d xs k t) T vs us t ∧ Below w1.heap.size w1 wi ∧ wo.heap.size ≤ wi.heap.size) (fun _ i _ => T.length - (intOf i).toNat)
        case atStart => exact ⟨0, vs, Nat.zero_le _, rfl, HI.out, Hb2.out, Hb2'.out⟩
        case round =>
          obtain ⟨t, vs, ht, rfl, hI, hbi, hszi⟩ := hrel
          clear HI Hb2 Hb2'
          by_cases htl : t < T.length
          · obtain ⟨zs, hz⟩ := hI.rest t (Nat.le_refl _) htl
            obtain ⟨qa, qc, hq, hq1, hq2, _⟩ := hz.read
            have htt := HTl.out _ (gt_mem htl)
            rw [htt] at hq hq1
            obtain ⟨ai, ci, e, _, _, hcs⟩ := ownsRow_read hI.inner
            cases e
            obtain ⟨b2, o2, e2, hc2⟩ := hcs t htl
            rw [hq] at hc2
            subst e2
            obtain ⟨oa, oc, hoo, ho1, ho2⟩ := hI.own.head
            have hHQ := HQ.out t htl
            have hPl := HQl.out t
            obtain ⟨P, hP⟩ : ∃ P, P = trisQ d xs k t := ⟨_, rfl⟩
            rw [← hP] at hI hoo ho1 hHQ hPl
            obtain ⟨Pl, hPl2⟩ : ∃ Pl, Pl = P.length := ⟨_, rfl⟩
            rw [← hPl2] at hoo ho1 hPl
            have HPl := Lib.hid hPl2
            subst hoo
            have hua : ∀ j, t < j → j < T.length → ∀ g, (us.getD t undef).ownBlock = some g → (us.getD j undef).ownBlock ≠ some g := fun j h1 h2 g hg => HTa.out t j h1 (by rw [HlT.out]; exact h2) g hg
            have HI := Lib.hid hI
            have Hbi := Lib.hid hbi
            have HBi := Lib.hid hbi.size
            have Hz := Lib.hid hz
            have Hq := Lib.hid hq
            have Hua := Lib.hid hua
            have HHQ := Lib.hid hHQ
            have Htt := Lib.hid htt
            have C := Lib.hid (Hrow.out wr (HD1.out.next hbi))
            clear hI hbi hz hq hua hcs hP hPl2 hHQ ho1 ho2 hq1 hq2 htt
            go_wp2_with fail
            refine C.out.mono ?_
            rintro e w3 ⟨rv, rfl, hrv, hb3⟩
            obtain ⟨ra, rc, hrr, _, _, _⟩ := hrv.read
            obtain ⟨l, hll⟩ : ∃ l, l = xs.length := ⟨_, rfl⟩
            rw [← hll] at hrr
            subst hrr
            have hb3A : Below wr.heap.size wr (w3.alloc (.cells #[.slice ra l rc] 42)) := hb3.alloc hb3.size _
            have hz3 := Hz.out.below hb3A
            rw [Hq.out] at hz3
            have Hrv := Lib.hid hrv
            have HB3 := Lib.hid hb3.size
            have Hb3A := Lib.hid hb3A
            have Hz3 := Lib.hid hz3
            clear hrv hb3 hb3A hz3 hll C
            go_wp2_with (at_builtin; refine wpList_append_own_at _ rfl _ _ 22 rfl wo.heap.size 42 j0 (.slice none 0 0) 1 24 Tryd.underlying22 hj hy0 hy1 hy2 rfl (by decide) _ (d + 1) zs rfl (by have := Hz3.out.top; rw [Htt.out] at this; exact this) ⟨w3.heap.size, 0, none⟩ 1 1 [.slice ra l rc] rfl rfl ?g1 ?g2 ?g3 ?g4 ?g5 ?_)
            case g1 => exact cell_one_new _ _ _
            case g2 => intro u hu; simp at hu; subst hu; rfl
            case g3 => unfold maxLen; omega
            case g4 => omega
            case g5 => have := HB3.out; simp; omega
            intro v' w4 hown4 hgrow4 _ hat4
            have hG : TrI w4 w1.heap.size wo.heap.size _ _ T.length P T vs us (t + 1) := (HI.out.below Hb3A.out).grow htl (by rw [Hq.out]; exact Hz3.out) Hua.out (by rw [Hq.out]; exact hgrow4)
            have hv4 : OwnR w4 wo.heap.size v' (gt T t ++ [xs]) (zs ++ [.slice ra l rc]) := Hz3.out.join (k := [xs]) rfl (fun i hi => by
              obtain rfl : i = 0 := by simpa using hi
              exact (Hrv.out.base hszi).below ((Below.refl _ _).alloc (Nat.le_refl _) _)) (by rw [Htt.out]; exact hown4) hgrow4
            have hsz3 : (w3.alloc (.cells #[.slice ra l rc] 42)).heap.size = w3.heap.size + 1 := by simp
            have hvs : ∀ j, t + 1 ≤ j → j < T.length → ∀ g, (us.getD j undef).ownBlock = some g → v'.ownBlock ≠ some g := fun j h1 h2 g hg hgv => by
              rcases hat4 with e | e
              · rw [e] at hgv
                exact Hua.out j (by omega) h2 g (by rw [Hq.out]; exact hgv) hg
              · rw [e] at hgv
                cases hgv
                obtain ⟨ys, hy⟩ := HI.out.rest j (by omega) h2
                have h3 := (hy.lt _ hg).2
                have := HB3.out
                omega
            have hva : ∀ a, a < vs.length → ∀ g, (vs.getD a undef).ownBlock = some g → v'.ownBlock ≠ some g := fun a ha g hg hgv => by
              rcases hat4 with e | e
              · rw [e] at hgv
                exact HI.out.sep a ha t (Nat.le_refl _) htl g (by rw [Hq.out]; exact hgv) hg
              · rw [e] at hgv
                cases hgv
                obtain ⟨ys, hy⟩ := HI.out.own.each a (by rw [← HI.out.own.len]; exact ha)
                have h3 := (hy.lt _ hg).2
                have := HB3.out
                omega
            obtain ⟨pa, pc, hpp, _, _, _⟩ := ownsRow_read hown4
            have hb4 : Below w1.heap.size w1 w4 := (Hbi.out.trans (Hb3A.out.mono HBi.out)).grown hgrow4 (Nat.le_trans HBi.out Hb3A.out.size) (fun g hg => Nat.le_trans HBr.out (Hz3.out.lt g hg).1)
            have hsz4 : wo.heap.size ≤ w4.heap.size := by
              have h1 := (hgrow4.size)
              rw [hsz3] at h1
              have := HB3.out
              omega
            have HG := Lib.hid (hG.below ((Below.refl _ w4).alloc (Nat.le_refl _) (.cells #[v'] 22)))
            have Hv4 := Lib.hid ((hv4.base HBr.out).below ((Below.refl _ w4).alloc (Nat.le_refl _) (.cells #[v'] 22)))
            have Hvs := Lib.hid hvs
            have Hva := Lib.hid hva
            have Hb4 := Lib.hid hb4
            have HB4 := Lib.hid hb4.size
            have Hsz4 := Lib.hid hsz4
            clear hown4 hgrow4 hat4 hG hv4 hsz3 hvs hva hb4 hsz4 Hz3 Hb3A HB3 Hrv
            subst hpp
            go_wp2_with (at_builtin; refine wpList_append_own_at _ rfl _ _ 29 rfl w1.heap.size 22 k0 (.slice none 0 0) 1 24 Tryd.underlying29 hk0 ht0 ht1 ht2 rfl (by decide) _ Pl vs rfl (by have := HG.out.own.top; rw [← HPl.out] at this; exact this) ⟨w4.heap.size, 0, none⟩ 1 1 [.slice pa (d + 1 + 1) pc] rfl rfl ?f1 ?f2 ?f3 ?f4 ?f5 ?_)
            case f1 => exact cell_one_new _ _ _
            case f2 => intro u hu; simp at hu; subst hu; rfl
            case f3 => unfold maxLen; omega
            case f4 => omega
            case f5 => have := HB4.out; simp; omega
            intro out' w5 hown5 hgrow5 _ hat5
            have hP5 := HG.out.push Hv4.out Hvs.out Hva.out (by rw [← HPl.out]; exact hown5) hgrow5 (by simpa using hat5)
            rw [← HHQ.out] at hP5
            have hb5 : Below w1.heap.size w1 w5 := (Hb4.out.alloc HB4.out (.cells #[.slice pa (d + 1 + 1) pc] 22)).grown hgrow5 (by have := HB4.out; simp; omega) (fun g hg => (World.ownsRow.lt HG.out.own.top g hg).1)
            have hsz5 : wo.heap.size ≤ w5.heap.size := by
              have h1 := hgrow5.size
              have := Hsz4.out
              simp at h1
              omega
            obtain ⟨ua, uc, huu, _, _, _⟩ := ownsRow_read hown5
            have HP5 := Lib.hid hP5
            have Hb5 := Lib.hid hb5
            have Hsz5 := Lib.hid hsz5
            clear hown5 hgrow5 hat5 hP5 hb5 hsz5 HG Hv4 Hvs Hva
            subst huu
            go_wp2
            go_roundw
            case rel => exact ⟨t + 1, _, by omega, by go_num, HP5.out, Hb5.out, Hsz5.out⟩
            case measure => simp [intOf]; omega
          · obtain rfl : t = T.length := by omega
            have HO := Lib.hid hI.own
            have HAp := Lib.hid hI.ap
            have Hbi := Lib.hid hbi
            clear hI hbi
            go_wp2
            go_roundw
            case rel => exact ⟨k + 1, vs, by omega, by go_num, by rw [← HQe.out]; exact HO.out, HAp.out, Hbi.out⟩
            case measure => simp [intOf]; omega
      · obtain rfl : k = A.length := by omega
        have HV := Lib.hid (show trisP d xs A.length = trisD (d + 1) xs by rw [HA.out]; exact trisP_end d xs)
        go_wp2
        go_ret
        exact ⟨_, vs, rfl, by rw [← HV.out]; exact Hown.out.base HB.out, Hap.out, Hb.out.trans (Hbr.out.mono HB.out)⟩
end Go.Proofs.YtgdijjfipicodaaDoor

namespace Go.Proofs.YtgdijjfipicodaaDoor
open Go.RowKit

/-- the sum of the first k numbers of a column -/
def colR (m : List (List Int)) (j : Nat) : Nat → Int
  | 0 => 0
  | k + 1 => colR m j k + gi (gr m k) j
theorem colR_tr {m : List (List Int)} {j : Nat} (hj : j < m.length) : ∀ k, k ≤ m.length → colR m j k = sumK (gr (tr m) j) k
  | 0, _ => rfl
  | k + 1, hk => by simp only [colR, sumK]; rw [colR_tr hj k (by omega), gi_tr hj (by omega)]
theorem colR_01 {m : List (List Int)} (h : good m) {j k : Nat} (hj : j < m.length) (hk : k ≤ m.length) : 0 ≤ colR m j k ∧ colR m j k ≤ 1 := by
  rw [colR_tr hj k hk]
  exact (h.2.2 j (by rw [tr_len]; exact hj)).1 k (by rw [tr_row hj]; exact hk)

/-- the numbers below n for which f holds -/
def colsF (n : Nat) (f : Nat → Bool) : List Int := ((List.range n).filter f).map fun j : Nat => (j : Int)
theorem mem_colsF {n : Nat} {f : Nat → Bool} {x : Int} : x ∈ colsF n f ↔ ∃ j : Nat, x = j ∧ j < n ∧ f j = true := by
  simp only [colsF, List.mem_map, List.mem_filter, List.mem_range]
  constructor
  · rintro ⟨j, ⟨h1, h2⟩, rfl⟩; exact ⟨j, rfl, h1, h2⟩
  · rintro ⟨j, rfl, h1, h2⟩; exact ⟨j, ⟨h1, h2⟩, rfl⟩
theorem colsF_succ (n : Nat) (f : Nat → Bool) : colsF (n + 1) f = colsF n f ++ (if f n then [(n : Int)] else []) := by
  simp only [colsF, List.range_succ, List.filter_append, List.map_append]
  cases h : f n <;> simp [h]
theorem colsF_up (n : Nat) (f : Nat → Bool) : Up (colsF n f) := by
  induction n with
  | zero => trivial
  | succ n ih =>
    rw [colsF_succ]
    refine up_join ih (by split <;> trivial) (fun x hx y hy => ?_)
    obtain ⟨j, rfl, hj, _⟩ := mem_colsF.1 hx
    split at hy
    · simp at hy; omega
    · cases hy
theorem colsF_len (n : Nat) (f : Nat → Bool) : (colsF n f).length ≤ n := by
  simp only [colsF, List.length_map]
  exact Nat.le_trans (List.length_filter_le _ _) (by simp)
theorem colsF_rise {n : Nat} (f : Nat → Bool) (h : n ≤ 16) : Rise (colsF n f) := ⟨colsF_up n f, fun x hx => by obtain ⟨j, rfl, hj, _⟩ := mem_colsF.1 hx; omega⟩
theorem colsF_congr {n : Nat} {f g : Nat → Bool} (h : ∀ j, j < n → f j = g j) : colsF n f = colsF n g := by
  unfold colsF
  congr 1
  exact List.filter_congr (fun j hj => h j (by simpa using hj))
theorem mask_cols (n : Nat) (f : Nat → Bool) (i : Nat) : (mask (colsF n f)).testBit i = (decide (i < n) && f i) := by
  rw [testBit_mask (fun x hx => by obtain ⟨j, rfl, _, _⟩ := mem_colsF.1 hx; omega)]
  rw [Bool.eq_iff_iff, decide_eq_true_eq, mem_colsF, Bool.and_eq_true, decide_eq_true_eq]
  constructor
  · rintro ⟨j, e, h1, h2⟩
    obtain rfl : i = j := by omega
    exact ⟨h1, h2⟩
  · rintro ⟨h1, h2⟩; exact ⟨i, rfl, h1, h2⟩
theorem mask_flip {n j : Nat} {f g : Nat → Bool} (hj : j < n) (h1 : g j = !f j) (h2 : ∀ i, i ≠ j → g i = f i) : mask (colsF n f) ^^^ 2 ^ j = mask (colsF n g) := by
  apply Nat.eq_of_testBit_eq
  intro i
  rw [Nat.testBit_xor, mask_cols, mask_cols, Nat.testBit_two_pow]
  by_cases e : j = i
  · subst e; simp [hj, h1]
  · rw [h2 i (fun h => e h.symm)]; simp [e]

/-- the columns whose sum is 1 behind k rows -/
def triRow (m : List (List Int)) (k : Nat) : List Int := colsF m.length fun j => decide (colR m j k = 1)
def triM (m : List (List Int)) : List (List Int) := (List.range m.length).map fun i => triRow m (i + 1)
theorem triM_len (m : List (List Int)) : (triM m).length = m.length := by simp [triM]
theorem gr_triM {m : List (List Int)} {i : Nat} (h : i < m.length) : gr (triM m) i = triRow m (i + 1) := by
  rw [gr_lt (by rw [triM_len]; exact h)]
  simp [triM]
theorem triM_small {m : List (List Int)} (h : m.length ≤ 6) : Small (triM m) := ⟨by rw [triM_len]; omega, fun i hi => by
  rw [triM_len] at hi
  rw [gr_triM hi]
  have := colsF_len m.length fun j => decide (colR m j (i + 1) = 1)
  unfold triRow
  omega⟩

/-- .. in the middle of row k -/
def triMid (m : List (List Int)) (k t : Nat) : Nat → Bool := fun j => decide (colR m j (if j < t then k + 1 else k) = 1)
theorem triMid_start (m : List (List Int)) (k : Nat) : colsF m.length (triMid m k 0) = triRow m k := colsF_congr fun j _ => by simp [triMid]
theorem triMid_end (m : List (List Int)) (k : Nat) : colsF m.length (triMid m k m.length) = triRow m (k + 1) := colsF_congr fun j hj => by simp [triMid, hj]
theorem triMid_same {m : List (List Int)} {k t : Nat} (h : gi (gr m k) t = 0) : colsF m.length (triMid m k (t + 1)) = colsF m.length (triMid m k t) := colsF_congr fun j _ => by
  unfold triMid
  by_cases e : j = t
  · subst e
    rw [if_pos (by omega), if_neg (by omega), colR, h, Int.add_zero]
  · have : (j < t + 1) = (j < t) := propext (by omega)
    simp only [this]
theorem triMid_flip {m : List (List Int)} (hg : good m) {k t : Nat} (hk : k < m.length) (ht : t < m.length) (h : gi (gr m k) t ≠ 0) : mask (colsF m.length (triMid m k t)) ^^^ 2 ^ t = mask (colsF m.length (triMid m k (t + 1))) := by
  refine mask_flip ht ?_ (fun i hi => ?_)
  · unfold triMid
    rw [if_pos (by omega), if_neg (by omega), colR]
    have h1 := colR_01 hg ht (show k ≤ m.length by omega)
    have h2 := colR_01 hg ht (show k + 1 ≤ m.length by omega)
    rw [colR] at h2
    by_cases e : colR m t k = 1
    · have : ¬ colR m t k + gi (gr m k) t = 1 := by omega
      simp [e, this]; omega
    · have : colR m t k + gi (gr m k) t = 1 := by omega
      simp [e, this]
  · unfold triMid
    have : (i < t + 1) = (i < t) := propext (by omega)
    simp only [this]

theorem xor_step (n t : Nat) (f : Nat → Bool) (hn : n ≤ 16) (ht : t ≤ 15) : bits .xor .u64 ((mask (colsF n f) : Nat) : Int) ((2 ^ t : Nat) : Int) = ((mask (colsF n f) ^^^ 2 ^ t : Nat) : Int) := by
  have := mask_lt16 (colsF_rise f hn)
  have h2 : 2 ^ t ≤ 2 ^ 15 := Nat.pow_le_pow_right (by omega) (by omega)
  rw [u64_xor_nat _ _ (by omega) (by omega)]

theorem OwnP.nil0 (w : World) (B : Nat) (m : List (List Int)) : OwnP w B (.slice none 0 0) 0 m 0 [] := ⟨World.ownsRow_nil _ _ _ _, fun i hi => absurd hi (by omega), fun i j _ hj => absurd hj (by omega)⟩
/-- the sums of the columns in the middle of row k -/
def sumMid (m : List (List Int)) (k t : Nat) : List Int := (List.range m.length).map fun j => colR m j (if j < t then k + 1 else k)
theorem sumMid_len (m : List (List Int)) (k t : Nat) : (sumMid m k t).length = m.length := by simp [sumMid]
theorem gi_sumMid {m : List (List Int)} {k t j : Nat} (hj : j < m.length) : gi (sumMid m k t) j = colR m j (if j < t then k + 1 else k) := gi_row hj
theorem sumMid_set {m : List (List Int)} {k t : Nat} (ht : t < m.length) : (sumMid m k t).set t (colR m t k + gi (gr m k) t) = sumMid m k (t + 1) := by
  refine ext_gi (by rw [List.length_set, sumMid_len, sumMid_len]) fun j hj => ?_
  rw [List.length_set, sumMid_len] at hj
  rw [gi_set (by rw [sumMid_len]; exact ht), gi_sumMid hj, gi_sumMid hj]
  by_cases e : j = t
  · subst e; rw [if_pos rfl, if_pos (by omega), colR]
  · rw [if_neg e]
    have : (j < t + 1) = (j < t) := propext (by omega)
    simp only [this]
theorem sumMid_next (m : List (List Int)) (k : Nat) : sumMid m k m.length = sumMid m (k + 1) 0 := by
  refine ext_gi (by rw [sumMid_len, sumMid_len]) fun j hj => ?_
  rw [sumMid_len] at hj
  rw [gi_sumMid hj, gi_sumMid hj, if_pos hj, if_neg (by omega)]
theorem sumMid_zero (m : List (List Int)) : sumMid m 0 0 = List.replicate m.length 0 := by
  refine ext_gi (by rw [sumMid_len, List.length_replicate]) fun j hj => ?_
  rw [sumMid_len] at hj
  rw [gi_sumMid hj, if_neg (by omega), gi_lt (by simpa using hj)]
  simp [colR]

/-- what stands apart from one block is kept where that block alone turns -/
theorem OwnP.kept {w w1 : World} {B n k g : Nat} {v : Value} {m : List (List Int)} {vs : List Value} (h : OwnP w B v n m k vs) (hg : w.grownBy w1 (some g)) (hB : g < B) : OwnP w1 B v n m k vs := by
  have ap : ∀ (e : TypeId) (u : Value) (n : Nat) (xs : List Value), w.ownsRow B e 1 u n xs → w1.ownsRow B e 1 u n xs := fun e u n xs hx => by
    refine World.ownsRow.kept hx hg ?_
    cases hb : u.ownBlock with
    | none => exact .inl rfl
    | some g' => exact .inr (fun e => by cases e; have := (World.ownsRow.lt hx g hb).1; omega)
  exact ⟨ap _ _ _ _ h.top, fun i hi => ap _ _ _ _ (h.rows i hi), h.apart⟩

end Go.Proofs.YtgdijjfipicodaaDoor

