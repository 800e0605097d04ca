/- Parts of proofs: contracts and plain facts. Conditions: as each says. -/
import Derived.Test.YtopamhcnbocfoaaDoorK01
namespace Go.Proofs.YtopamhcnbocfoaaDoor
open Go.RowKit

theorem wrap_neg {s x : Int} (h : s + x = 9223372036854775808) : wrap64 (s + x) < 0 := by
  rw [h]
  unfold wrap64
  omega

set_option maxRecDepth 100000 in
set_option maxHeartbeats 400000 in
theorem signsAlternate_any (ao : Option Addr) (c : Nat) (xs : List Int) (w : World) (hn : xs.length ≤ 1048576) (hwf : WfI xs) (hx : IntsAt w ao xs) :
    Calls Tryd.prog 38 #[.slice ao xs.length c] w fun e w' => Ans (lineOk xs) e ∧ w = w' := by
  have hmx : xs.length ≤ 9223372036854775807 := by omega
  have Hwf := Lib.hid hwf
  have Hx := Lib.hid hx
  clear hwf hx
  go_enter Tryd.func38, Tryd.ntmps38
  go_wp2
  go_loop [3, 8] (fun s i => ∃ t : Nat, t ≤ xs.length ∧ i = .int .i64 t ∧ s = .int .i64 (sumK xs t) ∧ (∀ u, u ≤ t → 0 ≤ sumK xs u ∧ sumK xs u ≤ 1)) (fun _ i => xs.length - (intOf i).toNat)
  case atStart => exact ⟨0, Nat.zero_le _, rfl, rfl, fun u hu => by obtain rfl : u = 0 := by omega
                                                                    simp [sumK]⟩
  case round =>
    obtain ⟨t, ht, rfl, rfl, hsum⟩ := hrel
    have hs0 := (hsum t (Nat.le_refl _)).1
    have hs1 := (hsum t (Nat.le_refl _)).2
    have Hsum := Lib.hid hsum
    clear hsum
    by_cases htl : t < xs.length
    · obtain ⟨b2, o2, rfl, hc2⟩ := Hx.out t htl
      have hw1 := (Hwf.out t htl).1
      have hw2 := (Hwf.out t htl).2
      have hno : ¬ (0 ≤ sumK xs (t + 1) ∧ sumK xs (t + 1) ≤ 1) → ¬ lineOk xs := fun h hl => h (hl.1 (t + 1) (by omega))
      have hsu : sumK xs (t + 1) = sumK xs t + gi xs t := rfl
      have Hno := Lib.hid hno
      have Hsu := Lib.hid hsu
      obtain ⟨x, hx⟩ : ∃ x, x = gi xs t := ⟨_, rfl⟩
      obtain ⟨s, hsm⟩ : ∃ s, s = sumK xs t := ⟨_, rfl⟩
      rw [← hx] at hc2 hw1 hw2
      rw [← hsm] at hs0 hs1 ⊢
      have Hx := Lib.hid hx
      have Hsm := Lib.hid hsm
      clear hx hsm hno hsu
      by_cases hA : s + x < 0
      · go_wp2
        go_ret
        exact ⟨Ans.no (Hno.out (by rw [Hsu.out, ← Hx.out, ← Hsm.out]; omega)), rfl⟩
      · by_cases hD : s + x = 9223372036854775808
        · have HD := Lib.hid hD
          have hneg := wrap_neg hD
          have hbad : ¬ lineOk xs := Hno.out (by rw [Hsu.out, ← Hx.out, ← Hsm.out]; omega)
          have Hbad := Lib.hid hbad
          clear hD hA hbad hw1 hw2 hs0 hs1
          go_wp2
          go_ret
          exact ⟨Ans.no Hbad.out, rfl⟩
        · have hle : s + x ≤ 9223372036854775807 := by omega
          clear hD
          by_cases hC : 1 < s + x
          · have hd : decide ((1 : Int) < s + x) = true := by simpa using hC
            go_wp2
            go_ret
            exact ⟨Ans.no (Hno.out (by rw [Hsu.out, ← Hx.out, ← Hsm.out]; omega)), rfl⟩
          · have hd : decide ((1 : Int) < s + x) = false := by simpa using hC
            go_wp2
            go_round
            case rel =>
              have e1 : s + x = sumK xs (t + 1) := by rw [Hsu.out, ← Hx.out, ← Hsm.out]
              refine ⟨t + 1, by omega, by go_num, by rw [← e1], fun u hu => ?_⟩
              by_cases e : u = t + 1
              · subst e; rw [← e1]; omega
              · exact Hsum.out u (by omega)
            case measure => simp [intOf]; omega
    · obtain rfl : t = xs.length := by omega
      obtain ⟨s, hsm⟩ : ∃ s, s = sumK xs xs.length := ⟨_, rfl⟩
      rw [← hsm] at hs0 hs1 ⊢
      have Hsm := Lib.hid hsm
      clear hsm
      by_cases he : s = 1
      · have hb : (s == 1) = true := by simp [he]
        have He := Lib.hid he
        clear he
        go_wp2
        go_ret
        exact ⟨Ans.yes ⟨Hsum.out, by rw [← Hsm.out]; exact He.out⟩, rfl⟩
      · have hb : (s == 1) = false := by simp [he]
        go_wp2
        go_ret
        refine ⟨Ans.no fun h => ?_, rfl⟩
        have := h.2
        rw [← Hsm.out] at this
        exact he this

/-- the table itself, then the one with rows and columns exchanged -/
def selM (m : List (List Int)) (k : Nat) : List (List Int) := if k = 0 then m else tr m

theorem wf_tr {m : List (List Int)} (h : square m) (hw : WfM m) : WfM (tr m) := by
  intro i hi
  rw [tr_len] at hi
  intro j hj
  rw [tr_row hi] at hj
  rw [gi_tr hi hj]
  exact hw j hj i (by rw [h.2.2 j hj]; exact hi)

set_option maxRecDepth 100000 in
set_option maxHeartbeats 800000 in
theorem implIsSign_any (ao : Option Addr) (c : Nat) (m : List (List Int)) (w : World) (hs : Small m) (hwf : WfM m) (hm : MatAt w ao m) :
    Calls Tryd.prog 24 #[.slice ao m.length c] w fun e w' => Ans (good m) e ∧ Below w.heap.size w w' := by
  by_cases hsq : square m
  · have Hsq := Lib.hid hsq
    have Hs := Lib.hid hs
    have Hm := Lib.hid hm
    have Hwf := Lib.hid hwf
    have hn := hsq.2.1
    have hmx : m.length ≤ 9223372036854775807 := by omega
    clear hsq hs hm hwf
    go_enter Tryd.func24, Tryd.ntmps24
    go_wp2_with fail
    refine (isSquare_any ao c m w Hs.out Hm.out).mono ?_
    rintro e w2 ⟨ha, hb0⟩
    obtain rfl := ha.is Hsq.out
    have Hb0 := Lib.hid hb0
    clear ha hb0
    go_wp2_with fail
    refine (transposed_any ao c m w2 Hsq.out (Hm.out.below Hb0.out)).mono ?_
    rintro e w1 ⟨v, rfl, hv0, hb0⟩
    have hv := hv0.base Hb0.out.size
    have hb := Hb0.out.trans (hb0.mono Hb0.out.size)
    clear hv0 hb0
    obtain ⟨a2, c2, rfl, hc1, hc2, hr⟩ := hv.read
    rw [tr_len]
    have hsz := hb.size
    have hb2 : Below w.heap.size w (w1.alloc (.cells #[.slice ao m.length c, .slice a2 m.length c2] 41)) := hb.alloc hsz _
    have hb3 : Below w1.heap.size w1 (w1.alloc (.cells #[.slice ao m.length c, .slice a2 m.length c2] 41)) := (Below.refl _ _).alloc (Nat.le_refl _) _
    have hsel : ∀ k, k < 2 → ∃ a d, (w1.alloc (.cells #[.slice ao m.length c, .slice a2 m.length c2] 41)).cell? ⟨w1.heap.size, k, none⟩ = some (.slice a m.length d) ∧
        MatAt (w1.alloc (.cells #[.slice ao m.length c, .slice a2 m.length c2] 41)) a (selM m k) ∧ (selM m k).length = m.length ∧ square (selM m k) ∧ WfM (selM m k) := by
      intro k hk
      by_cases e : k = 0
      · subst e
        exact ⟨ao, c, by rw [cell_new]; rfl, Hm.out.below hb2, rfl, Hsq.out, Hwf.out⟩
      · obtain rfl : k = 1 := by omega
        exact ⟨a2, c2, by rw [cell_new]; rfl, hr.below hb3, tr_len m, Hsq.out.tr, wf_tr Hsq.out Hwf.out⟩
    have Hsel := Lib.hid hsel
    have Hb2 := Lib.hid hb2
    clear hv hb hr hb2 hb3 hsel
    go_wp2
    go_loop [15] (fun i => ∃ k : Nat, k ≤ 2 ∧ i = .int .i64 k ∧ ∀ j, j < k → rowsOk (selM m j)) (fun i => 2 - (intOf i).toNat)
    case atStart => exact ⟨0, Nat.zero_le _, rfl, fun j hj => absurd hj (by omega)⟩
    case round =>
      obtain ⟨k, hk, rfl, hdone⟩ := hrel
      have Hd := Lib.hid hdone
      clear hdone
      by_cases hlt : k < 2
      · obtain ⟨a, d, hcell, hmat, hlen, hsq2, hwf2⟩ := Hsel.out k hlt
        have Hmat := Lib.hid hmat
        have Hlen := Lib.hid hlen
        have Hsq2 := Lib.hid hsq2
        have Hwf2 := Lib.hid hwf2
        clear hmat hlen hsq2 hwf2 hc1 hc2
        go_wp2
        go_loop [21] (fun i => ∃ t : Nat, t ≤ m.length ∧ i = .int .i64 t ∧ ∀ j, j < t → lineOk (gr (selM m k) j)) (fun i => m.length - (intOf i).toNat)
        case atStart => exact ⟨0, Nat.zero_le _, rfl, fun j hj => absurd hj (by omega)⟩
        case round =>
          obtain ⟨t, ht, rfl, hln⟩ := hrel
          have Hln := Lib.hid hln
          clear hln
          by_cases htl : t < m.length
          · obtain ⟨b3, o3, r3, d3, rfl, hc3, hx3, _, _⟩ := Hmat.out t (by rw [Hlen.out]; exact htl)
            have hrl : (gr (selM m k) t).length ≤ 1048576 := by rw [Hsq2.out.2.2 t (by rw [Hlen.out]; exact htl), Hlen.out]; omega
            have Hx3 := Lib.hid hx3
            clear hx3
            go_wp2_with fail
            refine (signsAlternate_any r3 d3 (gr (selM m k) t) _ hrl (Hwf2.out t (by rw [Hlen.out]; exact htl)) Hx3.out).mono ?_
            rintro e w3 ⟨ha, rfl⟩
            by_cases hok : lineOk (gr (selM m k) t)
            · have Hok := Lib.hid hok
              clear hok
              obtain rfl := ha.is Hok.out
              clear ha
              go_wp2
              go_round
              case rel =>
                refine ⟨t + 1, by omega, by go_num, fun j hj => ?_⟩
                by_cases e : j = t
                · subst e; exact Hok.out
                · exact Hln.out j (by omega)
              case measure => simp [intOf]; omega
            · have Hok := Lib.hid hok
              clear hok
              obtain rfl := ha.isnt Hok.out
              clear ha
              go_wp2
              go_ret
              refine ⟨Ans.no fun h => Hok.out ?_, Hb2.out⟩
              have hlt' : t < (selM m k).length := by rw [Hlen.out]; exact htl
              unfold selM at hlt' ⊢
              split
              · next e => rw [if_pos e] at hlt'; exact h.2.1 t hlt'
              · next e => rw [if_neg e] at hlt'; exact h.2.2 t hlt'
          · obtain rfl : t = m.length := by omega
            go_wp2
            go_round
            case rel =>
              refine ⟨k + 1, by omega, by go_num, fun j hj => ?_⟩
              by_cases e : j = k
              · subst e; intro i hi; exact Hln.out i (by rw [Hlen.out] at hi; exact hi)
              · exact Hd.out j (by omega)
            case measure => simp [intOf]; omega
      · obtain rfl : k = 2 := by omega
        go_wp2
        go_ret
        exact ⟨Ans.yes ⟨Hsq.out, Hd.out 0 (by omega), Hd.out 1 (by omega)⟩, Hb2.out⟩
  · have Hsq := Lib.hid hsq
    have Hs := Lib.hid hs
    have Hm := Lib.hid hm
    clear hsq hs hm hwf
    go_enter Tryd.func24, Tryd.ntmps24
    go_wp2_with fail
    refine (isSquare_any ao c m w Hs.out Hm.out).mono ?_
    rintro e w2 ⟨ha, hb0⟩
    obtain rfl := ha.isnt Hsq.out
    have Hb0 := Lib.hid hb0
    clear ha hb0
    go_wp2
    go_ret
    exact ⟨Ans.no fun h => Hsq.out h.1, Hb0.out⟩
end Go.Proofs.YtopamhcnbocfoaaDoor

namespace Go.Proofs.YtopamhcnbocfoaaDoor
open Go.RowKit

/-- the rows backwards -/
def mir (m : List (List Int)) : List (List Int) := tab m.length m.length fun i j => gi (gr m i) (m.length - 1 - j)
theorem mir_len (m : List (List Int)) : (mir m).length = m.length := tab_len _ _ _
theorem mir_row {m : List (List Int)} {i : Nat} (h : i < m.length) : (gr (mir m) i).length = m.length := tab_row h
theorem gi_mir {m : List (List Int)} {i j : Nat} (hi : i < m.length) (hj : j < m.length) : gi (gr (mir m) i) j = gi (gr m i) (m.length - 1 - j) := gi_tab hi hj
theorem square.mir {m : List (List Int)} (h : square m) : square (mir m) := ⟨by rw [mir_len]; exact h.1, by rw [mir_len]; exact h.2.1, fun i hi => by rw [mir_len] at hi ⊢; exact mir_row hi⟩
/-- turned clockwise -/
def cw (m : List (List Int)) : List (List Int) := mir (tr m)
theorem cw_len (m : List (List Int)) : (cw m).length = m.length := by unfold cw; rw [mir_len, tr_len]
theorem cw_row {m : List (List Int)} {i : Nat} (h : i < m.length) : (gr (cw m) i).length = m.length := by unfold cw; rw [mir_row (by rw [tr_len]; exact h), tr_len]
theorem gi_cw {m : List (List Int)} {i j : Nat} (hi : i < m.length) (hj : j < m.length) : gi (gr (cw m) i) j = gi (gr m (m.length - 1 - j)) i := by
  unfold cw
  rw [gi_mir (by rw [tr_len]; exact hi) (by rw [tr_len]; exact hj), tr_len, gi_tr hi (by omega)]
theorem square.cw {m : List (List Int)} (h : square m) : square (cw m) := h.tr.mir

/-- the answer of a function that hands back a table and whether there is one -/
def MRes (p : Prop) (r : List (List Int)) (w : World) (B : Nat) (e : Ending) : Prop :=
  ∃ v b r', e = .returned (.tuple #[v, .bool b]) ∧ OwnM w B v r' ∧ ((p ∧ b = true ∧ r' = r) ∨ (¬p ∧ b = false ∧ r' = []))
theorem MRes.yes {p : Prop} {r : List (List Int)} {w : World} {B : Nat} {v : Value} (h : p) (ho : OwnM w B v r) : MRes p r w B (.returned (.tuple #[v, .bool true])) := ⟨v, true, r, rfl, ho, .inl ⟨h, rfl, rfl⟩⟩
theorem MRes.no {p : Prop} {r : List (List Int)} {w : World} {B : Nat} (h : ¬p) : MRes p r w B (.returned (.tuple #[.slice none 0 0, .bool false])) := ⟨_, false, [], rfl, OwnM.nil _ _, .inr ⟨h, rfl, rfl⟩⟩


end Go.Proofs.YtopamhcnbocfoaaDoor

namespace Go.Proofs.YtopamhcnbocfoaaDoor
open Go.RowKit

theorem OwnP.only {w w' : World} {S : Nat → Prop} {B n k : Nat} {v : Value} {m : List (List Int)} {vs : List Value} (h : OwnP w B v n m k vs) (ho : OnlyW S w w') (hS : ∀ g, S g → g < B) : OwnP w' B v n m k vs := by
  refine ⟨ownsRow_only h.top ho (fun g hg hs => ?_), fun i hi => ownsRow_only (h.rows i hi) ho (fun g hg hs => ?_), h.apart⟩
  · have h1 := (World.ownsRow.lt h.top g hg).1
    have h2 := hS g hs
    omega
  · have h1 := ((h.rows i hi).lt g hg).1
    have h2 := hS g hs
    omega

/-- the blocks of the rows -/
theorem OwnP.span {w : World} {B n : Nat} {v : Value} {m : List (List Int)} {vs : List Value} (h : OwnP w B v n m n vs) {g : Nat} (hg : ∃ i, i < n ∧ (vs.getD i undef).ownBlock = some g) : B ≤ g ∧ g < w.heap.size := by
  obtain ⟨i, hi, e⟩ := hg
  exact (h.rows i hi).lt g e

theorem OwnP.at {w : World} {B n c : Nat} {ao : Option Addr} {m : List (List Int)} {vs : List Value} (h : OwnP w B (.slice ao n c) n m n vs) (hn : m.length = n) : MatAt w ao m := by
  subst hn
  obtain ⟨ao', c', hv, _, _, hm⟩ := OwnM.read ⟨vs, h⟩
  obtain ⟨rfl, -, rfl⟩ := (Value.slice.injEq _ _ _ _ _ _).mp hv
  exact hm

theorem OwnM.open {w : World} {B : Nat} {v : Value} {m : List (List Int)} (h : OwnM w B v m) : ∃ ao c vs, v = .slice ao m.length c ∧ OwnP w B (.slice ao m.length c) m.length m m.length vs ∧ m.length ≤ c ∧ c ≤ 9223372036854775807 := by
  obtain ⟨ao, c, hv, h1, h2, _⟩ := h.read
  obtain ⟨vs, h⟩ := h
  exact ⟨ao, c, vs, hv, by rw [← hv]; exact h, h1, h2⟩

theorem mres_same {p : Prop} {r q : List (List Int)} {b : Bool} (h : (p ∧ b = true ∧ q = r) ∨ (¬p ∧ b = false ∧ q = [])) :
    ∀ (b' : Bool) (q' : List (List Int)), ((p ∧ b' = true ∧ q' = r) ∨ (¬p ∧ b' = false ∧ q' = [])) → b = b' ∧ q = q' := by
  intro b' q' h'
  rcases h with ⟨h1, rfl, rfl⟩ | ⟨h1, rfl, rfl⟩ <;> rcases h' with ⟨k1, rfl, rfl⟩ | ⟨k1, rfl, rfl⟩
  · exact ⟨rfl, rfl⟩
  · exact absurd h1 k1
  · exact absurd k1 h1
  · exact ⟨rfl, rfl⟩

theorem own_at {w : World} {B n c : Nat} {ao : Option Addr} {xs : List Int} (h : OwnI w B (.slice ao n c) xs) : IntsAt w ao xs := by
  obtain ⟨ao', c', hv, _, _, hx⟩ := h.read
  obtain ⟨rfl, -, rfl⟩ := (Value.slice.injEq _ _ _ _ _ _).mp hv
  exact hx

/-- the last t numbers of row k, backwards -/
def backTo (m : List (List Int)) (k t : Nat) : List Int := (List.range t).map fun i => gi (gr m k) (m.length - 1 - i)
theorem backTo_succ (m : List (List Int)) (k t : Nat) : backTo m k (t + 1) = backTo m k t ++ [gi (gr m k) (m.length - 1 - t)] := by simp [backTo, List.range_succ]
theorem backTo_len (m : List (List Int)) (k t : Nat) : (backTo m k t).length = t := by simp [backTo]
theorem backTo_mir {m : List (List Int)} {k : Nat} (hk : k < m.length) : backTo m k m.length = gr (mir m) k := by unfold mir; rw [gr_tab hk]; rfl

end Go.Proofs.YtopamhcnbocfoaaDoor

namespace Go.Proofs.YtopamhcnbocfoaaDoor

/-- the numbers a..b -/
def rng (a b : Int) : List Int := (List.range (b - a + 1).toNat).map fun i : Nat => a + (i : Int)
theorem mem_rng {a b x : Int} : x ∈ rng a b ↔ a ≤ x ∧ x ≤ b := by
  unfold rng
  simp only [List.mem_map, List.mem_range]
  constructor
  · rintro ⟨i, hi, rfl⟩; omega
  · intro h; exact ⟨(x - a).toNat, by omega, by omega⟩
theorem rng_nil {a b : Int} (h : b < a) : rng a b = [] := by
  unfold rng
  rw [show (b - a + 1).toNat = 0 from by omega]; rfl
theorem rng_cons {a b : Int} (h : a ≤ b) : rng a b = a :: rng (a + 1) b := by
  unfold rng
  rw [show (b - a + 1).toNat = (b - (a + 1) + 1).toNat + 1 from by omega, List.range_succ_eq_map]
  simp [Function.comp_def]
  intro i hi; omega
theorem rng_snoc {a b : Int} (h : a ≤ b) : rng a b = rng a (b - 1) ++ [b] := by
  unfold rng
  rw [show (b - a + 1).toNat = (b - 1 - a + 1).toNat + 1 from by omega, List.range_succ]
  simp
  omega

/-- a row: numbers in 0..15 that rise, 1 to 6 of them -/
def isRowP (xs : List Int) : Prop := 1 ≤ xs.length ∧ xs.length ≤ 6 ∧ ∀ k, k < xs.length → (0 ≤ gi xs k ∧ gi xs k ≤ 15) ∧ (0 < k → gi xs (k - 1) < gi xs k)
/-- a row fits under the one above -/
def fitsP (row above : List Int) : Prop := ∀ k, k < above.length → gi row k ≤ gi above k ∧ gi above k ≤ gi row (k + 1)
def isTri (t : List (List Int)) : Prop := 1 ≤ t.length ∧ t.length ≤ 6 ∧ ∀ i, i < t.length → (gr t i).length = i + 1 ∧ isRowP (gr t i) ∧ (0 < i → fitsP (gr t i) (gr t (i - 1)))

/-- numbers that rise strictly, as a recursion -/
def Up : List Int → Prop
  | [] => True
  | [_] => True
  | a :: b :: r => a < b ∧ Up (b :: r)
theorem Up.tail {a : Int} {r : List Int} (h : Up (a :: r)) : Up r := by
  cases r with
  | nil => trivial
  | cons b r => exact h.2
theorem Up.lt {a : Int} {r : List Int} (h : Up (a :: r)) : ∀ x ∈ r, a < x := by
  induction r generalizing a with
  | nil => intro x hx; cases hx
  | cons b r ih =>
    intro x hx
    rcases List.mem_cons.1 hx with rfl | hx
    · exact h.1
    · have := ih h.2 x hx
      have := h.1
      omega
theorem Up.of {a : Int} {r : List Int} (h : Up r) (k : ∀ x ∈ r, a < x) : Up (a :: r) := by
  cases r with
  | nil => trivial
  | cons b r => exact ⟨k b (by simp), h⟩
theorem up_append {xs ys : List Int} (h : Up (xs ++ ys)) : Up xs ∧ Up ys ∧ ∀ x ∈ xs, ∀ y ∈ ys, x < y := by
  induction xs with
  | nil => exact ⟨trivial, h, fun x hx => by cases hx⟩
  | cons a r ih =>
    obtain ⟨h1, h2, h3⟩ := ih h.tail
    have h4 := Up.lt h
    refine ⟨Up.of h1 (fun x hx => h4 x (by simp [hx])), h2, fun x hx y hy => ?_⟩
    rcases List.mem_cons.1 hx with rfl | hx
    · exact h4 y (by simp [hy])
    · exact h3 x hx y hy
theorem up_join {xs ys : List Int} (h1 : Up xs) (h2 : Up ys) (h3 : ∀ x ∈ xs, ∀ y ∈ ys, x < y) : Up (xs ++ ys) := by
  induction xs with
  | nil => exact h2
  | cons a r ih =>
    refine Up.of (ih h1.tail (fun x hx => h3 x (by simp [hx]))) (fun x hx => ?_)
    rcases List.mem_append.1 hx with hx | hx
    · exact Up.lt h1 x hx
    · exact h3 a (by simp) x hx

theorem up_iff (xs : List Int) : Up xs ↔ ∀ k, k < xs.length → 0 < k → gi xs (k - 1) < gi xs k := by
  induction xs with
  | nil => exact ⟨fun _ k hk => absurd hk (by simp), fun _ => trivial⟩
  | cons a r ih =>
    cases r with
    | nil => exact ⟨fun _ k hk h0 => absurd hk (by simp; omega), fun _ => trivial⟩
    | cons b r =>
      constructor
      · intro h k hk h0
        obtain ⟨k, rfl⟩ : ∃ j, k = j + 1 := ⟨k - 1, by omega⟩
        cases k with
        | zero => exact h.1
        | succ k =>
          have := (ih.1 h.2) (k + 1) (by simp at hk ⊢; omega) (by omega)
          exact this
      · intro h
        refine ⟨h 1 (by simp) (by omega), ih.2 fun k hk h0 => ?_⟩
        have := h (k + 1) (by simp at hk ⊢; omega) (by omega)
        obtain ⟨k, rfl⟩ : ∃ j, k = j + 1 := ⟨k - 1, by omega⟩
        exact this

/-- numbers in 0..15 that rise -/
def Rise (xs : List Int) : Prop := Up xs ∧ ∀ x ∈ xs, 0 ≤ x ∧ x ≤ 15
theorem mem_gi {xs : List Int} {x : Int} (h : x ∈ xs) : ∃ k, k < xs.length ∧ gi xs k = x := by
  obtain ⟨k, hk, rfl⟩ := List.mem_iff_getElem.1 h
  exact ⟨k, hk, gi_lt hk⟩
theorem isRowP_iff (xs : List Int) : isRowP xs ↔ 1 ≤ xs.length ∧ xs.length ≤ 6 ∧ Rise xs := by
  unfold isRowP Rise
  rw [up_iff]
  constructor
  · rintro ⟨h1, h2, h3⟩
    refine ⟨h1, h2, fun k hk h0 => (h3 k hk).2 h0, fun x hx => ?_⟩
    obtain ⟨k, hk, rfl⟩ := mem_gi hx
    exact (h3 k hk).1
  · rintro ⟨h1, h2, h3, h4⟩
    exact ⟨h1, h2, fun k hk => ⟨h4 _ (gi_mem hk), h3 k hk⟩⟩

/-- the rows above xs whose numbers are beyond p, in order -/
def ab : List Int → Int → List (List Int)
  | [], _ => [[]]
  | [_], _ => [[]]
  | a :: b :: r, p => ((rng a b).filter fun x => decide (p < x)).flatMap fun x => (ab (b :: r) x).map fun ys => x :: ys
def above (xs : List Int) : List (List Int) := if xs.length < 2 then [] else ab xs (-1)

def lst (xs : List Int) : Int := xs.getLast?.getD (-1)
theorem lst_snoc (xs : List Int) (x : Int) : lst (xs ++ [x]) = x := by simp [lst]
theorem lst_nil : lst [] = -1 := rfl

/-- each beginning lengthened by each number in lo..hi beyond it -/
def leng (bs : List (List Int)) (lo hi : Int) : List (List Int) := bs.flatMap fun b => ((rng lo hi).filter fun v => decide (lst b < v)).map fun v => b ++ [v]
def bfs : List Int → List (List Int) → List (List Int)
  | [], bs => bs
  | [_], bs => bs
  | a :: b :: r, bs => bfs (b :: r) (leng bs a b)

theorem bfs_ab (xs : List Int) (bs : List (List Int)) : bfs xs bs = bs.flatMap fun b => (ab xs (lst b)).map fun ys => b ++ ys := by
  induction xs generalizing bs with
  | nil => simp [bfs, ab]
  | cons a r ih =>
    cases r with
    | nil => simp [bfs, ab]
    | cons b r =>
      simp only [bfs, ih, ab, leng]
      simp only [List.flatMap_assoc, List.flatMap_map, List.map_flatMap, lst_snoc, List.map_map, Function.comp_def, List.append_assoc, List.cons_append, List.nil_append]

theorem bfs_above {xs : List Int} (h : 2 ≤ xs.length) : bfs xs [[]] = above xs := by
  rw [bfs_ab, above, if_neg (by omega)]
  simp [lst_nil]

/-- what stands above rises and lies between -/
theorem ab_mem {xs : List Int} {p : Int} {ys : List Int} (h : ys ∈ ab xs p) : Up (p :: ys) ∧ (∀ y ∈ ys, ∃ a ∈ xs, a ≤ y) ∧ (∀ y ∈ ys, ∃ a ∈ xs, y ≤ a) ∧ ys.length = xs.length - 1 := by
  induction xs generalizing p ys with
  | nil => simp [ab] at h; subst h; simp [Up]
  | cons a r ih =>
    cases r with
    | nil => simp [ab] at h; subst h; simp [Up]
    | cons b r =>
      simp only [ab, List.mem_flatMap, List.mem_filter, decide_eq_true_eq, List.mem_map, mem_rng] at h
      obtain ⟨x, ⟨⟨h1, h2⟩, h3⟩, zs, hz, rfl⟩ := h
      obtain ⟨i1, i2, i3, i4⟩ := ih hz
      refine ⟨⟨h3, i1⟩, fun y hy => ?_, fun y hy => ?_, by simp at i4 ⊢; omega⟩
      · rcases List.mem_cons.1 hy with rfl | hy
        · exact ⟨a, by simp, h1⟩
        · obtain ⟨c, hc, hle⟩ := i2 y hy
          exact ⟨c, by simp at hc ⊢; exact .inr hc, hle⟩
      · rcases List.mem_cons.1 hy with rfl | hy
        · exact ⟨b, by simp, h2⟩
        · obtain ⟨c, hc, hle⟩ := i3 y hy
          exact ⟨c, by simp at hc ⊢; exact .inr hc, hle⟩

theorem above_mem {xs ys : List Int} (hx : Rise xs) (h : ys ∈ above xs) : Rise ys ∧ ys.length + 1 = xs.length := by
  unfold above at h
  split at h
  · cases h
  · next h2 =>
    obtain ⟨h1, h3, h4, h5⟩ := ab_mem h
    refine ⟨⟨h1.tail, fun y hy => ?_⟩, by omega⟩
    obtain ⟨a, ha, hle⟩ := h3 y hy
    obtain ⟨b, hb, hle2⟩ := h4 y hy
    have := hx.2 a ha
    have := hx.2 b hb
    omega

theorem above_one {xs : List Int} (h : xs.length < 2) : above xs = [] := by rw [above, if_pos h]

/-- there are no more than so many -/
theorem rng_filter_le {a b : Int} (ha : 0 ≤ a) (hb : b ≤ 15) (f : Int → Bool) : ((rng a b).filter f).length ≤ 16 := by
  refine Nat.le_trans (List.length_filter_le _ _) ?_
  unfold rng
  simp
  omega
theorem flatMap_le {α β : Type} {l : List α} {f : α → List β} {n k : Nat} (h1 : l.length ≤ n) (h2 : ∀ x ∈ l, (f x).length ≤ k) : (l.flatMap f).length ≤ n * k := by
  induction l generalizing n with
  | nil => simp
  | cons a r ih =>
    simp only [List.flatMap_cons, List.length_append]
    have := ih (n := r.length) (Nat.le_refl _) (fun x hx => h2 x (by simp [hx]))
    have := h2 a (by simp)
    have : (r.length + 1) * k ≤ n * k := Nat.mul_le_mul_right _ (by simpa using h1)
    rw [Nat.add_mul] at this
    omega
theorem ab_len {xs : List Int} (h : ∀ x ∈ xs, 0 ≤ x ∧ x ≤ 15) (p : Int) : (ab xs p).length ≤ 16 ^ (xs.length - 1) := by
  induction xs generalizing p with
  | nil => simp [ab]
  | cons a r ih =>
    cases r with
    | nil => simp [ab]
    | cons b r =>
      simp only [ab]
      have h1 := h a (by simp)
      have h2 := h b (by simp)
      refine Nat.le_trans (flatMap_le (k := 16 ^ r.length) (rng_filter_le (by omega) (by omega) _) (fun x _ => ?_)) (by simp [Nat.pow_succ, Nat.mul_comm])
      rw [List.length_map]
      exact ih (fun x hx => h x (by simp [hx])) x
theorem above_len {xs : List Int} (h : Rise xs) : (above xs).length ≤ 16 ^ (xs.length - 1) := by
  unfold above
  split
  · simp
  · exact ab_len h.2 _

/-- sums over lists -/
def sumL {α : Type} (l : List α) (f : α → Int) : Int := (l.map f).sum
theorem sumL_nil {α : Type} (f : α → Int) : sumL [] f = 0 := rfl
theorem sumL_cons {α : Type} (a : α) (l : List α) (f : α → Int) : sumL (a :: l) f = f a + sumL l f := by simp [sumL]
theorem sumL_append {α : Type} (l k : List α) (f : α → Int) : sumL (l ++ k) f = sumL l f + sumL k f := by simp [sumL]
theorem sumL_congr {α : Type} {l : List α} {f g : α → Int} (h : ∀ x ∈ l, f x = g x) : sumL l f = sumL l g := by
  unfold sumL
  rw [List.map_congr_left h]
theorem sumL_perm {α : Type} {l k : List α} (h : l.Perm k) (f : α → Int) : sumL l f = sumL k f := by
  induction h with
  | nil => rfl
  | cons a _ ih => rw [sumL_cons, sumL_cons, ih]
  | swap a b l => simp only [sumL_cons]; omega
  | trans _ _ h1 h2 => rw [h1, h2]

/-- ways from a row up to rows of one number -/
def waysN : Nat → List Int → Int
  | 0, _ => 1
  | n + 1, xs => sumL (above xs) (waysN n)
def ways (xs : List Int) : Int := waysN (xs.length - 1) xs
theorem ways_one {xs : List Int} (h : xs.length < 2) : ways xs = 1 := by unfold ways; rw [show xs.length - 1 = 0 from by omega]; rfl
theorem ways_more {xs : List Int} (hx : Rise xs) (h : 2 ≤ xs.length) : ways xs = sumL (above xs) ways := by
  unfold ways
  obtain ⟨n, hn⟩ : ∃ n, xs.length - 1 = n + 1 := ⟨xs.length - 2, by omega⟩
  rw [hn, waysN]
  refine sumL_congr fun ys hy => ?_
  have := (above_mem hx hy).2
  rw [show ys.length - 1 = n from by omega]

/-- .. j steps up, a score on the way, weighed at the end -/
def climbW (sc : List Int → List Int → Int) (φ : List Int → Int → Int) : Nat → List Int → Int → Int
  | 0, xs, s => φ xs s
  | j + 1, xs, s => sumL (above xs) fun ys => climbW sc φ j ys (s + sc xs ys)
/-- .. where one can stand -/
def reach (sc : List Int → List Int → Int) (xs : List Int) : Nat → List (List Int × Int)
  | 0 => [(xs, 0)]
  | j + 1 => (reach sc xs j).flatMap fun p => (above p.1).map fun ys => (ys, p.2 + sc p.1 ys)

theorem climb_ways (sc : List Int → List Int → Int) {xs : List Int} (s : Int) : ∀ {j : Nat}, climbW sc (fun _ _ => 1) j xs s = waysN j xs
  | 0 => rfl
  | j + 1 => by
    simp only [climbW, waysN]
    exact sumL_congr fun ys _ => climb_ways sc _

/-- a set of numbers -/
def mask : List Int → Nat
  | [] => 0
  | x :: r => 2 ^ x.toNat ||| mask r

end Go.Proofs.YtopamhcnbocfoaaDoor

namespace Go.Proofs.YtopamhcnbocfoaaDoor
theorem mask_nil : mask [] = 0 := rfl
theorem testBit_mask {xs : List Int} (h : ∀ x ∈ xs, 0 ≤ x) (i : Nat) : (mask xs).testBit i = decide ((i : Int) ∈ xs) := by
  induction xs with
  | nil => simp [mask]
  | cons a r ih =>
    have ha := h a (by simp)
    rw [mask, Nat.testBit_or, Nat.testBit_two_pow, ih (fun x hx => h x (by simp [hx]))]
    by_cases e : a.toNat = i
    · have : (i : Int) = a := by omega
      simp [e, this]
    · have : ¬ (i : Int) = a := by omega
      simp [e, this]
theorem mask_append (xs ys : List Int) : mask (xs ++ ys) = mask xs ||| mask ys := by
  induction xs with
  | nil => simp [mask]
  | cons a r ih => rw [List.cons_append, mask, mask, ih, Nat.or_assoc]
theorem mask_snoc (xs : List Int) (v : Int) : mask (xs ++ [v]) = mask xs ||| 2 ^ v.toNat := by
  rw [mask_append]; simp [mask]
theorem mask_lt {xs : List Int} {n : Nat} (h : ∀ x ∈ xs, 0 ≤ x ∧ x < n) : mask xs < 2 ^ n := by
  induction xs with
  | nil => simp [mask, Nat.two_pow_pos]
  | cons a r ih =>
    rw [mask]
    have := h a (by simp)
    exact Nat.or_lt_two_pow (Nat.pow_lt_pow_right (by omega) (by omega)) (ih (fun x hx => h x (by simp [hx])))
theorem mask_lt16 {xs : List Int} (h : Rise xs) : mask xs < 65536 := mask_lt (n := 16) (fun x hx => by have := h.2 x hx; omega)
theorem lst_mem {xs : List Int} (h : xs ≠ []) : lst xs ∈ xs := by
  unfold lst
  rw [List.getLast?_eq_some_getLast h]
  exact List.getLast_mem h
theorem le_lst {xs : List Int} (h : Up xs) : ∀ x ∈ xs, x ≤ lst xs := by
  intro x hx
  have hne : xs ≠ [] := by intro e; subst e; cases hx
  have e := List.dropLast_concat_getLast hne
  have e2 : lst xs = xs.getLast hne := by unfold lst; rw [List.getLast?_eq_some_getLast hne]; rfl
  rw [← e] at h hx
  obtain ⟨_, _, h3⟩ := up_append h
  rcases List.mem_append.1 hx with hx | hx
  · have := h3 x hx _ (by simp : xs.getLast hne ∈ [xs.getLast hne]); omega
  · simp at hx; omega
theorem mask_test {xs : List Int} (h : Up xs) (h0 : ∀ x ∈ xs, 0 ≤ x) {v : Int} (hv : 0 ≤ v) : mask xs < 2 ^ v.toNat ↔ lst xs < v := by
  constructor
  · intro hm
    by_cases hne : xs = []
    · subst hne; simp [lst]; omega
    · have hl := lst_mem hne
      have h1 := h0 _ hl
      by_cases hc : lst xs < v
      · exact hc
      · exfalso
        have hb : (mask xs).testBit (lst xs).toNat = true := by
          rw [testBit_mask h0]; simp [Int.toNat_of_nonneg h1, hl]
        have := Nat.ge_two_pow_of_testBit hb
        have : 2 ^ v.toNat ≤ 2 ^ (lst xs).toNat := Nat.pow_le_pow_right (by omega) (by omega)
        omega
  · intro hl
    refine mask_lt fun x hx => ⟨h0 x hx, ?_⟩
    have := le_lst h x hx
    omega
theorem mask_inj {xs ys : List Int} (hx : Up xs) (hx0 : ∀ x ∈ xs, 0 ≤ x) (hy : Up ys) (hy0 : ∀ x ∈ ys, 0 ≤ x) (h : mask xs = mask ys) : xs = ys := by
  have hm : ∀ z : Int, z ∈ xs ↔ z ∈ ys := by
    intro z
    by_cases hz : 0 ≤ z
    · have h1 := testBit_mask hx0 z.toNat
      have h2 := testBit_mask hy0 z.toNat
      rw [h, h2, Int.toNat_of_nonneg hz] at h1
      simpa using h1.symm
    · exact ⟨fun k => absurd (hx0 z k) hz, fun k => absurd (hy0 z k) hz⟩
  clear h hx0 hy0
  induction xs generalizing ys with
  | nil =>
    cases ys with
    | nil => rfl
    | cons b s => exact absurd ((hm b).2 (by simp)) (by simp)
  | cons a r ih =>
    cases ys with
    | nil => exact absurd ((hm a).1 (by simp)) (by simp)
    | cons b s =>
      have l1 := Up.lt hx
      have l2 := Up.lt hy
      have e : a = b := by
        rcases List.mem_cons.1 ((hm a).1 (by simp)) with e | h1
        · exact e
        · rcases List.mem_cons.1 ((hm b).2 (by simp)) with e | h2
          · exact e.symm
          · have := l1 b h2; have := l2 a h1; omega
      subst e
      rw [ih hx.tail hy.tail (fun z => ?_)]
      constructor
      · intro hz
        rcases List.mem_cons.1 ((hm z).1 (by simp [hz])) with rfl | h1
        · exact absurd (l1 z hz) (by omega)
        · exact h1
      · intro hz
        rcases List.mem_cons.1 ((hm z).2 (by simp [hz])) with rfl | h1
        · exact absurd (l2 z hz) (by omega)
        · exact h1

/-- what lies beyond x is a multiple -/
theorem mask_beyond {r : List Int} {n : Nat} (h : ∀ y ∈ r, (n : Int) ≤ y) : ∃ q, mask r = 2 ^ n * q := by
  induction r with
  | nil => exact ⟨0, by simp [mask]⟩
  | cons a r ih =>
    obtain ⟨q, hq⟩ := ih (fun y hy => h y (by simp [hy]))
    have ha := h a (by simp)
    refine ⟨2 ^ (a.toNat - n) ||| q, ?_⟩
    rw [mask, hq]
    apply Nat.eq_of_testBit_eq
    intro i
    simp only [Nat.testBit_or, Nat.testBit_two_pow_mul, Nat.testBit_two_pow]
    by_cases hi : n ≤ i
    · simp [hi]; congr 1; simp; omega
    · simp [hi]; omega
theorem mask_head {x : Int} {r : List Int} (h : Up (x :: r)) (hx : 0 ≤ x) : ∃ q, mask r = 2 ^ (x.toNat + 1) * q ∧ mask (x :: r) = 2 ^ (x.toNat + 1) * q + 2 ^ x.toNat := by
  obtain ⟨q, hq⟩ := mask_beyond (r := r) (n := x.toNat + 1) (fun y hy => by have := Up.lt h y hy; omega)
  refine ⟨q, hq, ?_⟩
  rw [mask, hq]
  have : 2 ^ x.toNat < 2 ^ (x.toNat + 1) := Nat.pow_lt_pow_right (by omega) (by omega)
  rw [Nat.or_comm, ← Nat.two_pow_add_eq_or_of_lt this]
theorem mask_rest {x : Int} {r : List Int} (h : Up (x :: r)) (hx : 0 ≤ x) : mask (x :: r) &&& (mask (x :: r) - 1) = mask r := by
  obtain ⟨q, h1, h2⟩ := mask_head h hx
  have hp : 0 < 2 ^ x.toNat := Nat.two_pow_pos _
  have hlt : 2 ^ x.toNat < 2 ^ (x.toNat + 1) := Nat.pow_lt_pow_right (by omega) (by omega)
  rw [h2, h1, show 2 ^ (x.toNat + 1) * q + 2 ^ x.toNat - 1 = 2 ^ (x.toNat + 1) * q + (2 ^ x.toNat - 1) from by omega]
  apply Nat.eq_of_testBit_eq
  intro i
  rw [Nat.testBit_and, Nat.testBit_two_pow_mul_add _ hlt, Nat.testBit_two_pow_mul_add _ (by omega), Nat.testBit_two_pow_mul]
  by_cases hi : i < x.toNat + 1
  · simp only [hi, if_true, Nat.testBit_two_pow, Nat.testBit_two_pow_sub_one]
    by_cases e : x.toNat = i
    · subst e; simp; intro; omega
    · simp [e]; omega
  · simp [hi]; omega
theorem mask_low {x : Int} {r : List Int} (h : Up (x :: r)) (hx : 0 ≤ x) (hr : ∀ y ∈ x :: r, y ≤ 15) : mask (x :: r) &&& (18446744073709551616 - mask (x :: r)) = 2 ^ x.toNat := by
  obtain ⟨q, h1, h2⟩ := mask_head h hx
  have hx15 := hr x (by simp)
  have hm : mask (x :: r) < 2 ^ 16 := mask_lt (fun y hy => ⟨by rcases List.mem_cons.1 hy with rfl | hy; exact hx; have := Up.lt h y hy; omega, by have := hr y hy; omega⟩)
  have hlt : 2 ^ x.toNat < 2 ^ (x.toNat + 1) := Nat.pow_lt_pow_right (by omega) (by omega)
  have hq : q < 2 ^ (63 - x.toNat) := by
    have e : (2:Nat) ^ 64 = 2 ^ (x.toNat + 1) * 2 ^ (63 - x.toNat) := by rw [← Nat.pow_add]; congr 1; omega
    have : 2 ^ (x.toNat + 1) * q < 2 ^ (x.toNat + 1) * 2 ^ (63 - x.toNat) := by rw [← e]; omega
    exact Nat.lt_of_mul_lt_mul_left this
  have e2 : 18446744073709551616 - mask (x :: r) = 2 ^ (x.toNat + 1) * (2 ^ (63 - x.toNat) - (q + 1)) + 2 ^ x.toNat := by
    have e : (18446744073709551616:Nat) = 2 ^ (x.toNat + 1) * 2 ^ (63 - x.toNat) := by rw [← Nat.pow_add, show x.toNat + 1 + (63 - x.toNat) = 64 from by omega]
    rw [h2, Nat.mul_sub, ← e, Nat.mul_add]
    have : 2 ^ (x.toNat + 1) * (q + 1) ≤ 18446744073709551616 := by rw [e]; exact Nat.mul_le_mul_left _ (by omega)
    rw [Nat.mul_add] at this
    have e3 : 2 ^ (x.toNat + 1) = 2 ^ x.toNat + 2 ^ x.toNat := by rw [Nat.pow_succ]; omega
    omega
  rw [e2, h2]
  apply Nat.eq_of_testBit_eq
  intro i
  rw [Nat.testBit_and, Nat.testBit_two_pow_mul_add _ hlt, Nat.testBit_two_pow_mul_add _ hlt, Nat.testBit_two_pow]
  by_cases hi : i < x.toNat + 1
  · simp [hi]
  · simp only [hi, if_false, Nat.testBit_two_pow_sub_succ hq]
    have : ¬ x.toNat = i := by omega
    simp [this]
    intro a _; exact a
/-- the formula of the library for the number of ones -/
def pcF (x0 : Nat) : Nat :=
  let x1 := Nat.add (Nat.land (Nat.div x0 2) 6148914691236517205) (Nat.land x0 6148914691236517205)
  let x2 := Nat.add (Nat.land (Nat.div x1 4) 3689348814741910323) (Nat.land x1 3689348814741910323)
  let x3 := Nat.land (Nat.add (Nat.div x2 16) x2) 1085102592571150095
  let x4 := Nat.add x3 (Nat.div x3 256)
  let x5 := Nat.add x4 (Nat.div x4 65536)
  let x6 := Nat.add x5 (Nat.div x5 4294967296)
  Nat.land x6 127
/-- it is right at every set of up to 6 of the k first numbers, beside the set x of c others -/
def pcGo : Nat → Nat → Nat → Bool
  | 0, x, c => Nat.beq (pcF x) c
  | k + 1, x, c => (pcGo k x c).and (match Nat.beq c 6 with | true => true | false => pcGo k (Nat.add x (Nat.pow 2 k)) (Nat.succ c))
set_option maxRecDepth 100000 in
theorem pc_all : pcGo 16 0 0 = true := by decide +kernel
theorem pc_go {k x c : Nat} {xs : List Int} (h : pcGo k x c = true) (hu : Up xs) (hx : ∀ y ∈ xs, 0 ≤ y ∧ y < k) (hl : xs.length + c ≤ 6) : pcF (x + mask xs) = c + xs.length := by
  induction k generalizing x c xs with
  | zero =>
    have : xs = [] := by
      cases xs with
      | nil => rfl
      | cons a r => have := hx a (by simp); omega
    subst this
    have := Nat.eq_of_beq_eq_true h
    simpa [mask] using this
  | succ k ih =>
    simp only [pcGo, Bool.and] at h
    obtain ⟨h1, h2⟩ : pcGo k x c = true ∧ (match Nat.beq c 6 with | true => true | false => pcGo k (Nat.add x (Nat.pow 2 k)) (Nat.succ c)) = true := by
      revert h; cases pcGo k x c <;> simp
    by_cases hm : (k : Int) ∈ xs
    · have hne : xs ≠ [] := by intro e; subst e; cases hm
      have e := List.dropLast_concat_getLast hne
      generalize xs.dropLast = ys at e
      generalize xs.getLast hne = v at e
      subst e
      obtain ⟨u1, _, u3⟩ := up_append hu
      have hv : v = k := by
        rcases List.mem_append.1 hm with hm | hm
        · have := u3 _ hm v (by simp); have := hx v (by simp); omega
        · simp at hm; exact hm.symm
      subst hv
      have hc : Nat.beq c 6 = false := by
        cases hb : Nat.beq c 6
        · rfl
        · have := Nat.eq_of_beq_eq_true hb; simp at hl; omega
      rw [hc] at h2
      have hy : ∀ y ∈ ys, 0 ≤ y ∧ y < k := fun y hy => ⟨(hx y (by simp [hy])).1, by have := u3 y hy k (by simp); omega⟩
      have := ih h2 u1 hy (by simp at hl; omega)
      have em : mask (ys ++ [(k : Int)]) = 2 ^ k + mask ys := by
        rw [mask_snoc, Int.toNat_natCast, Nat.or_comm]
        have := Nat.two_pow_add_eq_or_of_lt (mask_lt hy) 1
        simpa using this.symm
      rw [em, ← Nat.add_assoc]
      refine Eq.trans this ?_
      simp; omega
    · exact ih h1 hu (fun y hy => ⟨(hx y hy).1, by have := (hx y hy).2; have : y ≠ k := fun e => hm (e ▸ hy); omega⟩) hl
theorem pc_mask {xs : List Int} (h : Rise xs) (hl : xs.length ≤ 6) : pcF (mask xs) = xs.length := by
  have := pc_go (x := 0) (c := 0) pc_all h.1 (fun y hy => by have := h.2 y hy; omega) hl
  simpa using this
end Go.Proofs.YtopamhcnbocfoaaDoor

namespace Go.Proofs.YtopamhcnbocfoaaDoor
open Go.RowKit

def sumF (f : Nat → Int) : Nat → Int
  | 0 => 0
  | k + 1 => sumF f k + f k

theorem sumF_congr {f g : Nat → Int} {k : Nat} (h : ∀ i, i < k → f i = g i) : sumF f k = sumF g k := by
  induction k with
  | zero => rfl
  | succ k ih => simp only [sumF]; rw [ih (fun i hi => h i (by omega)), h k (by omega)]

/-- sums of numbers of at most B -/
theorem sumF_bound {f : Nat → Int} {B : Int} : ∀ {k : Nat}, (∀ i, i < k → -B ≤ f i ∧ f i ≤ B) → -(k * B) ≤ sumF f k ∧ sumF f k ≤ k * B
  | 0, _ => by simp [sumF]
  | k + 1, h => by
    have h1 := sumF_bound (k := k) (fun i hi => h i (by omega))
    have h2 := h k (by omega)
    simp only [sumF]
    have e : ((k + 1 : Nat) : Int) * B = k * B + B := by
      rw [show ((k + 1 : Nat) : Int) = (k : Int) + 1 from by omega, Int.add_mul, Int.one_mul]
    omega

theorem good_entry {m : List (List Int)} (h : good m) {i j : Nat} (hi : i < m.length) (hj : j < m.length) : -1 ≤ gi (gr m i) j ∧ gi (gr m i) j ≤ 1 := by
  have hl := h.1.2.2 i hi
  have h1 := (h.2.1 i hi).1 j (by omega)
  have h2 := (h.2.1 i hi).1 (j + 1) (by omega)
  simp only [sumK] at h2
  omega

def isNeg (x : Int) : Int := if x < 0 then 1 else 0
def isM1 (x : Int) : Int := if x = -1 then 1 else 0

/-- the sum over all numbers of a table of n rows of n numbers -/
def sum2 (f : Int → Int) (m : List (List Int)) : Int := sumF (fun i => sumF (fun j => f (gi (gr m i) j)) m.length) m.length

/-- how many minus ones -/
def mcount (m : List (List Int)) : Int := sum2 isNeg m

theorem mcount_m1 {m : List (List Int)} (h : good m) : sum2 isM1 m = mcount m := by
  refine sumF_congr fun i hi => sumF_congr fun j hj => ?_
  have := good_entry h hi hj
  unfold isM1 isNeg
  by_cases e : gi (gr m i) j = -1
  · rw [if_pos e, if_pos (by omega)]
  · rw [if_neg e, if_neg (by omega)]

def idI (x : Int) : Int := x
theorem m1_bound (xs : List Int) (k : Nat) (hk : k ≤ 1000000) : -1000000 ≤ sumF (fun i => isM1 (gi xs i)) k ∧ sumF (fun i => isM1 (gi xs i)) k ≤ 1000000 := by
  have := sumF_bound (f := fun i => isM1 (gi xs i)) (B := 1) (k := k) (fun i _ => by unfold isM1; split <;> omega)
  omega

theorem rowm1_bound (m : List (List Int)) {n k : Nat} (hn : n ≤ 6) (hk : k ≤ 6) : -1000000 ≤ sumF (fun i => sumF (fun j => isM1 (gi (gr m i) j)) n) k ∧ sumF (fun i => sumF (fun j => isM1 (gi (gr m i) j)) n) k ≤ 1000000 := by
  have := sumF_bound (f := fun i => sumF (fun j => isM1 (gi (gr m i) j)) n) (B := 6) (k := k) (fun i _ => by
    have := sumF_bound (f := fun j => isM1 (gi (gr m i) j)) (B := 1) (k := n) (fun j _ => by unfold isM1; split <;> omega)
    omega)
  omega

theorem neg_bound (m : List (List Int)) {n k : Nat} (hn : n ≤ 6) (hk : k ≤ 6) : 0 ≤ sumF (fun i => sumF (fun j => isNeg (gi (gr m i) j)) n) k ∧ sumF (fun i => sumF (fun j => isNeg (gi (gr m i) j)) n) k ≤ 36 := by
  have h0 : ∀ (xs : List Int) t, 0 ≤ sumF (fun j => isNeg (gi xs j)) t ∧ sumF (fun j => isNeg (gi xs j)) t ≤ t := by
    intro xs t
    induction t with
    | zero => simp [sumF]
    | succ t ih =>
      have : 0 ≤ isNeg (gi xs t) ∧ isNeg (gi xs t) ≤ 1 := by unfold isNeg; split <;> omega
      simp only [sumF]
      omega
  have h1 : ∀ t, 0 ≤ sumF (fun i => sumF (fun j => isNeg (gi (gr m i) j)) n) t ∧ sumF (fun i => sumF (fun j => isNeg (gi (gr m i) j)) n) t ≤ t * 6 := by
    intro t
    induction t with
    | zero => simp [sumF]
    | succ t ih =>
      have := h0 (gr m t) n
      simp only [sumF]
      omega
  have := h1 k
  omega
theorem neg_bound1 (xs : List Int) {t : Nat} : 0 ≤ sumF (fun j => isNeg (gi xs j)) t ∧ sumF (fun j => isNeg (gi xs j)) t ≤ t := by
  induction t with
  | zero => simp [sumF]
  | succ t ih =>
    have : 0 ≤ isNeg (gi xs t) ∧ isNeg (gi xs t) ≤ 1 := by unfold isNeg; split <;> omega
    simp only [sumF]
    omega

end Go.Proofs.YtopamhcnbocfoaaDoor

