/- Parts of proofs: contracts and plain facts. Conditions: as each says. -/
import Derived.Test.YtjkpokpidpampaaDoorK18
import Derived.Laws.AppendOwn
import Derived.Laws.AppendOwnNone
import Derived.Deep.Cut
import Derived.Lib.SliceRun
namespace Go.Proofs.YtjkpokpidpampaaDoor
open Go.RowKit

theorem rowLess_step {xs ys : List Int} {k : Nat} (hx : k < xs.length) (hy : k < ys.length) :
    rowLess (xs.drop k) (ys.drop k) = if gi xs k = gi ys k then rowLess (xs.drop (k + 1)) (ys.drop (k + 1)) else decide (gi xs k < gi ys k) := by
  rw [List.drop_eq_getElem_cons hx, List.drop_eq_getElem_cons hy, rowLess, List.headD_cons, List.tail_cons, gi_lt hx, gi_lt hy]

set_option maxRecDepth 100000 in
set_option maxHeartbeats 400000 in
theorem trRowLess_any (a1 a2 : Option Addr) (c1 c2 : Nat) (xs ys : List Int) (w : World) (hn : xs.length ≤ 1048576) (hl : ys.length = xs.length) (h1 : IntsAt w a1 xs) (h2 : IntsAt w a2 ys) :
    Calls Tryd.prog 64 #[.slice a1 xs.length c1, .slice a2 ys.length c2] w fun e w' => e = .returned (.bool (rowLess xs ys)) ∧ w = w' := by
  have hm1 : xs.length ≤ 9223372036854775807 := by omega
  have hm2 : ys.length ≤ 9223372036854775807 := by omega
  have H1 := Lib.hid h1
  have H2 := Lib.hid h2
  have Hl := Lib.hid hl
  clear h1 h2
  go_enter Tryd.func64, Tryd.ntmps64
  go_wp2
  go_loop [9] (fun i => ∃ k : Nat, k ≤ xs.length ∧ i = .int .i64 k ∧ rowLess xs ys = rowLess (xs.drop k) (ys.drop k)) (fun i => xs.length - (intOf i).toNat)
  case atStart => exact ⟨0, Nat.zero_le _, rfl, rfl⟩
  case round =>
    obtain ⟨k, hk, rfl, hr⟩ := hrel
    by_cases hlt : k < xs.length
    · obtain ⟨b1, o1, rfl, hc1⟩ := H1.out k hlt
      obtain ⟨b2, o2, rfl, hc2⟩ := H2.out k (by omega)
      have hs := rowLess_step hlt (show k < ys.length by omega)
      by_cases e : gi xs k = gi ys k
      · rw [if_pos e] at hs
        have Hs := Lib.hid (hr.trans hs)
        rw [← e] at hc2
        obtain ⟨x, hx⟩ : ∃ x, x = gi xs k := ⟨_, rfl⟩
        rw [← hx] at hc1 hc2
        clear hx hs hr e
        go_wp2
        go_round
        case rel => exact ⟨k + 1, by omega, by go_num, Hs.out⟩
        case measure => simp [intOf]; omega
      · rw [if_neg e] at hs
        have Hs := Lib.hid (hr.trans hs)
        have hne : (gi xs k != gi ys k) = true := by simpa using e
        obtain ⟨x, hx⟩ : ∃ x, x = gi xs k := ⟨_, rfl⟩
        obtain ⟨y, hy⟩ : ∃ y, y = gi ys k := ⟨_, rfl⟩
        rw [← hx] at hc1 hne Hs
        rw [← hy] at hc2 hne Hs
        clear hx hy hs hr e
        go_wp2
        go_ret
        exact ⟨by rw [Hs.out]; rfl, rfl⟩
    · obtain rfl : k = xs.length := by omega
      have Hs := Lib.hid (show rowLess xs ys = false by rw [hr, List.drop_of_length_le (Nat.le_refl _)]; rfl)
      clear hr
      go_wp2
      go_ret
      exact ⟨by rw [Hs.out]; rfl, rfl⟩
end Go.Proofs.YtjkpokpidpampaaDoor

namespace Go.Proofs.YtjkpokpidpampaaDoor
open Go.RowKit

theorem takeWhile_at {α : Type} {p : α → Bool} : ∀ {L : List α} {j : Nat}, (∀ z ∈ L.take j, p z = true) → (∀ (h : j < L.length), p L[j] = false) → j ≤ L.length → L.takeWhile p = L.take j
  | [], j, _, _, hj => by obtain rfl : j = 0 := by simpa using hj
                          rfl
  | a :: r, 0, _, h2, _ => by
    have := h2 (by simp)
    simp only [List.getElem_cons_zero] at this
    simp [this]
  | a :: r, j + 1, h1, h2, hj => by
    have ha := h1 a (by simp)
    rw [List.takeWhile_cons, ha, List.take_succ_cons]
    simp only [if_true]
    rw [takeWhile_at (L := r) (j := j) (fun z hz => h1 z (by simp [hz])) (fun h => by have := h2 (by simpa using h); simpa using this) (by simpa using hj)]
/-- the rows with their values, one put in at j -/
def putAt {α : Type} (ps : List α) (j : Nat) (p : α) : List α := ps.take j ++ p :: ps.drop j
theorem putAt_map {α β : Type} (f : α → β) (ps : List α) (j : Nat) (p : α) : (putAt ps j p).map f = putAt (ps.map f) j (f p) := by simp [putAt, List.map_take, List.map_drop]
theorem putAt_len {α : Type} (ps : List α) (j : Nat) (p : α) (h : j ≤ ps.length) : (putAt ps j p).length = ps.length + 1 := by simp [putAt]; omega
theorem mem_putAt {α : Type} {ps : List α} {j : Nat} {p q : α} (h : q ∈ putAt ps j p) : q = p ∨ q ∈ ps := by
  unfold putAt at h
  simp only [List.mem_append, List.mem_cons] at h
  rcases h with h | h | h
  · exact .inr (List.mem_of_mem_take h)
  · exact .inl h
  · exact .inr (List.mem_of_mem_drop h)
theorem putIn_at {n : Nat} {s y : List Int} {L : List (List Int)} {j : Nat} (h1 : ∀ z ∈ L.take j, rowLess (stepF n s z) (stepF n s y) = true) (h2 : ∀ (h : j < L.length), rowLess (stepF n s L[j]) (stepF n s y) = false) (hj : j ≤ L.length) : putIn n s L y = putAt L j y := by
  unfold putIn putAt
  simp only
  rw [takeWhile_at h1 h2 hj, List.length_take, Nat.min_eq_left hj]
/-- a value that reads as a row, in blocks from B on -/
def RowOwnAt (w : World) (B : Nat) (u : Value) (xs : List Int) : Prop := ∃ r c, u = .slice r xs.length c ∧ IntsAt w r xs ∧ ∀ b o, r = some ⟨b, o, none⟩ → B ≤ b
theorem RowOwnAt.below {w w' : World} {B : Nat} {u : Value} {xs : List Int} (h : RowOwnAt w B u xs) (hb : Below w.heap.size w w') : RowOwnAt w' B u xs := by
  obtain ⟨r, c, e, hx, hB⟩ := h
  exact ⟨r, c, e, hx.below hb, hB⟩
end Go.Proofs.YtjkpokpidpampaaDoor

namespace Go.Proofs.YtjkpokpidpampaaDoor
open Go.RowKit

/-- a slice's cells, read as values -/
def ValsAt (w : World) (ao : Option Addr) (us : List Value) : Prop := ∀ j, j < us.length → ∃ b o, ao = some ⟨b, o, none⟩ ∧ w.cell? ⟨b, o + j, none⟩ = some (us.getD j undef)
theorem ValsAt.below {w w' : World} {ao : Option Addr} {us : List Value} (h : ValsAt w ao us) (hb : Below w.heap.size w w') : ValsAt w' ao us := fun j hj => by
  obtain ⟨b, o, e, hc⟩ := h j hj
  exact ⟨b, o, e, cell_below hc hb⟩
/-- appending them to a slice of rows that the call owns -/
theorem wpList_append_vals {w : World} {ops : Array Oper} {rest : List Oper} {o : Oper} {a : Act} {Q : Exit → Act → World → Prop} (hgd : o.guard = none) (s x : Operand)
    (ho : o.op = .call { callee := .builtin .append, args := #[s, x], argTypes := #[22, 22] })
    (base : Nat) (v : Value) (n : Nat) (xs : List Value) (hs : a.eval s = v) (hown : w.ownsRow base 28 1 v n xs)
    (ao : Option Addr) (m c : Nat) (ys : List Value) (hx : a.eval x = .slice ao m c) (hc : ao = none → m = 0 ∧ c = 0) (hm : ys.length = m) (hys : ValsAt w ao ys) (h1 : ∀ u ∈ ys, u.oneCell' = true)
    (h63 : n + m ≤ 1048576) (hbase : base ≤ w.heap.size)
    (h : ∀ v' w', w'.ownsRow base 28 1 v' (n + m) (xs ++ ys) → Below base w w' → w.grownBy w' v.ownBlock → wpList Tryd.prog ops Q rest (a.put o.dst v') w') : wpList Tryd.prog ops Q (o :: rest) a w := by
  obtain ⟨i0, hi, hz0, hz1, hz2⟩ := info_parts Tryd.info_ints
  cases ao with
  | none =>
    obtain ⟨rfl, rfl⟩ := hc rfl
    obtain rfl : ys = [] := List.eq_nil_of_length_eq_zero hm
    exact wpList_append_own_none hgd s x 22 ho base 28 i0 1 Tryd.underlying22 hi v n _ hs hown hx (h v w (by rw [List.append_nil, Nat.add_zero]; exact hown) (Below.refl _ _) (World.grownBy.refl _ _))
  | some ad =>
    refine wpList_append_own _ hgd s x 22 ho base 28 i0 (.slice none 0 0) 1 24 Tryd.underlying22 hi hz0 hz1 hz2 rfl (by decide) v n _ hs hown ad m c ys hx (by omega) ?_ h1 (by unfold maxLen; omega) (by omega) hbase ?_
    · intro j u hj
      have hjl : j < ys.length := (List.getElem?_eq_some_iff.1 hj).1
      obtain ⟨b, o', e, hcell⟩ := hys j hjl
      cases e
      have e : ys.getD j undef = u := by simp only [List.getD, hj, Option.getD_some]
      rw [e] at hcell
      rw [Addr.add_lit]
      exact hcell
    · intro v' w' h1 h2 _
      exact h v' w' h1 (Below.grown (Below.refl _ _) h2 hbase (fun k hk => (World.ownsRow.lt hown k hk).1)) h2
/-- a slice without rows that was just written out -/
theorem own_empty (w : World) : (w.alloc (.cells #[] 28)).ownsRow w.heap.size 28 1 (.slice (some ⟨w.heap.size, 0, none⟩) 0 0) 0 [] :=
  ⟨by simp, .inr ⟨w.heap.size, 0, _, rfl, Nat.le_refl _, heap_alloc_new w _, Nat.le_refl _, by decide, rfl, rfl⟩⟩
theorem ValsAt.one (w : World) (u : Value) : ValsAt (w.alloc (.cells #[u] 28)) (some ⟨w.heap.size, 0, none⟩) [u] := fun j hj => by
  obtain rfl : j = 0 := by simp at hj; omega
  refine ⟨w.heap.size, 0, rfl, ?_⟩
  simp
theorem oneCell_row {w : World} {B : Nat} {u : Value} {xs : List Int} (h : RowOwnAt w B u xs) : u.oneCell' = true := by
  obtain ⟨r, c, rfl, _⟩ := h
  rfl
end Go.Proofs.YtjkpokpidpampaaDoor

namespace Go.Proofs.YtjkpokpidpampaaDoor
open Go.RowKit

set_option maxRecDepth 100000 in
set_option maxHeartbeats 3200000 in
theorem trNext_any (n : Nat) (hn : n ≤ 6) (s : List Int) (hs : ColsN n s) (h6 : s.length ≤ 6) (a1 : Option Addr) (c1 : Nat) (w : World) (hx : IntsAt w a1 s) :
    Calls Tryd.prog 36 #[.slice a1 s.length c1, .int .i64 (n : Int)] w fun e w' => ∃ (v : Value) (ps : List (Value × List Int)), e = .returned v ∧ w'.ownsRow w.heap.size 28 1 v ps.length (ps.map (·.1)) ∧ (∀ p ∈ ps, RowOwnAt w' w.heap.size p.1 p.2) ∧ ps.map (·.2) = nextL n s ∧ Below w.heap.size w w' := by
  obtain ⟨j0, hj, hy0, hy1, hy2⟩ := info_parts Tryd.info_ints
  have Hs := Lib.hid hs
  have Hx := Lib.hid hx
  have Ht := Lib.hid (trBehind_any n hn s hs h6 (s.length + 1) [] a1 none c1 0 w (by simp) (by simp) (fun x hx => by cases hx) (fun _ => rfl) hx (IntsAt.nil _ _))
  have hbl := behind_len hn hs h6
  have Hbl := Lib.hid hbl
  have Ha := Lib.hid (show bhRes n s [] = behind n s by simp [bhRes, behind, lst_nil])
  clear hs hx hbl
  go_enter Tryd.func36, Tryd.ntmps36
  go_wp2_with fail
  refine Ht.out.mono ?_
  rintro e w1 ⟨v, rfl, hv, hb⟩
  rw [Ha.out] at hv
  have hcols : ∀ ys ∈ behind n s, ColsN n ys ∧ ys.length = s.length + 1 := fun ys hy => behind_mem Hs.out hy
  obtain ⟨A, hA⟩ : ∃ A, A = behind n s := ⟨_, rfl⟩
  rw [← hA] at hv hcols
  obtain ⟨ra, rc, rfl, _, _, hmat⟩ := hv.read
  have hal : A.length ≤ 1048576 := by rw [hA]; exact Hbl.out
  have hrows : ∀ k, k < A.length → ∃ b o r d, ra = some ⟨b, o, none⟩ ∧ w1.cell? ⟨b, o + k, none⟩ = some (.slice r (gr A k).length d) ∧ RowOwnAt w1 w.heap.size (.slice r (gr A k).length d) (gr A k) ∧ ColsN n (gr A k) ∧ (gr A k).length = s.length + 1 := by
    intro k hk
    obtain ⟨us, hp⟩ := hv
    obtain ⟨ao', c', hsl, _, _, hcells⟩ := ownsRow_read hp.top
    cases hsl
    obtain ⟨b1, o1, e1, hc1⟩ := hcells k hk
    have hrow := hp.rows k hk
    obtain ⟨r1, d1, hr1, _, _, hx1⟩ := hrow.read
    have hlt := hrow.lt
    rw [hr1] at hc1 hlt
    have hm := hcols (gr A k) (gr_mem hk)
    refine ⟨b1, o1, r1, d1, e1, hc1, ⟨r1, d1, rfl, hx1, fun b o e => ?_⟩, hm.1, hm.2⟩
    subst e
    exact (hlt b rfl).1
  have Hrows := Lib.hid hrows
  have HA := Lib.hid hA
  have Hb := Lib.hid hb
  have HZ := Lib.hid hb.size
  have hamx : A.length ≤ 9223372036854775807 := by omega
  clear hv hmat hA hb hcols hrows Ht
  go_wp2
  go_loopw [5, 14] (fun srt i wr => ∃ (k : Nat) (ps : List (Value × List Int)), k ≤ A.length ∧ i = .int .i64 k ∧ ps.length = k ∧ wr.ownsRow w1.heap.size 28 1 srt k (ps.map (·.1)) ∧ (∀ p ∈ ps, RowOwnAt w1 w.heap.size p.1 p.2 ∧ ColsN n p.2 ∧ p.2.length = s.length + 1) ∧
      ps.map (·.2) = (A.take k).foldl (putIn n s) [] ∧ (k = 0 → srt = .slice none 0 0) ∧ Below w1.heap.size w1 wr) (fun _ i _ => A.length - (intOf i).toNat)
  case atStart => exact ⟨0, [], Nat.zero_le _, rfl, rfl, World.ownsRow_nil _ _ _ _, (fun p hp => by cases hp), rfl, (fun _ => rfl), Below.refl _ _⟩
  case round =>
    obtain ⟨k, ps, hk, rfl, hpl, hown, hps, hfold, hnil, hbr⟩ := hrel
    obtain ⟨wo, rfl⟩ : ∃ wo : World, wo = wr := ⟨_, rfl⟩
    have Hown := Lib.hid hown
    have Hps := Lib.hid hps
    have Hfold := Lib.hid hfold
    have Hnil := Lib.hid hnil
    have Hbr := Lib.hid hbr
    have Hpl := Lib.hid hpl
    have HZ2 := Lib.hid hbr.size
    clear hown hps hfold hnil hbr hpl
    by_cases hlt : k < A.length
    · obtain ⟨b1, o1, ry, dy, e1, hc1, hry, hyc, hyl⟩ := Hrows.out k hlt
      subst e1
      have hc2 := cell_below hc1 Hbr.out
      obtain ⟨ao, c, hsrt, hc0, hcm, hcells⟩ := ownsRow_read Hown.out
      subst hsrt
      have Hcells := Lib.hid hcells
      have Hry := Lib.hid hry
      have Hyc := Lib.hid hyc
      have Hyl := Lib.hid hyl
      clear hcells hry hyc hyl hc1
      go_wp2
      go_loopw [8] (fun j wr => ∃ t : Nat, t ≤ k ∧ j = .int .i64 t ∧ (∀ z ∈ (ps.map (·.2)).take t, rowLess (stepF n s z) (stepF n s (gr A k)) = true) ∧ Below wo.heap.size wo wr) (fun j _ => k - (intOf j).toNat)
      case atStart => exact ⟨0, Nat.zero_le _, rfl, fun z hz => by simp at hz, Below.refl _ _⟩
      case round =>
        obtain ⟨t, ht, rfl, hless, hbi⟩ := hrel
        have Hless := Lib.hid hless
        have Hbi := Lib.hid hbi
        have HZ3 := Lib.hid hbi.size
        clear hless hbi
        have hstop : (∃ h : t < ps.length, rowLess (stepF n s ps[t].2) (stepF n s (gr A k)) = true) ∨ (t < k ∧ ∀ h : t < ps.length, rowLess (stepF n s ps[t].2) (stepF n s (gr A k)) = false) ∨ t = k := by
          by_cases h1 : t < ps.length
          · by_cases h2 : rowLess (stepF n s ps[t].2) (stepF n s (gr A k)) = true
            · exact .inl ⟨h1, h2⟩
            · exact .inr (.inl ⟨by rw [Hpl.out] at h1; exact h1, fun _ => by simpa using h2⟩)
          · exact .inr (.inr (by have := Hpl.out; omega))
        rcases hstop with ⟨h1, h2⟩ | ⟨h1, h2⟩ | h1
        · have htk : t < k := by rw [Hpl.out] at h1; exact h1
          obtain ⟨bz, oz, ez, hcz⟩ := Hcells.out t htk
          have hpt : t < ps.length := by rw [Hpl.out]; omega
          have hget : (ps.map (·.1)).getD t undef = ps[t].1 := by simp [List.getD, hpt]
          rw [hget] at hcz
          obtain ⟨⟨rz, dz, hz, hxz, _⟩, hzc, hzl⟩ := Hps.out ps[t] (List.getElem_mem hpt)
          obtain ⟨ry, dy2, hy, hxy, _⟩ := Hry.out
          cases hy
          obtain ⟨z, hzz⟩ : ∃ z, z = ps[t].2 := ⟨_, rfl⟩
          rw [← hzz] at hz hxz hzc hzl
          rw [hz] at hcz
          subst ez
          have hcz2 := cell_below hcz Hbi.out
          have hltk : (t : Int) < (k : Int) := by omega
          have HH1 := Lib.hid (trStep_any a1 rz c1 dz n s z wr (by omega) (by omega) (by omega) Hs.out.2 hzc.2 (((Hx.out.below Hb.out).below Hbr.out).below Hbi.out) ((hxz.below Hbr.out).below Hbi.out))
          have Hzz := Lib.hid hzz
          have Hpt := Lib.hid hpt
          have Hyr := Lib.hid ((hxy.below Hbr.out).below Hbi.out)
          have hzl6 : z.length ≤ 1048576 := by omega
          have hyl6 : (gr A k).length ≤ 1048576 := by have := Hyl.out; omega
          clear hcz hz hxz hzc hzl hzz hxy hget
          go_wp2_with fail
          refine HH1.out.mono ?_
          rintro e w2 ⟨v, rfl, hv2, hb2⟩
          obtain ⟨a2, c2, rfl, _, _, hm2⟩ := hv2.read
          have HM2 := Lib.hid hm2
          have Hb2 := Lib.hid (Hbi.out.trans (hb2.mono HZ3.out))
          have Hyr2 := Lib.hid (Hyr.out.below hb2)
          have HS2 := Lib.hid ((((Hx.out.below Hb.out).below Hbr.out).below Hbi.out).below hb2)
          clear hv2 hm2 hb2 HH1
          have HH2 := Lib.hid (trStep_any a1 ry c1 dy n s (gr A k) w2 (by omega) (by omega) hyl6 Hs.out.2 Hyc.out.2 HS2.out Hyr2.out)
          have HZ4 := Lib.hid Hb2.out.size
          go_wp2_with fail
          refine HH2.out.mono ?_
          rintro e w3 ⟨v, rfl, hv3, hb3⟩
          obtain ⟨a3, c3, rfl, _, _, hm3⟩ := hv3.read
          have Hb3 := Lib.hid (Hb2.out.trans (hb3.mono HZ4.out))
          have HH3 := trRowLess_any a2 a3 c2 c3 (stepF n s z) (stepF n s (gr A k)) w3 (by rw [stepF_len]; omega) (by rw [stepF_len, stepF_len]) (HM2.out.below hb3) hm3
          rw [show rowLess (stepF n s z) (stepF n s (gr A k)) = true from by rw [Hzz.out]; exact h2] at HH3
          have HH4 := Lib.hid HH3
          have H2 := Lib.hid h2
          clear hv3 hm3 hb3 HH2 HH3 h2
          go_wp2_with fail
          refine HH4.out.mono ?_
          rintro e w4 ⟨rfl, rfl⟩
          go_wp2
          go_roundw
          case rel =>
            refine ⟨t + 1, by omega, by go_num, fun z hz => ?_, Hb3.out⟩
            have hpt2 : t < (ps.map (·.2)).length := by rw [List.length_map]; exact Hpt.out
            rw [List.take_succ_eq_append_getElem hpt2] at hz
            rcases List.mem_append.1 hz with hz | hz
            · exact Hless.out z hz
            · simp only [List.mem_singleton, List.getElem_map] at hz
              subst hz
              exact H2.out
          case measure => simp [intOf]; omega
        · obtain ⟨bz, oz, ez, hcz⟩ := Hcells.out t (by omega)
          have hpt : t < ps.length := by rw [Hpl.out]; omega
          have hget : (ps.map (·.1)).getD t undef = ps[t].1 := by simp [List.getD, hpt]
          rw [hget] at hcz
          obtain ⟨⟨rz, dz, hz, hxz, _⟩, hzc, hzl⟩ := Hps.out ps[t] (List.getElem_mem hpt)
          obtain ⟨ry, dy2, hy, hxy, _⟩ := Hry.out
          cases hy
          obtain ⟨z, hzz⟩ : ∃ z, z = ps[t].2 := ⟨_, rfl⟩
          rw [← hzz] at hz hxz hzc hzl
          rw [hz] at hcz
          subst ez
          have hcz2 := cell_below hcz Hbi.out
          have hltk : (t : Int) < (k : Int) := by omega
          have HH1 := Lib.hid (trStep_any a1 rz c1 dz n s z wr (by omega) (by omega) (by omega) Hs.out.2 hzc.2 (((Hx.out.below Hb.out).below Hbr.out).below Hbi.out) ((hxz.below Hbr.out).below Hbi.out))
          have Hzz := Lib.hid hzz
          have Hpt := Lib.hid hpt
          have Hyr := Lib.hid ((hxy.below Hbr.out).below Hbi.out)
          have hzl6 : z.length ≤ 1048576 := by omega
          have hyl6 : (gr A k).length ≤ 1048576 := by have := Hyl.out; omega
          clear hcz hz hxz hzc hzl hzz hxy hget
          go_wp2_with fail
          refine HH1.out.mono ?_
          rintro e w2 ⟨v, rfl, hv2, hb2⟩
          obtain ⟨a2, c2, rfl, _, _, hm2⟩ := hv2.read
          have HM2 := Lib.hid hm2
          have Hb2 := Lib.hid (Hbi.out.trans (hb2.mono HZ3.out))
          have Hyr2 := Lib.hid (Hyr.out.below hb2)
          have HS2 := Lib.hid ((((Hx.out.below Hb.out).below Hbr.out).below Hbi.out).below hb2)
          clear hv2 hm2 hb2 HH1
          have HH2 := Lib.hid (trStep_any a1 ry c1 dy n s (gr A k) w2 (by omega) (by omega) hyl6 Hs.out.2 Hyc.out.2 HS2.out Hyr2.out)
          have HZ4 := Lib.hid Hb2.out.size
          go_wp2_with fail
          refine HH2.out.mono ?_
          rintro e w3 ⟨v, rfl, hv3, hb3⟩
          obtain ⟨a3, c3, rfl, _, _, hm3⟩ := hv3.read
          have Hb3 := Lib.hid (Hb2.out.trans (hb3.mono HZ4.out))
          have HH3 := trRowLess_any a2 a3 c2 c3 (stepF n s z) (stepF n s (gr A k)) w3 (by rw [stepF_len]; omega) (by rw [stepF_len, stepF_len]) (HM2.out.below hb3) hm3
          rw [show rowLess (stepF n s z) (stepF n s (gr A k)) = false from by rw [Hzz.out]; exact h2 (by rw [Hpl.out]; exact h1)] at HH3
          have HH4 := Lib.hid HH3
          have H2 := Lib.hid h2
          clear hv3 hm3 hb3 HH2 HH3 h2
          go_wp2_with fail
          refine HH4.out.mono ?_
          rintro e w4 ⟨rfl, rfl⟩
          go_upto_region 8 with (fail)
          clear Hrows Hyr Hyr2 HS2 HM2 Hb2
          have HB := Lib.hid (Hb3.out)
          have HZB := Lib.hid HB.out.size
          have hlp : ((ps.map (·.1)).take t).length = t := by rw [List.length_take, List.length_map, Hpl.out]; omega
          have hld : ((ps.map (·.1)).drop t).length = k - t := by rw [List.length_drop, List.length_map, Hpl.out]
          have HOne := Lib.hid (show ∀ u ∈ ps.map (·.1), u.oneCell' = true from fun u hu => by
            obtain ⟨p, hp, rfl⟩ := List.mem_map.1 hu
            exact oneCell_row (Hps.out p hp).1)
          have HVal := Lib.hid (show ValsAt w3 (some ⟨bz, oz, none⟩) ((ps.map (·.1)).take t) from fun j hj => by
            rw [hlp] at hj
            obtain ⟨b, o, e, hc⟩ := Hcells.out j (by omega)
            refine ⟨b, o, e, ?_⟩
            have e2 : ((ps.map (·.1)).take t).getD j undef = (ps.map (·.1)).getD j undef := by simp only [List.getD, List.getElem?_take]; rw [if_pos hj]
            rw [e2]
            exact cell_below hc HB.out)
          have HVal2 := Lib.hid (show ValsAt w3 (some ⟨bz, oz + t, none⟩) ((ps.map (·.1)).drop t) from fun j hj => by
            rw [hld] at hj
            obtain ⟨b, o, e, hc⟩ := Hcells.out (t + j) (by omega)
            cases e
            refine ⟨bz, oz + t, rfl, ?_⟩
            have e2 : ((ps.map (·.1)).drop t).getD j undef = (ps.map (·.1)).getD (t + j) undef := by simp only [List.getD, List.getElem?_drop]
            rw [e2, Nat.add_assoc]
            exact cell_below hc HB.out)
          have Hput := Lib.hid (show (putAt ps t (Value.slice ry (gr A k).length dy, gr A k)).map (·.2) = (A.take (k + 1)).foldl (putIn n s) [] by
            rw [putAt_map, List.take_succ_eq_append_getElem hlt, List.foldl_append, List.foldl_cons, List.foldl_nil, ← Hfold.out, ← gr_lt hlt]
            exact (putIn_at Hless.out (fun h => by simp only [List.getElem_map]; exact H2.out Hpt.out) (by rw [List.length_map, Hpl.out]; exact ht)).symm)
          go_wp2_with (at_builtin; refine wpList_append_vals rfl _ _ rfl w3.heap.size _ 0 [] rfl (own_empty w3) (some ⟨bz, oz, none⟩) t c ((ps.map (·.1)).take t) rfl (by intro e; cases e) hlp (HVal.out.below ((Below.refl _ _).alloc (Nat.le_refl _) _)) (fun u hu => HOne.out u (List.mem_of_mem_take hu)) (by omega) (by simp) ?_)
          intro v1 wa hv1 hba _
          have HV1 := Lib.hid hv1
          have Hba := Lib.hid (((Below.refl w3.heap.size w3).alloc (Nat.le_refl _) _).trans hba)
          have HZa := Lib.hid Hba.out.size
          clear hv1 hba
          go_wp2_with (at_builtin; refine wpList_append_vals rfl _ _ rfl w3.heap.size _ _ _ rfl (World.ownsRow.alloc HV1.out _) (some ⟨wa.heap.size, 0, none⟩) 1 1 [.slice ry (gr A k).length dy] rfl (by intro e; cases e) rfl (ValsAt.one wa _) (by intro u hu; simp at hu; subst hu; rfl) (by omega) (by simp; have := HZa.out; omega) ?_)
          intro v2 wb hv2 hbb _
          have HV2 := Lib.hid hv2
          have Hbb := Lib.hid ((Hba.out.alloc HZa.out _).trans hbb)
          have HZb := Lib.hid Hbb.out.size
          clear hv2 hbb
          by_cases htc : t = c
          · subst htc
            obtain rfl : k = t := by omega
            have hd0 : (ps.map (·.1)).drop k = [] := List.eq_nil_of_length_eq_zero (by omega)
            go_wp2_with (at_builtin; first | (refine wpList_append_vals rfl _ _ rfl w3.heap.size _ _ _ rfl HV2.out (some ⟨bz, oz, none⟩) 0 0 [] rfl (by intro e; cases e) rfl (fun j hj => absurd hj (by simp)) (by intro u hu; cases hu) (by omega) HZb.out ?_) | (refine wpList_append_vals rfl _ _ rfl w3.heap.size _ _ _ rfl HV2.out (some ⟨bz, oz + k, none⟩) 0 0 [] rfl (by intro e; cases e) rfl (fun j hj => absurd hj (by simp)) (by intro u hu; cases hu) (by omega) HZb.out ?_))
            intro v3 wc hv3 hbc _
            have HV3 := Lib.hid hv3
            have Hbc := Lib.hid (Hbb.out.trans hbc)
            clear hv3 hbc
            go_wp2
            go_roundw
            case rel =>
              refine ⟨k + 1, putAt ps k (Value.slice ry (gr A k).length dy, gr A k), by omega, by go_num, ?_, ?_, ?_, Hput.out, fun h => absurd h (by omega), Hbr.out.trans ((HB.out.mono HZ2.out).trans (Hbc.out.mono (Nat.le_trans HZ2.out HZB.out)))⟩
              · rw [putAt_len _ _ _ (by rw [Hpl.out]; exact Nat.le_refl _), Hpl.out]
              · have h := ownsRow_base HV3.out (Nat.le_trans HZ2.out HZB.out)
                rw [putAt_map]
                unfold putAt
                rw [hd0]
                simpa using h
              · intro p hp
                rcases mem_putAt hp with rfl | hp
                · exact ⟨Hry.out, Hyc.out, Hyl.out⟩
                · exact Hps.out p hp
            case measure => simp [intOf]; omega
          · go_wp2_with (at_builtin; first | (refine wpList_append_vals rfl _ _ rfl w3.heap.size _ _ _ rfl HV2.out (some ⟨bz, oz + t, none⟩) (k - t) (c - t) ((ps.map (·.1)).drop t) rfl (by intro e; cases e) hld (HVal2.out.below Hbb.out) (fun u hu => HOne.out u (List.mem_of_mem_drop hu)) (by omega) HZb.out ?_) | (refine wpList_append_vals rfl _ _ rfl w3.heap.size _ _ _ rfl HV2.out (some ⟨bz, t, none⟩) (k - t) (c - t) ((ps.map (·.1)).drop t) rfl (by intro e; cases e) hld (by have h := HVal2.out.below Hbb.out; rwa [Nat.zero_add] at h) (fun u hu => HOne.out u (List.mem_of_mem_drop hu)) (by omega) HZb.out ?_))
            intro v3 wc hv3 hbc _
            have HV3 := Lib.hid hv3
            have Hbc := Lib.hid (Hbb.out.trans hbc)
            clear hv3 hbc
            go_wp2
            go_roundw
            case rel =>
              refine ⟨k + 1, putAt ps t (Value.slice ry (gr A k).length dy, gr A k), by omega, by go_num, ?_, ?_, ?_, Hput.out, fun h => absurd h (by omega), Hbr.out.trans ((HB.out.mono HZ2.out).trans (Hbc.out.mono (Nat.le_trans HZ2.out HZB.out)))⟩
              · rw [putAt_len _ _ _ (by rw [Hpl.out]; exact ht), Hpl.out]
              · have h := ownsRow_base HV3.out (Nat.le_trans HZ2.out HZB.out)
                rw [putAt_map]
                unfold putAt
                simpa [show t + 1 + (k - t) = k + 1 from by omega] using h
              · intro p hp
                rcases mem_putAt hp with rfl | hp
                · exact ⟨Hry.out, Hyc.out, Hyl.out⟩
                · exact Hps.out p hp
            case measure => simp [intOf]; omega
        · have hnlt : ¬ ((t : Int) < (k : Int)) := by omega
          rcases Hown.out.2 with ⟨hn1, hn2⟩ | ⟨bz, cz, _, hn1, _⟩
          · obtain ⟨rfl, _, rfl⟩ := (Value.slice.injEq _ _ _ _ _ _).mp hn1
            obtain rfl : k = 0 := by simpa using hn2
            obtain rfl : t = 0 := h1
            clear hn1 hn2
            go_upto_region 8 with (fail)
            clear Hrows Hcells
            have HB := Lib.hid (Hbi.out)
            have HZB := Lib.hid HB.out.size
            have hpn : ps = [] := List.eq_nil_of_length_eq_zero Hpl.out
            have Hput := Lib.hid (show (putAt ps 0 (Value.slice ry (gr A 0).length dy, gr A 0)).map (·.2) = (A.take (0 + 1)).foldl (putIn n s) [] by
              rw [putAt_map, List.take_succ_eq_append_getElem hlt, List.foldl_append, List.foldl_cons, List.foldl_nil, ← Hfold.out, ← gr_lt hlt, hpn]
              rfl)
            go_wp2_with (at_builtin; refine wpList_append_vals rfl _ _ rfl wr.heap.size _ 0 [] rfl (own_empty wr) none 0 0 [] rfl (fun _ => ⟨rfl, rfl⟩) rfl (fun j hj => absurd hj (by simp)) (by intro u hu; cases hu) (by omega) (by simp) ?_)
            intro v1 wa hv1 hba _
            have HV1 := Lib.hid hv1
            have Hba := Lib.hid (((Below.refl wr.heap.size wr).alloc (Nat.le_refl _) _).trans hba)
            have HZa := Lib.hid Hba.out.size
            clear hv1 hba
            go_wp2_with (at_builtin; refine wpList_append_vals rfl _ _ rfl wr.heap.size _ _ _ rfl (World.ownsRow.alloc HV1.out _) (some ⟨wa.heap.size, 0, none⟩) 1 1 [.slice ry (gr A 0).length dy] rfl (by intro e; cases e) rfl (ValsAt.one wa _) (by intro u hu; simp at hu; subst hu; rfl) (by omega) (by simp; have := HZa.out; omega) ?_)
            intro v2 wb hv2 hbb _
            have HV2 := Lib.hid hv2
            have Hbb := Lib.hid ((Hba.out.alloc HZa.out _).trans hbb)
            have HZb := Lib.hid Hbb.out.size
            clear hv2 hbb
            go_wp2_with (at_builtin; refine wpList_append_vals rfl _ _ rfl wr.heap.size _ _ _ rfl HV2.out none 0 0 [] rfl (fun _ => ⟨rfl, rfl⟩) rfl (fun j hj => absurd hj (by simp)) (by intro u hu; cases hu) (by omega) HZb.out ?_)
            intro v3 wc hv3 hbc _
            have HV3 := Lib.hid hv3
            have Hbc := Lib.hid (Hbb.out.trans hbc)
            clear hv3 hbc
            go_wp2
            go_roundw
            case rel =>
              refine ⟨0 + 1, putAt ps 0 (Value.slice ry (gr A 0).length dy, gr A 0), by omega, by go_num, ?_, ?_, ?_, Hput.out, fun h => absurd h (by omega), Hbr.out.trans ((HB.out.mono HZ2.out).trans (Hbc.out.mono (Nat.le_trans HZ2.out HZB.out)))⟩
              · rw [hpn]; rfl
              · have h := ownsRow_base HV3.out (Nat.le_trans HZ2.out HZB.out)
                rw [hpn]
                simpa [putAt] using h
              · intro p hp
                rcases mem_putAt hp with rfl | hp
                · exact ⟨Hry.out, Hyc.out, Hyl.out⟩
                · exact Hps.out p hp
            case measure => simp [intOf]; omega
          obtain ⟨rfl, _, rfl⟩ := (Value.slice.injEq _ _ _ _ _ _).mp hn1
          clear h1 hn1
          go_upto_region 8 with (fail)
          clear Hrows 
          have HB := Lib.hid (Hbi.out)
          have HZB := Lib.hid HB.out.size
          have hlp : ((ps.map (·.1)).take t).length = t := by rw [List.length_take, List.length_map, Hpl.out]; omega
          have hld : ((ps.map (·.1)).drop t).length = k - t := by rw [List.length_drop, List.length_map, Hpl.out]
          have HOne := Lib.hid (show ∀ u ∈ ps.map (·.1), u.oneCell' = true from fun u hu => by
            obtain ⟨p, hp, rfl⟩ := List.mem_map.1 hu
            exact oneCell_row (Hps.out p hp).1)
          have HVal := Lib.hid (show ValsAt wr (some ⟨bz, 0, none⟩) ((ps.map (·.1)).take t) from fun j hj => by
            rw [hlp] at hj
            obtain ⟨b, o, e, hc⟩ := Hcells.out j (by omega)
            refine ⟨b, o, e, ?_⟩
            have e2 : ((ps.map (·.1)).take t).getD j undef = (ps.map (·.1)).getD j undef := by simp only [List.getD, List.getElem?_take]; rw [if_pos hj]
            rw [e2]
            exact cell_below hc HB.out)
          have HVal2 := Lib.hid (show ValsAt wr (some ⟨bz, 0 + t, none⟩) ((ps.map (·.1)).drop t) from fun j hj => by
            rw [hld] at hj
            obtain ⟨b, o, e, hc⟩ := Hcells.out (t + j) (by omega)
            cases e
            refine ⟨bz, 0 + t, rfl, ?_⟩
            have e2 : ((ps.map (·.1)).drop t).getD j undef = (ps.map (·.1)).getD (t + j) undef := by simp only [List.getD, List.getElem?_drop]
            rw [e2, Nat.add_assoc]
            exact cell_below hc HB.out)
          have Hput := Lib.hid (show (putAt ps t (Value.slice ry (gr A k).length dy, gr A k)).map (·.2) = (A.take (k + 1)).foldl (putIn n s) [] by
            rw [putAt_map, List.take_succ_eq_append_getElem hlt, List.foldl_append, List.foldl_cons, List.foldl_nil, ← Hfold.out, ← gr_lt hlt]
            exact (putIn_at Hless.out (fun h => absurd h (by rw [List.length_map, Hpl.out]; omega)) (by rw [List.length_map, Hpl.out]; exact ht)).symm)
          go_wp2_with (at_builtin; refine wpList_append_vals rfl _ _ rfl wr.heap.size _ 0 [] rfl (own_empty wr) (some ⟨bz, 0, none⟩) t c ((ps.map (·.1)).take t) rfl (by intro e; cases e) hlp (HVal.out.below ((Below.refl _ _).alloc (Nat.le_refl _) _)) (fun u hu => HOne.out u (List.mem_of_mem_take hu)) (by omega) (by simp) ?_)
          intro v1 wa hv1 hba _
          have HV1 := Lib.hid hv1
          have Hba := Lib.hid (((Below.refl wr.heap.size wr).alloc (Nat.le_refl _) _).trans hba)
          have HZa := Lib.hid Hba.out.size
          clear hv1 hba
          go_wp2_with (at_builtin; refine wpList_append_vals rfl _ _ rfl wr.heap.size _ _ _ rfl (World.ownsRow.alloc HV1.out _) (some ⟨wa.heap.size, 0, none⟩) 1 1 [.slice ry (gr A k).length dy] rfl (by intro e; cases e) rfl (ValsAt.one wa _) (by intro u hu; simp at hu; subst hu; rfl) (by omega) (by simp; have := HZa.out; omega) ?_)
          intro v2 wb hv2 hbb _
          have HV2 := Lib.hid hv2
          have Hbb := Lib.hid ((Hba.out.alloc HZa.out _).trans hbb)
          have HZb := Lib.hid Hbb.out.size
          clear hv2 hbb
          by_cases htc : t = c
          · subst htc
            obtain rfl : k = t := by omega
            have hd0 : (ps.map (·.1)).drop k = [] := List.eq_nil_of_length_eq_zero (by omega)
            go_wp2_with (at_builtin; first | (refine wpList_append_vals rfl _ _ rfl wr.heap.size _ _ _ rfl HV2.out (some ⟨bz, 0, none⟩) 0 0 [] rfl (by intro e; cases e) rfl (fun j hj => absurd hj (by simp)) (by intro u hu; cases hu) (by omega) HZb.out ?_) | (refine wpList_append_vals rfl _ _ rfl wr.heap.size _ _ _ rfl HV2.out (some ⟨bz, 0 + k, none⟩) 0 0 [] rfl (by intro e; cases e) rfl (fun j hj => absurd hj (by simp)) (by intro u hu; cases hu) (by omega) HZb.out ?_))
            intro v3 wc hv3 hbc _
            have HV3 := Lib.hid hv3
            have Hbc := Lib.hid (Hbb.out.trans hbc)
            clear hv3 hbc
            go_wp2
            go_roundw
            case rel =>
              refine ⟨k + 1, putAt ps k (Value.slice ry (gr A k).length dy, gr A k), by omega, by go_num, ?_, ?_, ?_, Hput.out, fun h => absurd h (by omega), Hbr.out.trans ((HB.out.mono HZ2.out).trans (Hbc.out.mono (Nat.le_trans HZ2.out HZB.out)))⟩
              · rw [putAt_len _ _ _ (by rw [Hpl.out]; exact Nat.le_refl _), Hpl.out]
              · have h := ownsRow_base HV3.out (Nat.le_trans HZ2.out HZB.out)
                rw [putAt_map]
                unfold putAt
                rw [hd0]
                simpa using h
              · intro p hp
                rcases mem_putAt hp with rfl | hp
                · exact ⟨Hry.out, Hyc.out, Hyl.out⟩
                · exact Hps.out p hp
            case measure => simp [intOf]; omega
          · go_wp2_with (at_builtin; first | (refine wpList_append_vals rfl _ _ rfl wr.heap.size _ _ _ rfl HV2.out (some ⟨bz, 0 + t, none⟩) (k - t) (c - t) ((ps.map (·.1)).drop t) rfl (by intro e; cases e) hld (HVal2.out.below Hbb.out) (fun u hu => HOne.out u (List.mem_of_mem_drop hu)) (by omega) HZb.out ?_) | (refine wpList_append_vals rfl _ _ rfl wr.heap.size _ _ _ rfl HV2.out (some ⟨bz, t, none⟩) (k - t) (c - t) ((ps.map (·.1)).drop t) rfl (by intro e; cases e) hld (by have h := HVal2.out.below Hbb.out; rwa [Nat.zero_add] at h) (fun u hu => HOne.out u (List.mem_of_mem_drop hu)) (by omega) HZb.out ?_))
            intro v3 wc hv3 hbc _
            have HV3 := Lib.hid hv3
            have Hbc := Lib.hid (Hbb.out.trans hbc)
            clear hv3 hbc
            go_wp2
            go_roundw
            case rel =>
              refine ⟨k + 1, putAt ps t (Value.slice ry (gr A k).length dy, gr A k), by omega, by go_num, ?_, ?_, ?_, Hput.out, fun h => absurd h (by omega), Hbr.out.trans ((HB.out.mono HZ2.out).trans (Hbc.out.mono (Nat.le_trans HZ2.out HZB.out)))⟩
              · rw [putAt_len _ _ _ (by rw [Hpl.out]; exact ht), Hpl.out]
              · have h := ownsRow_base HV3.out (Nat.le_trans HZ2.out HZB.out)
                rw [putAt_map]
                unfold putAt
                simpa [show t + 1 + (k - t) = k + 1 from by omega] using h
              · intro p hp
                rcases mem_putAt hp with rfl | hp
                · exact ⟨Hry.out, Hyc.out, Hyl.out⟩
                · exact Hps.out p hp
            case measure => simp [intOf]; omega
    · obtain rfl : k = A.length := by omega
      have HF := Lib.hid (show ps.map (·.2) = nextL n s by rw [Hfold.out, List.take_length, HA.out]; rfl)
      have HE := Lib.hid (Hb.out.trans (Hbr.out.mono HZ.out))
      have HO := Lib.hid (ownsRow_base Hown.out HZ.out)
      have HP := Lib.hid (show ∀ p ∈ ps, RowOwnAt wo w.heap.size p.1 p.2 from fun p hp => (Hps.out p hp).1.below Hbr.out)
      go_wp2
      go_ret
      exact ⟨_, ps, rfl, by rw [Hpl.out]; exact HO.out, HP.out, HF.out, HE.out⟩
end Go.Proofs.YtjkpokpidpampaaDoor

namespace Go.Proofs.YtjkpokpidpampaaDoor
open Go.RowKit

theorem gr_reverse {m : List (List Int)} {i : Nat} (h : i < m.length) : gr m.reverse i = gr m (m.length - 1 - i) := by
  rw [gr_lt (by rw [List.length_reverse]; exact h), gr_lt (by omega), List.getElem_reverse]
theorem colR_reverse (m : List (List Int)) (j : Nat) : ∀ k, k ≤ m.length → colR m.reverse j k + colR m j (m.length - k) = colR m j m.length
  | 0, _ => by simp [colR]
  | k + 1, h => by
    have ih := colR_reverse m j k (by omega)
    have e : m.length - k = (m.length - (k + 1)) + 1 := by omega
    rw [e, colR] at ih
    rw [colR, gr_reverse (by omega), show m.length - 1 - k = m.length - (k + 1) from by omega]
    omega
theorem colR_full {m : List (List Int)} (h : good m) {j : Nat} (hj : j < m.length) : colR m j m.length = 1 := by
  rw [colR_tr hj _ (Nat.le_refl _)]
  have h1 := (h.2.2 j (by rw [tr_len]; exact hj)).2
  rw [tr_row hj] at h1
  exact h1
/-- the rows of the triangle of a matrix upside down -/
theorem triRow_reverse {m : List (List Int)} (h : good m) {k : Nat} (hk : k ≤ m.length) : triRow m.reverse k = compl m.length (triRow m (m.length - k)) := by
  have hx : ∀ {x : Int}, x ∈ triRow m.reverse k ↔ x ∈ compl m.length (triRow m (m.length - k)) := by
    intro x
    unfold triRow compl
    rw [List.length_reverse, mem_colsF, List.mem_filter, mem_iota]
    constructor
    · rintro ⟨j, rfl, hj, hf⟩
      refine ⟨by omega, ?_⟩
      have h1 := colR_reverse m j k hk
      rw [colR_full h hj] at h1
      simp only [decide_eq_true_eq] at hf
      have hn : (j : Int) ∉ colsF m.length fun j => decide (colR m j (m.length - k) = 1) := by
        rw [mem_colsF]
        rintro ⟨i, e, _, hi⟩
        obtain rfl : j = i := by omega
        simp only [decide_eq_true_eq] at hi
        omega
      simp [hn]
    · rintro ⟨⟨h0, hn⟩, hc⟩
      refine ⟨x.toNat, by omega, by omega, ?_⟩
      have hj : x.toNat < m.length := by omega
      have h1 := colR_reverse m x.toNat k hk
      rw [colR_full h hj] at h1
      have h2 := colR_01 h hj (show m.length - k ≤ m.length by omega)
      have h3 : colR m x.toNat (m.length - k) ≠ 1 := by
        intro e
        have : x ∈ colsF m.length fun j => decide (colR m j (m.length - k) = 1) := mem_colsF.2 ⟨x.toNat, by omega, hj, by simpa using e⟩
        simp [this] at hc
      simp only [decide_eq_true_eq]
      omega
  have hu1 : Up (triRow m.reverse k) := colsF_up _ _
  have hu2 : Up (compl m.length (triRow m (m.length - k))) := (up_iota _).filter _
  refine mask_inj hu1 (fun y hy => ?_) hu2 (fun y hy => ?_) ?_
  · obtain ⟨j, rfl, _, _⟩ := mem_colsF.1 hy; omega
  · exact (mem_iota.1 (List.mem_filter.1 hy).1).1
  · apply Nat.eq_of_testBit_eq
    intro i
    rw [testBit_mask (fun y hy => by obtain ⟨j, rfl, _, _⟩ := mem_colsF.1 hy; omega), testBit_mask (xs := compl m.length (triRow m (m.length - k))) (fun y hy => (mem_iota.1 (List.mem_filter.1 hy).1).1)]
    exact decide_eq_decide.2 hx
end Go.Proofs.YtjkpokpidpampaaDoor

namespace Go.Proofs.YtjkpokpidpampaaDoor
open Go.RowKit

set_option maxRecDepth 100000 in
set_option maxHeartbeats 400000 in
theorem sCloneM_any (b o n c : Nat) (news : List Value) (w : World) (hn : n ≤ 1048576) (hl : news.length = n) (hc : ∀ j u, news[j]? = some u → w.cell? ⟨b, o + j, none⟩ = some u) (h1 : ∀ u ∈ news, u.oneCell' = true) :
    Calls Tryd.prog 80 #[.slice (some ⟨b, o, none⟩) n c] w fun e w' => ∃ v, e = .returned v ∧ w'.ownsRow w.heap.size 28 1 v n news ∧ Below w.heap.size w w' := by
  obtain ⟨j0, hj, hy0, hy1, hy2⟩ := info_parts Tryd.info_ints
  have Hc := Lib.hid hc
  have H1 := Lib.hid h1
  have Hl := Lib.hid hl
  clear hc h1 hl
  have q22 : ∀ (w : World) (a : Option Addr) (n c n' c' : Nat), (binOp .eql 22 (.slice a n c) (.slice none n' c')).run Tryd.prog w = .ok (.bool a.isNone) w := fun w a n c n' c' => Lib.run_eql_slice_nil w _ _ a n c n' c' Tryd.underlying22
  go_enter Tryd.func80, Tryd.ntmps80
  go_wp2_with (at_builtin; refine wpList_append_own _ rfl _ _ 22 rfl w.heap.size 28 j0 (.slice none 0 0) 1 24 Tryd.underlying22 hj hy0 hy1 hy2 rfl (by decide) _ _ _ rfl (World.ownsRow_made w #[] 0 (Nat.le_refl _) (Nat.zero_le _) rfl) ⟨b, o, none⟩ n c news rfl ?e1 ?e2 ?e3 ?e4 ?e5 ?e6 ?_)
  case e1 => rw [Hl.out]; omega
  case e2 =>
    intro j u hj
    rw [Addr.add_lit]
    exact Lib.cell?_alloc_some _ (Hc.out j u hj)
  case e3 => exact H1.out
  case e4 => unfold maxLen; omega
  case e5 => omega
  case e6 => simp
  intro v' w1 hown hgrow _
  have Hown := Lib.hid (show w1.ownsRow w.heap.size 28 1 v' n news by simpa using hown)
  have Hb := Lib.hid (((Below.refl w.heap.size w).alloc (Nat.le_refl _) _).grown hgrow (by simp) (by intro k hk; simp [Value.ownBlock] at hk; omega))
  clear hown hgrow
  go_wp2
  go_ret
  exact ⟨_, rfl, Hown.out, Hb.out⟩
end Go.Proofs.YtjkpokpidpampaaDoor

namespace Go.Proofs.YtjkpokpidpampaaDoor
open Go.RowKit

set_option maxRecDepth 100000 in
set_option maxHeartbeats 800000 in
theorem sReverseM_any (B g n c : Nat) (vs : List Value) (w : World) (hn : n ≤ 1048576) (hn1 : 1 ≤ n) (hB : B ≤ g) (hsl : ∀ t, t < n → ∃ r m d, vs.getD t undef = .slice r m d) (ho : w.ownsRow g 28 1 (.slice (some ⟨g, 0, none⟩) n c) n vs) :
    Calls Tryd.prog 81 #[.slice (some ⟨g, 0, none⟩) n c] w fun e w' => e = .returned (.tuple #[]) ∧ w'.ownsRow g 28 1 (.slice (some ⟨g, 0, none⟩) n c) n vs.reverse ∧ Below B w w' := by
  have hmx : n ≤ 9223372036854775807 := by omega
  have hvl : vs.length = n := by simpa using ho.1
  have Hsl := Lib.hid hsl
  have Ho := Lib.hid ho
  have Hvl := Lib.hid hvl
  clear ho hvl hsl
  go_enter Tryd.func81, Tryd.ntmps81
  go_wp2
  go_loopw [2, 3] (fun i j wr => ∃ (k l : Nat) (us : List Value), k + l + 1 = n ∧ k ≤ l + 1 ∧ i = .int .i64 k ∧ j = .int .i64 l ∧ wr.ownsRow g 28 1 (.slice (some ⟨g, 0, none⟩) n c) n us ∧ (∀ t, t < n → us.getD t undef = if t < k ∨ n - k ≤ t then vs.getD (n - 1 - t) undef else vs.getD t undef) ∧ Below B w wr) (fun i _ _ => n - (intOf i).toNat)
  case atStart => exact ⟨0, n - 1, vs, by omega, by omega, rfl, by go_num, Ho.out, fun t ht => by rw [if_neg (by omega)], Below.refl _ _⟩
  case round =>
    obtain ⟨k, l, us, hkl, hle, rfl, rfl, hown, hus, hbr⟩ := hrel
    by_cases hlt : k < l
    · have hul : us.length = n := by simpa using hown.1
      have hck := World.ownsRow.cellAt hown k (by omega)
      have hcl := World.ownsRow.cellAt hown l (by omega)
      have hfk := World.ownsRow.frozenAt hown k
      have hfl := World.ownsRow.frozenAt hown l
      obtain ⟨r1, m1, d1, e1⟩ := Hsl.out k (by omega)
      obtain ⟨r2, m2, d2, e2⟩ := Hsl.out l (by omega)
      have f1 : us[k]? = some (.slice r1 m1 d1) := by
        have := hus k (by omega)
        rw [if_neg (by omega), e1] at this
        simp only [List.getD, List.getElem?_eq_getElem (show k < us.length by omega), Option.getD_some] at this ⊢
        rw [this]
      have f2 : us[l]? = some (.slice r2 m2 d2) := by
        have := hus l (by omega)
        rw [if_neg (by omega), e2] at this
        simp only [List.getD, List.getElem?_eq_getElem (show l < us.length by omega), Option.getD_some] at this ⊢
        rw [this]
      rw [f1] at hck
      rw [f2] at hcl
      have hkn : k < n := by omega
      have hln : l < n := by omega
      have hne : k ≠ l := by omega
      have hne2 : l ≠ k := by omega
      have Hus := Lib.hid hus
      have Hown := Lib.hid hown
      have Hbr := Lib.hid hbr
      have Hf1 := Lib.hid (And.intro e1 e2)
      clear hus hown hbr f1 f2 e1 e2
      go_wp2_with fail
      go_region
      go_wp2
      go_roundw
      case rel =>
        have hz : (k : Int) < l := by omega
        refine ⟨k + 1, l - 1, (us.set k (.slice r2 m2 d2)).set l (.slice r1 m1 d1), by omega, by omega, by go_num, by rw [show ((l - 1 : Nat) : Int) = (l : Int) - 1 from by omega], ?_, ?_, ?_⟩
        · exact (World.ownsRow.stored (World.ownsRow.stored (ownsRow_below Hown.out ((Q.refl wr).drewN 1 |>.below _)) k _).1 l _).1
        · intro t ht
          obtain ⟨e1, e2⟩ := Hf1.out
          have hu := Hus.out t ht
          simp only [List.getD, List.getElem?_set, List.length_set] at hu e1 e2 ⊢
          by_cases ht1 : l = t
          · subst ht1
            rw [if_pos rfl, if_pos (by omega), if_pos (by omega), show n - 1 - l = k from by omega, e1]
            rfl
          · rw [if_neg ht1]
            by_cases ht2 : k = t
            · subst ht2
              rw [if_pos rfl, if_pos (by omega), if_pos (by omega), show n - 1 - k = l from by omega, e2]
              rfl
            · rw [if_neg ht2, hu]
              by_cases hc : t < k ∨ n - k ≤ t
              · rw [if_pos hc, if_pos (by omega)]
              · rw [if_neg hc, if_neg (by omega)]
        · exact ((Hbr.out.trans ((Q.refl wr).drewN 1 |>.below _)).setCell (p := ⟨g, k, none⟩) hB _).setCell (p := ⟨g, l, none⟩) hB _
      case measure => simp [intOf]; omega
    · have hfin : us = vs.reverse := by
        have hul : us.length = n := by simpa using hown.1
        apply List.ext_getElem (by rw [List.length_reverse, hul, Hvl.out])
        intro t h1 h2
        have hu := hus t (by omega)
        rw [List.getElem_reverse]
        have hvl := Hvl.out
        by_cases hc : t < k ∨ n - k ≤ t
        · rw [if_pos hc] at hu
          simp only [List.getD, List.getElem?_eq_getElem h1, List.getElem?_eq_getElem (show n - 1 - t < vs.length by omega), Option.getD_some] at hu
          rw [hu]
          congr 1
          omega
        · rw [if_neg hc] at hu
          simp only [List.getD, List.getElem?_eq_getElem h1, List.getElem?_eq_getElem (show t < vs.length by omega), Option.getD_some] at hu
          rw [hu]
          congr 1
          omega
      rw [hfin] at hown
      have Hown := Lib.hid hown
      have Hbr := Lib.hid hbr
      have hd : decide ((k : Int) < (l : Int)) = false := by simp; omega
      clear hown hus hbr hfin
      go_wp2
      (try simp only [Exit.inBlock, Exit.then]); refine bodyPost_end (results_none rfl _ _ _) rfl ?_
      exact ⟨rfl, Hown.out, Hbr.out⟩
end Go.Proofs.YtjkpokpidpampaaDoor

namespace Go.Proofs.YtjkpokpidpampaaDoor
open Go.RowKit

set_option maxRecDepth 100000 in
set_option maxHeartbeats 800000 in
theorem upsideDown_any (ao : Option Addr) (c : Nat) (m : List (List Int)) (w : World) (hn : m.length ≤ 1048576) (h1 : 1 ≤ m.length) (hm : MatAt w ao m) :
    Calls Tryd.prog 67 #[.slice ao m.length c] w fun e w' => ∃ v, e = .returned v ∧ (∃ g d, v = .slice (some ⟨g, 0, none⟩) m.length d ∧ w.heap.size ≤ g ∧ MatAt w' (some ⟨g, 0, none⟩) m.reverse) ∧ Below w.heap.size w w' := by
  have hmx : m.length ≤ 9223372036854775807 := by omega
  obtain ⟨b, o, rfl⟩ : ∃ b o, ao = some ⟨b, o, none⟩ := by
    obtain ⟨b, o, r, d, e, _⟩ := hm 0 (by omega)
    exact ⟨b, o, e⟩
  have hrow : ∀ i, i < m.length → ∃ r d, w.cell? ⟨b, o + i, none⟩ = some (.slice r (gr m i).length d) ∧ IntsAt w r (gr m i) ∧ (gr m i).length ≤ d ∧ d ≤ 9223372036854775807 := fun i hi => by
    obtain ⟨b', o', r, d, e, hc, hx⟩ := hm i hi
    cases e
    exact ⟨r, d, hc, hx⟩
  obtain ⟨vs, hvs⟩ : ∃ vs : List Value, vs = (List.range m.length).map fun i => (w.cell? ⟨b, o + i, none⟩).getD undef := ⟨_, rfl⟩
  have hvl : vs.length = m.length := by rw [hvs]; simp
  have hvg : ∀ i, i < m.length → w.cell? ⟨b, o + i, none⟩ = some (vs.getD i undef) := fun i hi => by
    obtain ⟨r, d, hc, _⟩ := hrow i hi
    rw [hvs]
    simp [List.getD, hi, hc]
  have hcells : ∀ j u, vs[j]? = some u → w.cell? ⟨b, o + j, none⟩ = some u := fun j u hj => by
    have hj2 : j < m.length := by have := (List.getElem?_eq_some_iff.1 hj).1; omega
    rw [hvg j hj2]
    simp [List.getD, hj]
  have hval : ∀ i, i < m.length → ∃ r d, vs.getD i undef = .slice r (gr m i).length d ∧ IntsAt w r (gr m i) ∧ (gr m i).length ≤ d ∧ d ≤ 9223372036854775807 := fun i hi => by
    obtain ⟨r, d, hc, hx⟩ := hrow i hi
    rw [hvg i hi] at hc
    exact ⟨r, d, Option.some.inj hc, hx⟩
  have hone : ∀ u ∈ vs, u.oneCell' = true := fun u hu => by
    obtain ⟨i, hi, e⟩ := List.getElem_of_mem hu
    obtain ⟨r, d, hc, _⟩ := hval i (by omega)
    simp only [List.getD, List.getElem?_eq_getElem hi, Option.getD_some] at hc
    rw [← e, hc]
    rfl
  have Hcl := Lib.hid (sCloneM_any b o m.length c vs w hn hvl hcells hone)
  have Hval := Lib.hid hval
  have Hvl := Lib.hid hvl
  clear hm hrow hvs hvg hcells hone hvl hval
  go_enter Tryd.func67, Tryd.ntmps67
  go_wp2_with fail
  refine Hcl.out.mono ?_
  rintro e w1 ⟨v, rfl, hown, hb1⟩
  obtain ⟨ao', d, e1, _, _, _⟩ := ownsRow_read hown
  subst e1
  obtain ⟨g, hg, hgB⟩ : ∃ g, ao' = some ⟨g, 0, none⟩ ∧ w.heap.size ≤ g := by
    rcases hown.2 with ⟨h0, _⟩ | ⟨g, cap, cur, hv, hb, _⟩
    · simp only [Value.slice.injEq] at h0; omega
    · simp only [Value.slice.injEq] at hv
      exact ⟨g, hv.1, hb⟩
  subst hg
  have Hrv := Lib.hid (sReverseM_any w.heap.size g m.length d vs w1 hn h1 hgB (fun t ht => by obtain ⟨r, d', e, _⟩ := Hval.out t ht; exact ⟨r, _, d', e⟩) (by
    rcases hown.2 with ⟨h0, _⟩ | ⟨g', cap, cur, hv, hb, h4⟩
    · simp only [Value.slice.injEq] at h0; omega
    · simp only [Value.slice.injEq, Option.some.injEq, Addr.mk.injEq] at hv
      obtain ⟨⟨rfl, _, _⟩, _⟩ := hv
      exact ⟨hown.1, .inr ⟨g, cap, cur, by simp only [Value.slice.injEq] at *; simp_all, Nat.le_refl _, h4⟩⟩))
  have Hb1 := Lib.hid hb1
  clear hown hb1
  go_wp2_with fail
  refine Hrv.out.mono ?_
  rintro e w2 ⟨rfl, hown, hb2⟩
  have Hfin := Lib.hid (show MatAt w2 (some ⟨g, 0, none⟩) m.reverse from fun i hi => by
    rw [List.length_reverse] at hi
    obtain ⟨r, d', e, hx, hk⟩ := Hval.out (m.length - 1 - i) (by omega)
    have hc := World.ownsRow.cellAt hown i (by omega)
    rw [gr_reverse hi]
    refine ⟨g, 0, r, d', rfl, ?_, hx.below (Hb1.out.trans hb2), hk⟩
    rw [Nat.zero_add, hc, List.getElem?_reverse (by rw [Hvl.out]; exact hi), Hvl.out, ← e]
    simp [List.getD, List.getElem?_eq_getElem (show m.length - 1 - i < vs.length by rw [Hvl.out]; omega)])
  have Hb2 := Lib.hid (Hb1.out.trans hb2)
  clear hown hb2
  go_wp2
  go_ret
  exact ⟨_, rfl, ⟨g, _, rfl, hgB, Hfin.out⟩, Hb2.out⟩
end Go.Proofs.YtjkpokpidpampaaDoor

namespace Go.Proofs.YtjkpokpidpampaaDoor
open Go.RowKit

def lenC (n : Nat) : Bool := (subs (iota n)).all fun s => (compl n s).length + s.length == n
set_option maxRecDepth 1000000 in
theorem len_ok : lenC 1 = true ∧ lenC 2 = true ∧ lenC 3 = true ∧ lenC 4 = true ∧ lenC 5 = true ∧ lenC 6 = true := by decide +kernel
theorem compl_len {n : Nat} (h1 : 1 ≤ n) (h6 : n ≤ 6) {s : List Int} (hs : s.Sublist (iota n)) : (compl n s).length + s.length = n := by
  have h : lenC n = true := by
    obtain ⟨a, b, c, d, e, f⟩ := len_ok
    rcases (by omega : n = 1 ∨ n = 2 ∨ n = 3 ∨ n = 4 ∨ n = 5 ∨ n = 6) with rfl | rfl | rfl | rfl | rfl | rfl
    · exact a
    · exact b
    · exact c
    · exact d
    · exact e
    · exact f
  have := List.all_eq_true.1 h s (mem_subs hs)
  simpa using this
theorem ways_compl {n : Nat} (h1 : 1 ≤ n) (h6 : n ≤ 6) {s : List Int} (hs : s.Sublist (iota n)) (hl : s.length < n) : waysB n s = ways (compl n s) := by
  have h := List.all_eq_true.1 (ways_all h1 h6) s (mem_subs hs)
  simp only [Bool.or_eq_true, decide_eq_true_eq, beq_iff_eq] at h
  have hc := compl_len h1 h6 hs
  rcases h with h | h
  · omega
  · have e1 : waysB n s = potL (iterT (dnCh n) (n - s.length) [((s, 0), 1)]) (fun _ => 1) := by unfold waysB; rw [ways_tab0]
    have e2 := climb_tab0 (fun _ _ => 0) (fun _ _ => 1) (n - s.length - 1) (compl n s)
    rw [climb_ways] at e2
    rw [e1, h, ← e2]
    unfold ways
    rw [show (compl n s).length = n - s.length from by omega]
end Go.Proofs.YtjkpokpidpampaaDoor

