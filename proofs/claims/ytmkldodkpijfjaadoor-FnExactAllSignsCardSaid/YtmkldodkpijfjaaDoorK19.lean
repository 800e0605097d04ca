/- Parts of proofs: contracts and plain facts. Conditions: as each says. -/
import Derived.Test.YtmkldodkpijfjaaDoorK18
import Derived.Deep.Cut
import Derived.Laws.AppendOwn
import Derived.Laws.AppendOwnNone
namespace Go.Proofs.YtmkldodkpijfjaaDoor
open Go.RowKit

theorem OwnP.drewN {w : World} {B n k : Nat} {v : Value} {m : List (List Int)} {vs : List Value} (h : OwnP w B v n m k vs) (q : Nat) : OwnP (w.drewN q) B v n m k vs := ⟨h.top, h.rows, h.apart⟩
theorem OwnP.drew {w : World} {B n k : Nat} {v : Value} {m : List (List Int)} {vs : List Value} (h : OwnP w B v n m k vs) : OwnP w.drew B v n m k vs := ⟨h.top, h.rows, h.apart⟩

theorem rowsum_bound {m : List (List Int)} (h : good m) {a b : Nat} (ha : a < m.length) (hb : b ≤ m.length) : -6 ≤ sumF (fun j => gi (gr m a) j) b ∧ sumF (fun j => gi (gr m a) j) b ≤ 6 :=
  row_bound (f := fun j => gi (gr m a) j) (n := m.length) h.1.2.1 (fun _ hj => good_entry h ha hj) hb

theorem cs_small {m : List (List Int)} (h : square m) : Small (cs m) := ⟨by rw [cs_len]; have := h.2.1; omega, fun i hi => by rw [cs_len] at hi; unfold cs; rw [tab_row hi]; have := h.2.1; omega⟩
end Go.Proofs.YtmkldodkpijfjaaDoor

namespace Go.Proofs.YtmkldodkpijfjaaDoor
open Go.RowKit

/-- a number of a table, 0 beside it -/
def atC (c : List (List Int)) (i j : Int) : Int := if i < 0 then 0 else if j < 0 then 0 else gi (gr c i.toNat) j.toNat
theorem atC_nat (c : List (List Int)) (i j : Nat) : atC c (i : Int) (j : Int) = gi (gr c i) j := by
  unfold atC
  rw [if_neg (by omega), if_neg (by omega), Int.toNat_natCast, Int.toNat_natCast]

theorem cellD {w : World} {a : Addr} {v : Value} (h : w.cell? a = some v) : ({ w with drawn := w.drawn + 1 } : World).cell? a = some v := h
theorem MatAt.drewD {w : World} {ao : Option Addr} {m : List (List Int)} (h : MatAt w ao m) : MatAt { w with drawn := w.drawn + 1 } ao m := h

/-- the numbers of a table are in 0..n -/
def inRange (c : List (List Int)) : Prop := ∀ i j, i < c.length → j < c.length → 0 ≤ gi (gr c i) j ∧ gi (gr c i) j ≤ c.length

/-- differences of corner sums -/
def df (c : List (List Int)) (i j : Nat) : Int := atC c i j - atC c ((i : Int) - 1) j - atC c i ((j : Int) - 1) + atC c ((i : Int) - 1) ((j : Int) - 1)
def dm (c : List (List Int)) : List (List Int) := tab c.length c.length (df c)
theorem dm_len (c : List (List Int)) : (dm c).length = c.length := tab_len _ _ _

theorem atC_range {c : List (List Int)} (h : inRange c) {i j : Int} (hi : -1 ≤ i ∧ i < c.length) (hj : -1 ≤ j ∧ j < c.length) : 0 ≤ atC c i j ∧ atC c i j ≤ c.length := by
  unfold atC
  split
  · omega
  · split
    · omega
    · exact h i.toNat j.toNat (by omega) (by omega)

theorem w64 {n : Int} (h : -9223372036854775808 ≤ n ∧ n ≤ 9223372036854775807) : IntKind.i64.wrap n = n := by
  exact IntWalk.i64_in n h

/-- .. or not far from it -/
def inWide (c : List (List Int)) : Prop := ∀ i j, i < c.length → j < c.length → -100 ≤ gi (gr c i) j ∧ gi (gr c i) j ≤ 100
theorem atC_wide {c : List (List Int)} (h : inWide c) {i j : Int} (hi : -1 ≤ i ∧ i < c.length) (hj : -1 ≤ j ∧ j < c.length) : -100 ≤ atC c i j ∧ atC c i j ≤ 100 := by
  unfold atC
  split
  · omega
  · split
    · omega
    · exact h i.toNat j.toNat (by omega) (by omega)

end Go.Proofs.YtmkldodkpijfjaaDoor

namespace Go.Proofs.YtmkldodkpijfjaaDoor
open Go.RowKit

/-- a slice's cells, read as values -/
def ValsAt (w : World) (ao : Option Addr) (us : List Value) : Prop := ∀ j, j < us.length → ∃ b o, ao = some ⟨b, o, none⟩ ∧ w.cell? ⟨b, o + j, none⟩ = some (us.getD j undef)
theorem ValsAt.below {w w' : World} {ao : Option Addr} {us : List Value} (h : ValsAt w ao us) (hb : Below w.heap.size w w') : ValsAt w' ao us := fun j hj => by
  obtain ⟨b, o, e, hc⟩ := h j hj
  exact ⟨b, o, e, cell_below hc hb⟩
/-- appending them to a slice of rows that the call owns -/
theorem wpList_append_vals {w : World} {ops : Array Oper} {rest : List Oper} {o : Oper} {a : Act} {Q : Exit → Act → World → Prop} (hgd : o.guard = none) (s x : Operand)
    (ho : o.op = .call { callee := .builtin .append, args := #[s, x], argTypes := #[28, 28] })
    (base : Nat) (v : Value) (n : Nat) (xs : List Value) (hs : a.eval s = v) (hown : w.ownsRow base 22 1 v n xs)
    (ao : Option Addr) (m c : Nat) (ys : List Value) (hx : a.eval x = .slice ao m c) (hc : ao = none → m = 0 ∧ c = 0) (hm : ys.length = m) (hys : ValsAt w ao ys) (h1 : ∀ u ∈ ys, u.oneCell' = true)
    (h63 : n + m ≤ 1048576) (hbase : base ≤ w.heap.size)
    (h : ∀ v' w', w'.ownsRow base 22 1 v' (n + m) (xs ++ ys) → Below base w w' → w.grownBy w' v.ownBlock → wpList Tryd.prog ops Q rest (a.put o.dst v') w') : wpList Tryd.prog ops Q (o :: rest) a w := by
  obtain ⟨i0, hi, hz0, hz1, hz2⟩ := info_parts Tryd.info_ints
  cases ao with
  | none =>
    obtain ⟨rfl, rfl⟩ := hc rfl
    obtain rfl : ys = [] := List.eq_nil_of_length_eq_zero hm
    exact wpList_append_own_none hgd s x 28 ho base 22 i0 1 Tryd.underlying28 hi v n _ hs hown hx (h v w (by rw [List.append_nil, Nat.add_zero]; exact hown) (Below.refl _ _) (World.grownBy.refl _ _))
  | some ad =>
    refine wpList_append_own _ hgd s x 28 ho base 22 i0 (.slice none 0 0) 1 24 Tryd.underlying28 hi hz0 hz1 hz2 rfl (by decide) v n _ hs hown ad m c ys hx (by omega) ?_ h1 (by unfold maxLen; omega) (by omega) hbase ?_
    · intro j u hj
      have hjl : j < ys.length := (List.getElem?_eq_some_iff.1 hj).1
      obtain ⟨b, o', e, hcell⟩ := hys j hjl
      cases e
      have e : ys.getD j undef = u := by simp only [List.getD, hj, Option.getD_some]
      rw [e] at hcell
      rw [Addr.add_lit]
      exact hcell
    · intro v' w' h1 h2 _
      exact h v' w' h1 (Below.grown (Below.refl _ _) h2 hbase (fun k hk => (World.ownsRow.lt hown k hk).1)) h2
/-- a slice without rows that was just written out -/
theorem own_empty (w : World) : (w.alloc (.cells #[] 22)).ownsRow w.heap.size 22 1 (.slice (some ⟨w.heap.size, 0, none⟩) 0 0) 0 [] :=
  ⟨by simp, .inr ⟨w.heap.size, 0, _, rfl, Nat.le_refl _, heap_alloc_new w _, Nat.le_refl _, by decide, rfl, rfl⟩⟩
theorem ValsAt.one (w : World) (u : Value) : ValsAt (w.alloc (.cells #[u] 22)) (some ⟨w.heap.size, 0, none⟩) [u] := fun j hj => by
  obtain rfl : j = 0 := by simp at hj; omega
  refine ⟨w.heap.size, 0, rfl, ?_⟩
  simp
theorem oneCell_row {w : World} {B : Nat} {u : Value} {xs : List Int} (h : RowOwnAt w B u xs) : u.oneCell' = true := by
  obtain ⟨r, c, rfl, _⟩ := h
  rfl
end Go.Proofs.YtmkldodkpijfjaaDoor

namespace Go.Proofs.YtmkldodkpijfjaaDoor
open Go.RowKit

set_option maxRecDepth 100000 in
set_option maxHeartbeats 3200000 in
theorem trNext_any (n : Nat) (hn : n ≤ 6) (s : List Int) (hs : ColsN n s) (h6 : s.length ≤ 6) (a1 : Option Addr) (c1 : Nat) (w : World) (hx : IntsAt w a1 s) :
    Calls Tryd.prog 53 #[.slice a1 s.length c1, .int .i64 (n : Int)] w fun e w' => ∃ (v : Value) (ps : List (Value × List Int)), e = .returned v ∧ w'.ownsRow w.heap.size 22 1 v ps.length (ps.map (·.1)) ∧ (∀ p ∈ ps, RowOwnAt w' w.heap.size p.1 p.2) ∧ ps.map (·.2) = nextL n s ∧ Below w.heap.size w w' := by
  obtain ⟨j0, hj, hy0, hy1, hy2⟩ := info_parts Tryd.info_ints
  have Hs := Lib.hid hs
  have Hx := Lib.hid hx
  have Ht := Lib.hid (trBehind_any n hn s hs h6 (s.length + 1) [] a1 none c1 0 w (by simp) (by simp) (fun x hx => by cases hx) (fun _ => rfl) hx (IntsAt.nil _ _))
  have hbl := behind_len hn hs h6
  have Hbl := Lib.hid hbl
  have Ha := Lib.hid (show bhRes n s [] = behind n s by simp [bhRes, behind, lst_nil])
  clear hs hx hbl
  go_enter Tryd.func53, Tryd.ntmps53
  go_wp2_with fail
  refine Ht.out.mono ?_
  rintro e w1 ⟨v, rfl, hv, hb⟩
  rw [Ha.out] at hv
  have hcols : ∀ ys ∈ behind n s, ColsN n ys ∧ ys.length = s.length + 1 := fun ys hy => behind_mem Hs.out hy
  obtain ⟨A, hA⟩ : ∃ A, A = behind n s := ⟨_, rfl⟩
  rw [← hA] at hv hcols
  obtain ⟨ra, rc, rfl, _, _, hmat⟩ := hv.read
  have hal : A.length ≤ 1048576 := by rw [hA]; exact Hbl.out
  have hrows : ∀ k, k < A.length → ∃ b o r d, ra = some ⟨b, o, none⟩ ∧ w1.cell? ⟨b, o + k, none⟩ = some (.slice r (gr A k).length d) ∧ RowOwnAt w1 w.heap.size (.slice r (gr A k).length d) (gr A k) ∧ ColsN n (gr A k) ∧ (gr A k).length = s.length + 1 := by
    intro k hk
    obtain ⟨us, hp⟩ := hv
    obtain ⟨ao', c', hsl, _, _, hcells⟩ := ownsRow_read hp.top
    cases hsl
    obtain ⟨b1, o1, e1, hc1⟩ := hcells k hk
    have hrow := hp.rows k hk
    obtain ⟨r1, d1, hr1, _, _, hx1⟩ := hrow.read
    have hlt := hrow.lt
    rw [hr1] at hc1 hlt
    have hm := hcols (gr A k) (gr_mem hk)
    refine ⟨b1, o1, r1, d1, e1, hc1, ⟨r1, d1, rfl, hx1, fun b o e => ?_⟩, hm.1, hm.2⟩
    subst e
    exact (hlt b rfl).1
  have Hrows := Lib.hid hrows
  have HA := Lib.hid hA
  have Hb := Lib.hid hb
  have HZ := Lib.hid hb.size
  have hamx : A.length ≤ 9223372036854775807 := by omega
  clear hv hmat hA hb hcols hrows Ht
  go_wp2
  go_loopw [5, 14] (fun srt i wr => ∃ (k : Nat) (ps : List (Value × List Int)), k ≤ A.length ∧ i = .int .i64 k ∧ ps.length = k ∧ wr.ownsRow w1.heap.size 22 1 srt k (ps.map (·.1)) ∧ (∀ p ∈ ps, RowOwnAt w1 w.heap.size p.1 p.2 ∧ ColsN n p.2 ∧ p.2.length = s.length + 1) ∧
      ps.map (·.2) = (A.take k).foldl (putIn n s) [] ∧ (k = 0 → srt = .slice none 0 0) ∧ Below w1.heap.size w1 wr) (fun _ i _ => A.length - (intOf i).toNat)
  case atStart => exact ⟨0, [], Nat.zero_le _, rfl, rfl, World.ownsRow_nil _ _ _ _, (fun p hp => by cases hp), rfl, (fun _ => rfl), Below.refl _ _⟩
  case round =>
    obtain ⟨k, ps, hk, rfl, hpl, hown, hps, hfold, hnil, hbr⟩ := hrel
    obtain ⟨wo, rfl⟩ : ∃ wo : World, wo = wr := ⟨_, rfl⟩
    have Hown := Lib.hid hown
    have Hps := Lib.hid hps
    have Hfold := Lib.hid hfold
    have Hnil := Lib.hid hnil
    have Hbr := Lib.hid hbr
    have Hpl := Lib.hid hpl
    have HZ2 := Lib.hid hbr.size
    clear hown hps hfold hnil hbr hpl
    by_cases hlt : k < A.length
    · obtain ⟨b1, o1, ry, dy, e1, hc1, hry, hyc, hyl⟩ := Hrows.out k hlt
      subst e1
      have hc2 := cell_below hc1 Hbr.out
      obtain ⟨ao, c, hsrt, hc0, hcm, hcells⟩ := ownsRow_read Hown.out
      subst hsrt
      have Hcells := Lib.hid hcells
      have Hry := Lib.hid hry
      have Hyc := Lib.hid hyc
      have Hyl := Lib.hid hyl
      clear hcells hry hyc hyl hc1
      go_wp2
      go_loopw [8] (fun j wr => ∃ t : Nat, t ≤ k ∧ j = .int .i64 t ∧ (∀ z ∈ (ps.map (·.2)).take t, rowLess (stepF n s z) (stepF n s (gr A k)) = true) ∧ Below wo.heap.size wo wr) (fun j _ => k - (intOf j).toNat)
      case atStart => exact ⟨0, Nat.zero_le _, rfl, fun z hz => by simp at hz, Below.refl _ _⟩
      case round =>
        obtain ⟨t, ht, rfl, hless, hbi⟩ := hrel
        have Hless := Lib.hid hless
        have Hbi := Lib.hid hbi
        have HZ3 := Lib.hid hbi.size
        clear hless hbi
        have hstop : (∃ h : t < ps.length, rowLess (stepF n s ps[t].2) (stepF n s (gr A k)) = true) ∨ (t < k ∧ ∀ h : t < ps.length, rowLess (stepF n s ps[t].2) (stepF n s (gr A k)) = false) ∨ t = k := by
          by_cases h1 : t < ps.length
          · by_cases h2 : rowLess (stepF n s ps[t].2) (stepF n s (gr A k)) = true
            · exact .inl ⟨h1, h2⟩
            · exact .inr (.inl ⟨by rw [Hpl.out] at h1; exact h1, fun _ => by simpa using h2⟩)
          · exact .inr (.inr (by have := Hpl.out; omega))
        rcases hstop with ⟨h1, h2⟩ | ⟨h1, h2⟩ | h1
        · have htk : t < k := by rw [Hpl.out] at h1; exact h1
          obtain ⟨bz, oz, ez, hcz⟩ := Hcells.out t htk
          have hpt : t < ps.length := by rw [Hpl.out]; omega
          have hget : (ps.map (·.1)).getD t undef = ps[t].1 := by simp [List.getD, hpt]
          rw [hget] at hcz
          obtain ⟨⟨rz, dz, hz, hxz, _⟩, hzc, hzl⟩ := Hps.out ps[t] (List.getElem_mem hpt)
          obtain ⟨ry, dy2, hy, hxy, _⟩ := Hry.out
          cases hy
          obtain ⟨z, hzz⟩ : ∃ z, z = ps[t].2 := ⟨_, rfl⟩
          rw [← hzz] at hz hxz hzc hzl
          rw [hz] at hcz
          subst ez
          have hcz2 := cell_below hcz Hbi.out
          have hltk : (t : Int) < (k : Int) := by omega
          have HH1 := Lib.hid (trStep_any a1 rz c1 dz n s z wr (by omega) (by omega) (by omega) Hs.out.2 hzc.2 (((Hx.out.below Hb.out).below Hbr.out).below Hbi.out) ((hxz.below Hbr.out).below Hbi.out))
          have Hzz := Lib.hid hzz
          have Hpt := Lib.hid hpt
          have Hyr := Lib.hid ((hxy.below Hbr.out).below Hbi.out)
          have hzl6 : z.length ≤ 1048576 := by omega
          have hyl6 : (gr A k).length ≤ 1048576 := by have := Hyl.out; omega
          clear hcz hz hxz hzc hzl hzz hxy hget
          go_wp2_with fail
          refine HH1.out.mono ?_
          rintro e w2 ⟨v, rfl, hv2, hb2⟩
          obtain ⟨a2, c2, rfl, _, _, hm2⟩ := hv2.read
          have HM2 := Lib.hid hm2
          have Hb2 := Lib.hid (Hbi.out.trans (hb2.mono HZ3.out))
          have Hyr2 := Lib.hid (Hyr.out.below hb2)
          have HS2 := Lib.hid ((((Hx.out.below Hb.out).below Hbr.out).below Hbi.out).below hb2)
          clear hv2 hm2 hb2 HH1
          have HH2 := Lib.hid (trStep_any a1 ry c1 dy n s (gr A k) w2 (by omega) (by omega) hyl6 Hs.out.2 Hyc.out.2 HS2.out Hyr2.out)
          have HZ4 := Lib.hid Hb2.out.size
          go_wp2_with fail
          refine HH2.out.mono ?_
          rintro e w3 ⟨v, rfl, hv3, hb3⟩
          obtain ⟨a3, c3, rfl, _, _, hm3⟩ := hv3.read
          have Hb3 := Lib.hid (Hb2.out.trans (hb3.mono HZ4.out))
          have HH3 := trRowLess_any a2 a3 c2 c3 (stepF n s z) (stepF n s (gr A k)) w3 (by rw [stepF_len]; omega) (by rw [stepF_len, stepF_len]) (HM2.out.below hb3) hm3
          rw [show rowLess (stepF n s z) (stepF n s (gr A k)) = true from by rw [Hzz.out]; exact h2] at HH3
          have HH4 := Lib.hid HH3
          have H2 := Lib.hid h2
          clear hv3 hm3 hb3 HH2 HH3 h2
          go_wp2_with fail
          refine HH4.out.mono ?_
          rintro e w4 ⟨rfl, rfl⟩
          go_wp2
          go_roundw
          case rel =>
            refine ⟨t + 1, by omega, by go_num, fun z hz => ?_, Hb3.out⟩
            have hpt2 : t < (ps.map (·.2)).length := by rw [List.length_map]; exact Hpt.out
            rw [List.take_succ_eq_append_getElem hpt2] at hz
            rcases List.mem_append.1 hz with hz | hz
            · exact Hless.out z hz
            · simp only [List.mem_singleton, List.getElem_map] at hz
              subst hz
              exact H2.out
          case measure => simp [intOf]; omega
        · obtain ⟨bz, oz, ez, hcz⟩ := Hcells.out t (by omega)
          have hpt : t < ps.length := by rw [Hpl.out]; omega
          have hget : (ps.map (·.1)).getD t undef = ps[t].1 := by simp [List.getD, hpt]
          rw [hget] at hcz
          obtain ⟨⟨rz, dz, hz, hxz, _⟩, hzc, hzl⟩ := Hps.out ps[t] (List.getElem_mem hpt)
          obtain ⟨ry, dy2, hy, hxy, _⟩ := Hry.out
          cases hy
          obtain ⟨z, hzz⟩ : ∃ z, z = ps[t].2 := ⟨_, rfl⟩
          rw [← hzz] at hz hxz hzc hzl
          rw [hz] at hcz
          subst ez
          have hcz2 := cell_below hcz Hbi.out
          have hltk : (t : Int) < (k : Int) := by omega
          have HH1 := Lib.hid (trStep_any a1 rz c1 dz n s z wr (by omega) (by omega) (by omega) Hs.out.2 hzc.2 (((Hx.out.below Hb.out).below Hbr.out).below Hbi.out) ((hxz.below Hbr.out).below Hbi.out))
          have Hzz := Lib.hid hzz
          have Hpt := Lib.hid hpt
          have Hyr := Lib.hid ((hxy.below Hbr.out).below Hbi.out)
          have hzl6 : z.length ≤ 1048576 := by omega
          have hyl6 : (gr A k).length ≤ 1048576 := by have := Hyl.out; omega
          clear hcz hz hxz hzc hzl hzz hxy hget
          go_wp2_with fail
          refine HH1.out.mono ?_
          rintro e w2 ⟨v, rfl, hv2, hb2⟩
          obtain ⟨a2, c2, rfl, _, _, hm2⟩ := hv2.read
          have HM2 := Lib.hid hm2
          have Hb2 := Lib.hid (Hbi.out.trans (hb2.mono HZ3.out))
          have Hyr2 := Lib.hid (Hyr.out.below hb2)
          have HS2 := Lib.hid ((((Hx.out.below Hb.out).below Hbr.out).below Hbi.out).below hb2)
          clear hv2 hm2 hb2 HH1
          have HH2 := Lib.hid (trStep_any a1 ry c1 dy n s (gr A k) w2 (by omega) (by omega) hyl6 Hs.out.2 Hyc.out.2 HS2.out Hyr2.out)
          have HZ4 := Lib.hid Hb2.out.size
          go_wp2_with fail
          refine HH2.out.mono ?_
          rintro e w3 ⟨v, rfl, hv3, hb3⟩
          obtain ⟨a3, c3, rfl, _, _, hm3⟩ := hv3.read
          have Hb3 := Lib.hid (Hb2.out.trans (hb3.mono HZ4.out))
          have HH3 := trRowLess_any a2 a3 c2 c3 (stepF n s z) (stepF n s (gr A k)) w3 (by rw [stepF_len]; omega) (by rw [stepF_len, stepF_len]) (HM2.out.below hb3) hm3
          rw [show rowLess (stepF n s z) (stepF n s (gr A k)) = false from by rw [Hzz.out]; exact h2 (by rw [Hpl.out]; exact h1)] at HH3
          have HH4 := Lib.hid HH3
          have H2 := Lib.hid h2
          clear hv3 hm3 hb3 HH2 HH3 h2
          go_wp2_with fail
          refine HH4.out.mono ?_
          rintro e w4 ⟨rfl, rfl⟩
          go_upto_region 8 with (fail)
          clear Hrows Hyr Hyr2 HS2 HM2 Hb2
          have HB := Lib.hid (Hb3.out)
          have HZB := Lib.hid HB.out.size
          have hlp : ((ps.map (·.1)).take t).length = t := by rw [List.length_take, List.length_map, Hpl.out]; omega
          have hld : ((ps.map (·.1)).drop t).length = k - t := by rw [List.length_drop, List.length_map, Hpl.out]
          have HOne := Lib.hid (show ∀ u ∈ ps.map (·.1), u.oneCell' = true from fun u hu => by
            obtain ⟨p, hp, rfl⟩ := List.mem_map.1 hu
            exact oneCell_row (Hps.out p hp).1)
          have HVal := Lib.hid (show ValsAt w3 (some ⟨bz, oz, none⟩) ((ps.map (·.1)).take t) from fun j hj => by
            rw [hlp] at hj
            obtain ⟨b, o, e, hc⟩ := Hcells.out j (by omega)
            refine ⟨b, o, e, ?_⟩
            have e2 : ((ps.map (·.1)).take t).getD j undef = (ps.map (·.1)).getD j undef := by simp only [List.getD, List.getElem?_take]; rw [if_pos hj]
            rw [e2]
            exact cell_below hc HB.out)
          have HVal2 := Lib.hid (show ValsAt w3 (some ⟨bz, oz + t, none⟩) ((ps.map (·.1)).drop t) from fun j hj => by
            rw [hld] at hj
            obtain ⟨b, o, e, hc⟩ := Hcells.out (t + j) (by omega)
            cases e
            refine ⟨bz, oz + t, rfl, ?_⟩
            have e2 : ((ps.map (·.1)).drop t).getD j undef = (ps.map (·.1)).getD (t + j) undef := by simp only [List.getD, List.getElem?_drop]
            rw [e2, Nat.add_assoc]
            exact cell_below hc HB.out)
          have Hput := Lib.hid (show (putAt ps t (Value.slice ry (gr A k).length dy, gr A k)).map (·.2) = (A.take (k + 1)).foldl (putIn n s) [] by
            rw [putAt_map, List.take_succ_eq_append_getElem hlt, List.foldl_append, List.foldl_cons, List.foldl_nil, ← Hfold.out, ← gr_lt hlt]
            exact (putIn_at Hless.out (fun h => by simp only [List.getElem_map]; exact H2.out Hpt.out) (by rw [List.length_map, Hpl.out]; exact ht)).symm)
          go_wp2_with (at_builtin; refine wpList_append_vals rfl _ _ rfl w3.heap.size _ 0 [] rfl (own_empty w3) (some ⟨bz, oz, none⟩) t c ((ps.map (·.1)).take t) rfl (by intro e; cases e) hlp (HVal.out.below ((Below.refl _ _).alloc (Nat.le_refl _) _)) (fun u hu => HOne.out u (List.mem_of_mem_take hu)) (by omega) (by simp) ?_)
          intro v1 wa hv1 hba _
          have HV1 := Lib.hid hv1
          have Hba := Lib.hid (((Below.refl w3.heap.size w3).alloc (Nat.le_refl _) _).trans hba)
          have HZa := Lib.hid Hba.out.size
          clear hv1 hba
          go_wp2_with (at_builtin; refine wpList_append_vals rfl _ _ rfl w3.heap.size _ _ _ rfl (World.ownsRow.alloc HV1.out _) (some ⟨wa.heap.size, 0, none⟩) 1 1 [.slice ry (gr A k).length dy] rfl (by intro e; cases e) rfl (ValsAt.one wa _) (by intro u hu; simp at hu; subst hu; rfl) (by omega) (by simp; have := HZa.out; omega) ?_)
          intro v2 wb hv2 hbb _
          have HV2 := Lib.hid hv2
          have Hbb := Lib.hid ((Hba.out.alloc HZa.out _).trans hbb)
          have HZb := Lib.hid Hbb.out.size
          clear hv2 hbb
          by_cases htc : t = c
          · subst htc
            obtain rfl : k = t := by omega
            have hd0 : (ps.map (·.1)).drop k = [] := List.eq_nil_of_length_eq_zero (by omega)
            go_wp2_with (at_builtin; first | (refine wpList_append_vals rfl _ _ rfl w3.heap.size _ _ _ rfl HV2.out (some ⟨bz, oz, none⟩) 0 0 [] rfl (by intro e; cases e) rfl (fun j hj => absurd hj (by simp)) (by intro u hu; cases hu) (by omega) HZb.out ?_) | (refine wpList_append_vals rfl _ _ rfl w3.heap.size _ _ _ rfl HV2.out (some ⟨bz, oz + k, none⟩) 0 0 [] rfl (by intro e; cases e) rfl (fun j hj => absurd hj (by simp)) (by intro u hu; cases hu) (by omega) HZb.out ?_))
            intro v3 wc hv3 hbc _
            have HV3 := Lib.hid hv3
            have Hbc := Lib.hid (Hbb.out.trans hbc)
            clear hv3 hbc
            go_wp2
            go_roundw
            case rel =>
              refine ⟨k + 1, putAt ps k (Value.slice ry (gr A k).length dy, gr A k), by omega, by go_num, ?_, ?_, ?_, Hput.out, fun h => absurd h (by omega), Hbr.out.trans ((HB.out.mono HZ2.out).trans (Hbc.out.mono (Nat.le_trans HZ2.out HZB.out)))⟩
              · rw [putAt_len _ _ _ (by rw [Hpl.out]; exact Nat.le_refl _), Hpl.out]
              · have h := ownsRow_base HV3.out (Nat.le_trans HZ2.out HZB.out)
                rw [putAt_map]
                unfold putAt
                rw [hd0]
                simpa using h
              · intro p hp
                rcases mem_putAt hp with rfl | hp
                · exact ⟨Hry.out, Hyc.out, Hyl.out⟩
                · exact Hps.out p hp
            case measure => simp [intOf]; omega
          · go_wp2_with (at_builtin; first | (refine wpList_append_vals rfl _ _ rfl w3.heap.size _ _ _ rfl HV2.out (some ⟨bz, oz + t, none⟩) (k - t) (c - t) ((ps.map (·.1)).drop t) rfl (by intro e; cases e) hld (HVal2.out.below Hbb.out) (fun u hu => HOne.out u (List.mem_of_mem_drop hu)) (by omega) HZb.out ?_) | (refine wpList_append_vals rfl _ _ rfl w3.heap.size _ _ _ rfl HV2.out (some ⟨bz, t, none⟩) (k - t) (c - t) ((ps.map (·.1)).drop t) rfl (by intro e; cases e) hld (by have h := HVal2.out.below Hbb.out; rwa [Nat.zero_add] at h) (fun u hu => HOne.out u (List.mem_of_mem_drop hu)) (by omega) HZb.out ?_))
            intro v3 wc hv3 hbc _
            have HV3 := Lib.hid hv3
            have Hbc := Lib.hid (Hbb.out.trans hbc)
            clear hv3 hbc
            go_wp2
            go_roundw
            case rel =>
              refine ⟨k + 1, putAt ps t (Value.slice ry (gr A k).length dy, gr A k), by omega, by go_num, ?_, ?_, ?_, Hput.out, fun h => absurd h (by omega), Hbr.out.trans ((HB.out.mono HZ2.out).trans (Hbc.out.mono (Nat.le_trans HZ2.out HZB.out)))⟩
              · rw [putAt_len _ _ _ (by rw [Hpl.out]; exact ht), Hpl.out]
              · have h := ownsRow_base HV3.out (Nat.le_trans HZ2.out HZB.out)
                rw [putAt_map]
                unfold putAt
                simpa [show t + 1 + (k - t) = k + 1 from by omega] using h
              · intro p hp
                rcases mem_putAt hp with rfl | hp
                · exact ⟨Hry.out, Hyc.out, Hyl.out⟩
                · exact Hps.out p hp
            case measure => simp [intOf]; omega
        · have hnlt : ¬ ((t : Int) < (k : Int)) := by omega
          rcases Hown.out.2 with ⟨hn1, hn2⟩ | ⟨bz, cz, _, hn1, _⟩
          · obtain ⟨rfl, _, rfl⟩ := (Value.slice.injEq _ _ _ _ _ _).mp hn1
            obtain rfl : k = 0 := by simpa using hn2
            obtain rfl : t = 0 := h1
            clear hn1 hn2
            go_upto_region 8 with (fail)
            clear Hrows Hcells
            have HB := Lib.hid (Hbi.out)
            have HZB := Lib.hid HB.out.size
            have hpn : ps = [] := List.eq_nil_of_length_eq_zero Hpl.out
            have Hput := Lib.hid (show (putAt ps 0 (Value.slice ry (gr A 0).length dy, gr A 0)).map (·.2) = (A.take (0 + 1)).foldl (putIn n s) [] by
              rw [putAt_map, List.take_succ_eq_append_getElem hlt, List.foldl_append, List.foldl_cons, List.foldl_nil, ← Hfold.out, ← gr_lt hlt, hpn]
              rfl)
            go_wp2_with (at_builtin; refine wpList_append_vals rfl _ _ rfl wr.heap.size _ 0 [] rfl (own_empty wr) none 0 0 [] rfl (fun _ => ⟨rfl, rfl⟩) rfl (fun j hj => absurd hj (by simp)) (by intro u hu; cases hu) (by omega) (by simp) ?_)
            intro v1 wa hv1 hba _
            have HV1 := Lib.hid hv1
            have Hba := Lib.hid (((Below.refl wr.heap.size wr).alloc (Nat.le_refl _) _).trans hba)
            have HZa := Lib.hid Hba.out.size
            clear hv1 hba
            go_wp2_with (at_builtin; refine wpList_append_vals rfl _ _ rfl wr.heap.size _ _ _ rfl (World.ownsRow.alloc HV1.out _) (some ⟨wa.heap.size, 0, none⟩) 1 1 [.slice ry (gr A 0).length dy] rfl (by intro e; cases e) rfl (ValsAt.one wa _) (by intro u hu; simp at hu; subst hu; rfl) (by omega) (by simp; have := HZa.out; omega) ?_)
            intro v2 wb hv2 hbb _
            have HV2 := Lib.hid hv2
            have Hbb := Lib.hid ((Hba.out.alloc HZa.out _).trans hbb)
            have HZb := Lib.hid Hbb.out.size
            clear hv2 hbb
            go_wp2_with (at_builtin; refine wpList_append_vals rfl _ _ rfl wr.heap.size _ _ _ rfl HV2.out none 0 0 [] rfl (fun _ => ⟨rfl, rfl⟩) rfl (fun j hj => absurd hj (by simp)) (by intro u hu; cases hu) (by omega) HZb.out ?_)
            intro v3 wc hv3 hbc _
            have HV3 := Lib.hid hv3
            have Hbc := Lib.hid (Hbb.out.trans hbc)
            clear hv3 hbc
            go_wp2
            go_roundw
            case rel =>
              refine ⟨0 + 1, putAt ps 0 (Value.slice ry (gr A 0).length dy, gr A 0), by omega, by go_num, ?_, ?_, ?_, Hput.out, fun h => absurd h (by omega), Hbr.out.trans ((HB.out.mono HZ2.out).trans (Hbc.out.mono (Nat.le_trans HZ2.out HZB.out)))⟩
              · rw [hpn]; rfl
              · have h := ownsRow_base HV3.out (Nat.le_trans HZ2.out HZB.out)
                rw [hpn]
                simpa [putAt] using h
              · intro p hp
                rcases mem_putAt hp with rfl | hp
                · exact ⟨Hry.out, Hyc.out, Hyl.out⟩
                · exact Hps.out p hp
            case measure => simp [intOf]; omega
          obtain ⟨rfl, _, rfl⟩ := (Value.slice.injEq _ _ _ _ _ _).mp hn1
          clear h1 hn1
          go_upto_region 8 with (fail)
          clear Hrows 
          have HB := Lib.hid (Hbi.out)
          have HZB := Lib.hid HB.out.size
          have hlp : ((ps.map (·.1)).take t).length = t := by rw [List.length_take, List.length_map, Hpl.out]; omega
          have hld : ((ps.map (·.1)).drop t).length = k - t := by rw [List.length_drop, List.length_map, Hpl.out]
          have HOne := Lib.hid (show ∀ u ∈ ps.map (·.1), u.oneCell' = true from fun u hu => by
            obtain ⟨p, hp, rfl⟩ := List.mem_map.1 hu
            exact oneCell_row (Hps.out p hp).1)
          have HVal := Lib.hid (show ValsAt wr (some ⟨bz, 0, none⟩) ((ps.map (·.1)).take t) from fun j hj => by
            rw [hlp] at hj
            obtain ⟨b, o, e, hc⟩ := Hcells.out j (by omega)
            refine ⟨b, o, e, ?_⟩
            have e2 : ((ps.map (·.1)).take t).getD j undef = (ps.map (·.1)).getD j undef := by simp only [List.getD, List.getElem?_take]; rw [if_pos hj]
            rw [e2]
            exact cell_below hc HB.out)
          have HVal2 := Lib.hid (show ValsAt wr (some ⟨bz, 0 + t, none⟩) ((ps.map (·.1)).drop t) from fun j hj => by
            rw [hld] at hj
            obtain ⟨b, o, e, hc⟩ := Hcells.out (t + j) (by omega)
            cases e
            refine ⟨bz, 0 + t, rfl, ?_⟩
            have e2 : ((ps.map (·.1)).drop t).getD j undef = (ps.map (·.1)).getD (t + j) undef := by simp only [List.getD, List.getElem?_drop]
            rw [e2, Nat.add_assoc]
            exact cell_below hc HB.out)
          have Hput := Lib.hid (show (putAt ps t (Value.slice ry (gr A k).length dy, gr A k)).map (·.2) = (A.take (k + 1)).foldl (putIn n s) [] by
            rw [putAt_map, List.take_succ_eq_append_getElem hlt, List.foldl_append, List.foldl_cons, List.foldl_nil, ← Hfold.out, ← gr_lt hlt]
            exact (putIn_at Hless.out (fun h => absurd h (by rw [List.length_map, Hpl.out]; omega)) (by rw [List.length_map, Hpl.out]; exact ht)).symm)
          go_wp2_with (at_builtin; refine wpList_append_vals rfl _ _ rfl wr.heap.size _ 0 [] rfl (own_empty wr) (some ⟨bz, 0, none⟩) t c ((ps.map (·.1)).take t) rfl (by intro e; cases e) hlp (HVal.out.below ((Below.refl _ _).alloc (Nat.le_refl _) _)) (fun u hu => HOne.out u (List.mem_of_mem_take hu)) (by omega) (by simp) ?_)
          intro v1 wa hv1 hba _
          have HV1 := Lib.hid hv1
          have Hba := Lib.hid (((Below.refl wr.heap.size wr).alloc (Nat.le_refl _) _).trans hba)
          have HZa := Lib.hid Hba.out.size
          clear hv1 hba
          go_wp2_with (at_builtin; refine wpList_append_vals rfl _ _ rfl wr.heap.size _ _ _ rfl (World.ownsRow.alloc HV1.out _) (some ⟨wa.heap.size, 0, none⟩) 1 1 [.slice ry (gr A k).length dy] rfl (by intro e; cases e) rfl (ValsAt.one wa _) (by intro u hu; simp at hu; subst hu; rfl) (by omega) (by simp; have := HZa.out; omega) ?_)
          intro v2 wb hv2 hbb _
          have HV2 := Lib.hid hv2
          have Hbb := Lib.hid ((Hba.out.alloc HZa.out _).trans hbb)
          have HZb := Lib.hid Hbb.out.size
          clear hv2 hbb
          by_cases htc : t = c
          · subst htc
            obtain rfl : k = t := by omega
            have hd0 : (ps.map (·.1)).drop k = [] := List.eq_nil_of_length_eq_zero (by omega)
            go_wp2_with (at_builtin; first | (refine wpList_append_vals rfl _ _ rfl wr.heap.size _ _ _ rfl HV2.out (some ⟨bz, 0, none⟩) 0 0 [] rfl (by intro e; cases e) rfl (fun j hj => absurd hj (by simp)) (by intro u hu; cases hu) (by omega) HZb.out ?_) | (refine wpList_append_vals rfl _ _ rfl wr.heap.size _ _ _ rfl HV2.out (some ⟨bz, 0 + k, none⟩) 0 0 [] rfl (by intro e; cases e) rfl (fun j hj => absurd hj (by simp)) (by intro u hu; cases hu) (by omega) HZb.out ?_))
            intro v3 wc hv3 hbc _
            have HV3 := Lib.hid hv3
            have Hbc := Lib.hid (Hbb.out.trans hbc)
            clear hv3 hbc
            go_wp2
            go_roundw
            case rel =>
              refine ⟨k + 1, putAt ps k (Value.slice ry (gr A k).length dy, gr A k), by omega, by go_num, ?_, ?_, ?_, Hput.out, fun h => absurd h (by omega), Hbr.out.trans ((HB.out.mono HZ2.out).trans (Hbc.out.mono (Nat.le_trans HZ2.out HZB.out)))⟩
              · rw [putAt_len _ _ _ (by rw [Hpl.out]; exact Nat.le_refl _), Hpl.out]
              · have h := ownsRow_base HV3.out (Nat.le_trans HZ2.out HZB.out)
                rw [putAt_map]
                unfold putAt
                rw [hd0]
                simpa using h
              · intro p hp
                rcases mem_putAt hp with rfl | hp
                · exact ⟨Hry.out, Hyc.out, Hyl.out⟩
                · exact Hps.out p hp
            case measure => simp [intOf]; omega
          · go_wp2_with (at_builtin; first | (refine wpList_append_vals rfl _ _ rfl wr.heap.size _ _ _ rfl HV2.out (some ⟨bz, 0 + t, none⟩) (k - t) (c - t) ((ps.map (·.1)).drop t) rfl (by intro e; cases e) hld (HVal2.out.below Hbb.out) (fun u hu => HOne.out u (List.mem_of_mem_drop hu)) (by omega) HZb.out ?_) | (refine wpList_append_vals rfl _ _ rfl wr.heap.size _ _ _ rfl HV2.out (some ⟨bz, t, none⟩) (k - t) (c - t) ((ps.map (·.1)).drop t) rfl (by intro e; cases e) hld (by have h := HVal2.out.below Hbb.out; rwa [Nat.zero_add] at h) (fun u hu => HOne.out u (List.mem_of_mem_drop hu)) (by omega) HZb.out ?_))
            intro v3 wc hv3 hbc _
            have HV3 := Lib.hid hv3
            have Hbc := Lib.hid (Hbb.out.trans hbc)
            clear hv3 hbc
            go_wp2
            go_roundw
            case rel =>
              refine ⟨k + 1, putAt ps t (Value.slice ry (gr A k).length dy, gr A k), by omega, by go_num, ?_, ?_, ?_, Hput.out, fun h => absurd h (by omega), Hbr.out.trans ((HB.out.mono HZ2.out).trans (Hbc.out.mono (Nat.le_trans HZ2.out HZB.out)))⟩
              · rw [putAt_len _ _ _ (by rw [Hpl.out]; exact ht), Hpl.out]
              · have h := ownsRow_base HV3.out (Nat.le_trans HZ2.out HZB.out)
                rw [putAt_map]
                unfold putAt
                simpa [show t + 1 + (k - t) = k + 1 from by omega] using h
              · intro p hp
                rcases mem_putAt hp with rfl | hp
                · exact ⟨Hry.out, Hyc.out, Hyl.out⟩
                · exact Hps.out p hp
            case measure => simp [intOf]; omega
    · obtain rfl : k = A.length := by omega
      have HF := Lib.hid (show ps.map (·.2) = nextL n s by rw [Hfold.out, List.take_length, HA.out]; rfl)
      have HE := Lib.hid (Hb.out.trans (Hbr.out.mono HZ.out))
      have HO := Lib.hid (ownsRow_base Hown.out HZ.out)
      have HP := Lib.hid (show ∀ p ∈ ps, RowOwnAt wo w.heap.size p.1 p.2 from fun p hp => (Hps.out p hp).1.below Hbr.out)
      go_wp2
      go_ret
      exact ⟨_, ps, rfl, by rw [Hpl.out]; exact HO.out, HP.out, HF.out, HE.out⟩
end Go.Proofs.YtmkldodkpijfjaaDoor

namespace Go.Proofs.YtmkldodkpijfjaaDoor
open Go.RowKit

/-- a row in blocks behind kb -/
def RowI (w : World) (kb : Nat) (ra : Option Addr) (xs : List Int) : Prop := IntsAt w ra xs ∧ ∀ b o, ra = some ⟨b, o, none⟩ → kb < b
theorem RowI.nil (w : World) (kb : Nat) : RowI w kb none [] := ⟨IntsAt.nil _ _, fun b o e => by cases e⟩
theorem RowI.grown {w w' : World} {kb : Nat} {ra : Option Addr} {xs : List Int} (h : RowI w kb ra xs) (hg : w.grownBy w' (some kb)) : RowI w' kb ra xs := ⟨fun i hi => by
  obtain ⟨b, o, e, hc⟩ := h.1 i hi
  exact ⟨b, o, e, hg.cell hc (fun e2 => by have := h.2 b o e; simp at e2; omega)⟩, h.2⟩
theorem RowI.below {w w' : World} {kb : Nat} {ra : Option Addr} {xs : List Int} (h : RowI w kb ra xs) (hb : Below w.heap.size w w') : RowI w' kb ra xs := ⟨h.1.below hb, h.2⟩
/-- rows that are read, all in blocks from B on -/
def RowsFrom (w : World) (B : Nat) (ao : Option Addr) (L : List (List Int)) : Prop := ∀ j, j < L.length → ∃ b o r d, ao = some ⟨b, o, none⟩ ∧ B ≤ b ∧ w.cell? ⟨b, o + j, none⟩ = some (.slice r (gr L j).length d) ∧ IntsAt w r (gr L j) ∧ ∀ b' o', r = some ⟨b', o', none⟩ → B ≤ b'
theorem RowsFrom.base {w : World} {B B' : Nat} {ao : Option Addr} {L : List (List Int)} (h : RowsFrom w B ao L) (hB : B' ≤ B) : RowsFrom w B' ao L := fun j hj => by
  obtain ⟨b, o, r, d, e, h1, hc, hx, hr⟩ := h j hj
  exact ⟨b, o, r, d, e, by omega, hc, hx, fun b' o' e' => by have := hr b' o' e'; omega⟩
theorem RowsFrom.grown {w w' : World} {B kb : Nat} {ao : Option Addr} {L : List (List Int)} (h : RowsFrom w B ao L) (hg : w.grownBy w' (some kb)) (hk : kb < B) : RowsFrom w' B ao L := fun j hj => by
  obtain ⟨b, o, r, d, e, h1, hc, hx, hr⟩ := h j hj
  refine ⟨b, o, r, d, e, h1, hg.cell hc (fun e2 => by simp at e2; omega), fun i hi => ?_, hr⟩
  obtain ⟨b2, o2, e2, hcc⟩ := hx i hi
  exact ⟨b2, o2, e2, hg.cell hcc (fun e3 => by have := hr b2 o2 e2; simp at e3; omega)⟩
theorem RowsFrom.below {w w' : World} {B : Nat} {ao : Option Addr} {L : List (List Int)} (h : RowsFrom w B ao L) (hb : Below w.heap.size w w') : RowsFrom w' B ao L := fun j hj => by
  obtain ⟨b, o, r, d, e, h1, hc, hx, hr⟩ := h j hj
  exact ⟨b, o, r, d, e, h1, cell_below hc hb, hx.below hb, hr⟩
theorem rowsFrom_own {w : World} {B kb : Nat} {v : Value} {L : List (List Int)} (h : OwnM w B v L) (hk : kb < B) : ∃ ao c, v = .slice ao L.length c ∧ RowsFrom w (kb + 1) ao L := by
  obtain ⟨vs, hp⟩ := h
  obtain ⟨ao, c, rfl, h3, h4, hcells⟩ := ownsRow_read hp.top
  refine ⟨ao, c, rfl, fun j hj => ?_⟩
  obtain ⟨b, o, e, hc⟩ := hcells j hj
  obtain ⟨r, d, hr, _, _, hx⟩ := (hp.rows j hj).read
  have hl := (hp.rows j hj).lt
  have ht := (World.ownsRow.lt hp.top b (by rw [e]; rfl)).1
  rw [hr] at hc hl
  exact ⟨b, o, r, d, e, by omega, hc, hx, fun b' o' e' => by
    have := (hl b' (by rw [e']; rfl)).1
    omega⟩
theorem below_of_grown {w0 w w' : World} {B kb : Nat} (h : Below B w0 w) (hg : w.grownBy w' (some kb)) (hk : B ≤ kb) (hk3 : kb ≤ w.heap.size) : Below B w0 w' := by
  refine h.trans ?_
  exact ⟨hg.os, hg.tape, hg.output, hg.size, fun k hk2 => hg.block k (by omega) (fun e => by simp at e; omega)⟩
set_option maxRecDepth 100000 in
set_option maxHeartbeats 400000 in
theorem trNextR_any (n : Nat) (hn : n ≤ 6) (s : List Int) (hs : ColsN n s) (h6 : s.length ≤ 6) (a1 : Option Addr) (c1 : Nat) (w : World) (hx : IntsAt w a1 s) :
    Calls Tryd.prog 53 #[.slice a1 s.length c1, .int .i64 (n : Int)] w fun e w' => ∃ (ao : Option Addr) (c : Nat), e = .returned (.slice ao (nextL n s).length c) ∧ RowsFrom w' w.heap.size ao (nextL n s) ∧ Below w.heap.size w w' := by
  refine (trNext_any n hn s hs h6 a1 c1 w hx).mono ?_
  rintro e w1 ⟨v, ps, rfl, hown, hps, hL, hb⟩
  obtain ⟨ao, c, rfl, h3, h4, hcells⟩ := ownsRow_read hown
  have hl : ps.length = (nextL n s).length := by rw [← hL, List.length_map]
  refine ⟨ao, c, by rw [hl], fun j hj => ?_, hb⟩
  have hjp : j < ps.length := by omega
  obtain ⟨b, o, e, hc⟩ := hcells j hjp
  obtain ⟨r, d, hr, hx, hB⟩ := hps ps[j] (List.getElem_mem hjp)
  have hg : gr (nextL n s) j = ps[j].2 := by rw [← hL, gr_lt (by rw [List.length_map]; exact hjp), List.getElem_map]
  have hget : (ps.map (·.1)).getD j undef = ps[j].1 := by simp [List.getD, hjp]
  rw [hget, hr] at hc
  have ht := (World.ownsRow.lt hown b (by rw [e]; rfl)).1
  rw [hg]
  exact ⟨b, o, r, d, e, ht, hc, hx, hB⟩
end Go.Proofs.YtmkldodkpijfjaaDoor

namespace Go.Proofs.YtmkldodkpijfjaaDoor
open Go.RowKit

set_option maxRecDepth 100000 in
set_option maxHeartbeats 400000 in
theorem trKnown_any (n : Int) (SZ : Nat) (w : World) (h0 : 0 ≤ n) (h6 : n ≤ 6) (e1 : wrap64 ((2 : Int) ^ n.toNat) = (SZ : Int)) (hb : SZ ≤ 64) :
    Calls Tryd.prog 51 #[.int .i64 n] w fun e w' => e = .returned (.slice (some ⟨w.heap.size, 0, none⟩) SZ SZ) ∧ OwnI w' w.heap.size (.slice (some ⟨w.heap.size, 0, none⟩) SZ SZ) (List.replicate SZ 0) ∧ Below w.heap.size w w' := by
  obtain ⟨i0, hi, hz0, hz1, hz2⟩ := info_parts Tryd.info_int
  go_enter Tryd.func51, Tryd.ntmps51
  go_wp2_with (at_make; refine wpList_make_full _ rfl _ _ 22 rfl w.heap.size 3 i0 (.int .i64 0) 1 Tryd.underlying22 hi hz0 hz1 _ _ _ _ SZ rfl rfl e1 e1 ?c1 ?c2 ?c3 ?_)
  case c1 => rw [hz2]; omega
  case c2 => unfold maxLen; omega
  case c3 => simp
  intro w1 hown hgr
  have hb1 : Below w.heap.size w w1 := (Below.refl _ _).grown hgr (Nat.le_refl _) (fun _ h => by cases h)
  have Hown1 := Lib.hid (OwnI.made hown)
  have Hb1 := Lib.hid hb1
  clear hown hgr hb1
  go_wp2
  go_ret
  exact ⟨rfl, Hown1.out, Hb1.out⟩

theorem firstW_len (n : Nat) : (firstW n).length = n := by simp [firstW, firstB]
theorem firstW_take {N k : Nat} (h : k < N) : (firstW N).take (k + 1) = (firstW N).take k ++ [wrap64 (waysB N [(k : Int)])] := by
  rw [List.take_succ_eq_append_getElem (by rw [firstW_len]; exact h)]
  simp [firstW, firstB]

end Go.Proofs.YtmkldodkpijfjaaDoor

namespace Go.Proofs.YtmkldodkpijfjaaDoor
open Go.RowKit

set_option maxRecDepth 100000 in
set_option maxHeartbeats 400000 in
theorem trTotal_any (N : Nat) (h1 : 1 ≤ N) (hN : N ≤ 6) (w : World) :
    Calls Tryd.prog 63 #[.int .i64 (N : Int)] w fun e w' => e = .returned (.int .i64 (wrap64 (waysB N []))) ∧ Below w.heap.size w w' := by
  obtain ⟨SZ, hSZ⟩ : ∃ SZ : Nat, SZ = 2 ^ N := ⟨_, rfl⟩
  have hSb : SZ ≤ 64 := by have : 2 ^ N ≤ 2 ^ 6 := Nat.pow_le_pow_right (by omega) hN; omega
  have e1 : wrap64 ((2 : Int) ^ (N : Int).toNat) = (SZ : Int) := by
    have : ((2 : Int) ^ (N : Int).toNat) = ((2 ^ N : Nat) : Int) := by simp
    rw [this, ← hSZ]; unfold wrap64; omega
  have Hk := Lib.hid (trKnown_any (N : Int) SZ w (by omega) (by omega) e1 hSb)
  have HSZ := Lib.hid hSZ
  clear hSZ e1
  go_enter Tryd.func63, Tryd.ntmps63
  go_wp2_with fail
  refine Hk.out.mono ?_
  rintro e w1 ⟨rfl, hown1, hb1⟩
  have hcall := trWays_any N hN SZ HSZ.out N [] none 0 w.heap.size w.heap.size SZ (List.replicate SZ 0) w1 (by simp) ⟨trivial, fun x hx => by cases hx⟩ (IntsAt.nil _ _) (fun b o e => by cases e) hown1 (knowsW_zero _ _) (Nat.le_refl _)
  rw [show ([] : List Int).length = 0 from rfl] at hcall
  obtain ⟨y, hy⟩ : ∃ y, y = wrap64 (waysB N []) := ⟨_, rfl⟩
  rw [← hy] at hcall
  have Hcall := Lib.hid hcall
  have Hb1 := Lib.hid hb1
  have Hy := Lib.hid hy
  clear hown1 hb1 hcall hy Hk
  go_wp2_with fail
  refine Hcall.out.mono ?_
  rintro e w2 ⟨ks, rfl, _, _, hg⟩
  have Hb2 := Lib.hid (Hb1.out.grown hg Hb1.out.size (fun k hk => by cases hk; exact Nat.le_refl _))
  clear hg
  go_wp2
  go_ret
  exact ⟨by rw [← Hy.out]; rfl, Hb2.out⟩
end Go.Proofs.YtmkldodkpijfjaaDoor

namespace Go.Proofs.YtmkldodkpijfjaaDoor

/-- numbers are a row of parts up to n -/
def DpRow (row : List Int) (n : Nat) : Prop :=
  1 ≤ row.length ∧ row.length < n ∧ (∀ i, i < row.length → 1 ≤ gi row i ∧ gi row i ≤ n) ∧ (row.length : Int) < gi row 0 ∧ ∀ i, i < row.length → 1 ≤ i → gi row i ≤ gi row (i - 1)
/-- a row can stand below another one -/
def DpBel (row above : List Int) : Prop :=
  row.length < above.length ∧ gi row 0 ≤ above.length ∧ ∀ i, i < row.length → gi row i < gi above (i + 1)
/-- rows are a descending plane partition, by the model -/
def DpGood (rows : List (List Int)) (n : Nat) : Prop :=
  rows.length ≤ n ∧ ∀ k, k < rows.length → DpRow (gr rows k) n ∧ (0 < k → DpBel (gr rows k) (gr rows (k - 1)))

/-- limits allow a row -/
def Allow (l row : List Int) : Prop :=
  1 ≤ row.length ∧ row.length ≤ l.length ∧ (row.length : Int) < gi row 0 ∧ ∀ i, i < row.length → 1 ≤ gi row i ∧ gi row i ≤ gi l i ∧ (0 < i → gi row i ≤ gi row (i - 1))
instance (l row : List Int) : Decidable (Allow l row) := by unfold Allow; exact inferInstance

def lim1 (n : Nat) : List Int := List.replicate (n - 1) (n : Int)
def limB (row : List Int) : List Int := (List.range (row.length - 1)).map fun i => min (row.length : Int) (gi row (i + 1) - 1)
def limAt (n : Nat) (rows : List (List Int)) (k : Nat) : List Int := if k = 0 then lim1 n else limB (gr rows (k - 1))
/-- the first k rows are allowed, each by the one before, by the program -/
def ChainTo (n : Nat) (rows : List (List Int)) (k : Nat) : Prop := ∀ j, j < k → Allow (limAt n rows j) (gr rows j)

theorem lim1_len (n : Nat) : (lim1 n).length = n - 1 := by simp [lim1]
theorem gi_lim1 {n i : Nat} (h : i < n - 1) : gi (lim1 n) i = n := by
  rw [gi_lt (by rw [lim1_len]; exact h)]
  simp [lim1]
theorem limB_len (row : List Int) : (limB row).length = row.length - 1 := by simp [limB]
theorem gi_limB {row : List Int} {i : Nat} (h : i < row.length - 1) : gi (limB row) i = min (row.length : Int) (gi row (i + 1) - 1) := by
  rw [gi_lt (by rw [limB_len]; exact h)]
  simp [limB]

theorem allow_first (row : List Int) {n : Nat} (hn : 1 ≤ n) : Allow (lim1 n) row ↔ DpRow row n := by
  unfold Allow DpRow
  rw [lim1_len]
  constructor
  · rintro ⟨h1, h2, h3, h4⟩
    refine ⟨h1, by omega, fun i hi => ?_, h3, fun i hi h1 => (h4 i hi).2.2 (by omega)⟩
    have := h4 i hi
    rw [gi_lim1 (by omega)] at this
    exact ⟨this.1, this.2.1⟩
  · rintro ⟨h1, h2, h3, h4, h5⟩
    refine ⟨h1, by omega, h4, fun i hi => ?_⟩
    have := h3 i hi
    rw [gi_lim1 (by omega)]
    exact ⟨this.1, this.2, fun h0 => h5 i hi h0⟩

/-- parts of a row do not rise -/
theorem DpRow.le_first {row : List Int} {n : Nat} (h : DpRow row n) : ∀ i, i < row.length → gi row i ≤ gi row 0 := by
  intro i
  induction i with
  | zero => intro _; exact Int.le_refl _
  | succ i ih =>
    intro hi
    have h1 := h.2.2.2.2 (i + 1) hi (by omega)
    have h2 := ih (by omega)
    simp only [Nat.add_sub_cancel] at h1
    omega

theorem allow_below (row above : List Int) {n : Nat} (ha : DpRow above n) : Allow (limB above) row ↔ DpRow row n ∧ DpBel row above := by
  unfold Allow
  rw [limB_len]
  constructor
  · rintro ⟨h1, h2, h3, h4⟩
    have h5 : ∀ i, i < row.length → 1 ≤ gi row i ∧ gi row i ≤ above.length ∧ gi row i < gi above (i + 1) ∧ (0 < i → gi row i ≤ gi row (i - 1)) := by
      intro i hi
      have := h4 i hi
      rw [gi_limB (by omega)] at this
      omega
    refine ⟨⟨h1, by have := ha.2.1; omega, fun i hi => ?_, h3, fun i hi h0 => (h5 i hi).2.2.2 h0⟩, by omega, (h5 0 (by omega)).2.1, fun i hi => (h5 i hi).2.2.1⟩
    have := h5 i hi
    have := ha.2.2.1 (i + 1) (by omega)
    omega
  · rintro ⟨hr, h1, h2, h3⟩
    refine ⟨hr.1, by omega, hr.2.2.2.1, fun i hi => ?_⟩
    rw [gi_limB (by omega)]
    have h4 := hr.2.2.1 i hi
    have h5 := h3 i hi
    have h6 := hr.le_first i hi
    exact ⟨h4.1, by omega, fun h0 => hr.2.2.2.2 i hi h0⟩

theorem chain_rows {n : Nat} (hn : 1 ≤ n) {rows : List (List Int)} {k : Nat} (h : ChainTo n rows k) : ∀ j, j < k → DpRow (gr rows j) n ∧ (0 < j → DpBel (gr rows j) (gr rows (j - 1))) := by
  intro j
  induction j with
  | zero =>
    intro hj
    have := h 0 hj
    simp only [limAt, if_pos] at this
    exact ⟨(allow_first _ hn).1 this, fun h0 => absurd h0 (by omega)⟩
  | succ j ih =>
    intro hj
    have h1 := ih (by omega)
    have := h (j + 1) hj
    simp only [limAt, if_neg (Nat.succ_ne_zero j), Nat.add_sub_cancel] at this
    have h2 := (allow_below _ _ h1.1).1 this
    exact ⟨h2.1, fun _ => by simpa using h2.2⟩

/-- lengths fall -/
theorem rows_fall {n k : Nat} {rows : List (List Int)} (h : ∀ j, j < k → DpRow (gr rows j) n ∧ (0 < j → DpBel (gr rows j) (gr rows (j - 1)))) : ∀ j, j < k → (gr rows j).length + j + 1 ≤ n := by
  intro j
  induction j with
  | zero => intro hj; have := (h 0 hj).1.2.1; omega
  | succ j ih =>
    intro hj
    have h1 := ih (by omega)
    have h2 := ((h (j + 1) hj).2 (by omega)).1
    simp only [Nat.add_sub_cancel] at h2
    omega

theorem good_chain {n : Nat} (hn : 1 ≤ n) (rows : List (List Int)) : DpGood rows n ↔ ChainTo n rows rows.length := by
  constructor
  · rintro ⟨_, h⟩ j hj
    unfold limAt
    by_cases e : j = 0
    · subst e
      rw [if_pos rfl]
      exact (allow_first _ hn).2 (h 0 hj).1
    · rw [if_neg e]
      exact (allow_below _ _ (h (j - 1) (by omega)).1).2 ⟨(h j hj).1, (h j hj).2 (by omega)⟩
  · intro h
    have hr := chain_rows hn h
    refine ⟨?_, hr⟩
    by_cases e : rows.length = 0
    · omega
    have h1 := rows_fall hr (rows.length - 1) (by omega)
    omega

/-- at most 5 rows of at most 5 parts -/
theorem DpGood.bounds {rows : List (List Int)} {n : Nat} (h : DpGood rows n) (hn : 1 ≤ n) : rows.length < n ∧ ∀ i, i < rows.length → (gr rows i).length < n := by
  have hf := rows_fall h.2
  refine ⟨?_, fun i hi => by have := hf i hi; omega⟩
  by_cases e : rows.length = 0
  · omega
  have := hf (rows.length - 1) (by omega)
  have h2 := (h.2 (rows.length - 1) (by omega)).1.1
  omega
end Go.Proofs.YtmkldodkpijfjaaDoor

namespace Go.Proofs.YtmkldodkpijfjaaDoor

/-- the sum over the numbers of a row, of what f tells of a place and a number; over some rows -/
def sumR (f : Nat → Int → Int) (row : List Int) : Int := sumF (fun i => f i (gi row i)) row.length
def sumT (f : Nat → Int → Int) (rows : List (List Int)) (k : Nat) : Int := sumF (fun j => sumR f (gr rows j)) k

def fOne (_ : Nat) (_ : Int) : Int := 1
def fSpec (i : Nat) (x : Int) : Int := if x ≤ i then 1 else 0
def fEq (n : Int) (_ : Nat) (x : Int) : Int := if x = n then 1 else 0
def fId (_ : Nat) (x : Int) : Int := x

theorem sumR_one (row : List Int) : sumR fOne row = row.length := by
  unfold sumR fOne
  generalize row.length = n
  induction n with
  | zero => rfl
  | succ n ih => simp only [sumF]; rw [ih]; omega

theorem gi_app_left {a b : List Int} {i : Nat} (h : i < a.length) : gi (a ++ b) i = gi a i := by simp [gi, List.getD, List.getElem?_append_left h]
theorem gi_app_right {a b : List Int} {i : Nat} : gi (a ++ b) (a.length + i) = gi b i := by simp [gi, List.getD, List.getElem?_append_right]
theorem sumF_app (F : Nat → Int) (a b : Nat) : sumF F (a + b) = sumF F a + sumF (fun i => F (a + i)) b := by
  induction b with
  | zero => simp [sumF]
  | succ b ih => rw [← Nat.add_assoc]; simp only [sumF]; rw [ih]; omega

/-- numbers without their places: sums over rows put together -/
theorem sumR_app (f : Int → Int) (a b : List Int) : sumR (fun _ => f) (a ++ b) = sumR (fun _ => f) a + sumR (fun _ => f) b := by
  unfold sumR
  rw [List.length_append, sumF_app]
  congr 1
  · exact sumF_congr fun i hi => by rw [gi_app_left hi]
  · exact sumF_congr fun i hi => by rw [gi_app_right]
theorem take_flat {rows : List (List Int)} {k : Nat} (h : k < rows.length) : (rows.take (k + 1)).flatten = (rows.take k).flatten ++ gr rows k := by
  rw [List.take_succ_eq_append_getElem h, List.flatten_append, gr_lt h]
  simp
theorem sumR_flat (f : Int → Int) (rows : List (List Int)) : ∀ k, k ≤ rows.length → sumR (fun _ => f) (rows.take k).flatten = sumT (fun _ => f) rows k
  | 0, _ => by simp [sumR, sumT, sumF]
  | k + 1, h => by
    rw [take_flat (by omega), sumR_app, sumR_flat f rows k (by omega)]
    rfl
theorem sumR_flatten (f : Int → Int) (rows : List (List Int)) : sumR (fun _ => f) rows.flatten = sumT (fun _ => f) rows rows.length := by
  have := sumR_flat f rows rows.length (Nat.le_refl _)
  rwa [List.take_length] at this
theorem flat_len {rows : List (List Int)} {B : Nat} (h : ∀ i, i < rows.length → (gr rows i).length ≤ B) : ∀ k, k ≤ rows.length → (rows.take k).flatten.length ≤ k * B
  | 0, _ => by simp
  | k + 1, hk => by
    rw [take_flat (by omega), List.length_append, Nat.succ_mul]
    have := flat_len h k (by omega)
    have := h k (by omega)
    omega

/-- each number tells 0 to B -/
theorem sumR_part_bd {f : Nat → Int → Int} {row : List Int} {B : Int} (h : ∀ i, i < row.length → 0 ≤ f i (gi row i) ∧ f i (gi row i) ≤ B) : ∀ k, k ≤ row.length → 0 ≤ sumF (fun i => f i (gi row i)) k ∧ sumF (fun i => f i (gi row i)) k ≤ k * B
  | 0, _ => by simp [sumF]
  | k + 1, hk => by
    have ih := sumR_part_bd h k (by omega)
    have := h k (by omega)
    simp only [sumF]
    have e : ((k + 1 : Nat) : Int) * B = k * B + B := by rw [show ((k + 1 : Nat) : Int) = (k : Int) + 1 from by omega, Int.add_mul, Int.one_mul]
    omega
theorem sumT_bd {f : Nat → Int → Int} {rows : List (List Int)} {B : Int} (h : ∀ j, j < rows.length → 0 ≤ sumR f (gr rows j) ∧ sumR f (gr rows j) ≤ B) : ∀ k, k ≤ rows.length → 0 ≤ sumT f rows k ∧ sumT f rows k ≤ k * B
  | 0, _ => by simp [sumT, sumF]
  | k + 1, hk => by
    have ih := sumT_bd h k (by omega)
    have := h k (by omega)
    unfold sumT at ih ⊢
    simp only [sumF]
    have e : ((k + 1 : Nat) : Int) * B = k * B + B := by rw [show ((k + 1 : Nat) : Int) = (k : Int) + 1 from by omega, Int.add_mul, Int.one_mul]
    omega
theorem sumT_step (f : Nat → Int → Int) (rows : List (List Int)) (k : Nat) : sumT f rows (k + 1) = sumT f rows k + sumR f (gr rows k) := rfl

/-- what is told of the parts of partitions for 6 is 0 to 6 -/
def Tells (f : Nat → Int → Int) : Prop := ∀ i x, 1 ≤ x → x ≤ 6 → 0 ≤ f i x ∧ f i x ≤ 6
theorem tells_one : Tells fOne := fun _ _ _ _ => by unfold fOne; omega
theorem tells_spec : Tells fSpec := fun i x _ _ => by unfold fSpec; by_cases h : x ≤ (i : Int) <;> simp [h]
theorem tells_eq (n : Int) : Tells (fEq n) := fun i x _ _ => by unfold fEq; by_cases h : x = n <;> simp [h]
theorem tells_id : Tells fId := fun _ x _ _ => by unfold fId; omega
theorem DpGood.row_bd {f : Nat → Int → Int} (hf : Tells f) {rows : List (List Int)} (h : DpGood rows 6) {j : Nat} (hj : j < rows.length) : ∀ k, k ≤ (gr rows j).length → 0 ≤ sumF (fun i => f i (gi (gr rows j) i)) k ∧ sumF (fun i => f i (gi (gr rows j) i)) k ≤ 30 := by
  intro k hk
  have h1 := sumR_part_bd (f := f) (row := gr rows j) (B := 6) (fun i hi => hf i _ ((h.2 j hj).1.2.2.1 i hi).1 (by have := ((h.2 j hj).1.2.2.1 i hi).2; omega)) k hk
  have := (h.bounds (by omega)).2 j hj
  omega
theorem DpGood.sum_bd {f : Nat → Int → Int} (hf : Tells f) {rows : List (List Int)} (h : DpGood rows 6) : ∀ k, k ≤ rows.length → 0 ≤ sumT f rows k ∧ sumT f rows k ≤ 150 := by
  intro k hk
  have h1 := sumT_bd (f := f) (rows := rows) (B := 30) (fun j hj => h.row_bd hf hj _ (Nat.le_refl _)) k hk
  have := (h.bounds (by omega)).1
  omega
end Go.Proofs.YtmkldodkpijfjaaDoor

