/- Parts of proofs: contracts and plain facts. Conditions: as each says. -/
import Derived.Test.YtnhkclnloiiihaaDoorK04
import Derived.Laws.AppendOwnNone
import Derived.Maps.AppendAt
import Derived.StillTailTactics
import Derived.Deep.Cut
namespace Go.Proofs.YtnhkclnloiiihaaDoor
open Go.RowKit

theorem ownsRow_raise {w : World} {B B' : Nat} {e : TypeId} {v : Value} {n : Nat} {xs : List Value} (h : w.ownsRow B e 1 v n xs) (hb : ∀ g, v.ownBlock = some g → B' ≤ g) : w.ownsRow B' e 1 v n xs := by
  refine ⟨h.1, ?_⟩
  rcases h.2 with h0 | ⟨g, cap, cur, rfl, hg, r⟩
  · exact .inl h0
  · exact .inr ⟨g, cap, cur, rfl, hb g rfl, r⟩
theorem wSmall {x : Int} (h : -1000 ≤ x ∧ x ≤ 1000) : IntKind.i64.wrap x = x := by
  rw [IntKind.wrap_i64]
  omega
theorem wSmall64 {x : Int} (h : -1000 ≤ x ∧ x ≤ 1000) : wrap64 x = x := by
  unfold wrap64
  omega
theorem OwnI.none_cap {w : World} {B n c : Nat} {ao : Option Addr} {xs : List Int} (h : OwnI w B (.slice ao n c) xs) : ao = none → c = 0 := by
  intro e
  rcases h.2 with ⟨h0, _⟩ | ⟨g, cap, cur, hv, _⟩
  · simp only [Value.slice.injEq] at h0; exact h0.2.2
  · simp only [Value.slice.injEq] at hv; rw [e] at hv; simp at hv

set_option maxRecDepth 100000 in
set_option maxHeartbeats 6400000 in
theorem weRows_any (sums : List Int) (h01 : bits01 sums) (hn : sums.length ≤ 5) (a1 : Option Addr) (c1 : Nat) : ∀ (d : Nat) (row : List Int) (sum : Int) (a2 : Option Addr) (c2 B : Nat) (w : World), row.length + d = sums.length → 0 ≤ sum ∧ sum ≤ 1 → B ≤ w.heap.size → IntsAt w a1 sums → OwnI w B (.slice a2 row.length c2) row →
    Calls Tryd.prog 148 #[.slice a1 sums.length c1, .slice a2 row.length c2, .int .i64 sum] w fun e w' => ∃ v vs, e = .returned v ∧ OwnR w' B v (rowsW sums d row sum) vs ∧ (∀ g, v.ownBlock = some g → w.heap.size ≤ g) ∧ Below w.heap.size w w' := by
  intro d
  induction d with
  | zero =>
    intro row sum a2 c2 B w hd hs hB h1 h2
    have hl : ((row.length : Int) == (sums.length : Int)) = true := by simp; omega
    have hx1 : row.length ≤ 9223372036854775807 := by omega
    have hx2 : sums.length ≤ 9223372036854775807 := by omega
    have hb1 : Below w.heap.size w (w.alloc (.cells #[.slice a2 row.length c2] 28)) := (Below.refl _ _).alloc (Nat.le_refl _) _
    have hres : OwnR (w.alloc (.cells #[.slice a2 row.length c2] 28)) B (.slice (some ⟨w.heap.size, 0, none⟩) 1 1) [row] [.slice a2 row.length c2] :=
      ⟨ownsRow_built w [.slice a2 row.length c2] hB (by simp), fun i hi => by obtain rfl : i = 0 := (by simpa using hi); exact h2.below hb1⟩
    have Hres := Lib.hid hres
    have Hb := Lib.hid hb1
    obtain ⟨r, hr⟩ : ∃ r, r = row.length := ⟨_, rfl⟩
    rw [← hr] at hl hx1 Hb Hres ⊢
    clear h1 h2 hd hb1 hres hr
    by_cases e1 : sum = 1
    · have hb : (sum == 1) = true := by simpa using e1
      have HV := Lib.hid (show rowsW sums 0 row sum = [row] by unfold rowsW; rw [if_pos e1])
      clear e1
      go_enter Tryd.func148, Tryd.ntmps148
      go_wp2
      go_ret
      exact ⟨_, _, rfl, by rw [HV.out]; exact Hres.out, fun g hg => by simp [Value.ownBlock] at hg; omega, Hb.out⟩
    · have hb : (sum == 1) = false := by simpa using e1
      have HV := Lib.hid (show rowsW sums 0 row sum = [] by unfold rowsW; rw [if_neg e1])
      clear e1
      go_enter Tryd.func148, Tryd.ntmps148
      go_wp2
      go_ret
      exact ⟨_, _, rfl, by rw [HV.out]; exact OwnR.nil _ _, fun g hg => by simp [Value.ownBlock] at hg, Below.refl _ _⟩
  | succ d ih =>
    intro row sum a2 c2 B w hd hs hB h1 h2
    have hl : ((row.length : Int) == (sums.length : Int)) = false := by simp; omega
    have hx1 : row.length ≤ 9223372036854775807 := by omega
    have hx2 : sums.length ≤ 9223372036854775807 := by omega
    have hlt : row.length < sums.length := by omega
    obtain ⟨j0, hj, hy0, hy1, hy2⟩ := info_parts Tryd.info_ints
    obtain ⟨i0, hi, hz0, hz1, hz2⟩ := info_parts Tryd.info_int
    obtain ⟨b0, o0, e0, hc0⟩ := h1 row.length hlt
    subst e0
    have hs01 := h01 row.length hlt
    obtain ⟨s, hsv⟩ : ∃ s, s = gi sums row.length := ⟨_, rfl⟩
    rw [← hsv] at hc0 hs01
    have Hd := Lib.hid hd
    have H1 := Lib.hid h1
    have H2 := Lib.hid h2
    have Hih := Lib.hid ih
    have Hsv := Lib.hid hsv
    have Hok := Lib.hid (show ∀ x : Int, okX sums row sum x ↔ (0 ≤ sum + x ∧ sum + x ≤ 1) ∧ 0 ≤ s + x ∧ s + x ≤ 1 from fun x => by unfold okX; rw [← hsv])
    have HBl := Lib.hid hB
    clear h1 h2 ih hd hsv
    go_enter Tryd.func148, Tryd.ntmps148
    go_wp2
    go_loopw [7, 8] (fun out i wr => ∃ (k : Nat) (x : Int) (vs : List Value), k ≤ 3 ∧ i = .int .i64 x ∧ x = (k : Int) - 1 ∧ OwnR wr B out (rowsP sums d row sum k) vs ∧ (∀ g, out.ownBlock = some g → w.heap.size ≤ g) ∧ Below w.heap.size w wr) (fun _ i _ => (2 - intOf i).toNat)
    case atStart => exact ⟨0, -1, [], by omega, rfl, rfl, OwnR.nil _ _, fun g hg => by simp [Value.ownBlock] at hg, Below.refl _ _⟩
    case round =>
      obtain ⟨k, x, vs, hk, rfl, hxk, hown, htop, hbr⟩ := hrel
      have hc0' := cell_below hc0 hbr
      have Hown := Lib.hid hown
      have Htop := Lib.hid htop
      have Hbr := Lib.hid hbr
      have HB := Lib.hid hbr.size
      have Hxk := Lib.hid hxk
      have hxb : -1 ≤ x ∧ x ≤ 2 := by omega
      clear hown htop hbr
      by_cases hk3 : k < 3
      · have hx1' : x ≤ 1 := by omega
        have hdx : decide (x ≤ 1) = true := by simpa using hx1'
        obtain ⟨u, hu⟩ : ∃ u, u = sum + x := ⟨_, rfl⟩
        obtain ⟨v, hv⟩ : ∃ v, v = s + x := ⟨_, rfl⟩
        obtain ⟨x', hx'⟩ : ∃ x', x' = x + 1 := ⟨_, rfl⟩
        have Hx' := Lib.hid hx'
        have hw1 : wrap64 (sum + x) = u := by rw [hu]; exact wSmall64 (by omega)
        have hw2 : wrap64 (s + x) = v := by rw [hv]; exact wSmall64 (by omega)
        have hw3 : wrap64 (x + 1) = x' := by rw [hx']; exact wSmall64 (by omega)
        have Hw3 := Lib.hid hw3
        have Hokx := Lib.hid (Hok.out x)
        rw [← hu, ← hv] at Hokx
        have Hu := Lib.hid hu
        clear hxk hu hv hx' hk hxb
        by_cases h1 : 0 ≤ u ∧ u ≤ 1
        · have H1in := Lib.hid h1
          clear h1
          go_wp2_with fail
          refine (l1In_any _ _ _ wr).mono ?_
          rintro e w2 ⟨ha, rfl⟩
          obtain rfl := ha.is H1in.out
          clear ha
          by_cases h2 : 0 ≤ v ∧ v ≤ 1
          · have H2in := Lib.hid h2
            clear h2
            have HP := Lib.hid (rowsP_yes (d := d) (k := k) (by rw [← Hxk.out]; exact Hokx.out.2 ⟨H1in.out, H2in.out⟩))
            rw [← Hxk.out, ← Hu.out] at HP
            go_wp2_with fail
            refine (l1In_any _ _ _ wr).mono ?_
            rintro e w2 ⟨ha, rfl⟩
            obtain rfl := ha.is H2in.out
            clear ha
            have Hl1 := Lib.hid (l1Own_any a2 c2 row wr (by omega) H2.out.none_cap (own_at (H2.out.below Hbr.out)))
            go_wp2_with fail
            refine Hl1.out.mono ?_
            rintro e w2 ⟨f1, rfl, hf1, hb2⟩
            obtain ⟨fa, fc, hff, _, _, _⟩ := hf1.read
            obtain ⟨fl, hfl⟩ : ∃ fl, fl = row.length := ⟨_, rfl⟩
            rw [← hfl] at hff
            subst hff
            have HF1 := Lib.hid hf1
            have Hb2 := Lib.hid hb2
            have HB2 := Lib.hid hb2.size
            have Hfl := Lib.hid hfl
            have hflb : fl ≤ 6 := by omega
            clear hf1 hb2 hfl Hl1
            go_wp2_with (at_builtin; refine wpList_append_own _ rfl _ _ 28 rfl wr.heap.size 3 i0 (.int .i64 0) 1 8 Tryd.underlying28 hi hz0 hz1 hz2 rfl (by decide) _ fl _ rfl (by have := World.ownsRow.alloc HF1.out (.cells #[.int .i64 x] 3); rw [← Hfl.out] at this; exact this) ⟨w2.heap.size, 0, none⟩ 1 1 [.int .i64 x] rfl rfl ?e1 ?e2 ?e3 ?e4 ?e5 ?_)
            case e1 => exact cell_one_new _ _ _
            case e2 => intro u hu; simp at hu; subst hu; rfl
            case e3 => unfold maxLen; omega
            case e4 => omega
            case e5 => have := HB2.out; simp; omega
            intro v' w3 hown' hgrow _
            rw [Hfl.out] at hown'
            have hput := HF1.out.snoc HB2.out hown' hgrow
            obtain ⟨ga, gc, hgg, hgc, hgc2, hgr⟩ := hput.1.read
            have h13 := Hb2.out.trans hput.2
            have hlen1 : (row ++ [x]).length = row.length + 1 := by simp
            have hor : OwnI w3 B (.slice ga (row ++ [x]).length gc) (row ++ [x]) := by rw [← hgg]; exact hput.1.base (Nat.le_trans HBl.out HB.out)
            have hrec := Hih.out (row ++ [x]) u ga gc B w3 (by have := Hd.out; rw [hlen1]; omega) H1in.out (Nat.le_trans HBl.out (Nat.le_trans HB.out h13.size)) ((H1.out.below Hbr.out).below h13) hor
            rw [hlen1] at hrec hgg
            obtain ⟨fl1, hfl1⟩ : ∃ fl1, fl1 = row.length + 1 := ⟨_, rfl⟩
            rw [← hfl1] at hgg hrec
            subst hgg
            have Hrec := Lib.hid hrec
            have Hput := Lib.hid h13
            clear hown' hgrow hput hgc hgc2 hgr hor hrec hfl1 h13 hlen1 HF1 Hb2 HB2 Hfl hflb
            go_wp2_with fail
            refine Hrec.out.mono ?_
            rintro e w4 ⟨sub, us, rfl, hsub, hst, hb4⟩
            obtain ⟨M, hM⟩ : ∃ M, M = rowsW sums d (row ++ [x]) u := ⟨_, rfl⟩
            obtain ⟨P0, hP0⟩ : ∃ P0, P0 = rowsP sums d row sum k := ⟨_, rfl⟩
            have hMl : M.length ≤ 1000000 := by rw [hM]; exact Nat.le_trans (rowsW_le _ _ _ _) (Nat.le_trans (Nat.pow_le_pow_right (by omega) (show d ≤ 5 by have := Hd.out; omega)) (by decide))
            have hPl : P0.length ≤ 1000000 := by rw [hP0]; exact Nat.le_trans (rowsP_le _ _ _ _ (by omega)) (Nat.le_trans (Nat.pow_le_pow_right (by omega) (show d + 1 ≤ 5 by have := Hd.out; omega)) (by decide))
            rw [← hM] at hsub HP
            rw [← hP0] at Hown HP
            obtain ⟨sa, sc, rfl, hs1, hs2, _⟩ := hsub.read
            have hb34 := Hput.out.trans (hb4.mono Hput.out.size)
            have Hown4 := Lib.hid (Hown.out.below hb34)
            have Hb4 := Lib.hid (Hbr.out.trans (hb34.mono HB.out))
            have HB4 := Lib.hid Hb4.out.size
            have Hsub := Lib.hid hsub
            obtain ⟨oa, oc, hoo, _, _, _⟩ := ownsRow_read Hown4.out.top
            obtain ⟨Ml, hMl2⟩ : ∃ Ml, Ml = M.length := ⟨_, rfl⟩
            obtain ⟨Pl, hPl2⟩ : ∃ Pl, Pl = P0.length := ⟨_, rfl⟩
            rw [← hPl2] at hoo hPl
            rw [← hMl2] at hMl hs1
            have HMl := Lib.hid hMl2
            have HPl := Lib.hid hPl2
            clear hsub hst hb4 hM hP0 hPl2 hb34 Hrec Hput
            subst hoo
            have Htop4 := Lib.hid (ownsRow_raise Hown4.out.top Htop.out)
            cases sa with
            | none =>
              have hM0 : M = [] := by
                rcases Hsub.out.top.2 with ⟨h1, h2⟩ | ⟨g, cap, cur, h1, _⟩
                · exact List.eq_nil_of_length_eq_zero h2
                · simp at h1
              have hsc : sc = 0 := by
                rcases Hsub.out.top.2 with ⟨h1, h2⟩ | ⟨g, cap, cur, h1, _⟩
                · simp at h1; exact h1.2
                · simp at h1
              subst hM0 hsc
              obtain rfl : Ml = 0 := by rw [hMl2]; rfl
              clear hs1 hs2 hMl hMl2 HMl
              go_wp2_with (at_builtin; refine wpList_append_own_none rfl _ _ 25 rfl w.heap.size 28 j0 1 Tryd.underlying25 hj _ _ _ rfl (by have := Htop4.out; rw [← HPl.out] at this; exact this) rfl ?_)
              go_wp2
              go_roundw
              case rel => exact ⟨k + 1, x', vs, by omega, by rw [Hw3.out], by have := Hxk.out; have := Hx'.out; omega, by rw [HP.out, List.append_nil]; exact Hown4.out, Htop.out, Hb4.out⟩
              case measure => simp [intOf]; have := Hx'.out; omega
            | some ad =>
              have Hcl := Lib.hid Hsub.out.cells
              have Hus := Lib.hid Hsub.out.len
              rw [← hMl2]
              clear hMl2 hs1 hs2
              go_wp2_with (at_builtin; refine wpList_append_own _ rfl _ _ 25 rfl w.heap.size 28 j0 (.slice none 0 0) 1 24 Tryd.underlying25 hj hy0 hy1 hy2 rfl (by decide) _ Pl vs rfl (by have := Htop4.out; rw [← HPl.out] at this; exact this) ad Ml sc us rfl ?f1 ?f2 ?f3 ?f4 ?f5 ?f6 ?_)
              case f1 => rw [Hus.out, HMl.out]; omega
              case f2 => exact Hcl.out.1
              case f3 => exact Hcl.out.2
              case f4 => unfold maxLen; omega
              case f5 => omega
              case f6 => exact HB4.out
              intro v'' w5 hown5 hgrow5 _
              have hjoin := Hown4.out.join (k := M) Hus.out Hsub.out.rows (by have := ownsRow_base hown5 HBl.out; rw [HPl.out, HMl.out] at this; exact this) hgrow5
              have hb5 : Below w.heap.size w4 w5 := Below.grown (Below.refl _ _) hgrow5 HB4.out (fun k hk => Htop.out k hk)
              have htop5 : ∀ g, v''.ownBlock = some g → w.heap.size ≤ g := fun g hg => (World.ownsRow.lt hown5 g hg).1
              have Hjoin := Lib.hid hjoin
              have Hb5 := Lib.hid (Hb4.out.trans hb5)
              have Htop5 := Lib.hid htop5
              clear hown5 hgrow5 hjoin hb5 htop5
              go_wp2
              go_roundw
              case rel => exact ⟨k + 1, x', _, by omega, by rw [Hw3.out], by have := Hxk.out; have := Hx'.out; omega, by rw [HP.out]; exact Hjoin.out, Htop5.out, Hb5.out⟩
              case measure => simp [intOf]; have := Hx'.out; omega
          · have H2in := Lib.hid h2
            clear h2
            have HP := Lib.hid (rowsP_no (d := d) (k := k) (fun h => by rw [← Hxk.out] at h; exact H2in.out (Hokx.out.1 h).2))
            go_wp2_with fail
            refine (l1In_any _ _ _ wr).mono ?_
            rintro e w2 ⟨ha, rfl⟩
            obtain rfl := ha.isnt H2in.out
            clear ha
            go_wp2
            go_roundw
            case rel => exact ⟨k + 1, x', vs, by omega, by rw [Hw3.out], by have := Hxk.out; have := Hx'.out; omega, by rw [HP.out]; exact Hown.out, Htop.out, Hbr.out⟩
            case measure => simp [intOf]; have := Hx'.out; omega
        · have H1in := Lib.hid h1
          clear h1
          have HP := Lib.hid (rowsP_no (d := d) (k := k) (fun h => by rw [← Hxk.out] at h; exact H1in.out (Hokx.out.1 h).1))
          go_wp2_with fail
          refine (l1In_any _ _ _ wr).mono ?_
          rintro e w2 ⟨ha, rfl⟩
          obtain rfl := ha.isnt H1in.out
          clear ha
          go_wp2
          go_roundw
          case rel => exact ⟨k + 1, x', vs, by omega, by rw [Hw3.out], by have := Hxk.out; have := Hx'.out; omega, by rw [HP.out]; exact Hown.out, Htop.out, Hbr.out⟩
          case measure => simp [intOf]; have := Hx'.out; omega
      · obtain rfl : k = 3 := by omega
        have hx2' : x = 2 := by omega
        subst hx2'
        clear hxk Hxk
        go_wp2
        go_ret
        exact ⟨_, vs, rfl, by rw [← rowsP_end]; exact Hown.out, Htop.out, Hbr.out⟩
end Go.Proofs.YtnhkclnloiiihaaDoor

namespace Go.Proofs.YtnhkclnloiiihaaDoor
open Go.RowKit

set_option maxRecDepth 100000 in
set_option maxHeartbeats 800000 in
theorem sgZero_any (n : Nat) (w : World) (hn : n ≤ 1048576) :
    Calls Tryd.prog 90 #[.int .i64 (n : Int)] w fun e w' => ∃ v, e = .returned v ∧ OwnM w' w.heap.size v (tab n n fun _ _ => 0) ∧ Below w.heap.size w w' := by
  obtain ⟨i0, hi, hz0, hz1, hz2⟩ := info_parts Tryd.info_int
  obtain ⟨j0, hj, hy0, hy1, hy2⟩ := info_parts Tryd.info_ints
  have hmx : n ≤ 9223372036854775807 := by omega
  go_enter Tryd.func90, Tryd.ntmps90
  go_wp2
  go_loopw [3, 4] (fun out i wr => ∃ (k : Nat) (vs : List Value), k ≤ n ∧ i = .int .i64 k ∧ OwnP wr w.heap.size out k (tab n n fun _ _ => 0) k vs ∧ Below w.heap.size w wr) (fun _ i _ => n - (intOf i).toNat)
  case atStart => exact ⟨0, [], Nat.zero_le _, rfl, ⟨World.ownsRow_nil _ _ _ _, fun i hi => absurd hi (by omega), fun i j _ hj => absurd hj (by omega)⟩, Below.refl _ _⟩
  case round =>
    obtain ⟨k, vs, hk, rfl, hout, hbr⟩ := hrel
    by_cases hlt : k < n
    · have hB := hbr.size
      have Hout := Lib.hid hout
      have Hbr := Lib.hid hbr
      clear hout hbr
      go_wp2_with (at_make; refine wpList_make_full _ rfl _ _ 28 rfl wr.heap.size 3 i0 (.int .i64 0) 1 Tryd.underlying28 hi hz0 hz1 _ _ _ _ n rfl rfl rfl rfl ?d1 ?d2 ?d3 ?_)
      case d1 => rw [hz2]; omega
      case d2 => unfold maxLen; omega
      case d3 => simp
      intro w2 hown2 hg2
      have hb2 : Below wr.heap.size wr w2 := (Below.refl _ _).grown hg2 (Nat.le_refl _) (fun _ h => by cases h)
      have hrow := OwnI.made hown2
      have hB2 := hb2.size
      have e1 : gr (tab n n fun _ _ => (0 : Int)) k = List.replicate n 0 := zero_row hlt
      have Hout2 := Lib.hid (Hout.out.below hb2)
      have hrow2 : OwnI w2 w.heap.size (.slice (some ⟨wr.heap.size, 0, none⟩) n n) (gr (tab n n fun _ _ => (0 : Int)) k) := by rw [e1]; exact hrow.base hB
      have Hrow := Lib.hid hrow2
      have hfr := Lib.hid (Hout.out.fresh hrow (Nat.le_refl _))
      have Hb2 := Lib.hid (Hbr.out.trans (hb2.mono hB))
      clear hown2 hg2 hb2 hrow e1 hrow2
      go_wp2_with (at_builtin; refine wpList_append_own _ rfl _ _ 25 rfl w.heap.size 28 j0 (.slice none 0 0) 1 24 Tryd.underlying25 hj hy0 hy1 hy2 rfl (by decide) _ _ _ rfl (World.ownsRow.alloc Hout2.out.top _) ⟨w2.heap.size, 0, none⟩ 1 1 [.slice (some ⟨wr.heap.size, 0, none⟩) n n] rfl rfl ?e1 ?e2 ?e3 ?e4 ?e5 ?_)
      case e1 => exact cell_one_new _ _ _
      case e2 => intro u hu; simp at hu; subst hu; rfl
      case e3 => unfold maxLen; omega
      case e4 => omega
      case e5 => simp; omega
      intro v' w3 hown' hgrow _
      have hput := Hout2.out.snoc (show w.heap.size ≤ w2.heap.size by omega) Hrow.out hfr.out hown' hgrow
      have Hput := Lib.hid hput
      clear hput hown' hgrow
      go_wp2
      go_roundw
      case rel => exact ⟨k + 1, _, by omega, by go_num, Hput.out.1, Hb2.out.trans Hput.out.2⟩
      case measure => simp [intOf]; omega
    · obtain rfl : k = n := by omega
      go_wp2
      go_ret
      exact ⟨_, rfl, ⟨vs, by rw [tab_len]; exact hout⟩, hbr⟩

/-- the sum of the numbers in the first a rows and b columns -/
def S2 (m : List (List Int)) (a b : Nat) : Int := sumF (fun i => sumF (fun j => gi (gr m i) j) b) a
/-- corner sums -/
def cs (m : List (List Int)) : List (List Int) := tab m.length m.length fun i j => S2 m (i + 1) (j + 1)
theorem cs_len (m : List (List Int)) : (cs m).length = m.length := tab_len _ _ _
theorem S2_succ (m : List (List Int)) (a b : Nat) : S2 m (a + 1) b = S2 m a b + sumF (fun j => gi (gr m a) j) b := rfl
theorem bsum_take {m : List (List Int)} {a b : Nat} (ha : a ≤ m.length) : bsum (m.take a) b = S2 m a b := by
  unfold bsum S2
  rw [show (m.take a).length = a from by rw [List.length_take]; omega]
  exact sumF_congr fun i hi => by rw [gr_take hi]

theorem good.tame {m : List (List Int)} (h : good m) {cols : Nat} (hc : cols ≤ m.length) : Tame m cols := by
  have hn := h.1.2.1
  have h1 := h.1.1
  refine ⟨hn, by omega, fun i hi => ?_⟩
  have hl := h.1.2.2 i hi
  refine ⟨by omega, by omega, by omega, fun j hj => good_entry h hi (by omega)⟩
theorem Tame.take {m : List (List Int)} {cols : Nat} (h : Tame m cols) (k : Nat) : Tame (m.take k) cols := by
  refine ⟨by rw [List.length_take]; have := h.1; omega, h.2.1, fun i hi => ?_⟩
  rw [List.length_take] at hi
  rw [gr_take (by omega)]
  exact h.2.2 i (by omega)
theorem Tame.drop {m : List (List Int)} {cols : Nat} (h : Tame m cols) (k : Nat) : Tame (m.drop k) cols := by
  refine ⟨by rw [List.length_drop]; have := h.1; omega, h.2.1, fun i hi => ?_⟩
  rw [List.length_drop] at hi
  rw [gr_drop]
  exact h.2.2 (k + i) (by omega)

theorem S2_bound {m : List (List Int)} (h : good m) {a b : Nat} (ha : a ≤ m.length) (hb : b ≤ m.length) : -36 ≤ S2 m a b ∧ S2 m a b ≤ 36 := block_bound (h.tame hb) ha

end Go.Proofs.YtnhkclnloiiihaaDoor

namespace Go.Proofs.YtnhkclnloiiihaaDoor
open Go.RowKit

theorem OwnP.drewN {w : World} {B n k : Nat} {v : Value} {m : List (List Int)} {vs : List Value} (h : OwnP w B v n m k vs) (q : Nat) : OwnP (w.drewN q) B v n m k vs := ⟨h.top, h.rows, h.apart⟩
theorem OwnP.drew {w : World} {B n k : Nat} {v : Value} {m : List (List Int)} {vs : List Value} (h : OwnP w B v n m k vs) : OwnP w.drew B v n m k vs := ⟨h.top, h.rows, h.apart⟩

theorem rowsum_bound {m : List (List Int)} (h : good m) {a b : Nat} (ha : a < m.length) (hb : b ≤ m.length) : -6 ≤ sumF (fun j => gi (gr m a) j) b ∧ sumF (fun j => gi (gr m a) j) b ≤ 6 :=
  row_bound (f := fun j => gi (gr m a) j) (n := m.length) h.1.2.1 (fun _ hj => good_entry h ha hj) hb

theorem cs_small {m : List (List Int)} (h : square m) : Small (cs m) := ⟨by rw [cs_len]; have := h.2.1; omega, fun i hi => by rw [cs_len] at hi; unfold cs; rw [tab_row hi]; have := h.2.1; omega⟩
end Go.Proofs.YtnhkclnloiiihaaDoor

namespace Go.Proofs.YtnhkclnloiiihaaDoor
open Go.RowKit

/-- a number of a table, 0 beside it -/
def atC (c : List (List Int)) (i j : Int) : Int := if i < 0 then 0 else if j < 0 then 0 else gi (gr c i.toNat) j.toNat
theorem atC_nat (c : List (List Int)) (i j : Nat) : atC c (i : Int) (j : Int) = gi (gr c i) j := by
  unfold atC
  rw [if_neg (by omega), if_neg (by omega), Int.toNat_natCast, Int.toNat_natCast]

theorem cellD {w : World} {a : Addr} {v : Value} (h : w.cell? a = some v) : ({ w with drawn := w.drawn + 1 } : World).cell? a = some v := h
theorem MatAt.drewD {w : World} {ao : Option Addr} {m : List (List Int)} (h : MatAt w ao m) : MatAt { w with drawn := w.drawn + 1 } ao m := h

set_option maxRecDepth 100000 in
set_option maxHeartbeats 800000 in
theorem sgAt_any (ao : Option Addr) (c : Nat) (m : List (List Int)) (i j : Int) (w : World) (hsq : square m) (hi : -1 ≤ i ∧ i < m.length) (hj : -1 ≤ j ∧ j < m.length) (hm : MatAt w ao m) :
    Calls Tryd.prog 168 #[.slice ao m.length c, .int .i64 i, .int .i64 j] w fun e w' => e = .returned (.int .i64 (atC m i j)) ∧ w' = w := by
  have hn := hsq.2.1
  obtain ⟨hi0, hi1⟩ := hi
  obtain ⟨hj0, hj1⟩ := hj
  by_cases h1 : i < 0
  · have e1 : atC m i j = 0 := if_pos h1
    rw [e1]
    clear e1 hm
    go_enter Tryd.func168, Tryd.ntmps168
    go_wp2
    go_ret
    exact ⟨rfl, rfl⟩
  · by_cases h2 : j < 0
    · have e1 : atC m i j = 0 := by unfold atC; rw [if_neg h1, if_pos h2]
      rw [e1]
      clear e1 hm
      go_enter Tryd.func168, Tryd.ntmps168
      go_wp2
      go_ret
      exact ⟨rfl, rfl⟩
    · obtain ⟨i, rfl⟩ := Int.eq_ofNat_of_zero_le (show 0 ≤ i by omega)
      obtain ⟨j, rfl⟩ := Int.eq_ofNat_of_zero_le (show 0 ≤ j by omega)
      rw [atC_nat]
      have hd : decide ((j : Int) < 0) = false := by simp
      obtain ⟨b, o, r, d, rfl, hc, hr, _, _⟩ := hm i (by omega)
      have hl := hsq.2.2 i (by omega)
      rw [hl] at hc
      obtain ⟨b2, o2, rfl, hc2⟩ := hr j (by rw [hl]; omega)
      clear hm hr hl hsq
      go_enter Tryd.func168, Tryd.ntmps168
      go_wp2
      go_ret
      exact ⟨rfl, rfl⟩

/-- the numbers of a table are in 0..n -/
def inRange (c : List (List Int)) : Prop := ∀ i j, i < c.length → j < c.length → 0 ≤ gi (gr c i) j ∧ gi (gr c i) j ≤ c.length

/-- differences of corner sums -/
def df (c : List (List Int)) (i j : Nat) : Int := atC c i j - atC c ((i : Int) - 1) j - atC c i ((j : Int) - 1) + atC c ((i : Int) - 1) ((j : Int) - 1)
def dm (c : List (List Int)) : List (List Int) := tab c.length c.length (df c)
theorem dm_len (c : List (List Int)) : (dm c).length = c.length := tab_len _ _ _

theorem atC_range {c : List (List Int)} (h : inRange c) {i j : Int} (hi : -1 ≤ i ∧ i < c.length) (hj : -1 ≤ j ∧ j < c.length) : 0 ≤ atC c i j ∧ atC c i j ≤ c.length := by
  unfold atC
  split
  · omega
  · split
    · omega
    · exact h i.toNat j.toNat (by omega) (by omega)

theorem w64 {n : Int} (h : -9223372036854775808 ≤ n ∧ n ≤ 9223372036854775807) : IntKind.i64.wrap n = n := by
  exact IntWalk.i64_in n h

/-- .. or not far from it -/
def inWide (c : List (List Int)) : Prop := ∀ i j, i < c.length → j < c.length → -1000 ≤ gi (gr c i) j ∧ gi (gr c i) j ≤ 1000
theorem atC_wide {c : List (List Int)} (h : inWide c) {i j : Int} (hi : -1 ≤ i ∧ i < c.length) (hj : -1 ≤ j ∧ j < c.length) : -1000 ≤ atC c i j ∧ atC c i j ≤ 1000 := by
  unfold atC
  split
  · omega
  · split
    · omega
    · exact h i.toNat j.toNat (by omega) (by omega)

set_option maxRecDepth 100000 in
set_option maxHeartbeats 3200000 in
theorem sgFromW_any (ao : Option Addr) (c : Nat) (m : List (List Int)) (w : World) (hsq : square m) (hin : inWide m) (hm : MatAt w ao m) :
    Calls Tryd.prog 161 #[.slice ao m.length c] w fun e w' => ∃ v, e = .returned v ∧ OwnM w' w.heap.size v (dm m) ∧ Below w.heap.size w w' := by
  have hn := hsq.2.1
  have hmx : m.length ≤ 9223372036854775807 := by omega
  have Hsq := Lib.hid hsq
  have Hin := Lib.hid hin
  have Hm := Lib.hid hm
  clear hsq hin hm
  go_enter Tryd.func161, Tryd.ntmps161
  go_wp2_with fail
  refine (sgZero_any m.length w (by omega)).mono ?_
  rintro e w1 ⟨v, rfl, hv, hb⟩
  obtain ⟨oa, oc, vs, rfl, hp, _, _⟩ := hv.open
  rw [tab_len] at hp ⊢
  obtain ⟨og, rfl, _⟩ : ∃ g, oa = some ⟨g, 0, none⟩ ∧ w.heap.size ≤ g := by
    rcases hp.top.2 with ⟨h0, h1⟩ | ⟨g, cap, cur, hv2, hg2, _⟩
    · exact absurd h1 (by have := Hsq.out.1; omega)
    · simp only [Value.slice.injEq] at hv2
      exact ⟨g, hv2.1, hg2⟩
  have Hv := Lib.hid hp
  have Hb := Lib.hid hb
  clear hv hp hb
  go_wp2
  go_loopw [11] (fun i wr => ∃ (k : Nat) (f : Nat → Nat → Int), k ≤ m.length ∧ i = .int .i64 k ∧ OwnP wr w.heap.size (.slice (some ⟨og, 0, none⟩) m.length oc) m.length (tab m.length m.length f) m.length vs ∧
      (∀ a b, a < k → b < m.length → f a b = df m a b) ∧ Below w.heap.size w wr) (fun i _ => m.length - (intOf i).toNat)
  case atStart => exact ⟨0, _, Nat.zero_le _, rfl, Hv.out, fun a b ha _ => absurd ha (by omega), Hb.out⟩
  case round =>
    obtain ⟨k, f, hk, rfl, hown, heq, hbr⟩ := hrel
    obtain ⟨wo, rfl⟩ : ∃ wo : World, wo = wr := ⟨_, rfl⟩
    clear Hv Hb
    have Hown := Lib.hid hown
    have Heq := Lib.hid heq
    have Hbr := Lib.hid hbr
    clear hown heq hbr
    by_cases hlt : k < m.length
    · go_wp2
      go_loopw [16] (fun i wr => ∃ (t : Nat) (f : Nat → Nat → Int), t ≤ m.length ∧ i = .int .i64 t ∧ OwnP wr w.heap.size (.slice (some ⟨og, 0, none⟩) m.length oc) m.length (tab m.length m.length f) m.length vs ∧
          (∀ a b, a < k → b < m.length → f a b = df m a b) ∧ (∀ b, b < t → f k b = df m k b) ∧ Below w.heap.size w wr) (fun i _ => m.length - (intOf i).toNat)
      case atStart => exact ⟨0, f, Nat.zero_le _, rfl, Hown.out, Heq.out, fun a ha => absurd ha (by omega), Hbr.out⟩
      case round =>
        obtain ⟨t, f, ht, rfl, hown, heq, hcol, hbi⟩ := hrel
        clear Hown Heq Hbr
        by_cases htl : t < m.length
        · have hd := hown.cellAt k hlt
          obtain ⟨g, cap, hvs, hd2, hf2, hg, hst⟩ := hown.at2 hlt htl
          rw [hvs] at hd
          have hmr := (Hm.out.below hbi).drewD
          have c1 := sgAt_any ao c m k t _ Hsq.out (by omega) (by omega) hmr
          have c2 := sgAt_any ao c m ((k : Int) - 1) t _ Hsq.out (by omega) (by omega) hmr
          have c3 := sgAt_any ao c m k ((t : Int) - 1) _ Hsq.out (by omega) (by omega) hmr
          have c4 := sgAt_any ao c m ((k : Int) - 1) ((t : Int) - 1) _ Hsq.out (by omega) (by omega) hmr
          have r1 := atC_wide Hin.out (i := k) (j := t) (by omega) (by omega)
          have r2 := atC_wide Hin.out (i := (k : Int) - 1) (j := t) (by omega) (by omega)
          have r3 := atC_wide Hin.out (i := k) (j := (t : Int) - 1) (by omega) (by omega)
          have r4 := atC_wide Hin.out (i := (k : Int) - 1) (j := (t : Int) - 1) (by omega) (by omega)
          have hdf : df m k t = atC m k t - atC m ((k : Int) - 1) t - atC m k ((t : Int) - 1) + atC m ((k : Int) - 1) ((t : Int) - 1) := rfl
          generalize atC m k t = x1 at c1 r1 hdf
          generalize atC m ((k : Int) - 1) t = x2 at c2 r2 hdf
          generalize atC m k ((t : Int) - 1) = x3 at c3 r3 hdf
          generalize atC m ((k : Int) - 1) ((t : Int) - 1) = x4 at c4 r4 hdf
          have k1 : IntKind.i64.wrap ((k : Int) - 1) = (k : Int) - 1 := w64 (by omega)
          have k2 : IntKind.i64.wrap ((t : Int) - 1) = (t : Int) - 1 := w64 (by omega)
          have k3 : IntKind.i64.wrap (x1 - x2) = x1 - x2 := w64 (by omega)
          have k4 : IntKind.i64.wrap (x1 - x2 - x3) = x1 - x2 - x3 := w64 (by omega)
          have k5 : IntKind.i64.wrap (x1 - x2 - x3 + x4) = x1 - x2 - x3 + x4 := w64 (by omega)
          have C1 := Lib.hid c1
          have C2 := Lib.hid c2
          have C3 := Lib.hid c3
          have C4 := Lib.hid c4
          have Hdf := Lib.hid hdf
          have Hvs := Lib.hid hvs
          have Hst := Lib.hid (hst (x1 - x2 - x3 + x4))
          have Heq := Lib.hid heq
          have Hcol := Lib.hid hcol
          have Hbs := Lib.hid (hbi.setCell (p := ⟨g, t, none⟩) hg (.int .i64 (x1 - x2 - x3 + x4)))
          have hdD := cellD hd
          have hd2D := cellD hd2
          clear hown heq hcol hbi hst hvs hmr c1 c2 c3 c4 hdf hg
          go_upto_region 8 with (fail)
          refine wp_region_still_tail 29 (by kernel_rfl) (by kernel_rfl) ?_
          simp only [List.take_succ_cons, List.take_zero, List.drop_succ_cons, List.drop_zero]
          repeat still_step
          still_call C1.out
          repeat still_step
          still_call C2.out
          repeat still_step
          still_call C3.out
          repeat still_step
          still_call C4.out
          repeat still_step
          refine wpStill_nil ?_
          change wpList _ _ _ _ _ wr.drew
          clear k1 k2 k3 k4 k5 hdD hd2D
          go_wp2
          go_roundw
          case rel =>
            refine ⟨t + 1, _, by omega, by go_num, Hst.out.drew, fun a b ha hb => ?_, fun b hb => ?_, Hbs.out.drew⟩
            · rw [if_neg (fun h => by omega)]
              exact Heq.out a b ha hb
            · by_cases e : b = t
              · subst e; rw [if_pos ⟨rfl, rfl⟩]; exact Hdf.out.symm
              · rw [if_neg (fun h => by omega)]
                exact Hcol.out b (by omega)
          case measure => simp [intOf]; omega
        · obtain rfl : t = m.length := by omega
          have Hown := Lib.hid hown
          have Heq := Lib.hid heq
          have Hcol := Lib.hid hcol
          have Hbi := Lib.hid hbi
          clear hown heq hcol hbi
          go_wp2
          go_roundw
          case rel =>
            refine ⟨k + 1, f, by omega, by go_num, Hown.out, fun a b ha hb => ?_, Hbi.out⟩
            by_cases e : a = k
            · subst e; exact Hcol.out b hb
            · exact Heq.out a b (by omega) hb
          case measure => simp [intOf]; omega
    · obtain rfl : k = m.length := by omega
      have hown := Hown.out
      have heq := Heq.out
      have e : dm m = tab m.length m.length f := (eq_tab (dm_len m) (fun i hi => tab_row hi) (fun i j hi hj => by unfold dm; rw [gi_tab hi hj, heq i j hi hj]))
      have hfin : OwnM wo w.heap.size (.slice (some ⟨og, 0, none⟩) m.length oc) (dm m) := ⟨vs, by rw [dm_len, e]; exact hown⟩
      have Hfin := Lib.hid hfin
      clear hown heq e hfin
      go_wp2
      go_ret
      exact ⟨_, rfl, Hfin.out, Hbr.out⟩

theorem sgFrom_any (ao : Option Addr) (c : Nat) (m : List (List Int)) (w : World) (hsq : square m) (hin : inRange m) (hm : MatAt w ao m) :
    Calls Tryd.prog 161 #[.slice ao m.length c] w fun e w' => ∃ v, e = .returned v ∧ OwnM w' w.heap.size v (dm m) ∧ Below w.heap.size w w' :=
  sgFromW_any ao c m w hsq (fun i j hi hj => by have h1 := hin i j hi hj; have h2 := hsq.2.1; omega) hm
end Go.Proofs.YtnhkclnloiiihaaDoor

namespace Go.Proofs.YtnhkclnloiiihaaDoor
open Go.RowKit

/-- differences of corner sums, as int wraps them -/
def dfW (c : List (List Int)) (i j : Nat) : Int :=
  IntKind.i64.wrap (IntKind.i64.wrap (IntKind.i64.wrap (gi (gr c i) j - atC c ((i : Int) - 1) j) - atC c i ((j : Int) - 1)) + atC c ((i : Int) - 1) ((j : Int) - 1))
def dmW (c : List (List Int)) : List (List Int) := tab c.length c.length (dfW c)
theorem dmW_len (c : List (List Int)) : (dmW c).length = c.length := tab_len _ _ _

theorem sumF_add (f g : Nat → Int) (k : Nat) : sumF (fun i => f i + g i) k = sumF f k + sumF g k := by
  induction k with
  | zero => rfl
  | succ k ih => simp only [sumF]; omega
theorem sumF_zero (k : Nat) : sumF (fun _ => 0) k = 0 := by
  induction k with
  | zero => rfl
  | succ k ih => simp only [sumF]; omega
theorem S2_swap (m : List (List Int)) (a b : Nat) : S2 m a b = sumF (fun j => sumF (fun i => gi (gr m i) j) a) b := by
  induction a with
  | zero => show (0 : Int) = sumF (fun _ => 0) b; rw [sumF_zero]
  | succ a ih =>
    rw [S2_succ, ih, ← sumF_add]
    rfl
theorem sumK_sumF (xs : List Int) (k : Nat) : sumK xs k = sumF (fun i => gi xs i) k := by
  induction k with
  | zero => rfl
  | succ k ih => simp only [sumK, sumF]; rw [ih]
theorem S2_cols {m : List (List Int)} {a b : Nat} (ha : a ≤ m.length) (hb : b ≤ m.length) : S2 m a b = sumF (fun j => sumK (gr (tr m) j) a) b := by
  rw [S2_swap]
  refine sumF_congr fun j hj => ?_
  rw [sumK_sumF]
  exact sumF_congr fun i hi => (gi_tr (by omega) (by omega)).symm
theorem S2_range {m : List (List Int)} (h : good m) {a b : Nat} (ha : a ≤ m.length) (hb : b ≤ m.length) : 0 ≤ S2 m a b ∧ S2 m a b ≤ b := by
  rw [S2_cols ha hb]
  have : ∀ k, k ≤ b → 0 ≤ sumF (fun j => sumK (gr (tr m) j) a) k ∧ sumF (fun j => sumK (gr (tr m) j) a) k ≤ k := by
    intro k
    induction k with
    | zero => simp [sumF]
    | succ k ih =>
      intro hk
      have h1 := ih (by omega)
      have h2 := (h.2.2 k (by rw [tr_len]; omega)).1 a (by rw [tr_row (by omega)]; exact ha)
      simp only [sumF]
      omega
  exact this b (Nat.le_refl _)
theorem S2_step (m : List (List Int)) (i j : Nat) : S2 m (i + 1) (j + 1) = S2 m i (j + 1) + S2 m (i + 1) j - S2 m i j + gi (gr m i) j := by
  rw [S2_succ, S2_succ]
  simp only [sumF]
  omega
theorem S2_zero_col (m : List (List Int)) (a : Nat) : S2 m a 0 = 0 := by
  show sumF (fun _ => (0 : Int)) a = 0
  exact sumF_zero a

theorem wrap_eq (n : Int) : IntKind.i64.wrap n = (n + 9223372036854775808) % 18446744073709551616 - 9223372036854775808 := by
  rw [IntKind.wrap_i64]

theorem wrap_core {x A B C d : Int} (hx : -9223372036854775808 ≤ x ∧ x ≤ 9223372036854775807) (hA : -36 ≤ A ∧ A ≤ 36) (hB : -36 ≤ B ∧ B ≤ 36) (hC : -36 ≤ C ∧ C ≤ 36) (hd : -1 ≤ d ∧ d ≤ 1)
    (h : d = IntKind.i64.wrap (IntKind.i64.wrap (IntKind.i64.wrap (x - A) - B) + C)) : x = A + B - C + d := by
  rw [wrap_eq, wrap_eq, wrap_eq] at h
  omega

theorem dmW_sums {c : List (List Int)} (hsq : square c) (hwf : WfM c) (hg : good (dmW c)) : ∀ i, i < c.length → ∀ j, j < c.length → gi (gr c i) j = S2 (dmW c) (i + 1) (j + 1) := by
  intro i
  induction i with
  | zero =>
    intro h0 j
    induction j with
    | zero =>
      intro hj
      have hd := good_entry hg (i := 0) (j := 0) (by rw [dmW_len]; exact h0) (by rw [dmW_len]; exact hj)
      have e : gi (gr (dmW c) 0) 0 = dfW c 0 0 := gi_tab h0 hj
      have hx := hwf 0 h0 0 (by rw [hsq.2.2 0 h0]; exact hj)
      rw [S2_step, S2_zero_col, S2_zero_col]
      have := wrap_core hx (A := 0) (B := 0) (C := 0) (by omega) (by omega) (by omega) hd (by rw [e]; rfl)
      show _ = 0 + 0 - 0 + _
      omega
    | succ j ih =>
      intro hj
      have ih := ih (by omega)
      have hd := good_entry hg (i := 0) (j := j + 1) (by rw [dmW_len]; exact h0) (by rw [dmW_len]; exact hj)
      have e : gi (gr (dmW c) 0) (j + 1) = dfW c 0 (j + 1) := gi_tab h0 hj
      have hx := hwf 0 h0 (j + 1) (by rw [hsq.2.2 0 h0]; exact hj)
      have hb := S2_bound hg (a := 0 + 1) (b := j + 1) (by rw [dmW_len]; omega) (by rw [dmW_len]; omega)
      have eB : atC c ((0 : Nat) : Int) (((j + 1 : Nat) : Int) - 1) = S2 (dmW c) (0 + 1) (j + 1) := by
        rw [show (((j + 1 : Nat) : Int) - 1) = (j : Int) from by omega, atC_nat, ih]
      rw [S2_step]
      have := wrap_core hx (A := 0) (B := S2 (dmW c) (0 + 1) (j + 1)) (C := 0) (by omega) hb (by omega) hd (by rw [e, ← eB]; rfl)
      show _ = 0 + _ - 0 + _
      omega
  | succ i ihi =>
    intro hi j
    have ihi := ihi (by omega)
    induction j with
    | zero =>
      intro hj
      have hd := good_entry hg (i := i + 1) (j := 0) (by rw [dmW_len]; exact hi) (by rw [dmW_len]; exact hj)
      have e : gi (gr (dmW c) (i + 1)) 0 = dfW c (i + 1) 0 := gi_tab hi hj
      have hx := hwf (i + 1) hi 0 (by rw [hsq.2.2 (i + 1) hi]; exact hj)
      have hb := S2_bound hg (a := i + 1) (b := 0 + 1) (by rw [dmW_len]; omega) (by rw [dmW_len]; omega)
      have eA : atC c (((i + 1 : Nat) : Int) - 1) ((0 : Nat) : Int) = S2 (dmW c) (i + 1) (0 + 1) := by
        rw [show (((i + 1 : Nat) : Int) - 1) = (i : Int) from by omega, atC_nat, ihi 0 hj]
      have z1 : atC c ((i + 1 : Nat) : Int) (((0 : Nat) : Int) - 1) = 0 := by unfold atC; rw [if_neg (by omega), if_pos (by omega)]
      have z2 : atC c (((i + 1 : Nat) : Int) - 1) (((0 : Nat) : Int) - 1) = 0 := by unfold atC; rw [if_neg (by omega), if_pos (by omega)]
      rw [S2_step, S2_zero_col, S2_zero_col]
      have := wrap_core hx (A := S2 (dmW c) (i + 1) (0 + 1)) (B := 0) (C := 0) hb (by omega) (by omega) hd (by rw [e]; unfold dfW; rw [eA, z1, z2])
      omega
    | succ j ihj =>
      intro hj
      have ihj := ihj (by omega)
      have hd := good_entry hg (i := i + 1) (j := j + 1) (by rw [dmW_len]; exact hi) (by rw [dmW_len]; exact hj)
      have e : gi (gr (dmW c) (i + 1)) (j + 1) = dfW c (i + 1) (j + 1) := gi_tab hi hj
      have hx := hwf (i + 1) hi (j + 1) (by rw [hsq.2.2 (i + 1) hi]; exact hj)
      have b1 := S2_bound hg (a := i + 1) (b := j + 1 + 1) (by rw [dmW_len]; omega) (by rw [dmW_len]; omega)
      have b2 := S2_bound hg (a := i + 1 + 1) (b := j + 1) (by rw [dmW_len]; omega) (by rw [dmW_len]; omega)
      have b3 := S2_bound hg (a := i + 1) (b := j + 1) (by rw [dmW_len]; omega) (by rw [dmW_len]; omega)
      have eA : atC c (((i + 1 : Nat) : Int) - 1) ((j + 1 : Nat) : Int) = S2 (dmW c) (i + 1) (j + 1 + 1) := by
        rw [show (((i + 1 : Nat) : Int) - 1) = (i : Int) from by omega, atC_nat, ihi (j + 1) hj]
      have eB : atC c ((i + 1 : Nat) : Int) (((j + 1 : Nat) : Int) - 1) = S2 (dmW c) (i + 1 + 1) (j + 1) := by
        rw [show (((j + 1 : Nat) : Int) - 1) = (j : Int) from by omega, atC_nat, ihj]
      have eC : atC c (((i + 1 : Nat) : Int) - 1) (((j + 1 : Nat) : Int) - 1) = S2 (dmW c) (i + 1) (j + 1) := by
        rw [show (((i + 1 : Nat) : Int) - 1) = (i : Int) from by omega, show (((j + 1 : Nat) : Int) - 1) = (j : Int) from by omega, atC_nat, ihi j (by omega)]
      rw [S2_step]
      have := wrap_core hx b1 b2 b3 hd (by rw [e]; unfold dfW; rw [eA, eB, eC])
      omega

theorem dmW_dm {c : List (List Int)} (hsq : square c) (h : inRange c) : dmW c = dm c := by
  have hn := hsq.2.1
  refine eq_tab (dmW_len c) (fun i hi => tab_row hi) fun i j hi hj => ?_
  rw [show gi (gr (dmW c) i) j = dfW c i j from gi_tab hi hj]
  have h1 := atC_range h (i := i) (j := j) (by omega) (by omega)
  have h2 := atC_range h (i := (i : Int) - 1) (j := j) (by omega) (by omega)
  have h3 := atC_range h (i := i) (j := (j : Int) - 1) (by omega) (by omega)
  have h4 := atC_range h (i := (i : Int) - 1) (j := (j : Int) - 1) (by omega) (by omega)
  unfold dfW df
  rw [← atC_nat]
  rw [w64 (n := atC c i j - atC c ((i : Int) - 1) j) (by omega), w64 (n := atC c i j - atC c ((i : Int) - 1) j - atC c i ((j : Int) - 1)) (by omega), w64 (by omega)]

/-- corner sums of a sign matrix -/
def isCorners (c : List (List Int)) : Prop := square c ∧ inRange c ∧ good (dm c)
theorem corners_iff {c : List (List Int)} (hwf : WfM c) : square c ∧ good (dmW c) ↔ isCorners c := by
  constructor
  · rintro ⟨hsq, hg⟩
    have hr : inRange c := by
      intro i j hi hj
      rw [dmW_sums hsq hwf hg i hi j hj]
      have := S2_range hg (a := i + 1) (b := j + 1) (by rw [dmW_len]; omega) (by rw [dmW_len]; omega)
      omega
    exact ⟨hsq, hr, by rw [← dmW_dm hsq hr]; exact hg⟩
  · rintro ⟨hsq, hr, hg⟩
    exact ⟨hsq, by rw [dmW_dm hsq hr]; exact hg⟩

theorem wf_dmW {c : List (List Int)} : WfM (dmW c) := by
  intro i hi j hj
  rw [dmW_len] at hi
  have hj' : j < c.length := by have := tab_row (n := c.length) (c := c.length) (f := dfW c) hi; unfold dmW at hj; omega
  rw [show gi (gr (dmW c) i) j = dfW c i j from gi_tab hi hj']
  unfold dfW
  rw [wrap_eq (_ + _)]
  omega
theorem square_dmW {c : List (List Int)} (h : square c) : square (dmW c) := ⟨by rw [dmW_len]; exact h.1, by rw [dmW_len]; exact h.2.1, fun i hi => by rw [dmW_len] at hi ⊢; exact tab_row hi⟩

set_option maxRecDepth 100000 in
set_option maxHeartbeats 800000 in
theorem ifSigns_any (ao : Option Addr) (c : Nat) (m : List (List Int)) (w : World) (hs : Small m) (hwf : WfM m) (hm : MatAt w ao m) :
    Calls Tryd.prog 102 #[.slice ao m.length c] w fun e w' =>
      ∃ b, e = .returned (.tuple #[if b then .slice ao m.length c else .slice none 0 0, .bool b]) ∧ (b = true ↔ good m) ∧ Below w.heap.size w w' := by
  have Hs := Lib.hid hs
  have Hm := Lib.hid hm
  have Hwf := Lib.hid hwf
  clear hs hm hwf
  go_enter Tryd.func102, Tryd.ntmps102
  go_wp2_with fail
  refine (implIsSign_any ao c m w Hs.out Hwf.out Hm.out).mono ?_
  rintro e w1 ⟨⟨b, rfl, ha⟩, hb⟩
  have Ha := Lib.hid ha
  have Hb := Lib.hid hb
  clear ha hb
  cases b
  · go_wp2
    go_ret2
    exact ⟨false, rfl, Ha.out, Hb.out⟩
  · go_wp2
    go_ret2
    exact ⟨true, rfl, by simpa using Ha.out, Hb.out⟩

/-- all numbers lie between two bounds -/
def allIn (xs : List Int) (lo hi : Int) : Prop := ∀ i, i < xs.length → lo ≤ gi xs i ∧ gi xs i ≤ hi

set_option maxRecDepth 100000 in
set_option maxHeartbeats 800000 in
theorem l1All_any (ao : Option Addr) (c : Nat) (xs : List Int) (lo hi : Int) (w : World) (hn : xs.length ≤ 1048576) (hx : IntsAt w ao xs) :
    Calls Tryd.prog 107 #[.slice ao xs.length c, .int .i64 lo, .int .i64 hi] w fun e w' => Ans (allIn xs lo hi) e ∧ w = w' := by
  have hmx : xs.length ≤ 9223372036854775807 := by omega
  have Hx := Lib.hid hx
  clear hx
  go_enter Tryd.func107, Tryd.ntmps107
  go_wp2
  go_loop [11] (fun i => ∃ k : Nat, k ≤ xs.length ∧ i = .int .i64 k ∧ ∀ j, j < k → lo ≤ gi xs j ∧ gi xs j ≤ hi) (fun i => xs.length - (intOf i).toNat)
  case atStart => exact ⟨0, Nat.zero_le _, rfl, fun j hj => absurd hj (by omega)⟩
  case round =>
    obtain ⟨k, hk, rfl, hd⟩ := hrel
    have Hd := Lib.hid hd
    clear hd
    by_cases hlt : k < xs.length
    · obtain ⟨b1, o1, rfl, hc1⟩ := Hx.out k hlt
      go_wp2_with fail
      refine (l1In_any _ _ _ w).mono ?_
      rintro e w2 ⟨ha, rfl⟩
      by_cases hin : lo ≤ gi xs k ∧ gi xs k ≤ hi
      · have Hin := Lib.hid hin
        clear hin
        obtain rfl := ha.is Hin.out
        clear ha
        go_wp2
        go_round
        case rel =>
          refine ⟨k + 1, by omega, by go_num, fun j hj => ?_⟩
          by_cases e : j = k
          · subst e; exact Hin.out
          · exact Hd.out j (by omega)
        case measure => simp [intOf]; omega
      · have Hin := Lib.hid hin
        clear hin
        obtain rfl := ha.isnt Hin.out
        clear ha
        go_wp2
        go_ret
        exact ⟨Ans.no fun h => Hin.out (h k hlt), rfl⟩
    · obtain rfl : k = xs.length := by omega
      go_wp2
      go_ret
      exact ⟨Ans.yes Hd.out, rfl⟩

theorem dm_small {m : List (List Int)} (h : square m) : Small (dm m) := ⟨by rw [dm_len]; have := h.2.1; omega, fun i hi => by rw [dm_len] at hi; unfold dm; rw [tab_row hi]; have := h.2.1; omega⟩
end Go.Proofs.YtnhkclnloiiihaaDoor

