/- Parts of proofs: contracts and plain facts. Conditions: as each says. -/
import Derived.Test.YtmonhmbnbhaemaaDoorK07
import Derived.Maps.AppendAt
import Derived.Maps.RangeWalk
import Derived.Maps.OwnOps
import Derived.Maps.Views
import Derived.WideKeyEntry
import Derived.DeepKeys4
namespace Go.Proofs.YtmonhmbnbhaemaaDoor
open Go.RowKit

/-- tables whose slices of rows lie in different blocks -/
def Tops (vs : List Value) : Prop := ∀ i j, i < j → j < vs.length → ∀ g, (vs.getD i undef).ownBlock = some g → (vs.getD j undef).ownBlock ≠ some g
/-- what grows leaves a table of another block as it was -/
theorem OwnR.keptTop {w w1 : World} {B B' n' : Nat} {x v : Value} {m : List (List Int)} {vs ys : List Value} (h : OwnR w B x m vs) (k : w.ownsRow B' 33 1 v n' ys) (hne : ∀ g, v.ownBlock = some g → x.ownBlock ≠ some g) (hg : w.grownBy w1 v.ownBlock) : OwnR w1 B x m vs :=
  ⟨World.ownsRow.kept h.top hg (by
    cases hb : x.ownBlock with
    | none => exact .inl rfl
    | some g => exact .inr (fun e => hne g e.symm hb)), fun i hi => row_kept (h.rows i hi) k (by decide) hg⟩
theorem OwnR.lt {w : World} {B : Nat} {v : Value} {m : List (List Int)} {vs : List Value} (h : OwnR w B v m vs) : ∀ g, v.ownBlock = some g → B ≤ g ∧ g < w.heap.size := World.ownsRow.lt h.top

/-- the list so far, and the list whose tables are being lengthened, from the t-th on -/
structure TrI (w : World) (B Bi : Nat) (out inn : Value) (n : Nat) (P T : List (List (List Int))) (vs us : List Value) (t : Nat) : Prop where
  own : OwnRL w B out P vs
  ap : Tops vs
  inner : w.ownsRow Bi 22 1 inn n us
  rest : ∀ j, t ≤ j → j < n → ∃ zs, OwnR w Bi (us.getD j undef) (gt T j) zs
  sep : ∀ a, a < vs.length → ∀ j, t ≤ j → j < n → ∀ g, (us.getD j undef).ownBlock = some g → (vs.getD a undef).ownBlock ≠ some g
  dis : ∀ g, out.ownBlock = some g → inn.ownBlock ≠ some g

theorem TrI.below {w w' : World} {B Bi : Nat} {out inn : Value} {n : Nat} {P T : List (List (List Int))} {vs us : List Value} {t : Nat} (h : TrI w B Bi out inn n P T vs us t) (hb : Below w.heap.size w w') : TrI w' B Bi out inn n P T vs us t :=
  ⟨h.own.below hb, h.ap, ownsRow_below h.inner hb, fun j h1 h2 => ⟨_, (h.rest j h1 h2).choose_spec.below hb⟩, h.sep, h.dis⟩
theorem TrI.grow {w w1 : World} {B Bi : Nat} {out inn : Value} {n : Nat} {P T : List (List (List Int))} {vs us : List Value} {t : Nat} {zs : List Value} (h : TrI w B Bi out inn n P T vs us t) (ht : t < n) (hz : OwnR w Bi (us.getD t undef) (gt T t) zs)
    (hua : ∀ j, t < j → j < n → ∀ g, (us.getD t undef).ownBlock = some g → (us.getD j undef).ownBlock ≠ some g) (hg : w.grownBy w1 (us.getD t undef).ownBlock) : TrI w1 B Bi out inn n P T vs us (t + 1) :=
  ⟨⟨row_kept h.own.top hz.top (by decide) hg, fun i hi => ⟨_, (h.own.each i hi).choose_spec.keptTop hz.top (fun g hg2 => h.sep i (by rw [h.own.len]; exact hi) t (Nat.le_refl _) ht g hg2) hg⟩⟩, h.ap,
    row_kept h.inner hz.top (by decide) hg, fun j h1 h2 => ⟨_, (h.rest j (by omega) h2).choose_spec.keptTop hz.top (fun g hg2 => hua j (by omega) h2 g hg2) hg⟩, fun a ha j h1 h2 => h.sep a ha j (by omega) h2, h.dis⟩
theorem TrI.push {w w1 : World} {B Bi : Nat} {out inn out' v : Value} {n : Nat} {P T : List (List (List Int))} {vs us zs : List Value} {t : Nat} {M : List (List Int)} (h : TrI w B Bi out inn n P T vs us t) (hv : OwnR w B v M zs)
    (hs : ∀ j, t ≤ j → j < n → ∀ g, (us.getD j undef).ownBlock = some g → v.ownBlock ≠ some g) (hap : ∀ a, a < vs.length → ∀ g, (vs.getD a undef).ownBlock = some g → v.ownBlock ≠ some g)
    (h1 : w1.ownsRow B 22 1 out' (P.length + 1) (vs ++ [v])) (hg : w.grownBy w1 out.ownBlock) (hat : out'.ownBlock = out.ownBlock ∨ out'.ownBlock = some w.heap.size) : TrI w1 B Bi out' inn n (P ++ [M]) T (vs ++ [v]) us t := by
  have hl := h.own.len
  refine ⟨h.own.join (ks := [M]) rfl (fun i hi => by obtain rfl : i = 0 := by simpa using hi
                                                     exact ⟨zs, hv⟩) h1 hg, fun i j hij hj g hi => ?_, ?_, fun j h2 h3 => ?_, fun a ha j h2 h3 g hgj => ?_, fun g hgo => ?_⟩
  · rw [List.length_append, List.length_singleton] at hj
    rw [getD_left (by omega)] at hi
    by_cases e : j < vs.length
    · rw [getD_left e]; exact h.ap i j hij e g hi
    · rw [getD_right (by omega), show j - vs.length = 0 by omega]
      exact hap i (by omega) g hi
  · refine World.ownsRow.kept h.inner hg ?_
    cases hb : inn.ownBlock with
    | none => exact .inl rfl
    | some g => exact .inr (fun e => h.dis g e.symm hb)
  · obtain ⟨ys, hy⟩ := h.rest j h2 h3
    exact ⟨ys, hy.kept h.own.top (by decide) (by decide) hg⟩
  · rw [List.length_append, List.length_singleton] at ha
    by_cases e : a < vs.length
    · rw [getD_left e]; exact h.sep a e j h2 h3 g hgj
    · rw [getD_right (by omega), show a - vs.length = 0 by omega]
      exact hs j h2 h3 g hgj
  · rcases hat with e | e
    · exact h.dis g (by rw [← e]; exact hgo)
    · rw [e] at hgo
      cases hgo
      intro hi
      have := (World.ownsRow.lt h.inner _ hi).2
      omega

set_option maxRecDepth 100000 in
set_option maxHeartbeats 6400000 in
theorem triangles_any : ∀ (d : Nat) (xs : List Int) (w : World), d < 5 → Rise xs → xs.length = d + 1 → Dj w →
    Calls Tryd.prog 41 #[.int .u64 (mask xs : Nat)] w fun e w' => ∃ v vs, e = .returned v ∧ OwnRL w' w.heap.size v (trisD d xs) vs ∧ Tops vs ∧ Below w.heap.size w w' := by
  intro d
  induction d with
  | zero =>
    intro xs w hd hr hl hD
    have hs := size_any hr (by omega) w
    have hrow := row_any hr (by omega) w hD
    have he : ((xs.length : Int) == 1) = true := by simp; omega
    obtain ⟨m, hm⟩ : ∃ m : Int, m = (mask xs : Nat) := ⟨_, rfl⟩
    rw [← hm] at hs hrow ⊢
    have Hs := Lib.hid hs
    have Hrow := Lib.hid hrow
    clear hs hrow hD hm hr hl
    go_enter Tryd.func41, Tryd.ntmps41
    go_wp2_with fail
    refine Hs.out.mono ?_
    rintro e w1 ⟨rfl, rfl⟩
    go_wp2_with fail
    refine Hrow.out.mono ?_
    rintro e w1 ⟨v, rfl, hv, hb⟩
    obtain ⟨va, vc, hvv, _, _, _⟩ := hv.read
    obtain ⟨l, hll⟩ : ∃ l, l = xs.length := ⟨_, rfl⟩
    rw [← hll] at hvv
    subst hvv
    have hbA : Below w1.heap.size w1 (w1.alloc (.cells #[.slice va l vc] 33)) := (Below.refl _ _).alloc (Nat.le_refl _) _
    have hRA : OwnR (w1.alloc (.cells #[.slice va l vc] 33)) w.heap.size (.slice (some ⟨w1.heap.size, 0, none⟩) 1 1) [xs] [.slice va l vc] :=
      ⟨ownsRow_built w1 [.slice va l vc] hb.size (by simp), fun i hi => by obtain rfl : i = 0 := (by simpa using hi); exact hv.below hbA⟩
    generalize hWA : w1.alloc (.cells #[.slice va l vc] 33) = wA at hbA hRA
    have hszA : wA.heap.size = w1.heap.size + 1 := by rw [← hWA]; simp
    have hbB : Below wA.heap.size wA (wA.alloc (.cells #[.slice (some ⟨w1.heap.size, 0, none⟩) 1 1] 22)) := (Below.refl _ _).alloc (Nat.le_refl _) _
    have hRB : OwnRL (wA.alloc (.cells #[.slice (some ⟨w1.heap.size, 0, none⟩) 1 1] 22)) w.heap.size (.slice (some ⟨wA.heap.size, 0, none⟩) 1 1) [[xs]] [.slice (some ⟨w1.heap.size, 0, none⟩) 1 1] :=
      ⟨ownsRow_built wA [.slice (some ⟨w1.heap.size, 0, none⟩) 1 1] (Nat.le_trans hb.size hbA.size) (by simp), fun i hi => by obtain rfl : i = 0 := (by simpa using hi); exact ⟨_, hRA.below hbB⟩⟩
    have HRB := Lib.hid hRB
    have HbB := Lib.hid (hb.trans ((hbA.trans (hbB.mono hbA.size)).mono hb.size))
    have HWA := Lib.hid hWA
    have HszA := Lib.hid hszA
    clear hv hb hbA hRA hbB hRB hszA hWA hll
    go_wp2
    go_ret
    refine ⟨.slice (some ⟨wA.heap.size, 0, none⟩) 1 1, [.slice (some ⟨w1.heap.size, 0, none⟩) 1 1], by rw [HszA.out]; rfl, ?_, fun i j hij hj => by simp at hj; omega, ?_⟩
    · have := HRB.out; rw [← HWA.out] at this ⊢; exact this
    · have := HbB.out; rw [← HWA.out] at this; exact this
  | succ d ih =>
    intro xs w hd hr hl hD
    have hs := size_any hr (by omega) w
    have hsets := setsAbove_any hr (by omega) w hD
    have he : ((xs.length : Int) == 1) = false := by simp; omega
    obtain ⟨j0, hj, hy0, hy1, hy2⟩ := info_parts Tryd.info_ints
    obtain ⟨k0, hk0, ht0, ht1, ht2⟩ := info_parts Tryd.info_intssW
    have Hrow := Lib.hid (fun w' (hD' : Dj w') => row_any hr (by omega) w' hD')
    have Hys := Lib.hid (fun k (hk : k < (above xs).length) => above_mem hr (gr_mem hk))
    have Hle := Lib.hid (fun k t (hk : k < (above xs).length) => trisQ_le (t := t) hr (by omega) hk)
    have HtB := Lib.hid (trB_le (d + 1) hd)
    have hA5 : (above xs).length ≤ 1099511627776 := by
      have := above_len hr
      rw [hl] at this
      exact Nat.le_trans this (Nat.le_trans (Nat.pow_le_pow_right (by omega) (show d + 1 + 1 - 1 ≤ 5 by omega)) (by decide))
    have Hih := Lib.hid ih
    have HD := Lib.hid hD
    have Hl := Lib.hid hl
    obtain ⟨m, hm⟩ : ∃ m : Int, m = (mask xs : Nat) := ⟨_, rfl⟩
    rw [← hm] at hs hsets Hrow ⊢
    have Hs := Lib.hid hs
    have Hsets := Lib.hid hsets
    clear hs hsets hD hm hl ih hr
    go_enter Tryd.func41, Tryd.ntmps41
    go_wp2_with fail
    refine Hs.out.mono ?_
    rintro e w1 ⟨rfl, rfl⟩
    go_wp2_with fail
    refine Hsets.out.mono ?_
    rintro e w1 ⟨v, rfl, hv, hb⟩
    obtain ⟨sa, sc, rfl, hs1, hs2, hsr⟩ := hv.read
    have Hsr := Lib.hid hsr
    have Hb := Lib.hid hb
    have HB := Lib.hid hb.size
    have HD1 := Lib.hid (HD.out.next hb)
    clear hv hb hsr Hs Hsets HD
    obtain ⟨A, hA⟩ : ∃ A, A = above xs := ⟨_, rfl⟩
    rw [← hA] at Hys Hle hA5 hs1 Hsr ⊢
    have HA := Lib.hid hA
    clear hA
    go_wp2
    go_loopw [3, 18] (fun out i wr => ∃ (k : Nat) (vs : List Value), k ≤ A.length ∧ i = .int .i64 k ∧ OwnRL wr w1.heap.size out (trisP d xs k) vs ∧ Tops vs ∧ Below w1.heap.size w1 wr) (fun _ i _ => A.length - (intOf i).toNat)
    case atStart => exact ⟨0, [], Nat.zero_le _, rfl, by rw [trisP_zero]; exact OwnRL.nil _ _, fun i j _ hj => absurd hj (by simp), Below.refl _ _⟩
    case round =>
      obtain ⟨k, vs, hk, rfl, hown, hap, hbr⟩ := hrel
      obtain ⟨wo, hwo⟩ : ∃ wo : World, wo = wr := ⟨_, rfl⟩
      subst hwo
      have Hown := Lib.hid hown
      have Hap := Lib.hid hap
      have Hbr := Lib.hid hbr
      have HBr := Lib.hid hbr.size
      clear hown hap hbr
      by_cases hlt : k < A.length
      · obtain ⟨b, o, e0, hcell⟩ := Hsr.out.below Hbr.out k hlt
        subst e0
        obtain ⟨hy, hyl⟩ := Hys.out k hlt
        have C := Lib.hid (Hih.out (gr A k) wo (by omega) hy (by have := Hl.out; omega) (HD1.out.next Hbr.out))
        have HTl := Lib.hid (trisD_len d (gr A k) hy (by have := Hl.out; omega))
        have HQ := Lib.hid (fun t (ht : t < (trisD d (gr A k)).length) => show trisQ d xs k (t + 1) = trisQ d xs k t ++ [gt (trisD d (gr A k)) t ++ [xs]] by rw [HA.out] at ht ⊢; exact trisQ_step ht)
        have HQe := Lib.hid (show trisQ d xs k (trisD d (gr A k)).length = trisP d xs (k + 1) by rw [HA.out]; exact trisQ_end (by rw [← HA.out]; exact hlt))
        have HQl := Lib.hid (fun t => Nat.le_trans (Hle.out k t hlt) HtB.out)
        have hcell' : wo.cell? ⟨b, o + k, none⟩ = some (.int .u64 (mask (gr A k) : Nat)) := hcell
        obtain ⟨q, hq⟩ : ∃ q : Int, q = (mask (gr A k) : Nat) := ⟨_, rfl⟩
        rw [← hq] at hcell' C
        clear hcell hy hyl hq
        go_wp2_with fail
        refine C.out.mono ?_
        rintro e w2 ⟨v2, us, rfl, hT, hTa, hb2⟩
        obtain ⟨T, hTT⟩ : ∃ T, T = trisD d (gr A k) := ⟨_, rfl⟩
        rw [← hTT] at hT HTl HQ HQe
        obtain ⟨ta, tc, rfl, htl1, htl2⟩ := hT.head
        have hTn : T.length ≤ 1099511627776 := Nat.le_trans (by
          have h1 := HQl.out T.length
          have h2 : T.length ≤ (trisQ d xs k T.length).length := by
            unfold trisQ
            rw [← HA.out, ← hTT, List.length_append, List.length_map, List.take_length]
            omega
          exact Nat.le_trans h2 h1) (Nat.le_refl _)
        have hlenT := hT.len
        have HI := Lib.hid (show TrI w2 w1.heap.size wo.heap.size _ (.slice ta T.length tc) T.length (trisQ d xs k 0) T vs us 0 from
          ⟨by rw [trisQ_zero]; exact Hown.out.below hb2, Hap.out, hT.top, fun j _ hj => hT.each j hj, fun a ha j _ hj g hg1 hg2 => by
            obtain ⟨ys, hx⟩ := Hown.out.each a (by rw [← Hown.out.len]; exact ha)
            obtain ⟨zs, hz⟩ := hT.each j hj
            have h1 := (hx.lt g hg2).2
            have h2 := (hz.lt g hg1).1
            omega, fun g hg1 hg2 => by
            have h1 := (World.ownsRow.lt Hown.out.top g hg1).2
            have h2 := (World.ownsRow.lt hT.top g hg2).1
            omega⟩)
        have HTa := Lib.hid hTa
        have Hb2 := Lib.hid (Hbr.out.trans (hb2.mono HBr.out))
        have Hb2' := Lib.hid hb2.size
        have HlT := Lib.hid hlenT
        clear hT hTa hb2 hTT Hown Hap C hlenT
        go_wp2
        go_loopw [3, 25] (fun out i wi => ∃ (t : Nat) (vs : List Value), t ≤ T.length ∧ i = .int .i64 t ∧ TrI wi w1.heap.size wo.heap.size out (.slice ta T.length tc) T.length (trisQ d xs k t) T vs us t ∧ Below w1.heap.size w1 wi ∧ wo.heap.size ≤ wi.heap.size) (fun _ i _ => T.length - (intOf i).toNat)
        case atStart => exact ⟨0, vs, Nat.zero_le _, rfl, HI.out, Hb2.out, Hb2'.out⟩
        case round =>
          obtain ⟨t, vs, ht, rfl, hI, hbi, hszi⟩ := hrel
          clear HI Hb2 Hb2'
          by_cases htl : t < T.length
          · obtain ⟨zs, hz⟩ := hI.rest t (Nat.le_refl _) htl
            obtain ⟨qa, qc, hq, hq1, hq2, _⟩ := hz.read
            have htt := HTl.out _ (gt_mem htl)
            rw [htt] at hq hq1
            obtain ⟨ai, ci, e, _, _, hcs⟩ := ownsRow_read hI.inner
            cases e
            obtain ⟨b2, o2, e2, hc2⟩ := hcs t htl
            rw [hq] at hc2
            subst e2
            obtain ⟨oa, oc, hoo, ho1, ho2⟩ := hI.own.head
            have hHQ := HQ.out t htl
            have hPl := HQl.out t
            obtain ⟨P, hP⟩ : ∃ P, P = trisQ d xs k t := ⟨_, rfl⟩
            rw [← hP] at hI hoo ho1 hHQ hPl
            obtain ⟨Pl, hPl2⟩ : ∃ Pl, Pl = P.length := ⟨_, rfl⟩
            rw [← hPl2] at hoo ho1 hPl
            have HPl := Lib.hid hPl2
            subst hoo
            have hua : ∀ j, t < j → j < T.length → ∀ g, (us.getD t undef).ownBlock = some g → (us.getD j undef).ownBlock ≠ some g := fun j h1 h2 g hg => HTa.out t j h1 (by rw [HlT.out]; exact h2) g hg
            have HI := Lib.hid hI
            have Hbi := Lib.hid hbi
            have HBi := Lib.hid hbi.size
            have Hz := Lib.hid hz
            have Hq := Lib.hid hq
            have Hua := Lib.hid hua
            have HHQ := Lib.hid hHQ
            have Htt := Lib.hid htt
            have C := Lib.hid (Hrow.out wr (HD1.out.next hbi))
            clear hI hbi hz hq hua hcs hP hPl2 hHQ ho1 ho2 hq1 hq2 htt
            go_wp2_with fail
            refine C.out.mono ?_
            rintro e w3 ⟨rv, rfl, hrv, hb3⟩
            obtain ⟨ra, rc, hrr, _, _, _⟩ := hrv.read
            obtain ⟨l, hll⟩ : ∃ l, l = xs.length := ⟨_, rfl⟩
            rw [← hll] at hrr
            subst hrr
            have hb3A : Below wr.heap.size wr (w3.alloc (.cells #[.slice ra l rc] 33)) := hb3.alloc hb3.size _
            have hz3 := Hz.out.below hb3A
            rw [Hq.out] at hz3
            have Hrv := Lib.hid hrv
            have HB3 := Lib.hid hb3.size
            have Hb3A := Lib.hid hb3A
            have Hz3 := Lib.hid hz3
            clear hrv hb3 hb3A hz3 hll C
            go_wp2_with (at_builtin; refine wpList_append_own_at _ rfl _ _ 22 rfl wo.heap.size 33 j0 (.slice none 0 0) 1 24 Tryd.underlying22 hj hy0 hy1 hy2 rfl (by decide) _ (d + 1) zs rfl (by have := Hz3.out.top; rw [Htt.out] at this; exact this) ⟨w3.heap.size, 0, none⟩ 1 1 [.slice ra l rc] rfl rfl ?g1 ?g2 ?g3 ?g4 ?g5 ?_)
            case g1 => exact cell_one_new _ _ _
            case g2 => intro u hu; simp at hu; subst hu; rfl
            case g3 => unfold maxLen; omega
            case g4 => omega
            case g5 => have := HB3.out; simp; omega
            intro v' w4 hown4 hgrow4 _ hat4
            have hG : TrI w4 w1.heap.size wo.heap.size _ _ T.length P T vs us (t + 1) := (HI.out.below Hb3A.out).grow htl (by rw [Hq.out]; exact Hz3.out) Hua.out (by rw [Hq.out]; exact hgrow4)
            have hv4 : OwnR w4 wo.heap.size v' (gt T t ++ [xs]) (zs ++ [.slice ra l rc]) := Hz3.out.join (k := [xs]) rfl (fun i hi => by
              obtain rfl : i = 0 := by simpa using hi
              exact (Hrv.out.base hszi).below ((Below.refl _ _).alloc (Nat.le_refl _) _)) (by rw [Htt.out]; exact hown4) hgrow4
            have hsz3 : (w3.alloc (.cells #[.slice ra l rc] 33)).heap.size = w3.heap.size + 1 := by simp
            have hvs : ∀ j, t + 1 ≤ j → j < T.length → ∀ g, (us.getD j undef).ownBlock = some g → v'.ownBlock ≠ some g := fun j h1 h2 g hg hgv => by
              rcases hat4 with e | e
              · rw [e] at hgv
                exact Hua.out j (by omega) h2 g (by rw [Hq.out]; exact hgv) hg
              · rw [e] at hgv
                cases hgv
                obtain ⟨ys, hy⟩ := HI.out.rest j (by omega) h2
                have h3 := (hy.lt _ hg).2
                have := HB3.out
                omega
            have hva : ∀ a, a < vs.length → ∀ g, (vs.getD a undef).ownBlock = some g → v'.ownBlock ≠ some g := fun a ha g hg hgv => by
              rcases hat4 with e | e
              · rw [e] at hgv
                exact HI.out.sep a ha t (Nat.le_refl _) htl g (by rw [Hq.out]; exact hgv) hg
              · rw [e] at hgv
                cases hgv
                obtain ⟨ys, hy⟩ := HI.out.own.each a (by rw [← HI.out.own.len]; exact ha)
                have h3 := (hy.lt _ hg).2
                have := HB3.out
                omega
            obtain ⟨pa, pc, hpp, _, _, _⟩ := ownsRow_read hown4
            have hb4 : Below w1.heap.size w1 w4 := (Hbi.out.trans (Hb3A.out.mono HBi.out)).grown hgrow4 (Nat.le_trans HBi.out Hb3A.out.size) (fun g hg => Nat.le_trans HBr.out (Hz3.out.lt g hg).1)
            have hsz4 : wo.heap.size ≤ w4.heap.size := by
              have h1 := (hgrow4.size)
              rw [hsz3] at h1
              have := HB3.out
              omega
            have HG := Lib.hid (hG.below ((Below.refl _ w4).alloc (Nat.le_refl _) (.cells #[v'] 22)))
            have Hv4 := Lib.hid ((hv4.base HBr.out).below ((Below.refl _ w4).alloc (Nat.le_refl _) (.cells #[v'] 22)))
            have Hvs := Lib.hid hvs
            have Hva := Lib.hid hva
            have Hb4 := Lib.hid hb4
            have HB4 := Lib.hid hb4.size
            have Hsz4 := Lib.hid hsz4
            clear hown4 hgrow4 hat4 hG hv4 hsz3 hvs hva hb4 hsz4 Hz3 Hb3A HB3 Hrv
            subst hpp
            go_wp2_with (at_builtin; refine wpList_append_own_at _ rfl _ _ 36 rfl w1.heap.size 22 k0 (.slice none 0 0) 1 24 Tryd.underlying36 hk0 ht0 ht1 ht2 rfl (by decide) _ Pl vs rfl (by have := HG.out.own.top; rw [← HPl.out] at this; exact this) ⟨w4.heap.size, 0, none⟩ 1 1 [.slice pa (d + 1 + 1) pc] rfl rfl ?f1 ?f2 ?f3 ?f4 ?f5 ?_)
            case f1 => exact cell_one_new _ _ _
            case f2 => intro u hu; simp at hu; subst hu; rfl
            case f3 => unfold maxLen; omega
            case f4 => omega
            case f5 => have := HB4.out; simp; omega
            intro out' w5 hown5 hgrow5 _ hat5
            have hP5 := HG.out.push Hv4.out Hvs.out Hva.out (by rw [← HPl.out]; exact hown5) hgrow5 (by simpa using hat5)
            rw [← HHQ.out] at hP5
            have hb5 : Below w1.heap.size w1 w5 := (Hb4.out.alloc HB4.out (.cells #[.slice pa (d + 1 + 1) pc] 22)).grown hgrow5 (by have := HB4.out; simp; omega) (fun g hg => (World.ownsRow.lt HG.out.own.top g hg).1)
            have hsz5 : wo.heap.size ≤ w5.heap.size := by
              have h1 := hgrow5.size
              have := Hsz4.out
              simp at h1
              omega
            obtain ⟨ua, uc, huu, _, _, _⟩ := ownsRow_read hown5
            have HP5 := Lib.hid hP5
            have Hb5 := Lib.hid hb5
            have Hsz5 := Lib.hid hsz5
            clear hown5 hgrow5 hat5 hP5 hb5 hsz5 HG Hv4 Hvs Hva
            subst huu
            go_wp2
            go_roundw
            case rel => exact ⟨t + 1, _, by omega, by go_num, HP5.out, Hb5.out, Hsz5.out⟩
            case measure => simp [intOf]; omega
          · obtain rfl : t = T.length := by omega
            have HO := Lib.hid hI.own
            have HAp := Lib.hid hI.ap
            have Hbi := Lib.hid hbi
            clear hI hbi
            go_wp2
            go_roundw
            case rel => exact ⟨k + 1, vs, by omega, by go_num, by rw [← HQe.out]; exact HO.out, HAp.out, Hbi.out⟩
            case measure => simp [intOf]; omega
      · obtain rfl : k = A.length := by omega
        have HV := Lib.hid (show trisP d xs A.length = trisD (d + 1) xs by rw [HA.out]; exact trisP_end d xs)
        go_wp2
        go_ret
        exact ⟨_, vs, rfl, by rw [← HV.out]; exact Hown.out.base HB.out, Hap.out, Hb.out.trans (Hbr.out.mono HB.out)⟩
end Go.Proofs.YtmonhmbnbhaemaaDoor

namespace Go.Proofs.YtmonhmbnbhaemaaDoor
open Go.RowKit

/-- the sum of the first k numbers of a column -/
def colR (m : List (List Int)) (j : Nat) : Nat → Int
  | 0 => 0
  | k + 1 => colR m j k + gi (gr m k) j
theorem colR_tr {m : List (List Int)} {j : Nat} (hj : j < m.length) : ∀ k, k ≤ m.length → colR m j k = sumK (gr (tr m) j) k
  | 0, _ => rfl
  | k + 1, hk => by simp only [colR, sumK]; rw [colR_tr hj k (by omega), gi_tr hj (by omega)]
theorem colR_01 {m : List (List Int)} (h : good m) {j k : Nat} (hj : j < m.length) (hk : k ≤ m.length) : 0 ≤ colR m j k ∧ colR m j k ≤ 1 := by
  rw [colR_tr hj k hk]
  exact (h.2.2 j (by rw [tr_len]; exact hj)).1 k (by rw [tr_row hj]; exact hk)

/-- the numbers below n for which f holds -/
def colsF (n : Nat) (f : Nat → Bool) : List Int := ((List.range n).filter f).map fun j : Nat => (j : Int)
theorem mem_colsF {n : Nat} {f : Nat → Bool} {x : Int} : x ∈ colsF n f ↔ ∃ j : Nat, x = j ∧ j < n ∧ f j = true := by
  simp only [colsF, List.mem_map, List.mem_filter, List.mem_range]
  constructor
  · rintro ⟨j, ⟨h1, h2⟩, rfl⟩; exact ⟨j, rfl, h1, h2⟩
  · rintro ⟨j, rfl, h1, h2⟩; exact ⟨j, ⟨h1, h2⟩, rfl⟩
theorem colsF_succ (n : Nat) (f : Nat → Bool) : colsF (n + 1) f = colsF n f ++ (if f n then [(n : Int)] else []) := by
  simp only [colsF, List.range_succ, List.filter_append, List.map_append]
  cases h : f n <;> simp [h]
theorem colsF_up (n : Nat) (f : Nat → Bool) : Up (colsF n f) := by
  induction n with
  | zero => trivial
  | succ n ih =>
    rw [colsF_succ]
    refine up_join ih (by split <;> trivial) (fun x hx y hy => ?_)
    obtain ⟨j, rfl, hj, _⟩ := mem_colsF.1 hx
    split at hy
    · simp at hy; omega
    · cases hy
theorem colsF_len (n : Nat) (f : Nat → Bool) : (colsF n f).length ≤ n := by
  simp only [colsF, List.length_map]
  exact Nat.le_trans (List.length_filter_le _ _) (by simp)
theorem colsF_rise {n : Nat} (f : Nat → Bool) (h : n ≤ 16) : Rise (colsF n f) := ⟨colsF_up n f, fun x hx => by obtain ⟨j, rfl, hj, _⟩ := mem_colsF.1 hx; omega⟩
theorem colsF_congr {n : Nat} {f g : Nat → Bool} (h : ∀ j, j < n → f j = g j) : colsF n f = colsF n g := by
  unfold colsF
  congr 1
  exact List.filter_congr (fun j hj => h j (by simpa using hj))
theorem mask_cols (n : Nat) (f : Nat → Bool) (i : Nat) : (mask (colsF n f)).testBit i = (decide (i < n) && f i) := by
  rw [testBit_mask (fun x hx => by obtain ⟨j, rfl, _, _⟩ := mem_colsF.1 hx; omega)]
  rw [Bool.eq_iff_iff, decide_eq_true_eq, mem_colsF, Bool.and_eq_true, decide_eq_true_eq]
  constructor
  · rintro ⟨j, e, h1, h2⟩
    obtain rfl : i = j := by omega
    exact ⟨h1, h2⟩
  · rintro ⟨h1, h2⟩; exact ⟨i, rfl, h1, h2⟩
theorem mask_flip {n j : Nat} {f g : Nat → Bool} (hj : j < n) (h1 : g j = !f j) (h2 : ∀ i, i ≠ j → g i = f i) : mask (colsF n f) ^^^ 2 ^ j = mask (colsF n g) := by
  apply Nat.eq_of_testBit_eq
  intro i
  rw [Nat.testBit_xor, mask_cols, mask_cols, Nat.testBit_two_pow]
  by_cases e : j = i
  · subst e; simp [hj, h1]
  · rw [h2 i (fun h => e h.symm)]; simp [e]

/-- the columns whose sum is 1 behind k rows -/
def triRow (m : List (List Int)) (k : Nat) : List Int := colsF m.length fun j => decide (colR m j k = 1)
def triM (m : List (List Int)) : List (List Int) := (List.range m.length).map fun i => triRow m (i + 1)
theorem triM_len (m : List (List Int)) : (triM m).length = m.length := by simp [triM]
theorem gr_triM {m : List (List Int)} {i : Nat} (h : i < m.length) : gr (triM m) i = triRow m (i + 1) := by
  rw [gr_lt (by rw [triM_len]; exact h)]
  simp [triM]
theorem triM_small {m : List (List Int)} (h : m.length ≤ 6) : Small (triM m) := ⟨by rw [triM_len]; omega, fun i hi => by
  rw [triM_len] at hi
  rw [gr_triM hi]
  have := colsF_len m.length fun j => decide (colR m j (i + 1) = 1)
  unfold triRow
  omega⟩

/-- .. in the middle of row k -/
def triMid (m : List (List Int)) (k t : Nat) : Nat → Bool := fun j => decide (colR m j (if j < t then k + 1 else k) = 1)
theorem triMid_start (m : List (List Int)) (k : Nat) : colsF m.length (triMid m k 0) = triRow m k := colsF_congr fun j _ => by simp [triMid]
theorem triMid_end (m : List (List Int)) (k : Nat) : colsF m.length (triMid m k m.length) = triRow m (k + 1) := colsF_congr fun j hj => by simp [triMid, hj]
theorem triMid_same {m : List (List Int)} {k t : Nat} (h : gi (gr m k) t = 0) : colsF m.length (triMid m k (t + 1)) = colsF m.length (triMid m k t) := colsF_congr fun j _ => by
  unfold triMid
  by_cases e : j = t
  · subst e
    rw [if_pos (by omega), if_neg (by omega), colR, h, Int.add_zero]
  · have : (j < t + 1) = (j < t) := propext (by omega)
    simp only [this]
theorem triMid_flip {m : List (List Int)} (hg : good m) {k t : Nat} (hk : k < m.length) (ht : t < m.length) (h : gi (gr m k) t ≠ 0) : mask (colsF m.length (triMid m k t)) ^^^ 2 ^ t = mask (colsF m.length (triMid m k (t + 1))) := by
  refine mask_flip ht ?_ (fun i hi => ?_)
  · unfold triMid
    rw [if_pos (by omega), if_neg (by omega), colR]
    have h1 := colR_01 hg ht (show k ≤ m.length by omega)
    have h2 := colR_01 hg ht (show k + 1 ≤ m.length by omega)
    rw [colR] at h2
    by_cases e : colR m t k = 1
    · have : ¬ colR m t k + gi (gr m k) t = 1 := by omega
      simp [e, this]; omega
    · have : colR m t k + gi (gr m k) t = 1 := by omega
      simp [e, this]
  · unfold triMid
    have : (i < t + 1) = (i < t) := propext (by omega)
    simp only [this]

theorem xor_step (n t : Nat) (f : Nat → Bool) (hn : n ≤ 16) (ht : t ≤ 15) : bits .xor .u64 ((mask (colsF n f) : Nat) : Int) ((2 ^ t : Nat) : Int) = ((mask (colsF n f) ^^^ 2 ^ t : Nat) : Int) := by
  have := mask_lt16 (colsF_rise f hn)
  have h2 : 2 ^ t ≤ 2 ^ 15 := Nat.pow_le_pow_right (by omega) (by omega)
  rw [u64_xor_nat _ _ (by omega) (by omega)]

theorem OwnP.nil0 (w : World) (B : Nat) (m : List (List Int)) : OwnP w B (.slice none 0 0) 0 m 0 [] := ⟨World.ownsRow_nil _ _ _ _, fun i hi => absurd hi (by omega), fun i j _ hj => absurd hj (by omega)⟩
/-- the sums of the columns in the middle of row k -/
def sumMid (m : List (List Int)) (k t : Nat) : List Int := (List.range m.length).map fun j => colR m j (if j < t then k + 1 else k)
theorem sumMid_len (m : List (List Int)) (k t : Nat) : (sumMid m k t).length = m.length := by simp [sumMid]
theorem gi_sumMid {m : List (List Int)} {k t j : Nat} (hj : j < m.length) : gi (sumMid m k t) j = colR m j (if j < t then k + 1 else k) := gi_row hj
theorem sumMid_set {m : List (List Int)} {k t : Nat} (ht : t < m.length) : (sumMid m k t).set t (colR m t k + gi (gr m k) t) = sumMid m k (t + 1) := by
  refine ext_gi (by rw [List.length_set, sumMid_len, sumMid_len]) fun j hj => ?_
  rw [List.length_set, sumMid_len] at hj
  rw [gi_set (by rw [sumMid_len]; exact ht), gi_sumMid hj, gi_sumMid hj]
  by_cases e : j = t
  · subst e; rw [if_pos rfl, if_pos (by omega), colR]
  · rw [if_neg e]
    have : (j < t + 1) = (j < t) := propext (by omega)
    simp only [this]
theorem sumMid_next (m : List (List Int)) (k : Nat) : sumMid m k m.length = sumMid m (k + 1) 0 := by
  refine ext_gi (by rw [sumMid_len, sumMid_len]) fun j hj => ?_
  rw [sumMid_len] at hj
  rw [gi_sumMid hj, gi_sumMid hj, if_pos hj, if_neg (by omega)]
theorem sumMid_zero (m : List (List Int)) : sumMid m 0 0 = List.replicate m.length 0 := by
  refine ext_gi (by rw [sumMid_len, List.length_replicate]) fun j hj => ?_
  rw [sumMid_len] at hj
  rw [gi_sumMid hj, if_neg (by omega), gi_lt (by simpa using hj)]
  simp [colR]

/-- what stands apart from one block is kept where that block alone turns -/
theorem OwnP.kept {w w1 : World} {B n k g : Nat} {v : Value} {m : List (List Int)} {vs : List Value} (h : OwnP w B v n m k vs) (hg : w.grownBy w1 (some g)) (hB : g < B) : OwnP w1 B v n m k vs := by
  have ap : ∀ (e : TypeId) (u : Value) (n : Nat) (xs : List Value), w.ownsRow B e 1 u n xs → w1.ownsRow B e 1 u n xs := fun e u n xs hx => by
    refine World.ownsRow.kept hx hg ?_
    cases hb : u.ownBlock with
    | none => exact .inl rfl
    | some g' => exact .inr (fun e => by cases e; have := (World.ownsRow.lt hx g hb).1; omega)
  exact ⟨ap _ _ _ _ h.top, fun i hi => ap _ _ _ _ (h.rows i hi), h.apart⟩

end Go.Proofs.YtmonhmbnbhaemaaDoor

namespace Go.Proofs.YtmonhmbnbhaemaaDoor
open Go.RowKit Go.Maps

abbrev Pos := List Int × Int
abbrev Ent := Pos × Int
def ky (p : Pos) : Value := .agg #[.int .u64 (mask p.1 : Nat), .int .i64 p.2]
/-- a row and a small score -/
def vk (p : Pos) : Prop := Rise p.1 ∧ -1000 ≤ p.2 ∧ p.2 ≤ 1000

theorem ky_reads_gen {P : Program} {k : TypeId} {f0 f1 : Field} (hu : P.underlying k = some (.struct #[f0, f1])) (hk : P.keyType k = true) (hc : P.cellsOf k = 2) (hn0 : (f0.name != "_") = true) (hn1 : (f1.name != "_") = true)
    (ho0 : f0.offset = 0) (ho1 : f1.offset = 1) (c0 : P.cellsOf f0.type = 1) (c1 : P.cellsOf f1.type = 1) (u0 : P.underlying f0.type = some (.int .u64)) (u1 : P.underlying f1.type = some (.int .i64)) (hs : 0 < P.types.size)
    (a b : Int) (h1 : (Lit.int .u64 a).wf = true) (h2 : (Lit.int .i64 b).wf = true) : ∃ l, keyOf P k (.agg #[.int .u64 a, .int .i64 b]) = some l := by
  obtain ⟨n, hn⟩ : ∃ n, P.types.size = n + 1 := ⟨P.types.size - 1, by omega⟩
  have e2 : (Value.agg #[.int .u64 a, .int .i64 b]).formed P k = true := by simp [Value.formed, hu, hc]
  have k0 : P.keyLits (n + 1) f0.type [.int .u64 a] = some [.int .u64 a] := by simp [Program.keyLits, u0, h1]
  have k1 : P.keyLits (n + 1) f1.type [.int .i64 b] = some [.int .i64 b] := by simp [Program.keyLits, u1, h2]
  have kk : P.keyLits (n + 1 + 1) k [.int .u64 a, .int .i64 b] = some [.int .u64 a, .int .i64 b] := by
    have hall : (#[f0, f1] : Array Field).all (fun f => f.name != "_") = true := by simp [Array.all_eq_true]; exact ⟨by simpa using hn0, by simpa using hn1⟩
    have hm : (#[f0, f1] : Array Field).toList = [f0, f1] := rfl
    simp only [Program.keyLits, hu, hc, hall, hm, List.length_cons, List.length_nil, and_self, if_true, List.mapM_cons, List.mapM_nil, ho0, ho1, c0, c1, List.drop, List.take, u0, u1, h1, h2]
    rfl
  refine ⟨.string (keyBytes [.int .u64 a, .int .i64 b]), ?_⟩
  unfold keyOf
  rw [hu, hn]
  simp only [hk, e2, Bool.and_self, if_true]
  show Option.map _ (P.keyLits (n + 1 + 1) k [.int .u64 a, .int .i64 b]) = _
  rw [kk]
  rfl

section
variable {P : Program} {k e : TypeId}

/-- the program's key type, as the laws on maps want it -/
structure StKey (P : Program) (k e : TypeId) : Prop where
  K : Keyed P k
  reads : ∀ a b : Int, (Lit.int .u64 a).wf = true → (Lit.int .i64 b).wf = true → ∃ l, keyOf P k (.agg #[.int .u64 a, .int .i64 b]) = some l
  elem : P.underlying e = some (.int .i64)

noncomputable def kl (P : Program) (k : TypeId) (p : Pos) : Lit := (keyOf P k (ky p)).getD (.bool true)
theorem kl_is (S : StKey P k e) {p : Pos} (h : vk p) : keyOf P k (ky p) = some (kl P k p) := by
  have := mask_lt16 h.1
  obtain ⟨l, hl⟩ := S.reads (mask p.1 : Nat) p.2 (by simp [Lit.wf, IntKind.min, IntKind.max, IntKind.bits, IntKind.signed]; omega) (by have := h.2; simp [Lit.wf, IntKind.min, IntKind.max, IntKind.bits, IntKind.signed]; omega)
  show keyOf P k (.agg #[.int .u64 (mask p.1 : Nat), .int .i64 p.2]) = _
  unfold kl ky
  rw [hl]
  rfl
theorem ky_inj {p q : Pos} (hp : vk p) (hq : vk q) (h : ky p = ky q) : p = q := by
  unfold ky at h
  have h0 : ((mask p.1 : Nat) : Int) = (mask q.1 : Nat) ∧ p.2 = q.2 := by simpa using h
  have h1 : mask p.1 = mask q.1 ∧ p.2 = q.2 := ⟨by omega, h0.2⟩
  clear h h0
  obtain ⟨p1, p2⟩ := p
  obtain ⟨q1, q2⟩ := q
  simp only at h1 hp hq
  obtain ⟨h1, rfl⟩ := h1
  have e : p1 = q1 := mask_inj hp.1.1 (fun x hx => (hp.1.2 x hx).1) hq.1.1 (fun x hx => (hq.1.2 x hx).1) h1
  rw [e]
theorem kl_inj (S : StKey P k e) {p q : Pos} (hp : vk p) (hq : vk q) (h : kl P k p = kl P k q) : p = q := by
  refine ky_inj hp hq (S.K.inj (kl_is S hp) ?_)
  rw [h]
  exact kl_is S hq
theorem kl_key (S : StKey P k e) {p : Pos} (hp : vk p) : WideAt.IsKeyLit (kl P k p) := S.K.key (kl_is S hp)

noncomputable def encE (P : Program) (k : TypeId) (x : Ent) : Lit × DataW Nat := (kl P k x.1, .lit (.int .i64 x.2))
def getC (L : List Ent) (p : Pos) : Int := ((L.find? fun x => x.1 == p).map (·.2)).getD 0
def strike (L : List Ent) (p : Pos) : List Ent := L.filter fun x => !(x.1 == p)

/-- the datum lists just these entries -/
structure MapD (P : Program) (k : TypeId) (D : DataW Nat) (L : List Ent) : Prop where
  es : ∃ es, D = .map es ∧ es.Perm (L.map (encE P k))
  ok : ∀ x ∈ L, vk x.1
  nd : (L.map (·.1)).Nodup

theorem MapD.empty : MapD P k (.map []) [] := ⟨⟨[], rfl, List.Perm.refl _⟩, (fun x hx => by cases hx), List.nodup_nil⟩
theorem MapD.isMap {D : DataW Nat} {L : List Ent} (h : MapD P k D L) : Maps.IsMap D := by obtain ⟨es, e, _⟩ := h.es; exact ⟨es, e⟩
theorem MapD.size {D : DataW Nat} {L : List Ent} (h : MapD P k D L) : Maps.size D = L.length := by
  obtain ⟨es, rfl, hp⟩ := h.es
  rw [Maps.size_eq, hp.length_eq, List.length_map]

theorem sameKey_kl (S : StKey P k e) {p q : Pos} (hp : vk p) (hq : vk q) : (kl P k q).sameKey (kl P k p) = (q == p) := by
  by_cases h : q = p
  · subst h; rw [WideAt.sameKey_self (kl_key S hp)]; simp
  · rw [Maps.sameKey_ne (fun e => h (kl_inj S hq hp e))]; simp [h]

theorem nodup_fst {L : List Ent} (h : (L.map (·.1)).Nodup) {x y : Ent} (hx : x ∈ L) (hy : y ∈ L) (e : x.1 = y.1) : x = y := by
  induction L with
  | nil => cases hx
  | cons a r ih =>
    simp only [List.map_cons, List.nodup_cons] at h
    rcases List.mem_cons.1 hx with h1 | h1
    · rcases List.mem_cons.1 hy with h2 | h2
      · rw [h1, h2]
      · exact absurd (List.mem_map.2 ⟨y, h2, by rw [← e, h1]⟩) h.1
    · rcases List.mem_cons.1 hy with h2 | h2
      · exact absurd (List.mem_map.2 ⟨x, h1, by rw [e, h2]⟩) h.1
      · exact ih h.2 h1 h2

theorem getC_of_mem {L : List Ent} (h : (L.map (·.1)).Nodup) {x : Ent} (hx : x ∈ L) : getC L x.1 = x.2 := by
  unfold getC
  cases hf : L.find? (fun y => y.1 == x.1) with
  | none => have := List.find?_eq_none.1 hf x hx; simp at this
  | some y =>
    have h1 := List.mem_of_find?_eq_some hf
    have h2 := List.find?_some hf
    have : y = x := nodup_fst h h1 hx (by simpa using h2)
    rw [this]; rfl
theorem getC_not {L : List Ent} {p : Pos} (h : ∀ x ∈ L, x.1 ≠ p) : getC L p = 0 := by
  unfold getC
  rw [List.find?_eq_none.2 (fun x hx => by simpa using h x hx)]
  rfl

theorem MapD.atKey (S : StKey P k e) {D : DataW Nat} {L : List Ent} (h : MapD P k D L) {p : Pos} (hp : vk p) : D.atKey (kl P k p) (.lit (.int .i64 0)) = .lit (.int .i64 (getC L p)) := by
  obtain ⟨es, rfl, hperm⟩ := h.es
  simp only [DataW.atKey]
  by_cases hm : ∃ x ∈ L, x.1 = p
  · obtain ⟨x, hx, rfl⟩ := hm
    rw [getC_of_mem h.nd hx]
    cases hf : es.find? (fun q => q.1.sameKey (kl P k x.1)) with
    | none =>
      have := List.find?_eq_none.1 hf (encE P k x) (hperm.mem_iff.2 (List.mem_map.2 ⟨x, hx, rfl⟩))
      simp only [encE, sameKey_kl S hp hp] at this
      simp at this
    | some q =>
      have h1 := hperm.mem_iff.1 (List.mem_of_find?_eq_some hf)
      have h2 := List.find?_some hf
      obtain ⟨y, hy, rfl⟩ := List.mem_map.1 h1
      simp only [encE, sameKey_kl S hp (h.ok y hy)] at h2
      have : y = x := nodup_fst h.nd hy hx (by simpa using h2)
      rw [this]; rfl
  · rw [getC_not (fun x hx e => hm ⟨x, hx, e⟩)]
    rw [List.find?_eq_none.2 (fun q hq => by
      obtain ⟨y, hy, rfl⟩ := List.mem_map.1 (hperm.mem_iff.1 hq)
      simp only [encE, sameKey_kl S hp (h.ok y hy)]
      simpa using fun e => hm ⟨y, hy, e⟩)]

theorem MapD.has (S : StKey P k e) {D : DataW Nat} {L : List Ent} (h : MapD P k D L) {p : Pos} (hp : vk p) : Maps.has D (kl P k p) = L.any fun x => x.1 == p := by
  obtain ⟨es, rfl, hperm⟩ := h.es
  rw [Maps.has_eq, Bool.eq_iff_iff, List.any_eq_true, List.any_eq_true]
  constructor
  · rintro ⟨q, hq, h2⟩
    obtain ⟨y, hy, rfl⟩ := List.mem_map.1 (hperm.mem_iff.1 hq)
    simp only [encE, sameKey_kl S hp (h.ok y hy)] at h2
    exact ⟨y, hy, h2⟩
  · rintro ⟨y, hy, h2⟩
    refine ⟨encE P k y, hperm.mem_iff.2 (List.mem_map.2 ⟨y, hy, rfl⟩), ?_⟩
    simp only [encE, sameKey_kl S hp (h.ok y hy)]
    exact h2

theorem MapD.key_of {D : DataW Nat} {L : List Ent} (h : MapD P k D L) {l : Lit} (hh : Maps.has D l = true) : ∃ x ∈ L, kl P k x.1 = l := by
  obtain ⟨es, rfl, hperm⟩ := h.es
  rw [Maps.has_eq, List.any_eq_true] at hh
  obtain ⟨q, hq, h2⟩ := hh
  obtain ⟨y, hy, rfl⟩ := List.mem_map.1 (hperm.mem_iff.1 hq)
  exact ⟨y, hy, WideAt.sameKey_eq h2⟩

theorem strike_perm (S : StKey P k e) {L : List Ent} (hok : ∀ x ∈ L, vk x.1) {p : Pos} (hp : vk p) {es : List (Lit × DataW Nat)} (h : es.Perm (L.map (encE P k))) : (es.filter fun q => !q.1.sameKey (kl P k p)).Perm ((strike L p).map (encE P k)) := by
  refine (h.filter _).trans ?_
  rw [List.filter_map]
  unfold strike
  rw [List.filter_congr (q := fun x => !(x.1 == p)) (fun x hx => by simp only [Function.comp, encE, sameKey_kl S hp (hok x hx)])]

theorem MapD.del (S : StKey P k e) {D : DataW Nat} {L : List Ent} (h : MapD P k D L) {p : Pos} (hp : vk p) : MapD P k (D.del (kl P k p)) (strike L p) := by
  obtain ⟨es, rfl, hperm⟩ := h.es
  refine ⟨⟨_, rfl, strike_perm S h.ok hp hperm⟩, fun x hx => h.ok x ((List.mem_filter.1 hx).1), ?_⟩
  exact (List.filter_sublist.map _).nodup h.nd

theorem MapD.put (S : StKey P k e) {D : DataW Nat} {L : List Ent} (h : MapD P k D L) {p : Pos} (hp : vk p) (c : Int) : MapD P k (D.put (kl P k p) (.lit (.int .i64 c))) ((p, c) :: strike L p) := by
  obtain ⟨es, rfl, hperm⟩ := h.es
  refine ⟨⟨_, rfl, ?_⟩, fun x hx => ?_, ?_⟩
  · refine (WideShapes.insert_perm _ _).trans ?_
    exact (strike_perm S h.ok hp hperm).cons (encE P k (p, c))
  · rcases List.mem_cons.1 hx with rfl | hx
    · exact hp
    · exact h.ok x ((List.mem_filter.1 hx).1)
  · simp only [List.map_cons, List.nodup_cons]
    refine ⟨fun hm => ?_, (List.filter_sublist.map _).nodup h.nd⟩
    obtain ⟨x, hx, e⟩ := List.mem_map.1 hm
    have := (List.mem_filter.1 hx).2
    simp [e] at this

/-- the sum of all counts, each weighed -/
def potL (L : List Ent) (φ : Pos → Int) : Int := sumL L fun x => x.2 * φ x.1
theorem potL_strike {L : List Ent} (h : (L.map (·.1)).Nodup) (p : Pos) (φ : Pos → Int) : potL L φ = getC L p * φ p + potL (strike L p) φ := by
  unfold potL
  induction L with
  | nil => simp [strike, sumL, getC]
  | cons a r ih =>
    simp only [List.map_cons, List.nodup_cons] at h
    by_cases e : a.1 = p
    · have h0 : getC (a :: r) p = a.2 := by rw [← e]; exact getC_of_mem (by simp only [List.map_cons, List.nodup_cons]; exact h) (by simp)
      have h1 : strike (a :: r) p = r := by
        unfold strike
        rw [List.filter_cons, if_neg (by simp [e])]
        exact List.filter_eq_self.2 (fun x hx => by
          have : x.1 ≠ p := fun e2 => h.1 (List.mem_map.2 ⟨x, hx, e2.trans e.symm⟩)
          simpa using this)
      rw [h0, h1, sumL_cons, e]
    · have h0 : getC (a :: r) p = getC r p := by unfold getC; rw [List.find?_cons_of_neg (by simpa using e)]
      have h1 : strike (a :: r) p = a :: strike r p := by unfold strike; rw [List.filter_cons, if_pos (by simpa using e)]
      rw [h0, h1, sumL_cons, sumL_cons, ih h.2]
      omega

theorem nodup_len_aux {ks R : List Pos} (nd : ks.Nodup) (h : ∀ x ∈ ks, x ∈ R) : ks.length ≤ R.length := by
  induction ks generalizing R with
  | nil => simp
  | cons a r ih =>
    obtain ⟨h1, h2⟩ := List.nodup_cons.1 nd
    have ha := h a (by simp)
    have := ih (R := R.erase a) h2 (fun x hx => by
      have hne : x ≠ a := fun e => h1 (e ▸ hx)
      exact (List.mem_erase_of_ne hne).2 (h x (by simp [hx])))
    have hl := List.length_erase_of_mem ha
    have hpos : 0 < R.length := List.length_pos_of_mem ha
    simp
    omega
theorem nodup_len {L : List Ent} {R : List Pos} (nd : (L.map (·.1)).Nodup) (h : ∀ x ∈ L, x.1 ∈ R) : L.length ≤ R.length := by
  have := nodup_len_aux nd (R := R) (fun x hx => by obtain ⟨y, hy, rfl⟩ := List.mem_map.1 hx; exact h y hy)
  simpa using this

/-- one step up from each of several places -/
def stepR (sc : List Int → List Int → Int) (R : List Pos) : List Pos := R.flatMap fun p => (above p.1).map fun ys => (ys, p.2 + sc p.1 ys)
/-- what one place passes on to those above it -/
def psi (sc : List Int → List Int → Int) (φ : Pos → Int) (p : Pos) : Int := sumL (above p.1) fun ys => φ (ys, p.2 + sc p.1 ys)
theorem mem_stepR {sc : List Int → List Int → Int} {R : List Pos} {p : Pos} {ys : List Int} (hp : p ∈ R) (hy : ys ∈ above p.1) : (ys, p.2 + sc p.1 ys) ∈ stepR sc R :=
  List.mem_flatMap.2 ⟨p, hp, List.mem_map.2 ⟨ys, hy, rfl⟩⟩

/-- equal modulo 2^64 -/
def Cg (a b : Int) : Prop := ∃ t : Int, a = b + 18446744073709551616 * t
theorem Cg.refl (a : Int) : Cg a a := ⟨0, by omega⟩
theorem Cg.symm {a b : Int} (h : Cg a b) : Cg b a := by obtain ⟨t, h⟩ := h; exact ⟨-t, by omega⟩
theorem Cg.trans {a b c : Int} (h : Cg a b) (h2 : Cg b c) : Cg a c := by obtain ⟨t, h⟩ := h; obtain ⟨u, h2⟩ := h2; exact ⟨t + u, by omega⟩
theorem Cg.add {a b c d : Int} (h : Cg a b) (h2 : Cg c d) : Cg (a + c) (b + d) := by obtain ⟨t, h⟩ := h; obtain ⟨u, h2⟩ := h2; exact ⟨t + u, by omega⟩
theorem Cg.mul {a b : Int} (h : Cg a b) (c : Int) : Cg (a * c) (b * c) := by
  obtain ⟨t, h⟩ := h
  exact ⟨t * c, by rw [h, Int.add_mul, Int.mul_assoc]⟩
theorem wrap_cg (a : Int) : Cg (wrap64 a) a := by unfold wrap64; exact ⟨-((a + 9223372036854775808) / 18446744073709551616), by omega⟩
theorem Cg.wrap {a b : Int} (h : Cg a b) : wrap64 a = wrap64 b := by obtain ⟨t, h⟩ := h; unfold wrap64; omega

/-- 'm[p] += c' -/
theorem potL_put {L : List Ent} (h : (L.map (·.1)).Nodup) (p : Pos) (c : Int) (φ : Pos → Int) : Cg (potL ((p, wrap64 (getC L p + c)) :: strike L p) φ) (potL L φ + c * φ p) := by
  rw [potL_strike h p φ]
  unfold potL
  rw [sumL_cons]
  have h1 := (wrap_cg (getC L p + c)).mul (φ p)
  rw [Int.add_mul] at h1
  obtain ⟨t, ht⟩ := h1
  exact ⟨t, by simp only; omega⟩

open Go.WideElems Go.ChangeMaps in
/-- block b is a map with just these entries -/
def MapW (P : Program) (k e : TypeId) (w : World) (b : Nat) (L : List Ent) : Prop := ∃ D, w.ownsMap P k (plainElem P e) b L.length D ∧ MapD P k D L

theorem ownsMap_size {w : World} {b n : Nat} {D : DataW Nat} {R : Value → Option (DataW Nat × List MemPlace)} (h : w.ownsMap P k R b n D) {n' : Nat} (hn : Maps.size D ≤ n') : w.ownsMap P k R b n' D := by
  obtain ⟨es, clock, hb, F, hs, rfl⟩ := h
  refine ⟨es, clock, hb, F, ?_, rfl⟩
  rw [Maps.size_eq, length_sorted, List.length_map] at hn
  simpa using hn

theorem MapW.of {w : World} {b n : Nat} {D : DataW Nat} {L : List Ent} (h : w.ownsMap P k (plainElem P e) b n D) (hd : MapD P k D L) : MapW P k e w b L := ⟨D, ownsMap_size h (by rw [hd.size]; exact Nat.le_refl _), hd⟩
theorem MapW.kept {w w' : World} {b : Nat} {L : List Ent} {row : Option Nat} (h : MapW P k e w b L) (hg : w.grownBy w' row) (hne : some b ≠ row) : MapW P k e w' b L := by
  obtain ⟨D, h1, h2⟩ := h
  exact ⟨D, h1.kept hg hne, h2⟩
theorem MapW.lt {w : World} {b : Nat} {L : List Ent} (h : MapW P k e w b L) : b < w.heap.size := by
  obtain ⟨D, h1, _⟩ := h
  exact h1.lt
theorem MapW.below {w w' : World} {b B : Nat} {L : List Ent} (h : MapW P k e w b L) (hb : Below B w w') (hB : b < B) : MapW P k e w' b L := by
  obtain ⟨D, ⟨es, clock, h1, h2⟩, hd⟩ := h
  exact ⟨D, ⟨es, clock, by rw [hb.block b hB]; exact h1, h2⟩, hd⟩

theorem setBlock_twice (w : World) (b : Nat) (o1 o2 : Obj) : ChangeMaps.setBlock (ChangeMaps.setBlock w b o1) b o2 = ChangeMaps.setBlock w b o2 := by
  unfold ChangeMaps.setBlock
  simp

theorem setBlock_self {w : World} {b : Nat} {o : Obj} (h : w.heap[b]? = some o) : ChangeMaps.setBlock w b o = w := by
  obtain ⟨hl, rfl⟩ := Array.getElem?_eq_some_iff.1 h
  have e : w.heap.setIfInBounds b w.heap[b] = w.heap := by
    apply Array.ext
    · simp
    · intro i h1 h2
      rw [Array.getElem_setIfInBounds h2]
      split
      · next e => subst e; rfl
      · rfl
  unfold ChangeMaps.setBlock
  rw [e]

open Go.WideElems in
/-- the entry's world: as if the zero value had been stored, or as it was -/
theorem entry_world {R : Value → Option (DataW Nat × List MemPlace)} {w : World} {t : TypeId} {b : Nat} {es : Array MapEntry} {clock : Nat} (K : WideMaps.KeyLaw P k) (ht : P.underlying t = some (.map k e)) {z : Value} (hz : ∀ u : World, (zeroValue e).run P u = .ok z u) (hb : w.heap[b]? = some (.map es clock)) (F : Fit P k R es clock)
    {key : Value} {kl : Lit} (hkey : keyOf P k key = some kl) :
    (∃ v w3, (Instr.mapEntry t (.map (some b)) key).run P w = .ok v w3 ∧ (Instr.mapUpdate t (.map (some b)) key z).run P w = .ok () w3 ∧ ∀ x ∈ es.toList, x.key ≠ key) ∨ (∃ v, (Instr.mapEntry t (.map (some b)) key).run P w = .ok v w) := by
  rcases K.find w hkey es.toList F.keys with ⟨h1, h2⟩ | ⟨j, e0, h1, h2, h3⟩
  · refine .inl ⟨.tuple #[z, goInt clock], ChangeMaps.setBlock w b (.map (es.push ⟨key, z, clock⟩) (clock + 1)), ?_, ?_, h2⟩
    · simp [Instr.mapEntry, run_underlying ht, MapKept.run_getObj_map hb, K.check w false hkey, h1, hz, MapKept.run_setObj_map _ hb, Result.andThen, ChangeMaps.setBlock]
    · simp [Instr.mapUpdate, run_underlying ht, MapKept.run_getObj_map hb, K.check w false hkey, h1, MapKept.run_setObj_map _ hb, Result.andThen, ChangeMaps.setBlock]
  · have hj : es[j]? = some e0 := by simpa using h2
    have hsame : es.modify j (fun e => { e with key := key }) = es := by
      apply Array.ext'
      rw [Array.toList_modify, ChangeMaps.modify_eq_set _ _ _ _ h2]
      have : ({ e0 with key := key } : MapEntry) = e0 := by rw [← h3]
      rw [this]
      exact set_self _ _ _ h2
    refine .inr ⟨.tuple #[e0.val, goInt e0.born], ?_⟩
    have := setBlock_self hb
    unfold ChangeMaps.setBlock at this
    simp [Instr.mapEntry, run_underlying ht, MapKept.run_getObj_map hb, K.check w false hkey, h1, hj, h3, K.stays w hkey, hsame, MapKept.run_setObj_map _ hb, Result.andThen, this]

/-- what 'm[p] += c' runs through, in whatever order its look and its entry come -/
theorem MapW.add (S : StKey P k e) (K : WideMaps.KeyLaw P k) {t : TypeId} (ht : P.underlying t = some (.map k e)) (hz : ∀ u : World, (zeroValue e).run P u = .ok (.int .i64 0) u) {w : World} {b : Nat} {L : List Ent} (h : MapW P k e w b L) (hl : L.length < 9223372036854775807) {p : Pos} (hp : vk p) (c : Int) :
    ∃ (v0 : Value) (st : Int) (w3 w4 : World), (Instr.lookup t (.map (some b)) (ky p) false).run P w = .ok (.int .i64 (getC L p)) w ∧ (Instr.mapEntry t (.map (some b)) (ky p)).run P w = .ok (.tuple #[v0, .int .i64 st]) w3 ∧ (Instr.lookup t (.map (some b)) (ky p) false).run P w3 = .ok (.int .i64 (getC L p)) w3 ∧
      (Instr.entryStore t (.map (some b)) (.int .i64 st) (.int .i64 (wrap64 (getC L p + c)))).run P w3 = .ok () w4 ∧ MapW P k e w4 b ((p, wrap64 (getC L p + c)) :: strike L p) ∧ w.grownBy w4 (some b) ∧ w4.heap.size = w.heap.size := by
  obtain ⟨D, hown, hd⟩ := h
  have hkey := kl_is S hp
  obtain ⟨x, hrun, hat, _⟩ := hown.lookup_int S.K ht S.elem (hz w) hkey
  have hx : x = getC L p := by
    have := hat.symm.trans (hd.atKey S hp)
    simpa using this
  subst hx
  obtain ⟨es, clock, hb, F, hs, hD⟩ := hown
  obtain ⟨v0, st, es1, clock1, h1, _, h3⟩ := WideElems.entry_then_store K ht hz hb F hkey
  obtain ⟨es', clock', h4, h5⟩ := h3 (ChangeMaps.setBlock w b (.map es1 clock1)) (.int .i64 (wrap64 (getC L p + c))) (ChangeMaps.heap_setBlock_same hb _)
  obtain ⟨w', h6, h7, h8⟩ := World.ownsMap.update (R := plainElem P e) (val := .int .i64 (wrap64 (getC L p + c))) (d := .lit (.int .i64 (wrap64 (getC L p + c)))) (ps := []) ⟨es, clock, hb, F, hs, hD⟩ S.K ht hl hkey (plainElem_int S.elem (wrap64_wf _))
  rw [setBlock_twice] at h4
  have ew : w' = ChangeMaps.setBlock w b (.map es' clock') := by
    have := h6.symm.trans h5
    simpa using this
  have hl3 : (Instr.lookup t (.map (some b)) (ky p) false).run P (ChangeMaps.setBlock w b (.map es1 clock1)) = .ok (.int .i64 (getC L p)) (ChangeMaps.setBlock w b (.map es1 clock1)) := by
    rcases entry_world K ht hz hb F hkey with ⟨v, w3, g1, g2, g3⟩ | ⟨v, g1⟩
    · have e3 : w3 = ChangeMaps.setBlock w b (.map es1 clock1) := by
        have := g1.symm.trans h1
        simp at this
        exact this.2
      rw [← e3]
      obtain ⟨w'', k6, k7, _⟩ := World.ownsMap.update (R := plainElem P e) (val := .int .i64 0) (d := .lit (.int .i64 0)) (ps := []) ⟨es, clock, hb, F, hs, hD⟩ S.K ht hl hkey (plainElem_int S.elem (by decide))
      have e4 : w'' = w3 := by
        have := k6.symm.trans g2
        simpa using this
      rw [e4] at k7
      obtain ⟨x, hrun3, hat3, _⟩ := k7.lookup_int S.K ht S.elem (hz w3) hkey
      rw [Maps.atKey_put_same hd.isMap (kl_key S hp)] at hat3
      have h0 : getC L p = 0 := by
        refine getC_not (fun x hx e => ?_)
        have hh : Maps.has D (kl P k p) = true := by rw [hd.has S hp, List.any_eq_true]; exact ⟨x, hx, by simp [e]⟩
        rw [hD, Maps.has_eq, List.any_eq_true] at hh
        obtain ⟨q, hq, hqk⟩ := hh
        obtain ⟨y, hy, rfl⟩ := List.mem_map.1 (mem_sorted.1 hq)
        obtain ⟨z, hz⟩ := F.reads y hy
        have m1 := WideElems.rd_key hz
        rw [WideElems.rg_of hz] at hqk
        have := WideAt.sameKey_eq hqk
        rw [this] at m1
        exact g3 y hy (S.K.inj m1 hkey)
      have hx0 : x = 0 := by simpa using hat3.symm
      rw [h0, ← hx0]
      exact hrun3
    · have e3 : w = ChangeMaps.setBlock w b (.map es1 clock1) := by
        have := g1.symm.trans h1
        simp at this
        exact this.2
      rw [← e3]
      exact hrun
  refine ⟨v0, st, _, _, hrun, h1, hl3, h4, ?_, ?_, ?_⟩
  · rw [← ew]
    exact MapW.of h7 (hd.put S hp _)
  · rw [← ew]; exact h8
  · simp [ChangeMaps.setBlock]
end
end Go.Proofs.YtmonhmbnbhaemaaDoor

namespace Go.Proofs.YtmonhmbnbhaemaaDoor
open Go.RowKit Go.Maps
open Go.WideMaps (KeyLaw)

theorem Tryd.laidOut' : laidOutB Tryd.prog = true := by kernel_rfl
theorem types_pos : 0 < Tryd.prog.types.size := of_decide_eq_true (by kernel_rfl)
theorem zero_int (w : World) : (zeroValue 3).run Tryd.prog w = .ok (.int .i64 0) w := by kernel_rfl
end Go.Proofs.YtmonhmbnbhaemaaDoor

