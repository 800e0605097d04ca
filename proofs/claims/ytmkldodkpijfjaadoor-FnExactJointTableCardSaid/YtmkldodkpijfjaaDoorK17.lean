/- Parts of proofs: contracts and plain facts. Conditions: as each says. -/
import Derived.Test.YtmkldodkpijfjaaDoorK16
import Derived.Maps.AppendAt
import Derived.Lib.SliceRun
namespace Go.Proofs.YtmkldodkpijfjaaDoor
open Go.RowKit

/-- tables whose slices of rows lie in different blocks -/
def Tops (vs : List Value) : Prop := ∀ i j, i < j → j < vs.length → ∀ g, (vs.getD i undef).ownBlock = some g → (vs.getD j undef).ownBlock ≠ some g
/-- what grows leaves a table of another block as it was -/
theorem OwnR.keptTop {w w1 : World} {B B' n' : Nat} {x v : Value} {m : List (List Int)} {vs ys : List Value} (h : OwnR w B x m vs) (k : w.ownsRow B' 22 1 v n' ys) (hne : ∀ g, v.ownBlock = some g → x.ownBlock ≠ some g) (hg : w.grownBy w1 v.ownBlock) : OwnR w1 B x m vs :=
  ⟨World.ownsRow.kept h.top hg (by
    cases hb : x.ownBlock with
    | none => exact .inl rfl
    | some g => exact .inr (fun e => hne g e.symm hb)), fun i hi => row_kept (h.rows i hi) k (by decide) hg⟩
theorem OwnR.lt {w : World} {B : Nat} {v : Value} {m : List (List Int)} {vs : List Value} (h : OwnR w B v m vs) : ∀ g, v.ownBlock = some g → B ≤ g ∧ g < w.heap.size := World.ownsRow.lt h.top

/-- the list so far, and the list whose tables are being lengthened, from the t-th on -/
structure TrI (w : World) (B Bi : Nat) (out inn : Value) (n : Nat) (P T : List (List (List Int))) (vs us : List Value) (t : Nat) : Prop where
  own : OwnRL w B out P vs
  ap : Tops vs
  inner : w.ownsRow Bi 28 1 inn n us
  rest : ∀ j, t ≤ j → j < n → ∃ zs, OwnR w Bi (us.getD j undef) (gt T j) zs
  sep : ∀ a, a < vs.length → ∀ j, t ≤ j → j < n → ∀ g, (us.getD j undef).ownBlock = some g → (vs.getD a undef).ownBlock ≠ some g
  dis : ∀ g, out.ownBlock = some g → inn.ownBlock ≠ some g

theorem TrI.below {w w' : World} {B Bi : Nat} {out inn : Value} {n : Nat} {P T : List (List (List Int))} {vs us : List Value} {t : Nat} (h : TrI w B Bi out inn n P T vs us t) (hb : Below w.heap.size w w') : TrI w' B Bi out inn n P T vs us t :=
  ⟨h.own.below hb, h.ap, ownsRow_below h.inner hb, fun j h1 h2 => ⟨_, (h.rest j h1 h2).choose_spec.below hb⟩, h.sep, h.dis⟩
theorem TrI.grow {w w1 : World} {B Bi : Nat} {out inn : Value} {n : Nat} {P T : List (List (List Int))} {vs us : List Value} {t : Nat} {zs : List Value} (h : TrI w B Bi out inn n P T vs us t) (ht : t < n) (hz : OwnR w Bi (us.getD t undef) (gt T t) zs)
    (hua : ∀ j, t < j → j < n → ∀ g, (us.getD t undef).ownBlock = some g → (us.getD j undef).ownBlock ≠ some g) (hg : w.grownBy w1 (us.getD t undef).ownBlock) : TrI w1 B Bi out inn n P T vs us (t + 1) :=
  ⟨⟨row_kept h.own.top hz.top (by decide) hg, fun i hi => ⟨_, (h.own.each i hi).choose_spec.keptTop hz.top (fun g hg2 => h.sep i (by rw [h.own.len]; exact hi) t (Nat.le_refl _) ht g hg2) hg⟩⟩, h.ap,
    row_kept h.inner hz.top (by decide) hg, fun j h1 h2 => ⟨_, (h.rest j (by omega) h2).choose_spec.keptTop hz.top (fun g hg2 => hua j (by omega) h2 g hg2) hg⟩, fun a ha j h1 h2 => h.sep a ha j (by omega) h2, h.dis⟩
theorem TrI.push {w w1 : World} {B Bi : Nat} {out inn out' v : Value} {n : Nat} {P T : List (List (List Int))} {vs us zs : List Value} {t : Nat} {M : List (List Int)} (h : TrI w B Bi out inn n P T vs us t) (hv : OwnR w B v M zs)
    (hs : ∀ j, t ≤ j → j < n → ∀ g, (us.getD j undef).ownBlock = some g → v.ownBlock ≠ some g) (hap : ∀ a, a < vs.length → ∀ g, (vs.getD a undef).ownBlock = some g → v.ownBlock ≠ some g)
    (h1 : w1.ownsRow B 28 1 out' (P.length + 1) (vs ++ [v])) (hg : w.grownBy w1 out.ownBlock) (hat : out'.ownBlock = out.ownBlock ∨ out'.ownBlock = some w.heap.size) : TrI w1 B Bi out' inn n (P ++ [M]) T (vs ++ [v]) us t := by
  have hl := h.own.len
  refine ⟨h.own.join (ks := [M]) rfl (fun i hi => by obtain rfl : i = 0 := by simpa using hi
                                                     exact ⟨zs, hv⟩) h1 hg, fun i j hij hj g hi => ?_, ?_, fun j h2 h3 => ?_, fun a ha j h2 h3 g hgj => ?_, fun g hgo => ?_⟩
  · rw [List.length_append, List.length_singleton] at hj
    rw [getD_left (by omega)] at hi
    by_cases e : j < vs.length
    · rw [getD_left e]; exact h.ap i j hij e g hi
    · rw [getD_right (by omega), show j - vs.length = 0 by omega]
      exact hap i (by omega) g hi
  · refine World.ownsRow.kept h.inner hg ?_
    cases hb : inn.ownBlock with
    | none => exact .inl rfl
    | some g => exact .inr (fun e => h.dis g e.symm hb)
  · obtain ⟨ys, hy⟩ := h.rest j h2 h3
    exact ⟨ys, hy.kept h.own.top (by decide) (by decide) hg⟩
  · rw [List.length_append, List.length_singleton] at ha
    by_cases e : a < vs.length
    · rw [getD_left e]; exact h.sep a e j h2 h3 g hgj
    · rw [getD_right (by omega), show a - vs.length = 0 by omega]
      exact hs j h2 h3 g hgj
  · rcases hat with e | e
    · exact h.dis g (by rw [← e]; exact hgo)
    · rw [e] at hgo
      cases hgo
      intro hi
      have := (World.ownsRow.lt h.inner _ hi).2
      omega

set_option maxRecDepth 100000 in
set_option maxHeartbeats 6400000 in
theorem triangles_any : ∀ (d : Nat) (xs : List Int) (w : World), d < 5 → Rise xs → xs.length = d + 1 → Dj w →
    Calls Tryd.prog 80 #[.int .u64 (mask xs : Nat)] w fun e w' => ∃ v vs, e = .returned v ∧ OwnRL w' w.heap.size v (trisD d xs) vs ∧ Tops vs ∧ Below w.heap.size w w' := by
  intro d
  induction d with
  | zero =>
    intro xs w hd hr hl hD
    have hs := size_any hr (by omega) w
    have hrow := row_any hr (by omega) w hD
    have he : ((xs.length : Int) == 1) = true := by simp; omega
    obtain ⟨m, hm⟩ : ∃ m : Int, m = (mask xs : Nat) := ⟨_, rfl⟩
    rw [← hm] at hs hrow ⊢
    have Hs := Lib.hid hs
    have Hrow := Lib.hid hrow
    clear hs hrow hD hm hr hl
    go_enter Tryd.func80, Tryd.ntmps80
    go_wp2_with fail
    refine Hs.out.mono ?_
    rintro e w1 ⟨rfl, rfl⟩
    go_wp2_with fail
    refine Hrow.out.mono ?_
    rintro e w1 ⟨v, rfl, hv, hb⟩
    obtain ⟨va, vc, hvv, _, _, _⟩ := hv.read
    obtain ⟨l, hll⟩ : ∃ l, l = xs.length := ⟨_, rfl⟩
    rw [← hll] at hvv
    subst hvv
    have hbA : Below w1.heap.size w1 (w1.alloc (.cells #[.slice va l vc] 22)) := (Below.refl _ _).alloc (Nat.le_refl _) _
    have hRA : OwnR (w1.alloc (.cells #[.slice va l vc] 22)) w.heap.size (.slice (some ⟨w1.heap.size, 0, none⟩) 1 1) [xs] [.slice va l vc] :=
      ⟨ownsRow_built w1 [.slice va l vc] hb.size (by simp), fun i hi => by obtain rfl : i = 0 := (by simpa using hi); exact hv.below hbA⟩
    generalize hWA : w1.alloc (.cells #[.slice va l vc] 22) = wA at hbA hRA
    have hszA : wA.heap.size = w1.heap.size + 1 := by rw [← hWA]; simp
    have hbB : Below wA.heap.size wA (wA.alloc (.cells #[.slice (some ⟨w1.heap.size, 0, none⟩) 1 1] 28)) := (Below.refl _ _).alloc (Nat.le_refl _) _
    have hRB : OwnRL (wA.alloc (.cells #[.slice (some ⟨w1.heap.size, 0, none⟩) 1 1] 28)) w.heap.size (.slice (some ⟨wA.heap.size, 0, none⟩) 1 1) [[xs]] [.slice (some ⟨w1.heap.size, 0, none⟩) 1 1] :=
      ⟨ownsRow_built wA [.slice (some ⟨w1.heap.size, 0, none⟩) 1 1] (Nat.le_trans hb.size hbA.size) (by simp), fun i hi => by obtain rfl : i = 0 := (by simpa using hi); exact ⟨_, hRA.below hbB⟩⟩
    have HRB := Lib.hid hRB
    have HbB := Lib.hid (hb.trans ((hbA.trans (hbB.mono hbA.size)).mono hb.size))
    have HWA := Lib.hid hWA
    have HszA := Lib.hid hszA
    clear hv hb hbA hRA hbB hRB hszA hWA hll
    go_wp2
    go_ret
    refine ⟨.slice (some ⟨wA.heap.size, 0, none⟩) 1 1, [.slice (some ⟨w1.heap.size, 0, none⟩) 1 1], by rw [HszA.out]; rfl, ?_, fun i j hij hj => by simp at hj; omega, ?_⟩
    · have := HRB.out; rw [← HWA.out] at this ⊢; exact this
    · have := HbB.out; rw [← HWA.out] at this; exact this
  | succ d ih =>
    intro xs w hd hr hl hD
    have hs := size_any hr (by omega) w
    have hsets := setsAbove_any hr (by omega) w hD
    have he : ((xs.length : Int) == 1) = false := by simp; omega
    obtain ⟨j0, hj, hy0, hy1, hy2⟩ := info_parts Tryd.info_ints
    obtain ⟨k0, hk0, ht0, ht1, ht2⟩ := info_parts Tryd.info_intssW
    have Hrow := Lib.hid (fun w' (hD' : Dj w') => row_any hr (by omega) w' hD')
    have Hys := Lib.hid (fun k (hk : k < (above xs).length) => above_mem hr (gr_mem hk))
    have Hle := Lib.hid (fun k t (hk : k < (above xs).length) => trisQ_le (t := t) hr (by omega) hk)
    have HtB := Lib.hid (trB_le (d + 1) hd)
    have hA5 : (above xs).length ≤ 1099511627776 := by
      have := above_len hr
      rw [hl] at this
      exact Nat.le_trans this (Nat.le_trans (Nat.pow_le_pow_right (by omega) (show d + 1 + 1 - 1 ≤ 5 by omega)) (by decide))
    have Hih := Lib.hid ih
    have HD := Lib.hid hD
    have Hl := Lib.hid hl
    obtain ⟨m, hm⟩ : ∃ m : Int, m = (mask xs : Nat) := ⟨_, rfl⟩
    rw [← hm] at hs hsets Hrow ⊢
    have Hs := Lib.hid hs
    have Hsets := Lib.hid hsets
    clear hs hsets hD hm hl ih hr
    go_enter Tryd.func80, Tryd.ntmps80
    go_wp2_with fail
    refine Hs.out.mono ?_
    rintro e w1 ⟨rfl, rfl⟩
    go_wp2_with fail
    refine Hsets.out.mono ?_
    rintro e w1 ⟨v, rfl, hv, hb⟩
    obtain ⟨sa, sc, rfl, hs1, hs2, hsr⟩ := hv.read
    have Hsr := Lib.hid hsr
    have Hb := Lib.hid hb
    have HB := Lib.hid hb.size
    have HD1 := Lib.hid (HD.out.next hb)
    clear hv hb hsr Hs Hsets HD
    obtain ⟨A, hA⟩ : ∃ A, A = above xs := ⟨_, rfl⟩
    rw [← hA] at Hys Hle hA5 hs1 Hsr ⊢
    have HA := Lib.hid hA
    clear hA
    go_wp2
    go_loopw [3, 18] (fun out i wr => ∃ (k : Nat) (vs : List Value), k ≤ A.length ∧ i = .int .i64 k ∧ OwnRL wr w1.heap.size out (trisP d xs k) vs ∧ Tops vs ∧ Below w1.heap.size w1 wr) (fun _ i _ => A.length - (intOf i).toNat)
    case atStart => exact ⟨0, [], Nat.zero_le _, rfl, by rw [trisP_zero]; exact OwnRL.nil _ _, fun i j _ hj => absurd hj (by simp), Below.refl _ _⟩
    case round =>
      obtain ⟨k, vs, hk, rfl, hown, hap, hbr⟩ := hrel
      obtain ⟨wo, hwo⟩ : ∃ wo : World, wo = wr := ⟨_, rfl⟩
      subst hwo
      have Hown := Lib.hid hown
      have Hap := Lib.hid hap
      have Hbr := Lib.hid hbr
      have HBr := Lib.hid hbr.size
      clear hown hap hbr
      by_cases hlt : k < A.length
      · obtain ⟨b, o, e0, hcell⟩ := Hsr.out.below Hbr.out k hlt
        subst e0
        obtain ⟨hy, hyl⟩ := Hys.out k hlt
        have C := Lib.hid (Hih.out (gr A k) wo (by omega) hy (by have := Hl.out; omega) (HD1.out.next Hbr.out))
        have HTl := Lib.hid (trisD_len d (gr A k) hy (by have := Hl.out; omega))
        have HQ := Lib.hid (fun t (ht : t < (trisD d (gr A k)).length) => show trisQ d xs k (t + 1) = trisQ d xs k t ++ [gt (trisD d (gr A k)) t ++ [xs]] by rw [HA.out] at ht ⊢; exact trisQ_step ht)
        have HQe := Lib.hid (show trisQ d xs k (trisD d (gr A k)).length = trisP d xs (k + 1) by rw [HA.out]; exact trisQ_end (by rw [← HA.out]; exact hlt))
        have HQl := Lib.hid (fun t => Nat.le_trans (Hle.out k t hlt) HtB.out)
        have hcell' : wo.cell? ⟨b, o + k, none⟩ = some (.int .u64 (mask (gr A k) : Nat)) := hcell
        obtain ⟨q, hq⟩ : ∃ q : Int, q = (mask (gr A k) : Nat) := ⟨_, rfl⟩
        rw [← hq] at hcell' C
        clear hcell hy hyl hq
        go_wp2_with fail
        refine C.out.mono ?_
        rintro e w2 ⟨v2, us, rfl, hT, hTa, hb2⟩
        obtain ⟨T, hTT⟩ : ∃ T, T = trisD d (gr A k) := ⟨_, rfl⟩
        rw [← hTT] at hT HTl HQ HQe
        obtain ⟨ta, tc, rfl, htl1, htl2⟩ := hT.head
        have hTn : T.length ≤ 1099511627776 := Nat.le_trans (by
          have h1 := HQl.out T.length
          have h2 : T.length ≤ (trisQ d xs k T.length).length := by
            unfold trisQ
            rw [← HA.out, ← hTT, List.length_append, List.length_map, List.take_length]
            omega
          exact Nat.le_trans h2 h1) (Nat.le_refl _)
        have hlenT := hT.len
        have HI := Lib.hid (show TrI w2 w1.heap.size wo.heap.size _ (.slice ta T.length tc) T.length (trisQ d xs k 0) T vs us 0 from
          ⟨by rw [trisQ_zero]; exact Hown.out.below hb2, Hap.out, hT.top, fun j _ hj => hT.each j hj, fun a ha j _ hj g hg1 hg2 => by
            obtain ⟨ys, hx⟩ := Hown.out.each a (by rw [← Hown.out.len]; exact ha)
            obtain ⟨zs, hz⟩ := hT.each j hj
            have h1 := (hx.lt g hg2).2
            have h2 := (hz.lt g hg1).1
            omega, fun g hg1 hg2 => by
            have h1 := (World.ownsRow.lt Hown.out.top g hg1).2
            have h2 := (World.ownsRow.lt hT.top g hg2).1
            omega⟩)
        have HTa := Lib.hid hTa
        have Hb2 := Lib.hid (Hbr.out.trans (hb2.mono HBr.out))
        have Hb2' := Lib.hid hb2.size
        have HlT := Lib.hid hlenT
        clear hT hTa hb2 hTT Hown Hap C hlenT
        go_wp2
        go_loopw [3, 25] (fun out i wi => ∃ (t : Nat) (vs : List Value), t ≤ T.length ∧ i = .int .i64 t ∧ TrI wi w1.heap.size wo.heap.size out (.slice ta T.length tc) T.length (trisQ d xs k t) T vs us t ∧ Below w1.heap.size w1 wi ∧ wo.heap.size ≤ wi.heap.size) (fun _ i _ => T.length - (intOf i).toNat)
        case atStart => exact ⟨0, vs, Nat.zero_le _, rfl, HI.out, Hb2.out, Hb2'.out⟩
        case round =>
          obtain ⟨t, vs, ht, rfl, hI, hbi, hszi⟩ := hrel
          clear HI Hb2 Hb2'
          by_cases htl : t < T.length
          · obtain ⟨zs, hz⟩ := hI.rest t (Nat.le_refl _) htl
            obtain ⟨qa, qc, hq, hq1, hq2, _⟩ := hz.read
            have htt := HTl.out _ (gt_mem htl)
            rw [htt] at hq hq1
            obtain ⟨ai, ci, e, _, _, hcs⟩ := ownsRow_read hI.inner
            cases e
            obtain ⟨b2, o2, e2, hc2⟩ := hcs t htl
            rw [hq] at hc2
            subst e2
            obtain ⟨oa, oc, hoo, ho1, ho2⟩ := hI.own.head
            have hHQ := HQ.out t htl
            have hPl := HQl.out t
            obtain ⟨P, hP⟩ : ∃ P, P = trisQ d xs k t := ⟨_, rfl⟩
            rw [← hP] at hI hoo ho1 hHQ hPl
            obtain ⟨Pl, hPl2⟩ : ∃ Pl, Pl = P.length := ⟨_, rfl⟩
            rw [← hPl2] at hoo ho1 hPl
            have HPl := Lib.hid hPl2
            subst hoo
            have hua : ∀ j, t < j → j < T.length → ∀ g, (us.getD t undef).ownBlock = some g → (us.getD j undef).ownBlock ≠ some g := fun j h1 h2 g hg => HTa.out t j h1 (by rw [HlT.out]; exact h2) g hg
            have HI := Lib.hid hI
            have Hbi := Lib.hid hbi
            have HBi := Lib.hid hbi.size
            have Hz := Lib.hid hz
            have Hq := Lib.hid hq
            have Hua := Lib.hid hua
            have HHQ := Lib.hid hHQ
            have Htt := Lib.hid htt
            have C := Lib.hid (Hrow.out wr (HD1.out.next hbi))
            clear hI hbi hz hq hua hcs hP hPl2 hHQ ho1 ho2 hq1 hq2 htt
            go_wp2_with fail
            refine C.out.mono ?_
            rintro e w3 ⟨rv, rfl, hrv, hb3⟩
            obtain ⟨ra, rc, hrr, _, _, _⟩ := hrv.read
            obtain ⟨l, hll⟩ : ∃ l, l = xs.length := ⟨_, rfl⟩
            rw [← hll] at hrr
            subst hrr
            have hb3A : Below wr.heap.size wr (w3.alloc (.cells #[.slice ra l rc] 22)) := hb3.alloc hb3.size _
            have hz3 := Hz.out.below hb3A
            rw [Hq.out] at hz3
            have Hrv := Lib.hid hrv
            have HB3 := Lib.hid hb3.size
            have Hb3A := Lib.hid hb3A
            have Hz3 := Lib.hid hz3
            clear hrv hb3 hb3A hz3 hll C
            go_wp2_with (at_builtin; refine wpList_append_own_at _ rfl _ _ 28 rfl wo.heap.size 22 j0 (.slice none 0 0) 1 24 Tryd.underlying28 hj hy0 hy1 hy2 rfl (by decide) _ (d + 1) zs rfl (by have := Hz3.out.top; rw [Htt.out] at this; exact this) ⟨w3.heap.size, 0, none⟩ 1 1 [.slice ra l rc] rfl rfl ?g1 ?g2 ?g3 ?g4 ?g5 ?_)
            case g1 => exact cell_one_new _ _ _
            case g2 => intro u hu; simp at hu; subst hu; rfl
            case g3 => unfold maxLen; omega
            case g4 => omega
            case g5 => have := HB3.out; simp; omega
            intro v' w4 hown4 hgrow4 _ hat4
            have hG : TrI w4 w1.heap.size wo.heap.size _ _ T.length P T vs us (t + 1) := (HI.out.below Hb3A.out).grow htl (by rw [Hq.out]; exact Hz3.out) Hua.out (by rw [Hq.out]; exact hgrow4)
            have hv4 : OwnR w4 wo.heap.size v' (gt T t ++ [xs]) (zs ++ [.slice ra l rc]) := Hz3.out.join (k := [xs]) rfl (fun i hi => by
              obtain rfl : i = 0 := by simpa using hi
              exact (Hrv.out.base hszi).below ((Below.refl _ _).alloc (Nat.le_refl _) _)) (by rw [Htt.out]; exact hown4) hgrow4
            have hsz3 : (w3.alloc (.cells #[.slice ra l rc] 22)).heap.size = w3.heap.size + 1 := by simp
            have hvs : ∀ j, t + 1 ≤ j → j < T.length → ∀ g, (us.getD j undef).ownBlock = some g → v'.ownBlock ≠ some g := fun j h1 h2 g hg hgv => by
              rcases hat4 with e | e
              · rw [e] at hgv
                exact Hua.out j (by omega) h2 g (by rw [Hq.out]; exact hgv) hg
              · rw [e] at hgv
                cases hgv
                obtain ⟨ys, hy⟩ := HI.out.rest j (by omega) h2
                have h3 := (hy.lt _ hg).2
                have := HB3.out
                omega
            have hva : ∀ a, a < vs.length → ∀ g, (vs.getD a undef).ownBlock = some g → v'.ownBlock ≠ some g := fun a ha g hg hgv => by
              rcases hat4 with e | e
              · rw [e] at hgv
                exact HI.out.sep a ha t (Nat.le_refl _) htl g (by rw [Hq.out]; exact hgv) hg
              · rw [e] at hgv
                cases hgv
                obtain ⟨ys, hy⟩ := HI.out.own.each a (by rw [← HI.out.own.len]; exact ha)
                have h3 := (hy.lt _ hg).2
                have := HB3.out
                omega
            obtain ⟨pa, pc, hpp, _, _, _⟩ := ownsRow_read hown4
            have hb4 : Below w1.heap.size w1 w4 := (Hbi.out.trans (Hb3A.out.mono HBi.out)).grown hgrow4 (Nat.le_trans HBi.out Hb3A.out.size) (fun g hg => Nat.le_trans HBr.out (Hz3.out.lt g hg).1)
            have hsz4 : wo.heap.size ≤ w4.heap.size := by
              have h1 := (hgrow4.size)
              rw [hsz3] at h1
              have := HB3.out
              omega
            have HG := Lib.hid (hG.below ((Below.refl _ w4).alloc (Nat.le_refl _) (.cells #[v'] 28)))
            have Hv4 := Lib.hid ((hv4.base HBr.out).below ((Below.refl _ w4).alloc (Nat.le_refl _) (.cells #[v'] 28)))
            have Hvs := Lib.hid hvs
            have Hva := Lib.hid hva
            have Hb4 := Lib.hid hb4
            have HB4 := Lib.hid hb4.size
            have Hsz4 := Lib.hid hsz4
            clear hown4 hgrow4 hat4 hG hv4 hsz3 hvs hva hb4 hsz4 Hz3 Hb3A HB3 Hrv
            subst hpp
            go_wp2_with (at_builtin; refine wpList_append_own_at _ rfl _ _ 33 rfl w1.heap.size 28 k0 (.slice none 0 0) 1 24 Tryd.underlying33 hk0 ht0 ht1 ht2 rfl (by decide) _ Pl vs rfl (by have := HG.out.own.top; rw [← HPl.out] at this; exact this) ⟨w4.heap.size, 0, none⟩ 1 1 [.slice pa (d + 1 + 1) pc] rfl rfl ?f1 ?f2 ?f3 ?f4 ?f5 ?_)
            case f1 => exact cell_one_new _ _ _
            case f2 => intro u hu; simp at hu; subst hu; rfl
            case f3 => unfold maxLen; omega
            case f4 => omega
            case f5 => have := HB4.out; simp; omega
            intro out' w5 hown5 hgrow5 _ hat5
            have hP5 := HG.out.push Hv4.out Hvs.out Hva.out (by rw [← HPl.out]; exact hown5) hgrow5 (by simpa using hat5)
            rw [← HHQ.out] at hP5
            have hb5 : Below w1.heap.size w1 w5 := (Hb4.out.alloc HB4.out (.cells #[.slice pa (d + 1 + 1) pc] 28)).grown hgrow5 (by have := HB4.out; simp; omega) (fun g hg => (World.ownsRow.lt HG.out.own.top g hg).1)
            have hsz5 : wo.heap.size ≤ w5.heap.size := by
              have h1 := hgrow5.size
              have := Hsz4.out
              simp at h1
              omega
            obtain ⟨ua, uc, huu, _, _, _⟩ := ownsRow_read hown5
            have HP5 := Lib.hid hP5
            have Hb5 := Lib.hid hb5
            have Hsz5 := Lib.hid hsz5
            clear hown5 hgrow5 hat5 hP5 hb5 hsz5 HG Hv4 Hvs Hva
            subst huu
            go_wp2
            go_roundw
            case rel => exact ⟨t + 1, _, by omega, by go_num, HP5.out, Hb5.out, Hsz5.out⟩
            case measure => simp [intOf]; omega
          · obtain rfl : t = T.length := by omega
            have HO := Lib.hid hI.own
            have HAp := Lib.hid hI.ap
            have Hbi := Lib.hid hbi
            clear hI hbi
            go_wp2
            go_roundw
            case rel => exact ⟨k + 1, vs, by omega, by go_num, by rw [← HQe.out]; exact HO.out, HAp.out, Hbi.out⟩
            case measure => simp [intOf]; omega
      · obtain rfl : k = A.length := by omega
        have HV := Lib.hid (show trisP d xs A.length = trisD (d + 1) xs by rw [HA.out]; exact trisP_end d xs)
        go_wp2
        go_ret
        exact ⟨_, vs, rfl, by rw [← HV.out]; exact Hown.out.base HB.out, Hap.out, Hb.out.trans (Hbr.out.mono HB.out)⟩
end Go.Proofs.YtmkldodkpijfjaaDoor

namespace Go.Proofs.YtmkldodkpijfjaaDoor
open Go.RowKit

/-- the first number that differs is the lesser one -/
def rowLess : List Int → List Int → Bool
  | [], _ => false
  | a :: r, bs => if a = bs.headD 0 then rowLess r bs.tail else decide (a < bs.headD 0)
/-- a row put into its place -/
def putIn (n : Nat) (s : List Int) (L : List (List Int)) (y : List Int) : List (List Int) :=
  let t := stepF n s y
  let p := L.takeWhile fun z => rowLess (stepF n s z) t
  p ++ y :: L.drop p.length
def nextL (n : Nat) (s : List Int) : List (List Int) := (behind n s).foldl (putIn n s) []
/-- the columns that are not in s -/
def compl (n : Nat) (s : List Int) : List Int := (iota n).filter fun x => !s.contains x
def subs : List Int → List (List Int)
  | [] => [[]]
  | a :: r => (subs r).map (a :: ·) ++ subs r
theorem mem_subs {s l : List Int} (h : s.Sublist l) : s ∈ subs l := by
  induction h with
  | slnil => simp [subs]
  | cons a _ ih => simp [subs, ih]
  | cons_cons a _ ih => simp [subs, ih]
def chainC (n : Nat) : Bool := (subs (iota n)).all fun s => decide (n - 1 ≤ s.length) || ((nextL n s).map (compl n) == above (compl n s))
def waysC (n : Nat) : Bool := (subs (iota n)).all fun s => decide (n ≤ s.length) || (potL (iterT (dnCh n) (n - s.length) [((s, 0), 1)]) (fun _ => 1) == potL (iterT (upCh fun _ _ => 0) (n - s.length - 1) [((compl n s, 0), 1)]) (fun _ => 1))
set_option maxRecDepth 1000000 in
theorem chain_ok : chainC 1 = true ∧ chainC 2 = true ∧ chainC 3 = true ∧ chainC 4 = true ∧ chainC 5 = true := by decide +kernel
set_option maxRecDepth 1000000 in
theorem chain_ok6 : chainC 6 = true := by decide +kernel
set_option maxRecDepth 1000000 in
theorem ways_ok : waysC 1 = true ∧ waysC 2 = true ∧ waysC 3 = true ∧ waysC 4 = true ∧ waysC 5 = true ∧ waysC 6 = true := by decide +kernel
theorem chain_all {n : Nat} (h1 : 1 ≤ n) (h6 : n ≤ 6) : chainC n = true := by
  obtain ⟨a, b, c, d, e⟩ := chain_ok
  rcases (by omega : n = 1 ∨ n = 2 ∨ n = 3 ∨ n = 4 ∨ n = 5 ∨ n = 6) with rfl | rfl | rfl | rfl | rfl | rfl
  · exact a
  · exact b
  · exact c
  · exact d
  · exact e
  · exact chain_ok6
theorem ways_all {n : Nat} (h1 : 1 ≤ n) (h6 : n ≤ 6) : waysC n = true := by
  obtain ⟨a, b, c, d, e, f⟩ := ways_ok
  rcases (by omega : n = 1 ∨ n = 2 ∨ n = 3 ∨ n = 4 ∨ n = 5 ∨ n = 6) with rfl | rfl | rfl | rfl | rfl | rfl
  · exact a
  · exact b
  · exact c
  · exact d
  · exact e
  · exact f
theorem chain_at {n : Nat} (h1 : 1 ≤ n) (h6 : n ≤ 6) {s : List Int} (hs : s.Sublist (iota n)) (hl : s.length + 1 < n) : (nextL n s).map (compl n) = above (compl n s) := by
  have h := List.all_eq_true.1 (chain_all h1 h6) s (mem_subs hs)
  simp only [Bool.or_eq_true, decide_eq_true_eq, beq_iff_eq] at h
  rcases h with h | h
  · omega
  · exact h
end Go.Proofs.YtmkldodkpijfjaaDoor

namespace Go.Proofs.YtmkldodkpijfjaaDoor
open Go.RowKit

theorem gr_reverse {m : List (List Int)} {i : Nat} (h : i < m.length) : gr m.reverse i = gr m (m.length - 1 - i) := by
  rw [gr_lt (by rw [List.length_reverse]; exact h), gr_lt (by omega), List.getElem_reverse]
theorem colR_reverse (m : List (List Int)) (j : Nat) : ∀ k, k ≤ m.length → colR m.reverse j k + colR m j (m.length - k) = colR m j m.length
  | 0, _ => by simp [colR]
  | k + 1, h => by
    have ih := colR_reverse m j k (by omega)
    have e : m.length - k = (m.length - (k + 1)) + 1 := by omega
    rw [e, colR] at ih
    rw [colR, gr_reverse (by omega), show m.length - 1 - k = m.length - (k + 1) from by omega]
    omega
theorem colR_full {m : List (List Int)} (h : good m) {j : Nat} (hj : j < m.length) : colR m j m.length = 1 := by
  rw [colR_tr hj _ (Nat.le_refl _)]
  have h1 := (h.2.2 j (by rw [tr_len]; exact hj)).2
  rw [tr_row hj] at h1
  exact h1
/-- the rows of the triangle of a matrix upside down -/
theorem triRow_reverse {m : List (List Int)} (h : good m) {k : Nat} (hk : k ≤ m.length) : triRow m.reverse k = compl m.length (triRow m (m.length - k)) := by
  have hx : ∀ {x : Int}, x ∈ triRow m.reverse k ↔ x ∈ compl m.length (triRow m (m.length - k)) := by
    intro x
    unfold triRow compl
    rw [List.length_reverse, mem_colsF, List.mem_filter, mem_iota]
    constructor
    · rintro ⟨j, rfl, hj, hf⟩
      refine ⟨by omega, ?_⟩
      have h1 := colR_reverse m j k hk
      rw [colR_full h hj] at h1
      simp only [decide_eq_true_eq] at hf
      have hn : (j : Int) ∉ colsF m.length fun j => decide (colR m j (m.length - k) = 1) := by
        rw [mem_colsF]
        rintro ⟨i, e, _, hi⟩
        obtain rfl : j = i := by omega
        simp only [decide_eq_true_eq] at hi
        omega
      simp [hn]
    · rintro ⟨⟨h0, hn⟩, hc⟩
      refine ⟨x.toNat, by omega, by omega, ?_⟩
      have hj : x.toNat < m.length := by omega
      have h1 := colR_reverse m x.toNat k hk
      rw [colR_full h hj] at h1
      have h2 := colR_01 h hj (show m.length - k ≤ m.length by omega)
      have h3 : colR m x.toNat (m.length - k) ≠ 1 := by
        intro e
        have : x ∈ colsF m.length fun j => decide (colR m j (m.length - k) = 1) := mem_colsF.2 ⟨x.toNat, by omega, hj, by simpa using e⟩
        simp [this] at hc
      simp only [decide_eq_true_eq]
      omega
  have hu1 : Up (triRow m.reverse k) := colsF_up _ _
  have hu2 : Up (compl m.length (triRow m (m.length - k))) := (up_iota _).filter _
  refine mask_inj hu1 (fun y hy => ?_) hu2 (fun y hy => ?_) ?_
  · obtain ⟨j, rfl, _, _⟩ := mem_colsF.1 hy; omega
  · exact (mem_iota.1 (List.mem_filter.1 hy).1).1
  · apply Nat.eq_of_testBit_eq
    intro i
    rw [testBit_mask (fun y hy => by obtain ⟨j, rfl, _, _⟩ := mem_colsF.1 hy; omega), testBit_mask (xs := compl m.length (triRow m (m.length - k))) (fun y hy => (mem_iota.1 (List.mem_filter.1 hy).1).1)]
    exact decide_eq_decide.2 hx
end Go.Proofs.YtmkldodkpijfjaaDoor

namespace Go.Proofs.YtmkldodkpijfjaaDoor
open Go.RowKit

set_option maxRecDepth 100000 in
set_option maxHeartbeats 400000 in
theorem sCloneM_any (b o n c : Nat) (news : List Value) (w : World) (hn : n ≤ 1048576) (hl : news.length = n) (hc : ∀ j u, news[j]? = some u → w.cell? ⟨b, o + j, none⟩ = some u) (h1 : ∀ u ∈ news, u.oneCell' = true) :
    Calls Tryd.prog 92 #[.slice (some ⟨b, o, none⟩) n c] w fun e w' => ∃ v, e = .returned v ∧ w'.ownsRow w.heap.size 22 1 v n news ∧ Below w.heap.size w w' := by
  obtain ⟨j0, hj, hy0, hy1, hy2⟩ := info_parts Tryd.info_ints
  have Hc := Lib.hid hc
  have H1 := Lib.hid h1
  have Hl := Lib.hid hl
  clear hc h1 hl
  have q22 : ∀ (w : World) (a : Option Addr) (n c n' c' : Nat), (binOp .eql 28 (.slice a n c) (.slice none n' c')).run Tryd.prog w = .ok (.bool a.isNone) w := fun w a n c n' c' => Lib.run_eql_slice_nil w _ _ a n c n' c' Tryd.underlying28
  go_enter Tryd.func92, Tryd.ntmps92
  go_wp2_with (at_builtin; refine wpList_append_own _ rfl _ _ 28 rfl w.heap.size 22 j0 (.slice none 0 0) 1 24 Tryd.underlying28 hj hy0 hy1 hy2 rfl (by decide) _ _ _ rfl (World.ownsRow_made w #[] 0 (Nat.le_refl _) (Nat.zero_le _) rfl) ⟨b, o, none⟩ n c news rfl ?e1 ?e2 ?e3 ?e4 ?e5 ?e6 ?_)
  case e1 => rw [Hl.out]; omega
  case e2 =>
    intro j u hj
    rw [Addr.add_lit]
    exact Lib.cell?_alloc_some _ (Hc.out j u hj)
  case e3 => exact H1.out
  case e4 => unfold maxLen; omega
  case e5 => omega
  case e6 => simp
  intro v' w1 hown hgrow _
  have Hown := Lib.hid (show w1.ownsRow w.heap.size 22 1 v' n news by simpa using hown)
  have Hb := Lib.hid (((Below.refl w.heap.size w).alloc (Nat.le_refl _) _).grown hgrow (by simp) (by intro k hk; simp [Value.ownBlock] at hk; omega))
  clear hown hgrow
  go_wp2
  go_ret
  exact ⟨_, rfl, Hown.out, Hb.out⟩
end Go.Proofs.YtmkldodkpijfjaaDoor

namespace Go.Proofs.YtmkldodkpijfjaaDoor
open Go.RowKit

set_option maxRecDepth 100000 in
set_option maxHeartbeats 800000 in
theorem sReverseM_any (B g n c : Nat) (vs : List Value) (w : World) (hn : n ≤ 1048576) (hn1 : 1 ≤ n) (hB : B ≤ g) (hsl : ∀ t, t < n → ∃ r m d, vs.getD t undef = .slice r m d) (ho : w.ownsRow g 22 1 (.slice (some ⟨g, 0, none⟩) n c) n vs) :
    Calls Tryd.prog 93 #[.slice (some ⟨g, 0, none⟩) n c] w fun e w' => e = .returned (.tuple #[]) ∧ w'.ownsRow g 22 1 (.slice (some ⟨g, 0, none⟩) n c) n vs.reverse ∧ Below B w w' := by
  have hmx : n ≤ 9223372036854775807 := by omega
  have hvl : vs.length = n := by simpa using ho.1
  have Hsl := Lib.hid hsl
  have Ho := Lib.hid ho
  have Hvl := Lib.hid hvl
  clear ho hvl hsl
  go_enter Tryd.func93, Tryd.ntmps93
  go_wp2
  go_loopw [2, 3] (fun i j wr => ∃ (k l : Nat) (us : List Value), k + l + 1 = n ∧ k ≤ l + 1 ∧ i = .int .i64 k ∧ j = .int .i64 l ∧ wr.ownsRow g 22 1 (.slice (some ⟨g, 0, none⟩) n c) n us ∧ (∀ t, t < n → us.getD t undef = if t < k ∨ n - k ≤ t then vs.getD (n - 1 - t) undef else vs.getD t undef) ∧ Below B w wr) (fun i _ _ => n - (intOf i).toNat)
  case atStart => exact ⟨0, n - 1, vs, by omega, by omega, rfl, by go_num, Ho.out, fun t ht => by rw [if_neg (by omega)], Below.refl _ _⟩
  case round =>
    obtain ⟨k, l, us, hkl, hle, rfl, rfl, hown, hus, hbr⟩ := hrel
    by_cases hlt : k < l
    · have hul : us.length = n := by simpa using hown.1
      have hck := World.ownsRow.cellAt hown k (by omega)
      have hcl := World.ownsRow.cellAt hown l (by omega)
      have hfk := World.ownsRow.frozenAt hown k
      have hfl := World.ownsRow.frozenAt hown l
      obtain ⟨r1, m1, d1, e1⟩ := Hsl.out k (by omega)
      obtain ⟨r2, m2, d2, e2⟩ := Hsl.out l (by omega)
      have f1 : us[k]? = some (.slice r1 m1 d1) := by
        have := hus k (by omega)
        rw [if_neg (by omega), e1] at this
        simp only [List.getD, List.getElem?_eq_getElem (show k < us.length by omega), Option.getD_some] at this ⊢
        rw [this]
      have f2 : us[l]? = some (.slice r2 m2 d2) := by
        have := hus l (by omega)
        rw [if_neg (by omega), e2] at this
        simp only [List.getD, List.getElem?_eq_getElem (show l < us.length by omega), Option.getD_some] at this ⊢
        rw [this]
      rw [f1] at hck
      rw [f2] at hcl
      have hkn : k < n := by omega
      have hln : l < n := by omega
      have hne : k ≠ l := by omega
      have hne2 : l ≠ k := by omega
      have Hus := Lib.hid hus
      have Hown := Lib.hid hown
      have Hbr := Lib.hid hbr
      have Hf1 := Lib.hid (And.intro e1 e2)
      clear hus hown hbr f1 f2 e1 e2
      go_wp2_with fail
      go_region
      go_wp2
      go_roundw
      case rel =>
        have hz : (k : Int) < l := by omega
        refine ⟨k + 1, l - 1, (us.set k (.slice r2 m2 d2)).set l (.slice r1 m1 d1), by omega, by omega, by go_num, by rw [show ((l - 1 : Nat) : Int) = (l : Int) - 1 from by omega], ?_, ?_, ?_⟩
        · exact (World.ownsRow.stored (World.ownsRow.stored (ownsRow_below Hown.out ((Q.refl wr).drewN 1 |>.below _)) k _).1 l _).1
        · intro t ht
          obtain ⟨e1, e2⟩ := Hf1.out
          have hu := Hus.out t ht
          simp only [List.getD, List.getElem?_set, List.length_set] at hu e1 e2 ⊢
          by_cases ht1 : l = t
          · subst ht1
            rw [if_pos rfl, if_pos (by omega), if_pos (by omega), show n - 1 - l = k from by omega, e1]
            rfl
          · rw [if_neg ht1]
            by_cases ht2 : k = t
            · subst ht2
              rw [if_pos rfl, if_pos (by omega), if_pos (by omega), show n - 1 - k = l from by omega, e2]
              rfl
            · rw [if_neg ht2, hu]
              by_cases hc : t < k ∨ n - k ≤ t
              · rw [if_pos hc, if_pos (by omega)]
              · rw [if_neg hc, if_neg (by omega)]
        · exact ((Hbr.out.trans ((Q.refl wr).drewN 1 |>.below _)).setCell (p := ⟨g, k, none⟩) hB _).setCell (p := ⟨g, l, none⟩) hB _
      case measure => simp [intOf]; omega
    · have hfin : us = vs.reverse := by
        have hul : us.length = n := by simpa using hown.1
        apply List.ext_getElem (by rw [List.length_reverse, hul, Hvl.out])
        intro t h1 h2
        have hu := hus t (by omega)
        rw [List.getElem_reverse]
        have hvl := Hvl.out
        by_cases hc : t < k ∨ n - k ≤ t
        · rw [if_pos hc] at hu
          simp only [List.getD, List.getElem?_eq_getElem h1, List.getElem?_eq_getElem (show n - 1 - t < vs.length by omega), Option.getD_some] at hu
          rw [hu]
          congr 1
          omega
        · rw [if_neg hc] at hu
          simp only [List.getD, List.getElem?_eq_getElem h1, List.getElem?_eq_getElem (show t < vs.length by omega), Option.getD_some] at hu
          rw [hu]
          congr 1
          omega
      rw [hfin] at hown
      have Hown := Lib.hid hown
      have Hbr := Lib.hid hbr
      have hd : decide ((k : Int) < (l : Int)) = false := by simp; omega
      clear hown hus hbr hfin
      go_wp2
      (try simp only [Exit.inBlock, Exit.then]); refine bodyPost_end (results_none rfl _ _ _) rfl ?_
      exact ⟨rfl, Hown.out, Hbr.out⟩
end Go.Proofs.YtmkldodkpijfjaaDoor

namespace Go.Proofs.YtmkldodkpijfjaaDoor
open Go.RowKit

theorem OwnR.isAt {w : World} {B n c : Nat} {ao : Option Addr} {m : List (List Int)} {vs : List Value} (h : OwnR w B (.slice ao n c) m vs) (hn : 1 ≤ m.length) : ∃ g, ao = some ⟨g, 0, none⟩ ∧ B ≤ g ∧ g < w.heap.size := by
  rcases h.top.2 with ⟨h0, h1⟩ | ⟨g, cap, cur, hv, hg, hh, _⟩
  · omega
  · simp only [Value.slice.injEq] at hv
    obtain ⟨rfl, _⟩ := hv
    exact ⟨g, rfl, hg, lt_of_block hh⟩
theorem gr_rev {m : List (List Int)} {i : Nat} (h : i < m.length) : gr m.reverse i = gr m (m.length - 1 - i) := by
  rw [gr_lt (by simpa using h), gr_lt (by omega), List.getElem_reverse]

set_option maxRecDepth 100000 in
set_option maxHeartbeats 800000 in
theorem upsideDownR_any (B : Nat) (ao : Option Addr) (c : Nat) (m : List (List Int)) (vs : List Value) (w : World) (hn : m.length ≤ 1048576) (h1 : 1 ≤ m.length) (hB : B ≤ w.heap.size) (hm : OwnR w B (.slice ao m.length c) m vs) :
    Calls Tryd.prog 59 #[.slice ao m.length c] w fun e w' => ∃ v, e = .returned v ∧ OwnR w' B v m.reverse vs.reverse ∧ Below w.heap.size w w' := by
  have hmx : m.length ≤ 9223372036854775807 := by omega
  obtain ⟨b, rfl, _, _⟩ := hm.isAt h1
  have hcl := hm.cells
  have hlen := hm.len
  have Hm := Lib.hid hm
  have Hlen := Lib.hid hlen
  have Hcl := Lib.hid (sCloneM_any b 0 m.length c vs w hn hlen (fun j u hj => by have := hcl.1 j u hj; rw [Addr.add_lit] at this; exact this) hcl.2)
  have Hsl := Lib.hid (show ∀ t, t < m.length → ∃ r k d, vs.getD t undef = .slice r k d from fun t ht => by
    obtain ⟨r, d, e, _⟩ := (hm.rows t ht).read
    exact ⟨r, _, d, e⟩)
  have HB := Lib.hid hB
  clear hm hcl hlen
  go_enter Tryd.func59, Tryd.ntmps59
  go_wp2_with fail
  refine Hcl.out.mono ?_
  rintro e w1 ⟨v, rfl, hown, hb1⟩
  obtain ⟨ao', d, e1, _, _, _⟩ := ownsRow_read hown
  subst e1
  obtain ⟨g, hg, hgB⟩ : ∃ g, ao' = some ⟨g, 0, none⟩ ∧ w.heap.size ≤ g := by
    rcases hown.2 with ⟨h0, _⟩ | ⟨g, cap, cur, hv, hb, _⟩
    · simp only [Value.slice.injEq] at h0; omega
    · simp only [Value.slice.injEq] at hv
      exact ⟨g, hv.1, hb⟩
  subst hg
  have Hrv := Lib.hid (sReverseM_any w.heap.size g m.length d vs w1 hn h1 hgB Hsl.out (ownsRow_raise hown (fun k hk => by simp [Value.ownBlock] at hk; omega)))
  have Hb1 := Lib.hid hb1
  clear hown hb1
  go_wp2_with fail
  refine Hrv.out.mono ?_
  rintro e w2 ⟨rfl, hown, hb2⟩
  have Hb2 := Lib.hid (Hb1.out.trans hb2)
  have hfin : OwnR w2 B (.slice (some ⟨g, 0, none⟩) m.length d) m.reverse vs.reverse := by
    refine ⟨by rw [List.length_reverse]; exact ownsRow_base hown (Nat.le_trans HB.out hgB), fun i hi => ?_⟩
    rw [List.length_reverse] at hi
    rw [gr_rev hi]
    have := (Hm.out.rows (m.length - 1 - i) (by omega)).below Hb2.out
    simp only [List.getD] at this ⊢
    rw [List.getElem?_reverse (by rw [Hlen.out]; exact hi), Hlen.out]
    exact this
  have Hfin := Lib.hid hfin
  clear hown hb2 hfin
  go_wp2
  go_ret
  exact ⟨_, rfl, Hfin.out, Hb2.out⟩

theorem OwnR.setOther {w : World} {B B' n' : Nat} {x v : Value} {m : List (List Int)} {vs ys : List Value} {e' : TypeId} {g i : Nat} (h : OwnR w B x m vs) (k : w.ownsRow B' e' 1 v n' ys) (hv : v.ownBlock = some g) (h1 : 22 ≠ e') (h2 : 3 ≠ e') (u : Value) : OwnR (w.setCell ⟨g, i, none⟩ u) B x m vs :=
  ⟨Go.ownsRow_setCell_other h.top (fun e => row_apart h.top k h1 g e hv) u, fun j hj => Go.ownsRow_setCell_other (h.rows j hj) (fun e => row_apart (h.rows j hj) k h2 g e hv) u⟩
/-- a table is put in the place of another one -/
theorem OwnRL.set {w : World} {B g n c i : Nat} {ts : List (List (List Int))} {vs zs : List Value} {v : Value} {M : List (List Int)} (h : OwnRL w B (.slice (some ⟨g, 0, none⟩) n c) ts vs) (hi : i < ts.length) (hv : OwnR w B v M zs) :
    OwnRL (w.setCell ⟨g, i, none⟩ v) B (.slice (some ⟨g, 0, none⟩) n c) (ts.set i M) (vs.set i v) := by
  have hl := h.len
  have hn : ts.length = n := by
    obtain ⟨ao, c', e, _, _⟩ := h.head
    simp only [Value.slice.injEq] at e
    exact e.2.1.symm
  subst hn
  refine ⟨by rw [List.length_set]; exact (World.ownsRow.stored h.top i v).1, fun j hj => ?_⟩
  rw [List.length_set] at hj
  by_cases e : j = i
  · subst e
    refine ⟨zs, ?_⟩
    have e1 : (vs.set j v).getD j undef = v := by simp [List.getD, hl, hj]
    have e2 : gt (ts.set j M) j = M := by unfold gt; simp [List.getD, hj]
    rw [e1, e2]
    exact hv.setOther h.top rfl (by decide) (by decide) v
  · obtain ⟨us, hu⟩ := h.each j hj
    refine ⟨us, ?_⟩
    have e1 : (vs.set i v).getD j undef = vs.getD j undef := by simp only [List.getD]; rw [List.getElem?_set_ne (fun h => e h.symm)]
    have e2 : gt (ts.set i M) j = gt ts j := by unfold gt; simp only [List.getD]; rw [List.getElem?_set_ne (fun h => e h.symm)]
    rw [e1, e2]
    exact hu.setOther h.top rfl (by decide) (by decide) v
theorem OwnRL.isAt {w : World} {B n c : Nat} {ao : Option Addr} {ts : List (List (List Int))} {vs : List Value} (h : OwnRL w B (.slice ao n c) ts vs) (hn : 1 ≤ ts.length) : ∃ g, ao = some ⟨g, 0, none⟩ ∧ B ≤ g ∧ g < w.heap.size := by
  rcases h.top.2 with ⟨h0, h1⟩ | ⟨g, cap, cur, hv, hg, hh, _⟩
  · omega
  · simp only [Value.slice.injEq] at hv
    obtain ⟨rfl, _⟩ := hv
    exact ⟨g, rfl, hg, lt_of_block hh⟩

def flipT (t : List (List Int)) : List (List Int) := (fromTab t).reverse
/-- the first k tables turned into sign matrices -/
def mixT (T : List (List (List Int))) (k : Nat) : List (List (List Int)) := (T.take k).map flipT ++ T.drop k
theorem mixT_len (T : List (List (List Int))) (k : Nat) : (mixT T k).length = T.length := by simp [mixT]; omega
theorem mixT_zero (T : List (List (List Int))) : mixT T 0 = T := by simp [mixT]
theorem mixT_end (T : List (List (List Int))) : mixT T T.length = T.map flipT := by simp [mixT]
theorem mixT_at {T : List (List (List Int))} {k : Nat} (h : k < T.length) : gt (mixT T k) k = gt T k := by
  unfold mixT gt
  simp only [List.getD]
  rw [List.getElem?_append_right (by simp; omega), List.length_map, List.length_take, Nat.min_eq_left (by omega), Nat.sub_self, List.getElem?_drop, Nat.add_zero]
theorem mixT_set {T : List (List (List Int))} {k : Nat} (h : k < T.length) : (mixT T k).set k (flipT (gt T k)) = mixT T (k + 1) := by
  apply List.ext_getElem?
  intro i
  unfold mixT
  rw [List.getElem?_set]
  by_cases e : k = i
  · subst e
    rw [if_pos rfl, if_pos (by simp; omega), List.getElem?_append_left (by simp; omega), List.getElem?_map, List.getElem?_take_of_lt (by omega), gt_lt h, List.getElem?_eq_getElem h]
    rfl
  · rw [if_neg e]
    by_cases h2 : i < k
    · rw [List.getElem?_append_left (by simp; omega), List.getElem?_append_left (by simp; omega), List.getElem?_map, List.getElem?_map, List.getElem?_take_of_lt h2, List.getElem?_take_of_lt (by omega)]
    · rw [List.getElem?_append_right (by simp; omega), List.getElem?_append_right (by simp; omega)]
      simp only [List.length_map, List.length_take, List.getElem?_drop]
      rw [Nat.min_eq_left (by omega), Nat.min_eq_left (by omega)]
      congr 1
      omega

set_option maxRecDepth 100000 in
set_option maxHeartbeats 3200000 in
theorem allSigns_any (n : Nat) (w : World) (h1 : 1 ≤ n) (h5 : n ≤ 5) (hD : Dj w) :
    Calls Tryd.prog 44 #[.int .i64 (n : Int)] w fun e w' => ∃ v vs, e = .returned v ∧ OwnRL w' w.heap.size v (allI n) vs ∧ Below w.heap.size w w' := by
  have hcols := tris_cols n (by omega)
  have C := Lib.hid (triangles_any (n - 1) (fullR n) w (by omega) (fullR_rise (by omega)) (by rw [fullR_len]; omega) hD)
  rw [fullR_ok n (by omega)] at C
  have hTl := trisD_le (n - 1) (fullR n) (fullR_rise (by omega)) (by rw [fullR_len]; omega)
  have hTb := trB_le (n - 1) (by omega)
  obtain ⟨T, hT⟩ : ∃ T, T = trisD (n - 1) (fullR n) := ⟨_, rfl⟩
  rw [← hT] at hcols C hTl
  have HV := Lib.hid (show allI n = T.map flipT by rw [hT]; rfl)
  have Hcols := Lib.hid (show ∀ t, t ∈ T → t.length = n ∧ colsOk t from fun t ht => (hcols t ht).resolve_left (by omega))
  have hTn : T.length ≤ 1099511627776 := Nat.le_trans hTl hTb
  obtain ⟨q, hq⟩ : ∃ q : Int, q = ((2 ^ n - 1 : Nat) : Int) := ⟨_, rfl⟩
  have CA := Lib.hid (allColumns_any n w (by omega))
  rw [← hq] at C CA
  clear hcols hT hTl hTb hD hq
  go_enter Tryd.func44, Tryd.ntmps44
  go_wp2_with fail
  refine CA.out.mono ?_
  rintro e w1 ⟨rfl, rfl⟩
  go_wp2_with fail
  refine C.out.mono ?_
  rintro e w2 ⟨v, vs, rfl, hv, _, hb⟩
  obtain ⟨ta, tc, rfl, ht1, ht2⟩ := hv.head
  have Hv := Lib.hid hv
  have Hb := Lib.hid hb
  clear hv hb C CA
  go_wp2
  go_loopw [11] (fun i wr => ∃ (k : Nat) (vs : List Value), k ≤ T.length ∧ i = .int .i64 k ∧ OwnRL wr w.heap.size (.slice ta T.length tc) (mixT T k) vs ∧ Below w.heap.size w wr) (fun i _ => T.length - (intOf i).toNat)
  case atStart => exact ⟨0, vs, Nat.zero_le _, rfl, by rw [mixT_zero]; exact Hv.out, Hb.out⟩
  case round =>
    obtain ⟨k, vs, hk, rfl, hown, hbr⟩ := hrel
    clear Hv Hb
    have Hown := Lib.hid hown
    have Hbr := Lib.hid hbr
    have HBr := Lib.hid hbr.size
    by_cases hlt : k < T.length
    · obtain ⟨g, rfl, hg1, hg2⟩ := hown.isAt (by rw [mixT_len]; omega)
      obtain ⟨b1, o1, r1, d1, e1, hc1, hm1, _, _⟩ := hown.at (i := k) (by rw [mixT_len]; exact hlt)
      cases e1
      rw [Nat.zero_add] at hc1
      rw [mixT_at hlt] at hc1 hm1
      obtain ⟨hl1, hco⟩ := Hcols.out _ (gt_mem hlt)
      have CS := Lib.hid (signsOf_any r1 d1 (gt T k) wr hco hm1)
      have Hset := Lib.hid (show (mixT T k).set k (flipT (gt T k)) = mixT T (k + 1) from mixT_set hlt)
      have Hfl := Lib.hid (show (fromTab (gt T k)).length = n by rw [fromTab_len]; exact hl1)
      rw [hl1] at hc1 CS
      clear hown hbr hm1 hl1 hco
      go_wp2_with fail
      refine CS.out.mono ?_
      rintro e w3 ⟨v3, rfl, hv3, hb3⟩
      obtain ⟨sa, scp, svs, rfl, hsp, _, _⟩ := hv3.open
      have CU := Lib.hid (upsideDownR_any w.heap.size sa scp (fromTab (gt T k)) svs w3 (by rw [Hfl.out]; omega) (by rw [Hfl.out]; omega) (Nat.le_trans HBr.out hb3.size) (hsp.toR.base HBr.out))
      rw [Hfl.out] at CU ⊢
      have Hb3 := Lib.hid hb3
      clear hv3 hb3 hsp CS
      go_wp2_with fail
      refine CU.out.mono ?_
      rintro e w4 ⟨v4, rfl, hv4, hb4⟩
      have hb34 := Hb3.out.trans (hb4.mono Hb3.out.size)
      have hown4 := Hown.out.below hb34
      have hfr : w4.frozen? ⟨g, k, none⟩ = false := by
        have h := hown4.top
        rw [mixT_len] at h
        exact World.ownsRow.frozenAt h k
      have hcell : w4.cell? ⟨g, k, none⟩ = some (.slice r1 n d1) := cell_below hc1 hb34
      have hset := hown4.set (i := k) (by rw [mixT_len]; exact hlt) hv4
      rw [show (fromTab (gt T k)).reverse = flipT (gt T k) from rfl, Hset.out] at hset
      have Hs := Lib.hid hset
      have Hbs := Lib.hid ((Hbr.out.trans (hb34.mono HBr.out)).setCell (p := ⟨g, k, none⟩) hg1 v4)
      obtain ⟨va, vc, hvv, _, _, _⟩ := hv4.read
      rw [List.length_reverse, Hfl.out] at hvv
      subst hvv
      clear hv4 hb4 hb34 hown4 hset CU hc1
      go_wp2
      go_roundw
      case rel => exact ⟨k + 1, _, by omega, by go_num, Hs.out, Hbs.out⟩
      case measure => simp [intOf]; omega
    · obtain rfl : k = T.length := by omega
      rw [mixT_end, ← HV.out] at hown
      have Hown := Lib.hid hown
      clear hown hbr
      go_wp2
      go_ret
      exact ⟨_, vs, rfl, Hown.out, Hbr.out⟩
end Go.Proofs.YtmkldodkpijfjaaDoor

namespace Go.Proofs.YtmkldodkpijfjaaDoor
open Go.RowKit

/-- the sum of F over the first k tables; over all -/
def sumVk (F : List (List Int) → Int) (A : List (List (List Int))) (k : Nat) : Int := sumF (fun i => F (gt A i)) k
def sumV (F : List (List Int) → Int) (A : List (List (List Int))) : Int := sumVk F A A.length
theorem sumVk_bd {F : List (List Int) → Int} {A : List (List (List Int))} (h : ∀ m, m ∈ A → 0 ≤ F m ∧ F m ≤ 10000000000000000) : ∀ {k : Nat}, k ≤ A.length → 0 ≤ sumVk F A k ∧ sumVk F A k ≤ k * 10000000000000000
  | 0, _ => by simp [sumVk, sumF]
  | k + 1, hk => by
    have ih := sumVk_bd h (k := k) (by omega)
    have := h _ (gt_mem (show k < A.length by omega))
    unfold sumVk at ih ⊢
    simp only [sumF]
    omega
theorem sumVk_step (F : List (List Int) → Int) (A : List (List (List Int))) (k : Nat) : sumVk F A (k + 1) = sumVk F A k + F (gt A k) := rfl
theorem allI_eq {n : Nat} (h1 : 1 ≤ n) (h4 : n ≤ 4) : allI n = allW n := (allI_W n (by omega)).resolve_left (by omega)
theorem allW_ok {n : Nat} (h1 : 1 ≤ n) (h4 : n ≤ 4) : ∀ m, m ∈ allW n → m.length = n ∧ good m := fun m hm => (allW_good n (by omega) m hm).resolve_left (by omega)

def okSum (n a b c : Int) : Prop := (1 ≤ n ∧ n ≤ 4) ∧ isFac a b c
theorem sumV_congr {F G : List (List Int) → Int} {A : List (List (List Int))} (h : ∀ m, F m = G m) : sumV F A = sumV G A := by
  unfold sumV sumVk
  exact sumF_congr fun i _ => h _

end Go.Proofs.YtmkldodkpijfjaaDoor

