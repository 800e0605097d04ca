/- Parts of proofs: contracts and plain facts. Conditions: as each says. -/
import Derived.Test.YtjkpokpidpampaaDoorK20
import Derived.Maps.AppendAt
import Derived.Laws.AppendOwnNone
import Derived.Lib.AppendZeros
import Derived.Laws.OwnMore
namespace Go.Proofs.YtjkpokpidpampaaDoor
open Go.RowKit

/-- tables whose slices of rows lie in different blocks -/
def Tops (vs : List Value) : Prop := ∀ i j, i < j → j < vs.length → ∀ g, (vs.getD i undef).ownBlock = some g → (vs.getD j undef).ownBlock ≠ some g
/-- what grows leaves a table of another block as it was -/
theorem OwnR.keptTop {w w1 : World} {B B' n' : Nat} {x v : Value} {m : List (List Int)} {vs ys : List Value} (h : OwnR w B x m vs) (k : w.ownsRow B' 28 1 v n' ys) (hne : ∀ g, v.ownBlock = some g → x.ownBlock ≠ some g) (hg : w.grownBy w1 v.ownBlock) : OwnR w1 B x m vs :=
  ⟨World.ownsRow.kept h.top hg (by
    cases hb : x.ownBlock with
    | none => exact .inl rfl
    | some g => exact .inr (fun e => hne g e.symm hb)), fun i hi => row_kept (h.rows i hi) k (by decide) hg⟩
theorem OwnR.lt {w : World} {B : Nat} {v : Value} {m : List (List Int)} {vs : List Value} (h : OwnR w B v m vs) : ∀ g, v.ownBlock = some g → B ≤ g ∧ g < w.heap.size := World.ownsRow.lt h.top

/-- the list so far, and the list whose tables are being lengthened, from the t-th on -/
structure TrI (w : World) (B Bi : Nat) (out inn : Value) (n : Nat) (P T : List (List (List Int))) (vs us : List Value) (t : Nat) : Prop where
  own : OwnRL w B out P vs
  ap : Tops vs
  inner : w.ownsRow Bi 22 1 inn n us
  rest : ∀ j, t ≤ j → j < n → ∃ zs, OwnR w Bi (us.getD j undef) (gt T j) zs
  sep : ∀ a, a < vs.length → ∀ j, t ≤ j → j < n → ∀ g, (us.getD j undef).ownBlock = some g → (vs.getD a undef).ownBlock ≠ some g
  dis : ∀ g, out.ownBlock = some g → inn.ownBlock ≠ some g

theorem TrI.below {w w' : World} {B Bi : Nat} {out inn : Value} {n : Nat} {P T : List (List (List Int))} {vs us : List Value} {t : Nat} (h : TrI w B Bi out inn n P T vs us t) (hb : Below w.heap.size w w') : TrI w' B Bi out inn n P T vs us t :=
  ⟨h.own.below hb, h.ap, ownsRow_below h.inner hb, fun j h1 h2 => ⟨_, (h.rest j h1 h2).choose_spec.below hb⟩, h.sep, h.dis⟩
theorem TrI.grow {w w1 : World} {B Bi : Nat} {out inn : Value} {n : Nat} {P T : List (List (List Int))} {vs us : List Value} {t : Nat} {zs : List Value} (h : TrI w B Bi out inn n P T vs us t) (ht : t < n) (hz : OwnR w Bi (us.getD t undef) (gt T t) zs)
    (hua : ∀ j, t < j → j < n → ∀ g, (us.getD t undef).ownBlock = some g → (us.getD j undef).ownBlock ≠ some g) (hg : w.grownBy w1 (us.getD t undef).ownBlock) : TrI w1 B Bi out inn n P T vs us (t + 1) :=
  ⟨⟨row_kept h.own.top hz.top (by decide) hg, fun i hi => ⟨_, (h.own.each i hi).choose_spec.keptTop hz.top (fun g hg2 => h.sep i (by rw [h.own.len]; exact hi) t (Nat.le_refl _) ht g hg2) hg⟩⟩, h.ap,
    row_kept h.inner hz.top (by decide) hg, fun j h1 h2 => ⟨_, (h.rest j (by omega) h2).choose_spec.keptTop hz.top (fun g hg2 => hua j (by omega) h2 g hg2) hg⟩, fun a ha j h1 h2 => h.sep a ha j (by omega) h2, h.dis⟩
theorem TrI.push {w w1 : World} {B Bi : Nat} {out inn out' v : Value} {n : Nat} {P T : List (List (List Int))} {vs us zs : List Value} {t : Nat} {M : List (List Int)} (h : TrI w B Bi out inn n P T vs us t) (hv : OwnR w B v M zs)
    (hs : ∀ j, t ≤ j → j < n → ∀ g, (us.getD j undef).ownBlock = some g → v.ownBlock ≠ some g) (hap : ∀ a, a < vs.length → ∀ g, (vs.getD a undef).ownBlock = some g → v.ownBlock ≠ some g)
    (h1 : w1.ownsRow B 22 1 out' (P.length + 1) (vs ++ [v])) (hg : w.grownBy w1 out.ownBlock) (hat : out'.ownBlock = out.ownBlock ∨ out'.ownBlock = some w.heap.size) : TrI w1 B Bi out' inn n (P ++ [M]) T (vs ++ [v]) us t := by
  have hl := h.own.len
  refine ⟨h.own.join (ks := [M]) rfl (fun i hi => by obtain rfl : i = 0 := by simpa using hi
                                                     exact ⟨zs, hv⟩) h1 hg, fun i j hij hj g hi => ?_, ?_, fun j h2 h3 => ?_, fun a ha j h2 h3 g hgj => ?_, fun g hgo => ?_⟩
  · rw [List.length_append, List.length_singleton] at hj
    rw [getD_left (by omega)] at hi
    by_cases e : j < vs.length
    · rw [getD_left e]; exact h.ap i j hij e g hi
    · rw [getD_right (by omega), show j - vs.length = 0 by omega]
      exact hap i (by omega) g hi
  · refine World.ownsRow.kept h.inner hg ?_
    cases hb : inn.ownBlock with
    | none => exact .inl rfl
    | some g => exact .inr (fun e => h.dis g e.symm hb)
  · obtain ⟨ys, hy⟩ := h.rest j h2 h3
    exact ⟨ys, hy.kept h.own.top (by decide) (by decide) hg⟩
  · rw [List.length_append, List.length_singleton] at ha
    by_cases e : a < vs.length
    · rw [getD_left e]; exact h.sep a e j h2 h3 g hgj
    · rw [getD_right (by omega), show a - vs.length = 0 by omega]
      exact hs j h2 h3 g hgj
  · rcases hat with e | e
    · exact h.dis g (by rw [← e]; exact hgo)
    · rw [e] at hgo
      cases hgo
      intro hi
      have := (World.ownsRow.lt h.inner _ hi).2
      omega

set_option maxRecDepth 100000 in
set_option maxHeartbeats 6400000 in
theorem triangles_any : ∀ (d : Nat) (xs : List Int) (w : World), d < 5 → Rise xs → xs.length = d + 1 → Dj w →
    Calls Tryd.prog 66 #[.int .u64 (mask xs : Nat)] w fun e w' => ∃ v vs, e = .returned v ∧ OwnRL w' w.heap.size v (trisD d xs) vs ∧ Tops vs ∧ Below w.heap.size w w' := by
  intro d
  induction d with
  | zero =>
    intro xs w hd hr hl hD
    have hs := size_any hr (by omega) w
    have hrow := row_any hr (by omega) w hD
    have he : ((xs.length : Int) == 1) = true := by simp; omega
    obtain ⟨m, hm⟩ : ∃ m : Int, m = (mask xs : Nat) := ⟨_, rfl⟩
    rw [← hm] at hs hrow ⊢
    have Hs := Lib.hid hs
    have Hrow := Lib.hid hrow
    clear hs hrow hD hm hr hl
    go_enter Tryd.func66, Tryd.ntmps66
    go_wp2_with fail
    refine Hs.out.mono ?_
    rintro e w1 ⟨rfl, rfl⟩
    go_wp2_with fail
    refine Hrow.out.mono ?_
    rintro e w1 ⟨v, rfl, hv, hb⟩
    obtain ⟨va, vc, hvv, _, _, _⟩ := hv.read
    obtain ⟨l, hll⟩ : ∃ l, l = xs.length := ⟨_, rfl⟩
    rw [← hll] at hvv
    subst hvv
    have hbA : Below w1.heap.size w1 (w1.alloc (.cells #[.slice va l vc] 28)) := (Below.refl _ _).alloc (Nat.le_refl _) _
    have hRA : OwnR (w1.alloc (.cells #[.slice va l vc] 28)) w.heap.size (.slice (some ⟨w1.heap.size, 0, none⟩) 1 1) [xs] [.slice va l vc] :=
      ⟨ownsRow_built w1 [.slice va l vc] hb.size (by simp), fun i hi => by obtain rfl : i = 0 := (by simpa using hi); exact hv.below hbA⟩
    generalize hWA : w1.alloc (.cells #[.slice va l vc] 28) = wA at hbA hRA
    have hszA : wA.heap.size = w1.heap.size + 1 := by rw [← hWA]; simp
    have hbB : Below wA.heap.size wA (wA.alloc (.cells #[.slice (some ⟨w1.heap.size, 0, none⟩) 1 1] 22)) := (Below.refl _ _).alloc (Nat.le_refl _) _
    have hRB : OwnRL (wA.alloc (.cells #[.slice (some ⟨w1.heap.size, 0, none⟩) 1 1] 22)) w.heap.size (.slice (some ⟨wA.heap.size, 0, none⟩) 1 1) [[xs]] [.slice (some ⟨w1.heap.size, 0, none⟩) 1 1] :=
      ⟨ownsRow_built wA [.slice (some ⟨w1.heap.size, 0, none⟩) 1 1] (Nat.le_trans hb.size hbA.size) (by simp), fun i hi => by obtain rfl : i = 0 := (by simpa using hi); exact ⟨_, hRA.below hbB⟩⟩
    have HRB := Lib.hid hRB
    have HbB := Lib.hid (hb.trans ((hbA.trans (hbB.mono hbA.size)).mono hb.size))
    have HWA := Lib.hid hWA
    have HszA := Lib.hid hszA
    clear hv hb hbA hRA hbB hRB hszA hWA hll
    go_wp2
    go_ret
    refine ⟨.slice (some ⟨wA.heap.size, 0, none⟩) 1 1, [.slice (some ⟨w1.heap.size, 0, none⟩) 1 1], by rw [HszA.out]; rfl, ?_, fun i j hij hj => by simp at hj; omega, ?_⟩
    · have := HRB.out; rw [← HWA.out] at this ⊢; exact this
    · have := HbB.out; rw [← HWA.out] at this; exact this
  | succ d ih =>
    intro xs w hd hr hl hD
    have hs := size_any hr (by omega) w
    have hsets := setsAbove_any hr (by omega) w hD
    have he : ((xs.length : Int) == 1) = false := by simp; omega
    obtain ⟨j0, hj, hy0, hy1, hy2⟩ := info_parts Tryd.info_ints
    obtain ⟨k0, hk0, ht0, ht1, ht2⟩ := info_parts Tryd.info_intssW
    have Hrow := Lib.hid (fun w' (hD' : Dj w') => row_any hr (by omega) w' hD')
    have Hys := Lib.hid (fun k (hk : k < (above xs).length) => above_mem hr (gr_mem hk))
    have Hle := Lib.hid (fun k t (hk : k < (above xs).length) => trisQ_le (t := t) hr (by omega) hk)
    have HtB := Lib.hid (trB_le (d + 1) hd)
    have hA5 : (above xs).length ≤ 1099511627776 := by
      have := above_len hr
      rw [hl] at this
      exact Nat.le_trans this (Nat.le_trans (Nat.pow_le_pow_right (by omega) (show d + 1 + 1 - 1 ≤ 5 by omega)) (by decide))
    have Hih := Lib.hid ih
    have HD := Lib.hid hD
    have Hl := Lib.hid hl
    obtain ⟨m, hm⟩ : ∃ m : Int, m = (mask xs : Nat) := ⟨_, rfl⟩
    rw [← hm] at hs hsets Hrow ⊢
    have Hs := Lib.hid hs
    have Hsets := Lib.hid hsets
    clear hs hsets hD hm hl ih hr
    go_enter Tryd.func66, Tryd.ntmps66
    go_wp2_with fail
    refine Hs.out.mono ?_
    rintro e w1 ⟨rfl, rfl⟩
    go_wp2_with fail
    refine Hsets.out.mono ?_
    rintro e w1 ⟨v, rfl, hv, hb⟩
    obtain ⟨sa, sc, rfl, hs1, hs2, hsr⟩ := hv.read
    have Hsr := Lib.hid hsr
    have Hb := Lib.hid hb
    have HB := Lib.hid hb.size
    have HD1 := Lib.hid (HD.out.next hb)
    clear hv hb hsr Hs Hsets HD
    obtain ⟨A, hA⟩ : ∃ A, A = above xs := ⟨_, rfl⟩
    rw [← hA] at Hys Hle hA5 hs1 Hsr ⊢
    have HA := Lib.hid hA
    clear hA
    go_wp2
    go_loopw [3, 18] (fun out i wr => ∃ (k : Nat) (vs : List Value), k ≤ A.length ∧ i = .int .i64 k ∧ OwnRL wr w1.heap.size out (trisP d xs k) vs ∧ Tops vs ∧ Below w1.heap.size w1 wr) (fun _ i _ => A.length - (intOf i).toNat)
    case atStart => exact ⟨0, [], Nat.zero_le _, rfl, by rw [trisP_zero]; exact OwnRL.nil _ _, fun i j _ hj => absurd hj (by simp), Below.refl _ _⟩
    case round =>
      obtain ⟨k, vs, hk, rfl, hown, hap, hbr⟩ := hrel
      obtain ⟨wo, hwo⟩ : ∃ wo : World, wo = wr := ⟨_, rfl⟩
      subst hwo
      have Hown := Lib.hid hown
      have Hap := Lib.hid hap
      have Hbr := Lib.hid hbr
      have HBr := Lib.hid hbr.size
      clear hown hap hbr
      by_cases hlt : k < A.length
      · obtain ⟨b, o, e0, hcell⟩ := Hsr.out.below Hbr.out k hlt
        subst e0
        obtain ⟨hy, hyl⟩ := Hys.out k hlt
        have C := Lib.hid (Hih.out (gr A k) wo (by omega) hy (by have := Hl.out; omega) (HD1.out.next Hbr.out))
        have HTl := Lib.hid (trisD_len d (gr A k) hy (by have := Hl.out; omega))
        have HQ := Lib.hid (fun t (ht : t < (trisD d (gr A k)).length) => show trisQ d xs k (t + 1) = trisQ d xs k t ++ [gt (trisD d (gr A k)) t ++ [xs]] by rw [HA.out] at ht ⊢; exact trisQ_step ht)
        have HQe := Lib.hid (show trisQ d xs k (trisD d (gr A k)).length = trisP d xs (k + 1) by rw [HA.out]; exact trisQ_end (by rw [← HA.out]; exact hlt))
        have HQl := Lib.hid (fun t => Nat.le_trans (Hle.out k t hlt) HtB.out)
        have hcell' : wo.cell? ⟨b, o + k, none⟩ = some (.int .u64 (mask (gr A k) : Nat)) := hcell
        obtain ⟨q, hq⟩ : ∃ q : Int, q = (mask (gr A k) : Nat) := ⟨_, rfl⟩
        rw [← hq] at hcell' C
        clear hcell hy hyl hq
        go_wp2_with fail
        refine C.out.mono ?_
        rintro e w2 ⟨v2, us, rfl, hT, hTa, hb2⟩
        obtain ⟨T, hTT⟩ : ∃ T, T = trisD d (gr A k) := ⟨_, rfl⟩
        rw [← hTT] at hT HTl HQ HQe
        obtain ⟨ta, tc, rfl, htl1, htl2⟩ := hT.head
        have hTn : T.length ≤ 1099511627776 := Nat.le_trans (by
          have h1 := HQl.out T.length
          have h2 : T.length ≤ (trisQ d xs k T.length).length := by
            unfold trisQ
            rw [← HA.out, ← hTT, List.length_append, List.length_map, List.take_length]
            omega
          exact Nat.le_trans h2 h1) (Nat.le_refl _)
        have hlenT := hT.len
        have HI := Lib.hid (show TrI w2 w1.heap.size wo.heap.size _ (.slice ta T.length tc) T.length (trisQ d xs k 0) T vs us 0 from
          ⟨by rw [trisQ_zero]; exact Hown.out.below hb2, Hap.out, hT.top, fun j _ hj => hT.each j hj, fun a ha j _ hj g hg1 hg2 => by
            obtain ⟨ys, hx⟩ := Hown.out.each a (by rw [← Hown.out.len]; exact ha)
            obtain ⟨zs, hz⟩ := hT.each j hj
            have h1 := (hx.lt g hg2).2
            have h2 := (hz.lt g hg1).1
            omega, fun g hg1 hg2 => by
            have h1 := (World.ownsRow.lt Hown.out.top g hg1).2
            have h2 := (World.ownsRow.lt hT.top g hg2).1
            omega⟩)
        have HTa := Lib.hid hTa
        have Hb2 := Lib.hid (Hbr.out.trans (hb2.mono HBr.out))
        have Hb2' := Lib.hid hb2.size
        have HlT := Lib.hid hlenT
        clear hT hTa hb2 hTT Hown Hap C hlenT
        go_wp2
        go_loopw [3, 25] (fun out i wi => ∃ (t : Nat) (vs : List Value), t ≤ T.length ∧ i = .int .i64 t ∧ TrI wi w1.heap.size wo.heap.size out (.slice ta T.length tc) T.length (trisQ d xs k t) T vs us t ∧ Below w1.heap.size w1 wi ∧ wo.heap.size ≤ wi.heap.size) (fun _ i _ => T.length - (intOf i).toNat)
        case atStart => exact ⟨0, vs, Nat.zero_le _, rfl, HI.out, Hb2.out, Hb2'.out⟩
        case round =>
          obtain ⟨t, vs, ht, rfl, hI, hbi, hszi⟩ := hrel
          clear HI Hb2 Hb2'
          by_cases htl : t < T.length
          · obtain ⟨zs, hz⟩ := hI.rest t (Nat.le_refl _) htl
            obtain ⟨qa, qc, hq, hq1, hq2, _⟩ := hz.read
            have htt := HTl.out _ (gt_mem htl)
            rw [htt] at hq hq1
            obtain ⟨ai, ci, e, _, _, hcs⟩ := ownsRow_read hI.inner
            cases e
            obtain ⟨b2, o2, e2, hc2⟩ := hcs t htl
            rw [hq] at hc2
            subst e2
            obtain ⟨oa, oc, hoo, ho1, ho2⟩ := hI.own.head
            have hHQ := HQ.out t htl
            have hPl := HQl.out t
            obtain ⟨P, hP⟩ : ∃ P, P = trisQ d xs k t := ⟨_, rfl⟩
            rw [← hP] at hI hoo ho1 hHQ hPl
            obtain ⟨Pl, hPl2⟩ : ∃ Pl, Pl = P.length := ⟨_, rfl⟩
            rw [← hPl2] at hoo ho1 hPl
            have HPl := Lib.hid hPl2
            subst hoo
            have hua : ∀ j, t < j → j < T.length → ∀ g, (us.getD t undef).ownBlock = some g → (us.getD j undef).ownBlock ≠ some g := fun j h1 h2 g hg => HTa.out t j h1 (by rw [HlT.out]; exact h2) g hg
            have HI := Lib.hid hI
            have Hbi := Lib.hid hbi
            have HBi := Lib.hid hbi.size
            have Hz := Lib.hid hz
            have Hq := Lib.hid hq
            have Hua := Lib.hid hua
            have HHQ := Lib.hid hHQ
            have Htt := Lib.hid htt
            have C := Lib.hid (Hrow.out wr (HD1.out.next hbi))
            clear hI hbi hz hq hua hcs hP hPl2 hHQ ho1 ho2 hq1 hq2 htt
            go_wp2_with fail
            refine C.out.mono ?_
            rintro e w3 ⟨rv, rfl, hrv, hb3⟩
            obtain ⟨ra, rc, hrr, _, _, _⟩ := hrv.read
            obtain ⟨l, hll⟩ : ∃ l, l = xs.length := ⟨_, rfl⟩
            rw [← hll] at hrr
            subst hrr
            have hb3A : Below wr.heap.size wr (w3.alloc (.cells #[.slice ra l rc] 28)) := hb3.alloc hb3.size _
            have hz3 := Hz.out.below hb3A
            rw [Hq.out] at hz3
            have Hrv := Lib.hid hrv
            have HB3 := Lib.hid hb3.size
            have Hb3A := Lib.hid hb3A
            have Hz3 := Lib.hid hz3
            clear hrv hb3 hb3A hz3 hll C
            go_wp2_with (at_builtin; refine wpList_append_own_at _ rfl _ _ 22 rfl wo.heap.size 28 j0 (.slice none 0 0) 1 24 Tryd.underlying22 hj hy0 hy1 hy2 rfl (by decide) _ (d + 1) zs rfl (by have := Hz3.out.top; rw [Htt.out] at this; exact this) ⟨w3.heap.size, 0, none⟩ 1 1 [.slice ra l rc] rfl rfl ?g1 ?g2 ?g3 ?g4 ?g5 ?_)
            case g1 => exact cell_one_new _ _ _
            case g2 => intro u hu; simp at hu; subst hu; rfl
            case g3 => unfold maxLen; omega
            case g4 => omega
            case g5 => have := HB3.out; simp; omega
            intro v' w4 hown4 hgrow4 _ hat4
            have hG : TrI w4 w1.heap.size wo.heap.size _ _ T.length P T vs us (t + 1) := (HI.out.below Hb3A.out).grow htl (by rw [Hq.out]; exact Hz3.out) Hua.out (by rw [Hq.out]; exact hgrow4)
            have hv4 : OwnR w4 wo.heap.size v' (gt T t ++ [xs]) (zs ++ [.slice ra l rc]) := Hz3.out.join (k := [xs]) rfl (fun i hi => by
              obtain rfl : i = 0 := by simpa using hi
              exact (Hrv.out.base hszi).below ((Below.refl _ _).alloc (Nat.le_refl _) _)) (by rw [Htt.out]; exact hown4) hgrow4
            have hsz3 : (w3.alloc (.cells #[.slice ra l rc] 28)).heap.size = w3.heap.size + 1 := by simp
            have hvs : ∀ j, t + 1 ≤ j → j < T.length → ∀ g, (us.getD j undef).ownBlock = some g → v'.ownBlock ≠ some g := fun j h1 h2 g hg hgv => by
              rcases hat4 with e | e
              · rw [e] at hgv
                exact Hua.out j (by omega) h2 g (by rw [Hq.out]; exact hgv) hg
              · rw [e] at hgv
                cases hgv
                obtain ⟨ys, hy⟩ := HI.out.rest j (by omega) h2
                have h3 := (hy.lt _ hg).2
                have := HB3.out
                omega
            have hva : ∀ a, a < vs.length → ∀ g, (vs.getD a undef).ownBlock = some g → v'.ownBlock ≠ some g := fun a ha g hg hgv => by
              rcases hat4 with e | e
              · rw [e] at hgv
                exact HI.out.sep a ha t (Nat.le_refl _) htl g (by rw [Hq.out]; exact hgv) hg
              · rw [e] at hgv
                cases hgv
                obtain ⟨ys, hy⟩ := HI.out.own.each a (by rw [← HI.out.own.len]; exact ha)
                have h3 := (hy.lt _ hg).2
                have := HB3.out
                omega
            obtain ⟨pa, pc, hpp, _, _, _⟩ := ownsRow_read hown4
            have hb4 : Below w1.heap.size w1 w4 := (Hbi.out.trans (Hb3A.out.mono HBi.out)).grown hgrow4 (Nat.le_trans HBi.out Hb3A.out.size) (fun g hg => Nat.le_trans HBr.out (Hz3.out.lt g hg).1)
            have hsz4 : wo.heap.size ≤ w4.heap.size := by
              have h1 := (hgrow4.size)
              rw [hsz3] at h1
              have := HB3.out
              omega
            have HG := Lib.hid (hG.below ((Below.refl _ w4).alloc (Nat.le_refl _) (.cells #[v'] 22)))
            have Hv4 := Lib.hid ((hv4.base HBr.out).below ((Below.refl _ w4).alloc (Nat.le_refl _) (.cells #[v'] 22)))
            have Hvs := Lib.hid hvs
            have Hva := Lib.hid hva
            have Hb4 := Lib.hid hb4
            have HB4 := Lib.hid hb4.size
            have Hsz4 := Lib.hid hsz4
            clear hown4 hgrow4 hat4 hG hv4 hsz3 hvs hva hb4 hsz4 Hz3 Hb3A HB3 Hrv
            subst hpp
            go_wp2_with (at_builtin; refine wpList_append_own_at _ rfl _ _ 36 rfl w1.heap.size 22 k0 (.slice none 0 0) 1 24 Tryd.underlying36 hk0 ht0 ht1 ht2 rfl (by decide) _ Pl vs rfl (by have := HG.out.own.top; rw [← HPl.out] at this; exact this) ⟨w4.heap.size, 0, none⟩ 1 1 [.slice pa (d + 1 + 1) pc] rfl rfl ?f1 ?f2 ?f3 ?f4 ?f5 ?_)
            case f1 => exact cell_one_new _ _ _
            case f2 => intro u hu; simp at hu; subst hu; rfl
            case f3 => unfold maxLen; omega
            case f4 => omega
            case f5 => have := HB4.out; simp; omega
            intro out' w5 hown5 hgrow5 _ hat5
            have hP5 := HG.out.push Hv4.out Hvs.out Hva.out (by rw [← HPl.out]; exact hown5) hgrow5 (by simpa using hat5)
            rw [← HHQ.out] at hP5
            have hb5 : Below w1.heap.size w1 w5 := (Hb4.out.alloc HB4.out (.cells #[.slice pa (d + 1 + 1) pc] 22)).grown hgrow5 (by have := HB4.out; simp; omega) (fun g hg => (World.ownsRow.lt HG.out.own.top g hg).1)
            have hsz5 : wo.heap.size ≤ w5.heap.size := by
              have h1 := hgrow5.size
              have := Hsz4.out
              simp at h1
              omega
            obtain ⟨ua, uc, huu, _, _, _⟩ := ownsRow_read hown5
            have HP5 := Lib.hid hP5
            have Hb5 := Lib.hid hb5
            have Hsz5 := Lib.hid hsz5
            clear hown5 hgrow5 hat5 hP5 hb5 hsz5 HG Hv4 Hvs Hva
            subst huu
            go_wp2
            go_roundw
            case rel => exact ⟨t + 1, _, by omega, by go_num, HP5.out, Hb5.out, Hsz5.out⟩
            case measure => simp [intOf]; omega
          · obtain rfl : t = T.length := by omega
            have HO := Lib.hid hI.own
            have HAp := Lib.hid hI.ap
            have Hbi := Lib.hid hbi
            clear hI hbi
            go_wp2
            go_roundw
            case rel => exact ⟨k + 1, vs, by omega, by go_num, by rw [← HQe.out]; exact HO.out, HAp.out, Hbi.out⟩
            case measure => simp [intOf]; omega
      · obtain rfl : k = A.length := by omega
        have HV := Lib.hid (show trisP d xs A.length = trisD (d + 1) xs by rw [HA.out]; exact trisP_end d xs)
        go_wp2
        go_ret
        exact ⟨_, vs, rfl, by rw [← HV.out]; exact Hown.out.base HB.out, Hap.out, Hb.out.trans (Hbr.out.mono HB.out)⟩
end Go.Proofs.YtjkpokpidpampaaDoor

namespace Go.Proofs.YtjkpokpidpampaaDoor
open Go.RowKit

theorem OwnR.isAt {w : World} {B n c : Nat} {ao : Option Addr} {m : List (List Int)} {vs : List Value} (h : OwnR w B (.slice ao n c) m vs) (hn : 1 ≤ m.length) : ∃ g, ao = some ⟨g, 0, none⟩ ∧ B ≤ g ∧ g < w.heap.size := by
  rcases h.top.2 with ⟨h0, h1⟩ | ⟨g, cap, cur, hv, hg, hh, _⟩
  · omega
  · simp only [Value.slice.injEq] at hv
    obtain ⟨rfl, _⟩ := hv
    exact ⟨g, rfl, hg, lt_of_block hh⟩
theorem gr_rev {m : List (List Int)} {i : Nat} (h : i < m.length) : gr m.reverse i = gr m (m.length - 1 - i) := by
  rw [gr_lt (by simpa using h), gr_lt (by omega), List.getElem_reverse]

set_option maxRecDepth 100000 in
set_option maxHeartbeats 800000 in
theorem upsideDownR_any (B : Nat) (ao : Option Addr) (c : Nat) (m : List (List Int)) (vs : List Value) (w : World) (hn : m.length ≤ 1048576) (h1 : 1 ≤ m.length) (hB : B ≤ w.heap.size) (hm : OwnR w B (.slice ao m.length c) m vs) :
    Calls Tryd.prog 67 #[.slice ao m.length c] w fun e w' => ∃ v, e = .returned v ∧ OwnR w' B v m.reverse vs.reverse ∧ Below w.heap.size w w' := by
  have hmx : m.length ≤ 9223372036854775807 := by omega
  obtain ⟨b, rfl, _, _⟩ := hm.isAt h1
  have hcl := hm.cells
  have hlen := hm.len
  have Hm := Lib.hid hm
  have Hlen := Lib.hid hlen
  have Hcl := Lib.hid (sCloneM_any b 0 m.length c vs w hn hlen (fun j u hj => by have := hcl.1 j u hj; rw [Addr.add_lit] at this; exact this) hcl.2)
  have Hsl := Lib.hid (show ∀ t, t < m.length → ∃ r k d, vs.getD t undef = .slice r k d from fun t ht => by
    obtain ⟨r, d, e, _⟩ := (hm.rows t ht).read
    exact ⟨r, _, d, e⟩)
  have HB := Lib.hid hB
  clear hm hcl hlen
  go_enter Tryd.func67, Tryd.ntmps67
  go_wp2_with fail
  refine Hcl.out.mono ?_
  rintro e w1 ⟨v, rfl, hown, hb1⟩
  obtain ⟨ao', d, e1, _, _, _⟩ := ownsRow_read hown
  subst e1
  obtain ⟨g, hg, hgB⟩ : ∃ g, ao' = some ⟨g, 0, none⟩ ∧ w.heap.size ≤ g := by
    rcases hown.2 with ⟨h0, _⟩ | ⟨g, cap, cur, hv, hb, _⟩
    · simp only [Value.slice.injEq] at h0; omega
    · simp only [Value.slice.injEq] at hv
      exact ⟨g, hv.1, hb⟩
  subst hg
  have Hrv := Lib.hid (sReverseM_any w.heap.size g m.length d vs w1 hn h1 hgB Hsl.out (ownsRow_raise hown (fun k hk => by simp [Value.ownBlock] at hk; omega)))
  have Hb1 := Lib.hid hb1
  clear hown hb1
  go_wp2_with fail
  refine Hrv.out.mono ?_
  rintro e w2 ⟨rfl, hown, hb2⟩
  have Hb2 := Lib.hid (Hb1.out.trans hb2)
  have hfin : OwnR w2 B (.slice (some ⟨g, 0, none⟩) m.length d) m.reverse vs.reverse := by
    refine ⟨by rw [List.length_reverse]; exact ownsRow_base hown (Nat.le_trans HB.out hgB), fun i hi => ?_⟩
    rw [List.length_reverse] at hi
    rw [gr_rev hi]
    have := (Hm.out.rows (m.length - 1 - i) (by omega)).below Hb2.out
    simp only [List.getD] at this ⊢
    rw [List.getElem?_reverse (by rw [Hlen.out]; exact hi), Hlen.out]
    exact this
  have Hfin := Lib.hid hfin
  clear hown hb2 hfin
  go_wp2
  go_ret
  exact ⟨_, rfl, Hfin.out, Hb2.out⟩

theorem OwnR.setOther {w : World} {B B' n' : Nat} {x v : Value} {m : List (List Int)} {vs ys : List Value} {e' : TypeId} {g i : Nat} (h : OwnR w B x m vs) (k : w.ownsRow B' e' 1 v n' ys) (hv : v.ownBlock = some g) (h1 : 28 ≠ e') (h2 : 3 ≠ e') (u : Value) : OwnR (w.setCell ⟨g, i, none⟩ u) B x m vs :=
  ⟨Go.ownsRow_setCell_other h.top (fun e => row_apart h.top k h1 g e hv) u, fun j hj => Go.ownsRow_setCell_other (h.rows j hj) (fun e => row_apart (h.rows j hj) k h2 g e hv) u⟩
/-- a table is put in the place of another one -/
theorem OwnRL.set {w : World} {B g n c i : Nat} {ts : List (List (List Int))} {vs zs : List Value} {v : Value} {M : List (List Int)} (h : OwnRL w B (.slice (some ⟨g, 0, none⟩) n c) ts vs) (hi : i < ts.length) (hv : OwnR w B v M zs) :
    OwnRL (w.setCell ⟨g, i, none⟩ v) B (.slice (some ⟨g, 0, none⟩) n c) (ts.set i M) (vs.set i v) := by
  have hl := h.len
  have hn : ts.length = n := by
    obtain ⟨ao, c', e, _, _⟩ := h.head
    simp only [Value.slice.injEq] at e
    exact e.2.1.symm
  subst hn
  refine ⟨by rw [List.length_set]; exact (World.ownsRow.stored h.top i v).1, fun j hj => ?_⟩
  rw [List.length_set] at hj
  by_cases e : j = i
  · subst e
    refine ⟨zs, ?_⟩
    have e1 : (vs.set j v).getD j undef = v := by simp [List.getD, hl, hj]
    have e2 : gt (ts.set j M) j = M := by unfold gt; simp [List.getD, hj]
    rw [e1, e2]
    exact hv.setOther h.top rfl (by decide) (by decide) v
  · obtain ⟨us, hu⟩ := h.each j hj
    refine ⟨us, ?_⟩
    have e1 : (vs.set i v).getD j undef = vs.getD j undef := by simp only [List.getD]; rw [List.getElem?_set_ne (fun h => e h.symm)]
    have e2 : gt (ts.set i M) j = gt ts j := by unfold gt; simp only [List.getD]; rw [List.getElem?_set_ne (fun h => e h.symm)]
    rw [e1, e2]
    exact hu.setOther h.top rfl (by decide) (by decide) v
theorem OwnRL.isAt {w : World} {B n c : Nat} {ao : Option Addr} {ts : List (List (List Int))} {vs : List Value} (h : OwnRL w B (.slice ao n c) ts vs) (hn : 1 ≤ ts.length) : ∃ g, ao = some ⟨g, 0, none⟩ ∧ B ≤ g ∧ g < w.heap.size := by
  rcases h.top.2 with ⟨h0, h1⟩ | ⟨g, cap, cur, hv, hg, hh, _⟩
  · omega
  · simp only [Value.slice.injEq] at hv
    obtain ⟨rfl, _⟩ := hv
    exact ⟨g, rfl, hg, lt_of_block hh⟩

def flipT (t : List (List Int)) : List (List Int) := (fromTab t).reverse
/-- the first k tables turned into sign matrices -/
def mixT (T : List (List (List Int))) (k : Nat) : List (List (List Int)) := (T.take k).map flipT ++ T.drop k
theorem mixT_len (T : List (List (List Int))) (k : Nat) : (mixT T k).length = T.length := by simp [mixT]; omega
theorem mixT_zero (T : List (List (List Int))) : mixT T 0 = T := by simp [mixT]
theorem mixT_end (T : List (List (List Int))) : mixT T T.length = T.map flipT := by simp [mixT]
theorem mixT_at {T : List (List (List Int))} {k : Nat} (h : k < T.length) : gt (mixT T k) k = gt T k := by
  unfold mixT gt
  simp only [List.getD]
  rw [List.getElem?_append_right (by simp; omega), List.length_map, List.length_take, Nat.min_eq_left (by omega), Nat.sub_self, List.getElem?_drop, Nat.add_zero]
theorem mixT_set {T : List (List (List Int))} {k : Nat} (h : k < T.length) : (mixT T k).set k (flipT (gt T k)) = mixT T (k + 1) := by
  apply List.ext_getElem?
  intro i
  unfold mixT
  rw [List.getElem?_set]
  by_cases e : k = i
  · subst e
    rw [if_pos rfl, if_pos (by simp; omega), List.getElem?_append_left (by simp; omega), List.getElem?_map, List.getElem?_take_of_lt (by omega), gt_lt h, List.getElem?_eq_getElem h]
    rfl
  · rw [if_neg e]
    by_cases h2 : i < k
    · rw [List.getElem?_append_left (by simp; omega), List.getElem?_append_left (by simp; omega), List.getElem?_map, List.getElem?_map, List.getElem?_take_of_lt h2, List.getElem?_take_of_lt (by omega)]
    · rw [List.getElem?_append_right (by simp; omega), List.getElem?_append_right (by simp; omega)]
      simp only [List.length_map, List.length_take, List.getElem?_drop]
      rw [Nat.min_eq_left (by omega), Nat.min_eq_left (by omega)]
      congr 1
      omega

set_option maxRecDepth 100000 in
set_option maxHeartbeats 3200000 in
theorem allSigns_any (n : Nat) (w : World) (h1 : 1 ≤ n) (h5 : n ≤ 5) (hD : Dj w) :
    Calls Tryd.prog 38 #[.int .i64 (n : Int)] w fun e w' => ∃ v vs, e = .returned v ∧ OwnRL w' w.heap.size v (allI n) vs ∧ Below w.heap.size w w' := by
  have hcols := tris_cols n (by omega)
  have C := Lib.hid (triangles_any (n - 1) (fullR n) w (by omega) (fullR_rise (by omega)) (by rw [fullR_len]; omega) hD)
  rw [fullR_ok n (by omega)] at C
  have hTl := trisD_le (n - 1) (fullR n) (fullR_rise (by omega)) (by rw [fullR_len]; omega)
  have hTb := trB_le (n - 1) (by omega)
  obtain ⟨T, hT⟩ : ∃ T, T = trisD (n - 1) (fullR n) := ⟨_, rfl⟩
  rw [← hT] at hcols C hTl
  have HV := Lib.hid (show allI n = T.map flipT by rw [hT]; rfl)
  have Hcols := Lib.hid (show ∀ t, t ∈ T → t.length = n ∧ colsOk t from fun t ht => (hcols t ht).resolve_left (by omega))
  have hTn : T.length ≤ 1099511627776 := Nat.le_trans hTl hTb
  obtain ⟨q, hq⟩ : ∃ q : Int, q = ((2 ^ n - 1 : Nat) : Int) := ⟨_, rfl⟩
  have CA := Lib.hid (allColumns_any n w (by omega))
  rw [← hq] at C CA
  clear hcols hT hTl hTb hD hq
  go_enter Tryd.func38, Tryd.ntmps38
  go_wp2_with fail
  refine CA.out.mono ?_
  rintro e w1 ⟨rfl, rfl⟩
  go_wp2_with fail
  refine C.out.mono ?_
  rintro e w2 ⟨v, vs, rfl, hv, _, hb⟩
  obtain ⟨ta, tc, rfl, ht1, ht2⟩ := hv.head
  have Hv := Lib.hid hv
  have Hb := Lib.hid hb
  clear hv hb C CA
  go_wp2
  go_loopw [11] (fun i wr => ∃ (k : Nat) (vs : List Value), k ≤ T.length ∧ i = .int .i64 k ∧ OwnRL wr w.heap.size (.slice ta T.length tc) (mixT T k) vs ∧ Below w.heap.size w wr) (fun i _ => T.length - (intOf i).toNat)
  case atStart => exact ⟨0, vs, Nat.zero_le _, rfl, by rw [mixT_zero]; exact Hv.out, Hb.out⟩
  case round =>
    obtain ⟨k, vs, hk, rfl, hown, hbr⟩ := hrel
    clear Hv Hb
    have Hown := Lib.hid hown
    have Hbr := Lib.hid hbr
    have HBr := Lib.hid hbr.size
    by_cases hlt : k < T.length
    · obtain ⟨g, rfl, hg1, hg2⟩ := hown.isAt (by rw [mixT_len]; omega)
      obtain ⟨b1, o1, r1, d1, e1, hc1, hm1, _, _⟩ := hown.at (i := k) (by rw [mixT_len]; exact hlt)
      cases e1
      rw [Nat.zero_add] at hc1
      rw [mixT_at hlt] at hc1 hm1
      obtain ⟨hl1, hco⟩ := Hcols.out _ (gt_mem hlt)
      have CS := Lib.hid (signsOf_any r1 d1 (gt T k) wr hco hm1)
      have Hset := Lib.hid (show (mixT T k).set k (flipT (gt T k)) = mixT T (k + 1) from mixT_set hlt)
      have Hfl := Lib.hid (show (fromTab (gt T k)).length = n by rw [fromTab_len]; exact hl1)
      rw [hl1] at hc1 CS
      clear hown hbr hm1 hl1 hco
      go_wp2_with fail
      refine CS.out.mono ?_
      rintro e w3 ⟨v3, rfl, hv3, hb3⟩
      obtain ⟨sa, scp, svs, rfl, hsp, _, _⟩ := hv3.open
      have CU := Lib.hid (upsideDownR_any w.heap.size sa scp (fromTab (gt T k)) svs w3 (by rw [Hfl.out]; omega) (by rw [Hfl.out]; omega) (Nat.le_trans HBr.out hb3.size) (hsp.toR.base HBr.out))
      rw [Hfl.out] at CU ⊢
      have Hb3 := Lib.hid hb3
      clear hv3 hb3 hsp CS
      go_wp2_with fail
      refine CU.out.mono ?_
      rintro e w4 ⟨v4, rfl, hv4, hb4⟩
      have hb34 := Hb3.out.trans (hb4.mono Hb3.out.size)
      have hown4 := Hown.out.below hb34
      have hfr : w4.frozen? ⟨g, k, none⟩ = false := by
        have h := hown4.top
        rw [mixT_len] at h
        exact World.ownsRow.frozenAt h k
      have hcell : w4.cell? ⟨g, k, none⟩ = some (.slice r1 n d1) := cell_below hc1 hb34
      have hset := hown4.set (i := k) (by rw [mixT_len]; exact hlt) hv4
      rw [show (fromTab (gt T k)).reverse = flipT (gt T k) from rfl, Hset.out] at hset
      have Hs := Lib.hid hset
      have Hbs := Lib.hid ((Hbr.out.trans (hb34.mono HBr.out)).setCell (p := ⟨g, k, none⟩) hg1 v4)
      obtain ⟨va, vc, hvv, _, _, _⟩ := hv4.read
      rw [List.length_reverse, Hfl.out] at hvv
      subst hvv
      clear hv4 hb4 hb34 hown4 hset CU hc1
      go_wp2
      go_roundw
      case rel => exact ⟨k + 1, _, by omega, by go_num, Hs.out, Hbs.out⟩
      case measure => simp [intOf]; omega
    · obtain rfl : k = T.length := by omega
      rw [mixT_end, ← HV.out] at hown
      have Hown := Lib.hid hown
      clear hown hbr
      go_wp2
      go_ret
      exact ⟨_, vs, rfl, Hown.out, Hbr.out⟩
end Go.Proofs.YtjkpokpidpampaaDoor

namespace Go.Proofs.YtjkpokpidpampaaDoor

/-- numbers are a row of parts up to n -/
def DpRow (row : List Int) (n : Nat) : Prop :=
  1 ≤ row.length ∧ row.length < n ∧ (∀ i, i < row.length → 1 ≤ gi row i ∧ gi row i ≤ n) ∧ (row.length : Int) < gi row 0 ∧ ∀ i, i < row.length → 1 ≤ i → gi row i ≤ gi row (i - 1)
/-- a row can stand below another one -/
def DpBel (row above : List Int) : Prop :=
  row.length < above.length ∧ gi row 0 ≤ above.length ∧ ∀ i, i < row.length → gi row i < gi above (i + 1)
/-- rows are a descending plane partition, by the model -/
def DpGood (rows : List (List Int)) (n : Nat) : Prop :=
  rows.length ≤ n ∧ ∀ k, k < rows.length → DpRow (gr rows k) n ∧ (0 < k → DpBel (gr rows k) (gr rows (k - 1)))

/-- limits allow a row -/
def Allow (l row : List Int) : Prop :=
  1 ≤ row.length ∧ row.length ≤ l.length ∧ (row.length : Int) < gi row 0 ∧ ∀ i, i < row.length → 1 ≤ gi row i ∧ gi row i ≤ gi l i ∧ (0 < i → gi row i ≤ gi row (i - 1))
instance (l row : List Int) : Decidable (Allow l row) := by unfold Allow; exact inferInstance

def lim1 (n : Nat) : List Int := List.replicate (n - 1) (n : Int)
def limB (row : List Int) : List Int := (List.range (row.length - 1)).map fun i => min (row.length : Int) (gi row (i + 1) - 1)
def limAt (n : Nat) (rows : List (List Int)) (k : Nat) : List Int := if k = 0 then lim1 n else limB (gr rows (k - 1))
/-- the first k rows are allowed, each by the one before, by the program -/
def ChainTo (n : Nat) (rows : List (List Int)) (k : Nat) : Prop := ∀ j, j < k → Allow (limAt n rows j) (gr rows j)

theorem lim1_len (n : Nat) : (lim1 n).length = n - 1 := by simp [lim1]
theorem gi_lim1 {n i : Nat} (h : i < n - 1) : gi (lim1 n) i = n := by
  rw [gi_lt (by rw [lim1_len]; exact h)]
  simp [lim1]
theorem limB_len (row : List Int) : (limB row).length = row.length - 1 := by simp [limB]
theorem gi_limB {row : List Int} {i : Nat} (h : i < row.length - 1) : gi (limB row) i = min (row.length : Int) (gi row (i + 1) - 1) := by
  rw [gi_lt (by rw [limB_len]; exact h)]
  simp [limB]

theorem allow_first (row : List Int) {n : Nat} (hn : 1 ≤ n) : Allow (lim1 n) row ↔ DpRow row n := by
  unfold Allow DpRow
  rw [lim1_len]
  constructor
  · rintro ⟨h1, h2, h3, h4⟩
    refine ⟨h1, by omega, fun i hi => ?_, h3, fun i hi h1 => (h4 i hi).2.2 (by omega)⟩
    have := h4 i hi
    rw [gi_lim1 (by omega)] at this
    exact ⟨this.1, this.2.1⟩
  · rintro ⟨h1, h2, h3, h4, h5⟩
    refine ⟨h1, by omega, h4, fun i hi => ?_⟩
    have := h3 i hi
    rw [gi_lim1 (by omega)]
    exact ⟨this.1, this.2, fun h0 => h5 i hi h0⟩

/-- parts of a row do not rise -/
theorem DpRow.le_first {row : List Int} {n : Nat} (h : DpRow row n) : ∀ i, i < row.length → gi row i ≤ gi row 0 := by
  intro i
  induction i with
  | zero => intro _; exact Int.le_refl _
  | succ i ih =>
    intro hi
    have h1 := h.2.2.2.2 (i + 1) hi (by omega)
    have h2 := ih (by omega)
    simp only [Nat.add_sub_cancel] at h1
    omega

theorem allow_below (row above : List Int) {n : Nat} (ha : DpRow above n) : Allow (limB above) row ↔ DpRow row n ∧ DpBel row above := by
  unfold Allow
  rw [limB_len]
  constructor
  · rintro ⟨h1, h2, h3, h4⟩
    have h5 : ∀ i, i < row.length → 1 ≤ gi row i ∧ gi row i ≤ above.length ∧ gi row i < gi above (i + 1) ∧ (0 < i → gi row i ≤ gi row (i - 1)) := by
      intro i hi
      have := h4 i hi
      rw [gi_limB (by omega)] at this
      omega
    refine ⟨⟨h1, by have := ha.2.1; omega, fun i hi => ?_, h3, fun i hi h0 => (h5 i hi).2.2.2 h0⟩, by omega, (h5 0 (by omega)).2.1, fun i hi => (h5 i hi).2.2.1⟩
    have := h5 i hi
    have := ha.2.2.1 (i + 1) (by omega)
    omega
  · rintro ⟨hr, h1, h2, h3⟩
    refine ⟨hr.1, by omega, hr.2.2.2.1, fun i hi => ?_⟩
    rw [gi_limB (by omega)]
    have h4 := hr.2.2.1 i hi
    have h5 := h3 i hi
    have h6 := hr.le_first i hi
    exact ⟨h4.1, by omega, fun h0 => hr.2.2.2.2 i hi h0⟩

theorem chain_rows {n : Nat} (hn : 1 ≤ n) {rows : List (List Int)} {k : Nat} (h : ChainTo n rows k) : ∀ j, j < k → DpRow (gr rows j) n ∧ (0 < j → DpBel (gr rows j) (gr rows (j - 1))) := by
  intro j
  induction j with
  | zero =>
    intro hj
    have := h 0 hj
    simp only [limAt, if_pos] at this
    exact ⟨(allow_first _ hn).1 this, fun h0 => absurd h0 (by omega)⟩
  | succ j ih =>
    intro hj
    have h1 := ih (by omega)
    have := h (j + 1) hj
    simp only [limAt, if_neg (Nat.succ_ne_zero j), Nat.add_sub_cancel] at this
    have h2 := (allow_below _ _ h1.1).1 this
    exact ⟨h2.1, fun _ => by simpa using h2.2⟩

/-- lengths fall -/
theorem rows_fall {n k : Nat} {rows : List (List Int)} (h : ∀ j, j < k → DpRow (gr rows j) n ∧ (0 < j → DpBel (gr rows j) (gr rows (j - 1)))) : ∀ j, j < k → (gr rows j).length + j + 1 ≤ n := by
  intro j
  induction j with
  | zero => intro hj; have := (h 0 hj).1.2.1; omega
  | succ j ih =>
    intro hj
    have h1 := ih (by omega)
    have h2 := ((h (j + 1) hj).2 (by omega)).1
    simp only [Nat.add_sub_cancel] at h2
    omega

theorem good_chain {n : Nat} (hn : 1 ≤ n) (rows : List (List Int)) : DpGood rows n ↔ ChainTo n rows rows.length := by
  constructor
  · rintro ⟨_, h⟩ j hj
    unfold limAt
    by_cases e : j = 0
    · subst e
      rw [if_pos rfl]
      exact (allow_first _ hn).2 (h 0 hj).1
    · rw [if_neg e]
      exact (allow_below _ _ (h (j - 1) (by omega)).1).2 ⟨(h j hj).1, (h j hj).2 (by omega)⟩
  · intro h
    have hr := chain_rows hn h
    refine ⟨?_, hr⟩
    by_cases e : rows.length = 0
    · omega
    have h1 := rows_fall hr (rows.length - 1) (by omega)
    omega

/-- at most 5 rows of at most 5 parts -/
theorem DpGood.bounds {rows : List (List Int)} {n : Nat} (h : DpGood rows n) (hn : 1 ≤ n) : rows.length < n ∧ ∀ i, i < rows.length → (gr rows i).length < n := by
  have hf := rows_fall h.2
  refine ⟨?_, fun i hi => by have := hf i hi; omega⟩
  by_cases e : rows.length = 0
  · omega
  have := hf (rows.length - 1) (by omega)
  have h2 := (h.2 (rows.length - 1) (by omega)).1.1
  omega
end Go.Proofs.YtjkpokpidpampaaDoor

namespace Go.Proofs.YtjkpokpidpampaaDoor

/-- the sum over the numbers of a row, of what f tells of a place and a number; over some rows -/
def sumR (f : Nat → Int → Int) (row : List Int) : Int := sumF (fun i => f i (gi row i)) row.length
def sumT (f : Nat → Int → Int) (rows : List (List Int)) (k : Nat) : Int := sumF (fun j => sumR f (gr rows j)) k

def fOne (_ : Nat) (_ : Int) : Int := 1
def fSpec (i : Nat) (x : Int) : Int := if x ≤ i then 1 else 0
def fEq (n : Int) (_ : Nat) (x : Int) : Int := if x = n then 1 else 0
def fId (_ : Nat) (x : Int) : Int := x

theorem sumR_one (row : List Int) : sumR fOne row = row.length := by
  unfold sumR fOne
  generalize row.length = n
  induction n with
  | zero => rfl
  | succ n ih => simp only [sumF]; rw [ih]; omega

theorem gi_app_left {a b : List Int} {i : Nat} (h : i < a.length) : gi (a ++ b) i = gi a i := by simp [gi, List.getD, List.getElem?_append_left h]
theorem gi_app_right {a b : List Int} {i : Nat} : gi (a ++ b) (a.length + i) = gi b i := by simp [gi, List.getD, List.getElem?_append_right]
theorem sumF_app (F : Nat → Int) (a b : Nat) : sumF F (a + b) = sumF F a + sumF (fun i => F (a + i)) b := by
  induction b with
  | zero => simp [sumF]
  | succ b ih => rw [← Nat.add_assoc]; simp only [sumF]; rw [ih]; omega

/-- numbers without their places: sums over rows put together -/
theorem sumR_app (f : Int → Int) (a b : List Int) : sumR (fun _ => f) (a ++ b) = sumR (fun _ => f) a + sumR (fun _ => f) b := by
  unfold sumR
  rw [List.length_append, sumF_app]
  congr 1
  · exact sumF_congr fun i hi => by rw [gi_app_left hi]
  · exact sumF_congr fun i hi => by rw [gi_app_right]
theorem take_flat {rows : List (List Int)} {k : Nat} (h : k < rows.length) : (rows.take (k + 1)).flatten = (rows.take k).flatten ++ gr rows k := by
  rw [List.take_succ_eq_append_getElem h, List.flatten_append, gr_lt h]
  simp
theorem sumR_flat (f : Int → Int) (rows : List (List Int)) : ∀ k, k ≤ rows.length → sumR (fun _ => f) (rows.take k).flatten = sumT (fun _ => f) rows k
  | 0, _ => by simp [sumR, sumT, sumF]
  | k + 1, h => by
    rw [take_flat (by omega), sumR_app, sumR_flat f rows k (by omega)]
    rfl
theorem sumR_flatten (f : Int → Int) (rows : List (List Int)) : sumR (fun _ => f) rows.flatten = sumT (fun _ => f) rows rows.length := by
  have := sumR_flat f rows rows.length (Nat.le_refl _)
  rwa [List.take_length] at this
theorem flat_len {rows : List (List Int)} {B : Nat} (h : ∀ i, i < rows.length → (gr rows i).length ≤ B) : ∀ k, k ≤ rows.length → (rows.take k).flatten.length ≤ k * B
  | 0, _ => by simp
  | k + 1, hk => by
    rw [take_flat (by omega), List.length_append, Nat.succ_mul]
    have := flat_len h k (by omega)
    have := h k (by omega)
    omega

/-- each number tells 0 to B -/
theorem sumR_part_bd {f : Nat → Int → Int} {row : List Int} {B : Int} (h : ∀ i, i < row.length → 0 ≤ f i (gi row i) ∧ f i (gi row i) ≤ B) : ∀ k, k ≤ row.length → 0 ≤ sumF (fun i => f i (gi row i)) k ∧ sumF (fun i => f i (gi row i)) k ≤ k * B
  | 0, _ => by simp [sumF]
  | k + 1, hk => by
    have ih := sumR_part_bd h k (by omega)
    have := h k (by omega)
    simp only [sumF]
    have e : ((k + 1 : Nat) : Int) * B = k * B + B := by rw [show ((k + 1 : Nat) : Int) = (k : Int) + 1 from by omega, Int.add_mul, Int.one_mul]
    omega
theorem sumT_bd {f : Nat → Int → Int} {rows : List (List Int)} {B : Int} (h : ∀ j, j < rows.length → 0 ≤ sumR f (gr rows j) ∧ sumR f (gr rows j) ≤ B) : ∀ k, k ≤ rows.length → 0 ≤ sumT f rows k ∧ sumT f rows k ≤ k * B
  | 0, _ => by simp [sumT, sumF]
  | k + 1, hk => by
    have ih := sumT_bd h k (by omega)
    have := h k (by omega)
    unfold sumT at ih ⊢
    simp only [sumF]
    have e : ((k + 1 : Nat) : Int) * B = k * B + B := by rw [show ((k + 1 : Nat) : Int) = (k : Int) + 1 from by omega, Int.add_mul, Int.one_mul]
    omega
theorem sumT_step (f : Nat → Int → Int) (rows : List (List Int)) (k : Nat) : sumT f rows (k + 1) = sumT f rows k + sumR f (gr rows k) := rfl

/-- what is told of the parts of partitions for 6 is 0 to 6 -/
def Tells (f : Nat → Int → Int) : Prop := ∀ i x, 1 ≤ x → x ≤ 6 → 0 ≤ f i x ∧ f i x ≤ 6
theorem tells_one : Tells fOne := fun _ _ _ _ => by unfold fOne; omega
theorem tells_spec : Tells fSpec := fun i x _ _ => by unfold fSpec; by_cases h : x ≤ (i : Int) <;> simp [h]
theorem tells_eq (n : Int) : Tells (fEq n) := fun i x _ _ => by unfold fEq; by_cases h : x = n <;> simp [h]
theorem tells_id : Tells fId := fun _ x _ _ => by unfold fId; omega
theorem DpGood.row_bd {f : Nat → Int → Int} (hf : Tells f) {rows : List (List Int)} (h : DpGood rows 6) {j : Nat} (hj : j < rows.length) : ∀ k, k ≤ (gr rows j).length → 0 ≤ sumF (fun i => f i (gi (gr rows j) i)) k ∧ sumF (fun i => f i (gi (gr rows j) i)) k ≤ 30 := by
  intro k hk
  have h1 := sumR_part_bd (f := f) (row := gr rows j) (B := 6) (fun i hi => hf i _ ((h.2 j hj).1.2.2.1 i hi).1 (by have := ((h.2 j hj).1.2.2.1 i hi).2; omega)) k hk
  have := (h.bounds (by omega)).2 j hj
  omega
theorem DpGood.sum_bd {f : Nat → Int → Int} (hf : Tells f) {rows : List (List Int)} (h : DpGood rows 6) : ∀ k, k ≤ rows.length → 0 ≤ sumT f rows k ∧ sumT f rows k ≤ 150 := by
  intro k hk
  have h1 := sumT_bd (f := f) (rows := rows) (B := 30) (fun j hj => h.row_bd hf hj _ (Nat.le_refl _)) k hk
  have := (h.bounds (by omega)).1
  omega
end Go.Proofs.YtjkpokpidpampaaDoor

namespace Go.Proofs.YtjkpokpidpampaaDoor
open Go.RowKit

/-- appending a slice of integers, whatever its address, to one that the call owns -/
theorem wpList_appendI {w : World} {ops : Array Oper} {rest : List Oper} {o : Oper} {a : Act} {Q : Exit → Act → World → Prop} (hgd : o.guard = none) (s x : Operand)
    (ho : o.op = .call { callee := .builtin .append, args := #[s, x], argTypes := #[28, 28] })
    (base : Nat) (v : Value) (xs : List Int) (hs : a.eval s = v) (hown : OwnI w base v xs)
    (ao : Option Addr) (c : Nat) (ys : List Int) (hx : a.eval x = .slice ao ys.length c) (hc : ao = none → c = 0 ∧ ys = []) (hys : IntsAt w ao ys)
    (h63 : xs.length + ys.length ≤ 1048576) (hbase : base ≤ w.heap.size)
    (h : ∀ v' w', OwnI w' base v' (xs ++ ys) → w.grownBy w' v.ownBlock → Below base w w' → wpList Tryd.prog ops Q rest (a.put o.dst v') w') : wpList Tryd.prog ops Q (o :: rest) a w := by
  obtain ⟨i0, hi, hz0, hz1, hz2⟩ := info_parts Tryd.info_int
  cases ao with
  | none =>
    obtain ⟨rfl, rfl⟩ := hc rfl
    exact wpList_append_own_none hgd s x 28 ho base 3 i0 1 Tryd.underlying28 hi v xs.length _ hs hown hx (h v w (by rw [List.append_nil]; exact hown) (World.grownBy.refl _ _) (Below.refl _ _))
  | some ad =>
    refine wpList_append_own _ hgd s x 28 ho base 3 i0 (.int .i64 0) 1 8 Tryd.underlying28 hi hz0 hz1 hz2 rfl (by decide) v xs.length _ hs hown ad ys.length c (ys.map (Value.int .i64)) hx (by simp) ?_ (by intro u hu; obtain ⟨y, _, rfl⟩ := List.mem_map.1 hu; rfl) (by unfold maxLen; omega) (by omega) hbase ?_
    · intro j u hj
      have hjl : j < ys.length := by
        have := (List.getElem?_eq_some_iff.1 hj).1
        simpa using this
      obtain ⟨b, o', e, hcell⟩ := hys j hjl
      cases e
      have e : (ys.map (Value.int .i64))[j]? = some (Value.int .i64 (gi ys j)) := by simp [gi, List.getD, hjl]
      rw [e] at hj
      cases hj
      rw [Addr.add_lit]
      exact hcell
    · intro v' w' h1 h2 _
      refine h v' w' ?_ h2 (Below.grown (Below.refl _ _) h2 hbase (fun k hk => (World.ownsRow.lt hown k hk).1))
      unfold OwnI
      rw [List.length_append, List.map_append]
      exact h1

/-- rows that are empty and have no address have no room either -/
def NilRows (w : World) (ao : Option Addr) (rows : List (List Int)) : Prop := ∀ k b o r c, k < rows.length → ao = some ⟨b, o, none⟩ → w.cell? ⟨b, o + k, none⟩ = some (.slice r (gr rows k).length c) → r = none → c = 0 ∧ gr rows k = []
theorem nilRows_full {w : World} {ao : Option Addr} {rows : List (List Int)} (hm : MatAt w ao rows) (h : ∀ k, k < rows.length → 1 ≤ (gr rows k).length) : NilRows w ao rows := by
  intro k b o r c hk e hc hr
  obtain ⟨b1, o1, r1, d1, e1, hc1, hr1, _, _⟩ := hm k hk
  rw [e] at e1
  simp only [Option.some.injEq, Addr.mk.injEq, and_true] at e1
  obtain ⟨rfl, rfl⟩ := e1
  rw [hc1] at hc
  simp only [Option.some.injEq, Value.slice.injEq] at hc
  obtain ⟨b2, o2, e2, _⟩ := hr1 0 (h k hk)
  rw [hc.1, hr] at e2
  cases e2

def lenT (rows : List (List Int)) (k : Nat) : Nat := (rows.take k).flatten.length
theorem lenT_succ {rows : List (List Int)} {k : Nat} (h : k < rows.length) : lenT rows (k + 1) = lenT rows k + (gr rows k).length := by
  unfold lenT
  rw [take_flat h, List.length_append]
theorem lenT_mono {rows : List (List Int)} {k : Nat} (_h : k ≤ rows.length) : lenT rows k ≤ rows.flatten.length := by
  unfold lenT
  have := List.take_append_drop k rows
  conv => rhs; rw [← this]
  rw [List.flatten_append, List.length_append]
  omega

end Go.Proofs.YtjkpokpidpampaaDoor

namespace Go.Proofs.YtjkpokpidpampaaDoor
open Go.RowKit

theorem OwnP.more {w : World} {B : Nat} {v : Value} {M : List (List Int)} {r : List Int} {vs : List Value} (h : OwnP w B v M.length M M.length vs) : OwnP w B v M.length (M ++ [r]) M.length vs :=
  ⟨h.top, fun i hi => by rw [gr_lt (by simp; omega), List.getElem_append_left hi, ← gr_lt hi]; exact h.rows i hi, h.apart⟩
theorem gr_last (M : List (List Int)) (r : List Int) : gr (M ++ [r]) M.length = r := by
  rw [gr_lt (by simp)]
  simp
end Go.Proofs.YtjkpokpidpampaaDoor

namespace Go.Proofs.YtjkpokpidpampaaDoor
open Go.RowKit

/-- the blocks from lo up to hi are as they were -/
def Same (lo hi : Nat) (w w' : World) : Prop := ∀ g, lo ≤ g → g < hi → w'.heap[g]? = w.heap[g]?
theorem Same.refl (lo hi : Nat) (w : World) : Same lo hi w w := fun _ _ _ => rfl
theorem Same.trans {lo hi : Nat} {a b c : World} (h : Same lo hi a b) (k : Same lo hi b c) : Same lo hi a c := fun g h1 h2 => (k g h1 h2).trans (h g h1 h2)
theorem Same.of_below {lo hi B : Nat} {w w' : World} (h : Below B w w') (hB : hi ≤ B) : Same lo hi w w' := fun g _ h2 => h.block g (by omega)
theorem Same.of_grown {lo hi : Nat} {w w' : World} {row : Option Nat} (h : w.grownBy w' row) (hs : hi ≤ w.heap.size) (hr : ∀ g, row = some g → g < lo ∨ hi ≤ g) : Same lo hi w w' :=
  fun g h1 h2 => h.block g (by omega) (fun e => by have := hr g e.symm; omega)
theorem ownsRow_same {w w' : World} {B : Nat} {e : TypeId} {v : Value} {n : Nat} {xs : List Value} (h : w.ownsRow B e 1 v n xs) (hs : Same B w.heap.size w w') : w'.ownsRow B e 1 v n xs := by
  refine ⟨h.1, ?_⟩
  rcases h.2 with h0 | ⟨g, cap, cur, rfl, hg, hh, r⟩
  · exact .inl h0
  · exact .inr ⟨g, cap, cur, rfl, hg, by rw [hs g hg (lt_of_block hh)]; exact hh, r⟩
theorem OwnP.same {w w' : World} {B n k : Nat} {v : Value} {m : List (List Int)} {vs : List Value} (h : OwnP w B v n m k vs) (hs : Same B w.heap.size w w') : OwnP w' B v n m k vs :=
  ⟨ownsRow_same h.top hs, fun i hi => ownsRow_same (h.rows i hi) hs, h.apart⟩
/-- a row of an owned table: where its slice lies, and that it is owned -/
theorem OwnP.rowAt {w : World} {B n c : Nat} {ao : Option Addr} {m : List (List Int)} {vs : List Value} (h : OwnP w B (.slice ao n c) n m n vs) {i : Nat} (hi : i < n) :
    ∃ b o r d, ao = some ⟨b, o, none⟩ ∧ w.cell? ⟨b, o + i, none⟩ = some (.slice r (gr m i).length d) ∧ vs.getD i undef = .slice r (gr m i).length d ∧ OwnI w B (.slice r (gr m i).length d) (gr m i) ∧ (gr m i).length ≤ d ∧ d ≤ 9223372036854775807 := by
  obtain ⟨ao', c', hv, _, _, hcells⟩ := ownsRow_read h.top
  obtain ⟨rfl, -, rfl⟩ := (Value.slice.injEq _ _ _ _ _ _).mp hv
  obtain ⟨b, o, e, hc⟩ := hcells i hi
  have hrow := h.rows i hi
  obtain ⟨r, d, hr, h1, h2, _⟩ := hrow.read
  rw [hr] at hc hrow
  exact ⟨b, o, r, d, e, hc, hr, hrow, h1, h2⟩
theorem OwnI.same_at {w w' : World} {B n c : Nat} {ao : Option Addr} {xs : List Int} (h : OwnI w B (.slice ao n c) xs) (hs : Same B w.heap.size w w') : IntsAt w' ao xs := own_at (ownsRow_same h hs)
end Go.Proofs.YtjkpokpidpampaaDoor

