/- Contracts: AllDescending, by both sides. Condition: an int. -/
import Derived.Test.YtfempacfaeknpaaDpZ
import Derived.Test.YtfempacfaeknpaaLawC
namespace Go.Proofs.Ytfempacfaeknpaa
open Go.RowKit

theorem allP_tot : ∀ n : Nat, n < 5 → ∀ p, p ∈ allP n → tot p p.length ≤ 1000 := by decide +kernel
theorem allP_small3 {n : Nat} (hn : n < 5) : Small3 (allP n) :=
  ⟨by have := (allP_few n hn).1; omega, fun _ hi => ⟨allP_small hn (gt_mem hi), allP_tot n hn _ (gt_mem hi)⟩⟩

set_option maxRecDepth 100000 in
set_option maxHeartbeats 1600000 in
theorem implAllDescending_any (n : Int) (w : World) (_hn : -9223372036854775808 ≤ n ∧ n ≤ 9223372036854775807) :
    Calls Try.prog 24 #[.int .i64 n] w fun e w' => TRes (1 ≤ n ∧ n ≤ 4) (allP n.toNat) w' w.heap.size e ∧ Below w.heap.size w w' := by
  have C := Lib.hid (isListed_any n w)
  by_cases p : 1 ≤ n ∧ n ≤ 4
  · obtain ⟨k, rfl⟩ : ∃ k : Nat, n = (k : Int) := ⟨n.toNat, by omega⟩
    rw [Int.toNat_natCast]
    have Hp := Lib.hid p
    have C1 := Lib.hid (fun w => firstLimits_any k w (by omega) (by omega))
    have C2 := Lib.hid (fun a c w h => planesN_any k (by omega) (by omega) a c w h)
    obtain ⟨A, hA⟩ : ∃ A, A = allP k := ⟨_, rfl⟩
    rw [← hA] at C2 ⊢
    obtain ⟨L, hL⟩ : ∃ L, L = lim1 k := ⟨_, rfl⟩
    rw [← hL] at C1 C2
    clear p hA hL
    go_enter Try.func24, Try.ntmps24
    go_wp2_with fail
    refine C.out.mono ?_
    rintro e w1 ⟨ha, hb⟩
    obtain rfl := ha.is Hp.out
    have HB := Lib.hid hb
    clear ha hb
    go_wp2_with fail
    refine (C1.out w1).mono ?_
    rintro e w2 ⟨v, rfl, hv, hb⟩
    obtain ⟨la, lc, rfl, _, _, hI⟩ := hv.read
    have HI := Lib.hid hI
    have HB2 := Lib.hid (HB.out.trans (hb.mono HB.out.size))
    clear hv hb hI HB
    go_wp2_with fail
    refine (C2.out la lc w2 HI.out).mono ?_
    rintro e w3 ⟨v, vs, uss, rfl, hv, hb⟩
    have HV := Lib.hid (show OwnLM w3 w.heap.size v A from ⟨vs, uss, hv.base HB2.out.size⟩)
    have HB3 := Lib.hid (HB2.out.trans (hb.mono HB2.out.size))
    clear hv hb HB2
    go_wp2
    go_ret2
    exact ⟨TRes.yes Hp.out HV.out, HB3.out⟩
  · have Hp := Lib.hid p
    clear p
    go_enter Try.func24, Try.ntmps24
    go_wp2_with fail
    refine C.out.mono ?_
    rintro e w1 ⟨ha, hb⟩
    obtain rfl := ha.isnt Hp.out
    have HB := Lib.hid hb
    clear ha hb
    go_wp2
    go_ret2
    exact ⟨TRes.no Hp.out, HB.out⟩

/-- a table, written out in a list of one, is appended to a list that is only read -/
theorem wpList_tabW {w : World} {ops : Array Oper} {rest : List Oper} {o : Oper} {a : Act} {Q : Exit → Act → World → Prop} (hgd : o.guard = none) (s x : Operand)
    (ho : o.op = .call { callee := .builtin .append, args := #[s, x], argTypes := #[29, 29] })
    (B B' : Nat) (v u : Value) (m : List (List (List Int))) (vs : List Value) (t : List (List Int)) (us : List Value) (h : OwnW w B v m vs) (hu : OwnV w B' u t us) (hs : a.eval s = v) (hx : a.eval x = .slice (some ⟨w.heap.size, 0, none⟩) 1 1)
    (hB : B ≤ w.heap.size) (hl : m.length < 5860000000000)
    (K : ∀ v' w1, OwnW w1 B v' (m ++ [t]) (vs ++ [u]) → (w.alloc (.cells #[u] 22)).grownBy w1 v.ownBlock → Below B w w1 → (v'.ownBlock = v.ownBlock ∨ v'.ownBlock = some (w.heap.size + 1)) → wpList Try.prog ops Q rest (a.put o.dst v') w1) : wpList Try.prog ops Q (o :: rest) a (w.alloc (.cells #[u] 22)) := by
  obtain ⟨j0, hj, hy0, hy1, hy2⟩ := info_parts Try.info_intssW
  refine wpList_append_own_at _ hgd s x 29 ho B 22 j0 (.slice none 0 0) 1 24 Try.underlying29 hj hy0 hy1 hy2 rfl (by decide) v m.length _ hs (World.ownsRow.alloc h.top _) ⟨w.heap.size, 0, none⟩ 1 1 [u] hx rfl ?_ ?_ (by unfold maxLen; omega) (by omega) (by simp; omega) ?_
  · exact cell_one_new _ _ _
  · intro z hz; simp at hz; subst hz; obtain ⟨_, _, e, _⟩ := hu.read; rw [e]; rfl
  · intro v' w1 h1 h2 _ h5
    have h5' : v'.ownBlock = v.ownBlock ∨ v'.ownBlock = some (w.heap.size + 1) := by simpa using h5
    have hb : Below w.heap.size w (w.alloc (.cells #[u] 22)) := (Below.refl _ _).alloc (Nat.le_refl _) _
    have ho := h.below hb
    refine K v' w1 (ho.join (us := [u]) (ks := [t]) (by simp) (fun i hi => ?_) h1 h2) h2 (Below.grown ((Below.refl B w).alloc hB _) h2 (by simp; omega) (fun k hk => (World.ownsRow.lt h.top k hk).1)) h5'
    obtain rfl : i = 0 := by simp at hi; omega
    exact ⟨us, (hu.below hb).base (Nat.zero_le _)⟩
theorem OwnW.keptS {w w1 : World} {B B' n' : Nat} {x v : Value} {ts : List (List (List Int))} {vs ys : List Value} (h : OwnW w B x ts vs) (k : w.ownsRow B' 22 1 v n' ys) (hne : ∀ g, v.ownBlock = some g → x.ownBlock ≠ some g) (hg : w.grownBy w1 v.ownBlock) : OwnW w1 B x ts vs := by
  refine ⟨World.ownsRow.kept h.top hg ?_, fun i hi => ⟨_, (h.each i hi).choose_spec.kept k (by decide) (by decide) hg⟩⟩
  cases hb : x.ownBlock with
  | none => exact .inl rfl
  | some g => exact .inr (fun e => hne g e.symm hb)

set_option maxRecDepth 100000 in
set_option maxHeartbeats 3200000 in
theorem specAllDescending_any (n : Int) (w : World) (_hn : -9223372036854775808 ≤ n ∧ n ≤ 9223372036854775807) :
    Calls Try.prog 23 #[.int .i64 n] w fun e w' => TVRes (1 ≤ n ∧ n ≤ 4) (allP n.toNat) w' e ∧ Below w.heap.size w w' := by
  have C := Lib.hid (dpSmall_any n w)
  by_cases p : 1 ≤ n ∧ n ≤ 4
  · obtain ⟨k, rfl⟩ : ∃ k : Nat, n = (k : Int) := ⟨n.toNat, by omega⟩
    rw [Int.toNat_natCast]
    have Hp := Lib.hid p
    have C1 := Lib.hid (dpAllN_any k (by omega) (by omega) w)
    have hl := (allP_few k (by omega)).1
    have Hsm := Lib.hid (fun p (hp : p ∈ allP k) => allP_small (n := k) (by omega) hp)
    obtain ⟨A, hA⟩ : ∃ A, A = allP k := ⟨_, rfl⟩
    rw [← hA] at C1 hl Hsm ⊢
    have hAm : A.length ≤ 9223372036854775807 := by omega
    clear p hA
    go_enter Try.func23, Try.ntmps23
    go_wp2_with fail
    refine C.out.mono ?_
    rintro e w1 ⟨ha, rfl⟩
    obtain rfl := ha.is Hp.out
    clear ha
    go_wp2_with fail
    refine C1.out.mono ?_
    rintro e w3 ⟨v, vs, rfl, hv, hb⟩
    obtain ⟨pa, pc, rfl, _, _⟩ := hv.head
    have HV := Lib.hid hv
    have HB3 := Lib.hid hb
    have HBz := Lib.hid hb.size
    clear hv hb
    go_wp2
    go_loopw [4, 13] (fun out i wr => ∃ (j : Nat) (us : List Value), j ≤ A.length ∧ i = .int .i64 j ∧ OwnW wr w3.heap.size out (A.take j) us ∧ Below w3.heap.size w3 wr) (fun _ i _ => A.length - (intOf i).toNat)
    case atStart => exact ⟨0, [], Nat.zero_le _, rfl, OwnW.nil _ _, Below.refl _ _⟩
    case round =>
      obtain ⟨j, us, hj, rfl, hown, hbr⟩ := hrel
      have Hown := Lib.hid hown
      have Hbr := Lib.hid hbr
      have HBr := Lib.hid hbr.size
      clear hown hbr
      by_cases hlt : j < A.length
      · obtain ⟨b1, o1, r1, d1, e1, hc1, hm1, hz1, _, _⟩ := (HV.out.below Hbr.out).at2 hlt
        have CO := Lib.hid (dpOwn_any r1 d1 (gt A j) wr (Hsm.out _ (gt_mem hlt)) hm1 hz1)
        have hgl : (gt A j).length ≤ 9223372036854775807 := by have := (Hsm.out _ (gt_mem hlt)).1; omega
        have Hst := Lib.hid (show A.take (j + 1) = A.take j ++ [gt A j] by rw [List.take_succ_eq_append_getElem hlt, gt_lt hlt])
        have Htl := Lib.hid (show (A.take j).length < 5860000000000 by rw [List.length_take]; omega)
        obtain ⟨G, hG⟩ : ∃ G, G = gt A j := ⟨_, rfl⟩
        rw [← hG] at hc1 CO hgl Hst
        obtain ⟨T, hT⟩ : ∃ T, T = A.take j := ⟨_, rfl⟩
        rw [← hT] at Hst Hown Htl
        subst e1
        clear hm1 hz1 hG hT
        go_wp2_with fail
        refine CO.out.mono ?_
        rintro e w5 ⟨v, ns, rfl, hv, hb⟩
        obtain ⟨na, nc, hnv, _, _, _⟩ := hv.read
        subst hnv
        have HN := Lib.hid hv
        have Hown5 := Lib.hid (Hown.out.below hb)
        have HB5 := Lib.hid (Hbr.out.trans (hb.mono HBr.out))
        clear hv hb
        go_wp2_with (at_builtin; refine wpList_tabW rfl _ _ rfl w3.heap.size wr.heap.size _ _ T us G ns Hown5.out HN.out rfl rfl HB5.out.size Htl.out ?_)
        intro v8 w8 hown8 _ hb8 _
        rw [← Hst.out] at hown8
        have Hown8 := Lib.hid hown8
        have HB8 := Lib.hid (HB5.out.trans hb8)
        clear hown8 hb8
        go_wp2
        go_roundw
        case rel => exact ⟨j + 1, _, by omega, by go_num, Hown8.out, HB8.out⟩
        case measure => simp [intOf]; omega
      · obtain rfl : j = A.length := by omega
        have HF := Lib.hid (show ReadsL wr _ A from by have := Hown.out.reads; rw [List.take_length] at this; exact this)
        have HB6 := Lib.hid (HB3.out.trans (Hbr.out.mono HBz.out))
        clear Hown
        go_wp2
        go_ret2
        exact ⟨TVRes.yes Hp.out HF.out, HB6.out⟩
  · have Hp := Lib.hid p
    clear p
    go_enter Try.func23, Try.ntmps23
    go_wp2_with fail
    refine C.out.mono ?_
    rintro e w1 ⟨ha, rfl⟩
    obtain rfl := ha.isnt Hp.out
    clear ha
    go_wp2
    go_ret2
    exact ⟨TVRes.no Hp.out, Below.refl _ _⟩
end Go.Proofs.Ytfempacfaeknpaa
