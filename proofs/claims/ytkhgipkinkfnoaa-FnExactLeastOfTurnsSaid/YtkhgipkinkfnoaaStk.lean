/- Contracts: stacked matrices, by the model's stores and by the program's copies. -/
import Derived.Test.YtkhgipkinkfnoaaInv
import Derived.Laws.CopyOwn
namespace Go.Proofs.Ytkhgipkinkfnoaa
open Go.RowKit

theorem row_get {xs : List Int} {j : Nat} (h : j < xs.length) : (xs.map (Value.int .i64))[j]? = some (.int .i64 (gi xs j)) := by simp [gi, List.getD, h]

/-- integers copied into a row of an owned grid, from place off on -/
theorem wpList_copy_grid {w : World} {ops : Array Oper} {rest : List Oper} {o : Oper} {a : Act} {QQ : Exit → Act → World → Prop} (hgd : o.guard = none) (d s : Operand)
    (ho : o.op = .call { callee := .builtin .copy, args := #[d, s], argTypes := #[29, 29] }) {B n c : Nat} {v : Value} {f : Nat → Nat → Int} {vs : List Value} (hown : OwnP w B v n (tab n c f) n vs)
    (i off : Nat) (hi : i < n) (xs : List Int) (hfit : off + xs.length ≤ c) (g cap : Nat) (hvs : vs.getD i undef = .slice (some ⟨g, 0, none⟩) c cap) (dLen dCap sCap b2 o2 : Nat)
    (hd : a.eval d = .slice (some ⟨g, off, none⟩) dLen dCap) (hmin : xs.length ≤ dLen) (hs : a.eval s = .slice (some ⟨b2, o2, none⟩) xs.length sCap) (hx : IntsAt w (some ⟨b2, o2, none⟩) xs)
    (h : ∀ w', OwnP w' B v n (tab n c fun a b => if a = i ∧ off ≤ b ∧ b < off + xs.length then gi xs (b - off) else f a b) n vs → Below B w w' → wpList Try.prog ops QQ rest (a.put o.dst (goInt xs.length)) w') :
    wpList Try.prog ops QQ (o :: rest) a w := by
  have hrow := hown.rows i hi
  have hrow0 := hrow
  rw [hvs] at hrow
  have hB : B ≤ g := (hrow0.lt g (by rw [hvs]; rfl)).1
  rcases hrow.2 with ⟨h0, _⟩ | ⟨g', cap', cur, hv2, _, hh, hnc, hcm, hcs, htk⟩
  · simp at h0
  simp only [Value.slice.injEq, Option.some.injEq, Addr.mk.injEq, and_true] at hv2
  obtain ⟨rfl, hrl, rfl⟩ := hv2
  have hlen : (gr (tab n c f) i).length = c := tab_row hi
  rw [hlen] at hnc htk
  simp only [Nat.mul_one] at hcs htk
  refine wpList_copy_own hgd d s 29 29 ho 3 Try.underlying29 (by kernel_rfl) g off dLen dCap ⟨b2, o2, none⟩ xs.length sCap hd hs cur 3 hh (xs.map (Value.int .i64)) (by rw [List.length_map]; exact (Nat.min_eq_left hmin).symm) ?_ (by rw [List.length_map]; omega) ?_ ?_
  · intro j u hu
    rw [List.getElem?_map] at hu
    cases hj : xs[j]? with
    | none => rw [hj] at hu; cases hu
    | some x =>
      rw [hj] at hu
      have hjl : j < xs.length := (List.getElem?_eq_some_iff.1 hj).1
      obtain ⟨b, o', e, hc⟩ := hx j hjl
      simp only [Option.some.injEq, Addr.mk.injEq, and_true] at e
      obtain ⟨rfl, rfl⟩ := e
      rw [Addr.add_lit, hc, ← hu]
      simp [gi, List.getD, hj]
  · intro u hu
    obtain ⟨_, _, rfl⟩ := List.mem_map.1 hu
    rfl
  have hgo : (goInt (xs.map (Value.int .i64)).length) = goInt xs.length := by rw [List.length_map]
  rw [hgo]
  have hb : Below B w (w.setRow g (cur.toList.take off ++ (xs.map (Value.int .i64) ++ cur.toList.drop (off + (xs.map (Value.int .i64)).length))).toArray) := below_setRow (Below.refl _ _) hB _
  refine h _ ⟨?_, fun a' ha => ?_, hown.apart⟩ hb
  · refine ⟨hown.top.1, ?_⟩
    rcases hown.top.2 with h0 | ⟨g', cap', cur', hv2, hg2, hh2, r⟩
    · exact .inl h0
    · refine .inr ⟨g', cap', cur', hv2, hg2, ?_, r⟩
      rw [setRow_other w g g' _ (fun e => hrow.ne_row hown.top g rfl (by rw [hv2, e]; rfl))]
      exact hh2
  · by_cases e : a' = i
    · subst e
      have hl2 : (gr (tab n c fun a b => if a = a' ∧ off ≤ b ∧ b < off + xs.length then gi xs (b - off) else f a b) a').length = c := tab_row ha
      rw [hvs]
      refine ⟨by simp, .inr ⟨g, cap, _, by rw [hl2], hB, setRow_heap w g _ _ 3 _ hh, by rw [hl2]; exact hnc, hcm, ?_, ?_⟩⟩
      · simp only [List.size_toArray, List.length_append, List.length_take, List.length_map, List.length_drop, Array.length_toList]
        omega
      · rw [hl2, Nat.mul_one]
        refine List.ext_getElem? fun j => ?_
        rw [List.getElem?_take]
        by_cases hj : j < c
        · rw [if_pos hj, row_get (xs := gr (tab n c fun a b => if a = a' ∧ off ≤ b ∧ b < off + xs.length then gi xs (b - off) else f a b) a') (by rw [hl2]; exact hj), gi_tab ha hj]
          have hcurj : ∀ t, t < c → cur.toList[t]? = some (.int .i64 (f a' t)) := by
            intro t ht
            have h1 : (cur.toList.take c)[t]? = ((gr (tab n c f) a').map (Value.int .i64))[t]? := by rw [htk]
            rw [List.getElem?_take, if_pos ht, row_get (by rw [hlen]; exact ht), gi_tab ha ht] at h1
            exact h1
          by_cases h1 : j < off
          · rw [List.getElem?_append_left (by rw [List.length_take, Array.length_toList]; omega), List.getElem?_take, if_pos h1, hcurj j hj, if_neg (fun h => by omega)]
          · have hlt : (cur.toList.take off).length = off := by rw [List.length_take, Array.length_toList]; omega
            rw [List.getElem?_append_right (by omega), hlt]
            by_cases h2 : j < off + xs.length
            · rw [List.getElem?_append_left (by rw [List.length_map]; omega), row_get (by omega), if_pos ⟨rfl, by omega, h2⟩]
            · rw [List.getElem?_append_right (by rw [List.length_map]; omega), List.getElem?_drop, List.length_map, show off + xs.length + (j - off - xs.length) = j from by omega, hcurj j hj, if_neg (fun h => by omega)]
        · rw [if_neg hj, List.getElem?_eq_none (by rw [List.length_map, hl2]; omega)]
    · have hr := hown.rows a' ha
      have e2 : gr (tab n c fun a b => if a = i ∧ off ≤ b ∧ b < off + xs.length then gi xs (b - off) else f a b) a' = gr (tab n c f) a' := by
        refine ext_gi (by rw [tab_row ha, tab_row ha]) fun b hb => ?_
        rw [tab_row ha] at hb
        rw [gi_tab ha hb, gi_tab ha hb, if_neg (fun h => e h.1)]
      rw [e2]
      refine ⟨hr.1, ?_⟩
      rcases hr.2 with h0 | ⟨g', cap', cur', hv2, hg2, hh2, r⟩
      · exact .inl h0
      · refine .inr ⟨g', cap', cur', hv2, hg2, ?_, r⟩
        rw [setRow_other w g g' _ (fun e3 => ?_)]
        · exact hh2
        · subst e3
          rcases Nat.lt_or_gt_of_ne e with hlt | hlt
          · exact hown.apart a' i hlt hi g' (by rw [hv2]; rfl) (by rw [hvs]; rfl)
          · exact hown.apart i a' hlt ha g' (by rw [hvs]; rfl) (by rw [hv2]; rfl)

/-- one matrix in the first rows and columns, another in the last ones, 0 elsewhere -/
def stF (m k : List (List Int)) (i j : Nat) : Int :=
  if i < m.length then (if j < m.length then gi (gr m i) j else 0) else if m.length ≤ j then gi (gr k (i - m.length)) (j - m.length) else 0
def st (m k : List (List Int)) : List (List Int) := tab (m.length + k.length) (m.length + k.length) (stF m k)
theorem st_len (m k : List (List Int)) : (st m k).length = m.length + k.length := tab_len _ _ _
def stackable (m k : List (List Int)) : Prop := good m ∧ good k ∧ m.length + k.length ≤ 6
theorem st_small {m k : List (List Int)} (h : stackable m k) : Small (st m k) := ⟨by rw [st_len]; have := h.2.2; omega, fun i hi => by rw [st_len] at hi; unfold st; rw [tab_row hi]; have := h.2.2; omega⟩

set_option maxHeartbeats 6400000 in
theorem implStackMatrices_any (a1 : Option Addr) (c1 : Nat) (m : List (List Int)) (a2 : Option Addr) (c2 : Nat) (k : List (List Int)) (w : World) (hsm : Small m) (hwfm : WfM m) (hmm : MatAt w a1 m) (hsk : Small k) (hwfk : WfM k) (hmk : MatAt w a2 k) :
    Calls Try.prog 52 #[.slice a1 m.length c1, .slice a2 k.length c2] w fun e w' => MRes (stackable m k) (st m k) w' w.heap.size e ∧ Below w.heap.size w w' := by
  have Hsm := Lib.hid hsm
  have Hmm := Lib.hid hmm
  have Hsk := Lib.hid hsk
  have Hmk := Lib.hid hmk
  have hmx1 : m.length ≤ 1048576 := hsm.1
  have hmx2 : k.length ≤ 1048576 := hsk.1
  clear hsm hmm hsk hmk
  have Hwfm := Lib.hid hwfm
  have Hwfk := Lib.hid hwfk
  clear hwfm hwfk

  by_cases hgm : good m
  · have Hgm := Lib.hid hgm
    clear hgm
    by_cases hgk : good k
    · have Hgk := Lib.hid hgk
      clear hgk
      have hm1 := Hgm.out.1.1
      have hm6 := Hgm.out.1.2.1
      have hk1 := Hgk.out.1.1
      have hk6 := Hgk.out.1.2.1
      by_cases hsum : m.length + k.length ≤ 6
      · have hd6 : decide ((6 : Int) < (m.length : Int) + (k.length : Int)) = false := by simp; omega
        go_enter Try.func52, Try.ntmps52
        go_wp2_with fail
        refine (implIsSign_any a1 c1 m w Hsm.out Hwfm.out Hmm.out).mono ?_
        rintro e w1 ⟨ha, hb⟩
        obtain rfl := ha.is Hgm.out
        have Hb1 := Lib.hid hb
        clear ha hb
        go_wp2_with fail
        refine (implIsSign_any a2 c2 k w1 Hsk.out Hwfk.out (Hmk.out.below Hb1.out)).mono ?_
        rintro e w2 ⟨ha, hb⟩
        obtain rfl := ha.is Hgk.out
        have Hb2 := Lib.hid (Hb1.out.trans (hb.mono Hb1.out.size))
        have hB2 := Hb2.out.size
        clear ha hb
        have hsum2 : m.length + k.length ≤ 1048576 := by omega
        go_wp2_with fail
        have hnew := newGrid_any (m.length + k.length) w2 hsum2
        rw [show ((m.length + k.length : Nat) : Int) = (m.length : Int) + (k.length : Int) from by omega] at hnew
        refine hnew.mono ?_
        clear hnew
        rintro e w3 ⟨vs, rfl, hv, hb⟩
        obtain ⟨N, hN⟩ : ∃ N, N = m.length + k.length := ⟨_, rfl⟩
        rw [← hN] at hv ⊢
        have hN6 : N ≤ 6 := by omega
        have hNm : m.length < N := by omega
        have Hv := Lib.hid hv
        have Hb := Lib.hid hb
        have HN := Lib.hid hN
        have hNk : m.length + k.length ≤ N := by omega
        have hNk2 : N ≤ m.length + k.length := by omega
        clear hv hb hN
        go_wp2
        go_loopw [35] (fun i wr => ∃ (t : Nat) (f : Nat → Nat → Int), t ≤ m.length ∧ i = .int .i64 t ∧ OwnP wr w2.heap.size (.slice (some ⟨w2.heap.size, 0, none⟩) N N) N (tab N N f) N vs ∧
            (∀ a b, a < N → b < N → f a b = if a < t then stF m k a b else 0) ∧ Below w2.heap.size w2 wr) (fun i _ => m.length - (intOf i).toNat)
        case atStart => exact ⟨0, _, Nat.zero_le _, rfl, Hv.out, fun a b _ _ => by rw [if_neg (by omega)], Hb.out⟩
        case round =>
          obtain ⟨t, f, ht, rfl, hown, heq, hbr⟩ := hrel
          clear Hv Hb
          have Heq := Lib.hid heq
          clear heq
          by_cases hlt : t < m.length
          · obtain ⟨b1, o1, r1, d1, e1, hc1, hr1, _, _⟩ := (Hmm.out.below Hb2.out).below hbr t hlt
            have hrl : (gr m t).length = m.length := Hgm.out.1.2.2 t hlt
            obtain ⟨b3, o3, e3, _⟩ := hr1 0 (by omega)
            have hd := hown.cellAt t (by omega)
            obtain ⟨g, cap, hvs, _, _, _, _⟩ := hown.at2 (i := t) (j := 0) (by omega) (by omega)
            rw [hvs] at hd
            subst e1 e3
            rw [hrl] at hc1
            have Hown := Lib.hid hown
            have Hbr := Lib.hid hbr
            have Hvs := Lib.hid hvs
            have Hr1 := Lib.hid hr1
            have Hrl := Lib.hid hrl
            clear hown hbr hvs hr1 hrl
            have H1 := Lib.hid (show t < N by omega)
            have H2 := Lib.hid (show 0 + (gr m t).length ≤ N by rw [Hrl.out]; omega)
            have H3 := Lib.hid (show (gr m t).length ≤ N by rw [Hrl.out]; omega)
            go_wp2_with ((with_reducible refine wpList_copy_grid (o := ⟨some 45, _, _, _, _, _⟩) ?gA1 (.tmp 43) (.tmp 44) ?gA2 Hown.out t 0 H1.out (gr m t) H2.out g cap Hvs.out N cap d1 b3 o3 ?gA3 H3.out ?hsA Hr1.out ?_))
            case gA1 => rfl
            case gA2 => rfl
            case gA3 => rfl
            case hsA => rw [Hrl.out]; rfl
            intro w4 hown4 hb4
            have Hown4 := Lib.hid hown4
            have Hb4 := Lib.hid (Hbr.out.trans hb4)
            clear hown4 hb4
            go_wp2
            go_roundw
            case rel =>
              refine ⟨t + 1, _, by omega, by go_num, Hown4.out, fun a b ha hb => ?_, Hb4.out⟩
              rw [Hrl.out, Heq.out a b ha hb]
              unfold stF
              by_cases e : a = t
              · subst e
                rw [if_pos (show a < a + 1 by omega), if_pos hlt, if_neg (show ¬ a < a by omega)]
                by_cases e4 : b < m.length
                · simp [e4]
                · simp [e4]
              · simp only [e, false_and, if_false]
                by_cases e5 : a < t
                · rw [if_pos e5, if_pos (show a < t + 1 by omega)]
                · rw [if_neg e5, if_neg (show ¬ a < t + 1 by omega)]
            case measure => simp [intOf]; omega
          · obtain rfl : t = m.length := by omega
            have Hown := Lib.hid hown
            have Hbr := Lib.hid hbr
            clear hown hbr
            go_wp2
            go_loopw [49] (fun i wr => ∃ (t : Nat) (f : Nat → Nat → Int), t ≤ k.length ∧ i = .int .i64 t ∧ OwnP wr w2.heap.size (.slice (some ⟨w2.heap.size, 0, none⟩) N N) N (tab N N f) N vs ∧
                (∀ a b, a < N → b < N → f a b = if a < m.length + t then stF m k a b else 0) ∧ Below w2.heap.size w2 wr) (fun i _ => k.length - (intOf i).toNat)
            case atStart => exact ⟨0, f, Nat.zero_le _, rfl, Hown.out, fun a b ha hb => by rw [Nat.add_zero]; exact Heq.out a b ha hb, Hbr.out⟩
            case round =>
              clear Hown Heq Hbr
              obtain ⟨t, f, ht, rfl, hown, heq, hbr⟩ := hrel
              have Heq := Lib.hid heq
              clear heq
              by_cases hlt : t < k.length
              · obtain ⟨b1, o1, r1, d1, e1, hc1, hr1, _, _⟩ := (Hmk.out.below Hb2.out).below hbr t hlt
                have hrl : (gr k t).length = k.length := Hgk.out.1.2.2 t hlt
                obtain ⟨b3, o3, e3, _⟩ := hr1 0 (by omega)
                have hd := hown.cellAt (m.length + t) (by omega)
                obtain ⟨g, cap, hvs, _, _, _, _⟩ := hown.at2 (i := m.length + t) (j := 0) (by omega) (by omega)
                have hrd := (hown.rows (m.length + t) (by omega)).read
                rw [hvs] at hd
                have hcapN : N ≤ cap := by
                  obtain ⟨ao, c', hv', h1, _, _⟩ := hrd
                  rw [hvs] at hv'
                  simp only [Value.slice.injEq] at hv'
                  rw [tab_row (by omega)] at h1
                  omega
                have hcne : ¬ cap = m.length := by omega
                subst e1 e3
                rw [hrl] at hc1
                have Hown := Lib.hid hown
                have Hbr := Lib.hid hbr
                have Hvs := Lib.hid hvs
                have Hr1 := Lib.hid hr1
                have Hrl := Lib.hid hrl
                clear hown hbr hvs hr1 hrl hrd
                have H1 := Lib.hid (show m.length + t < N by omega)
                have H2 := Lib.hid (show m.length + (gr k t).length ≤ N by rw [Hrl.out]; omega)
                have H3 := Lib.hid (show (gr k t).length ≤ N - m.length by rw [Hrl.out]; omega)
                go_wp2_with ((with_reducible refine wpList_copy_grid (o := ⟨some 65, _, _, _, _, _⟩) ?gB1 (.tmp 63) (.tmp 64) ?gB2 Hown.out (m.length + t) m.length H1.out (gr k t) H2.out g cap Hvs.out (N - m.length) (cap - m.length) d1 b3 o3 ?gB3 H3.out ?hsB Hr1.out ?_))
                case gB1 => rfl
                case gB2 => rfl
                case gB3 => rfl
                case hsB => rw [Hrl.out]; rfl
                intro w4 hown4 hb4
                have Hown4 := Lib.hid hown4
                have Hb4 := Lib.hid (Hbr.out.trans hb4)
                clear hown4 hb4
                go_wp2
                go_roundw
                case rel =>
                  refine ⟨t + 1, _, by omega, by go_num, Hown4.out, fun a b ha hb => ?_, Hb4.out⟩
                  rw [Hrl.out, Heq.out a b ha hb]
                  unfold stF
                  by_cases e : a = m.length + t
                  · subst e
                    rw [if_pos (show m.length + t < m.length + (t + 1) by omega), if_neg (show ¬ m.length + t < m.length by omega), if_neg (show ¬ m.length + t < m.length + t by omega), show m.length + t - m.length = t from by omega]
                    by_cases e4 : m.length ≤ b
                    · have e6 : b < m.length + k.length := by omega
                      simp [e4, e6]
                    · simp [e4]
                  · simp only [e, false_and, if_false]
                    by_cases e5 : a < m.length + t
                    · rw [if_pos e5, if_pos (show a < m.length + (t + 1) by omega)]
                    · rw [if_neg e5, if_neg (show ¬ a < m.length + (t + 1) by omega)]
                case measure => simp [intOf]; omega
              · obtain rfl : t = k.length := by omega
                have e : st m k = tab N N f := eq_tab (by rw [st_len, ← HN.out]) (fun i hi => by unfold st; rw [tab_row (by omega), ← HN.out]) (fun i j hi hj => by
                  unfold st
                  rw [gi_tab (by omega) (by omega), Heq.out i j hi hj, if_pos (by omega)])
                have hfin : OwnM wr w.heap.size (.slice (some ⟨w2.heap.size, 0, none⟩) N N) (st m k) := OwnM.base ⟨vs, by rw [st_len, ← HN.out, e]; exact hown⟩ hB2
                have Hfin := Lib.hid hfin
                have Hbr := Lib.hid (Hb2.out.trans (hbr.mono hB2))
                clear hown hbr e hfin
                go_wp2
                go_ret2
                exact ⟨MRes.yes ⟨Hgm.out, Hgk.out, hsum⟩ Hfin.out, Hbr.out⟩
      · have hd6 : decide ((6 : Int) < (m.length : Int) + (k.length : Int)) = true := by simp; omega
        go_enter Try.func52, Try.ntmps52
        go_wp2_with fail
        refine (implIsSign_any a1 c1 m w Hsm.out Hwfm.out Hmm.out).mono ?_
        rintro e w1 ⟨ha, hb⟩
        obtain rfl := ha.is Hgm.out
        have Hb1 := Lib.hid hb
        clear ha hb
        go_wp2_with fail
        refine (implIsSign_any a2 c2 k w1 Hsk.out Hwfk.out (Hmk.out.below Hb1.out)).mono ?_
        rintro e w2 ⟨ha, hb⟩
        obtain rfl := ha.is Hgk.out
        have Hb2 := Lib.hid (Hb1.out.trans (hb.mono Hb1.out.size))
        clear ha hb
        go_wp2
        go_ret2
        exact ⟨MRes.no fun h => hsum h.2.2, Hb2.out⟩
    · have Hgk := Lib.hid hgk
      clear hgk
      go_enter Try.func52, Try.ntmps52
      go_wp2_with fail
      refine (implIsSign_any a1 c1 m w Hsm.out Hwfm.out Hmm.out).mono ?_
      rintro e w1 ⟨ha, hb⟩
      obtain rfl := ha.is Hgm.out
      have Hb1 := Lib.hid hb
      clear ha hb
      go_wp2_with fail
      refine (implIsSign_any a2 c2 k w1 Hsk.out Hwfk.out (Hmk.out.below Hb1.out)).mono ?_
      rintro e w2 ⟨ha, hb⟩
      obtain rfl := ha.isnt Hgk.out
      have Hb2 := Lib.hid (Hb1.out.trans (hb.mono Hb1.out.size))
      clear ha hb
      go_wp2
      go_ret2
      exact ⟨MRes.no fun h => Hgk.out h.2.1, Hb2.out⟩
  · have Hgm := Lib.hid hgm
    clear hgm
    go_enter Try.func52, Try.ntmps52
    go_wp2_with fail
    refine (implIsSign_any a1 c1 m w Hsm.out Hwfm.out Hmm.out).mono ?_
    rintro e w1 ⟨ha, hb⟩
    obtain rfl := ha.isnt Hgm.out
    have Hb1 := Lib.hid hb
    clear ha hb
    go_wp2
    go_ret2
    exact ⟨MRes.no fun h => Hgm.out h.1, Hb1.out⟩
end Go.Proofs.Ytkhgipkinkfnoaa
