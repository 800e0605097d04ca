/- A law for copies into a row of an owned grid. -/
import Derived.Test.YtnhkclnloiiihaaZero
import Derived.Laws.CopyOwn
namespace Go.Proofs.Ytnhkclnloiiihaa
open Go.RowKit

theorem row_get {xs : List Int} {j : Nat} (h : j < xs.length) : (xs.map (Value.int .i64))[j]? = some (.int .i64 (gi xs j)) := by simp [gi, List.getD, h]

/-- integers copied into a row of an owned grid, from place off on -/
theorem wpList_copy_grid {w : World} {ops : Array Oper} {rest : List Oper} {o : Oper} {a : Act} {QQ : Exit → Act → World → Prop} (hgd : o.guard = none) (d s : Operand)
    (ho : o.op = .call { callee := .builtin .copy, args := #[d, s], argTypes := #[24, 24] }) {B n c : Nat} {v : Value} {f : Nat → Nat → Int} {vs : List Value} (hown : OwnP w B v n (tab n c f) n vs)
    (i off : Nat) (hi : i < n) (xs : List Int) (hfit : off + xs.length ≤ c) (g cap : Nat) (hvs : vs.getD i undef = .slice (some ⟨g, 0, none⟩) c cap) (dLen dCap sCap b2 o2 : Nat)
    (hd : a.eval d = .slice (some ⟨g, off, none⟩) dLen dCap) (hmin : xs.length ≤ dLen) (hs : a.eval s = .slice (some ⟨b2, o2, none⟩) xs.length sCap) (hx : IntsAt w (some ⟨b2, o2, none⟩) xs)
    (h : ∀ w', OwnP w' B v n (tab n c fun a b => if a = i ∧ off ≤ b ∧ b < off + xs.length then gi xs (b - off) else f a b) n vs → Below B w w' → wpList Try.prog ops QQ rest (a.put o.dst (goInt xs.length)) w') :
    wpList Try.prog ops QQ (o :: rest) a w := by
  have hrow := hown.rows i hi
  have hrow0 := hrow
  rw [hvs] at hrow
  have hB : B ≤ g := (hrow0.lt g (by rw [hvs]; rfl)).1
  rcases hrow.2 with ⟨h0, _⟩ | ⟨g', cap', cur, hv2, _, hh, hnc, hcm, hcs, htk⟩
  · simp at h0
  simp only [Value.slice.injEq, Option.some.injEq, Addr.mk.injEq, and_true] at hv2
  obtain ⟨rfl, hrl, rfl⟩ := hv2
  have hlen : (gr (tab n c f) i).length = c := tab_row hi
  rw [hlen] at hnc htk
  simp only [Nat.mul_one] at hcs htk
  refine wpList_copy_own hgd d s 24 24 ho 3 Try.underlying24 (by kernel_rfl) g off dLen dCap ⟨b2, o2, none⟩ xs.length sCap hd hs cur 3 hh (xs.map (Value.int .i64)) (by rw [List.length_map]; exact (Nat.min_eq_left hmin).symm) ?_ (by rw [List.length_map]; omega) ?_ ?_
  · intro j u hu
    rw [List.getElem?_map] at hu
    cases hj : xs[j]? with
    | none => rw [hj] at hu; cases hu
    | some x =>
      rw [hj] at hu
      have hjl : j < xs.length := (List.getElem?_eq_some_iff.1 hj).1
      obtain ⟨b, o', e, hc⟩ := hx j hjl
      simp only [Option.some.injEq, Addr.mk.injEq, and_true] at e
      obtain ⟨rfl, rfl⟩ := e
      rw [Addr.add_lit, hc, ← hu]
      simp [gi, List.getD, hj]
  · intro u hu
    obtain ⟨_, _, rfl⟩ := List.mem_map.1 hu
    rfl
  have hgo : (goInt (xs.map (Value.int .i64)).length) = goInt xs.length := by rw [List.length_map]
  rw [hgo]
  have hb : Below B w (w.setRow g (cur.toList.take off ++ (xs.map (Value.int .i64) ++ cur.toList.drop (off + (xs.map (Value.int .i64)).length))).toArray) := below_setRow (Below.refl _ _) hB _
  refine h _ ⟨?_, fun a' ha => ?_, hown.apart⟩ hb
  · refine ⟨hown.top.1, ?_⟩
    rcases hown.top.2 with h0 | ⟨g', cap', cur', hv2, hg2, hh2, r⟩
    · exact .inl h0
    · refine .inr ⟨g', cap', cur', hv2, hg2, ?_, r⟩
      rw [setRow_other w g g' _ (fun e => hrow.ne_row hown.top g rfl (by rw [hv2, e]; rfl))]
      exact hh2
  · by_cases e : a' = i
    · subst e
      have hl2 : (gr (tab n c fun a b => if a = a' ∧ off ≤ b ∧ b < off + xs.length then gi xs (b - off) else f a b) a').length = c := tab_row ha
      rw [hvs]
      refine ⟨by simp, .inr ⟨g, cap, _, by rw [hl2], hB, setRow_heap w g _ _ 3 _ hh, by rw [hl2]; exact hnc, hcm, ?_, ?_⟩⟩
      · simp only [List.size_toArray, List.length_append, List.length_take, List.length_map, List.length_drop, Array.length_toList]
        omega
      · rw [hl2, Nat.mul_one]
        refine List.ext_getElem? fun j => ?_
        rw [List.getElem?_take]
        by_cases hj : j < c
        · rw [if_pos hj, row_get (xs := gr (tab n c fun a b => if a = a' ∧ off ≤ b ∧ b < off + xs.length then gi xs (b - off) else f a b) a') (by rw [hl2]; exact hj), gi_tab ha hj]
          have hcurj : ∀ t, t < c → cur.toList[t]? = some (.int .i64 (f a' t)) := by
            intro t ht
            have h1 : (cur.toList.take c)[t]? = ((gr (tab n c f) a').map (Value.int .i64))[t]? := by rw [htk]
            rw [List.getElem?_take, if_pos ht, row_get (by rw [hlen]; exact ht), gi_tab ha ht] at h1
            exact h1
          by_cases h1 : j < off
          · rw [List.getElem?_append_left (by rw [List.length_take, Array.length_toList]; omega), List.getElem?_take, if_pos h1, hcurj j hj, if_neg (fun h => by omega)]
          · have hlt : (cur.toList.take off).length = off := by rw [List.length_take, Array.length_toList]; omega
            rw [List.getElem?_append_right (by omega), hlt]
            by_cases h2 : j < off + xs.length
            · rw [List.getElem?_append_left (by rw [List.length_map]; omega), row_get (by omega), if_pos ⟨rfl, by omega, h2⟩]
            · rw [List.getElem?_append_right (by rw [List.length_map]; omega), List.getElem?_drop, List.length_map, show off + xs.length + (j - off - xs.length) = j from by omega, hcurj j hj, if_neg (fun h => by omega)]
        · rw [if_neg hj, List.getElem?_eq_none (by rw [List.length_map, hl2]; omega)]
    · have hr := hown.rows a' ha
      have e2 : gr (tab n c fun a b => if a = i ∧ off ≤ b ∧ b < off + xs.length then gi xs (b - off) else f a b) a' = gr (tab n c f) a' := by
        refine ext_gi (by rw [tab_row ha, tab_row ha]) fun b hb => ?_
        rw [tab_row ha] at hb
        rw [gi_tab ha hb, gi_tab ha hb, if_neg (fun h => e h.1)]
      rw [e2]
      refine ⟨hr.1, ?_⟩
      rcases hr.2 with h0 | ⟨g', cap', cur', hv2, hg2, hh2, r⟩
      · exact .inl h0
      · refine .inr ⟨g', cap', cur', hv2, hg2, ?_, r⟩
        rw [setRow_other w g g' _ (fun e3 => ?_)]
        · exact hh2
        · subst e3
          rcases Nat.lt_or_gt_of_ne e with hlt | hlt
          · exact hown.apart a' i hlt hi g' (by rw [hv2]; rfl) (by rw [hvs]; rfl)
          · exact hown.apart i a' hlt ha g' (by rw [hvs]; rfl) (by rw [hv2]; rfl)


/-- integers copied into a row of an owned grid, from place off on; what is copied from may be longer -/
theorem wpList_copy_grid2 {w : World} {ops : Array Oper} {rest : List Oper} {o : Oper} {a : Act} {QQ : Exit → Act → World → Prop} (hgd : o.guard = none) (d s : Operand)
    (ho : o.op = .call { callee := .builtin .copy, args := #[d, s], argTypes := #[24, 24] }) {B n c : Nat} {v : Value} {f : Nat → Nat → Int} {vs : List Value} (hown : OwnP w B v n (tab n c f) n vs)
    (i off : Nat) (hi : i < n) (xs : List Int) (hfit : off + xs.length ≤ c) (g cap : Nat) (hvs : vs.getD i undef = .slice (some ⟨g, 0, none⟩) c cap) (dLen dCap sLen sCap b2 o2 : Nat)
    (hd : a.eval d = .slice (some ⟨g, off, none⟩) dLen dCap) (hmin : xs.length = Nat.min sLen dLen) (hs : a.eval s = .slice (some ⟨b2, o2, none⟩) sLen sCap) (hx : IntsAt w (some ⟨b2, o2, none⟩) xs)
    (h : ∀ w', OwnP w' B v n (tab n c fun a b => if a = i ∧ off ≤ b ∧ b < off + xs.length then gi xs (b - off) else f a b) n vs → Below B w w' → wpList Try.prog ops QQ rest (a.put o.dst (goInt xs.length)) w') :
    wpList Try.prog ops QQ (o :: rest) a w := by
  have hrow := hown.rows i hi
  have hrow0 := hrow
  rw [hvs] at hrow
  have hB : B ≤ g := (hrow0.lt g (by rw [hvs]; rfl)).1
  rcases hrow.2 with ⟨h0, _⟩ | ⟨g', cap', cur, hv2, _, hh, hnc, hcm, hcs, htk⟩
  · simp at h0
  simp only [Value.slice.injEq, Option.some.injEq, Addr.mk.injEq, and_true] at hv2
  obtain ⟨rfl, hrl, rfl⟩ := hv2
  have hlen : (gr (tab n c f) i).length = c := tab_row hi
  rw [hlen] at hnc htk
  simp only [Nat.mul_one] at hcs htk
  refine wpList_copy_own hgd d s 24 24 ho 3 Try.underlying24 (by kernel_rfl) g off dLen dCap ⟨b2, o2, none⟩ sLen sCap hd hs cur 3 hh (xs.map (Value.int .i64)) (by rw [List.length_map]; exact hmin) ?_ (by rw [List.length_map]; omega) ?_ ?_
  · intro j u hu
    rw [List.getElem?_map] at hu
    cases hj : xs[j]? with
    | none => rw [hj] at hu; cases hu
    | some x =>
      rw [hj] at hu
      have hjl : j < xs.length := (List.getElem?_eq_some_iff.1 hj).1
      obtain ⟨b, o', e, hc⟩ := hx j hjl
      simp only [Option.some.injEq, Addr.mk.injEq, and_true] at e
      obtain ⟨rfl, rfl⟩ := e
      rw [Addr.add_lit, hc, ← hu]
      simp [gi, List.getD, hj]
  · intro u hu
    obtain ⟨_, _, rfl⟩ := List.mem_map.1 hu
    rfl
  have hgo : (goInt (xs.map (Value.int .i64)).length) = goInt xs.length := by rw [List.length_map]
  rw [hgo]
  have hb : Below B w (w.setRow g (cur.toList.take off ++ (xs.map (Value.int .i64) ++ cur.toList.drop (off + (xs.map (Value.int .i64)).length))).toArray) := below_setRow (Below.refl _ _) hB _
  refine h _ ⟨?_, fun a' ha => ?_, hown.apart⟩ hb
  · refine ⟨hown.top.1, ?_⟩
    rcases hown.top.2 with h0 | ⟨g', cap', cur', hv2, hg2, hh2, r⟩
    · exact .inl h0
    · refine .inr ⟨g', cap', cur', hv2, hg2, ?_, r⟩
      rw [setRow_other w g g' _ (fun e => hrow.ne_row hown.top g rfl (by rw [hv2, e]; rfl))]
      exact hh2
  · by_cases e : a' = i
    · subst e
      have hl2 : (gr (tab n c fun a b => if a = a' ∧ off ≤ b ∧ b < off + xs.length then gi xs (b - off) else f a b) a').length = c := tab_row ha
      rw [hvs]
      refine ⟨by simp, .inr ⟨g, cap, _, by rw [hl2], hB, setRow_heap w g _ _ 3 _ hh, by rw [hl2]; exact hnc, hcm, ?_, ?_⟩⟩
      · simp only [List.size_toArray, List.length_append, List.length_take, List.length_map, List.length_drop, Array.length_toList]
        omega
      · rw [hl2, Nat.mul_one]
        refine List.ext_getElem? fun j => ?_
        rw [List.getElem?_take]
        by_cases hj : j < c
        · rw [if_pos hj, row_get (xs := gr (tab n c fun a b => if a = a' ∧ off ≤ b ∧ b < off + xs.length then gi xs (b - off) else f a b) a') (by rw [hl2]; exact hj), gi_tab ha hj]
          have hcurj : ∀ t, t < c → cur.toList[t]? = some (.int .i64 (f a' t)) := by
            intro t ht
            have h1 : (cur.toList.take c)[t]? = ((gr (tab n c f) a').map (Value.int .i64))[t]? := by rw [htk]
            rw [List.getElem?_take, if_pos ht, row_get (by rw [hlen]; exact ht), gi_tab ha ht] at h1
            exact h1
          by_cases h1 : j < off
          · rw [List.getElem?_append_left (by rw [List.length_take, Array.length_toList]; omega), List.getElem?_take, if_pos h1, hcurj j hj, if_neg (fun h => by omega)]
          · have hlt : (cur.toList.take off).length = off := by rw [List.length_take, Array.length_toList]; omega
            rw [List.getElem?_append_right (by omega), hlt]
            by_cases h2 : j < off + xs.length
            · rw [List.getElem?_append_left (by rw [List.length_map]; omega), row_get (by omega), if_pos ⟨rfl, by omega, h2⟩]
            · rw [List.getElem?_append_right (by rw [List.length_map]; omega), List.getElem?_drop, List.length_map, show off + xs.length + (j - off - xs.length) = j from by omega, hcurj j hj, if_neg (fun h => by omega)]
        · rw [if_neg hj, List.getElem?_eq_none (by rw [List.length_map, hl2]; omega)]
    · have hr := hown.rows a' ha
      have e2 : gr (tab n c fun a b => if a = i ∧ off ≤ b ∧ b < off + xs.length then gi xs (b - off) else f a b) a' = gr (tab n c f) a' := by
        refine ext_gi (by rw [tab_row ha, tab_row ha]) fun b hb => ?_
        rw [tab_row ha] at hb
        rw [gi_tab ha hb, gi_tab ha hb, if_neg (fun h => e h.1)]
      rw [e2]
      refine ⟨hr.1, ?_⟩
      rcases hr.2 with h0 | ⟨g', cap', cur', hv2, hg2, hh2, r⟩
      · exact .inl h0
      · refine .inr ⟨g', cap', cur', hv2, hg2, ?_, r⟩
        rw [setRow_other w g g' _ (fun e3 => ?_)]
        · exact hh2
        · subst e3
          rcases Nat.lt_or_gt_of_ne e with hlt | hlt
          · exact hown.apart a' i hlt hi g' (by rw [hv2]; rfl) (by rw [hvs]; rfl)
          · exact hown.apart i a' hlt ha g' (by rw [hvs]; rfl) (by rw [hv2]; rfl)

end Go.Proofs.Ytnhkclnloiiihaa
