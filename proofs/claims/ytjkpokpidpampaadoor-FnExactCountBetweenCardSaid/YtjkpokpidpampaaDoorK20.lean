/- Parts of proofs: contracts and plain facts. Conditions: as each says. -/
import Derived.Test.YtjkpokpidpampaaDoorK19
import Derived.Laws.AppendOwnNone
import Derived.Maps.AppendAt
namespace Go.Proofs.YtjkpokpidpampaaDoor
open Go.RowKit

theorem good_reverse {m : List (List Int)} (h : good m) : good m.reverse := by
  obtain ⟨hs, hr, _⟩ := id h
  have hl : m.reverse.length = m.length := List.length_reverse
  refine ⟨⟨by rw [hl]; exact hs.1, by rw [hl]; exact hs.2.1, fun i hi => ?_⟩, fun i hi => ?_, fun j hj => ?_⟩
  · rw [hl] at hi ⊢
    rw [gr_reverse hi]
    exact hs.2.2 _ (by omega)
  · rw [hl] at hi
    rw [gr_reverse hi]
    exact hr _ (by omega)
  · rw [tr_len, hl] at hj
    have hj' : j < m.reverse.length := by rw [hl]; exact hj
    refine ⟨fun k hk => ?_, ?_⟩
    · rw [tr_row hj', hl] at hk
      rw [← colR_tr hj' k (by rw [hl]; exact hk)]
      have h1 := colR_reverse m j k hk
      rw [colR_full h hj] at h1
      have h2 := colR_01 h hj (show m.length - k ≤ m.length by omega)
      omega
    · rw [tr_row hj', ← colR_tr hj' _ (Nat.le_refl _), hl]
      have h1 := colR_reverse m j m.length (Nat.le_refl _)
      rw [colR_full h hj, Nat.sub_self] at h1
      simpa [colR] using h1
/-- the row n-1-k of the triangle upside down -/
theorem gr_triM_reverse {m : List (List Int)} (h : good m) {i : Nat} (hi : i < m.length) : gr (triM m.reverse) i = compl m.length (triRow m (m.length - (i + 1))) := by
  rw [gr_triM (by rw [List.length_reverse]; exact hi), triRow_reverse h (by omega)]
end Go.Proofs.YtjkpokpidpampaaDoor

namespace Go.Proofs.YtjkpokpidpampaaDoor
open Go.RowKit Go.Maps
open Go.WideMaps (KeyLaw)

end Go.Proofs.YtjkpokpidpampaaDoor

namespace Go.Proofs.YtjkpokpidpampaaDoor
open Go.RowKit Go.Maps
open Go.WideMaps (KeyLaw)


end Go.Proofs.YtjkpokpidpampaaDoor

namespace Go.Proofs.YtjkpokpidpampaaDoor
open Go.RowKit Go.Maps

end Go.Proofs.YtjkpokpidpampaaDoor

namespace Go.Proofs.YtjkpokpidpampaaDoor
open Go.RowKit

def chosenF : List (List Int) → Int → List Int × Int
  | [], _ => ([], 0)
  | b :: bs, r => if r < wrap64 (ways b) then (b, r) else chosenF bs (wrap64 (r - wrap64 (ways b)))
theorem chosenF_step {bs : List (List Int)} {k : Nat} (h : k < bs.length) (r : Int) : chosenF (bs.drop k) r = if r < wrap64 (ways (gr bs k)) then (gr bs k, r) else chosenF (bs.drop (k + 1)) (wrap64 (r - wrap64 (ways (gr bs k)))) := by
  rw [List.drop_eq_getElem_cons h, chosenF, gr_lt h]

end Go.Proofs.YtjkpokpidpampaaDoor

namespace Go.Proofs.YtjkpokpidpampaaDoor
open Go.RowKit

/-- the ways of the rows before Y -/
def rankIn (Y : List Int) : List (List Int) → Int → Int
  | [], r => r
  | y :: L, r => if y = Y then r else rankIn Y L (wrap64 (r + wrap64 (ways y)))
theorem rankIn_step {Y : List Int} {L : List (List Int)} {k : Nat} (h : k < L.length) (r : Int) : rankIn Y (L.drop k) r = if gr L k = Y then r else rankIn Y (L.drop (k + 1)) (wrap64 (r + wrap64 (ways (gr L k)))) := by
  rw [List.drop_eq_getElem_cons h, rankIn, gr_lt h]
/-- .. from row i up -/
def rankG (t : List (List Int)) : Nat → Int → Int
  | 0, r => r
  | i + 1, r => rankG t i (rankIn (gr t i) (above (gr t (i + 1))) r)

end Go.Proofs.YtjkpokpidpampaaDoor

namespace Go.Proofs.YtjkpokpidpampaaDoor
open Go.RowKit

theorem subs_sub {s l : List Int} : s ∈ subs l → s.Sublist l := by
  induction l generalizing s with
  | nil => intro h; simp [subs] at h; subst h; exact List.Sublist.slnil
  | cons a r ih =>
    intro h
    simp only [subs, List.mem_append, List.mem_map] at h
    rcases h with ⟨t, ht, rfl⟩ | h
    · exact (ih ht).cons_cons a
    · exact (ih h).cons a
/-- the rows on are columns, one more of them, and twice the others of columns are these -/
def rowsC (n : Nat) : Bool := (subs (iota n)).all fun s => (compl n (compl n s) == s) && (nextL n s).all fun y => (subs (iota n)).contains y && (y.length == s.length + 1)
def lastC (n : Nat) : Bool := (subs (iota n)).all fun s => (s.length + 1 != n) || (nextL n s == [iota n])
set_option maxRecDepth 1000000 in
theorem rowsC_ok : rowsC 1 = true ∧ rowsC 2 = true ∧ rowsC 3 = true ∧ rowsC 4 = true ∧ rowsC 5 = true ∧ lastC 1 = true ∧ lastC 2 = true ∧ lastC 3 = true ∧ lastC 4 = true ∧ lastC 5 = true := by decide +kernel
set_option maxRecDepth 1000000 in
theorem rowsC_ok6 : rowsC 6 = true := by decide +kernel
set_option maxRecDepth 1000000 in
theorem lastC_ok6 : lastC 6 = true := by decide +kernel
theorem rowsC_all {n : Nat} (h1 : 1 ≤ n) (h6 : n ≤ 6) : rowsC n = true ∧ lastC n = true := by
  obtain ⟨a, b, c, d, e, a', b', c', d', e'⟩ := rowsC_ok
  rcases (by omega : n = 1 ∨ n = 2 ∨ n = 3 ∨ n = 4 ∨ n = 5 ∨ n = 6) with rfl | rfl | rfl | rfl | rfl | rfl
  · exact ⟨a, a'⟩
  · exact ⟨b, b'⟩
  · exact ⟨c, c'⟩
  · exact ⟨d, d'⟩
  · exact ⟨e, e'⟩
  · exact ⟨rowsC_ok6, lastC_ok6⟩
theorem compl_twice {n : Nat} (h1 : 1 ≤ n) (h6 : n ≤ 6) {s : List Int} (hs : s.Sublist (iota n)) : compl n (compl n s) = s := by
  have h := List.all_eq_true.1 (rowsC_all h1 h6).1 s (mem_subs hs)
  simp only [Bool.and_eq_true, beq_iff_eq] at h
  exact h.1
theorem next_mem {n : Nat} (h1 : 1 ≤ n) (h6 : n ≤ 6) {s : List Int} (hs : s.Sublist (iota n)) {y : List Int} (hy : y ∈ nextL n s) : y.Sublist (iota n) ∧ y.length = s.length + 1 := by
  have h := List.all_eq_true.1 (rowsC_all h1 h6).1 s (mem_subs hs)
  simp only [Bool.and_eq_true] at h
  have h2 := List.all_eq_true.1 h.2 y hy
  simp only [Bool.and_eq_true, beq_iff_eq] at h2
  exact ⟨subs_sub (by simpa using h2.1), h2.2⟩
theorem next_last {n : Nat} (h1 : 1 ≤ n) (h6 : n ≤ 6) {s : List Int} (hs : s.Sublist (iota n)) (hl : s.length + 1 = n) : nextL n s = [iota n] := by
  have h := List.all_eq_true.1 (rowsC_all h1 h6).2 s (mem_subs hs)
  simp only [Bool.or_eq_true, bne_iff_ne, beq_iff_eq] at h
  rcases h with h | h
  · exact absurd hl h
  · exact h
theorem putIn_perm (n : Nat) (s : List Int) (L : List (List Int)) (y : List Int) : (putIn n s L y).Perm (y :: L) := by
  unfold putIn
  simp only
  obtain ⟨t, ht⟩ := List.takeWhile_prefix (l := L) (fun z => rowLess (stepF n s z) (stepF n s y))
  obtain ⟨p, hp⟩ : ∃ p, p = L.takeWhile fun z => rowLess (stepF n s z) (stepF n s y) := ⟨_, rfl⟩
  rw [← hp] at ht ⊢
  rw [← ht, List.drop_left]
  exact List.perm_middle
theorem next_perm_at (n : Nat) (s : List Int) : ∀ (A L : List (List Int)), (A.foldl (putIn n s) L).Perm (A ++ L)
  | [], _ => List.Perm.refl _
  | y :: A, L => by
    rw [List.foldl_cons]
    exact (next_perm_at n s A _).trans ((List.Perm.append_left A (putIn_perm n s L y)).trans List.perm_middle)
theorem next_perm (n : Nat) (s : List Int) : (nextL n s).Perm (behind n s) := by
  have h := next_perm_at n s (behind n s) []
  rwa [List.append_nil] at h
theorem next_len {n : Nat} (hn : n ≤ 6) {s : List Int} (h : ColsN n s) (hl : s.length ≤ 6) : (nextL n s).length ≤ 1048576 := by
  rw [(next_perm n s).length_eq]
  exact behind_len hn h hl
theorem next_cols {n : Nat} {s : List Int} (h : ColsN n s) {y : List Int} (hy : y ∈ nextL n s) : ColsN n y ∧ y.length = s.length + 1 := behind_mem h ((next_perm n s).mem_iff.1 hy)
theorem triRow_cols (m : List (List Int)) (k : Nat) : ColsN m.length (triRow m k) := ⟨colsF_up _ _, fun x hx => by
  obtain ⟨j, rfl, hj, _⟩ := mem_colsF.1 hx
  omega⟩
/-- the ways on from the rows before Y -/
def rankB (n : Nat) (Y : List Int) : List (List Int) → Int → Int
  | [], r => r
  | y :: L, r => if y = Y then r else rankB n Y L (wrap64 (r + wrap64 (waysB n y)))
theorem rankB_step {n : Nat} {Y : List Int} {L : List (List Int)} {k : Nat} (h : k < L.length) (r : Int) : rankB n Y (L.drop k) r = if gr L k = Y then r else rankB n Y (L.drop (k + 1)) (wrap64 (r + wrap64 (waysB n (gr L k)))) := by
  rw [List.drop_eq_getElem_cons h, rankB, gr_lt h]
theorem rankB_compl {n : Nat} (h1 : 1 ≤ n) (h6 : n ≤ 6) {Y : List Int} (hY : Y.Sublist (iota n)) : ∀ (L : List (List Int)) (r : Int), (∀ y ∈ L, y.Sublist (iota n) ∧ y.length < n) → rankIn (compl n Y) (L.map (compl n)) r = rankB n Y L r
  | [], _, _ => rfl
  | y :: L, r, h => by
    obtain ⟨ha, hb⟩ := h y (by simp)
    rw [List.map_cons, rankIn, rankB, ways_compl h1 h6 ha hb, rankB_compl h1 h6 hY L _ (fun z hz => h z (by simp [hz]))]
    by_cases e : y = Y
    · subst e
      simp
    · have hne : compl n y ≠ compl n Y := fun he => e (by rw [← compl_twice h1 h6 ha, he, compl_twice h1 h6 hY])
      rw [if_neg hne, if_neg e]
theorem colsF_sub (n : Nat) (f : Nat → Bool) : (colsF n f).Sublist (iota n) := by
  unfold colsF iota rng
  have e : ((n : Int) - 1 - 0 + 1).toNat = n := by omega
  rw [e]
  have h := (List.filter_sublist (p := f) (l := List.range n)).map (fun j : Nat => (j : Int))
  have e2 : (List.range n).map (fun i : Nat => (0 : Int) + (i : Int)) = (List.range n).map (fun j : Nat => (j : Int)) := List.map_congr_left fun i _ => by simp
  rw [e2]
  exact h
/-- the sum over the first t columns -/
def colS (m : List (List Int)) (k : Nat) : Nat → Int
  | 0 => 0
  | t + 1 => colS m k t + colR m t k
theorem colS_zero (m : List (List Int)) : ∀ t, colS m 0 t = 0
  | 0 => rfl
  | t + 1 => by simp [colS, colS_zero m t, colR]
theorem colS_succ (m : List (List Int)) (k : Nat) : ∀ t, colS m (k + 1) t = colS m k t + sumK (gr m k) t
  | 0 => rfl
  | t + 1 => by
    have h := colS_succ m k t
    simp only [colS, sumK, colR]
    omega
theorem colsF_count {m : List (List Int)} (h : good m) {k : Nat} (hk : k ≤ m.length) : ∀ t, t ≤ m.length → ((colsF t fun j => decide (colR m j k = 1)).length : Int) = colS m k t
  | 0, _ => rfl
  | t + 1, ht => by
    rw [colsF_succ, List.length_append]
    have ih := colsF_count h hk t (by omega)
    obtain ⟨a, b⟩ := colR_01 h (j := t) (k := k) (by omega) hk
    simp only [colS]
    by_cases e : colR m t k = 1
    · simp [e, ih]
    · have : colR m t k = 0 := by omega
      simp [this, ih]
theorem colS_good {m : List (List Int)} (h : good m) : ∀ k, k ≤ m.length → colS m k m.length = (k : Int)
  | 0, _ => colS_zero m _
  | k + 1, hk => by
    rw [colS_succ, colS_good h k (by omega)]
    have h2 := h.2.1 k (by omega)
    have h3 := h2.2
    rw [h.1.2.2 k (by omega)] at h3
    rw [h3]
    omega
theorem triRow_len {m : List (List Int)} (h : good m) {k : Nat} (hk : k ≤ m.length) : (triRow m k).length = k := by
  have h1 := colsF_count h hk m.length (Nat.le_refl _)
  rw [colS_good h k hk] at h1
  unfold triRow
  omega
theorem triRow_sub (m : List (List Int)) (k : Nat) : (triRow m k).Sublist (iota m.length) := colsF_sub _ _
theorem triRow_zero (m : List (List Int)) : triRow m 0 = [] := by
  have : ∀ x, x ∉ triRow m 0 := fun x hx => by
    obtain ⟨j, _, _, h⟩ := mem_colsF.1 hx
    simp [colR] at h
  exact List.eq_nil_iff_forall_not_mem.2 this
theorem triRow_all {m : List (List Int)} (h : good m) : triRow m m.length = iota m.length := (triRow_sub m m.length).eq_of_length (by rw [triRow_len h (Nat.le_refl _), iota_len])
/-- the rank behind k rows -/
def rankUp (m : List (List Int)) : Nat → Int
  | 0 => 0
  | k + 1 => rankB m.length (triRow m (k + 1)) (nextL m.length (triRow m k)) (rankUp m k)
theorem rankUp_G {m : List (List Int)} (h : good m) : ∀ k, k + 1 ≤ m.length → rankG (triM m.reverse) (m.length - 1 - k) (rankUp m k) = rankG (triM m.reverse) (m.length - 1) 0
  | 0, _ => rfl
  | k + 1, hk => by
    have ih := rankUp_G h k (by omega)
    have h1 := h.1.1
    have h6 := h.1.2.1
    rw [← ih, show m.length - 1 - k = (m.length - 1 - (k + 1)) + 1 from by omega, rankG]
    rw [gr_triM_reverse h (by omega), gr_triM_reverse h (by omega)]
    rw [show m.length - (m.length - 1 - (k + 1) + 1) = k + 1 from by omega, show m.length - (m.length - 1 - (k + 1) + 1 + 1) = k from by omega]
    have hl := triRow_len h (show k ≤ m.length by omega)
    rw [← chain_at h1 h6 (triRow_sub m k) (by omega), rankB_compl h1 h6 (triRow_sub m (k + 1)) _ _ (fun y hy => by
      have := next_mem h1 h6 (triRow_sub m k) hy
      exact ⟨this.1, by omega⟩)]
    rfl
/-- both ranks are the same -/
theorem rankUp_end {m : List (List Int)} (h : good m) : rankUp m m.length = rankG (triM m.reverse) (m.length - 1) 0 := by
  have h1 := h.1.1
  have h6 := h.1.2.1
  have h2 := rankUp_G h (m.length - 1) (by omega)
  rw [Nat.sub_self] at h2
  rw [← h2]
  obtain ⟨n, hn⟩ : ∃ n, m.length = n + 1 := ⟨m.length - 1, by omega⟩
  have hl := triRow_len h (show n ≤ m.length by omega)
  have e := next_last h1 h6 (triRow_sub m n) (by omega)
  have e2 := triRow_all h
  rw [hn] at e e2 ⊢
  rw [Nat.add_sub_cancel]
  simp only [rankUp, rankG]
  rw [hn, e, e2, rankB, if_pos rfl]
end Go.Proofs.YtjkpokpidpampaaDoor

namespace Go.Proofs.YtjkpokpidpampaaDoor
open Go.RowKit

/-- a row in blocks behind kb -/
def RowI (w : World) (kb : Nat) (ra : Option Addr) (xs : List Int) : Prop := IntsAt w ra xs ∧ ∀ b o, ra = some ⟨b, o, none⟩ → kb < b
theorem RowI.nil (w : World) (kb : Nat) : RowI w kb none [] := ⟨IntsAt.nil _ _, fun b o e => by cases e⟩
theorem RowI.grown {w w' : World} {kb : Nat} {ra : Option Addr} {xs : List Int} (h : RowI w kb ra xs) (hg : w.grownBy w' (some kb)) : RowI w' kb ra xs := ⟨fun i hi => by
  obtain ⟨b, o, e, hc⟩ := h.1 i hi
  exact ⟨b, o, e, hg.cell hc (fun e2 => by have := h.2 b o e; simp at e2; omega)⟩, h.2⟩
theorem RowI.below {w w' : World} {kb : Nat} {ra : Option Addr} {xs : List Int} (h : RowI w kb ra xs) (hb : Below w.heap.size w w') : RowI w' kb ra xs := ⟨h.1.below hb, h.2⟩
/-- rows that are read, all in blocks from B on -/
def RowsFrom (w : World) (B : Nat) (ao : Option Addr) (L : List (List Int)) : Prop := ∀ j, j < L.length → ∃ b o r d, ao = some ⟨b, o, none⟩ ∧ B ≤ b ∧ w.cell? ⟨b, o + j, none⟩ = some (.slice r (gr L j).length d) ∧ IntsAt w r (gr L j) ∧ ∀ b' o', r = some ⟨b', o', none⟩ → B ≤ b'
theorem RowsFrom.base {w : World} {B B' : Nat} {ao : Option Addr} {L : List (List Int)} (h : RowsFrom w B ao L) (hB : B' ≤ B) : RowsFrom w B' ao L := fun j hj => by
  obtain ⟨b, o, r, d, e, h1, hc, hx, hr⟩ := h j hj
  exact ⟨b, o, r, d, e, by omega, hc, hx, fun b' o' e' => by have := hr b' o' e'; omega⟩
theorem RowsFrom.grown {w w' : World} {B kb : Nat} {ao : Option Addr} {L : List (List Int)} (h : RowsFrom w B ao L) (hg : w.grownBy w' (some kb)) (hk : kb < B) : RowsFrom w' B ao L := fun j hj => by
  obtain ⟨b, o, r, d, e, h1, hc, hx, hr⟩ := h j hj
  refine ⟨b, o, r, d, e, h1, hg.cell hc (fun e2 => by simp at e2; omega), fun i hi => ?_, hr⟩
  obtain ⟨b2, o2, e2, hcc⟩ := hx i hi
  exact ⟨b2, o2, e2, hg.cell hcc (fun e3 => by have := hr b2 o2 e2; simp at e3; omega)⟩
theorem RowsFrom.below {w w' : World} {B : Nat} {ao : Option Addr} {L : List (List Int)} (h : RowsFrom w B ao L) (hb : Below w.heap.size w w') : RowsFrom w' B ao L := fun j hj => by
  obtain ⟨b, o, r, d, e, h1, hc, hx, hr⟩ := h j hj
  exact ⟨b, o, r, d, e, h1, cell_below hc hb, hx.below hb, hr⟩
theorem rowsFrom_own {w : World} {B kb : Nat} {v : Value} {L : List (List Int)} (h : OwnM w B v L) (hk : kb < B) : ∃ ao c, v = .slice ao L.length c ∧ RowsFrom w (kb + 1) ao L := by
  obtain ⟨vs, hp⟩ := h
  obtain ⟨ao, c, rfl, h3, h4, hcells⟩ := ownsRow_read hp.top
  refine ⟨ao, c, rfl, fun j hj => ?_⟩
  obtain ⟨b, o, e, hc⟩ := hcells j hj
  obtain ⟨r, d, hr, _, _, hx⟩ := (hp.rows j hj).read
  have hl := (hp.rows j hj).lt
  have ht := (World.ownsRow.lt hp.top b (by rw [e]; rfl)).1
  rw [hr] at hc hl
  exact ⟨b, o, r, d, e, by omega, hc, hx, fun b' o' e' => by
    have := (hl b' (by rw [e']; rfl)).1
    omega⟩
theorem below_of_grown {w0 w w' : World} {B kb : Nat} (h : Below B w0 w) (hg : w.grownBy w' (some kb)) (hk : B ≤ kb) (hk3 : kb ≤ w.heap.size) : Below B w0 w' := by
  refine h.trans ?_
  exact ⟨hg.os, hg.tape, hg.output, hg.size, fun k hk2 => hg.block k (by omega) (fun e => by simp at e; omega)⟩
set_option maxRecDepth 100000 in
set_option maxHeartbeats 400000 in
theorem trNextR_any (n : Nat) (hn : n ≤ 6) (s : List Int) (hs : ColsN n s) (h6 : s.length ≤ 6) (a1 : Option Addr) (c1 : Nat) (w : World) (hx : IntsAt w a1 s) :
    Calls Tryd.prog 36 #[.slice a1 s.length c1, .int .i64 (n : Int)] w fun e w' => ∃ (ao : Option Addr) (c : Nat), e = .returned (.slice ao (nextL n s).length c) ∧ RowsFrom w' w.heap.size ao (nextL n s) ∧ Below w.heap.size w w' := by
  refine (trNext_any n hn s hs h6 a1 c1 w hx).mono ?_
  rintro e w1 ⟨v, ps, rfl, hown, hps, hL, hb⟩
  obtain ⟨ao, c, rfl, h3, h4, hcells⟩ := ownsRow_read hown
  have hl : ps.length = (nextL n s).length := by rw [← hL, List.length_map]
  refine ⟨ao, c, by rw [hl], fun j hj => ?_, hb⟩
  have hjp : j < ps.length := by omega
  obtain ⟨b, o, e, hc⟩ := hcells j hjp
  obtain ⟨r, d, hr, hx, hB⟩ := hps ps[j] (List.getElem_mem hjp)
  have hg : gr (nextL n s) j = ps[j].2 := by rw [← hL, gr_lt (by rw [List.length_map]; exact hjp), List.getElem_map]
  have hget : (ps.map (·.1)).getD j undef = ps[j].1 := by simp [List.getD, hjp]
  rw [hget, hr] at hc
  have ht := (World.ownsRow.lt hown b (by rw [e]; rfl)).1
  rw [hg]
  exact ⟨b, o, r, d, e, ht, hc, hx, hB⟩
end Go.Proofs.YtjkpokpidpampaaDoor

namespace Go.Proofs.YtjkpokpidpampaaDoor
open Go.RowKit

theorem up_of_pw : ∀ {l : List Int}, l.Pairwise (· < ·) → Up l
  | [], _ => trivial
  | [_], _ => trivial
  | _ :: b :: _, h => ⟨(List.pairwise_cons.1 h).1 b (by simp), up_of_pw (List.pairwise_cons.1 h).2⟩
theorem sub_up {n : Nat} {s : List Int} (h : s.Sublist (iota n)) : Up s := by
  refine up_of_pw (List.Pairwise.sublist h ?_)
  unfold iota rng
  rw [List.pairwise_map]
  exact List.pairwise_lt_range.imp (fun h => by omega)
theorem sub_cols {n : Nat} {s : List Int} (h : s.Sublist (iota n)) : ∀ x ∈ s, 0 ≤ x ∧ x < (n : Int) := fun x hx => by
  have := h.subset hx
  unfold iota at this
  rw [mem_rng] at this
  omega
theorem sub_colsN {n : Nat} {s : List Int} (h : s.Sublist (iota n)) : ColsN n s := ⟨sub_up h, sub_cols h⟩
theorem sub_len {n : Nat} {s : List Int} (h : s.Sublist (iota n)) : s.length ≤ n := by
  have := h.length_le
  rwa [iota_len] at this
end Go.Proofs.YtjkpokpidpampaaDoor

namespace Go.Proofs.YtjkpokpidpampaaDoor
open Go.RowKit

theorem ownsRow_raise {w : World} {B B' : Nat} {e : TypeId} {v : Value} {n : Nat} {xs : List Value} (h : w.ownsRow B e 1 v n xs) (hb : ∀ g, v.ownBlock = some g → B' ≤ g) : w.ownsRow B' e 1 v n xs := by
  refine ⟨h.1, ?_⟩
  rcases h.2 with h0 | ⟨g, cap, cur, rfl, hg, r⟩
  · exact .inl h0
  · exact .inr ⟨g, cap, cur, rfl, hb g rfl, r⟩
theorem wSmall {x : Int} (h : -1000 ≤ x ∧ x ≤ 1000) : IntKind.i64.wrap x = x := by
  rw [IntKind.wrap_i64]
  omega
theorem wSmall64 {x : Int} (h : -1000 ≤ x ∧ x ≤ 1000) : wrap64 x = x := by
  unfold wrap64
  omega
theorem OwnI.none_cap {w : World} {B n c : Nat} {ao : Option Addr} {xs : List Int} (h : OwnI w B (.slice ao n c) xs) : ao = none → c = 0 := by
  intro e
  rcases h.2 with ⟨h0, _⟩ | ⟨g, cap, cur, hv, _⟩
  · simp only [Value.slice.injEq] at h0; exact h0.2.2
  · simp only [Value.slice.injEq] at hv; rw [e] at hv; simp at hv

set_option maxRecDepth 100000 in
set_option maxHeartbeats 6400000 in
theorem weRows_any (sums : List Int) (h01 : bits01 sums) (hn : sums.length ≤ 5) (a1 : Option Addr) (c1 : Nat) : ∀ (d : Nat) (row : List Int) (sum : Int) (a2 : Option Addr) (c2 B : Nat) (w : World), row.length + d = sums.length → 0 ≤ sum ∧ sum ≤ 1 → B ≤ w.heap.size → IntsAt w a1 sums → OwnI w B (.slice a2 row.length c2) row →
    Calls Tryd.prog 75 #[.slice a1 sums.length c1, .slice a2 row.length c2, .int .i64 sum] w fun e w' => ∃ v vs, e = .returned v ∧ OwnR w' B v (rowsW sums d row sum) vs ∧ (∀ g, v.ownBlock = some g → w.heap.size ≤ g) ∧ Below w.heap.size w w' := by
  intro d
  induction d with
  | zero =>
    intro row sum a2 c2 B w hd hs hB h1 h2
    have hl : ((row.length : Int) == (sums.length : Int)) = true := by simp; omega
    have hx1 : row.length ≤ 9223372036854775807 := by omega
    have hx2 : sums.length ≤ 9223372036854775807 := by omega
    have hb1 : Below w.heap.size w (w.alloc (.cells #[.slice a2 row.length c2] 28)) := (Below.refl _ _).alloc (Nat.le_refl _) _
    have hres : OwnR (w.alloc (.cells #[.slice a2 row.length c2] 28)) B (.slice (some ⟨w.heap.size, 0, none⟩) 1 1) [row] [.slice a2 row.length c2] :=
      ⟨ownsRow_built w [.slice a2 row.length c2] hB (by simp), fun i hi => by obtain rfl : i = 0 := (by simpa using hi); exact h2.below hb1⟩
    have Hres := Lib.hid hres
    have Hb := Lib.hid hb1
    obtain ⟨r, hr⟩ : ∃ r, r = row.length := ⟨_, rfl⟩
    rw [← hr] at hl hx1 Hb Hres ⊢
    clear h1 h2 hd hb1 hres hr
    by_cases e1 : sum = 1
    · have hb : (sum == 1) = true := by simpa using e1
      have HV := Lib.hid (show rowsW sums 0 row sum = [row] by unfold rowsW; rw [if_pos e1])
      clear e1
      go_enter Tryd.func75, Tryd.ntmps75
      go_wp2
      go_ret
      exact ⟨_, _, rfl, by rw [HV.out]; exact Hres.out, fun g hg => by simp [Value.ownBlock] at hg; omega, Hb.out⟩
    · have hb : (sum == 1) = false := by simpa using e1
      have HV := Lib.hid (show rowsW sums 0 row sum = [] by unfold rowsW; rw [if_neg e1])
      clear e1
      go_enter Tryd.func75, Tryd.ntmps75
      go_wp2
      go_ret
      exact ⟨_, _, rfl, by rw [HV.out]; exact OwnR.nil _ _, fun g hg => by simp [Value.ownBlock] at hg, Below.refl _ _⟩
  | succ d ih =>
    intro row sum a2 c2 B w hd hs hB h1 h2
    have hl : ((row.length : Int) == (sums.length : Int)) = false := by simp; omega
    have hx1 : row.length ≤ 9223372036854775807 := by omega
    have hx2 : sums.length ≤ 9223372036854775807 := by omega
    have hlt : row.length < sums.length := by omega
    obtain ⟨j0, hj, hy0, hy1, hy2⟩ := info_parts Tryd.info_ints
    obtain ⟨i0, hi, hz0, hz1, hz2⟩ := info_parts Tryd.info_int
    obtain ⟨b0, o0, e0, hc0⟩ := h1 row.length hlt
    subst e0
    have hs01 := h01 row.length hlt
    obtain ⟨s, hsv⟩ : ∃ s, s = gi sums row.length := ⟨_, rfl⟩
    rw [← hsv] at hc0 hs01
    have Hd := Lib.hid hd
    have H1 := Lib.hid h1
    have H2 := Lib.hid h2
    have Hih := Lib.hid ih
    have Hsv := Lib.hid hsv
    have Hok := Lib.hid (show ∀ x : Int, okX sums row sum x ↔ (0 ≤ sum + x ∧ sum + x ≤ 1) ∧ 0 ≤ s + x ∧ s + x ≤ 1 from fun x => by unfold okX; rw [← hsv])
    have HBl := Lib.hid hB
    clear h1 h2 ih hd hsv
    go_enter Tryd.func75, Tryd.ntmps75
    go_wp2
    go_loopw [7, 8] (fun out i wr => ∃ (k : Nat) (x : Int) (vs : List Value), k ≤ 3 ∧ i = .int .i64 x ∧ x = (k : Int) - 1 ∧ OwnR wr B out (rowsP sums d row sum k) vs ∧ (∀ g, out.ownBlock = some g → w.heap.size ≤ g) ∧ Below w.heap.size w wr) (fun _ i _ => (2 - intOf i).toNat)
    case atStart => exact ⟨0, -1, [], by omega, rfl, rfl, OwnR.nil _ _, fun g hg => by simp [Value.ownBlock] at hg, Below.refl _ _⟩
    case round =>
      obtain ⟨k, x, vs, hk, rfl, hxk, hown, htop, hbr⟩ := hrel
      have hc0' := cell_below hc0 hbr
      have Hown := Lib.hid hown
      have Htop := Lib.hid htop
      have Hbr := Lib.hid hbr
      have HB := Lib.hid hbr.size
      have Hxk := Lib.hid hxk
      have hxb : -1 ≤ x ∧ x ≤ 2 := by omega
      clear hown htop hbr
      by_cases hk3 : k < 3
      · have hx1' : x ≤ 1 := by omega
        have hdx : decide (x ≤ 1) = true := by simpa using hx1'
        obtain ⟨u, hu⟩ : ∃ u, u = sum + x := ⟨_, rfl⟩
        obtain ⟨v, hv⟩ : ∃ v, v = s + x := ⟨_, rfl⟩
        obtain ⟨x', hx'⟩ : ∃ x', x' = x + 1 := ⟨_, rfl⟩
        have Hx' := Lib.hid hx'
        have hw1 : wrap64 (sum + x) = u := by rw [hu]; exact wSmall64 (by omega)
        have hw2 : wrap64 (s + x) = v := by rw [hv]; exact wSmall64 (by omega)
        have hw3 : wrap64 (x + 1) = x' := by rw [hx']; exact wSmall64 (by omega)
        have Hw3 := Lib.hid hw3
        have Hokx := Lib.hid (Hok.out x)
        rw [← hu, ← hv] at Hokx
        have Hu := Lib.hid hu
        clear hxk hu hv hx' hk hxb
        by_cases h1 : 0 ≤ u ∧ u ≤ 1
        · have H1in := Lib.hid h1
          clear h1
          go_wp2_with fail
          refine (l1In_any _ _ _ wr).mono ?_
          rintro e w2 ⟨ha, rfl⟩
          obtain rfl := ha.is H1in.out
          clear ha
          by_cases h2 : 0 ≤ v ∧ v ≤ 1
          · have H2in := Lib.hid h2
            clear h2
            have HP := Lib.hid (rowsP_yes (d := d) (k := k) (by rw [← Hxk.out]; exact Hokx.out.2 ⟨H1in.out, H2in.out⟩))
            rw [← Hxk.out, ← Hu.out] at HP
            go_wp2_with fail
            refine (l1In_any _ _ _ wr).mono ?_
            rintro e w2 ⟨ha, rfl⟩
            obtain rfl := ha.is H2in.out
            clear ha
            have Hl1 := Lib.hid (l1Own_any a2 c2 row wr (by omega) H2.out.none_cap (own_at (H2.out.below Hbr.out)))
            go_wp2_with fail
            refine Hl1.out.mono ?_
            rintro e w2 ⟨f1, rfl, hf1, hb2⟩
            obtain ⟨fa, fc, hff, _, _, _⟩ := hf1.read
            obtain ⟨fl, hfl⟩ : ∃ fl, fl = row.length := ⟨_, rfl⟩
            rw [← hfl] at hff
            subst hff
            have HF1 := Lib.hid hf1
            have Hb2 := Lib.hid hb2
            have HB2 := Lib.hid hb2.size
            have Hfl := Lib.hid hfl
            have hflb : fl ≤ 6 := by omega
            clear hf1 hb2 hfl Hl1
            go_wp2_with (at_builtin; refine wpList_append_own _ rfl _ _ 28 rfl wr.heap.size 3 i0 (.int .i64 0) 1 8 Tryd.underlying28 hi hz0 hz1 hz2 rfl (by decide) _ fl _ rfl (by have := World.ownsRow.alloc HF1.out (.cells #[.int .i64 x] 3); rw [← Hfl.out] at this; exact this) ⟨w2.heap.size, 0, none⟩ 1 1 [.int .i64 x] rfl rfl ?e1 ?e2 ?e3 ?e4 ?e5 ?_)
            case e1 => exact cell_one_new _ _ _
            case e2 => intro u hu; simp at hu; subst hu; rfl
            case e3 => unfold maxLen; omega
            case e4 => omega
            case e5 => have := HB2.out; simp; omega
            intro v' w3 hown' hgrow _
            rw [Hfl.out] at hown'
            have hput := HF1.out.snoc HB2.out hown' hgrow
            obtain ⟨ga, gc, hgg, hgc, hgc2, hgr⟩ := hput.1.read
            have h13 := Hb2.out.trans hput.2
            have hlen1 : (row ++ [x]).length = row.length + 1 := by simp
            have hor : OwnI w3 B (.slice ga (row ++ [x]).length gc) (row ++ [x]) := by rw [← hgg]; exact hput.1.base (Nat.le_trans HBl.out HB.out)
            have hrec := Hih.out (row ++ [x]) u ga gc B w3 (by have := Hd.out; rw [hlen1]; omega) H1in.out (Nat.le_trans HBl.out (Nat.le_trans HB.out h13.size)) ((H1.out.below Hbr.out).below h13) hor
            rw [hlen1] at hrec hgg
            obtain ⟨fl1, hfl1⟩ : ∃ fl1, fl1 = row.length + 1 := ⟨_, rfl⟩
            rw [← hfl1] at hgg hrec
            subst hgg
            have Hrec := Lib.hid hrec
            have Hput := Lib.hid h13
            clear hown' hgrow hput hgc hgc2 hgr hor hrec hfl1 h13 hlen1 HF1 Hb2 HB2 Hfl hflb
            go_wp2_with fail
            refine Hrec.out.mono ?_
            rintro e w4 ⟨sub, us, rfl, hsub, hst, hb4⟩
            obtain ⟨M, hM⟩ : ∃ M, M = rowsW sums d (row ++ [x]) u := ⟨_, rfl⟩
            obtain ⟨P0, hP0⟩ : ∃ P0, P0 = rowsP sums d row sum k := ⟨_, rfl⟩
            have hMl : M.length ≤ 1000000 := by rw [hM]; exact Nat.le_trans (rowsW_le _ _ _ _) (Nat.le_trans (Nat.pow_le_pow_right (by omega) (show d ≤ 5 by have := Hd.out; omega)) (by decide))
            have hPl : P0.length ≤ 1000000 := by rw [hP0]; exact Nat.le_trans (rowsP_le _ _ _ _ (by omega)) (Nat.le_trans (Nat.pow_le_pow_right (by omega) (show d + 1 ≤ 5 by have := Hd.out; omega)) (by decide))
            rw [← hM] at hsub HP
            rw [← hP0] at Hown HP
            obtain ⟨sa, sc, rfl, hs1, hs2, _⟩ := hsub.read
            have hb34 := Hput.out.trans (hb4.mono Hput.out.size)
            have Hown4 := Lib.hid (Hown.out.below hb34)
            have Hb4 := Lib.hid (Hbr.out.trans (hb34.mono HB.out))
            have HB4 := Lib.hid Hb4.out.size
            have Hsub := Lib.hid hsub
            obtain ⟨oa, oc, hoo, _, _, _⟩ := ownsRow_read Hown4.out.top
            obtain ⟨Ml, hMl2⟩ : ∃ Ml, Ml = M.length := ⟨_, rfl⟩
            obtain ⟨Pl, hPl2⟩ : ∃ Pl, Pl = P0.length := ⟨_, rfl⟩
            rw [← hPl2] at hoo hPl
            rw [← hMl2] at hMl hs1
            have HMl := Lib.hid hMl2
            have HPl := Lib.hid hPl2
            clear hsub hst hb4 hM hP0 hPl2 hb34 Hrec Hput
            subst hoo
            have Htop4 := Lib.hid (ownsRow_raise Hown4.out.top Htop.out)
            cases sa with
            | none =>
              have hM0 : M = [] := by
                rcases Hsub.out.top.2 with ⟨h1, h2⟩ | ⟨g, cap, cur, h1, _⟩
                · exact List.eq_nil_of_length_eq_zero h2
                · simp at h1
              have hsc : sc = 0 := by
                rcases Hsub.out.top.2 with ⟨h1, h2⟩ | ⟨g, cap, cur, h1, _⟩
                · simp at h1; exact h1.2
                · simp at h1
              subst hM0 hsc
              obtain rfl : Ml = 0 := by rw [hMl2]; rfl
              clear hs1 hs2 hMl hMl2 HMl
              go_wp2_with (at_builtin; refine wpList_append_own_none rfl _ _ 22 rfl w.heap.size 28 j0 1 Tryd.underlying22 hj _ _ _ rfl (by have := Htop4.out; rw [← HPl.out] at this; exact this) rfl ?_)
              go_wp2
              go_roundw
              case rel => exact ⟨k + 1, x', vs, by omega, by rw [Hw3.out], by have := Hxk.out; have := Hx'.out; omega, by rw [HP.out, List.append_nil]; exact Hown4.out, Htop.out, Hb4.out⟩
              case measure => simp [intOf]; have := Hx'.out; omega
            | some ad =>
              have Hcl := Lib.hid Hsub.out.cells
              have Hus := Lib.hid Hsub.out.len
              rw [← hMl2]
              clear hMl2 hs1 hs2
              go_wp2_with (at_builtin; refine wpList_append_own _ rfl _ _ 22 rfl w.heap.size 28 j0 (.slice none 0 0) 1 24 Tryd.underlying22 hj hy0 hy1 hy2 rfl (by decide) _ Pl vs rfl (by have := Htop4.out; rw [← HPl.out] at this; exact this) ad Ml sc us rfl ?f1 ?f2 ?f3 ?f4 ?f5 ?f6 ?_)
              case f1 => rw [Hus.out, HMl.out]; omega
              case f2 => exact Hcl.out.1
              case f3 => exact Hcl.out.2
              case f4 => unfold maxLen; omega
              case f5 => omega
              case f6 => exact HB4.out
              intro v'' w5 hown5 hgrow5 _
              have hjoin := Hown4.out.join (k := M) Hus.out Hsub.out.rows (by have := ownsRow_base hown5 HBl.out; rw [HPl.out, HMl.out] at this; exact this) hgrow5
              have hb5 : Below w.heap.size w4 w5 := Below.grown (Below.refl _ _) hgrow5 HB4.out (fun k hk => Htop.out k hk)
              have htop5 : ∀ g, v''.ownBlock = some g → w.heap.size ≤ g := fun g hg => (World.ownsRow.lt hown5 g hg).1
              have Hjoin := Lib.hid hjoin
              have Hb5 := Lib.hid (Hb4.out.trans hb5)
              have Htop5 := Lib.hid htop5
              clear hown5 hgrow5 hjoin hb5 htop5
              go_wp2
              go_roundw
              case rel => exact ⟨k + 1, x', _, by omega, by rw [Hw3.out], by have := Hxk.out; have := Hx'.out; omega, by rw [HP.out]; exact Hjoin.out, Htop5.out, Hb5.out⟩
              case measure => simp [intOf]; have := Hx'.out; omega
          · have H2in := Lib.hid h2
            clear h2
            have HP := Lib.hid (rowsP_no (d := d) (k := k) (fun h => by rw [← Hxk.out] at h; exact H2in.out (Hokx.out.1 h).2))
            go_wp2_with fail
            refine (l1In_any _ _ _ wr).mono ?_
            rintro e w2 ⟨ha, rfl⟩
            obtain rfl := ha.isnt H2in.out
            clear ha
            go_wp2
            go_roundw
            case rel => exact ⟨k + 1, x', vs, by omega, by rw [Hw3.out], by have := Hxk.out; have := Hx'.out; omega, by rw [HP.out]; exact Hown.out, Htop.out, Hbr.out⟩
            case measure => simp [intOf]; have := Hx'.out; omega
        · have H1in := Lib.hid h1
          clear h1
          have HP := Lib.hid (rowsP_no (d := d) (k := k) (fun h => by rw [← Hxk.out] at h; exact H1in.out (Hokx.out.1 h).1))
          go_wp2_with fail
          refine (l1In_any _ _ _ wr).mono ?_
          rintro e w2 ⟨ha, rfl⟩
          obtain rfl := ha.isnt H1in.out
          clear ha
          go_wp2
          go_roundw
          case rel => exact ⟨k + 1, x', vs, by omega, by rw [Hw3.out], by have := Hxk.out; have := Hx'.out; omega, by rw [HP.out]; exact Hown.out, Htop.out, Hbr.out⟩
          case measure => simp [intOf]; have := Hx'.out; omega
      · obtain rfl : k = 3 := by omega
        have hx2' : x = 2 := by omega
        subst hx2'
        clear hxk Hxk
        go_wp2
        go_ret
        exact ⟨_, vs, rfl, by rw [← rowsP_end]; exact Hown.out, Htop.out, Hbr.out⟩
end Go.Proofs.YtjkpokpidpampaaDoor

