/- Parts of proofs: contracts and plain facts. Conditions: as each says. -/
import Derived.Test.YtgdijjfipicodaaK12
import Derived.Deep.RegionWith
import Derived.Deep.Cut
namespace Go.Proofs.Ytgdijjfipicodaa
open Go.RowKit

/-- all numbers are at least 0 and less than the prime number -/
def inP (x : Int) : Prop := 0 ≤ x ∧ x < pM
theorem mod_inP (x : Int) : inP (x % pM) := ⟨Int.emod_nonneg _ (by decide), Int.emod_lt_of_pos _ (by decide)⟩
theorem mul_inP {x y : Int} (h1 : 0 ≤ x ∧ x ≤ pM) (h2 : 0 ≤ y ∧ y ≤ pM) : 0 ≤ x * y ∧ x * y ≤ 1000000014000000049 :=
  ⟨Int.mul_nonneg h1.1 h2.1, Int.le_trans (Int.mul_le_mul_of_nonneg_right h1.2 h2.1) (Int.le_trans (Int.mul_le_mul_of_nonneg_left h2.2 (by decide)) (by decide))⟩
theorem tmod_pM {x : Int} (h : 0 ≤ x) : x.tmod 1000000007 = x % pM := Int.tmod_eq_emod_of_nonneg h
theorem emod_pM (x : Int) : x % 1000000007 = x % pM := rfl

set_option maxRecDepth 100000 in
set_option maxHeartbeats 1600000 in
theorem syInverse_any (x : Int) (w : World) (hx : inP x) :
    Calls Try.prog 98 #[.int .i64 x] w fun e w' => e = .returned (.int .i64 (invF x)) ∧ w' = w := by
  obtain ⟨r, hr⟩ : ∃ r, r = invF x := ⟨_, rfl⟩
  rw [← hr]
  have H0 := Lib.hid (show powF 31 1000000005 1 x = r by rw [hr]; rfl)
  have Hx := Lib.hid hx
  clear hr hx
  go_enter Try.func98, Try.ntmps98
  go_wp2
  go_loop [0, 3, 4] (fun a o k => ∃ (f K : Nat) (O X : Int), K < 2 ^ f ∧ K ≤ 1000000005 ∧ k = .int .i64 (K : Int) ∧ o = .int .i64 O ∧ a = .int .i64 X ∧ inP O ∧ inP X ∧ powF f K O X = r) (fun _ _ k => (intOf k).toNat)
  case atStart => exact ⟨31, 1000000005, 1, x, by decide, Nat.le_refl _, rfl, rfl, rfl, ⟨by decide, by decide⟩, Hx.out, H0.out⟩
  case round =>
    obtain ⟨f, K, O, X, hK, hKb, rfl, rfl, rfl, hO, hX, hp⟩ := hrel
    have Hp := Lib.hid hp
    have HO := Lib.hid hO
    have HX := Lib.hid hX
    have HK := Lib.hid hK
    clear hp hO hX hK H0
    by_cases h0 : 0 < K
    · obtain ⟨f, rfl⟩ : ∃ f', f = f' + 1 := ⟨f - 1, by
        rcases Nat.eq_zero_or_pos f with h | h
        · have := HK.out; rw [h] at this; omega
        · omega⟩
      obtain ⟨K2, hK2⟩ : ∃ K2, K2 = K / 2 := ⟨_, rfl⟩
      have hq1 : (K : Int) / 2 = (K2 : Int) := by omega
      have hq2 : (K : Int).tdiv 2 = (K2 : Int) := by rw [Int.tdiv_eq_ediv_of_nonneg (by omega)]; exact hq1
      have HK2 := Lib.hid (show K2 < 2 ^ f by have := HK.out; rw [Nat.pow_succ] at this; omega)
      have HS := Lib.hid (show powF f K2 (if K % 2 = 1 then O * X % pM else O) (X * X % pM) = r by
        have h := Hp.out
        unfold powF at h
        rw [if_neg (by omega), ← hK2] at h
        exact h)
      have hK2b : K2 ≤ 1000000005 := by omega
      have hlt2 : K2 < K := by omega
      have b1 := mul_inP (x := O) (y := X) ⟨HO.out.1, Int.le_of_lt HO.out.2⟩ ⟨HX.out.1, Int.le_of_lt HX.out.2⟩
      have b2 := mul_inP (x := X) (y := X) ⟨HX.out.1, Int.le_of_lt HX.out.2⟩ ⟨HX.out.1, Int.le_of_lt HX.out.2⟩
      obtain ⟨p1, hp1⟩ : ∃ p1, p1 = O * X := ⟨_, rfl⟩
      obtain ⟨p2, hp2⟩ : ∃ p2, p2 = X * X := ⟨_, rfl⟩
      have w1 : IntKind.i64.wrap (O * X) = p1 := by rw [← hp1]; exact w64 (by rw [← hp1] at b1; omega)
      have w2 : IntKind.i64.wrap (X * X) = p2 := by rw [← hp2]; exact w64 (by rw [← hp2] at b2; omega)
      rw [← hp1] at b1
      rw [← hp2] at b2
      rw [← hp1, ← hp2] at HS
      obtain ⟨m1, hm1⟩ : ∃ m1, m1 = p1 % pM := ⟨_, rfl⟩
      obtain ⟨m2, hm2⟩ : ∃ m2, m2 = p2 % pM := ⟨_, rfl⟩
      have e1 : p1 % 1000000007 = m1 := by rw [hm1]; rfl
      have e2 : p2 % 1000000007 = m2 := by rw [hm2]; rfl
      have t1 : p1.tmod 1000000007 = m1 := by rw [hm1]; exact tmod_pM b1.1
      have t2 : p2.tmod 1000000007 = m2 := by rw [hm2]; exact tmod_pM b2.1
      rw [← hm1, ← hm2] at HS
      have Hm1 := Lib.hid (show inP m1 by rw [hm1]; exact mod_inP _)
      have Hm2 := Lib.hid (show inP m2 by rw [hm2]; exact mod_inP _)
      clear hK2 hp1 hp2 hm1 hm2 Hp HK
      by_cases hodd : K % 2 = 1
      · have HS2 := Lib.hid (show powF f K2 m1 m2 = r by have h := HS.out; rw [if_pos hodd] at h; exact h)
        have o1 : (K : Int) % 2 = 1 := by omega
        have o2 : (K : Int).tmod 2 = 1 := by rw [Int.tmod_eq_emod_of_nonneg (by omega)]; exact o1
        clear hodd HS
        go_wp2
        go_round
        case rel => exact ⟨f, K2, m1, m2, HK2.out, hK2b, rfl, rfl, rfl, Hm1.out, Hm2.out, HS2.out⟩
        case measure => simp [intOf]; omega
      · have HS2 := Lib.hid (show powF f K2 O m2 = r by have h := HS.out; rw [if_neg hodd] at h; exact h)
        have o1 : (K : Int) % 2 = 0 := by omega
        have o2 : (K : Int).tmod 2 = 0 := by rw [Int.tmod_eq_emod_of_nonneg (by omega)]; exact o1
        clear hodd HS
        go_wp2
        go_round
        case rel => exact ⟨f, K2, O, m2, HK2.out, hK2b, rfl, rfl, rfl, HO.out, Hm2.out, HS2.out⟩
        case measure => simp [intOf]; omega
    · obtain rfl : K = 0 := by omega
      have HR := Lib.hid (show O = r by
        have h := Hp.out
        cases f with
        | zero => exact h
        | succ f => unfold powF at h; rw [if_pos rfl] at h; exact h)
      go_wp2
      go_ret
      exact ⟨by rw [← HR.out]; rfl, rfl⟩

/-- a number of an owned table: its row, its cell, a store into it -/
theorem OwnP.atL {w : World} {B n : Nat} {v : Value} {m : List (List Int)} {vs : List Value} (h : OwnP w B v n m n vs) (hm : m.length = n) {i j : Nat} (hi : i < n) (hj : j < (gr m i).length) :
    ∃ g cap, vs.getD i undef = .slice (some ⟨g, 0, none⟩) (gr m i).length cap ∧ w.cell? ⟨g, j, none⟩ = some (.int .i64 (gi (gr m i) j)) ∧ w.frozen? ⟨g, j, none⟩ = false ∧ B ≤ g ∧
      ∀ x, OwnP (w.setCell ⟨g, j, none⟩ (.int .i64 x)) B v n (m.set i ((gr m i).set j x)) n vs := by
  have hrow := h.rows i hi
  obtain ⟨ao, cap, hv, _, _, _⟩ := hrow.read
  have hrow' := hrow
  rw [hv] at hrow'
  obtain ⟨g, rfl, hg, _⟩ := hrow'.isAt (by omega)
  refine ⟨g, cap, hv, hrow'.cellAt j hj, hrow'.frozenAt j, hg, fun x => ⟨?_, fun a ha => ?_, h.apart⟩⟩
  · exact Go.ownsRow_setCell_other h.top (fun e => hrow.ne_row h.top g (by rw [hv]; rfl) e) _
  · rw [gr_set (by omega)]
    by_cases e : a = i
    · subst e
      rw [if_pos rfl, hv]
      exact hrow'.store j x
    · rw [if_neg e]
      refine (h.rows a ha).setOther (fun hg' => ?_) _
      rcases Nat.lt_or_gt_of_ne e with hlt | hlt
      · exact h.apart a i hlt hi g hg' (by rw [hv]; rfl)
      · exact h.apart i a hlt ha g (by rw [hv]; rfl) hg'

/-- two rows have been exchanged -/
def swpV (vs : List Value) (i j : Nat) : List Value := (vs.set i (vs.getD j undef)).set j (vs.getD i undef)
theorem vs_setB {vs : List Value} {i j : Nat} {x : Value} (h : i < vs.length) : (vs.set i x).getD j undef = if j = i then x else vs.getD j undef := by
  simp only [List.getD, List.getElem?_set]
  by_cases e : i = j
  · subst e; simp [h]
  · rw [if_neg e, if_neg (fun h => e h.symm)]
theorem swpV_at {vs : List Value} {i j a : Nat} (hi : i < vs.length) (hj : j < vs.length) : (swpV vs i j).getD a undef = vs.getD (if a = j then i else if a = i then j else a) undef := by
  unfold swpV
  rw [vs_setB (by rw [List.length_set]; exact hj), vs_setB hi]
  by_cases e : a = j
  · rw [if_pos e, if_pos e]
  · rw [if_neg e, if_neg e]
    by_cases e2 : a = i
    · rw [if_pos e2, if_pos e2]
    · rw [if_neg e2, if_neg e2]
theorem gr_swpL {L : List (List Int)} {i j a : Nat} (hi : i < L.length) (hj : j < L.length) : gr (swpL L i j) a = gr L (if a = j then i else if a = i then j else a) := by
  unfold swpL
  rw [gr_set (by rw [List.length_set]; exact hj), gr_set hi]
  by_cases e : a = j
  · rw [if_pos e, if_pos e]
  · rw [if_neg e, if_neg e]
    by_cases e2 : a = i
    · rw [if_pos e2, if_pos e2]
    · rw [if_neg e2, if_neg e2]
theorem OwnP.swap {w : World} {B g n c : Nat} {m : List (List Int)} {vs : List Value} (h : OwnP w B (.slice (some ⟨g, 0, none⟩) n c) n m n vs) (hm : m.length = n) {i j : Nat} (hi : i < n) (hj : j < n) :
    OwnP ((w.setCell ⟨g, i, none⟩ (vs.getD j undef)).setCell ⟨g, j, none⟩ (vs.getD i undef)) B (.slice (some ⟨g, 0, none⟩) n c) n (swpL m i j) n (swpV vs i j) := by
  obtain ⟨cur, hcur⟩ := ownsRow_block h.top
  have hl : vs.length = n := by simpa using h.top.1
  have ht := (World.ownsRow.stored (World.ownsRow.stored h.top i (vs.getD j undef)).1 j (vs.getD i undef)).1
  refine ⟨ht, fun a ha => ?_, fun a b hab hb q hq => ?_⟩
  · rw [swpV_at (by omega) (by omega), gr_swpL (by omega) (by omega)]
    have hx : (if a = j then i else if a = i then j else a) < n := by split; exact hi; split; exact hj; exact ha
    have hr := h.rows _ hx
    exact (hr.setOther (hr.ne_top hcur) _).setOther (hr.ne_top hcur) _
  · rw [swpV_at (by omega) (by omega)] at hq ⊢
    have hx : (if a = j then i else if a = i then j else a) < n := by split; exact hi; split; exact hj; omega
    have hy : (if b = j then i else if b = i then j else b) < n := by split; exact hi; split; exact hj; exact hb
    have hne : (if a = j then i else if a = i then j else a) ≠ (if b = j then i else if b = i then j else b) := by
      repeat' split
      all_goals omega
    rcases Nat.lt_or_gt_of_ne hne with e | e
    · exact h.apart _ _ e hy q hq
    · intro hq2
      exact h.apart _ _ e hx q hq2 hq
end Go.Proofs.Ytgdijjfipicodaa

namespace Go.Proofs.Ytgdijjfipicodaa
open Go.RowKit

/-- a square table of numbers less than the prime number -/
def Mt (L : List (List Int)) (N : Nat) : Prop := L.length = N ∧ ∀ r, r < N → (gr L r).length = N ∧ ∀ c, c < N → inP (gi (gr L r) c)
theorem powF_inP : ∀ (f k : Nat) (o x : Int), inP o → inP (powF f k o x)
  | 0, _, _, _, h => h
  | f + 1, k, o, x, h => by
    unfold powF
    split
    · exact h
    · refine powF_inP f _ _ _ ?_
      split
      · exact mod_inP _
      · exact h
theorem invF_inP (x : Int) : inP (invF x) := powF_inP _ _ _ _ ⟨by decide, by decide⟩
theorem pivF_ge (L : List (List Int)) (k : Nat) : ∀ f a, a ≤ pivF L k f a
  | 0, a => Nat.le_refl _
  | f + 1, a => by
    unfold pivF
    split
    · have := pivF_ge L k f (a + 1); omega
    · exact Nat.le_refl _
theorem Mt.swp {L : List (List Int)} {N i j : Nat} (h : Mt L N) (hi : i < N) (hj : j < N) : Mt (swpL L i j) N := by
  refine ⟨by simp [swpL, h.1], fun r hr => ?_⟩
  rw [gr_swpL (by rw [h.1]; exact hi) (by rw [h.1]; exact hj)]
  refine h.2 _ ?_
  split
  · exact hi
  · split
    · exact hj
    · exact hr
theorem Mt.set {L : List (List Int)} {N i : Nat} {row : List Int} (h : Mt L N) (hi : i < N) (h1 : row.length = N) (h2 : ∀ c, c < N → inP (gi row c)) : Mt (L.set i row) N := by
  refine ⟨by rw [List.length_set]; exact h.1, fun r hr => ?_⟩
  rw [gr_set (by rw [h.1]; exact hi)]
  split
  · exact ⟨h1, h2⟩
  · exact h.2 r hr
theorem Mt.mixL {L : List (List Int)} {N i : Nat} {F : Nat → Int} {b : Nat} (h : Mt L N) (hi : i < N) (hF : ∀ c, inP (F c)) : (mixL F (gr L i) b).length = N ∧ ∀ c, c < N → inP (gi (mixL F (gr L i) b) c) := by
  obtain ⟨h1, h2⟩ := h.2 i hi
  refine ⟨by rw [mixL_len]; exact h1, fun c hc => ?_⟩
  rw [gi_mixL (by omega)]
  split
  · exact hF c
  · exact h2 c hc
theorem Mt.colN {L : List (List Int)} {N k : Nat} (h : Mt L N) (hk : k < N) : Mt (colN L k) N := by
  have := h.mixL (F := nmF (gr L k) (invF (gi (gr L k) k))) (b := L.length) hk (fun c => mod_inP _)
  exact h.set hk this.1 this.2
theorem Mt.elR {L : List (List Int)} {N k a : Nat} (h : Mt L N) (ha : a < N) : (elR L k a).length = N ∧ ∀ c, c < N → inP (gi (elR L k a) c) := by
  unfold Go.Proofs.Ytgdijjfipicodaa.elR
  split
  · exact h.2 a ha
  · exact h.mixL ha (fun c => mod_inP _)
theorem Mt.mixR {L : List (List Int)} {N t : Nat} {F : Nat → List Int} (h : Mt L N) (hF : ∀ a, a < N → (F a).length = N ∧ ∀ c, c < N → inP (gi (F a) c)) : Mt (mixR F L t) N := by
  refine ⟨by rw [mixR_len]; exact h.1, fun r hr => ?_⟩
  rw [gr_mixR (by rw [h.1]; exact hr)]
  split
  · exact hF r hr
  · exact h.2 r hr
theorem mixR_skip {F : Nat → List Int} {L : List (List Int)} {t : Nat} (h : F t = gr L t) : mixR F L t = mixR F L (t + 1) := by
  refine ext_gr (by rw [mixR_len, mixR_len]) fun r hr => ?_
  rw [mixR_len] at hr
  rw [gr_mixR hr, gr_mixR hr]
  by_cases e : r = t
  · subst e; rw [if_neg (Nat.lt_irrefl r), if_pos (Nat.lt_succ_self r), h]
  · by_cases e2 : r < t
    · rw [if_pos e2, if_pos (show r < t + 1 by omega)]
    · rw [if_neg e2, if_neg (show ¬r < t + 1 by omega)]
/-- the look at the pivots -/
theorem solK_piv (L : List (List Int)) : ∀ K, (solK L K).2 = true → ∀ k, k < K → pivF (solK L k).1 k (solK L k).1.length k < (solK L k).1.length ∧ gi (gr (solK L k).1 (pivF (solK L k).1 k (solK L k).1.length k)) k ≠ 0
  | 0, _, k, hk => absurd hk (by omega)
  | K + 1, h, k, hk => by
    unfold solK at h
    rw [Bool.and_eq_true, Bool.and_eq_true, decide_eq_true_eq, decide_eq_true_eq] at h
    by_cases e : k = K
    · rw [e]; exact h.2
    · exact solK_piv L K h.1 k (by omega)
theorem solK_mt {L : List (List Int)} {N K : Nat} (h : Mt L N) (hs : (solK L K).2 = true) (hK : K < N) : ∀ k, k ≤ K → Mt (solK L k).1 N
  | 0, _ => h
  | k + 1, hk => by
    have hm := solK_mt h hs hK k (by omega)
    have hp := (solK_piv L K hs k (by omega)).1
    rw [hm.1] at hp
    have h1 : Mt (colS (solK L k).1 k) N := hm.swp (by omega) (by rw [hm.1]; exact hp)
    have h2 := h1.colN (k := k) (by omega)
    exact h2.mixR fun a ha => h2.elR ha

theorem sumT_mt {n : Nat} (h1 : 1 ≤ n) (h4 : n < 5) : Mt (sumT (patP 6 n)) (catN n) := by
  refine ⟨sumT_len _, fun r hr => ?_⟩
  have e : (patP 6 n).length = catN n := rfl
  rw [sumT_at h1 h4, e]
  refine ⟨tab_row hr, fun c hc => ?_⟩
  rw [gi_tab hr hc]
  have h := sumN_in (patP 6 n) (2 * n) r c
  refine ⟨h.1, ?_⟩
  have : (1000 : Int) < pM := by decide
  omega
theorem dgF_row {L : List (List Int)} {N a : Nat} {c : Int} (h : Mt L N) (ha : a < N) : (dgF L c a).length = N ∧ ∀ x, x < N → inP (gi (dgF L c a) x) := by
  obtain ⟨h1, h2⟩ := h.2 a ha
  unfold dgF
  refine ⟨by rw [List.length_set]; exact h1, fun x hx => ?_⟩
  rw [gi_set (by omega)]
  split
  · exact mod_inP _
  · exact h2 x hx
theorem sys_mt {n : Nat} (h1 : 1 ≤ n) (h4 : n < 5) : Mt (sysL n) (catN n) := (sumT_mt h1 h4).mixR fun _ ha => dgF_row (sumT_mt h1 h4) ha
theorem sol_is {n : Nat} (h1 : 1 ≤ n) (h4 : n < 5) : (solK (sysL n) (catN n - 1)).2 = true ∧ outL (solK (sysL n) (catN n - 1)).1 (catN n) = sol n := by
  have h := (sol_all n h4).resolve_left (by omega)
  rw [Bool.and_eq_true] at h
  exact ⟨h.1, eq_of_beq h.2⟩
end Go.Proofs.Ytgdijjfipicodaa

