/- Parts of proofs: contracts and plain facts. Conditions: as each says. -/
import Derived.Test.YtmcgnbbobhfkpaaDoorK02
import Derived.Maps.RangeWalk
import Derived.Maps.OwnOps
import Derived.Maps.Views
import Derived.WideKeyEntry
import Derived.DeepKeys4
namespace Go.Proofs.YtmcgnbbobhfkpaaDoor
open Go.RowKit

/-- the sum of the first k numbers of a column -/
def colR (m : List (List Int)) (j : Nat) : Nat → Int
  | 0 => 0
  | k + 1 => colR m j k + gi (gr m k) j
theorem colR_tr {m : List (List Int)} {j : Nat} (hj : j < m.length) : ∀ k, k ≤ m.length → colR m j k = sumK (gr (tr m) j) k
  | 0, _ => rfl
  | k + 1, hk => by simp only [colR, sumK]; rw [colR_tr hj k (by omega), gi_tr hj (by omega)]
theorem colR_01 {m : List (List Int)} (h : good m) {j k : Nat} (hj : j < m.length) (hk : k ≤ m.length) : 0 ≤ colR m j k ∧ colR m j k ≤ 1 := by
  rw [colR_tr hj k hk]
  exact (h.2.2 j (by rw [tr_len]; exact hj)).1 k (by rw [tr_row hj]; exact hk)

/-- the numbers below n for which f holds -/
def colsF (n : Nat) (f : Nat → Bool) : List Int := ((List.range n).filter f).map fun j : Nat => (j : Int)
theorem mem_colsF {n : Nat} {f : Nat → Bool} {x : Int} : x ∈ colsF n f ↔ ∃ j : Nat, x = j ∧ j < n ∧ f j = true := by
  simp only [colsF, List.mem_map, List.mem_filter, List.mem_range]
  constructor
  · rintro ⟨j, ⟨h1, h2⟩, rfl⟩; exact ⟨j, rfl, h1, h2⟩
  · rintro ⟨j, rfl, h1, h2⟩; exact ⟨j, ⟨h1, h2⟩, rfl⟩
theorem colsF_succ (n : Nat) (f : Nat → Bool) : colsF (n + 1) f = colsF n f ++ (if f n then [(n : Int)] else []) := by
  simp only [colsF, List.range_succ, List.filter_append, List.map_append]
  cases h : f n <;> simp [h]
theorem colsF_up (n : Nat) (f : Nat → Bool) : Up (colsF n f) := by
  induction n with
  | zero => trivial
  | succ n ih =>
    rw [colsF_succ]
    refine up_join ih (by split <;> trivial) (fun x hx y hy => ?_)
    obtain ⟨j, rfl, hj, _⟩ := mem_colsF.1 hx
    split at hy
    · simp at hy; omega
    · cases hy
theorem colsF_len (n : Nat) (f : Nat → Bool) : (colsF n f).length ≤ n := by
  simp only [colsF, List.length_map]
  exact Nat.le_trans (List.length_filter_le _ _) (by simp)
theorem colsF_rise {n : Nat} (f : Nat → Bool) (h : n ≤ 16) : Rise (colsF n f) := ⟨colsF_up n f, fun x hx => by obtain ⟨j, rfl, hj, _⟩ := mem_colsF.1 hx; omega⟩
theorem colsF_congr {n : Nat} {f g : Nat → Bool} (h : ∀ j, j < n → f j = g j) : colsF n f = colsF n g := by
  unfold colsF
  congr 1
  exact List.filter_congr (fun j hj => h j (by simpa using hj))
theorem mask_cols (n : Nat) (f : Nat → Bool) (i : Nat) : (mask (colsF n f)).testBit i = (decide (i < n) && f i) := by
  rw [testBit_mask (fun x hx => by obtain ⟨j, rfl, _, _⟩ := mem_colsF.1 hx; omega)]
  rw [Bool.eq_iff_iff, decide_eq_true_eq, mem_colsF, Bool.and_eq_true, decide_eq_true_eq]
  constructor
  · rintro ⟨j, e, h1, h2⟩
    obtain rfl : i = j := by omega
    exact ⟨h1, h2⟩
  · rintro ⟨h1, h2⟩; exact ⟨i, rfl, h1, h2⟩
theorem mask_flip {n j : Nat} {f g : Nat → Bool} (hj : j < n) (h1 : g j = !f j) (h2 : ∀ i, i ≠ j → g i = f i) : mask (colsF n f) ^^^ 2 ^ j = mask (colsF n g) := by
  apply Nat.eq_of_testBit_eq
  intro i
  rw [Nat.testBit_xor, mask_cols, mask_cols, Nat.testBit_two_pow]
  by_cases e : j = i
  · subst e; simp [hj, h1]
  · rw [h2 i (fun h => e h.symm)]; simp [e]

/-- the columns whose sum is 1 behind k rows -/
def triRow (m : List (List Int)) (k : Nat) : List Int := colsF m.length fun j => decide (colR m j k = 1)
def triM (m : List (List Int)) : List (List Int) := (List.range m.length).map fun i => triRow m (i + 1)
theorem triM_len (m : List (List Int)) : (triM m).length = m.length := by simp [triM]
theorem gr_triM {m : List (List Int)} {i : Nat} (h : i < m.length) : gr (triM m) i = triRow m (i + 1) := by
  rw [gr_lt (by rw [triM_len]; exact h)]
  simp [triM]
theorem triM_small {m : List (List Int)} (h : m.length ≤ 6) : Small (triM m) := ⟨by rw [triM_len]; omega, fun i hi => by
  rw [triM_len] at hi
  rw [gr_triM hi]
  have := colsF_len m.length fun j => decide (colR m j (i + 1) = 1)
  unfold triRow
  omega⟩

/-- .. in the middle of row k -/
def triMid (m : List (List Int)) (k t : Nat) : Nat → Bool := fun j => decide (colR m j (if j < t then k + 1 else k) = 1)
theorem triMid_start (m : List (List Int)) (k : Nat) : colsF m.length (triMid m k 0) = triRow m k := colsF_congr fun j _ => by simp [triMid]
theorem triMid_end (m : List (List Int)) (k : Nat) : colsF m.length (triMid m k m.length) = triRow m (k + 1) := colsF_congr fun j hj => by simp [triMid, hj]
theorem triMid_same {m : List (List Int)} {k t : Nat} (h : gi (gr m k) t = 0) : colsF m.length (triMid m k (t + 1)) = colsF m.length (triMid m k t) := colsF_congr fun j _ => by
  unfold triMid
  by_cases e : j = t
  · subst e
    rw [if_pos (by omega), if_neg (by omega), colR, h, Int.add_zero]
  · have : (j < t + 1) = (j < t) := propext (by omega)
    simp only [this]
theorem triMid_flip {m : List (List Int)} (hg : good m) {k t : Nat} (hk : k < m.length) (ht : t < m.length) (h : gi (gr m k) t ≠ 0) : mask (colsF m.length (triMid m k t)) ^^^ 2 ^ t = mask (colsF m.length (triMid m k (t + 1))) := by
  refine mask_flip ht ?_ (fun i hi => ?_)
  · unfold triMid
    rw [if_pos (by omega), if_neg (by omega), colR]
    have h1 := colR_01 hg ht (show k ≤ m.length by omega)
    have h2 := colR_01 hg ht (show k + 1 ≤ m.length by omega)
    rw [colR] at h2
    by_cases e : colR m t k = 1
    · have : ¬ colR m t k + gi (gr m k) t = 1 := by omega
      simp [e]; omega
    · have : colR m t k + gi (gr m k) t = 1 := by omega
      simp [e, this]
  · unfold triMid
    have : (i < t + 1) = (i < t) := propext (by omega)
    simp only [this]

theorem xor_step (n t : Nat) (f : Nat → Bool) (hn : n ≤ 16) (ht : t ≤ 15) : bits .xor .u64 ((mask (colsF n f) : Nat) : Int) ((2 ^ t : Nat) : Int) = ((mask (colsF n f) ^^^ 2 ^ t : Nat) : Int) := by
  have := mask_lt16 (colsF_rise f hn)
  have h2 : 2 ^ t ≤ 2 ^ 15 := Nat.pow_le_pow_right (by omega) (by omega)
  rw [u64_xor_nat _ _ (by omega) (by omega)]

theorem OwnP.nil0 (w : World) (B : Nat) (m : List (List Int)) : OwnP w B (.slice none 0 0) 0 m 0 [] := ⟨World.ownsRow_nil _ _ _ _, fun i hi => absurd hi (by omega), fun i j _ hj => absurd hj (by omega)⟩
/-- the sums of the columns in the middle of row k -/
def sumMid (m : List (List Int)) (k t : Nat) : List Int := (List.range m.length).map fun j => colR m j (if j < t then k + 1 else k)
theorem sumMid_len (m : List (List Int)) (k t : Nat) : (sumMid m k t).length = m.length := by simp [sumMid]
theorem gi_sumMid {m : List (List Int)} {k t j : Nat} (hj : j < m.length) : gi (sumMid m k t) j = colR m j (if j < t then k + 1 else k) := gi_row hj
theorem sumMid_set {m : List (List Int)} {k t : Nat} (ht : t < m.length) : (sumMid m k t).set t (colR m t k + gi (gr m k) t) = sumMid m k (t + 1) := by
  refine ext_gi (by rw [List.length_set, sumMid_len, sumMid_len]) fun j hj => ?_
  rw [List.length_set, sumMid_len] at hj
  rw [gi_set (by rw [sumMid_len]; exact ht), gi_sumMid hj, gi_sumMid hj]
  by_cases e : j = t
  · subst e; rw [if_pos rfl, if_pos (by omega), colR]
  · rw [if_neg e]
    have : (j < t + 1) = (j < t) := propext (by omega)
    simp only [this]
theorem sumMid_next (m : List (List Int)) (k : Nat) : sumMid m k m.length = sumMid m (k + 1) 0 := by
  refine ext_gi (by rw [sumMid_len, sumMid_len]) fun j hj => ?_
  rw [sumMid_len] at hj
  rw [gi_sumMid hj, gi_sumMid hj, if_pos hj, if_neg (by omega)]
theorem sumMid_zero (m : List (List Int)) : sumMid m 0 0 = List.replicate m.length 0 := by
  refine ext_gi (by rw [sumMid_len, List.length_replicate]) fun j hj => ?_
  rw [sumMid_len] at hj
  rw [gi_sumMid hj, if_neg (by omega), gi_lt (by simpa using hj)]
  simp [colR]

/-- what stands apart from one block is kept where that block alone turns -/
theorem OwnP.kept {w w1 : World} {B n k g : Nat} {v : Value} {m : List (List Int)} {vs : List Value} (h : OwnP w B v n m k vs) (hg : w.grownBy w1 (some g)) (hB : g < B) : OwnP w1 B v n m k vs := by
  have ap : ∀ (e : TypeId) (u : Value) (n : Nat) (xs : List Value), w.ownsRow B e 1 u n xs → w1.ownsRow B e 1 u n xs := fun e u n xs hx => by
    refine World.ownsRow.kept hx hg ?_
    cases hb : u.ownBlock with
    | none => exact .inl rfl
    | some g' => exact .inr (fun e => by cases e; have := (World.ownsRow.lt hx g hb).1; omega)
  exact ⟨ap _ _ _ _ h.top, fun i hi => ap _ _ _ _ (h.rows i hi), h.apart⟩

end Go.Proofs.YtmcgnbbobhfkpaaDoor

namespace Go.Proofs.YtmcgnbbobhfkpaaDoor
open Go.RowKit Go.Maps

abbrev Pos := List Int × Int
abbrev Ent := Pos × Int
def ky (p : Pos) : Value := .agg #[.int .u64 (mask p.1 : Nat), .int .i64 p.2]
/-- a row and a small score -/
def vk (p : Pos) : Prop := Rise p.1 ∧ -1000 ≤ p.2 ∧ p.2 ≤ 1000

theorem ky_reads_gen {P : Program} {k : TypeId} {f0 f1 : Field} (hu : P.underlying k = some (.struct #[f0, f1])) (hk : P.keyType k = true) (hc : P.cellsOf k = 2) (hn0 : (f0.name != "_") = true) (hn1 : (f1.name != "_") = true)
    (ho0 : f0.offset = 0) (ho1 : f1.offset = 1) (c0 : P.cellsOf f0.type = 1) (c1 : P.cellsOf f1.type = 1) (u0 : P.underlying f0.type = some (.int .u64)) (u1 : P.underlying f1.type = some (.int .i64)) (hs : 0 < P.types.size)
    (a b : Int) (h1 : (Lit.int .u64 a).wf = true) (h2 : (Lit.int .i64 b).wf = true) : ∃ l, keyOf P k (.agg #[.int .u64 a, .int .i64 b]) = some l := by
  obtain ⟨n, hn⟩ : ∃ n, P.types.size = n + 1 := ⟨P.types.size - 1, by omega⟩
  have e2 : (Value.agg #[.int .u64 a, .int .i64 b]).formed P k = true := by simp [Value.formed, hu, hc]
  have k0 : P.keyLits (n + 1) f0.type [.int .u64 a] = some [.int .u64 a] := by simp [Program.keyLits, u0, h1]
  have k1 : P.keyLits (n + 1) f1.type [.int .i64 b] = some [.int .i64 b] := by simp [Program.keyLits, u1, h2]
  have kk : P.keyLits (n + 1 + 1) k [.int .u64 a, .int .i64 b] = some [.int .u64 a, .int .i64 b] := by
    have hall : (#[f0, f1] : Array Field).all (fun f => f.name != "_") = true := by simp; exact ⟨by simpa using hn0, by simpa using hn1⟩
    simp only [Program.keyLits, hu, hc, hall, List.length_cons, List.length_nil, and_self, if_true, List.mapM_cons, List.mapM_nil, ho0, ho1, c0, c1, List.drop, List.take, u0, u1, h1, h2]
    rfl
  refine ⟨.string (keyBytes [.int .u64 a, .int .i64 b]), ?_⟩
  unfold keyOf
  rw [hu, hn]
  simp only [hk, e2, Bool.and_self, if_true]
  show Option.map _ (P.keyLits (n + 1 + 1) k [.int .u64 a, .int .i64 b]) = _
  rw [kk]
  rfl

section
variable {P : Program} {k e : TypeId}

/-- the program's key type, as the laws on maps want it -/
structure StKey (P : Program) (k e : TypeId) : Prop where
  K : Keyed P k
  reads : ∀ a b : Int, (Lit.int .u64 a).wf = true → (Lit.int .i64 b).wf = true → ∃ l, keyOf P k (.agg #[.int .u64 a, .int .i64 b]) = some l
  elem : P.underlying e = some (.int .i64)

noncomputable def kl (P : Program) (k : TypeId) (p : Pos) : Lit := (keyOf P k (ky p)).getD (.bool true)
theorem kl_is (S : StKey P k e) {p : Pos} (h : vk p) : keyOf P k (ky p) = some (kl P k p) := by
  have := mask_lt16 h.1
  obtain ⟨l, hl⟩ := S.reads (mask p.1 : Nat) p.2 (by simp [Lit.wf, IntKind.min, IntKind.max, IntKind.bits, IntKind.signed]; omega) (by have := h.2; simp [Lit.wf, IntKind.min, IntKind.max, IntKind.bits, IntKind.signed]; omega)
  show keyOf P k (.agg #[.int .u64 (mask p.1 : Nat), .int .i64 p.2]) = _
  unfold kl ky
  rw [hl]
  rfl
theorem ky_inj {p q : Pos} (hp : vk p) (hq : vk q) (h : ky p = ky q) : p = q := by
  unfold ky at h
  have h0 : ((mask p.1 : Nat) : Int) = (mask q.1 : Nat) ∧ p.2 = q.2 := by simpa using h
  have h1 : mask p.1 = mask q.1 ∧ p.2 = q.2 := ⟨by omega, h0.2⟩
  clear h h0
  obtain ⟨p1, p2⟩ := p
  obtain ⟨q1, q2⟩ := q
  simp only at h1 hp hq
  obtain ⟨h1, rfl⟩ := h1
  have e : p1 = q1 := mask_inj hp.1.1 (fun x hx => (hp.1.2 x hx).1) hq.1.1 (fun x hx => (hq.1.2 x hx).1) h1
  rw [e]
theorem kl_inj (S : StKey P k e) {p q : Pos} (hp : vk p) (hq : vk q) (h : kl P k p = kl P k q) : p = q := by
  refine ky_inj hp hq (S.K.inj (kl_is S hp) ?_)
  rw [h]
  exact kl_is S hq
theorem kl_key (S : StKey P k e) {p : Pos} (hp : vk p) : WideAt.IsKeyLit (kl P k p) := S.K.key (kl_is S hp)

noncomputable def encE (P : Program) (k : TypeId) (x : Ent) : Lit × DataW Nat := (kl P k x.1, .lit (.int .i64 x.2))
def getC (L : List Ent) (p : Pos) : Int := ((L.find? fun x => x.1 == p).map (·.2)).getD 0
def strike (L : List Ent) (p : Pos) : List Ent := L.filter fun x => !(x.1 == p)

/-- the datum lists just these entries -/
structure MapD (P : Program) (k : TypeId) (D : DataW Nat) (L : List Ent) : Prop where
  es : ∃ es, D = .map es ∧ es.Perm (L.map (encE P k))
  ok : ∀ x ∈ L, vk x.1
  nd : (L.map (·.1)).Nodup

theorem MapD.empty : MapD P k (.map []) [] := ⟨⟨[], rfl, List.Perm.refl _⟩, (fun x hx => by cases hx), List.nodup_nil⟩
theorem MapD.isMap {D : DataW Nat} {L : List Ent} (h : MapD P k D L) : Maps.IsMap D := by obtain ⟨es, e, _⟩ := h.es; exact ⟨es, e⟩
theorem MapD.size {D : DataW Nat} {L : List Ent} (h : MapD P k D L) : Maps.size D = L.length := by
  obtain ⟨es, rfl, hp⟩ := h.es
  rw [Maps.size_eq, hp.length_eq, List.length_map]

theorem sameKey_kl (S : StKey P k e) {p q : Pos} (hp : vk p) (hq : vk q) : (kl P k q).sameKey (kl P k p) = (q == p) := by
  by_cases h : q = p
  · subst h; rw [WideAt.sameKey_self (kl_key S hp)]; simp
  · rw [Maps.sameKey_ne (fun e => h (kl_inj S hq hp e))]; simp [h]

theorem nodup_fst {L : List Ent} (h : (L.map (·.1)).Nodup) {x y : Ent} (hx : x ∈ L) (hy : y ∈ L) (e : x.1 = y.1) : x = y := by
  induction L with
  | nil => cases hx
  | cons a r ih =>
    simp only [List.map_cons, List.nodup_cons] at h
    rcases List.mem_cons.1 hx with h1 | h1
    · rcases List.mem_cons.1 hy with h2 | h2
      · rw [h1, h2]
      · exact absurd (List.mem_map.2 ⟨y, h2, by rw [← e, h1]⟩) h.1
    · rcases List.mem_cons.1 hy with h2 | h2
      · exact absurd (List.mem_map.2 ⟨x, h1, by rw [e, h2]⟩) h.1
      · exact ih h.2 h1 h2

theorem getC_of_mem {L : List Ent} (h : (L.map (·.1)).Nodup) {x : Ent} (hx : x ∈ L) : getC L x.1 = x.2 := by
  unfold getC
  cases hf : L.find? (fun y => y.1 == x.1) with
  | none => have := List.find?_eq_none.1 hf x hx; simp at this
  | some y =>
    have h1 := List.mem_of_find?_eq_some hf
    have h2 := List.find?_some hf
    have : y = x := nodup_fst h h1 hx (by simpa using h2)
    rw [this]; rfl
theorem getC_not {L : List Ent} {p : Pos} (h : ∀ x ∈ L, x.1 ≠ p) : getC L p = 0 := by
  unfold getC
  rw [List.find?_eq_none.2 (fun x hx => by simpa using h x hx)]
  rfl

theorem MapD.atKey (S : StKey P k e) {D : DataW Nat} {L : List Ent} (h : MapD P k D L) {p : Pos} (hp : vk p) : D.atKey (kl P k p) (.lit (.int .i64 0)) = .lit (.int .i64 (getC L p)) := by
  obtain ⟨es, rfl, hperm⟩ := h.es
  simp only [DataW.atKey]
  by_cases hm : ∃ x ∈ L, x.1 = p
  · obtain ⟨x, hx, rfl⟩ := hm
    rw [getC_of_mem h.nd hx]
    cases hf : es.find? (fun q => q.1.sameKey (kl P k x.1)) with
    | none =>
      have := List.find?_eq_none.1 hf (encE P k x) (hperm.mem_iff.2 (List.mem_map.2 ⟨x, hx, rfl⟩))
      simp only [encE, sameKey_kl S hp hp] at this
      simp at this
    | some q =>
      have h1 := hperm.mem_iff.1 (List.mem_of_find?_eq_some hf)
      have h2 := List.find?_some hf
      obtain ⟨y, hy, rfl⟩ := List.mem_map.1 h1
      simp only [encE, sameKey_kl S hp (h.ok y hy)] at h2
      have : y = x := nodup_fst h.nd hy hx (by simpa using h2)
      rw [this]; rfl
  · rw [getC_not (fun x hx e => hm ⟨x, hx, e⟩)]
    rw [List.find?_eq_none.2 (fun q hq => by
      obtain ⟨y, hy, rfl⟩ := List.mem_map.1 (hperm.mem_iff.1 hq)
      simp only [encE, sameKey_kl S hp (h.ok y hy)]
      simpa using fun e => hm ⟨y, hy, e⟩)]

theorem MapD.has (S : StKey P k e) {D : DataW Nat} {L : List Ent} (h : MapD P k D L) {p : Pos} (hp : vk p) : Maps.has D (kl P k p) = L.any fun x => x.1 == p := by
  obtain ⟨es, rfl, hperm⟩ := h.es
  rw [Maps.has_eq, Bool.eq_iff_iff, List.any_eq_true, List.any_eq_true]
  constructor
  · rintro ⟨q, hq, h2⟩
    obtain ⟨y, hy, rfl⟩ := List.mem_map.1 (hperm.mem_iff.1 hq)
    simp only [encE, sameKey_kl S hp (h.ok y hy)] at h2
    exact ⟨y, hy, h2⟩
  · rintro ⟨y, hy, h2⟩
    refine ⟨encE P k y, hperm.mem_iff.2 (List.mem_map.2 ⟨y, hy, rfl⟩), ?_⟩
    simp only [encE, sameKey_kl S hp (h.ok y hy)]
    exact h2

theorem MapD.key_of {D : DataW Nat} {L : List Ent} (h : MapD P k D L) {l : Lit} (hh : Maps.has D l = true) : ∃ x ∈ L, kl P k x.1 = l := by
  obtain ⟨es, rfl, hperm⟩ := h.es
  rw [Maps.has_eq, List.any_eq_true] at hh
  obtain ⟨q, hq, h2⟩ := hh
  obtain ⟨y, hy, rfl⟩ := List.mem_map.1 (hperm.mem_iff.1 hq)
  exact ⟨y, hy, WideAt.sameKey_eq h2⟩

theorem strike_perm (S : StKey P k e) {L : List Ent} (hok : ∀ x ∈ L, vk x.1) {p : Pos} (hp : vk p) {es : List (Lit × DataW Nat)} (h : es.Perm (L.map (encE P k))) : (es.filter fun q => !q.1.sameKey (kl P k p)).Perm ((strike L p).map (encE P k)) := by
  refine (h.filter _).trans ?_
  rw [List.filter_map]
  unfold strike
  rw [List.filter_congr (q := fun x => !(x.1 == p)) (fun x hx => by simp only [Function.comp, encE, sameKey_kl S hp (hok x hx)])]

theorem MapD.del (S : StKey P k e) {D : DataW Nat} {L : List Ent} (h : MapD P k D L) {p : Pos} (hp : vk p) : MapD P k (D.del (kl P k p)) (strike L p) := by
  obtain ⟨es, rfl, hperm⟩ := h.es
  refine ⟨⟨_, rfl, strike_perm S h.ok hp hperm⟩, fun x hx => h.ok x ((List.mem_filter.1 hx).1), ?_⟩
  exact (List.filter_sublist.map _).nodup h.nd

theorem MapD.put (S : StKey P k e) {D : DataW Nat} {L : List Ent} (h : MapD P k D L) {p : Pos} (hp : vk p) (c : Int) : MapD P k (D.put (kl P k p) (.lit (.int .i64 c))) ((p, c) :: strike L p) := by
  obtain ⟨es, rfl, hperm⟩ := h.es
  refine ⟨⟨_, rfl, ?_⟩, fun x hx => ?_, ?_⟩
  · refine (WideShapes.insert_perm _ _).trans ?_
    exact (strike_perm S h.ok hp hperm).cons (encE P k (p, c))
  · rcases List.mem_cons.1 hx with rfl | hx
    · exact hp
    · exact h.ok x ((List.mem_filter.1 hx).1)
  · simp only [List.map_cons, List.nodup_cons]
    refine ⟨fun hm => ?_, (List.filter_sublist.map _).nodup h.nd⟩
    obtain ⟨x, hx, e⟩ := List.mem_map.1 hm
    have := (List.mem_filter.1 hx).2
    simp [e] at this

/-- the sum of all counts, each weighed -/
def potL (L : List Ent) (φ : Pos → Int) : Int := sumL L fun x => x.2 * φ x.1
theorem potL_strike {L : List Ent} (h : (L.map (·.1)).Nodup) (p : Pos) (φ : Pos → Int) : potL L φ = getC L p * φ p + potL (strike L p) φ := by
  unfold potL
  induction L with
  | nil => simp [strike, sumL, getC]
  | cons a r ih =>
    simp only [List.map_cons, List.nodup_cons] at h
    by_cases e : a.1 = p
    · have h0 : getC (a :: r) p = a.2 := by rw [← e]; exact getC_of_mem (by simp only [List.map_cons, List.nodup_cons]; exact h) (by simp)
      have h1 : strike (a :: r) p = r := by
        unfold strike
        rw [List.filter_cons, if_neg (by simp [e])]
        exact List.filter_eq_self.2 (fun x hx => by
          have : x.1 ≠ p := fun e2 => h.1 (List.mem_map.2 ⟨x, hx, e2.trans e.symm⟩)
          simpa using this)
      rw [h0, h1, sumL_cons, e]
    · have h0 : getC (a :: r) p = getC r p := by unfold getC; rw [List.find?_cons_of_neg (by simpa using e)]
      have h1 : strike (a :: r) p = a :: strike r p := by unfold strike; rw [List.filter_cons, if_pos (by simpa using e)]
      rw [h0, h1, sumL_cons, sumL_cons, ih h.2]
      omega

theorem nodup_len_aux {ks R : List Pos} (nd : ks.Nodup) (h : ∀ x ∈ ks, x ∈ R) : ks.length ≤ R.length := by
  induction ks generalizing R with
  | nil => simp
  | cons a r ih =>
    obtain ⟨h1, h2⟩ := List.nodup_cons.1 nd
    have ha := h a (by simp)
    have := ih (R := R.erase a) h2 (fun x hx => by
      have hne : x ≠ a := fun e => h1 (e ▸ hx)
      exact (List.mem_erase_of_ne hne).2 (h x (by simp [hx])))
    have hl := List.length_erase_of_mem ha
    have hpos : 0 < R.length := List.length_pos_of_mem ha
    simp
    omega
theorem nodup_len {L : List Ent} {R : List Pos} (nd : (L.map (·.1)).Nodup) (h : ∀ x ∈ L, x.1 ∈ R) : L.length ≤ R.length := by
  have := nodup_len_aux nd (R := R) (fun x hx => by obtain ⟨y, hy, rfl⟩ := List.mem_map.1 hx; exact h y hy)
  simpa using this

/-- one step up from each of several places -/
def stepR (sc : List Int → List Int → Int) (R : List Pos) : List Pos := R.flatMap fun p => (above p.1).map fun ys => (ys, p.2 + sc p.1 ys)
/-- what one place passes on to those above it -/
def psi (sc : List Int → List Int → Int) (φ : Pos → Int) (p : Pos) : Int := sumL (above p.1) fun ys => φ (ys, p.2 + sc p.1 ys)
theorem mem_stepR {sc : List Int → List Int → Int} {R : List Pos} {p : Pos} {ys : List Int} (hp : p ∈ R) (hy : ys ∈ above p.1) : (ys, p.2 + sc p.1 ys) ∈ stepR sc R :=
  List.mem_flatMap.2 ⟨p, hp, List.mem_map.2 ⟨ys, hy, rfl⟩⟩

/-- equal modulo 2^64 -/
def Cg (a b : Int) : Prop := ∃ t : Int, a = b + 18446744073709551616 * t
theorem Cg.refl (a : Int) : Cg a a := ⟨0, by omega⟩
theorem Cg.symm {a b : Int} (h : Cg a b) : Cg b a := by obtain ⟨t, h⟩ := h; exact ⟨-t, by omega⟩
theorem Cg.trans {a b c : Int} (h : Cg a b) (h2 : Cg b c) : Cg a c := by obtain ⟨t, h⟩ := h; obtain ⟨u, h2⟩ := h2; exact ⟨t + u, by omega⟩
theorem Cg.add {a b c d : Int} (h : Cg a b) (h2 : Cg c d) : Cg (a + c) (b + d) := by obtain ⟨t, h⟩ := h; obtain ⟨u, h2⟩ := h2; exact ⟨t + u, by omega⟩
theorem Cg.mul {a b : Int} (h : Cg a b) (c : Int) : Cg (a * c) (b * c) := by
  obtain ⟨t, h⟩ := h
  exact ⟨t * c, by rw [h, Int.add_mul, Int.mul_assoc]⟩
theorem wrap_cg (a : Int) : Cg (wrap64 a) a := by unfold wrap64; exact ⟨-((a + 9223372036854775808) / 18446744073709551616), by omega⟩
theorem Cg.wrap {a b : Int} (h : Cg a b) : wrap64 a = wrap64 b := by obtain ⟨t, h⟩ := h; unfold wrap64; omega

/-- 'm[p] += c' -/
theorem potL_put {L : List Ent} (h : (L.map (·.1)).Nodup) (p : Pos) (c : Int) (φ : Pos → Int) : Cg (potL ((p, wrap64 (getC L p + c)) :: strike L p) φ) (potL L φ + c * φ p) := by
  rw [potL_strike h p φ]
  unfold potL
  rw [sumL_cons]
  have h1 := (wrap_cg (getC L p + c)).mul (φ p)
  rw [Int.add_mul] at h1
  obtain ⟨t, ht⟩ := h1
  exact ⟨t, by simp only; omega⟩

open Go.WideElems Go.ChangeMaps in
/-- block b is a map with just these entries -/
def MapW (P : Program) (k e : TypeId) (w : World) (b : Nat) (L : List Ent) : Prop := ∃ D, w.ownsMap P k (plainElem P e) b L.length D ∧ MapD P k D L

theorem ownsMap_size {w : World} {b n : Nat} {D : DataW Nat} {R : Value → Option (DataW Nat × List MemPlace)} (h : w.ownsMap P k R b n D) {n' : Nat} (hn : Maps.size D ≤ n') : w.ownsMap P k R b n' D := by
  obtain ⟨es, clock, hb, F, hs, rfl⟩ := h
  refine ⟨es, clock, hb, F, ?_, rfl⟩
  rw [Maps.size_eq, length_sorted, List.length_map] at hn
  simpa using hn

theorem MapW.of {w : World} {b n : Nat} {D : DataW Nat} {L : List Ent} (h : w.ownsMap P k (plainElem P e) b n D) (hd : MapD P k D L) : MapW P k e w b L := ⟨D, ownsMap_size h (by rw [hd.size]; exact Nat.le_refl _), hd⟩
theorem MapW.kept {w w' : World} {b : Nat} {L : List Ent} {row : Option Nat} (h : MapW P k e w b L) (hg : w.grownBy w' row) (hne : some b ≠ row) : MapW P k e w' b L := by
  obtain ⟨D, h1, h2⟩ := h
  exact ⟨D, h1.kept hg hne, h2⟩
theorem MapW.lt {w : World} {b : Nat} {L : List Ent} (h : MapW P k e w b L) : b < w.heap.size := by
  obtain ⟨D, h1, _⟩ := h
  exact h1.lt
theorem MapW.below {w w' : World} {b B : Nat} {L : List Ent} (h : MapW P k e w b L) (hb : Below B w w') (hB : b < B) : MapW P k e w' b L := by
  obtain ⟨D, ⟨es, clock, h1, h2⟩, hd⟩ := h
  exact ⟨D, ⟨es, clock, by rw [hb.block b hB]; exact h1, h2⟩, hd⟩

theorem setBlock_twice (w : World) (b : Nat) (o1 o2 : Obj) : ChangeMaps.setBlock (ChangeMaps.setBlock w b o1) b o2 = ChangeMaps.setBlock w b o2 := by
  unfold ChangeMaps.setBlock
  simp

theorem setBlock_self {w : World} {b : Nat} {o : Obj} (h : w.heap[b]? = some o) : ChangeMaps.setBlock w b o = w := by
  obtain ⟨hl, rfl⟩ := Array.getElem?_eq_some_iff.1 h
  have e : w.heap.setIfInBounds b w.heap[b] = w.heap := by
    apply Array.ext
    · simp
    · intro i h1 h2
      rw [Array.getElem_setIfInBounds h2]
      split
      · next e => subst e; rfl
      · rfl
  unfold ChangeMaps.setBlock
  rw [e]

open Go.WideElems in
/-- the entry's world: as if the zero value had been stored, or as it was -/
theorem entry_world {R : Value → Option (DataW Nat × List MemPlace)} {w : World} {t : TypeId} {b : Nat} {es : Array MapEntry} {clock : Nat} (K : WideMaps.KeyLaw P k) (ht : P.underlying t = some (.map k e)) {z : Value} (hz : ∀ u : World, (zeroValue e).run P u = .ok z u) (hb : w.heap[b]? = some (.map es clock)) (F : Fit P k R es clock)
    {key : Value} {kl : Lit} (hkey : keyOf P k key = some kl) :
    (∃ v w3, (Instr.mapEntry t (.map (some b)) key).run P w = .ok v w3 ∧ (Instr.mapUpdate t (.map (some b)) key z).run P w = .ok () w3 ∧ ∀ x ∈ es.toList, x.key ≠ key) ∨ (∃ v, (Instr.mapEntry t (.map (some b)) key).run P w = .ok v w) := by
  rcases K.find w hkey es.toList F.keys with ⟨h1, h2⟩ | ⟨j, e0, h1, h2, h3⟩
  · refine .inl ⟨.tuple #[z, goInt clock], ChangeMaps.setBlock w b (.map (es.push ⟨key, z, clock⟩) (clock + 1)), ?_, ?_, h2⟩
    · simp [Instr.mapEntry, run_underlying ht, MapKept.run_getObj_map hb, K.check w false hkey, h1, hz, MapKept.run_setObj_map _ hb, Result.andThen, ChangeMaps.setBlock]
    · simp [Instr.mapUpdate, run_underlying ht, MapKept.run_getObj_map hb, K.check w false hkey, h1, MapKept.run_setObj_map _ hb, Result.andThen, ChangeMaps.setBlock]
  · have hj : es[j]? = some e0 := by simpa using h2
    have hsame : es.modify j (fun e => { e with key := key }) = es := by
      apply Array.ext'
      rw [Array.toList_modify, ChangeMaps.modify_eq_set _ _ _ _ h2]
      have : ({ e0 with key := key } : MapEntry) = e0 := by rw [← h3]
      rw [this]
      exact set_self _ _ _ h2
    refine .inr ⟨.tuple #[e0.val, goInt e0.born], ?_⟩
    have := setBlock_self hb
    unfold ChangeMaps.setBlock at this
    simp [Instr.mapEntry, run_underlying ht, MapKept.run_getObj_map hb, K.check w false hkey, h1, hj, h3, K.stays w hkey, hsame, MapKept.run_setObj_map _ hb, Result.andThen, this]

/-- what 'm[p] += c' runs through, in whatever order its look and its entry come -/
theorem MapW.add (S : StKey P k e) (K : WideMaps.KeyLaw P k) {t : TypeId} (ht : P.underlying t = some (.map k e)) (hz : ∀ u : World, (zeroValue e).run P u = .ok (.int .i64 0) u) {w : World} {b : Nat} {L : List Ent} (h : MapW P k e w b L) (hl : L.length < 9223372036854775807) {p : Pos} (hp : vk p) (c : Int) :
    ∃ (v0 : Value) (st : Int) (w3 w4 : World), (Instr.lookup t (.map (some b)) (ky p) false).run P w = .ok (.int .i64 (getC L p)) w ∧ (Instr.mapEntry t (.map (some b)) (ky p)).run P w = .ok (.tuple #[v0, .int .i64 st]) w3 ∧ (Instr.lookup t (.map (some b)) (ky p) false).run P w3 = .ok (.int .i64 (getC L p)) w3 ∧
      (Instr.entryStore t (.map (some b)) (.int .i64 st) (.int .i64 (wrap64 (getC L p + c)))).run P w3 = .ok () w4 ∧ MapW P k e w4 b ((p, wrap64 (getC L p + c)) :: strike L p) ∧ w.grownBy w4 (some b) ∧ w4.heap.size = w.heap.size := by
  obtain ⟨D, hown, hd⟩ := h
  have hkey := kl_is S hp
  obtain ⟨x, hrun, hat, _⟩ := hown.lookup_int S.K ht S.elem (hz w) hkey
  have hx : x = getC L p := by
    have := hat.symm.trans (hd.atKey S hp)
    simpa using this
  subst hx
  obtain ⟨es, clock, hb, F, hs, hD⟩ := hown
  obtain ⟨v0, st, es1, clock1, h1, _, h3⟩ := WideElems.entry_then_store K ht hz hb F hkey
  obtain ⟨es', clock', h4, h5⟩ := h3 (ChangeMaps.setBlock w b (.map es1 clock1)) (.int .i64 (wrap64 (getC L p + c))) (ChangeMaps.heap_setBlock_same hb _)
  obtain ⟨w', h6, h7, h8⟩ := World.ownsMap.update (R := plainElem P e) (val := .int .i64 (wrap64 (getC L p + c))) (d := .lit (.int .i64 (wrap64 (getC L p + c)))) (ps := []) ⟨es, clock, hb, F, hs, hD⟩ S.K ht hl hkey (plainElem_int S.elem (wrap64_wf _))
  rw [setBlock_twice] at h4
  have ew : w' = ChangeMaps.setBlock w b (.map es' clock') := by
    have := h6.symm.trans h5
    simpa using this
  have hl3 : (Instr.lookup t (.map (some b)) (ky p) false).run P (ChangeMaps.setBlock w b (.map es1 clock1)) = .ok (.int .i64 (getC L p)) (ChangeMaps.setBlock w b (.map es1 clock1)) := by
    rcases entry_world K ht hz hb F hkey with ⟨v, w3, g1, g2, g3⟩ | ⟨v, g1⟩
    · have e3 : w3 = ChangeMaps.setBlock w b (.map es1 clock1) := by
        have := g1.symm.trans h1
        simp at this
        exact this.2
      rw [← e3]
      obtain ⟨w'', k6, k7, _⟩ := World.ownsMap.update (R := plainElem P e) (val := .int .i64 0) (d := .lit (.int .i64 0)) (ps := []) ⟨es, clock, hb, F, hs, hD⟩ S.K ht hl hkey (plainElem_int S.elem (by decide))
      have e4 : w'' = w3 := by
        have := k6.symm.trans g2
        simpa using this
      rw [e4] at k7
      obtain ⟨x, hrun3, hat3, _⟩ := k7.lookup_int S.K ht S.elem (hz w3) hkey
      rw [Maps.atKey_put_same hd.isMap (kl_key S hp)] at hat3
      have h0 : getC L p = 0 := by
        refine getC_not (fun x hx e => ?_)
        have hh : Maps.has D (kl P k p) = true := by rw [hd.has S hp, List.any_eq_true]; exact ⟨x, hx, by simp [e]⟩
        rw [hD, Maps.has_eq, List.any_eq_true] at hh
        obtain ⟨q, hq, hqk⟩ := hh
        obtain ⟨y, hy, rfl⟩ := List.mem_map.1 (mem_sorted.1 hq)
        obtain ⟨z, hz⟩ := F.reads y hy
        have m1 := WideElems.rd_key hz
        rw [WideElems.rg_of hz] at hqk
        have := WideAt.sameKey_eq hqk
        rw [this] at m1
        exact g3 y hy (S.K.inj m1 hkey)
      have hx0 : x = 0 := by simpa using hat3.symm
      rw [h0, ← hx0]
      exact hrun3
    · have e3 : w = ChangeMaps.setBlock w b (.map es1 clock1) := by
        have := g1.symm.trans h1
        simp at this
        exact this.2
      rw [← e3]
      exact hrun
  refine ⟨v0, st, _, _, hrun, h1, hl3, h4, ?_, ?_, ?_⟩
  · rw [← ew]
    exact MapW.of h7 (hd.put S hp _)
  · rw [← ew]; exact h8
  · simp [ChangeMaps.setBlock]
end
end Go.Proofs.YtmcgnbbobhfkpaaDoor

namespace Go.Proofs.YtmcgnbbobhfkpaaDoor
open Go.RowKit Go.Maps
open Go.WideMaps (KeyLaw)

theorem Tryd.laidOut' : laidOutB Tryd.prog = true := by kernel_rfl
theorem Tryd.cells_st : Tryd.prog.cellsOf 51 = 2 := by kernel_rfl
theorem Tryd.wide_st : (match Tryd.prog.underlying 51 with | some (.array _ _) | some (.struct _) => true | _ => false) = true := by rw [Tryd.underlying51]
set_option maxRecDepth 100000 in
theorem Tryd.law_st : KeyLaw Tryd.prog 51 := deep_law_laid Tryd.laidOut' (m := 3) (by omega) (of_decide_eq_true (by kernel_rfl)) (by kernel_rfl) Tryd.wide_st
theorem types_pos : 0 < Tryd.prog.types.size := of_decide_eq_true (by kernel_rfl)
theorem S_st : StKey Tryd.prog 51 3 := ⟨Keyed.of_law Tryd.law_st, fun a b h1 h2 =>
  ky_reads_gen Tryd.underlying51 (by kernel_rfl) Tryd.cells_st rfl rfl rfl rfl (by kernel_rfl) (by kernel_rfl) Tryd.underlying48 Tryd.underlying3 types_pos a b h1 h2, Tryd.underlying3⟩
theorem zero_int (w : World) : (zeroValue 3).run Tryd.prog w = .ok (.int .i64 0) w := by kernel_rfl
end Go.Proofs.YtmcgnbbobhfkpaaDoor

namespace Go.Proofs.YtmcgnbbobhfkpaaDoor
open Go.RowKit Go.Maps

/-- a function that scores a step from a row to one above it -/
def Scores (f : FuncId) (sc : List Int → List Int → Int) : Prop := ∀ (xs ys : List Int) (w : World), Rise xs → xs.length ≤ 6 → ys ∈ above xs → Dj w →
  Calls Tryd.prog f #[.int .u64 (mask xs : Nat), .int .u64 (mask ys : Nat)] w fun e w' => e = .returned (.int .i64 (sc xs ys)) ∧ Below w.heap.size w w'

theorem grown_of_below {a w : World} (h : Below a.heap.size a w) : a.grownBy w none := ⟨h.os, h.tape, h.output, h.size, fun k hk _ => h.block k hk⟩
theorem Dj.grown {a w : World} {b : Nat} (h : Dj a) (hg : a.grownBy w (some b)) (hb : 1 < b) : Dj w := fun i hi => hg.cell (h i hi) (fun e => by simp at e; omega)
theorem i64_wrap (n : Int) : IntKind.i64.wrap n = wrap64 n := by
  unfold wrap64
  simp [IntKind.wrap, IntKind.bits, IntKind.signed]
  omega


/-- where one can stand behind j steps -/
theorem reach_succ (sc : List Int → List Int → Int) (xs : List Int) (j : Nat) : reach sc xs (j + 1) = stepR sc (reach sc xs j) := rfl
def SmallSc (sc : List Int → List Int → Int) : Prop := ∀ xs ys, Rise xs → xs.length ≤ 6 → ys ∈ above xs → 0 ≤ sc xs ys ∧ sc xs ys ≤ 15
theorem reach_ok {sc : List Int → List Int → Int} (hb : SmallSc sc) {xs : List Int} (hr : Rise xs) (h6 : xs.length ≤ 6) : ∀ j, ∀ p ∈ reach sc xs j, Rise p.1 ∧ p.1.length + j = xs.length ∧ 0 ≤ p.2 ∧ p.2 ≤ 15 * j
  | 0, p, hp => by
    simp [reach] at hp
    subst hp
    exact ⟨hr, rfl, by simp, by simp⟩
  | j + 1, p, hp => by
    rw [reach_succ] at hp
    obtain ⟨q, hq, hm⟩ := List.mem_flatMap.1 hp
    obtain ⟨ys, hy, rfl⟩ := List.mem_map.1 hm
    obtain ⟨a, b, c, d⟩ := reach_ok hb hr h6 j q hq
    obtain ⟨e, f⟩ := above_mem a hy
    have := hb q.1 ys a (by omega) hy
    exact ⟨e, by simp only; omega, by simp only; omega, by simp only; omega⟩
theorem reach_vk {sc : List Int → List Int → Int} (hb : SmallSc sc) {xs : List Int} (hr : Rise xs) (h6 : xs.length ≤ 6) {j : Nat} {p : Pos} (hp : p ∈ reach sc xs j) : vk p ∧ p.1.length ≤ 6 := by
  obtain ⟨a, b, c, d⟩ := reach_ok hb hr h6 j p hp
  exact ⟨⟨a, by omega, by omega⟩, by omega⟩
def triN (n : Nat) : Nat → Nat
  | 0 => 0
  | j + 1 => triN n j + (n - 1 - j)
theorem triN_le : ∀ n, n ≤ 6 → ∀ j, j ≤ 6 → triN n j ≤ 15 := by decide
theorem reach_len {sc : List Int → List Int → Int} (hb : SmallSc sc) {xs : List Int} (hr : Rise xs) (h6 : xs.length ≤ 6) : ∀ j, (reach sc xs j).length ≤ 16 ^ triN xs.length j
  | 0 => by simp [reach, triN]
  | j + 1 => by
    have h1 := reach_len hb hr h6 j
    rw [reach_succ, triN, Nat.pow_add]
    unfold stepR
    refine flatMap_le h1 (fun p hp => ?_)
    obtain ⟨a, b, _, _⟩ := reach_ok hb hr h6 j p hp
    rw [List.length_map]
    have := above_len a
    rw [show p.1.length - 1 = xs.length - 1 - j from by omega] at this
    exact this
theorem reach_short {sc : List Int → List Int → Int} (hb : SmallSc sc) {xs : List Int} (hr : Rise xs) (h6 : xs.length ≤ 6) {j : Nat} (hj : j ≤ 6) : (reach sc xs j).length < 9223372036854775807 := by
  have h1 := reach_len hb hr h6 j
  have h2 : 16 ^ triN xs.length j ≤ 16 ^ 15 := Nat.pow_le_pow_right (by omega) (triN_le _ h6 _ hj)
  omega
theorem Dj.lt {w : World} (h : Dj w) : 1 < w.heap.size := World.block_lt_of_cell? _ _ (h 0 (by omega))

/-- what stands in the map behind the whole climb -/
def ClimbsTo (sc : List Int → List Int → Int) (xs : List Int) (w : World) (e : Ending) (w' : World) : Prop :=
  ∃ bm L, e = .returned (.map (some bm)) ∧ MapW Tryd.prog 51 3 w' bm L ∧ w.heap.size ≤ bm ∧ (∀ x ∈ L, x.1 ∈ reach sc xs (xs.length - 1)) ∧ (∀ φ, Cg (potL L fun p => φ p.1 p.2) (climbW sc φ (xs.length - 1) xs 0)) ∧ Below w.heap.size w w'
end Go.Proofs.YtmcgnbbobhfkpaaDoor

namespace Go.Proofs.YtmcgnbbobhfkpaaDoor
open Go.RowKit Go.Maps
open Go.WideMaps (KeyLaw)

set_option maxRecDepth 100000 in
set_option maxHeartbeats 6400000 in
theorem climb_topColumn (sc : List Int → List Int → Int) (hf : Scores 18 sc) (R : List Pos) (hR : ∀ p ∈ R, vk p ∧ p.1.length ≤ 6) (hR2 : ∀ p ∈ stepR sc R, vk p) (hRl : (stepR sc R).length < 9223372036854775807)
    (hsc : ∀ p ∈ R, ∀ ys ∈ above p.1, -1000 ≤ sc p.1 ys ∧ sc p.1 ys ≤ 1000) (bn bx : Nat) (hne : bn ≠ bx) (L0 : List Ent) (hL0 : ∀ x ∈ L0, x.1 ∈ R) (w : World) (hn : MapW Tryd.prog 51 3 w bn L0) (hx : MapW Tryd.prog 51 3 w bx []) (hD : Dj w) (hG : 1 < bx) (hG2 : 1 < bn) :
    Calls Tryd.prog 39 #[.map (some bn), .map (some bx), .func (.func 18) #[] #[]] w fun e w' => e = .returned (.tuple #[]) ∧ ∃ Lx, MapW Tryd.prog 51 3 w' bn [] ∧ MapW Tryd.prog 51 3 w' bx Lx ∧ (∀ x ∈ Lx, x.1 ∈ stepR sc R) ∧
      (∀ φ, Cg (potL Lx φ) (potL L0 (psi sc φ))) ∧ ∀ B, B ≤ bn → B ≤ bx → B ≤ w.heap.size → Below B w w' := by
  obtain ⟨D0, hown0, hd0⟩ := hn
  have Hf := Lib.hid hf
  have HR := Lib.hid hR
  have HR2 := Lib.hid hR2
  have Hsc := Lib.hid hsc
  have HL0 := Lib.hid hL0
  have Hx := Lib.hid hx
  have HD := Lib.hid hD
  have Hd0 := Lib.hid hd0
  clear hf hR hR2 hsc hL0 hx hD hd0
  go_enter Tryd.func39, Tryd.ntmps39
  go_wp2_with (at_range; refine wpList_range_own _ rfl _ 45 rfl 51 3 S_st.K Tryd.underlying45 (plainElem Tryd.prog 3) bn L0.length D0 rfl hown0 ?_; intro w0 hrg0 hg0 hs0)
  go_frame
  go_loopw [12] (fun _ wr => ∃ (D : DataW Nat) (L Lx : List Ent) (left : Lit → Bool) (cnt : Nat), wr.ranges Tryd.prog 51 (plainElem Tryd.prog 3) bn w.heap.size L0.length D left cnt ∧ MapD Tryd.prog 51 D L ∧ (∀ p, vk p → Maps.has D (kl Tryd.prog 51 p) = left (kl Tryd.prog 51 p)) ∧
      (∀ x ∈ L, x.1 ∈ R) ∧ MapW Tryd.prog 51 3 wr bx Lx ∧ (∀ x ∈ Lx, x.1 ∈ stepR sc R) ∧ (∀ φ, Cg (potL Lx φ + potL L (psi sc φ)) (potL L0 (psi sc φ))) ∧ (∀ B, B ≤ bn → B ≤ bx → B ≤ w.heap.size → Below B w wr) ∧ w.heap.size ≤ wr.heap.size ∧ Dj wr) (fun _ wr => wr.rangeLeft bn w.heap.size)
  case atStart => exact ⟨D0, L0, [], _, _, hrg0, Hd0.out, fun _ _ => rfl, HL0.out, Hx.out.kept hg0 (by simp), (fun x hx => by cases hx), (fun φ => by simpa [potL, sumL] using Cg.refl _), (fun B _ _ hB => (Below.refl _ _).grown hg0 hB (fun _ h => by cases h)), by omega, HD.out.grown (hg0.but (some bx)) hG⟩
  case round =>
    obtain ⟨D, L, Lx, left, cnt, hrg, hmd, hleft, hLR, hmx, hLx, hpot, hfr, hsz, hDr⟩ := hrel
    go_wp2_with (at_next; refine wpList_next_ranges _ rfl _ rfl 51 S_st.K (plainElem Tryd.prog 3) (fun x : Value => x) (fun x : Int => .int .i64 x) (fun key _ _ => ⟨key, rfl⟩) (fun v y hv => by obtain ⟨c, e, _⟩ := plainElem_int_inv Tryd.underlying3 hv; exact ⟨c, e⟩) bn w.heap.size L0.length D left cnt rfl hrg ?_ ?_)
    · intro _ hl0
      have hL : L = [] := by
        cases L with
        | nil => rfl
        | cons x r =>
          have h1 := hmd.has S_st (hmd.ok x (by simp))
          rw [hleft _ (hmd.ok x (by simp)), hl0] at h1
          simp at h1
      subst hL
      have hown := hrg.owns
      have Hfin := Lib.hid (show MapW Tryd.prog 51 3 wr bn [] ∧ MapW Tryd.prog 51 3 wr bx Lx ∧ (∀ x ∈ Lx, x.1 ∈ stepR sc R) ∧ (∀ φ, Cg (potL Lx φ) (potL L0 (psi sc φ))) ∧ ∀ B, B ≤ bn → B ≤ bx → B ≤ w.heap.size → Below B w wr from
        ⟨MapW.of hown hmd, hmx, hLx, fun φ => by have := hpot φ; simpa [potL, sumL] using this, hfr⟩)
      clear hrg hmd hleft hLR hmx hLx hpot hfr hown hl0
      go_wp2
      go_end0
      exact ⟨rfl, Lx, Hfin.out⟩
    · intro key c kl1 y1 y2 w1 cnt1 hkey hlk hRv hat hrg1 hlt hg1 hs1 hen
      obtain ⟨x, hxL, hxk⟩ := hmd.key_of (Maps.has_true_of_atKey hat)
      obtain ⟨⟨xs, s⟩, cx⟩ := x
      have hvk := hmd.ok _ hxL
      simp only at hxk hvk
      have hkey2 : key = ky (xs, s) := S_st.K.inj hkey (by rw [← hxk]; exact kl_is S_st hvk)
      have hc : c = getC L (xs, s) := by
        obtain ⟨c', e1, e2, _⟩ := plainElem_int_inv Tryd.underlying3 hRv
        have h1 := hmd.atKey S_st hvk
        have e3 : y1 = .lit (.int .i64 c') := congrArg Prod.fst e2
        rw [hxk, hat, e3] at h1
        simp at h1 e1
        rw [e1, h1]
      subst hkey2
      subst hxk
      have Hlo := Lib.hid hrg.left_eq
      have Hlt := Lib.hid hlt
      have Hgr := Lib.hid hg1
      have hpR := hLR _ hxL
      simp only at hpR
      have h6 := (HR.out _ hpR).2
      have hrise := hvk.1
      have hxlt := hmx.lt
      have hbxw : bx < w.heap.size := (Hx.out).lt
      have hsz1 : w1.heap.size = wr.heap.size := hs1
      have Hsz1 := Lib.hid hsz1
      have Hrg1 := Lib.hid hrg1
      have Hmd := Lib.hid hmd
      have Hleft := Lib.hid hleft
      have HLR := Lib.hid hLR
      have HLx := Lib.hid hLx
      have Hpot := Lib.hid hpot
      have Hfr := Lib.hid hfr
      have Hvk := Lib.hid hvk
      have HpR := Lib.hid hpR
      have Hc := Lib.hid hc
      have HxL := Lib.hid hxL
      have hg1' : wr.grownBy w1 (some w.heap.size) := hg1
      have Hmx := Lib.hid (hmx.kept hg1 (by simp; omega))
      have hD1 : Dj w1 := hDr.grown hg1' (by omega)
      obtain ⟨w2, hw2⟩ : ∃ w2, w2 = w1.alloc (.cells #[.int .u64 (mask xs : Nat), .int .i64 s] 51) := ⟨_, rfl⟩
      have hset := setsAbove_any hrise h6 w2 (by rw [hw2]; exact hD1.next ((Below.refl _ _).alloc (Nat.le_refl _) _))
      obtain ⟨m, hm⟩ : ∃ m : Int, m = (mask xs : Nat) := ⟨_, rfl⟩
      have hky : ky (xs, s) = .agg #[.int .u64 m, .int .i64 s] := by rw [hm]; rfl
      rw [hky] at hen
      rw [← hm] at hset hw2
      have Hset := Lib.hid hset
      have Hm := Lib.hid hm
      have hD2 := Lib.hid (show Dj w2 by rw [hw2]; exact hD1.next ((Below.refl _ _).alloc (Nat.le_refl _) _))
      have Hg12 := Lib.hid (show w1.grownBy w2 none by rw [hw2]; exact World.grownBy_alloc _ _ _)
      have Hcell0 := Lib.hid (show w2.cell? ⟨w1.heap.size, 0, none⟩ = some (.int .u64 m) by rw [hw2]; exact cell_new _ _ _ 0)
      have Hcell1 := Lib.hid (show w2.cell? ⟨w1.heap.size, 1, none⟩ = some (.int .i64 s) by rw [hw2]; exact cell_new _ _ _ 1)
      have Hsz2 := Lib.hid (show w2.heap.size = w1.heap.size + 1 by rw [hw2]; simp)
      clear hset hat hRv hkey hlk hg1 hg1' hrg hrg1 hmd hleft hLR hmx hLx hpot hfr hvk hpR hc hxL hD1 hm hsz1 hs1 hlt
      rw [hky]
      clear hky
      go_wp2_with fail
      rw [← hw2]
      refine Hset.out.mono ?_
      rintro e w3 ⟨v, rfl, hv, hb3⟩
      obtain ⟨sa, sc', hsv, hsc1, hsc2, hsr⟩ := hv.read
      obtain ⟨A, hA⟩ : ∃ A, A = above xs := ⟨_, rfl⟩
      rw [← hA] at hsv hv hsr
      obtain ⟨al, hal⟩ : ∃ al, al = A.length := ⟨_, rfl⟩
      rw [← hal] at hsv
      subst hsv
      have hamx : al ≤ 9223372036854775807 := by
        rw [hal, hA]
        have h1 := above_len hrise
        have h2 : 16 ^ (xs.length - 1) ≤ 16 ^ 5 := Nat.pow_le_pow_right (by omega) (by omega)
        omega
      have hbw1 : w.heap.size ≤ w1.heap.size := by have := Hsz1.out; omega
      have Hg13 := Lib.hid (show w1.grownBy w3 none from Hg12.out.trans (grown_of_below hb3))
      have Hmx3 := Lib.hid (Hmx.out.kept Hg13.out (by simp))
      have Hcell0' := Lib.hid (cell_below Hcell0.out hb3)
      have Hcell1' := Lib.hid (cell_below Hcell1.out hb3)
      have HD3 := Lib.hid (hD2.out.next hb3)
      have Hv := Lib.hid hv
      have Hsr := Lib.hid hsr
      have HA := Lib.hid hA
      have Hal := Lib.hid hal
      have HB23 := Lib.hid hb3.size
      clear hv hsr hA hal hb3 Hcell0 Hcell1 hD2 hsc1 hsc2
      go_wp2
      go_loopw [21] (fun i wi => ∃ (t : Nat) (Ly : List Ent), t ≤ al ∧ i = .int .i64 t ∧ MapW Tryd.prog 51 3 wi bx Ly ∧ (∀ x ∈ Ly, x.1 ∈ stepR sc R) ∧ (∀ φ, Cg (potL Ly φ) (potL Lx φ + c * sumL (A.take t) (fun ys => φ (ys, s + sc xs ys)))) ∧ w3.grownBy wi (some bx)) (fun i _ => al - (intOf i).toNat)
      case atStart => exact ⟨0, Lx, Nat.zero_le _, rfl, Hmx3.out, HLx.out, fun φ => by simpa [sumL] using Cg.refl _, World.grownBy.refl _ _⟩
      case round =>
        obtain ⟨t, Ly, ht, rfl, hmy, hLy, hpy, hgi⟩ := hrel
        have Hgi := Lib.hid hgi
        have Hmy := Lib.hid hmy
        have HLy := Lib.hid hLy
        have Hpy := Lib.hid hpy
        by_cases htl : t < al
        · obtain ⟨sb, so, hse, hsc0⟩ := Hsr.out t (by rw [← Hal.out]; exact htl)
          have hsb : sb ≠ bx := fun e => by
            have := (World.ownsRow.lt Hv.out sb (by rw [hse]; rfl)).1
            have := Hsz2.out
            omega
          have hcs := hgi.cell hsc0 (by simpa using hsb)
          have hc0 := hgi.cell Hcell0'.out (by simp; omega)
          have hc1 := hgi.cell Hcell1'.out (by simp; omega)
          obtain ⟨ys, hys⟩ : ∃ ys, ys = gr A t := ⟨_, rfl⟩
          rw [← hys] at hcs
          have hysm : ys ∈ above xs := by rw [hys, ← HA.out]; exact gr_mem (by rw [← Hal.out]; exact htl)
          have hDi : Dj wr := HD3.out.grown hgi hG
          obtain ⟨my, hmyv⟩ : ∃ my : Int, my = (mask ys : Nat) := ⟨_, rfl⟩
          obtain ⟨q, hq⟩ : ∃ q, q = sc xs ys := ⟨_, rfl⟩
          have hqb := Hsc.out _ HpR.out ys hysm
          simp only at hqb
          rw [← hq] at hqb
          have hcall := Hf.out xs ys wr.drew hrise h6 hysm hDi
          rw [← hmyv, ← hq, ← Hm.out] at hcall
          have hcs' : wr.cell? ⟨sb, so + t, none⟩ = some (.int .u64 my) := by rw [hmyv]; exact hcs
          have hpos : (ys, s + q) ∈ stepR sc R := by rw [hq]; exact mem_stepR HpR.out hysm
          have hvy := HR2.out _ hpos
          have hLyl : Ly.length < 9223372036854775807 := by
            obtain ⟨Dy, _, hdy⟩ := Hmy.out
            exact Nat.lt_of_le_of_lt (nodup_len hdy.nd HLy.out) hRl
          obtain ⟨g, hgv⟩ : ∃ g, g = getC Ly (ys, s + q) := ⟨_, rfl⟩
          obtain ⟨v', hv'⟩ : ∃ v', v' = wrap64 (g + c) := ⟨_, rfl⟩
          have hfacts : ∀ w', Below wr.drew.heap.size wr.drew w' → w'.cell? ⟨w1.heap.size, 0, none⟩ = some (.int .u64 m) ∧ w'.cell? ⟨w1.heap.size, 1, none⟩ = some (.int .i64 s) ∧ ∃ (v0 : Value) (st : Int) (w5 w6 : World),
              (Instr.lookup 45 (.map (some bx)) (.agg #[.int .u64 my, .int .i64 (s + q)]) false).run Tryd.prog w' = .ok (.int .i64 g) w' ∧ (Instr.mapEntry 45 (.map (some bx)) (.agg #[.int .u64 my, .int .i64 (s + q)])).run Tryd.prog w' = .ok (.tuple #[v0, .int .i64 st]) w5 ∧ (Instr.lookup 45 (.map (some bx)) (.agg #[.int .u64 my, .int .i64 (s + q)]) false).run Tryd.prog w5 = .ok (.int .i64 g) w5 ∧
              (Instr.entryStore 45 (.map (some bx)) (.int .i64 st) (.int .i64 v')).run Tryd.prog w5 = .ok () w6 ∧ MapW Tryd.prog 51 3 w6 bx (((ys, s + q), v') :: strike Ly (ys, s + q)) ∧ wr.grownBy w6 (some bx) := by
            intro w' hb'
            have hgw : wr.grownBy w' none := grown_of_below ((below_drewN (Below.refl _ _) 1).trans hb')
            refine ⟨hgw.cell hc0 (by simp), hgw.cell hc1 (by simp), ?_⟩
            obtain ⟨v0, st, w5, w6, r1, r2, rl, r3, r4, r5, _⟩ := (Hmy.out.kept hgw (by simp)).add S_st Tryd.law_st Tryd.underlying45 zero_int hLyl hvy c
            have hky2 : ky (ys, s + q) = .agg #[.int .u64 my, .int .i64 (s + q)] := by rw [hmyv]; rfl
            rw [hky2, ← hgv] at r1
            rw [hky2] at r2
            rw [hky2, ← hgv] at rl
            rw [← hgv, ← hv'] at r3 r4
            exact ⟨v0, st, w5, w6, r1, r2, rl, r3, r4, (hgw.but (some bx)).trans r5⟩
          have hws : IntKind.i64.wrap (s + q) = s + q := i64_small (by have := Hvk.out.2; simp at this; omega) (by have := Hvk.out.2; simp at this; omega)
          have hwv : IntKind.i64.wrap (g + c) = v' := by rw [i64_wrap, hv']
          have Hfacts := Lib.hid hfacts
          have Hcall := Lib.hid hcall
          have Hnext := Lib.hid (show ∀ φ, Cg (potL (((ys, s + q), v') :: strike Ly (ys, s + q)) φ) (potL Lx φ + c * sumL (A.take (t + 1)) (fun ys => φ (ys, s + sc xs ys))) from fun φ => by
            obtain ⟨Dy, _, hdy⟩ := Hmy.out
            have h1 := potL_put hdy.nd (ys, s + q) c φ
            rw [← hgv, ← hv'] at h1
            refine h1.trans ?_
            have h2 := Hpy.out φ
            have e : sumL (A.take (t + 1)) (fun ys => φ (ys, s + sc xs ys)) = sumL (A.take t) (fun ys => φ (ys, s + sc xs ys)) + φ (ys, s + q) := by
              rw [List.take_succ_eq_append_getElem (by rw [← Hal.out]; exact htl), sumL_append, hys, gr_lt (by rw [← Hal.out]; exact htl)]
              simp [sumL, hq, hys, gr_lt (show t < A.length by rw [← Hal.out]; exact htl)]
            rw [e, Int.mul_add, ← Int.add_assoc]
            exact h2.add (Cg.refl _))
          have Hpos := Lib.hid hpos
          clear hgi hmy hLy hpy hsc0 hcs hysm hDi hmyv hq hqb hcall hpos hvy hLyl hgv hv' hfacts hys
          subst hse
          go_wp2
          go_region_with (go_at_call 18; refine Hcall.out.mono ?_; rintro e w' ⟨rfl, hb⟩; obtain ⟨hd0, hd1, v0, st, w5, w6, r1, r2, rl, r3, r4, r5⟩ := Hfacts.out w' hb)
          all_goals
            have Hr4 := Lib.hid r4
            have Hr5 := Lib.hid r5
            clear hb hd0 hd1 r1 r2 rl r3 r4 r5
            go_wp2
            go_roundw
            case rel =>
              refine ⟨t + 1, _, by omega, by go_num, Hr4.out, fun x hx => ?_, Hnext.out, Hgi.out.trans Hr5.out⟩
              rcases List.mem_cons.1 hx with rfl | hx
              · exact Hpos.out
              · exact HLy.out x (List.mem_filter.1 hx).1
            case measure => simp [intOf]; omega
        · obtain rfl : t = al := by omega
          have hpy2 : ∀ φ, Cg (potL Ly φ) (potL Lx φ + c * psi sc φ (xs, s)) := fun φ => by
            have := Hpy.out φ
            rw [Hal.out, List.take_length, HA.out] at this
            exact this
          have hrgr := Hrg1.out.kept (row := some bx) ((Hg13.out.but (some bx)).trans Hgi.out) (by simp; omega) (by simp; omega)
          have hc0 := Hgi.out.cell Hcell0'.out (by simp; omega)
          have hc1 := Hgi.out.cell Hcell1'.out (by simp; omega)
          have hnew := Lib.hid (show ∀ φ, Cg (potL Ly φ + potL (strike L (xs, s)) (psi sc φ)) (potL L0 (psi sc φ)) from fun φ => by
            have h1 := potL_strike Hmd.out.nd (xs, s) (psi sc φ)
            rw [← Hc.out] at h1
            have h2 := Hpot.out φ
            rw [h1] at h2
            refine Cg.trans ?_ h2
            have h3 := (hpy2 φ).add (Cg.refl (potL (strike L (xs, s)) (psi sc φ)))
            rw [Int.add_assoc] at h3
            exact h3)
          have hkeyp : keyOf Tryd.prog 51 (.agg #[.int .u64 m, .int .i64 s]) = some (kl Tryd.prog 51 (xs, s)) := by rw [Hm.out]; exact kl_is S_st Hvk.out
          have hdr := HD3.out.grown Hgi.out hG
          have Hrgr := Lib.hid hrgr
          have Hkeyp := Lib.hid hkeyp
          have Hdr := Lib.hid hdr
          have HBr := Lib.hid (show w3.heap.size ≤ wr.heap.size from Hgi.out.size)
          clear hpy2 hrgr hkeyp hdr
          go_wp2_with (at_delete; refine wpList_delete_ranges _ rfl _ _ 45 51 rfl 3 S_st.K Tryd.underlying45 (plainElem Tryd.prog 3) bn w.heap.size L0.length D _ cnt1 rfl Hrgr.out _ _ rfl Hkeyp.out ?_; intro w5 cnt2 hrg2 hle hturn; go_frame)
          rw [Maps.strike_twice] at hrg2
          have hg5 : wr.grownBy w5 (some bn) := hturn.grown
          have Hrel := Lib.hid (show ∃ (D' : DataW Nat) (L' Lx' : List Ent) (left' : Lit → Bool) (cnt' : Nat), w5.ranges Tryd.prog 51 (plainElem Tryd.prog 3) bn w.heap.size L0.length D' left' cnt' ∧ MapD Tryd.prog 51 D' L' ∧ (∀ p, vk p → Maps.has D' (kl Tryd.prog 51 p) = left' (kl Tryd.prog 51 p)) ∧
              (∀ x ∈ L', x.1 ∈ R) ∧ MapW Tryd.prog 51 3 w5 bx Lx' ∧ (∀ x ∈ Lx', x.1 ∈ stepR sc R) ∧ (∀ φ, Cg (potL Lx' φ + potL L' (psi sc φ)) (potL L0 (psi sc φ))) ∧ (∀ B, B ≤ bn → B ≤ bx → B ≤ w.heap.size → Below B w w5) ∧ w.heap.size ≤ w5.heap.size ∧ Dj w5 from by
            refine ⟨_, strike L (xs, s), Ly, _, cnt2, hrg2, Hmd.out.del S_st Hvk.out, fun p hp => ?_, fun x hx => HLR.out x (List.mem_filter.1 hx).1, Hmy.out.kept hg5 (by simp; omega), HLy.out, hnew.out, fun B h1 h2 h3 => ?_, ?_, Hdr.out.grown hg5 hG2⟩
            · by_cases e : p = (xs, s)
              · subst e
                rw [Maps.has_del_same, WideAt.sameKey_self (kl_key S_st hp)]
                simp
              · have hne2 : kl Tryd.prog 51 p ≠ kl Tryd.prog 51 (xs, s) := fun e2 => e (kl_inj S_st hp Hvk.out e2)
                rw [Maps.has_del_other hne2, Hleft.out p hp, Maps.sameKey_ne hne2]
                simp
            · have q1 := (Hfr.out B h1 h2 h3).grown Hgr.out (by omega) (fun k hk => by cases hk; exact h3)
              have q2 := q1.grown Hg13.out (by omega) (fun k hk => by cases hk)
              have q3 := q2.grown Hgi.out (by have := Hg13.out.size; omega) (fun k hk => by cases hk; exact h2)
              exact q3.grown hg5 (by have := Hg13.out.size; have := HBr.out; omega) (fun k hk => by cases hk; exact h1)
            · have := Hg13.out.size; have := HBr.out; have := hg5.size; omega)
          have hm2 := hrg2.left_eq
          have Hm2 := Lib.hid hm2
          clear hrg2 hturn hg5 hm2 hc0 hc1
          go_roundw
          case rel => exact Hrel.out
          case measure => rw [Hm2.out, Hlo.out]; have := Hlt.out; omega
end Go.Proofs.YtmcgnbbobhfkpaaDoor

