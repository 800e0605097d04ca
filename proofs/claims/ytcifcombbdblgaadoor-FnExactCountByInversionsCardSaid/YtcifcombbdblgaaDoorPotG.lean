/- Maps whose keys are a set of numbers and a score, as lists of entries; sums over them modulo 2^64: over any program. No conditions. -/
import Derived.Test.YtcifcombbdblgaaDoorMask
import Derived.Maps.RangeWalk
import Derived.Maps.OwnOps
import Derived.Maps.Views
import Derived.WideKeyEntry
import Derived.DeepKeys4
namespace Go.Proofs.YtcifcombbdblgaaDoor
open Go.RowKit Go.Maps

abbrev Pos := List Int × Int
abbrev Ent := Pos × Int
def ky (p : Pos) : Value := .agg #[.int .u64 (mask p.1 : Nat), .int .i64 p.2]
/-- a row and a small score -/
def vk (p : Pos) : Prop := Rise p.1 ∧ -1000 ≤ p.2 ∧ p.2 ≤ 1000

theorem ky_reads_gen {P : Program} {k : TypeId} {f0 f1 : Field} (hu : P.underlying k = some (.struct #[f0, f1])) (hk : P.keyType k = true) (hc : P.cellsOf k = 2) (hn0 : (f0.name != "_") = true) (hn1 : (f1.name != "_") = true)
    (ho0 : f0.offset = 0) (ho1 : f1.offset = 1) (c0 : P.cellsOf f0.type = 1) (c1 : P.cellsOf f1.type = 1) (u0 : P.underlying f0.type = some (.int .u64)) (u1 : P.underlying f1.type = some (.int .i64)) (hs : 0 < P.types.size)
    (a b : Int) (h1 : (Lit.int .u64 a).wf = true) (h2 : (Lit.int .i64 b).wf = true) : ∃ l, keyOf P k (.agg #[.int .u64 a, .int .i64 b]) = some l := by
  obtain ⟨n, hn⟩ : ∃ n, P.types.size = n + 1 := ⟨P.types.size - 1, by omega⟩
  have e2 : (Value.agg #[.int .u64 a, .int .i64 b]).formed P k = true := by simp [Value.formed, hu, hc]
  have k0 : P.keyLits (n + 1) f0.type [.int .u64 a] = some [.int .u64 a] := by simp [Program.keyLits, u0, h1]
  have k1 : P.keyLits (n + 1) f1.type [.int .i64 b] = some [.int .i64 b] := by simp [Program.keyLits, u1, h2]
  have kk : P.keyLits (n + 1 + 1) k [.int .u64 a, .int .i64 b] = some [.int .u64 a, .int .i64 b] := by
    have hall : (#[f0, f1] : Array Field).all (fun f => f.name != "_") = true := by simp [Array.all_eq_true]; exact ⟨by simpa using hn0, by simpa using hn1⟩
    have hm : (#[f0, f1] : Array Field).toList = [f0, f1] := rfl
    simp only [Program.keyLits, hu, hc, hall, hm, List.length_cons, List.length_nil, and_self, if_true, List.mapM_cons, List.mapM_nil, ho0, ho1, c0, c1, List.drop, List.take, u0, u1, h1, h2]
    rfl
  refine ⟨.string (keyBytes [.int .u64 a, .int .i64 b]), ?_⟩
  unfold keyOf
  rw [hu, hn]
  simp only [hk, e2, Bool.and_self, if_true]
  show Option.map _ (P.keyLits (n + 1 + 1) k [.int .u64 a, .int .i64 b]) = _
  rw [kk]
  rfl

section
variable {P : Program} {k e : TypeId}

/-- the program's key type, as the laws on maps want it -/
structure StKey (P : Program) (k e : TypeId) : Prop where
  K : Keyed P k
  reads : ∀ a b : Int, (Lit.int .u64 a).wf = true → (Lit.int .i64 b).wf = true → ∃ l, keyOf P k (.agg #[.int .u64 a, .int .i64 b]) = some l
  elem : P.underlying e = some (.int .i64)

noncomputable def kl (P : Program) (k : TypeId) (p : Pos) : Lit := (keyOf P k (ky p)).getD (.bool true)
theorem kl_is (S : StKey P k e) {p : Pos} (h : vk p) : keyOf P k (ky p) = some (kl P k p) := by
  have := mask_lt16 h.1
  obtain ⟨l, hl⟩ := S.reads (mask p.1 : Nat) p.2 (by simp [Lit.wf, IntKind.min, IntKind.max, IntKind.bits, IntKind.signed]; omega) (by have := h.2; simp [Lit.wf, IntKind.min, IntKind.max, IntKind.bits, IntKind.signed]; omega)
  show keyOf P k (.agg #[.int .u64 (mask p.1 : Nat), .int .i64 p.2]) = _
  unfold kl ky
  rw [hl]
  rfl
theorem ky_inj {p q : Pos} (hp : vk p) (hq : vk q) (h : ky p = ky q) : p = q := by
  unfold ky at h
  have h0 : ((mask p.1 : Nat) : Int) = (mask q.1 : Nat) ∧ p.2 = q.2 := by simpa using h
  have h1 : mask p.1 = mask q.1 ∧ p.2 = q.2 := ⟨by omega, h0.2⟩
  clear h h0
  obtain ⟨p1, p2⟩ := p
  obtain ⟨q1, q2⟩ := q
  simp only at h1 hp hq
  obtain ⟨h1, rfl⟩ := h1
  have e : p1 = q1 := mask_inj hp.1.1 (fun x hx => (hp.1.2 x hx).1) hq.1.1 (fun x hx => (hq.1.2 x hx).1) h1
  rw [e]
theorem kl_inj (S : StKey P k e) {p q : Pos} (hp : vk p) (hq : vk q) (h : kl P k p = kl P k q) : p = q := by
  refine ky_inj hp hq (S.K.inj (kl_is S hp) ?_)
  rw [h]
  exact kl_is S hq
theorem kl_key (S : StKey P k e) {p : Pos} (hp : vk p) : WideAt.IsKeyLit (kl P k p) := S.K.key (kl_is S hp)

noncomputable def encE (P : Program) (k : TypeId) (x : Ent) : Lit × DataW Nat := (kl P k x.1, .lit (.int .i64 x.2))
def getC (L : List Ent) (p : Pos) : Int := ((L.find? fun x => x.1 == p).map (·.2)).getD 0
def strike (L : List Ent) (p : Pos) : List Ent := L.filter fun x => !(x.1 == p)

/-- the datum lists just these entries -/
structure MapD (P : Program) (k : TypeId) (D : DataW Nat) (L : List Ent) : Prop where
  es : ∃ es, D = .map es ∧ es.Perm (L.map (encE P k))
  ok : ∀ x ∈ L, vk x.1
  nd : (L.map (·.1)).Nodup

theorem MapD.empty : MapD P k (.map []) [] := ⟨⟨[], rfl, List.Perm.refl _⟩, (fun x hx => by cases hx), List.nodup_nil⟩
theorem MapD.isMap {D : DataW Nat} {L : List Ent} (h : MapD P k D L) : Maps.IsMap D := by obtain ⟨es, e, _⟩ := h.es; exact ⟨es, e⟩
theorem MapD.size {D : DataW Nat} {L : List Ent} (h : MapD P k D L) : Maps.size D = L.length := by
  obtain ⟨es, rfl, hp⟩ := h.es
  rw [Maps.size_eq, hp.length_eq, List.length_map]

theorem sameKey_kl (S : StKey P k e) {p q : Pos} (hp : vk p) (hq : vk q) : (kl P k q).sameKey (kl P k p) = (q == p) := by
  by_cases h : q = p
  · subst h; rw [WideAt.sameKey_self (kl_key S hp)]; simp
  · rw [Maps.sameKey_ne (fun e => h (kl_inj S hq hp e))]; simp [h]

theorem nodup_fst {L : List Ent} (h : (L.map (·.1)).Nodup) {x y : Ent} (hx : x ∈ L) (hy : y ∈ L) (e : x.1 = y.1) : x = y := by
  induction L with
  | nil => cases hx
  | cons a r ih =>
    simp only [List.map_cons, List.nodup_cons] at h
    rcases List.mem_cons.1 hx with h1 | h1
    · rcases List.mem_cons.1 hy with h2 | h2
      · rw [h1, h2]
      · exact absurd (List.mem_map.2 ⟨y, h2, by rw [← e, h1]⟩) h.1
    · rcases List.mem_cons.1 hy with h2 | h2
      · exact absurd (List.mem_map.2 ⟨x, h1, by rw [e, h2]⟩) h.1
      · exact ih h.2 h1 h2

theorem getC_of_mem {L : List Ent} (h : (L.map (·.1)).Nodup) {x : Ent} (hx : x ∈ L) : getC L x.1 = x.2 := by
  unfold getC
  cases hf : L.find? (fun y => y.1 == x.1) with
  | none => have := List.find?_eq_none.1 hf x hx; simp at this
  | some y =>
    have h1 := List.mem_of_find?_eq_some hf
    have h2 := List.find?_some hf
    have : y = x := nodup_fst h h1 hx (by simpa using h2)
    rw [this]; rfl
theorem getC_not {L : List Ent} {p : Pos} (h : ∀ x ∈ L, x.1 ≠ p) : getC L p = 0 := by
  unfold getC
  rw [List.find?_eq_none.2 (fun x hx => by simpa using h x hx)]
  rfl

theorem MapD.atKey (S : StKey P k e) {D : DataW Nat} {L : List Ent} (h : MapD P k D L) {p : Pos} (hp : vk p) : D.atKey (kl P k p) (.lit (.int .i64 0)) = .lit (.int .i64 (getC L p)) := by
  obtain ⟨es, rfl, hperm⟩ := h.es
  simp only [DataW.atKey]
  by_cases hm : ∃ x ∈ L, x.1 = p
  · obtain ⟨x, hx, rfl⟩ := hm
    rw [getC_of_mem h.nd hx]
    cases hf : es.find? (fun q => q.1.sameKey (kl P k x.1)) with
    | none =>
      have := List.find?_eq_none.1 hf (encE P k x) (hperm.mem_iff.2 (List.mem_map.2 ⟨x, hx, rfl⟩))
      simp only [encE, sameKey_kl S hp hp] at this
      simp at this
    | some q =>
      have h1 := hperm.mem_iff.1 (List.mem_of_find?_eq_some hf)
      have h2 := List.find?_some hf
      obtain ⟨y, hy, rfl⟩ := List.mem_map.1 h1
      simp only [encE, sameKey_kl S hp (h.ok y hy)] at h2
      have : y = x := nodup_fst h.nd hy hx (by simpa using h2)
      rw [this]; rfl
  · rw [getC_not (fun x hx e => hm ⟨x, hx, e⟩)]
    rw [List.find?_eq_none.2 (fun q hq => by
      obtain ⟨y, hy, rfl⟩ := List.mem_map.1 (hperm.mem_iff.1 hq)
      simp only [encE, sameKey_kl S hp (h.ok y hy)]
      simpa using fun e => hm ⟨y, hy, e⟩)]

theorem MapD.has (S : StKey P k e) {D : DataW Nat} {L : List Ent} (h : MapD P k D L) {p : Pos} (hp : vk p) : Maps.has D (kl P k p) = L.any fun x => x.1 == p := by
  obtain ⟨es, rfl, hperm⟩ := h.es
  rw [Maps.has_eq, Bool.eq_iff_iff, List.any_eq_true, List.any_eq_true]
  constructor
  · rintro ⟨q, hq, h2⟩
    obtain ⟨y, hy, rfl⟩ := List.mem_map.1 (hperm.mem_iff.1 hq)
    simp only [encE, sameKey_kl S hp (h.ok y hy)] at h2
    exact ⟨y, hy, h2⟩
  · rintro ⟨y, hy, h2⟩
    refine ⟨encE P k y, hperm.mem_iff.2 (List.mem_map.2 ⟨y, hy, rfl⟩), ?_⟩
    simp only [encE, sameKey_kl S hp (h.ok y hy)]
    exact h2

theorem MapD.key_of {D : DataW Nat} {L : List Ent} (h : MapD P k D L) {l : Lit} (hh : Maps.has D l = true) : ∃ x ∈ L, kl P k x.1 = l := by
  obtain ⟨es, rfl, hperm⟩ := h.es
  rw [Maps.has_eq, List.any_eq_true] at hh
  obtain ⟨q, hq, h2⟩ := hh
  obtain ⟨y, hy, rfl⟩ := List.mem_map.1 (hperm.mem_iff.1 hq)
  exact ⟨y, hy, WideAt.sameKey_eq h2⟩

theorem strike_perm (S : StKey P k e) {L : List Ent} (hok : ∀ x ∈ L, vk x.1) {p : Pos} (hp : vk p) {es : List (Lit × DataW Nat)} (h : es.Perm (L.map (encE P k))) : (es.filter fun q => !q.1.sameKey (kl P k p)).Perm ((strike L p).map (encE P k)) := by
  refine (h.filter _).trans ?_
  rw [List.filter_map]
  unfold strike
  rw [List.filter_congr (q := fun x => !(x.1 == p)) (fun x hx => by simp only [Function.comp, encE, sameKey_kl S hp (hok x hx)])]

theorem MapD.del (S : StKey P k e) {D : DataW Nat} {L : List Ent} (h : MapD P k D L) {p : Pos} (hp : vk p) : MapD P k (D.del (kl P k p)) (strike L p) := by
  obtain ⟨es, rfl, hperm⟩ := h.es
  refine ⟨⟨_, rfl, strike_perm S h.ok hp hperm⟩, fun x hx => h.ok x ((List.mem_filter.1 hx).1), ?_⟩
  exact (List.filter_sublist.map _).nodup h.nd

theorem MapD.put (S : StKey P k e) {D : DataW Nat} {L : List Ent} (h : MapD P k D L) {p : Pos} (hp : vk p) (c : Int) : MapD P k (D.put (kl P k p) (.lit (.int .i64 c))) ((p, c) :: strike L p) := by
  obtain ⟨es, rfl, hperm⟩ := h.es
  refine ⟨⟨_, rfl, ?_⟩, fun x hx => ?_, ?_⟩
  · refine (WideShapes.insert_perm _ _).trans ?_
    exact (strike_perm S h.ok hp hperm).cons (encE P k (p, c))
  · rcases List.mem_cons.1 hx with rfl | hx
    · exact hp
    · exact h.ok x ((List.mem_filter.1 hx).1)
  · simp only [List.map_cons, List.nodup_cons]
    refine ⟨fun hm => ?_, (List.filter_sublist.map _).nodup h.nd⟩
    obtain ⟨x, hx, e⟩ := List.mem_map.1 hm
    have := (List.mem_filter.1 hx).2
    simp [e] at this

/-- the sum of all counts, each weighed -/
def potL (L : List Ent) (φ : Pos → Int) : Int := sumL L fun x => x.2 * φ x.1
theorem potL_strike {L : List Ent} (h : (L.map (·.1)).Nodup) (p : Pos) (φ : Pos → Int) : potL L φ = getC L p * φ p + potL (strike L p) φ := by
  unfold potL
  induction L with
  | nil => simp [strike, sumL, getC]
  | cons a r ih =>
    simp only [List.map_cons, List.nodup_cons] at h
    by_cases e : a.1 = p
    · have h0 : getC (a :: r) p = a.2 := by rw [← e]; exact getC_of_mem (by simp only [List.map_cons, List.nodup_cons]; exact h) (by simp)
      have h1 : strike (a :: r) p = r := by
        unfold strike
        rw [List.filter_cons, if_neg (by simp [e])]
        exact List.filter_eq_self.2 (fun x hx => by
          have : x.1 ≠ p := fun e2 => h.1 (List.mem_map.2 ⟨x, hx, e2.trans e.symm⟩)
          simpa using this)
      rw [h0, h1, sumL_cons, e]
    · have h0 : getC (a :: r) p = getC r p := by unfold getC; rw [List.find?_cons_of_neg (by simpa using e)]
      have h1 : strike (a :: r) p = a :: strike r p := by unfold strike; rw [List.filter_cons, if_pos (by simpa using e)]
      rw [h0, h1, sumL_cons, sumL_cons, ih h.2]
      omega

theorem nodup_len_aux {ks R : List Pos} (nd : ks.Nodup) (h : ∀ x ∈ ks, x ∈ R) : ks.length ≤ R.length := by
  induction ks generalizing R with
  | nil => simp
  | cons a r ih =>
    obtain ⟨h1, h2⟩ := List.nodup_cons.1 nd
    have ha := h a (by simp)
    have := ih (R := R.erase a) h2 (fun x hx => by
      have hne : x ≠ a := fun e => h1 (e ▸ hx)
      exact (List.mem_erase_of_ne hne).2 (h x (by simp [hx])))
    have hl := List.length_erase_of_mem ha
    have hpos : 0 < R.length := List.length_pos_of_mem ha
    simp
    omega
theorem nodup_len {L : List Ent} {R : List Pos} (nd : (L.map (·.1)).Nodup) (h : ∀ x ∈ L, x.1 ∈ R) : L.length ≤ R.length := by
  have := nodup_len_aux nd (R := R) (fun x hx => by obtain ⟨y, hy, rfl⟩ := List.mem_map.1 hx; exact h y hy)
  simpa using this

/-- one step up from each of several places -/
def stepR (sc : List Int → List Int → Int) (R : List Pos) : List Pos := R.flatMap fun p => (above p.1).map fun ys => (ys, p.2 + sc p.1 ys)
/-- what one place passes on to those above it -/
def psi (sc : List Int → List Int → Int) (φ : Pos → Int) (p : Pos) : Int := sumL (above p.1) fun ys => φ (ys, p.2 + sc p.1 ys)
theorem mem_stepR {sc : List Int → List Int → Int} {R : List Pos} {p : Pos} {ys : List Int} (hp : p ∈ R) (hy : ys ∈ above p.1) : (ys, p.2 + sc p.1 ys) ∈ stepR sc R :=
  List.mem_flatMap.2 ⟨p, hp, List.mem_map.2 ⟨ys, hy, rfl⟩⟩

/-- equal modulo 2^64 -/
def Cg (a b : Int) : Prop := ∃ t : Int, a = b + 18446744073709551616 * t
theorem Cg.refl (a : Int) : Cg a a := ⟨0, by omega⟩
theorem Cg.symm {a b : Int} (h : Cg a b) : Cg b a := by obtain ⟨t, h⟩ := h; exact ⟨-t, by omega⟩
theorem Cg.trans {a b c : Int} (h : Cg a b) (h2 : Cg b c) : Cg a c := by obtain ⟨t, h⟩ := h; obtain ⟨u, h2⟩ := h2; exact ⟨t + u, by omega⟩
theorem Cg.add {a b c d : Int} (h : Cg a b) (h2 : Cg c d) : Cg (a + c) (b + d) := by obtain ⟨t, h⟩ := h; obtain ⟨u, h2⟩ := h2; exact ⟨t + u, by omega⟩
theorem Cg.mul {a b : Int} (h : Cg a b) (c : Int) : Cg (a * c) (b * c) := by
  obtain ⟨t, h⟩ := h
  exact ⟨t * c, by rw [h, Int.add_mul, Int.mul_assoc]⟩
theorem wrap_cg (a : Int) : Cg (wrap64 a) a := by unfold wrap64; exact ⟨-((a + 9223372036854775808) / 18446744073709551616), by omega⟩
theorem Cg.wrap {a b : Int} (h : Cg a b) : wrap64 a = wrap64 b := by obtain ⟨t, h⟩ := h; unfold wrap64; omega

/-- 'm[p] += c' -/
theorem potL_put {L : List Ent} (h : (L.map (·.1)).Nodup) (p : Pos) (c : Int) (φ : Pos → Int) : Cg (potL ((p, wrap64 (getC L p + c)) :: strike L p) φ) (potL L φ + c * φ p) := by
  rw [potL_strike h p φ]
  unfold potL
  rw [sumL_cons]
  have h1 := (wrap_cg (getC L p + c)).mul (φ p)
  rw [Int.add_mul] at h1
  obtain ⟨t, ht⟩ := h1
  exact ⟨t, by simp only; omega⟩

open Go.WideElems Go.ChangeMaps in
/-- block b is a map with just these entries -/
def MapW (P : Program) (k e : TypeId) (w : World) (b : Nat) (L : List Ent) : Prop := ∃ D, w.ownsMap P k (plainElem P e) b L.length D ∧ MapD P k D L

theorem ownsMap_size {w : World} {b n : Nat} {D : DataW Nat} {R : Value → Option (DataW Nat × List MemPlace)} (h : w.ownsMap P k R b n D) {n' : Nat} (hn : Maps.size D ≤ n') : w.ownsMap P k R b n' D := by
  obtain ⟨es, clock, hb, F, hs, rfl⟩ := h
  refine ⟨es, clock, hb, F, ?_, rfl⟩
  rw [Maps.size_eq, length_sorted, List.length_map] at hn
  simpa using hn

theorem MapW.of {w : World} {b n : Nat} {D : DataW Nat} {L : List Ent} (h : w.ownsMap P k (plainElem P e) b n D) (hd : MapD P k D L) : MapW P k e w b L := ⟨D, ownsMap_size h (by rw [hd.size]; exact Nat.le_refl _), hd⟩
theorem MapW.kept {w w' : World} {b : Nat} {L : List Ent} {row : Option Nat} (h : MapW P k e w b L) (hg : w.grownBy w' row) (hne : some b ≠ row) : MapW P k e w' b L := by
  obtain ⟨D, h1, h2⟩ := h
  exact ⟨D, h1.kept hg hne, h2⟩
theorem MapW.lt {w : World} {b : Nat} {L : List Ent} (h : MapW P k e w b L) : b < w.heap.size := by
  obtain ⟨D, h1, _⟩ := h
  exact h1.lt
theorem MapW.below {w w' : World} {b B : Nat} {L : List Ent} (h : MapW P k e w b L) (hb : Below B w w') (hB : b < B) : MapW P k e w' b L := by
  obtain ⟨D, ⟨es, clock, h1, h2⟩, hd⟩ := h
  exact ⟨D, ⟨es, clock, by rw [hb.block b hB]; exact h1, h2⟩, hd⟩

theorem setBlock_twice (w : World) (b : Nat) (o1 o2 : Obj) : ChangeMaps.setBlock (ChangeMaps.setBlock w b o1) b o2 = ChangeMaps.setBlock w b o2 := by
  unfold ChangeMaps.setBlock
  simp

theorem setBlock_self {w : World} {b : Nat} {o : Obj} (h : w.heap[b]? = some o) : ChangeMaps.setBlock w b o = w := by
  obtain ⟨hl, rfl⟩ := Array.getElem?_eq_some_iff.1 h
  have e : w.heap.setIfInBounds b w.heap[b] = w.heap := by
    apply Array.ext
    · simp
    · intro i h1 h2
      rw [Array.getElem_setIfInBounds h2]
      split
      · next e => subst e; rfl
      · rfl
  unfold ChangeMaps.setBlock
  rw [e]

open Go.WideElems in
/-- the entry's world: as if the zero value had been stored, or as it was -/
theorem entry_world {R : Value → Option (DataW Nat × List MemPlace)} {w : World} {t : TypeId} {b : Nat} {es : Array MapEntry} {clock : Nat} (K : WideMaps.KeyLaw P k) (ht : P.underlying t = some (.map k e)) {z : Value} (hz : ∀ u : World, (zeroValue e).run P u = .ok z u) (hb : w.heap[b]? = some (.map es clock)) (F : Fit P k R es clock)
    {key : Value} {kl : Lit} (hkey : keyOf P k key = some kl) :
    (∃ v w3, (Instr.mapEntry t (.map (some b)) key).run P w = .ok v w3 ∧ (Instr.mapUpdate t (.map (some b)) key z).run P w = .ok () w3 ∧ ∀ x ∈ es.toList, x.key ≠ key) ∨ (∃ v, (Instr.mapEntry t (.map (some b)) key).run P w = .ok v w) := by
  rcases K.find w hkey es.toList F.keys with ⟨h1, h2⟩ | ⟨j, e0, h1, h2, h3⟩
  · refine .inl ⟨.tuple #[z, goInt clock], ChangeMaps.setBlock w b (.map (es.push ⟨key, z, clock⟩) (clock + 1)), ?_, ?_, h2⟩
    · simp [Instr.mapEntry, run_underlying ht, MapKept.run_getObj_map hb, K.check w false hkey, h1, hz, MapKept.run_setObj_map _ hb, Result.andThen, ChangeMaps.setBlock]
    · simp [Instr.mapUpdate, run_underlying ht, MapKept.run_getObj_map hb, K.check w false hkey, h1, MapKept.run_setObj_map _ hb, Result.andThen, ChangeMaps.setBlock]
  · have hj : es[j]? = some e0 := by simpa using h2
    have hsame : es.modify j (fun e => { e with key := key }) = es := by
      apply Array.ext'
      rw [Array.toList_modify, ChangeMaps.modify_eq_set _ _ _ _ h2]
      have : ({ e0 with key := key } : MapEntry) = e0 := by rw [← h3]
      rw [this]
      exact set_self _ _ _ h2
    refine .inr ⟨.tuple #[e0.val, goInt e0.born], ?_⟩
    have := setBlock_self hb
    unfold ChangeMaps.setBlock at this
    simp [Instr.mapEntry, run_underlying ht, MapKept.run_getObj_map hb, K.check w false hkey, h1, hj, h3, K.stays w hkey, hsame, MapKept.run_setObj_map _ hb, Result.andThen, this]

/-- what 'm[p] += c' runs through, in whatever order its look and its entry come -/
theorem MapW.add (S : StKey P k e) (K : WideMaps.KeyLaw P k) {t : TypeId} (ht : P.underlying t = some (.map k e)) (hz : ∀ u : World, (zeroValue e).run P u = .ok (.int .i64 0) u) {w : World} {b : Nat} {L : List Ent} (h : MapW P k e w b L) (hl : L.length < 9223372036854775807) {p : Pos} (hp : vk p) (c : Int) :
    ∃ (v0 : Value) (st : Int) (w3 w4 : World), (Instr.lookup t (.map (some b)) (ky p) false).run P w = .ok (.int .i64 (getC L p)) w ∧ (Instr.mapEntry t (.map (some b)) (ky p)).run P w = .ok (.tuple #[v0, .int .i64 st]) w3 ∧ (Instr.lookup t (.map (some b)) (ky p) false).run P w3 = .ok (.int .i64 (getC L p)) w3 ∧
      (Instr.entryStore t (.map (some b)) (.int .i64 st) (.int .i64 (wrap64 (getC L p + c)))).run P w3 = .ok () w4 ∧ MapW P k e w4 b ((p, wrap64 (getC L p + c)) :: strike L p) ∧ w.grownBy w4 (some b) ∧ w4.heap.size = w.heap.size := by
  obtain ⟨D, hown, hd⟩ := h
  have hkey := kl_is S hp
  obtain ⟨x, hrun, hat, _⟩ := hown.lookup_int S.K ht S.elem (hz w) hkey
  have hx : x = getC L p := by
    have := hat.symm.trans (hd.atKey S hp)
    simpa using this
  subst hx
  obtain ⟨es, clock, hb, F, hs, hD⟩ := hown
  obtain ⟨v0, st, es1, clock1, h1, _, h3⟩ := WideElems.entry_then_store K ht hz hb F hkey
  obtain ⟨es', clock', h4, h5⟩ := h3 (ChangeMaps.setBlock w b (.map es1 clock1)) (.int .i64 (wrap64 (getC L p + c))) (ChangeMaps.heap_setBlock_same hb _)
  obtain ⟨w', h6, h7, h8⟩ := World.ownsMap.update (R := plainElem P e) (val := .int .i64 (wrap64 (getC L p + c))) (d := .lit (.int .i64 (wrap64 (getC L p + c)))) (ps := []) ⟨es, clock, hb, F, hs, hD⟩ S.K ht hl hkey (plainElem_int S.elem (wrap64_wf _))
  rw [setBlock_twice] at h4
  have ew : w' = ChangeMaps.setBlock w b (.map es' clock') := by
    have := h6.symm.trans h5
    simpa using this
  have hl3 : (Instr.lookup t (.map (some b)) (ky p) false).run P (ChangeMaps.setBlock w b (.map es1 clock1)) = .ok (.int .i64 (getC L p)) (ChangeMaps.setBlock w b (.map es1 clock1)) := by
    rcases entry_world K ht hz hb F hkey with ⟨v, w3, g1, g2, g3⟩ | ⟨v, g1⟩
    · have e3 : w3 = ChangeMaps.setBlock w b (.map es1 clock1) := by
        have := g1.symm.trans h1
        simp at this
        exact this.2
      rw [← e3]
      obtain ⟨w'', k6, k7, _⟩ := World.ownsMap.update (R := plainElem P e) (val := .int .i64 0) (d := .lit (.int .i64 0)) (ps := []) ⟨es, clock, hb, F, hs, hD⟩ S.K ht hl hkey (plainElem_int S.elem (by decide))
      have e4 : w'' = w3 := by
        have := k6.symm.trans g2
        simpa using this
      rw [e4] at k7
      obtain ⟨x, hrun3, hat3, _⟩ := k7.lookup_int S.K ht S.elem (hz w3) hkey
      rw [Maps.atKey_put_same hd.isMap (kl_key S hp)] at hat3
      have h0 : getC L p = 0 := by
        refine getC_not (fun x hx e => ?_)
        have hh : Maps.has D (kl P k p) = true := by rw [hd.has S hp, List.any_eq_true]; exact ⟨x, hx, by simp [e]⟩
        rw [hD, Maps.has_eq, List.any_eq_true] at hh
        obtain ⟨q, hq, hqk⟩ := hh
        obtain ⟨y, hy, rfl⟩ := List.mem_map.1 (mem_sorted.1 hq)
        obtain ⟨z, hz⟩ := F.reads y hy
        have m1 := WideElems.rd_key hz
        rw [WideElems.rg_of hz] at hqk
        have := WideAt.sameKey_eq hqk
        rw [this] at m1
        exact g3 y hy (S.K.inj m1 hkey)
      have hx0 : x = 0 := by simpa using hat3.symm
      rw [h0, ← hx0]
      exact hrun3
    · have e3 : w = ChangeMaps.setBlock w b (.map es1 clock1) := by
        have := g1.symm.trans h1
        simp at this
        exact this.2
      rw [← e3]
      exact hrun
  refine ⟨v0, st, _, _, hrun, h1, hl3, h4, ?_, ?_, ?_⟩
  · rw [← ew]
    exact MapW.of h7 (hd.put S hp _)
  · rw [← ew]; exact h8
  · simp [ChangeMaps.setBlock]
end
end Go.Proofs.YtcifcombbdblgaaDoor
