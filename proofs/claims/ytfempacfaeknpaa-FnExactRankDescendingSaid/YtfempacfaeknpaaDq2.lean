/- Contracts: RankDescending, by both sides. Conditions: lengths up to 2^20, numbers of an int. -/
import Derived.Test.YtfempacfaeknpaaDpZ
import Derived.Test.YtfempacfaeknpaaWeq
namespace Go.Proofs.Ytfempacfaeknpaa
open Go.RowKit

theorem gi_pre {b s : List Int} {i : Nat} (h : i < b.length) : gi (b ++ s) i = gi b i := gi_app_left h
theorem allow_prefix {l b s : List Int} {x : Int} (h : Allow l (b ++ x :: s)) : Allow l (b ++ [x]) := by
  have e : ∀ i, i < b.length + 1 → gi (b ++ x :: s) i = gi (b ++ [x]) i := by
    intro i hi
    have e2 : b ++ x :: s = (b ++ [x]) ++ s := by simp
    rw [e2]
    exact gi_app_left (by simp; omega)
  obtain ⟨h1, h2, h3, h4⟩ := h
  simp only [List.length_append, List.length_cons] at h1 h2 h3 h4
  refine ⟨by simp, by simp; omega, ?_, fun i hi => ?_⟩
  · rw [← e 0 (by omega)]
    simp only [List.length_append, List.length_cons, List.length_nil]
    omega
  · simp only [List.length_append, List.length_cons, List.length_nil] at hi
    have := h4 i (by omega)
    rw [← e i (by omega)]
    refine ⟨this.1, this.2.1, fun h0 => ?_⟩
    rw [← e (i - 1) (by omega)]
    exact this.2.2 h0
theorem longL_complete {l : List Int} : ∀ f b s, b.length + f = l.length → s ≠ [] → Allow l (b ++ s) → (b ++ s) ∈ longL l f b
  | 0, b, s, hb, hs, h => by
    have h2 := h.2.1
    rw [List.length_append] at h2
    exact absurd (List.length_eq_zero_iff.1 (by omega)) hs
  | f + 1, b, [], _, hs, _ => absurd rfl hs
  | f + 1, b, x :: s, hb, _, h => by
    have hp := allow_prefix h
    have hx : gi (b ++ [x]) b.length = x := by simp [gi]
    have h4 := hp.2.2.2 b.length (by simp)
    rw [hx] at h4
    unfold longL longTo
    refine List.mem_flatMap.2 ⟨(x - 1).toNat, List.mem_range.2 (by omega), ?_⟩
    unfold longStep
    have e : (((x - 1).toNat : Nat) : Int) + 1 = x := by omega
    rw [e, if_pos hp]
    have e2 : b ++ x :: s = (b ++ [x]) ++ s := by simp
    rw [e2]
    by_cases hs : s = []
    · subst hs
      rw [List.append_nil]
      exact List.mem_cons_self ..
    · refine List.mem_cons_of_mem _ (longL_complete f (b ++ [x]) s (by simp; omega) hs ?_)
      rw [← e2]; exact h
theorem rowsL_complete {l row : List Int} (h : Allow l row) : row ∈ rowsL l := by
  have := longL_complete (l := l) l.length [] row (by simp) (fun e => by have := h.1; rw [e] at this; simp at this) (by simpa using h)
  simpa [rowsL] using this
def ChainL : List Int → List (List Int) → Prop
  | _, [] => True
  | l, r :: rs => Allow l r ∧ ChainL (limB r) rs
theorem planesL_complete : ∀ f l rows, rows.length ≤ f → ChainL l rows → rows ∈ planesL f l
  | 0, l, rows, hl, _ => by
    have : rows = [] := List.length_eq_zero_iff.1 (by omega)
    subst this
    simp [planesL]
  | f + 1, l, [], _, _ => by simp [planesL]
  | f + 1, l, r :: rs, hl, h => by
    unfold planesL
    refine List.mem_cons_of_mem _ (List.mem_flatMap.2 ⟨r, rowsL_complete h.1, List.mem_map.2 ⟨rs, planesL_complete f (limB r) rs (by simpa using hl) h.2, rfl⟩⟩)
theorem chain_of : ∀ (l : List Int) (rows : List (List Int)), (∀ j, j < rows.length → Allow (if j = 0 then l else limB (gr rows (j - 1))) (gr rows j)) → ChainL l rows
  | _, [], _ => trivial
  | l, r :: rs, h => by
    refine ⟨by have h0 := h 0 (by simp); rw [if_pos rfl, gr_cons_zero] at h0; exact h0, chain_of (limB r) rs fun j hj => ?_⟩
    have h1 := h (j + 1) (by simpa using hj)
    rw [if_neg (by omega), gr_cons_succ, Nat.add_sub_cancel] at h1
    by_cases e : j = 0
    · subst e
      rw [if_pos rfl]
      exact h1
    · rw [if_neg e]
      have e2 : gr (r :: rs) j = gr rs (j - 1) := by
        obtain ⟨i, rfl⟩ : ∃ i, j = i + 1 := ⟨j - 1, by omega⟩
        rw [gr_cons_succ, Nat.add_sub_cancel]
      rw [← e2]
      exact h1
theorem allP_complete {n : Nat} (h1 : 1 ≤ n) (h4 : n ≤ 4) {rows : List (List Int)} (h : DpGood rows n) : rows ∈ allP n := by
  rw [← (planes_allP n (by omega)).resolve_left (by omega)]
  exact planesL_complete n (lim1 n) rows (by have := h.1; omega) (chain_of _ _ ((good_chain h1 rows).1 h))
theorem allP_nodup : ∀ n : Nat, n < 5 → (allP n).Nodup := by decide +kernel
/-- the rank -/
def rankP (n : Nat) (rows : List (List Int)) : Nat := (allP n).findIdx (· == rows)
theorem rankP_is {n : Nat} (h1 : 1 ≤ n) (h4 : n ≤ 4) {rows : List (List Int)} (h : DpGood rows n) : rankP n rows < (allP n).length ∧ gt (allP n) (rankP n rows) = rows ∧ ∀ j, j < (allP n).length → gt (allP n) j = rows → j = rankP n rows := by
  have hm := allP_complete h1 h4 h
  have hlt : rankP n rows < (allP n).length := List.findIdx_lt_length_of_exists ⟨rows, hm, by simp⟩
  have he : gt (allP n) (rankP n rows) = rows := by
    rw [gt_lt hlt]
    have := List.findIdx_getElem (xs := allP n) (p := (· == rows)) (w := hlt)
    exact eq_of_beq this
  refine ⟨hlt, he, fun j hj e => ?_⟩
  have hn := allP_nodup n (by omega)
  rw [gt_lt hj] at e
  rw [gt_lt hlt] at he
  exact (List.getElem_inj hn).1 (e.trans he.symm)

set_option maxRecDepth 100000 in
set_option maxHeartbeats 3200000 in
theorem specRankDescending_any (ao : Option Addr) (c : Nat) (rows : List (List Int)) (n : Int) (w : World) (hs : Small rows) (hm : MatAt w ao rows) (_hn : -9223372036854775808 ≤ n ∧ n ≤ 9223372036854775807) :
    Calls Try.prog 54 #[.slice ao rows.length c, .int .i64 n] w fun e w' => IRes ((1 ≤ n ∧ n ≤ 4) ∧ DpGood rows n.toNat) (rankP n.toNat rows : Nat) e ∧ Below w.heap.size w w' := by
  have hmx : rows.length ≤ 9223372036854775807 := by have := hs.1; omega
  have Hs := Lib.hid hs
  have Hm := Lib.hid hm
  have C := Lib.hid (dpSmall_any n w)
  clear hs hm
  by_cases p : 1 ≤ n ∧ n ≤ 4
  · obtain ⟨k, rfl⟩ : ∃ k : Nat, n = (k : Int) := ⟨n.toNat, by omega⟩
    rw [Int.toNat_natCast]
    have Hp := Lib.hid p
    have Hk := Lib.hid (show 1 ≤ k ∧ k ≤ 4 by omega)
    have CG := Lib.hid (dpGood_any ao c rows k w (by omega) Hs.out Hm.out)
    have C2 := Lib.hid (fun w => dpAllN_any k (by omega) (by omega) w)
    have hl := (allP_few k (by omega)).1
    have Hsm := Lib.hid (fun p (hp : p ∈ allP k) => allP_small (n := k) (by omega) hp)
    have HRk := Lib.hid (fun h => rankP_is (n := k) (by omega) (by omega) (rows := rows) h)
    obtain ⟨A, hA⟩ : ∃ A, A = allP k := ⟨_, rfl⟩
    rw [← hA] at C2 hl Hsm HRk
    obtain ⟨K, hK⟩ : ∃ K, K = rankP k rows := ⟨_, rfl⟩
    rw [← hK] at HRk ⊢
    have hAm : A.length ≤ 9223372036854775807 := by omega
    clear p hA hK
    go_enter Try.func54, Try.ntmps54
    go_wp2_with fail
    refine C.out.mono ?_
    rintro e w1 ⟨ha, rfl⟩
    obtain rfl := ha.is Hp.out
    clear ha
    go_wp2_with fail
    refine CG.out.mono ?_
    rintro e w1 ⟨ha, hq⟩
    have HB := Lib.hid (hq.below w.heap.size)
    clear hq
    by_cases pg : DpGood rows k
    · have Hg := Lib.hid pg
      obtain rfl := ha.is pg
      obtain ⟨hr1, hr2, hr3⟩ := HRk.out pg
      have Hr := Lib.hid (And.intro hr1 (And.intro hr2 hr3))
      clear ha pg hr1 hr2 hr3
      go_wp2_with fail
      refine (C2.out w1).mono ?_
      rintro e w3 ⟨v, vs, rfl, hv, hb⟩
      obtain ⟨pa, pc, rfl, _, _⟩ := hv.head
      have HV := Lib.hid hv
      have HB3 := Lib.hid (HB.out.trans (hb.mono HB.out.size))
      clear hv hb HB
      go_wp2
      go_loopw [6, 21] (fun r i wr => ∃ (j z : Nat), j ≤ A.length ∧ i = .int .i64 j ∧ r = .int .i64 z ∧ ((K < j ∧ z = K) ∨ (j ≤ K ∧ z = 0)) ∧ Below w3.heap.size w3 wr) (fun _ i _ => A.length - (intOf i).toNat)
      case atStart => exact ⟨0, 0, Nat.zero_le _, rfl, rfl, .inr ⟨Nat.zero_le _, rfl⟩, Below.refl _ _⟩
      case round =>
        obtain ⟨j, z, hj, rfl, rfl, hz, hbr⟩ := hrel
        have Hz := Lib.hid hz
        have Hbr := Lib.hid hbr
        clear hz hbr
        by_cases hlt : j < A.length
        · obtain ⟨b1, o1, r1, d1, e1, hc1, hm1, _, _⟩ := (HV.out.below Hbr.out).at hlt
          have CW := Lib.hid (weSame_any r1 ao d1 c (gt A j) rows wr (Hsm.out _ (gt_mem hlt)) Hs.out hm1 (Hm.out.below (HB3.out.trans (Hbr.out.mono HB3.out.size))))
          have hgl : (gt A j).length ≤ 9223372036854775807 := by have := (Hsm.out _ (gt_mem hlt)).1; omega
          have HE := Lib.hid (show (gt A j == rows) = true ↔ j = K from by
            rw [beq_iff_eq]
            exact ⟨fun e => Hr.out.2.2 j hlt e, fun e => by rw [e]; exact Hr.out.2.1⟩)
          obtain ⟨G, hG⟩ : ∃ G, G = gt A j := ⟨_, rfl⟩
          rw [← hG] at hc1 CW hgl HE
          obtain ⟨b, hb⟩ : ∃ b, b = (G == rows) := ⟨_, rfl⟩
          rw [← hb] at CW HE
          subst e1
          clear hm1 hG hb
          go_wp2_with fail
          refine CW.out.mono ?_
          rintro e w5 ⟨rfl, hq⟩
          have HB5 := Lib.hid (Hbr.out.trans (hq.below _))
          clear hq
          cases b with
          | true =>
            have hjK := Lib.hid (HE.out.1 rfl)
            go_wp2
            go_roundw
            case rel => exact ⟨j + 1, j, by omega, by go_num, rfl, .inl ⟨by have := hjK.out; omega, hjK.out⟩, HB5.out⟩
            case measure => simp [intOf]; omega
          | false =>
            have hjK := Lib.hid (show j ≠ K from fun e => by have := HE.out.2 e; cases this)
            go_wp2
            go_roundw
            case rel => exact ⟨j + 1, z, by omega, by go_num, rfl, by have := hjK.out; have := Hz.out; omega, HB5.out⟩
            case measure => simp [intOf]; omega
        · obtain rfl : j = A.length := by omega
          have HzK := Lib.hid (show z = K by have := Hz.out; have := Hr.out.1; omega)
          have HB6 := Lib.hid (HB3.out.trans (Hbr.out.mono HB3.out.size))
          go_wp2
          go_ret2
          exact ⟨by rw [HzK.out]; exact IRes.yes ⟨Hp.out, Hg.out⟩, HB6.out⟩
    · have Hg := Lib.hid pg
      obtain rfl := ha.isnt pg
      clear ha pg
      go_wp2
      go_ret2
      exact ⟨IRes.no (fun h => Hg.out h.2), HB.out⟩
  · have Hp := Lib.hid p
    clear p
    go_enter Try.func54, Try.ntmps54
    go_wp2_with fail
    refine C.out.mono ?_
    rintro e w1 ⟨ha, rfl⟩
    obtain rfl := ha.isnt Hp.out
    clear ha
    go_wp2
    go_ret2
    exact ⟨IRes.no (fun h => Hp.out h.1), Below.refl _ _⟩

theorem wpList_loadQ {P : Program} {ops : Array Oper} {rest : List Oper} {o : Oper} {a : Act} {w : World} {Q : Exit → Act → World → Prop} (hw : Region.wanted o (yielded ops a.tmps) = true) (ty : TypeId) (x : Operand) (ho : o.op = .load ty x)
    (g : Nat) (hx : a.eval x = .pointer (some ⟨g, 0, none⟩)) (cs : Array Value) (d : TypeDesc) (hg : w.heap[g]? = some (.cells cs ty (0, 0)))
    (hu : P.underlying ty = some d) (hd : (match d with | .struct _ | .array _ _ => true | _ => false) = true) (hi : (P.info? ty).map (·.size) = some cs.size)
    (h : wpList P ops Q rest (a.put o.dst (.agg cs)) w) : wpList P ops Q (o :: rest) a w :=
  wpList_step fun K hK => by
    rw [if_pos hw]
    exact wp_load_row ty x ho g hx ty cs (0, 0) d hg hu hd hi (hK _ _ h)

set_option maxRecDepth 100000 in
set_option maxHeartbeats 800000 in
theorem rank1_any (ao a2 : Option Addr) (c c2 g : Nat) (m rows : List (List Int)) (n : Int) (w : World) (hs1 : Small m) (hs2 : Small rows) (h1 : MatAt w ao m) (h2 : MatAt w a2 rows) (hp : PtAt w g (.slice a2 rows.length c2) n) :
    Calls Try.prog 124 #[.slice ao m.length c, .pointer (some ⟨g, 0, none⟩)] w fun e w' => e = .returned (.bool (m == rows)) ∧ Below w.heap.size w w' := by
  have C := Lib.hid (equalTables_any ao a2 c c2 m rows w hs1 hs2 h1 h2)
  obtain ⟨b, hb⟩ : ∃ b, b = (m == rows) := ⟨_, rfl⟩
  rw [← hb] at C ⊢
  have hc0 := hp.c0
  have hm1 : m.length ≤ 9223372036854775807 := by have := hs1.1; omega
  have hm2 : rows.length ≤ 9223372036854775807 := by have := hs2.1; omega
  clear hs1 hs2 h1 h2 hp hb
  go_enter Try.func124, Try.ntmps124
  go_wp2_with fail
  refine C.out.mono ?_
  rintro e w2 ⟨rfl, hq⟩
  have Hq := Lib.hid (hq.below w.heap.size)
  clear hq
  go_wp2
  go_ret
  exact ⟨rfl, Hq.out⟩

set_option maxRecDepth 100000 in
set_option maxHeartbeats 1600000 in
theorem indexPlanes_any (pa a2 : Option Addr) (pc c2 g B K : Nat) (A : List (List (List Int))) (vs : List Value) (rows : List (List Int)) (n : Int) (w : World) (hAl : A.length ≤ 42) (hA : ∀ p, p ∈ A → Small p) (hs2 : Small rows) (hK : K < A.length ∧ gt A K = rows ∧ ∀ j, j < A.length → gt A j = rows → j = K)
    (hv : OwnW w B (.slice pa A.length pc) A vs) (h2 : MatAt w a2 rows) (hp : PtAt w g (.slice a2 rows.length c2) n) :
    Calls Try.prog 123 #[.slice pa A.length pc, .func (.func 124) #[] #[.pointer (some ⟨g, 0, none⟩)]] w fun e w' => e = .returned (.int .i64 (K : Int)) ∧ Below w.heap.size w w' := by
  have hAm : A.length ≤ 9223372036854775807 := by omega
  have HA := Lib.hid hA
  have Hs2 := Lib.hid hs2
  have HK := Lib.hid hK
  have HV := Lib.hid hv
  have H2 := Lib.hid h2
  have HP := Lib.hid hp
  clear hA hs2 hK hv h2 hp
  go_enter Try.func123, Try.ntmps123
  go_wp2
  go_loopw [8] (fun i wr => ∃ j : Nat, j ≤ K ∧ i = .int .i64 j ∧ Below w.heap.size w wr) (fun i _ => A.length - (intOf i).toNat)
  case atStart => exact ⟨0, Nat.zero_le _, rfl, Below.refl _ _⟩
  case round =>
    obtain ⟨j, hj, rfl, hbr⟩ := hrel
    have Hbr := Lib.hid hbr
    clear hbr
    have hlt : j < A.length := by have := HK.out.1; omega
    obtain ⟨b1, o1, r1, d1, e1, hc1, hm1, _, _⟩ := (HV.out.below Hbr.out).at hlt
    have CR := Lib.hid (rank1_any r1 a2 d1 c2 g (gt A j) rows n wr (HA.out _ (gt_mem hlt)) Hs2.out hm1 (H2.out.below Hbr.out) (HP.out.below Hbr.out))
    have hgl : (gt A j).length ≤ 9223372036854775807 := by have := (HA.out _ (gt_mem hlt)).1; omega
    have HE := Lib.hid (show (gt A j == rows) = true ↔ j = K from by
      rw [beq_iff_eq]
      exact ⟨fun e => HK.out.2.2 j hlt e, fun e => by rw [e]; exact HK.out.2.1⟩)
    obtain ⟨G, hG⟩ : ∃ G, G = gt A j := ⟨_, rfl⟩
    rw [← hG] at hc1 CR hgl HE
    obtain ⟨b, hb⟩ : ∃ b, b = (G == rows) := ⟨_, rfl⟩
    rw [← hb] at CR HE
    subst e1
    clear hm1 hG hb
    go_wp2_with fail
    refine CR.out.mono ?_
    rintro e w5 ⟨rfl, hq⟩
    have HB5 := Lib.hid (Hbr.out.trans (hq.mono Hbr.out.size))
    clear hq
    cases b with
    | true =>
      have hjK := Lib.hid (HE.out.1 rfl)
      go_wp2
      go_ret
      exact ⟨by rw [← hjK.out]; rfl, HB5.out⟩
    | false =>
      have hjK := Lib.hid (show j ≠ K from fun e => by have := HE.out.2 e; cases this)
      go_wp2
      go_roundw
      case rel => exact ⟨j + 1, by have := hjK.out; omega, by go_num, HB5.out⟩
      case measure => simp [intOf]; omega

set_option maxRecDepth 100000 in
set_option maxHeartbeats 1600000 in
theorem rank_any (ao : Option Addr) (c : Nat) (rows : List (List Int)) (k : Nat) (w : World) (h1 : 1 ≤ k) (h4 : k ≤ 4) (hg : DpGood rows k) (hs : Small rows) (hm : MatAt w ao rows) :
    Calls Try.prog 94 #[.agg (ptA (.slice ao rows.length c) k)] w fun e w' => e = .returned (.int .i64 (rankP k rows : Nat)) ∧ Below w.heap.size w w' := by
  have Hs := Lib.hid hs
  have Hm := Lib.hid hm
  have C1 := Lib.hid (fun w => firstLimits_any k w (by omega) (by omega))
  have C2 := Lib.hid (fun a c w h => planesN_any k (by omega) (by omega) a c w h)
  have hl := (allP_few k (by omega)).1
  have Hsm := Lib.hid (fun p (hp : p ∈ allP k) => allP_small (n := k) (by omega) hp)
  have HRk := Lib.hid (rankP_is (n := k) (by omega) (by omega) (rows := rows) hg)
  obtain ⟨A, hA⟩ : ∃ A, A = allP k := ⟨_, rfl⟩
  rw [← hA] at C2 hl Hsm HRk
  obtain ⟨K, hK⟩ : ∃ K, K = rankP k rows := ⟨_, rfl⟩
  rw [← hK] at HRk ⊢
  obtain ⟨L, hL⟩ : ∃ L, L = lim1 k := ⟨_, rfl⟩
  rw [← hL] at C1 C2
  have hAm : A.length ≤ 9223372036854775807 := by omega
  clear hs hm hA hK hL hg
  go_enter Try.func94, Try.ntmps94
  go_upto_region 1 with (refine wpList_boxT rfl 58 _ rfl _ rfl ?_)
  generalize hW : World.alloc w _ = w1
  have hP : PtAt w1 w.heap.size (.slice ao rows.length c) k := by rw [← hW]; exact PtAt.new _ _ _
  have HB := Lib.hid (show Below w.heap.size w w1 by rw [← hW]; exact (Below.refl _ w).alloc (Nat.le_refl _) _)
  have hc1 := hP.c1
  have HP := Lib.hid hP
  clear hW hP
  go_wp2_with fail
  refine (C1.out w1).mono ?_
  rintro e w2 ⟨v, rfl, hv, hb⟩
  obtain ⟨la, lc, rfl, _, _, hI⟩ := hv.read
  have HI := Lib.hid hI
  have HB2 := Lib.hid (HB.out.trans (hb.mono HB.out.size))
  have HP2 := Lib.hid (HP.out.below hb)
  clear hv hb hI HB HP hc1
  go_wp2_with fail
  refine (C2.out la lc w2 HI.out).mono ?_
  rintro e w3 ⟨v, vs, uss, rfl, hv, hb⟩
  obtain ⟨pa, pc, rfl, _, _⟩ := hv.head
  have HB3 := Lib.hid (HB2.out.trans (hb.mono HB2.out.size))
  have CI := Lib.hid (indexPlanes_any pa ao pc c w.heap.size w2.heap.size K A vs rows k w3 hl Hsm.out Hs.out HRk.out hv.toW (Hm.out.below HB3.out) (HP2.out.below hb))
  clear hv hb HB2 HP2
  go_wp2_with fail
  refine CI.out.mono ?_
  rintro e w4 ⟨rfl, hb⟩
  have HB4 := Lib.hid (HB3.out.trans (hb.mono HB3.out.size))
  clear hb
  go_wp2
  go_ret
  exact ⟨rfl, HB4.out⟩

set_option maxRecDepth 100000 in
set_option maxHeartbeats 3200000 in
theorem implRankDescending_any (ao : Option Addr) (c : Nat) (rows : List (List Int)) (n : Int) (w : World) (hs : Small rows) (hwf : WfM rows) (hm : MatAt w ao rows) (_hn : -9223372036854775808 ≤ n ∧ n ≤ 9223372036854775807) :
    Calls Try.prog 55 #[.slice ao rows.length c, .int .i64 n] w fun e w' => IRes ((1 ≤ n ∧ n ≤ 4) ∧ DpGood rows n.toNat) (rankP n.toNat rows : Nat) e ∧ Below w.heap.size w w' := by
  have hmx : rows.length ≤ 9223372036854775807 := by have := hs.1; omega
  have Hs := Lib.hid hs
  have Hwf := Lib.hid hwf
  have Hm := Lib.hid hm
  have C := Lib.hid (fun w => isListed_any n w)
  clear hs hm hwf
  go_enter Try.func55, Try.ntmps55
  go_upto_region 2 with (first | (refine wpList_buildPt rfl 58 _ rfl [(0, .slice ao rows.length c), (1, .int .i64 n)] rfl (ptA (.slice ao rows.length c) n) (Try.built_pt _ _ _ _) ?_) | (refine wpList_allocT rfl 58 rfl _ _ Try.info_pt ?_) | (refine wpList_storeT rfl 58 _ _ rfl (ptA (.slice ao rows.length c) n) (ptA (.slice none 0 0) 0) w.heap.size rfl rfl rfl (Try.size_pt _ _) (pt_same _ _ _ _) (pt_one _ _ _ _) ?_))
  generalize hW : World.alloc w _ = w1
  have HP := Lib.hid (show PtAt w1 w.heap.size (.slice ao rows.length c) n by rw [← hW]; exact PtAt.new _ _ _)
  have HB := Lib.hid (show Below w.heap.size w w1 by rw [← hW]; exact (Below.refl _ w).alloc (Nat.le_refl _) _)
  clear hW
  go_wp2_with fail
  refine (C.out w1).mono ?_
  rintro e w2 ⟨ha, hb⟩
  have HB2 := Lib.hid (HB.out.trans (hb.mono HB.out.size))
  have HP2 := Lib.hid (HP.out.below hb)
  clear hb HB HP
  by_cases p : 1 ≤ n ∧ n ≤ 4
  · have Hp := Lib.hid p
    obtain ⟨k, rfl⟩ : ∃ k : Nat, n = (k : Int) := ⟨n.toNat, by omega⟩
    have Hk := Lib.hid (show 1 ≤ k ∧ k ≤ 4 by omega)
    obtain rfl := ha.is p
    clear ha p
    go_wp2_with (first | (refine wpList_loadQ (by rfl) 58 _ rfl w.heap.size rfl _ _ HP2.out Try.underlying58 rfl (Try.size_pt _ _) ?_) | (refine wpList_loadG rfl 58 _ rfl w.heap.size rfl _ _ HP2.out Try.underlying58 rfl (Try.size_pt _ _) ?_))
    refine (isDescending_any ao c rows k w2 (by have := Hk.out; omega) (by have := Hk.out; omega) Hs.out Hwf.out (Hm.out.below HB2.out)).mono ?_
    rintro e w3 ⟨ha, hb⟩
    have HP3 := Lib.hid (HP2.out.below hb)
    have HB3 := Lib.hid (HB2.out.trans (hb.mono HB2.out.size))
    clear hb HP2 HB2
    by_cases q : DpGood rows k
    · have Q1 := Lib.hid q
      obtain rfl := ha.is q
      clear q ha
      go_wp2_with (first | (refine wpList_loadG rfl 58 _ rfl w.heap.size rfl _ _ HP3.out Try.underlying58 rfl (Try.size_pt _ _) ?_))
      refine (rank_any ao c rows k w3 Hk.out.1 Hk.out.2 Q1.out Hs.out (Hm.out.below HB3.out)).mono ?_
      rintro e w4 ⟨rfl, hb⟩
      have HB4 := Lib.hid (HB3.out.trans (hb.mono HB3.out.size))
      clear hb
      go_wp2
      go_ret2
      exact ⟨by rw [Int.toNat_natCast]; exact IRes.yes ⟨Hp.out, Q1.out⟩, HB4.out⟩
    · have Q1 := Lib.hid q
      obtain rfl := ha.isnt q
      clear q ha
      go_wp2
      go_ret2
      exact ⟨IRes.no (fun h => Q1.out (by have := h.2; rwa [Int.toNat_natCast] at this)), HB3.out⟩
  · have Hp := Lib.hid p
    obtain rfl := ha.isnt p
    clear ha p
    go_wp2
    go_ret2
    exact ⟨IRes.no (fun h => Hp.out h.1), HB2.out⟩
end Go.Proofs.Ytfempacfaeknpaa
