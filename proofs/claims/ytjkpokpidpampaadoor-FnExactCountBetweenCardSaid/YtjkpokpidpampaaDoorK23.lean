/- Parts of proofs: contracts and plain facts. Conditions: as each says. -/
import Derived.Test.YtjkpokpidpampaaDoorK22
namespace Go.Proofs.YtjkpokpidpampaaDoor
open Go.RowKit

/-- all sign matrices that go on columns, in order: the rows that follow, d of them -/
def allB (n : Nat) : Nat → List Int → List (List (List Int))
  | 0, _ => [[]]
  | d + 1, s => (nextL n s).flatMap fun y => (allB n d y).map (stepF n s y :: ·)
theorem allB_I : ∀ n, n < 5 → n = 0 ∨ allB n n [] = allI n := by decide +kernel
def small3B (ts : List (List (List Int))) : Bool := decide (ts.length ≤ 1000) && ts.all fun m => decide (m.length ≤ 6) && m.all fun r => decide (r.length ≤ 6)
theorem allI_smallB : ∀ n, n < 5 → small3B (allI n) = true := by decide +kernel
theorem tot_le66 {m : List (List Int)} (h : ∀ i, i < m.length → (gr m i).length ≤ 6) : ∀ k, k ≤ m.length → tot m k ≤ k * 6
  | 0, _ => by simp [tot]
  | k + 1, hk => by
    have a := tot_le66 h k (by omega)
    have b := h k (by omega)
    simp only [tot]
    omega
theorem small3B_ok {ts : List (List (List Int))} (h : small3B ts = true) : ts.length ≤ 1000 ∧ ∀ i, i < ts.length → (gt ts i).length ≤ 6 ∧ ∀ j, j < (gt ts i).length → (gr (gt ts i) j).length ≤ 6 := by
  simp only [small3B, Bool.and_eq_true, decide_eq_true_eq] at h
  refine ⟨h.1, fun i hi => ?_⟩
  have h2 := List.all_eq_true.1 h.2 (gt ts i) (gt_mem hi)
  simp only [Bool.and_eq_true, decide_eq_true_eq] at h2
  refine ⟨h2.1, fun j hj => ?_⟩
  have h3 := List.all_eq_true.1 h2.2 (gr (gt ts i) j) (gr_mem hj)
  simpa using h3
theorem allI_small3 {n : Nat} (h : n ≤ 4) : Small3 (allI n) := by
  obtain ⟨h1, h2⟩ := small3B_ok (allI_smallB n (by omega))
  refine ⟨by omega, fun i hi => ?_⟩
  obtain ⟨a, b⟩ := h2 i hi
  refine ⟨⟨by omega, fun j hj => by have := b j hj; omega⟩, ?_⟩
  have := tot_le66 b _ (Nat.le_refl _)
  omega
/-- a bound for the lists -/
def lenBC (n : Nat) : Bool := (subs (iota n)).all fun s => decide ((allB n (n - s.length) s).length ≤ 42)
theorem lenB_ok : ∀ n, n < 5 → lenBC n = true := by decide +kernel
theorem allB_len {n : Nat} (hn : n ≤ 4) {d : Nat} {s : List Int} (hs : s.Sublist (iota n)) (hl : s.length + d = n) : (allB n d s).length ≤ 42 := by
  have h := List.all_eq_true.1 (lenB_ok n (by omega)) s (mem_subs hs)
  rw [show n - s.length = d from by omega] at h
  simpa using h
/-- the tables of the first k rows that follow, behind rows -/
def outB (n d : Nat) (pre : List (List Int)) (s : List Int) (k : Nat) : List (List (List Int)) := ((nextL n s).take k).flatMap fun y => (allB n d y).map (pre ++ stepF n s y :: ·)
theorem outB_zero (n d : Nat) (pre : List (List Int)) (s : List Int) : outB n d pre s 0 = [] := by simp [outB]
theorem outB_succ {n d : Nat} {pre : List (List Int)} {s : List Int} {k : Nat} (h : k < (nextL n s).length) : outB n d pre s (k + 1) = outB n d pre s k ++ (allB n d (gr (nextL n s) k)).map ((pre ++ [stepF n s (gr (nextL n s) k)]) ++ ·) := by
  unfold outB
  rw [List.take_succ_eq_append_getElem h, List.flatMap_append, gr_lt h]
  simp
theorem outB_all (n d : Nat) (pre : List (List Int)) (s : List Int) : outB n d pre s (nextL n s).length = (allB n (d + 1) s).map (pre ++ ·) := by
  unfold outB
  rw [List.take_length, allB, List.map_flatMap]
  congr 1
  funext y
  rw [List.map_map]
  rfl
theorem outB_le {n d : Nat} (hn : n ≤ 4) {pre : List (List Int)} {s : List Int} (hs : s.Sublist (iota n)) (hl : s.length + (d + 1) = n) (k : Nat) : (outB n d pre s k).length ≤ 42 := by
  have h1 := allB_len hn hs hl
  have h2 : (outB n d pre s (nextL n s).length).length = (allB n (d + 1) s).length := by rw [outB_all, List.length_map]
  have h3 : (outB n d pre s k).length ≤ (outB n d pre s (nextL n s).length).length := by
    unfold outB
    rw [List.take_length]
    conv => rhs; rw [← List.take_append_drop k (nextL n s)]
    rw [List.flatMap_append, List.length_append]
    omega
  omega
/-- appending tables, read out of a slice, to a slice of tables that the call owns -/
theorem wpList_append_tabs {w : World} {ops : Array Oper} {rest : List Oper} {o : Oper} {a : Act} {Q : Exit → Act → World → Prop} (hgd : o.guard = none) (s x : Operand)
    (ho : o.op = .call { callee := .builtin .append, args := #[s, x], argTypes := #[36, 36] })
    (base : Nat) (v : Value) (n : Nat) (xs : List Value) (hs : a.eval s = v) (hown : w.ownsRow base 22 1 v n xs)
    (ao : Option Addr) (m c : Nat) (ys : List Value) (hx : a.eval x = .slice ao m c) (hc : ao = none → m = 0 ∧ c = 0) (hm : ys.length = m) (hys : ValsAt w ao ys) (h1 : ∀ u ∈ ys, u.oneCell' = true)
    (h63 : n + m ≤ 1048576) (hbase : base ≤ w.heap.size)
    (h : ∀ v' w', w'.ownsRow base 22 1 v' (n + m) (xs ++ ys) → Below base w w' → w.grownBy w' v.ownBlock → wpList Tryd.prog ops Q rest (a.put o.dst v') w') : wpList Tryd.prog ops Q (o :: rest) a w := by
  obtain ⟨i0, hi, hz0, hz1, hz2⟩ := info_parts Tryd.info_intssW
  cases ao with
  | none =>
    obtain ⟨rfl, rfl⟩ := hc rfl
    obtain rfl : ys = [] := List.eq_nil_of_length_eq_zero hm
    exact wpList_append_own_none hgd s x 36 ho base 22 i0 1 Tryd.underlying36 hi v n _ hs hown hx (h v w (by rw [List.append_nil, Nat.add_zero]; exact hown) (Below.refl _ _) (World.grownBy.refl _ _))
  | some ad =>
    refine wpList_append_own _ hgd s x 36 ho base 22 i0 (.slice none 0 0) 1 24 Tryd.underlying36 hi hz0 hz1 hz2 rfl (by decide) v n _ hs hown ad m c ys hx (by omega) ?_ h1 (by unfold maxLen; omega) (by omega) hbase ?_
    · intro j u hj
      have hjl : j < ys.length := (List.getElem?_eq_some_iff.1 hj).1
      obtain ⟨b, o', e, hcell⟩ := hys j hjl
      cases e
      have e : ys.getD j undef = u := by simp only [List.getD, hj, Option.getD_some]
      rw [e] at hcell
      rw [Addr.add_lit]
      exact hcell
    · intro v' w' h1 h2 _
      exact h v' w' h1 (Below.grown (Below.refl _ _) h2 hbase (fun k hk => (World.ownsRow.lt hown k hk).1)) h2
theorem valsOneT (w : World) (u : Value) : ValsAt (w.alloc (.cells #[u] 22)) (some ⟨w.heap.size, 0, none⟩) [u] := fun j hj => by
  obtain rfl : j = 0 := by simp at hj; omega
  refine ⟨w.heap.size, 0, rfl, ?_⟩
  simp
theorem OwnR.vals {w : World} {B n c : Nat} {ao : Option Addr} {m : List (List Int)} {vs : List Value} (h : OwnR w B (.slice ao n c) m vs) : ValsAt w ao vs ∧ (∀ u ∈ vs, u.oneCell' = true) ∧ (ao = none → n = 0 ∧ c = 0) := by
  have hl := h.len
  obtain ⟨ao', c', e, _, _, hc⟩ := ownsRow_read h.top
  cases e
  refine ⟨fun j hj => hc j (by omega), ?_, ?_⟩
  · intro u hu
    obtain ⟨i, hi, rfl⟩ := List.mem_iff_getElem.1 hu
    have := (h.rows i (by omega)).read
    rw [List.getD, List.getElem?_eq_getElem hi] at this
    obtain ⟨_, _, e, _⟩ := this
    rw [show vs[i] = (some vs[i]).getD undef from rfl, e]
    rfl
  · rintro rfl
    rcases h.top.2 with ⟨h1, h2⟩ | ⟨g, cap, cur, h1, _⟩
    · simp at h1; exact ⟨by omega, h1.2⟩
    · simp at h1
theorem OwnRL.vals {w : World} {B n c : Nat} {ao : Option Addr} {ts : List (List (List Int))} {vs : List Value} (h : OwnRL w B (.slice ao n c) ts vs) : ValsAt w ao vs ∧ (∀ u ∈ vs, u.oneCell' = true) ∧ (ao = none → n = 0 ∧ c = 0) := by
  have hl := h.len
  obtain ⟨ao', c', e, _, _, hc⟩ := ownsRow_read h.top
  cases e
  refine ⟨fun j hj => hc j (by omega), ?_, ?_⟩
  · intro u hu
    obtain ⟨i, hi, rfl⟩ := List.mem_iff_getElem.1 hu
    obtain ⟨_, hx⟩ := h.each i (by omega)
    have := hx.read
    rw [List.getD, List.getElem?_eq_getElem hi] at this
    obtain ⟨_, _, e, _⟩ := this
    rw [show vs[i] = (some vs[i]).getD undef from rfl, e]
    rfl
  · rintro rfl
    rcases h.top.2 with ⟨h1, h2⟩ | ⟨g, cap, cur, h1, _⟩
    · simp at h1; exact ⟨by omega, h1.2⟩
    · simp at h1
theorem OwnRL.toList {w : World} {B : Nat} {v : Value} {ts : List (List (List Int))} {vs : List Value} (h : OwnRL w B v ts vs) : ReadsL w v ts := by
  obtain ⟨ao, c, rfl, _, _⟩ := h.head
  refine ⟨ao, c, rfl, fun i hi => ?_⟩
  obtain ⟨b, o, r, d, e, hc, hm, h1, h2⟩ := h.at hi
  exact ⟨b, o, r, d, e, hc, hm, h1, h2⟩

set_option maxRecDepth 100000 in
set_option maxHeartbeats 6400000 in
theorem trAll_any (n : Nat) (h1 : 1 ≤ n) (hn : n ≤ 4) : ∀ (d : Nat) (s : List Int) (pre : List (List Int)) (a1 a2 : Option Addr) (c1 c2 B : Nat) (us : List Value) (w : World), s.Sublist (iota n) → s.length + d = n → pre.length = s.length → B ≤ w.heap.size → IntsAt w a1 s → OwnR w B (.slice a2 pre.length c2) pre us →
    Calls Tryd.prog 20 #[.slice a1 s.length c1, .slice a2 pre.length c2, .int .i64 (n : Int)] w fun e w' => ∃ v vs, e = .returned v ∧ OwnRL w' B v ((allB n d s).map (pre ++ ·)) vs ∧ (∀ g, v.ownBlock = some g → w.heap.size ≤ g) ∧ Below w.heap.size w w' := by
  intro d
  induction d with
  | zero =>
    intro s pre a1 a2 c1 c2 B us w hs hd hp hB hx hpre
    have hl : ((s.length : Int) == (n : Int)) = true := by simp; omega
    have hx1 : s.length ≤ 9223372036854775807 := by omega
    obtain ⟨hv1, hv2, hv3⟩ := hpre.vals
    have Hv1 := Lib.hid hv1
    have Hv2 := Lib.hid hv2
    have Hv3 := Lib.hid hv3
    have Hul := Lib.hid hpre.len
    have Hpre := Lib.hid hpre
    have hpl : pre.length ≤ 4 := by omega
    obtain ⟨P, hP⟩ : ∃ P, P = pre.length := ⟨_, rfl⟩
    have HP := Lib.hid hP
    rw [← hP] at Hv3 Hul Hpre hpl ⊢
    obtain ⟨S, hS⟩ : ∃ S, S = s.length := ⟨_, rfl⟩
    rw [← hS] at hl hx1 ⊢
    clear hs hd hp hx hpre hv1 hv2 hv3 hP hS
    go_enter Tryd.func20, Tryd.ntmps20
    go_wp2_with (at_builtin; refine wpList_append_vals rfl _ _ rfl w.heap.size _ 0 [] rfl (own_empty w) a2 P c2 us rfl Hv3.out Hul.out (Hv1.out.below ((Below.refl _ _).alloc (Nat.le_refl _) _)) Hv2.out (by omega) (by simp) ?_)
    intro v1 wa hv1 hba _
    have Hba := Lib.hid (((Below.refl w.heap.size w).alloc (Nat.le_refl _) _).trans hba)
    have HR := Lib.hid (show OwnR wa B v1 pre us from ⟨by rw [← HP.out]; exact ownsRow_base (by simpa using hv1) hB, fun i hi => (Hpre.out.rows i hi).below Hba.out⟩)
    have Hlt := Lib.hid (fun g hg => (World.ownsRow.lt hv1 g hg).1)
    obtain ⟨va, vc, rfl, _, _, _⟩ := HR.out.read
    clear hv1 hba
    go_wp2
    go_ret
    refine ⟨_, [_], rfl, ⟨ownsRow_built wa [_] (Nat.le_trans hB Hba.out.size) (by simp), fun i hi => ?_⟩, fun g hg => ?_, Hba.out.alloc Hba.out.size _⟩
    · obtain rfl : i = 0 := by simpa [allB] using hi
      refine ⟨us, ?_⟩
      have e : gt ((allB n 0 s).map (pre ++ ·)) 0 = pre := by simp [allB, gt]
      rw [e]
      exact HR.out.below ((Below.refl _ _).alloc (Nat.le_refl _) _)
    · simp [Value.ownBlock] at hg
      have := Hba.out.size
      omega
  | succ d ih =>
    intro s pre a1 a2 c1 c2 B us w hs hd hp hB hx hpre
    have hl : ((s.length : Int) == (n : Int)) = false := by simp; omega
    have hx1 : s.length ≤ 9223372036854775807 := by omega
    have hcol := sub_colsN hs
    have hnx := trNextR_any n (by omega) s hcol (by omega) a1 c1 w hx
    have hal := next_len (n := n) (by omega) hcol (by omega)
    have Hmem := Lib.hid (fun y hy => next_mem h1 (by omega) hs (y := y) hy)
    have Hle := Lib.hid (fun k => outB_le hn (pre := pre) hs hd k)
    have Hall := Lib.hid (outB_all n d pre s)
    have Hsucc := Lib.hid (fun k (hk : k < (nextL n s).length) => outB_succ (n := n) (d := d) (pre := pre) (s := s) hk)
    obtain ⟨hv1, hv2, hv3⟩ := hpre.vals
    have Hv1 := Lib.hid hv1
    have Hv2 := Lib.hid hv2
    have Hul := Lib.hid hpre.len
    have Hpre := Lib.hid hpre
    have Hv3 := Lib.hid hv3
    have Hih := Lib.hid ih
    have Hs := Lib.hid hs
    have Hcol := Lib.hid hcol
    have Hx := Lib.hid hx
    have HBw := Lib.hid hB
    have hpl : pre.length ≤ 4 := by omega
    obtain ⟨P, hP⟩ : ∃ P, P = pre.length := ⟨_, rfl⟩
    have HP := Lib.hid hP
    have Hd := Lib.hid hd
    have Hpp := Lib.hid hp
    rw [← hP] at Hv3 Hul Hpre hpl ⊢
    obtain ⟨S, hS⟩ : ∃ S, S = s.length := ⟨_, rfl⟩
    have HS := Lib.hid hS
    rw [← hS] at hl hx1 hnx ⊢
    have Hnx := Lib.hid hnx
    clear ih hs hcol hx hB hpre hv1 hv2 hv3 hP hd hp hS hnx
    go_enter Tryd.func20, Tryd.ntmps20
    go_wp2_with fail
    refine Hnx.out.mono ?_
    rintro e w1 ⟨na, nc, rfl, hrn, hb1⟩
    obtain ⟨A, hA⟩ : ∃ A, A = nextL n s := ⟨_, rfl⟩
    rw [← hA] at hrn hal Hall
    rw [← hA]
    have Hrn := Lib.hid hrn
    have Hb1 := Lib.hid hb1
    have HB1 := Lib.hid hb1.size
    have HA := Lib.hid hA
    have hamx : A.length ≤ 9223372036854775807 := by omega
    clear hrn hb1 hA Hnx
    go_wp2
    go_loopw [7, 22] (fun out i wr => ∃ (k : Nat) (vs : List Value), k ≤ A.length ∧ i = .int .i64 k ∧ OwnRL wr B out (outB n d pre s k) vs ∧ (∀ g, out.ownBlock = some g → w1.heap.size ≤ g) ∧ Below w1.heap.size w1 wr) (fun _ i _ => A.length - (intOf i).toNat)
    case atStart => exact ⟨0, [], Nat.zero_le _, rfl, by rw [outB_zero]; exact OwnRL.nil _ _, fun g hg => by simp [Value.ownBlock] at hg, Below.refl _ _⟩
    case round =>
      obtain ⟨k, vs, hk, rfl, hown, htop, hbr⟩ := hrel
      obtain ⟨wo, rfl⟩ : ∃ wo : World, wo = wr := ⟨_, rfl⟩
      obtain ⟨oa, oc, rfl, _, _⟩ := hown.head
      have Hown := Lib.hid hown
      have Htop := Lib.hid htop
      have Hbr := Lib.hid hbr
      have HBr := Lib.hid hbr.size
      clear hown htop hbr
      by_cases hlt : k < A.length
      · obtain ⟨b2, o2, r2, d2, rfl, _, hc2, hx2, _⟩ := Hrn.out.below Hbr.out k hlt
        have hy := Hmem.out (gr A k) (by rw [← HA.out]; exact gr_mem hlt)
        have hsu := Hsucc.out k (by rw [← HA.out]; exact hlt)
        rw [← HA.out] at hsu
        have hOl := Hle.out (k + 1)
        obtain ⟨y, hye⟩ : ∃ y, y = gr A k := ⟨_, rfl⟩
        rw [← hye] at hc2 hx2 hy hsu
        have Hy := Lib.hid hy.1
        have hyl : y.length = S + 1 := by rw [hy.2, HS.out]
        have Hyl := Lib.hid hyl
        rw [hsu, List.length_append, List.length_map] at hOl
        have Hsu := Lib.hid hsu
        have HOl := Lib.hid hOl
        have Hx2 := Lib.hid hx2
        obtain ⟨O, hO⟩ : ∃ O, O = (outB n d pre s k).length := ⟨_, rfl⟩
        have HO := Lib.hid hO
        rw [hyl] at hc2
        have hbw := Lib.hid (Hb1.out.trans (Hbr.out.mono HB1.out))
        have Hvo := Lib.hid (Hv1.out.below hbw.out)
        rw [← hO] at ⊢
        clear hy hsu hOl hx2 hye hO hyl
        go_wp2_with (at_builtin; refine wpList_append_vals rfl _ _ rfl wo.heap.size _ 0 [] rfl (own_empty wo) a2 P c2 us rfl Hv3.out Hul.out (Hvo.out.below ((Below.refl _ _).alloc (Nat.le_refl _) _)) Hv2.out (by omega) (by simp) ?_)
        intro v1 wa hva hba _
        have Hba := Lib.hid (((Below.refl wo.heap.size wo).alloc (Nat.le_refl _) _).trans hba)
        have HV1 := Lib.hid hva
        obtain ⟨va, vc, rfl, _, _, _⟩ := ownsRow_read hva
        clear hva hba
        have hst := trStep_any a1 r2 c1 d2 n s y wa (by omega) (by have := Hd.out; omega) (by have := Hyl.out; have := HS.out; have := Hd.out; omega) Hcol.out.2 (sub_cols Hy.out) ((Hx.out.below hbw.out).below Hba.out) (Hx2.out.below Hba.out)
        rw [Hyl.out, ← HS.out] at hst
        have Hst := Lib.hid hst
        clear hst
        go_wp2_with fail
        refine Hst.out.mono ?_
        rintro e wb ⟨u, rfl, hu, hbb⟩
        obtain ⟨ua, uc, rfl, _, _, _⟩ := hu.read
        have Hu := Lib.hid hu
        have Hbb := Lib.hid (Hba.out.trans (hbb.mono Hba.out.size))
        have HVb := Lib.hid (ownsRow_below HV1.out hbb)
        clear hu hbb Hst
        go_wp2_with (at_builtin; refine wpList_append_vals rfl _ _ rfl wo.heap.size _ _ _ rfl (World.ownsRow.alloc HVb.out _) (some ⟨wb.heap.size, 0, none⟩) 1 1 [.slice ua (stepF n s y).length uc] rfl (by intro e; cases e) rfl (ValsAt.one wb _) (by intro u hu; simp at hu; subst hu; rfl) (by omega) (by simp; have := Hbb.out.size; omega) ?_)
        intro v2 wc hv2 hbc hgc
        have Hbc := Lib.hid ((Hbb.out.alloc Hbb.out.size _).trans hbc)
        have HR := Lib.hid (show OwnR wc B v2 (pre ++ [stepF n s y]) (us ++ [.slice ua (stepF n s y).length uc]) from by
          refine ⟨?_, fun i hi => ?_⟩
          · have h := ownsRow_base hv2 (Nat.le_trans (Nat.le_trans HBw.out HB1.out) HBr.out)
            rw [List.length_append, ← HP.out]
            simpa using h
          · have hul := Hul.out
            rw [List.length_append, List.length_singleton] at hi
            by_cases hi2 : i < pre.length
            · rw [getD_left (by rw [hul, HP.out]; exact hi2), gr_app_left hi2]
              exact ((Hpre.out.rows i hi2).below hbw.out).below Hbc.out
            · obtain rfl : i = pre.length := by omega
              have e1 : (us ++ [Value.slice ua (stepF n s y).length uc]).getD pre.length undef = Value.slice ua (stepF n s y).length uc := by
                rw [getD_right (by rw [hul, HP.out]; exact Nat.le_refl _), hul, HP.out, Nat.sub_self]
                rfl
              have e2 : gr (pre ++ [stepF n s y]) pre.length = stepF n s y := by
                have := gr_app_right (a := pre) (b := [stepF n s y]) (i := 0) (by simp)
                rw [Nat.add_zero] at this
                exact this
              rw [e1, e2]
              exact (show OwnI wc wa.heap.size (.slice ua (stepF n s y).length uc) (stepF n s y) from row_kept (World.ownsRow.alloc Hu.out _) (World.ownsRow.alloc HVb.out _) (by decide) hgc).base (Nat.le_trans (Nat.le_trans (Nat.le_trans HBw.out HB1.out) HBr.out) Hba.out.size))
        obtain ⟨wv, wvc, hwv, _, _, _⟩ := HR.out.read
        subst hwv
        have hrec := Hih.out y (pre ++ [stepF n s y]) r2 wv d2 wvc B _ wc Hy.out (by have := Hyl.out; have := Hd.out; have := HS.out; omega) (by rw [List.length_append, List.length_singleton, Hyl.out, ← HP.out, HS.out, HP.out, Hpp.out]) (Nat.le_trans (Nat.le_trans (Nat.le_trans HBw.out HB1.out) HBr.out) Hbc.out.size) ((Hx2.out.below Hbc.out)) HR.out
        rw [Hyl.out] at hrec
        have Hrec := Lib.hid hrec
        have hpl2 : (pre ++ [stepF n s y]).length = P + 1 := by rw [List.length_append, ← HP.out]; rfl
        rw [hpl2] at Hrec ⊢
        clear hv2 hbc hgc hrec
        go_wp2_with fail
        refine Hrec.out.mono ?_
        rintro e wd ⟨sub, ws, rfl, hsub, hsb, hbd⟩
        obtain ⟨M, hM⟩ : ∃ M, M = (allB n d y).map ((pre ++ [stepF n s y]) ++ ·) := ⟨_, rfl⟩
        have hMl : M.length = (allB n d y).length := by rw [hM, List.length_map]
        rw [← hM] at hsub
        obtain ⟨sa, sc, rfl, _, _⟩ := hsub.head
        obtain ⟨hq1, hq2, hq3⟩ := hsub.vals
        have hbod := Hbc.out.trans (hbd.mono Hbc.out.size)
        have HOut := Lib.hid (Hown.out.below hbod)
        have Hsub := Lib.hid hsub
        have Hq1 := Lib.hid hq1
        have Hq2 := Lib.hid hq2
        have Hq3 := Lib.hid hq3
        have HsuM := Lib.hid (show outB n d pre s (k + 1) = outB n d pre s k ++ M by rw [hM]; exact Hsu.out)
        have Hb01 := Lib.hid (Hbr.out.trans (hbod.mono HBr.out))
        have hOM : O + M.length ≤ 42 := by have := HOl.out; rw [← HO.out] at this; omega
        have Hraise := Lib.hid (ownsRow_raise HOut.out.top Htop.out)
        rw [← HO.out] at Hraise
        obtain ⟨Ml, hMle⟩ : ∃ Ml, Ml = M.length := ⟨_, rfl⟩
        have HMl := Lib.hid hMle
        rw [← hMle] at hOM Hq3 ⊢
        have Hws := Lib.hid (show ws.length = Ml by rw [hMle]; exact hsub.len)
        clear hsub hsb hbd hq1 hq2 hq3 hbod hM hMl hMle Hrec
        go_wp2_with (at_builtin; refine wpList_append_tabs rfl _ _ rfl w1.heap.size (.slice oa O oc) O _ rfl Hraise.out sa Ml sc ws rfl Hq3.out Hws.out Hq1.out Hq2.out (by omega) Hb01.out.size ?_)
        intro v5 w5 hv5 hb5 hg5
        have HJ := Lib.hid (show OwnRL w5 B v5 (outB n d pre s (k + 1)) (vs ++ ws) from by
          rw [HsuM.out]
          refine HOut.out.join (by rw [Hws.out, HMl.out]) Hsub.out.each ?_ ?_
          · have h := ownsRow_base hv5 (Nat.le_trans HBw.out HB1.out)
            rw [← HO.out, ← HMl.out]
            exact h
          · rw [← HO.out]; exact hg5)
        have Htp := Lib.hid (fun g hg => (World.ownsRow.lt hv5 g hg).1)
        have Hb5 := Lib.hid (Hb01.out.trans hb5)
        obtain ⟨fa, fc, hf, _, _⟩ := ownsRow_read hv5
        subst hf
        clear hv5 hb5 hg5
        go_wp2
        go_roundw
        case rel => exact ⟨k + 1, _, by omega, by go_num, HJ.out, Htp.out, Hb5.out⟩
        case measure => simp [intOf]; omega
      · obtain rfl : k = A.length := by omega
        have HF := Lib.hid (show OwnRL wo B (.slice oa (outB n d pre s A.length).length oc) ((allB n (d + 1) s).map (pre ++ ·)) vs by rw [← Hall.out]; exact Hown.out)
        have HE := Lib.hid (Hb1.out.trans (Hbr.out.mono HB1.out))
        go_wp2
        go_ret
        exact ⟨_, vs, rfl, HF.out, fun g hg => Nat.le_trans HB1.out (Htop.out g hg), HE.out⟩
end Go.Proofs.YtjkpokpidpampaaDoor

namespace Go.Proofs.YtjkpokpidpampaaDoor
open Go.RowKit

theorem gt_takeS {ts : List (List (List Int))} {k : Nat} (h : k < ts.length) : ts.take (k + 1) = ts.take k ++ [gt ts k] := by rw [List.take_succ_eq_append_getElem h, gt_lt h]
theorem gr_takeS {m : List (List Int)} {k : Nat} (h : k < m.length) : m.take (k + 1) = m.take k ++ [gr m k] := by rw [List.take_succ_eq_append_getElem h, gr_lt h]
def alOk (n : Int) : Prop := 1 ≤ n ∧ n ≤ 4
set_option maxRecDepth 100000 in
set_option maxHeartbeats 800000 in
theorem implAllSigns_any (n : Int) (w : World) (hb : -9223372036854775808 ≤ n ∧ n ≤ 9223372036854775807) (hD : Dj w) :
    Calls Tryd.prog 23 #[.int .i64 n] w fun e w' => TRes (alOk n) (allI n.toNat) w' w.heap.size e ∧ Below w.heap.size w w' := by
  by_cases hP : alOk n
  · obtain ⟨N, rfl⟩ : ∃ N : Nat, n = (N : Int) := ⟨n.toNat, by have := hP.1; omega⟩
    have h1 : 1 ≤ N := by have := hP.1; omega
    have h4 : N ≤ 4 := by have := hP.2; omega
    have CA := Lib.hid (allSignsL_any N w h1 (by omega) hD)
    have HP := Lib.hid hP
    have hc1 : ¬ ((N : Int) < 1) := by omega
    have hc2 : ¬ ((4 : Int) < (N : Int)) := by omega
    rw [Int.toNat_natCast]
    clear hP hb hD
    go_enter Tryd.func23, Tryd.ntmps23
    go_wp2_with fail
    refine CA.out.mono ?_
    rintro e w3 ⟨v, rfl, hv, hb3⟩
    have Hv := Lib.hid hv
    have Hb3 := Lib.hid hb3
    clear hv hb3
    go_wp2
    go_ret2
    exact ⟨TRes.yes HP.out Hv.out, Hb3.out⟩
  · have HP := Lib.hid hP
    by_cases hc1 : n < 1
    · have hd : decide (n < 1) = true := by simpa using hc1
      clear hP hb hD hc1
      go_enter Tryd.func23, Tryd.ntmps23
      go_wp2
      go_ret2
      exact ⟨TRes.no HP.out, Below.refl _ _⟩
    · have hd : decide (n < 1) = false := by simpa using hc1
      have hd2 : decide (4 < n) = true := by
        simp
        rcases Int.lt_or_le 4 n with h | h
        · exact h
        · exact absurd ⟨by omega, h⟩ hP
      clear hP hb hD hc1
      go_enter Tryd.func23, Tryd.ntmps23
      go_wp2
      go_ret2
      exact ⟨TRes.no HP.out, Below.refl _ _⟩
end Go.Proofs.YtjkpokpidpampaaDoor

namespace Go.Proofs.YtjkpokpidpampaaDoor
open Go.RowKit

/-- two sign matrices of one size, of at most four rows -/
def cbOk (m k : List (List Int)) : Prop := pairOk m k ∧ m.length ≤ 4
set_option maxRecDepth 100000 in
set_option maxHeartbeats 1600000 in
theorem specCountBetween_any (ao : Option Addr) (c : Nat) (m : List (List Int)) (bo : Option Addr) (d : Nat) (k : List (List Int)) (w : World) (hs : Small m) (hm : MatAt w ao m) (hs2 : Small k) (hk : MatAt w bo k) :
    Calls Tryd.prog 7 #[.slice ao m.length c, .slice bo k.length d] w fun e w' => IRes (cbOk m k) (cntB m k (allI m.length) : Nat) e ∧ Below w.heap.size w w' := by
  have h1 := hs.1
  have hmx : m.length ≤ 9223372036854775807 := by omega
  have Hs := Lib.hid hs
  have Hm := Lib.hid hm
  have Hs2 := Lib.hid hs2
  have Hk := Lib.hid hk
  clear hs hm hs2 hk h1
  go_enter Tryd.func7, Tryd.ntmps7
  go_wp2_with fail
  refine (hePair_any ao bo c d m k w Hs.out Hs2.out Hm.out Hk.out).mono ?_
  rintro e w1 ⟨ha, hb⟩
  have Hb := Lib.hid hb
  have HB := Lib.hid hb.size
  clear hb
  by_cases hp : pairOk m k
  · have Hp := Lib.hid hp
    have hn := hp.1.1.2.1
    have hn1 := hp.1.1.1
    clear hp
    obtain rfl := ha.is Hp.out
    clear ha
    by_cases h4 : m.length ≤ 4
    · have hd : decide ((4 : Int) < (m.length : Int)) = false := by simp; omega
      go_wp2_with fail
      refine (heOf_any ao c m w1 Hp.out.1 (Hm.out.below Hb.out)).mono ?_
      rintro e w2 ⟨v, rfl, hv, hb2⟩
      obtain ⟨a1, c1, rfl, _, _, hm1⟩ := hv.read
      rw [ht_len]
      have HM1 := Lib.hid hm1
      have Hb2 := Lib.hid (Hb.out.trans (hb2.mono HB.out))
      have HB2 := Lib.hid Hb2.out.size
      clear hv hb2 hm1
      go_wp2_with fail
      refine (heOf_any bo d k w2 Hp.out.2.1 (Hk.out.below Hb2.out)).mono ?_
      rintro e w3 ⟨v, rfl, hv, hb3⟩
      obtain ⟨a2, c2, rfl, _, _, hm2⟩ := hv.read
      rw [ht_len2 Hp.out.2.2]
      have HM2 := Lib.hid hm2
      have HM1 := Lib.hid (HM1.out.below hb3)
      have Hb3 := Lib.hid (Hb2.out.trans (hb3.mono HB2.out))
      have HB3 := Lib.hid Hb3.out.size
      clear hv hb3 hm2
      obtain ⟨N, hN⟩ : ∃ N, N = m.length := ⟨_, rfl⟩
      have CA := trAll_any N (by omega) (by omega) N [] [] none none 0 0 w3.heap.size [] w3 (List.nil_sublist _) (by simp) rfl (Nat.le_refl _) (IntsAt.nil _ _) (OwnR.nil _ _)
      have e1 : (allB N N []).map (([] : List (List Int)) ++ ·) = allI N := by
        rw [← (allB_I N (by omega)).resolve_left (by omega)]
        simp
      rw [e1, show ([] : List Int).length = 0 from rfl, show ([] : List (List Int)).length = 0 from rfl] at CA
      have CA := Lib.hid CA
      have Hgood := Lib.hid (fun i (hi : i < (allI N).length) => allI_good (n := N) (by omega) (by omega) hi)
      have hTl := (small3B_ok (allI_smallB N (by omega))).1
      have HN := Lib.hid hN
      obtain ⟨T, hT⟩ : ∃ T, T = allI N := ⟨_, rfl⟩
      have HTe := Lib.hid hT
      rw [← hT] at CA Hgood hTl
      rw [← hN] at hd hn hn1 h4 hmx ⊢
      have hTmx : T.length ≤ 9223372036854775807 := by omega
      clear e1 hT hN
      go_wp2_with fail
      refine CA.out.mono ?_
      rintro e w4 ⟨v, vs, rfl, hv, _, hb4⟩
      obtain ⟨va, vc, rfl, _, _⟩ := hv.head
      have Hv := Lib.hid hv
      have HM1 := Lib.hid (HM1.out.below hb4)
      have HM2 := Lib.hid (HM2.out.below hb4)
      have Hb4 := Lib.hid (Hb3.out.trans (hb4.mono HB3.out))
      have HB4 := Lib.hid Hb4.out.size
      clear hv hb4 CA
      go_wp2
      go_loopw [8, 29] (fun q i wr => ∃ t : Nat, t ≤ T.length ∧ i = .int .i64 t ∧ q = .int .i64 (cntB m k (T.take t) : Nat) ∧ Below w4.heap.size w4 wr) (fun _ i _ => T.length - (intOf i).toNat)
      case atStart => exact ⟨0, Nat.zero_le _, rfl, by rw [cntB_zero]; rfl, Below.refl _ _⟩
      case round =>
        obtain ⟨t, htl, rfl, rfl, hbr⟩ := hrel
        have Hbr := Lib.hid hbr
        have HBr := Lib.hid hbr.size
        clear hbr
        by_cases hlt : t < T.length
        · obtain ⟨b5, o5, r5, d5, rfl, hc5, hm5, _, _⟩ := (Hv.out.below Hbr.out).at hlt
          obtain ⟨hg5, hl5⟩ := Hgood.out t hlt
          have hcs := cntB_succ (m := m) (k := k) hlt
          have hcl := cntB_le m k T t
          obtain ⟨x, hx⟩ : ∃ x, x = gt T t := ⟨_, rfl⟩
          rw [← hx] at hc5 hm5 hg5 hl5 hcs
          have HO := Lib.hid (heOf_any r5 d5 x wr hg5 hm5)
          have Hg5 := Lib.hid hg5
          have Hl5 := Lib.hid hl5
          have Hcs := Lib.hid hcs
          rw [hl5] at HO hc5
          obtain ⟨q0, hq0⟩ : ∃ q0, q0 = cntB m k (T.take t) := ⟨_, rfl⟩
          have Hq0 := Lib.hid hq0
          rw [← hq0] at hcl ⊢
          clear hm5 hg5 hl5 hcs hx hq0
          go_wp2_with fail
          refine HO.out.mono ?_
          rintro e w6 ⟨v, rfl, hv6, hb6⟩
          obtain ⟨a6, c6, rfl, _, _, hm6⟩ := hv6.read
          rw [show (ht x).length = N + 1 by rw [ht_len, Hl5.out]]
          have Hm6 := Lib.hid hm6
          have Hb46 := Lib.hid (Hbr.out.trans (hb6.mono HBr.out))
          have C1 := Lib.hid (heBelow_any (N + 1) a1 a6 c1 c6 (ht m) (ht x) w6 (by omega) (by rw [HN.out]; exact ht_tab Hp.out.1) (by rw [← Hl5.out]; exact ht_tab Hg5.out) (HM1.out.below Hb46.out) hm6)
          have C2 := Lib.hid (heBelow_any (N + 1) a6 a2 c6 c2 (ht x) (ht k) w6 (by omega) (by rw [← Hl5.out]; exact ht_tab Hg5.out) (by rw [HN.out]; exact ht_tab2 Hp.out.2.1 Hp.out.2.2) hm6 (HM2.out.below Hb46.out))
          have P1 := Lib.hid (show (∀ i j, i < N + 1 → j < N + 1 → gi (gr (ht m) i) j ≤ gi (gr (ht x) i) j) ↔ belB m x = true by rw [belB_iff]; unfold belowP; rw [← HN.out])
          have P2 := Lib.hid (show (∀ i j, i < N + 1 → j < N + 1 → gi (gr (ht x) i) j ≤ gi (gr (ht k) i) j) ↔ belB x k = true by rw [belB_iff]; unfold belowP; rw [Hl5.out])
          clear hv6 hb6 hm6 HO
          go_wp2_with fail
          refine C1.out.mono ?_
          rintro e w7 ⟨⟨b1, rfl, hb1⟩, rfl⟩
          have E1 := Lib.hid (show b1 = belB m x by rw [Bool.eq_iff_iff]; exact hb1.trans P1.out)
          clear hb1
          cases b1 with
          | false =>
            have Hfin := Lib.hid (show cntB m k (T.take (t + 1)) = q0 by rw [Hcs.out, ← Hq0.out, ← E1.out]; rfl)
            go_wp2
            go_roundw
            case rel => exact ⟨t + 1, by omega, by go_num, by rw [Hfin.out], Hb46.out⟩
            case measure => simp [intOf]; omega
          | true =>
            go_wp2_with fail
            refine C2.out.mono ?_
            rintro e w8 ⟨⟨b2, rfl, hb2⟩, rfl⟩
            have E2 := Lib.hid (show b2 = belB x k by rw [Bool.eq_iff_iff]; exact hb2.trans P2.out)
            clear hb2
            cases b2 with
            | false =>
              have Hfin := Lib.hid (show cntB m k (T.take (t + 1)) = q0 by rw [Hcs.out, ← Hq0.out, ← E1.out, ← E2.out]; rfl)
              go_wp2
              go_roundw
              case rel => exact ⟨t + 1, by omega, by go_num, by rw [Hfin.out], Hb46.out⟩
              case measure => simp [intOf]; omega
            | true =>
              have Hfin := Lib.hid (show cntB m k (T.take (t + 1)) = q0 + 1 by rw [Hcs.out, ← Hq0.out, ← E1.out, ← E2.out]; rfl)
              go_wp2
              go_roundw
              case rel => exact ⟨t + 1, by omega, by go_num, by rw [Hfin.out]; rfl, Hb46.out⟩
              case measure => simp [intOf]; omega
        · obtain rfl : t = T.length := by omega
          have HF := Lib.hid (show cntB m k (T.take T.length) = cntB m k (allI m.length) by rw [List.take_length, HTe.out, HN.out])
          have HE := Lib.hid (Hb4.out.trans (Hbr.out.mono HB4.out))
          have HQ := Lib.hid (show cbOk m k from ⟨Hp.out, by rw [← HN.out]; exact h4⟩)
          go_wp2
          go_ret2
          exact ⟨by rw [HF.out, HN.out]; exact IRes.yes HQ.out, HE.out⟩
    · have hd : decide ((4 : Int) < (m.length : Int)) = true := by simp; omega
      have HQ := Lib.hid (show ¬ cbOk m k from fun h => h4 h.2)
      go_wp2
      go_ret2
      exact ⟨IRes.no HQ.out, Hb.out⟩
  · have Hp := Lib.hid (show ¬ cbOk m k from fun h => hp h.1)
    obtain rfl := ha.isnt hp
    clear ha hp
    go_wp2
    go_ret2
    exact ⟨IRes.no Hp.out, Hb.out⟩
end Go.Proofs.YtjkpokpidpampaaDoor

