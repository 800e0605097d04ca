/- Contracts of the program: a list of patterns is sorted; all that are reached. Conditions: as each says. -/
import Derived.Test.YtncpoljjfhmkeaaSyG
import Derived.Test.YtncpoljjfhmkeaaSpecC
namespace Go.Proofs.Ytncpoljjfhmkeaa
open Go.RowKit

theorem sgn_neg (a b : Nat) : decide (sgn a b < 0) = decide (a < b) := by
  unfold sgn
  by_cases h : a < b
  · simp [h]
  · rw [if_neg h]
    by_cases h2 : b < a <;> simp [h, h2]
theorem nodup_at {L : List (List Int)} (h : L.Nodup) {i j : Nat} (hi : i < L.length) (hj : j < L.length) (e : gr L i = gr L j) : i = j := by
  rw [gr_lt hi, gr_lt hj] at e
  exact (List.getElem_inj h).1 e
theorem rk_gr {L : List (List Int)} (h : L.Nodup) {i : Nat} (hi : i < L.length) : rk L (gr L i) = i := rk_is hi rfl fun j hj e => by
  have := nodup_at h (by omega) hi e
  omega
theorem sort_val {L P : List (List Int)} (hn : P.Nodup) (hp : L.Perm P) : (L.attach.mergeSort fun x y => !decide (rk P y.1 < rk P x.1)).map Subtype.val = P := by
  refine List.Perm.eq_of_pairwise (le := fun x y => rk P x ≤ rk P y) ?_ ?_ ?_ ?_
  · intro a b _ hb h1 h2
    have ha : a ∈ P := by
      rename_i hm
      obtain ⟨x, _, rfl⟩ := List.mem_map.1 hm
      exact hp.mem_iff.1 x.2
    rw [← rk_at ha, ← rk_at hb, show rk P a = rk P b by omega]
  · rw [List.pairwise_map]
    have := List.pairwise_mergeSort (le := fun (x y : {x // x ∈ L}) => !decide (rk P y.1 < rk P x.1)) (fun a b c h1 h2 => by simp at h1 h2 ⊢; omega) (fun a b => by simp; omega) L.attach
    exact this.imp fun h => by simpa using h
  · rw [List.pairwise_iff_getElem]
    intro i j hi hj hij
    rw [← gr_lt hi, ← gr_lt hj, rk_gr hn hi, rk_gr hn hj]
    omega
  · refine List.Perm.trans ((List.mergeSort_perm _ _).map _) ?_
    rw [List.attach_map_subtype_val]
    exact hp

set_option maxRecDepth 100000 in
set_option maxHeartbeats 1600000 in
theorem sortL_any (n : Nat) (h1 : 1 ≤ n) (h4 : n < 5) (L : List (List Int)) (vs : List Value) (g cap B : Nat) (w : World) (hperm : L.Perm (patP 6 n)) (h : OwnP w B (.slice (some ⟨g, 0, none⟩) L.length cap) L.length L L.length vs) (hBg : B ≤ g) :
    Calls Try.prog 105 #[.slice (some ⟨g, 0, none⟩) L.length cap, .func (.func 106) #[] #[]] w fun e w' => e = .returned (.tuple #[]) ∧ OwnM w' B (.slice (some ⟨g, 0, none⟩) L.length cap) (patP 6 n) ∧ Below B w w' := by
  have hlen : L.length = (patP 6 n).length := hperm.length_eq
  have hpos : 1 ≤ (patP 6 n).length := catN_pos n h4
  have h14 : (patP 6 n).length ≤ 14 := catN_le n h4
  have hnd : L.Nodup := hperm.nodup_iff.2 (patP_nodup h4)
  have hmem : ∀ x, x ∈ L → x ∈ patP 6 n := fun x hx => hperm.mem_iff.1 hx
  have hsv := sort_val (patP_nodup h4) hperm
  have hll : vs.length = L.length := by simpa using h.top.1
  have hgw : g < w.heap.size := (World.ownsRow.lt h.top g rfl).2
  letI : Inhabited {x : List Int // x ∈ L} := ⟨⟨gr L 0, gr_mem (by omega)⟩⟩
  obtain ⟨enc, henc⟩ : ∃ enc : {x : List Int // x ∈ L} → Value, enc = fun x => vs.getD (rk L x.1) undef := ⟨_, rfl⟩
  have hrow : ∀ x : {x : List Int // x ∈ L}, ∃ a c, enc x = .slice a x.1.length c ∧ OwnI w B (enc x) x.1 ∧ IntsAt w a x.1 ∧ (enc x).ownBlock ≠ some g := fun x => by
    have hr := h.rows (rk L x.1) (rk_lt x.2)
    have hx : vs.getD (rk L x.1) undef = enc x := by rw [henc]
    rw [hx, rk_at x.2] at hr
    obtain ⟨a, c, e, _, _, hi⟩ := hr.read
    exact ⟨a, c, e, hr, hi, fun e2 => hr.ne_row h.top g e2 rfl⟩
  have hone : OneCell enc := fun x => by
    obtain ⟨a, c, e, _⟩ := hrow x
    rw [e]
    rfl
  have hlt : ∀ x y : {x : List Int // x ∈ L}, ltOf (fun x y => sgn (rk (patP 6 n) x.1) (rk (patP 6 n) y.1)) x y = decide (rk (patP 6 n) x.1 < rk (patP 6 n) y.1) := fun x y => sgn_neg _ _
  have hO : Go.Sort.SWO (ltOf (fun (x y : {x : List Int // x ∈ L}) => sgn (rk (patP 6 n) x.1) (rk (patP 6 n) y.1))) := by
    refine ⟨fun x => ?_, fun x y z a b => ?_, fun x y z a b => ?_⟩
    · rw [hlt]; simp
    · rw [hlt] at *; simp at *; omega
    · rw [hlt] at *; simp at *; omega
  have hT : ∀ x y : {x : List Int // x ∈ L}, ltOf (fun x y => sgn (rk (patP 6 n) x.1) (rk (patP 6 n) y.1)) x y = false → ltOf (fun x y => sgn (rk (patP 6 n) x.1) (rk (patP 6 n) y.1)) y x = false → x = y := fun x y a b => by
    rw [hlt] at a b
    simp at a b
    apply Subtype.ext
    rw [← rk_at (hmem _ x.2), ← rk_at (hmem _ y.2), show rk (patP 6 n) x.1 = rk (patP 6 n) y.1 by omega]
  have hds : L.attach.toArray.size = L.length := by simp
  have hH : Go.Sort.Holds enc w g 0 L.attach.toArray := fun j hj => by
    rw [hds] at hj
    have e : L.attach.toArray[j]! = ⟨gr L j, gr_mem hj⟩ := by
      rw [getElem!_pos _ j (by rw [hds]; exact hj)]
      apply Subtype.ext
      simp [gr_lt hj]
    rw [Nat.zero_add, e]
    refine ⟨?_, World.ownsRow.frozenAt h.top j⟩
    rw [h.cellAt j hj, henc]
    simp only []
    rw [rk_gr hnd hj]
  have eg : ∀ args w, (callFunc 106 args).run Try.prog w = .ok (.enter 106 args) w := enters_of Try.func106 (by kernel_rfl) rfl
  have hcmp : CmpReads Try.prog 106 #[] enc (fun x y => sgn (rk (patP 6 n) x.1) (rk (patP 6 n) y.1)) g 0 L.attach.toArray.size w := fun m os dk _ x y => by
    obtain ⟨a1, c1, e1, o1, i1, n1⟩ := hrow x
    obtain ⟨a2, c2, e2, o2, i2, n2⟩ := hrow y
    rw [e1] at o1 n1
    rw [e2] at o2 n2
    have hx := own_at (sw_own enc w g m dk os o1 n1)
    have hy := own_at (sw_own enc w g m dk os o2 n2)
    have lx := patP_len h4 (hmem _ x.2)
    have ly := patP_len h4 (hmem _ y.2)
    have hc := pCompare_any a1 a2 c1 c2 x.1 y.1 (sortWorld enc w g 0 m dk os) (by omega) (by omega) hx hy
    rw [e1, e2]
    refine hc.mono ?_
    rintro e w' ⟨⟨z, rfl, hz⟩, rfl⟩
    rw [lx] at hz
    exact ⟨by rw [cmp_rank h4 (hmem _ x.2) (hmem _ y.2) hz], 0, (World.drewN_zero _).symm⟩
  have hcon := Any.slices_SortFunc_total Try.sortL enc hone _ hO 106 #[] g 0 cap L.attach.toArray w eg hcmp.lays hH hgw (by rw [hds]; omega) hT
  change Calls Try.prog 105 _ _ _ at hcon
  rw [hds] at hcon
  refine hcon.mono ?_
  rintro e w' ⟨rfl, k, os, rfl⟩
  refine ⟨rfl, ?_, sw_below enc w g k B _ os hBg hgw⟩
  have hfun : (fun (x y : {x : List Int // x ∈ L}) => !(ltOf (fun x y => sgn (rk (patP 6 n) x.1) (rk (patP 6 n) y.1))) y x) = fun x y => !decide (rk (patP 6 n) y.1 < rk (patP 6 n) x.1) := by
    funext x y
    rw [hlt]
  rw [hfun]
  obtain ⟨M, hM⟩ : ∃ M, M = L.attach.mergeSort fun x y => !decide (rk (patP 6 n) y.1 < rk (patP 6 n) x.1) := ⟨_, rfl⟩
  have hMl : M.length = L.length := by rw [hM, List.length_mergeSort]; simp
  rw [← hM] at hsv ⊢
  have hat : ∀ i, (hi : i < L.length) → (M.toArray.toList.map enc).getD i undef = enc (M[i]'(by omega)) ∧ (M[i]'(by omega)).1 = gr (patP 6 n) i := fun i hi => by
    refine ⟨by simp [List.getD, hMl, hi], ?_⟩
    have e : gr (M.map Subtype.val) i = gr (patP 6 n) i := by rw [hsv]
    rw [gr_lt (by rw [List.length_map]; omega)] at e
    rw [← e]
    simp
  refine ⟨M.toArray.toList.map enc, ?_, fun i hi => ?_, fun i j hij hj q hq => ?_⟩
  · rw [← hlen]
    exact sw_row enc w g k M.toArray os h.top (by simp [hMl])
  · obtain ⟨e1, e2⟩ := hat i (by omega)
    rw [e1, ← e2]
    obtain ⟨a, c, _, ho, _, hne⟩ := hrow (M[i]'(by omega))
    exact sw_own enc w g k _ os ho hne
  · obtain ⟨e1, e2⟩ := hat i (by omega)
    obtain ⟨e3, e4⟩ := hat j (by omega)
    rw [e1] at hq
    rw [e3]
    rw [henc] at hq ⊢
    simp only [] at hq ⊢
    rw [e2] at hq
    rw [e4]
    have hi2 : gr (patP 6 n) i ∈ L := hperm.mem_iff.2 (gr_mem (by omega))
    have hj2 : gr (patP 6 n) j ∈ L := hperm.mem_iff.2 (gr_mem (by omega))
    rcases Nat.lt_trichotomy (rk L (gr (patP 6 n) i)) (rk L (gr (patP 6 n) j)) with e | e | e
    · exact h.apart _ _ e (rk_lt hj2) q hq
    · exfalso
      have e5 : gr (patP 6 n) i = gr (patP 6 n) j := by rw [← rk_at hi2, ← rk_at hj2, e]
      have := nodup_at (patP_nodup h4) (by omega) (by omega) e5
      omega
    · intro hq2
      exact h.apart _ _ e (rk_lt hi2) q hq2 hq
end Go.Proofs.Ytncpoljjfhmkeaa
