/- Parts of proofs: contracts and plain facts. Conditions: as each says. -/
import Derived.Test.YtopamhcnbocfoaaDoorK13
namespace Go.Proofs.YtopamhcnbocfoaaDoor
open Go.RowKit

set_option maxRecDepth 100000 in
set_option maxHeartbeats 800000 in
theorem trCountsAdd_any (N : Nat) (h1 : 1 ≤ N) (h5 : N ≤ 5) (hok : okF nextAdd N N [] 0 = true) (w : World) :
    Calls Tryd.prog 27 #[.int .i64 (N : Int), .bool true] w fun e w' => ∃ v, e = .returned v ∧ OwnI w' w.heap.size v (trimF (countsF nextAdd N)) ∧ Below w.heap.size w w' := by
  obtain ⟨i0, hi, hz0, hz1, hz2⟩ := info_parts Tryd.info_int
  obtain ⟨Q, hQ⟩ : ∃ Q : Nat, Q = N * N := ⟨_, rfl⟩
  have hQ5 : Q ≤ 25 := by rw [hQ]; have := Nat.mul_le_mul h5 h5; omega
  have hm : (N : Int) * (N : Int) = (Q : Int) := by rw [hQ]; simp
  have HQ := Lib.hid hQ
  have Hok := Lib.hid hok
  clear hQ hok
  go_enter Tryd.func27, Tryd.ntmps27
  go_wp2_with (at_make; refine wpList_make_full _ rfl _ _ 29 rfl w.heap.size 3 i0 (.int .i64 0) 1 Tryd.underlying29 hi hz0 hz1 _ _ _ _ (Q + 1) rfl rfl (by omega) (by omega) ?c1 ?c2 ?c3 ?_)
  case c1 => rw [hz2]; omega
  case c2 => unfold maxLen; omega
  case c3 => simp
  intro w1 hown hgr
  have hb1 : Below w.heap.size w w1 := (Below.refl _ _).grown hgr (Nat.le_refl _) (fun _ h => by cases h)
  have hown1 := OwnI.made hown
  have hcall := trSpreadAdd_any N h5 (Q + 1) (by rw [HQ.out]) N [] none 0 w.heap.size w.heap.size (Q + 1) 0 (List.replicate (Q + 1) 0) w1 (by simp) ⟨trivial, fun x hx => by cases hx⟩ (IntsAt.nil _ _) (fun b o e => by cases e) hown1 (Nat.le_refl _) Hok.out (by omega)
  rw [show ([] : List Int).length = 0 from rfl] at hcall
  obtain ⟨C, hC⟩ : ∃ C, C = countsF nextAdd N := ⟨_, rfl⟩
  rw [show spreadF nextAdd N N [] 0 (List.replicate (Q + 1) 0) = C from by rw [hC, HQ.out]; rfl] at hcall
  have HC := Lib.hid hC
  have Hcall := Lib.hid hcall
  have Hb1 := Lib.hid hb1
  clear hown hgr hb1 hown1 hcall hC hm
  go_wp2_with fail
  refine Hcall.out.mono ?_
  rintro e w2 ⟨rfl, ho, hg⟩
  have hcl : C.length = Q + 1 := ho.len
  have hmc : IntsAt w2 (some ⟨w.heap.size, 0, none⟩) C := own_at ho
  have Hm := Lib.hid hmc
  have Hb2 := Lib.hid (Hb1.out.grown hg Hb1.out.size (fun k hk => by cases hk; exact Nat.le_refl _))
  clear ho hg hmc
  go_wp2
  go_loop [6, 20] (fun a i => ∃ k : Nat, k ≤ Q + 1 ∧ i = .int .i64 k ∧ a = .int .i64 (lastF C k : Nat)) (fun _ i => Q + 1 - (intOf i).toNat)
  case atStart => exact ⟨0, Nat.zero_le _, rfl, rfl⟩
  case round =>
    obtain ⟨k, hk, rfl, rfl⟩ := hrel
    by_cases hlt : k < Q + 1
    · obtain ⟨b2, o2, e2, hc2⟩ := Hm.out k (by omega)
      cases e2
      rw [Nat.zero_add] at hc2
      obtain ⟨x, hx⟩ : ∃ x, x = gi C k := ⟨_, rfl⟩
      obtain ⟨u, hu⟩ : ∃ u : Int, u = (lastF C k : Nat) := ⟨_, rfl⟩
      rw [← hx] at hc2
      rw [← hu]
      by_cases hp : 0 < x
      · have E := Lib.hid (show lastF C (k + 1) = k by rw [lastF, ← hx, if_pos hp])
        have hd : decide (0 < x) = true := by simpa using hp
        clear hx hu hp
        go_wp2
        go_round
        case rel => exact ⟨k + 1, by omega, by go_num, by rw [E.out]⟩
        case measure => simp [intOf]; omega
      · have E := Lib.hid (show ((lastF C (k + 1) : Nat) : Int) = u by rw [lastF, ← hx, if_neg hp, hu])
        have hd : decide (0 < x) = false := by simpa using hp
        clear hx hu hp
        go_wp2
        go_round
        case rel => exact ⟨k + 1, by omega, by go_num, by rw [E.out]⟩
        case measure => simp [intOf]; omega
    · obtain rfl : k = Q + 1 := by omega
      have hll := lastF_lt C (Q + 1) (by omega)
      obtain ⟨l, hl⟩ : ∃ l, l = lastF C (Q + 1) := ⟨_, rfl⟩
      rw [← hl] at hll ⊢
      have htl : (C.take (l + 1)).length = l + 1 := by rw [List.length_take]; omega
      have hat : IntsAt w2 (some ⟨w.heap.size, 0, none⟩) (C.take (l + 1)) := fun i hi' => by
        obtain ⟨b, o, e, hc⟩ := Hm.out i (by omega)
        refine ⟨b, o, e, ?_⟩
        rw [hc]
        congr 2
        simp [gi, List.getD, show i < l + 1 from by omega]
      have hw := l1Own_any (some ⟨w.heap.size, 0, none⟩) (Q + 1) (C.take (l + 1)) w2 (by omega) (fun e => by cases e) hat
      rw [htl] at hw
      have ht : C.take (l + 1) = trimF (countsF nextAdd N) := by unfold trimF; rw [← HC.out, hcl, hl]
      rw [ht] at hw
      have Hw := Lib.hid hw
      clear hl htl hat hw ht hk hlt
      go_wp2_with fail
      refine Hw.out.mono ?_
      rintro e w3 ⟨v, rfl, hv, hb3⟩
      have Hv := Lib.hid (hv.base Hb2.out.size)
      have Hb3 := Lib.hid (Hb2.out.trans (hb3.mono Hb2.out.size))
      clear hv hb3
      go_wp2
      go_ret
      exact ⟨_, rfl, Hv.out, Hb3.out⟩

def in5Add (n : Int) : Prop := 1 ≤ n ∧ n ≤ 5
def listAdd (n : Nat) : List Int := trimF (countsF nextAdd n)
theorem listAdd_len {n : Int} (h : in5Add n) : (listAdd n.toNat).length ≤ 1048576 := by
  unfold listAdd trimF
  rw [List.length_take]
  have : (countsF nextAdd n.toNat).length = n.toNat * n.toNat + 1 := by unfold countsF; rw [spreadF_len, List.length_replicate]
  unfold in5Add at h
  have := Nat.mul_le_mul (show n.toNat ≤ 5 by omega) (show n.toNat ≤ 5 by omega)
  omega
theorem Add_facts {N : Nat} (h1 : 1 ≤ N) (h5 : N ≤ 5) : sameC movedSc nextAdd N (N * (N - 1) / 2) = true ∧ limC movedSc N (N * (N - 1) / 2) = true := by
  obtain ⟨a, b, c, d, e⟩ := moved_same
  obtain ⟨a', b', c', d', e'⟩ := moved_ok
  rcases (by omega : N = 1 ∨ N = 2 ∨ N = 3 ∨ N = 4 ∨ N = 5) with rfl | rfl | rfl | rfl | rfl
  · exact ⟨a, a'⟩
  · exact ⟨b, b'⟩
  · exact ⟨c, c'⟩
  · exact ⟨d, d'⟩
  · exact ⟨e, e'⟩

set_option maxRecDepth 100000 in
set_option maxHeartbeats 400000 in
theorem specCountByInversions_any (n : Int) (w : World) (_ : -9223372036854775808 ≤ n ∧ n ≤ 9223372036854775807) :
    Calls Tryd.prog 18 #[.int .i64 n] w fun e w' => LRes (in5Add n) (listAdd n.toNat) w' w.heap.size e ∧ Below w.heap.size w w' := by
  by_cases hg : in5Add n
  · obtain ⟨h1, h5⟩ := hg
    obtain ⟨N, rfl⟩ : ∃ N : Nat, n = (N : Int) := ⟨n.toNat, by omega⟩
    have hs := (Add_facts (N := N) (by omega) (by omega)).1
    unfold sameC at hs
    simp only [Bool.and_eq_true] at hs
    have Hc := Lib.hid (trCountsAdd_any N (by omega) (by omega) hs.1 w)
    clear hs
    go_enter Tryd.func18, Tryd.ntmps18
    go_wp2_with fail
    refine (l1In_any (N : Int) 1 5 w).mono ?_
    rintro e w2 ⟨ha, rfl⟩
    obtain rfl := ha.is ⟨h1, h5⟩
    clear ha
    go_wp2_with fail
    refine Hc.out.mono ?_
    rintro e w1 ⟨v, rfl, hv, hb⟩
    have Hv := Lib.hid hv
    have Hb := Lib.hid hb
    clear hv hb
    go_wp2
    go_ret2
    exact ⟨LRes.yes ⟨h1, h5⟩ (by rw [Int.toNat_natCast]; exact Hv.out), Hb.out⟩
  · go_enter Tryd.func18, Tryd.ntmps18
    go_wp2_with fail
    refine (l1In_any n 1 5 w).mono ?_
    rintro e w2 ⟨ha, rfl⟩
    obtain rfl := ha.isnt hg
    clear ha
    go_wp2
    go_ret2
    exact ⟨LRes.no hg, Below.refl _ _⟩

theorem mostInversions5_any (N : Nat) (w : World) (_ : 1 ≤ N) (_ : N ≤ 5) :
    Calls Tryd.prog 31 #[.int .i64 (N : Int)] w fun e w' => e = .returned (.int .i64 ((N * (N - 1) / 2 : Nat) : Int)) ∧ w = w' := by
  obtain rfl | rfl | rfl | rfl | rfl : N = 1 ∨ N = 2 ∨ N = 3 ∨ N = 4 ∨ N = 5 := by omega
  all_goals
    go_enter Tryd.func31, Tryd.ntmps31
    go_wp2
    go_ret
    exact ⟨rfl, rfl⟩
set_option maxRecDepth 100000 in
set_option maxHeartbeats 800000 in
theorem implCountByInversions_any (n : Int) (w : World) (_ : -9223372036854775808 ≤ n ∧ n ≤ 9223372036854775807) (hD : Dj w) :
    Calls Tryd.prog 19 #[.int .i64 n] w fun e w' => LRes (in5Add n) (listAdd n.toNat) w' w.heap.size e ∧ Below w.heap.size w w' := by
  by_cases h1 : 1 ≤ n
  · by_cases h5 : n ≤ 5
    · obtain ⟨N, rfl⟩ : ∃ N : Nat, n = (N : Int) := ⟨n.toNat, by omega⟩
      obtain ⟨hs, hl⟩ := Add_facts (N := N) (by omega) (by omega)
      have hlim := limC_lim hl
      obtain ⟨G, hG⟩ : ∃ G : Nat, G = N * (N - 1) / 2 := ⟨_, rfl⟩
      rw [← hG] at hs hlim
      have hG10 : G ≤ 10 := by
        rw [hG]
        rcases (by omega : N = 1 ∨ N = 2 ∨ N = 3 ∨ N = 4 ∨ N = 5) with rfl | rfl | rfl | rfl | rfl <;> decide
      have hc := byScore_movedNumbers movedSc movedNumbers_any moved_small N G (by omega) (by omega) (by omega) hlim w hD
      have hsame : scoreL movedSc N (G + 1) = listAdd N := by
        unfold sameC at hs
        simp only [Bool.and_eq_true] at hs
        rw [scoreT_is]
        have := hs.2
        simp at this
        exact this.symm
      rw [hsame] at hc
      have Hc := Lib.hid hc
      have hd5 : decide ((5 : Int) < (N : Int)) = false := by simp; omega
      have hmost := mostInversions5_any N w (by omega) (by omega)
      rw [← hG] at hmost
      have Hmost := Lib.hid hmost
      clear hmost
      clear hc hD hs hl hlim hsame hG
      go_enter Tryd.func19, Tryd.ntmps19
      go_wp2_with fail
      refine Hmost.out.mono ?_
      rintro e w2 ⟨rfl, rfl⟩
      go_wp2_with fail
      refine Hc.out.mono ?_
      rintro e w1 ⟨v, rfl, hv, hb⟩
      have Hv := Lib.hid hv
      have Hb := Lib.hid hb
      clear hv hb
      go_wp2
      go_ret2
      exact ⟨LRes.yes ⟨h1, h5⟩ (by rw [Int.toNat_natCast]; exact Hv.out), Hb.out⟩
    · have hd5 : decide ((5 : Int) < n) = true := by simp; omega
      go_enter Tryd.func19, Tryd.ntmps19
      go_wp2
      go_ret2
      exact ⟨LRes.no fun h => by have := h.2; omega, Below.refl _ _⟩
  · go_enter Tryd.func19, Tryd.ntmps19
    go_wp2
    go_ret2
    exact ⟨LRes.no fun h => by have := h.1; omega, Below.refl _ _⟩
end Go.Proofs.YtopamhcnbocfoaaDoor

