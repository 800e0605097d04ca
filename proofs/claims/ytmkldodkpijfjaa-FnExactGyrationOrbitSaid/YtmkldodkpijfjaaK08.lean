/- Parts of proofs: contracts and plain facts. Conditions: as each says. -/
import Derived.Test.YtmkldodkpijfjaaK07
namespace Go.Proofs.Ytmkldodkpijfjaa
open Go.RowKit

theorem Crn.near {n : Nat} {c : Nat → Nat → Int} (h : Crn n c) (hn : n ≤ 6) : Near (pad n (hOf c)) := by
  intro i j _ _
  unfold pad
  split
  · next e => have := h.hbound e.1 e.2; omega
  · omega
theorem Near.fits {f : Nat → Nat → Int} (h : Near f) : Fits7 f := fun i j hi hj => by have := h i j hi hj; unfold Fits; omega

theorem tab_pad {n : Nat} {c : Nat → Nat → Int} : tab (n + 1) (n + 1) (pad n (hOf c)) = htT n c := by
  refine (eq_tab (htT_len _ _) (fun i hi => tab_row hi) fun i j hi hj => ?_).symm
  rw [gi_htT (by omega) (by omega)]
  unfold pad
  rw [if_pos (by omega)]

/-- the numbers that heights leave, without wrapping -/
theorem sgW_unC {n : Nat} {c : Nat → Nat → Int} (h : Crn n c) (hn : n ≤ 6) {f : Nat → Nat → Int} (hf : ∀ i j, i ≤ n → j ≤ n → f i j = hOf c i j) : tab n n (sgW f) = unC n c := by
  refine eq_tab (tab_len _ _ _) (fun i hi => tab_row hi) fun i j hi hj => ?_
  rw [gi_tab hi hj]
  have h1 := h.hbound (show i ≤ n by omega) (show j ≤ n by omega)
  have h2 := h.hbound (show i ≤ n by omega) (show j + 1 ≤ n by omega)
  have h3 := h.hbound (show i + 1 ≤ n by omega) (show j ≤ n by omega)
  have h4 := h.hbound (show i + 1 ≤ n by omega) (show j + 1 ≤ n by omega)
  have hd := dC_h c i j
  unfold sgW
  rw [hf i j (by omega) (by omega), hf i (j + 1) (by omega) (by omega), hf (i + 1) j (by omega) (by omega), hf (i + 1) (j + 1) (by omega) (by omega)]
  have w1 : wrap64 (hOf c i (j + 1) - hOf c i j) = hOf c i (j + 1) - hOf c i j := by unfold wrap64; omega
  rw [w1]
  have w2 : wrap64 (hOf c i (j + 1) - hOf c i j + hOf c (i + 1) j) = hOf c i (j + 1) - hOf c i j + hOf c (i + 1) j := by unfold wrap64; omega
  rw [w2]
  have w3 : wrap64 (hOf c i (j + 1) - hOf c i j + hOf c (i + 1) j - hOf c (i + 1) (j + 1)) = dC c i j * 2 := by unfold wrap64; omega
  rw [w3, Int.mul_tdiv_cancel _ (by decide)]
  unfold wrap64
  omega

/-- sums that end -/
theorem sumF_tail {f : Nat → Int} {N : Nat} : ∀ d, (∀ i, N ≤ i → i < N + d → f i = 0) → sumF f (N + d) = sumF f N
  | 0, _ => rfl
  | d + 1, h => by
    show sumF f (N + d) + f (N + d) = _
    rw [sumF_tail d (fun i h1 h2 => h i h1 (by omega)), h (N + d) (by omega) (by omega)]
    omega

/-- the distance of two corner sums -/
def distC (n : Nat) (a b : Nat → Nat → Int) : Int := (sumF (fun i => sumF (fun j => apartF (htT n a) (htT n b) i j) (n + 1)) (n + 1)) / 2
theorem dF_dist {n : Nat} {a b : Nat → Nat → Int} (hn : n ≤ 6) : (sumF (fun i => sumF (fun j => dF (pad n (hOf a)) (pad n (hOf b)) i j) 7) 7) / 2 = distC n a b := by
  obtain ⟨d, hd⟩ : ∃ d, 7 = n + 1 + d := ⟨6 - n, by omega⟩
  have h0 : ∀ i j, n + 1 ≤ i ∨ n + 1 ≤ j → dF (pad n (hOf a)) (pad n (hOf b)) i j = 0 := fun i j h => by
    unfold dF pad
    rw [if_neg (by omega), if_neg (by omega)]
    rfl
  have h1 : ∀ i, sumF (fun j => dF (pad n (hOf a)) (pad n (hOf b)) i j) 7 = sumF (fun j => dF (pad n (hOf a)) (pad n (hOf b)) i j) (n + 1) := fun i => by
    rw [hd]
    exact sumF_tail d fun j hj _ => h0 i j (.inr hj)
  have h2 : sumF (fun i => sumF (fun j => dF (pad n (hOf a)) (pad n (hOf b)) i j) 7) 7 = sumF (fun i => sumF (fun j => dF (pad n (hOf a)) (pad n (hOf b)) i j) (n + 1)) (n + 1) := by
    rw [sumF_congr (fun i _ => h1 i)]
    conv => lhs; rw [hd]
    refine sumF_tail d fun i hi _ => ?_
    rw [sumF_congr (g := fun _ => 0) (fun j _ => h0 i j (.inl hi))]
    exact sumF_zero _
  rw [h2]
  unfold distC
  congr 1
  refine sumF_congr fun i hi => sumF_congr fun j hj => ?_
  unfold dF apartF pad
  rw [if_pos (by omega), if_pos (by omega), gi_htT (by omega) (by omega), gi_htT (by omega) (by omega)]
  omega
theorem distC_comm (n : Nat) (a b : Nat → Nat → Int) : distC n a b = distC n b a := by
  unfold distC
  congr 1
  refine sumF_congr fun i _ => sumF_congr fun j _ => ?_
  unfold apartF
  omega

/-- below, by heights of terrains and by tables -/
theorem below_same {n : Nat} {a b : Nat → Nat → Int} (hn : n ≤ 6) : sameH (fun i j => min (pad n (hOf a) i j) (pad n (hOf b) i j)) (pad n (hOf a)) = true ↔ ∀ i j, i < n + 1 → j < n + 1 → gi (gr (htT n a) i) j ≤ gi (gr (htT n b) i) j := by
  rw [sameH_true]
  constructor
  · intro h i j hi hj
    have := h i j (by omega) (by omega)
    unfold pad at this
    rw [if_pos (by omega), if_pos (by omega)] at this
    rw [gi_htT (by omega) (by omega), gi_htT (by omega) (by omega)]
    omega
  · intro h i j hi hj
    unfold pad
    by_cases e : i ≤ n ∧ j ≤ n
    · have := h i j (by omega) (by omega)
      rw [gi_htT (by omega) (by omega), gi_htT (by omega) (by omega)] at this
      rw [if_pos e, if_pos e]
      omega
    · rw [if_neg e, if_neg e]
      rfl

theorem mix_meet {n : Nat} {a b : Nat → Nat → Int} : tab (n + 1) (n + 1) (mixF true (htT n a) (htT n b)) = htT n (maxC a b) := by
  refine eq_tab (tab_len _ _ _) (fun i hi => tab_row hi) fun i j hi hj => ?_
  rw [gi_tab hi hj]
  unfold mixF
  rw [gi_htT (by omega) (by omega), gi_htT (by omega) (by omega)]
  unfold hOf maxC
  simp only [if_true]
  omega
theorem mix_join {n : Nat} {a b : Nat → Nat → Int} : tab (n + 1) (n + 1) (mixF false (htT n a) (htT n b)) = htT n (minC2 a b) := by
  refine eq_tab (tab_len _ _ _) (fun i hi => tab_row hi) fun i j hi hj => ?_
  rw [gi_tab hi hj]
  unfold mixF
  rw [gi_htT (by omega) (by omega), gi_htT (by omega) (by omega)]
  unfold hOf minC2
  simp only [Bool.false_eq_true, if_false]
  omega

theorem crn_min (n : Nat) : Crn n (fun i j => min (i : Int) j) := ⟨fun j _ => by omega, fun i _ => by omega, fun i hi => by omega, fun j hj => by omega, fun i j _ _ => by omega, fun i j _ _ => by omega⟩
theorem idm_unC (n : Nat) : idm n = unC n (fun i j => min (i : Int) j) := by
  refine eq_tab (idm_len n) (fun i hi => tab_row hi) fun i j hi hj => ?_
  unfold idm
  rw [gi_tab hi hj]
  unfold dC
  show (if i = j then 1 else 0 : Int) = min ((i + 1 : Nat) : Int) ((j + 1 : Nat) : Int) - min (i : Int) ((j + 1 : Nat) : Int) - min ((i + 1 : Nat) : Int) (j : Int) + min (i : Int) (j : Int)
  split <;> omega
theorem idm_good {n : Nat} (h1 : 1 ≤ n) (h6 : n ≤ 6) : good (idm n) := by rw [idm_unC]; exact crn_good (crn_min n) h1 h6
theorem ht_len (m : List (List Int)) : (ht m).length = m.length + 1 := htT_len _ _
theorem ht_len2 {m k : List (List Int)} (h : m.length = k.length) : (ht k).length = m.length + 1 := by rw [ht_len, h]
theorem ht_tab2 {m k : List (List Int)} (h : good k) (hl : m.length = k.length) : Tab (m.length + 1) (ht k) := by rw [hl]; exact htT_tab (good_crn h) h.1.2.1
theorem ht_small {m : List (List Int)} (h : square m) : Small (ht m) := htT_small _ h.2.1
theorem ht_tab {m : List (List Int)} (h : good m) : Tab (m.length + 1) (ht m) := htT_tab (good_crn h) h.1.2.1
end Go.Proofs.Ytmkldodkpijfjaa

