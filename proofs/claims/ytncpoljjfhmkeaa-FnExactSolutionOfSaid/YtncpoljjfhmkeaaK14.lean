/- Parts of proofs: contracts and plain facts. Conditions: as each says. -/
import Derived.Test.YtncpoljjfhmkeaaK13
import Derived.Deep.RegionWith
namespace Go.Proofs.Ytncpoljjfhmkeaa
open Go.RowKit

/-- a table filled up to the place a, b -/
def putF (f : Nat → Nat → Int) (a b r c : Nat) : Int := if r < a ∨ (r = a ∧ c < b) then f r c else 0
theorem putF_step (f : Nat → Nat → Int) (a b : Nat) : (fun r c => if r = a ∧ c = b then f a b else putF f a b r c) = putF f a (b + 1) := by
  funext r c
  unfold putF
  by_cases e : r = a ∧ c = b
  · obtain ⟨rfl, rfl⟩ := e
    rw [if_pos ⟨rfl, rfl⟩, if_pos (show r < r ∨ (r = r ∧ c < c + 1) by omega)]
  · rw [if_neg e]
    by_cases e2 : r < a ∨ (r = a ∧ c < b)
    · rw [if_pos e2, if_pos (show r < a ∨ (r = a ∧ c < b + 1) by omega)]
    · rw [if_neg e2, if_neg (show ¬(r < a ∨ (r = a ∧ c < b + 1)) by omega)]
theorem putF_here (f : Nat → Nat → Int) (a b : Nat) : putF f a b a b = 0 := if_neg (by omega)
theorem putF_zero (f : Nat → Nat → Int) : putF f 0 0 = fun _ _ => 0 := by funext r c; exact if_neg (by omega)
theorem putF_row (f : Nat → Nat → Int) (N a : Nat) : tab N N (putF f a N) = tab N N (putF f (a + 1) 0) := by
  refine eq_tab (tab_len _ _ _) (fun i hi => tab_row hi) fun r c hr hc => ?_
  rw [gi_tab hr hc]
  unfold putF
  by_cases e : r < a ∨ (r = a ∧ c < N)
  · rw [if_pos e, if_pos (by omega)]
  · rw [if_neg e, if_neg (by omega)]
theorem putF_end (f : Nat → Nat → Int) (N : Nat) : tab N N (putF f N 0) = tab N N f := by
  refine eq_tab (tab_len _ _ _) (fun i hi => tab_row hi) fun r c hr hc => ?_
  rw [gi_tab hr hc]
  unfold putF
  rw [if_pos (by omega)]

/-- the sum of the products of the first k numbers of a row -/
def dotF (f : Nat → Nat → Int) (v : List Int) (r : Nat) : Nat → Int
  | 0 => 0
  | k + 1 => dotF f v r k + f r k * gi v k
/-- the image filled up to the place a, b -/
def imgL (f : Nat → Nat → Int) (v : List Int) (N a b : Nat) : List Int := (List.range N).map fun r => if r < a then dotF f v r N else if r = a then dotF f v a b else 0
theorem imgL_len (f : Nat → Nat → Int) (v : List Int) (N a b : Nat) : (imgL f v N a b).length = N := by simp [imgL]
theorem imgL_at {f : Nat → Nat → Int} {v : List Int} {N a b r : Nat} (h : r < N) : gi (imgL f v N a b) r = if r < a then dotF f v r N else if r = a then dotF f v a b else 0 := gi_row h
theorem imgL_here {f : Nat → Nat → Int} {v : List Int} {N a b : Nat} (h : a < N) : gi (imgL f v N a b) a = dotF f v a b := by rw [imgL_at h, if_neg (Nat.lt_irrefl a), if_pos rfl]
theorem imgL_step {f : Nat → Nat → Int} {v : List Int} {N a b : Nat} (h : a < N) : (imgL f v N a b).set a (dotF f v a b + f a b * gi v b) = imgL f v N a (b + 1) := by
  refine ext_gi (by rw [List.length_set, imgL_len, imgL_len]) fun r hr => ?_
  rw [List.length_set, imgL_len] at hr
  rw [gi_set (by rw [imgL_len]; exact h), imgL_at hr, imgL_at hr]
  by_cases e : r = a
  · subst e
    rw [if_pos rfl, if_neg (Nat.lt_irrefl r), if_pos rfl]
    rfl
  · rw [if_neg e]
    by_cases e2 : r < a
    · rw [if_pos e2, if_pos e2]
    · rw [if_neg e2, if_neg e2, if_neg e, if_neg e]
theorem imgL_row (f : Nat → Nat → Int) (v : List Int) (N a : Nat) : imgL f v N a N = imgL f v N (a + 1) 0 := by
  refine ext_gi (by rw [imgL_len, imgL_len]) fun r hr => ?_
  rw [imgL_len] at hr
  rw [imgL_at hr, imgL_at hr]
  by_cases e : r = a
  · subst e
    rw [if_neg (Nat.lt_irrefl r), if_pos rfl, if_pos (Nat.lt_succ_self r)]
  · by_cases e2 : r < a
    · rw [if_pos e2, if_pos (show r < a + 1 by omega)]
    · rw [if_neg e2, if_neg e, if_neg (show ¬r < a + 1 by omega)]
      split <;> rfl
theorem imgL_zero (f : Nat → Nat → Int) (v : List Int) (N : Nat) : imgL f v N 0 0 = List.replicate N 0 := by
  refine ext_gi (by rw [imgL_len, List.length_replicate]) fun r hr => ?_
  rw [imgL_len] at hr
  rw [imgL_at hr, if_neg (by omega), gi_lt (by simpa using hr)]
  simp [dotF]
theorem dotF_row {f : Nat → Nat → Int} {v row : List Int} {r : Nat} : ∀ k : Nat, (∀ c, c < k → gi row c = f r c) → dotK row v k = dotF f v r k
  | 0, _ => rfl
  | k + 1, h => by unfold dotK dotF; rw [dotF_row k (fun c hc => h c (by omega)), h k (by omega)]
theorem dotF_bd {f : Nat → Nat → Int} {v : List Int} {r N : Nat} (h1 : ∀ c, c < N → 0 ≤ f r c ∧ f r c ≤ 100) (h2 : allIn v 0 1000000) (hl : v.length = N) : ∀ k : Nat, k ≤ N → 0 ≤ dotF f v r k ∧ dotF f v r k ≤ (k : Int) * 100000000
  | 0, _ => by simp [dotF]
  | k + 1, ha => by
    have := dotF_bd h1 h2 hl k (by omega)
    have := mul_bd (h1 k (by omega)) (h2 k (by omega))
    unfold dotF
    omega
theorem imgL_end {f : Nat → Nat → Int} {v : List Int} {m : List (List Int)} {N : Nat} (hm : m.length = N) (hv : v.length = N) (h : ∀ r c, r < N → c < N → gi (gr m r) c = f r c) : imgL f v N N 0 = appK m v m.length := by
  refine ext_gi (by rw [imgL_len, appK_len, hm]) fun r hr => ?_
  rw [imgL_len] at hr
  rw [imgL_at hr, if_pos hr, appK_at (by omega), hv]
  exact (dotF_row N fun c hc => h r c hr hc).symm

set_option maxRecDepth 100000 in
set_option maxHeartbeats 1600000 in
theorem tableOf_jn (v : Value) (l : List (List Int)) (i : Nat) (w : World) (hl : l.length ≤ 14) (hl1 : 1 ≤ l.length) (h : JnAt w v l i) :
    Calls Try.prog 69 #[.iface 59 v] w fun e w' => ∃ u, e = .returned u ∧ OwnM w' w.heap.size u (tab l.length l.length (opN l i)) ∧ Below w.heap.size w w' := by
  obtain ⟨pa, pc, rfl, _⟩ := (id h)
  have CS := Lib.hid (show ∀ w1, Below w.heap.size w w1 → Calls Try.prog 151 #[.slice pa l.length pc] w1 fun e w2 => e = .returned (.int .i64 (l.length : Int)) ∧ w2 = w1 from fun w1 hb => jnSize_any _ l i w1 hl (h.below hb))
  have CA := Lib.hid (show ∀ w1, Below w.heap.size w w1 → ∀ r c : Nat, r < l.length → c < l.length → Calls Try.prog 150 #[.slice pa l.length pc, .int .i64 (r : Int), .int .i64 (c : Int)] w1 fun e w2 => e = .returned (.int .i64 (opN l i r c)) ∧ Below w1.heap.size w1 w2 from fun w1 hb r c hr hc => (jnAt_any _ l i r c w1 hl hr hc (h.below hb)).mono fun e w2 h2 => ⟨h2.1, by rw [h2.2]; exact Below.refl _ _⟩)
  have hmt := fun w' => method_jn_size pa l.length pc w'
  have hna := fun w' => ahead_jn_size pa l.length pc w'
  have hmt2 := fun w' => method_jn_at pa l.length pc w'
  have hna2 := fun w' => ahead_jn_at pa l.length pc w'
  obtain ⟨N, hN⟩ : ∃ N, N = l.length := ⟨_, rfl⟩
  obtain ⟨f, hf⟩ : ∃ f, f = opN l i := ⟨_, rfl⟩
  rw [← hN, ← hf] at CA ⊢
  rw [← hN] at CS hl hl1
  rw [← hN] at hmt hna hmt2 hna2
  have hNm : N ≤ 9223372036854775807 := by omega
  clear h hN hf
  go_enter Try.func69, Try.ntmps69
  go_wp2_with fail
  refine (CS.out w (Below.refl _ _)).mono ?_
  rintro e w1 ⟨rfl, rfl⟩
  go_wp2_with fail
  refine (CS.out w1 (Below.refl _ _)).mono ?_
  rintro e w2 ⟨rfl, rfl⟩
  go_wp2_with fail
  refine (newTable_any N N w2 (by omega) (by omega)).mono ?_
  rintro e w3 ⟨vs, rfl, hp, hb⟩
  rw [← putF_zero f] at hp
  obtain ⟨G, hG⟩ : ∃ G, G = w2.heap.size := ⟨_, rfl⟩
  rw [← hG]
  rw [← hG] at hp
  have HG := Lib.hid (show w2.heap.size ≤ G by omega)
  have Hp := Lib.hid (show OwnP w3 w2.heap.size (.slice (some ⟨G, 0, none⟩) N N) N (tab N N (putF f 0 0)) N vs by rw [← hG]; exact hp)
  have Hb := Lib.hid hb
  clear hp hb hG
  go_wp2_with fail
  refine (CS.out w3 Hb.out).mono ?_
  rintro e w4 ⟨rfl, rfl⟩
  go_wp2
  go_loopw [13] (fun x wr => ∃ a : Nat, a ≤ N ∧ x = .int .i64 a ∧ OwnP wr w2.heap.size (.slice (some ⟨G, 0, none⟩) N N) N (tab N N (putF f a 0)) N vs ∧ Below w2.heap.size w2 wr) (fun x _ => N - (intOf x).toNat)
  case atStart => exact ⟨0, Nat.zero_le _, rfl, Hp.out, Hb.out⟩
  case round =>
    obtain ⟨a, ha, rfl, hown, hbr⟩ := hrel
    have Hown := Lib.hid hown
    have Hbr := Lib.hid hbr
    clear hown hbr Hp Hb
    by_cases hal : a < N
    · go_wp2_with fail
      refine (CS.out wr Hbr.out).mono ?_
      rintro e w5 ⟨rfl, rfl⟩
      go_wp2
      go_loopw [18] (fun x wq => ∃ b : Nat, b ≤ N ∧ x = .int .i64 b ∧ OwnP wq w2.heap.size (.slice (some ⟨G, 0, none⟩) N N) N (tab N N (putF f a b)) N vs ∧ Below w2.heap.size w2 wq) (fun x _ => N - (intOf x).toNat)
      case atStart => exact ⟨0, Nat.zero_le _, rfl, Hown.out, Hbr.out⟩
      case round =>
        rename World => wq
        obtain ⟨b, hb, rfl, hown, hbq⟩ := hrel
        have Hown2 := Lib.hid hown
        have Hbq := Lib.hid hbq
        clear hown hbq Hown Hbr
        by_cases hbl : b < N
        · obtain ⟨g, cap, hvs, hd2, hf2, hg, _⟩ := Hown2.out.at2 hal hbl
          have hd := Hown2.out.cellAt a hal
          rw [hvs] at hd
          have hfacts : ∀ w'', Below wq.heap.size wq w'' → w''.cell? ⟨G, a, none⟩ = some (.slice (some ⟨g, 0, none⟩) N cap) ∧ w''.cell? ⟨g, b, none⟩ = some (.int .i64 (putF f a b a b)) ∧ w''.frozen? ⟨g, b, none⟩ = false := fun w'' hb => by
            obtain ⟨g', cap', hvs', _, hf', _, _⟩ := (Hown2.out.below hb).at2 hal hbl
            rw [hvs] at hvs'
            cases hvs'
            exact ⟨cell_below hd hb, cell_below hd2 hb, hf'⟩
          have hst : ∀ w'', Below wq.heap.size wq w'' → OwnP (w''.setCell ⟨g, b, none⟩ (.int .i64 (f a b))) w2.heap.size (.slice (some ⟨G, 0, none⟩) N N) N (tab N N (putF f a (b + 1))) N vs := fun w'' hb => by
            obtain ⟨g', cap', hvs', _, _, _, hst'⟩ := (Hown2.out.below hb).at2 hal hbl
            rw [hvs] at hvs'
            cases hvs'
            rw [← putF_step]
            exact hst' _
          have Hfacts := Lib.hid hfacts
          have Hst := Lib.hid hst
          have Hg := Lib.hid hg
          have Hz := Lib.hid Hbq.out.size
          have CX := Lib.hid (fun wx (hx : Below wq.heap.size wq wx) => CA.out wx (Hbq.out.trans (hx.mono Hz.out)) a b hal hbl)
          have HBc := Lib.hid (show Below wq.heap.size wq wq.drew from below_drewN (Below.refl _ _) 1)
          obtain ⟨y, hy⟩ : ∃ y, y = f a b := ⟨_, rfl⟩
          rw [← hy] at Hst CX
          obtain ⟨z, hz⟩ : ∃ z, z = putF f a b a b := ⟨_, rfl⟩
          rw [← hz] at Hfacts
          clear hvs hd hd2 hf2 hg hfacts hst hy hz Hown2
          have ⟨q0, q1, q2⟩ := Hfacts.out wq (Below.refl _ _)
          go_wp2
          go_region_with (go_at_call 150; refine (CX.out _ HBc.out).mono ?_; rintro e w6 ⟨rfl, hb6⟩; have HBd := Lib.hid (HBc.out.trans (hb6.mono HBc.out.size)); clear hb6 HBc; have HBc := HBd; clear HBd; obtain ⟨r0, r1, r2⟩ := Hfacts.out _ HBc.out)
          all_goals
            have HSn := Lib.hid (Hst.out _ HBc.out)
            have HBn := Lib.hid ((Hbq.out.trans (HBc.out.mono Hz.out)).setCell (p := ⟨g, b, none⟩) Hg.out (.int .i64 y))
            clear q0 q1 q2 r0 r1 r2 CX Hfacts Hst
            go_wp2
            go_roundw
            case rel => exact ⟨b + 1, by omega, by go_num, HSn.out, HBn.out⟩
            case measure => simp [intOf]; omega
        · obtain rfl : b = N := by omega
          rw [putF_row] at Hown2
          go_wp2
          go_roundw
          case rel => exact ⟨a + 1, by omega, by go_num, Hown2.out, Hbq.out⟩
          case measure => simp [intOf]; omega
    · obtain rfl : a = N := by omega
      rw [putF_end] at Hown
      go_wp2
      go_ret
      exact ⟨_, rfl, ⟨vs, by rw [tab_len]; exact Hown.out⟩, Hbr.out⟩

set_option maxRecDepth 100000 in
set_option maxHeartbeats 1600000 in
theorem tableOf_tt (v : Value) (l : List (List Int)) (k : Nat) (w : World) (hl : l.length ≤ 14) (hl1 : 1 ≤ l.length) (hk : 1 ≤ k) (hk8 : k ≤ 8) (h : TotAt w v l k) :
    Calls Try.prog 69 #[.iface 62 v] w fun e w' => ∃ u, e = .returned u ∧ OwnM w' w.heap.size u (tab l.length l.length (sumN l k)) ∧ Below w.heap.size w w' := by
  obtain ⟨pg, pc, rfl, _⟩ := (id h)
  have CS := Lib.hid (show ∀ w1, Below w.heap.size w w1 → Calls Try.prog 82 #[.slice (some ⟨pg, 0, none⟩) k pc] w1 fun e w2 => e = .returned (.int .i64 (l.length : Int)) ∧ w2 = w1 from fun w1 hb => ttSize_any _ l k w1 hl hk hk8 (h.below hb))
  have CA := Lib.hid (show ∀ w1, Below w.heap.size w w1 → ∀ r c : Nat, r < l.length → c < l.length → Calls Try.prog 152 #[.slice (some ⟨pg, 0, none⟩) k pc, .int .i64 (r : Int), .int .i64 (c : Int)] w1 fun e w2 => e = .returned (.int .i64 (sumN l k r c)) ∧ Below w1.heap.size w1 w2 from fun w1 hb r c hr hc => ttAt_any _ l k r c w1 hl hk8 hr hc (h.below hb))
  have hmt := fun w' => method_tt_size (some ⟨pg, 0, none⟩) k pc w'
  have hna := fun w' => ahead_tt_size (some ⟨pg, 0, none⟩) k pc w'
  have hmt2 := fun w' => method_tt_at (some ⟨pg, 0, none⟩) k pc w'
  have hna2 := fun w' => ahead_tt_at (some ⟨pg, 0, none⟩) k pc w'
  obtain ⟨N, hN⟩ : ∃ N, N = l.length := ⟨_, rfl⟩
  obtain ⟨f, hf⟩ : ∃ f, f = sumN l k := ⟨_, rfl⟩
  rw [← hN, ← hf] at CA ⊢
  rw [← hN] at CS hl hl1
  skip
  have hNm : N ≤ 9223372036854775807 := by omega
  clear h hN hf
  go_enter Try.func69, Try.ntmps69
  go_wp2_with fail
  refine (CS.out w (Below.refl _ _)).mono ?_
  rintro e w1 ⟨rfl, rfl⟩
  go_wp2_with fail
  refine (CS.out w1 (Below.refl _ _)).mono ?_
  rintro e w2 ⟨rfl, rfl⟩
  go_wp2_with fail
  refine (newTable_any N N w2 (by omega) (by omega)).mono ?_
  rintro e w3 ⟨vs, rfl, hp, hb⟩
  rw [← putF_zero f] at hp
  obtain ⟨G, hG⟩ : ∃ G, G = w2.heap.size := ⟨_, rfl⟩
  rw [← hG]
  rw [← hG] at hp
  have HG := Lib.hid (show w2.heap.size ≤ G by omega)
  have Hp := Lib.hid (show OwnP w3 w2.heap.size (.slice (some ⟨G, 0, none⟩) N N) N (tab N N (putF f 0 0)) N vs by rw [← hG]; exact hp)
  have Hb := Lib.hid hb
  clear hp hb hG
  go_wp2_with fail
  refine (CS.out w3 Hb.out).mono ?_
  rintro e w4 ⟨rfl, rfl⟩
  go_wp2
  go_loopw [13] (fun x wr => ∃ a : Nat, a ≤ N ∧ x = .int .i64 a ∧ OwnP wr w2.heap.size (.slice (some ⟨G, 0, none⟩) N N) N (tab N N (putF f a 0)) N vs ∧ Below w2.heap.size w2 wr) (fun x _ => N - (intOf x).toNat)
  case atStart => exact ⟨0, Nat.zero_le _, rfl, Hp.out, Hb.out⟩
  case round =>
    obtain ⟨a, ha, rfl, hown, hbr⟩ := hrel
    have Hown := Lib.hid hown
    have Hbr := Lib.hid hbr
    clear hown hbr Hp Hb
    by_cases hal : a < N
    · go_wp2_with fail
      refine (CS.out wr Hbr.out).mono ?_
      rintro e w5 ⟨rfl, rfl⟩
      go_wp2
      go_loopw [18] (fun x wq => ∃ b : Nat, b ≤ N ∧ x = .int .i64 b ∧ OwnP wq w2.heap.size (.slice (some ⟨G, 0, none⟩) N N) N (tab N N (putF f a b)) N vs ∧ Below w2.heap.size w2 wq) (fun x _ => N - (intOf x).toNat)
      case atStart => exact ⟨0, Nat.zero_le _, rfl, Hown.out, Hbr.out⟩
      case round =>
        rename World => wq
        obtain ⟨b, hb, rfl, hown, hbq⟩ := hrel
        have Hown2 := Lib.hid hown
        have Hbq := Lib.hid hbq
        clear hown hbq Hown Hbr
        by_cases hbl : b < N
        · obtain ⟨g, cap, hvs, hd2, hf2, hg, _⟩ := Hown2.out.at2 hal hbl
          have hd := Hown2.out.cellAt a hal
          rw [hvs] at hd
          have hfacts : ∀ w'', Below wq.heap.size wq w'' → w''.cell? ⟨G, a, none⟩ = some (.slice (some ⟨g, 0, none⟩) N cap) ∧ w''.cell? ⟨g, b, none⟩ = some (.int .i64 (putF f a b a b)) ∧ w''.frozen? ⟨g, b, none⟩ = false := fun w'' hb => by
            obtain ⟨g', cap', hvs', _, hf', _, _⟩ := (Hown2.out.below hb).at2 hal hbl
            rw [hvs] at hvs'
            cases hvs'
            exact ⟨cell_below hd hb, cell_below hd2 hb, hf'⟩
          have hst : ∀ w'', Below wq.heap.size wq w'' → OwnP (w''.setCell ⟨g, b, none⟩ (.int .i64 (f a b))) w2.heap.size (.slice (some ⟨G, 0, none⟩) N N) N (tab N N (putF f a (b + 1))) N vs := fun w'' hb => by
            obtain ⟨g', cap', hvs', _, _, _, hst'⟩ := (Hown2.out.below hb).at2 hal hbl
            rw [hvs] at hvs'
            cases hvs'
            rw [← putF_step]
            exact hst' _
          have Hfacts := Lib.hid hfacts
          have Hst := Lib.hid hst
          have Hg := Lib.hid hg
          have Hz := Lib.hid Hbq.out.size
          have CX := Lib.hid (fun wx (hx : Below wq.heap.size wq wx) => CA.out wx (Hbq.out.trans (hx.mono Hz.out)) a b hal hbl)
          have HBc := Lib.hid (show Below wq.heap.size wq wq.drew from below_drewN (Below.refl _ _) 1)
          obtain ⟨y, hy⟩ : ∃ y, y = f a b := ⟨_, rfl⟩
          rw [← hy] at Hst CX
          obtain ⟨z, hz⟩ : ∃ z, z = putF f a b a b := ⟨_, rfl⟩
          rw [← hz] at Hfacts
          clear hvs hd hd2 hf2 hg hfacts hst hy hz Hown2
          have ⟨q0, q1, q2⟩ := Hfacts.out wq (Below.refl _ _)
          go_wp2
          go_region_with (go_at_call 152; refine (CX.out _ HBc.out).mono ?_; rintro e w6 ⟨rfl, hb6⟩; have HBd := Lib.hid (HBc.out.trans (hb6.mono HBc.out.size)); clear hb6 HBc; have HBc := HBd; clear HBd; obtain ⟨r0, r1, r2⟩ := Hfacts.out _ HBc.out)
          all_goals
            have HSn := Lib.hid (Hst.out _ HBc.out)
            have HBn := Lib.hid ((Hbq.out.trans (HBc.out.mono Hz.out)).setCell (p := ⟨g, b, none⟩) Hg.out (.int .i64 y))
            clear q0 q1 q2 r0 r1 r2 CX Hfacts Hst
            go_wp2
            go_roundw
            case rel => exact ⟨b + 1, by omega, by go_num, HSn.out, HBn.out⟩
            case measure => simp [intOf]; omega
        · obtain rfl : b = N := by omega
          rw [putF_row] at Hown2
          go_wp2
          go_roundw
          case rel => exact ⟨a + 1, by omega, by go_num, Hown2.out, Hbq.out⟩
          case measure => simp [intOf]; omega
    · obtain rfl : a = N := by omega
      rw [putF_end] at Hown
      go_wp2
      go_ret
      exact ⟨_, rfl, ⟨vs, by rw [tab_len]; exact Hown.out⟩, Hbr.out⟩

end Go.Proofs.Ytncpoljjfhmkeaa

namespace Go.Proofs.Ytncpoljjfhmkeaa
open Go.RowKit

set_option maxRecDepth 100000 in
set_option maxHeartbeats 1600000 in
theorem applied_tt (v : Value) (l : List (List Int)) (k : Nat) (ua : Option Addr) (uc : Nat) (u : List Int) (w : World) (hl : l.length ≤ 14) (hl1 : 1 ≤ l.length) (hk : 1 ≤ k) (hk8 : k ≤ 8) (hv : u.length = l.length) (hvi : allIn u 0 1000000) (hu : IntsAt w ua u) (h : TotAt w v l k) :
    Calls Try.prog 77 #[.iface 62 v, .slice ua u.length uc] w fun e w' => ∃ x, e = .returned x ∧ OwnI w' w.heap.size x (imgL (sumN l k) u l.length l.length 0) ∧ Below w.heap.size w w' := by
  obtain ⟨i0, hi0, hz0, hz1, hz2⟩ := info_parts Try.info_int
  obtain ⟨pg, pc, rfl, _⟩ := (id h)
  have CS := Lib.hid (show ∀ w1, Below w.heap.size w w1 → Calls Try.prog 82 #[.slice (some ⟨pg, 0, none⟩) k pc] w1 fun e w2 => e = .returned (.int .i64 (l.length : Int)) ∧ w2 = w1 from fun w1 hb => ttSize_any _ l k w1 hl hk hk8 (h.below hb))
  have CA := Lib.hid (show ∀ w1, Below w.heap.size w w1 → ∀ r c : Nat, r < l.length → c < l.length → Calls Try.prog 152 #[.slice (some ⟨pg, 0, none⟩) k pc, .int .i64 (r : Int), .int .i64 (c : Int)] w1 fun e w2 => e = .returned (.int .i64 (sumN l k r c)) ∧ Below w1.heap.size w1 w2 from fun w1 hb r c hr hc => ttAt_any _ l k r c w1 hl hk8 hr hc (h.below hb))
  have hmt := fun w' => method_tt_size (some ⟨pg, 0, none⟩) k pc w'
  have hna := fun w' => ahead_tt_size (some ⟨pg, 0, none⟩) k pc w'
  have hmt2 := fun w' => method_tt_at (some ⟨pg, 0, none⟩) k pc w'
  have hna2 := fun w' => ahead_tt_at (some ⟨pg, 0, none⟩) k pc w'
  have HF := Lib.hid (show ∀ r c, r < l.length → c < l.length → 0 ≤ sumN l k r c ∧ sumN l k r c ≤ 100 from fun r c hr hc => by have := sumN_in l k r c; omega)
  obtain ⟨N, hN⟩ : ∃ N, N = l.length := ⟨_, rfl⟩
  obtain ⟨f, hf⟩ : ∃ f, f = sumN l k := ⟨_, rfl⟩
  rw [← hN, ← hf] at CA ⊢
  simp only [← hf, ← hN] at HF
  have HF := Lib.hid (show ∀ r c, r < N → c < N → 0 ≤ f r c ∧ f r c ≤ 100 by exact HF.out)
  rw [← hN] at CS hl hl1
  skip
  have Hvl := Lib.hid (show u.length = N by rw [hN]; exact hv)
  rw [Hvl.out]
  have Hvi := Lib.hid hvi
  have Hu := Lib.hid hu
  have hNm : N ≤ 9223372036854775807 := by omega
  clear h hN hf hv hvi hu
  go_enter Try.func77, Try.ntmps77
  go_wp2_with fail
  refine (CS.out w (Below.refl _ _)).mono ?_
  rintro e w2 ⟨rfl, rfl⟩
  go_wp2_with (at_make; refine wpList_make_full _ rfl _ _ 22 rfl w2.heap.size 3 i0 (.int .i64 0) 1 Try.underlying22 hi0 hz0 hz1 _ _ _ _ N rfl rfl rfl rfl ?c1 ?c2 ?c3 ?_)
  case c1 => rw [hz2]; omega
  case c2 => unfold maxLen; omega
  case c3 => simp
  intro w3 hown hgr
  have Hb := Lib.hid ((Below.refl _ _).grown hgr (Nat.le_refl _) (fun _ h => by cases h))
  obtain ⟨G, hG⟩ : ∃ G, G = w2.heap.size := ⟨_, rfl⟩
  have Hp := Lib.hid (show OwnI w3 w2.heap.size (.slice (some ⟨G, 0, none⟩) N N) (imgL f u N 0 0) by rw [imgL_zero, hG]; exact OwnI.made hown)
  rw [← hG]
  have HG := Lib.hid (show w2.heap.size ≤ G by omega)
  clear hown hgr hG
  go_wp2_with fail
  refine (CS.out w3 Hb.out).mono ?_
  rintro e w4 ⟨rfl, rfl⟩
  go_wp2
  go_loopw [13] (fun x wr => ∃ a : Nat, a ≤ N ∧ x = .int .i64 a ∧ OwnI wr w2.heap.size (.slice (some ⟨G, 0, none⟩) N N) (imgL f u N a 0) ∧ Below w2.heap.size w2 wr) (fun x _ => N - (intOf x).toNat)
  case atStart => exact ⟨0, Nat.zero_le _, rfl, Hp.out, Hb.out⟩
  case round =>
    obtain ⟨a, ha, rfl, hown, hbr⟩ := hrel
    have Hown := Lib.hid hown
    have Hbr := Lib.hid hbr
    clear hown hbr Hp Hb
    by_cases hal : a < N
    · go_wp2_with fail
      refine (CS.out wr Hbr.out).mono ?_
      rintro e w5 ⟨rfl, rfl⟩
      go_wp2
      go_loopw [18] (fun x wq => ∃ b : Nat, b ≤ N ∧ x = .int .i64 b ∧ OwnI wq w2.heap.size (.slice (some ⟨G, 0, none⟩) N N) (imgL f u N a b) ∧ Below w2.heap.size w2 wq) (fun x _ => N - (intOf x).toNat)
      case atStart => exact ⟨0, Nat.zero_le _, rfl, Hown.out, Hbr.out⟩
      case round =>
        rename World => wq
        obtain ⟨b, hb, rfl, hown, hbq⟩ := hrel
        have Hown2 := Lib.hid hown
        have Hbq := Lib.hid hbq
        clear hown hbq Hown Hbr
        by_cases hbl : b < N
        · obtain ⟨ub, uo, hue, hu3⟩ := Hu.out.below Hbq.out b (by rw [Hvl.out]; exact hbl)
          have hd := Hown2.out.cellAt a hal
          rw [imgL_here hal] at hd
          have hfacts : ∀ w'', Below wq.heap.size wq w'' → w''.cell? ⟨G, a, none⟩ = some (.int .i64 (dotF f u a b)) ∧ w''.cell? ⟨ub, uo + b, none⟩ = some (.int .i64 (gi u b)) ∧ w''.frozen? ⟨G, a, none⟩ = false := fun w'' hb => ⟨cell_below hd hb, cell_below hu3 hb, (Hown2.out.below hb).frozenAt a⟩
          have hst : ∀ w'', Below wq.heap.size wq w'' → OwnI (w''.setCell ⟨G, a, none⟩ (.int .i64 (dotF f u a b + f a b * gi u b))) w2.heap.size (.slice (some ⟨G, 0, none⟩) N N) (imgL f u N a (b + 1)) := fun w'' hb => by
            rw [← imgL_step hal]
            exact (Hown2.out.below hb).store a _
          have Hfacts := Lib.hid hfacts
          have Hst := Lib.hid hst
          have Hz := Lib.hid Hbq.out.size
          have CX := Lib.hid (fun wx (hx : Below wq.heap.size wq wx) => CA.out wx (Hbq.out.trans (hx.mono Hz.out)) a b hal hbl)
          have HBc := Lib.hid (show Below wq.heap.size wq wq.drew from below_drewN (Below.refl _ _) 1)
          have hb1 := dotF_bd (r := a) (fun c hc => HF.out a c hal hc) Hvi.out Hvl.out b (by omega)
          have hb3 := mul_bd (HF.out a b hal hbl) (Hvi.out b (by rw [Hvl.out]; exact hbl))
          obtain ⟨y, hy⟩ : ∃ y, y = f a b := ⟨_, rfl⟩
          obtain ⟨z, hz⟩ : ∃ z, z = gi u b := ⟨_, rfl⟩
          obtain ⟨s, hs⟩ : ∃ s, s = dotF f u a b := ⟨_, rfl⟩
          rw [← hy] at CX
          simp only [← hy, ← hz, ← hs] at Hfacts Hst hb1 hb3
          obtain ⟨p, hp⟩ : ∃ p, p = y * z := ⟨_, rfl⟩
          have hw : IntKind.i64.wrap (y * z) = p := by rw [← hp]; exact w64 (by omega)
          rw [← hp] at hb3
          simp only [← hp] at Hst
          subst hue
          clear hd hfacts hst hy hz hs hp Hown2 hu3
          have ⟨q0, q1, q2⟩ := Hfacts.out wq (Below.refl _ _)
          go_wp2
          go_region_with (go_at_call 152; refine (CX.out _ HBc.out).mono ?_; rintro e w6 ⟨rfl, hb6⟩; have HBd := Lib.hid (HBc.out.trans (hb6.mono HBc.out.size)); clear hb6 HBc; have HBc := HBd; clear HBd; obtain ⟨r0, r1, r2⟩ := Hfacts.out _ HBc.out)
          all_goals
            have HSn := Lib.hid (Hst.out _ HBc.out)
            have HBn := Lib.hid ((Hbq.out.trans (HBc.out.mono Hz.out)).setCell (p := ⟨G, a, none⟩) HG.out (.int .i64 (s + p)))
            clear q0 q1 q2 r0 r1 r2 CX Hfacts Hst
            go_wp2
            go_roundw
            case rel => exact ⟨b + 1, by omega, by go_num, HSn.out, HBn.out⟩
            case measure => simp [intOf]; omega
        · obtain rfl : b = N := by omega
          rw [imgL_row] at Hown2
          go_wp2
          go_roundw
          case rel => exact ⟨a + 1, by omega, by go_num, Hown2.out, Hbq.out⟩
          case measure => simp [intOf]; omega
    · obtain rfl : a = N := by omega
      go_wp2
      go_ret
      exact ⟨_, rfl, Hown.out, Hbr.out⟩

set_option maxRecDepth 100000 in
set_option maxHeartbeats 1600000 in
theorem applied_wr (ao : Option Addr) (cp : Nat) (m : List (List Int)) (ua : Option Addr) (uc : Nat) (u : List Int) (w : World) (hl : m.length ≤ 14) (hl1 : 1 ≤ m.length) (hrows : ∀ i, i < m.length → (gr m i).length = m.length ∧ allIn (gr m i) 0 100) (hv : u.length = m.length) (hvi : allIn u 0 1000000) (hu : IntsAt w ua u) (h : MatAt w ao m) :
    Calls Try.prog 77 #[.iface 67 (.slice ao m.length cp), .slice ua u.length uc] w fun e w' => ∃ x, e = .returned x ∧ OwnI w' w.heap.size x (imgL (fun r c => gi (gr m r) c) u m.length m.length 0) ∧ Below w.heap.size w w' := by
  obtain ⟨i0, hi0, hz0, hz1, hz2⟩ := info_parts Try.info_int
  have CS := Lib.hid (show ∀ w1, Below w.heap.size w w1 → Calls Try.prog 156 #[.slice ao m.length cp] w1 fun e w2 => e = .returned (.int .i64 (m.length : Int)) ∧ w2 = w1 from fun w1 hb => wrSize_any ao cp m w1 hl)
  have CA := Lib.hid (show ∀ w1, Below w.heap.size w w1 → ∀ r c : Nat, r < m.length → c < m.length → Calls Try.prog 155 #[.slice ao m.length cp, .int .i64 (r : Int), .int .i64 (c : Int)] w1 fun e w2 => e = .returned (.int .i64 ((fun r c => gi (gr m r) c) r c)) ∧ Below w1.heap.size w1 w2 from fun w1 hb r c hr hc => (wrAt_any ao cp m r c w1 hl hr (hrows r hr).1 hc (h.below hb)).mono fun e w2 h2 => ⟨h2.1, by rw [h2.2]; exact Below.refl _ _⟩)
  have hmt := fun w' => method_wr_size ao m.length cp w'
  have hna := fun w' => ahead_wr_size ao m.length cp w'
  have hmt2 := fun w' => method_wr_at ao m.length cp w'
  have hna2 := fun w' => ahead_wr_at ao m.length cp w'
  have HF := Lib.hid (show ∀ r c, r < m.length → c < m.length → 0 ≤ (fun r c => gi (gr m r) c) r c ∧ (fun r c => gi (gr m r) c) r c ≤ 100 from fun r c hr hc => (hrows r hr).2 c (by rw [(hrows r hr).1]; exact hc))
  obtain ⟨N, hN⟩ : ∃ N, N = m.length := ⟨_, rfl⟩
  obtain ⟨f, hf⟩ : ∃ f, f = (fun r c => gi (gr m r) c) := ⟨_, rfl⟩
  rw [← hN, ← hf] at CA ⊢
  simp only [← hN] at HF
  have HF := Lib.hid (show ∀ r c, r < N → c < N → 0 ≤ f r c ∧ f r c ≤ 100 by rw [hf]; exact HF.out)
  rw [← hN] at CS hl hl1
  rw [← hN] at hmt hna hmt2 hna2
  have Hvl := Lib.hid (show u.length = N by rw [hN]; exact hv)
  rw [Hvl.out]
  have Hvi := Lib.hid hvi
  have Hu := Lib.hid hu
  have hNm : N ≤ 9223372036854775807 := by omega
  clear h hN hf hv hvi hu
  go_enter Try.func77, Try.ntmps77
  go_wp2_with fail
  refine (CS.out w (Below.refl _ _)).mono ?_
  rintro e w2 ⟨rfl, rfl⟩
  go_wp2_with (at_make; refine wpList_make_full _ rfl _ _ 22 rfl w2.heap.size 3 i0 (.int .i64 0) 1 Try.underlying22 hi0 hz0 hz1 _ _ _ _ N rfl rfl rfl rfl ?c1 ?c2 ?c3 ?_)
  case c1 => rw [hz2]; omega
  case c2 => unfold maxLen; omega
  case c3 => simp
  intro w3 hown hgr
  have Hb := Lib.hid ((Below.refl _ _).grown hgr (Nat.le_refl _) (fun _ h => by cases h))
  obtain ⟨G, hG⟩ : ∃ G, G = w2.heap.size := ⟨_, rfl⟩
  have Hp := Lib.hid (show OwnI w3 w2.heap.size (.slice (some ⟨G, 0, none⟩) N N) (imgL f u N 0 0) by rw [imgL_zero, hG]; exact OwnI.made hown)
  rw [← hG]
  have HG := Lib.hid (show w2.heap.size ≤ G by omega)
  clear hown hgr hG
  go_wp2_with fail
  refine (CS.out w3 Hb.out).mono ?_
  rintro e w4 ⟨rfl, rfl⟩
  go_wp2
  go_loopw [13] (fun x wr => ∃ a : Nat, a ≤ N ∧ x = .int .i64 a ∧ OwnI wr w2.heap.size (.slice (some ⟨G, 0, none⟩) N N) (imgL f u N a 0) ∧ Below w2.heap.size w2 wr) (fun x _ => N - (intOf x).toNat)
  case atStart => exact ⟨0, Nat.zero_le _, rfl, Hp.out, Hb.out⟩
  case round =>
    obtain ⟨a, ha, rfl, hown, hbr⟩ := hrel
    have Hown := Lib.hid hown
    have Hbr := Lib.hid hbr
    clear hown hbr Hp Hb
    by_cases hal : a < N
    · go_wp2_with fail
      refine (CS.out wr Hbr.out).mono ?_
      rintro e w5 ⟨rfl, rfl⟩
      go_wp2
      go_loopw [18] (fun x wq => ∃ b : Nat, b ≤ N ∧ x = .int .i64 b ∧ OwnI wq w2.heap.size (.slice (some ⟨G, 0, none⟩) N N) (imgL f u N a b) ∧ Below w2.heap.size w2 wq) (fun x _ => N - (intOf x).toNat)
      case atStart => exact ⟨0, Nat.zero_le _, rfl, Hown.out, Hbr.out⟩
      case round =>
        rename World => wq
        obtain ⟨b, hb, rfl, hown, hbq⟩ := hrel
        have Hown2 := Lib.hid hown
        have Hbq := Lib.hid hbq
        clear hown hbq Hown Hbr
        by_cases hbl : b < N
        · obtain ⟨ub, uo, hue, hu3⟩ := Hu.out.below Hbq.out b (by rw [Hvl.out]; exact hbl)
          have hd := Hown2.out.cellAt a hal
          rw [imgL_here hal] at hd
          have hfacts : ∀ w'', Below wq.heap.size wq w'' → w''.cell? ⟨G, a, none⟩ = some (.int .i64 (dotF f u a b)) ∧ w''.cell? ⟨ub, uo + b, none⟩ = some (.int .i64 (gi u b)) ∧ w''.frozen? ⟨G, a, none⟩ = false := fun w'' hb => ⟨cell_below hd hb, cell_below hu3 hb, (Hown2.out.below hb).frozenAt a⟩
          have hst : ∀ w'', Below wq.heap.size wq w'' → OwnI (w''.setCell ⟨G, a, none⟩ (.int .i64 (dotF f u a b + f a b * gi u b))) w2.heap.size (.slice (some ⟨G, 0, none⟩) N N) (imgL f u N a (b + 1)) := fun w'' hb => by
            rw [← imgL_step hal]
            exact (Hown2.out.below hb).store a _
          have Hfacts := Lib.hid hfacts
          have Hst := Lib.hid hst
          have Hz := Lib.hid Hbq.out.size
          have CX := Lib.hid (fun wx (hx : Below wq.heap.size wq wx) => CA.out wx (Hbq.out.trans (hx.mono Hz.out)) a b hal hbl)
          have HBc := Lib.hid (show Below wq.heap.size wq wq.drew from below_drewN (Below.refl _ _) 1)
          have hb1 := dotF_bd (r := a) (fun c hc => HF.out a c hal hc) Hvi.out Hvl.out b (by omega)
          have hb3 := mul_bd (HF.out a b hal hbl) (Hvi.out b (by rw [Hvl.out]; exact hbl))
          obtain ⟨y, hy⟩ : ∃ y, y = f a b := ⟨_, rfl⟩
          obtain ⟨z, hz⟩ : ∃ z, z = gi u b := ⟨_, rfl⟩
          obtain ⟨s, hs⟩ : ∃ s, s = dotF f u a b := ⟨_, rfl⟩
          rw [← hy] at CX
          simp only [← hy, ← hz, ← hs] at Hfacts Hst hb1 hb3
          obtain ⟨p, hp⟩ : ∃ p, p = y * z := ⟨_, rfl⟩
          have hw : IntKind.i64.wrap (y * z) = p := by rw [← hp]; exact w64 (by omega)
          rw [← hp] at hb3
          simp only [← hp] at Hst
          subst hue
          clear hd hfacts hst hy hz hs hp Hown2 hu3
          have ⟨q0, q1, q2⟩ := Hfacts.out wq (Below.refl _ _)
          go_wp2
          go_region_with (go_at_call 155; refine (CX.out _ HBc.out).mono ?_; rintro e w6 ⟨rfl, hb6⟩; have HBd := Lib.hid (HBc.out.trans (hb6.mono HBc.out.size)); clear hb6 HBc; have HBc := HBd; clear HBd; obtain ⟨r0, r1, r2⟩ := Hfacts.out _ HBc.out)
          all_goals
            have HSn := Lib.hid (Hst.out _ HBc.out)
            have HBn := Lib.hid ((Hbq.out.trans (HBc.out.mono Hz.out)).setCell (p := ⟨G, a, none⟩) HG.out (.int .i64 (s + p)))
            clear q0 q1 q2 r0 r1 r2 CX Hfacts Hst
            go_wp2
            go_roundw
            case rel => exact ⟨b + 1, by omega, by go_num, HSn.out, HBn.out⟩
            case measure => simp [intOf]; omega
        · obtain rfl : b = N := by omega
          rw [imgL_row] at Hown2
          go_wp2
          go_roundw
          case rel => exact ⟨a + 1, by omega, by go_num, Hown2.out, Hbq.out⟩
          case measure => simp [intOf]; omega
    · obtain rfl : a = N := by omega
      go_wp2
      go_ret
      exact ⟨_, rfl, Hown.out, Hbr.out⟩

end Go.Proofs.Ytncpoljjfhmkeaa

