/- Parts of proofs: contracts and plain facts. Conditions: as each says. -/
import Derived.Test.YtgdijjfipicodaaK06
import Derived.Deep.RegionWith
import Derived.Deep.Cut
namespace Go.Proofs.Ytgdijjfipicodaa
open Go.RowKit

theorem nums_new (w : World) (xs : List Int) : IntsAt (w.alloc (.cells (xs.map (Value.int .i64)).toArray 3)) (some ⟨w.heap.size, 0, none⟩) xs := fun i hi => ⟨w.heap.size, 0, rfl, by
  rw [Nat.zero_add, cell_new]
  simp [gi, List.getD, hi]⟩

set_option maxRecDepth 100000 in
set_option maxHeartbeats 800000 in
theorem numsIn_any (ao : Option Addr) (c : Nat) (xs : List Int) (lo hi : Int) (w : World) (hn : xs.length ≤ 1048576) (hx : IntsAt w ao xs) :
    Calls Try.prog 44 #[.int .i64 lo, .int .i64 hi, .slice ao xs.length c] w fun e w' => Ans (allIn xs lo hi) e ∧ w = w' := by
  have hmx : xs.length ≤ 9223372036854775807 := by omega
  have Hx := Lib.hid hx
  clear hx
  go_enter Try.func44, Try.ntmps44
  go_wp2
  go_loop [11] (fun i => ∃ k : Nat, k ≤ xs.length ∧ i = .int .i64 k ∧ ∀ j, j < k → lo ≤ gi xs j ∧ gi xs j ≤ hi) (fun i => xs.length - (intOf i).toNat)
  case atStart => exact ⟨0, Nat.zero_le _, rfl, fun j hj => absurd hj (by omega)⟩
  case round =>
    obtain ⟨k, hk, rfl, hd⟩ := hrel
    have Hd := Lib.hid hd
    clear hd
    by_cases hlt : k < xs.length
    · obtain ⟨b1, o1, rfl, hc1⟩ := Hx.out k hlt
      have Hno := Lib.hid (fun (h : ¬(lo ≤ gi xs k ∧ gi xs k ≤ hi)) (h2 : allIn xs lo hi) => h (h2 k hlt))
      have Hyes := Lib.hid (show (lo ≤ gi xs k ∧ gi xs k ≤ hi) → ∀ j, j < k + 1 → lo ≤ gi xs j ∧ gi xs j ≤ hi from fun h j hj => by
        by_cases e : j = k
        · subst e; exact h
        · exact Hd.out j (by omega))
      obtain ⟨x, hx⟩ : ∃ x, x = gi xs k := ⟨_, rfl⟩
      rw [← hx] at hc1 Hno Hyes
      clear hx
      by_cases h1 : x < lo
      · have hd1 : decide (x < lo) = true := by simpa using h1
        have H := Lib.hid (Hno.out (fun h => by omega))
        clear Hno Hyes h1
        go_wp2
        go_ret
        exact ⟨Ans.no H.out, rfl⟩
      · have hd1 : decide (x < lo) = false := by simpa using h1
        by_cases h2 : hi < x
        · have hd2 : decide (hi < x) = true := by simpa using h2
          have H := Lib.hid (Hno.out (fun h => by omega))
          clear Hno Hyes h1 h2
          go_wp2
          go_ret
          exact ⟨Ans.no H.out, rfl⟩
        · have hd2 : decide (hi < x) = false := by simpa using h2
          have H := Lib.hid (Hyes.out ⟨by omega, by omega⟩)
          clear Hno Hyes h1 h2
          go_wp2
          go_round
          case rel => exact ⟨k + 1, by omega, by go_num, H.out⟩
          case measure => simp [intOf]; omega
    · obtain rfl : k = xs.length := by omega
      go_wp2
      go_ret
      exact ⟨Ans.yes Hd.out, rfl⟩

theorem allIn_num (x lo hi : Int) : allIn [x] lo hi ↔ lo ≤ x ∧ x ≤ hi := by
  refine ⟨fun h => h 0 (by simp), fun h i hi => ?_⟩
  obtain rfl : i = 0 := by simpa using hi
  exact h

set_option maxRecDepth 100000 in
set_option maxHeartbeats 800000 in
theorem isRanked_any (n : Int) (w : World) :
    Calls Try.prog 68 #[.int .i64 n] w fun e w' => Ans (1 ≤ n ∧ n ≤ 4) e ∧ Below w.heap.size w w' := by
  go_enter Try.func68, Try.ntmps68
  go_wp2_with fail
  refine (numsIn_any (some ⟨w.heap.size, 0, none⟩) 1 [n] 1 4 _ (by simp) (nums_new w [n])).mono ?_
  rintro e w2 ⟨ha, rfl⟩
  obtain ⟨b, rfl, hb⟩ := ha.iff (allIn_num n 1 4)
  have Hb := Lib.hid hb
  clear ha hb
  go_wp2
  go_ret
  exact ⟨⟨b, rfl, Hb.out⟩, (Below.refl _ _).alloc (Nat.le_refl _) _⟩

theorem nextPoint_any (ao : Option Addr) (c : Nat) (p : List Int) (i : Nat) (w : World) (h2 : 2 ≤ p.length) (h12 : p.length ≤ 12) (hi : i < p.length) :
    Calls Try.prog 137 #[.slice ao p.length c, .int .i64 (i : Int)] w fun e w' => e = .returned (.int .i64 (nx p i : Int)) ∧ w' = w := by
  have hr1 := rem_nx h2 i
  have hr2 := trem_nx h2 i
  have hn0 : ((p.length : Int) == 0) = false := beq_false_of_ne (by omega)
  obtain ⟨y, hy⟩ : ∃ y, nx p i = y := ⟨_, rfl⟩
  rw [hy] at hr1 hr2 ⊢
  clear hy
  go_enter Try.func137, Try.ntmps137
  go_wp2
  go_ret
  exact ⟨rfl, rfl⟩

set_option maxRecDepth 100000 in
set_option maxHeartbeats 1600000 in
theorem joined_any (ao : Option Addr) (c : Nat) (p : List Int) (i : Nat) (w : World) (hp : Lk p) (hi : i < p.length) (hx : IntsAt w ao p) :
    Calls Try.prog 125 #[.slice ao p.length c, .int .i64 (i : Int)] w fun e w' => ∃ v, e = .returned v ∧ OwnI w' w.heap.size v (joinL p i) ∧ Below w.heap.size w w' := by
  have CN := Lib.hid (nextPoint_any ao c p i w hp.lo hp.hi hi)
  obtain ⟨k, A, B, hk, hA, hB, k1, A1, B1, ki, Ai, Bk, gA, gB⟩ := hp.four hi
  obtain ⟨b0, o0, rfl, hci⟩ := hx i hi
  obtain ⟨b1, o1, he, hck⟩ := hx k k1
  simp only [Option.some.injEq, Addr.mk.injEq, and_true] at he
  obtain ⟨rfl, rfl⟩ := he
  have h2 := hp.lo
  have h12 := hp.hi
  rw [hk] at CN
  rw [hA] at hci
  rw [hB] at hck
  have hmx : p.length ≤ 9223372036854775807 := by omega
  have Hx := Lib.hid hx
  have HJ := Lib.hid (show joinL p i = (((p.set A (B : Int)).set B (A : Int)).set i (k : Int)).set k (i : Int) by unfold joinL; rw [hk, hA, hB, Int.toNat_natCast, Int.toNat_natCast])
  have hbw : b0 < w.heap.size := World.block_lt_of_cell? _ _ hci
  clear hp hx hk hA hB gA gB
  go_enter Try.func125, Try.ntmps125
  go_wp2_with fail
  refine CN.out.mono ?_
  rintro e w1 ⟨rfl, rfl⟩
  clear CN
  go_wp2_with fail
  refine (sClone_any (some ⟨b0, o0, none⟩) c p w1 (by omega) Hx.out).mono ?_
  rintro e w2 ⟨v, rfl, hv, hb⟩
  have hci2 := cell_below hci hb
  have hck2 := cell_below hck hb
  obtain ⟨va, vc, rfl, _, _, _⟩ := hv.read
  obtain ⟨g, rfl, hg, _⟩ := hv.isAt (by omega)
  have P1 := hv.store A (B : Int)
  have P2 : OwnI ((w2.setCell ⟨g, A, none⟩ (.int .i64 (B : Int))).setCell ⟨g, B, none⟩ (.int .i64 (A : Int))).drew w1.heap.size (.slice (some ⟨g, 0, none⟩) p.length vc) ((p.set A (B : Int)).set B (A : Int)) := (P1.store B (A : Int)).drew
  have HP2 := Lib.hid P2
  have d0 := hv.cellAt A A1
  have f0 := hv.frozenAt A
  have d1 := P1.cellAt B B1
  have f1 := P1.frozenAt B
  have Hb2 := Lib.hid ((hb.setCell (p := ⟨g, A, none⟩) hg (.int .i64 (B : Int))).setCell (p := ⟨g, B, none⟩) hg (.int .i64 (A : Int))).drew
  clear hv hb hci hck P1 P2
  go_upto_region 3 with (fail)
  go_region
  all_goals
    clear d0 f0 d1 f1 hci2 hck2
    generalize World.drew _ = wx at HP2 Hb2 ⊢
    have d2 := HP2.out.cellAt i hi
    have f2 := HP2.out.frozenAt i
    have P3 := HP2.out.store i (k : Int)
    have d3 := P3.cellAt k k1
    have f3 := P3.frozenAt k
    have HP := Lib.hid (P3.store k (i : Int))
    have Hb := Lib.hid ((Hb2.out.setCell (p := ⟨g, i, none⟩) hg (.int .i64 (k : Int))).setCell (p := ⟨g, k, none⟩) hg (.int .i64 (i : Int)))
    clear P3
    go_wp2
    go_ret
    exact ⟨_, rfl, by rw [HJ.out]; have h := HP.out; simpa using h, Hb.out⟩

theorem wordOk_one {p : List Int} {i : Int} : wordOk p [i] ↔ isPat p ∧ 0 ≤ i ∧ i < p.length := by
  unfold wordOk
  rw [allIn_num]
  constructor
  · rintro ⟨h, _, h1, h2⟩; exact ⟨h, h1, by omega⟩
  · rintro ⟨h, h1, h2⟩; exact ⟨h, by simp, h1, by omega⟩

end Go.Proofs.Ytgdijjfipicodaa

namespace Go.Proofs.Ytgdijjfipicodaa
open Go.RowKit

theorem gi_app (xs ys : List Int) (i : Nat) : gi (xs ++ ys) i = if i < xs.length then gi xs i else gi ys (i - xs.length) := by
  unfold gi
  by_cases h : i < xs.length
  · rw [if_pos h]; simp [List.getD, List.getElem?_append_left h]
  · rw [if_neg h]; simp [List.getD, List.getElem?_append_right (show xs.length ≤ i by omega)]
theorem gi_map {f : Int → Int} {xs : List Int} {i : Nat} (h : i < xs.length) : gi (xs.map f) i = f (gi xs i) := by
  unfold gi; simp [List.getD, h]
theorem encl_first (a b : List Int) : gi (encl a b) 0 = ((a.length + 1 : Nat) : Int) := rfl
theorem encl_in {a b : List Int} {i : Nat} (h : i < a.length) : gi (encl a b) (1 + i) = 1 + gi a i := by
  unfold encl
  rw [List.cons_append, show 1 + i = i + 1 from Nat.add_comm 1 i, gi_cons_succ, gi_app, List.length_map, if_pos h, gi_map h]
theorem encl_last (a b : List Int) : gi (encl a b) (a.length + 1) = 0 := by
  unfold encl
  rw [List.cons_append, gi_cons_succ, gi_app, List.length_map, if_neg (by omega), Nat.sub_self, gi_cons_zero]
theorem encl_behind {a b : List Int} {i : Nat} (h : i < b.length) : gi (encl a b) (a.length + 1 + 1 + i) = ((a.length + 1 : Nat) : Int) + 1 + gi b i := by
  unfold encl
  rw [List.cons_append, show a.length + 1 + 1 + i = (a.length + 1 + i) + 1 from by omega, gi_cons_succ, gi_app, List.length_map, if_neg (by omega), show a.length + 1 + i - a.length = i + 1 from by omega, gi_cons_succ, gi_map h]

set_option maxRecDepth 100000 in
set_option maxHeartbeats 3200000 in
theorem enclose_any (a1 a2 : Option Addr) (c1 c2 : Nat) (a b : List Int) (w : World) (hla : a.length ≤ 12) (hlb : b.length ≤ 12) (ha : ∀ i, i < a.length → 0 ≤ gi a i ∧ gi a i ≤ 12) (hb : ∀ i, i < b.length → 0 ≤ gi b i ∧ gi b i ≤ 12)
    (h1 : IntsAt w a1 a) (h2 : IntsAt w a2 b) :
    Calls Try.prog 135 #[.slice a1 a.length c1, .slice a2 b.length c2] w fun e w' => ∃ v, e = .returned v ∧ OwnI w' w.heap.size v (encl a b) ∧ Below w.heap.size w w' := by
  obtain ⟨i0, hi, hz0, hz1, hz2⟩ := info_parts Try.info_int
  have H1 := Lib.hid h1
  have H2 := Lib.hid h2
  have Ha := Lib.hid ha
  have Hb := Lib.hid hb
  obtain ⟨A, hA⟩ : ∃ A, A = a.length := ⟨_, rfl⟩
  obtain ⟨B, hB⟩ : ∃ B, B = b.length := ⟨_, rfl⟩
  obtain ⟨L, hL⟩ : ∃ L : Nat, (A : Int) + 1 = (L : Int) := ⟨A + 1, by omega⟩
  obtain ⟨N, hN⟩ : ∃ N : Nat, (L : Int) + 1 + (B : Int) = (N : Int) := ⟨L + 1 + B, by omega⟩
  rw [← hA] at hla ⊢
  rw [← hB] at hlb ⊢
  have HA := Lib.hid hA
  have HB := Lib.hid hB
  clear h1 h2 ha hb hA hB
  go_enter Try.func135, Try.ntmps135
  go_wp2_with (at_make; refine wpList_make_full _ rfl _ _ 24 rfl w.heap.size 3 i0 (.int .i64 0) 1 Try.underlying24 hi hz0 hz1 _ _ _ _ N rfl rfl rfl rfl ?c1 ?c2 ?c3 ?_)
  case c1 => rw [hz2]; omega
  case c2 => unfold maxLen; omega
  case c3 => simp
  intro w1 hown hgr
  have hb1 : Below w.heap.size w w1 := (Below.refl _ _).grown hgr (Nat.le_refl _) (fun _ h => by cases h)
  have hown1 := OwnI.made hown
  have hl1 := hown1.len
  have hd1 := hown1.cellAt 0 (by omega)
  have hf1 := hown1.frozenAt 0
  have hown2 := hown1.store 0 (L : Int)
  have hd2 := hown2.cellAt L (by omega)
  have hf2 := hown2.frozenAt L
  have hown3 := hown2.store L 0
  have Hown3 := Lib.hid hown3
  have Hb3 := Lib.hid ((hb1.setCell (p := ⟨w.heap.size, 0, none⟩) (Nat.le_refl _) (.int .i64 (L : Int))).setCell (p := ⟨w.heap.size, L, none⟩) (Nat.le_refl _) (.int .i64 0))
  have Hg0 := Lib.hid (show gi (((List.replicate N (0 : Int)).set 0 (L : Int)).set L 0) 0 = (L : Int) by
    rw [gi_set (by rw [List.length_set, List.length_replicate]; omega), if_neg (by omega), gi_set (by rw [List.length_replicate]; omega), if_pos rfl])
  have HgL := Lib.hid (show gi (((List.replicate N (0 : Int)).set 0 (L : Int)).set L 0) L = 0 by
    rw [gi_set (by rw [List.length_set, List.length_replicate]; omega), if_pos rfl])
  clear hown hgr hb1 hown1 hl1 hown2 hown3
  go_wp2
  go_loopw [28] (fun i wr => ∃ (k : Nat) (q : List Int), k ≤ A ∧ i = .int .i64 k ∧ OwnI wr w.heap.size (.slice (some ⟨w.heap.size, 0, none⟩) N N) q ∧ gi q 0 = (L : Int) ∧ gi q L = 0 ∧ (∀ j, j < k → gi q (1 + j) = 1 + gi a j) ∧ Below w.heap.size w wr) (fun i _ => A - (intOf i).toNat)
  case atStart => exact ⟨0, _, Nat.zero_le _, rfl, Hown3.out, Hg0.out, HgL.out, fun j hj => absurd hj (by omega), Hb3.out⟩
  case round =>
    obtain ⟨k, q, hk, rfl, hown, hq0, hqL, hqa, hbr⟩ := hrel
    have Hq := Lib.hid (And.intro hq0 (And.intro hqL hqa))
    clear hq0 hqL hqa Hown3 Hb3 hd1 hd2 hf1 hf2 Hg0 HgL
    by_cases hlt : k < A
    · obtain ⟨b1, o1, rfl, hc1⟩ := H1.out.below hbr k (by rw [← HA.out]; exact hlt)
      have hx := Ha.out k (by rw [← HA.out]; exact hlt)
      obtain ⟨r, hr⟩ : ∃ r : Nat, (1 : Int) + (k : Int) = (r : Int) := ⟨1 + k, by omega⟩
      have hrN : r < N := by omega
      have hl := hown.len
      have hd := hown.cellAt r hrN
      have hf := hown.frozenAt r
      have Hst := Lib.hid (hown.store r (1 + gi a k))
      have Hbs := Lib.hid (hbr.setCell (p := ⟨w.heap.size, r, none⟩) (Nat.le_refl _) (.int .i64 (1 + gi a k)))
      have Hnew := Lib.hid (show gi (q.set r (1 + gi a k)) 0 = (L : Int) ∧ gi (q.set r (1 + gi a k)) L = 0 ∧ ∀ j, j < k + 1 → gi (q.set r (1 + gi a k)) (1 + j) = 1 + gi a j by
        obtain ⟨g1, g2, g3⟩ := Hq.out
        refine ⟨by rw [gi_set (by omega), if_neg (by omega)]; exact g1, by rw [gi_set (by omega), if_neg (by omega)]; exact g2, fun j hj => ?_⟩
        rw [gi_set (by omega)]
        by_cases e : j = k
        · subst e; rw [if_pos (by omega)]
        · rw [if_neg (by omega)]; exact g3 j (by omega))
      obtain ⟨x, hxe⟩ : ∃ x, x = gi a k := ⟨_, rfl⟩
      rw [← hxe] at hc1 hx Hst Hbs Hnew
      clear hown hbr hxe hl Hq
      go_wp2
      go_roundw
      case rel => exact ⟨k + 1, _, by omega, by go_num, Hst.out, Hnew.out.1, Hnew.out.2.1, Hnew.out.2.2, Hbs.out⟩
      case measure => simp [intOf]; omega
    · obtain rfl : k = A := by omega
      have Hown := Lib.hid hown
      have Hbr := Lib.hid hbr
      clear hown hbr
      go_wp2
      go_loopw [42] (fun i wr => ∃ (t : Nat) (q : List Int), t ≤ B ∧ i = .int .i64 t ∧ OwnI wr w.heap.size (.slice (some ⟨w.heap.size, 0, none⟩) N N) q ∧ gi q 0 = (L : Int) ∧ gi q L = 0 ∧ (∀ j, j < k → gi q (1 + j) = 1 + gi a j) ∧ (∀ j, j < t → gi q (L + 1 + j) = (L : Int) + 1 + gi b j) ∧ Below w.heap.size w wr) (fun i _ => B - (intOf i).toNat)
      case atStart => exact ⟨0, q, Nat.zero_le _, rfl, Hown.out, Hq.out.1, Hq.out.2.1, Hq.out.2.2, fun j hj => absurd hj (by omega), Hbr.out⟩
      case round =>
        obtain ⟨t, q, ht, rfl, hown, hq0, hqL, hqa, hqb, hbr⟩ := hrel
        have Hq := Lib.hid (And.intro hq0 (And.intro hqL (And.intro hqa hqb)))
        clear hq0 hqL hqa hqb Hown Hbr
        by_cases htl : t < B
        · obtain ⟨b1, o1, rfl, hc1⟩ := H2.out.below hbr t (by rw [← HB.out]; exact htl)
          have hx := Hb.out t (by rw [← HB.out]; exact htl)
          obtain ⟨M, hM⟩ : ∃ M : Nat, (L : Int) + 1 = (M : Int) := ⟨L + 1, by omega⟩
          obtain ⟨r, hr⟩ : ∃ r : Nat, (M : Int) + (t : Int) = (r : Int) := ⟨M + t, by omega⟩
          have hrN : r < N := by omega
          have hl := hown.len
          have hd := hown.cellAt r hrN
          have hf := hown.frozenAt r
          have Hst := Lib.hid (hown.store r ((M : Int) + gi b t))
          have Hbs := Lib.hid (hbr.setCell (p := ⟨w.heap.size, r, none⟩) (Nat.le_refl _) (.int .i64 ((M : Int) + gi b t)))
          have Hnew := Lib.hid (show gi (q.set r ((M : Int) + gi b t)) 0 = (L : Int) ∧ gi (q.set r ((M : Int) + gi b t)) L = 0 ∧ (∀ j, j < k → gi (q.set r ((M : Int) + gi b t)) (1 + j) = 1 + gi a j) ∧ ∀ j, j < t + 1 → gi (q.set r ((M : Int) + gi b t)) (L + 1 + j) = (L : Int) + 1 + gi b j by
            obtain ⟨g1, g2, g3, g4⟩ := Hq.out
            refine ⟨by rw [gi_set (by omega), if_neg (by omega)]; exact g1, by rw [gi_set (by omega), if_neg (by omega)]; exact g2, fun j hj => by rw [gi_set (by omega), if_neg (by omega)]; exact g3 j hj, fun j hj => ?_⟩
            rw [gi_set (by omega)]
            by_cases e : j = t
            · subst e; rw [if_pos (by omega)]; omega
            · rw [if_neg (by omega)]; exact g4 j (by omega))
          obtain ⟨x, hxe⟩ : ∃ x, x = gi b t := ⟨_, rfl⟩
          rw [← hxe] at hc1 hx Hst Hbs Hnew
          have hMb : M ≤ 20 := by omega
          clear hown hbr hxe hl Hq
          go_wp2
          go_roundw
          case rel => exact ⟨t + 1, _, by omega, by go_num, Hst.out, Hnew.out.1, Hnew.out.2.1, Hnew.out.2.2.1, Hnew.out.2.2.2, Hbs.out⟩
          case measure => simp [intOf]; omega
        · obtain rfl : t = B := by omega
          have he : q = encl a b := by
            obtain ⟨g1, g2, g3, g4⟩ := Hq.out
            have hl := hown.len
            have hA := HA.out
            have hB := HB.out
            refine ext_gi (by rw [encl_len]; omega) fun i hi => ?_
            by_cases e0 : i = 0
            · subst e0; rw [g1, encl_first]; omega
            · by_cases e1 : i ≤ a.length
              · obtain ⟨j, rfl⟩ : ∃ j, i = 1 + j := ⟨i - 1, by omega⟩
                rw [g3 j (by omega), encl_in (by omega)]
              · by_cases e2 : i = a.length + 1
                · subst e2
                  rw [encl_last, show a.length + 1 = L from by omega]
                  exact g2
                · obtain ⟨j, rfl⟩ : ∃ j, i = a.length + 1 + 1 + j := ⟨i - (a.length + 1 + 1), by omega⟩
                  rw [encl_behind (by omega), show a.length + 1 + 1 + j = L + 1 + j from by omega, g4 j (by omega)]
                  omega
          have Hown := Lib.hid hown
          have Hbr := Lib.hid hbr
          have He := Lib.hid he
          clear hown hbr he
          go_wp2
          go_ret
          exact ⟨_, rfl, by rw [← He.out]; exact Hown.out, Hbr.out⟩

theorem patterns_zero (f : Nat) (w : World) : Calls Try.prog 123 #[.int .i64 0] w fun e w' => ∃ v, e = .returned v ∧ OwnM w' w.heap.size v (patP f 0) ∧ Below w.heap.size w w' := by
  have e0 : patP f 0 = [[]] := by cases f <;> rfl
  have Hb := Lib.hid ((Below.refl w.heap.size w).alloc (Nat.le_refl _) (.cells #[.slice none 0 0] 24))
  have Hres := Lib.hid (show OwnM (w.alloc (.cells #[.slice none 0 0] 24)) w.heap.size (.slice (some ⟨w.heap.size, 0, none⟩) 1 1) [[]] from
    ⟨[.slice none 0 0], World.ownsRow_lit w #[.slice none 0 0] 1 (Nat.le_refl _) (by unfold maxLen; omega) rfl, fun i hi => by obtain rfl : i = 0 := (by simpa using hi); exact OwnI.nil _ _, fun i j hij hj => by simp at hj; omega⟩)
  rw [e0]
  clear e0
  go_enter Try.func123, Try.ntmps123
  go_wp2
  go_ret
  exact ⟨_, rfl, Hres.out, Hb.out⟩

set_option maxRecDepth 100000 in
set_option maxHeartbeats 1600000 in
theorem patterns_any : ∀ f : Nat, f < 7 → ∀ n : Nat, n ≤ f → ∀ w : World, Calls Try.prog 123 #[.int .i64 (n : Int)] w fun e w' => ∃ v, e = .returned v ∧ OwnM w' w.heap.size v (patP f n) ∧ Below w.heap.size w w' := by
  intro f
  induction f with
  | zero =>
    intro _ n hn w
    obtain rfl : n = 0 := by omega
    exact patterns_zero 0 w
  | succ f ih =>
    intro hf n hn w
    cases n with
    | zero => exact patterns_zero _ w
    | succ n =>
      have Ih := Lib.hid (ih (by omega))
      obtain ⟨j0, hj, hy0, hy1, hy2⟩ := info_parts Try.info_ints
      have Hend := Lib.hid (partP_end f n)
      obtain ⟨N, hN⟩ : ∃ N, N = n + 1 := ⟨_, rfl⟩
      rw [← hN] at Hend hn ⊢
      have hne : ((N : Int) == 0) = false := beq_false_of_ne (by omega)
      have hN6 : N ≤ 6 := by omega
      have hNa : N ≤ n + 1 := by omega
      have hNb : n + 1 ≤ N := by omega
      clear hN
      clear ih
      go_enter Try.func123, Try.ntmps123
      go_wp2
      go_loopw [3, 13] (fun out i wr => ∃ k : Nat, k ≤ N ∧ i = .int .i64 k ∧ OwnM wr w.heap.size out (partP f n k 0 0) ∧ Below w.heap.size w wr) (fun _ i _ => N - (intOf i).toNat)
      case atStart => exact ⟨0, Nat.zero_le _, rfl, by rw [partP_zero]; exact OwnM.nil _ _, Below.refl _ _⟩
      case round =>
        obtain ⟨k, hk, rfl, hown, hbr⟩ := hrel
        have Hown := Lib.hid hown
        have Hbr := Lib.hid hbr
        obtain ⟨wo, rfl⟩ : ∃ wo : World, wo = wr := ⟨_, rfl⟩
        clear hown hbr
        by_cases hlt : k < N
        · have Hk := Lib.hid (partP_k f n k)
          have Hok := Lib.hid (patP_ok f (by omega) k (by omega))
          go_wp2_with fail
          refine (Ih.out k (by omega) wo).mono ?_
          rintro e wA ⟨va, rfl, hva, hbA⟩
          obtain ⟨aA, cA, vsA, rfl, hpA, _, _⟩ := hva.open
          have HPA := Lib.hid hpA
          have HBA := Lib.hid hbA
          obtain ⟨la, hla⟩ : ∃ la, la = (patP f k).length := ⟨_, rfl⟩
          have hla2 : la ≤ 132 := by rw [hla]; exact Hok.out.2
          rw [← hla] at Hk ⊢
          have Hla := Lib.hid hla
          clear hva hpA hbA hla
          go_wp2
          go_loopw [3, 19] (fun out i wq => ∃ s : Nat, s ≤ la ∧ i = .int .i64 s ∧ OwnM wq w.heap.size out (partP f n k s 0) ∧ Below w.heap.size w wq ∧ wA.heap.size ≤ wq.heap.size ∧ Same wo.heap.size wA.heap.size wA wq ∧ (∀ g, out.ownBlock = some g → g < wo.heap.size ∨ wA.heap.size ≤ g)) (fun _ i _ => la - (intOf i).toNat)
          case atStart => exact ⟨0, Nat.zero_le _, rfl, Hown.out.below HBA.out, Hbr.out.trans (HBA.out.mono Hbr.out.size), Nat.le_refl _, Same.refl _ _ _, fun g hg => .inl (World.ownsRow.lt Hown.out.choose_spec.top g hg).2⟩
          case round =>
            obtain ⟨s, hs, rfl, hown, hbq, hszq, hsame, hap⟩ := hrel
            have HownQ := Lib.hid hown
            have Hbq := Lib.hid hbq
            have Hsame := Lib.hid hsame
            have Hap := Lib.hid hap
            obtain ⟨wq', rfl⟩ : ∃ wq' : World, wq' = wr := ⟨_, rfl⟩
            clear hown hbq hsame hap
            by_cases hsl : s < la
            · have hpq := HPA.out.same Hsame.out
              rw [← Hla.out] at hpq
              obtain ⟨b1, o1, r1, d1, rfl, hc1, hv1, _, hd1, hd2⟩ := hpq.rowAt hsl
              have ho1 := HPA.out.rows s (by rw [← Hla.out]; exact hsl)
              rw [hv1] at ho1
              have HI1 := Lib.hid ho1
              have hrl := rowsIn_at Hok.out.1 (i := s) (by rw [← Hla.out]; exact hsl)
              obtain ⟨A, hA⟩ : ∃ A, A = gr (patP f k) s := ⟨_, rfl⟩
              rw [← hA] at hc1 HI1 hrl hd1
              have HA := Lib.hid hA
              have HArl := Lib.hid hrl
              have hAl : A.length ≤ 12 := by rw [hrl.1]; omega
              have Hs1 := Lib.hid (partP_s f n k s)
              obtain ⟨D, hD⟩ : ∃ D, D = n - k := ⟨_, rfl⟩
              have Hok2 := Lib.hid (patP_ok f (by omega) D (by omega))
              have hcall := Ih.out D (by omega) wq'
              rw [show ((D : Nat) : Int) = (N : Int) - 1 - (k : Int) from by omega] at hcall
              have Hcall := Lib.hid hcall
              rw [← hD] at Hs1
              have HD := Lib.hid hD
              clear hpq ho1 hv1 hA hrl hD hcall
              go_wp2_with fail
              refine Hcall.out.mono ?_
              rintro e wB ⟨vb, rfl, hvb, hbB⟩
              obtain ⟨aB, cB, vsB, rfl, hpB, _, _⟩ := hvb.open
              have HPB := Lib.hid hpB
              have HBB := Lib.hid hbB
              have hqB := hbB.size
              obtain ⟨lb, hlb⟩ : ∃ lb, lb = (patP f D).length := ⟨_, rfl⟩
              have hlb2 : lb ≤ 132 := by rw [hlb]; exact Hok2.out.2
              rw [← hlb] at Hs1 ⊢
              have Hlb := Lib.hid hlb
              clear hvb hpB hbB hlb
              go_wp2
              go_loopw [3, 29] (fun out i wt => ∃ t : Nat, t ≤ lb ∧ i = .int .i64 t ∧ OwnM wt w.heap.size out (partP f n k s t) ∧ Below w.heap.size w wt ∧ wB.heap.size ≤ wt.heap.size ∧ Same wo.heap.size wA.heap.size wA wt ∧ Same wq'.heap.size wB.heap.size wB wt ∧
                (∀ g, out.ownBlock = some g → (g < wo.heap.size ∨ wA.heap.size ≤ g) ∧ (g < wq'.heap.size ∨ wB.heap.size ≤ g))) (fun _ i _ => lb - (intOf i).toNat)
              case atStart => exact ⟨0, Nat.zero_le _, rfl, HownQ.out.below HBB.out, Hbq.out.trans (HBB.out.mono Hbq.out.size), Nat.le_refl _, Hsame.out.trans (Same.of_below HBB.out hszq), Same.refl _ _ _, fun g hg => ⟨Hap.out g hg, .inl (World.ownsRow.lt HownQ.out.choose_spec.top g hg).2⟩⟩
              case round =>
                obtain ⟨t, ht, rfl, hown, hbt, hszt, hsA, hsB, hap⟩ := hrel
                have HownT := Lib.hid hown
                have Hbt := Lib.hid hbt
                have HsA := Lib.hid hsA
                have HsB := Lib.hid hsB
                have HapT := Lib.hid hap
                clear hown hbt hsA hsB hap
                by_cases htl : t < lb
                · have hpt := HPB.out.same HsB.out
                  rw [← Hlb.out] at hpt
                  obtain ⟨b2, o2, r2, d2, rfl, hc2, _, ho2, he1, he2⟩ := hpt.rowAt htl
                  have hrl := rowsIn_at Hok2.out.1 (i := t) (by rw [← Hlb.out]; exact htl)
                  have hsnoc := partP_t f n k s t
                  rw [← HD.out, ← HA.out] at hsnoc
                  obtain ⟨C, hC⟩ : ∃ C, C = gr (patP f D) t := ⟨_, rfl⟩
                  rw [← hC] at hc2 ho2 hrl hsnoc he1
                  have hCl : C.length ≤ 12 := by rw [hrl.1]; have := HD.out; omega
                  have hen := enclose_any r1 r2 d1 d2 A C wr hAl hCl (fun i hi => HArl.out.2 i (by rw [HArl.out.1] at hi; exact hi)) (fun i hi => hrl.2 i (by rw [hrl.1] at hi; exact hi)) (HI1.out.same_at HsA.out) (own_at ho2)
                  obtain ⟨M, hM⟩ : ∃ M, M = partP f n k s t := ⟨_, rfl⟩
                  rw [← hM] at HownT hsnoc
                  have Hsn := Lib.hid hsnoc
                  have Hen := Lib.hid hen
                  have Hml := Lib.hid (show M.length ≤ 200000 by rw [hM]; exact partP_len (by omega) (by omega) (by omega) (by omega) (by omega))
                  clear hpt ho2 hrl hsnoc hC hen hM
                  go_wp2_with fail
                  refine Hen.out.mono ?_
                  rintro e w2 ⟨vr, rfl, hvr, hb2⟩
                  obtain ⟨vs, hownt⟩ := HownT.out
                  have HZt := Lib.hid Hbt.out.size
                  have Hnew := Lib.hid hb2
                  have Hown3 := Lib.hid ((hownt.below hb2).more (r := encl A C))
                  have Hu := Lib.hid hvr
                  have Hfr := Lib.hid (hownt.fresh hvr (Nat.le_refl _))
                  obtain ⟨ra, rc, hrv, _, _, _⟩ := hvr.read
                  have HapV := Lib.hid HapT.out
                  have hMl := Hml.out
                  have hb2s := hb2.size
                  clear hvr hb2 hownt HownT HapT
                  rw [hrv] at Hu Hfr
                  subst hrv
                  go_wp2_with (at_builtin; refine wpList_append_own_at _ rfl _ _ 22 rfl w.heap.size 24 j0 (.slice none 0 0) 1 24 Try.underlying22 hj hy0 hy1 hy2 rfl (by decide) _ _ _ rfl (World.ownsRow.alloc Hown3.out.top _) ⟨w2.heap.size, 0, none⟩ 1 1 [.slice ra (encl A C).length rc] rfl rfl ?d1 ?d2 ?d3 ?d4 ?d5 ?_)
                  case d1 => exact cell_one_new _ _ _
                  case d2 => intro u hu; simp at hu; subst hu; rfl
                  case d3 => unfold maxLen; omega
                  case d4 => omega
                  case d5 => have := HZt.out; simp; omega
                  intro v' w5 hown' hgrow _ hat
                  have hput := Hown3.out.snoc (Nat.le_trans HZt.out Hnew.out.size) (by rw [gr_last]; exact Hu.out.base HZt.out) Hfr.out hown' hgrow
                  have Hput := Lib.hid (show OwnM w5 w.heap.size v' (M ++ [encl A C]) from ⟨_, by rw [List.length_append]; exact hput.1⟩)
                  have Hb5 := Lib.hid ((Hbt.out.trans (Hnew.out.mono HZt.out)).trans hput.2)
                  have hsz5 : w2.heap.size ≤ w5.heap.size := by have := hput.2.size; omega
                  have hgs := hgrow.size
                  simp at hgs
                  have HsA5 := Lib.hid (HsA.out.trans ((Same.of_below Hnew.out (by omega)).trans ((Same.of_below ((Below.refl w2.heap.size w2).alloc (Nat.le_refl _) _) (by omega)).trans (Same.of_grown hgrow (by simp; omega) fun g hg => (HapV.out g hg).1))))
                  have HsB5 := Lib.hid (HsB.out.trans ((Same.of_below Hnew.out (by omega)).trans ((Same.of_below ((Below.refl w2.heap.size w2).alloc (Nat.le_refl _) _) (by omega)).trans (Same.of_grown hgrow (by simp; omega) fun g hg => (HapV.out g hg).2))))
                  have Hap5 := Lib.hid (show ∀ g, v'.ownBlock = some g → (g < wo.heap.size ∨ wA.heap.size ≤ g) ∧ (g < wq'.heap.size ∨ wB.heap.size ≤ g) by
                    intro g hg
                    rcases hat with h | h
                    · exact HapV.out g (by rw [← h]; exact hg)
                    · rw [h] at hg; simp at hg; omega)
                  clear hput hown' hgrow hat Hown3 Hu Hfr Hnew HapV
                  go_wp2
                  go_roundw
                  case rel => exact ⟨t + 1, by omega, by go_num, by rw [Hsn.out]; exact Hput.out, Hb5.out, by omega, HsA5.out, HsB5.out, Hap5.out⟩
                  case measure => simp [intOf]; omega
                · have Et := Lib.hid (show t = lb by omega)
                  have ho := HownT.out
                  rw [Et.out, Hs1.out] at ho
                  have Ho := Lib.hid ho
                  clear ho HownT
                  go_wp2
                  go_roundw
                  case rel => exact ⟨s + 1, by omega, by go_num, Ho.out, Hbt.out, by have := HBB.out.size; omega, HsA.out, fun g hg => (HapT.out g hg).1⟩
                  case measure => simp [intOf]; omega
            · have Es := Lib.hid (show s = la by omega)
              have ho := HownQ.out
              rw [Es.out, Hk.out] at ho
              have Ho := Lib.hid ho
              clear ho HownQ
              go_wp2
              go_roundw
              case rel => exact ⟨k + 1, by omega, by go_num, Ho.out, Hbq.out⟩
              case measure => simp [intOf]; omega
        · have Ek := Lib.hid (show k = N by omega)
          have ho := Hown.out
          rw [Ek.out, Hend.out] at ho
          have Ho := Lib.hid ho
          clear ho Hown
          go_wp2
          go_ret
          exact ⟨_, rfl, Ho.out, Hbr.out⟩

theorem patP_small {n : Int} (h : in6 n) : Small (patP 6 n.toNat) := by
  have h1 := h.1
  have h2 := h.2
  have hk := patP_ok 6 (by omega) n.toNat (by omega)
  exact ⟨by omega, rowsIn_small hk.1 (by omega) (by omega)⟩

end Go.Proofs.Ytgdijjfipicodaa

namespace Go.Proofs.Ytgdijjfipicodaa
open Go.RowKit

/-- a row of an owned list: its cell, and that it is owned -/
theorem OwnM.row {w : World} {B n c : Nat} {ao : Option Addr} {m : List (List Int)} (h : OwnM w B (.slice ao n c) m) {i : Nat} (hi : i < m.length) :
    ∃ g r d, ao = some ⟨g, 0, none⟩ ∧ w.cell? ⟨g, i, none⟩ = some (.slice r (gr m i).length d) ∧ OwnI w B (.slice r (gr m i).length d) (gr m i) ∧ IntsAt w r (gr m i) := by
  obtain ⟨vs, hp⟩ := h
  obtain ⟨r, d, hv, _, _, hx⟩ := (hp.rows i hi).read
  rcases hp.top.2 with ⟨h0, h1⟩ | ⟨g, cap, cur, hv2, _⟩
  · omega
  · simp only [Value.slice.injEq] at hv2
    obtain ⟨rfl, rfl, _⟩ := hv2
    refine ⟨g, r, d, rfl, ?_, ?_, hx⟩
    · rw [hp.cellAt i hi, hv]
    · rw [← hv]; exact hp.rows i hi
theorem OwnM.len {w : World} {B n c : Nat} {ao : Option Addr} {m : List (List Int)} (h : OwnM w B (.slice ao n c) m) : m.length = n := by
  obtain ⟨vs, hp⟩ := h
  rcases hp.top.2 with ⟨h0, h1⟩ | ⟨g, cap, cur, hv2, _⟩
  · simp only [Value.slice.injEq] at h0; omega
  · simp only [Value.slice.injEq] at hv2; exact hv2.2.1.symm

/-- all patterns of at most 4 lines, by the model -/
theorem loAll4_any (n : Nat) (w : World) (hn : n ≤ 4) : Calls Try.prog 132 #[.int .i64 (n : Int), .int .i64 0] w fun e w' => ∃ a c, e = .returned (.slice a (patP 6 n).length c) ∧ OwnM w' w.heap.size (.slice a (patP 6 n).length c) (patP 6 n) ∧ Below w.heap.size w w' := by
  have h := loAll_any 6 (by omega) n (by omega) 0 (by omega) w
  rw [pat_same n (by omega)] at h
  refine h.mono ?_
  rintro e w' ⟨v, rfl, hv, hb⟩
  obtain ⟨a, c, rfl, _, _, _⟩ := hv.read
  exact ⟨a, c, rfl, hv, hb⟩
theorem patterns4_any (n : Nat) (w : World) (hn : n ≤ 4) : Calls Try.prog 123 #[.int .i64 (n : Int)] w fun e w' => ∃ a c, e = .returned (.slice a (patP 6 n).length c) ∧ OwnM w' w.heap.size (.slice a (patP 6 n).length c) (patP 6 n) ∧ Below w.heap.size w w' := by
  refine (patterns_any 6 (by omega) n (by omega) w).mono ?_
  rintro e w' ⟨v, rfl, hv, hb⟩
  obtain ⟨a, c, rfl, _, _, _⟩ := hv.read
  exact ⟨a, c, rfl, hv, hb⟩

/-- the rows of a list of patterns are short -/
def Short (l : List (List Int)) : Prop := l.length ≤ 14 ∧ ∀ i, i < l.length → (gr l i).length ≤ 12
theorem patP_short {n : Nat} (hn : n < 5) : Short (patP 6 n) := ⟨catN_le n hn, fun i hi => by rw [patP_len hn (gr_mem hi)]; omega⟩

set_option maxRecDepth 100000 in
set_option maxHeartbeats 800000 in
theorem syRank_any (ao a2 : Option Addr) (c c2 : Nat) (l : List (List Int)) (p : List Int) (w : World) (hs : Short l) (hp : p.length ≤ 12) (hm : p ∈ l) (hl : MatAt w ao l) (hx : IntsAt w a2 p) :
    Calls Try.prog 133 #[.slice ao l.length c, .slice a2 p.length c2] w fun e w' => e = .returned (.int .i64 (rk l p : Nat)) ∧ Below w.heap.size w w' := by
  have hlt := rk_lt hm
  have hl14 := hs.1
  have HE := Lib.hid (fun j (hj : j ≤ rk l p) => show (gr l j == p) = decide (j = rk l p) from by
    by_cases e : j = rk l p
    · rw [e, rk_at hm]; simp
    · rw [decide_eq_false e, beq_eq_false_iff_ne]; exact rk_before (by omega))
  obtain ⟨K, hK⟩ : ∃ K, K = rk l p := ⟨_, rfl⟩
  rw [← hK] at hlt HE ⊢
  have Hs := Lib.hid hs.2
  have Hl := Lib.hid hl
  have Hx := Lib.hid hx
  have hm1 : l.length ≤ 9223372036854775807 := by omega
  clear hs hm hl hx hK
  go_enter Try.func133, Try.ntmps133
  go_wp2
  go_loopw [5] (fun i wr => ∃ k : Nat, k ≤ K ∧ i = .int .i64 k ∧ Below w.heap.size w wr) (fun i _ => l.length - (intOf i).toNat)
  case atStart => exact ⟨0, Nat.zero_le _, rfl, Below.refl _ _⟩
  case round =>
    obtain ⟨k, hk, rfl, hbr⟩ := hrel
    have Hbr := Lib.hid hbr
    clear hbr
    have hkl : k < l.length := by omega
    obtain ⟨b1, o1, r1, d1, rfl, hc1, hx1, _, _⟩ := Hl.out.below Hbr.out k hkl
    have CS := Lib.hid (l1Same_any r1 a2 d1 c2 (gr l k) p wr (by have := Hs.out k hkl; omega) (by omega) hx1 (Hx.out.below Hbr.out))
    have hgl : (gr l k).length ≤ 9223372036854775807 := by have := Hs.out k hkl; omega
    have he := HE.out k hk
    rw [he] at CS
    obtain ⟨G, hG⟩ : ∃ G, G = gr l k := ⟨_, rfl⟩
    rw [← hG] at hc1 CS hgl
    clear hx1 he hG
    go_wp2_with fail
    refine CS.out.mono ?_
    rintro e w5 ⟨rfl, hq⟩
    have HB5 := Lib.hid (Hbr.out.trans (hq.below _))
    clear hq CS
    by_cases e : k = K
    · subst e
      have hd : decide (k = k) = true := by simp
      rw [hd]
      go_wp2
      go_ret
      exact ⟨rfl, HB5.out⟩
    · have hd : decide (k = K) = false := by simpa using e
      rw [hd]
      have hk1 : k + 1 ≤ K := by omega
      clear e hd
      go_wp2
      go_roundw
      case rel => exact ⟨k + 1, hk1, by go_num, HB5.out⟩
      case measure => simp [intOf]; omega

/-- a pattern of at most 4 lines -/
def pat4 (p : List Int) : Prop := isPat p ∧ p.length ≤ 8
/-- its rank -/
def rankOf (p : List Int) : Nat := rk (patP 6 (p.length / 2)) p
theorem pat4.mem {p : List Int} (h : pat4 p) : p ∈ patP 6 (p.length / 2) := h.1.mem h.2

theorem syPairs_any (n : Int) (w : World) : Calls Try.prog 66 #[.int .i64 n] w fun e w' => Ans (1 ≤ n ∧ n ≤ 4) e ∧ w = w' := by
  go_enter Try.func66, Try.ntmps66
  go_wp2_with fail
  refine (l1In_any _ _ _ w).mono ?_
  rintro e w1 ⟨⟨b, rfl, hb⟩, rfl⟩
  have Hb := Lib.hid hb
  clear hb
  go_wp2
  go_ret
  exact ⟨⟨b, rfl, Hb.out⟩, rfl⟩

/-- a rank of patterns of n lines -/
def rankIn (n r : Int) : Prop := (1 ≤ n ∧ n ≤ 4) ∧ 0 ≤ r ∧ r < catN n.toNat

end Go.Proofs.Ytgdijjfipicodaa

namespace Go.Proofs.Ytgdijjfipicodaa
open Go.RowKit

/-- the index in a list, or -1 -/
def ixOf (l : List (List Int)) (p : List Int) : Int := if p ∈ l then (rk l p : Int) else -1
theorem ixOf_in {l : List (List Int)} {p : List Int} (h : p ∈ l) : ixOf l p = (rk l p : Int) := if_pos h
theorem ixOf_out {l : List (List Int)} {p : List Int} (h : p ∉ l) : ixOf l p = -1 := if_neg h

set_option maxRecDepth 100000 in
set_option maxHeartbeats 800000 in
theorem indexOf1_any (ao a2 : Option Addr) (c c2 g : Nat) (q p : List Int) (w : World) (hq : q.length ≤ 12) (hp : p.length ≤ 12) (h1 : IntsAt w ao q) (h2 : IntsAt w a2 p) (hc : w.cell? ⟨g, 0, none⟩ = some (.slice a2 p.length c2)) :
    Calls Try.prog 136 #[.slice ao q.length c, .pointer (some ⟨g, 0, none⟩)] w fun e w' => e = .returned (.bool (p == q)) ∧ Below w.heap.size w w' := by
  have C := Lib.hid (sEqualInts_any a2 ao c2 c p q w (by omega) (by omega) h2 h1)
  have hm1 : q.length ≤ 9223372036854775807 := by omega
  have hm2 : p.length ≤ 9223372036854775807 := by omega
  obtain ⟨b, hb⟩ : ∃ b, b = (p == q) := ⟨_, rfl⟩
  rw [← hb] at C ⊢
  clear h1 h2 hb
  go_enter Try.func136, Try.ntmps136
  go_wp2_with fail
  refine C.out.mono ?_
  rintro e w2 ⟨rfl, hq⟩
  have Hq := Lib.hid (hq.below w.heap.size)
  clear hq
  go_wp2
  go_ret
  exact ⟨rfl, Hq.out⟩

set_option maxRecDepth 100000 in
set_option maxHeartbeats 800000 in
theorem indexFunc_any (ao a2 : Option Addr) (c c2 g : Nat) (l : List (List Int)) (p : List Int) (w : World) (hs : Short l) (hp : p.length ≤ 12) (hl : MatAt w ao l) (hx : IntsAt w a2 p) (hc : w.cell? ⟨g, 0, none⟩ = some (.slice a2 p.length c2)) :
    Calls Try.prog 119 #[.slice ao l.length c, .func (.func 136) #[] #[.pointer (some ⟨g, 0, none⟩)]] w fun e w' => e = .returned (.int .i64 (ixOf l p)) ∧ Below w.heap.size w w' := by
  have hl14 := hs.1
  have Hs := Lib.hid hs.2
  have Hl := Lib.hid hl
  have Hx := Lib.hid hx
  have Hc := Lib.hid hc
  have hm1 : l.length ≤ 9223372036854775807 := by omega
  clear hs hl hx hc
  go_enter Try.func119, Try.ntmps119
  go_wp2
  go_loopw [8] (fun i wr => ∃ k : Nat, k ≤ l.length ∧ i = .int .i64 k ∧ (∀ j, j < k → gr l j ≠ p) ∧ Below w.heap.size w wr) (fun i _ => l.length - (intOf i).toNat)
  case atStart => exact ⟨0, Nat.zero_le _, rfl, fun j hj => absurd hj (by omega), Below.refl _ _⟩
  case round =>
    obtain ⟨k, hk, rfl, hd, hbr⟩ := hrel
    have Hbr := Lib.hid hbr
    have Hd := Lib.hid hd
    clear hbr hd
    by_cases hkl : k < l.length
    · obtain ⟨b1, o1, r1, d1, rfl, hc1, hx1, _, _⟩ := Hl.out.below Hbr.out k hkl
      have CI := Lib.hid (indexOf1_any r1 a2 d1 c2 g (gr l k) p wr (Hs.out k hkl) hp hx1 (Hx.out.below Hbr.out) (cell_below Hc.out Hbr.out))
      have hgl : (gr l k).length ≤ 9223372036854775807 := by have := Hs.out k hkl; omega
      have HE := Lib.hid (show (p == gr l k) = true ↔ gr l k = p from by rw [beq_iff_eq]; exact eq_comm)
      have HY := Lib.hid (show gr l k = p → (ixOf l p) = (k : Int) from fun e => by
        rw [ixOf_in (e ▸ gr_mem hkl), rk_is hkl e Hd.out])
      obtain ⟨G, hG⟩ : ∃ G, G = gr l k := ⟨_, rfl⟩
      have HN := Lib.hid (show G ≠ p → ∀ j, j < k + 1 → gr l j ≠ p from fun h j hj => by
        by_cases e : j = k
        · rw [e, ← hG]; exact h
        · exact Hd.out j (by omega))
      rw [← hG] at hc1 CI hgl HE HY
      obtain ⟨b, hb⟩ : ∃ b, b = (p == G) := ⟨_, rfl⟩
      rw [← hb] at CI HE
      clear hx1 hb hG
      go_wp2_with fail
      refine CI.out.mono ?_
      rintro e w5 ⟨rfl, hb⟩
      have HB5 := Lib.hid (Hbr.out.trans (hb.mono Hbr.out.size))
      clear hb CI
      cases b with
      | true =>
        have HY2 := Lib.hid (HY.out (HE.out.1 rfl))
        clear HY HN
        go_wp2
        go_ret
        exact ⟨by rw [HY2.out]; rfl, HB5.out⟩
      | false =>
        have HN2 := Lib.hid (HN.out (fun e => by have := HE.out.2 e; cases this))
        clear HY HN
        go_wp2
        go_roundw
        case rel => exact ⟨k + 1, by omega, by go_num, HN2.out, HB5.out⟩
        case measure => simp [intOf]; omega
    · obtain rfl : k = l.length := by omega
      have HZ := Lib.hid (show (ixOf l p) = -1 from ixOf_out (fun h => Hd.out _ (rk_lt h) (rk_at h)))
      go_wp2
      go_ret
      exact ⟨by rw [HZ.out]; rfl, Hbr.out⟩

set_option maxRecDepth 100000 in
set_option maxHeartbeats 800000 in
theorem indexOf_any (ao a2 : Option Addr) (c c2 : Nat) (l : List (List Int)) (p : List Int) (w : World) (hs : Short l) (hp : p.length ≤ 12) (hl : MatAt w ao l) (hx : IntsAt w a2 p) :
    Calls Try.prog 124 #[.slice ao l.length c, .slice a2 p.length c2] w fun e w' => e = .returned (.int .i64 (ixOf l p)) ∧ Below w.heap.size w w' := by
  have HB := Lib.hid ((Below.refl w.heap.size w).alloc (Nat.le_refl _) (.cells #[.slice a2 p.length c2] 24))
  have CF := Lib.hid (indexFunc_any ao a2 c c2 w.heap.size l p (w.alloc (.cells #[.slice a2 p.length c2] 24)) hs hp (hl.below HB.out) (hx.below HB.out) (by rw [cell_new]; rfl))
  obtain ⟨x, hxx⟩ : ∃ x, x = (ixOf l p) := ⟨_, rfl⟩
  rw [← hxx] at CF ⊢
  clear hl hx hxx
  go_enter Try.func124, Try.ntmps124
  go_wp2_with fail
  refine CF.out.mono ?_
  rintro e w2 ⟨rfl, hb⟩
  have HB2 := Lib.hid (HB.out.trans (hb.mono HB.out.size))
  clear hb CF
  go_wp2
  go_ret
  exact ⟨rfl, HB2.out⟩

end Go.Proofs.Ytgdijjfipicodaa

