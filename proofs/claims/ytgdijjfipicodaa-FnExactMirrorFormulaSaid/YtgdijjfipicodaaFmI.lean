/- Contracts of the program: lists of ratios that a call owns, choices of up to nine things, the product of ratios. Conditions: as they say. -/
import Derived.Test.YtgdijjfipicodaaFmM
import Derived.Test.YtgdijjfipicodaaRtO
import Derived.Test.YtgdijjfipicodaaHfI
namespace Go.Proofs.Ytgdijjfipicodaa
open Go.RowKit

def gF (l : List (Nat × Nat)) (k : Nat) : Nat × Nat := l.getD k (0, 0)
def rrowF (c : Nat × Nat) : List Value := [.int .i64 (c.1 : Int), .int .i64 (c.2 : Int)]
/-- a slice of ratios that the call owns from block B on -/
def OwnF (w : World) (B : Nat) (v : Value) (cs : List (Nat × Nat)) : Prop := w.ownsRow B 52 2 v cs.length (cs.flatMap rrowF)
theorem OwnF.lt {w : World} {B : Nat} {v : Value} {cs : List (Nat × Nat)} (h : OwnF w B v cs) : ∀ k, v.ownBlock = some k → B ≤ k ∧ k < w.heap.size := World.ownsRow.lt h
theorem OwnF.below {w w' : World} {B : Nat} {v : Value} {cs : List (Nat × Nat)} (h : OwnF w B v cs) (hb : Below w.heap.size w w') : OwnF w' B v cs := by
  refine ⟨h.1, ?_⟩
  rcases h.2 with h0 | ⟨g, cap, cur, hv, hg, hh, r⟩
  · exact .inl h0
  · exact .inr ⟨g, cap, cur, hv, hg, by rw [hb.block g (lt_of_block hh)]; exact hh, r⟩
theorem OwnF.base {w : World} {B B' : Nat} {v : Value} {cs : List (Nat × Nat)} (h : OwnF w B v cs) (hB : B' ≤ B) : OwnF w B' v cs := by
  refine ⟨h.1, ?_⟩
  rcases h.2 with h0 | ⟨g, cap, cur, hv, hg, r⟩
  · exact .inl h0
  · exact .inr ⟨g, cap, cur, hv, by omega, r⟩
theorem OwnF.nil (w : World) (B : Nat) : OwnF w B (.slice none 0 0) [] := World.ownsRow_nil _ _ _ _
theorem OwnF.snoc {w w1 : World} {B : Nat} {v v' : Value} {cs : List (Nat × Nat)} {c : Nat × Nat} {o : Obj} (h : OwnF w B v cs) (hB : B ≤ w.heap.size)
    (h1 : w1.ownsRow B 52 2 v' (cs.length + 1) (cs.flatMap rrowF ++ rrowF c)) (hg : (w.alloc o).grownBy w1 v.ownBlock) : OwnF w1 B v' (cs ++ [c]) ∧ Below B w w1 := by
  refine ⟨?_, Below.grown ((Below.refl B w).alloc hB o) hg (by simp; omega) (fun k hk => (h.lt k hk).1)⟩
  unfold OwnF
  rw [List.length_append, List.flatMap_append]
  simpa using h1
theorem OwnF.one (w : World) (c : Nat × Nat) : OwnF (w.alloc (.cells (rtA c) 52)) w.heap.size (.slice (some ⟨w.heap.size, 0, none⟩) 1 1) [c] :=
  ⟨rfl, .inr ⟨w.heap.size, 1, rtA c, rfl, Nat.le_refl _, heap_alloc_new w _, Nat.le_refl _, by decide, rfl, rfl⟩⟩
theorem rrowF_get : ∀ (cs : List (Nat × Nat)) (k : Nat), k < cs.length → (cs.flatMap rrowF)[k * 2]? = some (.int .i64 ((gF cs k).1 : Int)) ∧ (cs.flatMap rrowF)[k * 2 + 1]? = some (.int .i64 ((gF cs k).2 : Int))
  | c :: cs, 0, _ => by simp [rrowF, gF]
  | c :: cs, k + 1, hk => by
    have h := rrowF_get cs k (by simpa using hk)
    rw [List.flatMap_cons]
    simp only [rrowF, List.cons_append, List.nil_append, show (k + 1) * 2 = k * 2 + 1 + 1 from by omega, List.getElem?_cons_succ, gF, List.getD_cons_succ]
    exact h
/-- the ratios at an address -/
def FAt (w : World) (ao : Option Addr) (l : List (Nat × Nat)) : Prop :=
  ∀ j, j < l.length → ∃ V, ao = some ⟨V, 0, none⟩ ∧ w.cell? ⟨V, j * 2, none⟩ = some (.int .i64 ((gF l j).1 : Int)) ∧ w.cell? ⟨V, j * 2 + 1, none⟩ = some (.int .i64 ((gF l j).2 : Int))
theorem OwnF.read {w : World} {B : Nat} {v : Value} {cs : List (Nat × Nat)} (h : OwnF w B v cs) : ∃ ao cap, v = .slice ao cs.length cap ∧ cs.length ≤ cap ∧ cap ≤ 9223372036854775807 ∧ FAt w ao cs := by
  rcases h.2 with ⟨rfl, h0⟩ | ⟨g, cap, cur, rfl, hg, hh, hn, hm, hs, ht⟩
  · exact ⟨none, 0, by rw [h0], by omega, by omega, fun j hj => by omega⟩
  · refine ⟨_, cap, rfl, hn, by unfold maxLen at hm; omega, fun j hj => ⟨g, rfl, ?_, ?_⟩⟩
    · rw [World.ownsRow.cellAt h _ (by omega)]; exact (rrowF_get cs j hj).1
    · rw [World.ownsRow.cellAt h _ (by omega)]; exact (rrowF_get cs j hj).2
theorem two_newF {w : World} {x y : Value} {e : TypeId} : ∀ (j : Nat) (u : Value), [x, y][j]? = some u → (w.alloc (.cells #[x, y] e)).cell? ((⟨w.heap.size, 0, none⟩ : Addr).add j) = some u := by
  intro j u h
  have hj2 : j < 2 := (List.getElem?_eq_some_iff.1 h).1
  rcases j with _ | j
  · show (w.alloc _).cell? ⟨w.heap.size, 0, none⟩ = _
    rw [cell_of_row _ _ 0 _ _ _ (heap_alloc_new w _)]
    exact h
  · obtain rfl : j = 0 := by omega
    show (w.alloc _).cell? ⟨w.heap.size, 1, none⟩ = _
    rw [cell_of_row _ _ 1 _ _ _ (heap_alloc_new w _)]
    exact h
theorem Try.infob_rtF : (Try.prog.info? 52).map (fun i => (i.zero, i.size, i.bytes)) = some (some (.agg (rtA (0, 0))), 2, 16) := by kernel_rfl
/-- a ratio is appended -/
theorem wpList_ratF {w : World} {ops : Array Oper} {rest : List Oper} {o : Oper} {a : Act} {Q : Exit → Act → World → Prop} (hgd : o.guard = none) (s x : Operand)
    (ho : o.op = .call { callee := .builtin .append, args := #[s, x], argTypes := #[54, 54] })
    (B : Nat) (v : Value) (cs : List (Nat × Nat)) (z1 z2 : Nat) (h : OwnF w B v cs) (hs : a.eval s = v) (hx : a.eval x = .slice (some ⟨w.heap.size, 0, none⟩) 1 1) (hB : B ≤ w.heap.size) (hl : cs.length < 1000)
    (K : ∀ v' w1, OwnF w1 B v' (cs ++ [(z1, z2)]) → Below B w w1 → wpList Try.prog ops Q rest (a.put o.dst v') w1) : wpList Try.prog ops Q (o :: rest) a (w.alloc (.cells #[.int .i64 (z1 : Int), .int .i64 (z2 : Int)] 52)) := by
  obtain ⟨c0, hc, hz0, hz1, hz2⟩ := info_parts Try.infob_rtF
  refine wpList_append_own _ hgd s x 54 ho B 52 c0 (.agg (rtA (0, 0))) 2 16 Try.underlying54 hc hz0 hz1 hz2 rfl (by decide) v cs.length _ hs (World.ownsRow.alloc h _) ⟨w.heap.size, 0, none⟩ 1 1 (rrowF (z1, z2)) hx rfl ?_ ?_ (by unfold maxLen; omega) (by omega) (by simp; omega) ?_
  · exact two_newF
  · intro u hu; simp [rrowF] at hu; rcases hu with rfl | rfl <;> rfl
  · intro v' w1 h1 h2 _
    have := OwnF.snoc h hB h1 h2
    exact K v' w1 this.1 this.2

theorem chF_b : ∀ n, n < 29 → ∀ i, i < 10 → ch n i ≤ 1000000000 ∧ ch n i * (n - i) ≤ 1000000000 := by decide +kernel

set_option maxRecDepth 100000 in
set_option maxHeartbeats 800000 in
theorem choicesOf9_any (k n : Nat) (w : World) (hk : k ≤ 9) (hkn : k ≤ n) (hn : n ≤ 28) :
    Calls Try.prog 49 #[.int .i64 (k : Int), .int .i64 (n : Int)] w fun e w' => e = .returned (.int .i64 (ch n k : Nat)) ∧ w = w' := by
  go_enter Try.func49, Try.ntmps49
  go_wp2
  go_loop [5, 8] (fun s i => ∃ t : Nat, t ≤ k ∧ i = .int .i64 t ∧ s = .int .i64 (ch n t : Nat)) (fun _ i => k - (intOf i).toNat)
  case atStart => exact ⟨0, Nat.zero_le _, rfl, rfl⟩
  case round =>
    obtain ⟨t, ht, rfl, rfl⟩ := hrel
    by_cases hlt : t < k
    · have hb := chF_b n (by omega) t (by omega)
      have e1 : ch n (t + 1) = ch n t * (n - t) / (t + 1) := rfl
      have E1 := Lib.hid e1
      clear e1
      obtain ⟨s, hs⟩ : ∃ s, s = ch n t := ⟨_, rfl⟩
      obtain ⟨p, hp⟩ : ∃ p, p = ch n t * (n - t) := ⟨_, rfl⟩
      rw [← hs] at hb
      rw [← hs]
      have hp1 : (s : Int) * ((n : Int) - (t : Int)) = (p : Int) := by rw [hp, ← hs, show ((n : Int) - (t : Int)) = ((n - t : Nat) : Int) from by omega, Int.natCast_mul]
      have hpb : p ≤ 1000000000 := by rw [hp, ← hs]; exact hb.2
      have hsb := hb.1
      obtain ⟨q, hq⟩ : ∃ q, q = p / (t + 1) := ⟨_, rfl⟩
      have hq1 : (p : Int) / ((t : Int) + 1) = (q : Int) := by rw [hq, Int.natCast_ediv]; rfl
      have hqb : q ≤ 1000000000 := by rw [hq]; exact Nat.le_trans (Nat.div_le_self _ _) hpb
      have Hp := Lib.hid hp
      have Hs := Lib.hid hs
      have Hq := Lib.hid hq
      clear hb hp hs hq
      go_wp2
      go_round
      case rel =>
        refine ⟨t + 1, by omega, by go_num, ?_⟩
        rw [E1.out, ← Hp.out, ← Hq.out]
      case measure => simp [intOf]; omega
    · obtain rfl : t = k := by omega
      go_wp2
      go_ret
      exact ⟨rfl, rfl⟩

set_option maxRecDepth 100000 in
set_option maxHeartbeats 1600000 in
theorem formula_any (l : List (Nat × Nat)) (ao : Option Addr) (cap : Nat) (w : World) (hl : l.length ≤ 1000) (hok : okP l = true) (hv : FAt w ao l) :
    Calls Try.prog 48 #[.slice ao l.length cap] w fun e w' => e = .returned (.int .i64 ((prodQ l).1 : Int)) ∧ Below w.heap.size w w' := by
  obtain ⟨k, hk⟩ : ∃ k, k = l.length := ⟨_, rfl⟩
  have HK := Lib.hid hk
  have HV := Lib.hid hv
  have Hok := Lib.hid (fun j (hj : j < l.length) => okP_at hok hj)
  obtain ⟨⟨z1, z2⟩, hz⟩ : ∃ z, z = prodQ l := ⟨_, rfl⟩
  have HZ := Lib.hid hz
  rw [← hk] at hl ⊢
  rw [← hz]
  have hkm : k ≤ 9223372036854775807 := by omega
  clear hok hv hk hz
  go_enter Try.func48, Try.ntmps48
  go_wp2_with fail
  refine (whole_any 1 w).mono ?_
  rintro e w1 ⟨rfl, hb1⟩
  have HB1 := Lib.hid hb1
  clear hb1
  go_upto_region 2 with (first | (refine wpList_allocT rfl 52 rfl _ _ Try.info_rt ?_) | (refine wpList_storeT rfl 52 _ _ rfl (rtA (1, 1)) (rtA (0, 0)) w1.heap.size rfl rfl rfl (Try.size_rt _) (rt_same _ _) (rt_one _) ?_))
  generalize hW : World.alloc w1 _ = w2
  obtain ⟨P, hP⟩ : ∃ P, P = w1.heap.size := ⟨_, rfl⟩
  have HR2 := Lib.hid (show RtAt w2 P (prodQ (l.take 0)) from by rw [← hW, hP]; exact RtAt.new w1 (1, 1))
  have HPB := Lib.hid (show w.heap.size ≤ P from by rw [hP]; exact HB1.out.size)
  have HB2 := Lib.hid (show Below w.heap.size w w2 from by rw [← hW]; exact HB1.out.alloc HB1.out.size _)
  rw [← hP]
  clear hW hP HB1
  go_wp2
  go_loopw [9] (fun x wr => ∃ j : Nat, j ≤ k ∧ x = .int .i64 j ∧ RtAt wr P (prodQ (l.take j)) ∧ Below w.heap.size w wr) (fun x _ => k - (intOf x).toNat)
  case atStart => exact ⟨0, Nat.zero_le _, rfl, HR2.out, HB2.out⟩
  case round =>
    obtain ⟨j, hj, rfl, hr, hbr⟩ := hrel
    clear HR2 HB2
    have Hr := Lib.hid hr
    have Hbr := Lib.hid hbr
    clear hr hbr
    by_cases hjk : j < k
    · obtain ⟨V, rfl, v1, v2⟩ := HV.out j (by rw [← HK.out]; exact hjk)
      have c1 := cell_below v1 Hbr.out
      have c2 := cell_below v2 Hbr.out
      obtain ⟨q1, q2, q3⟩ := Hok.out j (by rw [← HK.out]; exact hjk)
      have HS := Lib.hid (prodQ_take (l := l) (k := j) (by rw [← HK.out]; exact hjk))
      obtain ⟨⟨a1, a2⟩, hA⟩ : ∃ A, A = prodQ (l.take j) := ⟨_, rfl⟩
      rw [← hA] at Hr q1 q2 q3 HS
      obtain ⟨⟨b1, b2⟩, hb⟩ : ∃ b, b = gF l j := ⟨_, rfl⟩
      have hb' : l.getD j (0, 0) = (b1, b2) := hb.symm
      rw [hb'] at q1 q2 q3 HS
      rw [← hb] at c1 c2
      have CT0 := fun w' => times_any (a1, a2) (b1, b2) w' q1 q2 q3
      obtain ⟨⟨t1, t2⟩, ht⟩ : ∃ t, t = tm (a1, a2) (b1, b2) := ⟨_, rfl⟩
      rw [← ht] at CT0 HS
      have CT := Lib.hid (show ∀ w', Calls Try.prog 83 #[.agg #[.int .i64 (a1 : Int), .int .i64 (a2 : Int)], .agg #[.int .i64 (b1 : Int), .int .i64 (b2 : Int)]] w' fun e w'' => e = .returned (.agg #[.int .i64 (t1 : Int), .int .i64 (t2 : Int)]) ∧ Below w'.heap.size w' w'' from CT0)
      clear hA hb hb' v1 v2 q1 q2 q3 CT0 ht
      have HB5 := Lib.hid (Hbr.out.alloc Hbr.out.size (.cells #[.int .i64 (b1 : Int), .int .i64 (b2 : Int)] 52))
      have HP2 := Lib.hid (Hr.out.alloc (.cells #[.int .i64 (b1 : Int), .int .i64 (b2 : Int)] 52))
      have HK2 := Lib.hid (show RtAt (wr.alloc (.cells #[.int .i64 (b1 : Int), .int .i64 (b2 : Int)] 52)) wr.heap.size (b1, b2) from RtAt.new wr (b1, b2))
      go_wp2_with (first | (refine wpList_allocT rfl 52 rfl _ _ Try.info_rt ?_) | (refine wpList_storeT rfl 52 _ _ rfl (rtA (b1, b2)) (rtA (0, 0)) wr.heap.size rfl rfl rfl (Try.size_rt _) (rt_same _ _) (rt_one _) ?_) | (refine wpList_loadG rfl 52 _ rfl P rfl _ _ HP2.out Try.underlying52 rfl (Try.size_rt _) ?_) | (refine wpList_loadG rfl 52 _ rfl wr.heap.size rfl _ _ HK2.out Try.underlying52 rfl (Try.size_rt _) ?_))
      refine (CT.out _).mono ?_
      rintro e w6 ⟨rfl, hb6⟩
      have HP6 := Lib.hid (HP2.out.below hb6)
      have HB6 := Lib.hid (HB5.out.trans (hb6.mono HB5.out.size))
      clear hb6 HP2 HK2 HB5 CT c1 c2
      go_wp2_with (refine wpList_storeG rfl 52 _ _ rfl _ (rtA ((t1, t2))) _ rfl rfl HP6.out (Try.size_rt _) (rt_same _ _) (rt_one _) ?_)
      have HP7 := Lib.hid (HP6.out.setRow (t1, t2))
      have HB7 := Lib.hid (below_setRowT HB6.out HPB.out (rtA (t1, t2)))
      clear HP6 HB6
      go_roundw
      case rel => exact ⟨j + 1, by omega, by go_num, by rw [HS.out]; exact HP7.out, HB7.out⟩
      case measure => simp [intOf]; omega
    · obtain rfl : j = k := by omega
      have HF := Lib.hid (show RtAt wr P (z1, z2) from by have := Hr.out; rw [HK.out, prodQ_all, ← HZ.out] at this; exact this)
      have c0 := HF.out.c0
      clear Hr
      go_wp2
      go_ret
      exact ⟨rfl, Hbr.out⟩
end Go.Proofs.Ytgdijjfipicodaa
