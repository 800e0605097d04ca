/- Parts of proofs: contracts and plain facts. Conditions: as each says. -/
import Derived.Test.YtgdijjfipicodaaK05
import Derived.Lib.Split
import Derived.Lib.IndexBytes
import Derived.Laws.Strings2
import Derived.Laws.Strings3
import Derived.WalkSmall
namespace Go.Proofs.Ytgdijjfipicodaa
open Go.RowKit

/-- appending a slice of integers, whatever its address, to one that the call owns -/
theorem wpList_append_ints {w : World} {ops : Array Oper} {rest : List Oper} {o : Oper} {a : Act} {Q : Exit → Act → World → Prop} (hgd : o.guard = none) (s x : Operand)
    (ho : o.op = .call { callee := .builtin .append, args := #[s, x], argTypes := #[24, 24] })
    (base : Nat) (v : Value) (xs : List Int) (hs : a.eval s = v) (hown : OwnI w base v xs)
    (ao : Option Addr) (c : Nat) (ys : List Int) (hx : a.eval x = .slice ao ys.length c) (hc : ao = none → c = 0 ∧ ys = []) (hys : IntsAt w ao ys)
    (h63 : xs.length + ys.length ≤ 1048576) (hbase : base ≤ w.heap.size)
    (h : ∀ v' w', OwnI w' base v' (xs ++ ys) → Below base w w' → wpList Try.prog ops Q rest (a.put o.dst v') w') : wpList Try.prog ops Q (o :: rest) a w := by
  obtain ⟨i0, hi, hz0, hz1, hz2⟩ := info_parts Try.info_int
  cases ao with
  | none =>
    obtain ⟨rfl, rfl⟩ := hc rfl
    exact wpList_append_own_none hgd s x 24 ho base 3 i0 1 Try.underlying24 hi v xs.length _ hs hown hx (h v w (by rw [List.append_nil]; exact hown) (Below.refl _ _))
  | some ad =>
    refine wpList_append_own _ hgd s x 24 ho base 3 i0 (.int .i64 0) 1 8 Try.underlying24 hi hz0 hz1 hz2 rfl (by decide) v xs.length _ hs hown ad ys.length c (ys.map (Value.int .i64)) hx (by simp) ?_ (by intro u hu; obtain ⟨y, _, rfl⟩ := List.mem_map.1 hu; rfl) (by unfold maxLen; omega) (by omega) hbase ?_
    · intro j u hj
      have hjl : j < ys.length := by
        have := (List.getElem?_eq_some_iff.1 hj).1
        simpa using this
      obtain ⟨b, o', e, hcell⟩ := hys j hjl
      cases e
      have e : (ys.map (Value.int .i64))[j]? = some (Value.int .i64 (gi ys j)) := by simp [gi, List.getD, hjl]
      rw [e] at hj
      cases hj
      rw [Addr.add_lit]
      exact hcell
    · intro v' w' h1 h2 _
      refine h v' w' ?_ (Below.grown (Below.refl _ _) h2 hbase (fun k hk => (World.ownsRow.lt hown k hk).1))
      unfold OwnI
      rw [List.length_append, List.map_append]
      exact h1
theorem OwnI.nil_at {w : World} {B n c : Nat} {ao : Option Addr} {xs : List Int} (h : OwnI w B (.slice ao n c) xs) : ao = none → c = 0 ∧ xs = [] := by
  rintro rfl
  rcases h.2 with ⟨h0, h1⟩ | ⟨g, cap, cur, hv, _⟩
  · simp only [Value.slice.injEq] at h0
    exact ⟨h0.2.2, List.eq_nil_of_length_eq_zero h1⟩
  · simp at hv

/-- what the model lists up to the line with k inside, and of that up to the pattern s inside, and of that up to t behind -/
def rowO (n o k : Nat) (a b : List Int) : List Int := ((o + 2 * k + 1 : Nat) : Int) :: a ++ (o : Int) :: b
def partO (f n o k s t : Nat) : List (List Int) :=
  ((List.range k).flatMap fun k => (patO f k (o + 1)).flatMap fun a => (patO f (n - k) (o + 2 * k + 2)).map fun b => rowO n o k a b) ++
  ((List.range s).flatMap fun i => (patO f (n - k) (o + 2 * k + 2)).map fun b => rowO n o k (gr (patO f k (o + 1)) i) b) ++
  ((List.range t).map fun j => rowO n o k (gr (patO f k (o + 1)) s) (gr (patO f (n - k) (o + 2 * k + 2)) j))
theorem partO_zero (f n o k : Nat) : partO f n o k 0 0 = (List.range k).flatMap fun k => (patO f k (o + 1)).flatMap fun a => (patO f (n - k) (o + 2 * k + 2)).map fun b => rowO n o k a b := by simp [partO]
theorem partO_t (f n o k s t : Nat) : partO f n o k s (t + 1) = partO f n o k s t ++ [rowO n o k (gr (patO f k (o + 1)) s) (gr (patO f (n - k) (o + 2 * k + 2)) t)] := by simp [partO, List.range_succ]
theorem partO_s (f n o k s : Nat) : partO f n o k s (patO f (n - k) (o + 2 * k + 2)).length = partO f n o k (s + 1) 0 := by
  unfold partO
  rw [range_gr (fun b => rowO n o k (gr (patO f k (o + 1)) s) b)]
  simp [List.range_succ]
theorem partO_k (f n o k : Nat) : partO f n o k (patO f k (o + 1)).length 0 = partO f n o (k + 1) 0 0 := by
  rw [partO_zero, List.range_succ, List.flatMap_append]
  unfold partO
  have := range_gr (fun a => (patO f (n - k) (o + 2 * k + 2)).map fun b => rowO n o k a b) (patO f k (o + 1))
  rw [List.flatMap_def (l := List.range (patO f k (o + 1)).length), this]
  simp [List.flatMap_def]
theorem partO_end (f n o : Nat) : partO f n o (n + 1) 0 0 = patO (f + 1) (n + 1) o := by rw [partO_zero]; rfl
theorem partO_len {f n o k s t : Nat} (hf : f < 7) (hn : n ≤ f) (ho : o + 2 * n + 2 < 15) (hk : k ≤ n) (hs : s ≤ 132) (ht : t ≤ 132) (hp : ∀ d, d ≤ f → ∀ o, o < 15 → (patO f d o).length ≤ 132) : (partO f n o k s t).length ≤ 200000 := by
  unfold partO
  rw [List.length_append, List.length_append]
  have h1 := flat_le (fun k => (patO f k (o + 1)).flatMap fun a => (patO f (n - k) (o + 2 * k + 2)).map fun b => rowO n o k a b) (132 * 132) (List.range k) (fun x hx => by
    have hx' : x < k := by simpa using hx
    have h2 := flat_le (fun a => (patO f (n - x) (o + 2 * x + 2)).map fun b => rowO n o x a b) 132 (patO f x (o + 1)) (fun a _ => by rw [List.length_map]; exact hp _ (by omega) _ (by omega))
    have h3 := hp x (by omega) (o + 1) (by omega)
    exact Nat.le_trans h2 (Nat.mul_le_mul_right _ h3))
  have h2 := flat_le (fun i => (patO f (n - k) (o + 2 * k + 2)).map fun b => rowO n o k (gr (patO f k (o + 1)) i) b) 132 (List.range s) (fun x _ => by rw [List.length_map]; exact hp _ (by omega) _ (by omega))
  rw [List.length_range] at h1 h2
  rw [List.length_map, List.length_range]
  have h3 : k * (132 * 132) ≤ 6 * (132 * 132) := Nat.mul_le_mul_right _ (by omega)
  have h4 : s * 132 ≤ 132 * 132 := Nat.mul_le_mul_right _ hs
  omega
theorem patO_ok2 : ∀ f, f < 7 → ∀ n, n < f + 1 → ∀ o, o < 15 → rowsIn (patO f n o) (2 * n) 40 = true ∧ (patO f n o).length ≤ 132 := by decide +kernel

theorem loAll_zero (f o : Nat) (w : World) : Calls Try.prog 132 #[.int .i64 0, .int .i64 (o : Int)] w fun e w' => ∃ v, e = .returned v ∧ OwnM w' w.heap.size v (patO f 0 o) ∧ Below w.heap.size w w' := by
  have e0 : patO f 0 o = [[]] := by cases f <;> rfl
  have Hb := Lib.hid ((Below.refl w.heap.size w).alloc (Nat.le_refl _) (.cells #[.slice none 0 0] 24))
  have Hres := Lib.hid (show OwnM (w.alloc (.cells #[.slice none 0 0] 24)) w.heap.size (.slice (some ⟨w.heap.size, 0, none⟩) 1 1) [[]] from
    ⟨[.slice none 0 0], World.ownsRow_lit w #[.slice none 0 0] 1 (Nat.le_refl _) (by unfold maxLen; omega) rfl, fun i hi => by obtain rfl : i = 0 := (by simpa using hi); exact OwnI.nil _ _, fun i j hij hj => by simp at hj; omega⟩)
  rw [e0]
  clear e0
  go_enter Try.func132, Try.ntmps132
  go_wp2
  go_ret
  exact ⟨_, rfl, Hres.out, Hb.out⟩

set_option maxRecDepth 100000 in
set_option maxHeartbeats 1600000 in
theorem loAll_any : ∀ f : Nat, f < 7 → ∀ n : Nat, n ≤ f → ∀ o : Nat, o + 2 * n < 15 → ∀ w : World, Calls Try.prog 132 #[.int .i64 (n : Int), .int .i64 (o : Int)] w fun e w' => ∃ v, e = .returned v ∧ OwnM w' w.heap.size v (patO f n o) ∧ Below w.heap.size w w' := by
  intro f
  induction f with
  | zero =>
    intro _ n hn o _ w
    obtain rfl : n = 0 := by omega
    exact loAll_zero 0 o w
  | succ f ih =>
    intro hf n hn o ho w
    cases n with
    | zero => exact loAll_zero _ o w
    | succ n =>
      have Ih := Lib.hid (ih (by omega))
      obtain ⟨j0, hj, hy0, hy1, hy2⟩ := info_parts Try.info_ints
      have Hend := Lib.hid (partO_end f n o)
      obtain ⟨N, hN⟩ : ∃ N, N = n + 1 := ⟨_, rfl⟩
      rw [← hN] at Hend hn ho ⊢
      have hne : ((N : Int) == 0) = false := beq_false_of_ne (by omega)
      have hN6 : N ≤ 6 := by omega
      have hNa : N ≤ n + 1 := by omega
      have hNb : n + 1 ≤ N := by omega
      clear hN
      clear ih
      go_enter Try.func132, Try.ntmps132
      go_wp2
      go_loopw [5, 6] (fun out i wr => ∃ k : Nat, k ≤ N ∧ i = .int .i64 k ∧ OwnM wr w.heap.size out (partO f n o k 0 0) ∧ Below w.heap.size w wr) (fun _ i _ => N - (intOf i).toNat)
      case atStart => exact ⟨0, Nat.zero_le _, rfl, by rw [partO_zero]; exact OwnM.nil _ _, Below.refl _ _⟩
      case round =>
        obtain ⟨k, hk, rfl, hown, hbr⟩ := hrel
        have Hown := Lib.hid hown
        have Hbr := Lib.hid hbr
        obtain ⟨wo, rfl⟩ : ∃ wo : World, wo = wr := ⟨_, rfl⟩
        clear hown hbr
        by_cases hlt : k < N
        · have Hk := Lib.hid (partO_k f n o k)
          have Hok := Lib.hid (patO_ok2 f (by omega) k (by omega) (o + 1) (by omega))
          have hcall := Ih.out k (by omega) (o + 1) (by omega) wo
          rw [show ((o + 1 : Nat) : Int) = (o : Int) + 1 from by omega] at hcall
          have HcallA := Lib.hid hcall
          clear hcall
          go_wp2_with fail
          refine HcallA.out.mono ?_
          rintro e wA ⟨va, rfl, hva, hbA⟩
          obtain ⟨aA, cA, vsA, rfl, hpA, _, _⟩ := hva.open
          have HPA := Lib.hid hpA
          have HBA := Lib.hid hbA
          obtain ⟨la, hla⟩ : ∃ la, la = (patO f k (o + 1)).length := ⟨_, rfl⟩
          have hla2 : la ≤ 132 := by rw [hla]; exact Hok.out.2
          rw [← hla] at Hk ⊢
          have Hla := Lib.hid hla
          clear hva hpA hbA hla HcallA
          go_wp2
          go_loopw [5, 25] (fun out i wq => ∃ s : Nat, s ≤ la ∧ i = .int .i64 s ∧ OwnM wq w.heap.size out (partO f n o k s 0) ∧ Below w.heap.size w wq ∧ wA.heap.size ≤ wq.heap.size ∧ Same wo.heap.size wA.heap.size wA wq ∧ (∀ g, out.ownBlock = some g → g < wo.heap.size ∨ wA.heap.size ≤ g)) (fun _ i _ => la - (intOf i).toNat)
          case atStart => exact ⟨0, Nat.zero_le _, rfl, Hown.out.below HBA.out, Hbr.out.trans (HBA.out.mono Hbr.out.size), Nat.le_refl _, Same.refl _ _ _, fun g hg => .inl (World.ownsRow.lt Hown.out.choose_spec.top g hg).2⟩
          case round =>
            obtain ⟨s, hs, rfl, hown, hbq, hszq, hsame, hap⟩ := hrel
            have HownQ := Lib.hid hown
            have Hbq := Lib.hid hbq
            have Hsame := Lib.hid hsame
            have Hap := Lib.hid hap
            obtain ⟨wq', rfl⟩ : ∃ wq' : World, wq' = wr := ⟨_, rfl⟩
            clear hown hbq hsame hap
            by_cases hsl : s < la
            · have hpq := HPA.out.same Hsame.out
              rw [← Hla.out] at hpq
              obtain ⟨b1, o1, r1, d1, rfl, hc1, hv1, _, hd1, hd2⟩ := hpq.rowAt hsl
              have ho1 := HPA.out.rows s (by rw [← Hla.out]; exact hsl)
              rw [hv1] at ho1
              have HI1 := Lib.hid ho1
              have hrl := rowsIn_at Hok.out.1 (i := s) (by rw [← Hla.out]; exact hsl)
              obtain ⟨A, hA⟩ : ∃ A, A = gr (patO f k (o + 1)) s := ⟨_, rfl⟩
              rw [← hA] at hc1 HI1 hrl hd1
              have HA := Lib.hid hA
              have hAl : A.length ≤ 12 := by rw [hrl.1]; omega
              have Hs1 := Lib.hid (partO_s f n o k s)
              obtain ⟨D, hD⟩ : ∃ D, D = n - k := ⟨_, rfl⟩
              obtain ⟨E, hE⟩ : ∃ E, E = o + 2 * k + 2 := ⟨_, rfl⟩
              have Hok2 := Lib.hid (patO_ok2 f (by omega) D (by omega) E (by omega))
              have hcall := Ih.out D (by omega) E (by omega) wq'
              rw [show ((D : Nat) : Int) = (N : Int) - 1 - (k : Int) from by omega, show ((E : Nat) : Int) = (o : Int) + 2 * (k : Int) + 2 from by omega] at hcall
              have Hcall := Lib.hid hcall
              rw [← hD, ← hE] at Hs1
              have HD := Lib.hid hD
              have HE := Lib.hid hE
              clear hpq ho1 hv1 hA hrl hD hcall hE
              go_wp2_with fail
              refine Hcall.out.mono ?_
              rintro e wB ⟨vb, rfl, hvb, hbB⟩
              obtain ⟨aB, cB, vsB, rfl, hpB, _, _⟩ := hvb.open
              have HPB := Lib.hid hpB
              have HBB := Lib.hid hbB
              have hqB := hbB.size
              obtain ⟨lb, hlb⟩ : ∃ lb, lb = (patO f D E).length := ⟨_, rfl⟩
              have hlb2 : lb ≤ 132 := by rw [hlb]; exact Hok2.out.2
              rw [← hlb] at Hs1 ⊢
              have Hlb := Lib.hid hlb
              clear hvb hpB hbB hlb Hcall
              go_wp2
              go_loopw [5, 40] (fun out i wt => ∃ t : Nat, t ≤ lb ∧ i = .int .i64 t ∧ OwnM wt w.heap.size out (partO f n o k s t) ∧ Below w.heap.size w wt ∧ wB.heap.size ≤ wt.heap.size ∧ Same wo.heap.size wA.heap.size wA wt ∧ Same wq'.heap.size wB.heap.size wB wt ∧
                (∀ g, out.ownBlock = some g → (g < wo.heap.size ∨ wA.heap.size ≤ g) ∧ (g < wq'.heap.size ∨ wB.heap.size ≤ g))) (fun _ i _ => lb - (intOf i).toNat)
              case atStart => exact ⟨0, Nat.zero_le _, rfl, HownQ.out.below HBB.out, Hbq.out.trans (HBB.out.mono Hbq.out.size), Nat.le_refl _, Hsame.out.trans (Same.of_below HBB.out hszq), Same.refl _ _ _, fun g hg => ⟨Hap.out g hg, .inl (World.ownsRow.lt HownQ.out.choose_spec.top g hg).2⟩⟩
              case round =>
                obtain ⟨t, ht, rfl, hown, hbt, hszt, hsA, hsB, hap⟩ := hrel
                have HownT := Lib.hid hown
                have Hbt := Lib.hid hbt
                have HsA := Lib.hid hsA
                have HsB := Lib.hid hsB
                have HapT := Lib.hid hap
                obtain ⟨wt', rfl⟩ : ∃ wt' : World, wt' = wr := ⟨_, rfl⟩
                clear hown hbt hsA hsB hap
                by_cases htl : t < lb
                · have hpt := HPB.out.same HsB.out
                  rw [← Hlb.out] at hpt
                  obtain ⟨b2, o2, r2, d2, rfl, hc2, _, ho2, he1, he2⟩ := hpt.rowAt htl
                  have hrl := rowsIn_at Hok2.out.1 (i := t) (by rw [← Hlb.out]; exact htl)
                  have hsnoc := partO_t f n o k s t
                  rw [← HD.out, ← HE.out, ← HA.out] at hsnoc
                  obtain ⟨C, hC⟩ : ∃ C, C = gr (patO f D E) t := ⟨_, rfl⟩
                  rw [← hC] at hc2 ho2 hrl hsnoc he1
                  have hCl : C.length ≤ 12 := by rw [hrl.1]; have := HD.out; omega
                  have HAat := Lib.hid (HI1.out.same_at HsA.out)
                  have HAn := Lib.hid HI1.out.nil_at
                  have HCat := Lib.hid (own_at ho2)
                  have HCn := Lib.hid ho2.nil_at
                  obtain ⟨M, hM⟩ : ∃ M, M = partO f n o k s t := ⟨_, rfl⟩
                  obtain ⟨R, hR⟩ : ∃ R, R = rowO n o k A C := ⟨_, rfl⟩
                  rw [← hM, ← hR] at hsnoc
                  rw [← hM] at HownT
                  have Hsn := Lib.hid hsnoc
                  have HR := Lib.hid (show R = (([(o : Int) + 2 * (k : Int) + 1] ++ A) ++ [(o : Int)]) ++ C by
                    rw [hR]
                    unfold rowO
                    rw [show ((o + 2 * k + 1 : Nat) : Int) = (o : Int) + 2 * (k : Int) + 1 from by omega]
                    simp)
                  have hMl : M.length ≤ 200000 := by rw [hM]; exact partO_len (by omega) (by omega) (by omega) (by omega) (by omega) (by omega) (fun d hd o' ho' => (patO_ok2 f (by omega) d (by omega) o' ho').2)
                  have hRl : R.length ≤ 40 := by rw [HR.out]; simp; omega
                  have HZt := Lib.hid Hbt.out.size
                  have hl0 := Lib.hid ((Below.refl wt'.heap.size wt').alloc (Nat.le_refl _) (.cells #[.int .i64 ((o : Int) + 2 * (k : Int) + 1)] 3))
                  have hu0 := Lib.hid (show OwnI (wt'.alloc (.cells #[.int .i64 ((o : Int) + 2 * (k : Int) + 1)] 3)) wt'.heap.size (.slice (some ⟨wt'.heap.size, 0, none⟩) 1 1) [(o : Int) + 2 * (k : Int) + 1] from World.ownsRow_lit wt' #[.int .i64 ((o : Int) + 2 * (k : Int) + 1)] 1 (Nat.le_refl _) (by unfold maxLen; omega) rfl)
                  clear hpt ho2 hrl hsnoc hC hM hR
                  go_wp2_with (at_builtin; refine wpList_append_ints rfl _ _ rfl wt'.heap.size _ [(o : Int) + 2 * (k : Int) + 1] rfl hu0.out r1 d1 A rfl HAn.out (HAat.out.below hl0.out) ?e1 ?e2 ?_)
                  case e1 => simp; omega
                  case e2 => exact hl0.out.size
                  intro v1 w1 hv1 hb1
                  have hl1 := Lib.hid (hl0.out.trans hb1)
                  have hu1 := Lib.hid hv1
                  clear hv1 hb1 hl0 hu0
                  have hl1a := Lib.hid (show Below wt'.heap.size w1 (w1.alloc (.cells #[.int .i64 (o : Int)] 3)) from (Below.refl _ _).alloc hl1.out.size _)
                  have hx1 := Lib.hid (show IntsAt (w1.alloc (.cells #[.int .i64 (o : Int)] 3)) (some ⟨w1.heap.size, 0, none⟩) [(o : Int)] from own_at (World.ownsRow_lit w1 #[.int .i64 (o : Int)] 1 (Nat.le_refl _) (by unfold maxLen; omega) rfl : OwnI (w1.alloc (.cells #[.int .i64 (o : Int)] 3)) w1.heap.size (.slice (some ⟨w1.heap.size, 0, none⟩) 1 1) [(o : Int)]))
                  go_wp2_with (at_builtin; refine wpList_append_ints rfl _ _ rfl wt'.heap.size _ ([(o : Int) + 2 * (k : Int) + 1] ++ A) rfl (World.ownsRow.alloc hu1.out _) (some ⟨w1.heap.size, 0, none⟩) 1 [(o : Int)] rfl (fun h => by cases h) hx1.out ?e3 ?e4 ?_)
                  case e3 => simp; omega
                  case e4 => exact Nat.le_trans hl1.out.size hl1a.out.size
                  intro v2 w2 hv2 hb2
                  have hl2 := Lib.hid (hl1.out.trans (hl1a.out.trans hb2))
                  have hu2 := Lib.hid hv2
                  clear hv2 hb2 hl1 hl1a hx1 hu1
                  go_wp2_with (at_builtin; refine wpList_append_ints rfl _ _ rfl wt'.heap.size _ (([(o : Int) + 2 * (k : Int) + 1] ++ A) ++ [(o : Int)]) rfl hu2.out r2 d2 C rfl HCn.out (HCat.out.below hl2.out) ?e5 ?e6 ?_)
                  case e5 => simp; omega
                  case e6 => exact hl2.out.size
                  intro v3 w3 hv3 hb3
                  have hv3' : OwnI w3 wt'.heap.size v3 R := by rw [HR.out]; simpa using hv3
                  have hb2 := hl2.out.trans hb3
                  obtain ⟨vs, hownt⟩ := HownT.out
                  have Hnew := Lib.hid hb2
                  have Hown3 := Lib.hid ((hownt.below hb2).more (r := R))
                  have Hu := Lib.hid hv3'
                  have Hfr := Lib.hid (hownt.fresh hv3' (Nat.le_refl _))
                  obtain ⟨ra, rc, hrv, _, _, _⟩ := hv3'.read
                  have HapV := Lib.hid HapT.out
                  have hb2s := hb2.size
                  clear hv3 hv3' hb3 hb2 hownt HownT HapT hu2 hl2
                  rw [hrv] at Hu Hfr
                  subst hrv
                  go_wp2_with (at_builtin; refine wpList_append_own_at _ rfl _ _ 22 rfl w.heap.size 24 j0 (.slice none 0 0) 1 24 Try.underlying22 hj hy0 hy1 hy2 rfl (by decide) _ _ _ rfl (World.ownsRow.alloc Hown3.out.top _) ⟨w3.heap.size, 0, none⟩ 1 1 [.slice ra R.length rc] rfl rfl ?d1 ?d2 ?d3 ?d4 ?d5 ?_)
                  case d1 => exact cell_one_new _ _ _
                  case d2 => intro u hu; simp at hu; subst hu; rfl
                  case d3 => unfold maxLen; omega
                  case d4 => omega
                  case d5 => have := HZt.out; simp; omega
                  intro v' w5 hown' hgrow _ hat
                  have hput := Hown3.out.snoc (Nat.le_trans HZt.out Hnew.out.size) (by rw [gr_last]; exact Hu.out.base HZt.out) Hfr.out hown' hgrow
                  have Hput := Lib.hid (show OwnM w5 w.heap.size v' (M ++ [R]) from ⟨_, by rw [List.length_append]; exact hput.1⟩)
                  have Hb5 := Lib.hid ((Hbt.out.trans (Hnew.out.mono HZt.out)).trans hput.2)
                  have hsz5 : w3.heap.size ≤ w5.heap.size := by have := hput.2.size; omega
                  have HsA5 := Lib.hid (HsA.out.trans ((Same.of_below Hnew.out (by omega)).trans ((Same.of_below ((Below.refl w3.heap.size w3).alloc (Nat.le_refl _) _) (by omega)).trans (Same.of_grown hgrow (by simp; omega) fun g hg => (HapV.out g hg).1))))
                  have HsB5 := Lib.hid (HsB.out.trans ((Same.of_below Hnew.out (by omega)).trans ((Same.of_below ((Below.refl w3.heap.size w3).alloc (Nat.le_refl _) _) (by omega)).trans (Same.of_grown hgrow (by simp; omega) fun g hg => (HapV.out g hg).2))))
                  have Hap5 := Lib.hid (show ∀ g, v'.ownBlock = some g → (g < wo.heap.size ∨ wA.heap.size ≤ g) ∧ (g < wq'.heap.size ∨ wB.heap.size ≤ g) by
                    intro g hg
                    rcases hat with h | h
                    · exact HapV.out g (by rw [← h]; exact hg)
                    · rw [h] at hg; simp at hg; omega)
                  clear hput hown' hgrow hat Hown3 Hu Hfr Hnew HapV
                  go_wp2
                  go_roundw
                  case rel => exact ⟨t + 1, by omega, by go_num, by rw [Hsn.out]; exact Hput.out, Hb5.out, by omega, HsA5.out, HsB5.out, Hap5.out⟩
                  case measure => simp [intOf]; omega
                · have Et := Lib.hid (show t = lb by omega)
                  have ho := HownT.out
                  rw [Et.out, Hs1.out] at ho
                  have Ho := Lib.hid ho
                  clear ho HownT
                  go_wp2
                  go_roundw
                  case rel => exact ⟨s + 1, by omega, by go_num, Ho.out, Hbt.out, by have := HBB.out.size; omega, HsA.out, fun g hg => (HapT.out g hg).1⟩
                  case measure => simp [intOf]; omega
            · have Es := Lib.hid (show s = la by omega)
              have ho := HownQ.out
              rw [Es.out, Hk.out] at ho
              have Ho := Lib.hid ho
              clear ho HownQ
              go_wp2
              go_roundw
              case rel => exact ⟨k + 1, by omega, by go_num, Ho.out, Hbq.out⟩
              case measure => simp [intOf]; omega
        · have Ek := Lib.hid (show k = N by omega)
          have ho := Hown.out
          rw [Ek.out, Hend.out] at ho
          have Ho := Lib.hid ho
          clear ho Hown
          go_wp2
          go_ret
          exact ⟨_, rfl, Ho.out, Hbr.out⟩

end Go.Proofs.Ytgdijjfipicodaa

namespace Go.Proofs.Ytgdijjfipicodaa
open Go.RowKit

end Go.Proofs.Ytgdijjfipicodaa

namespace Go.Proofs.Ytgdijjfipicodaa
open Go.RowKit

/-- a text cut at each stroke -/
def cut : List UInt8 → List (List UInt8)
  | [] => [[]]
  | b :: r => if b = 47 then [] :: cut r else (b :: (cut r).headD []) :: (cut r).tail

theorem cut_ex (l : List UInt8) : ∃ p ps, cut l = p :: ps := by
  cases l with
  | nil => exact ⟨_, _, rfl⟩
  | cons b r => unfold cut; split <;> exact ⟨_, _, rfl⟩
theorem cut_pos (l : List UInt8) : 1 ≤ (cut l).length := by
  obtain ⟨p, ps, e⟩ := cut_ex l
  rw [e]; simp
theorem cut_app (u y : List UInt8) : cut (u ++ 47 :: y) = cut u ++ cut y := by
  induction u with
  | nil => simp [cut]
  | cons b r ih =>
    obtain ⟨p, ps, e⟩ := cut_ex r
    simp only [List.cons_append, cut]
    by_cases h : b = 47
    · rw [if_pos h, if_pos h, ih]; rfl
    · rw [if_neg h, if_neg h, ih, e]; rfl
theorem cut_plain {x : List UInt8} (h : ∀ b ∈ x, b ≠ 47) : cut x = [x] := by
  induction x with
  | nil => rfl
  | cons b r ih => rw [cut, if_neg (h b (by simp)), ih (fun c hc => h c (by simp [hc]))]; rfl
theorem cut_at {x : List UInt8} (h : ∀ b ∈ x, b ≠ 47) (y : List UInt8) : cut (x ++ 47 :: y) = x :: cut y := by rw [cut_app, cut_plain h]; rfl
theorem cut_len (l : List UInt8) : (cut l).length ≤ l.length + 1 := by
  induction l with
  | nil => simp [cut]
  | cons b r ih =>
    obtain ⟨p, ps, e⟩ := cut_ex r
    rw [e] at ih
    unfold cut
    split
    · rw [e]; simp at ih ⊢; omega
    · rw [e]; simp at ih ⊢; omega
theorem cut_piece (l : List UInt8) : ∀ p ∈ cut l, p.length ≤ l.length := by
  induction l with
  | nil => simp [cut]
  | cons b r ih =>
    obtain ⟨q, qs, e⟩ := cut_ex r
    rw [e] at ih
    unfold cut
    rw [e]
    intro p hp
    split at hp
    · rcases List.mem_cons.1 hp with rfl | hp
      · simp
      · have := ih p hp; simp; omega
    · rcases List.mem_cons.1 hp with rfl | hp
      · have := ih q (by simp); simp; omega
      · have := ih p (by simp only [List.tail_cons] at hp; simp [hp]); simp; omega

def join : List (List UInt8) → List UInt8
  | [] => []
  | [p] => p
  | p :: q :: r => p ++ 47 :: join (q :: r)
theorem join_cut (l : List UInt8) : join (cut l) = l := by
  induction l with
  | nil => rfl
  | cons b r ih =>
    obtain ⟨p, ps, e⟩ := cut_ex r
    rw [e] at ih
    unfold cut
    split
    · next h => subst h; rw [e]; show [] ++ 47 :: join (p :: ps) = _; rw [ih]; rfl
    · rw [e]
      show join ((b :: p) :: ps) = _
      cases ps with
      | nil => simp only [join] at ih ⊢; rw [ih]
      | cons q qs => simp only [join, List.cons_append] at ih ⊢; rw [ih]
theorem cut_inj {l l' : List UInt8} (h : cut l = cut l') : l = l' := by rw [← join_cut l, h, join_cut]

/-- the sign that a byte stands for -/
def val (c : UInt8) : Int := if c = 45 then -1 else if c = 43 then 1 else 0
def rowV (p : List UInt8) : List Int := p.map val
/-- the table that a text stands for -/
def mv (l : List UInt8) : List (List Int) := (cut l).map rowV
theorem mv_len (l : List UInt8) : (mv l).length = (cut l).length := by simp [mv]
theorem gr_mv {l : List UInt8} {k : Nat} (h : k < (cut l).length) : gr (mv l) k = rowV ((cut l)[k]) := by
  rw [gr_lt (by rw [mv_len]; exact h)]
  simp [mv]
theorem val_sgc {x : Int} (h : -1 ≤ x ∧ x ≤ 1) : val (sgc x) = x := by
  have : x = -1 ∨ x = 0 ∨ x = 1 := by omega
  rcases this with rfl | rfl | rfl <;> decide
theorem val_le (c : UInt8) : -1 ≤ val c ∧ val c ≤ 1 := by
  unfold val
  split
  · omega
  · split <;> omega
theorem sgc_ne (x : Int) : sgc x ≠ 47 := by
  unfold sgc
  split
  · decide
  · split <;> decide
theorem rowB_all (xs : List Int) : rowB xs xs.length = xs.map sgc := by
  have key : ∀ k, k ≤ xs.length → rowB xs k = (xs.take k).map sgc := by
    intro k
    induction k with
    | zero => intro _; simp [rowB]
    | succ k ih =>
      intro hk
      rw [rowB, ih (by omega), List.take_add_one, List.map_append, List.getElem?_eq_getElem (by omega), gi_lt (by omega)]
      rfl
  rw [key _ (Nat.le_refl _), List.take_length]
theorem sgc_row (xs : List Int) : ∀ b ∈ xs.map sgc, b ≠ 47 := by
  intro b hb
  obtain ⟨x, _, rfl⟩ := List.mem_map.1 hb
  exact sgc_ne x
theorem cut_txt (m : List (List Int)) : ∀ k, cut (txtB m (k + 1)) = (List.range (k + 1)).map fun i => (gr m i).map sgc
  | 0 => by
    show cut (([] ++ sepB 0) ++ rowB (gr m 0) (gr m 0).length) = _
    rw [rowB_all]
    show cut ((gr m 0).map sgc) = _
    rw [cut_plain (sgc_row _)]
    rfl
  | k + 1 => by
    rw [txtB, rowB_all, show sepB (k + 1) = [47] from by simp [sepB], List.append_assoc]
    show cut (txtB m (k + 1) ++ 47 :: (gr m (k + 1)).map sgc) = _
    rw [cut_app, cut_txt m k, cut_plain (sgc_row _), List.range_succ (n := k + 1), List.map_append]
    rfl
theorem cut_txt_all {m : List (List Int)} (h : 1 ≤ m.length) : cut (txtB m m.length) = m.map fun r => r.map sgc := by
  obtain ⟨k, hk⟩ : ∃ k, m.length = k + 1 := ⟨m.length - 1, by omega⟩
  rw [hk, cut_txt]
  apply List.ext_getElem
  · simp [hk]
  · intro i h1 h2
    simp only [List.length_map, List.length_range] at h1
    simp only [List.getElem_map, List.getElem_range]
    rw [gr_lt (by omega)]

/-- the text is that of a sign matrix -/
def parses (l : List UInt8) : Prop := good (mv l) ∧ txtB (mv l) (mv l).length = l
theorem map_self {α : Type} {l : List α} {f : α → α} (h : l.map f = l) : ∀ p ∈ l, f p = p := by
  have : l.map f = l.map id := by rw [h, List.map_id]
  exact fun p hp => List.map_inj_left.1 this p hp
theorem parses_chars {l : List UInt8} (h : parses l) : ∀ p ∈ cut l, ∀ c ∈ p, sgc (val c) = c := by
  have e := cut_txt_all (m := mv l) h.1.1.1
  rw [h.2] at e
  have e2 : (cut l).map (fun p => (rowV p).map sgc) = cut l := by
    rw [mv, List.map_map] at e
    exact e.symm
  intro p hp c hc
  have e3 := map_self e2 p hp
  have e4 : p.map (fun c => sgc (val c)) = p := by rw [rowV, List.map_map] at e3; exact e3
  exact map_self e4 c hc
theorem parses_of_chars {l : List UInt8} (hg : good (mv l)) (h : ∀ p ∈ cut l, ∀ c ∈ p, sgc (val c) = c) : parses l := by
  refine ⟨hg, cut_inj ?_⟩
  rw [cut_txt_all hg.1.1, mv, List.map_map]
  have : (cut l).map ((fun r => List.map sgc r) ∘ rowV) = (cut l).map id := by
    refine List.map_inj_left.2 fun p hp => ?_
    show (p.map val).map sgc = p
    rw [List.map_map]
    have : p.map (sgc ∘ val) = p.map id := List.map_inj_left.2 fun c hc => h p hp c hc
    rw [this, List.map_id]
  rw [this, List.map_id]
theorem not_parses_many {l : List UInt8} (h : 6 < (cut l).length) : ¬ parses l := fun hp => by
  have := hp.1.1.2.1
  rw [mv_len] at this
  omega
theorem not_parses_long {l : List UInt8} {k : Nat} (h : k < (cut l).length) (h2 : 6 < ((cut l)[k]).length) : ¬ parses l := fun hp => by
  have h3 := hp.1.1.2.2 k (by rw [mv_len]; exact h)
  have h4 := hp.1.1.2.1
  rw [gr_mv h, rowV, List.length_map] at h3
  omega
theorem not_parses_len {l : List UInt8} {k : Nat} (h : k < (cut l).length) (h2 : ((cut l)[k]).length ≠ (cut l).length) : ¬ parses l := fun hp => by
  have h3 := hp.1.1.2.2 k (by rw [mv_len]; exact h)
  rw [gr_mv h, rowV, List.length_map, mv_len] at h3
  exact h2 h3

/-- the library's first stroke, and the text behind it -/
theorem idx_cases (l : List UInt8) : (Lib.indexByte l 47 = -1 ∧ cut l = [l]) ∨ ∃ i : Nat, Lib.indexByte l 47 = i ∧ cut l = l.take i :: cut (l.drop (i + 1)) := by
  induction l with
  | nil => exact .inl ⟨rfl, rfl⟩
  | cons b r ih =>
    by_cases h : b = 47
    · subst h
      exact .inr ⟨0, by simp [Lib.indexByte], by simp [cut]⟩
    · have hb : (b == 47) = false := by simp [h]
      rcases ih with ⟨h1, h2⟩ | ⟨i, h1, h2⟩
      · exact .inl ⟨by simp [Lib.indexByte, hb, h1], by rw [cut, if_neg h, h2]; rfl⟩
      · refine .inr ⟨i + 1, ?_, ?_⟩
        · have h3 : ((i : Int) == -1) = false := by simp
          simp only [Lib.indexByte, hb, h1, h3]
          simp
        · rw [cut, if_neg h, h2]; rfl
theorem splitK_cut : ∀ (k : Nat) (l : List UInt8), (cut l).length ≤ k + 1 → Lib.splitK [47] 0 k l = cut l
  | 0, l, h => by
    rcases idx_cases l with ⟨_, h2⟩ | ⟨i, _, h2⟩
    · rw [h2]; rfl
    · have := cut_pos (l.drop (i + 1))
      rw [h2] at h; simp only [List.length_cons] at h; omega
  | k + 1, l, h => by
    unfold Lib.splitK
    rw [Lib.index_one]
    rcases idx_cases l with ⟨h1, h2⟩ | ⟨i, h1, h2⟩
    · rw [h1, h2]; rfl
    · have h3 : ((i : Int) == -1) = false := by simp
      rw [h2] at h
      rw [h1, h3, h2]
      simp only [Bool.false_eq_true, if_false, Int.toNat_natCast, List.length_singleton, Nat.add_zero]
      rw [splitK_cut k _ (by simpa using h)]
theorem splitK_long : ∀ (k : Nat) (l : List UInt8), k + 1 ≤ (cut l).length → (Lib.splitK [47] 0 k l).length = k + 1
  | 0, l, _ => rfl
  | k + 1, l, h => by
    unfold Lib.splitK
    rw [Lib.index_one]
    rcases idx_cases l with ⟨h1, h2⟩ | ⟨i, h1, h2⟩
    · rw [h2] at h; simp at h
    · have h3 : ((i : Int) == -1) = false := by simp
      rw [h2] at h
      rw [h1, h3]
      simp only [Bool.false_eq_true, if_false, Int.toNat_natCast, Nat.add_zero, List.length_cons]
      rw [splitK_long k _ (by simpa using h)]
theorem idx3 (c : UInt8) : (sgc (val c) = c ∧ Lib.indexByte [45, 48, 43] c = val c + 1) ∨ (sgc (val c) ≠ c ∧ Lib.indexByte [45, 48, 43] c = -1) := by
  by_cases h1 : c = 45
  · subst h1; exact .inl (by decide)
  by_cases h2 : c = 43
  · subst h2; exact .inl (by decide)
  by_cases h3 : c = 48
  · subst h3; exact .inl (by decide)
  refine .inr ⟨?_, ?_⟩
  · have : val c = 0 := by unfold val; rw [if_neg h1, if_neg h2]
    rw [this]
    exact fun h => h3 h.symm
  · have e1 : ((45 : UInt8) == c) = false := by simp; exact fun h => h1 h.symm
    have e2 : ((43 : UInt8) == c) = false := by simp; exact fun h => h2 h.symm
    have e3 : ((48 : UInt8) == c) = false := by simp; exact fun h => h3 h.symm
    simp [Lib.indexByte, e1, e2, e3]
end Go.Proofs.Ytgdijjfipicodaa

namespace Go.Proofs.Ytgdijjfipicodaa
open Go.RowKit

/-- a slice of texts that the call owns from block B on -/
def OwnS (w : World) (B : Nat) (v : Value) (ps : List (List UInt8)) : Prop := w.ownsRow B 9 1 v ps.length (ps.map fun p => .string (bstr p))
theorem OwnS.below {w w' : World} {B : Nat} {v : Value} {ps : List (List UInt8)} (h : OwnS w B v ps) (hb : Below w.heap.size w w') : OwnS w' B v ps := ownsRow_below h hb
theorem OwnS.nil (w : World) (B : Nat) : OwnS w B (.slice none 0 0) [] := World.ownsRow_nil _ _ _ _
/-- the cells at an address hold these texts -/
def TextsAt (w : World) (ao : Option Addr) (ps : List (List UInt8)) : Prop :=
  ∀ i (h : i < ps.length), ∃ b o, ao = some ⟨b, o, none⟩ ∧ w.cell? ⟨b, o + i, none⟩ = some (.string (bstr ps[i]))
theorem TextsAt.below {w w' : World} {ao : Option Addr} {ps : List (List UInt8)} (h : TextsAt w ao ps) (hb : Below w.heap.size w w') : TextsAt w' ao ps := by
  intro i hi
  obtain ⟨b, o, e, hc⟩ := h i hi
  exact ⟨b, o, e, cell_below hc hb⟩
theorem OwnS.read {w : World} {B : Nat} {v : Value} {ps : List (List UInt8)} (h : OwnS w B v ps) : ∃ ao c, v = .slice ao ps.length c ∧ ps.length ≤ c ∧ c ≤ 9223372036854775807 ∧ TextsAt w ao ps := by
  obtain ⟨ao, c, hv, h1, h2, hc⟩ := ownsRow_read h
  refine ⟨ao, c, hv, h1, h2, fun i hi => ?_⟩
  obtain ⟨b, o, e, hcell⟩ := hc i hi
  exact ⟨b, o, e, by rw [hcell]; simp [List.getD, hi]⟩
theorem OwnS.snoc {w w1 : World} {B : Nat} {v v' : Value} {ps : List (List UInt8)} {p : List UInt8} {o : Obj} (h : OwnS w B v ps) (hB : B ≤ w.heap.size)
    (h1 : w1.ownsRow B 9 1 v' (ps.length + 1) ((ps.map fun p => .string (bstr p)) ++ [.string (bstr p)])) (hg : (w.alloc o).grownBy w1 v.ownBlock) : OwnS w1 B v' (ps ++ [p]) ∧ Below B w w1 := by
  refine ⟨by unfold OwnS; rw [List.length_append, List.map_append]; exact h1, ?_⟩
  refine Below.grown ((Below.refl B w).alloc hB o) hg (by simp; omega) (fun k hk => (World.ownsRow.lt h k hk).1)

theorem Try.info_string : (Try.prog.info? 9).map (fun i => (i.zero, i.size, i.bytes)) = some (some (.string ⟨#[]⟩), 1, 16) := by kernel_rfl

theorem bstr_size (l : List UInt8) : (bstr l).size = l.length := rfl
theorem str_at {l : List UInt8} {k : Nat} {b : UInt8} (h : l[k]? = some b) (w : World) : (Instr.index 9 (.string (bstr l)) (.int .i64 (k : Int))).run Try.prog w = .ok (.int .u8 (b.toNat : Int)) w := by
  have hk : k < l.length := (List.getElem?_eq_some_iff.1 h).1
  rw [run_index_string w 9 (bstr l) .i64 (k : Int) Try.underlying9, dif_pos ⟨by omega, by rw [bstr_size]; omega⟩]
  have he : l[k] = b := (List.getElem?_eq_some_iff.1 h).2
  subst he
  rfl
theorem str_cut {l : List UInt8} {a k : Nat} (ha : a ≤ k) (hk : k ≤ l.length) (w : World) : (Instr.slice 9 (.string (bstr l)) (some (.int .i64 (a : Int))) (some (.int .i64 (k : Int))) none).run Try.prog w = .ok (.string (bstr ((l.drop a).take (k - a)))) w := by
  rw [run_slice_string w 9 (bstr l) .i64 .i64 (a : Int) (k : Int) Try.underlying9 (by omega) (by omega) (by rw [bstr_size]; omega)]
  have := ByteArray.extract_mk l a k
  simp only [Int.toNat_natCast]
  exact congrArg (fun x => Result.ok (Value.string x) w) this
theorem str_from {l : List UInt8} {a : Nat} (ha : a ≤ l.length) (w : World) : (Instr.slice 9 (.string (bstr l)) (some (.int .i64 (a : Int))) none none).run Try.prog w = .ok (.string (bstr (l.drop a))) w := by
  rw [run_slice_string_from_if w 9 (bstr l) .i64 (a : Int) Try.underlying9, if_pos ⟨by omega, by rw [bstr_size]; omega⟩]
  have h1 := ByteArray.extract_mk l a l.length
  have h2 : (l.drop a).take (l.length - a) = l.drop a := List.take_of_length_le (by simp)
  rw [h2] at h1
  simp only [Int.toNat_natCast, bstr_size]
  exact congrArg (fun x => Result.ok (Value.string x) w) h1
theorem nat_beq {b : UInt8} {n : Nat} (c : UInt8) (h : c.toNat = n) : ((b.toNat : Int) == (n : Int)) = decide (b = c) := by
  subst h
  by_cases e : b = c
  · subst e; simp
  · have : b.toNat ≠ c.toNat := fun h => e (UInt8.toNat_inj.1 h)
    simp [e]
    omega

theorem drop_at {l : List UInt8} {k : Nat} {b : UInt8} (h : l[k]? = some b) : l.drop k = b :: l.drop (k + 1) := by
  have hk : k < l.length := (List.getElem?_eq_some_iff.1 h).1
  rw [List.drop_eq_getElem_cons hk]
  rw [(List.getElem?_eq_some_iff.1 h).2]
theorem no_in {l : List UInt8} {a k : Nat} (h : ∀ j, a ≤ j → j < k → l[j]? ≠ some 47) : ∀ b ∈ (l.drop a).take (k - a), b ≠ 47 := by
  intro b hb e
  subst e
  obtain ⟨i, hi⟩ := List.mem_iff_getElem?.1 hb
  rw [List.getElem?_take] at hi
  split at hi
  · next h1 => rw [List.getElem?_drop] at hi; exact h (a + i) (by omega) (by omega) hi
  · cases hi
theorem cut_drop {l : List UInt8} {a k : Nat} (ha : a ≤ k) (hk : l[k]? = some 47) (h : ∀ j, a ≤ j → j < k → l[j]? ≠ some 47) : cut (l.drop a) = (l.drop a).take (k - a) :: cut (l.drop (k + 1)) := by
  have e : l.drop a = (l.drop a).take (k - a) ++ 47 :: l.drop (k + 1) := by
    conv => lhs; rw [← List.take_append_drop (k - a) (l.drop a)]
    rw [List.drop_drop, show a + (k - a) = k from by omega, drop_at hk]
  conv => lhs; rw [e]
  exact cut_at (no_in h) _
theorem cut_last {l : List UInt8} {a : Nat} (h : ∀ j, a ≤ j → j < l.length → l[j]? ≠ some 47) : cut (l.drop a) = [l.drop a] := by
  have := no_in h
  rw [List.take_of_length_le (by simp)] at this
  exact cut_plain this

end Go.Proofs.Ytgdijjfipicodaa

namespace Go.Proofs.Ytgdijjfipicodaa
open Go.RowKit

/-- a text's bytes as numbers -/
def byt (l : List UInt8) (k : Nat) : Int := ((l.getD k 0).toNat : Int)
def reads (l : List UInt8) : Prop := 2 ≤ l.length ∧ l.length ≤ 12 ∧ ∃ P, runP l.length (byt l) l.length = some (P, [])
def readP (l : List UInt8) : List Int := match runP l.length (byt l) l.length with
  | some (P, _) => P
  | none => []

theorem byt_at {l : List UInt8} {k : Nat} {b : UInt8} (h : l[k]? = some b) : byt l k = (b.toNat : Int) := by unfold byt; rw [List.getD, h]; rfl
theorem run_none {n : Nat} {s : Nat → Int} {k : Nat} (h : runP n s k = none) : ∀ d, runP n s (k + d) = none := by
  intro d
  induction d with
  | zero => exact h
  | succ d ih => rw [← Nat.add_assoc, runP, ih]; rfl
theorem run_len {n : Nat} {s : Nat → Int} : ∀ k P S, runP n s k = some (P, S) → P.length = n ∧ S.length ≤ k := by
  intro k
  induction k with
  | zero =>
    intro P S h
    simp only [runP, Option.some.injEq, Prod.mk.injEq] at h
    obtain ⟨rfl, rfl⟩ := h
    simp
  | succ k ih =>
    intro P S h
    rw [runP, Option.bind_eq_some_iff] at h
    obtain ⟨⟨P0, S0⟩, h0, h1⟩ := h
    have h2 := ih P0 S0 h0
    unfold stepP at h1
    split at h1
    · simp only [Option.some.injEq, Prod.mk.injEq] at h1
      obtain ⟨rfl, rfl⟩ := h1
      simp; omega
    · split at h1
      · split at h1
        · simp at h1
        · simp only [Option.some.injEq, Prod.mk.injEq] at h1
          obtain ⟨rfl, rfl⟩ := h1
          simp; omega
      · simp at h1
theorem not_reads {l : List UInt8} {k : Nat} (hk : k ≤ l.length) (h : runP l.length (byt l) k = none) : ¬ reads l := by
  rintro ⟨_, _, P, hP⟩
  have := run_none h (l.length - k)
  rw [show k + (l.length - k) = l.length from by omega, hP] at this
  cases this
theorem run_open {n : Nat} {s : Nat → Int} {k : Nat} {P S : List Int} (h : runP n s k = some (P, S)) (hs : s k = 40) : runP n s (k + 1) = some (P, S ++ [(k : Int)]) := by
  rw [runP, h]; simp [stepP, hs]
theorem run_shut {n : Nat} {s : Nat → Int} {k : Nat} {P A : List Int} {f : Int} (h : runP n s k = some (P, A ++ [f])) (hs : s k = 41) : runP n s (k + 1) = some ((P.set k f).set f.toNat k, A) := by
  rw [runP, h]; simp [stepP, hs]
theorem run_shut_none {n : Nat} {s : Nat → Int} {k : Nat} {P : List Int} (h : runP n s k = some (P, [])) (hs : s k = 41) : runP n s (k + 1) = none := by
  rw [runP, h]; simp [stepP, hs]
theorem run_other {n : Nat} {s : Nat → Int} {k : Nat} {P S : List Int} (h : runP n s k = some (P, S)) (h1 : s k ≠ 40) (h2 : s k ≠ 41) : runP n s (k + 1) = none := by
  rw [runP, h]; simp [stepP, h1, h2]
theorem readP_of {l : List UInt8} {P : List Int} (h : runP l.length (byt l) l.length = some (P, [])) : readP l = P := by unfold readP; rw [h]
theorem run_mem {n : Nat} {s : Nat → Int} {k : Nat} {P A : List Int} {f : Int} (hk : k ≤ n) (h : runP n s k = some (P, A ++ [f])) : ∃ g : Nat, f = g ∧ g < k := by
  have := (PInv.run k P _ hk h).mem f (by simp)
  exact ⟨f.toNat, by omega, by omega⟩
theorem OwnI.pop {w : World} {B q cap : Nat} {A : List Int} {f : Int} (h : OwnI w B (.slice (some ⟨q, 0, none⟩) (A.length + 1) cap) (A ++ [f])) : OwnI w B (.slice (some ⟨q, 0, none⟩) A.length cap) A := by
  unfold OwnI at h ⊢
  rw [List.length_append, List.map_append] at h
  exact ownsRow_pop (last := [Value.int .i64 f]) (by simp) h

end Go.Proofs.Ytgdijjfipicodaa

namespace Go.Proofs.Ytgdijjfipicodaa
open Go.RowKit

theorem readP_few {l : List UInt8} (h : reads l) : (readP l).length ≤ 1048576 := by
  obtain ⟨_, h12, P, hP⟩ := h
  rw [readP_of hP, (run_len _ _ _ hP).1]
  omega

/-- bytes that a call owns from block B on -/
def OwnU (w : World) (B : Nat) (v : Value) (l : List UInt8) : Prop := w.ownsRow B 5 1 v l.length (l.map fun b => Value.int .u8 (b.toNat : Int))

theorem Try.info_uint8 : (Try.prog.info? 5).map (fun i => (i.zero, i.size, i.bytes)) = some (some (.int .u8 0), 1, 1) := by kernel_rfl

theorem OwnU.made {w : World} {B g n : Nat} (h : w.ownsRow B 5 1 (.slice (some ⟨g, 0, none⟩) n n) n (madeCells #[Value.int .u8 0] n).toList) : OwnU w B (.slice (some ⟨g, 0, none⟩) n n) (List.replicate n 0) := by
  unfold OwnU
  rw [List.length_replicate, List.map_replicate, show (((0 : UInt8).toNat : Nat) : Int) = 0 from rfl, ← toList_madeCells_one]
  exact h
theorem OwnU.len {w : World} {B n c : Nat} {ao : Option Addr} {l : List UInt8} (h : OwnU w B (.slice ao n c) l) : l.length = n := by
  rcases h.2 with ⟨h0, h1⟩ | ⟨g, cap, cur, hv, _⟩
  · simp only [Value.slice.injEq] at h0; omega
  · simp only [Value.slice.injEq] at hv; omega
theorem OwnU.store {w : World} {B g n c : Nat} {l : List UInt8} (h : OwnU w B (.slice (some ⟨g, 0, none⟩) n c) l) (i : Nat) (x : UInt8) :
    OwnU (w.setCell ⟨g, i, none⟩ (.int .u8 (x.toNat : Int))) B (.slice (some ⟨g, 0, none⟩) n c) (l.set i x) := by
  have hl := h.len
  subst hl
  have := (World.ownsRow.stored h i (.int .u8 (x.toNat : Int))).1
  unfold OwnU
  rw [List.length_set, List.map_set]
  exact this
theorem OwnU.cellAt {w : World} {B g n c : Nat} {l : List UInt8} (h : OwnU w B (.slice (some ⟨g, 0, none⟩) n c) l) (i : Nat) (hi : i < n) : w.cell? ⟨g, i, none⟩ = some (.int .u8 ((l.getD i 0).toNat : Int)) := by
  have hl := h.len
  subst hl
  rw [World.ownsRow.cellAt h i (by omega)]
  simp [List.getD, hi]
theorem OwnU.frozenAt {w : World} {B g n c : Nat} {l : List UInt8} (h : OwnU w B (.slice (some ⟨g, 0, none⟩) n c) l) (i : Nat) : w.frozen? ⟨g, i, none⟩ = false := by
  have hl := h.len
  subst hl
  exact World.ownsRow.frozenAt h i

/-- the bracket of an end as a byte -/
def bk (p : List Int) (e : Nat) : UInt8 := if gi p e > e then 40 else 41
theorem brkB_at (p : List Int) : ∀ k j, j < k → (brkB p k).getD j 0 = bk p j := by
  intro k
  induction k with
  | zero => intro j h; omega
  | succ k ih =>
    intro j h
    have hl := brkB_len p k
    by_cases e : j < k
    · have := ih j e
      simp only [brkB, List.getD, List.getElem?_append_left (show j < (brkB p k).length by omega)] at this ⊢
      exact this
    · obtain rfl : j = k := by omega
      simp [brkB, List.getD, List.getElem?_append_right (show (brkB p j).length ≤ j by omega), hl, bk]
theorem bytes_ext {l l' : List UInt8} (h : l.length = l'.length) (e : ∀ i, i < l.length → l.getD i 0 = l'.getD i 0) : l = l' := by
  apply List.ext_getElem h
  intro i h1 h2
  have := e i h1
  simpa [List.getD, h1, h2] using this
theorem getD_set {l : List UInt8} {i j : Nat} {x : UInt8} (h : i < l.length) : (l.set i x).getD j 0 = if j = i then x else l.getD j 0 := by
  by_cases e : j = i
  · subst e; simp [List.getD, h]
  · rw [if_neg e]; simp [List.getD, List.getElem?_set, Ne.symm e]

set_option maxRecDepth 100000 in
set_option maxHeartbeats 800000 in
theorem sEqualInts_any (a1 a2 : Option Addr) (c1 c2 : Nat) (xs ys : List Int) (w : World) (hn : xs.length ≤ 1048576) (hn2 : ys.length ≤ 1048576) (h1 : IntsAt w a1 xs) (h2 : IntsAt w a2 ys) :
    Calls Try.prog 93 #[.slice a1 xs.length c1, .slice a2 ys.length c2] w fun e w' => e = .returned (.bool (xs == ys)) ∧ Q w w' := by
  have hm1 : xs.length ≤ 9223372036854775807 := by omega
  have hm2 : ys.length ≤ 9223372036854775807 := by omega
  have H1 := Lib.hid h1
  have H2 := Lib.hid h2
  clear h1 h2
  by_cases hl : ys.length = xs.length
  · have Hl := Lib.hid hl
    have hb : ((xs.length : Int) != (ys.length : Int)) = false := by simp; omega
    go_enter Try.func93, Try.ntmps93
    go_wp2
    go_loopw [13] (fun i wr => ∃ k : Nat, k ≤ xs.length ∧ i = .int .i64 k ∧ (∀ j, j < k → gi xs j = gi ys j) ∧ Q w wr) (fun i _ => xs.length - (intOf i).toNat)
    case atStart => exact ⟨0, Nat.zero_le _, rfl, fun j hj => absurd hj (by omega), Q.refl _⟩
    case round =>
      obtain ⟨k, hk, rfl, hr, hbr⟩ := hrel
      by_cases hlt : k < xs.length
      · obtain ⟨b1, o1, rfl, hc1⟩ := H1.out.below (hbr.below _) k hlt
        obtain ⟨b2, o2, rfl, hc2⟩ := H2.out.below (hbr.below _) k (by omega)
        have Hr := Lib.hid hr
        have Hbr := Lib.hid hbr
        by_cases e : gi xs k = gi ys k
        · have He := Lib.hid e
          rw [← e] at hc2
          obtain ⟨x, hx⟩ : ∃ x, x = gi xs k := ⟨_, rfl⟩
          rw [← hx] at hc1 hc2
          clear hx e hr hbr
          go_wp2
          go_quiet (fail)
          go_wp2
          go_roundw
          case rel => exact ⟨k + 1, by omega, by go_num, fun j hj => by
            by_cases ej : j = k
            · subst ej; exact He.out
            · exact Hr.out j (by omega), Hbr.out.drewN _⟩
          case measure => simp [intOf]; omega
        · have Hs := Lib.hid (show (xs == ys) = false by
            rw [beq_eq_false_iff_ne]
            intro h
            exact e (by rw [h]))
          have hne : (gi xs k != gi ys k) = true := by simpa using e
          obtain ⟨x, hx⟩ : ∃ x, x = gi xs k := ⟨_, rfl⟩
          obtain ⟨y, hy⟩ : ∃ y, y = gi ys k := ⟨_, rfl⟩
          rw [← hx] at hc1 hne
          rw [← hy] at hc2 hne
          clear hx hy e hr hbr
          go_wp2
          go_quiet (fail)
          go_wp2
          go_ret
          exact ⟨by rw [Hs.out]; rfl, Hbr.out.drewN _⟩
      · obtain rfl : k = xs.length := by omega
        have Hs := Lib.hid (show (xs == ys) = true by
          rw [beq_iff_eq]
          exact ext_gi Hl.out.symm hr)
        have Hbr := Lib.hid hbr
        clear hr hbr
        go_wp2
        go_ret
        exact ⟨by rw [Hs.out]; rfl, Hbr.out⟩
  · have Hs := Lib.hid (show (xs == ys) = false by
      rw [beq_eq_false_iff_ne]
      intro h
      exact hl (by rw [h]))
    have hb : ((xs.length : Int) != (ys.length : Int)) = true := by simp; omega
    go_enter Try.func93, Try.ntmps93
    go_wp2
    go_ret
    exact ⟨by rw [Hs.out]; rfl, Q.refl _⟩

end Go.Proofs.Ytgdijjfipicodaa

