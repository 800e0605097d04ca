/- Parts of proofs: contracts and plain facts. Conditions: as each says. -/
import Derived.Test.YtjkpokpidpampaaDoorK09
import Derived.Deep.RegionWith
import Derived.Maps.RangeWalk
namespace Go.Proofs.YtjkpokpidpampaaDoor
open Go.RowKit

def sv (b : List Int) : Value := .int .u64 (mask b : Nat)
/-- the cells at an address read as these sets -/
def SetsAt (w : World) (ao : Option Addr) (bs : List (List Int)) : Prop := ∀ i, i < bs.length → ∃ b o, ao = some ⟨b, o, none⟩ ∧ w.cell? ⟨b, o + i, none⟩ = some (sv (gr bs i))
theorem SetsAt.below {w w' : World} {ao : Option Addr} {bs : List (List Int)} (h : SetsAt w ao bs) (hb : Below w.heap.size w w') : SetsAt w' ao bs := by
  intro i hi
  obtain ⟨b, o, e, hc⟩ := h i hi
  exact ⟨b, o, e, cell_below hc hb⟩
/-- a slice of sets that the call owns -/
def OwnB (w : World) (B : Nat) (v : Value) (bs : List (List Int)) : Prop := w.ownsRow B 77 1 v bs.length (bs.map sv)
theorem OwnB.below {w w' : World} {B : Nat} {v : Value} {bs : List (List Int)} (h : OwnB w B v bs) (hb : Below w.heap.size w w') : OwnB w' B v bs := ownsRow_below h hb
theorem OwnB.base {w : World} {B B' : Nat} {v : Value} {bs : List (List Int)} (h : OwnB w B v bs) (hB : B' ≤ B) : OwnB w B' v bs := ownsRow_base h hB
theorem OwnB.nil (w : World) (B : Nat) : OwnB w B (.slice none 0 0) [] := World.ownsRow_nil _ _ _ _
theorem OwnB.read {w : World} {B : Nat} {v : Value} {bs : List (List Int)} (h : OwnB w B v bs) : ∃ ao c, v = .slice ao bs.length c ∧ bs.length ≤ c ∧ c ≤ 9223372036854775807 ∧ SetsAt w ao bs := by
  obtain ⟨ao, c, hv, h1, h2, hc⟩ := ownsRow_read h
  refine ⟨ao, c, hv, h1, h2, fun i hi => ?_⟩
  obtain ⟨b, o, e, hcell⟩ := hc i hi
  refine ⟨b, o, e, ?_⟩
  rw [hcell, gr_lt hi]
  simp [List.getD, hi]
theorem OwnB.snoc {w w1 : World} {B : Nat} {v v' : Value} {bs : List (List Int)} {x : List Int} {o : Obj} (h : OwnB w B v bs) (hB : B ≤ w.heap.size)
    (h1 : w1.ownsRow B 77 1 v' (bs.length + 1) (bs.map sv ++ [sv x])) (hg : (w.alloc o).grownBy w1 v.ownBlock) : OwnB w1 B v' (bs ++ [x]) ∧ Below B w w1 := by
  refine ⟨by unfold OwnB; rw [List.length_append, List.map_append]; exact h1, ?_⟩
  exact Below.grown ((Below.refl B w).alloc hB o) hg (by simp; omega) (fun k hk => (World.ownsRow.lt h k hk).1)
theorem OwnB.one (w : World) : OwnB (w.alloc (.cells #[sv []] 77)) w.heap.size (.slice (some ⟨w.heap.size, 0, none⟩) 1 1) [[]] := ownsRow_built w [sv []] (Nat.le_refl _) (by simp)

theorem Tryd.info_rowset : (Tryd.prog.info? 77).map (fun i => (i.zero, i.size, i.bytes)) = some (some (.int .u64 0), 1, 8) := by kernel_rfl

theorem i64_small {n : Int} (h1 : -1000000 ≤ n) (h2 : n ≤ 1000000) : IntKind.i64.wrap n = n := by
  simp [IntKind.wrap, IntKind.bits, IntKind.signed]
  omega

/-- of those that are behind b, the ones of the numbers lo .. v - 1 -/
def lengPart (b : List Int) (lo v : Int) : List (List Int) := ((rng lo (v - 1)).filter fun x => decide (lst b < x)).map fun x => b ++ [x]
theorem lengPart_start (b : List Int) (lo : Int) : lengPart b lo lo = [] := by unfold lengPart; rw [rng_nil (by omega)]; rfl
theorem lengPart_step {b : List Int} {lo v : Int} (h : lo ≤ v) : lengPart b lo (v + 1) = lengPart b lo v ++ (if lst b < v then [b ++ [v]] else []) := by
  unfold lengPart
  rw [show v + 1 - 1 = v from by omega, rng_snoc h, List.filter_append, List.map_append]
  by_cases hl : lst b < v <;> simp [hl]
theorem leng_take {bs : List (List Int)} {k : Nat} (h : k < bs.length) (lo hi : Int) : leng (bs.take (k + 1)) lo hi = leng (bs.take k) lo hi ++ lengPart (gr bs k) lo (hi + 1) := by
  unfold leng lengPart
  rw [List.take_succ_eq_append_getElem h, List.flatMap_append, gr_lt h, show hi + 1 - 1 = hi from by omega]
  simp

theorem or_step {b : List Int} {v : Int} (hb : Rise b) (h0 : 0 ≤ v) (h1 : v ≤ 15) : bits .or .u64 ((mask b : Nat) : Int) ((2 ^ v.toNat : Nat) : Int) = ((mask (b ++ [v]) : Nat) : Int) := by
  have := mask_lt16 hb
  have h2 : 2 ^ v.toNat ≤ 2 ^ 15 := Nat.pow_le_pow_right (by omega) (by omega)
  rw [u64_or_nat _ _ (by omega) (by omega), mask_snoc]

set_option maxRecDepth 100000 in
set_option maxHeartbeats 1600000 in
theorem lengthened_any (ao : Option Addr) (c : Nat) (bs : List (List Int)) (lo hi : Int) (w : World) (hn : bs.length ≤ 1048576) (hbs : ∀ b ∈ bs, Rise b) (hlo : 0 ≤ lo) (hlo2 : lo ≤ 15) (hhi : hi ≤ 15) (hx : SetsAt w ao bs) :
    Calls Tryd.prog 87 #[.slice ao bs.length c, .int .i64 lo, .int .i64 hi] w fun e w' => ∃ v, e = .returned v ∧ OwnB w' w.heap.size v (leng bs lo hi) ∧ Below w.heap.size w w' := by
  obtain ⟨i0, hi0, hz0, hz1, hz2⟩ := info_parts Tryd.info_rowset
  have hmx : bs.length ≤ 9223372036854775807 := by omega
  have Hx := Lib.hid hx
  have Hbs := Lib.hid hbs
  clear hx hbs
  go_enter Tryd.func87, Tryd.ntmps87
  go_wp2
  go_loopw [7, 13] (fun out i wr => ∃ k : Nat, k ≤ bs.length ∧ i = .int .i64 k ∧ OwnB wr w.heap.size out (leng (bs.take k) lo hi) ∧ Below w.heap.size w wr) (fun _ i _ => bs.length - (intOf i).toNat)
  case atStart => exact ⟨0, Nat.zero_le _, rfl, OwnB.nil _ _, Below.refl _ _⟩
  case round =>
    obtain ⟨k, hk, rfl, hown, hbr⟩ := hrel
    by_cases hlt : k < bs.length
    · obtain ⟨b0, o0, rfl, hc0⟩ := Hx.out k hlt
      have hc := cell_below hc0 hbr
      have hrise := Hbs.out _ (gr_mem hlt)
      have Hown := Lib.hid hown
      have Hbr := Lib.hid hbr
      have Hlt := Lib.hid (leng_take hlt lo hi)
      have hlen : (leng (bs.take k) lo hi).length ≤ k * 16 := by
        unfold leng
        refine flatMap_le (n := k) (k := 16) (by rw [List.length_take]; omega) (fun b _ => ?_)
        rw [List.length_map]
        exact rng_filter_le hlo hhi _
      obtain ⟨b, hb⟩ : ∃ b, b = gr bs k := ⟨_, rfl⟩
      obtain ⟨L0, hL0⟩ : ∃ L0, L0 = leng (bs.take k) lo hi := ⟨_, rfl⟩
      rw [← hb] at hc hrise
      rw [← hL0] at hlen
      have Hb := Lib.hid hb
      have HL0 := Lib.hid hL0
      have Hrise := Lib.hid hrise
      obtain ⟨m, hm⟩ : ∃ m : Int, m = (mask b : Nat) := ⟨_, rfl⟩
      have hc' : wr.cell? ⟨b0, o0 + k, none⟩ = some (.int .u64 m) := by rw [hm]; exact hc
      have Hm := Lib.hid hm
      obtain ⟨wo, hwo⟩ : ∃ wo : World, wo = wr := ⟨_, rfl⟩
      subst hwo
      clear hc0 hown hbr hc hrise hb hL0 hm
      go_wp2
      go_loopw [7, 10] (fun out i wr => ∃ v : Int, lo ≤ v ∧ (lo ≤ hi → v ≤ hi + 1) ∧ (hi < lo → v = lo) ∧ i = .int .i64 v ∧ OwnB wr w.heap.size out (L0 ++ lengPart b lo v) ∧ Below w.heap.size w wr) (fun _ i _ => (hi + 1 - intOf i).toNat)
      case atStart => exact ⟨lo, Int.le_refl _, fun h => by omega, fun _ => rfl, rfl, by rw [lengPart_start, List.append_nil, HL0.out]; exact Hown.out, Hbr.out⟩
      case round =>
        obtain ⟨v, hv1, hv2, hv3, rfl, hown, hbi⟩ := hrel
        clear Hown Hbr hc'
        by_cases hvh : v ≤ hi
        · have hv0 : 0 ≤ v := by omega
          have hv15 : v ≤ 15 := by omega
          have e1 := shl_one hv0 hv15
          have htest := mask_test Hrise.out.1 (fun x hx => (Hrise.out.2 x hx).1) hv0
          have hor := or_step Hrise.out hv0 hv15
          have hlen2 : (lengPart b lo v).length ≤ 16 := by
            unfold lengPart
            rw [List.length_map]
            exact rng_filter_le hlo (by omega) _
          rw [← Hm.out] at hor
          have Hstep := Lib.hid (lengPart_step (b := b) hv1)
          obtain ⟨p, hp⟩ : ∃ p : Int, p = ((2 ^ v.toNat : Nat) : Int) := ⟨_, rfl⟩
          rw [← hp] at e1 hor
          have hmp : m < p ↔ lst b < v := by rw [Hm.out, hp, ← htest]; omega
          obtain ⟨m', hm'⟩ : ∃ m' : Int, m' = (mask (b ++ [v]) : Nat) := ⟨_, rfl⟩
          rw [← hm'] at hor
          have Hm' := Lib.hid hm'
          have Hown := Lib.hid hown
          have Hbi := Lib.hid hbi
          have HB := Lib.hid hbi.size
          clear htest hp hm' hown hbi
          by_cases hcmp : lst b < v
          · have hlt2 := hmp.2 hcmp
            have Hcmp := Lib.hid hcmp
            clear hmp hcmp
            obtain ⟨Lc, hLc⟩ : ∃ Lc, Lc = L0 ++ lengPart b lo v := ⟨_, rfl⟩
            have hlen3 : Lc.length ≤ 33554432 := by rw [hLc, List.length_append]; omega
            have Hown' := Lib.hid (show OwnB wr w.heap.size _ Lc by rw [hLc]; exact Hown.out)
            have HLc := Lib.hid hLc
            clear Hown hLc hlen hlen2
            obtain ⟨ao2, co2, hout, hco2, hco3, _⟩ := Hown'.out.read
            subst hout
            go_wp2_with (at_builtin; refine wpList_append_own _ rfl _ _ 87 rfl w.heap.size 77 i0 (.int .u64 0) 1 8 Tryd.underlying87 hi0 hz0 hz1 hz2 rfl (by decide) _ _ _ rfl (World.ownsRow.alloc Hown'.out _) ⟨wr.heap.size, 0, none⟩ 1 1 [.int .u64 m'] rfl rfl (cell_one_new _ _ _) ?q2 ?q3 ?q4 ?q5 ?_)
            case q2 => intro u hu; simp at hu; subst hu; rfl
            case q3 => unfold maxLen; omega
            case q4 => omega
            case q5 => have := HB.out; simp; omega
            intro v' w3 hown' hgrow _
            have hput := Hown'.out.snoc (x := b ++ [v]) HB.out (by unfold sv; rw [← Hm'.out]; exact hown') hgrow
            obtain ⟨ao', co', rfl, _, _, _⟩ := hput.1.read
            have Hput := Lib.hid hput
            clear hput hown' hgrow
            go_wp2
            go_roundw
            case rel => exact ⟨v + 1, by omega, fun _ => by omega, fun h => by omega, by go_num, by rw [Hstep.out, if_pos Hcmp.out, ← List.append_assoc, ← HLc.out]; exact Hput.out.1, Hbi.out.trans Hput.out.2⟩
            case measure => simp [intOf]; omega
          · have hlt2 : ¬ m < p := fun h => hcmp (hmp.1 h)
            have Hcmp := Lib.hid hcmp
            clear hmp hcmp
            go_wp2
            go_roundw
            case rel => exact ⟨v + 1, by omega, fun _ => by omega, fun h => by omega, by go_num, by rw [Hstep.out, if_neg Hcmp.out, List.append_nil]; exact Hown.out, Hbi.out⟩
            case measure => simp [intOf]; omega
        · have Hown := Lib.hid hown
          have Hbi := Lib.hid hbi
          clear hown hbi
          go_wp2
          go_roundw
          case rel =>
            refine ⟨k + 1, by omega, by go_num, ?_, Hbi.out⟩
            rw [Hlt.out, ← HL0.out, ← Hb.out]
            have e : lengPart b lo (hi + 1) = lengPart b lo v := by
              by_cases h : lo ≤ hi
              · rw [show v = hi + 1 from by have := hv2 h; omega]
              · rw [hv3 (by omega), lengPart_start]
                unfold lengPart
                rw [rng_nil (by omega)]; rfl
            rw [e]
            exact Hown.out
          case measure => simp [intOf]; omega
    · obtain rfl : k = bs.length := by omega
      rw [List.take_length] at hown
      go_wp2
      go_ret
      exact ⟨_, rfl, hown, hbr⟩

theorem leng_rise {bs : List (List Int)} {lo hi : Int} (h : ∀ b ∈ bs, Rise b) (hlo : 0 ≤ lo) (hhi : hi ≤ 15) : ∀ b ∈ leng bs lo hi, Rise b := by
  intro b' hb'
  simp only [leng, List.mem_flatMap, List.mem_map, List.mem_filter, decide_eq_true_eq, mem_rng] at hb'
  obtain ⟨b, hb, v, ⟨⟨h1, h2⟩, h3⟩, rfl⟩ := hb'
  have hr := h b hb
  refine ⟨up_join hr.1 trivial (fun x hx y hy => ?_), fun x hx => ?_⟩
  · simp at hy; subst hy
    have := le_lst hr.1 x hx
    omega
  · rcases List.mem_append.1 hx with hx | hx
    · exact hr.2 x hx
    · simp at hx; subst hx; omega
theorem leng_len {bs : List (List Int)} {lo hi : Int} (hlo : 0 ≤ lo) (hhi : hi ≤ 15) : (leng bs lo hi).length ≤ bs.length * 16 := by
  unfold leng
  refine flatMap_le (Nat.le_refl _) (fun b _ => ?_)
  rw [List.length_map]
  exact rng_filter_le hlo hhi _
theorem bfs_step {xs : List Int} {k : Nat} (h0 : 0 < k) (h : k < xs.length) (bs : List (List Int)) : bfs (xs.drop (k - 1)) bs = bfs (xs.drop k) (leng bs (gi xs (k - 1)) (gi xs k)) := by
  rw [List.drop_eq_getElem_cons (by omega : k - 1 < xs.length), show k - 1 + 1 = k from by omega, List.drop_eq_getElem_cons h, bfs, gi_lt h, gi_lt (by omega)]
theorem bfs_last {xs : List Int} (h : 1 ≤ xs.length) (bs : List (List Int)) : bfs (xs.drop (xs.length - 1)) bs = bs := by
  rw [List.drop_eq_getElem_cons (by omega), show xs.length - 1 + 1 = xs.length from by omega, List.drop_length]
  rfl

set_option maxRecDepth 100000 in
set_option maxHeartbeats 1600000 in
theorem setsAbove_any {xs : List Int} (h : Rise xs) (hl : xs.length ≤ 6) (w : World) (hD : Dj w) :
    Calls Tryd.prog 79 #[.int .u64 (mask xs : Nat)] w fun e w' => ∃ v, e = .returned v ∧ OwnB w' w.heap.size v (above xs) ∧ Below w.heap.size w w' := by
  have hrow := row_any h hl w hD
  obtain ⟨m, hm⟩ : ∃ m : Int, m = (mask xs : Nat) := ⟨_, rfl⟩
  rw [← hm] at hrow ⊢
  have Hrow := Lib.hid hrow
  have H := Lib.hid h
  clear hm hD hrow h
  go_enter Tryd.func79, Tryd.ntmps79
  go_wp2_with fail
  refine Hrow.out.mono ?_
  rintro e w1 ⟨v, rfl, hv, hb⟩
  obtain ⟨r, cr, rfl, hcr, hcr2, hx⟩ := hv.read
  have Hx := Lib.hid hx
  have Hb := Lib.hid hb
  have HB := Lib.hid hb.size
  clear hx hb hv
  by_cases h2 : 2 ≤ xs.length
  · have hn2 : ¬ (xs.length : Int) < 2 := by omega
    have one := OwnB.one w1
    have onb : Below w1.heap.size w1 (w1.alloc (.cells #[sv []] 77)) := (Below.refl _ _).alloc (Nat.le_refl _) _
    have One := Lib.hid one
    have Onb := Lib.hid onb
    clear one onb
    go_wp2
    go_loopw [4, 5] (fun sets i wr => ∃ (k : Nat) (bs : List (List Int)), k + 1 ≤ xs.length ∧ i = .int .i64 ((k : Int) + 1) ∧ OwnB wr w1.heap.size sets bs ∧ bfs (xs.drop k) bs = above xs ∧ (∀ b ∈ bs, Rise b) ∧ bs.length ≤ 16 ^ k ∧ Below w1.heap.size w1 wr) (fun _ i _ => xs.length - (intOf i).toNat)
    case atStart => exact ⟨0, [[]], by omega, rfl, One.out, bfs_above h2, fun b hb => by simp at hb; subst hb; exact ⟨trivial, fun x hx => by cases hx⟩, by simp, Onb.out⟩
    case round =>
      obtain ⟨k, bs, hk, rfl, hown, hbfs, hrise, hlen, hbr⟩ := hrel
      clear One Onb
      have Hbr := Lib.hid hbr
      have HBr := Lib.hid hbr.size
      by_cases hlt : k + 1 < xs.length
      · have hx' := Hx.out.below hbr
        obtain ⟨b0, o0, e0, hc0⟩ := hx' (k + 1) hlt
        obtain ⟨b0', o0', e0', hc1⟩ := hx' k (by omega)
        rw [e0] at e0'
        cases e0'
        have g1 := H.out.2 _ (gi_mem hlt)
        have g0 := H.out.2 _ (gi_mem (show k < xs.length by omega))
        have hpow : 16 ^ k ≤ 16 ^ 4 := Nat.pow_le_pow_right (by omega) (by omega)
        have hpow2 : 16 ^ (k + 1) = 16 ^ k * 16 := Nat.pow_succ _ _
        have hll := leng_len (bs := bs) g0.1 g1.2
        have Hlen2 := Lib.hid (show (leng bs (gi xs k) (gi xs (k + 1))).length ≤ 16 ^ (k + 1) by rw [hpow2]; exact Nat.le_trans hll (Nat.mul_le_mul_right _ hlen))
        have Hrise2 := Lib.hid (leng_rise hrise g0.1 g1.2)
        have Hbfs := Lib.hid (show bfs (xs.drop (k + 1)) (leng bs (gi xs k) (gi xs (k + 1))) = above xs by have := bfs_step (k := k + 1) (by omega) hlt bs; rw [show k + 1 - 1 = k from rfl] at this; rw [← this]; exact hbfs)
        obtain ⟨sa, sc, rfl, _, _, hsr⟩ := hown.read
        have hcall : ∀ w', Below wr.heap.size wr w' → Calls Tryd.prog 87 #[.slice sa bs.length sc, .int .i64 (gi xs k), .int .i64 (gi xs (k + 1))] w' fun e w'' => ∃ v, e = .returned v ∧ OwnB w'' w'.heap.size v (leng bs (gi xs k) (gi xs (k + 1))) ∧ Below w'.heap.size w' w'' :=
          fun w' hw' => lengthened_any sa sc bs _ _ w' (by omega) hrise g0.1 g0.2 g1.2 (hsr.below hw')
        obtain ⟨y, hy⟩ : ∃ y, y = gi xs k := ⟨_, rfl⟩
        obtain ⟨z, hz⟩ : ∃ z, z = gi xs (k + 1) := ⟨_, rfl⟩
        rw [← hy] at hc1
        rw [← hz] at hc0
        rw [← hy, ← hz] at hcall
        have Hy := Lib.hid hy
        have Hz := Lib.hid hz
        have Hcall := Lib.hid hcall
        have hk2 : (k : Int) < (xs.length : Int) := by omega
        have hk3 : (k : Int) + 1 < (xs.length : Int) := by omega
        have hk4 : k < xs.length := by omega
        have hwk : IntKind.i64.wrap (k : Int) = (k : Int) := i64_small (by omega) (by omega)
        subst e0
        clear hx' g1 g0 hpow hpow2 hll hown hbfs hrise hlen hsr hcall hy hz hbr
        go_wp2
        go_region_with (go_at_call 87; refine (Hcall.out _ ?_).mono ?_; exact below_drewN (Below.refl _ _) 1; rintro e w2 ⟨v, rfl, hv, hb2⟩)
        all_goals
          obtain ⟨va, vc, hvv, _, _, _⟩ := hv.read
          rw [Hy.out, Hz.out] at hv
          have Hv := Lib.hid hv
          obtain ⟨nv, hnv⟩ : ∃ nv, nv = (leng bs y z).length := ⟨_, rfl⟩
          rw [← hnv] at hvv
          subst hvv
          have Hb2 := Lib.hid hb2
          clear hv hb2 hnv
          go_wp2
          go_roundw
          case rel =>
            have hb3 : Below wr.heap.size wr w2 := (below_drewN (Below.refl _ _) 1).trans Hb2.out
            exact ⟨k + 1, _, by omega, by go_num, Hv.out.base HBr.out, Hbfs.out, Hrise2.out, Hlen2.out, Hbr.out.trans (hb3.mono HBr.out)⟩
          case measure => simp [intOf]; omega
      · obtain rfl : k = xs.length - 1 := by omega
        rw [bfs_last (by omega)] at hbfs
        subst hbfs
        go_wp2
        go_ret
        exact ⟨_, rfl, hown.base HB.out, Hb.out.trans (hbr.mono HB.out)⟩
  · have hn2 : (xs.length : Int) < 2 := by omega
    go_wp2
    go_ret
    rw [above_one (by omega)]
    exact ⟨_, rfl, OwnB.nil _ _, Hb.out⟩
end Go.Proofs.YtjkpokpidpampaaDoor

namespace Go.Proofs.YtjkpokpidpampaaDoor
open Go.RowKit

/-- the sum of the first k numbers of a column -/
def colR (m : List (List Int)) (j : Nat) : Nat → Int
  | 0 => 0
  | k + 1 => colR m j k + gi (gr m k) j
theorem colR_tr {m : List (List Int)} {j : Nat} (hj : j < m.length) : ∀ k, k ≤ m.length → colR m j k = sumK (gr (tr m) j) k
  | 0, _ => rfl
  | k + 1, hk => by simp only [colR, sumK]; rw [colR_tr hj k (by omega), gi_tr hj (by omega)]
theorem colR_01 {m : List (List Int)} (h : good m) {j k : Nat} (hj : j < m.length) (hk : k ≤ m.length) : 0 ≤ colR m j k ∧ colR m j k ≤ 1 := by
  rw [colR_tr hj k hk]
  exact (h.2.2 j (by rw [tr_len]; exact hj)).1 k (by rw [tr_row hj]; exact hk)

/-- the numbers below n for which f holds -/
def colsF (n : Nat) (f : Nat → Bool) : List Int := ((List.range n).filter f).map fun j : Nat => (j : Int)
theorem mem_colsF {n : Nat} {f : Nat → Bool} {x : Int} : x ∈ colsF n f ↔ ∃ j : Nat, x = j ∧ j < n ∧ f j = true := by
  simp only [colsF, List.mem_map, List.mem_filter, List.mem_range]
  constructor
  · rintro ⟨j, ⟨h1, h2⟩, rfl⟩; exact ⟨j, rfl, h1, h2⟩
  · rintro ⟨j, rfl, h1, h2⟩; exact ⟨j, ⟨h1, h2⟩, rfl⟩
theorem colsF_succ (n : Nat) (f : Nat → Bool) : colsF (n + 1) f = colsF n f ++ (if f n then [(n : Int)] else []) := by
  simp only [colsF, List.range_succ, List.filter_append, List.map_append]
  cases h : f n <;> simp [h]
theorem colsF_up (n : Nat) (f : Nat → Bool) : Up (colsF n f) := by
  induction n with
  | zero => trivial
  | succ n ih =>
    rw [colsF_succ]
    refine up_join ih (by split <;> trivial) (fun x hx y hy => ?_)
    obtain ⟨j, rfl, hj, _⟩ := mem_colsF.1 hx
    split at hy
    · simp at hy; omega
    · cases hy
theorem colsF_len (n : Nat) (f : Nat → Bool) : (colsF n f).length ≤ n := by
  simp only [colsF, List.length_map]
  exact Nat.le_trans (List.length_filter_le _ _) (by simp)
theorem colsF_rise {n : Nat} (f : Nat → Bool) (h : n ≤ 16) : Rise (colsF n f) := ⟨colsF_up n f, fun x hx => by obtain ⟨j, rfl, hj, _⟩ := mem_colsF.1 hx; omega⟩
theorem colsF_congr {n : Nat} {f g : Nat → Bool} (h : ∀ j, j < n → f j = g j) : colsF n f = colsF n g := by
  unfold colsF
  congr 1
  exact List.filter_congr (fun j hj => h j (by simpa using hj))
theorem mask_cols (n : Nat) (f : Nat → Bool) (i : Nat) : (mask (colsF n f)).testBit i = (decide (i < n) && f i) := by
  rw [testBit_mask (fun x hx => by obtain ⟨j, rfl, _, _⟩ := mem_colsF.1 hx; omega)]
  rw [Bool.eq_iff_iff, decide_eq_true_eq, mem_colsF, Bool.and_eq_true, decide_eq_true_eq]
  constructor
  · rintro ⟨j, e, h1, h2⟩
    obtain rfl : i = j := by omega
    exact ⟨h1, h2⟩
  · rintro ⟨h1, h2⟩; exact ⟨i, rfl, h1, h2⟩
theorem mask_flip {n j : Nat} {f g : Nat → Bool} (hj : j < n) (h1 : g j = !f j) (h2 : ∀ i, i ≠ j → g i = f i) : mask (colsF n f) ^^^ 2 ^ j = mask (colsF n g) := by
  apply Nat.eq_of_testBit_eq
  intro i
  rw [Nat.testBit_xor, mask_cols, mask_cols, Nat.testBit_two_pow]
  by_cases e : j = i
  · subst e; simp [hj, h1]
  · rw [h2 i (fun h => e h.symm)]; simp [e]

/-- the columns whose sum is 1 behind k rows -/
def triRow (m : List (List Int)) (k : Nat) : List Int := colsF m.length fun j => decide (colR m j k = 1)
def triM (m : List (List Int)) : List (List Int) := (List.range m.length).map fun i => triRow m (i + 1)
theorem triM_len (m : List (List Int)) : (triM m).length = m.length := by simp [triM]
theorem gr_triM {m : List (List Int)} {i : Nat} (h : i < m.length) : gr (triM m) i = triRow m (i + 1) := by
  rw [gr_lt (by rw [triM_len]; exact h)]
  simp [triM]
theorem triM_small {m : List (List Int)} (h : m.length ≤ 6) : Small (triM m) := ⟨by rw [triM_len]; omega, fun i hi => by
  rw [triM_len] at hi
  rw [gr_triM hi]
  have := colsF_len m.length fun j => decide (colR m j (i + 1) = 1)
  unfold triRow
  omega⟩

/-- .. in the middle of row k -/
def triMid (m : List (List Int)) (k t : Nat) : Nat → Bool := fun j => decide (colR m j (if j < t then k + 1 else k) = 1)
theorem triMid_start (m : List (List Int)) (k : Nat) : colsF m.length (triMid m k 0) = triRow m k := colsF_congr fun j _ => by simp [triMid]
theorem triMid_end (m : List (List Int)) (k : Nat) : colsF m.length (triMid m k m.length) = triRow m (k + 1) := colsF_congr fun j hj => by simp [triMid, hj]
theorem triMid_same {m : List (List Int)} {k t : Nat} (h : gi (gr m k) t = 0) : colsF m.length (triMid m k (t + 1)) = colsF m.length (triMid m k t) := colsF_congr fun j _ => by
  unfold triMid
  by_cases e : j = t
  · subst e
    rw [if_pos (by omega), if_neg (by omega), colR, h, Int.add_zero]
  · have : (j < t + 1) = (j < t) := propext (by omega)
    simp only [this]
theorem triMid_flip {m : List (List Int)} (hg : good m) {k t : Nat} (hk : k < m.length) (ht : t < m.length) (h : gi (gr m k) t ≠ 0) : mask (colsF m.length (triMid m k t)) ^^^ 2 ^ t = mask (colsF m.length (triMid m k (t + 1))) := by
  refine mask_flip ht ?_ (fun i hi => ?_)
  · unfold triMid
    rw [if_pos (by omega), if_neg (by omega), colR]
    have h1 := colR_01 hg ht (show k ≤ m.length by omega)
    have h2 := colR_01 hg ht (show k + 1 ≤ m.length by omega)
    rw [colR] at h2
    by_cases e : colR m t k = 1
    · have : ¬ colR m t k + gi (gr m k) t = 1 := by omega
      simp [e]; omega
    · have : colR m t k + gi (gr m k) t = 1 := by omega
      simp [e, this]
  · unfold triMid
    have : (i < t + 1) = (i < t) := propext (by omega)
    simp only [this]

theorem xor_step (n t : Nat) (f : Nat → Bool) (hn : n ≤ 16) (ht : t ≤ 15) : bits .xor .u64 ((mask (colsF n f) : Nat) : Int) ((2 ^ t : Nat) : Int) = ((mask (colsF n f) ^^^ 2 ^ t : Nat) : Int) := by
  have := mask_lt16 (colsF_rise f hn)
  have h2 : 2 ^ t ≤ 2 ^ 15 := Nat.pow_le_pow_right (by omega) (by omega)
  rw [u64_xor_nat _ _ (by omega) (by omega)]

set_option maxRecDepth 100000 in
set_option maxHeartbeats 1600000 in
theorem triangleOf_any (ao : Option Addr) (c : Nat) (m : List (List Int)) (w : World) (hg : good m) (hm : MatAt w ao m) (hD : Dj w) :
    Calls Tryd.prog 55 #[.slice ao m.length c] w fun e w' => ∃ v, e = .returned v ∧ OwnM w' w.heap.size v (triM m) ∧ Below w.heap.size w w' := by
  obtain ⟨i0, hi, hz0, hz1, hz2⟩ := info_parts Tryd.info_ints
  have hn := hg.1.2.1
  have hmx : m.length ≤ 9223372036854775807 := by omega
  have Hg := Lib.hid hg
  have Hm := Lib.hid hm
  have HD := Lib.hid hD
  clear hg hm hD
  go_enter Tryd.func55, Tryd.ntmps55
  go_wp2_with (at_make; refine wpList_make_full _ rfl _ _ 22 rfl w.heap.size 28 i0 (.slice none 0 0) 1 Tryd.underlying22 hi hz0 hz1 _ _ _ _ m.length rfl rfl rfl rfl ?c1 ?c2 ?c3 ?_)
  case c1 => rw [hz2]; omega
  case c2 => unfold maxLen; omega
  case c3 => simp
  intro w1 hown hgr
  have hb1 : Below w.heap.size w w1 := (Below.refl _ _).grown hgr (Nat.le_refl _) (fun _ h => by cases h)
  have Hown1 := Lib.hid (OwnP.made (m := triM m) hown)
  have Hb1 := Lib.hid hb1
  clear hown hgr hb1
  have H00 := Lib.hid (show mask (triRow m 0) = 0 by
    have e : triRow m 0 = [] := by
      unfold triRow
      rw [colsF_congr (g := fun _ => false) (fun j _ => by simp [colR])]
      simp [colsF]
    rw [e]; rfl)
  go_wp2
  go_loopw [4, 14] (fun s i wr => ∃ (k : Nat) (vs : List Value), k ≤ m.length ∧ i = .int .i64 k ∧ s = .int .u64 (mask (triRow m k) : Nat) ∧ OwnP wr w.heap.size (.slice (some ⟨w.heap.size, 0, none⟩) m.length m.length) m.length (triM m) k vs ∧ Below w.heap.size w wr)
    (fun _ i _ => m.length - (intOf i).toNat)
  case atStart => exact ⟨0, _, Nat.zero_le _, rfl, by rw [H00.out]; rfl, Hown1.out, Hb1.out⟩
  case round =>
    obtain ⟨k, vs, hk, rfl, rfl, hown, hbr⟩ := hrel
    clear Hown1 Hb1
    by_cases hlt : k < m.length
    · obtain ⟨b1, o1, r1, d1, rfl, hc1, hx1, _, _⟩ := Hm.out.below hbr k hlt
      have hrl : (gr m k).length = m.length := Hg.out.1.2.2 k hlt
      rw [hrl] at hc1
      have Hrow := Lib.hid hx1
      have Hrl := Lib.hid hrl
      have Hown := Lib.hid hown
      have Hbr := Lib.hid hbr
      have HB := Lib.hid hbr.size
      have Hs := Lib.hid (triMid_start m k)
      have He := Lib.hid (triMid_end m k)
      clear hx1 hrl hown hbr
      go_wp2
      go_loop [4, 21] (fun s i => ∃ t : Nat, t ≤ m.length ∧ i = .int .i64 t ∧ s = .int .u64 (mask (colsF m.length (triMid m k t)) : Nat)) (fun _ i => m.length - (intOf i).toNat)
      case atStart => exact ⟨0, Nat.zero_le _, rfl, by rw [Hs.out]⟩
      case round =>
        obtain ⟨t, ht, rfl, rfl⟩ := hrel
        by_cases htl : t < m.length
        · obtain ⟨b2, o2, rfl, hc2⟩ := Hrow.out t (by rw [Hrl.out]; exact htl)
          by_cases hz : gi (gr m k) t = 0
          · have hb : ((0 : Int) != 0) = false := by simp
            rw [hz] at hc2
            have Hz := Lib.hid (triMid_same hz)
            clear hz
            go_wp2
            go_round
            case rel => exact ⟨t + 1, by omega, by go_num, by rw [Hz.out]⟩
            case measure => simp [intOf]; omega
          · have hb : (gi (gr m k) t != 0) = true := by simpa using hz
            have hfl := triMid_flip Hg.out hlt htl hz
            have e1 := shl_one (x := (t : Int)) (by omega) (by omega)
            rw [Int.toNat_natCast] at e1
            have e2 := xor_step m.length t (triMid m k t) (by omega) (by omega)
            rw [hfl] at e2
            obtain ⟨p, hp⟩ : ∃ p : Int, p = ((2 ^ t : Nat) : Int) := ⟨_, rfl⟩
            obtain ⟨s, hs⟩ : ∃ s : Int, s = (mask (colsF m.length (triMid m k t)) : Nat) := ⟨_, rfl⟩
            obtain ⟨s', hs'⟩ : ∃ s : Int, s = (mask (colsF m.length (triMid m k (t + 1))) : Nat) := ⟨_, rfl⟩
            obtain ⟨x, hx⟩ : ∃ x, x = gi (gr m k) t := ⟨_, rfl⟩
            rw [← hp] at e1 e2
            rw [← hs, ← hs'] at e2
            rw [← hs]
            rw [← hx] at hb hc2
            have Hs' := Lib.hid hs'
            clear hp hs hs' hx hfl hz
            go_wp2
            go_round
            case rel => exact ⟨t + 1, by omega, by go_num, by rw [Hs'.out]⟩
            case measure => simp [intOf]; omega
        · obtain rfl : t = m.length := by omega
          have hrise : Rise (triRow m (k + 1)) := colsF_rise _ (by omega)
          have hll : (triRow m (k + 1)).length ≤ 6 := Nat.le_trans (colsF_len _ _) hn
          have hrow := row_any hrise hll wr (HD.out.next Hbr.out)
          rw [He.out]
          obtain ⟨s, hs⟩ : ∃ s : Int, s = (mask (triRow m (k + 1)) : Nat) := ⟨_, rfl⟩
          rw [← hs] at hrow ⊢
          have HS := Lib.hid hs
          have Hr := Lib.hid hrow
          clear hrise hll hrow hs
          go_wp2_with fail
          refine Hr.out.mono ?_
          rintro e w2 ⟨v, rfl, hv, hb2⟩
          have hown2 := Hown.out.below hb2
          have hd := hown2.cellAt k hlt
          have hf : w2.frozen? ⟨w.heap.size, k, none⟩ = false := World.ownsRow.frozenAt hown2.top k
          have Hput := Lib.hid (hown2.put hlt (by rw [gr_triM hlt]; exact hv.base HB.out) (Hown.out.fresh hv (Nat.le_refl _)))
          have Hbs := Lib.hid ((Hbr.out.trans (hb2.mono HB.out)).setCell (p := ⟨w.heap.size, k, none⟩) (Nat.le_refl _) v)
          obtain ⟨rv, cv, hvv, _, _, _⟩ := hv.read
          obtain ⟨nv, hnv⟩ : ∃ nv, nv = (triRow m (k + 1)).length := ⟨_, rfl⟩
          rw [← hnv] at hvv
          subst hvv
          clear hown2 hv hb2 hnv
          go_wp2
          go_roundw
          case rel => exact ⟨k + 1, _, by omega, by go_num, by rw [HS.out], Hput.out, Hbs.out⟩
          case measure => simp [intOf]; omega
    · obtain rfl : k = m.length := by omega
      go_wp2
      go_ret
      exact ⟨_, rfl, ⟨vs, by rw [triM_len]; exact hown⟩, hbr⟩

theorem OwnP.nil0 (w : World) (B : Nat) (m : List (List Int)) : OwnP w B (.slice none 0 0) 0 m 0 [] := ⟨World.ownsRow_nil _ _ _ _, fun i hi => absurd hi (by omega), fun i j _ hj => absurd hj (by omega)⟩
/-- the sums of the columns in the middle of row k -/
def sumMid (m : List (List Int)) (k t : Nat) : List Int := (List.range m.length).map fun j => colR m j (if j < t then k + 1 else k)
theorem sumMid_len (m : List (List Int)) (k t : Nat) : (sumMid m k t).length = m.length := by simp [sumMid]
theorem gi_sumMid {m : List (List Int)} {k t j : Nat} (hj : j < m.length) : gi (sumMid m k t) j = colR m j (if j < t then k + 1 else k) := gi_row hj
theorem sumMid_set {m : List (List Int)} {k t : Nat} (ht : t < m.length) : (sumMid m k t).set t (colR m t k + gi (gr m k) t) = sumMid m k (t + 1) := by
  refine ext_gi (by rw [List.length_set, sumMid_len, sumMid_len]) fun j hj => ?_
  rw [List.length_set, sumMid_len] at hj
  rw [gi_set (by rw [sumMid_len]; exact ht), gi_sumMid hj, gi_sumMid hj]
  by_cases e : j = t
  · subst e; rw [if_pos rfl, if_pos (by omega), colR]
  · rw [if_neg e]
    have : (j < t + 1) = (j < t) := propext (by omega)
    simp only [this]
theorem sumMid_next (m : List (List Int)) (k : Nat) : sumMid m k m.length = sumMid m (k + 1) 0 := by
  refine ext_gi (by rw [sumMid_len, sumMid_len]) fun j hj => ?_
  rw [sumMid_len] at hj
  rw [gi_sumMid hj, gi_sumMid hj, if_pos hj, if_neg (by omega)]
theorem sumMid_zero (m : List (List Int)) : sumMid m 0 0 = List.replicate m.length 0 := by
  refine ext_gi (by rw [sumMid_len, List.length_replicate]) fun j hj => ?_
  rw [sumMid_len] at hj
  rw [gi_sumMid hj, if_neg (by omega), gi_lt (by simpa using hj)]
  simp [colR]

/-- what stands apart from one block is kept where that block alone turns -/
theorem OwnP.kept {w w1 : World} {B n k g : Nat} {v : Value} {m : List (List Int)} {vs : List Value} (h : OwnP w B v n m k vs) (hg : w.grownBy w1 (some g)) (hB : g < B) : OwnP w1 B v n m k vs := by
  have ap : ∀ (e : TypeId) (u : Value) (n : Nat) (xs : List Value), w.ownsRow B e 1 u n xs → w1.ownsRow B e 1 u n xs := fun e u n xs hx => by
    refine World.ownsRow.kept hx hg ?_
    cases hb : u.ownBlock with
    | none => exact .inl rfl
    | some g' => exact .inr (fun e => by cases e; have := (World.ownsRow.lt hx g hb).1; omega)
  exact ⟨ap _ _ _ _ h.top, fun i hi => ap _ _ _ _ (h.rows i hi), h.apart⟩

end Go.Proofs.YtjkpokpidpampaaDoor

