/- Contracts of the model's l1Split and sgParse. Condition: the text has at most 2^20 bytes. -/
import Derived.Test.YtiocbogdiaalgaaDoorParseM
import Derived.Test.YtiocbogdiaalgaaDoorImplC
import Derived.Laws.Strings2
import Derived.Laws.Strings3
namespace Go.Proofs.YtiocbogdiaalgaaDoor
open Go.RowKit

/-- a slice of texts that the call owns from block B on -/
def OwnS (w : World) (B : Nat) (v : Value) (ps : List (List UInt8)) : Prop := w.ownsRow B 9 1 v ps.length (ps.map fun p => .string (bstr p))
theorem OwnS.below {w w' : World} {B : Nat} {v : Value} {ps : List (List UInt8)} (h : OwnS w B v ps) (hb : Below w.heap.size w w') : OwnS w' B v ps := ownsRow_below h hb
theorem OwnS.nil (w : World) (B : Nat) : OwnS w B (.slice none 0 0) [] := World.ownsRow_nil _ _ _ _
/-- the cells at an address hold these texts -/
def TextsAt (w : World) (ao : Option Addr) (ps : List (List UInt8)) : Prop :=
  ∀ i (h : i < ps.length), ∃ b o, ao = some ⟨b, o, none⟩ ∧ w.cell? ⟨b, o + i, none⟩ = some (.string (bstr ps[i]))
theorem TextsAt.below {w w' : World} {ao : Option Addr} {ps : List (List UInt8)} (h : TextsAt w ao ps) (hb : Below w.heap.size w w') : TextsAt w' ao ps := by
  intro i hi
  obtain ⟨b, o, e, hc⟩ := h i hi
  exact ⟨b, o, e, cell_below hc hb⟩
theorem OwnS.read {w : World} {B : Nat} {v : Value} {ps : List (List UInt8)} (h : OwnS w B v ps) : ∃ ao c, v = .slice ao ps.length c ∧ ps.length ≤ c ∧ c ≤ 9223372036854775807 ∧ TextsAt w ao ps := by
  obtain ⟨ao, c, hv, h1, h2, hc⟩ := ownsRow_read h
  refine ⟨ao, c, hv, h1, h2, fun i hi => ?_⟩
  obtain ⟨b, o, e, hcell⟩ := hc i hi
  exact ⟨b, o, e, by rw [hcell]; simp [List.getD, hi]⟩
theorem OwnS.snoc {w w1 : World} {B : Nat} {v v' : Value} {ps : List (List UInt8)} {p : List UInt8} {o : Obj} (h : OwnS w B v ps) (hB : B ≤ w.heap.size)
    (h1 : w1.ownsRow B 9 1 v' (ps.length + 1) ((ps.map fun p => .string (bstr p)) ++ [.string (bstr p)])) (hg : (w.alloc o).grownBy w1 v.ownBlock) : OwnS w1 B v' (ps ++ [p]) ∧ Below B w w1 := by
  refine ⟨by unfold OwnS; rw [List.length_append, List.map_append]; exact h1, ?_⟩
  refine Below.grown ((Below.refl B w).alloc hB o) hg (by simp; omega) (fun k hk => (World.ownsRow.lt h k hk).1)

theorem Tryd.info_string : (Tryd.prog.info? 9).map (fun i => (i.zero, i.size, i.bytes)) = some (some (.string ⟨#[]⟩), 1, 16) := by kernel_rfl

theorem bstr_size (l : List UInt8) : (bstr l).size = l.length := rfl
theorem str_at {l : List UInt8} {k : Nat} {b : UInt8} (h : l[k]? = some b) (w : World) : (Instr.index 9 (.string (bstr l)) (.int .i64 (k : Int))).run Tryd.prog w = .ok (.int .u8 (b.toNat : Int)) w := by
  have hk : k < l.length := (List.getElem?_eq_some_iff.1 h).1
  rw [run_index_string w 9 (bstr l) .i64 (k : Int) Tryd.underlying9, dif_pos ⟨by omega, by rw [bstr_size]; omega⟩]
  have he : l[k] = b := (List.getElem?_eq_some_iff.1 h).2
  subst he
  rfl
theorem str_cut {l : List UInt8} {a k : Nat} (ha : a ≤ k) (hk : k ≤ l.length) (w : World) : (Instr.slice 9 (.string (bstr l)) (some (.int .i64 (a : Int))) (some (.int .i64 (k : Int))) none).run Tryd.prog w = .ok (.string (bstr ((l.drop a).take (k - a)))) w := by
  rw [run_slice_string w 9 (bstr l) .i64 .i64 (a : Int) (k : Int) Tryd.underlying9 (by omega) (by omega) (by rw [bstr_size]; omega)]
  have := ByteArray.extract_mk l a k
  simp only [Int.toNat_natCast]
  exact congrArg (fun x => Result.ok (Value.string x) w) this
theorem str_from {l : List UInt8} {a : Nat} (ha : a ≤ l.length) (w : World) : (Instr.slice 9 (.string (bstr l)) (some (.int .i64 (a : Int))) none none).run Tryd.prog w = .ok (.string (bstr (l.drop a))) w := by
  rw [run_slice_string_from_if w 9 (bstr l) .i64 (a : Int) Tryd.underlying9, if_pos ⟨by omega, by rw [bstr_size]; omega⟩]
  have h1 := ByteArray.extract_mk l a l.length
  have h2 : (l.drop a).take (l.length - a) = l.drop a := List.take_of_length_le (by simp)
  rw [h2] at h1
  simp only [Int.toNat_natCast, bstr_size]
  exact congrArg (fun x => Result.ok (Value.string x) w) h1
theorem nat_beq {b : UInt8} {n : Nat} (c : UInt8) (h : c.toNat = n) : ((b.toNat : Int) == (n : Int)) = decide (b = c) := by
  subst h
  by_cases e : b = c
  · subst e; simp
  · have : b.toNat ≠ c.toNat := fun h => e (UInt8.toNat_inj.1 h)
    simp [e]
    omega

theorem drop_at {l : List UInt8} {k : Nat} {b : UInt8} (h : l[k]? = some b) : l.drop k = b :: l.drop (k + 1) := by
  have hk : k < l.length := (List.getElem?_eq_some_iff.1 h).1
  rw [List.drop_eq_getElem_cons hk]
  rw [(List.getElem?_eq_some_iff.1 h).2]
theorem no_in {l : List UInt8} {a k : Nat} (h : ∀ j, a ≤ j → j < k → l[j]? ≠ some 47) : ∀ b ∈ (l.drop a).take (k - a), b ≠ 47 := by
  intro b hb e
  subst e
  obtain ⟨i, hi⟩ := List.mem_iff_getElem?.1 hb
  rw [List.getElem?_take] at hi
  split at hi
  · next h1 => rw [List.getElem?_drop] at hi; exact h (a + i) (by omega) (by omega) hi
  · cases hi
theorem cut_drop {l : List UInt8} {a k : Nat} (ha : a ≤ k) (hk : l[k]? = some 47) (h : ∀ j, a ≤ j → j < k → l[j]? ≠ some 47) : cut (l.drop a) = (l.drop a).take (k - a) :: cut (l.drop (k + 1)) := by
  have e : l.drop a = (l.drop a).take (k - a) ++ 47 :: l.drop (k + 1) := by
    conv => lhs; rw [← List.take_append_drop (k - a) (l.drop a)]
    rw [List.drop_drop, show a + (k - a) = k from by omega, drop_at hk]
  conv => lhs; rw [e]
  exact cut_at (no_in h) _
theorem cut_last {l : List UInt8} {a : Nat} (h : ∀ j, a ≤ j → j < l.length → l[j]? ≠ some 47) : cut (l.drop a) = [l.drop a] := by
  have := no_in h
  rw [List.take_of_length_le (by simp)] at this
  exact cut_plain this

set_option maxRecDepth 100000 in
set_option maxHeartbeats 1600000 in
theorem l1Split_any (l : List UInt8) (w : World) (hl : l.length ≤ 1048576) :
    Calls Tryd.prog 16 #[.string (bstr l), .int .u8 47] w fun e w' => ∃ v, e = .returned v ∧ OwnS w' w.heap.size v (cut l) ∧ Below w.heap.size w w' := by
  obtain ⟨s0, hs, hs0, hs1, hs2⟩ := info_parts Tryd.info_string
  have hsz := bstr_size l
  go_enter Tryd.func16, Tryd.ntmps16
  go_wp2
  go_loopw [5, 6, 7] (fun out f i wr => ∃ (k a : Nat) (ps : List (List UInt8)), k ≤ l.length ∧ a ≤ k ∧ i = .int .i64 k ∧ f = .int .i64 a ∧ OwnS wr w.heap.size out ps ∧ cut l = ps ++ cut (l.drop a) ∧ (∀ j, a ≤ j → j < k → l[j]? ≠ some 47) ∧ ps.length ≤ a ∧ Below w.heap.size w wr)
    (fun _ _ i _ => l.length - (intOf i).toNat)
  case atStart => exact ⟨0, 0, [], Nat.zero_le _, Nat.le_refl _, rfl, rfl, OwnS.nil _ _, rfl, fun j _ hj => absurd hj (by omega), Nat.le_refl _, Below.refl _ _⟩
  case round =>
    obtain ⟨k, a, ps, hk, hak, rfl, rfl, hown, hcut, hno, hps, hbr⟩ := hrel
    have Hown := Lib.hid hown
    have Hcut := Lib.hid hcut
    have Hno := Lib.hid hno
    have Hbr := Lib.hid hbr
    have hB := hbr.size
    obtain ⟨ra, rc, hr, _, _, _⟩ := hown.read
    clear hown hcut hno hbr
    subst hr
    by_cases hlt : k < l.length
    · obtain ⟨b, hb⟩ : ∃ b, l[k]? = some b := ⟨_, List.getElem?_eq_getElem hlt⟩
      have hix := str_at hb
      have Hb := Lib.hid hb
      clear hb
      by_cases h47 : b = 47
      · subst h47
        have hbq : (((47 : UInt8).toNat : Int) == 47) = true := by decide
        have hsl := str_cut hak hk
        obtain ⟨p, hp⟩ : ∃ p, p = (l.drop a).take (k - a) := ⟨_, rfl⟩
        rw [← hp] at hsl
        have Hp := Lib.hid hp
        clear hp
        go_wp2_with (at_builtin; refine wpList_append_own _ rfl _ _ 28 rfl w.heap.size 9 s0 (.string ⟨#[]⟩) 1 16 Tryd.underlying28 hs hs0 hs1 hs2 rfl (by decide) _ _ _ rfl (World.ownsRow.alloc Hown.out _) ⟨wr.heap.size, 0, none⟩ 1 1 [.string (bstr p)] rfl rfl ?c1 ?c2 ?c3 ?c4 ?c5 ?_)
        case c1 => exact cell_one_new _ _ _
        case c2 => intro u hu; simp at hu; subst hu; rfl
        case c3 => unfold maxLen; omega
        case c4 => omega
        case c5 => simp; omega
        intro v' w1 hown' hgrow _
        obtain ⟨hr2, hb2⟩ := Hown.out.snoc hB hown' hgrow
        have Hr2 := Lib.hid hr2
        have Hb2 := Lib.hid (Hbr.out.trans hb2)
        clear hown' hgrow hr2 hb2
        go_wp2
        go_roundw
        case rel =>
          refine ⟨k + 1, k + 1, _, by omega, Nat.le_refl _, by go_num, by go_num, Hr2.out, ?_, fun j h1 h2 => absurd h2 (by omega), by simp; omega, Hb2.out⟩
          rw [Hcut.out, cut_drop hak Hb.out Hno.out, Hp.out, List.append_assoc]
          rfl
        case measure => simp [intOf]; omega
      · have hbq : ((b.toNat : Int) == 47) = false := by have := nat_beq (b := b) (n := 47) 47 rfl; rw [show (47 : Int) = ((47 : Nat) : Int) from rfl, this]; simp [h47]
        go_wp2
        go_roundw
        case rel =>
          refine ⟨k + 1, a, ps, by omega, by omega, by go_num, rfl, Hown.out, Hcut.out, fun j h1 h2 => ?_, hps, Hbr.out⟩
          by_cases e : j = k
          · subst e; rw [Hb.out]; intro h; injection h with h; exact h47 h
          · exact Hno.out j h1 (by omega)
        case measure => simp [intOf]; omega
    · obtain rfl : k = l.length := by omega
      have hsl := str_from hak
      obtain ⟨p, hp⟩ : ∃ p, p = l.drop a := ⟨_, rfl⟩
      rw [← hp] at hsl
      have Hp := Lib.hid hp
      clear hp
      go_wp2_with (at_builtin; refine wpList_append_own _ rfl _ _ 28 rfl w.heap.size 9 s0 (.string ⟨#[]⟩) 1 16 Tryd.underlying28 hs hs0 hs1 hs2 rfl (by decide) _ _ _ rfl (World.ownsRow.alloc Hown.out _) ⟨wr.heap.size, 0, none⟩ 1 1 [.string (bstr p)] rfl rfl ?c1 ?c2 ?c3 ?c4 ?c5 ?_)
      case c1 => exact cell_one_new _ _ _
      case c2 => intro u hu; simp at hu; subst hu; rfl
      case c3 => unfold maxLen; omega
      case c4 => omega
      case c5 => simp; omega
      intro v' w1 hown' hgrow _
      obtain ⟨hr2, hb2⟩ := Hown.out.snoc hB hown' hgrow
      have Hb2 := Lib.hid (Hbr.out.trans hb2)
      have e : ps ++ [p] = cut l := by rw [Hcut.out, cut_last Hno.out, Hp.out]
      rw [e] at hr2
      have Hr2 := Lib.hid hr2
      clear hown' hgrow hr2 hb2 e
      go_wp2
      go_ret
      exact ⟨_, rfl, Hr2.out, Hb2.out⟩
end Go.Proofs.YtiocbogdiaalgaaDoor
