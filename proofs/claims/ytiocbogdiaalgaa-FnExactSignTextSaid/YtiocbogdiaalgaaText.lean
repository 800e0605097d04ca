/- The text of a sign matrix: what the model's and the program's function answer. Condition: the numbers fit an int. -/
import Derived.Test.YtiocbogdiaalgaaScal
import Derived.Test.YtiocbogdiaalgaaShelf
namespace Go.Proofs.Ytiocbogdiaalgaa
open Go.RowKit

def bstr (l : List UInt8) : ByteArray := ⟨l.toArray⟩
/-- a number's sign as a byte -/
def sgc (x : Int) : UInt8 := if x = 1 then 43 else if x = -1 then 45 else 48
def rowB (xs : List Int) : Nat → List UInt8
  | 0 => []
  | k + 1 => rowB xs k ++ [sgc (gi xs k)]
def sepB (k : Nat) : List UInt8 := if k = 0 then [] else [47]
/-- the text of the first rows -/
def txtB (m : List (List Int)) : Nat → List UInt8
  | 0 => []
  | k + 1 => (txtB m k ++ sepB k) ++ rowB (gr m k) (gr m k).length

theorem rowB_len (xs : List Int) : ∀ k, (rowB xs k).length = k
  | 0 => rfl
  | k + 1 => by simp [rowB, rowB_len xs k]
theorem sepB_len (k : Nat) : (sepB k).length ≤ 1 := by unfold sepB; split <;> simp
theorem txtB_len (m : List (List Int)) : ∀ k, (∀ i, i < k → (gr m i).length ≤ 6) → (txtB m k).length ≤ 7 * k
  | 0, _ => by simp [txtB]
  | k + 1, h => by
    have h1 := txtB_len m k (fun i hi => h i (by omega))
    have h2 := h k (by omega)
    have h3 := sepB_len k
    simp only [txtB, List.length_append, rowB_len]
    omega

theorem add_one (x : List UInt8) (c : UInt8) (h : x.length ≤ 1000) (w : World) : (Op.stringOp .add (bstr x) ⟨#[c]⟩).run Try.prog w = .ok (.string (bstr (x ++ [c]))) w := by
  have := run_string_add_lists (P := Try.prog) w x [c] (by omega) (by simp)
  exact this

theorem cells_one (x : List UInt8) (c : UInt8) : Lib.byteCells x ++ [.int .u8 (c.toNat : Int)] = Lib.byteCells (x ++ [c]) := by simp [Lib.byteCells]

/-- the answer of a function that hands back a text and whether there is one -/
def SRes (p : Prop) (x : ByteArray) (e : Ending) : Prop := ∃ y b, e = .returned (.tuple #[.string y, .bool b]) ∧ ((p ∧ b = true ∧ y = x) ∨ (¬p ∧ b = false ∧ y = ⟨#[]⟩))
theorem SRes.yes {p : Prop} {x : ByteArray} (h : p) : SRes p x (.returned (.tuple #[.string x, .bool true])) := ⟨x, true, rfl, .inl ⟨h, rfl, rfl⟩⟩
theorem SRes.no {p : Prop} {x : ByteArray} (h : ¬p) : SRes p x (.returned (.tuple #[.string ⟨#[]⟩, .bool false])) := ⟨_, false, rfl, .inr ⟨h, rfl, rfl⟩⟩
theorem sres_same {p : Prop} {x y y' : ByteArray} {b b' : Bool} (h : (p ∧ b = true ∧ y = x) ∨ (¬p ∧ b = false ∧ y = ⟨#[]⟩)) (h' : (p ∧ b' = true ∧ y' = x) ∨ (¬p ∧ b' = false ∧ y' = ⟨#[]⟩)) : b = b' ∧ y = y' := by
  rcases h with ⟨h1, rfl, rfl⟩ | ⟨h1, rfl, rfl⟩ <;> rcases h' with ⟨k1, rfl, rfl⟩ | ⟨k1, rfl, rfl⟩
  · exact ⟨rfl, rfl⟩
  · exact absurd h1 k1
  · exact absurd k1 h1
  · exact ⟨rfl, rfl⟩

set_option maxRecDepth 100000 in
set_option maxHeartbeats 1600000 in
theorem sgText_any (ao : Option Addr) (c : Nat) (m : List (List Int)) (w : World) (hsq : square m) (hm : MatAt w ao m) :
    Calls Try.prog 89 #[.slice ao m.length c] w fun e w' => e = .returned (.string (bstr (txtB m m.length))) ∧ w = w' := by
  have hn := hsq.2.1
  have hmx : m.length ≤ 9223372036854775807 := by omega
  have Hm := Lib.hid hm
  have Hsq := Lib.hid hsq
  clear hm hsq
  go_enter Try.func89, Try.ntmps89
  go_wp2
  go_loop [3, 10] (fun s i => ∃ k : Nat, k ≤ m.length ∧ i = .int .i64 k ∧ s = .string (bstr (txtB m k))) (fun _ i => m.length - (intOf i).toNat)
  case atStart => exact ⟨0, Nat.zero_le _, rfl, rfl⟩
  case round =>
    obtain ⟨k, hk, rfl, rfl⟩ := hrel
    by_cases hlt : k < m.length
    · obtain ⟨b1, o1, r1, d1, rfl, hc1, hr1, _, _⟩ := Hm.out k hlt
      have hlen := txtB_len m k (fun i hi => by rw [Hsq.out.2.2 i (by omega)]; exact hn)
      have hsl := sepB_len k
      have hrl := Hsq.out.2.2 k hlt
      rw [hrl] at hc1
      have Hr1 := Lib.hid hr1
      have Hrl := Lib.hid hrl
      clear hr1 hrl
      obtain ⟨u, hu⟩ : ∃ u, u = txtB m k ++ sepB k := ⟨_, rfl⟩
      have hul : u.length ≤ 50 := by rw [hu, List.length_append]; omega
      obtain ⟨R, hR⟩ : ∃ R, R = gr m k := ⟨_, rfl⟩
      have e1 : txtB m (k + 1) = u ++ rowB R m.length := by rw [hu, hR, ← Hrl.out]; rfl
      have E1 := Lib.hid e1
      rw [← hR] at Hr1 Hrl
      have HR := Lib.hid hR
      clear e1 hR
      obtain ⟨s, hs⟩ : ∃ s, s = txtB m k := ⟨_, rfl⟩
      rw [← hs] at hu hlen ⊢
      clear hs
      have hstep : (k = 0 ∧ s = u) ∨ (0 < k ∧ (Op.stringOp .add (bstr s) ⟨#[47]⟩).run Try.prog w = .ok (.string (bstr u)) w) := by
        by_cases h0 : k = 0
        · exact .inl ⟨h0, by rw [hu]; simp [sepB, h0]⟩
        · refine .inr ⟨by omega, ?_⟩
          rw [hu]
          have : sepB k = [47] := by simp [sepB, h0]
          rw [this]
          exact add_one s 47 (by omega) w
      clear hu hsl hlen
      rcases hstep with ⟨rfl, h0⟩ | ⟨h0, hadd⟩
      all_goals
        first | (rw [h0]; clear h0; rw [Nat.add_zero] at hc1) | skip
        go_wp2
        go_loop [3, 21] (fun s' i => ∃ t : Nat, t ≤ m.length ∧ i = .int .i64 t ∧ s' = .string (bstr (u ++ rowB R t))) (fun _ i => m.length - (intOf i).toNat)
        case atStart => exact ⟨0, Nat.zero_le _, rfl, by simp [rowB]⟩
        case round =>
          obtain ⟨t, ht, rfl, rfl⟩ := hrel
          by_cases htl : t < m.length
          · obtain ⟨b2, o2, rfl, hc2⟩ := Hr1.out t (by rw [Hrl.out]; exact htl)
            have hrb := rowB_len R t
            have e2 : rowB R (t + 1) = rowB R t ++ [sgc (gi R t)] := rfl
            obtain ⟨q, hq⟩ : ∃ q, q = u ++ rowB R t := ⟨_, rfl⟩
            have hql : q.length ≤ 1000 := by rw [hq, List.length_append, hrb]; omega
            have e3 : ∀ b, sgc (gi R t) = b → q ++ [b] = u ++ rowB R (t + 1) := fun b hb => by rw [e2, hq, List.append_assoc, hb]
            have E3 := Lib.hid e3
            have ha1 := add_one q 43 hql w
            have ha2 := add_one q 45 hql w
            have ha3 := add_one q 48 hql w
            rw [← hq]
            clear e2 e3 hq hrb hql
            by_cases hx1 : gi R t = 1
            · have H3 := Lib.hid (E3.out 43 (by simp [sgc, hx1]))
              rw [hx1] at hc2
              clear hx1 E3 ha2 ha3
              go_wp2
              go_round
              case rel => exact ⟨t + 1, by omega, by go_num, by rw [H3.out]⟩
              case measure => simp [intOf]; omega
            · by_cases hx2 : gi R t = -1
              · have H3 := Lib.hid (E3.out 45 (by simp [sgc, hx2]))
                rw [hx2] at hc2
                clear hx1 hx2 E3 ha1 ha3
                go_wp2
                go_round
                case rel => exact ⟨t + 1, by omega, by go_num, by rw [H3.out]⟩
                case measure => simp [intOf]; omega
              · have H3 := Lib.hid (E3.out 48 (by simp [sgc, hx1, hx2]))
                obtain ⟨x, hx⟩ : ∃ x, x = gi R t := ⟨_, rfl⟩
                rw [← hx] at hc2 hx1 hx2
                clear hx E3 ha1 ha2
                go_wp2
                go_round
                case rel => exact ⟨t + 1, by omega, by go_num, by rw [H3.out]⟩
                case measure => simp [intOf]; omega
          · obtain rfl : t = m.length := by omega
            go_wp2
            go_round
            case rel => first | exact ⟨k + 1, by omega, by go_num, by rw [E1.out]⟩ | exact ⟨0 + 1, by omega, by go_num, by rw [E1.out]⟩
            case measure => simp [intOf]; omega
    · obtain rfl : k = m.length := by omega
      go_wp2
      go_ret
      exact ⟨rfl, rfl⟩

set_option maxRecDepth 100000 in
set_option maxHeartbeats 800000 in
theorem specSignText_any (ao : Option Addr) (c : Nat) (m : List (List Int)) (w : World) (hs : Small m) (hm : MatAt w ao m) :
    Calls Try.prog 55 #[.slice ao m.length c] w fun e w' => SRes (good m) (bstr (txtB m m.length)) e ∧ Below w.heap.size w w' := by
  have Hs := Lib.hid hs
  have Hm := Lib.hid hm
  clear hs hm
  go_enter Try.func55, Try.ntmps55
  go_wp2_with fail
  refine (sgGood_any ao c m w Hs.out Hm.out).mono ?_
  rintro e w1 ⟨ha, hb⟩
  have Hb := Lib.hid hb
  have Hm1 := Lib.hid (Hm.out.below hb)
  clear hb
  by_cases hg : good m
  · have Hg := Lib.hid hg
    clear hg
    obtain rfl := ha.is Hg.out
    clear ha
    go_wp2_with fail
    refine (sgText_any ao c m w1 Hg.out.1 Hm1.out).mono ?_
    rintro e w2 ⟨rfl, rfl⟩
    go_wp2
    go_ret2
    exact ⟨SRes.yes Hg.out, Hb.out⟩
  · have Hg := Lib.hid hg
    clear hg
    obtain rfl := ha.isnt Hg.out
    clear ha
    go_wp2
    go_ret2
    exact ⟨SRes.no Hg.out, Hb.out⟩

theorem index_sign (x : Int) (h : -1 ≤ x ∧ x ≤ 1) (w : World) : (Instr.index 9 (.string ⟨#[45, 48, 43]⟩) (.int .i64 (x + 1))).run Try.prog w = .ok (.int .u8 ((sgc x).toNat : Int)) w := by
  rw [run_index_string w 9 _ .i64 (x + 1) Try.underlying9]
  have hx : x = -1 ∨ x = 0 ∨ x = 1 := by omega
  rcases hx with rfl | rfl | rfl <;> rfl

/-- a builder that holds this text -/
def TB (b : Nat) (l : List UInt8) (w : World) : Prop := Lib.IsBuilder 65 5 b b (Lib.byteCells l) w

theorem put_byte (b : Nat) (l : List UInt8) (c : UInt8) (w : World) (h : TB b l w) (hlen : l.length ≤ 1000) (hb : b ≤ w.heap.size) :
    Calls Try.prog 90 #[.pointer (some ⟨b, 0, none⟩), .int .u8 (c.toNat : Int)] w fun e w' => e = .returned .nilIface ∧ TB b (l ++ [c]) w' ∧ Below b w w' := by
  refine (Try.Builder_WriteByte b b (Lib.byteCells l) c.toNat w h (by rw [Lib.byteCells_length]; omega) hb).mono ?_
  rintro e w' ⟨rfl, h1, h2⟩
  refine ⟨rfl, ?_, h2⟩
  rw [cells_one] at h1
  exact Or.inr h1

set_option maxRecDepth 100000 in
set_option maxHeartbeats 1600000 in
theorem implSignText_any (ao : Option Addr) (c : Nat) (m : List (List Int)) (w : World) (hs : Small m) (hwf : WfM m) (hm : MatAt w ao m) :
    Calls Try.prog 56 #[.slice ao m.length c] w fun e w' => SRes (good m) (bstr (txtB m m.length)) e ∧ Below w.heap.size w w' := by
  have Hs := Lib.hid hs
  have Hm := Lib.hid hm
  clear hs hm
  have Hwf := Lib.hid hwf
  clear hwf
  go_enter Try.func56, Try.ntmps56
  go_wp2_with fail
  refine (implIsSign_any ao c m w Hs.out Hwf.out Hm.out).mono ?_
  rintro e w1 ⟨ha, hb⟩
  have Hb := Lib.hid hb
  have Hm1 := Lib.hid (Hm.out.below hb)
  clear hb
  by_cases hg : good m
  · have hn := hg.1.2.1
    have hmx : m.length ≤ 9223372036854775807 := by omega
    have Hg := Lib.hid hg
    clear hg
    obtain rfl := ha.is Hg.out
    clear ha
    have H0 := Lib.hid (show TB w1.heap.size [] (w1.alloc (.cells #[.pointer none, .slice none 0 0] 65)) from Lib.fresh_isBuilder 65 5 w1)
    have B0 := Lib.hid (show Below w1.heap.size w1 (w1.alloc (.cells #[.pointer none, .slice none 0 0] 65)) from (Below.refl _ w1).alloc (Nat.le_refl _) _)
    go_wp2
    go_loopw [14] (fun i wr => ∃ k : Nat, k ≤ m.length ∧ i = .int .i64 k ∧ TB w1.heap.size (txtB m k) wr ∧ Below w1.heap.size w1 wr) (fun i _ => m.length - (intOf i).toNat)
    case atStart => exact ⟨0, Nat.zero_le _, rfl, H0.out, B0.out⟩
    case round =>
      obtain ⟨k, hk, rfl, htb, hbr⟩ := hrel
      clear H0 B0
      by_cases hlt : k < m.length
      · obtain ⟨b1, o1, r1, d1, rfl, hc0, hr1, _, _⟩ := Hm1.out k hlt
        have hlen := txtB_len m k (fun i hi => by rw [Hg.out.1.2.2 i (by omega)]; exact hn)
        have hsl := sepB_len k
        have hrl := Hg.out.1.2.2 k hlt
        rw [hrl] at hc0
        have hc1 := cell_below hc0 hbr
        have Hr1 := Lib.hid hr1
        have Hrl := Lib.hid hrl
        clear hr1 hrl hc0
        obtain ⟨u, hu⟩ : ∃ u, u = txtB m k ++ sepB k := ⟨_, rfl⟩
        have hul : u.length ≤ 50 := by rw [hu, List.length_append]; omega
        obtain ⟨R, hR⟩ : ∃ R, R = gr m k := ⟨_, rfl⟩
        have e1 : txtB m (k + 1) = u ++ rowB R m.length := by rw [hu, hR, ← Hrl.out]; rfl
        have E1 := Lib.hid e1
        rw [← hR] at Hr1 Hrl
        have HR := Lib.hid (show ∀ j, j < m.length → -1 ≤ gi R j ∧ gi R j ≤ 1 from fun j hj => by rw [hR]; exact good_entry Hg.out hlt hj)
        clear e1 hR
        have hsz := hbr.size
        have Hbr := Lib.hid hbr
        clear hbr
        by_cases h0 : k = 0
        · have htu : TB w1.heap.size u wr := by rw [hu, h0]; rw [h0] at htb; exact htb
          have Htu := Lib.hid htu
          clear htb htu hu hsl hlen
          have hk0 : ¬ ((0 : Int) < (k : Int)) := by omega
          have H00 := Lib.hid h0
          clear h0
          go_wp2
          go_loopw [24] (fun i wq => ∃ t : Nat, t ≤ m.length ∧ i = .int .i64 t ∧ TB w1.heap.size (u ++ rowB R t) wq ∧ Below w1.heap.size w1 wq) (fun i _ => m.length - (intOf i).toNat)
          case atStart => exact ⟨0, Nat.zero_le _, rfl, by rw [show u ++ rowB R 0 = u from List.append_nil u]; exact Htu.out, Hbr.out⟩
          case round =>
            clear Htu Hbr
            obtain ⟨t, ht, rfl, htb, hbr⟩ := hrel
            by_cases htl : t < m.length
            · obtain ⟨b2, o2, rfl, hc0⟩ := Hr1.out t (by rw [Hrl.out]; exact htl)
              have hc2 := cell_below hc0 hbr
              clear hc0
              have hx := HR.out t htl
              have hrb := rowB_len R t
              have e2 : rowB R (t + 1) = rowB R t ++ [sgc (gi R t)] := rfl
              have hput := put_byte w1.heap.size (u ++ rowB R t) (sgc (gi R t)) _ htb (by rw [List.length_append, hrb]; omega) hbr.size
              rw [List.append_assoc, ← e2] at hput
              have hidx := index_sign (gi R t) hx
              obtain ⟨x, hxx⟩ : ∃ x, x = gi R t := ⟨_, rfl⟩
              rw [← hxx] at hput hidx hc2 hx
              obtain ⟨y, hy⟩ : ∃ y : Int, y = ((sgc x).toNat : Int) := ⟨_, rfl⟩
              rw [← hy] at hput hidx
              have hidx1 := hidx wr
              have Hput := Lib.hid hput
              have Hbr := Lib.hid hbr
              clear hput hbr e2 hrb hxx hy hidx htb
              go_wp2_with fail
              refine Hput.out.mono ?_
              rintro e w4 ⟨rfl, htb4, hb4⟩
              have Htb4 := Lib.hid htb4
              have Hb4 := Lib.hid (Hbr.out.trans hb4)
              clear htb4 hb4 hidx1 hc2
              go_wp2
              go_roundw
              case rel => exact ⟨t + 1, by omega, by go_num, Htb4.out, Hb4.out⟩
              case measure => simp [intOf]; omega
            · obtain rfl : t = m.length := by omega
              have Htb := Lib.hid htb
              have Hbr := Lib.hid hbr
              clear htb hbr
              go_wp2
              go_roundw
              case rel => exact ⟨k + 1, by omega, by go_num, by rw [E1.out]; exact Htb.out, Hbr.out⟩
              case measure => simp [intOf]; omega
        · have hput : Calls Try.prog 90 #[.pointer (some ⟨w1.heap.size, 0, none⟩), .int .u8 47] wr fun e w' => e = .returned .nilIface ∧ TB w1.heap.size u w' ∧ Below w1.heap.size wr w' := by
            have := put_byte w1.heap.size (txtB m k) 47 wr htb (by omega) hsz
            have e : sepB k = [47] := by simp [sepB, h0]
            rw [hu, e]
            exact this
          have Hput := Lib.hid hput
          clear htb hput hu hsl hlen
          go_wp2_with fail
          refine Hput.out.mono ?_
          rintro e w3 ⟨rfl, htu, hb3⟩
          have Htu := Lib.hid htu
          have Hbr := Lib.hid (Hbr.out.trans hb3)
          clear htu hb3 hc1
          go_wp2
          go_loopw [24] (fun i wq => ∃ t : Nat, t ≤ m.length ∧ i = .int .i64 t ∧ TB w1.heap.size (u ++ rowB R t) wq ∧ Below w1.heap.size w1 wq) (fun i _ => m.length - (intOf i).toNat)
          case atStart => exact ⟨0, Nat.zero_le _, rfl, by rw [show u ++ rowB R 0 = u from List.append_nil u]; exact Htu.out, Hbr.out⟩
          case round =>
            clear Htu Hbr
            obtain ⟨t, ht, rfl, htb, hbr⟩ := hrel
            by_cases htl : t < m.length
            · obtain ⟨b2, o2, rfl, hc0⟩ := Hr1.out t (by rw [Hrl.out]; exact htl)
              have hc2 := cell_below hc0 hbr
              clear hc0
              have hx := HR.out t htl
              have hrb := rowB_len R t
              have e2 : rowB R (t + 1) = rowB R t ++ [sgc (gi R t)] := rfl
              have hput := put_byte w1.heap.size (u ++ rowB R t) (sgc (gi R t)) _ htb (by rw [List.length_append, hrb]; omega) hbr.size
              rw [List.append_assoc, ← e2] at hput
              have hidx := index_sign (gi R t) hx
              obtain ⟨x, hxx⟩ : ∃ x, x = gi R t := ⟨_, rfl⟩
              rw [← hxx] at hput hidx hc2 hx
              obtain ⟨y, hy⟩ : ∃ y : Int, y = ((sgc x).toNat : Int) := ⟨_, rfl⟩
              rw [← hy] at hput hidx
              have hidx1 := hidx wr
              have Hput := Lib.hid hput
              have Hbr := Lib.hid hbr
              clear hput hbr e2 hrb hxx hy hidx htb
              go_wp2_with fail
              refine Hput.out.mono ?_
              rintro e w4 ⟨rfl, htb4, hb4⟩
              have Htb4 := Lib.hid htb4
              have Hb4 := Lib.hid (Hbr.out.trans hb4)
              clear htb4 hb4 hidx1 hc2
              go_wp2
              go_roundw
              case rel => exact ⟨t + 1, by omega, by go_num, Htb4.out, Hb4.out⟩
              case measure => simp [intOf]; omega
            · obtain rfl : t = m.length := by omega
              have Htb := Lib.hid htb
              have Hbr := Lib.hid hbr
              clear htb hbr
              go_wp2
              go_roundw
              case rel => exact ⟨k + 1, by omega, by go_num, by rw [E1.out]; exact Htb.out, Hbr.out⟩
              case measure => simp [intOf]; omega
      · obtain rfl : k = m.length := by omega
        have hlen := hbr.size
        have Htb := Lib.hid htb
        have Hbr := Lib.hid hbr
        clear htb hbr
        go_wp2_with fail
        refine (Try.Builder_String_any w1.heap.size w1.heap.size _ _ Htb.out hlen).mono ?_
        rintro e w3 ⟨rfl, hb3⟩
        have Hb3 := Lib.hid (Hb.out.trans ((Hbr.out.trans hb3).mono Hb.out.size))
        clear hb3
        go_wp2
        go_ret2
        exact ⟨SRes.yes Hg.out, Hb3.out⟩
  · have Hg := Lib.hid hg
    clear hg
    obtain rfl := ha.isnt Hg.out
    clear ha
    go_wp2
    go_ret2
    exact ⟨SRes.no Hg.out, Hb.out⟩
end Go.Proofs.Ytiocbogdiaalgaa
