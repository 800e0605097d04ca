/- The text of a sign matrix: what the model's and the program's function answer. Condition: the numbers fit an int. -/
import Derived.Test.YtiocbogdiaalgaaDoorScal
import Derived.Test.YtiocbogdiaalgaaDoorShelf
namespace Go.Proofs.YtiocbogdiaalgaaDoor
open Go.RowKit

def bstr (l : List UInt8) : ByteArray := ⟨l.toArray⟩
/-- a number's sign as a byte -/
def sgc (x : Int) : UInt8 := if x = 1 then 43 else if x = -1 then 45 else 48
def rowB (xs : List Int) : Nat → List UInt8
  | 0 => []
  | k + 1 => rowB xs k ++ [sgc (gi xs k)]
def sepB (k : Nat) : List UInt8 := if k = 0 then [] else [47]
/-- the text of the first rows -/
def txtB (m : List (List Int)) : Nat → List UInt8
  | 0 => []
  | k + 1 => (txtB m k ++ sepB k) ++ rowB (gr m k) (gr m k).length

theorem rowB_len (xs : List Int) : ∀ k, (rowB xs k).length = k
  | 0 => rfl
  | k + 1 => by simp [rowB, rowB_len xs k]
theorem sepB_len (k : Nat) : (sepB k).length ≤ 1 := by unfold sepB; split <;> simp
theorem txtB_len (m : List (List Int)) : ∀ k, (∀ i, i < k → (gr m i).length ≤ 6) → (txtB m k).length ≤ 7 * k
  | 0, _ => by simp [txtB]
  | k + 1, h => by
    have h1 := txtB_len m k (fun i hi => h i (by omega))
    have h2 := h k (by omega)
    have h3 := sepB_len k
    simp only [txtB, List.length_append, rowB_len]
    omega

theorem add_one (x : List UInt8) (c : UInt8) (h : x.length ≤ 1000) (w : World) : (Op.stringOp .add (bstr x) ⟨#[c]⟩).run Tryd.prog w = .ok (.string (bstr (x ++ [c]))) w := by
  have := run_string_add_lists (P := Tryd.prog) w x [c] (by omega) (by simp)
  exact this

theorem cells_one (x : List UInt8) (c : UInt8) : Lib.byteCells x ++ [.int .u8 (c.toNat : Int)] = Lib.byteCells (x ++ [c]) := by simp [Lib.byteCells]

/-- the answer of a function that hands back a text and whether there is one -/
def SRes (p : Prop) (x : ByteArray) (e : Ending) : Prop := ∃ y b, e = .returned (.tuple #[.string y, .bool b]) ∧ ((p ∧ b = true ∧ y = x) ∨ (¬p ∧ b = false ∧ y = ⟨#[]⟩))
theorem SRes.yes {p : Prop} {x : ByteArray} (h : p) : SRes p x (.returned (.tuple #[.string x, .bool true])) := ⟨x, true, rfl, .inl ⟨h, rfl, rfl⟩⟩
theorem SRes.no {p : Prop} {x : ByteArray} (h : ¬p) : SRes p x (.returned (.tuple #[.string ⟨#[]⟩, .bool false])) := ⟨_, false, rfl, .inr ⟨h, rfl, rfl⟩⟩
theorem sres_same {p : Prop} {x y y' : ByteArray} {b b' : Bool} (h : (p ∧ b = true ∧ y = x) ∨ (¬p ∧ b = false ∧ y = ⟨#[]⟩)) (h' : (p ∧ b' = true ∧ y' = x) ∨ (¬p ∧ b' = false ∧ y' = ⟨#[]⟩)) : b = b' ∧ y = y' := by
  rcases h with ⟨h1, rfl, rfl⟩ | ⟨h1, rfl, rfl⟩ <;> rcases h' with ⟨k1, rfl, rfl⟩ | ⟨k1, rfl, rfl⟩
  · exact ⟨rfl, rfl⟩
  · exact absurd h1 k1
  · exact absurd k1 h1
  · exact ⟨rfl, rfl⟩

set_option maxRecDepth 100000 in
set_option maxHeartbeats 1600000 in
theorem sgText_any (ao : Option Addr) (c : Nat) (m : List (List Int)) (w : World) (hsq : square m) (hm : MatAt w ao m) :
    Calls Tryd.prog 18 #[.slice ao m.length c] w fun e w' => e = .returned (.string (bstr (txtB m m.length))) ∧ w = w' := by
  have hn := hsq.2.1
  have hmx : m.length ≤ 9223372036854775807 := by omega
  have Hm := Lib.hid hm
  have Hsq := Lib.hid hsq
  clear hm hsq
  go_enter Tryd.func18, Tryd.ntmps18
  go_wp2
  go_loop [3, 10] (fun s i => ∃ k : Nat, k ≤ m.length ∧ i = .int .i64 k ∧ s = .string (bstr (txtB m k))) (fun _ i => m.length - (intOf i).toNat)
  case atStart => exact ⟨0, Nat.zero_le _, rfl, rfl⟩
  case round =>
    obtain ⟨k, hk, rfl, rfl⟩ := hrel
    by_cases hlt : k < m.length
    · obtain ⟨b1, o1, r1, d1, rfl, hc1, hr1, _, _⟩ := Hm.out k hlt
      have hlen := txtB_len m k (fun i hi => by rw [Hsq.out.2.2 i (by omega)]; exact hn)
      have hsl := sepB_len k
      have hrl := Hsq.out.2.2 k hlt
      rw [hrl] at hc1
      have Hr1 := Lib.hid hr1
      have Hrl := Lib.hid hrl
      clear hr1 hrl
      obtain ⟨u, hu⟩ : ∃ u, u = txtB m k ++ sepB k := ⟨_, rfl⟩
      have hul : u.length ≤ 50 := by rw [hu, List.length_append]; omega
      obtain ⟨R, hR⟩ : ∃ R, R = gr m k := ⟨_, rfl⟩
      have e1 : txtB m (k + 1) = u ++ rowB R m.length := by rw [hu, hR, ← Hrl.out]; rfl
      have E1 := Lib.hid e1
      rw [← hR] at Hr1 Hrl
      have HR := Lib.hid hR
      clear e1 hR
      obtain ⟨s, hs⟩ : ∃ s, s = txtB m k := ⟨_, rfl⟩
      rw [← hs] at hu hlen ⊢
      clear hs
      have hstep : (k = 0 ∧ s = u) ∨ (0 < k ∧ (Op.stringOp .add (bstr s) ⟨#[47]⟩).run Tryd.prog w = .ok (.string (bstr u)) w) := by
        by_cases h0 : k = 0
        · exact .inl ⟨h0, by rw [hu]; simp [sepB, h0]⟩
        · refine .inr ⟨by omega, ?_⟩
          rw [hu]
          have : sepB k = [47] := by simp [sepB, h0]
          rw [this]
          exact add_one s 47 (by omega) w
      clear hu hsl hlen
      rcases hstep with ⟨rfl, h0⟩ | ⟨h0, hadd⟩
      all_goals
        first | (rw [h0]; clear h0; rw [Nat.add_zero] at hc1) | skip
        go_wp2
        go_loop [3, 21] (fun s' i => ∃ t : Nat, t ≤ m.length ∧ i = .int .i64 t ∧ s' = .string (bstr (u ++ rowB R t))) (fun _ i => m.length - (intOf i).toNat)
        case atStart => exact ⟨0, Nat.zero_le _, rfl, by simp [rowB]⟩
        case round =>
          obtain ⟨t, ht, rfl, rfl⟩ := hrel
          by_cases htl : t < m.length
          · obtain ⟨b2, o2, rfl, hc2⟩ := Hr1.out t (by rw [Hrl.out]; exact htl)
            have hrb := rowB_len R t
            have e2 : rowB R (t + 1) = rowB R t ++ [sgc (gi R t)] := rfl
            obtain ⟨q, hq⟩ : ∃ q, q = u ++ rowB R t := ⟨_, rfl⟩
            have hql : q.length ≤ 1000 := by rw [hq, List.length_append, hrb]; omega
            have e3 : ∀ b, sgc (gi R t) = b → q ++ [b] = u ++ rowB R (t + 1) := fun b hb => by rw [e2, hq, List.append_assoc, hb]
            have E3 := Lib.hid e3
            have ha1 := add_one q 43 hql w
            have ha2 := add_one q 45 hql w
            have ha3 := add_one q 48 hql w
            rw [← hq]
            clear e2 e3 hq hrb hql
            by_cases hx1 : gi R t = 1
            · have H3 := Lib.hid (E3.out 43 (by simp [sgc, hx1]))
              rw [hx1] at hc2
              clear hx1 E3 ha2 ha3
              go_wp2
              go_round
              case rel => exact ⟨t + 1, by omega, by go_num, by rw [H3.out]⟩
              case measure => simp [intOf]; omega
            · by_cases hx2 : gi R t = -1
              · have H3 := Lib.hid (E3.out 45 (by simp [sgc, hx2]))
                rw [hx2] at hc2
                clear hx1 hx2 E3 ha1 ha3
                go_wp2
                go_round
                case rel => exact ⟨t + 1, by omega, by go_num, by rw [H3.out]⟩
                case measure => simp [intOf]; omega
              · have H3 := Lib.hid (E3.out 48 (by simp [sgc, hx1, hx2]))
                obtain ⟨x, hx⟩ : ∃ x, x = gi R t := ⟨_, rfl⟩
                rw [← hx] at hc2 hx1 hx2
                clear hx E3 ha1 ha2
                go_wp2
                go_round
                case rel => exact ⟨t + 1, by omega, by go_num, by rw [H3.out]⟩
                case measure => simp [intOf]; omega
          · obtain rfl : t = m.length := by omega
            go_wp2
            go_round
            case rel => first | exact ⟨k + 1, by omega, by go_num, by rw [E1.out]⟩ | exact ⟨0 + 1, by omega, by go_num, by rw [E1.out]⟩
            case measure => simp [intOf]; omega
    · obtain rfl : k = m.length := by omega
      go_wp2
      go_ret
      exact ⟨rfl, rfl⟩

theorem index_sign (x : Int) (h : -1 ≤ x ∧ x ≤ 1) (w : World) : (Instr.index 9 (.string ⟨#[45, 48, 43]⟩) (.int .i64 (x + 1))).run Tryd.prog w = .ok (.int .u8 ((sgc x).toNat : Int)) w := by
  rw [run_index_string w 9 _ .i64 (x + 1) Tryd.underlying9]
  have hx : x = -1 ∨ x = 0 ∨ x = 1 := by omega
  rcases hx with rfl | rfl | rfl <;> rfl

end Go.Proofs.YtiocbogdiaalgaaDoor
