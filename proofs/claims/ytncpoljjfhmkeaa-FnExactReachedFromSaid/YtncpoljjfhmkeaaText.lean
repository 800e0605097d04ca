/- The text of a sign matrix: what the model's and the program's function answer. Condition: the numbers fit an int. -/
import Derived.Test.YtncpoljjfhmkeaaScal
import Derived.Test.YtncpoljjfhmkeaaShelf
namespace Go.Proofs.Ytncpoljjfhmkeaa
open Go.RowKit

def bstr (l : List UInt8) : ByteArray := ⟨l.toArray⟩
/-- a number's sign as a byte -/
def sgc (x : Int) : UInt8 := if x = 1 then 43 else if x = -1 then 45 else 48
def rowB (xs : List Int) : Nat → List UInt8
  | 0 => []
  | k + 1 => rowB xs k ++ [sgc (gi xs k)]
def sepB (k : Nat) : List UInt8 := if k = 0 then [] else [47]
/-- the text of the first rows -/
def txtB (m : List (List Int)) : Nat → List UInt8
  | 0 => []
  | k + 1 => (txtB m k ++ sepB k) ++ rowB (gr m k) (gr m k).length

theorem rowB_len (xs : List Int) : ∀ k, (rowB xs k).length = k
  | 0 => rfl
  | k + 1 => by simp [rowB, rowB_len xs k]
theorem sepB_len (k : Nat) : (sepB k).length ≤ 1 := by unfold sepB; split <;> simp
theorem txtB_len (m : List (List Int)) : ∀ k, (∀ i, i < k → (gr m i).length ≤ 6) → (txtB m k).length ≤ 7 * k
  | 0, _ => by simp [txtB]
  | k + 1, h => by
    have h1 := txtB_len m k (fun i hi => h i (by omega))
    have h2 := h k (by omega)
    have h3 := sepB_len k
    simp only [txtB, List.length_append, rowB_len]
    omega

theorem add_one (x : List UInt8) (c : UInt8) (h : x.length ≤ 1000) (w : World) : (Op.stringOp .add (bstr x) ⟨#[c]⟩).run Try.prog w = .ok (.string (bstr (x ++ [c]))) w := by
  have := run_string_add_lists (P := Try.prog) w x [c] (by omega) (by simp)
  exact this

theorem cells_one (x : List UInt8) (c : UInt8) : Lib.byteCells x ++ [.int .u8 (c.toNat : Int)] = Lib.byteCells (x ++ [c]) := by simp [Lib.byteCells]

/-- the answer of a function that hands back a text and whether there is one -/
def SRes (p : Prop) (x : ByteArray) (e : Ending) : Prop := ∃ y b, e = .returned (.tuple #[.string y, .bool b]) ∧ ((p ∧ b = true ∧ y = x) ∨ (¬p ∧ b = false ∧ y = ⟨#[]⟩))
theorem SRes.yes {p : Prop} {x : ByteArray} (h : p) : SRes p x (.returned (.tuple #[.string x, .bool true])) := ⟨x, true, rfl, .inl ⟨h, rfl, rfl⟩⟩
theorem SRes.no {p : Prop} {x : ByteArray} (h : ¬p) : SRes p x (.returned (.tuple #[.string ⟨#[]⟩, .bool false])) := ⟨_, false, rfl, .inr ⟨h, rfl, rfl⟩⟩
theorem sres_same {p : Prop} {x y y' : ByteArray} {b b' : Bool} (h : (p ∧ b = true ∧ y = x) ∨ (¬p ∧ b = false ∧ y = ⟨#[]⟩)) (h' : (p ∧ b' = true ∧ y' = x) ∨ (¬p ∧ b' = false ∧ y' = ⟨#[]⟩)) : b = b' ∧ y = y' := by
  rcases h with ⟨h1, rfl, rfl⟩ | ⟨h1, rfl, rfl⟩ <;> rcases h' with ⟨k1, rfl, rfl⟩ | ⟨k1, rfl, rfl⟩
  · exact ⟨rfl, rfl⟩
  · exact absurd h1 k1
  · exact absurd k1 h1
  · exact ⟨rfl, rfl⟩

theorem index_sign (x : Int) (h : -1 ≤ x ∧ x ≤ 1) (w : World) : (Instr.index 9 (.string ⟨#[45, 48, 43]⟩) (.int .i64 (x + 1))).run Try.prog w = .ok (.int .u8 ((sgc x).toNat : Int)) w := by
  rw [run_index_string w 9 _ .i64 (x + 1) Try.underlying9]
  have hx : x = -1 ∨ x = 0 ∨ x = 1 := by omega
  rcases hx with rfl | rfl | rfl <;> rfl

end Go.Proofs.Ytncpoljjfhmkeaa
