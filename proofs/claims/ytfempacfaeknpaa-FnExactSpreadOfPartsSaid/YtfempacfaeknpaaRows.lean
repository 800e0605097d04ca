/-
  No cell of these rows narrows 'for every input' (looked for: loops, veiled, ifaces, maps, wideKeys, modest, calm, conditions, laid).
  DERIVED. THE GIVEN ROWS OF THIS SEAT. 15 by the template 'for every input the law returns true; each argument reads behind the call as it read before'; 0 by the template 'total and deterministic' (their statements: YtfempacfaeknpaaTotals.lean).
  GIVEN WITH THE SEED: the statements are not yours to turn. If you find one false, say at which input.
  Laid BY PROGRAM, IN A SANDBOX (cutbox-rows.mjs): the forced cells as the released guide's own fill.sh prints them over the translation 223d7e1744e5b53f… (all of the seat's roots in one cut). By AI agents, Wed Nov 11 2026. No macro, syntax, notation, axiom, sorry.
-/
import Derived.Test.YtfempacfaeknpaaChecked
import GoSem.Claim
import GoSem.ClaimJoined
import GoSem.ClaimMapViews
import Derived.JoinedTies
import Derived.KernelRfl
namespace Go.Proofs.Ytfempacfaeknpaa
/- THE CELL 'sum', in the pinned program and in every row, IS THE sha256 OF THE DUMP (.gsa) THAT YtfempacfaeknpaaProg.lean LOADS. Nothing in Lean hashes anything: it is a label: what it is worth is what the hold of that sum in a sandbox is worth. -/
noncomputable def Try.pinned : Pinned := { name := "ytfempacfaeknpaa", sum := "223d7e1744e5b53f21fa3eaa19c58d675a74a4d90ad5178ee7e9af9131cbd9c2", checked := Try.checked }
namespace Rows
def none {H : Type} : Left H := { results := [], args := [] }

/-- 'laws.FnExactIsDescending': WHATEVER THE INPUT: true; the input reads as it did. -/
def fnExactIsDescendingSpec : ChangeSpec := { name := "fnExactIsDescending", fn := fun _ => fun
  | [d1, d2] => { results := [.lit (.bool true)], args := [d1, d2] }
  | _ => none }
def fnExactIsDescendingRow : OpenClaim := { program := "ytfempacfaeknpaa", sum := "223d7e1744e5b53f21fa3eaa19c58d675a74a4d90ad5178ee7e9af9131cbd9c2", func := "loop.example/g01123/laws.FnExactIsDescending", spec := "fnExactIsDescending", apart := false }
def FnExactIsDescendingSaid : Prop := fnExactIsDescendingRow.holds Try.pinned (OpenSpec.ofChange fnExactIsDescendingSpec)

/-- ITS FALSE NEIGHBOUR: 'it returns false'. Refute it at one input. -/
def fnExactIsDescendingWrong : ChangeSpec := { name := "fnExactIsDescending", fn := fun _ => fun
  | [d1, d2] => { results := [.lit (.bool false)], args := [d1, d2] }
  | _ => none }
def FnExactIsDescendingWrongFalsely : Prop := fnExactIsDescendingRow.holds Try.pinned (OpenSpec.ofChange fnExactIsDescendingWrong)

/-- 'laws.FnExactAllDescending': WHATEVER THE INPUT: true; the input reads as it did. -/
def fnExactAllDescendingSpec : ChangeSpec := { name := "fnExactAllDescending", fn := fun _ => fun
  | [d] => { results := [.lit (.bool true)], args := [d] }
  | _ => none }
def fnExactAllDescendingRow : OpenClaim := { program := "ytfempacfaeknpaa", sum := "223d7e1744e5b53f21fa3eaa19c58d675a74a4d90ad5178ee7e9af9131cbd9c2", func := "loop.example/g01123/laws.FnExactAllDescending", spec := "fnExactAllDescending", recurses := true, apart := false }
def FnExactAllDescendingSaid : Prop := fnExactAllDescendingRow.holds Try.pinned (OpenSpec.ofChange fnExactAllDescendingSpec)

/-- ITS FALSE NEIGHBOUR: 'it returns false'. Refute it at one input. -/
def fnExactAllDescendingWrong : ChangeSpec := { name := "fnExactAllDescending", fn := fun _ => fun
  | [d] => { results := [.lit (.bool false)], args := [d] }
  | _ => none }
def FnExactAllDescendingWrongFalsely : Prop := fnExactAllDescendingRow.holds Try.pinned (OpenSpec.ofChange fnExactAllDescendingWrong)

/-- 'laws.FnExactCountDescending': WHATEVER THE INPUT: true; the input reads as it did. -/
def fnExactCountDescendingSpec : ChangeSpec := { name := "fnExactCountDescending", fn := fun _ => fun
  | [d] => { results := [.lit (.bool true)], args := [d] }
  | _ => none }
def fnExactCountDescendingRow : OpenClaim := { program := "ytfempacfaeknpaa", sum := "223d7e1744e5b53f21fa3eaa19c58d675a74a4d90ad5178ee7e9af9131cbd9c2", func := "loop.example/g01123/laws.FnExactCountDescending", spec := "fnExactCountDescending", unfollowed := true, recurses := true, apart := false }
def FnExactCountDescendingSaid : Prop := fnExactCountDescendingRow.holds Try.pinned (OpenSpec.ofChange fnExactCountDescendingSpec)

/-- ITS FALSE NEIGHBOUR: 'it returns false'. Refute it at one input. -/
def fnExactCountDescendingWrong : ChangeSpec := { name := "fnExactCountDescending", fn := fun _ => fun
  | [d] => { results := [.lit (.bool false)], args := [d] }
  | _ => none }
def FnExactCountDescendingWrongFalsely : Prop := fnExactCountDescendingRow.holds Try.pinned (OpenSpec.ofChange fnExactCountDescendingWrong)

/-- 'laws.FnExactCountByDeterminant': WHATEVER THE INPUT: true; the input reads as it did. -/
def fnExactCountByDeterminantSpec : ChangeSpec := { name := "fnExactCountByDeterminant", fn := fun _ => fun
  | [d] => { results := [.lit (.bool true)], args := [d] }
  | _ => none }
def fnExactCountByDeterminantRow : OpenClaim := { program := "ytfempacfaeknpaa", sum := "223d7e1744e5b53f21fa3eaa19c58d675a74a4d90ad5178ee7e9af9131cbd9c2", func := "loop.example/g01123/laws.FnExactCountByDeterminant", spec := "fnExactCountByDeterminant", recurses := true, apart := false }
def FnExactCountByDeterminantSaid : Prop := fnExactCountByDeterminantRow.holds Try.pinned (OpenSpec.ofChange fnExactCountByDeterminantSpec)

/-- ITS FALSE NEIGHBOUR: 'it returns false'. Refute it at one input. -/
def fnExactCountByDeterminantWrong : ChangeSpec := { name := "fnExactCountByDeterminant", fn := fun _ => fun
  | [d] => { results := [.lit (.bool false)], args := [d] }
  | _ => none }
def FnExactCountByDeterminantWrongFalsely : Prop := fnExactCountByDeterminantRow.holds Try.pinned (OpenSpec.ofChange fnExactCountByDeterminantWrong)

/-- 'laws.FnExactPartsOf': WHATEVER THE INPUT: true; the input reads as it did. -/
def fnExactPartsOfSpec : ChangeSpec := { name := "fnExactPartsOf", fn := fun _ => fun
  | [d] => { results := [.lit (.bool true)], args := [d] }
  | _ => none }
def fnExactPartsOfRow : OpenClaim := { program := "ytfempacfaeknpaa", sum := "223d7e1744e5b53f21fa3eaa19c58d675a74a4d90ad5178ee7e9af9131cbd9c2", func := "loop.example/g01123/laws.FnExactPartsOf", spec := "fnExactPartsOf", unfollowed := true, recurses := true, apart := false }
def FnExactPartsOfSaid : Prop := fnExactPartsOfRow.holds Try.pinned (OpenSpec.ofChange fnExactPartsOfSpec)

/-- ITS FALSE NEIGHBOUR: 'it returns false'. Refute it at one input. -/
def fnExactPartsOfWrong : ChangeSpec := { name := "fnExactPartsOf", fn := fun _ => fun
  | [d] => { results := [.lit (.bool false)], args := [d] }
  | _ => none }
def FnExactPartsOfWrongFalsely : Prop := fnExactPartsOfRow.holds Try.pinned (OpenSpec.ofChange fnExactPartsOfWrong)

/-- 'laws.FnExactSpecialParts': WHATEVER THE INPUT: true; the input reads as it did. -/
def fnExactSpecialPartsSpec : ChangeSpec := { name := "fnExactSpecialParts", fn := fun _ => fun
  | [d] => { results := [.lit (.bool true)], args := [d] }
  | _ => none }
def fnExactSpecialPartsRow : OpenClaim := { program := "ytfempacfaeknpaa", sum := "223d7e1744e5b53f21fa3eaa19c58d675a74a4d90ad5178ee7e9af9131cbd9c2", func := "loop.example/g01123/laws.FnExactSpecialParts", spec := "fnExactSpecialParts", unfollowed := true, recurses := true, apart := false }
def FnExactSpecialPartsSaid : Prop := fnExactSpecialPartsRow.holds Try.pinned (OpenSpec.ofChange fnExactSpecialPartsSpec)

/-- ITS FALSE NEIGHBOUR: 'it returns false'. Refute it at one input. -/
def fnExactSpecialPartsWrong : ChangeSpec := { name := "fnExactSpecialParts", fn := fun _ => fun
  | [d] => { results := [.lit (.bool false)], args := [d] }
  | _ => none }
def FnExactSpecialPartsWrongFalsely : Prop := fnExactSpecialPartsRow.holds Try.pinned (OpenSpec.ofChange fnExactSpecialPartsWrong)

/-- 'laws.FnExactPartsEqual': WHATEVER THE INPUT: true; the input reads as it did. -/
def fnExactPartsEqualSpec : ChangeSpec := { name := "fnExactPartsEqual", fn := fun _ => fun
  | [d1, d2] => { results := [.lit (.bool true)], args := [d1, d2] }
  | _ => none }
def fnExactPartsEqualRow : OpenClaim := { program := "ytfempacfaeknpaa", sum := "223d7e1744e5b53f21fa3eaa19c58d675a74a4d90ad5178ee7e9af9131cbd9c2", func := "loop.example/g01123/laws.FnExactPartsEqual", spec := "fnExactPartsEqual", unfollowed := true, recurses := true, apart := false }
def FnExactPartsEqualSaid : Prop := fnExactPartsEqualRow.holds Try.pinned (OpenSpec.ofChange fnExactPartsEqualSpec)

/-- ITS FALSE NEIGHBOUR: 'it returns false'. Refute it at one input. -/
def fnExactPartsEqualWrong : ChangeSpec := { name := "fnExactPartsEqual", fn := fun _ => fun
  | [d1, d2] => { results := [.lit (.bool false)], args := [d1, d2] }
  | _ => none }
def FnExactPartsEqualWrongFalsely : Prop := fnExactPartsEqualRow.holds Try.pinned (OpenSpec.ofChange fnExactPartsEqualWrong)

/-- 'laws.FnExactSumOfParts': WHATEVER THE INPUT: true; the input reads as it did. -/
def fnExactSumOfPartsSpec : ChangeSpec := { name := "fnExactSumOfParts", fn := fun _ => fun
  | [d] => { results := [.lit (.bool true)], args := [d] }
  | _ => none }
def fnExactSumOfPartsRow : OpenClaim := { program := "ytfempacfaeknpaa", sum := "223d7e1744e5b53f21fa3eaa19c58d675a74a4d90ad5178ee7e9af9131cbd9c2", func := "loop.example/g01123/laws.FnExactSumOfParts", spec := "fnExactSumOfParts", unfollowed := true, recurses := true, apart := false }
def FnExactSumOfPartsSaid : Prop := fnExactSumOfPartsRow.holds Try.pinned (OpenSpec.ofChange fnExactSumOfPartsSpec)

/-- ITS FALSE NEIGHBOUR: 'it returns false'. Refute it at one input. -/
def fnExactSumOfPartsWrong : ChangeSpec := { name := "fnExactSumOfParts", fn := fun _ => fun
  | [d] => { results := [.lit (.bool false)], args := [d] }
  | _ => none }
def FnExactSumOfPartsWrongFalsely : Prop := fnExactSumOfPartsRow.holds Try.pinned (OpenSpec.ofChange fnExactSumOfPartsWrong)

/-- 'laws.FnExactSpreadOfParts': WHATEVER THE INPUT: true; the input reads as it did. -/
def fnExactSpreadOfPartsSpec : ChangeSpec := { name := "fnExactSpreadOfParts", fn := fun _ => fun
  | [d] => { results := [.lit (.bool true)], args := [d] }
  | _ => none }
def fnExactSpreadOfPartsRow : OpenClaim := { program := "ytfempacfaeknpaa", sum := "223d7e1744e5b53f21fa3eaa19c58d675a74a4d90ad5178ee7e9af9131cbd9c2", func := "loop.example/g01123/laws.FnExactSpreadOfParts", spec := "fnExactSpreadOfParts", unfollowed := true, recurses := true, apart := false }
def FnExactSpreadOfPartsSaid : Prop := fnExactSpreadOfPartsRow.holds Try.pinned (OpenSpec.ofChange fnExactSpreadOfPartsSpec)

/-- ITS FALSE NEIGHBOUR: 'it returns false'. Refute it at one input. -/
def fnExactSpreadOfPartsWrong : ChangeSpec := { name := "fnExactSpreadOfParts", fn := fun _ => fun
  | [d] => { results := [.lit (.bool false)], args := [d] }
  | _ => none }
def FnExactSpreadOfPartsWrongFalsely : Prop := fnExactSpreadOfPartsRow.holds Try.pinned (OpenSpec.ofChange fnExactSpreadOfPartsWrong)

/-- 'laws.FnExactGreatestTable': WHATEVER THE INPUT: true; the input reads as it did. -/
def fnExactGreatestTableSpec : ChangeSpec := { name := "fnExactGreatestTable", fn := fun _ => fun
  | [d] => { results := [.lit (.bool true)], args := [d] }
  | _ => none }
def fnExactGreatestTableRow : OpenClaim := { program := "ytfempacfaeknpaa", sum := "223d7e1744e5b53f21fa3eaa19c58d675a74a4d90ad5178ee7e9af9131cbd9c2", func := "loop.example/g01123/laws.FnExactGreatestTable", spec := "fnExactGreatestTable", unfollowed := true, recurses := true, apart := false }
def FnExactGreatestTableSaid : Prop := fnExactGreatestTableRow.holds Try.pinned (OpenSpec.ofChange fnExactGreatestTableSpec)

/-- ITS FALSE NEIGHBOUR: 'it returns false'. Refute it at one input. -/
def fnExactGreatestTableWrong : ChangeSpec := { name := "fnExactGreatestTable", fn := fun _ => fun
  | [d] => { results := [.lit (.bool false)], args := [d] }
  | _ => none }
def FnExactGreatestTableWrongFalsely : Prop := fnExactGreatestTableRow.holds Try.pinned (OpenSpec.ofChange fnExactGreatestTableWrong)

/-- 'laws.FnExactFirstRows': WHATEVER THE INPUT: true; the input reads as it did. -/
def fnExactFirstRowsSpec : ChangeSpec := { name := "fnExactFirstRows", fn := fun _ => fun
  | [d] => { results := [.lit (.bool true)], args := [d] }
  | _ => none }
def fnExactFirstRowsRow : OpenClaim := { program := "ytfempacfaeknpaa", sum := "223d7e1744e5b53f21fa3eaa19c58d675a74a4d90ad5178ee7e9af9131cbd9c2", func := "loop.example/g01123/laws.FnExactFirstRows", spec := "fnExactFirstRows", recurses := true, apart := false }
def FnExactFirstRowsSaid : Prop := fnExactFirstRowsRow.holds Try.pinned (OpenSpec.ofChange fnExactFirstRowsSpec)

/-- ITS FALSE NEIGHBOUR: 'it returns false'. Refute it at one input. -/
def fnExactFirstRowsWrong : ChangeSpec := { name := "fnExactFirstRows", fn := fun _ => fun
  | [d] => { results := [.lit (.bool false)], args := [d] }
  | _ => none }
def FnExactFirstRowsWrongFalsely : Prop := fnExactFirstRowsRow.holds Try.pinned (OpenSpec.ofChange fnExactFirstRowsWrong)

/-- 'laws.FnExactRowsBelow': WHATEVER THE INPUT: true; the input reads as it did. -/
def fnExactRowsBelowSpec : ChangeSpec := { name := "fnExactRowsBelow", fn := fun _ => fun
  | [d] => { results := [.lit (.bool true)], args := [d] }
  | _ => none }
def fnExactRowsBelowRow : OpenClaim := { program := "ytfempacfaeknpaa", sum := "223d7e1744e5b53f21fa3eaa19c58d675a74a4d90ad5178ee7e9af9131cbd9c2", func := "loop.example/g01123/laws.FnExactRowsBelow", spec := "fnExactRowsBelow", recurses := true, apart := false }
def FnExactRowsBelowSaid : Prop := fnExactRowsBelowRow.holds Try.pinned (OpenSpec.ofChange fnExactRowsBelowSpec)

/-- ITS FALSE NEIGHBOUR: 'it returns false'. Refute it at one input. -/
def fnExactRowsBelowWrong : ChangeSpec := { name := "fnExactRowsBelow", fn := fun _ => fun
  | [d] => { results := [.lit (.bool false)], args := [d] }
  | _ => none }
def FnExactRowsBelowWrongFalsely : Prop := fnExactRowsBelowRow.holds Try.pinned (OpenSpec.ofChange fnExactRowsBelowWrong)

/-- 'laws.FnExactRankDescending': WHATEVER THE INPUT: true; the input reads as it did. -/
def fnExactRankDescendingSpec : ChangeSpec := { name := "fnExactRankDescending", fn := fun _ => fun
  | [d1, d2] => { results := [.lit (.bool true)], args := [d1, d2] }
  | _ => none }
def fnExactRankDescendingRow : OpenClaim := { program := "ytfempacfaeknpaa", sum := "223d7e1744e5b53f21fa3eaa19c58d675a74a4d90ad5178ee7e9af9131cbd9c2", func := "loop.example/g01123/laws.FnExactRankDescending", spec := "fnExactRankDescending", unfollowed := true, recurses := true, apart := false }
def FnExactRankDescendingSaid : Prop := fnExactRankDescendingRow.holds Try.pinned (OpenSpec.ofChange fnExactRankDescendingSpec)

/-- ITS FALSE NEIGHBOUR: 'it returns false'. Refute it at one input. -/
def fnExactRankDescendingWrong : ChangeSpec := { name := "fnExactRankDescending", fn := fun _ => fun
  | [d1, d2] => { results := [.lit (.bool false)], args := [d1, d2] }
  | _ => none }
def FnExactRankDescendingWrongFalsely : Prop := fnExactRankDescendingRow.holds Try.pinned (OpenSpec.ofChange fnExactRankDescendingWrong)

/-- 'laws.FnExactDescendingWith': WHATEVER THE INPUT: true; the input reads as it did. -/
def fnExactDescendingWithSpec : ChangeSpec := { name := "fnExactDescendingWith", fn := fun _ => fun
  | [d1, d2] => { results := [.lit (.bool true)], args := [d1, d2] }
  | _ => none }
def fnExactDescendingWithRow : OpenClaim := { program := "ytfempacfaeknpaa", sum := "223d7e1744e5b53f21fa3eaa19c58d675a74a4d90ad5178ee7e9af9131cbd9c2", func := "loop.example/g01123/laws.FnExactDescendingWith", spec := "fnExactDescendingWith", recurses := true, apart := false }
def FnExactDescendingWithSaid : Prop := fnExactDescendingWithRow.holds Try.pinned (OpenSpec.ofChange fnExactDescendingWithSpec)

/-- ITS FALSE NEIGHBOUR: 'it returns false'. Refute it at one input. -/
def fnExactDescendingWithWrong : ChangeSpec := { name := "fnExactDescendingWith", fn := fun _ => fun
  | [d1, d2] => { results := [.lit (.bool false)], args := [d1, d2] }
  | _ => none }
def FnExactDescendingWithWrongFalsely : Prop := fnExactDescendingWithRow.holds Try.pinned (OpenSpec.ofChange fnExactDescendingWithWrong)

/-- 'laws.FnExactDescendingText': WHATEVER THE INPUT: true; the input reads as it did. -/
def fnExactDescendingTextSpec : ChangeSpec := { name := "fnExactDescendingText", fn := fun _ => fun
  | [d] => { results := [.lit (.bool true)], args := [d] }
  | _ => none }
def fnExactDescendingTextRow : OpenClaim := { program := "ytfempacfaeknpaa", sum := "223d7e1744e5b53f21fa3eaa19c58d675a74a4d90ad5178ee7e9af9131cbd9c2", func := "loop.example/g01123/laws.FnExactDescendingText", spec := "fnExactDescendingText", unfollowed := true, recurses := true, apart := false }
def FnExactDescendingTextSaid : Prop := fnExactDescendingTextRow.holds Try.pinned (OpenSpec.ofChange fnExactDescendingTextSpec)

/-- ITS FALSE NEIGHBOUR: 'it returns false'. Refute it at one input. -/
def fnExactDescendingTextWrong : ChangeSpec := { name := "fnExactDescendingText", fn := fun _ => fun
  | [d] => { results := [.lit (.bool false)], args := [d] }
  | _ => none }
def FnExactDescendingTextWrongFalsely : Prop := fnExactDescendingTextRow.holds Try.pinned (OpenSpec.ofChange fnExactDescendingTextWrong)

/- THE SECOND FORM. 'bulk': how many values and letters a reading holds, each counted each time it is reached (what is shared counts as often as it is met; a slice's spare places count too). A statement '..UptoSaid' is the law's where the arguments, and the package variables that the reading takes, are together of bulk at most 1048576: NARROWER than '..Said'. Prove '..Said' where nothing that the law and all that it calls make is longer than what came in: it says more and counts as full. Else prove '..UptoSaid'. A law counts once. -/
mutual
def uptoBulk {H : Type} : DataW H → Nat
  | .lit (.string bytes) => bytes.length + 1
  | .lit _ => 1
  | .nil => 1
  | .ptr d => uptoBulk d + 1
  | .slice elems spare => uptoBulkAll elems + uptoBulkAll spare + 1
  | .agg parts => uptoBulkAll parts + 1
  | .iface _ d => uptoBulk d + 1
  | .map entries => uptoBulkEntries entries + 1
  | .held _ => 1
def uptoBulkAll {H : Type} : List (DataW H) → Nat
  | [] => 0
  | d :: r => uptoBulk d + uptoBulkAll r
def uptoBulkEntries {H : Type} : List (Lit × DataW H) → Nat
  | [] => 0
  | x :: r => uptoBulkEntry x + uptoBulkEntries r
def uptoBulkEntry {H : Type} : Lit × DataW H → Nat
  | (.string bytes, d) => bytes.length + uptoBulk d + 1
  | (_, d) => uptoBulk d + 1
 end
def uptoSmall : (H : Type) → List (DataW H) → Bool := fun _ ds => decide (uptoBulkAll ds ≤ 1048576)
def OpenSpec.upto (s : _root_.Go.ChangeSpec) : _root_.Go.OpenSpec := { _root_.Go.OpenSpec.ofChange s with cond := some uptoSmall }

/-- 'laws.FnExactIsDescending', WHERE WHAT IT READS IS OF BULK AT MOST 1048576: true; the input reads as it did. -/
def fnExactIsDescendingUptoRow : OpenClaim := { program := "ytfempacfaeknpaa", sum := "223d7e1744e5b53f21fa3eaa19c58d675a74a4d90ad5178ee7e9af9131cbd9c2", func := "loop.example/g01123/laws.FnExactIsDescending", spec := "fnExactIsDescending", apart := false, narrowed := true }
def FnExactIsDescendingUptoSaid : Prop := fnExactIsDescendingUptoRow.holds Try.pinned (OpenSpec.upto fnExactIsDescendingSpec)

/-- 'laws.FnExactAllDescending', WHERE WHAT IT READS IS OF BULK AT MOST 1048576: true; the input reads as it did. -/
def fnExactAllDescendingUptoRow : OpenClaim := { program := "ytfempacfaeknpaa", sum := "223d7e1744e5b53f21fa3eaa19c58d675a74a4d90ad5178ee7e9af9131cbd9c2", func := "loop.example/g01123/laws.FnExactAllDescending", spec := "fnExactAllDescending", recurses := true, apart := false, narrowed := true }
def FnExactAllDescendingUptoSaid : Prop := fnExactAllDescendingUptoRow.holds Try.pinned (OpenSpec.upto fnExactAllDescendingSpec)

/-- 'laws.FnExactCountDescending', WHERE WHAT IT READS IS OF BULK AT MOST 1048576: true; the input reads as it did. -/
def fnExactCountDescendingUptoRow : OpenClaim := { program := "ytfempacfaeknpaa", sum := "223d7e1744e5b53f21fa3eaa19c58d675a74a4d90ad5178ee7e9af9131cbd9c2", func := "loop.example/g01123/laws.FnExactCountDescending", spec := "fnExactCountDescending", unfollowed := true, recurses := true, apart := false, narrowed := true }
def FnExactCountDescendingUptoSaid : Prop := fnExactCountDescendingUptoRow.holds Try.pinned (OpenSpec.upto fnExactCountDescendingSpec)

/-- 'laws.FnExactCountByDeterminant', WHERE WHAT IT READS IS OF BULK AT MOST 1048576: true; the input reads as it did. -/
def fnExactCountByDeterminantUptoRow : OpenClaim := { program := "ytfempacfaeknpaa", sum := "223d7e1744e5b53f21fa3eaa19c58d675a74a4d90ad5178ee7e9af9131cbd9c2", func := "loop.example/g01123/laws.FnExactCountByDeterminant", spec := "fnExactCountByDeterminant", recurses := true, apart := false, narrowed := true }
def FnExactCountByDeterminantUptoSaid : Prop := fnExactCountByDeterminantUptoRow.holds Try.pinned (OpenSpec.upto fnExactCountByDeterminantSpec)

/-- 'laws.FnExactPartsOf', WHERE WHAT IT READS IS OF BULK AT MOST 1048576: true; the input reads as it did. -/
def fnExactPartsOfUptoRow : OpenClaim := { program := "ytfempacfaeknpaa", sum := "223d7e1744e5b53f21fa3eaa19c58d675a74a4d90ad5178ee7e9af9131cbd9c2", func := "loop.example/g01123/laws.FnExactPartsOf", spec := "fnExactPartsOf", unfollowed := true, recurses := true, apart := false, narrowed := true }
def FnExactPartsOfUptoSaid : Prop := fnExactPartsOfUptoRow.holds Try.pinned (OpenSpec.upto fnExactPartsOfSpec)

/-- 'laws.FnExactSpecialParts', WHERE WHAT IT READS IS OF BULK AT MOST 1048576: true; the input reads as it did. -/
def fnExactSpecialPartsUptoRow : OpenClaim := { program := "ytfempacfaeknpaa", sum := "223d7e1744e5b53f21fa3eaa19c58d675a74a4d90ad5178ee7e9af9131cbd9c2", func := "loop.example/g01123/laws.FnExactSpecialParts", spec := "fnExactSpecialParts", unfollowed := true, recurses := true, apart := false, narrowed := true }
def FnExactSpecialPartsUptoSaid : Prop := fnExactSpecialPartsUptoRow.holds Try.pinned (OpenSpec.upto fnExactSpecialPartsSpec)

/-- 'laws.FnExactPartsEqual', WHERE WHAT IT READS IS OF BULK AT MOST 1048576: true; the input reads as it did. -/
def fnExactPartsEqualUptoRow : OpenClaim := { program := "ytfempacfaeknpaa", sum := "223d7e1744e5b53f21fa3eaa19c58d675a74a4d90ad5178ee7e9af9131cbd9c2", func := "loop.example/g01123/laws.FnExactPartsEqual", spec := "fnExactPartsEqual", unfollowed := true, recurses := true, apart := false, narrowed := true }
def FnExactPartsEqualUptoSaid : Prop := fnExactPartsEqualUptoRow.holds Try.pinned (OpenSpec.upto fnExactPartsEqualSpec)

/-- 'laws.FnExactSumOfParts', WHERE WHAT IT READS IS OF BULK AT MOST 1048576: true; the input reads as it did. -/
def fnExactSumOfPartsUptoRow : OpenClaim := { program := "ytfempacfaeknpaa", sum := "223d7e1744e5b53f21fa3eaa19c58d675a74a4d90ad5178ee7e9af9131cbd9c2", func := "loop.example/g01123/laws.FnExactSumOfParts", spec := "fnExactSumOfParts", unfollowed := true, recurses := true, apart := false, narrowed := true }
def FnExactSumOfPartsUptoSaid : Prop := fnExactSumOfPartsUptoRow.holds Try.pinned (OpenSpec.upto fnExactSumOfPartsSpec)

/-- 'laws.FnExactSpreadOfParts', WHERE WHAT IT READS IS OF BULK AT MOST 1048576: true; the input reads as it did. -/
def fnExactSpreadOfPartsUptoRow : OpenClaim := { program := "ytfempacfaeknpaa", sum := "223d7e1744e5b53f21fa3eaa19c58d675a74a4d90ad5178ee7e9af9131cbd9c2", func := "loop.example/g01123/laws.FnExactSpreadOfParts", spec := "fnExactSpreadOfParts", unfollowed := true, recurses := true, apart := false, narrowed := true }
def FnExactSpreadOfPartsUptoSaid : Prop := fnExactSpreadOfPartsUptoRow.holds Try.pinned (OpenSpec.upto fnExactSpreadOfPartsSpec)

/-- 'laws.FnExactGreatestTable', WHERE WHAT IT READS IS OF BULK AT MOST 1048576: true; the input reads as it did. -/
def fnExactGreatestTableUptoRow : OpenClaim := { program := "ytfempacfaeknpaa", sum := "223d7e1744e5b53f21fa3eaa19c58d675a74a4d90ad5178ee7e9af9131cbd9c2", func := "loop.example/g01123/laws.FnExactGreatestTable", spec := "fnExactGreatestTable", unfollowed := true, recurses := true, apart := false, narrowed := true }
def FnExactGreatestTableUptoSaid : Prop := fnExactGreatestTableUptoRow.holds Try.pinned (OpenSpec.upto fnExactGreatestTableSpec)

/-- 'laws.FnExactFirstRows', WHERE WHAT IT READS IS OF BULK AT MOST 1048576: true; the input reads as it did. -/
def fnExactFirstRowsUptoRow : OpenClaim := { program := "ytfempacfaeknpaa", sum := "223d7e1744e5b53f21fa3eaa19c58d675a74a4d90ad5178ee7e9af9131cbd9c2", func := "loop.example/g01123/laws.FnExactFirstRows", spec := "fnExactFirstRows", recurses := true, apart := false, narrowed := true }
def FnExactFirstRowsUptoSaid : Prop := fnExactFirstRowsUptoRow.holds Try.pinned (OpenSpec.upto fnExactFirstRowsSpec)

/-- 'laws.FnExactRowsBelow', WHERE WHAT IT READS IS OF BULK AT MOST 1048576: true; the input reads as it did. -/
def fnExactRowsBelowUptoRow : OpenClaim := { program := "ytfempacfaeknpaa", sum := "223d7e1744e5b53f21fa3eaa19c58d675a74a4d90ad5178ee7e9af9131cbd9c2", func := "loop.example/g01123/laws.FnExactRowsBelow", spec := "fnExactRowsBelow", recurses := true, apart := false, narrowed := true }
def FnExactRowsBelowUptoSaid : Prop := fnExactRowsBelowUptoRow.holds Try.pinned (OpenSpec.upto fnExactRowsBelowSpec)

/-- 'laws.FnExactRankDescending', WHERE WHAT IT READS IS OF BULK AT MOST 1048576: true; the input reads as it did. -/
def fnExactRankDescendingUptoRow : OpenClaim := { program := "ytfempacfaeknpaa", sum := "223d7e1744e5b53f21fa3eaa19c58d675a74a4d90ad5178ee7e9af9131cbd9c2", func := "loop.example/g01123/laws.FnExactRankDescending", spec := "fnExactRankDescending", unfollowed := true, recurses := true, apart := false, narrowed := true }
def FnExactRankDescendingUptoSaid : Prop := fnExactRankDescendingUptoRow.holds Try.pinned (OpenSpec.upto fnExactRankDescendingSpec)

/-- 'laws.FnExactDescendingWith', WHERE WHAT IT READS IS OF BULK AT MOST 1048576: true; the input reads as it did. -/
def fnExactDescendingWithUptoRow : OpenClaim := { program := "ytfempacfaeknpaa", sum := "223d7e1744e5b53f21fa3eaa19c58d675a74a4d90ad5178ee7e9af9131cbd9c2", func := "loop.example/g01123/laws.FnExactDescendingWith", spec := "fnExactDescendingWith", recurses := true, apart := false, narrowed := true }
def FnExactDescendingWithUptoSaid : Prop := fnExactDescendingWithUptoRow.holds Try.pinned (OpenSpec.upto fnExactDescendingWithSpec)

/-- 'laws.FnExactDescendingText', WHERE WHAT IT READS IS OF BULK AT MOST 1048576: true; the input reads as it did. -/
def fnExactDescendingTextUptoRow : OpenClaim := { program := "ytfempacfaeknpaa", sum := "223d7e1744e5b53f21fa3eaa19c58d675a74a4d90ad5178ee7e9af9131cbd9c2", func := "loop.example/g01123/laws.FnExactDescendingText", spec := "fnExactDescendingText", unfollowed := true, recurses := true, apart := false, narrowed := true }
def FnExactDescendingTextUptoSaid : Prop := fnExactDescendingTextUptoRow.holds Try.pinned (OpenSpec.upto fnExactDescendingTextSpec)

end Rows
end Go.Proofs.Ytfempacfaeknpaa
