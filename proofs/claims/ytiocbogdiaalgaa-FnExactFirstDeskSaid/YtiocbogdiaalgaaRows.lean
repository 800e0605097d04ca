/-
  No cell of these rows narrows 'for every input' (looked for: loops, veiled, ifaces, maps, wideKeys, modest, calm, conditions, laid).
  DERIVED. THE GIVEN ROWS OF THIS SEAT. 16 by the template 'for every input the law returns true; each argument reads behind the call as it read before'; 0 by the template 'total and deterministic' (their statements: YtiocbogdiaalgaaTotals.lean).
  GIVEN WITH THE SEED: the statements are not yours to turn. If you find one false, say at which input.
  Laid BY PROGRAM, IN A SANDBOX (cutbox-rows.mjs): the forced cells as the released guide's own fill.sh prints them over the translation a0ced0b4d30d66b2… (all of the seat's roots in one cut). By AI agents, Wed Nov 11 2026. No macro, syntax, notation, axiom, sorry.
-/
import Derived.Test.YtiocbogdiaalgaaChecked
import GoSem.Claim
import GoSem.ClaimJoined
import GoSem.ClaimMapViews
import Derived.JoinedTies
import Derived.KernelRfl
namespace Go.Proofs.Ytiocbogdiaalgaa
/- THE CELL 'sum', in the pinned program and in every row, IS THE sha256 OF THE DUMP (.gsa) THAT YtiocbogdiaalgaaProg.lean LOADS. Nothing in Lean hashes anything: it is a label: what it is worth is what the hold of that sum in a sandbox is worth. -/
noncomputable def Try.pinned : Pinned := { name := "ytiocbogdiaalgaa", sum := "a0ced0b4d30d66b261465394668bc847574c60aa0feecc5186ed9652c8dc8bb7", checked := Try.checked }
namespace Rows
def none {H : Type} : Left H := { results := [], args := [] }

/-- 'laws.FnExactIsSignMatrix': WHATEVER THE INPUT: true; the input reads as it did. -/
def fnExactIsSignMatrixSpec : ChangeSpec := { name := "fnExactIsSignMatrix", fn := fun _ => fun
  | [d] => { results := [.lit (.bool true)], args := [d] }
  | _ => none }
def fnExactIsSignMatrixRow : OpenClaim := { program := "ytiocbogdiaalgaa", sum := "a0ced0b4d30d66b261465394668bc847574c60aa0feecc5186ed9652c8dc8bb7", func := "loop.example/g01123/laws.FnExactIsSignMatrix", spec := "fnExactIsSignMatrix", unfollowed := true, recurses := true, apart := false }
def FnExactIsSignMatrixSaid : Prop := fnExactIsSignMatrixRow.holds Try.pinned (OpenSpec.ofChange fnExactIsSignMatrixSpec)

/-- ITS FALSE NEIGHBOUR: 'it returns false'. Refute it at one input. -/
def fnExactIsSignMatrixWrong : ChangeSpec := { name := "fnExactIsSignMatrix", fn := fun _ => fun
  | [d] => { results := [.lit (.bool false)], args := [d] }
  | _ => none }
def FnExactIsSignMatrixWrongFalsely : Prop := fnExactIsSignMatrixRow.holds Try.pinned (OpenSpec.ofChange fnExactIsSignMatrixWrong)

/-- 'laws.FnExactIsPlacing': WHATEVER THE INPUT: true; the input reads as it did. -/
def fnExactIsPlacingSpec : ChangeSpec := { name := "fnExactIsPlacing", fn := fun _ => fun
  | [d] => { results := [.lit (.bool true)], args := [d] }
  | _ => none }
def fnExactIsPlacingRow : OpenClaim := { program := "ytiocbogdiaalgaa", sum := "a0ced0b4d30d66b261465394668bc847574c60aa0feecc5186ed9652c8dc8bb7", func := "loop.example/g01123/laws.FnExactIsPlacing", spec := "fnExactIsPlacing", unfollowed := true, recurses := true, apart := false }
def FnExactIsPlacingSaid : Prop := fnExactIsPlacingRow.holds Try.pinned (OpenSpec.ofChange fnExactIsPlacingSpec)

/-- ITS FALSE NEIGHBOUR: 'it returns false'. Refute it at one input. -/
def fnExactIsPlacingWrong : ChangeSpec := { name := "fnExactIsPlacing", fn := fun _ => fun
  | [d] => { results := [.lit (.bool false)], args := [d] }
  | _ => none }
def FnExactIsPlacingWrongFalsely : Prop := fnExactIsPlacingRow.holds Try.pinned (OpenSpec.ofChange fnExactIsPlacingWrong)

/-- 'laws.FnExactFromPlacing': WHATEVER THE INPUT: true; the input reads as it did. -/
def fnExactFromPlacingSpec : ChangeSpec := { name := "fnExactFromPlacing", fn := fun _ => fun
  | [d] => { results := [.lit (.bool true)], args := [d] }
  | _ => none }
def fnExactFromPlacingRow : OpenClaim := { program := "ytiocbogdiaalgaa", sum := "a0ced0b4d30d66b261465394668bc847574c60aa0feecc5186ed9652c8dc8bb7", func := "loop.example/g01123/laws.FnExactFromPlacing", spec := "fnExactFromPlacing", unfollowed := true, recurses := true, apart := false }
def FnExactFromPlacingSaid : Prop := fnExactFromPlacingRow.holds Try.pinned (OpenSpec.ofChange fnExactFromPlacingSpec)

/-- ITS FALSE NEIGHBOUR: 'it returns false'. Refute it at one input. -/
def fnExactFromPlacingWrong : ChangeSpec := { name := "fnExactFromPlacing", fn := fun _ => fun
  | [d] => { results := [.lit (.bool false)], args := [d] }
  | _ => none }
def FnExactFromPlacingWrongFalsely : Prop := fnExactFromPlacingRow.holds Try.pinned (OpenSpec.ofChange fnExactFromPlacingWrong)

/-- 'laws.FnExactCornerSums': WHATEVER THE INPUT: true; the input reads as it did. -/
def fnExactCornerSumsSpec : ChangeSpec := { name := "fnExactCornerSums", fn := fun _ => fun
  | [d] => { results := [.lit (.bool true)], args := [d] }
  | _ => none }
def fnExactCornerSumsRow : OpenClaim := { program := "ytiocbogdiaalgaa", sum := "a0ced0b4d30d66b261465394668bc847574c60aa0feecc5186ed9652c8dc8bb7", func := "loop.example/g01123/laws.FnExactCornerSums", spec := "fnExactCornerSums", unfollowed := true, recurses := true, apart := false }
def FnExactCornerSumsSaid : Prop := fnExactCornerSumsRow.holds Try.pinned (OpenSpec.ofChange fnExactCornerSumsSpec)

/-- ITS FALSE NEIGHBOUR: 'it returns false'. Refute it at one input. -/
def fnExactCornerSumsWrong : ChangeSpec := { name := "fnExactCornerSums", fn := fun _ => fun
  | [d] => { results := [.lit (.bool false)], args := [d] }
  | _ => none }
def FnExactCornerSumsWrongFalsely : Prop := fnExactCornerSumsRow.holds Try.pinned (OpenSpec.ofChange fnExactCornerSumsWrong)

/-- 'laws.FnExactAreCorners': WHATEVER THE INPUT: true; the input reads as it did. -/
def fnExactAreCornersSpec : ChangeSpec := { name := "fnExactAreCorners", fn := fun _ => fun
  | [d] => { results := [.lit (.bool true)], args := [d] }
  | _ => none }
def fnExactAreCornersRow : OpenClaim := { program := "ytiocbogdiaalgaa", sum := "a0ced0b4d30d66b261465394668bc847574c60aa0feecc5186ed9652c8dc8bb7", func := "loop.example/g01123/laws.FnExactAreCorners", spec := "fnExactAreCorners", unfollowed := true, recurses := true, apart := false }
def FnExactAreCornersSaid : Prop := fnExactAreCornersRow.holds Try.pinned (OpenSpec.ofChange fnExactAreCornersSpec)

/-- ITS FALSE NEIGHBOUR: 'it returns false'. Refute it at one input. -/
def fnExactAreCornersWrong : ChangeSpec := { name := "fnExactAreCorners", fn := fun _ => fun
  | [d] => { results := [.lit (.bool false)], args := [d] }
  | _ => none }
def FnExactAreCornersWrongFalsely : Prop := fnExactAreCornersRow.holds Try.pinned (OpenSpec.ofChange fnExactAreCornersWrong)

/-- 'laws.FnExactFromCorners': WHATEVER THE INPUT: true; the input reads as it did. -/
def fnExactFromCornersSpec : ChangeSpec := { name := "fnExactFromCorners", fn := fun _ => fun
  | [d] => { results := [.lit (.bool true)], args := [d] }
  | _ => none }
def fnExactFromCornersRow : OpenClaim := { program := "ytiocbogdiaalgaa", sum := "a0ced0b4d30d66b261465394668bc847574c60aa0feecc5186ed9652c8dc8bb7", func := "loop.example/g01123/laws.FnExactFromCorners", spec := "fnExactFromCorners", unfollowed := true, recurses := true, apart := false }
def FnExactFromCornersSaid : Prop := fnExactFromCornersRow.holds Try.pinned (OpenSpec.ofChange fnExactFromCornersSpec)

/-- ITS FALSE NEIGHBOUR: 'it returns false'. Refute it at one input. -/
def fnExactFromCornersWrong : ChangeSpec := { name := "fnExactFromCorners", fn := fun _ => fun
  | [d] => { results := [.lit (.bool false)], args := [d] }
  | _ => none }
def FnExactFromCornersWrongFalsely : Prop := fnExactFromCornersRow.holds Try.pinned (OpenSpec.ofChange fnExactFromCornersWrong)

/-- 'laws.FnExactMinusOnes': WHATEVER THE INPUT: true; the input reads as it did. -/
def fnExactMinusOnesSpec : ChangeSpec := { name := "fnExactMinusOnes", fn := fun _ => fun
  | [d] => { results := [.lit (.bool true)], args := [d] }
  | _ => none }
def fnExactMinusOnesRow : OpenClaim := { program := "ytiocbogdiaalgaa", sum := "a0ced0b4d30d66b261465394668bc847574c60aa0feecc5186ed9652c8dc8bb7", func := "loop.example/g01123/laws.FnExactMinusOnes", spec := "fnExactMinusOnes", unfollowed := true, recurses := true, apart := false }
def FnExactMinusOnesSaid : Prop := fnExactMinusOnesRow.holds Try.pinned (OpenSpec.ofChange fnExactMinusOnesSpec)

/-- ITS FALSE NEIGHBOUR: 'it returns false'. Refute it at one input. -/
def fnExactMinusOnesWrong : ChangeSpec := { name := "fnExactMinusOnes", fn := fun _ => fun
  | [d] => { results := [.lit (.bool false)], args := [d] }
  | _ => none }
def FnExactMinusOnesWrongFalsely : Prop := fnExactMinusOnesRow.holds Try.pinned (OpenSpec.ofChange fnExactMinusOnesWrong)

/-- 'laws.FnExactInversionsOf': WHATEVER THE INPUT: true; the input reads as it did. -/
def fnExactInversionsOfSpec : ChangeSpec := { name := "fnExactInversionsOf", fn := fun _ => fun
  | [d] => { results := [.lit (.bool true)], args := [d] }
  | _ => none }
def fnExactInversionsOfRow : OpenClaim := { program := "ytiocbogdiaalgaa", sum := "a0ced0b4d30d66b261465394668bc847574c60aa0feecc5186ed9652c8dc8bb7", func := "loop.example/g01123/laws.FnExactInversionsOf", spec := "fnExactInversionsOf", unfollowed := true, recurses := true, apart := false }
def FnExactInversionsOfSaid : Prop := fnExactInversionsOfRow.holds Try.pinned (OpenSpec.ofChange fnExactInversionsOfSpec)

/-- ITS FALSE NEIGHBOUR: 'it returns false'. Refute it at one input. -/
def fnExactInversionsOfWrong : ChangeSpec := { name := "fnExactInversionsOf", fn := fun _ => fun
  | [d] => { results := [.lit (.bool false)], args := [d] }
  | _ => none }
def FnExactInversionsOfWrongFalsely : Prop := fnExactInversionsOfRow.holds Try.pinned (OpenSpec.ofChange fnExactInversionsOfWrong)

/-- 'laws.FnExactFirstColumn': WHATEVER THE INPUT: true; the input reads as it did. -/
def fnExactFirstColumnSpec : ChangeSpec := { name := "fnExactFirstColumn", fn := fun _ => fun
  | [d] => { results := [.lit (.bool true)], args := [d] }
  | _ => none }
def fnExactFirstColumnRow : OpenClaim := { program := "ytiocbogdiaalgaa", sum := "a0ced0b4d30d66b261465394668bc847574c60aa0feecc5186ed9652c8dc8bb7", func := "loop.example/g01123/laws.FnExactFirstColumn", spec := "fnExactFirstColumn", unfollowed := true, recurses := true, apart := false }
def FnExactFirstColumnSaid : Prop := fnExactFirstColumnRow.holds Try.pinned (OpenSpec.ofChange fnExactFirstColumnSpec)

/-- ITS FALSE NEIGHBOUR: 'it returns false'. Refute it at one input. -/
def fnExactFirstColumnWrong : ChangeSpec := { name := "fnExactFirstColumn", fn := fun _ => fun
  | [d] => { results := [.lit (.bool false)], args := [d] }
  | _ => none }
def FnExactFirstColumnWrongFalsely : Prop := fnExactFirstColumnRow.holds Try.pinned (OpenSpec.ofChange fnExactFirstColumnWrong)

/-- 'laws.FnExactTurnMatrix': WHATEVER THE INPUT: true; the input reads as it did. -/
def fnExactTurnMatrixSpec : ChangeSpec := { name := "fnExactTurnMatrix", fn := fun _ => fun
  | [d] => { results := [.lit (.bool true)], args := [d] }
  | _ => none }
def fnExactTurnMatrixRow : OpenClaim := { program := "ytiocbogdiaalgaa", sum := "a0ced0b4d30d66b261465394668bc847574c60aa0feecc5186ed9652c8dc8bb7", func := "loop.example/g01123/laws.FnExactTurnMatrix", spec := "fnExactTurnMatrix", unfollowed := true, recurses := true, apart := false }
def FnExactTurnMatrixSaid : Prop := fnExactTurnMatrixRow.holds Try.pinned (OpenSpec.ofChange fnExactTurnMatrixSpec)

/-- ITS FALSE NEIGHBOUR: 'it returns false'. Refute it at one input. -/
def fnExactTurnMatrixWrong : ChangeSpec := { name := "fnExactTurnMatrix", fn := fun _ => fun
  | [d] => { results := [.lit (.bool false)], args := [d] }
  | _ => none }
def FnExactTurnMatrixWrongFalsely : Prop := fnExactTurnMatrixRow.holds Try.pinned (OpenSpec.ofChange fnExactTurnMatrixWrong)

/-- 'laws.FnExactMirrorMatrix': WHATEVER THE INPUT: true; the input reads as it did. -/
def fnExactMirrorMatrixSpec : ChangeSpec := { name := "fnExactMirrorMatrix", fn := fun _ => fun
  | [d] => { results := [.lit (.bool true)], args := [d] }
  | _ => none }
def fnExactMirrorMatrixRow : OpenClaim := { program := "ytiocbogdiaalgaa", sum := "a0ced0b4d30d66b261465394668bc847574c60aa0feecc5186ed9652c8dc8bb7", func := "loop.example/g01123/laws.FnExactMirrorMatrix", spec := "fnExactMirrorMatrix", unfollowed := true, recurses := true, apart := false }
def FnExactMirrorMatrixSaid : Prop := fnExactMirrorMatrixRow.holds Try.pinned (OpenSpec.ofChange fnExactMirrorMatrixSpec)

/-- ITS FALSE NEIGHBOUR: 'it returns false'. Refute it at one input. -/
def fnExactMirrorMatrixWrong : ChangeSpec := { name := "fnExactMirrorMatrix", fn := fun _ => fun
  | [d] => { results := [.lit (.bool false)], args := [d] }
  | _ => none }
def FnExactMirrorMatrixWrongFalsely : Prop := fnExactMirrorMatrixRow.holds Try.pinned (OpenSpec.ofChange fnExactMirrorMatrixWrong)

/-- 'laws.FnExactTransposeMatrix': WHATEVER THE INPUT: true; the input reads as it did. -/
def fnExactTransposeMatrixSpec : ChangeSpec := { name := "fnExactTransposeMatrix", fn := fun _ => fun
  | [d] => { results := [.lit (.bool true)], args := [d] }
  | _ => none }
def fnExactTransposeMatrixRow : OpenClaim := { program := "ytiocbogdiaalgaa", sum := "a0ced0b4d30d66b261465394668bc847574c60aa0feecc5186ed9652c8dc8bb7", func := "loop.example/g01123/laws.FnExactTransposeMatrix", spec := "fnExactTransposeMatrix", unfollowed := true, recurses := true, apart := false }
def FnExactTransposeMatrixSaid : Prop := fnExactTransposeMatrixRow.holds Try.pinned (OpenSpec.ofChange fnExactTransposeMatrixSpec)

/-- ITS FALSE NEIGHBOUR: 'it returns false'. Refute it at one input. -/
def fnExactTransposeMatrixWrong : ChangeSpec := { name := "fnExactTransposeMatrix", fn := fun _ => fun
  | [d] => { results := [.lit (.bool false)], args := [d] }
  | _ => none }
def FnExactTransposeMatrixWrongFalsely : Prop := fnExactTransposeMatrixRow.holds Try.pinned (OpenSpec.ofChange fnExactTransposeMatrixWrong)

/-- 'laws.FnExactStackMatrices': WHATEVER THE INPUT: true; the input reads as it did. -/
def fnExactStackMatricesSpec : ChangeSpec := { name := "fnExactStackMatrices", fn := fun _ => fun
  | [d1, d2] => { results := [.lit (.bool true)], args := [d1, d2] }
  | _ => none }
def fnExactStackMatricesRow : OpenClaim := { program := "ytiocbogdiaalgaa", sum := "a0ced0b4d30d66b261465394668bc847574c60aa0feecc5186ed9652c8dc8bb7", func := "loop.example/g01123/laws.FnExactStackMatrices", spec := "fnExactStackMatrices", unfollowed := true, recurses := true, apart := false }
def FnExactStackMatricesSaid : Prop := fnExactStackMatricesRow.holds Try.pinned (OpenSpec.ofChange fnExactStackMatricesSpec)

/-- ITS FALSE NEIGHBOUR: 'it returns false'. Refute it at one input. -/
def fnExactStackMatricesWrong : ChangeSpec := { name := "fnExactStackMatrices", fn := fun _ => fun
  | [d1, d2] => { results := [.lit (.bool false)], args := [d1, d2] }
  | _ => none }
def FnExactStackMatricesWrongFalsely : Prop := fnExactStackMatricesRow.holds Try.pinned (OpenSpec.ofChange fnExactStackMatricesWrong)

/-- 'laws.FnExactLeastOfTurns': WHATEVER THE INPUT: true; the input reads as it did. -/
def fnExactLeastOfTurnsSpec : ChangeSpec := { name := "fnExactLeastOfTurns", fn := fun _ => fun
  | [d] => { results := [.lit (.bool true)], args := [d] }
  | _ => none }
def fnExactLeastOfTurnsRow : OpenClaim := { program := "ytiocbogdiaalgaa", sum := "a0ced0b4d30d66b261465394668bc847574c60aa0feecc5186ed9652c8dc8bb7", func := "loop.example/g01123/laws.FnExactLeastOfTurns", spec := "fnExactLeastOfTurns", unfollowed := true, recurses := true, apart := false }
def FnExactLeastOfTurnsSaid : Prop := fnExactLeastOfTurnsRow.holds Try.pinned (OpenSpec.ofChange fnExactLeastOfTurnsSpec)

/-- ITS FALSE NEIGHBOUR: 'it returns false'. Refute it at one input. -/
def fnExactLeastOfTurnsWrong : ChangeSpec := { name := "fnExactLeastOfTurns", fn := fun _ => fun
  | [d] => { results := [.lit (.bool false)], args := [d] }
  | _ => none }
def FnExactLeastOfTurnsWrongFalsely : Prop := fnExactLeastOfTurnsRow.holds Try.pinned (OpenSpec.ofChange fnExactLeastOfTurnsWrong)

/-- 'laws.FnExactSignText': WHATEVER THE INPUT: true; the input reads as it did. -/
def fnExactSignTextSpec : ChangeSpec := { name := "fnExactSignText", fn := fun _ => fun
  | [d] => { results := [.lit (.bool true)], args := [d] }
  | _ => none }
def fnExactSignTextRow : OpenClaim := { program := "ytiocbogdiaalgaa", sum := "a0ced0b4d30d66b261465394668bc847574c60aa0feecc5186ed9652c8dc8bb7", func := "loop.example/g01123/laws.FnExactSignText", spec := "fnExactSignText", inPlace := ["internal/abi.NoEscape"], unfollowed := true, recurses := true, apart := false }
def FnExactSignTextSaid : Prop := fnExactSignTextRow.holds Try.pinned (OpenSpec.ofChange fnExactSignTextSpec)

/-- ITS FALSE NEIGHBOUR: 'it returns false'. Refute it at one input. -/
def fnExactSignTextWrong : ChangeSpec := { name := "fnExactSignText", fn := fun _ => fun
  | [d] => { results := [.lit (.bool false)], args := [d] }
  | _ => none }
def FnExactSignTextWrongFalsely : Prop := fnExactSignTextRow.holds Try.pinned (OpenSpec.ofChange fnExactSignTextWrong)

/-- 'laws.FnExactFirstDesk': WHATEVER THE INPUT: true; the input reads as it did. -/
def fnExactFirstDeskSpec : ChangeSpec := { name := "fnExactFirstDesk", fn := fun _ => fun
  | [] => { results := [.lit (.bool true)], args := [] }
  | _ => none }
def fnExactFirstDeskRow : OpenClaim := { program := "ytiocbogdiaalgaa", sum := "a0ced0b4d30d66b261465394668bc847574c60aa0feecc5186ed9652c8dc8bb7", func := "loop.example/g01123/laws.FnExactFirstDesk", spec := "fnExactFirstDesk", apart := false }
def FnExactFirstDeskSaid : Prop := fnExactFirstDeskRow.holds Try.pinned (OpenSpec.ofChange fnExactFirstDeskSpec)

/-- ITS FALSE NEIGHBOUR: 'it returns false'. Refute it at one input. -/
def fnExactFirstDeskWrong : ChangeSpec := { name := "fnExactFirstDesk", fn := fun _ => fun
  | [] => { results := [.lit (.bool false)], args := [] }
  | _ => none }
def FnExactFirstDeskWrongFalsely : Prop := fnExactFirstDeskRow.holds Try.pinned (OpenSpec.ofChange fnExactFirstDeskWrong)

/- THE SECOND FORM. 'bulk': how many values and letters a reading holds, each counted each time it is reached (what is shared counts as often as it is met; a slice's spare places count too). A statement '..UptoSaid' is the law's where the arguments, and the package variables that the reading takes, are together of bulk at most 1048576: NARROWER than '..Said'. Prove '..Said' where nothing that the law and all that it calls make is longer than what came in: it says more and counts as full. Else prove '..UptoSaid'. A law counts once. -/
mutual
def uptoBulk {H : Type} : DataW H → Nat
  | .lit (.string bytes) => bytes.length + 1
  | .lit _ => 1
  | .nil => 1
  | .ptr d => uptoBulk d + 1
  | .slice elems spare => uptoBulkAll elems + uptoBulkAll spare + 1
  | .agg parts => uptoBulkAll parts + 1
  | .iface _ d => uptoBulk d + 1
  | .map entries => uptoBulkEntries entries + 1
  | .held _ => 1
def uptoBulkAll {H : Type} : List (DataW H) → Nat
  | [] => 0
  | d :: r => uptoBulk d + uptoBulkAll r
def uptoBulkEntries {H : Type} : List (Lit × DataW H) → Nat
  | [] => 0
  | x :: r => uptoBulkEntry x + uptoBulkEntries r
def uptoBulkEntry {H : Type} : Lit × DataW H → Nat
  | (.string bytes, d) => bytes.length + uptoBulk d + 1
  | (_, d) => uptoBulk d + 1
 end
def uptoSmall : (H : Type) → List (DataW H) → Bool := fun _ ds => decide (uptoBulkAll ds ≤ 1048576)
def OpenSpec.upto (s : _root_.Go.ChangeSpec) : _root_.Go.OpenSpec := { _root_.Go.OpenSpec.ofChange s with cond := some uptoSmall }

/-- 'laws.FnExactIsSignMatrix', WHERE WHAT IT READS IS OF BULK AT MOST 1048576: true; the input reads as it did. -/
def fnExactIsSignMatrixUptoRow : OpenClaim := { program := "ytiocbogdiaalgaa", sum := "a0ced0b4d30d66b261465394668bc847574c60aa0feecc5186ed9652c8dc8bb7", func := "loop.example/g01123/laws.FnExactIsSignMatrix", spec := "fnExactIsSignMatrix", unfollowed := true, recurses := true, apart := false, narrowed := true }
def FnExactIsSignMatrixUptoSaid : Prop := fnExactIsSignMatrixUptoRow.holds Try.pinned (OpenSpec.upto fnExactIsSignMatrixSpec)

/-- 'laws.FnExactIsPlacing', WHERE WHAT IT READS IS OF BULK AT MOST 1048576: true; the input reads as it did. -/
def fnExactIsPlacingUptoRow : OpenClaim := { program := "ytiocbogdiaalgaa", sum := "a0ced0b4d30d66b261465394668bc847574c60aa0feecc5186ed9652c8dc8bb7", func := "loop.example/g01123/laws.FnExactIsPlacing", spec := "fnExactIsPlacing", unfollowed := true, recurses := true, apart := false, narrowed := true }
def FnExactIsPlacingUptoSaid : Prop := fnExactIsPlacingUptoRow.holds Try.pinned (OpenSpec.upto fnExactIsPlacingSpec)

/-- 'laws.FnExactFromPlacing', WHERE WHAT IT READS IS OF BULK AT MOST 1048576: true; the input reads as it did. -/
def fnExactFromPlacingUptoRow : OpenClaim := { program := "ytiocbogdiaalgaa", sum := "a0ced0b4d30d66b261465394668bc847574c60aa0feecc5186ed9652c8dc8bb7", func := "loop.example/g01123/laws.FnExactFromPlacing", spec := "fnExactFromPlacing", unfollowed := true, recurses := true, apart := false, narrowed := true }
def FnExactFromPlacingUptoSaid : Prop := fnExactFromPlacingUptoRow.holds Try.pinned (OpenSpec.upto fnExactFromPlacingSpec)

/-- 'laws.FnExactCornerSums', WHERE WHAT IT READS IS OF BULK AT MOST 1048576: true; the input reads as it did. -/
def fnExactCornerSumsUptoRow : OpenClaim := { program := "ytiocbogdiaalgaa", sum := "a0ced0b4d30d66b261465394668bc847574c60aa0feecc5186ed9652c8dc8bb7", func := "loop.example/g01123/laws.FnExactCornerSums", spec := "fnExactCornerSums", unfollowed := true, recurses := true, apart := false, narrowed := true }
def FnExactCornerSumsUptoSaid : Prop := fnExactCornerSumsUptoRow.holds Try.pinned (OpenSpec.upto fnExactCornerSumsSpec)

/-- 'laws.FnExactAreCorners', WHERE WHAT IT READS IS OF BULK AT MOST 1048576: true; the input reads as it did. -/
def fnExactAreCornersUptoRow : OpenClaim := { program := "ytiocbogdiaalgaa", sum := "a0ced0b4d30d66b261465394668bc847574c60aa0feecc5186ed9652c8dc8bb7", func := "loop.example/g01123/laws.FnExactAreCorners", spec := "fnExactAreCorners", unfollowed := true, recurses := true, apart := false, narrowed := true }
def FnExactAreCornersUptoSaid : Prop := fnExactAreCornersUptoRow.holds Try.pinned (OpenSpec.upto fnExactAreCornersSpec)

/-- 'laws.FnExactFromCorners', WHERE WHAT IT READS IS OF BULK AT MOST 1048576: true; the input reads as it did. -/
def fnExactFromCornersUptoRow : OpenClaim := { program := "ytiocbogdiaalgaa", sum := "a0ced0b4d30d66b261465394668bc847574c60aa0feecc5186ed9652c8dc8bb7", func := "loop.example/g01123/laws.FnExactFromCorners", spec := "fnExactFromCorners", unfollowed := true, recurses := true, apart := false, narrowed := true }
def FnExactFromCornersUptoSaid : Prop := fnExactFromCornersUptoRow.holds Try.pinned (OpenSpec.upto fnExactFromCornersSpec)

/-- 'laws.FnExactMinusOnes', WHERE WHAT IT READS IS OF BULK AT MOST 1048576: true; the input reads as it did. -/
def fnExactMinusOnesUptoRow : OpenClaim := { program := "ytiocbogdiaalgaa", sum := "a0ced0b4d30d66b261465394668bc847574c60aa0feecc5186ed9652c8dc8bb7", func := "loop.example/g01123/laws.FnExactMinusOnes", spec := "fnExactMinusOnes", unfollowed := true, recurses := true, apart := false, narrowed := true }
def FnExactMinusOnesUptoSaid : Prop := fnExactMinusOnesUptoRow.holds Try.pinned (OpenSpec.upto fnExactMinusOnesSpec)

/-- 'laws.FnExactInversionsOf', WHERE WHAT IT READS IS OF BULK AT MOST 1048576: true; the input reads as it did. -/
def fnExactInversionsOfUptoRow : OpenClaim := { program := "ytiocbogdiaalgaa", sum := "a0ced0b4d30d66b261465394668bc847574c60aa0feecc5186ed9652c8dc8bb7", func := "loop.example/g01123/laws.FnExactInversionsOf", spec := "fnExactInversionsOf", unfollowed := true, recurses := true, apart := false, narrowed := true }
def FnExactInversionsOfUptoSaid : Prop := fnExactInversionsOfUptoRow.holds Try.pinned (OpenSpec.upto fnExactInversionsOfSpec)

/-- 'laws.FnExactFirstColumn', WHERE WHAT IT READS IS OF BULK AT MOST 1048576: true; the input reads as it did. -/
def fnExactFirstColumnUptoRow : OpenClaim := { program := "ytiocbogdiaalgaa", sum := "a0ced0b4d30d66b261465394668bc847574c60aa0feecc5186ed9652c8dc8bb7", func := "loop.example/g01123/laws.FnExactFirstColumn", spec := "fnExactFirstColumn", unfollowed := true, recurses := true, apart := false, narrowed := true }
def FnExactFirstColumnUptoSaid : Prop := fnExactFirstColumnUptoRow.holds Try.pinned (OpenSpec.upto fnExactFirstColumnSpec)

/-- 'laws.FnExactTurnMatrix', WHERE WHAT IT READS IS OF BULK AT MOST 1048576: true; the input reads as it did. -/
def fnExactTurnMatrixUptoRow : OpenClaim := { program := "ytiocbogdiaalgaa", sum := "a0ced0b4d30d66b261465394668bc847574c60aa0feecc5186ed9652c8dc8bb7", func := "loop.example/g01123/laws.FnExactTurnMatrix", spec := "fnExactTurnMatrix", unfollowed := true, recurses := true, apart := false, narrowed := true }
def FnExactTurnMatrixUptoSaid : Prop := fnExactTurnMatrixUptoRow.holds Try.pinned (OpenSpec.upto fnExactTurnMatrixSpec)

/-- 'laws.FnExactMirrorMatrix', WHERE WHAT IT READS IS OF BULK AT MOST 1048576: true; the input reads as it did. -/
def fnExactMirrorMatrixUptoRow : OpenClaim := { program := "ytiocbogdiaalgaa", sum := "a0ced0b4d30d66b261465394668bc847574c60aa0feecc5186ed9652c8dc8bb7", func := "loop.example/g01123/laws.FnExactMirrorMatrix", spec := "fnExactMirrorMatrix", unfollowed := true, recurses := true, apart := false, narrowed := true }
def FnExactMirrorMatrixUptoSaid : Prop := fnExactMirrorMatrixUptoRow.holds Try.pinned (OpenSpec.upto fnExactMirrorMatrixSpec)

/-- 'laws.FnExactTransposeMatrix', WHERE WHAT IT READS IS OF BULK AT MOST 1048576: true; the input reads as it did. -/
def fnExactTransposeMatrixUptoRow : OpenClaim := { program := "ytiocbogdiaalgaa", sum := "a0ced0b4d30d66b261465394668bc847574c60aa0feecc5186ed9652c8dc8bb7", func := "loop.example/g01123/laws.FnExactTransposeMatrix", spec := "fnExactTransposeMatrix", unfollowed := true, recurses := true, apart := false, narrowed := true }
def FnExactTransposeMatrixUptoSaid : Prop := fnExactTransposeMatrixUptoRow.holds Try.pinned (OpenSpec.upto fnExactTransposeMatrixSpec)

/-- 'laws.FnExactStackMatrices', WHERE WHAT IT READS IS OF BULK AT MOST 1048576: true; the input reads as it did. -/
def fnExactStackMatricesUptoRow : OpenClaim := { program := "ytiocbogdiaalgaa", sum := "a0ced0b4d30d66b261465394668bc847574c60aa0feecc5186ed9652c8dc8bb7", func := "loop.example/g01123/laws.FnExactStackMatrices", spec := "fnExactStackMatrices", unfollowed := true, recurses := true, apart := false, narrowed := true }
def FnExactStackMatricesUptoSaid : Prop := fnExactStackMatricesUptoRow.holds Try.pinned (OpenSpec.upto fnExactStackMatricesSpec)

/-- 'laws.FnExactLeastOfTurns', WHERE WHAT IT READS IS OF BULK AT MOST 1048576: true; the input reads as it did. -/
def fnExactLeastOfTurnsUptoRow : OpenClaim := { program := "ytiocbogdiaalgaa", sum := "a0ced0b4d30d66b261465394668bc847574c60aa0feecc5186ed9652c8dc8bb7", func := "loop.example/g01123/laws.FnExactLeastOfTurns", spec := "fnExactLeastOfTurns", unfollowed := true, recurses := true, apart := false, narrowed := true }
def FnExactLeastOfTurnsUptoSaid : Prop := fnExactLeastOfTurnsUptoRow.holds Try.pinned (OpenSpec.upto fnExactLeastOfTurnsSpec)

/-- 'laws.FnExactSignText', WHERE WHAT IT READS IS OF BULK AT MOST 1048576: true; the input reads as it did. -/
def fnExactSignTextUptoRow : OpenClaim := { program := "ytiocbogdiaalgaa", sum := "a0ced0b4d30d66b261465394668bc847574c60aa0feecc5186ed9652c8dc8bb7", func := "loop.example/g01123/laws.FnExactSignText", spec := "fnExactSignText", inPlace := ["internal/abi.NoEscape"], unfollowed := true, recurses := true, apart := false, narrowed := true }
def FnExactSignTextUptoSaid : Prop := fnExactSignTextUptoRow.holds Try.pinned (OpenSpec.upto fnExactSignTextSpec)

/-- 'laws.FnExactFirstDesk', WHERE WHAT IT READS IS OF BULK AT MOST 1048576: true; the input reads as it did. -/
def fnExactFirstDeskUptoRow : OpenClaim := { program := "ytiocbogdiaalgaa", sum := "a0ced0b4d30d66b261465394668bc847574c60aa0feecc5186ed9652c8dc8bb7", func := "loop.example/g01123/laws.FnExactFirstDesk", spec := "fnExactFirstDesk", apart := false, narrowed := true }
def FnExactFirstDeskUptoSaid : Prop := fnExactFirstDeskUptoRow.holds Try.pinned (OpenSpec.upto fnExactFirstDeskSpec)

end Rows
end Go.Proofs.Ytiocbogdiaalgaa
