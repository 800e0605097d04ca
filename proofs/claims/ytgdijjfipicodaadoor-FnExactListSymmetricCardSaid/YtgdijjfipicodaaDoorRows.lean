/-
  NARROWER THAN 'FOR EVERY INPUT', by the rows' own cells (each row's printed sentence says how): FnExactHasSymmetry: laid · FnExactListSymmetric: laid · FnExactCountSymmetric: laid · FnExactCountUpToAll: laid · FnExactLeftHalf: laid · FnExactUpperHalf: laid · FnExactMiddleOf: laid · FnExactAllSigns: laid.
  DERIVED. THE GIVEN ROWS OF THIS SEAT. 8 by the template 'for every input the law returns true; each argument reads behind the call as it read before'; 0 by the template 'total and deterministic' (their statements: YtgdijjfipicodaaDoorTotals.lean).
  GIVEN WITH THE SEED: the statements are not yours to turn. If you find one false, say at which input.
  Laid BY PROGRAM, IN A SANDBOX (cutbox-rows.mjs): the forced cells as the released guide's own fill.sh prints them over the translation 4237db982aaf33f1… (all of the seat's roots in one cut). By AI agents, Wed Nov 11 2026. No macro, syntax, notation, axiom, sorry.
-/
import Derived.Test.YtgdijjfipicodaaDoorChecked
import GoSem.Claim
import GoSem.ClaimJoined
import GoSem.ClaimMapViews
import Derived.JoinedTies
import Derived.KernelRfl
namespace Go.Proofs.YtgdijjfipicodaaDoor
/- THE CELL 'sum', in the pinned program and in every row, IS THE sha256 OF THE DUMP (.gsa) THAT YtgdijjfipicodaaDoorProg.lean LOADS. Nothing in Lean hashes anything: it is a label: what it is worth is what the hold of that sum in a sandbox is worth. -/
noncomputable def Tryd.pinned : Pinned := { name := "ytgdijjfipicodaadoor", sum := "4237db982aaf33f1edc12efb2db08a508b74a437aecd076f0990664866945939", checked := Tryd.checked }
namespace Rows
def none {H : Type} : Left H := { results := [], args := [] }

/- WHAT THE LISTED PACKAGE-LEVEL VARIABLES READ AS WHEN THE CALL BEGINS. Each datum BY PROGRAM (the guide's laid-datum.mjs) off the statement by which the dump's own 'gosem.cut.vars' lays the variable. In a bare row this is a premise. The card (YtgdijjfipicodaaDoorCards.lean) ties it to the program's text. -/
def laid_loop_example_g01123_impl_symmetriesOfKind {H : Type} : DataW H := .agg [.slice [.lit (.int .i64 2)] [], .slice [.lit (.int .i64 1)] [], .slice [.lit (.int .i64 4)] [], .slice [.lit (.int .i64 5)] [], .slice [.lit (.int .i64 4), .lit (.int .i64 6)] []]
def laid_math_bits_deBruijn32tab {H : Type} : DataW H := .agg [.lit (.int .u8 0), .lit (.int .u8 1), .lit (.int .u8 28), .lit (.int .u8 2), .lit (.int .u8 29), .lit (.int .u8 14), .lit (.int .u8 24), .lit (.int .u8 3), .lit (.int .u8 30), .lit (.int .u8 22), .lit (.int .u8 20), .lit (.int .u8 15), .lit (.int .u8 25), .lit (.int .u8 17), .lit (.int .u8 4), .lit (.int .u8 8), .lit (.int .u8 31), .lit (.int .u8 27), .lit (.int .u8 13), .lit (.int .u8 23), .lit (.int .u8 21), .lit (.int .u8 19), .lit (.int .u8 16), .lit (.int .u8 7), .lit (.int .u8 26), .lit (.int .u8 12), .lit (.int .u8 18), .lit (.int .u8 6), .lit (.int .u8 11), .lit (.int .u8 5), .lit (.int .u8 10), .lit (.int .u8 9)]
def laid_math_bits_deBruijn64tab {H : Type} : DataW H := .agg [.lit (.int .u8 0), .lit (.int .u8 1), .lit (.int .u8 56), .lit (.int .u8 2), .lit (.int .u8 57), .lit (.int .u8 49), .lit (.int .u8 28), .lit (.int .u8 3), .lit (.int .u8 61), .lit (.int .u8 58), .lit (.int .u8 42), .lit (.int .u8 50), .lit (.int .u8 38), .lit (.int .u8 29), .lit (.int .u8 17), .lit (.int .u8 4), .lit (.int .u8 62), .lit (.int .u8 47), .lit (.int .u8 59), .lit (.int .u8 36), .lit (.int .u8 45), .lit (.int .u8 43), .lit (.int .u8 51), .lit (.int .u8 22), .lit (.int .u8 53), .lit (.int .u8 39), .lit (.int .u8 33), .lit (.int .u8 30), .lit (.int .u8 24), .lit (.int .u8 18), .lit (.int .u8 12), .lit (.int .u8 5), .lit (.int .u8 63), .lit (.int .u8 55), .lit (.int .u8 48), .lit (.int .u8 27), .lit (.int .u8 60), .lit (.int .u8 41), .lit (.int .u8 37), .lit (.int .u8 16), .lit (.int .u8 46), .lit (.int .u8 35), .lit (.int .u8 44), .lit (.int .u8 21), .lit (.int .u8 52), .lit (.int .u8 32), .lit (.int .u8 23), .lit (.int .u8 11), .lit (.int .u8 54), .lit (.int .u8 26), .lit (.int .u8 40), .lit (.int .u8 15), .lit (.int .u8 34), .lit (.int .u8 20), .lit (.int .u8 31), .lit (.int .u8 10), .lit (.int .u8 25), .lit (.int .u8 14), .lit (.int .u8 19), .lit (.int .u8 9), .lit (.int .u8 13), .lit (.int .u8 8), .lit (.int .u8 7), .lit (.int .u8 6)]

/-- 'laws.FnExactHasSymmetry': WHATEVER THE INPUT: true; the input reads as it did. -/
def fnExactHasSymmetrySpec : ChangeSpec := { name := "fnExactHasSymmetry", vars := ["loop.example/g01123/impl.symmetriesOfKind"], fn := fun _ => fun
  | [d1, d2, g1] => { results := [.lit (.bool true)], args := [d1, d2], vars := [g1] }
  | _ => none }
def fnExactHasSymmetryRow : OpenClaim := { program := "ytgdijjfipicodaadoor", sum := "4237db982aaf33f1edc12efb2db08a508b74a437aecd076f0990664866945939", func := "loop.example/g01123/laws.FnExactHasSymmetry", spec := "fnExactHasSymmetry", unfollowed := true, recurses := true, named := ["loop.example/g01123/impl.symmetriesOfKind"], apart := false, laid := [("loop.example/g01123/impl.symmetriesOfKind", laid_loop_example_g01123_impl_symmetriesOfKind)] }
def FnExactHasSymmetrySaid : Prop := fnExactHasSymmetryRow.holds Tryd.pinned (OpenSpec.ofChange fnExactHasSymmetrySpec)

/-- ITS FALSE NEIGHBOUR: 'it returns false'. Refute it at one input. -/
def fnExactHasSymmetryWrong : ChangeSpec := { name := "fnExactHasSymmetry", vars := ["loop.example/g01123/impl.symmetriesOfKind"], fn := fun _ => fun
  | [d1, d2, g1] => { results := [.lit (.bool false)], args := [d1, d2], vars := [g1] }
  | _ => none }
def FnExactHasSymmetryWrongFalsely : Prop := fnExactHasSymmetryRow.holds Tryd.pinned (OpenSpec.ofChange fnExactHasSymmetryWrong)

/-- 'laws.FnExactListSymmetric': WHATEVER THE INPUT: true; the input reads as it did. -/
def fnExactListSymmetricSpec : ChangeSpec := { name := "fnExactListSymmetric", vars := ["loop.example/g01123/impl.symmetriesOfKind"], fn := fun _ => fun
  | [d1, d2, g1] => { results := [.lit (.bool true)], args := [d1, d2], vars := [g1] }
  | _ => none }
def fnExactListSymmetricRow : OpenClaim := { program := "ytgdijjfipicodaadoor", sum := "4237db982aaf33f1edc12efb2db08a508b74a437aecd076f0990664866945939", func := "loop.example/g01123/laws.FnExactListSymmetric", spec := "fnExactListSymmetric", unfollowed := true, recurses := true, named := ["math/bits.deBruijn32tab", "math/bits.deBruijn64tab", "loop.example/g01123/impl.symmetriesOfKind"], apart := false, laid := [("math/bits.deBruijn32tab", laid_math_bits_deBruijn32tab), ("math/bits.deBruijn64tab", laid_math_bits_deBruijn64tab), ("loop.example/g01123/impl.symmetriesOfKind", laid_loop_example_g01123_impl_symmetriesOfKind)] }
def FnExactListSymmetricSaid : Prop := fnExactListSymmetricRow.holds Tryd.pinned (OpenSpec.ofChange fnExactListSymmetricSpec)

/-- ITS FALSE NEIGHBOUR: 'it returns false'. Refute it at one input. -/
def fnExactListSymmetricWrong : ChangeSpec := { name := "fnExactListSymmetric", vars := ["loop.example/g01123/impl.symmetriesOfKind"], fn := fun _ => fun
  | [d1, d2, g1] => { results := [.lit (.bool false)], args := [d1, d2], vars := [g1] }
  | _ => none }
def FnExactListSymmetricWrongFalsely : Prop := fnExactListSymmetricRow.holds Tryd.pinned (OpenSpec.ofChange fnExactListSymmetricWrong)

/-- 'laws.FnExactCountSymmetric': WHATEVER THE INPUT: true; the input reads as it did. -/
def fnExactCountSymmetricSpec : ChangeSpec := { name := "fnExactCountSymmetric", vars := ["loop.example/g01123/impl.symmetriesOfKind"], fn := fun _ => fun
  | [d1, d2, g1] => { results := [.lit (.bool true)], args := [d1, d2], vars := [g1] }
  | _ => none }
def fnExactCountSymmetricRow : OpenClaim := { program := "ytgdijjfipicodaadoor", sum := "4237db982aaf33f1edc12efb2db08a508b74a437aecd076f0990664866945939", func := "loop.example/g01123/laws.FnExactCountSymmetric", spec := "fnExactCountSymmetric", unfollowed := true, recurses := true, named := ["math/bits.deBruijn32tab", "math/bits.deBruijn64tab", "loop.example/g01123/impl.symmetriesOfKind"], apart := false, laid := [("math/bits.deBruijn32tab", laid_math_bits_deBruijn32tab), ("math/bits.deBruijn64tab", laid_math_bits_deBruijn64tab), ("loop.example/g01123/impl.symmetriesOfKind", laid_loop_example_g01123_impl_symmetriesOfKind)] }
def FnExactCountSymmetricSaid : Prop := fnExactCountSymmetricRow.holds Tryd.pinned (OpenSpec.ofChange fnExactCountSymmetricSpec)

/-- ITS FALSE NEIGHBOUR: 'it returns false'. Refute it at one input. -/
def fnExactCountSymmetricWrong : ChangeSpec := { name := "fnExactCountSymmetric", vars := ["loop.example/g01123/impl.symmetriesOfKind"], fn := fun _ => fun
  | [d1, d2, g1] => { results := [.lit (.bool false)], args := [d1, d2], vars := [g1] }
  | _ => none }
def FnExactCountSymmetricWrongFalsely : Prop := fnExactCountSymmetricRow.holds Tryd.pinned (OpenSpec.ofChange fnExactCountSymmetricWrong)

/-- 'laws.FnExactCountUpToAll': WHATEVER THE INPUT: true; the input reads as it did. -/
def fnExactCountUpToAllSpec : ChangeSpec := { name := "fnExactCountUpToAll", fn := fun _ => fun
  | [d] => { results := [.lit (.bool true)], args := [d] }
  | _ => none }
def fnExactCountUpToAllRow : OpenClaim := { program := "ytgdijjfipicodaadoor", sum := "4237db982aaf33f1edc12efb2db08a508b74a437aecd076f0990664866945939", func := "loop.example/g01123/laws.FnExactCountUpToAll", spec := "fnExactCountUpToAll", unfollowed := true, recurses := true, named := ["math/bits.deBruijn32tab", "math/bits.deBruijn64tab"], apart := false, laid := [("math/bits.deBruijn32tab", laid_math_bits_deBruijn32tab), ("math/bits.deBruijn64tab", laid_math_bits_deBruijn64tab)] }
def FnExactCountUpToAllSaid : Prop := fnExactCountUpToAllRow.holds Tryd.pinned (OpenSpec.ofChange fnExactCountUpToAllSpec)

/-- ITS FALSE NEIGHBOUR: 'it returns false'. Refute it at one input. -/
def fnExactCountUpToAllWrong : ChangeSpec := { name := "fnExactCountUpToAll", fn := fun _ => fun
  | [d] => { results := [.lit (.bool false)], args := [d] }
  | _ => none }
def FnExactCountUpToAllWrongFalsely : Prop := fnExactCountUpToAllRow.holds Tryd.pinned (OpenSpec.ofChange fnExactCountUpToAllWrong)

/-- 'laws.FnExactLeftHalf': WHATEVER THE INPUT: true; the input reads as it did. -/
def fnExactLeftHalfSpec : ChangeSpec := { name := "fnExactLeftHalf", vars := ["loop.example/g01123/impl.symmetriesOfKind"], fn := fun _ => fun
  | [d, g1] => { results := [.lit (.bool true)], args := [d], vars := [g1] }
  | _ => none }
def fnExactLeftHalfRow : OpenClaim := { program := "ytgdijjfipicodaadoor", sum := "4237db982aaf33f1edc12efb2db08a508b74a437aecd076f0990664866945939", func := "loop.example/g01123/laws.FnExactLeftHalf", spec := "fnExactLeftHalf", unfollowed := true, recurses := true, named := ["loop.example/g01123/impl.symmetriesOfKind"], apart := false, laid := [("loop.example/g01123/impl.symmetriesOfKind", laid_loop_example_g01123_impl_symmetriesOfKind)] }
def FnExactLeftHalfSaid : Prop := fnExactLeftHalfRow.holds Tryd.pinned (OpenSpec.ofChange fnExactLeftHalfSpec)

/-- ITS FALSE NEIGHBOUR: 'it returns false'. Refute it at one input. -/
def fnExactLeftHalfWrong : ChangeSpec := { name := "fnExactLeftHalf", vars := ["loop.example/g01123/impl.symmetriesOfKind"], fn := fun _ => fun
  | [d, g1] => { results := [.lit (.bool false)], args := [d], vars := [g1] }
  | _ => none }
def FnExactLeftHalfWrongFalsely : Prop := fnExactLeftHalfRow.holds Tryd.pinned (OpenSpec.ofChange fnExactLeftHalfWrong)

/-- 'laws.FnExactUpperHalf': WHATEVER THE INPUT: true; the input reads as it did. -/
def fnExactUpperHalfSpec : ChangeSpec := { name := "fnExactUpperHalf", vars := ["loop.example/g01123/impl.symmetriesOfKind"], fn := fun _ => fun
  | [d, g1] => { results := [.lit (.bool true)], args := [d], vars := [g1] }
  | _ => none }
def fnExactUpperHalfRow : OpenClaim := { program := "ytgdijjfipicodaadoor", sum := "4237db982aaf33f1edc12efb2db08a508b74a437aecd076f0990664866945939", func := "loop.example/g01123/laws.FnExactUpperHalf", spec := "fnExactUpperHalf", unfollowed := true, recurses := true, named := ["loop.example/g01123/impl.symmetriesOfKind"], apart := false, laid := [("loop.example/g01123/impl.symmetriesOfKind", laid_loop_example_g01123_impl_symmetriesOfKind)] }
def FnExactUpperHalfSaid : Prop := fnExactUpperHalfRow.holds Tryd.pinned (OpenSpec.ofChange fnExactUpperHalfSpec)

/-- ITS FALSE NEIGHBOUR: 'it returns false'. Refute it at one input. -/
def fnExactUpperHalfWrong : ChangeSpec := { name := "fnExactUpperHalf", vars := ["loop.example/g01123/impl.symmetriesOfKind"], fn := fun _ => fun
  | [d, g1] => { results := [.lit (.bool false)], args := [d], vars := [g1] }
  | _ => none }
def FnExactUpperHalfWrongFalsely : Prop := fnExactUpperHalfRow.holds Tryd.pinned (OpenSpec.ofChange fnExactUpperHalfWrong)

/-- 'laws.FnExactMiddleOf': WHATEVER THE INPUT: true; the input reads as it did. -/
def fnExactMiddleOfSpec : ChangeSpec := { name := "fnExactMiddleOf", vars := ["loop.example/g01123/impl.symmetriesOfKind"], fn := fun _ => fun
  | [d, g1] => { results := [.lit (.bool true)], args := [d], vars := [g1] }
  | _ => none }
def fnExactMiddleOfRow : OpenClaim := { program := "ytgdijjfipicodaadoor", sum := "4237db982aaf33f1edc12efb2db08a508b74a437aecd076f0990664866945939", func := "loop.example/g01123/laws.FnExactMiddleOf", spec := "fnExactMiddleOf", unfollowed := true, recurses := true, named := ["loop.example/g01123/impl.symmetriesOfKind"], apart := false, laid := [("loop.example/g01123/impl.symmetriesOfKind", laid_loop_example_g01123_impl_symmetriesOfKind)] }
def FnExactMiddleOfSaid : Prop := fnExactMiddleOfRow.holds Tryd.pinned (OpenSpec.ofChange fnExactMiddleOfSpec)

/-- ITS FALSE NEIGHBOUR: 'it returns false'. Refute it at one input. -/
def fnExactMiddleOfWrong : ChangeSpec := { name := "fnExactMiddleOf", vars := ["loop.example/g01123/impl.symmetriesOfKind"], fn := fun _ => fun
  | [d, g1] => { results := [.lit (.bool false)], args := [d], vars := [g1] }
  | _ => none }
def FnExactMiddleOfWrongFalsely : Prop := fnExactMiddleOfRow.holds Tryd.pinned (OpenSpec.ofChange fnExactMiddleOfWrong)

/-- 'laws.FnExactAllSigns': WHATEVER THE INPUT: true; the input reads as it did. -/
def fnExactAllSignsSpec : ChangeSpec := { name := "fnExactAllSigns", fn := fun _ => fun
  | [d] => { results := [.lit (.bool true)], args := [d] }
  | _ => none }
def fnExactAllSignsRow : OpenClaim := { program := "ytgdijjfipicodaadoor", sum := "4237db982aaf33f1edc12efb2db08a508b74a437aecd076f0990664866945939", func := "loop.example/g01123/laws.FnExactAllSigns", spec := "fnExactAllSigns", recurses := true, named := ["math/bits.deBruijn32tab", "math/bits.deBruijn64tab"], apart := false, laid := [("math/bits.deBruijn32tab", laid_math_bits_deBruijn32tab), ("math/bits.deBruijn64tab", laid_math_bits_deBruijn64tab)] }
def FnExactAllSignsSaid : Prop := fnExactAllSignsRow.holds Tryd.pinned (OpenSpec.ofChange fnExactAllSignsSpec)

/-- ITS FALSE NEIGHBOUR: 'it returns false'. Refute it at one input. -/
def fnExactAllSignsWrong : ChangeSpec := { name := "fnExactAllSigns", fn := fun _ => fun
  | [d] => { results := [.lit (.bool false)], args := [d] }
  | _ => none }
def FnExactAllSignsWrongFalsely : Prop := fnExactAllSignsRow.holds Tryd.pinned (OpenSpec.ofChange fnExactAllSignsWrong)

/- THE SECOND FORM. 'bulk': how many values and letters a reading holds, each counted each time it is reached (what is shared counts as often as it is met; a slice's spare places count too). A statement '..UptoSaid' is the law's where the arguments, and the package variables that the reading takes, are together of bulk at most 1048576: NARROWER than '..Said'. Prove '..Said' where nothing that the law and all that it calls make is longer than what came in: it says more and counts as full. Else prove '..UptoSaid'. A law counts once. -/
mutual
def uptoBulk {H : Type} : DataW H → Nat
  | .lit (.string bytes) => bytes.length + 1
  | .lit _ => 1
  | .nil => 1
  | .ptr d => uptoBulk d + 1
  | .slice elems spare => uptoBulkAll elems + uptoBulkAll spare + 1
  | .agg parts => uptoBulkAll parts + 1
  | .iface _ d => uptoBulk d + 1
  | .map entries => uptoBulkEntries entries + 1
  | .held _ => 1
def uptoBulkAll {H : Type} : List (DataW H) → Nat
  | [] => 0
  | d :: r => uptoBulk d + uptoBulkAll r
def uptoBulkEntries {H : Type} : List (Lit × DataW H) → Nat
  | [] => 0
  | x :: r => uptoBulkEntry x + uptoBulkEntries r
def uptoBulkEntry {H : Type} : Lit × DataW H → Nat
  | (.string bytes, d) => bytes.length + uptoBulk d + 1
  | (_, d) => uptoBulk d + 1
 end
def uptoSmall : (H : Type) → List (DataW H) → Bool := fun _ ds => decide (uptoBulkAll ds ≤ 1048576)
def OpenSpec.upto (s : _root_.Go.ChangeSpec) : _root_.Go.OpenSpec := { _root_.Go.OpenSpec.ofChange s with cond := some uptoSmall }

/-- 'laws.FnExactHasSymmetry', WHERE WHAT IT READS IS OF BULK AT MOST 1048576: true; the input reads as it did. -/
def fnExactHasSymmetryUptoRow : OpenClaim := { program := "ytgdijjfipicodaadoor", sum := "4237db982aaf33f1edc12efb2db08a508b74a437aecd076f0990664866945939", func := "loop.example/g01123/laws.FnExactHasSymmetry", spec := "fnExactHasSymmetry", unfollowed := true, recurses := true, named := ["loop.example/g01123/impl.symmetriesOfKind"], apart := false, laid := [("loop.example/g01123/impl.symmetriesOfKind", laid_loop_example_g01123_impl_symmetriesOfKind)], narrowed := true }
def FnExactHasSymmetryUptoSaid : Prop := fnExactHasSymmetryUptoRow.holds Tryd.pinned (OpenSpec.upto fnExactHasSymmetrySpec)

/-- 'laws.FnExactListSymmetric', WHERE WHAT IT READS IS OF BULK AT MOST 1048576: true; the input reads as it did. -/
def fnExactListSymmetricUptoRow : OpenClaim := { program := "ytgdijjfipicodaadoor", sum := "4237db982aaf33f1edc12efb2db08a508b74a437aecd076f0990664866945939", func := "loop.example/g01123/laws.FnExactListSymmetric", spec := "fnExactListSymmetric", unfollowed := true, recurses := true, named := ["math/bits.deBruijn32tab", "math/bits.deBruijn64tab", "loop.example/g01123/impl.symmetriesOfKind"], apart := false, laid := [("math/bits.deBruijn32tab", laid_math_bits_deBruijn32tab), ("math/bits.deBruijn64tab", laid_math_bits_deBruijn64tab), ("loop.example/g01123/impl.symmetriesOfKind", laid_loop_example_g01123_impl_symmetriesOfKind)], narrowed := true }
def FnExactListSymmetricUptoSaid : Prop := fnExactListSymmetricUptoRow.holds Tryd.pinned (OpenSpec.upto fnExactListSymmetricSpec)

/-- 'laws.FnExactCountSymmetric', WHERE WHAT IT READS IS OF BULK AT MOST 1048576: true; the input reads as it did. -/
def fnExactCountSymmetricUptoRow : OpenClaim := { program := "ytgdijjfipicodaadoor", sum := "4237db982aaf33f1edc12efb2db08a508b74a437aecd076f0990664866945939", func := "loop.example/g01123/laws.FnExactCountSymmetric", spec := "fnExactCountSymmetric", unfollowed := true, recurses := true, named := ["math/bits.deBruijn32tab", "math/bits.deBruijn64tab", "loop.example/g01123/impl.symmetriesOfKind"], apart := false, laid := [("math/bits.deBruijn32tab", laid_math_bits_deBruijn32tab), ("math/bits.deBruijn64tab", laid_math_bits_deBruijn64tab), ("loop.example/g01123/impl.symmetriesOfKind", laid_loop_example_g01123_impl_symmetriesOfKind)], narrowed := true }
def FnExactCountSymmetricUptoSaid : Prop := fnExactCountSymmetricUptoRow.holds Tryd.pinned (OpenSpec.upto fnExactCountSymmetricSpec)

/-- 'laws.FnExactCountUpToAll', WHERE WHAT IT READS IS OF BULK AT MOST 1048576: true; the input reads as it did. -/
def fnExactCountUpToAllUptoRow : OpenClaim := { program := "ytgdijjfipicodaadoor", sum := "4237db982aaf33f1edc12efb2db08a508b74a437aecd076f0990664866945939", func := "loop.example/g01123/laws.FnExactCountUpToAll", spec := "fnExactCountUpToAll", unfollowed := true, recurses := true, named := ["math/bits.deBruijn32tab", "math/bits.deBruijn64tab"], apart := false, laid := [("math/bits.deBruijn32tab", laid_math_bits_deBruijn32tab), ("math/bits.deBruijn64tab", laid_math_bits_deBruijn64tab)], narrowed := true }
def FnExactCountUpToAllUptoSaid : Prop := fnExactCountUpToAllUptoRow.holds Tryd.pinned (OpenSpec.upto fnExactCountUpToAllSpec)

/-- 'laws.FnExactLeftHalf', WHERE WHAT IT READS IS OF BULK AT MOST 1048576: true; the input reads as it did. -/
def fnExactLeftHalfUptoRow : OpenClaim := { program := "ytgdijjfipicodaadoor", sum := "4237db982aaf33f1edc12efb2db08a508b74a437aecd076f0990664866945939", func := "loop.example/g01123/laws.FnExactLeftHalf", spec := "fnExactLeftHalf", unfollowed := true, recurses := true, named := ["loop.example/g01123/impl.symmetriesOfKind"], apart := false, laid := [("loop.example/g01123/impl.symmetriesOfKind", laid_loop_example_g01123_impl_symmetriesOfKind)], narrowed := true }
def FnExactLeftHalfUptoSaid : Prop := fnExactLeftHalfUptoRow.holds Tryd.pinned (OpenSpec.upto fnExactLeftHalfSpec)

/-- 'laws.FnExactUpperHalf', WHERE WHAT IT READS IS OF BULK AT MOST 1048576: true; the input reads as it did. -/
def fnExactUpperHalfUptoRow : OpenClaim := { program := "ytgdijjfipicodaadoor", sum := "4237db982aaf33f1edc12efb2db08a508b74a437aecd076f0990664866945939", func := "loop.example/g01123/laws.FnExactUpperHalf", spec := "fnExactUpperHalf", unfollowed := true, recurses := true, named := ["loop.example/g01123/impl.symmetriesOfKind"], apart := false, laid := [("loop.example/g01123/impl.symmetriesOfKind", laid_loop_example_g01123_impl_symmetriesOfKind)], narrowed := true }
def FnExactUpperHalfUptoSaid : Prop := fnExactUpperHalfUptoRow.holds Tryd.pinned (OpenSpec.upto fnExactUpperHalfSpec)

/-- 'laws.FnExactMiddleOf', WHERE WHAT IT READS IS OF BULK AT MOST 1048576: true; the input reads as it did. -/
def fnExactMiddleOfUptoRow : OpenClaim := { program := "ytgdijjfipicodaadoor", sum := "4237db982aaf33f1edc12efb2db08a508b74a437aecd076f0990664866945939", func := "loop.example/g01123/laws.FnExactMiddleOf", spec := "fnExactMiddleOf", unfollowed := true, recurses := true, named := ["loop.example/g01123/impl.symmetriesOfKind"], apart := false, laid := [("loop.example/g01123/impl.symmetriesOfKind", laid_loop_example_g01123_impl_symmetriesOfKind)], narrowed := true }
def FnExactMiddleOfUptoSaid : Prop := fnExactMiddleOfUptoRow.holds Tryd.pinned (OpenSpec.upto fnExactMiddleOfSpec)

/-- 'laws.FnExactAllSigns', WHERE WHAT IT READS IS OF BULK AT MOST 1048576: true; the input reads as it did. -/
def fnExactAllSignsUptoRow : OpenClaim := { program := "ytgdijjfipicodaadoor", sum := "4237db982aaf33f1edc12efb2db08a508b74a437aecd076f0990664866945939", func := "loop.example/g01123/laws.FnExactAllSigns", spec := "fnExactAllSigns", recurses := true, named := ["math/bits.deBruijn32tab", "math/bits.deBruijn64tab"], apart := false, laid := [("math/bits.deBruijn32tab", laid_math_bits_deBruijn32tab), ("math/bits.deBruijn64tab", laid_math_bits_deBruijn64tab)], narrowed := true }
def FnExactAllSignsUptoSaid : Prop := fnExactAllSignsUptoRow.holds Tryd.pinned (OpenSpec.upto fnExactAllSignsSpec)

end Rows
end Go.Proofs.YtgdijjfipicodaaDoor
