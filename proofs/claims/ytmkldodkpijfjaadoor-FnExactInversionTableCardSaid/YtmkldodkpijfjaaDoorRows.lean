/-
  NARROWER THAN 'FOR EVERY INPUT', by the rows' own cells (each row's printed sentence says how): FnExactMinusTable: laid · FnExactInversionTable: laid · FnExactJointTable: laid · FnExactAllSigns: laid · FnExactRankSigns: laid · FnExactSignsAt: laid · FnExactNextSigns: laid.
  DERIVED. THE GIVEN ROWS OF THIS SEAT. 7 by the template 'for every input the law returns true; each argument reads behind the call as it read before'; 0 by the template 'total and deterministic' (their statements: YtmkldodkpijfjaaDoorTotals.lean).
  GIVEN WITH THE SEED: the statements are not yours to turn. If you find one false, say at which input.
  Laid BY PROGRAM, IN A SANDBOX (cutbox-rows.mjs): the forced cells as the released guide's own fill.sh prints them over the translation 4bd4d208bc4b9525… (all of the seat's roots in one cut). By AI agents, Wed Nov 11 2026. No macro, syntax, notation, axiom, sorry.
-/
import Derived.Test.YtmkldodkpijfjaaDoorChecked
import GoSem.Claim
import GoSem.ClaimJoined
import GoSem.ClaimMapViews
import Derived.JoinedTies
import Derived.KernelRfl
namespace Go.Proofs.YtmkldodkpijfjaaDoor
/- THE CELL 'sum', in the pinned program and in every row, IS THE sha256 OF THE DUMP (.gsa) THAT YtmkldodkpijfjaaDoorProg.lean LOADS. Nothing in Lean hashes anything: it is a label: what it is worth is what the hold of that sum in a sandbox is worth. -/
noncomputable def Tryd.pinned : Pinned := { name := "ytmkldodkpijfjaadoor", sum := "4bd4d208bc4b952579b6dc4da13c0edb367951fba1fa44b398b442c2f3fab438", checked := Tryd.checked }
namespace Rows
def none {H : Type} : Left H := { results := [], args := [] }

/- WHAT THE LISTED PACKAGE-LEVEL VARIABLES READ AS WHEN THE CALL BEGINS. Each datum BY PROGRAM (the guide's laid-datum.mjs) off the statement by which the dump's own 'gosem.cut.vars' lays the variable. In a bare row this is a premise. The card (YtmkldodkpijfjaaDoorCards.lean) ties it to the program's text. -/
def laid_math_bits_deBruijn32tab {H : Type} : DataW H := .agg [.lit (.int .u8 0), .lit (.int .u8 1), .lit (.int .u8 28), .lit (.int .u8 2), .lit (.int .u8 29), .lit (.int .u8 14), .lit (.int .u8 24), .lit (.int .u8 3), .lit (.int .u8 30), .lit (.int .u8 22), .lit (.int .u8 20), .lit (.int .u8 15), .lit (.int .u8 25), .lit (.int .u8 17), .lit (.int .u8 4), .lit (.int .u8 8), .lit (.int .u8 31), .lit (.int .u8 27), .lit (.int .u8 13), .lit (.int .u8 23), .lit (.int .u8 21), .lit (.int .u8 19), .lit (.int .u8 16), .lit (.int .u8 7), .lit (.int .u8 26), .lit (.int .u8 12), .lit (.int .u8 18), .lit (.int .u8 6), .lit (.int .u8 11), .lit (.int .u8 5), .lit (.int .u8 10), .lit (.int .u8 9)]
def laid_math_bits_deBruijn64tab {H : Type} : DataW H := .agg [.lit (.int .u8 0), .lit (.int .u8 1), .lit (.int .u8 56), .lit (.int .u8 2), .lit (.int .u8 57), .lit (.int .u8 49), .lit (.int .u8 28), .lit (.int .u8 3), .lit (.int .u8 61), .lit (.int .u8 58), .lit (.int .u8 42), .lit (.int .u8 50), .lit (.int .u8 38), .lit (.int .u8 29), .lit (.int .u8 17), .lit (.int .u8 4), .lit (.int .u8 62), .lit (.int .u8 47), .lit (.int .u8 59), .lit (.int .u8 36), .lit (.int .u8 45), .lit (.int .u8 43), .lit (.int .u8 51), .lit (.int .u8 22), .lit (.int .u8 53), .lit (.int .u8 39), .lit (.int .u8 33), .lit (.int .u8 30), .lit (.int .u8 24), .lit (.int .u8 18), .lit (.int .u8 12), .lit (.int .u8 5), .lit (.int .u8 63), .lit (.int .u8 55), .lit (.int .u8 48), .lit (.int .u8 27), .lit (.int .u8 60), .lit (.int .u8 41), .lit (.int .u8 37), .lit (.int .u8 16), .lit (.int .u8 46), .lit (.int .u8 35), .lit (.int .u8 44), .lit (.int .u8 21), .lit (.int .u8 52), .lit (.int .u8 32), .lit (.int .u8 23), .lit (.int .u8 11), .lit (.int .u8 54), .lit (.int .u8 26), .lit (.int .u8 40), .lit (.int .u8 15), .lit (.int .u8 34), .lit (.int .u8 20), .lit (.int .u8 31), .lit (.int .u8 10), .lit (.int .u8 25), .lit (.int .u8 14), .lit (.int .u8 19), .lit (.int .u8 9), .lit (.int .u8 13), .lit (.int .u8 8), .lit (.int .u8 7), .lit (.int .u8 6)]

/-- 'laws.FnExactMinusTable': WHATEVER THE INPUT: true; the input reads as it did. -/
def fnExactMinusTableSpec : ChangeSpec := { name := "fnExactMinusTable", fn := fun _ => fun
  | [d] => { results := [.lit (.bool true)], args := [d] }
  | _ => none }
def fnExactMinusTableRow : OpenClaim := { program := "ytmkldodkpijfjaadoor", sum := "4bd4d208bc4b952579b6dc4da13c0edb367951fba1fa44b398b442c2f3fab438", func := "loop.example/g01123/laws.FnExactMinusTable", spec := "fnExactMinusTable", unfollowed := true, recurses := true, named := ["math/bits.deBruijn32tab", "math/bits.deBruijn64tab"], plainKeys := false, apart := false, laid := [("math/bits.deBruijn32tab", laid_math_bits_deBruijn32tab), ("math/bits.deBruijn64tab", laid_math_bits_deBruijn64tab)] }
def FnExactMinusTableSaid : Prop := fnExactMinusTableRow.holds Tryd.pinned (OpenSpec.ofChange fnExactMinusTableSpec)

/-- ITS FALSE NEIGHBOUR: 'it returns false'. Refute it at one input. -/
def fnExactMinusTableWrong : ChangeSpec := { name := "fnExactMinusTable", fn := fun _ => fun
  | [d] => { results := [.lit (.bool false)], args := [d] }
  | _ => none }
def FnExactMinusTableWrongFalsely : Prop := fnExactMinusTableRow.holds Tryd.pinned (OpenSpec.ofChange fnExactMinusTableWrong)

/-- 'laws.FnExactInversionTable': WHATEVER THE INPUT: true; the input reads as it did. -/
def fnExactInversionTableSpec : ChangeSpec := { name := "fnExactInversionTable", fn := fun _ => fun
  | [d] => { results := [.lit (.bool true)], args := [d] }
  | _ => none }
def fnExactInversionTableRow : OpenClaim := { program := "ytmkldodkpijfjaadoor", sum := "4bd4d208bc4b952579b6dc4da13c0edb367951fba1fa44b398b442c2f3fab438", func := "loop.example/g01123/laws.FnExactInversionTable", spec := "fnExactInversionTable", unfollowed := true, recurses := true, named := ["math/bits.deBruijn32tab", "math/bits.deBruijn64tab"], plainKeys := false, apart := false, laid := [("math/bits.deBruijn32tab", laid_math_bits_deBruijn32tab), ("math/bits.deBruijn64tab", laid_math_bits_deBruijn64tab)] }
def FnExactInversionTableSaid : Prop := fnExactInversionTableRow.holds Tryd.pinned (OpenSpec.ofChange fnExactInversionTableSpec)

/-- ITS FALSE NEIGHBOUR: 'it returns false'. Refute it at one input. -/
def fnExactInversionTableWrong : ChangeSpec := { name := "fnExactInversionTable", fn := fun _ => fun
  | [d] => { results := [.lit (.bool false)], args := [d] }
  | _ => none }
def FnExactInversionTableWrongFalsely : Prop := fnExactInversionTableRow.holds Tryd.pinned (OpenSpec.ofChange fnExactInversionTableWrong)

/-- 'laws.FnExactJointTable': WHATEVER THE INPUT: true; the input reads as it did. -/
def fnExactJointTableSpec : ChangeSpec := { name := "fnExactJointTable", fn := fun _ => fun
  | [d] => { results := [.lit (.bool true)], args := [d] }
  | _ => none }
def fnExactJointTableRow : OpenClaim := { program := "ytmkldodkpijfjaadoor", sum := "4bd4d208bc4b952579b6dc4da13c0edb367951fba1fa44b398b442c2f3fab438", func := "loop.example/g01123/laws.FnExactJointTable", spec := "fnExactJointTable", recurses := true, named := ["math/bits.deBruijn32tab", "math/bits.deBruijn64tab"], plainKeys := false, apart := false, laid := [("math/bits.deBruijn32tab", laid_math_bits_deBruijn32tab), ("math/bits.deBruijn64tab", laid_math_bits_deBruijn64tab)] }
def FnExactJointTableSaid : Prop := fnExactJointTableRow.holds Tryd.pinned (OpenSpec.ofChange fnExactJointTableSpec)

/-- ITS FALSE NEIGHBOUR: 'it returns false'. Refute it at one input. -/
def fnExactJointTableWrong : ChangeSpec := { name := "fnExactJointTable", fn := fun _ => fun
  | [d] => { results := [.lit (.bool false)], args := [d] }
  | _ => none }
def FnExactJointTableWrongFalsely : Prop := fnExactJointTableRow.holds Tryd.pinned (OpenSpec.ofChange fnExactJointTableWrong)

/-- 'laws.FnExactAllSigns': WHATEVER THE INPUT: true; the input reads as it did. -/
def fnExactAllSignsSpec : ChangeSpec := { name := "fnExactAllSigns", fn := fun _ => fun
  | [d] => { results := [.lit (.bool true)], args := [d] }
  | _ => none }
def fnExactAllSignsRow : OpenClaim := { program := "ytmkldodkpijfjaadoor", sum := "4bd4d208bc4b952579b6dc4da13c0edb367951fba1fa44b398b442c2f3fab438", func := "loop.example/g01123/laws.FnExactAllSigns", spec := "fnExactAllSigns", recurses := true, named := ["math/bits.deBruijn32tab", "math/bits.deBruijn64tab"], plainKeys := false, apart := false, laid := [("math/bits.deBruijn32tab", laid_math_bits_deBruijn32tab), ("math/bits.deBruijn64tab", laid_math_bits_deBruijn64tab)] }
def FnExactAllSignsSaid : Prop := fnExactAllSignsRow.holds Tryd.pinned (OpenSpec.ofChange fnExactAllSignsSpec)

/-- ITS FALSE NEIGHBOUR: 'it returns false'. Refute it at one input. -/
def fnExactAllSignsWrong : ChangeSpec := { name := "fnExactAllSigns", fn := fun _ => fun
  | [d] => { results := [.lit (.bool false)], args := [d] }
  | _ => none }
def FnExactAllSignsWrongFalsely : Prop := fnExactAllSignsRow.holds Tryd.pinned (OpenSpec.ofChange fnExactAllSignsWrong)

/-- 'laws.FnExactRankSigns': WHATEVER THE INPUT: true; the input reads as it did. -/
def fnExactRankSignsSpec : ChangeSpec := { name := "fnExactRankSigns", fn := fun _ => fun
  | [d] => { results := [.lit (.bool true)], args := [d] }
  | _ => none }
def fnExactRankSignsRow : OpenClaim := { program := "ytmkldodkpijfjaadoor", sum := "4bd4d208bc4b952579b6dc4da13c0edb367951fba1fa44b398b442c2f3fab438", func := "loop.example/g01123/laws.FnExactRankSigns", spec := "fnExactRankSigns", unfollowed := true, recurses := true, named := ["math/bits.deBruijn32tab", "math/bits.deBruijn64tab"], plainKeys := false, apart := false, laid := [("math/bits.deBruijn32tab", laid_math_bits_deBruijn32tab), ("math/bits.deBruijn64tab", laid_math_bits_deBruijn64tab)] }
def FnExactRankSignsSaid : Prop := fnExactRankSignsRow.holds Tryd.pinned (OpenSpec.ofChange fnExactRankSignsSpec)

/-- ITS FALSE NEIGHBOUR: 'it returns false'. Refute it at one input. -/
def fnExactRankSignsWrong : ChangeSpec := { name := "fnExactRankSigns", fn := fun _ => fun
  | [d] => { results := [.lit (.bool false)], args := [d] }
  | _ => none }
def FnExactRankSignsWrongFalsely : Prop := fnExactRankSignsRow.holds Tryd.pinned (OpenSpec.ofChange fnExactRankSignsWrong)

/-- 'laws.FnExactSignsAt': WHATEVER THE INPUT: true; the input reads as it did. -/
def fnExactSignsAtSpec : ChangeSpec := { name := "fnExactSignsAt", fn := fun _ => fun
  | [d1, d2] => { results := [.lit (.bool true)], args := [d1, d2] }
  | _ => none }
def fnExactSignsAtRow : OpenClaim := { program := "ytmkldodkpijfjaadoor", sum := "4bd4d208bc4b952579b6dc4da13c0edb367951fba1fa44b398b442c2f3fab438", func := "loop.example/g01123/laws.FnExactSignsAt", spec := "fnExactSignsAt", unfollowed := true, recurses := true, named := ["math/bits.deBruijn32tab", "math/bits.deBruijn64tab"], plainKeys := false, apart := false, laid := [("math/bits.deBruijn32tab", laid_math_bits_deBruijn32tab), ("math/bits.deBruijn64tab", laid_math_bits_deBruijn64tab)] }
def FnExactSignsAtSaid : Prop := fnExactSignsAtRow.holds Tryd.pinned (OpenSpec.ofChange fnExactSignsAtSpec)

/-- ITS FALSE NEIGHBOUR: 'it returns false'. Refute it at one input. -/
def fnExactSignsAtWrong : ChangeSpec := { name := "fnExactSignsAt", fn := fun _ => fun
  | [d1, d2] => { results := [.lit (.bool false)], args := [d1, d2] }
  | _ => none }
def FnExactSignsAtWrongFalsely : Prop := fnExactSignsAtRow.holds Tryd.pinned (OpenSpec.ofChange fnExactSignsAtWrong)

/-- 'laws.FnExactNextSigns': WHATEVER THE INPUT: true; the input reads as it did. -/
def fnExactNextSignsSpec : ChangeSpec := { name := "fnExactNextSigns", fn := fun _ => fun
  | [d] => { results := [.lit (.bool true)], args := [d] }
  | _ => none }
def fnExactNextSignsRow : OpenClaim := { program := "ytmkldodkpijfjaadoor", sum := "4bd4d208bc4b952579b6dc4da13c0edb367951fba1fa44b398b442c2f3fab438", func := "loop.example/g01123/laws.FnExactNextSigns", spec := "fnExactNextSigns", unfollowed := true, recurses := true, named := ["math/bits.deBruijn32tab", "math/bits.deBruijn64tab"], plainKeys := false, apart := false, laid := [("math/bits.deBruijn32tab", laid_math_bits_deBruijn32tab), ("math/bits.deBruijn64tab", laid_math_bits_deBruijn64tab)] }
def FnExactNextSignsSaid : Prop := fnExactNextSignsRow.holds Tryd.pinned (OpenSpec.ofChange fnExactNextSignsSpec)

/-- ITS FALSE NEIGHBOUR: 'it returns false'. Refute it at one input. -/
def fnExactNextSignsWrong : ChangeSpec := { name := "fnExactNextSigns", fn := fun _ => fun
  | [d] => { results := [.lit (.bool false)], args := [d] }
  | _ => none }
def FnExactNextSignsWrongFalsely : Prop := fnExactNextSignsRow.holds Tryd.pinned (OpenSpec.ofChange fnExactNextSignsWrong)

/- THE SECOND FORM. 'bulk': how many values and letters a reading holds, each counted each time it is reached (what is shared counts as often as it is met; a slice's spare places count too). A statement '..UptoSaid' is the law's where the arguments, and the package variables that the reading takes, are together of bulk at most 1048576: NARROWER than '..Said'. Prove '..Said' where nothing that the law and all that it calls make is longer than what came in: it says more and counts as full. Else prove '..UptoSaid'. A law counts once. -/
mutual
def uptoBulk {H : Type} : DataW H → Nat
  | .lit (.string bytes) => bytes.length + 1
  | .lit _ => 1
  | .nil => 1
  | .ptr d => uptoBulk d + 1
  | .slice elems spare => uptoBulkAll elems + uptoBulkAll spare + 1
  | .agg parts => uptoBulkAll parts + 1
  | .iface _ d => uptoBulk d + 1
  | .map entries => uptoBulkEntries entries + 1
  | .held _ => 1
def uptoBulkAll {H : Type} : List (DataW H) → Nat
  | [] => 0
  | d :: r => uptoBulk d + uptoBulkAll r
def uptoBulkEntries {H : Type} : List (Lit × DataW H) → Nat
  | [] => 0
  | x :: r => uptoBulkEntry x + uptoBulkEntries r
def uptoBulkEntry {H : Type} : Lit × DataW H → Nat
  | (.string bytes, d) => bytes.length + uptoBulk d + 1
  | (_, d) => uptoBulk d + 1
 end
def uptoSmall : (H : Type) → List (DataW H) → Bool := fun _ ds => decide (uptoBulkAll ds ≤ 1048576)
def OpenSpec.upto (s : _root_.Go.ChangeSpec) : _root_.Go.OpenSpec := { _root_.Go.OpenSpec.ofChange s with cond := some uptoSmall }

/-- 'laws.FnExactMinusTable', WHERE WHAT IT READS IS OF BULK AT MOST 1048576: true; the input reads as it did. -/
def fnExactMinusTableUptoRow : OpenClaim := { program := "ytmkldodkpijfjaadoor", sum := "4bd4d208bc4b952579b6dc4da13c0edb367951fba1fa44b398b442c2f3fab438", func := "loop.example/g01123/laws.FnExactMinusTable", spec := "fnExactMinusTable", unfollowed := true, recurses := true, named := ["math/bits.deBruijn32tab", "math/bits.deBruijn64tab"], plainKeys := false, apart := false, laid := [("math/bits.deBruijn32tab", laid_math_bits_deBruijn32tab), ("math/bits.deBruijn64tab", laid_math_bits_deBruijn64tab)], narrowed := true }
def FnExactMinusTableUptoSaid : Prop := fnExactMinusTableUptoRow.holds Tryd.pinned (OpenSpec.upto fnExactMinusTableSpec)

/-- 'laws.FnExactInversionTable', WHERE WHAT IT READS IS OF BULK AT MOST 1048576: true; the input reads as it did. -/
def fnExactInversionTableUptoRow : OpenClaim := { program := "ytmkldodkpijfjaadoor", sum := "4bd4d208bc4b952579b6dc4da13c0edb367951fba1fa44b398b442c2f3fab438", func := "loop.example/g01123/laws.FnExactInversionTable", spec := "fnExactInversionTable", unfollowed := true, recurses := true, named := ["math/bits.deBruijn32tab", "math/bits.deBruijn64tab"], plainKeys := false, apart := false, laid := [("math/bits.deBruijn32tab", laid_math_bits_deBruijn32tab), ("math/bits.deBruijn64tab", laid_math_bits_deBruijn64tab)], narrowed := true }
def FnExactInversionTableUptoSaid : Prop := fnExactInversionTableUptoRow.holds Tryd.pinned (OpenSpec.upto fnExactInversionTableSpec)

/-- 'laws.FnExactJointTable', WHERE WHAT IT READS IS OF BULK AT MOST 1048576: true; the input reads as it did. -/
def fnExactJointTableUptoRow : OpenClaim := { program := "ytmkldodkpijfjaadoor", sum := "4bd4d208bc4b952579b6dc4da13c0edb367951fba1fa44b398b442c2f3fab438", func := "loop.example/g01123/laws.FnExactJointTable", spec := "fnExactJointTable", recurses := true, named := ["math/bits.deBruijn32tab", "math/bits.deBruijn64tab"], plainKeys := false, apart := false, laid := [("math/bits.deBruijn32tab", laid_math_bits_deBruijn32tab), ("math/bits.deBruijn64tab", laid_math_bits_deBruijn64tab)], narrowed := true }
def FnExactJointTableUptoSaid : Prop := fnExactJointTableUptoRow.holds Tryd.pinned (OpenSpec.upto fnExactJointTableSpec)

/-- 'laws.FnExactAllSigns', WHERE WHAT IT READS IS OF BULK AT MOST 1048576: true; the input reads as it did. -/
def fnExactAllSignsUptoRow : OpenClaim := { program := "ytmkldodkpijfjaadoor", sum := "4bd4d208bc4b952579b6dc4da13c0edb367951fba1fa44b398b442c2f3fab438", func := "loop.example/g01123/laws.FnExactAllSigns", spec := "fnExactAllSigns", recurses := true, named := ["math/bits.deBruijn32tab", "math/bits.deBruijn64tab"], plainKeys := false, apart := false, laid := [("math/bits.deBruijn32tab", laid_math_bits_deBruijn32tab), ("math/bits.deBruijn64tab", laid_math_bits_deBruijn64tab)], narrowed := true }
def FnExactAllSignsUptoSaid : Prop := fnExactAllSignsUptoRow.holds Tryd.pinned (OpenSpec.upto fnExactAllSignsSpec)

/-- 'laws.FnExactRankSigns', WHERE WHAT IT READS IS OF BULK AT MOST 1048576: true; the input reads as it did. -/
def fnExactRankSignsUptoRow : OpenClaim := { program := "ytmkldodkpijfjaadoor", sum := "4bd4d208bc4b952579b6dc4da13c0edb367951fba1fa44b398b442c2f3fab438", func := "loop.example/g01123/laws.FnExactRankSigns", spec := "fnExactRankSigns", unfollowed := true, recurses := true, named := ["math/bits.deBruijn32tab", "math/bits.deBruijn64tab"], plainKeys := false, apart := false, laid := [("math/bits.deBruijn32tab", laid_math_bits_deBruijn32tab), ("math/bits.deBruijn64tab", laid_math_bits_deBruijn64tab)], narrowed := true }
def FnExactRankSignsUptoSaid : Prop := fnExactRankSignsUptoRow.holds Tryd.pinned (OpenSpec.upto fnExactRankSignsSpec)

/-- 'laws.FnExactSignsAt', WHERE WHAT IT READS IS OF BULK AT MOST 1048576: true; the input reads as it did. -/
def fnExactSignsAtUptoRow : OpenClaim := { program := "ytmkldodkpijfjaadoor", sum := "4bd4d208bc4b952579b6dc4da13c0edb367951fba1fa44b398b442c2f3fab438", func := "loop.example/g01123/laws.FnExactSignsAt", spec := "fnExactSignsAt", unfollowed := true, recurses := true, named := ["math/bits.deBruijn32tab", "math/bits.deBruijn64tab"], plainKeys := false, apart := false, laid := [("math/bits.deBruijn32tab", laid_math_bits_deBruijn32tab), ("math/bits.deBruijn64tab", laid_math_bits_deBruijn64tab)], narrowed := true }
def FnExactSignsAtUptoSaid : Prop := fnExactSignsAtUptoRow.holds Tryd.pinned (OpenSpec.upto fnExactSignsAtSpec)

/-- 'laws.FnExactNextSigns', WHERE WHAT IT READS IS OF BULK AT MOST 1048576: true; the input reads as it did. -/
def fnExactNextSignsUptoRow : OpenClaim := { program := "ytmkldodkpijfjaadoor", sum := "4bd4d208bc4b952579b6dc4da13c0edb367951fba1fa44b398b442c2f3fab438", func := "loop.example/g01123/laws.FnExactNextSigns", spec := "fnExactNextSigns", unfollowed := true, recurses := true, named := ["math/bits.deBruijn32tab", "math/bits.deBruijn64tab"], plainKeys := false, apart := false, laid := [("math/bits.deBruijn32tab", laid_math_bits_deBruijn32tab), ("math/bits.deBruijn64tab", laid_math_bits_deBruijn64tab)], narrowed := true }
def FnExactNextSignsUptoSaid : Prop := fnExactNextSignsUptoRow.holds Tryd.pinned (OpenSpec.upto fnExactNextSignsSpec)

end Rows
end Go.Proofs.YtmkldodkpijfjaaDoor
