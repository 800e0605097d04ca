/-
  No cell of these rows narrows 'for every input' (looked for: loops, veiled, ifaces, maps, wideKeys, modest, calm, conditions, laid).
  DERIVED. THE GIVEN ROWS OF THIS SEAT. 7 by the template 'for every input the law returns true; each argument reads behind the call as it read before'; 0 by the template 'total and deterministic' (their statements: YtgdijjfipicodaaTotals.lean).
  GIVEN WITH THE SEED: the statements are not yours to turn. If you find one false, say at which input.
  Laid BY PROGRAM, IN A SANDBOX (cutbox-rows.mjs): the forced cells as the released guide's own fill.sh prints them over the translation 113da93c8d1cd81e… (all of the seat's roots in one cut). By AI agents, Wed Nov 11 2026. No macro, syntax, notation, axiom, sorry.
-/
import Derived.Test.YtgdijjfipicodaaChecked
import GoSem.Claim
import GoSem.ClaimJoined
import GoSem.ClaimMapViews
import Derived.JoinedTies
import Derived.KernelRfl
namespace Go.Proofs.Ytgdijjfipicodaa
/- THE CELL 'sum', in the pinned program and in every row, IS THE sha256 OF THE DUMP (.gsa) THAT YtgdijjfipicodaaProg.lean LOADS. Nothing in Lean hashes anything: it is a label: what it is worth is what the hold of that sum in a sandbox is worth. -/
noncomputable def Try.pinned : Pinned := { name := "ytgdijjfipicodaa", sum := "113da93c8d1cd81e1878e468fd064332412fcb54526c9bc77370f61521ce164b", checked := Try.checked }
namespace Rows
def none {H : Type} : Left H := { results := [], args := [] }

/-- 'laws.FnExactSymmetriesOf': WHATEVER THE INPUT: true; the input reads as it did. -/
def fnExactSymmetriesOfSpec : ChangeSpec := { name := "fnExactSymmetriesOf", fn := fun _ => fun
  | [d] => { results := [.lit (.bool true)], args := [d] }
  | _ => none }
def fnExactSymmetriesOfRow : OpenClaim := { program := "ytgdijjfipicodaa", sum := "113da93c8d1cd81e1878e468fd064332412fcb54526c9bc77370f61521ce164b", func := "loop.example/g01123/laws.FnExactSymmetriesOf", spec := "fnExactSymmetriesOf", unfollowed := true, recurses := true, apart := false }
def FnExactSymmetriesOfSaid : Prop := fnExactSymmetriesOfRow.holds Try.pinned (OpenSpec.ofChange fnExactSymmetriesOfSpec)

/-- ITS FALSE NEIGHBOUR: 'it returns false'. Refute it at one input. -/
def fnExactSymmetriesOfWrong : ChangeSpec := { name := "fnExactSymmetriesOf", fn := fun _ => fun
  | [d] => { results := [.lit (.bool false)], args := [d] }
  | _ => none }
def FnExactSymmetriesOfWrongFalsely : Prop := fnExactSymmetriesOfRow.holds Try.pinned (OpenSpec.ofChange fnExactSymmetriesOfWrong)

/-- 'laws.FnExactHalfTurnFormula': WHATEVER THE INPUT: true; the input reads as it did. -/
def fnExactHalfTurnFormulaSpec : ChangeSpec := { name := "fnExactHalfTurnFormula", fn := fun _ => fun
  | [d] => { results := [.lit (.bool true)], args := [d] }
  | _ => none }
def fnExactHalfTurnFormulaRow : OpenClaim := { program := "ytgdijjfipicodaa", sum := "113da93c8d1cd81e1878e468fd064332412fcb54526c9bc77370f61521ce164b", func := "loop.example/g01123/laws.FnExactHalfTurnFormula", spec := "fnExactHalfTurnFormula", recurses := true, apart := false }
def FnExactHalfTurnFormulaSaid : Prop := fnExactHalfTurnFormulaRow.holds Try.pinned (OpenSpec.ofChange fnExactHalfTurnFormulaSpec)

/-- ITS FALSE NEIGHBOUR: 'it returns false'. Refute it at one input. -/
def fnExactHalfTurnFormulaWrong : ChangeSpec := { name := "fnExactHalfTurnFormula", fn := fun _ => fun
  | [d] => { results := [.lit (.bool false)], args := [d] }
  | _ => none }
def FnExactHalfTurnFormulaWrongFalsely : Prop := fnExactHalfTurnFormulaRow.holds Try.pinned (OpenSpec.ofChange fnExactHalfTurnFormulaWrong)

/-- 'laws.FnExactMirrorFormula': WHATEVER THE INPUT: true; the input reads as it did. -/
def fnExactMirrorFormulaSpec : ChangeSpec := { name := "fnExactMirrorFormula", fn := fun _ => fun
  | [d] => { results := [.lit (.bool true)], args := [d] }
  | _ => none }
def fnExactMirrorFormulaRow : OpenClaim := { program := "ytgdijjfipicodaa", sum := "113da93c8d1cd81e1878e468fd064332412fcb54526c9bc77370f61521ce164b", func := "loop.example/g01123/laws.FnExactMirrorFormula", spec := "fnExactMirrorFormula", recurses := true, apart := false }
def FnExactMirrorFormulaSaid : Prop := fnExactMirrorFormulaRow.holds Try.pinned (OpenSpec.ofChange fnExactMirrorFormulaSpec)

/-- ITS FALSE NEIGHBOUR: 'it returns false'. Refute it at one input. -/
def fnExactMirrorFormulaWrong : ChangeSpec := { name := "fnExactMirrorFormula", fn := fun _ => fun
  | [d] => { results := [.lit (.bool false)], args := [d] }
  | _ => none }
def FnExactMirrorFormulaWrongFalsely : Prop := fnExactMirrorFormulaRow.holds Try.pinned (OpenSpec.ofChange fnExactMirrorFormulaWrong)

/-- 'laws.FnExactOrbitOf': WHATEVER THE INPUT: true; the input reads as it did. -/
def fnExactOrbitOfSpec : ChangeSpec := { name := "fnExactOrbitOf", fn := fun _ => fun
  | [d] => { results := [.lit (.bool true)], args := [d] }
  | _ => none }
def fnExactOrbitOfRow : OpenClaim := { program := "ytgdijjfipicodaa", sum := "113da93c8d1cd81e1878e468fd064332412fcb54526c9bc77370f61521ce164b", func := "loop.example/g01123/laws.FnExactOrbitOf", spec := "fnExactOrbitOf", unfollowed := true, recurses := true, apart := false }
def FnExactOrbitOfSaid : Prop := fnExactOrbitOfRow.holds Try.pinned (OpenSpec.ofChange fnExactOrbitOfSpec)

/-- ITS FALSE NEIGHBOUR: 'it returns false'. Refute it at one input. -/
def fnExactOrbitOfWrong : ChangeSpec := { name := "fnExactOrbitOf", fn := fun _ => fun
  | [d] => { results := [.lit (.bool false)], args := [d] }
  | _ => none }
def FnExactOrbitOfWrongFalsely : Prop := fnExactOrbitOfRow.holds Try.pinned (OpenSpec.ofChange fnExactOrbitOfWrong)

/-- 'laws.FnExactFromLeftHalf': WHATEVER THE INPUT: true; the input reads as it did. -/
def fnExactFromLeftHalfSpec : ChangeSpec := { name := "fnExactFromLeftHalf", fn := fun _ => fun
  | [d] => { results := [.lit (.bool true)], args := [d] }
  | _ => none }
def fnExactFromLeftHalfRow : OpenClaim := { program := "ytgdijjfipicodaa", sum := "113da93c8d1cd81e1878e468fd064332412fcb54526c9bc77370f61521ce164b", func := "loop.example/g01123/laws.FnExactFromLeftHalf", spec := "fnExactFromLeftHalf", unfollowed := true, recurses := true, apart := false }
def FnExactFromLeftHalfSaid : Prop := fnExactFromLeftHalfRow.holds Try.pinned (OpenSpec.ofChange fnExactFromLeftHalfSpec)

/-- ITS FALSE NEIGHBOUR: 'it returns false'. Refute it at one input. -/
def fnExactFromLeftHalfWrong : ChangeSpec := { name := "fnExactFromLeftHalf", fn := fun _ => fun
  | [d] => { results := [.lit (.bool false)], args := [d] }
  | _ => none }
def FnExactFromLeftHalfWrongFalsely : Prop := fnExactFromLeftHalfRow.holds Try.pinned (OpenSpec.ofChange fnExactFromLeftHalfWrong)

/-- 'laws.FnExactFromUpperHalf': WHATEVER THE INPUT: true; the input reads as it did. -/
def fnExactFromUpperHalfSpec : ChangeSpec := { name := "fnExactFromUpperHalf", fn := fun _ => fun
  | [d] => { results := [.lit (.bool true)], args := [d] }
  | _ => none }
def fnExactFromUpperHalfRow : OpenClaim := { program := "ytgdijjfipicodaa", sum := "113da93c8d1cd81e1878e468fd064332412fcb54526c9bc77370f61521ce164b", func := "loop.example/g01123/laws.FnExactFromUpperHalf", spec := "fnExactFromUpperHalf", unfollowed := true, recurses := true, apart := false }
def FnExactFromUpperHalfSaid : Prop := fnExactFromUpperHalfRow.holds Try.pinned (OpenSpec.ofChange fnExactFromUpperHalfSpec)

/-- ITS FALSE NEIGHBOUR: 'it returns false'. Refute it at one input. -/
def fnExactFromUpperHalfWrong : ChangeSpec := { name := "fnExactFromUpperHalf", fn := fun _ => fun
  | [d] => { results := [.lit (.bool false)], args := [d] }
  | _ => none }
def FnExactFromUpperHalfWrongFalsely : Prop := fnExactFromUpperHalfRow.holds Try.pinned (OpenSpec.ofChange fnExactFromUpperHalfWrong)

/-- 'laws.FnExactSolutionOf': WHATEVER THE INPUT: true; the input reads as it did. -/
def fnExactSolutionOfSpec : ChangeSpec := { name := "fnExactSolutionOf", fn := fun _ => fun
  | [d] => { results := [.lit (.bool true)], args := [d] }
  | _ => none }
def fnExactSolutionOfRow : OpenClaim := { program := "ytgdijjfipicodaa", sum := "113da93c8d1cd81e1878e468fd064332412fcb54526c9bc77370f61521ce164b", func := "loop.example/g01123/laws.FnExactSolutionOf", spec := "fnExactSolutionOf", unfollowed := true, recurses := true, apart := false }
def FnExactSolutionOfSaid : Prop := fnExactSolutionOfRow.holds Try.pinned (OpenSpec.ofChange fnExactSolutionOfSpec)

/-- ITS FALSE NEIGHBOUR: 'it returns false'. Refute it at one input. -/
def fnExactSolutionOfWrong : ChangeSpec := { name := "fnExactSolutionOf", fn := fun _ => fun
  | [d] => { results := [.lit (.bool false)], args := [d] }
  | _ => none }
def FnExactSolutionOfWrongFalsely : Prop := fnExactSolutionOfRow.holds Try.pinned (OpenSpec.ofChange fnExactSolutionOfWrong)

/- THE SECOND FORM. 'bulk': how many values and letters a reading holds, each counted each time it is reached (what is shared counts as often as it is met; a slice's spare places count too). A statement '..UptoSaid' is the law's where the arguments, and the package variables that the reading takes, are together of bulk at most 1048576: NARROWER than '..Said'. Prove '..Said' where nothing that the law and all that it calls make is longer than what came in: it says more and counts as full. Else prove '..UptoSaid'. A law counts once. -/
mutual
def uptoBulk {H : Type} : DataW H → Nat
  | .lit (.string bytes) => bytes.length + 1
  | .lit _ => 1
  | .nil => 1
  | .ptr d => uptoBulk d + 1
  | .slice elems spare => uptoBulkAll elems + uptoBulkAll spare + 1
  | .agg parts => uptoBulkAll parts + 1
  | .iface _ d => uptoBulk d + 1
  | .map entries => uptoBulkEntries entries + 1
  | .held _ => 1
def uptoBulkAll {H : Type} : List (DataW H) → Nat
  | [] => 0
  | d :: r => uptoBulk d + uptoBulkAll r
def uptoBulkEntries {H : Type} : List (Lit × DataW H) → Nat
  | [] => 0
  | x :: r => uptoBulkEntry x + uptoBulkEntries r
def uptoBulkEntry {H : Type} : Lit × DataW H → Nat
  | (.string bytes, d) => bytes.length + uptoBulk d + 1
  | (_, d) => uptoBulk d + 1
 end
def uptoSmall : (H : Type) → List (DataW H) → Bool := fun _ ds => decide (uptoBulkAll ds ≤ 1048576)
def OpenSpec.upto (s : _root_.Go.ChangeSpec) : _root_.Go.OpenSpec := { _root_.Go.OpenSpec.ofChange s with cond := some uptoSmall }

/-- 'laws.FnExactSymmetriesOf', WHERE WHAT IT READS IS OF BULK AT MOST 1048576: true; the input reads as it did. -/
def fnExactSymmetriesOfUptoRow : OpenClaim := { program := "ytgdijjfipicodaa", sum := "113da93c8d1cd81e1878e468fd064332412fcb54526c9bc77370f61521ce164b", func := "loop.example/g01123/laws.FnExactSymmetriesOf", spec := "fnExactSymmetriesOf", unfollowed := true, recurses := true, apart := false, narrowed := true }
def FnExactSymmetriesOfUptoSaid : Prop := fnExactSymmetriesOfUptoRow.holds Try.pinned (OpenSpec.upto fnExactSymmetriesOfSpec)

/-- 'laws.FnExactHalfTurnFormula', WHERE WHAT IT READS IS OF BULK AT MOST 1048576: true; the input reads as it did. -/
def fnExactHalfTurnFormulaUptoRow : OpenClaim := { program := "ytgdijjfipicodaa", sum := "113da93c8d1cd81e1878e468fd064332412fcb54526c9bc77370f61521ce164b", func := "loop.example/g01123/laws.FnExactHalfTurnFormula", spec := "fnExactHalfTurnFormula", recurses := true, apart := false, narrowed := true }
def FnExactHalfTurnFormulaUptoSaid : Prop := fnExactHalfTurnFormulaUptoRow.holds Try.pinned (OpenSpec.upto fnExactHalfTurnFormulaSpec)

/-- 'laws.FnExactMirrorFormula', WHERE WHAT IT READS IS OF BULK AT MOST 1048576: true; the input reads as it did. -/
def fnExactMirrorFormulaUptoRow : OpenClaim := { program := "ytgdijjfipicodaa", sum := "113da93c8d1cd81e1878e468fd064332412fcb54526c9bc77370f61521ce164b", func := "loop.example/g01123/laws.FnExactMirrorFormula", spec := "fnExactMirrorFormula", recurses := true, apart := false, narrowed := true }
def FnExactMirrorFormulaUptoSaid : Prop := fnExactMirrorFormulaUptoRow.holds Try.pinned (OpenSpec.upto fnExactMirrorFormulaSpec)

/-- 'laws.FnExactOrbitOf', WHERE WHAT IT READS IS OF BULK AT MOST 1048576: true; the input reads as it did. -/
def fnExactOrbitOfUptoRow : OpenClaim := { program := "ytgdijjfipicodaa", sum := "113da93c8d1cd81e1878e468fd064332412fcb54526c9bc77370f61521ce164b", func := "loop.example/g01123/laws.FnExactOrbitOf", spec := "fnExactOrbitOf", unfollowed := true, recurses := true, apart := false, narrowed := true }
def FnExactOrbitOfUptoSaid : Prop := fnExactOrbitOfUptoRow.holds Try.pinned (OpenSpec.upto fnExactOrbitOfSpec)

/-- 'laws.FnExactFromLeftHalf', WHERE WHAT IT READS IS OF BULK AT MOST 1048576: true; the input reads as it did. -/
def fnExactFromLeftHalfUptoRow : OpenClaim := { program := "ytgdijjfipicodaa", sum := "113da93c8d1cd81e1878e468fd064332412fcb54526c9bc77370f61521ce164b", func := "loop.example/g01123/laws.FnExactFromLeftHalf", spec := "fnExactFromLeftHalf", unfollowed := true, recurses := true, apart := false, narrowed := true }
def FnExactFromLeftHalfUptoSaid : Prop := fnExactFromLeftHalfUptoRow.holds Try.pinned (OpenSpec.upto fnExactFromLeftHalfSpec)

/-- 'laws.FnExactFromUpperHalf', WHERE WHAT IT READS IS OF BULK AT MOST 1048576: true; the input reads as it did. -/
def fnExactFromUpperHalfUptoRow : OpenClaim := { program := "ytgdijjfipicodaa", sum := "113da93c8d1cd81e1878e468fd064332412fcb54526c9bc77370f61521ce164b", func := "loop.example/g01123/laws.FnExactFromUpperHalf", spec := "fnExactFromUpperHalf", unfollowed := true, recurses := true, apart := false, narrowed := true }
def FnExactFromUpperHalfUptoSaid : Prop := fnExactFromUpperHalfUptoRow.holds Try.pinned (OpenSpec.upto fnExactFromUpperHalfSpec)

/-- 'laws.FnExactSolutionOf', WHERE WHAT IT READS IS OF BULK AT MOST 1048576: true; the input reads as it did. -/
def fnExactSolutionOfUptoRow : OpenClaim := { program := "ytgdijjfipicodaa", sum := "113da93c8d1cd81e1878e468fd064332412fcb54526c9bc77370f61521ce164b", func := "loop.example/g01123/laws.FnExactSolutionOf", spec := "fnExactSolutionOf", unfollowed := true, recurses := true, apart := false, narrowed := true }
def FnExactSolutionOfUptoSaid : Prop := fnExactSolutionOfUptoRow.holds Try.pinned (OpenSpec.upto fnExactSolutionOfSpec)

end Rows
end Go.Proofs.Ytgdijjfipicodaa
