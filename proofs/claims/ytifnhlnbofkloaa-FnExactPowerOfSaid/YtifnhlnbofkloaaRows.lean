/-
  No cell of these rows narrows 'for every input' (looked for: loops, veiled, ifaces, maps, wideKeys, modest, calm, conditions, laid).
  DERIVED. THE GIVEN ROWS OF THIS SEAT. 7 by the template 'for every input the law returns true; each argument reads behind the call as it read before'; 0 by the template 'total and deterministic' (their statements: YtifnhlnbofkloaaTotals.lean).
  GIVEN WITH THE SEED: the statements are not yours to turn. If you find one false, say at which input.
  Laid BY PROGRAM, IN A SANDBOX (cutbox-rows.mjs): the forced cells as the released guide's own fill.sh prints them over the translation 22c582170319325f… (all of the seat's roots in one cut). By AI agents, Wed Nov 11 2026. No macro, syntax, notation, axiom, sorry.
-/
import Derived.Test.YtifnhlnbofkloaaChecked
import GoSem.Claim
import GoSem.ClaimJoined
import GoSem.ClaimMapViews
import Derived.JoinedTies
import Derived.KernelRfl
namespace Go.Proofs.Ytifnhlnbofkloaa
/- THE CELL 'sum', in the pinned program and in every row, IS THE sha256 OF THE DUMP (.gsa) THAT YtifnhlnbofkloaaProg.lean LOADS. Nothing in Lean hashes anything: it is a label: what it is worth is what the hold of that sum in a sandbox is worth. -/
noncomputable def Try.pinned : Pinned := { name := "ytifnhlnbofkloaa", sum := "22c582170319325ff767a94a29992733868d9d42434a7edc915283c0798a634e", checked := Try.checked }
namespace Rows
def none {H : Type} : Left H := { results := [], args := [] }

/-- 'laws.FnExactKindsOf': WHATEVER THE INPUT: true; the input reads as it did. -/
def fnExactKindsOfSpec : ChangeSpec := { name := "fnExactKindsOf", fn := fun _ => fun
  | [d] => { results := [.lit (.bool true)], args := [d] }
  | _ => none }
def fnExactKindsOfRow : OpenClaim := { program := "ytifnhlnbofkloaa", sum := "22c582170319325ff767a94a29992733868d9d42434a7edc915283c0798a634e", func := "loop.example/g01123/laws.FnExactKindsOf", spec := "fnExactKindsOf", unfollowed := true, recurses := true, apart := false }
def FnExactKindsOfSaid : Prop := fnExactKindsOfRow.holds Try.pinned (OpenSpec.ofChange fnExactKindsOfSpec)

/-- ITS FALSE NEIGHBOUR: 'it returns false'. Refute it at one input. -/
def fnExactKindsOfWrong : ChangeSpec := { name := "fnExactKindsOf", fn := fun _ => fun
  | [d] => { results := [.lit (.bool false)], args := [d] }
  | _ => none }
def FnExactKindsOfWrongFalsely : Prop := fnExactKindsOfRow.holds Try.pinned (OpenSpec.ofChange fnExactKindsOfWrong)

/-- 'laws.FnExactFromKinds': WHATEVER THE INPUT: true; the input reads as it did. -/
def fnExactFromKindsSpec : ChangeSpec := { name := "fnExactFromKinds", fn := fun _ => fun
  | [d] => { results := [.lit (.bool true)], args := [d] }
  | _ => none }
def fnExactFromKindsRow : OpenClaim := { program := "ytifnhlnbofkloaa", sum := "22c582170319325ff767a94a29992733868d9d42434a7edc915283c0798a634e", func := "loop.example/g01123/laws.FnExactFromKinds", spec := "fnExactFromKinds", unfollowed := true, recurses := true, apart := false }
def FnExactFromKindsSaid : Prop := fnExactFromKindsRow.holds Try.pinned (OpenSpec.ofChange fnExactFromKindsSpec)

/-- ITS FALSE NEIGHBOUR: 'it returns false'. Refute it at one input. -/
def fnExactFromKindsWrong : ChangeSpec := { name := "fnExactFromKinds", fn := fun _ => fun
  | [d] => { results := [.lit (.bool false)], args := [d] }
  | _ => none }
def FnExactFromKindsWrongFalsely : Prop := fnExactFromKindsRow.holds Try.pinned (OpenSpec.ofChange fnExactFromKindsWrong)

/-- 'laws.FnExactKindCounts': WHATEVER THE INPUT: true; the input reads as it did. -/
def fnExactKindCountsSpec : ChangeSpec := { name := "fnExactKindCounts", fn := fun _ => fun
  | [d] => { results := [.lit (.bool true)], args := [d] }
  | _ => none }
def fnExactKindCountsRow : OpenClaim := { program := "ytifnhlnbofkloaa", sum := "22c582170319325ff767a94a29992733868d9d42434a7edc915283c0798a634e", func := "loop.example/g01123/laws.FnExactKindCounts", spec := "fnExactKindCounts", unfollowed := true, recurses := true, apart := false }
def FnExactKindCountsSaid : Prop := fnExactKindCountsRow.holds Try.pinned (OpenSpec.ofChange fnExactKindCountsSpec)

/-- ITS FALSE NEIGHBOUR: 'it returns false'. Refute it at one input. -/
def fnExactKindCountsWrong : ChangeSpec := { name := "fnExactKindCounts", fn := fun _ => fun
  | [d] => { results := [.lit (.bool false)], args := [d] }
  | _ => none }
def FnExactKindCountsWrongFalsely : Prop := fnExactKindCountsRow.holds Try.pinned (OpenSpec.ofChange fnExactKindCountsWrong)

/-- 'laws.FnExactWeightOf': WHATEVER THE INPUT: true; the input reads as it did. -/
def fnExactWeightOfSpec : ChangeSpec := { name := "fnExactWeightOf", fn := fun _ => fun
  | [d1, d2, d3, d4] => { results := [.lit (.bool true)], args := [d1, d2, d3, d4] }
  | _ => none }
def fnExactWeightOfRow : OpenClaim := { program := "ytifnhlnbofkloaa", sum := "22c582170319325ff767a94a29992733868d9d42434a7edc915283c0798a634e", func := "loop.example/g01123/laws.FnExactWeightOf", spec := "fnExactWeightOf", unfollowed := true, recurses := true, apart := false }
def FnExactWeightOfSaid : Prop := fnExactWeightOfRow.holds Try.pinned (OpenSpec.ofChange fnExactWeightOfSpec)

/-- ITS FALSE NEIGHBOUR: 'it returns false'. Refute it at one input. -/
def fnExactWeightOfWrong : ChangeSpec := { name := "fnExactWeightOf", fn := fun _ => fun
  | [d1, d2, d3, d4] => { results := [.lit (.bool false)], args := [d1, d2, d3, d4] }
  | _ => none }
def FnExactWeightOfWrongFalsely : Prop := fnExactWeightOfRow.holds Try.pinned (OpenSpec.ofChange fnExactWeightOfWrong)

/-- 'laws.FnExactPowerOf': WHATEVER THE INPUT: true; the input reads as it did. -/
def fnExactPowerOfSpec : ChangeSpec := { name := "fnExactPowerOf", fn := fun _ => fun
  | [d1, d2] => { results := [.lit (.bool true)], args := [d1, d2] }
  | _ => none }
def fnExactPowerOfRow : OpenClaim := { program := "ytifnhlnbofkloaa", sum := "22c582170319325ff767a94a29992733868d9d42434a7edc915283c0798a634e", func := "loop.example/g01123/laws.FnExactPowerOf", spec := "fnExactPowerOf", unfollowed := true, recurses := true, apart := false }
def FnExactPowerOfSaid : Prop := fnExactPowerOfRow.holds Try.pinned (OpenSpec.ofChange fnExactPowerOfSpec)

/-- ITS FALSE NEIGHBOUR: 'it returns false'. Refute it at one input. -/
def fnExactPowerOfWrong : ChangeSpec := { name := "fnExactPowerOf", fn := fun _ => fun
  | [d1, d2] => { results := [.lit (.bool false)], args := [d1, d2] }
  | _ => none }
def FnExactPowerOfWrongFalsely : Prop := fnExactPowerOfRow.holds Try.pinned (OpenSpec.ofChange fnExactPowerOfWrong)

/-- 'laws.FnExactCondense': WHATEVER THE INPUT: true; the input reads as it did. -/
def fnExactCondenseSpec : ChangeSpec := { name := "fnExactCondense", fn := fun _ => fun
  | [d1, d2] => { results := [.lit (.bool true)], args := [d1, d2] }
  | _ => none }
def fnExactCondenseRow : OpenClaim := { program := "ytifnhlnbofkloaa", sum := "22c582170319325ff767a94a29992733868d9d42434a7edc915283c0798a634e", func := "loop.example/g01123/laws.FnExactCondense", spec := "fnExactCondense", unfollowed := true, recurses := true, apart := false }
def FnExactCondenseSaid : Prop := fnExactCondenseRow.holds Try.pinned (OpenSpec.ofChange fnExactCondenseSpec)

/-- ITS FALSE NEIGHBOUR: 'it returns false'. Refute it at one input. -/
def fnExactCondenseWrong : ChangeSpec := { name := "fnExactCondense", fn := fun _ => fun
  | [d1, d2] => { results := [.lit (.bool false)], args := [d1, d2] }
  | _ => none }
def FnExactCondenseWrongFalsely : Prop := fnExactCondenseRow.holds Try.pinned (OpenSpec.ofChange fnExactCondenseWrong)

/-- 'laws.FnExactCondenseSteps': WHATEVER THE INPUT: true; the input reads as it did. -/
def fnExactCondenseStepsSpec : ChangeSpec := { name := "fnExactCondenseSteps", fn := fun _ => fun
  | [d1, d2] => { results := [.lit (.bool true)], args := [d1, d2] }
  | _ => none }
def fnExactCondenseStepsRow : OpenClaim := { program := "ytifnhlnbofkloaa", sum := "22c582170319325ff767a94a29992733868d9d42434a7edc915283c0798a634e", func := "loop.example/g01123/laws.FnExactCondenseSteps", spec := "fnExactCondenseSteps", unfollowed := true, recurses := true, apart := false }
def FnExactCondenseStepsSaid : Prop := fnExactCondenseStepsRow.holds Try.pinned (OpenSpec.ofChange fnExactCondenseStepsSpec)

/-- ITS FALSE NEIGHBOUR: 'it returns false'. Refute it at one input. -/
def fnExactCondenseStepsWrong : ChangeSpec := { name := "fnExactCondenseSteps", fn := fun _ => fun
  | [d1, d2] => { results := [.lit (.bool false)], args := [d1, d2] }
  | _ => none }
def FnExactCondenseStepsWrongFalsely : Prop := fnExactCondenseStepsRow.holds Try.pinned (OpenSpec.ofChange fnExactCondenseStepsWrong)

/- THE SECOND FORM. 'bulk': how many values and letters a reading holds, each counted each time it is reached (what is shared counts as often as it is met; a slice's spare places count too). A statement '..UptoSaid' is the law's where the arguments, and the package variables that the reading takes, are together of bulk at most 1048576: NARROWER than '..Said'. Prove '..Said' where nothing that the law and all that it calls make is longer than what came in: it says more and counts as full. Else prove '..UptoSaid'. A law counts once. -/
mutual
def uptoBulk {H : Type} : DataW H → Nat
  | .lit (.string bytes) => bytes.length + 1
  | .lit _ => 1
  | .nil => 1
  | .ptr d => uptoBulk d + 1
  | .slice elems spare => uptoBulkAll elems + uptoBulkAll spare + 1
  | .agg parts => uptoBulkAll parts + 1
  | .iface _ d => uptoBulk d + 1
  | .map entries => uptoBulkEntries entries + 1
  | .held _ => 1
def uptoBulkAll {H : Type} : List (DataW H) → Nat
  | [] => 0
  | d :: r => uptoBulk d + uptoBulkAll r
def uptoBulkEntries {H : Type} : List (Lit × DataW H) → Nat
  | [] => 0
  | x :: r => uptoBulkEntry x + uptoBulkEntries r
def uptoBulkEntry {H : Type} : Lit × DataW H → Nat
  | (.string bytes, d) => bytes.length + uptoBulk d + 1
  | (_, d) => uptoBulk d + 1
 end
def uptoSmall : (H : Type) → List (DataW H) → Bool := fun _ ds => decide (uptoBulkAll ds ≤ 1048576)
def OpenSpec.upto (s : _root_.Go.ChangeSpec) : _root_.Go.OpenSpec := { _root_.Go.OpenSpec.ofChange s with cond := some uptoSmall }

/-- 'laws.FnExactKindsOf', WHERE WHAT IT READS IS OF BULK AT MOST 1048576: true; the input reads as it did. -/
def fnExactKindsOfUptoRow : OpenClaim := { program := "ytifnhlnbofkloaa", sum := "22c582170319325ff767a94a29992733868d9d42434a7edc915283c0798a634e", func := "loop.example/g01123/laws.FnExactKindsOf", spec := "fnExactKindsOf", unfollowed := true, recurses := true, apart := false, narrowed := true }
def FnExactKindsOfUptoSaid : Prop := fnExactKindsOfUptoRow.holds Try.pinned (OpenSpec.upto fnExactKindsOfSpec)

/-- 'laws.FnExactFromKinds', WHERE WHAT IT READS IS OF BULK AT MOST 1048576: true; the input reads as it did. -/
def fnExactFromKindsUptoRow : OpenClaim := { program := "ytifnhlnbofkloaa", sum := "22c582170319325ff767a94a29992733868d9d42434a7edc915283c0798a634e", func := "loop.example/g01123/laws.FnExactFromKinds", spec := "fnExactFromKinds", unfollowed := true, recurses := true, apart := false, narrowed := true }
def FnExactFromKindsUptoSaid : Prop := fnExactFromKindsUptoRow.holds Try.pinned (OpenSpec.upto fnExactFromKindsSpec)

/-- 'laws.FnExactKindCounts', WHERE WHAT IT READS IS OF BULK AT MOST 1048576: true; the input reads as it did. -/
def fnExactKindCountsUptoRow : OpenClaim := { program := "ytifnhlnbofkloaa", sum := "22c582170319325ff767a94a29992733868d9d42434a7edc915283c0798a634e", func := "loop.example/g01123/laws.FnExactKindCounts", spec := "fnExactKindCounts", unfollowed := true, recurses := true, apart := false, narrowed := true }
def FnExactKindCountsUptoSaid : Prop := fnExactKindCountsUptoRow.holds Try.pinned (OpenSpec.upto fnExactKindCountsSpec)

/-- 'laws.FnExactWeightOf', WHERE WHAT IT READS IS OF BULK AT MOST 1048576: true; the input reads as it did. -/
def fnExactWeightOfUptoRow : OpenClaim := { program := "ytifnhlnbofkloaa", sum := "22c582170319325ff767a94a29992733868d9d42434a7edc915283c0798a634e", func := "loop.example/g01123/laws.FnExactWeightOf", spec := "fnExactWeightOf", unfollowed := true, recurses := true, apart := false, narrowed := true }
def FnExactWeightOfUptoSaid : Prop := fnExactWeightOfUptoRow.holds Try.pinned (OpenSpec.upto fnExactWeightOfSpec)

/-- 'laws.FnExactPowerOf', WHERE WHAT IT READS IS OF BULK AT MOST 1048576: true; the input reads as it did. -/
def fnExactPowerOfUptoRow : OpenClaim := { program := "ytifnhlnbofkloaa", sum := "22c582170319325ff767a94a29992733868d9d42434a7edc915283c0798a634e", func := "loop.example/g01123/laws.FnExactPowerOf", spec := "fnExactPowerOf", unfollowed := true, recurses := true, apart := false, narrowed := true }
def FnExactPowerOfUptoSaid : Prop := fnExactPowerOfUptoRow.holds Try.pinned (OpenSpec.upto fnExactPowerOfSpec)

/-- 'laws.FnExactCondense', WHERE WHAT IT READS IS OF BULK AT MOST 1048576: true; the input reads as it did. -/
def fnExactCondenseUptoRow : OpenClaim := { program := "ytifnhlnbofkloaa", sum := "22c582170319325ff767a94a29992733868d9d42434a7edc915283c0798a634e", func := "loop.example/g01123/laws.FnExactCondense", spec := "fnExactCondense", unfollowed := true, recurses := true, apart := false, narrowed := true }
def FnExactCondenseUptoSaid : Prop := fnExactCondenseUptoRow.holds Try.pinned (OpenSpec.upto fnExactCondenseSpec)

/-- 'laws.FnExactCondenseSteps', WHERE WHAT IT READS IS OF BULK AT MOST 1048576: true; the input reads as it did. -/
def fnExactCondenseStepsUptoRow : OpenClaim := { program := "ytifnhlnbofkloaa", sum := "22c582170319325ff767a94a29992733868d9d42434a7edc915283c0798a634e", func := "loop.example/g01123/laws.FnExactCondenseSteps", spec := "fnExactCondenseSteps", unfollowed := true, recurses := true, apart := false, narrowed := true }
def FnExactCondenseStepsUptoSaid : Prop := fnExactCondenseStepsUptoRow.holds Try.pinned (OpenSpec.upto fnExactCondenseStepsSpec)

end Rows
end Go.Proofs.Ytifnhlnbofkloaa
