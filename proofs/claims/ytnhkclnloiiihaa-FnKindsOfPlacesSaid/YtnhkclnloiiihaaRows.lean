/-
  No cell of these rows narrows 'for every input' (looked for: loops, veiled, ifaces, maps, wideKeys, modest, calm, conditions, laid).
  DERIVED. THE GIVEN ROWS OF THIS SEAT. 6 by the template 'for every input the law returns true; each argument reads behind the call as it read before'; 0 by the template 'total and deterministic' (their statements: YtnhkclnloiiihaaTotals.lean).
  GIVEN WITH THE SEED: the statements are not yours to turn. If you find one false, say at which input.
  Laid BY PROGRAM, IN A SANDBOX (cutbox-rows.mjs): the forced cells as the released guide's own fill.sh prints them over the translation c1a6f554bb87f47d… (all of the seat's roots in one cut). By AI agents, Wed Nov 11 2026. No macro, syntax, notation, axiom, sorry.
-/
import Derived.Test.YtnhkclnloiiihaaChecked
import GoSem.Claim
import GoSem.ClaimJoined
import GoSem.ClaimMapViews
import Derived.JoinedTies
import Derived.KernelRfl
namespace Go.Proofs.Ytnhkclnloiiihaa
/- THE CELL 'sum', in the pinned program and in every row, IS THE sha256 OF THE DUMP (.gsa) THAT YtnhkclnloiiihaaProg.lean LOADS. Nothing in Lean hashes anything: it is a label: what it is worth is what the hold of that sum in a sandbox is worth. -/
noncomputable def Try.pinned : Pinned := { name := "ytnhkclnloiiihaa", sum := "c1a6f554bb87f47dd454586b98e33a63e5d6a55f2c608905c5076b91f5d9ac0e", checked := Try.checked }
namespace Rows
def none {H : Type} : Left H := { results := [], args := [] }

/-- 'laws.FnOperatorsJoin': WHATEVER THE INPUT: true; the input reads as it did. -/
def fnOperatorsJoinSpec : ChangeSpec := { name := "fnOperatorsJoin", fn := fun _ => fun
  | [d1, d2] => { results := [.lit (.bool true)], args := [d1, d2] }
  | _ => none }
def fnOperatorsJoinRow : OpenClaim := { program := "ytnhkclnloiiihaa", sum := "c1a6f554bb87f47dd454586b98e33a63e5d6a55f2c608905c5076b91f5d9ac0e", func := "loop.example/g01123/laws.FnOperatorsJoin", spec := "fnOperatorsJoin", unfollowed := true, recurses := true, apart := false }
def FnOperatorsJoinSaid : Prop := fnOperatorsJoinRow.holds Try.pinned (OpenSpec.ofChange fnOperatorsJoinSpec)

/-- ITS FALSE NEIGHBOUR: 'it returns false'. Refute it at one input. -/
def fnOperatorsJoinWrong : ChangeSpec := { name := "fnOperatorsJoin", fn := fun _ => fun
  | [d1, d2] => { results := [.lit (.bool false)], args := [d1, d2] }
  | _ => none }
def FnOperatorsJoinWrongFalsely : Prop := fnOperatorsJoinRow.holds Try.pinned (OpenSpec.ofChange fnOperatorsJoinWrong)

/-- 'laws.FnPatternsListed': WHATEVER THE INPUT: true; the input reads as it did. -/
def fnPatternsListedSpec : ChangeSpec := { name := "fnPatternsListed", fn := fun _ => fun
  | [d1, d2] => { results := [.lit (.bool true)], args := [d1, d2] }
  | _ => none }
def fnPatternsListedRow : OpenClaim := { program := "ytnhkclnloiiihaa", sum := "c1a6f554bb87f47dd454586b98e33a63e5d6a55f2c608905c5076b91f5d9ac0e", func := "loop.example/g01123/laws.FnPatternsListed", spec := "fnPatternsListed", unfollowed := true, recurses := true, apart := false }
def FnPatternsListedSaid : Prop := fnPatternsListedRow.holds Try.pinned (OpenSpec.ofChange fnPatternsListedSpec)

/-- ITS FALSE NEIGHBOUR: 'it returns false'. Refute it at one input. -/
def fnPatternsListedWrong : ChangeSpec := { name := "fnPatternsListed", fn := fun _ => fun
  | [d1, d2] => { results := [.lit (.bool false)], args := [d1, d2] }
  | _ => none }
def FnPatternsListedWrongFalsely : Prop := fnPatternsListedRow.holds Try.pinned (OpenSpec.ofChange fnPatternsListedWrong)

/-- 'laws.FnCornersAndMatrices': WHATEVER THE INPUT: true; the input reads as it did. -/
def fnCornersAndMatricesSpec : ChangeSpec := { name := "fnCornersAndMatrices", fn := fun _ => fun
  | [d1, d2] => { results := [.lit (.bool true)], args := [d1, d2] }
  | _ => none }
def fnCornersAndMatricesRow : OpenClaim := { program := "ytnhkclnloiiihaa", sum := "c1a6f554bb87f47dd454586b98e33a63e5d6a55f2c608905c5076b91f5d9ac0e", func := "loop.example/g01123/laws.FnCornersAndMatrices", spec := "fnCornersAndMatrices", unfollowed := true, recurses := true, apart := false }
def FnCornersAndMatricesSaid : Prop := fnCornersAndMatricesRow.holds Try.pinned (OpenSpec.ofChange fnCornersAndMatricesSpec)

/-- ITS FALSE NEIGHBOUR: 'it returns false'. Refute it at one input. -/
def fnCornersAndMatricesWrong : ChangeSpec := { name := "fnCornersAndMatrices", fn := fun _ => fun
  | [d1, d2] => { results := [.lit (.bool false)], args := [d1, d2] }
  | _ => none }
def FnCornersAndMatricesWrongFalsely : Prop := fnCornersAndMatricesRow.holds Try.pinned (OpenSpec.ofChange fnCornersAndMatricesWrong)

/-- 'laws.FnTurnsAndMirrors': WHATEVER THE INPUT: true; the input reads as it did. -/
def fnTurnsAndMirrorsSpec : ChangeSpec := { name := "fnTurnsAndMirrors", fn := fun _ => fun
  | [d1, d2] => { results := [.lit (.bool true)], args := [d1, d2] }
  | _ => none }
def fnTurnsAndMirrorsRow : OpenClaim := { program := "ytnhkclnloiiihaa", sum := "c1a6f554bb87f47dd454586b98e33a63e5d6a55f2c608905c5076b91f5d9ac0e", func := "loop.example/g01123/laws.FnTurnsAndMirrors", spec := "fnTurnsAndMirrors", unfollowed := true, recurses := true, apart := false }
def FnTurnsAndMirrorsSaid : Prop := fnTurnsAndMirrorsRow.holds Try.pinned (OpenSpec.ofChange fnTurnsAndMirrorsSpec)

/-- ITS FALSE NEIGHBOUR: 'it returns false'. Refute it at one input. -/
def fnTurnsAndMirrorsWrong : ChangeSpec := { name := "fnTurnsAndMirrors", fn := fun _ => fun
  | [d1, d2] => { results := [.lit (.bool false)], args := [d1, d2] }
  | _ => none }
def FnTurnsAndMirrorsWrongFalsely : Prop := fnTurnsAndMirrorsRow.holds Try.pinned (OpenSpec.ofChange fnTurnsAndMirrorsWrong)

/-- 'laws.FnKindsOfPlaces': WHATEVER THE INPUT: true; the input reads as it did. -/
def fnKindsOfPlacesSpec : ChangeSpec := { name := "fnKindsOfPlaces", fn := fun _ => fun
  | [d1, d2] => { results := [.lit (.bool true)], args := [d1, d2] }
  | _ => none }
def fnKindsOfPlacesRow : OpenClaim := { program := "ytnhkclnloiiihaa", sum := "c1a6f554bb87f47dd454586b98e33a63e5d6a55f2c608905c5076b91f5d9ac0e", func := "loop.example/g01123/laws.FnKindsOfPlaces", spec := "fnKindsOfPlaces", unfollowed := true, recurses := true, apart := false }
def FnKindsOfPlacesSaid : Prop := fnKindsOfPlacesRow.holds Try.pinned (OpenSpec.ofChange fnKindsOfPlacesSpec)

/-- ITS FALSE NEIGHBOUR: 'it returns false'. Refute it at one input. -/
def fnKindsOfPlacesWrong : ChangeSpec := { name := "fnKindsOfPlaces", fn := fun _ => fun
  | [d1, d2] => { results := [.lit (.bool false)], args := [d1, d2] }
  | _ => none }
def FnKindsOfPlacesWrongFalsely : Prop := fnKindsOfPlacesRow.holds Try.pinned (OpenSpec.ofChange fnKindsOfPlacesWrong)

/-- 'laws.FnHeightsAreMatrices': WHATEVER THE INPUT: true; the input reads as it did. -/
def fnHeightsAreMatricesSpec : ChangeSpec := { name := "fnHeightsAreMatrices", fn := fun _ => fun
  | [d1, d2] => { results := [.lit (.bool true)], args := [d1, d2] }
  | _ => none }
def fnHeightsAreMatricesRow : OpenClaim := { program := "ytnhkclnloiiihaa", sum := "c1a6f554bb87f47dd454586b98e33a63e5d6a55f2c608905c5076b91f5d9ac0e", func := "loop.example/g01123/laws.FnHeightsAreMatrices", spec := "fnHeightsAreMatrices", unfollowed := true, recurses := true, apart := false }
def FnHeightsAreMatricesSaid : Prop := fnHeightsAreMatricesRow.holds Try.pinned (OpenSpec.ofChange fnHeightsAreMatricesSpec)

/-- ITS FALSE NEIGHBOUR: 'it returns false'. Refute it at one input. -/
def fnHeightsAreMatricesWrong : ChangeSpec := { name := "fnHeightsAreMatrices", fn := fun _ => fun
  | [d1, d2] => { results := [.lit (.bool false)], args := [d1, d2] }
  | _ => none }
def FnHeightsAreMatricesWrongFalsely : Prop := fnHeightsAreMatricesRow.holds Try.pinned (OpenSpec.ofChange fnHeightsAreMatricesWrong)

/- THE SECOND FORM. 'bulk': how many values and letters a reading holds, each counted each time it is reached (what is shared counts as often as it is met; a slice's spare places count too). A statement '..UptoSaid' is the law's where the arguments, and the package variables that the reading takes, are together of bulk at most 1048576: NARROWER than '..Said'. Prove '..Said' where nothing that the law and all that it calls make is longer than what came in: it says more and counts as full. Else prove '..UptoSaid'. A law counts once. -/
mutual
def uptoBulk {H : Type} : DataW H → Nat
  | .lit (.string bytes) => bytes.length + 1
  | .lit _ => 1
  | .nil => 1
  | .ptr d => uptoBulk d + 1
  | .slice elems spare => uptoBulkAll elems + uptoBulkAll spare + 1
  | .agg parts => uptoBulkAll parts + 1
  | .iface _ d => uptoBulk d + 1
  | .map entries => uptoBulkEntries entries + 1
  | .held _ => 1
def uptoBulkAll {H : Type} : List (DataW H) → Nat
  | [] => 0
  | d :: r => uptoBulk d + uptoBulkAll r
def uptoBulkEntries {H : Type} : List (Lit × DataW H) → Nat
  | [] => 0
  | x :: r => uptoBulkEntry x + uptoBulkEntries r
def uptoBulkEntry {H : Type} : Lit × DataW H → Nat
  | (.string bytes, d) => bytes.length + uptoBulk d + 1
  | (_, d) => uptoBulk d + 1
 end
def uptoSmall : (H : Type) → List (DataW H) → Bool := fun _ ds => decide (uptoBulkAll ds ≤ 1048576)
def OpenSpec.upto (s : _root_.Go.ChangeSpec) : _root_.Go.OpenSpec := { _root_.Go.OpenSpec.ofChange s with cond := some uptoSmall }

/-- 'laws.FnOperatorsJoin', WHERE WHAT IT READS IS OF BULK AT MOST 1048576: true; the input reads as it did. -/
def fnOperatorsJoinUptoRow : OpenClaim := { program := "ytnhkclnloiiihaa", sum := "c1a6f554bb87f47dd454586b98e33a63e5d6a55f2c608905c5076b91f5d9ac0e", func := "loop.example/g01123/laws.FnOperatorsJoin", spec := "fnOperatorsJoin", unfollowed := true, recurses := true, apart := false, narrowed := true }
def FnOperatorsJoinUptoSaid : Prop := fnOperatorsJoinUptoRow.holds Try.pinned (OpenSpec.upto fnOperatorsJoinSpec)

/-- 'laws.FnPatternsListed', WHERE WHAT IT READS IS OF BULK AT MOST 1048576: true; the input reads as it did. -/
def fnPatternsListedUptoRow : OpenClaim := { program := "ytnhkclnloiiihaa", sum := "c1a6f554bb87f47dd454586b98e33a63e5d6a55f2c608905c5076b91f5d9ac0e", func := "loop.example/g01123/laws.FnPatternsListed", spec := "fnPatternsListed", unfollowed := true, recurses := true, apart := false, narrowed := true }
def FnPatternsListedUptoSaid : Prop := fnPatternsListedUptoRow.holds Try.pinned (OpenSpec.upto fnPatternsListedSpec)

/-- 'laws.FnCornersAndMatrices', WHERE WHAT IT READS IS OF BULK AT MOST 1048576: true; the input reads as it did. -/
def fnCornersAndMatricesUptoRow : OpenClaim := { program := "ytnhkclnloiiihaa", sum := "c1a6f554bb87f47dd454586b98e33a63e5d6a55f2c608905c5076b91f5d9ac0e", func := "loop.example/g01123/laws.FnCornersAndMatrices", spec := "fnCornersAndMatrices", unfollowed := true, recurses := true, apart := false, narrowed := true }
def FnCornersAndMatricesUptoSaid : Prop := fnCornersAndMatricesUptoRow.holds Try.pinned (OpenSpec.upto fnCornersAndMatricesSpec)

/-- 'laws.FnTurnsAndMirrors', WHERE WHAT IT READS IS OF BULK AT MOST 1048576: true; the input reads as it did. -/
def fnTurnsAndMirrorsUptoRow : OpenClaim := { program := "ytnhkclnloiiihaa", sum := "c1a6f554bb87f47dd454586b98e33a63e5d6a55f2c608905c5076b91f5d9ac0e", func := "loop.example/g01123/laws.FnTurnsAndMirrors", spec := "fnTurnsAndMirrors", unfollowed := true, recurses := true, apart := false, narrowed := true }
def FnTurnsAndMirrorsUptoSaid : Prop := fnTurnsAndMirrorsUptoRow.holds Try.pinned (OpenSpec.upto fnTurnsAndMirrorsSpec)

/-- 'laws.FnKindsOfPlaces', WHERE WHAT IT READS IS OF BULK AT MOST 1048576: true; the input reads as it did. -/
def fnKindsOfPlacesUptoRow : OpenClaim := { program := "ytnhkclnloiiihaa", sum := "c1a6f554bb87f47dd454586b98e33a63e5d6a55f2c608905c5076b91f5d9ac0e", func := "loop.example/g01123/laws.FnKindsOfPlaces", spec := "fnKindsOfPlaces", unfollowed := true, recurses := true, apart := false, narrowed := true }
def FnKindsOfPlacesUptoSaid : Prop := fnKindsOfPlacesUptoRow.holds Try.pinned (OpenSpec.upto fnKindsOfPlacesSpec)

/-- 'laws.FnHeightsAreMatrices', WHERE WHAT IT READS IS OF BULK AT MOST 1048576: true; the input reads as it did. -/
def fnHeightsAreMatricesUptoRow : OpenClaim := { program := "ytnhkclnloiiihaa", sum := "c1a6f554bb87f47dd454586b98e33a63e5d6a55f2c608905c5076b91f5d9ac0e", func := "loop.example/g01123/laws.FnHeightsAreMatrices", spec := "fnHeightsAreMatrices", unfollowed := true, recurses := true, apart := false, narrowed := true }
def FnHeightsAreMatricesUptoSaid : Prop := fnHeightsAreMatricesUptoRow.holds Try.pinned (OpenSpec.upto fnHeightsAreMatricesSpec)

end Rows
end Go.Proofs.Ytnhkclnloiiihaa
