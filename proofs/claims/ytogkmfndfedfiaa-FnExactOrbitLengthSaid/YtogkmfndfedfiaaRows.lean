/-
  No cell of these rows narrows 'for every input' (looked for: loops, veiled, ifaces, maps, wideKeys, modest, calm, conditions, laid).
  DERIVED. THE GIVEN ROWS OF THIS SEAT. 14 by the template 'for every input the law returns true; each argument reads behind the call as it read before'; 0 by the template 'total and deterministic' (their statements: YtogkmfndfedfiaaTotals.lean).
  GIVEN WITH THE SEED: the statements are not yours to turn. If you find one false, say at which input.
  Laid BY PROGRAM, IN A SANDBOX (cutbox-rows.mjs): the forced cells as the released guide's own fill.sh prints them over the translation de2ee885f4d530ab… (all of the seat's roots in one cut). By AI agents, Wed Nov 11 2026. No macro, syntax, notation, axiom, sorry.
-/
import Derived.Test.YtogkmfndfedfiaaChecked
import GoSem.Claim
import GoSem.ClaimJoined
import GoSem.ClaimMapViews
import Derived.JoinedTies
import Derived.KernelRfl
namespace Go.Proofs.Ytogkmfndfedfiaa
/- THE CELL 'sum', in the pinned program and in every row, IS THE sha256 OF THE DUMP (.gsa) THAT YtogkmfndfedfiaaProg.lean LOADS. Nothing in Lean hashes anything: it is a label: what it is worth is what the hold of that sum in a sandbox is worth. -/
noncomputable def Try.pinned : Pinned := { name := "ytogkmfndfedfiaa", sum := "de2ee885f4d530ab4d8e7d6e3b11c15a0deb5c55186386ef0f66ead5cfb15c35", checked := Try.checked }
namespace Rows
def none {H : Type} : Left H := { results := [], args := [] }

/-- 'laws.FnExactFlipAt': WHATEVER THE INPUT: true; the input reads as it did. -/
def fnExactFlipAtSpec : ChangeSpec := { name := "fnExactFlipAt", fn := fun _ => fun
  | [d1, d2, d3] => { results := [.lit (.bool true)], args := [d1, d2, d3] }
  | _ => none }
def fnExactFlipAtRow : OpenClaim := { program := "ytogkmfndfedfiaa", sum := "de2ee885f4d530ab4d8e7d6e3b11c15a0deb5c55186386ef0f66ead5cfb15c35", func := "loop.example/g01123/laws.FnExactFlipAt", spec := "fnExactFlipAt", unfollowed := true, recurses := true, apart := false }
def FnExactFlipAtSaid : Prop := fnExactFlipAtRow.holds Try.pinned (OpenSpec.ofChange fnExactFlipAtSpec)

/-- ITS FALSE NEIGHBOUR: 'it returns false'. Refute it at one input. -/
def fnExactFlipAtWrong : ChangeSpec := { name := "fnExactFlipAt", fn := fun _ => fun
  | [d1, d2, d3] => { results := [.lit (.bool false)], args := [d1, d2, d3] }
  | _ => none }
def FnExactFlipAtWrongFalsely : Prop := fnExactFlipAtRow.holds Try.pinned (OpenSpec.ofChange fnExactFlipAtWrong)

/-- 'laws.FnExactFlipPath': WHATEVER THE INPUT: true; the input reads as it did. -/
def fnExactFlipPathSpec : ChangeSpec := { name := "fnExactFlipPath", fn := fun _ => fun
  | [d1, d2] => { results := [.lit (.bool true)], args := [d1, d2] }
  | _ => none }
def fnExactFlipPathRow : OpenClaim := { program := "ytogkmfndfedfiaa", sum := "de2ee885f4d530ab4d8e7d6e3b11c15a0deb5c55186386ef0f66ead5cfb15c35", func := "loop.example/g01123/laws.FnExactFlipPath", spec := "fnExactFlipPath", unfollowed := true, recurses := true, apart := false }
def FnExactFlipPathSaid : Prop := fnExactFlipPathRow.holds Try.pinned (OpenSpec.ofChange fnExactFlipPathSpec)

/-- ITS FALSE NEIGHBOUR: 'it returns false'. Refute it at one input. -/
def fnExactFlipPathWrong : ChangeSpec := { name := "fnExactFlipPath", fn := fun _ => fun
  | [d1, d2] => { results := [.lit (.bool false)], args := [d1, d2] }
  | _ => none }
def FnExactFlipPathWrongFalsely : Prop := fnExactFlipPathRow.holds Try.pinned (OpenSpec.ofChange fnExactFlipPathWrong)

/-- 'laws.FnExactFollowFlips': WHATEVER THE INPUT: true; the input reads as it did. -/
def fnExactFollowFlipsSpec : ChangeSpec := { name := "fnExactFollowFlips", fn := fun _ => fun
  | [d1, d2] => { results := [.lit (.bool true)], args := [d1, d2] }
  | _ => none }
def fnExactFollowFlipsRow : OpenClaim := { program := "ytogkmfndfedfiaa", sum := "de2ee885f4d530ab4d8e7d6e3b11c15a0deb5c55186386ef0f66ead5cfb15c35", func := "loop.example/g01123/laws.FnExactFollowFlips", spec := "fnExactFollowFlips", unfollowed := true, recurses := true, apart := false }
def FnExactFollowFlipsSaid : Prop := fnExactFollowFlipsRow.holds Try.pinned (OpenSpec.ofChange fnExactFollowFlipsSpec)

/-- ITS FALSE NEIGHBOUR: 'it returns false'. Refute it at one input. -/
def fnExactFollowFlipsWrong : ChangeSpec := { name := "fnExactFollowFlips", fn := fun _ => fun
  | [d1, d2] => { results := [.lit (.bool false)], args := [d1, d2] }
  | _ => none }
def FnExactFollowFlipsWrongFalsely : Prop := fnExactFollowFlipsRow.holds Try.pinned (OpenSpec.ofChange fnExactFollowFlipsWrong)

/-- 'laws.FnExactFlipColour': WHATEVER THE INPUT: true; the input reads as it did. -/
def fnExactFlipColourSpec : ChangeSpec := { name := "fnExactFlipColour", fn := fun _ => fun
  | [d1, d2] => { results := [.lit (.bool true)], args := [d1, d2] }
  | _ => none }
def fnExactFlipColourRow : OpenClaim := { program := "ytogkmfndfedfiaa", sum := "de2ee885f4d530ab4d8e7d6e3b11c15a0deb5c55186386ef0f66ead5cfb15c35", func := "loop.example/g01123/laws.FnExactFlipColour", spec := "fnExactFlipColour", unfollowed := true, recurses := true, apart := false }
def FnExactFlipColourSaid : Prop := fnExactFlipColourRow.holds Try.pinned (OpenSpec.ofChange fnExactFlipColourSpec)

/-- ITS FALSE NEIGHBOUR: 'it returns false'. Refute it at one input. -/
def fnExactFlipColourWrong : ChangeSpec := { name := "fnExactFlipColour", fn := fun _ => fun
  | [d1, d2] => { results := [.lit (.bool false)], args := [d1, d2] }
  | _ => none }
def FnExactFlipColourWrongFalsely : Prop := fnExactFlipColourRow.holds Try.pinned (OpenSpec.ofChange fnExactFlipColourWrong)

/-- 'laws.FnExactGyrateSigns': WHATEVER THE INPUT: true; the input reads as it did. -/
def fnExactGyrateSignsSpec : ChangeSpec := { name := "fnExactGyrateSigns", fn := fun _ => fun
  | [d] => { results := [.lit (.bool true)], args := [d] }
  | _ => none }
def fnExactGyrateSignsRow : OpenClaim := { program := "ytogkmfndfedfiaa", sum := "de2ee885f4d530ab4d8e7d6e3b11c15a0deb5c55186386ef0f66ead5cfb15c35", func := "loop.example/g01123/laws.FnExactGyrateSigns", spec := "fnExactGyrateSigns", unfollowed := true, recurses := true, apart := false }
def FnExactGyrateSignsSaid : Prop := fnExactGyrateSignsRow.holds Try.pinned (OpenSpec.ofChange fnExactGyrateSignsSpec)

/-- ITS FALSE NEIGHBOUR: 'it returns false'. Refute it at one input. -/
def fnExactGyrateSignsWrong : ChangeSpec := { name := "fnExactGyrateSigns", fn := fun _ => fun
  | [d] => { results := [.lit (.bool false)], args := [d] }
  | _ => none }
def FnExactGyrateSignsWrongFalsely : Prop := fnExactGyrateSignsRow.holds Try.pinned (OpenSpec.ofChange fnExactGyrateSignsWrong)

/-- 'laws.FnExactGyrateBack': WHATEVER THE INPUT: true; the input reads as it did. -/
def fnExactGyrateBackSpec : ChangeSpec := { name := "fnExactGyrateBack", fn := fun _ => fun
  | [d] => { results := [.lit (.bool true)], args := [d] }
  | _ => none }
def fnExactGyrateBackRow : OpenClaim := { program := "ytogkmfndfedfiaa", sum := "de2ee885f4d530ab4d8e7d6e3b11c15a0deb5c55186386ef0f66ead5cfb15c35", func := "loop.example/g01123/laws.FnExactGyrateBack", spec := "fnExactGyrateBack", unfollowed := true, recurses := true, apart := false }
def FnExactGyrateBackSaid : Prop := fnExactGyrateBackRow.holds Try.pinned (OpenSpec.ofChange fnExactGyrateBackSpec)

/-- ITS FALSE NEIGHBOUR: 'it returns false'. Refute it at one input. -/
def fnExactGyrateBackWrong : ChangeSpec := { name := "fnExactGyrateBack", fn := fun _ => fun
  | [d] => { results := [.lit (.bool false)], args := [d] }
  | _ => none }
def FnExactGyrateBackWrongFalsely : Prop := fnExactGyrateBackRow.holds Try.pinned (OpenSpec.ofChange fnExactGyrateBackWrong)

/-- 'laws.FnExactGyrateSteps': WHATEVER THE INPUT: true; the input reads as it did. -/
def fnExactGyrateStepsSpec : ChangeSpec := { name := "fnExactGyrateSteps", fn := fun _ => fun
  | [d1, d2] => { results := [.lit (.bool true)], args := [d1, d2] }
  | _ => none }
def fnExactGyrateStepsRow : OpenClaim := { program := "ytogkmfndfedfiaa", sum := "de2ee885f4d530ab4d8e7d6e3b11c15a0deb5c55186386ef0f66ead5cfb15c35", func := "loop.example/g01123/laws.FnExactGyrateSteps", spec := "fnExactGyrateSteps", unfollowed := true, recurses := true, apart := false }
def FnExactGyrateStepsSaid : Prop := fnExactGyrateStepsRow.holds Try.pinned (OpenSpec.ofChange fnExactGyrateStepsSpec)

/-- ITS FALSE NEIGHBOUR: 'it returns false'. Refute it at one input. -/
def fnExactGyrateStepsWrong : ChangeSpec := { name := "fnExactGyrateSteps", fn := fun _ => fun
  | [d1, d2] => { results := [.lit (.bool false)], args := [d1, d2] }
  | _ => none }
def FnExactGyrateStepsWrongFalsely : Prop := fnExactGyrateStepsRow.holds Try.pinned (OpenSpec.ofChange fnExactGyrateStepsWrong)

/-- 'laws.FnExactGyrationOrbit': WHATEVER THE INPUT: true; the input reads as it did. -/
def fnExactGyrationOrbitSpec : ChangeSpec := { name := "fnExactGyrationOrbit", fn := fun _ => fun
  | [d] => { results := [.lit (.bool true)], args := [d] }
  | _ => none }
def fnExactGyrationOrbitRow : OpenClaim := { program := "ytogkmfndfedfiaa", sum := "de2ee885f4d530ab4d8e7d6e3b11c15a0deb5c55186386ef0f66ead5cfb15c35", func := "loop.example/g01123/laws.FnExactGyrationOrbit", spec := "fnExactGyrationOrbit", unfollowed := true, recurses := true, apart := false }
def FnExactGyrationOrbitSaid : Prop := fnExactGyrationOrbitRow.holds Try.pinned (OpenSpec.ofChange fnExactGyrationOrbitSpec)

/-- ITS FALSE NEIGHBOUR: 'it returns false'. Refute it at one input. -/
def fnExactGyrationOrbitWrong : ChangeSpec := { name := "fnExactGyrationOrbit", fn := fun _ => fun
  | [d] => { results := [.lit (.bool false)], args := [d] }
  | _ => none }
def FnExactGyrationOrbitWrongFalsely : Prop := fnExactGyrationOrbitRow.holds Try.pinned (OpenSpec.ofChange fnExactGyrationOrbitWrong)

/-- 'laws.FnExactOrbitLength': WHATEVER THE INPUT: true; the input reads as it did. -/
def fnExactOrbitLengthSpec : ChangeSpec := { name := "fnExactOrbitLength", fn := fun _ => fun
  | [d] => { results := [.lit (.bool true)], args := [d] }
  | _ => none }
def fnExactOrbitLengthRow : OpenClaim := { program := "ytogkmfndfedfiaa", sum := "de2ee885f4d530ab4d8e7d6e3b11c15a0deb5c55186386ef0f66ead5cfb15c35", func := "loop.example/g01123/laws.FnExactOrbitLength", spec := "fnExactOrbitLength", unfollowed := true, recurses := true, apart := false }
def FnExactOrbitLengthSaid : Prop := fnExactOrbitLengthRow.holds Try.pinned (OpenSpec.ofChange fnExactOrbitLengthSpec)

/-- ITS FALSE NEIGHBOUR: 'it returns false'. Refute it at one input. -/
def fnExactOrbitLengthWrong : ChangeSpec := { name := "fnExactOrbitLength", fn := fun _ => fun
  | [d] => { results := [.lit (.bool false)], args := [d] }
  | _ => none }
def FnExactOrbitLengthWrongFalsely : Prop := fnExactOrbitLengthRow.holds Try.pinned (OpenSpec.ofChange fnExactOrbitLengthWrong)

/-- 'laws.FnExactLeastOfOrbit': WHATEVER THE INPUT: true; the input reads as it did. -/
def fnExactLeastOfOrbitSpec : ChangeSpec := { name := "fnExactLeastOfOrbit", fn := fun _ => fun
  | [d] => { results := [.lit (.bool true)], args := [d] }
  | _ => none }
def fnExactLeastOfOrbitRow : OpenClaim := { program := "ytogkmfndfedfiaa", sum := "de2ee885f4d530ab4d8e7d6e3b11c15a0deb5c55186386ef0f66ead5cfb15c35", func := "loop.example/g01123/laws.FnExactLeastOfOrbit", spec := "fnExactLeastOfOrbit", unfollowed := true, recurses := true, apart := false }
def FnExactLeastOfOrbitSaid : Prop := fnExactLeastOfOrbitRow.holds Try.pinned (OpenSpec.ofChange fnExactLeastOfOrbitSpec)

/-- ITS FALSE NEIGHBOUR: 'it returns false'. Refute it at one input. -/
def fnExactLeastOfOrbitWrong : ChangeSpec := { name := "fnExactLeastOfOrbit", fn := fun _ => fun
  | [d] => { results := [.lit (.bool false)], args := [d] }
  | _ => none }
def FnExactLeastOfOrbitWrongFalsely : Prop := fnExactLeastOfOrbitRow.holds Try.pinned (OpenSpec.ofChange fnExactLeastOfOrbitWrong)

/-- 'laws.FnExactFlippedCells': WHATEVER THE INPUT: true; the input reads as it did. -/
def fnExactFlippedCellsSpec : ChangeSpec := { name := "fnExactFlippedCells", fn := fun _ => fun
  | [d1, d2] => { results := [.lit (.bool true)], args := [d1, d2] }
  | _ => none }
def fnExactFlippedCellsRow : OpenClaim := { program := "ytogkmfndfedfiaa", sum := "de2ee885f4d530ab4d8e7d6e3b11c15a0deb5c55186386ef0f66ead5cfb15c35", func := "loop.example/g01123/laws.FnExactFlippedCells", spec := "fnExactFlippedCells", unfollowed := true, recurses := true, apart := false }
def FnExactFlippedCellsSaid : Prop := fnExactFlippedCellsRow.holds Try.pinned (OpenSpec.ofChange fnExactFlippedCellsSpec)

/-- ITS FALSE NEIGHBOUR: 'it returns false'. Refute it at one input. -/
def fnExactFlippedCellsWrong : ChangeSpec := { name := "fnExactFlippedCells", fn := fun _ => fun
  | [d1, d2] => { results := [.lit (.bool false)], args := [d1, d2] }
  | _ => none }
def FnExactFlippedCellsWrongFalsely : Prop := fnExactFlippedCellsRow.holds Try.pinned (OpenSpec.ofChange fnExactFlippedCellsWrong)

/-- 'laws.FnExactPatternPeriod': WHATEVER THE INPUT: true; the input reads as it did. -/
def fnExactPatternPeriodSpec : ChangeSpec := { name := "fnExactPatternPeriod", fn := fun _ => fun
  | [d] => { results := [.lit (.bool true)], args := [d] }
  | _ => none }
def fnExactPatternPeriodRow : OpenClaim := { program := "ytogkmfndfedfiaa", sum := "de2ee885f4d530ab4d8e7d6e3b11c15a0deb5c55186386ef0f66ead5cfb15c35", func := "loop.example/g01123/laws.FnExactPatternPeriod", spec := "fnExactPatternPeriod", unfollowed := true, recurses := true, apart := false }
def FnExactPatternPeriodSaid : Prop := fnExactPatternPeriodRow.holds Try.pinned (OpenSpec.ofChange fnExactPatternPeriodSpec)

/-- ITS FALSE NEIGHBOUR: 'it returns false'. Refute it at one input. -/
def fnExactPatternPeriodWrong : ChangeSpec := { name := "fnExactPatternPeriod", fn := fun _ => fun
  | [d] => { results := [.lit (.bool false)], args := [d] }
  | _ => none }
def FnExactPatternPeriodWrongFalsely : Prop := fnExactPatternPeriodRow.holds Try.pinned (OpenSpec.ofChange fnExactPatternPeriodWrong)

/-- 'laws.FnExactRowWave': WHATEVER THE INPUT: true; the input reads as it did. -/
def fnExactRowWaveSpec : ChangeSpec := { name := "fnExactRowWave", fn := fun _ => fun
  | [d] => { results := [.lit (.bool true)], args := [d] }
  | _ => none }
def fnExactRowWaveRow : OpenClaim := { program := "ytogkmfndfedfiaa", sum := "de2ee885f4d530ab4d8e7d6e3b11c15a0deb5c55186386ef0f66ead5cfb15c35", func := "loop.example/g01123/laws.FnExactRowWave", spec := "fnExactRowWave", unfollowed := true, recurses := true, apart := false }
def FnExactRowWaveSaid : Prop := fnExactRowWaveRow.holds Try.pinned (OpenSpec.ofChange fnExactRowWaveSpec)

/-- ITS FALSE NEIGHBOUR: 'it returns false'. Refute it at one input. -/
def fnExactRowWaveWrong : ChangeSpec := { name := "fnExactRowWave", fn := fun _ => fun
  | [d] => { results := [.lit (.bool false)], args := [d] }
  | _ => none }
def FnExactRowWaveWrongFalsely : Prop := fnExactRowWaveRow.holds Try.pinned (OpenSpec.ofChange fnExactRowWaveWrong)

/-- 'laws.FnExactToggleCells': WHATEVER THE INPUT: true; the input reads as it did. -/
def fnExactToggleCellsSpec : ChangeSpec := { name := "fnExactToggleCells", fn := fun _ => fun
  | [d1, d2] => { results := [.lit (.bool true)], args := [d1, d2] }
  | _ => none }
def fnExactToggleCellsRow : OpenClaim := { program := "ytogkmfndfedfiaa", sum := "de2ee885f4d530ab4d8e7d6e3b11c15a0deb5c55186386ef0f66ead5cfb15c35", func := "loop.example/g01123/laws.FnExactToggleCells", spec := "fnExactToggleCells", unfollowed := true, recurses := true, apart := false }
def FnExactToggleCellsSaid : Prop := fnExactToggleCellsRow.holds Try.pinned (OpenSpec.ofChange fnExactToggleCellsSpec)

/-- ITS FALSE NEIGHBOUR: 'it returns false'. Refute it at one input. -/
def fnExactToggleCellsWrong : ChangeSpec := { name := "fnExactToggleCells", fn := fun _ => fun
  | [d1, d2] => { results := [.lit (.bool false)], args := [d1, d2] }
  | _ => none }
def FnExactToggleCellsWrongFalsely : Prop := fnExactToggleCellsRow.holds Try.pinned (OpenSpec.ofChange fnExactToggleCellsWrong)

/- THE SECOND FORM. 'bulk': how many values and letters a reading holds, each counted each time it is reached (what is shared counts as often as it is met; a slice's spare places count too). A statement '..UptoSaid' is the law's where the arguments, and the package variables that the reading takes, are together of bulk at most 1048576: NARROWER than '..Said'. Prove '..Said' where nothing that the law and all that it calls make is longer than what came in: it says more and counts as full. Else prove '..UptoSaid'. A law counts once. -/
mutual
def uptoBulk {H : Type} : DataW H → Nat
  | .lit (.string bytes) => bytes.length + 1
  | .lit _ => 1
  | .nil => 1
  | .ptr d => uptoBulk d + 1
  | .slice elems spare => uptoBulkAll elems + uptoBulkAll spare + 1
  | .agg parts => uptoBulkAll parts + 1
  | .iface _ d => uptoBulk d + 1
  | .map entries => uptoBulkEntries entries + 1
  | .held _ => 1
def uptoBulkAll {H : Type} : List (DataW H) → Nat
  | [] => 0
  | d :: r => uptoBulk d + uptoBulkAll r
def uptoBulkEntries {H : Type} : List (Lit × DataW H) → Nat
  | [] => 0
  | x :: r => uptoBulkEntry x + uptoBulkEntries r
def uptoBulkEntry {H : Type} : Lit × DataW H → Nat
  | (.string bytes, d) => bytes.length + uptoBulk d + 1
  | (_, d) => uptoBulk d + 1
 end
def uptoSmall : (H : Type) → List (DataW H) → Bool := fun _ ds => decide (uptoBulkAll ds ≤ 1048576)
def OpenSpec.upto (s : _root_.Go.ChangeSpec) : _root_.Go.OpenSpec := { _root_.Go.OpenSpec.ofChange s with cond := some uptoSmall }

/-- 'laws.FnExactFlipAt', WHERE WHAT IT READS IS OF BULK AT MOST 1048576: true; the input reads as it did. -/
def fnExactFlipAtUptoRow : OpenClaim := { program := "ytogkmfndfedfiaa", sum := "de2ee885f4d530ab4d8e7d6e3b11c15a0deb5c55186386ef0f66ead5cfb15c35", func := "loop.example/g01123/laws.FnExactFlipAt", spec := "fnExactFlipAt", unfollowed := true, recurses := true, apart := false, narrowed := true }
def FnExactFlipAtUptoSaid : Prop := fnExactFlipAtUptoRow.holds Try.pinned (OpenSpec.upto fnExactFlipAtSpec)

/-- 'laws.FnExactFlipPath', WHERE WHAT IT READS IS OF BULK AT MOST 1048576: true; the input reads as it did. -/
def fnExactFlipPathUptoRow : OpenClaim := { program := "ytogkmfndfedfiaa", sum := "de2ee885f4d530ab4d8e7d6e3b11c15a0deb5c55186386ef0f66ead5cfb15c35", func := "loop.example/g01123/laws.FnExactFlipPath", spec := "fnExactFlipPath", unfollowed := true, recurses := true, apart := false, narrowed := true }
def FnExactFlipPathUptoSaid : Prop := fnExactFlipPathUptoRow.holds Try.pinned (OpenSpec.upto fnExactFlipPathSpec)

/-- 'laws.FnExactFollowFlips', WHERE WHAT IT READS IS OF BULK AT MOST 1048576: true; the input reads as it did. -/
def fnExactFollowFlipsUptoRow : OpenClaim := { program := "ytogkmfndfedfiaa", sum := "de2ee885f4d530ab4d8e7d6e3b11c15a0deb5c55186386ef0f66ead5cfb15c35", func := "loop.example/g01123/laws.FnExactFollowFlips", spec := "fnExactFollowFlips", unfollowed := true, recurses := true, apart := false, narrowed := true }
def FnExactFollowFlipsUptoSaid : Prop := fnExactFollowFlipsUptoRow.holds Try.pinned (OpenSpec.upto fnExactFollowFlipsSpec)

/-- 'laws.FnExactFlipColour', WHERE WHAT IT READS IS OF BULK AT MOST 1048576: true; the input reads as it did. -/
def fnExactFlipColourUptoRow : OpenClaim := { program := "ytogkmfndfedfiaa", sum := "de2ee885f4d530ab4d8e7d6e3b11c15a0deb5c55186386ef0f66ead5cfb15c35", func := "loop.example/g01123/laws.FnExactFlipColour", spec := "fnExactFlipColour", unfollowed := true, recurses := true, apart := false, narrowed := true }
def FnExactFlipColourUptoSaid : Prop := fnExactFlipColourUptoRow.holds Try.pinned (OpenSpec.upto fnExactFlipColourSpec)

/-- 'laws.FnExactGyrateSigns', WHERE WHAT IT READS IS OF BULK AT MOST 1048576: true; the input reads as it did. -/
def fnExactGyrateSignsUptoRow : OpenClaim := { program := "ytogkmfndfedfiaa", sum := "de2ee885f4d530ab4d8e7d6e3b11c15a0deb5c55186386ef0f66ead5cfb15c35", func := "loop.example/g01123/laws.FnExactGyrateSigns", spec := "fnExactGyrateSigns", unfollowed := true, recurses := true, apart := false, narrowed := true }
def FnExactGyrateSignsUptoSaid : Prop := fnExactGyrateSignsUptoRow.holds Try.pinned (OpenSpec.upto fnExactGyrateSignsSpec)

/-- 'laws.FnExactGyrateBack', WHERE WHAT IT READS IS OF BULK AT MOST 1048576: true; the input reads as it did. -/
def fnExactGyrateBackUptoRow : OpenClaim := { program := "ytogkmfndfedfiaa", sum := "de2ee885f4d530ab4d8e7d6e3b11c15a0deb5c55186386ef0f66ead5cfb15c35", func := "loop.example/g01123/laws.FnExactGyrateBack", spec := "fnExactGyrateBack", unfollowed := true, recurses := true, apart := false, narrowed := true }
def FnExactGyrateBackUptoSaid : Prop := fnExactGyrateBackUptoRow.holds Try.pinned (OpenSpec.upto fnExactGyrateBackSpec)

/-- 'laws.FnExactGyrateSteps', WHERE WHAT IT READS IS OF BULK AT MOST 1048576: true; the input reads as it did. -/
def fnExactGyrateStepsUptoRow : OpenClaim := { program := "ytogkmfndfedfiaa", sum := "de2ee885f4d530ab4d8e7d6e3b11c15a0deb5c55186386ef0f66ead5cfb15c35", func := "loop.example/g01123/laws.FnExactGyrateSteps", spec := "fnExactGyrateSteps", unfollowed := true, recurses := true, apart := false, narrowed := true }
def FnExactGyrateStepsUptoSaid : Prop := fnExactGyrateStepsUptoRow.holds Try.pinned (OpenSpec.upto fnExactGyrateStepsSpec)

/-- 'laws.FnExactGyrationOrbit', WHERE WHAT IT READS IS OF BULK AT MOST 1048576: true; the input reads as it did. -/
def fnExactGyrationOrbitUptoRow : OpenClaim := { program := "ytogkmfndfedfiaa", sum := "de2ee885f4d530ab4d8e7d6e3b11c15a0deb5c55186386ef0f66ead5cfb15c35", func := "loop.example/g01123/laws.FnExactGyrationOrbit", spec := "fnExactGyrationOrbit", unfollowed := true, recurses := true, apart := false, narrowed := true }
def FnExactGyrationOrbitUptoSaid : Prop := fnExactGyrationOrbitUptoRow.holds Try.pinned (OpenSpec.upto fnExactGyrationOrbitSpec)

/-- 'laws.FnExactOrbitLength', WHERE WHAT IT READS IS OF BULK AT MOST 1048576: true; the input reads as it did. -/
def fnExactOrbitLengthUptoRow : OpenClaim := { program := "ytogkmfndfedfiaa", sum := "de2ee885f4d530ab4d8e7d6e3b11c15a0deb5c55186386ef0f66ead5cfb15c35", func := "loop.example/g01123/laws.FnExactOrbitLength", spec := "fnExactOrbitLength", unfollowed := true, recurses := true, apart := false, narrowed := true }
def FnExactOrbitLengthUptoSaid : Prop := fnExactOrbitLengthUptoRow.holds Try.pinned (OpenSpec.upto fnExactOrbitLengthSpec)

/-- 'laws.FnExactLeastOfOrbit', WHERE WHAT IT READS IS OF BULK AT MOST 1048576: true; the input reads as it did. -/
def fnExactLeastOfOrbitUptoRow : OpenClaim := { program := "ytogkmfndfedfiaa", sum := "de2ee885f4d530ab4d8e7d6e3b11c15a0deb5c55186386ef0f66ead5cfb15c35", func := "loop.example/g01123/laws.FnExactLeastOfOrbit", spec := "fnExactLeastOfOrbit", unfollowed := true, recurses := true, apart := false, narrowed := true }
def FnExactLeastOfOrbitUptoSaid : Prop := fnExactLeastOfOrbitUptoRow.holds Try.pinned (OpenSpec.upto fnExactLeastOfOrbitSpec)

/-- 'laws.FnExactFlippedCells', WHERE WHAT IT READS IS OF BULK AT MOST 1048576: true; the input reads as it did. -/
def fnExactFlippedCellsUptoRow : OpenClaim := { program := "ytogkmfndfedfiaa", sum := "de2ee885f4d530ab4d8e7d6e3b11c15a0deb5c55186386ef0f66ead5cfb15c35", func := "loop.example/g01123/laws.FnExactFlippedCells", spec := "fnExactFlippedCells", unfollowed := true, recurses := true, apart := false, narrowed := true }
def FnExactFlippedCellsUptoSaid : Prop := fnExactFlippedCellsUptoRow.holds Try.pinned (OpenSpec.upto fnExactFlippedCellsSpec)

/-- 'laws.FnExactPatternPeriod', WHERE WHAT IT READS IS OF BULK AT MOST 1048576: true; the input reads as it did. -/
def fnExactPatternPeriodUptoRow : OpenClaim := { program := "ytogkmfndfedfiaa", sum := "de2ee885f4d530ab4d8e7d6e3b11c15a0deb5c55186386ef0f66ead5cfb15c35", func := "loop.example/g01123/laws.FnExactPatternPeriod", spec := "fnExactPatternPeriod", unfollowed := true, recurses := true, apart := false, narrowed := true }
def FnExactPatternPeriodUptoSaid : Prop := fnExactPatternPeriodUptoRow.holds Try.pinned (OpenSpec.upto fnExactPatternPeriodSpec)

/-- 'laws.FnExactRowWave', WHERE WHAT IT READS IS OF BULK AT MOST 1048576: true; the input reads as it did. -/
def fnExactRowWaveUptoRow : OpenClaim := { program := "ytogkmfndfedfiaa", sum := "de2ee885f4d530ab4d8e7d6e3b11c15a0deb5c55186386ef0f66ead5cfb15c35", func := "loop.example/g01123/laws.FnExactRowWave", spec := "fnExactRowWave", unfollowed := true, recurses := true, apart := false, narrowed := true }
def FnExactRowWaveUptoSaid : Prop := fnExactRowWaveUptoRow.holds Try.pinned (OpenSpec.upto fnExactRowWaveSpec)

/-- 'laws.FnExactToggleCells', WHERE WHAT IT READS IS OF BULK AT MOST 1048576: true; the input reads as it did. -/
def fnExactToggleCellsUptoRow : OpenClaim := { program := "ytogkmfndfedfiaa", sum := "de2ee885f4d530ab4d8e7d6e3b11c15a0deb5c55186386ef0f66ead5cfb15c35", func := "loop.example/g01123/laws.FnExactToggleCells", spec := "fnExactToggleCells", unfollowed := true, recurses := true, apart := false, narrowed := true }
def FnExactToggleCellsUptoSaid : Prop := fnExactToggleCellsUptoRow.holds Try.pinned (OpenSpec.upto fnExactToggleCellsSpec)

end Rows
end Go.Proofs.Ytogkmfndfedfiaa
