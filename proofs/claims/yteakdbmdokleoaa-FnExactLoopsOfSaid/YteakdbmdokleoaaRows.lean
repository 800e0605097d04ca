/-
  No cell of these rows narrows 'for every input' (looked for: loops, veiled, ifaces, maps, wideKeys, modest, calm, conditions, laid).
  DERIVED. THE GIVEN ROWS OF THIS SEAT. 19 by the template 'for every input the law returns true; each argument reads behind the call as it read before'; 0 by the template 'total and deterministic' (their statements: YteakdbmdokleoaaTotals.lean).
  GIVEN WITH THE SEED: the statements are not yours to turn. If you find one false, say at which input.
  Laid BY PROGRAM, IN A SANDBOX (cutbox-rows.mjs): the forced cells as the released guide's own fill.sh prints them over the translation 3aa367cf99ab0a15… (all of the seat's roots in one cut). By AI agents, Wed Nov 11 2026. No macro, syntax, notation, axiom, sorry.
-/
import Derived.Test.YteakdbmdokleoaaChecked
import GoSem.Claim
import GoSem.ClaimJoined
import GoSem.ClaimMapViews
import Derived.JoinedTies
import Derived.KernelRfl
namespace Go.Proofs.Yteakdbmdokleoaa
/- THE CELL 'sum', in the pinned program and in every row, IS THE sha256 OF THE DUMP (.gsa) THAT YteakdbmdokleoaaProg.lean LOADS. Nothing in Lean hashes anything: it is a label: what it is worth is what the hold of that sum in a sandbox is worth. -/
noncomputable def Try.pinned : Pinned := { name := "yteakdbmdokleoaa", sum := "3aa367cf99ab0a15ca7f2eb120348d102a46143a3e125e430ba1daa6c6c13ecc", checked := Try.checked }
namespace Rows
def none {H : Type} : Left H := { results := [], args := [] }

/-- 'laws.FnExactLoopsOf': WHATEVER THE INPUT: true; the input reads as it did. -/
def fnExactLoopsOfSpec : ChangeSpec := { name := "fnExactLoopsOf", fn := fun _ => fun
  | [d] => { results := [.lit (.bool true)], args := [d] }
  | _ => none }
def fnExactLoopsOfRow : OpenClaim := { program := "yteakdbmdokleoaa", sum := "3aa367cf99ab0a15ca7f2eb120348d102a46143a3e125e430ba1daa6c6c13ecc", func := "loop.example/g01123/laws.FnExactLoopsOf", spec := "fnExactLoopsOf", unfollowed := true, recurses := true, plainKeys := false, apart := false }
def FnExactLoopsOfSaid : Prop := fnExactLoopsOfRow.holds Try.pinned (OpenSpec.ofChange fnExactLoopsOfSpec)

/-- ITS FALSE NEIGHBOUR: 'it returns false'. Refute it at one input. -/
def fnExactLoopsOfWrong : ChangeSpec := { name := "fnExactLoopsOf", fn := fun _ => fun
  | [d] => { results := [.lit (.bool false)], args := [d] }
  | _ => none }
def FnExactLoopsOfWrongFalsely : Prop := fnExactLoopsOfRow.holds Try.pinned (OpenSpec.ofChange fnExactLoopsOfWrong)

/-- 'laws.FnExactAreLoops': WHATEVER THE INPUT: true; the input reads as it did. -/
def fnExactAreLoopsSpec : ChangeSpec := { name := "fnExactAreLoops", fn := fun _ => fun
  | [d] => { results := [.lit (.bool true)], args := [d] }
  | _ => none }
def fnExactAreLoopsRow : OpenClaim := { program := "yteakdbmdokleoaa", sum := "3aa367cf99ab0a15ca7f2eb120348d102a46143a3e125e430ba1daa6c6c13ecc", func := "loop.example/g01123/laws.FnExactAreLoops", spec := "fnExactAreLoops", unfollowed := true, recurses := true, plainKeys := false, apart := false }
def FnExactAreLoopsSaid : Prop := fnExactAreLoopsRow.holds Try.pinned (OpenSpec.ofChange fnExactAreLoopsSpec)

/-- ITS FALSE NEIGHBOUR: 'it returns false'. Refute it at one input. -/
def fnExactAreLoopsWrong : ChangeSpec := { name := "fnExactAreLoops", fn := fun _ => fun
  | [d] => { results := [.lit (.bool false)], args := [d] }
  | _ => none }
def FnExactAreLoopsWrongFalsely : Prop := fnExactAreLoopsRow.holds Try.pinned (OpenSpec.ofChange fnExactAreLoopsWrong)

/-- 'laws.FnExactFromLoops': WHATEVER THE INPUT: true; the input reads as it did. -/
def fnExactFromLoopsSpec : ChangeSpec := { name := "fnExactFromLoops", fn := fun _ => fun
  | [d] => { results := [.lit (.bool true)], args := [d] }
  | _ => none }
def fnExactFromLoopsRow : OpenClaim := { program := "yteakdbmdokleoaa", sum := "3aa367cf99ab0a15ca7f2eb120348d102a46143a3e125e430ba1daa6c6c13ecc", func := "loop.example/g01123/laws.FnExactFromLoops", spec := "fnExactFromLoops", unfollowed := true, recurses := true, plainKeys := false, apart := false }
def FnExactFromLoopsSaid : Prop := fnExactFromLoopsRow.holds Try.pinned (OpenSpec.ofChange fnExactFromLoopsSpec)

/-- ITS FALSE NEIGHBOUR: 'it returns false'. Refute it at one input. -/
def fnExactFromLoopsWrong : ChangeSpec := { name := "fnExactFromLoops", fn := fun _ => fun
  | [d] => { results := [.lit (.bool false)], args := [d] }
  | _ => none }
def FnExactFromLoopsWrongFalsely : Prop := fnExactFromLoopsRow.holds Try.pinned (OpenSpec.ofChange fnExactFromLoopsWrong)

/-- 'laws.FnExactEndsOf': WHATEVER THE INPUT: true; the input reads as it did. -/
def fnExactEndsOfSpec : ChangeSpec := { name := "fnExactEndsOf", fn := fun _ => fun
  | [d] => { results := [.lit (.bool true)], args := [d] }
  | _ => none }
def fnExactEndsOfRow : OpenClaim := { program := "yteakdbmdokleoaa", sum := "3aa367cf99ab0a15ca7f2eb120348d102a46143a3e125e430ba1daa6c6c13ecc", func := "loop.example/g01123/laws.FnExactEndsOf", spec := "fnExactEndsOf", plainKeys := false, apart := false }
def FnExactEndsOfSaid : Prop := fnExactEndsOfRow.holds Try.pinned (OpenSpec.ofChange fnExactEndsOfSpec)

/-- ITS FALSE NEIGHBOUR: 'it returns false'. Refute it at one input. -/
def fnExactEndsOfWrong : ChangeSpec := { name := "fnExactEndsOf", fn := fun _ => fun
  | [d] => { results := [.lit (.bool false)], args := [d] }
  | _ => none }
def FnExactEndsOfWrongFalsely : Prop := fnExactEndsOfRow.holds Try.pinned (OpenSpec.ofChange fnExactEndsOfWrong)

/-- 'laws.FnExactPatternOf': WHATEVER THE INPUT: true; the input reads as it did. -/
def fnExactPatternOfSpec : ChangeSpec := { name := "fnExactPatternOf", fn := fun _ => fun
  | [d] => { results := [.lit (.bool true)], args := [d] }
  | _ => none }
def fnExactPatternOfRow : OpenClaim := { program := "yteakdbmdokleoaa", sum := "3aa367cf99ab0a15ca7f2eb120348d102a46143a3e125e430ba1daa6c6c13ecc", func := "loop.example/g01123/laws.FnExactPatternOf", spec := "fnExactPatternOf", unfollowed := true, recurses := true, plainKeys := false, apart := false }
def FnExactPatternOfSaid : Prop := fnExactPatternOfRow.holds Try.pinned (OpenSpec.ofChange fnExactPatternOfSpec)

/-- ITS FALSE NEIGHBOUR: 'it returns false'. Refute it at one input. -/
def fnExactPatternOfWrong : ChangeSpec := { name := "fnExactPatternOf", fn := fun _ => fun
  | [d] => { results := [.lit (.bool false)], args := [d] }
  | _ => none }
def FnExactPatternOfWrongFalsely : Prop := fnExactPatternOfRow.holds Try.pinned (OpenSpec.ofChange fnExactPatternOfWrong)

/-- 'laws.FnExactCountClosed': WHATEVER THE INPUT: true; the input reads as it did. -/
def fnExactCountClosedSpec : ChangeSpec := { name := "fnExactCountClosed", fn := fun _ => fun
  | [d] => { results := [.lit (.bool true)], args := [d] }
  | _ => none }
def fnExactCountClosedRow : OpenClaim := { program := "yteakdbmdokleoaa", sum := "3aa367cf99ab0a15ca7f2eb120348d102a46143a3e125e430ba1daa6c6c13ecc", func := "loop.example/g01123/laws.FnExactCountClosed", spec := "fnExactCountClosed", unfollowed := true, recurses := true, plainKeys := false, apart := false }
def FnExactCountClosedSaid : Prop := fnExactCountClosedRow.holds Try.pinned (OpenSpec.ofChange fnExactCountClosedSpec)

/-- ITS FALSE NEIGHBOUR: 'it returns false'. Refute it at one input. -/
def fnExactCountClosedWrong : ChangeSpec := { name := "fnExactCountClosed", fn := fun _ => fun
  | [d] => { results := [.lit (.bool false)], args := [d] }
  | _ => none }
def FnExactCountClosedWrongFalsely : Prop := fnExactCountClosedRow.holds Try.pinned (OpenSpec.ofChange fnExactCountClosedWrong)

/-- 'laws.FnExactLineLengths': WHATEVER THE INPUT: true; the input reads as it did. -/
def fnExactLineLengthsSpec : ChangeSpec := { name := "fnExactLineLengths", fn := fun _ => fun
  | [d] => { results := [.lit (.bool true)], args := [d] }
  | _ => none }
def fnExactLineLengthsRow : OpenClaim := { program := "yteakdbmdokleoaa", sum := "3aa367cf99ab0a15ca7f2eb120348d102a46143a3e125e430ba1daa6c6c13ecc", func := "loop.example/g01123/laws.FnExactLineLengths", spec := "fnExactLineLengths", unfollowed := true, recurses := true, plainKeys := false, apart := false }
def FnExactLineLengthsSaid : Prop := fnExactLineLengthsRow.holds Try.pinned (OpenSpec.ofChange fnExactLineLengthsSpec)

/-- ITS FALSE NEIGHBOUR: 'it returns false'. Refute it at one input. -/
def fnExactLineLengthsWrong : ChangeSpec := { name := "fnExactLineLengths", fn := fun _ => fun
  | [d] => { results := [.lit (.bool false)], args := [d] }
  | _ => none }
def FnExactLineLengthsWrongFalsely : Prop := fnExactLineLengthsRow.holds Try.pinned (OpenSpec.ofChange fnExactLineLengthsWrong)

/-- 'laws.FnExactWayFrom': WHATEVER THE INPUT: true; the input reads as it did. -/
def fnExactWayFromSpec : ChangeSpec := { name := "fnExactWayFrom", fn := fun _ => fun
  | [d1, d2] => { results := [.lit (.bool true)], args := [d1, d2] }
  | _ => none }
def fnExactWayFromRow : OpenClaim := { program := "yteakdbmdokleoaa", sum := "3aa367cf99ab0a15ca7f2eb120348d102a46143a3e125e430ba1daa6c6c13ecc", func := "loop.example/g01123/laws.FnExactWayFrom", spec := "fnExactWayFrom", unfollowed := true, recurses := true, plainKeys := false, apart := false }
def FnExactWayFromSaid : Prop := fnExactWayFromRow.holds Try.pinned (OpenSpec.ofChange fnExactWayFromSpec)

/-- ITS FALSE NEIGHBOUR: 'it returns false'. Refute it at one input. -/
def fnExactWayFromWrong : ChangeSpec := { name := "fnExactWayFrom", fn := fun _ => fun
  | [d1, d2] => { results := [.lit (.bool false)], args := [d1, d2] }
  | _ => none }
def FnExactWayFromWrongFalsely : Prop := fnExactWayFromRow.holds Try.pinned (OpenSpec.ofChange fnExactWayFromWrong)

/-- 'laws.FnExactIsPattern': WHATEVER THE INPUT: true; the input reads as it did. -/
def fnExactIsPatternSpec : ChangeSpec := { name := "fnExactIsPattern", fn := fun _ => fun
  | [d] => { results := [.lit (.bool true)], args := [d] }
  | _ => none }
def fnExactIsPatternRow : OpenClaim := { program := "yteakdbmdokleoaa", sum := "3aa367cf99ab0a15ca7f2eb120348d102a46143a3e125e430ba1daa6c6c13ecc", func := "loop.example/g01123/laws.FnExactIsPattern", spec := "fnExactIsPattern", plainKeys := false, apart := false }
def FnExactIsPatternSaid : Prop := fnExactIsPatternRow.holds Try.pinned (OpenSpec.ofChange fnExactIsPatternSpec)

/-- ITS FALSE NEIGHBOUR: 'it returns false'. Refute it at one input. -/
def fnExactIsPatternWrong : ChangeSpec := { name := "fnExactIsPattern", fn := fun _ => fun
  | [d] => { results := [.lit (.bool false)], args := [d] }
  | _ => none }
def FnExactIsPatternWrongFalsely : Prop := fnExactIsPatternRow.holds Try.pinned (OpenSpec.ofChange fnExactIsPatternWrong)

/-- 'laws.FnExactAllPatterns': WHATEVER THE INPUT: true; the input reads as it did. -/
def fnExactAllPatternsSpec : ChangeSpec := { name := "fnExactAllPatterns", fn := fun _ => fun
  | [d] => { results := [.lit (.bool true)], args := [d] }
  | _ => none }
def fnExactAllPatternsRow : OpenClaim := { program := "yteakdbmdokleoaa", sum := "3aa367cf99ab0a15ca7f2eb120348d102a46143a3e125e430ba1daa6c6c13ecc", func := "loop.example/g01123/laws.FnExactAllPatterns", spec := "fnExactAllPatterns", recurses := true, plainKeys := false, apart := false }
def FnExactAllPatternsSaid : Prop := fnExactAllPatternsRow.holds Try.pinned (OpenSpec.ofChange fnExactAllPatternsSpec)

/-- ITS FALSE NEIGHBOUR: 'it returns false'. Refute it at one input. -/
def fnExactAllPatternsWrong : ChangeSpec := { name := "fnExactAllPatterns", fn := fun _ => fun
  | [d] => { results := [.lit (.bool false)], args := [d] }
  | _ => none }
def FnExactAllPatternsWrongFalsely : Prop := fnExactAllPatternsRow.holds Try.pinned (OpenSpec.ofChange fnExactAllPatternsWrong)

/-- 'laws.FnExactCountPatterns': WHATEVER THE INPUT: true; the input reads as it did. -/
def fnExactCountPatternsSpec : ChangeSpec := { name := "fnExactCountPatterns", fn := fun _ => fun
  | [d] => { results := [.lit (.bool true)], args := [d] }
  | _ => none }
def fnExactCountPatternsRow : OpenClaim := { program := "yteakdbmdokleoaa", sum := "3aa367cf99ab0a15ca7f2eb120348d102a46143a3e125e430ba1daa6c6c13ecc", func := "loop.example/g01123/laws.FnExactCountPatterns", spec := "fnExactCountPatterns", plainKeys := false, apart := false }
def FnExactCountPatternsSaid : Prop := fnExactCountPatternsRow.holds Try.pinned (OpenSpec.ofChange fnExactCountPatternsSpec)

/-- ITS FALSE NEIGHBOUR: 'it returns false'. Refute it at one input. -/
def fnExactCountPatternsWrong : ChangeSpec := { name := "fnExactCountPatterns", fn := fun _ => fun
  | [d] => { results := [.lit (.bool false)], args := [d] }
  | _ => none }
def FnExactCountPatternsWrongFalsely : Prop := fnExactCountPatternsRow.holds Try.pinned (OpenSpec.ofChange fnExactCountPatternsWrong)

/-- 'laws.FnExactTurnPattern': WHATEVER THE INPUT: true; the input reads as it did. -/
def fnExactTurnPatternSpec : ChangeSpec := { name := "fnExactTurnPattern", fn := fun _ => fun
  | [d1, d2] => { results := [.lit (.bool true)], args := [d1, d2] }
  | _ => none }
def fnExactTurnPatternRow : OpenClaim := { program := "yteakdbmdokleoaa", sum := "3aa367cf99ab0a15ca7f2eb120348d102a46143a3e125e430ba1daa6c6c13ecc", func := "loop.example/g01123/laws.FnExactTurnPattern", spec := "fnExactTurnPattern", unfollowed := true, recurses := true, plainKeys := false, apart := false }
def FnExactTurnPatternSaid : Prop := fnExactTurnPatternRow.holds Try.pinned (OpenSpec.ofChange fnExactTurnPatternSpec)

/-- ITS FALSE NEIGHBOUR: 'it returns false'. Refute it at one input. -/
def fnExactTurnPatternWrong : ChangeSpec := { name := "fnExactTurnPattern", fn := fun _ => fun
  | [d1, d2] => { results := [.lit (.bool false)], args := [d1, d2] }
  | _ => none }
def FnExactTurnPatternWrongFalsely : Prop := fnExactTurnPatternRow.holds Try.pinned (OpenSpec.ofChange fnExactTurnPatternWrong)

/-- 'laws.FnExactMirrorPattern': WHATEVER THE INPUT: true; the input reads as it did. -/
def fnExactMirrorPatternSpec : ChangeSpec := { name := "fnExactMirrorPattern", fn := fun _ => fun
  | [d] => { results := [.lit (.bool true)], args := [d] }
  | _ => none }
def fnExactMirrorPatternRow : OpenClaim := { program := "yteakdbmdokleoaa", sum := "3aa367cf99ab0a15ca7f2eb120348d102a46143a3e125e430ba1daa6c6c13ecc", func := "loop.example/g01123/laws.FnExactMirrorPattern", spec := "fnExactMirrorPattern", unfollowed := true, recurses := true, plainKeys := false, apart := false }
def FnExactMirrorPatternSaid : Prop := fnExactMirrorPatternRow.holds Try.pinned (OpenSpec.ofChange fnExactMirrorPatternSpec)

/-- ITS FALSE NEIGHBOUR: 'it returns false'. Refute it at one input. -/
def fnExactMirrorPatternWrong : ChangeSpec := { name := "fnExactMirrorPattern", fn := fun _ => fun
  | [d] => { results := [.lit (.bool false)], args := [d] }
  | _ => none }
def FnExactMirrorPatternWrongFalsely : Prop := fnExactMirrorPatternRow.holds Try.pinned (OpenSpec.ofChange fnExactMirrorPatternWrong)

/-- 'laws.FnExactPatternText': WHATEVER THE INPUT: true; the input reads as it did. -/
def fnExactPatternTextSpec : ChangeSpec := { name := "fnExactPatternText", fn := fun _ => fun
  | [d] => { results := [.lit (.bool true)], args := [d] }
  | _ => none }
def fnExactPatternTextRow : OpenClaim := { program := "yteakdbmdokleoaa", sum := "3aa367cf99ab0a15ca7f2eb120348d102a46143a3e125e430ba1daa6c6c13ecc", func := "loop.example/g01123/laws.FnExactPatternText", spec := "fnExactPatternText", plainKeys := false, apart := false }
def FnExactPatternTextSaid : Prop := fnExactPatternTextRow.holds Try.pinned (OpenSpec.ofChange fnExactPatternTextSpec)

/-- ITS FALSE NEIGHBOUR: 'it returns false'. Refute it at one input. -/
def fnExactPatternTextWrong : ChangeSpec := { name := "fnExactPatternText", fn := fun _ => fun
  | [d] => { results := [.lit (.bool false)], args := [d] }
  | _ => none }
def FnExactPatternTextWrongFalsely : Prop := fnExactPatternTextRow.holds Try.pinned (OpenSpec.ofChange fnExactPatternTextWrong)

/-- 'laws.FnExactParsePattern': WHATEVER THE INPUT: true; the input reads as it did. -/
def fnExactParsePatternSpec : ChangeSpec := { name := "fnExactParsePattern", fn := fun _ => fun
  | [d] => { results := [.lit (.bool true)], args := [d] }
  | _ => none }
def fnExactParsePatternRow : OpenClaim := { program := "yteakdbmdokleoaa", sum := "3aa367cf99ab0a15ca7f2eb120348d102a46143a3e125e430ba1daa6c6c13ecc", func := "loop.example/g01123/laws.FnExactParsePattern", spec := "fnExactParsePattern", plainKeys := false, apart := false }
def FnExactParsePatternSaid : Prop := fnExactParsePatternRow.holds Try.pinned (OpenSpec.ofChange fnExactParsePatternSpec)

/-- ITS FALSE NEIGHBOUR: 'it returns false'. Refute it at one input. -/
def fnExactParsePatternWrong : ChangeSpec := { name := "fnExactParsePattern", fn := fun _ => fun
  | [d] => { results := [.lit (.bool false)], args := [d] }
  | _ => none }
def FnExactParsePatternWrongFalsely : Prop := fnExactParsePatternRow.holds Try.pinned (OpenSpec.ofChange fnExactParsePatternWrong)

/-- 'laws.FnExactFlipAt': WHATEVER THE INPUT: true; the input reads as it did. -/
def fnExactFlipAtSpec : ChangeSpec := { name := "fnExactFlipAt", fn := fun _ => fun
  | [d1, d2, d3] => { results := [.lit (.bool true)], args := [d1, d2, d3] }
  | _ => none }
def fnExactFlipAtRow : OpenClaim := { program := "yteakdbmdokleoaa", sum := "3aa367cf99ab0a15ca7f2eb120348d102a46143a3e125e430ba1daa6c6c13ecc", func := "loop.example/g01123/laws.FnExactFlipAt", spec := "fnExactFlipAt", unfollowed := true, recurses := true, plainKeys := false, apart := false }
def FnExactFlipAtSaid : Prop := fnExactFlipAtRow.holds Try.pinned (OpenSpec.ofChange fnExactFlipAtSpec)

/-- ITS FALSE NEIGHBOUR: 'it returns false'. Refute it at one input. -/
def fnExactFlipAtWrong : ChangeSpec := { name := "fnExactFlipAt", fn := fun _ => fun
  | [d1, d2, d3] => { results := [.lit (.bool false)], args := [d1, d2, d3] }
  | _ => none }
def FnExactFlipAtWrongFalsely : Prop := fnExactFlipAtRow.holds Try.pinned (OpenSpec.ofChange fnExactFlipAtWrong)

/-- 'laws.FnExactFlipPath': WHATEVER THE INPUT: true; the input reads as it did. -/
def fnExactFlipPathSpec : ChangeSpec := { name := "fnExactFlipPath", fn := fun _ => fun
  | [d1, d2] => { results := [.lit (.bool true)], args := [d1, d2] }
  | _ => none }
def fnExactFlipPathRow : OpenClaim := { program := "yteakdbmdokleoaa", sum := "3aa367cf99ab0a15ca7f2eb120348d102a46143a3e125e430ba1daa6c6c13ecc", func := "loop.example/g01123/laws.FnExactFlipPath", spec := "fnExactFlipPath", unfollowed := true, recurses := true, plainKeys := false, apart := false }
def FnExactFlipPathSaid : Prop := fnExactFlipPathRow.holds Try.pinned (OpenSpec.ofChange fnExactFlipPathSpec)

/-- ITS FALSE NEIGHBOUR: 'it returns false'. Refute it at one input. -/
def fnExactFlipPathWrong : ChangeSpec := { name := "fnExactFlipPath", fn := fun _ => fun
  | [d1, d2] => { results := [.lit (.bool false)], args := [d1, d2] }
  | _ => none }
def FnExactFlipPathWrongFalsely : Prop := fnExactFlipPathRow.holds Try.pinned (OpenSpec.ofChange fnExactFlipPathWrong)

/-- 'laws.FnExactFollowFlips': WHATEVER THE INPUT: true; the input reads as it did. -/
def fnExactFollowFlipsSpec : ChangeSpec := { name := "fnExactFollowFlips", fn := fun _ => fun
  | [d1, d2] => { results := [.lit (.bool true)], args := [d1, d2] }
  | _ => none }
def fnExactFollowFlipsRow : OpenClaim := { program := "yteakdbmdokleoaa", sum := "3aa367cf99ab0a15ca7f2eb120348d102a46143a3e125e430ba1daa6c6c13ecc", func := "loop.example/g01123/laws.FnExactFollowFlips", spec := "fnExactFollowFlips", unfollowed := true, recurses := true, plainKeys := false, apart := false }
def FnExactFollowFlipsSaid : Prop := fnExactFollowFlipsRow.holds Try.pinned (OpenSpec.ofChange fnExactFollowFlipsSpec)

/-- ITS FALSE NEIGHBOUR: 'it returns false'. Refute it at one input. -/
def fnExactFollowFlipsWrong : ChangeSpec := { name := "fnExactFollowFlips", fn := fun _ => fun
  | [d1, d2] => { results := [.lit (.bool false)], args := [d1, d2] }
  | _ => none }
def FnExactFollowFlipsWrongFalsely : Prop := fnExactFollowFlipsRow.holds Try.pinned (OpenSpec.ofChange fnExactFollowFlipsWrong)

/-- 'laws.FnExactCountChains': WHATEVER THE INPUT: true; the input reads as it did. -/
def fnExactCountChainsSpec : ChangeSpec := { name := "fnExactCountChains", fn := fun _ => fun
  | [d] => { results := [.lit (.bool true)], args := [d] }
  | _ => none }
def fnExactCountChainsRow : OpenClaim := { program := "yteakdbmdokleoaa", sum := "3aa367cf99ab0a15ca7f2eb120348d102a46143a3e125e430ba1daa6c6c13ecc", func := "loop.example/g01123/laws.FnExactCountChains", spec := "fnExactCountChains", unfollowed := true, recurses := true, plainKeys := false, apart := false }
def FnExactCountChainsSaid : Prop := fnExactCountChainsRow.holds Try.pinned (OpenSpec.ofChange fnExactCountChainsSpec)

/-- ITS FALSE NEIGHBOUR: 'it returns false'. Refute it at one input. -/
def fnExactCountChainsWrong : ChangeSpec := { name := "fnExactCountChains", fn := fun _ => fun
  | [d] => { results := [.lit (.bool false)], args := [d] }
  | _ => none }
def FnExactCountChainsWrongFalsely : Prop := fnExactCountChainsRow.holds Try.pinned (OpenSpec.ofChange fnExactCountChainsWrong)

/- THE SECOND FORM. 'bulk': how many values and letters a reading holds, each counted each time it is reached (what is shared counts as often as it is met; a slice's spare places count too). A statement '..UptoSaid' is the law's where the arguments, and the package variables that the reading takes, are together of bulk at most 1048576: NARROWER than '..Said'. Prove '..Said' where nothing that the law and all that it calls make is longer than what came in: it says more and counts as full. Else prove '..UptoSaid'. A law counts once. -/
mutual
def uptoBulk {H : Type} : DataW H → Nat
  | .lit (.string bytes) => bytes.length + 1
  | .lit _ => 1
  | .nil => 1
  | .ptr d => uptoBulk d + 1
  | .slice elems spare => uptoBulkAll elems + uptoBulkAll spare + 1
  | .agg parts => uptoBulkAll parts + 1
  | .iface _ d => uptoBulk d + 1
  | .map entries => uptoBulkEntries entries + 1
  | .held _ => 1
def uptoBulkAll {H : Type} : List (DataW H) → Nat
  | [] => 0
  | d :: r => uptoBulk d + uptoBulkAll r
def uptoBulkEntries {H : Type} : List (Lit × DataW H) → Nat
  | [] => 0
  | x :: r => uptoBulkEntry x + uptoBulkEntries r
def uptoBulkEntry {H : Type} : Lit × DataW H → Nat
  | (.string bytes, d) => bytes.length + uptoBulk d + 1
  | (_, d) => uptoBulk d + 1
 end
def uptoSmall : (H : Type) → List (DataW H) → Bool := fun _ ds => decide (uptoBulkAll ds ≤ 1048576)
def OpenSpec.upto (s : _root_.Go.ChangeSpec) : _root_.Go.OpenSpec := { _root_.Go.OpenSpec.ofChange s with cond := some uptoSmall }

/-- 'laws.FnExactLoopsOf', WHERE WHAT IT READS IS OF BULK AT MOST 1048576: true; the input reads as it did. -/
def fnExactLoopsOfUptoRow : OpenClaim := { program := "yteakdbmdokleoaa", sum := "3aa367cf99ab0a15ca7f2eb120348d102a46143a3e125e430ba1daa6c6c13ecc", func := "loop.example/g01123/laws.FnExactLoopsOf", spec := "fnExactLoopsOf", unfollowed := true, recurses := true, plainKeys := false, apart := false, narrowed := true }
def FnExactLoopsOfUptoSaid : Prop := fnExactLoopsOfUptoRow.holds Try.pinned (OpenSpec.upto fnExactLoopsOfSpec)

/-- 'laws.FnExactAreLoops', WHERE WHAT IT READS IS OF BULK AT MOST 1048576: true; the input reads as it did. -/
def fnExactAreLoopsUptoRow : OpenClaim := { program := "yteakdbmdokleoaa", sum := "3aa367cf99ab0a15ca7f2eb120348d102a46143a3e125e430ba1daa6c6c13ecc", func := "loop.example/g01123/laws.FnExactAreLoops", spec := "fnExactAreLoops", unfollowed := true, recurses := true, plainKeys := false, apart := false, narrowed := true }
def FnExactAreLoopsUptoSaid : Prop := fnExactAreLoopsUptoRow.holds Try.pinned (OpenSpec.upto fnExactAreLoopsSpec)

/-- 'laws.FnExactFromLoops', WHERE WHAT IT READS IS OF BULK AT MOST 1048576: true; the input reads as it did. -/
def fnExactFromLoopsUptoRow : OpenClaim := { program := "yteakdbmdokleoaa", sum := "3aa367cf99ab0a15ca7f2eb120348d102a46143a3e125e430ba1daa6c6c13ecc", func := "loop.example/g01123/laws.FnExactFromLoops", spec := "fnExactFromLoops", unfollowed := true, recurses := true, plainKeys := false, apart := false, narrowed := true }
def FnExactFromLoopsUptoSaid : Prop := fnExactFromLoopsUptoRow.holds Try.pinned (OpenSpec.upto fnExactFromLoopsSpec)

/-- 'laws.FnExactEndsOf', WHERE WHAT IT READS IS OF BULK AT MOST 1048576: true; the input reads as it did. -/
def fnExactEndsOfUptoRow : OpenClaim := { program := "yteakdbmdokleoaa", sum := "3aa367cf99ab0a15ca7f2eb120348d102a46143a3e125e430ba1daa6c6c13ecc", func := "loop.example/g01123/laws.FnExactEndsOf", spec := "fnExactEndsOf", plainKeys := false, apart := false, narrowed := true }
def FnExactEndsOfUptoSaid : Prop := fnExactEndsOfUptoRow.holds Try.pinned (OpenSpec.upto fnExactEndsOfSpec)

/-- 'laws.FnExactPatternOf', WHERE WHAT IT READS IS OF BULK AT MOST 1048576: true; the input reads as it did. -/
def fnExactPatternOfUptoRow : OpenClaim := { program := "yteakdbmdokleoaa", sum := "3aa367cf99ab0a15ca7f2eb120348d102a46143a3e125e430ba1daa6c6c13ecc", func := "loop.example/g01123/laws.FnExactPatternOf", spec := "fnExactPatternOf", unfollowed := true, recurses := true, plainKeys := false, apart := false, narrowed := true }
def FnExactPatternOfUptoSaid : Prop := fnExactPatternOfUptoRow.holds Try.pinned (OpenSpec.upto fnExactPatternOfSpec)

/-- 'laws.FnExactCountClosed', WHERE WHAT IT READS IS OF BULK AT MOST 1048576: true; the input reads as it did. -/
def fnExactCountClosedUptoRow : OpenClaim := { program := "yteakdbmdokleoaa", sum := "3aa367cf99ab0a15ca7f2eb120348d102a46143a3e125e430ba1daa6c6c13ecc", func := "loop.example/g01123/laws.FnExactCountClosed", spec := "fnExactCountClosed", unfollowed := true, recurses := true, plainKeys := false, apart := false, narrowed := true }
def FnExactCountClosedUptoSaid : Prop := fnExactCountClosedUptoRow.holds Try.pinned (OpenSpec.upto fnExactCountClosedSpec)

/-- 'laws.FnExactLineLengths', WHERE WHAT IT READS IS OF BULK AT MOST 1048576: true; the input reads as it did. -/
def fnExactLineLengthsUptoRow : OpenClaim := { program := "yteakdbmdokleoaa", sum := "3aa367cf99ab0a15ca7f2eb120348d102a46143a3e125e430ba1daa6c6c13ecc", func := "loop.example/g01123/laws.FnExactLineLengths", spec := "fnExactLineLengths", unfollowed := true, recurses := true, plainKeys := false, apart := false, narrowed := true }
def FnExactLineLengthsUptoSaid : Prop := fnExactLineLengthsUptoRow.holds Try.pinned (OpenSpec.upto fnExactLineLengthsSpec)

/-- 'laws.FnExactWayFrom', WHERE WHAT IT READS IS OF BULK AT MOST 1048576: true; the input reads as it did. -/
def fnExactWayFromUptoRow : OpenClaim := { program := "yteakdbmdokleoaa", sum := "3aa367cf99ab0a15ca7f2eb120348d102a46143a3e125e430ba1daa6c6c13ecc", func := "loop.example/g01123/laws.FnExactWayFrom", spec := "fnExactWayFrom", unfollowed := true, recurses := true, plainKeys := false, apart := false, narrowed := true }
def FnExactWayFromUptoSaid : Prop := fnExactWayFromUptoRow.holds Try.pinned (OpenSpec.upto fnExactWayFromSpec)

/-- 'laws.FnExactIsPattern', WHERE WHAT IT READS IS OF BULK AT MOST 1048576: true; the input reads as it did. -/
def fnExactIsPatternUptoRow : OpenClaim := { program := "yteakdbmdokleoaa", sum := "3aa367cf99ab0a15ca7f2eb120348d102a46143a3e125e430ba1daa6c6c13ecc", func := "loop.example/g01123/laws.FnExactIsPattern", spec := "fnExactIsPattern", plainKeys := false, apart := false, narrowed := true }
def FnExactIsPatternUptoSaid : Prop := fnExactIsPatternUptoRow.holds Try.pinned (OpenSpec.upto fnExactIsPatternSpec)

/-- 'laws.FnExactAllPatterns', WHERE WHAT IT READS IS OF BULK AT MOST 1048576: true; the input reads as it did. -/
def fnExactAllPatternsUptoRow : OpenClaim := { program := "yteakdbmdokleoaa", sum := "3aa367cf99ab0a15ca7f2eb120348d102a46143a3e125e430ba1daa6c6c13ecc", func := "loop.example/g01123/laws.FnExactAllPatterns", spec := "fnExactAllPatterns", recurses := true, plainKeys := false, apart := false, narrowed := true }
def FnExactAllPatternsUptoSaid : Prop := fnExactAllPatternsUptoRow.holds Try.pinned (OpenSpec.upto fnExactAllPatternsSpec)

/-- 'laws.FnExactCountPatterns', WHERE WHAT IT READS IS OF BULK AT MOST 1048576: true; the input reads as it did. -/
def fnExactCountPatternsUptoRow : OpenClaim := { program := "yteakdbmdokleoaa", sum := "3aa367cf99ab0a15ca7f2eb120348d102a46143a3e125e430ba1daa6c6c13ecc", func := "loop.example/g01123/laws.FnExactCountPatterns", spec := "fnExactCountPatterns", plainKeys := false, apart := false, narrowed := true }
def FnExactCountPatternsUptoSaid : Prop := fnExactCountPatternsUptoRow.holds Try.pinned (OpenSpec.upto fnExactCountPatternsSpec)

/-- 'laws.FnExactTurnPattern', WHERE WHAT IT READS IS OF BULK AT MOST 1048576: true; the input reads as it did. -/
def fnExactTurnPatternUptoRow : OpenClaim := { program := "yteakdbmdokleoaa", sum := "3aa367cf99ab0a15ca7f2eb120348d102a46143a3e125e430ba1daa6c6c13ecc", func := "loop.example/g01123/laws.FnExactTurnPattern", spec := "fnExactTurnPattern", unfollowed := true, recurses := true, plainKeys := false, apart := false, narrowed := true }
def FnExactTurnPatternUptoSaid : Prop := fnExactTurnPatternUptoRow.holds Try.pinned (OpenSpec.upto fnExactTurnPatternSpec)

/-- 'laws.FnExactMirrorPattern', WHERE WHAT IT READS IS OF BULK AT MOST 1048576: true; the input reads as it did. -/
def fnExactMirrorPatternUptoRow : OpenClaim := { program := "yteakdbmdokleoaa", sum := "3aa367cf99ab0a15ca7f2eb120348d102a46143a3e125e430ba1daa6c6c13ecc", func := "loop.example/g01123/laws.FnExactMirrorPattern", spec := "fnExactMirrorPattern", unfollowed := true, recurses := true, plainKeys := false, apart := false, narrowed := true }
def FnExactMirrorPatternUptoSaid : Prop := fnExactMirrorPatternUptoRow.holds Try.pinned (OpenSpec.upto fnExactMirrorPatternSpec)

/-- 'laws.FnExactPatternText', WHERE WHAT IT READS IS OF BULK AT MOST 1048576: true; the input reads as it did. -/
def fnExactPatternTextUptoRow : OpenClaim := { program := "yteakdbmdokleoaa", sum := "3aa367cf99ab0a15ca7f2eb120348d102a46143a3e125e430ba1daa6c6c13ecc", func := "loop.example/g01123/laws.FnExactPatternText", spec := "fnExactPatternText", plainKeys := false, apart := false, narrowed := true }
def FnExactPatternTextUptoSaid : Prop := fnExactPatternTextUptoRow.holds Try.pinned (OpenSpec.upto fnExactPatternTextSpec)

/-- 'laws.FnExactParsePattern', WHERE WHAT IT READS IS OF BULK AT MOST 1048576: true; the input reads as it did. -/
def fnExactParsePatternUptoRow : OpenClaim := { program := "yteakdbmdokleoaa", sum := "3aa367cf99ab0a15ca7f2eb120348d102a46143a3e125e430ba1daa6c6c13ecc", func := "loop.example/g01123/laws.FnExactParsePattern", spec := "fnExactParsePattern", plainKeys := false, apart := false, narrowed := true }
def FnExactParsePatternUptoSaid : Prop := fnExactParsePatternUptoRow.holds Try.pinned (OpenSpec.upto fnExactParsePatternSpec)

/-- 'laws.FnExactFlipAt', WHERE WHAT IT READS IS OF BULK AT MOST 1048576: true; the input reads as it did. -/
def fnExactFlipAtUptoRow : OpenClaim := { program := "yteakdbmdokleoaa", sum := "3aa367cf99ab0a15ca7f2eb120348d102a46143a3e125e430ba1daa6c6c13ecc", func := "loop.example/g01123/laws.FnExactFlipAt", spec := "fnExactFlipAt", unfollowed := true, recurses := true, plainKeys := false, apart := false, narrowed := true }
def FnExactFlipAtUptoSaid : Prop := fnExactFlipAtUptoRow.holds Try.pinned (OpenSpec.upto fnExactFlipAtSpec)

/-- 'laws.FnExactFlipPath', WHERE WHAT IT READS IS OF BULK AT MOST 1048576: true; the input reads as it did. -/
def fnExactFlipPathUptoRow : OpenClaim := { program := "yteakdbmdokleoaa", sum := "3aa367cf99ab0a15ca7f2eb120348d102a46143a3e125e430ba1daa6c6c13ecc", func := "loop.example/g01123/laws.FnExactFlipPath", spec := "fnExactFlipPath", unfollowed := true, recurses := true, plainKeys := false, apart := false, narrowed := true }
def FnExactFlipPathUptoSaid : Prop := fnExactFlipPathUptoRow.holds Try.pinned (OpenSpec.upto fnExactFlipPathSpec)

/-- 'laws.FnExactFollowFlips', WHERE WHAT IT READS IS OF BULK AT MOST 1048576: true; the input reads as it did. -/
def fnExactFollowFlipsUptoRow : OpenClaim := { program := "yteakdbmdokleoaa", sum := "3aa367cf99ab0a15ca7f2eb120348d102a46143a3e125e430ba1daa6c6c13ecc", func := "loop.example/g01123/laws.FnExactFollowFlips", spec := "fnExactFollowFlips", unfollowed := true, recurses := true, plainKeys := false, apart := false, narrowed := true }
def FnExactFollowFlipsUptoSaid : Prop := fnExactFollowFlipsUptoRow.holds Try.pinned (OpenSpec.upto fnExactFollowFlipsSpec)

/-- 'laws.FnExactCountChains', WHERE WHAT IT READS IS OF BULK AT MOST 1048576: true; the input reads as it did. -/
def fnExactCountChainsUptoRow : OpenClaim := { program := "yteakdbmdokleoaa", sum := "3aa367cf99ab0a15ca7f2eb120348d102a46143a3e125e430ba1daa6c6c13ecc", func := "loop.example/g01123/laws.FnExactCountChains", spec := "fnExactCountChains", unfollowed := true, recurses := true, plainKeys := false, apart := false, narrowed := true }
def FnExactCountChainsUptoSaid : Prop := fnExactCountChainsUptoRow.holds Try.pinned (OpenSpec.upto fnExactCountChainsSpec)

end Rows
end Go.Proofs.Yteakdbmdokleoaa
