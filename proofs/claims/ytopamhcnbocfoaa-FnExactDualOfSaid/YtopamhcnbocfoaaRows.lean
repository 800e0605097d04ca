/-
  No cell of these rows narrows 'for every input' (looked for: loops, veiled, ifaces, maps, wideKeys, modest, calm, conditions, laid).
  DERIVED. THE GIVEN ROWS OF THIS SEAT. 14 by the template 'for every input the law returns true; each argument reads behind the call as it read before'; 0 by the template 'total and deterministic' (their statements: YtopamhcnbocfoaaTotals.lean).
  GIVEN WITH THE SEED: the statements are not yours to turn. If you find one false, say at which input.
  Laid BY PROGRAM, IN A SANDBOX (cutbox-rows.mjs): the forced cells as the released guide's own fill.sh prints them over the translation b96aeb1398d0562d… (all of the seat's roots in one cut). By AI agents, Wed Nov 11 2026. No macro, syntax, notation, axiom, sorry.
-/
import Derived.Test.YtopamhcnbocfoaaChecked
import GoSem.Claim
import GoSem.ClaimJoined
import GoSem.ClaimMapViews
import Derived.JoinedTies
import Derived.KernelRfl
namespace Go.Proofs.Ytopamhcnbocfoaa
/- THE CELL 'sum', in the pinned program and in every row, IS THE sha256 OF THE DUMP (.gsa) THAT YtopamhcnbocfoaaProg.lean LOADS. Nothing in Lean hashes anything: it is a label: what it is worth is what the hold of that sum in a sandbox is worth. -/
noncomputable def Try.pinned : Pinned := { name := "ytopamhcnbocfoaa", sum := "b96aeb1398d0562d79aca43451accb9efb255b5f6801161f2d24cb2c2d854e5d", checked := Try.checked }
namespace Rows
def none {H : Type} : Left H := { results := [], args := [] }

/-- 'laws.FnExactHeightsOf': WHATEVER THE INPUT: true; the input reads as it did. -/
def fnExactHeightsOfSpec : ChangeSpec := { name := "fnExactHeightsOf", fn := fun _ => fun
  | [d] => { results := [.lit (.bool true)], args := [d] }
  | _ => none }
def fnExactHeightsOfRow : OpenClaim := { program := "ytopamhcnbocfoaa", sum := "b96aeb1398d0562d79aca43451accb9efb255b5f6801161f2d24cb2c2d854e5d", func := "loop.example/g01123/laws.FnExactHeightsOf", spec := "fnExactHeightsOf", unfollowed := true, recurses := true, apart := false }
def FnExactHeightsOfSaid : Prop := fnExactHeightsOfRow.holds Try.pinned (OpenSpec.ofChange fnExactHeightsOfSpec)

/-- ITS FALSE NEIGHBOUR: 'it returns false'. Refute it at one input. -/
def fnExactHeightsOfWrong : ChangeSpec := { name := "fnExactHeightsOf", fn := fun _ => fun
  | [d] => { results := [.lit (.bool false)], args := [d] }
  | _ => none }
def FnExactHeightsOfWrongFalsely : Prop := fnExactHeightsOfRow.holds Try.pinned (OpenSpec.ofChange fnExactHeightsOfWrong)

/-- 'laws.FnExactAreHeights': WHATEVER THE INPUT: true; the input reads as it did. -/
def fnExactAreHeightsSpec : ChangeSpec := { name := "fnExactAreHeights", fn := fun _ => fun
  | [d] => { results := [.lit (.bool true)], args := [d] }
  | _ => none }
def fnExactAreHeightsRow : OpenClaim := { program := "ytopamhcnbocfoaa", sum := "b96aeb1398d0562d79aca43451accb9efb255b5f6801161f2d24cb2c2d854e5d", func := "loop.example/g01123/laws.FnExactAreHeights", spec := "fnExactAreHeights", unfollowed := true, recurses := true, apart := false }
def FnExactAreHeightsSaid : Prop := fnExactAreHeightsRow.holds Try.pinned (OpenSpec.ofChange fnExactAreHeightsSpec)

/-- ITS FALSE NEIGHBOUR: 'it returns false'. Refute it at one input. -/
def fnExactAreHeightsWrong : ChangeSpec := { name := "fnExactAreHeights", fn := fun _ => fun
  | [d] => { results := [.lit (.bool false)], args := [d] }
  | _ => none }
def FnExactAreHeightsWrongFalsely : Prop := fnExactAreHeightsRow.holds Try.pinned (OpenSpec.ofChange fnExactAreHeightsWrong)

/-- 'laws.FnExactFromHeights': WHATEVER THE INPUT: true; the input reads as it did. -/
def fnExactFromHeightsSpec : ChangeSpec := { name := "fnExactFromHeights", fn := fun _ => fun
  | [d] => { results := [.lit (.bool true)], args := [d] }
  | _ => none }
def fnExactFromHeightsRow : OpenClaim := { program := "ytopamhcnbocfoaa", sum := "b96aeb1398d0562d79aca43451accb9efb255b5f6801161f2d24cb2c2d854e5d", func := "loop.example/g01123/laws.FnExactFromHeights", spec := "fnExactFromHeights", unfollowed := true, recurses := true, apart := false }
def FnExactFromHeightsSaid : Prop := fnExactFromHeightsRow.holds Try.pinned (OpenSpec.ofChange fnExactFromHeightsSpec)

/-- ITS FALSE NEIGHBOUR: 'it returns false'. Refute it at one input. -/
def fnExactFromHeightsWrong : ChangeSpec := { name := "fnExactFromHeights", fn := fun _ => fun
  | [d] => { results := [.lit (.bool false)], args := [d] }
  | _ => none }
def FnExactFromHeightsWrongFalsely : Prop := fnExactFromHeightsRow.holds Try.pinned (OpenSpec.ofChange fnExactFromHeightsWrong)

/-- 'laws.FnExactIsBelow': WHATEVER THE INPUT: true; the input reads as it did. -/
def fnExactIsBelowSpec : ChangeSpec := { name := "fnExactIsBelow", fn := fun _ => fun
  | [d1, d2] => { results := [.lit (.bool true)], args := [d1, d2] }
  | _ => none }
def fnExactIsBelowRow : OpenClaim := { program := "ytopamhcnbocfoaa", sum := "b96aeb1398d0562d79aca43451accb9efb255b5f6801161f2d24cb2c2d854e5d", func := "loop.example/g01123/laws.FnExactIsBelow", spec := "fnExactIsBelow", unfollowed := true, recurses := true, apart := false }
def FnExactIsBelowSaid : Prop := fnExactIsBelowRow.holds Try.pinned (OpenSpec.ofChange fnExactIsBelowSpec)

/-- ITS FALSE NEIGHBOUR: 'it returns false'. Refute it at one input. -/
def fnExactIsBelowWrong : ChangeSpec := { name := "fnExactIsBelow", fn := fun _ => fun
  | [d1, d2] => { results := [.lit (.bool false)], args := [d1, d2] }
  | _ => none }
def FnExactIsBelowWrongFalsely : Prop := fnExactIsBelowRow.holds Try.pinned (OpenSpec.ofChange fnExactIsBelowWrong)

/-- 'laws.FnExactMeetOf': WHATEVER THE INPUT: true; the input reads as it did. -/
def fnExactMeetOfSpec : ChangeSpec := { name := "fnExactMeetOf", fn := fun _ => fun
  | [d1, d2] => { results := [.lit (.bool true)], args := [d1, d2] }
  | _ => none }
def fnExactMeetOfRow : OpenClaim := { program := "ytopamhcnbocfoaa", sum := "b96aeb1398d0562d79aca43451accb9efb255b5f6801161f2d24cb2c2d854e5d", func := "loop.example/g01123/laws.FnExactMeetOf", spec := "fnExactMeetOf", unfollowed := true, recurses := true, apart := false }
def FnExactMeetOfSaid : Prop := fnExactMeetOfRow.holds Try.pinned (OpenSpec.ofChange fnExactMeetOfSpec)

/-- ITS FALSE NEIGHBOUR: 'it returns false'. Refute it at one input. -/
def fnExactMeetOfWrong : ChangeSpec := { name := "fnExactMeetOf", fn := fun _ => fun
  | [d1, d2] => { results := [.lit (.bool false)], args := [d1, d2] }
  | _ => none }
def FnExactMeetOfWrongFalsely : Prop := fnExactMeetOfRow.holds Try.pinned (OpenSpec.ofChange fnExactMeetOfWrong)

/-- 'laws.FnExactJoinOf': WHATEVER THE INPUT: true; the input reads as it did. -/
def fnExactJoinOfSpec : ChangeSpec := { name := "fnExactJoinOf", fn := fun _ => fun
  | [d1, d2] => { results := [.lit (.bool true)], args := [d1, d2] }
  | _ => none }
def fnExactJoinOfRow : OpenClaim := { program := "ytopamhcnbocfoaa", sum := "b96aeb1398d0562d79aca43451accb9efb255b5f6801161f2d24cb2c2d854e5d", func := "loop.example/g01123/laws.FnExactJoinOf", spec := "fnExactJoinOf", unfollowed := true, recurses := true, apart := false }
def FnExactJoinOfSaid : Prop := fnExactJoinOfRow.holds Try.pinned (OpenSpec.ofChange fnExactJoinOfSpec)

/-- ITS FALSE NEIGHBOUR: 'it returns false'. Refute it at one input. -/
def fnExactJoinOfWrong : ChangeSpec := { name := "fnExactJoinOf", fn := fun _ => fun
  | [d1, d2] => { results := [.lit (.bool false)], args := [d1, d2] }
  | _ => none }
def FnExactJoinOfWrongFalsely : Prop := fnExactJoinOfRow.holds Try.pinned (OpenSpec.ofChange fnExactJoinOfWrong)

/-- 'laws.FnExactLeastSigns': WHATEVER THE INPUT: true; the input reads as it did. -/
def fnExactLeastSignsSpec : ChangeSpec := { name := "fnExactLeastSigns", fn := fun _ => fun
  | [d] => { results := [.lit (.bool true)], args := [d] }
  | _ => none }
def fnExactLeastSignsRow : OpenClaim := { program := "ytopamhcnbocfoaa", sum := "b96aeb1398d0562d79aca43451accb9efb255b5f6801161f2d24cb2c2d854e5d", func := "loop.example/g01123/laws.FnExactLeastSigns", spec := "fnExactLeastSigns", apart := false }
def FnExactLeastSignsSaid : Prop := fnExactLeastSignsRow.holds Try.pinned (OpenSpec.ofChange fnExactLeastSignsSpec)

/-- ITS FALSE NEIGHBOUR: 'it returns false'. Refute it at one input. -/
def fnExactLeastSignsWrong : ChangeSpec := { name := "fnExactLeastSigns", fn := fun _ => fun
  | [d] => { results := [.lit (.bool false)], args := [d] }
  | _ => none }
def FnExactLeastSignsWrongFalsely : Prop := fnExactLeastSignsRow.holds Try.pinned (OpenSpec.ofChange fnExactLeastSignsWrong)

/-- 'laws.FnExactGreatestSigns': WHATEVER THE INPUT: true; the input reads as it did. -/
def fnExactGreatestSignsSpec : ChangeSpec := { name := "fnExactGreatestSigns", fn := fun _ => fun
  | [d] => { results := [.lit (.bool true)], args := [d] }
  | _ => none }
def fnExactGreatestSignsRow : OpenClaim := { program := "ytopamhcnbocfoaa", sum := "b96aeb1398d0562d79aca43451accb9efb255b5f6801161f2d24cb2c2d854e5d", func := "loop.example/g01123/laws.FnExactGreatestSigns", spec := "fnExactGreatestSigns", apart := false }
def FnExactGreatestSignsSaid : Prop := fnExactGreatestSignsRow.holds Try.pinned (OpenSpec.ofChange fnExactGreatestSignsSpec)

/-- ITS FALSE NEIGHBOUR: 'it returns false'. Refute it at one input. -/
def fnExactGreatestSignsWrong : ChangeSpec := { name := "fnExactGreatestSigns", fn := fun _ => fun
  | [d] => { results := [.lit (.bool false)], args := [d] }
  | _ => none }
def FnExactGreatestSignsWrongFalsely : Prop := fnExactGreatestSignsRow.holds Try.pinned (OpenSpec.ofChange fnExactGreatestSignsWrong)

/-- 'laws.FnExactFlipsOf': WHATEVER THE INPUT: true; the input reads as it did. -/
def fnExactFlipsOfSpec : ChangeSpec := { name := "fnExactFlipsOf", fn := fun _ => fun
  | [d1, d2] => { results := [.lit (.bool true)], args := [d1, d2] }
  | _ => none }
def fnExactFlipsOfRow : OpenClaim := { program := "ytopamhcnbocfoaa", sum := "b96aeb1398d0562d79aca43451accb9efb255b5f6801161f2d24cb2c2d854e5d", func := "loop.example/g01123/laws.FnExactFlipsOf", spec := "fnExactFlipsOf", unfollowed := true, recurses := true, apart := false }
def FnExactFlipsOfSaid : Prop := fnExactFlipsOfRow.holds Try.pinned (OpenSpec.ofChange fnExactFlipsOfSpec)

/-- ITS FALSE NEIGHBOUR: 'it returns false'. Refute it at one input. -/
def fnExactFlipsOfWrong : ChangeSpec := { name := "fnExactFlipsOf", fn := fun _ => fun
  | [d1, d2] => { results := [.lit (.bool false)], args := [d1, d2] }
  | _ => none }
def FnExactFlipsOfWrongFalsely : Prop := fnExactFlipsOfRow.holds Try.pinned (OpenSpec.ofChange fnExactFlipsOfWrong)

/-- 'laws.FnExactRankOf': WHATEVER THE INPUT: true; the input reads as it did. -/
def fnExactRankOfSpec : ChangeSpec := { name := "fnExactRankOf", fn := fun _ => fun
  | [d] => { results := [.lit (.bool true)], args := [d] }
  | _ => none }
def fnExactRankOfRow : OpenClaim := { program := "ytopamhcnbocfoaa", sum := "b96aeb1398d0562d79aca43451accb9efb255b5f6801161f2d24cb2c2d854e5d", func := "loop.example/g01123/laws.FnExactRankOf", spec := "fnExactRankOf", unfollowed := true, recurses := true, apart := false }
def FnExactRankOfSaid : Prop := fnExactRankOfRow.holds Try.pinned (OpenSpec.ofChange fnExactRankOfSpec)

/-- ITS FALSE NEIGHBOUR: 'it returns false'. Refute it at one input. -/
def fnExactRankOfWrong : ChangeSpec := { name := "fnExactRankOf", fn := fun _ => fun
  | [d] => { results := [.lit (.bool false)], args := [d] }
  | _ => none }
def FnExactRankOfWrongFalsely : Prop := fnExactRankOfRow.holds Try.pinned (OpenSpec.ofChange fnExactRankOfWrong)

/-- 'laws.FnExactFlipDistance': WHATEVER THE INPUT: true; the input reads as it did. -/
def fnExactFlipDistanceSpec : ChangeSpec := { name := "fnExactFlipDistance", fn := fun _ => fun
  | [d1, d2] => { results := [.lit (.bool true)], args := [d1, d2] }
  | _ => none }
def fnExactFlipDistanceRow : OpenClaim := { program := "ytopamhcnbocfoaa", sum := "b96aeb1398d0562d79aca43451accb9efb255b5f6801161f2d24cb2c2d854e5d", func := "loop.example/g01123/laws.FnExactFlipDistance", spec := "fnExactFlipDistance", unfollowed := true, recurses := true, apart := false }
def FnExactFlipDistanceSaid : Prop := fnExactFlipDistanceRow.holds Try.pinned (OpenSpec.ofChange fnExactFlipDistanceSpec)

/-- ITS FALSE NEIGHBOUR: 'it returns false'. Refute it at one input. -/
def fnExactFlipDistanceWrong : ChangeSpec := { name := "fnExactFlipDistance", fn := fun _ => fun
  | [d1, d2] => { results := [.lit (.bool false)], args := [d1, d2] }
  | _ => none }
def FnExactFlipDistanceWrongFalsely : Prop := fnExactFlipDistanceRow.holds Try.pinned (OpenSpec.ofChange fnExactFlipDistanceWrong)

/-- 'laws.FnExactIsJoinPart': WHATEVER THE INPUT: true; the input reads as it did. -/
def fnExactIsJoinPartSpec : ChangeSpec := { name := "fnExactIsJoinPart", fn := fun _ => fun
  | [d] => { results := [.lit (.bool true)], args := [d] }
  | _ => none }
def fnExactIsJoinPartRow : OpenClaim := { program := "ytopamhcnbocfoaa", sum := "b96aeb1398d0562d79aca43451accb9efb255b5f6801161f2d24cb2c2d854e5d", func := "loop.example/g01123/laws.FnExactIsJoinPart", spec := "fnExactIsJoinPart", unfollowed := true, recurses := true, apart := false }
def FnExactIsJoinPartSaid : Prop := fnExactIsJoinPartRow.holds Try.pinned (OpenSpec.ofChange fnExactIsJoinPartSpec)

/-- ITS FALSE NEIGHBOUR: 'it returns false'. Refute it at one input. -/
def fnExactIsJoinPartWrong : ChangeSpec := { name := "fnExactIsJoinPart", fn := fun _ => fun
  | [d] => { results := [.lit (.bool false)], args := [d] }
  | _ => none }
def FnExactIsJoinPartWrongFalsely : Prop := fnExactIsJoinPartRow.holds Try.pinned (OpenSpec.ofChange fnExactIsJoinPartWrong)

/-- 'laws.FnExactDualOf': WHATEVER THE INPUT: true; the input reads as it did. -/
def fnExactDualOfSpec : ChangeSpec := { name := "fnExactDualOf", fn := fun _ => fun
  | [d] => { results := [.lit (.bool true)], args := [d] }
  | _ => none }
def fnExactDualOfRow : OpenClaim := { program := "ytopamhcnbocfoaa", sum := "b96aeb1398d0562d79aca43451accb9efb255b5f6801161f2d24cb2c2d854e5d", func := "loop.example/g01123/laws.FnExactDualOf", spec := "fnExactDualOf", unfollowed := true, recurses := true, apart := false }
def FnExactDualOfSaid : Prop := fnExactDualOfRow.holds Try.pinned (OpenSpec.ofChange fnExactDualOfSpec)

/-- ITS FALSE NEIGHBOUR: 'it returns false'. Refute it at one input. -/
def fnExactDualOfWrong : ChangeSpec := { name := "fnExactDualOf", fn := fun _ => fun
  | [d] => { results := [.lit (.bool false)], args := [d] }
  | _ => none }
def FnExactDualOfWrongFalsely : Prop := fnExactDualOfRow.holds Try.pinned (OpenSpec.ofChange fnExactDualOfWrong)

/-- 'laws.FnExactFromTriangle': WHATEVER THE INPUT: true; the input reads as it did. -/
def fnExactFromTriangleSpec : ChangeSpec := { name := "fnExactFromTriangle", fn := fun _ => fun
  | [d] => { results := [.lit (.bool true)], args := [d] }
  | _ => none }
def fnExactFromTriangleRow : OpenClaim := { program := "ytopamhcnbocfoaa", sum := "b96aeb1398d0562d79aca43451accb9efb255b5f6801161f2d24cb2c2d854e5d", func := "loop.example/g01123/laws.FnExactFromTriangle", spec := "fnExactFromTriangle", apart := false }
def FnExactFromTriangleSaid : Prop := fnExactFromTriangleRow.holds Try.pinned (OpenSpec.ofChange fnExactFromTriangleSpec)

/-- ITS FALSE NEIGHBOUR: 'it returns false'. Refute it at one input. -/
def fnExactFromTriangleWrong : ChangeSpec := { name := "fnExactFromTriangle", fn := fun _ => fun
  | [d] => { results := [.lit (.bool false)], args := [d] }
  | _ => none }
def FnExactFromTriangleWrongFalsely : Prop := fnExactFromTriangleRow.holds Try.pinned (OpenSpec.ofChange fnExactFromTriangleWrong)

/- THE SECOND FORM. 'bulk': how many values and letters a reading holds, each counted each time it is reached (what is shared counts as often as it is met; a slice's spare places count too). A statement '..UptoSaid' is the law's where the arguments, and the package variables that the reading takes, are together of bulk at most 1048576: NARROWER than '..Said'. Prove '..Said' where nothing that the law and all that it calls make is longer than what came in: it says more and counts as full. Else prove '..UptoSaid'. A law counts once. -/
mutual
def uptoBulk {H : Type} : DataW H → Nat
  | .lit (.string bytes) => bytes.length + 1
  | .lit _ => 1
  | .nil => 1
  | .ptr d => uptoBulk d + 1
  | .slice elems spare => uptoBulkAll elems + uptoBulkAll spare + 1
  | .agg parts => uptoBulkAll parts + 1
  | .iface _ d => uptoBulk d + 1
  | .map entries => uptoBulkEntries entries + 1
  | .held _ => 1
def uptoBulkAll {H : Type} : List (DataW H) → Nat
  | [] => 0
  | d :: r => uptoBulk d + uptoBulkAll r
def uptoBulkEntries {H : Type} : List (Lit × DataW H) → Nat
  | [] => 0
  | x :: r => uptoBulkEntry x + uptoBulkEntries r
def uptoBulkEntry {H : Type} : Lit × DataW H → Nat
  | (.string bytes, d) => bytes.length + uptoBulk d + 1
  | (_, d) => uptoBulk d + 1
 end
def uptoSmall : (H : Type) → List (DataW H) → Bool := fun _ ds => decide (uptoBulkAll ds ≤ 1048576)
def OpenSpec.upto (s : _root_.Go.ChangeSpec) : _root_.Go.OpenSpec := { _root_.Go.OpenSpec.ofChange s with cond := some uptoSmall }

/-- 'laws.FnExactHeightsOf', WHERE WHAT IT READS IS OF BULK AT MOST 1048576: true; the input reads as it did. -/
def fnExactHeightsOfUptoRow : OpenClaim := { program := "ytopamhcnbocfoaa", sum := "b96aeb1398d0562d79aca43451accb9efb255b5f6801161f2d24cb2c2d854e5d", func := "loop.example/g01123/laws.FnExactHeightsOf", spec := "fnExactHeightsOf", unfollowed := true, recurses := true, apart := false, narrowed := true }
def FnExactHeightsOfUptoSaid : Prop := fnExactHeightsOfUptoRow.holds Try.pinned (OpenSpec.upto fnExactHeightsOfSpec)

/-- 'laws.FnExactAreHeights', WHERE WHAT IT READS IS OF BULK AT MOST 1048576: true; the input reads as it did. -/
def fnExactAreHeightsUptoRow : OpenClaim := { program := "ytopamhcnbocfoaa", sum := "b96aeb1398d0562d79aca43451accb9efb255b5f6801161f2d24cb2c2d854e5d", func := "loop.example/g01123/laws.FnExactAreHeights", spec := "fnExactAreHeights", unfollowed := true, recurses := true, apart := false, narrowed := true }
def FnExactAreHeightsUptoSaid : Prop := fnExactAreHeightsUptoRow.holds Try.pinned (OpenSpec.upto fnExactAreHeightsSpec)

/-- 'laws.FnExactFromHeights', WHERE WHAT IT READS IS OF BULK AT MOST 1048576: true; the input reads as it did. -/
def fnExactFromHeightsUptoRow : OpenClaim := { program := "ytopamhcnbocfoaa", sum := "b96aeb1398d0562d79aca43451accb9efb255b5f6801161f2d24cb2c2d854e5d", func := "loop.example/g01123/laws.FnExactFromHeights", spec := "fnExactFromHeights", unfollowed := true, recurses := true, apart := false, narrowed := true }
def FnExactFromHeightsUptoSaid : Prop := fnExactFromHeightsUptoRow.holds Try.pinned (OpenSpec.upto fnExactFromHeightsSpec)

/-- 'laws.FnExactIsBelow', WHERE WHAT IT READS IS OF BULK AT MOST 1048576: true; the input reads as it did. -/
def fnExactIsBelowUptoRow : OpenClaim := { program := "ytopamhcnbocfoaa", sum := "b96aeb1398d0562d79aca43451accb9efb255b5f6801161f2d24cb2c2d854e5d", func := "loop.example/g01123/laws.FnExactIsBelow", spec := "fnExactIsBelow", unfollowed := true, recurses := true, apart := false, narrowed := true }
def FnExactIsBelowUptoSaid : Prop := fnExactIsBelowUptoRow.holds Try.pinned (OpenSpec.upto fnExactIsBelowSpec)

/-- 'laws.FnExactMeetOf', WHERE WHAT IT READS IS OF BULK AT MOST 1048576: true; the input reads as it did. -/
def fnExactMeetOfUptoRow : OpenClaim := { program := "ytopamhcnbocfoaa", sum := "b96aeb1398d0562d79aca43451accb9efb255b5f6801161f2d24cb2c2d854e5d", func := "loop.example/g01123/laws.FnExactMeetOf", spec := "fnExactMeetOf", unfollowed := true, recurses := true, apart := false, narrowed := true }
def FnExactMeetOfUptoSaid : Prop := fnExactMeetOfUptoRow.holds Try.pinned (OpenSpec.upto fnExactMeetOfSpec)

/-- 'laws.FnExactJoinOf', WHERE WHAT IT READS IS OF BULK AT MOST 1048576: true; the input reads as it did. -/
def fnExactJoinOfUptoRow : OpenClaim := { program := "ytopamhcnbocfoaa", sum := "b96aeb1398d0562d79aca43451accb9efb255b5f6801161f2d24cb2c2d854e5d", func := "loop.example/g01123/laws.FnExactJoinOf", spec := "fnExactJoinOf", unfollowed := true, recurses := true, apart := false, narrowed := true }
def FnExactJoinOfUptoSaid : Prop := fnExactJoinOfUptoRow.holds Try.pinned (OpenSpec.upto fnExactJoinOfSpec)

/-- 'laws.FnExactLeastSigns', WHERE WHAT IT READS IS OF BULK AT MOST 1048576: true; the input reads as it did. -/
def fnExactLeastSignsUptoRow : OpenClaim := { program := "ytopamhcnbocfoaa", sum := "b96aeb1398d0562d79aca43451accb9efb255b5f6801161f2d24cb2c2d854e5d", func := "loop.example/g01123/laws.FnExactLeastSigns", spec := "fnExactLeastSigns", apart := false, narrowed := true }
def FnExactLeastSignsUptoSaid : Prop := fnExactLeastSignsUptoRow.holds Try.pinned (OpenSpec.upto fnExactLeastSignsSpec)

/-- 'laws.FnExactGreatestSigns', WHERE WHAT IT READS IS OF BULK AT MOST 1048576: true; the input reads as it did. -/
def fnExactGreatestSignsUptoRow : OpenClaim := { program := "ytopamhcnbocfoaa", sum := "b96aeb1398d0562d79aca43451accb9efb255b5f6801161f2d24cb2c2d854e5d", func := "loop.example/g01123/laws.FnExactGreatestSigns", spec := "fnExactGreatestSigns", apart := false, narrowed := true }
def FnExactGreatestSignsUptoSaid : Prop := fnExactGreatestSignsUptoRow.holds Try.pinned (OpenSpec.upto fnExactGreatestSignsSpec)

/-- 'laws.FnExactFlipsOf', WHERE WHAT IT READS IS OF BULK AT MOST 1048576: true; the input reads as it did. -/
def fnExactFlipsOfUptoRow : OpenClaim := { program := "ytopamhcnbocfoaa", sum := "b96aeb1398d0562d79aca43451accb9efb255b5f6801161f2d24cb2c2d854e5d", func := "loop.example/g01123/laws.FnExactFlipsOf", spec := "fnExactFlipsOf", unfollowed := true, recurses := true, apart := false, narrowed := true }
def FnExactFlipsOfUptoSaid : Prop := fnExactFlipsOfUptoRow.holds Try.pinned (OpenSpec.upto fnExactFlipsOfSpec)

/-- 'laws.FnExactRankOf', WHERE WHAT IT READS IS OF BULK AT MOST 1048576: true; the input reads as it did. -/
def fnExactRankOfUptoRow : OpenClaim := { program := "ytopamhcnbocfoaa", sum := "b96aeb1398d0562d79aca43451accb9efb255b5f6801161f2d24cb2c2d854e5d", func := "loop.example/g01123/laws.FnExactRankOf", spec := "fnExactRankOf", unfollowed := true, recurses := true, apart := false, narrowed := true }
def FnExactRankOfUptoSaid : Prop := fnExactRankOfUptoRow.holds Try.pinned (OpenSpec.upto fnExactRankOfSpec)

/-- 'laws.FnExactFlipDistance', WHERE WHAT IT READS IS OF BULK AT MOST 1048576: true; the input reads as it did. -/
def fnExactFlipDistanceUptoRow : OpenClaim := { program := "ytopamhcnbocfoaa", sum := "b96aeb1398d0562d79aca43451accb9efb255b5f6801161f2d24cb2c2d854e5d", func := "loop.example/g01123/laws.FnExactFlipDistance", spec := "fnExactFlipDistance", unfollowed := true, recurses := true, apart := false, narrowed := true }
def FnExactFlipDistanceUptoSaid : Prop := fnExactFlipDistanceUptoRow.holds Try.pinned (OpenSpec.upto fnExactFlipDistanceSpec)

/-- 'laws.FnExactIsJoinPart', WHERE WHAT IT READS IS OF BULK AT MOST 1048576: true; the input reads as it did. -/
def fnExactIsJoinPartUptoRow : OpenClaim := { program := "ytopamhcnbocfoaa", sum := "b96aeb1398d0562d79aca43451accb9efb255b5f6801161f2d24cb2c2d854e5d", func := "loop.example/g01123/laws.FnExactIsJoinPart", spec := "fnExactIsJoinPart", unfollowed := true, recurses := true, apart := false, narrowed := true }
def FnExactIsJoinPartUptoSaid : Prop := fnExactIsJoinPartUptoRow.holds Try.pinned (OpenSpec.upto fnExactIsJoinPartSpec)

/-- 'laws.FnExactDualOf', WHERE WHAT IT READS IS OF BULK AT MOST 1048576: true; the input reads as it did. -/
def fnExactDualOfUptoRow : OpenClaim := { program := "ytopamhcnbocfoaa", sum := "b96aeb1398d0562d79aca43451accb9efb255b5f6801161f2d24cb2c2d854e5d", func := "loop.example/g01123/laws.FnExactDualOf", spec := "fnExactDualOf", unfollowed := true, recurses := true, apart := false, narrowed := true }
def FnExactDualOfUptoSaid : Prop := fnExactDualOfUptoRow.holds Try.pinned (OpenSpec.upto fnExactDualOfSpec)

/-- 'laws.FnExactFromTriangle', WHERE WHAT IT READS IS OF BULK AT MOST 1048576: true; the input reads as it did. -/
def fnExactFromTriangleUptoRow : OpenClaim := { program := "ytopamhcnbocfoaa", sum := "b96aeb1398d0562d79aca43451accb9efb255b5f6801161f2d24cb2c2d854e5d", func := "loop.example/g01123/laws.FnExactFromTriangle", spec := "fnExactFromTriangle", apart := false, narrowed := true }
def FnExactFromTriangleUptoSaid : Prop := fnExactFromTriangleUptoRow.holds Try.pinned (OpenSpec.upto fnExactFromTriangleSpec)

end Rows
end Go.Proofs.Ytopamhcnbocfoaa
