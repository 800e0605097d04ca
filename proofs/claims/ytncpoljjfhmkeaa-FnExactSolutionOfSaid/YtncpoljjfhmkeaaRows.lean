/-
  No cell of these rows narrows 'for every input' (looked for: loops, veiled, ifaces, maps, wideKeys, modest, calm, conditions, laid).
  DERIVED. THE GIVEN ROWS OF THIS SEAT. 13 by the template 'for every input the law returns true; each argument reads behind the call as it read before'; 0 by the template 'total and deterministic' (their statements: YtncpoljjfhmkeaaTotals.lean).
  GIVEN WITH THE SEED: the statements are not yours to turn. If you find one false, say at which input.
  Laid BY PROGRAM, IN A SANDBOX (cutbox-rows.mjs): the forced cells as the released guide's own fill.sh prints them over the translation 17e6f4ccddcfb062… (all of the seat's roots in one cut). By AI agents, Wed Nov 11 2026. No macro, syntax, notation, axiom, sorry.
-/
import Derived.Test.YtncpoljjfhmkeaaChecked
import GoSem.Claim
import GoSem.ClaimJoined
import GoSem.ClaimMapViews
import Derived.JoinedTies
import Derived.KernelRfl
namespace Go.Proofs.Ytncpoljjfhmkeaa
/- THE CELL 'sum', in the pinned program and in every row, IS THE sha256 OF THE DUMP (.gsa) THAT YtncpoljjfhmkeaaProg.lean LOADS. Nothing in Lean hashes anything: it is a label: what it is worth is what the hold of that sum in a sandbox is worth. -/
noncomputable def Try.pinned : Pinned := { name := "ytncpoljjfhmkeaa", sum := "17e6f4ccddcfb0623727cb609498673a25e4e00c93df1dbf099d770f4382785f", checked := Try.checked }
namespace Rows
def none {H : Type} : Left H := { results := [], args := [] }

/-- 'laws.FnExactPatternWith': WHATEVER THE INPUT: true; the input reads as it did. -/
def fnExactPatternWithSpec : ChangeSpec := { name := "fnExactPatternWith", fn := fun _ => fun
  | [d1, d2] => { results := [.lit (.bool true)], args := [d1, d2] }
  | _ => none }
def fnExactPatternWithRow : OpenClaim := { program := "ytncpoljjfhmkeaa", sum := "17e6f4ccddcfb0623727cb609498673a25e4e00c93df1dbf099d770f4382785f", func := "loop.example/g01123/laws.FnExactPatternWith", spec := "fnExactPatternWith", recurses := true, apart := false }
def FnExactPatternWithSaid : Prop := fnExactPatternWithRow.holds Try.pinned (OpenSpec.ofChange fnExactPatternWithSpec)

/-- ITS FALSE NEIGHBOUR: 'it returns false'. Refute it at one input. -/
def fnExactPatternWithWrong : ChangeSpec := { name := "fnExactPatternWith", fn := fun _ => fun
  | [d1, d2] => { results := [.lit (.bool false)], args := [d1, d2] }
  | _ => none }
def FnExactPatternWithWrongFalsely : Prop := fnExactPatternWithRow.holds Try.pinned (OpenSpec.ofChange fnExactPatternWithWrong)

/-- 'laws.FnExactRankPattern': WHATEVER THE INPUT: true; the input reads as it did. -/
def fnExactRankPatternSpec : ChangeSpec := { name := "fnExactRankPattern", fn := fun _ => fun
  | [d] => { results := [.lit (.bool true)], args := [d] }
  | _ => none }
def fnExactRankPatternRow : OpenClaim := { program := "ytncpoljjfhmkeaa", sum := "17e6f4ccddcfb0623727cb609498673a25e4e00c93df1dbf099d770f4382785f", func := "loop.example/g01123/laws.FnExactRankPattern", spec := "fnExactRankPattern", unfollowed := true, recurses := true, apart := false }
def FnExactRankPatternSaid : Prop := fnExactRankPatternRow.holds Try.pinned (OpenSpec.ofChange fnExactRankPatternSpec)

/-- ITS FALSE NEIGHBOUR: 'it returns false'. Refute it at one input. -/
def fnExactRankPatternWrong : ChangeSpec := { name := "fnExactRankPattern", fn := fun _ => fun
  | [d] => { results := [.lit (.bool false)], args := [d] }
  | _ => none }
def FnExactRankPatternWrongFalsely : Prop := fnExactRankPatternRow.holds Try.pinned (OpenSpec.ofChange fnExactRankPatternWrong)

/-- 'laws.FnExactJoinAt': WHATEVER THE INPUT: true; the input reads as it did. -/
def fnExactJoinAtSpec : ChangeSpec := { name := "fnExactJoinAt", fn := fun _ => fun
  | [d1, d2] => { results := [.lit (.bool true)], args := [d1, d2] }
  | _ => none }
def fnExactJoinAtRow : OpenClaim := { program := "ytncpoljjfhmkeaa", sum := "17e6f4ccddcfb0623727cb609498673a25e4e00c93df1dbf099d770f4382785f", func := "loop.example/g01123/laws.FnExactJoinAt", spec := "fnExactJoinAt", apart := false }
def FnExactJoinAtSaid : Prop := fnExactJoinAtRow.holds Try.pinned (OpenSpec.ofChange fnExactJoinAtSpec)

/-- ITS FALSE NEIGHBOUR: 'it returns false'. Refute it at one input. -/
def fnExactJoinAtWrong : ChangeSpec := { name := "fnExactJoinAt", fn := fun _ => fun
  | [d1, d2] => { results := [.lit (.bool false)], args := [d1, d2] }
  | _ => none }
def FnExactJoinAtWrongFalsely : Prop := fnExactJoinAtRow.holds Try.pinned (OpenSpec.ofChange fnExactJoinAtWrong)

/-- 'laws.FnExactJoinWord': WHATEVER THE INPUT: true; the input reads as it did. -/
def fnExactJoinWordSpec : ChangeSpec := { name := "fnExactJoinWord", fn := fun _ => fun
  | [d1, d2] => { results := [.lit (.bool true)], args := [d1, d2] }
  | _ => none }
def fnExactJoinWordRow : OpenClaim := { program := "ytncpoljjfhmkeaa", sum := "17e6f4ccddcfb0623727cb609498673a25e4e00c93df1dbf099d770f4382785f", func := "loop.example/g01123/laws.FnExactJoinWord", spec := "fnExactJoinWord", apart := false }
def FnExactJoinWordSaid : Prop := fnExactJoinWordRow.holds Try.pinned (OpenSpec.ofChange fnExactJoinWordSpec)

/-- ITS FALSE NEIGHBOUR: 'it returns false'. Refute it at one input. -/
def fnExactJoinWordWrong : ChangeSpec := { name := "fnExactJoinWord", fn := fun _ => fun
  | [d1, d2] => { results := [.lit (.bool false)], args := [d1, d2] }
  | _ => none }
def FnExactJoinWordWrongFalsely : Prop := fnExactJoinWordRow.holds Try.pinned (OpenSpec.ofChange fnExactJoinWordWrong)

/-- 'laws.FnExactSmallArcs': WHATEVER THE INPUT: true; the input reads as it did. -/
def fnExactSmallArcsSpec : ChangeSpec := { name := "fnExactSmallArcs", fn := fun _ => fun
  | [d] => { results := [.lit (.bool true)], args := [d] }
  | _ => none }
def fnExactSmallArcsRow : OpenClaim := { program := "ytncpoljjfhmkeaa", sum := "17e6f4ccddcfb0623727cb609498673a25e4e00c93df1dbf099d770f4382785f", func := "loop.example/g01123/laws.FnExactSmallArcs", spec := "fnExactSmallArcs", apart := false }
def FnExactSmallArcsSaid : Prop := fnExactSmallArcsRow.holds Try.pinned (OpenSpec.ofChange fnExactSmallArcsSpec)

/-- ITS FALSE NEIGHBOUR: 'it returns false'. Refute it at one input. -/
def fnExactSmallArcsWrong : ChangeSpec := { name := "fnExactSmallArcs", fn := fun _ => fun
  | [d] => { results := [.lit (.bool false)], args := [d] }
  | _ => none }
def FnExactSmallArcsWrongFalsely : Prop := fnExactSmallArcsRow.holds Try.pinned (OpenSpec.ofChange fnExactSmallArcsWrong)

/-- 'laws.FnExactOperatorOf': WHATEVER THE INPUT: true; the input reads as it did. -/
def fnExactOperatorOfSpec : ChangeSpec := { name := "fnExactOperatorOf", fn := fun _ => fun
  | [d1, d2] => { results := [.lit (.bool true)], args := [d1, d2] }
  | _ => none }
def fnExactOperatorOfRow : OpenClaim := { program := "ytncpoljjfhmkeaa", sum := "17e6f4ccddcfb0623727cb609498673a25e4e00c93df1dbf099d770f4382785f", func := "loop.example/g01123/laws.FnExactOperatorOf", spec := "fnExactOperatorOf", unfollowed := true, recurses := true, apart := false }
def FnExactOperatorOfSaid : Prop := fnExactOperatorOfRow.holds Try.pinned (OpenSpec.ofChange fnExactOperatorOfSpec)

/-- ITS FALSE NEIGHBOUR: 'it returns false'. Refute it at one input. -/
def fnExactOperatorOfWrong : ChangeSpec := { name := "fnExactOperatorOf", fn := fun _ => fun
  | [d1, d2] => { results := [.lit (.bool false)], args := [d1, d2] }
  | _ => none }
def FnExactOperatorOfWrongFalsely : Prop := fnExactOperatorOfRow.holds Try.pinned (OpenSpec.ofChange fnExactOperatorOfWrong)

/-- 'laws.FnExactSumOperator': WHATEVER THE INPUT: true; the input reads as it did. -/
def fnExactSumOperatorSpec : ChangeSpec := { name := "fnExactSumOperator", fn := fun _ => fun
  | [d] => { results := [.lit (.bool true)], args := [d] }
  | _ => none }
def fnExactSumOperatorRow : OpenClaim := { program := "ytncpoljjfhmkeaa", sum := "17e6f4ccddcfb0623727cb609498673a25e4e00c93df1dbf099d770f4382785f", func := "loop.example/g01123/laws.FnExactSumOperator", spec := "fnExactSumOperator", unfollowed := true, recurses := true, apart := false }
def FnExactSumOperatorSaid : Prop := fnExactSumOperatorRow.holds Try.pinned (OpenSpec.ofChange fnExactSumOperatorSpec)

/-- ITS FALSE NEIGHBOUR: 'it returns false'. Refute it at one input. -/
def fnExactSumOperatorWrong : ChangeSpec := { name := "fnExactSumOperator", fn := fun _ => fun
  | [d] => { results := [.lit (.bool false)], args := [d] }
  | _ => none }
def FnExactSumOperatorWrongFalsely : Prop := fnExactSumOperatorRow.holds Try.pinned (OpenSpec.ofChange fnExactSumOperatorWrong)

/-- 'laws.FnExactApplyOperator': WHATEVER THE INPUT: true; the input reads as it did. -/
def fnExactApplyOperatorSpec : ChangeSpec := { name := "fnExactApplyOperator", fn := fun _ => fun
  | [d1, d2] => { results := [.lit (.bool true)], args := [d1, d2] }
  | _ => none }
def fnExactApplyOperatorRow : OpenClaim := { program := "ytncpoljjfhmkeaa", sum := "17e6f4ccddcfb0623727cb609498673a25e4e00c93df1dbf099d770f4382785f", func := "loop.example/g01123/laws.FnExactApplyOperator", spec := "fnExactApplyOperator", unfollowed := true, recurses := true, apart := false }
def FnExactApplyOperatorSaid : Prop := fnExactApplyOperatorRow.holds Try.pinned (OpenSpec.ofChange fnExactApplyOperatorSpec)

/-- ITS FALSE NEIGHBOUR: 'it returns false'. Refute it at one input. -/
def fnExactApplyOperatorWrong : ChangeSpec := { name := "fnExactApplyOperator", fn := fun _ => fun
  | [d1, d2] => { results := [.lit (.bool false)], args := [d1, d2] }
  | _ => none }
def FnExactApplyOperatorWrongFalsely : Prop := fnExactApplyOperatorRow.holds Try.pinned (OpenSpec.ofChange fnExactApplyOperatorWrong)

/-- 'laws.FnExactSolutionOf': WHATEVER THE INPUT: true; the input reads as it did. -/
def fnExactSolutionOfSpec : ChangeSpec := { name := "fnExactSolutionOf", fn := fun _ => fun
  | [d] => { results := [.lit (.bool true)], args := [d] }
  | _ => none }
def fnExactSolutionOfRow : OpenClaim := { program := "ytncpoljjfhmkeaa", sum := "17e6f4ccddcfb0623727cb609498673a25e4e00c93df1dbf099d770f4382785f", func := "loop.example/g01123/laws.FnExactSolutionOf", spec := "fnExactSolutionOf", unfollowed := true, recurses := true, apart := false }
def FnExactSolutionOfSaid : Prop := fnExactSolutionOfRow.holds Try.pinned (OpenSpec.ofChange fnExactSolutionOfSpec)

/-- ITS FALSE NEIGHBOUR: 'it returns false'. Refute it at one input. -/
def fnExactSolutionOfWrong : ChangeSpec := { name := "fnExactSolutionOf", fn := fun _ => fun
  | [d] => { results := [.lit (.bool false)], args := [d] }
  | _ => none }
def FnExactSolutionOfWrongFalsely : Prop := fnExactSolutionOfRow.holds Try.pinned (OpenSpec.ofChange fnExactSolutionOfWrong)

/-- 'laws.FnExactIsFixed': WHATEVER THE INPUT: true; the input reads as it did. -/
def fnExactIsFixedSpec : ChangeSpec := { name := "fnExactIsFixed", fn := fun _ => fun
  | [d1, d2] => { results := [.lit (.bool true)], args := [d1, d2] }
  | _ => none }
def fnExactIsFixedRow : OpenClaim := { program := "ytncpoljjfhmkeaa", sum := "17e6f4ccddcfb0623727cb609498673a25e4e00c93df1dbf099d770f4382785f", func := "loop.example/g01123/laws.FnExactIsFixed", spec := "fnExactIsFixed", unfollowed := true, recurses := true, apart := false }
def FnExactIsFixedSaid : Prop := fnExactIsFixedRow.holds Try.pinned (OpenSpec.ofChange fnExactIsFixedSpec)

/-- ITS FALSE NEIGHBOUR: 'it returns false'. Refute it at one input. -/
def fnExactIsFixedWrong : ChangeSpec := { name := "fnExactIsFixed", fn := fun _ => fun
  | [d1, d2] => { results := [.lit (.bool false)], args := [d1, d2] }
  | _ => none }
def FnExactIsFixedWrongFalsely : Prop := fnExactIsFixedRow.holds Try.pinned (OpenSpec.ofChange fnExactIsFixedWrong)

/-- 'laws.FnExactReachedFrom': WHATEVER THE INPUT: true; the input reads as it did. -/
def fnExactReachedFromSpec : ChangeSpec := { name := "fnExactReachedFrom", fn := fun _ => fun
  | [d] => { results := [.lit (.bool true)], args := [d] }
  | _ => none }
def fnExactReachedFromRow : OpenClaim := { program := "ytncpoljjfhmkeaa", sum := "17e6f4ccddcfb0623727cb609498673a25e4e00c93df1dbf099d770f4382785f", func := "loop.example/g01123/laws.FnExactReachedFrom", spec := "fnExactReachedFrom", unfollowed := true, recurses := true, apart := false }
def FnExactReachedFromSaid : Prop := fnExactReachedFromRow.holds Try.pinned (OpenSpec.ofChange fnExactReachedFromSpec)

/-- ITS FALSE NEIGHBOUR: 'it returns false'. Refute it at one input. -/
def fnExactReachedFromWrong : ChangeSpec := { name := "fnExactReachedFrom", fn := fun _ => fun
  | [d] => { results := [.lit (.bool false)], args := [d] }
  | _ => none }
def FnExactReachedFromWrongFalsely : Prop := fnExactReachedFromRow.holds Try.pinned (OpenSpec.ofChange fnExactReachedFromWrong)

/-- 'laws.FnExactNestOf': WHATEVER THE INPUT: true; the input reads as it did. -/
def fnExactNestOfSpec : ChangeSpec := { name := "fnExactNestOf", fn := fun _ => fun
  | [d] => { results := [.lit (.bool true)], args := [d] }
  | _ => none }
def fnExactNestOfRow : OpenClaim := { program := "ytncpoljjfhmkeaa", sum := "17e6f4ccddcfb0623727cb609498673a25e4e00c93df1dbf099d770f4382785f", func := "loop.example/g01123/laws.FnExactNestOf", spec := "fnExactNestOf", apart := false }
def FnExactNestOfSaid : Prop := fnExactNestOfRow.holds Try.pinned (OpenSpec.ofChange fnExactNestOfSpec)

/-- ITS FALSE NEIGHBOUR: 'it returns false'. Refute it at one input. -/
def fnExactNestOfWrong : ChangeSpec := { name := "fnExactNestOf", fn := fun _ => fun
  | [d] => { results := [.lit (.bool false)], args := [d] }
  | _ => none }
def FnExactNestOfWrongFalsely : Prop := fnExactNestOfRow.holds Try.pinned (OpenSpec.ofChange fnExactNestOfWrong)

/-- 'laws.FnExactPatternPeriod': WHATEVER THE INPUT: true; the input reads as it did. -/
def fnExactPatternPeriodSpec : ChangeSpec := { name := "fnExactPatternPeriod", fn := fun _ => fun
  | [d] => { results := [.lit (.bool true)], args := [d] }
  | _ => none }
def fnExactPatternPeriodRow : OpenClaim := { program := "ytncpoljjfhmkeaa", sum := "17e6f4ccddcfb0623727cb609498673a25e4e00c93df1dbf099d770f4382785f", func := "loop.example/g01123/laws.FnExactPatternPeriod", spec := "fnExactPatternPeriod", unfollowed := true, recurses := true, apart := false }
def FnExactPatternPeriodSaid : Prop := fnExactPatternPeriodRow.holds Try.pinned (OpenSpec.ofChange fnExactPatternPeriodSpec)

/-- ITS FALSE NEIGHBOUR: 'it returns false'. Refute it at one input. -/
def fnExactPatternPeriodWrong : ChangeSpec := { name := "fnExactPatternPeriod", fn := fun _ => fun
  | [d] => { results := [.lit (.bool false)], args := [d] }
  | _ => none }
def FnExactPatternPeriodWrongFalsely : Prop := fnExactPatternPeriodRow.holds Try.pinned (OpenSpec.ofChange fnExactPatternPeriodWrong)

/- THE SECOND FORM. 'bulk': how many values and letters a reading holds, each counted each time it is reached (what is shared counts as often as it is met; a slice's spare places count too). A statement '..UptoSaid' is the law's where the arguments, and the package variables that the reading takes, are together of bulk at most 1048576: NARROWER than '..Said'. Prove '..Said' where nothing that the law and all that it calls make is longer than what came in: it says more and counts as full. Else prove '..UptoSaid'. A law counts once. -/
mutual
def uptoBulk {H : Type} : DataW H → Nat
  | .lit (.string bytes) => bytes.length + 1
  | .lit _ => 1
  | .nil => 1
  | .ptr d => uptoBulk d + 1
  | .slice elems spare => uptoBulkAll elems + uptoBulkAll spare + 1
  | .agg parts => uptoBulkAll parts + 1
  | .iface _ d => uptoBulk d + 1
  | .map entries => uptoBulkEntries entries + 1
  | .held _ => 1
def uptoBulkAll {H : Type} : List (DataW H) → Nat
  | [] => 0
  | d :: r => uptoBulk d + uptoBulkAll r
def uptoBulkEntries {H : Type} : List (Lit × DataW H) → Nat
  | [] => 0
  | x :: r => uptoBulkEntry x + uptoBulkEntries r
def uptoBulkEntry {H : Type} : Lit × DataW H → Nat
  | (.string bytes, d) => bytes.length + uptoBulk d + 1
  | (_, d) => uptoBulk d + 1
 end
def uptoSmall : (H : Type) → List (DataW H) → Bool := fun _ ds => decide (uptoBulkAll ds ≤ 1048576)
def OpenSpec.upto (s : _root_.Go.ChangeSpec) : _root_.Go.OpenSpec := { _root_.Go.OpenSpec.ofChange s with cond := some uptoSmall }

/-- 'laws.FnExactPatternWith', WHERE WHAT IT READS IS OF BULK AT MOST 1048576: true; the input reads as it did. -/
def fnExactPatternWithUptoRow : OpenClaim := { program := "ytncpoljjfhmkeaa", sum := "17e6f4ccddcfb0623727cb609498673a25e4e00c93df1dbf099d770f4382785f", func := "loop.example/g01123/laws.FnExactPatternWith", spec := "fnExactPatternWith", recurses := true, apart := false, narrowed := true }
def FnExactPatternWithUptoSaid : Prop := fnExactPatternWithUptoRow.holds Try.pinned (OpenSpec.upto fnExactPatternWithSpec)

/-- 'laws.FnExactRankPattern', WHERE WHAT IT READS IS OF BULK AT MOST 1048576: true; the input reads as it did. -/
def fnExactRankPatternUptoRow : OpenClaim := { program := "ytncpoljjfhmkeaa", sum := "17e6f4ccddcfb0623727cb609498673a25e4e00c93df1dbf099d770f4382785f", func := "loop.example/g01123/laws.FnExactRankPattern", spec := "fnExactRankPattern", unfollowed := true, recurses := true, apart := false, narrowed := true }
def FnExactRankPatternUptoSaid : Prop := fnExactRankPatternUptoRow.holds Try.pinned (OpenSpec.upto fnExactRankPatternSpec)

/-- 'laws.FnExactJoinAt', WHERE WHAT IT READS IS OF BULK AT MOST 1048576: true; the input reads as it did. -/
def fnExactJoinAtUptoRow : OpenClaim := { program := "ytncpoljjfhmkeaa", sum := "17e6f4ccddcfb0623727cb609498673a25e4e00c93df1dbf099d770f4382785f", func := "loop.example/g01123/laws.FnExactJoinAt", spec := "fnExactJoinAt", apart := false, narrowed := true }
def FnExactJoinAtUptoSaid : Prop := fnExactJoinAtUptoRow.holds Try.pinned (OpenSpec.upto fnExactJoinAtSpec)

/-- 'laws.FnExactJoinWord', WHERE WHAT IT READS IS OF BULK AT MOST 1048576: true; the input reads as it did. -/
def fnExactJoinWordUptoRow : OpenClaim := { program := "ytncpoljjfhmkeaa", sum := "17e6f4ccddcfb0623727cb609498673a25e4e00c93df1dbf099d770f4382785f", func := "loop.example/g01123/laws.FnExactJoinWord", spec := "fnExactJoinWord", apart := false, narrowed := true }
def FnExactJoinWordUptoSaid : Prop := fnExactJoinWordUptoRow.holds Try.pinned (OpenSpec.upto fnExactJoinWordSpec)

/-- 'laws.FnExactSmallArcs', WHERE WHAT IT READS IS OF BULK AT MOST 1048576: true; the input reads as it did. -/
def fnExactSmallArcsUptoRow : OpenClaim := { program := "ytncpoljjfhmkeaa", sum := "17e6f4ccddcfb0623727cb609498673a25e4e00c93df1dbf099d770f4382785f", func := "loop.example/g01123/laws.FnExactSmallArcs", spec := "fnExactSmallArcs", apart := false, narrowed := true }
def FnExactSmallArcsUptoSaid : Prop := fnExactSmallArcsUptoRow.holds Try.pinned (OpenSpec.upto fnExactSmallArcsSpec)

/-- 'laws.FnExactOperatorOf', WHERE WHAT IT READS IS OF BULK AT MOST 1048576: true; the input reads as it did. -/
def fnExactOperatorOfUptoRow : OpenClaim := { program := "ytncpoljjfhmkeaa", sum := "17e6f4ccddcfb0623727cb609498673a25e4e00c93df1dbf099d770f4382785f", func := "loop.example/g01123/laws.FnExactOperatorOf", spec := "fnExactOperatorOf", unfollowed := true, recurses := true, apart := false, narrowed := true }
def FnExactOperatorOfUptoSaid : Prop := fnExactOperatorOfUptoRow.holds Try.pinned (OpenSpec.upto fnExactOperatorOfSpec)

/-- 'laws.FnExactSumOperator', WHERE WHAT IT READS IS OF BULK AT MOST 1048576: true; the input reads as it did. -/
def fnExactSumOperatorUptoRow : OpenClaim := { program := "ytncpoljjfhmkeaa", sum := "17e6f4ccddcfb0623727cb609498673a25e4e00c93df1dbf099d770f4382785f", func := "loop.example/g01123/laws.FnExactSumOperator", spec := "fnExactSumOperator", unfollowed := true, recurses := true, apart := false, narrowed := true }
def FnExactSumOperatorUptoSaid : Prop := fnExactSumOperatorUptoRow.holds Try.pinned (OpenSpec.upto fnExactSumOperatorSpec)

/-- 'laws.FnExactApplyOperator', WHERE WHAT IT READS IS OF BULK AT MOST 1048576: true; the input reads as it did. -/
def fnExactApplyOperatorUptoRow : OpenClaim := { program := "ytncpoljjfhmkeaa", sum := "17e6f4ccddcfb0623727cb609498673a25e4e00c93df1dbf099d770f4382785f", func := "loop.example/g01123/laws.FnExactApplyOperator", spec := "fnExactApplyOperator", unfollowed := true, recurses := true, apart := false, narrowed := true }
def FnExactApplyOperatorUptoSaid : Prop := fnExactApplyOperatorUptoRow.holds Try.pinned (OpenSpec.upto fnExactApplyOperatorSpec)

/-- 'laws.FnExactSolutionOf', WHERE WHAT IT READS IS OF BULK AT MOST 1048576: true; the input reads as it did. -/
def fnExactSolutionOfUptoRow : OpenClaim := { program := "ytncpoljjfhmkeaa", sum := "17e6f4ccddcfb0623727cb609498673a25e4e00c93df1dbf099d770f4382785f", func := "loop.example/g01123/laws.FnExactSolutionOf", spec := "fnExactSolutionOf", unfollowed := true, recurses := true, apart := false, narrowed := true }
def FnExactSolutionOfUptoSaid : Prop := fnExactSolutionOfUptoRow.holds Try.pinned (OpenSpec.upto fnExactSolutionOfSpec)

/-- 'laws.FnExactIsFixed', WHERE WHAT IT READS IS OF BULK AT MOST 1048576: true; the input reads as it did. -/
def fnExactIsFixedUptoRow : OpenClaim := { program := "ytncpoljjfhmkeaa", sum := "17e6f4ccddcfb0623727cb609498673a25e4e00c93df1dbf099d770f4382785f", func := "loop.example/g01123/laws.FnExactIsFixed", spec := "fnExactIsFixed", unfollowed := true, recurses := true, apart := false, narrowed := true }
def FnExactIsFixedUptoSaid : Prop := fnExactIsFixedUptoRow.holds Try.pinned (OpenSpec.upto fnExactIsFixedSpec)

/-- 'laws.FnExactReachedFrom', WHERE WHAT IT READS IS OF BULK AT MOST 1048576: true; the input reads as it did. -/
def fnExactReachedFromUptoRow : OpenClaim := { program := "ytncpoljjfhmkeaa", sum := "17e6f4ccddcfb0623727cb609498673a25e4e00c93df1dbf099d770f4382785f", func := "loop.example/g01123/laws.FnExactReachedFrom", spec := "fnExactReachedFrom", unfollowed := true, recurses := true, apart := false, narrowed := true }
def FnExactReachedFromUptoSaid : Prop := fnExactReachedFromUptoRow.holds Try.pinned (OpenSpec.upto fnExactReachedFromSpec)

/-- 'laws.FnExactNestOf', WHERE WHAT IT READS IS OF BULK AT MOST 1048576: true; the input reads as it did. -/
def fnExactNestOfUptoRow : OpenClaim := { program := "ytncpoljjfhmkeaa", sum := "17e6f4ccddcfb0623727cb609498673a25e4e00c93df1dbf099d770f4382785f", func := "loop.example/g01123/laws.FnExactNestOf", spec := "fnExactNestOf", apart := false, narrowed := true }
def FnExactNestOfUptoSaid : Prop := fnExactNestOfUptoRow.holds Try.pinned (OpenSpec.upto fnExactNestOfSpec)

/-- 'laws.FnExactPatternPeriod', WHERE WHAT IT READS IS OF BULK AT MOST 1048576: true; the input reads as it did. -/
def fnExactPatternPeriodUptoRow : OpenClaim := { program := "ytncpoljjfhmkeaa", sum := "17e6f4ccddcfb0623727cb609498673a25e4e00c93df1dbf099d770f4382785f", func := "loop.example/g01123/laws.FnExactPatternPeriod", spec := "fnExactPatternPeriod", unfollowed := true, recurses := true, apart := false, narrowed := true }
def FnExactPatternPeriodUptoSaid : Prop := fnExactPatternPeriodUptoRow.holds Try.pinned (OpenSpec.upto fnExactPatternPeriodSpec)

end Rows
end Go.Proofs.Ytncpoljjfhmkeaa
