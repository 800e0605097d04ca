/-
  No cell of these rows narrows 'for every input' (looked for: loops, veiled, ifaces, maps, wideKeys, modest, calm, conditions, laid).
  DERIVED. THE GIVEN ROWS OF THIS SEAT. 4 by the template 'for every input the law returns true; each argument reads behind the call as it read before'; 0 by the template 'total and deterministic' (their statements: YtcifcombbdblgaaTotals.lean).
  GIVEN WITH THE SEED: the statements are not yours to turn. If you find one false, say at which input.
  Laid BY PROGRAM, IN A SANDBOX (cutbox-rows.mjs): the forced cells as the released guide's own fill.sh prints them over the translation fbb80b26f1057328… (all of the seat's roots in one cut). By AI agents, Wed Nov 11 2026. No macro, syntax, notation, axiom, sorry.
-/
import Derived.Test.YtcifcombbdblgaaChecked
import GoSem.Claim
import GoSem.ClaimJoined
import GoSem.ClaimMapViews
import Derived.JoinedTies
import Derived.KernelRfl
namespace Go.Proofs.Ytcifcombbdblgaa
/- THE CELL 'sum', in the pinned program and in every row, IS THE sha256 OF THE DUMP (.gsa) THAT YtcifcombbdblgaaProg.lean LOADS. Nothing in Lean hashes anything: it is a label: what it is worth is what the hold of that sum in a sandbox is worth. -/
noncomputable def Try.pinned : Pinned := { name := "ytcifcombbdblgaa", sum := "fbb80b26f105732830f40420a9457213b513fd0779b1b7e4a4bef81bad69dbab", checked := Try.checked }
namespace Rows
def none {H : Type} : Left H := { results := [], args := [] }

/-- 'laws.FnExactIsTriangle': WHATEVER THE INPUT: true; the input reads as it did. -/
def fnExactIsTriangleSpec : ChangeSpec := { name := "fnExactIsTriangle", fn := fun _ => fun
  | [d] => { results := [.lit (.bool true)], args := [d] }
  | _ => none }
def fnExactIsTriangleRow : OpenClaim := { program := "ytcifcombbdblgaa", sum := "fbb80b26f105732830f40420a9457213b513fd0779b1b7e4a4bef81bad69dbab", func := "loop.example/g01123/laws.FnExactIsTriangle", spec := "fnExactIsTriangle", apart := false }
def FnExactIsTriangleSaid : Prop := fnExactIsTriangleRow.holds Try.pinned (OpenSpec.ofChange fnExactIsTriangleSpec)

/-- ITS FALSE NEIGHBOUR: 'it returns false'. Refute it at one input. -/
def fnExactIsTriangleWrong : ChangeSpec := { name := "fnExactIsTriangle", fn := fun _ => fun
  | [d] => { results := [.lit (.bool false)], args := [d] }
  | _ => none }
def FnExactIsTriangleWrongFalsely : Prop := fnExactIsTriangleRow.holds Try.pinned (OpenSpec.ofChange fnExactIsTriangleWrong)

/-- 'laws.FnExactFromTriangle': WHATEVER THE INPUT: true; the input reads as it did. -/
def fnExactFromTriangleSpec : ChangeSpec := { name := "fnExactFromTriangle", fn := fun _ => fun
  | [d] => { results := [.lit (.bool true)], args := [d] }
  | _ => none }
def fnExactFromTriangleRow : OpenClaim := { program := "ytcifcombbdblgaa", sum := "fbb80b26f105732830f40420a9457213b513fd0779b1b7e4a4bef81bad69dbab", func := "loop.example/g01123/laws.FnExactFromTriangle", spec := "fnExactFromTriangle", apart := false }
def FnExactFromTriangleSaid : Prop := fnExactFromTriangleRow.holds Try.pinned (OpenSpec.ofChange fnExactFromTriangleSpec)

/-- ITS FALSE NEIGHBOUR: 'it returns false'. Refute it at one input. -/
def fnExactFromTriangleWrong : ChangeSpec := { name := "fnExactFromTriangle", fn := fun _ => fun
  | [d] => { results := [.lit (.bool false)], args := [d] }
  | _ => none }
def FnExactFromTriangleWrongFalsely : Prop := fnExactFromTriangleRow.holds Try.pinned (OpenSpec.ofChange fnExactFromTriangleWrong)

/-- 'laws.FnExactFirstUnder': WHATEVER THE INPUT: true; the input reads as it did. -/
def fnExactFirstUnderSpec : ChangeSpec := { name := "fnExactFirstUnder", fn := fun _ => fun
  | [d] => { results := [.lit (.bool true)], args := [d] }
  | _ => none }
def fnExactFirstUnderRow : OpenClaim := { program := "ytcifcombbdblgaa", sum := "fbb80b26f105732830f40420a9457213b513fd0779b1b7e4a4bef81bad69dbab", func := "loop.example/g01123/laws.FnExactFirstUnder", spec := "fnExactFirstUnder", apart := false }
def FnExactFirstUnderSaid : Prop := fnExactFirstUnderRow.holds Try.pinned (OpenSpec.ofChange fnExactFirstUnderSpec)

/-- ITS FALSE NEIGHBOUR: 'it returns false'. Refute it at one input. -/
def fnExactFirstUnderWrong : ChangeSpec := { name := "fnExactFirstUnder", fn := fun _ => fun
  | [d] => { results := [.lit (.bool false)], args := [d] }
  | _ => none }
def FnExactFirstUnderWrongFalsely : Prop := fnExactFirstUnderRow.holds Try.pinned (OpenSpec.ofChange fnExactFirstUnderWrong)

/-- 'laws.FnExactDescendsOf': WHATEVER THE INPUT: true; the input reads as it did. -/
def fnExactDescendsOfSpec : ChangeSpec := { name := "fnExactDescendsOf", fn := fun _ => fun
  | [d] => { results := [.lit (.bool true)], args := [d] }
  | _ => none }
def fnExactDescendsOfRow : OpenClaim := { program := "ytcifcombbdblgaa", sum := "fbb80b26f105732830f40420a9457213b513fd0779b1b7e4a4bef81bad69dbab", func := "loop.example/g01123/laws.FnExactDescendsOf", spec := "fnExactDescendsOf", apart := false }
def FnExactDescendsOfSaid : Prop := fnExactDescendsOfRow.holds Try.pinned (OpenSpec.ofChange fnExactDescendsOfSpec)

/-- ITS FALSE NEIGHBOUR: 'it returns false'. Refute it at one input. -/
def fnExactDescendsOfWrong : ChangeSpec := { name := "fnExactDescendsOf", fn := fun _ => fun
  | [d] => { results := [.lit (.bool false)], args := [d] }
  | _ => none }
def FnExactDescendsOfWrongFalsely : Prop := fnExactDescendsOfRow.holds Try.pinned (OpenSpec.ofChange fnExactDescendsOfWrong)

/- THE SECOND FORM. 'bulk': how many values and letters a reading holds, each counted each time it is reached (what is shared counts as often as it is met; a slice's spare places count too). A statement '..UptoSaid' is the law's where the arguments, and the package variables that the reading takes, are together of bulk at most 1048576: NARROWER than '..Said'. Prove '..Said' where nothing that the law and all that it calls make is longer than what came in: it says more and counts as full. Else prove '..UptoSaid'. A law counts once. -/
mutual
def uptoBulk {H : Type} : DataW H → Nat
  | .lit (.string bytes) => bytes.length + 1
  | .lit _ => 1
  | .nil => 1
  | .ptr d => uptoBulk d + 1
  | .slice elems spare => uptoBulkAll elems + uptoBulkAll spare + 1
  | .agg parts => uptoBulkAll parts + 1
  | .iface _ d => uptoBulk d + 1
  | .map entries => uptoBulkEntries entries + 1
  | .held _ => 1
def uptoBulkAll {H : Type} : List (DataW H) → Nat
  | [] => 0
  | d :: r => uptoBulk d + uptoBulkAll r
def uptoBulkEntries {H : Type} : List (Lit × DataW H) → Nat
  | [] => 0
  | x :: r => uptoBulkEntry x + uptoBulkEntries r
def uptoBulkEntry {H : Type} : Lit × DataW H → Nat
  | (.string bytes, d) => bytes.length + uptoBulk d + 1
  | (_, d) => uptoBulk d + 1
 end
def uptoSmall : (H : Type) → List (DataW H) → Bool := fun _ ds => decide (uptoBulkAll ds ≤ 1048576)
def OpenSpec.upto (s : _root_.Go.ChangeSpec) : _root_.Go.OpenSpec := { _root_.Go.OpenSpec.ofChange s with cond := some uptoSmall }

/-- 'laws.FnExactIsTriangle', WHERE WHAT IT READS IS OF BULK AT MOST 1048576: true; the input reads as it did. -/
def fnExactIsTriangleUptoRow : OpenClaim := { program := "ytcifcombbdblgaa", sum := "fbb80b26f105732830f40420a9457213b513fd0779b1b7e4a4bef81bad69dbab", func := "loop.example/g01123/laws.FnExactIsTriangle", spec := "fnExactIsTriangle", apart := false, narrowed := true }
def FnExactIsTriangleUptoSaid : Prop := fnExactIsTriangleUptoRow.holds Try.pinned (OpenSpec.upto fnExactIsTriangleSpec)

/-- 'laws.FnExactFromTriangle', WHERE WHAT IT READS IS OF BULK AT MOST 1048576: true; the input reads as it did. -/
def fnExactFromTriangleUptoRow : OpenClaim := { program := "ytcifcombbdblgaa", sum := "fbb80b26f105732830f40420a9457213b513fd0779b1b7e4a4bef81bad69dbab", func := "loop.example/g01123/laws.FnExactFromTriangle", spec := "fnExactFromTriangle", apart := false, narrowed := true }
def FnExactFromTriangleUptoSaid : Prop := fnExactFromTriangleUptoRow.holds Try.pinned (OpenSpec.upto fnExactFromTriangleSpec)

/-- 'laws.FnExactFirstUnder', WHERE WHAT IT READS IS OF BULK AT MOST 1048576: true; the input reads as it did. -/
def fnExactFirstUnderUptoRow : OpenClaim := { program := "ytcifcombbdblgaa", sum := "fbb80b26f105732830f40420a9457213b513fd0779b1b7e4a4bef81bad69dbab", func := "loop.example/g01123/laws.FnExactFirstUnder", spec := "fnExactFirstUnder", apart := false, narrowed := true }
def FnExactFirstUnderUptoSaid : Prop := fnExactFirstUnderUptoRow.holds Try.pinned (OpenSpec.upto fnExactFirstUnderSpec)

/-- 'laws.FnExactDescendsOf', WHERE WHAT IT READS IS OF BULK AT MOST 1048576: true; the input reads as it did. -/
def fnExactDescendsOfUptoRow : OpenClaim := { program := "ytcifcombbdblgaa", sum := "fbb80b26f105732830f40420a9457213b513fd0779b1b7e4a4bef81bad69dbab", func := "loop.example/g01123/laws.FnExactDescendsOf", spec := "fnExactDescendsOf", apart := false, narrowed := true }
def FnExactDescendsOfUptoSaid : Prop := fnExactDescendsOfUptoRow.holds Try.pinned (OpenSpec.upto fnExactDescendsOfSpec)

end Rows
end Go.Proofs.Ytcifcombbdblgaa
