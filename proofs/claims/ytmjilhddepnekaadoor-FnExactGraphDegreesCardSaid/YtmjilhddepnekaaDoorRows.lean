/-
  NARROWER THAN 'FOR EVERY INPUT', by the rows' own cells (each row's printed sentence says how): FnExactGraphEdges: laid · FnExactGraphDegrees: laid · FnExactGraphCut: laid · FnExactGraphBeside: laid · FnExactGraphParts: laid · FnExactGraphSides: laid · FnSides: laid · FnExactGraphIn: laid · FnExactGraphOther: laid · FnExactGraphWithout: laid · FnFull: laid.
  DERIVED. THE GIVEN ROWS OF THIS SEAT. 11 by the template 'for every input the law returns true; each argument reads behind the call as it read before'; 0 by the template 'total and deterministic' (their statements: YtmjilhddepnekaaDoorTotals.lean).
  GIVEN WITH THE SEED: the statements are not yours to turn. If you find one false, say at which input.
  Laid BY PROGRAM, IN A SANDBOX (cutbox-rows.mjs): the forced cells as the released guide's own fill.sh prints them over the translation ca2d4a79b5a11ed5… (all of the seat's roots in one cut). By AI agents, Wed Nov 11 2026. No macro, syntax, notation, axiom, sorry.
-/
import Derived.Test.YtmjilhddepnekaaDoorChecked
import GoSem.Claim
import GoSem.ClaimJoined
import GoSem.ClaimMapViews
import Derived.JoinedTies
import Derived.KernelRfl
namespace Go.Proofs.YtmjilhddepnekaaDoor
/- THE CELL 'sum', in the pinned program and in every row, IS THE sha256 OF THE DUMP (.gsa) THAT YtmjilhddepnekaaDoorProg.lean LOADS. Nothing in Lean hashes anything: it is a label: what it is worth is what the hold of that sum in a sandbox is worth. -/
noncomputable def Tryd.pinned : Pinned := { name := "ytmjilhddepnekaadoor", sum := "ca2d4a79b5a11ed50b0a1887c81aa7a5b0b4e6cc122968c240f7b0e7eb292561", checked := Tryd.checked }
namespace Rows
def none {H : Type} : Left H := { results := [], args := [] }

/- WHAT THE LISTED PACKAGE-LEVEL VARIABLES READ AS WHEN THE CALL BEGINS. Each datum BY PROGRAM (the guide's laid-datum.mjs) off the statement by which the dump's own 'gosem.cut.vars' lays the variable. In a bare row this is a premise. The card (YtmjilhddepnekaaDoorCards.lean) ties it to the program's text. -/
def laid_math_bits_deBruijn32tab {H : Type} : DataW H := .agg [.lit (.int .u8 0), .lit (.int .u8 1), .lit (.int .u8 28), .lit (.int .u8 2), .lit (.int .u8 29), .lit (.int .u8 14), .lit (.int .u8 24), .lit (.int .u8 3), .lit (.int .u8 30), .lit (.int .u8 22), .lit (.int .u8 20), .lit (.int .u8 15), .lit (.int .u8 25), .lit (.int .u8 17), .lit (.int .u8 4), .lit (.int .u8 8), .lit (.int .u8 31), .lit (.int .u8 27), .lit (.int .u8 13), .lit (.int .u8 23), .lit (.int .u8 21), .lit (.int .u8 19), .lit (.int .u8 16), .lit (.int .u8 7), .lit (.int .u8 26), .lit (.int .u8 12), .lit (.int .u8 18), .lit (.int .u8 6), .lit (.int .u8 11), .lit (.int .u8 5), .lit (.int .u8 10), .lit (.int .u8 9)]
def laid_math_bits_deBruijn64tab {H : Type} : DataW H := .agg [.lit (.int .u8 0), .lit (.int .u8 1), .lit (.int .u8 56), .lit (.int .u8 2), .lit (.int .u8 57), .lit (.int .u8 49), .lit (.int .u8 28), .lit (.int .u8 3), .lit (.int .u8 61), .lit (.int .u8 58), .lit (.int .u8 42), .lit (.int .u8 50), .lit (.int .u8 38), .lit (.int .u8 29), .lit (.int .u8 17), .lit (.int .u8 4), .lit (.int .u8 62), .lit (.int .u8 47), .lit (.int .u8 59), .lit (.int .u8 36), .lit (.int .u8 45), .lit (.int .u8 43), .lit (.int .u8 51), .lit (.int .u8 22), .lit (.int .u8 53), .lit (.int .u8 39), .lit (.int .u8 33), .lit (.int .u8 30), .lit (.int .u8 24), .lit (.int .u8 18), .lit (.int .u8 12), .lit (.int .u8 5), .lit (.int .u8 63), .lit (.int .u8 55), .lit (.int .u8 48), .lit (.int .u8 27), .lit (.int .u8 60), .lit (.int .u8 41), .lit (.int .u8 37), .lit (.int .u8 16), .lit (.int .u8 46), .lit (.int .u8 35), .lit (.int .u8 44), .lit (.int .u8 21), .lit (.int .u8 52), .lit (.int .u8 32), .lit (.int .u8 23), .lit (.int .u8 11), .lit (.int .u8 54), .lit (.int .u8 26), .lit (.int .u8 40), .lit (.int .u8 15), .lit (.int .u8 34), .lit (.int .u8 20), .lit (.int .u8 31), .lit (.int .u8 10), .lit (.int .u8 25), .lit (.int .u8 14), .lit (.int .u8 19), .lit (.int .u8 9), .lit (.int .u8 13), .lit (.int .u8 8), .lit (.int .u8 7), .lit (.int .u8 6)]

/-- 'laws.FnExactGraphEdges': WHATEVER THE INPUT: true; the input reads as it did. -/
def fnExactGraphEdgesSpec : ChangeSpec := { name := "fnExactGraphEdges", fn := fun _ => fun
  | [d] => { results := [.lit (.bool true)], args := [d] }
  | _ => none }
def fnExactGraphEdgesRow : OpenClaim := { program := "ytmjilhddepnekaadoor", sum := "ca2d4a79b5a11ed50b0a1887c81aa7a5b0b4e6cc122968c240f7b0e7eb292561", func := "loop.example/matchpolys/laws.FnExactGraphEdges", spec := "fnExactGraphEdges", unfollowed := true, recurses := true, named := ["math/bits.deBruijn32tab", "math/bits.deBruijn64tab"], apart := false, laid := [("math/bits.deBruijn32tab", laid_math_bits_deBruijn32tab), ("math/bits.deBruijn64tab", laid_math_bits_deBruijn64tab)] }
def FnExactGraphEdgesSaid : Prop := fnExactGraphEdgesRow.holds Tryd.pinned (OpenSpec.ofChange fnExactGraphEdgesSpec)

/-- ITS FALSE NEIGHBOUR: 'it returns false'. Refute it at one input. -/
def fnExactGraphEdgesWrong : ChangeSpec := { name := "fnExactGraphEdges", fn := fun _ => fun
  | [d] => { results := [.lit (.bool false)], args := [d] }
  | _ => none }
def FnExactGraphEdgesWrongFalsely : Prop := fnExactGraphEdgesRow.holds Tryd.pinned (OpenSpec.ofChange fnExactGraphEdgesWrong)

/-- 'laws.FnExactGraphDegrees': WHATEVER THE INPUT: true; the input reads as it did. -/
def fnExactGraphDegreesSpec : ChangeSpec := { name := "fnExactGraphDegrees", fn := fun _ => fun
  | [d] => { results := [.lit (.bool true)], args := [d] }
  | _ => none }
def fnExactGraphDegreesRow : OpenClaim := { program := "ytmjilhddepnekaadoor", sum := "ca2d4a79b5a11ed50b0a1887c81aa7a5b0b4e6cc122968c240f7b0e7eb292561", func := "loop.example/matchpolys/laws.FnExactGraphDegrees", spec := "fnExactGraphDegrees", unfollowed := true, recurses := true, named := ["math/bits.deBruijn32tab", "math/bits.deBruijn64tab"], apart := false, laid := [("math/bits.deBruijn32tab", laid_math_bits_deBruijn32tab), ("math/bits.deBruijn64tab", laid_math_bits_deBruijn64tab)] }
def FnExactGraphDegreesSaid : Prop := fnExactGraphDegreesRow.holds Tryd.pinned (OpenSpec.ofChange fnExactGraphDegreesSpec)

/-- ITS FALSE NEIGHBOUR: 'it returns false'. Refute it at one input. -/
def fnExactGraphDegreesWrong : ChangeSpec := { name := "fnExactGraphDegrees", fn := fun _ => fun
  | [d] => { results := [.lit (.bool false)], args := [d] }
  | _ => none }
def FnExactGraphDegreesWrongFalsely : Prop := fnExactGraphDegreesRow.holds Tryd.pinned (OpenSpec.ofChange fnExactGraphDegreesWrong)

/-- 'laws.FnExactGraphCut': WHATEVER THE INPUT: true; the input reads as it did. -/
def fnExactGraphCutSpec : ChangeSpec := { name := "fnExactGraphCut", fn := fun _ => fun
  | [d1, d2, d3] => { results := [.lit (.bool true)], args := [d1, d2, d3] }
  | _ => none }
def fnExactGraphCutRow : OpenClaim := { program := "ytmjilhddepnekaadoor", sum := "ca2d4a79b5a11ed50b0a1887c81aa7a5b0b4e6cc122968c240f7b0e7eb292561", func := "loop.example/matchpolys/laws.FnExactGraphCut", spec := "fnExactGraphCut", unfollowed := true, recurses := true, named := ["math/bits.deBruijn32tab", "math/bits.deBruijn64tab"], apart := false, laid := [("math/bits.deBruijn32tab", laid_math_bits_deBruijn32tab), ("math/bits.deBruijn64tab", laid_math_bits_deBruijn64tab)] }
def FnExactGraphCutSaid : Prop := fnExactGraphCutRow.holds Tryd.pinned (OpenSpec.ofChange fnExactGraphCutSpec)

/-- ITS FALSE NEIGHBOUR: 'it returns false'. Refute it at one input. -/
def fnExactGraphCutWrong : ChangeSpec := { name := "fnExactGraphCut", fn := fun _ => fun
  | [d1, d2, d3] => { results := [.lit (.bool false)], args := [d1, d2, d3] }
  | _ => none }
def FnExactGraphCutWrongFalsely : Prop := fnExactGraphCutRow.holds Tryd.pinned (OpenSpec.ofChange fnExactGraphCutWrong)

/-- 'laws.FnExactGraphBeside': WHATEVER THE INPUT: true; the input reads as it did. -/
def fnExactGraphBesideSpec : ChangeSpec := { name := "fnExactGraphBeside", fn := fun _ => fun
  | [d1, d2] => { results := [.lit (.bool true)], args := [d1, d2] }
  | _ => none }
def fnExactGraphBesideRow : OpenClaim := { program := "ytmjilhddepnekaadoor", sum := "ca2d4a79b5a11ed50b0a1887c81aa7a5b0b4e6cc122968c240f7b0e7eb292561", func := "loop.example/matchpolys/laws.FnExactGraphBeside", spec := "fnExactGraphBeside", unfollowed := true, recurses := true, named := ["math/bits.deBruijn32tab", "math/bits.deBruijn64tab"], apart := false, laid := [("math/bits.deBruijn32tab", laid_math_bits_deBruijn32tab), ("math/bits.deBruijn64tab", laid_math_bits_deBruijn64tab)] }
def FnExactGraphBesideSaid : Prop := fnExactGraphBesideRow.holds Tryd.pinned (OpenSpec.ofChange fnExactGraphBesideSpec)

/-- ITS FALSE NEIGHBOUR: 'it returns false'. Refute it at one input. -/
def fnExactGraphBesideWrong : ChangeSpec := { name := "fnExactGraphBeside", fn := fun _ => fun
  | [d1, d2] => { results := [.lit (.bool false)], args := [d1, d2] }
  | _ => none }
def FnExactGraphBesideWrongFalsely : Prop := fnExactGraphBesideRow.holds Tryd.pinned (OpenSpec.ofChange fnExactGraphBesideWrong)

/-- 'laws.FnExactGraphParts': WHATEVER THE INPUT: true; the input reads as it did. -/
def fnExactGraphPartsSpec : ChangeSpec := { name := "fnExactGraphParts", fn := fun _ => fun
  | [d] => { results := [.lit (.bool true)], args := [d] }
  | _ => none }
def fnExactGraphPartsRow : OpenClaim := { program := "ytmjilhddepnekaadoor", sum := "ca2d4a79b5a11ed50b0a1887c81aa7a5b0b4e6cc122968c240f7b0e7eb292561", func := "loop.example/matchpolys/laws.FnExactGraphParts", spec := "fnExactGraphParts", unfollowed := true, recurses := true, named := ["math/bits.deBruijn32tab", "math/bits.deBruijn64tab"], apart := false, laid := [("math/bits.deBruijn32tab", laid_math_bits_deBruijn32tab), ("math/bits.deBruijn64tab", laid_math_bits_deBruijn64tab)] }
def FnExactGraphPartsSaid : Prop := fnExactGraphPartsRow.holds Tryd.pinned (OpenSpec.ofChange fnExactGraphPartsSpec)

/-- ITS FALSE NEIGHBOUR: 'it returns false'. Refute it at one input. -/
def fnExactGraphPartsWrong : ChangeSpec := { name := "fnExactGraphParts", fn := fun _ => fun
  | [d] => { results := [.lit (.bool false)], args := [d] }
  | _ => none }
def FnExactGraphPartsWrongFalsely : Prop := fnExactGraphPartsRow.holds Tryd.pinned (OpenSpec.ofChange fnExactGraphPartsWrong)

/-- 'laws.FnExactGraphSides': WHATEVER THE INPUT: true; the input reads as it did. -/
def fnExactGraphSidesSpec : ChangeSpec := { name := "fnExactGraphSides", fn := fun _ => fun
  | [d] => { results := [.lit (.bool true)], args := [d] }
  | _ => none }
def fnExactGraphSidesRow : OpenClaim := { program := "ytmjilhddepnekaadoor", sum := "ca2d4a79b5a11ed50b0a1887c81aa7a5b0b4e6cc122968c240f7b0e7eb292561", func := "loop.example/matchpolys/laws.FnExactGraphSides", spec := "fnExactGraphSides", unfollowed := true, recurses := true, named := ["math/bits.deBruijn32tab", "math/bits.deBruijn64tab"], apart := false, laid := [("math/bits.deBruijn32tab", laid_math_bits_deBruijn32tab), ("math/bits.deBruijn64tab", laid_math_bits_deBruijn64tab)] }
def FnExactGraphSidesSaid : Prop := fnExactGraphSidesRow.holds Tryd.pinned (OpenSpec.ofChange fnExactGraphSidesSpec)

/-- ITS FALSE NEIGHBOUR: 'it returns false'. Refute it at one input. -/
def fnExactGraphSidesWrong : ChangeSpec := { name := "fnExactGraphSides", fn := fun _ => fun
  | [d] => { results := [.lit (.bool false)], args := [d] }
  | _ => none }
def FnExactGraphSidesWrongFalsely : Prop := fnExactGraphSidesRow.holds Tryd.pinned (OpenSpec.ofChange fnExactGraphSidesWrong)

/-- 'laws.FnSides': WHATEVER THE INPUT: true; the input reads as it did. -/
def fnSidesSpec : ChangeSpec := { name := "fnSides", fn := fun _ => fun
  | [d] => { results := [.lit (.bool true)], args := [d] }
  | _ => none }
def fnSidesRow : OpenClaim := { program := "ytmjilhddepnekaadoor", sum := "ca2d4a79b5a11ed50b0a1887c81aa7a5b0b4e6cc122968c240f7b0e7eb292561", func := "loop.example/matchpolys/laws.FnSides", spec := "fnSides", unfollowed := true, recurses := true, named := ["math/bits.deBruijn32tab", "math/bits.deBruijn64tab"], apart := false, laid := [("math/bits.deBruijn32tab", laid_math_bits_deBruijn32tab), ("math/bits.deBruijn64tab", laid_math_bits_deBruijn64tab)] }
def FnSidesSaid : Prop := fnSidesRow.holds Tryd.pinned (OpenSpec.ofChange fnSidesSpec)

/-- ITS FALSE NEIGHBOUR: 'it returns false'. Refute it at one input. -/
def fnSidesWrong : ChangeSpec := { name := "fnSides", fn := fun _ => fun
  | [d] => { results := [.lit (.bool false)], args := [d] }
  | _ => none }
def FnSidesWrongFalsely : Prop := fnSidesRow.holds Tryd.pinned (OpenSpec.ofChange fnSidesWrong)

/-- 'laws.FnExactGraphIn': WHATEVER THE INPUT: true; the input reads as it did. -/
def fnExactGraphInSpec : ChangeSpec := { name := "fnExactGraphIn", fn := fun _ => fun
  | [d] => { results := [.lit (.bool true)], args := [d] }
  | _ => none }
def fnExactGraphInRow : OpenClaim := { program := "ytmjilhddepnekaadoor", sum := "ca2d4a79b5a11ed50b0a1887c81aa7a5b0b4e6cc122968c240f7b0e7eb292561", func := "loop.example/matchpolys/laws.FnExactGraphIn", spec := "fnExactGraphIn", unfollowed := true, recurses := true, named := ["math/bits.deBruijn32tab", "math/bits.deBruijn64tab"], apart := false, laid := [("math/bits.deBruijn32tab", laid_math_bits_deBruijn32tab), ("math/bits.deBruijn64tab", laid_math_bits_deBruijn64tab)] }
def FnExactGraphInSaid : Prop := fnExactGraphInRow.holds Tryd.pinned (OpenSpec.ofChange fnExactGraphInSpec)

/-- ITS FALSE NEIGHBOUR: 'it returns false'. Refute it at one input. -/
def fnExactGraphInWrong : ChangeSpec := { name := "fnExactGraphIn", fn := fun _ => fun
  | [d] => { results := [.lit (.bool false)], args := [d] }
  | _ => none }
def FnExactGraphInWrongFalsely : Prop := fnExactGraphInRow.holds Tryd.pinned (OpenSpec.ofChange fnExactGraphInWrong)

/-- 'laws.FnExactGraphOther': WHATEVER THE INPUT: true; the input reads as it did. -/
def fnExactGraphOtherSpec : ChangeSpec := { name := "fnExactGraphOther", fn := fun _ => fun
  | [d] => { results := [.lit (.bool true)], args := [d] }
  | _ => none }
def fnExactGraphOtherRow : OpenClaim := { program := "ytmjilhddepnekaadoor", sum := "ca2d4a79b5a11ed50b0a1887c81aa7a5b0b4e6cc122968c240f7b0e7eb292561", func := "loop.example/matchpolys/laws.FnExactGraphOther", spec := "fnExactGraphOther", unfollowed := true, recurses := true, named := ["math/bits.deBruijn32tab", "math/bits.deBruijn64tab"], apart := false, laid := [("math/bits.deBruijn32tab", laid_math_bits_deBruijn32tab), ("math/bits.deBruijn64tab", laid_math_bits_deBruijn64tab)] }
def FnExactGraphOtherSaid : Prop := fnExactGraphOtherRow.holds Tryd.pinned (OpenSpec.ofChange fnExactGraphOtherSpec)

/-- ITS FALSE NEIGHBOUR: 'it returns false'. Refute it at one input. -/
def fnExactGraphOtherWrong : ChangeSpec := { name := "fnExactGraphOther", fn := fun _ => fun
  | [d] => { results := [.lit (.bool false)], args := [d] }
  | _ => none }
def FnExactGraphOtherWrongFalsely : Prop := fnExactGraphOtherRow.holds Tryd.pinned (OpenSpec.ofChange fnExactGraphOtherWrong)

/-- 'laws.FnExactGraphWithout': WHATEVER THE INPUT: true; the input reads as it did. -/
def fnExactGraphWithoutSpec : ChangeSpec := { name := "fnExactGraphWithout", fn := fun _ => fun
  | [d1, d2] => { results := [.lit (.bool true)], args := [d1, d2] }
  | _ => none }
def fnExactGraphWithoutRow : OpenClaim := { program := "ytmjilhddepnekaadoor", sum := "ca2d4a79b5a11ed50b0a1887c81aa7a5b0b4e6cc122968c240f7b0e7eb292561", func := "loop.example/matchpolys/laws.FnExactGraphWithout", spec := "fnExactGraphWithout", unfollowed := true, recurses := true, named := ["math/bits.deBruijn32tab", "math/bits.deBruijn64tab"], apart := false, laid := [("math/bits.deBruijn32tab", laid_math_bits_deBruijn32tab), ("math/bits.deBruijn64tab", laid_math_bits_deBruijn64tab)] }
def FnExactGraphWithoutSaid : Prop := fnExactGraphWithoutRow.holds Tryd.pinned (OpenSpec.ofChange fnExactGraphWithoutSpec)

/-- ITS FALSE NEIGHBOUR: 'it returns false'. Refute it at one input. -/
def fnExactGraphWithoutWrong : ChangeSpec := { name := "fnExactGraphWithout", fn := fun _ => fun
  | [d1, d2] => { results := [.lit (.bool false)], args := [d1, d2] }
  | _ => none }
def FnExactGraphWithoutWrongFalsely : Prop := fnExactGraphWithoutRow.holds Tryd.pinned (OpenSpec.ofChange fnExactGraphWithoutWrong)

/-- 'laws.FnFull': WHATEVER THE INPUT: true; the input reads as it did. -/
def fnFullSpec : ChangeSpec := { name := "fnFull", fn := fun _ => fun
  | [d] => { results := [.lit (.bool true)], args := [d] }
  | _ => none }
def fnFullRow : OpenClaim := { program := "ytmjilhddepnekaadoor", sum := "ca2d4a79b5a11ed50b0a1887c81aa7a5b0b4e6cc122968c240f7b0e7eb292561", func := "loop.example/matchpolys/laws.FnFull", spec := "fnFull", unfollowed := true, recurses := true, named := ["math/bits.deBruijn32tab", "math/bits.deBruijn64tab"], apart := false, laid := [("math/bits.deBruijn32tab", laid_math_bits_deBruijn32tab), ("math/bits.deBruijn64tab", laid_math_bits_deBruijn64tab)] }
def FnFullSaid : Prop := fnFullRow.holds Tryd.pinned (OpenSpec.ofChange fnFullSpec)

/-- ITS FALSE NEIGHBOUR: 'it returns false'. Refute it at one input. -/
def fnFullWrong : ChangeSpec := { name := "fnFull", fn := fun _ => fun
  | [d] => { results := [.lit (.bool false)], args := [d] }
  | _ => none }
def FnFullWrongFalsely : Prop := fnFullRow.holds Tryd.pinned (OpenSpec.ofChange fnFullWrong)

/- THE SECOND FORM. 'bulk': how many values and letters a reading holds, each counted each time it is reached (what is shared counts as often as it is met; a slice's spare places count too). A statement '..UptoSaid' is the law's where the arguments, and the package variables that the reading takes, are together of bulk at most 1048576: NARROWER than '..Said'. Prove '..Said' where nothing that the law and all that it calls make is longer than what came in: it says more and counts as full. Else prove '..UptoSaid'. A law counts once. -/
mutual
def uptoBulk {H : Type} : DataW H → Nat
  | .lit (.string bytes) => bytes.length + 1
  | .lit _ => 1
  | .nil => 1
  | .ptr d => uptoBulk d + 1
  | .slice elems spare => uptoBulkAll elems + uptoBulkAll spare + 1
  | .agg parts => uptoBulkAll parts + 1
  | .iface _ d => uptoBulk d + 1
  | .map entries => uptoBulkEntries entries + 1
  | .held _ => 1
def uptoBulkAll {H : Type} : List (DataW H) → Nat
  | [] => 0
  | d :: r => uptoBulk d + uptoBulkAll r
def uptoBulkEntries {H : Type} : List (Lit × DataW H) → Nat
  | [] => 0
  | x :: r => uptoBulkEntry x + uptoBulkEntries r
def uptoBulkEntry {H : Type} : Lit × DataW H → Nat
  | (.string bytes, d) => bytes.length + uptoBulk d + 1
  | (_, d) => uptoBulk d + 1
 end
def uptoSmall : (H : Type) → List (DataW H) → Bool := fun _ ds => decide (uptoBulkAll ds ≤ 1048576)
def OpenSpec.upto (s : _root_.Go.ChangeSpec) : _root_.Go.OpenSpec := { _root_.Go.OpenSpec.ofChange s with cond := some uptoSmall }

/-- 'laws.FnExactGraphEdges', WHERE WHAT IT READS IS OF BULK AT MOST 1048576: true; the input reads as it did. -/
def fnExactGraphEdgesUptoRow : OpenClaim := { program := "ytmjilhddepnekaadoor", sum := "ca2d4a79b5a11ed50b0a1887c81aa7a5b0b4e6cc122968c240f7b0e7eb292561", func := "loop.example/matchpolys/laws.FnExactGraphEdges", spec := "fnExactGraphEdges", unfollowed := true, recurses := true, named := ["math/bits.deBruijn32tab", "math/bits.deBruijn64tab"], apart := false, laid := [("math/bits.deBruijn32tab", laid_math_bits_deBruijn32tab), ("math/bits.deBruijn64tab", laid_math_bits_deBruijn64tab)], narrowed := true }
def FnExactGraphEdgesUptoSaid : Prop := fnExactGraphEdgesUptoRow.holds Tryd.pinned (OpenSpec.upto fnExactGraphEdgesSpec)

/-- 'laws.FnExactGraphDegrees', WHERE WHAT IT READS IS OF BULK AT MOST 1048576: true; the input reads as it did. -/
def fnExactGraphDegreesUptoRow : OpenClaim := { program := "ytmjilhddepnekaadoor", sum := "ca2d4a79b5a11ed50b0a1887c81aa7a5b0b4e6cc122968c240f7b0e7eb292561", func := "loop.example/matchpolys/laws.FnExactGraphDegrees", spec := "fnExactGraphDegrees", unfollowed := true, recurses := true, named := ["math/bits.deBruijn32tab", "math/bits.deBruijn64tab"], apart := false, laid := [("math/bits.deBruijn32tab", laid_math_bits_deBruijn32tab), ("math/bits.deBruijn64tab", laid_math_bits_deBruijn64tab)], narrowed := true }
def FnExactGraphDegreesUptoSaid : Prop := fnExactGraphDegreesUptoRow.holds Tryd.pinned (OpenSpec.upto fnExactGraphDegreesSpec)

/-- 'laws.FnExactGraphCut', WHERE WHAT IT READS IS OF BULK AT MOST 1048576: true; the input reads as it did. -/
def fnExactGraphCutUptoRow : OpenClaim := { program := "ytmjilhddepnekaadoor", sum := "ca2d4a79b5a11ed50b0a1887c81aa7a5b0b4e6cc122968c240f7b0e7eb292561", func := "loop.example/matchpolys/laws.FnExactGraphCut", spec := "fnExactGraphCut", unfollowed := true, recurses := true, named := ["math/bits.deBruijn32tab", "math/bits.deBruijn64tab"], apart := false, laid := [("math/bits.deBruijn32tab", laid_math_bits_deBruijn32tab), ("math/bits.deBruijn64tab", laid_math_bits_deBruijn64tab)], narrowed := true }
def FnExactGraphCutUptoSaid : Prop := fnExactGraphCutUptoRow.holds Tryd.pinned (OpenSpec.upto fnExactGraphCutSpec)

/-- 'laws.FnExactGraphBeside', WHERE WHAT IT READS IS OF BULK AT MOST 1048576: true; the input reads as it did. -/
def fnExactGraphBesideUptoRow : OpenClaim := { program := "ytmjilhddepnekaadoor", sum := "ca2d4a79b5a11ed50b0a1887c81aa7a5b0b4e6cc122968c240f7b0e7eb292561", func := "loop.example/matchpolys/laws.FnExactGraphBeside", spec := "fnExactGraphBeside", unfollowed := true, recurses := true, named := ["math/bits.deBruijn32tab", "math/bits.deBruijn64tab"], apart := false, laid := [("math/bits.deBruijn32tab", laid_math_bits_deBruijn32tab), ("math/bits.deBruijn64tab", laid_math_bits_deBruijn64tab)], narrowed := true }
def FnExactGraphBesideUptoSaid : Prop := fnExactGraphBesideUptoRow.holds Tryd.pinned (OpenSpec.upto fnExactGraphBesideSpec)

/-- 'laws.FnExactGraphParts', WHERE WHAT IT READS IS OF BULK AT MOST 1048576: true; the input reads as it did. -/
def fnExactGraphPartsUptoRow : OpenClaim := { program := "ytmjilhddepnekaadoor", sum := "ca2d4a79b5a11ed50b0a1887c81aa7a5b0b4e6cc122968c240f7b0e7eb292561", func := "loop.example/matchpolys/laws.FnExactGraphParts", spec := "fnExactGraphParts", unfollowed := true, recurses := true, named := ["math/bits.deBruijn32tab", "math/bits.deBruijn64tab"], apart := false, laid := [("math/bits.deBruijn32tab", laid_math_bits_deBruijn32tab), ("math/bits.deBruijn64tab", laid_math_bits_deBruijn64tab)], narrowed := true }
def FnExactGraphPartsUptoSaid : Prop := fnExactGraphPartsUptoRow.holds Tryd.pinned (OpenSpec.upto fnExactGraphPartsSpec)

/-- 'laws.FnExactGraphSides', WHERE WHAT IT READS IS OF BULK AT MOST 1048576: true; the input reads as it did. -/
def fnExactGraphSidesUptoRow : OpenClaim := { program := "ytmjilhddepnekaadoor", sum := "ca2d4a79b5a11ed50b0a1887c81aa7a5b0b4e6cc122968c240f7b0e7eb292561", func := "loop.example/matchpolys/laws.FnExactGraphSides", spec := "fnExactGraphSides", unfollowed := true, recurses := true, named := ["math/bits.deBruijn32tab", "math/bits.deBruijn64tab"], apart := false, laid := [("math/bits.deBruijn32tab", laid_math_bits_deBruijn32tab), ("math/bits.deBruijn64tab", laid_math_bits_deBruijn64tab)], narrowed := true }
def FnExactGraphSidesUptoSaid : Prop := fnExactGraphSidesUptoRow.holds Tryd.pinned (OpenSpec.upto fnExactGraphSidesSpec)

/-- 'laws.FnSides', WHERE WHAT IT READS IS OF BULK AT MOST 1048576: true; the input reads as it did. -/
def fnSidesUptoRow : OpenClaim := { program := "ytmjilhddepnekaadoor", sum := "ca2d4a79b5a11ed50b0a1887c81aa7a5b0b4e6cc122968c240f7b0e7eb292561", func := "loop.example/matchpolys/laws.FnSides", spec := "fnSides", unfollowed := true, recurses := true, named := ["math/bits.deBruijn32tab", "math/bits.deBruijn64tab"], apart := false, laid := [("math/bits.deBruijn32tab", laid_math_bits_deBruijn32tab), ("math/bits.deBruijn64tab", laid_math_bits_deBruijn64tab)], narrowed := true }
def FnSidesUptoSaid : Prop := fnSidesUptoRow.holds Tryd.pinned (OpenSpec.upto fnSidesSpec)

/-- 'laws.FnExactGraphIn', WHERE WHAT IT READS IS OF BULK AT MOST 1048576: true; the input reads as it did. -/
def fnExactGraphInUptoRow : OpenClaim := { program := "ytmjilhddepnekaadoor", sum := "ca2d4a79b5a11ed50b0a1887c81aa7a5b0b4e6cc122968c240f7b0e7eb292561", func := "loop.example/matchpolys/laws.FnExactGraphIn", spec := "fnExactGraphIn", unfollowed := true, recurses := true, named := ["math/bits.deBruijn32tab", "math/bits.deBruijn64tab"], apart := false, laid := [("math/bits.deBruijn32tab", laid_math_bits_deBruijn32tab), ("math/bits.deBruijn64tab", laid_math_bits_deBruijn64tab)], narrowed := true }
def FnExactGraphInUptoSaid : Prop := fnExactGraphInUptoRow.holds Tryd.pinned (OpenSpec.upto fnExactGraphInSpec)

/-- 'laws.FnExactGraphOther', WHERE WHAT IT READS IS OF BULK AT MOST 1048576: true; the input reads as it did. -/
def fnExactGraphOtherUptoRow : OpenClaim := { program := "ytmjilhddepnekaadoor", sum := "ca2d4a79b5a11ed50b0a1887c81aa7a5b0b4e6cc122968c240f7b0e7eb292561", func := "loop.example/matchpolys/laws.FnExactGraphOther", spec := "fnExactGraphOther", unfollowed := true, recurses := true, named := ["math/bits.deBruijn32tab", "math/bits.deBruijn64tab"], apart := false, laid := [("math/bits.deBruijn32tab", laid_math_bits_deBruijn32tab), ("math/bits.deBruijn64tab", laid_math_bits_deBruijn64tab)], narrowed := true }
def FnExactGraphOtherUptoSaid : Prop := fnExactGraphOtherUptoRow.holds Tryd.pinned (OpenSpec.upto fnExactGraphOtherSpec)

/-- 'laws.FnExactGraphWithout', WHERE WHAT IT READS IS OF BULK AT MOST 1048576: true; the input reads as it did. -/
def fnExactGraphWithoutUptoRow : OpenClaim := { program := "ytmjilhddepnekaadoor", sum := "ca2d4a79b5a11ed50b0a1887c81aa7a5b0b4e6cc122968c240f7b0e7eb292561", func := "loop.example/matchpolys/laws.FnExactGraphWithout", spec := "fnExactGraphWithout", unfollowed := true, recurses := true, named := ["math/bits.deBruijn32tab", "math/bits.deBruijn64tab"], apart := false, laid := [("math/bits.deBruijn32tab", laid_math_bits_deBruijn32tab), ("math/bits.deBruijn64tab", laid_math_bits_deBruijn64tab)], narrowed := true }
def FnExactGraphWithoutUptoSaid : Prop := fnExactGraphWithoutUptoRow.holds Tryd.pinned (OpenSpec.upto fnExactGraphWithoutSpec)

/-- 'laws.FnFull', WHERE WHAT IT READS IS OF BULK AT MOST 1048576: true; the input reads as it did. -/
def fnFullUptoRow : OpenClaim := { program := "ytmjilhddepnekaadoor", sum := "ca2d4a79b5a11ed50b0a1887c81aa7a5b0b4e6cc122968c240f7b0e7eb292561", func := "loop.example/matchpolys/laws.FnFull", spec := "fnFull", unfollowed := true, recurses := true, named := ["math/bits.deBruijn32tab", "math/bits.deBruijn64tab"], apart := false, laid := [("math/bits.deBruijn32tab", laid_math_bits_deBruijn32tab), ("math/bits.deBruijn64tab", laid_math_bits_deBruijn64tab)], narrowed := true }
def FnFullUptoSaid : Prop := fnFullUptoRow.holds Tryd.pinned (OpenSpec.upto fnFullSpec)

end Rows
end Go.Proofs.YtmjilhddepnekaaDoor
