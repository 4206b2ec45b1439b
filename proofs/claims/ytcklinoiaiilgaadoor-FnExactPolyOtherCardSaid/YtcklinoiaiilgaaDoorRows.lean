/-
  NARROWER THAN 'FOR EVERY INPUT', by the rows' own cells (each row's printed sentence says how): FnExactMatchNumbers: laid · FnExactMatchGreatest: laid · FnExactMatchAll: laid · FnExactPolyMatch: laid · FnExactPolyOther: laid · FnExactCoverCritical: laid · FnExactCoverThree: laid · FnExactCoverEdges: laid · FnExactCoverIn: laid · FnExactCoverLoss: laid · FnExactGraphEdges: laid · FnExactMatchAllowed: laid.
  DERIVED. THE GIVEN ROWS OF THIS SEAT. 12 by the template 'for every input the law returns true; each argument reads behind the call as it read before'; 0 by the template 'total and deterministic' (their statements: YtcklinoiaiilgaaDoorTotals.lean).
  GIVEN WITH THE SEED: the statements are not yours to turn. If you find one false, say at which input.
  Laid BY PROGRAM, IN A SANDBOX (cutbox-rows.mjs): the forced cells as the released guide's own fill.sh prints them over the translation 8db24fffcbed3021… (all of the seat's roots in one cut). By AI agents, Wed Nov 11 2026. No macro, syntax, notation, axiom, sorry.
-/
import Derived.Test.YtcklinoiaiilgaaDoorChecked
import GoSem.Claim
import GoSem.ClaimJoined
import GoSem.ClaimMapViews
import Derived.JoinedTies
import Derived.KernelRfl
namespace Go.Proofs.YtcklinoiaiilgaaDoor
/- THE CELL 'sum', in the pinned program and in every row, IS THE sha256 OF THE DUMP (.gsa) THAT YtcklinoiaiilgaaDoorProg.lean LOADS. Nothing in Lean hashes anything: it is a label: what it is worth is what the hold of that sum in a sandbox is worth. -/
noncomputable def Tryd.pinned : Pinned := { name := "ytcklinoiaiilgaadoor", sum := "8db24fffcbed30214776ed6b37b403e08f98cc294e5adf05ace0268a6ccba159", checked := Tryd.checked }
namespace Rows
def none {H : Type} : Left H := { results := [], args := [] }

/- WHAT THE LISTED PACKAGE-LEVEL VARIABLES READ AS WHEN THE CALL BEGINS. Each datum BY PROGRAM (the guide's laid-datum.mjs) off the statement by which the dump's own 'gosem.cut.vars' lays the variable. In a bare row this is a premise. The card (YtcklinoiaiilgaaDoorCards.lean) ties it to the program's text. -/
def laid_math_bits_deBruijn32tab {H : Type} : DataW H := .agg [.lit (.int .u8 0), .lit (.int .u8 1), .lit (.int .u8 28), .lit (.int .u8 2), .lit (.int .u8 29), .lit (.int .u8 14), .lit (.int .u8 24), .lit (.int .u8 3), .lit (.int .u8 30), .lit (.int .u8 22), .lit (.int .u8 20), .lit (.int .u8 15), .lit (.int .u8 25), .lit (.int .u8 17), .lit (.int .u8 4), .lit (.int .u8 8), .lit (.int .u8 31), .lit (.int .u8 27), .lit (.int .u8 13), .lit (.int .u8 23), .lit (.int .u8 21), .lit (.int .u8 19), .lit (.int .u8 16), .lit (.int .u8 7), .lit (.int .u8 26), .lit (.int .u8 12), .lit (.int .u8 18), .lit (.int .u8 6), .lit (.int .u8 11), .lit (.int .u8 5), .lit (.int .u8 10), .lit (.int .u8 9)]
def laid_math_bits_deBruijn64tab {H : Type} : DataW H := .agg [.lit (.int .u8 0), .lit (.int .u8 1), .lit (.int .u8 56), .lit (.int .u8 2), .lit (.int .u8 57), .lit (.int .u8 49), .lit (.int .u8 28), .lit (.int .u8 3), .lit (.int .u8 61), .lit (.int .u8 58), .lit (.int .u8 42), .lit (.int .u8 50), .lit (.int .u8 38), .lit (.int .u8 29), .lit (.int .u8 17), .lit (.int .u8 4), .lit (.int .u8 62), .lit (.int .u8 47), .lit (.int .u8 59), .lit (.int .u8 36), .lit (.int .u8 45), .lit (.int .u8 43), .lit (.int .u8 51), .lit (.int .u8 22), .lit (.int .u8 53), .lit (.int .u8 39), .lit (.int .u8 33), .lit (.int .u8 30), .lit (.int .u8 24), .lit (.int .u8 18), .lit (.int .u8 12), .lit (.int .u8 5), .lit (.int .u8 63), .lit (.int .u8 55), .lit (.int .u8 48), .lit (.int .u8 27), .lit (.int .u8 60), .lit (.int .u8 41), .lit (.int .u8 37), .lit (.int .u8 16), .lit (.int .u8 46), .lit (.int .u8 35), .lit (.int .u8 44), .lit (.int .u8 21), .lit (.int .u8 52), .lit (.int .u8 32), .lit (.int .u8 23), .lit (.int .u8 11), .lit (.int .u8 54), .lit (.int .u8 26), .lit (.int .u8 40), .lit (.int .u8 15), .lit (.int .u8 34), .lit (.int .u8 20), .lit (.int .u8 31), .lit (.int .u8 10), .lit (.int .u8 25), .lit (.int .u8 14), .lit (.int .u8 19), .lit (.int .u8 9), .lit (.int .u8 13), .lit (.int .u8 8), .lit (.int .u8 7), .lit (.int .u8 6)]

/-- 'laws.FnExactMatchNumbers': WHATEVER THE INPUT: true; the input reads as it did. -/
def fnExactMatchNumbersSpec : ChangeSpec := { name := "fnExactMatchNumbers", fn := fun _ => fun
  | [d] => { results := [.lit (.bool true)], args := [d] }
  | _ => none }
def fnExactMatchNumbersRow : OpenClaim := { program := "ytcklinoiaiilgaadoor", sum := "8db24fffcbed30214776ed6b37b403e08f98cc294e5adf05ace0268a6ccba159", func := "loop.example/matchpolys/laws.FnExactMatchNumbers", spec := "fnExactMatchNumbers", unfollowed := true, recurses := true, named := ["math/bits.deBruijn32tab", "math/bits.deBruijn64tab"], apart := false, laid := [("math/bits.deBruijn32tab", laid_math_bits_deBruijn32tab), ("math/bits.deBruijn64tab", laid_math_bits_deBruijn64tab)] }
def FnExactMatchNumbersSaid : Prop := fnExactMatchNumbersRow.holds Tryd.pinned (OpenSpec.ofChange fnExactMatchNumbersSpec)

/-- ITS FALSE NEIGHBOUR: 'it returns false'. Refute it at one input. -/
def fnExactMatchNumbersWrong : ChangeSpec := { name := "fnExactMatchNumbers", fn := fun _ => fun
  | [d] => { results := [.lit (.bool false)], args := [d] }
  | _ => none }
def FnExactMatchNumbersWrongFalsely : Prop := fnExactMatchNumbersRow.holds Tryd.pinned (OpenSpec.ofChange fnExactMatchNumbersWrong)

/-- 'laws.FnExactMatchGreatest': WHATEVER THE INPUT: true; the input reads as it did. -/
def fnExactMatchGreatestSpec : ChangeSpec := { name := "fnExactMatchGreatest", fn := fun _ => fun
  | [d] => { results := [.lit (.bool true)], args := [d] }
  | _ => none }
def fnExactMatchGreatestRow : OpenClaim := { program := "ytcklinoiaiilgaadoor", sum := "8db24fffcbed30214776ed6b37b403e08f98cc294e5adf05ace0268a6ccba159", func := "loop.example/matchpolys/laws.FnExactMatchGreatest", spec := "fnExactMatchGreatest", unfollowed := true, recurses := true, named := ["math/bits.deBruijn32tab", "math/bits.deBruijn64tab"], apart := false, laid := [("math/bits.deBruijn32tab", laid_math_bits_deBruijn32tab), ("math/bits.deBruijn64tab", laid_math_bits_deBruijn64tab)] }
def FnExactMatchGreatestSaid : Prop := fnExactMatchGreatestRow.holds Tryd.pinned (OpenSpec.ofChange fnExactMatchGreatestSpec)

/-- ITS FALSE NEIGHBOUR: 'it returns false'. Refute it at one input. -/
def fnExactMatchGreatestWrong : ChangeSpec := { name := "fnExactMatchGreatest", fn := fun _ => fun
  | [d] => { results := [.lit (.bool false)], args := [d] }
  | _ => none }
def FnExactMatchGreatestWrongFalsely : Prop := fnExactMatchGreatestRow.holds Tryd.pinned (OpenSpec.ofChange fnExactMatchGreatestWrong)

/-- 'laws.FnExactMatchAll': WHATEVER THE INPUT: true; the input reads as it did. -/
def fnExactMatchAllSpec : ChangeSpec := { name := "fnExactMatchAll", fn := fun _ => fun
  | [d] => { results := [.lit (.bool true)], args := [d] }
  | _ => none }
def fnExactMatchAllRow : OpenClaim := { program := "ytcklinoiaiilgaadoor", sum := "8db24fffcbed30214776ed6b37b403e08f98cc294e5adf05ace0268a6ccba159", func := "loop.example/matchpolys/laws.FnExactMatchAll", spec := "fnExactMatchAll", unfollowed := true, recurses := true, named := ["math/bits.deBruijn32tab", "math/bits.deBruijn64tab"], apart := false, laid := [("math/bits.deBruijn32tab", laid_math_bits_deBruijn32tab), ("math/bits.deBruijn64tab", laid_math_bits_deBruijn64tab)] }
def FnExactMatchAllSaid : Prop := fnExactMatchAllRow.holds Tryd.pinned (OpenSpec.ofChange fnExactMatchAllSpec)

/-- ITS FALSE NEIGHBOUR: 'it returns false'. Refute it at one input. -/
def fnExactMatchAllWrong : ChangeSpec := { name := "fnExactMatchAll", fn := fun _ => fun
  | [d] => { results := [.lit (.bool false)], args := [d] }
  | _ => none }
def FnExactMatchAllWrongFalsely : Prop := fnExactMatchAllRow.holds Tryd.pinned (OpenSpec.ofChange fnExactMatchAllWrong)

/-- 'laws.FnExactPolyMatch': WHATEVER THE INPUT: true; the input reads as it did. -/
def fnExactPolyMatchSpec : ChangeSpec := { name := "fnExactPolyMatch", fn := fun _ => fun
  | [d] => { results := [.lit (.bool true)], args := [d] }
  | _ => none }
def fnExactPolyMatchRow : OpenClaim := { program := "ytcklinoiaiilgaadoor", sum := "8db24fffcbed30214776ed6b37b403e08f98cc294e5adf05ace0268a6ccba159", func := "loop.example/matchpolys/laws.FnExactPolyMatch", spec := "fnExactPolyMatch", unfollowed := true, recurses := true, named := ["math/bits.deBruijn32tab", "math/bits.deBruijn64tab"], apart := false, laid := [("math/bits.deBruijn32tab", laid_math_bits_deBruijn32tab), ("math/bits.deBruijn64tab", laid_math_bits_deBruijn64tab)] }
def FnExactPolyMatchSaid : Prop := fnExactPolyMatchRow.holds Tryd.pinned (OpenSpec.ofChange fnExactPolyMatchSpec)

/-- ITS FALSE NEIGHBOUR: 'it returns false'. Refute it at one input. -/
def fnExactPolyMatchWrong : ChangeSpec := { name := "fnExactPolyMatch", fn := fun _ => fun
  | [d] => { results := [.lit (.bool false)], args := [d] }
  | _ => none }
def FnExactPolyMatchWrongFalsely : Prop := fnExactPolyMatchRow.holds Tryd.pinned (OpenSpec.ofChange fnExactPolyMatchWrong)

/-- 'laws.FnExactPolyOther': WHATEVER THE INPUT: true; the input reads as it did. -/
def fnExactPolyOtherSpec : ChangeSpec := { name := "fnExactPolyOther", fn := fun _ => fun
  | [d] => { results := [.lit (.bool true)], args := [d] }
  | _ => none }
def fnExactPolyOtherRow : OpenClaim := { program := "ytcklinoiaiilgaadoor", sum := "8db24fffcbed30214776ed6b37b403e08f98cc294e5adf05ace0268a6ccba159", func := "loop.example/matchpolys/laws.FnExactPolyOther", spec := "fnExactPolyOther", unfollowed := true, recurses := true, named := ["math/bits.deBruijn32tab", "math/bits.deBruijn64tab"], apart := false, laid := [("math/bits.deBruijn32tab", laid_math_bits_deBruijn32tab), ("math/bits.deBruijn64tab", laid_math_bits_deBruijn64tab)] }
def FnExactPolyOtherSaid : Prop := fnExactPolyOtherRow.holds Tryd.pinned (OpenSpec.ofChange fnExactPolyOtherSpec)

/-- ITS FALSE NEIGHBOUR: 'it returns false'. Refute it at one input. -/
def fnExactPolyOtherWrong : ChangeSpec := { name := "fnExactPolyOther", fn := fun _ => fun
  | [d] => { results := [.lit (.bool false)], args := [d] }
  | _ => none }
def FnExactPolyOtherWrongFalsely : Prop := fnExactPolyOtherRow.holds Tryd.pinned (OpenSpec.ofChange fnExactPolyOtherWrong)

/-- 'laws.FnExactCoverCritical': WHATEVER THE INPUT: true; the input reads as it did. -/
def fnExactCoverCriticalSpec : ChangeSpec := { name := "fnExactCoverCritical", fn := fun _ => fun
  | [d] => { results := [.lit (.bool true)], args := [d] }
  | _ => none }
def fnExactCoverCriticalRow : OpenClaim := { program := "ytcklinoiaiilgaadoor", sum := "8db24fffcbed30214776ed6b37b403e08f98cc294e5adf05ace0268a6ccba159", func := "loop.example/matchpolys/laws.FnExactCoverCritical", spec := "fnExactCoverCritical", unfollowed := true, recurses := true, named := ["math/bits.deBruijn32tab", "math/bits.deBruijn64tab"], apart := false, laid := [("math/bits.deBruijn32tab", laid_math_bits_deBruijn32tab), ("math/bits.deBruijn64tab", laid_math_bits_deBruijn64tab)] }
def FnExactCoverCriticalSaid : Prop := fnExactCoverCriticalRow.holds Tryd.pinned (OpenSpec.ofChange fnExactCoverCriticalSpec)

/-- ITS FALSE NEIGHBOUR: 'it returns false'. Refute it at one input. -/
def fnExactCoverCriticalWrong : ChangeSpec := { name := "fnExactCoverCritical", fn := fun _ => fun
  | [d] => { results := [.lit (.bool false)], args := [d] }
  | _ => none }
def FnExactCoverCriticalWrongFalsely : Prop := fnExactCoverCriticalRow.holds Tryd.pinned (OpenSpec.ofChange fnExactCoverCriticalWrong)

/-- 'laws.FnExactCoverThree': WHATEVER THE INPUT: true; the input reads as it did. -/
def fnExactCoverThreeSpec : ChangeSpec := { name := "fnExactCoverThree", fn := fun _ => fun
  | [d] => { results := [.lit (.bool true)], args := [d] }
  | _ => none }
def fnExactCoverThreeRow : OpenClaim := { program := "ytcklinoiaiilgaadoor", sum := "8db24fffcbed30214776ed6b37b403e08f98cc294e5adf05ace0268a6ccba159", func := "loop.example/matchpolys/laws.FnExactCoverThree", spec := "fnExactCoverThree", unfollowed := true, recurses := true, named := ["math/bits.deBruijn32tab", "math/bits.deBruijn64tab"], apart := false, laid := [("math/bits.deBruijn32tab", laid_math_bits_deBruijn32tab), ("math/bits.deBruijn64tab", laid_math_bits_deBruijn64tab)] }
def FnExactCoverThreeSaid : Prop := fnExactCoverThreeRow.holds Tryd.pinned (OpenSpec.ofChange fnExactCoverThreeSpec)

/-- ITS FALSE NEIGHBOUR: 'it returns false'. Refute it at one input. -/
def fnExactCoverThreeWrong : ChangeSpec := { name := "fnExactCoverThree", fn := fun _ => fun
  | [d] => { results := [.lit (.bool false)], args := [d] }
  | _ => none }
def FnExactCoverThreeWrongFalsely : Prop := fnExactCoverThreeRow.holds Tryd.pinned (OpenSpec.ofChange fnExactCoverThreeWrong)

/-- 'laws.FnExactCoverEdges': WHATEVER THE INPUT: true; the input reads as it did. -/
def fnExactCoverEdgesSpec : ChangeSpec := { name := "fnExactCoverEdges", fn := fun _ => fun
  | [d] => { results := [.lit (.bool true)], args := [d] }
  | _ => none }
def fnExactCoverEdgesRow : OpenClaim := { program := "ytcklinoiaiilgaadoor", sum := "8db24fffcbed30214776ed6b37b403e08f98cc294e5adf05ace0268a6ccba159", func := "loop.example/matchpolys/laws.FnExactCoverEdges", spec := "fnExactCoverEdges", unfollowed := true, recurses := true, named := ["math/bits.deBruijn32tab", "math/bits.deBruijn64tab"], apart := false, laid := [("math/bits.deBruijn32tab", laid_math_bits_deBruijn32tab), ("math/bits.deBruijn64tab", laid_math_bits_deBruijn64tab)] }
def FnExactCoverEdgesSaid : Prop := fnExactCoverEdgesRow.holds Tryd.pinned (OpenSpec.ofChange fnExactCoverEdgesSpec)

/-- ITS FALSE NEIGHBOUR: 'it returns false'. Refute it at one input. -/
def fnExactCoverEdgesWrong : ChangeSpec := { name := "fnExactCoverEdges", fn := fun _ => fun
  | [d] => { results := [.lit (.bool false)], args := [d] }
  | _ => none }
def FnExactCoverEdgesWrongFalsely : Prop := fnExactCoverEdgesRow.holds Tryd.pinned (OpenSpec.ofChange fnExactCoverEdgesWrong)

/-- 'laws.FnExactCoverIn': WHATEVER THE INPUT: true; the input reads as it did. -/
def fnExactCoverInSpec : ChangeSpec := { name := "fnExactCoverIn", fn := fun _ => fun
  | [d1, d2] => { results := [.lit (.bool true)], args := [d1, d2] }
  | _ => none }
def fnExactCoverInRow : OpenClaim := { program := "ytcklinoiaiilgaadoor", sum := "8db24fffcbed30214776ed6b37b403e08f98cc294e5adf05ace0268a6ccba159", func := "loop.example/matchpolys/laws.FnExactCoverIn", spec := "fnExactCoverIn", unfollowed := true, recurses := true, named := ["math/bits.deBruijn32tab", "math/bits.deBruijn64tab"], apart := false, laid := [("math/bits.deBruijn32tab", laid_math_bits_deBruijn32tab), ("math/bits.deBruijn64tab", laid_math_bits_deBruijn64tab)] }
def FnExactCoverInSaid : Prop := fnExactCoverInRow.holds Tryd.pinned (OpenSpec.ofChange fnExactCoverInSpec)

/-- ITS FALSE NEIGHBOUR: 'it returns false'. Refute it at one input. -/
def fnExactCoverInWrong : ChangeSpec := { name := "fnExactCoverIn", fn := fun _ => fun
  | [d1, d2] => { results := [.lit (.bool false)], args := [d1, d2] }
  | _ => none }
def FnExactCoverInWrongFalsely : Prop := fnExactCoverInRow.holds Tryd.pinned (OpenSpec.ofChange fnExactCoverInWrong)

/-- 'laws.FnExactCoverLoss': WHATEVER THE INPUT: true; the input reads as it did. -/
def fnExactCoverLossSpec : ChangeSpec := { name := "fnExactCoverLoss", fn := fun _ => fun
  | [d1, d2] => { results := [.lit (.bool true)], args := [d1, d2] }
  | _ => none }
def fnExactCoverLossRow : OpenClaim := { program := "ytcklinoiaiilgaadoor", sum := "8db24fffcbed30214776ed6b37b403e08f98cc294e5adf05ace0268a6ccba159", func := "loop.example/matchpolys/laws.FnExactCoverLoss", spec := "fnExactCoverLoss", unfollowed := true, recurses := true, named := ["math/bits.deBruijn32tab", "math/bits.deBruijn64tab"], apart := false, laid := [("math/bits.deBruijn32tab", laid_math_bits_deBruijn32tab), ("math/bits.deBruijn64tab", laid_math_bits_deBruijn64tab)] }
def FnExactCoverLossSaid : Prop := fnExactCoverLossRow.holds Tryd.pinned (OpenSpec.ofChange fnExactCoverLossSpec)

/-- ITS FALSE NEIGHBOUR: 'it returns false'. Refute it at one input. -/
def fnExactCoverLossWrong : ChangeSpec := { name := "fnExactCoverLoss", fn := fun _ => fun
  | [d1, d2] => { results := [.lit (.bool false)], args := [d1, d2] }
  | _ => none }
def FnExactCoverLossWrongFalsely : Prop := fnExactCoverLossRow.holds Tryd.pinned (OpenSpec.ofChange fnExactCoverLossWrong)

/-- 'laws.FnExactGraphEdges': WHATEVER THE INPUT: true; the input reads as it did. -/
def fnExactGraphEdgesSpec : ChangeSpec := { name := "fnExactGraphEdges", fn := fun _ => fun
  | [d] => { results := [.lit (.bool true)], args := [d] }
  | _ => none }
def fnExactGraphEdgesRow : OpenClaim := { program := "ytcklinoiaiilgaadoor", sum := "8db24fffcbed30214776ed6b37b403e08f98cc294e5adf05ace0268a6ccba159", func := "loop.example/matchpolys/laws.FnExactGraphEdges", spec := "fnExactGraphEdges", unfollowed := true, recurses := true, named := ["math/bits.deBruijn32tab", "math/bits.deBruijn64tab"], apart := false, laid := [("math/bits.deBruijn32tab", laid_math_bits_deBruijn32tab), ("math/bits.deBruijn64tab", laid_math_bits_deBruijn64tab)] }
def FnExactGraphEdgesSaid : Prop := fnExactGraphEdgesRow.holds Tryd.pinned (OpenSpec.ofChange fnExactGraphEdgesSpec)

/-- ITS FALSE NEIGHBOUR: 'it returns false'. Refute it at one input. -/
def fnExactGraphEdgesWrong : ChangeSpec := { name := "fnExactGraphEdges", fn := fun _ => fun
  | [d] => { results := [.lit (.bool false)], args := [d] }
  | _ => none }
def FnExactGraphEdgesWrongFalsely : Prop := fnExactGraphEdgesRow.holds Tryd.pinned (OpenSpec.ofChange fnExactGraphEdgesWrong)

/-- 'laws.FnExactMatchAllowed': WHATEVER THE INPUT: true; the input reads as it did. -/
def fnExactMatchAllowedSpec : ChangeSpec := { name := "fnExactMatchAllowed", fn := fun _ => fun
  | [d] => { results := [.lit (.bool true)], args := [d] }
  | _ => none }
def fnExactMatchAllowedRow : OpenClaim := { program := "ytcklinoiaiilgaadoor", sum := "8db24fffcbed30214776ed6b37b403e08f98cc294e5adf05ace0268a6ccba159", func := "loop.example/matchpolys/laws.FnExactMatchAllowed", spec := "fnExactMatchAllowed", unfollowed := true, recurses := true, named := ["math/bits.deBruijn32tab", "math/bits.deBruijn64tab"], apart := false, laid := [("math/bits.deBruijn32tab", laid_math_bits_deBruijn32tab), ("math/bits.deBruijn64tab", laid_math_bits_deBruijn64tab)] }
def FnExactMatchAllowedSaid : Prop := fnExactMatchAllowedRow.holds Tryd.pinned (OpenSpec.ofChange fnExactMatchAllowedSpec)

/-- ITS FALSE NEIGHBOUR: 'it returns false'. Refute it at one input. -/
def fnExactMatchAllowedWrong : ChangeSpec := { name := "fnExactMatchAllowed", fn := fun _ => fun
  | [d] => { results := [.lit (.bool false)], args := [d] }
  | _ => none }
def FnExactMatchAllowedWrongFalsely : Prop := fnExactMatchAllowedRow.holds Tryd.pinned (OpenSpec.ofChange fnExactMatchAllowedWrong)

/- THE SECOND FORM. 'bulk': how many values and letters a reading holds, each counted each time it is reached (what is shared counts as often as it is met; a slice's spare places count too). A statement '..UptoSaid' is the law's where the arguments, and the package variables that the reading takes, are together of bulk at most 1048576: NARROWER than '..Said'. Prove '..Said' where nothing that the law and all that it calls make is longer than what came in: it says more and counts as full. Else prove '..UptoSaid'. A law counts once. -/
mutual
def uptoBulk {H : Type} : DataW H → Nat
  | .lit (.string bytes) => bytes.length + 1
  | .lit _ => 1
  | .nil => 1
  | .ptr d => uptoBulk d + 1
  | .slice elems spare => uptoBulkAll elems + uptoBulkAll spare + 1
  | .agg parts => uptoBulkAll parts + 1
  | .iface _ d => uptoBulk d + 1
  | .map entries => uptoBulkEntries entries + 1
  | .held _ => 1
def uptoBulkAll {H : Type} : List (DataW H) → Nat
  | [] => 0
  | d :: r => uptoBulk d + uptoBulkAll r
def uptoBulkEntries {H : Type} : List (Lit × DataW H) → Nat
  | [] => 0
  | x :: r => uptoBulkEntry x + uptoBulkEntries r
def uptoBulkEntry {H : Type} : Lit × DataW H → Nat
  | (.string bytes, d) => bytes.length + uptoBulk d + 1
  | (_, d) => uptoBulk d + 1
 end
def uptoSmall : (H : Type) → List (DataW H) → Bool := fun _ ds => decide (uptoBulkAll ds ≤ 1048576)
def OpenSpec.upto (s : _root_.Go.ChangeSpec) : _root_.Go.OpenSpec := { _root_.Go.OpenSpec.ofChange s with cond := some uptoSmall }

/-- 'laws.FnExactMatchNumbers', WHERE WHAT IT READS IS OF BULK AT MOST 1048576: true; the input reads as it did. -/
def fnExactMatchNumbersUptoRow : OpenClaim := { program := "ytcklinoiaiilgaadoor", sum := "8db24fffcbed30214776ed6b37b403e08f98cc294e5adf05ace0268a6ccba159", func := "loop.example/matchpolys/laws.FnExactMatchNumbers", spec := "fnExactMatchNumbers", unfollowed := true, recurses := true, named := ["math/bits.deBruijn32tab", "math/bits.deBruijn64tab"], apart := false, laid := [("math/bits.deBruijn32tab", laid_math_bits_deBruijn32tab), ("math/bits.deBruijn64tab", laid_math_bits_deBruijn64tab)], narrowed := true }
def FnExactMatchNumbersUptoSaid : Prop := fnExactMatchNumbersUptoRow.holds Tryd.pinned (OpenSpec.upto fnExactMatchNumbersSpec)

/-- 'laws.FnExactMatchGreatest', WHERE WHAT IT READS IS OF BULK AT MOST 1048576: true; the input reads as it did. -/
def fnExactMatchGreatestUptoRow : OpenClaim := { program := "ytcklinoiaiilgaadoor", sum := "8db24fffcbed30214776ed6b37b403e08f98cc294e5adf05ace0268a6ccba159", func := "loop.example/matchpolys/laws.FnExactMatchGreatest", spec := "fnExactMatchGreatest", unfollowed := true, recurses := true, named := ["math/bits.deBruijn32tab", "math/bits.deBruijn64tab"], apart := false, laid := [("math/bits.deBruijn32tab", laid_math_bits_deBruijn32tab), ("math/bits.deBruijn64tab", laid_math_bits_deBruijn64tab)], narrowed := true }
def FnExactMatchGreatestUptoSaid : Prop := fnExactMatchGreatestUptoRow.holds Tryd.pinned (OpenSpec.upto fnExactMatchGreatestSpec)

/-- 'laws.FnExactMatchAll', WHERE WHAT IT READS IS OF BULK AT MOST 1048576: true; the input reads as it did. -/
def fnExactMatchAllUptoRow : OpenClaim := { program := "ytcklinoiaiilgaadoor", sum := "8db24fffcbed30214776ed6b37b403e08f98cc294e5adf05ace0268a6ccba159", func := "loop.example/matchpolys/laws.FnExactMatchAll", spec := "fnExactMatchAll", unfollowed := true, recurses := true, named := ["math/bits.deBruijn32tab", "math/bits.deBruijn64tab"], apart := false, laid := [("math/bits.deBruijn32tab", laid_math_bits_deBruijn32tab), ("math/bits.deBruijn64tab", laid_math_bits_deBruijn64tab)], narrowed := true }
def FnExactMatchAllUptoSaid : Prop := fnExactMatchAllUptoRow.holds Tryd.pinned (OpenSpec.upto fnExactMatchAllSpec)

/-- 'laws.FnExactPolyMatch', WHERE WHAT IT READS IS OF BULK AT MOST 1048576: true; the input reads as it did. -/
def fnExactPolyMatchUptoRow : OpenClaim := { program := "ytcklinoiaiilgaadoor", sum := "8db24fffcbed30214776ed6b37b403e08f98cc294e5adf05ace0268a6ccba159", func := "loop.example/matchpolys/laws.FnExactPolyMatch", spec := "fnExactPolyMatch", unfollowed := true, recurses := true, named := ["math/bits.deBruijn32tab", "math/bits.deBruijn64tab"], apart := false, laid := [("math/bits.deBruijn32tab", laid_math_bits_deBruijn32tab), ("math/bits.deBruijn64tab", laid_math_bits_deBruijn64tab)], narrowed := true }
def FnExactPolyMatchUptoSaid : Prop := fnExactPolyMatchUptoRow.holds Tryd.pinned (OpenSpec.upto fnExactPolyMatchSpec)

/-- 'laws.FnExactPolyOther', WHERE WHAT IT READS IS OF BULK AT MOST 1048576: true; the input reads as it did. -/
def fnExactPolyOtherUptoRow : OpenClaim := { program := "ytcklinoiaiilgaadoor", sum := "8db24fffcbed30214776ed6b37b403e08f98cc294e5adf05ace0268a6ccba159", func := "loop.example/matchpolys/laws.FnExactPolyOther", spec := "fnExactPolyOther", unfollowed := true, recurses := true, named := ["math/bits.deBruijn32tab", "math/bits.deBruijn64tab"], apart := false, laid := [("math/bits.deBruijn32tab", laid_math_bits_deBruijn32tab), ("math/bits.deBruijn64tab", laid_math_bits_deBruijn64tab)], narrowed := true }
def FnExactPolyOtherUptoSaid : Prop := fnExactPolyOtherUptoRow.holds Tryd.pinned (OpenSpec.upto fnExactPolyOtherSpec)

/-- 'laws.FnExactCoverCritical', WHERE WHAT IT READS IS OF BULK AT MOST 1048576: true; the input reads as it did. -/
def fnExactCoverCriticalUptoRow : OpenClaim := { program := "ytcklinoiaiilgaadoor", sum := "8db24fffcbed30214776ed6b37b403e08f98cc294e5adf05ace0268a6ccba159", func := "loop.example/matchpolys/laws.FnExactCoverCritical", spec := "fnExactCoverCritical", unfollowed := true, recurses := true, named := ["math/bits.deBruijn32tab", "math/bits.deBruijn64tab"], apart := false, laid := [("math/bits.deBruijn32tab", laid_math_bits_deBruijn32tab), ("math/bits.deBruijn64tab", laid_math_bits_deBruijn64tab)], narrowed := true }
def FnExactCoverCriticalUptoSaid : Prop := fnExactCoverCriticalUptoRow.holds Tryd.pinned (OpenSpec.upto fnExactCoverCriticalSpec)

/-- 'laws.FnExactCoverThree', WHERE WHAT IT READS IS OF BULK AT MOST 1048576: true; the input reads as it did. -/
def fnExactCoverThreeUptoRow : OpenClaim := { program := "ytcklinoiaiilgaadoor", sum := "8db24fffcbed30214776ed6b37b403e08f98cc294e5adf05ace0268a6ccba159", func := "loop.example/matchpolys/laws.FnExactCoverThree", spec := "fnExactCoverThree", unfollowed := true, recurses := true, named := ["math/bits.deBruijn32tab", "math/bits.deBruijn64tab"], apart := false, laid := [("math/bits.deBruijn32tab", laid_math_bits_deBruijn32tab), ("math/bits.deBruijn64tab", laid_math_bits_deBruijn64tab)], narrowed := true }
def FnExactCoverThreeUptoSaid : Prop := fnExactCoverThreeUptoRow.holds Tryd.pinned (OpenSpec.upto fnExactCoverThreeSpec)

/-- 'laws.FnExactCoverEdges', WHERE WHAT IT READS IS OF BULK AT MOST 1048576: true; the input reads as it did. -/
def fnExactCoverEdgesUptoRow : OpenClaim := { program := "ytcklinoiaiilgaadoor", sum := "8db24fffcbed30214776ed6b37b403e08f98cc294e5adf05ace0268a6ccba159", func := "loop.example/matchpolys/laws.FnExactCoverEdges", spec := "fnExactCoverEdges", unfollowed := true, recurses := true, named := ["math/bits.deBruijn32tab", "math/bits.deBruijn64tab"], apart := false, laid := [("math/bits.deBruijn32tab", laid_math_bits_deBruijn32tab), ("math/bits.deBruijn64tab", laid_math_bits_deBruijn64tab)], narrowed := true }
def FnExactCoverEdgesUptoSaid : Prop := fnExactCoverEdgesUptoRow.holds Tryd.pinned (OpenSpec.upto fnExactCoverEdgesSpec)

/-- 'laws.FnExactCoverIn', WHERE WHAT IT READS IS OF BULK AT MOST 1048576: true; the input reads as it did. -/
def fnExactCoverInUptoRow : OpenClaim := { program := "ytcklinoiaiilgaadoor", sum := "8db24fffcbed30214776ed6b37b403e08f98cc294e5adf05ace0268a6ccba159", func := "loop.example/matchpolys/laws.FnExactCoverIn", spec := "fnExactCoverIn", unfollowed := true, recurses := true, named := ["math/bits.deBruijn32tab", "math/bits.deBruijn64tab"], apart := false, laid := [("math/bits.deBruijn32tab", laid_math_bits_deBruijn32tab), ("math/bits.deBruijn64tab", laid_math_bits_deBruijn64tab)], narrowed := true }
def FnExactCoverInUptoSaid : Prop := fnExactCoverInUptoRow.holds Tryd.pinned (OpenSpec.upto fnExactCoverInSpec)

/-- 'laws.FnExactCoverLoss', WHERE WHAT IT READS IS OF BULK AT MOST 1048576: true; the input reads as it did. -/
def fnExactCoverLossUptoRow : OpenClaim := { program := "ytcklinoiaiilgaadoor", sum := "8db24fffcbed30214776ed6b37b403e08f98cc294e5adf05ace0268a6ccba159", func := "loop.example/matchpolys/laws.FnExactCoverLoss", spec := "fnExactCoverLoss", unfollowed := true, recurses := true, named := ["math/bits.deBruijn32tab", "math/bits.deBruijn64tab"], apart := false, laid := [("math/bits.deBruijn32tab", laid_math_bits_deBruijn32tab), ("math/bits.deBruijn64tab", laid_math_bits_deBruijn64tab)], narrowed := true }
def FnExactCoverLossUptoSaid : Prop := fnExactCoverLossUptoRow.holds Tryd.pinned (OpenSpec.upto fnExactCoverLossSpec)

/-- 'laws.FnExactGraphEdges', WHERE WHAT IT READS IS OF BULK AT MOST 1048576: true; the input reads as it did. -/
def fnExactGraphEdgesUptoRow : OpenClaim := { program := "ytcklinoiaiilgaadoor", sum := "8db24fffcbed30214776ed6b37b403e08f98cc294e5adf05ace0268a6ccba159", func := "loop.example/matchpolys/laws.FnExactGraphEdges", spec := "fnExactGraphEdges", unfollowed := true, recurses := true, named := ["math/bits.deBruijn32tab", "math/bits.deBruijn64tab"], apart := false, laid := [("math/bits.deBruijn32tab", laid_math_bits_deBruijn32tab), ("math/bits.deBruijn64tab", laid_math_bits_deBruijn64tab)], narrowed := true }
def FnExactGraphEdgesUptoSaid : Prop := fnExactGraphEdgesUptoRow.holds Tryd.pinned (OpenSpec.upto fnExactGraphEdgesSpec)

/-- 'laws.FnExactMatchAllowed', WHERE WHAT IT READS IS OF BULK AT MOST 1048576: true; the input reads as it did. -/
def fnExactMatchAllowedUptoRow : OpenClaim := { program := "ytcklinoiaiilgaadoor", sum := "8db24fffcbed30214776ed6b37b403e08f98cc294e5adf05ace0268a6ccba159", func := "loop.example/matchpolys/laws.FnExactMatchAllowed", spec := "fnExactMatchAllowed", unfollowed := true, recurses := true, named := ["math/bits.deBruijn32tab", "math/bits.deBruijn64tab"], apart := false, laid := [("math/bits.deBruijn32tab", laid_math_bits_deBruijn32tab), ("math/bits.deBruijn64tab", laid_math_bits_deBruijn64tab)], narrowed := true }
def FnExactMatchAllowedUptoSaid : Prop := fnExactMatchAllowedUptoRow.holds Tryd.pinned (OpenSpec.upto fnExactMatchAllowedSpec)

end Rows
end Go.Proofs.YtcklinoiaiilgaaDoor
