/-
  NARROWER THAN 'FOR EVERY INPUT', by the rows' own cells (each row's printed sentence says how): FnHermite: laid · FnPolyWay: laid · FnPolyRing: laid · FnSides: laid · FnParts: laid · FnOther: laid · FnConcave: laid · FnCover: laid · FnLoss: laid · FnCoverEdges: laid · FnGreatest: laid · FnCritical: laid.
  DERIVED. THE GIVEN ROWS OF THIS SEAT. 12 by the template 'for every input the law returns true; each argument reads behind the call as it read before'; 0 by the template 'total and deterministic' (their statements: YtcklinoiaiilgabDoorTotals.lean).
  GIVEN WITH THE SEED: the statements are not yours to turn. If you find one false, say at which input.
  Laid BY PROGRAM, IN A SANDBOX (cutbox-rows.mjs): the forced cells as the released guide's own fill.sh prints them over the translation d8b1d9d7b15a7636… (all of the seat's roots in one cut). By AI agents, Wed Nov 11 2026. No macro, syntax, notation, axiom, sorry.
-/
import Derived.Test.YtcklinoiaiilgabDoorChecked
import GoSem.Claim
import GoSem.ClaimJoined
import GoSem.ClaimMapViews
import Derived.JoinedTies
import Derived.KernelRfl
namespace Go.Proofs.YtcklinoiaiilgabDoor
/- THE CELL 'sum', in the pinned program and in every row, IS THE sha256 OF THE DUMP (.gsa) THAT YtcklinoiaiilgabDoorProg.lean LOADS. Nothing in Lean hashes anything: it is a label: what it is worth is what the hold of that sum in a sandbox is worth. -/
noncomputable def Tryd.pinned : Pinned := { name := "ytcklinoiaiilgabdoor", sum := "d8b1d9d7b15a763600f1301451e8e844958169ac86e149f414adc804231b9d1c", checked := Tryd.checked }
namespace Rows
def none {H : Type} : Left H := { results := [], args := [] }

/- WHAT THE LISTED PACKAGE-LEVEL VARIABLES READ AS WHEN THE CALL BEGINS. Each datum BY PROGRAM (the guide's laid-datum.mjs) off the statement by which the dump's own 'gosem.cut.vars' lays the variable. In a bare row this is a premise. The card (YtcklinoiaiilgabDoorCards.lean) ties it to the program's text. -/
def laid_math_bits_deBruijn32tab {H : Type} : DataW H := .agg [.lit (.int .u8 0), .lit (.int .u8 1), .lit (.int .u8 28), .lit (.int .u8 2), .lit (.int .u8 29), .lit (.int .u8 14), .lit (.int .u8 24), .lit (.int .u8 3), .lit (.int .u8 30), .lit (.int .u8 22), .lit (.int .u8 20), .lit (.int .u8 15), .lit (.int .u8 25), .lit (.int .u8 17), .lit (.int .u8 4), .lit (.int .u8 8), .lit (.int .u8 31), .lit (.int .u8 27), .lit (.int .u8 13), .lit (.int .u8 23), .lit (.int .u8 21), .lit (.int .u8 19), .lit (.int .u8 16), .lit (.int .u8 7), .lit (.int .u8 26), .lit (.int .u8 12), .lit (.int .u8 18), .lit (.int .u8 6), .lit (.int .u8 11), .lit (.int .u8 5), .lit (.int .u8 10), .lit (.int .u8 9)]
def laid_math_bits_deBruijn64tab {H : Type} : DataW H := .agg [.lit (.int .u8 0), .lit (.int .u8 1), .lit (.int .u8 56), .lit (.int .u8 2), .lit (.int .u8 57), .lit (.int .u8 49), .lit (.int .u8 28), .lit (.int .u8 3), .lit (.int .u8 61), .lit (.int .u8 58), .lit (.int .u8 42), .lit (.int .u8 50), .lit (.int .u8 38), .lit (.int .u8 29), .lit (.int .u8 17), .lit (.int .u8 4), .lit (.int .u8 62), .lit (.int .u8 47), .lit (.int .u8 59), .lit (.int .u8 36), .lit (.int .u8 45), .lit (.int .u8 43), .lit (.int .u8 51), .lit (.int .u8 22), .lit (.int .u8 53), .lit (.int .u8 39), .lit (.int .u8 33), .lit (.int .u8 30), .lit (.int .u8 24), .lit (.int .u8 18), .lit (.int .u8 12), .lit (.int .u8 5), .lit (.int .u8 63), .lit (.int .u8 55), .lit (.int .u8 48), .lit (.int .u8 27), .lit (.int .u8 60), .lit (.int .u8 41), .lit (.int .u8 37), .lit (.int .u8 16), .lit (.int .u8 46), .lit (.int .u8 35), .lit (.int .u8 44), .lit (.int .u8 21), .lit (.int .u8 52), .lit (.int .u8 32), .lit (.int .u8 23), .lit (.int .u8 11), .lit (.int .u8 54), .lit (.int .u8 26), .lit (.int .u8 40), .lit (.int .u8 15), .lit (.int .u8 34), .lit (.int .u8 20), .lit (.int .u8 31), .lit (.int .u8 10), .lit (.int .u8 25), .lit (.int .u8 14), .lit (.int .u8 19), .lit (.int .u8 9), .lit (.int .u8 13), .lit (.int .u8 8), .lit (.int .u8 7), .lit (.int .u8 6)]

/-- 'laws.FnHermite': WHATEVER THE INPUT: true; the input reads as it did. -/
def fnHermiteSpec : ChangeSpec := { name := "fnHermite", fn := fun _ => fun
  | [d] => { results := [.lit (.bool true)], args := [d] }
  | _ => none }
def fnHermiteRow : OpenClaim := { program := "ytcklinoiaiilgabdoor", sum := "d8b1d9d7b15a763600f1301451e8e844958169ac86e149f414adc804231b9d1c", func := "loop.example/matchpolys/laws.FnHermite", spec := "fnHermite", unfollowed := true, recurses := true, named := ["math/bits.deBruijn32tab", "math/bits.deBruijn64tab"], apart := false, laid := [("math/bits.deBruijn32tab", laid_math_bits_deBruijn32tab), ("math/bits.deBruijn64tab", laid_math_bits_deBruijn64tab)] }
def FnHermiteSaid : Prop := fnHermiteRow.holds Tryd.pinned (OpenSpec.ofChange fnHermiteSpec)

/-- ITS FALSE NEIGHBOUR: 'it returns false'. Refute it at one input. -/
def fnHermiteWrong : ChangeSpec := { name := "fnHermite", fn := fun _ => fun
  | [d] => { results := [.lit (.bool false)], args := [d] }
  | _ => none }
def FnHermiteWrongFalsely : Prop := fnHermiteRow.holds Tryd.pinned (OpenSpec.ofChange fnHermiteWrong)

/-- 'laws.FnPolyWay': WHATEVER THE INPUT: true; the input reads as it did. -/
def fnPolyWaySpec : ChangeSpec := { name := "fnPolyWay", fn := fun _ => fun
  | [d] => { results := [.lit (.bool true)], args := [d] }
  | _ => none }
def fnPolyWayRow : OpenClaim := { program := "ytcklinoiaiilgabdoor", sum := "d8b1d9d7b15a763600f1301451e8e844958169ac86e149f414adc804231b9d1c", func := "loop.example/matchpolys/laws.FnPolyWay", spec := "fnPolyWay", unfollowed := true, recurses := true, named := ["math/bits.deBruijn32tab", "math/bits.deBruijn64tab"], apart := false, laid := [("math/bits.deBruijn32tab", laid_math_bits_deBruijn32tab), ("math/bits.deBruijn64tab", laid_math_bits_deBruijn64tab)] }
def FnPolyWaySaid : Prop := fnPolyWayRow.holds Tryd.pinned (OpenSpec.ofChange fnPolyWaySpec)

/-- ITS FALSE NEIGHBOUR: 'it returns false'. Refute it at one input. -/
def fnPolyWayWrong : ChangeSpec := { name := "fnPolyWay", fn := fun _ => fun
  | [d] => { results := [.lit (.bool false)], args := [d] }
  | _ => none }
def FnPolyWayWrongFalsely : Prop := fnPolyWayRow.holds Tryd.pinned (OpenSpec.ofChange fnPolyWayWrong)

/-- 'laws.FnPolyRing': WHATEVER THE INPUT: true; the input reads as it did. -/
def fnPolyRingSpec : ChangeSpec := { name := "fnPolyRing", fn := fun _ => fun
  | [d] => { results := [.lit (.bool true)], args := [d] }
  | _ => none }
def fnPolyRingRow : OpenClaim := { program := "ytcklinoiaiilgabdoor", sum := "d8b1d9d7b15a763600f1301451e8e844958169ac86e149f414adc804231b9d1c", func := "loop.example/matchpolys/laws.FnPolyRing", spec := "fnPolyRing", unfollowed := true, recurses := true, named := ["math/bits.deBruijn32tab", "math/bits.deBruijn64tab"], apart := false, laid := [("math/bits.deBruijn32tab", laid_math_bits_deBruijn32tab), ("math/bits.deBruijn64tab", laid_math_bits_deBruijn64tab)] }
def FnPolyRingSaid : Prop := fnPolyRingRow.holds Tryd.pinned (OpenSpec.ofChange fnPolyRingSpec)

/-- ITS FALSE NEIGHBOUR: 'it returns false'. Refute it at one input. -/
def fnPolyRingWrong : ChangeSpec := { name := "fnPolyRing", fn := fun _ => fun
  | [d] => { results := [.lit (.bool false)], args := [d] }
  | _ => none }
def FnPolyRingWrongFalsely : Prop := fnPolyRingRow.holds Tryd.pinned (OpenSpec.ofChange fnPolyRingWrong)

/-- 'laws.FnSides': WHATEVER THE INPUT: true; the input reads as it did. -/
def fnSidesSpec : ChangeSpec := { name := "fnSides", fn := fun _ => fun
  | [d] => { results := [.lit (.bool true)], args := [d] }
  | _ => none }
def fnSidesRow : OpenClaim := { program := "ytcklinoiaiilgabdoor", sum := "d8b1d9d7b15a763600f1301451e8e844958169ac86e149f414adc804231b9d1c", func := "loop.example/matchpolys/laws.FnSides", spec := "fnSides", unfollowed := true, recurses := true, named := ["math/bits.deBruijn32tab", "math/bits.deBruijn64tab"], apart := false, laid := [("math/bits.deBruijn32tab", laid_math_bits_deBruijn32tab), ("math/bits.deBruijn64tab", laid_math_bits_deBruijn64tab)] }
def FnSidesSaid : Prop := fnSidesRow.holds Tryd.pinned (OpenSpec.ofChange fnSidesSpec)

/-- ITS FALSE NEIGHBOUR: 'it returns false'. Refute it at one input. -/
def fnSidesWrong : ChangeSpec := { name := "fnSides", fn := fun _ => fun
  | [d] => { results := [.lit (.bool false)], args := [d] }
  | _ => none }
def FnSidesWrongFalsely : Prop := fnSidesRow.holds Tryd.pinned (OpenSpec.ofChange fnSidesWrong)

/-- 'laws.FnParts': WHATEVER THE INPUT: true; the input reads as it did. -/
def fnPartsSpec : ChangeSpec := { name := "fnParts", fn := fun _ => fun
  | [d] => { results := [.lit (.bool true)], args := [d] }
  | _ => none }
def fnPartsRow : OpenClaim := { program := "ytcklinoiaiilgabdoor", sum := "d8b1d9d7b15a763600f1301451e8e844958169ac86e149f414adc804231b9d1c", func := "loop.example/matchpolys/laws.FnParts", spec := "fnParts", unfollowed := true, recurses := true, named := ["math/bits.deBruijn32tab", "math/bits.deBruijn64tab"], apart := false, laid := [("math/bits.deBruijn32tab", laid_math_bits_deBruijn32tab), ("math/bits.deBruijn64tab", laid_math_bits_deBruijn64tab)] }
def FnPartsSaid : Prop := fnPartsRow.holds Tryd.pinned (OpenSpec.ofChange fnPartsSpec)

/-- ITS FALSE NEIGHBOUR: 'it returns false'. Refute it at one input. -/
def fnPartsWrong : ChangeSpec := { name := "fnParts", fn := fun _ => fun
  | [d] => { results := [.lit (.bool false)], args := [d] }
  | _ => none }
def FnPartsWrongFalsely : Prop := fnPartsRow.holds Tryd.pinned (OpenSpec.ofChange fnPartsWrong)

/-- 'laws.FnOther': WHATEVER THE INPUT: true; the input reads as it did. -/
def fnOtherSpec : ChangeSpec := { name := "fnOther", fn := fun _ => fun
  | [d] => { results := [.lit (.bool true)], args := [d] }
  | _ => none }
def fnOtherRow : OpenClaim := { program := "ytcklinoiaiilgabdoor", sum := "d8b1d9d7b15a763600f1301451e8e844958169ac86e149f414adc804231b9d1c", func := "loop.example/matchpolys/laws.FnOther", spec := "fnOther", unfollowed := true, recurses := true, named := ["math/bits.deBruijn32tab", "math/bits.deBruijn64tab"], apart := false, laid := [("math/bits.deBruijn32tab", laid_math_bits_deBruijn32tab), ("math/bits.deBruijn64tab", laid_math_bits_deBruijn64tab)] }
def FnOtherSaid : Prop := fnOtherRow.holds Tryd.pinned (OpenSpec.ofChange fnOtherSpec)

/-- ITS FALSE NEIGHBOUR: 'it returns false'. Refute it at one input. -/
def fnOtherWrong : ChangeSpec := { name := "fnOther", fn := fun _ => fun
  | [d] => { results := [.lit (.bool false)], args := [d] }
  | _ => none }
def FnOtherWrongFalsely : Prop := fnOtherRow.holds Tryd.pinned (OpenSpec.ofChange fnOtherWrong)

/-- 'laws.FnConcave': WHATEVER THE INPUT: true; the input reads as it did. -/
def fnConcaveSpec : ChangeSpec := { name := "fnConcave", fn := fun _ => fun
  | [d] => { results := [.lit (.bool true)], args := [d] }
  | _ => none }
def fnConcaveRow : OpenClaim := { program := "ytcklinoiaiilgabdoor", sum := "d8b1d9d7b15a763600f1301451e8e844958169ac86e149f414adc804231b9d1c", func := "loop.example/matchpolys/laws.FnConcave", spec := "fnConcave", unfollowed := true, recurses := true, named := ["math/bits.deBruijn32tab", "math/bits.deBruijn64tab"], apart := false, laid := [("math/bits.deBruijn32tab", laid_math_bits_deBruijn32tab), ("math/bits.deBruijn64tab", laid_math_bits_deBruijn64tab)] }
def FnConcaveSaid : Prop := fnConcaveRow.holds Tryd.pinned (OpenSpec.ofChange fnConcaveSpec)

/-- ITS FALSE NEIGHBOUR: 'it returns false'. Refute it at one input. -/
def fnConcaveWrong : ChangeSpec := { name := "fnConcave", fn := fun _ => fun
  | [d] => { results := [.lit (.bool false)], args := [d] }
  | _ => none }
def FnConcaveWrongFalsely : Prop := fnConcaveRow.holds Tryd.pinned (OpenSpec.ofChange fnConcaveWrong)

/-- 'laws.FnCover': WHATEVER THE INPUT: true; the input reads as it did. -/
def fnCoverSpec : ChangeSpec := { name := "fnCover", fn := fun _ => fun
  | [d] => { results := [.lit (.bool true)], args := [d] }
  | _ => none }
def fnCoverRow : OpenClaim := { program := "ytcklinoiaiilgabdoor", sum := "d8b1d9d7b15a763600f1301451e8e844958169ac86e149f414adc804231b9d1c", func := "loop.example/matchpolys/laws.FnCover", spec := "fnCover", unfollowed := true, recurses := true, named := ["math/bits.deBruijn32tab", "math/bits.deBruijn64tab"], apart := false, laid := [("math/bits.deBruijn32tab", laid_math_bits_deBruijn32tab), ("math/bits.deBruijn64tab", laid_math_bits_deBruijn64tab)] }
def FnCoverSaid : Prop := fnCoverRow.holds Tryd.pinned (OpenSpec.ofChange fnCoverSpec)

/-- ITS FALSE NEIGHBOUR: 'it returns false'. Refute it at one input. -/
def fnCoverWrong : ChangeSpec := { name := "fnCover", fn := fun _ => fun
  | [d] => { results := [.lit (.bool false)], args := [d] }
  | _ => none }
def FnCoverWrongFalsely : Prop := fnCoverRow.holds Tryd.pinned (OpenSpec.ofChange fnCoverWrong)

/-- 'laws.FnLoss': WHATEVER THE INPUT: true; the input reads as it did. -/
def fnLossSpec : ChangeSpec := { name := "fnLoss", fn := fun _ => fun
  | [d] => { results := [.lit (.bool true)], args := [d] }
  | _ => none }
def fnLossRow : OpenClaim := { program := "ytcklinoiaiilgabdoor", sum := "d8b1d9d7b15a763600f1301451e8e844958169ac86e149f414adc804231b9d1c", func := "loop.example/matchpolys/laws.FnLoss", spec := "fnLoss", unfollowed := true, recurses := true, named := ["math/bits.deBruijn32tab", "math/bits.deBruijn64tab"], apart := false, laid := [("math/bits.deBruijn32tab", laid_math_bits_deBruijn32tab), ("math/bits.deBruijn64tab", laid_math_bits_deBruijn64tab)] }
def FnLossSaid : Prop := fnLossRow.holds Tryd.pinned (OpenSpec.ofChange fnLossSpec)

/-- ITS FALSE NEIGHBOUR: 'it returns false'. Refute it at one input. -/
def fnLossWrong : ChangeSpec := { name := "fnLoss", fn := fun _ => fun
  | [d] => { results := [.lit (.bool false)], args := [d] }
  | _ => none }
def FnLossWrongFalsely : Prop := fnLossRow.holds Tryd.pinned (OpenSpec.ofChange fnLossWrong)

/-- 'laws.FnCoverEdges': WHATEVER THE INPUT: true; the input reads as it did. -/
def fnCoverEdgesSpec : ChangeSpec := { name := "fnCoverEdges", fn := fun _ => fun
  | [d] => { results := [.lit (.bool true)], args := [d] }
  | _ => none }
def fnCoverEdgesRow : OpenClaim := { program := "ytcklinoiaiilgabdoor", sum := "d8b1d9d7b15a763600f1301451e8e844958169ac86e149f414adc804231b9d1c", func := "loop.example/matchpolys/laws.FnCoverEdges", spec := "fnCoverEdges", unfollowed := true, recurses := true, named := ["math/bits.deBruijn32tab", "math/bits.deBruijn64tab"], apart := false, laid := [("math/bits.deBruijn32tab", laid_math_bits_deBruijn32tab), ("math/bits.deBruijn64tab", laid_math_bits_deBruijn64tab)] }
def FnCoverEdgesSaid : Prop := fnCoverEdgesRow.holds Tryd.pinned (OpenSpec.ofChange fnCoverEdgesSpec)

/-- ITS FALSE NEIGHBOUR: 'it returns false'. Refute it at one input. -/
def fnCoverEdgesWrong : ChangeSpec := { name := "fnCoverEdges", fn := fun _ => fun
  | [d] => { results := [.lit (.bool false)], args := [d] }
  | _ => none }
def FnCoverEdgesWrongFalsely : Prop := fnCoverEdgesRow.holds Tryd.pinned (OpenSpec.ofChange fnCoverEdgesWrong)

/-- 'laws.FnGreatest': WHATEVER THE INPUT: true; the input reads as it did. -/
def fnGreatestSpec : ChangeSpec := { name := "fnGreatest", fn := fun _ => fun
  | [d] => { results := [.lit (.bool true)], args := [d] }
  | _ => none }
def fnGreatestRow : OpenClaim := { program := "ytcklinoiaiilgabdoor", sum := "d8b1d9d7b15a763600f1301451e8e844958169ac86e149f414adc804231b9d1c", func := "loop.example/matchpolys/laws.FnGreatest", spec := "fnGreatest", unfollowed := true, recurses := true, named := ["math/bits.deBruijn32tab", "math/bits.deBruijn64tab"], apart := false, laid := [("math/bits.deBruijn32tab", laid_math_bits_deBruijn32tab), ("math/bits.deBruijn64tab", laid_math_bits_deBruijn64tab)] }
def FnGreatestSaid : Prop := fnGreatestRow.holds Tryd.pinned (OpenSpec.ofChange fnGreatestSpec)

/-- ITS FALSE NEIGHBOUR: 'it returns false'. Refute it at one input. -/
def fnGreatestWrong : ChangeSpec := { name := "fnGreatest", fn := fun _ => fun
  | [d] => { results := [.lit (.bool false)], args := [d] }
  | _ => none }
def FnGreatestWrongFalsely : Prop := fnGreatestRow.holds Tryd.pinned (OpenSpec.ofChange fnGreatestWrong)

/-- 'laws.FnCritical': WHATEVER THE INPUT: true; the input reads as it did. -/
def fnCriticalSpec : ChangeSpec := { name := "fnCritical", fn := fun _ => fun
  | [d] => { results := [.lit (.bool true)], args := [d] }
  | _ => none }
def fnCriticalRow : OpenClaim := { program := "ytcklinoiaiilgabdoor", sum := "d8b1d9d7b15a763600f1301451e8e844958169ac86e149f414adc804231b9d1c", func := "loop.example/matchpolys/laws.FnCritical", spec := "fnCritical", unfollowed := true, recurses := true, named := ["math/bits.deBruijn32tab", "math/bits.deBruijn64tab"], apart := false, laid := [("math/bits.deBruijn32tab", laid_math_bits_deBruijn32tab), ("math/bits.deBruijn64tab", laid_math_bits_deBruijn64tab)] }
def FnCriticalSaid : Prop := fnCriticalRow.holds Tryd.pinned (OpenSpec.ofChange fnCriticalSpec)

/-- ITS FALSE NEIGHBOUR: 'it returns false'. Refute it at one input. -/
def fnCriticalWrong : ChangeSpec := { name := "fnCritical", fn := fun _ => fun
  | [d] => { results := [.lit (.bool false)], args := [d] }
  | _ => none }
def FnCriticalWrongFalsely : Prop := fnCriticalRow.holds Tryd.pinned (OpenSpec.ofChange fnCriticalWrong)

/- THE SECOND FORM. 'bulk': how many values and letters a reading holds, each counted each time it is reached (what is shared counts as often as it is met; a slice's spare places count too). A statement '..UptoSaid' is the law's where the arguments, and the package variables that the reading takes, are together of bulk at most 1048576: NARROWER than '..Said'. Prove '..Said' where nothing that the law and all that it calls make is longer than what came in: it says more and counts as full. Else prove '..UptoSaid'. A law counts once. -/
mutual
def uptoBulk {H : Type} : DataW H → Nat
  | .lit (.string bytes) => bytes.length + 1
  | .lit _ => 1
  | .nil => 1
  | .ptr d => uptoBulk d + 1
  | .slice elems spare => uptoBulkAll elems + uptoBulkAll spare + 1
  | .agg parts => uptoBulkAll parts + 1
  | .iface _ d => uptoBulk d + 1
  | .map entries => uptoBulkEntries entries + 1
  | .held _ => 1
def uptoBulkAll {H : Type} : List (DataW H) → Nat
  | [] => 0
  | d :: r => uptoBulk d + uptoBulkAll r
def uptoBulkEntries {H : Type} : List (Lit × DataW H) → Nat
  | [] => 0
  | x :: r => uptoBulkEntry x + uptoBulkEntries r
def uptoBulkEntry {H : Type} : Lit × DataW H → Nat
  | (.string bytes, d) => bytes.length + uptoBulk d + 1
  | (_, d) => uptoBulk d + 1
 end
def uptoSmall : (H : Type) → List (DataW H) → Bool := fun _ ds => decide (uptoBulkAll ds ≤ 1048576)
def OpenSpec.upto (s : _root_.Go.ChangeSpec) : _root_.Go.OpenSpec := { _root_.Go.OpenSpec.ofChange s with cond := some uptoSmall }

/-- 'laws.FnHermite', WHERE WHAT IT READS IS OF BULK AT MOST 1048576: true; the input reads as it did. -/
def fnHermiteUptoRow : OpenClaim := { program := "ytcklinoiaiilgabdoor", sum := "d8b1d9d7b15a763600f1301451e8e844958169ac86e149f414adc804231b9d1c", func := "loop.example/matchpolys/laws.FnHermite", spec := "fnHermite", unfollowed := true, recurses := true, named := ["math/bits.deBruijn32tab", "math/bits.deBruijn64tab"], apart := false, laid := [("math/bits.deBruijn32tab", laid_math_bits_deBruijn32tab), ("math/bits.deBruijn64tab", laid_math_bits_deBruijn64tab)], narrowed := true }
def FnHermiteUptoSaid : Prop := fnHermiteUptoRow.holds Tryd.pinned (OpenSpec.upto fnHermiteSpec)

/-- 'laws.FnPolyWay', WHERE WHAT IT READS IS OF BULK AT MOST 1048576: true; the input reads as it did. -/
def fnPolyWayUptoRow : OpenClaim := { program := "ytcklinoiaiilgabdoor", sum := "d8b1d9d7b15a763600f1301451e8e844958169ac86e149f414adc804231b9d1c", func := "loop.example/matchpolys/laws.FnPolyWay", spec := "fnPolyWay", unfollowed := true, recurses := true, named := ["math/bits.deBruijn32tab", "math/bits.deBruijn64tab"], apart := false, laid := [("math/bits.deBruijn32tab", laid_math_bits_deBruijn32tab), ("math/bits.deBruijn64tab", laid_math_bits_deBruijn64tab)], narrowed := true }
def FnPolyWayUptoSaid : Prop := fnPolyWayUptoRow.holds Tryd.pinned (OpenSpec.upto fnPolyWaySpec)

/-- 'laws.FnPolyRing', WHERE WHAT IT READS IS OF BULK AT MOST 1048576: true; the input reads as it did. -/
def fnPolyRingUptoRow : OpenClaim := { program := "ytcklinoiaiilgabdoor", sum := "d8b1d9d7b15a763600f1301451e8e844958169ac86e149f414adc804231b9d1c", func := "loop.example/matchpolys/laws.FnPolyRing", spec := "fnPolyRing", unfollowed := true, recurses := true, named := ["math/bits.deBruijn32tab", "math/bits.deBruijn64tab"], apart := false, laid := [("math/bits.deBruijn32tab", laid_math_bits_deBruijn32tab), ("math/bits.deBruijn64tab", laid_math_bits_deBruijn64tab)], narrowed := true }
def FnPolyRingUptoSaid : Prop := fnPolyRingUptoRow.holds Tryd.pinned (OpenSpec.upto fnPolyRingSpec)

/-- 'laws.FnSides', WHERE WHAT IT READS IS OF BULK AT MOST 1048576: true; the input reads as it did. -/
def fnSidesUptoRow : OpenClaim := { program := "ytcklinoiaiilgabdoor", sum := "d8b1d9d7b15a763600f1301451e8e844958169ac86e149f414adc804231b9d1c", func := "loop.example/matchpolys/laws.FnSides", spec := "fnSides", unfollowed := true, recurses := true, named := ["math/bits.deBruijn32tab", "math/bits.deBruijn64tab"], apart := false, laid := [("math/bits.deBruijn32tab", laid_math_bits_deBruijn32tab), ("math/bits.deBruijn64tab", laid_math_bits_deBruijn64tab)], narrowed := true }
def FnSidesUptoSaid : Prop := fnSidesUptoRow.holds Tryd.pinned (OpenSpec.upto fnSidesSpec)

/-- 'laws.FnParts', WHERE WHAT IT READS IS OF BULK AT MOST 1048576: true; the input reads as it did. -/
def fnPartsUptoRow : OpenClaim := { program := "ytcklinoiaiilgabdoor", sum := "d8b1d9d7b15a763600f1301451e8e844958169ac86e149f414adc804231b9d1c", func := "loop.example/matchpolys/laws.FnParts", spec := "fnParts", unfollowed := true, recurses := true, named := ["math/bits.deBruijn32tab", "math/bits.deBruijn64tab"], apart := false, laid := [("math/bits.deBruijn32tab", laid_math_bits_deBruijn32tab), ("math/bits.deBruijn64tab", laid_math_bits_deBruijn64tab)], narrowed := true }
def FnPartsUptoSaid : Prop := fnPartsUptoRow.holds Tryd.pinned (OpenSpec.upto fnPartsSpec)

/-- 'laws.FnOther', WHERE WHAT IT READS IS OF BULK AT MOST 1048576: true; the input reads as it did. -/
def fnOtherUptoRow : OpenClaim := { program := "ytcklinoiaiilgabdoor", sum := "d8b1d9d7b15a763600f1301451e8e844958169ac86e149f414adc804231b9d1c", func := "loop.example/matchpolys/laws.FnOther", spec := "fnOther", unfollowed := true, recurses := true, named := ["math/bits.deBruijn32tab", "math/bits.deBruijn64tab"], apart := false, laid := [("math/bits.deBruijn32tab", laid_math_bits_deBruijn32tab), ("math/bits.deBruijn64tab", laid_math_bits_deBruijn64tab)], narrowed := true }
def FnOtherUptoSaid : Prop := fnOtherUptoRow.holds Tryd.pinned (OpenSpec.upto fnOtherSpec)

/-- 'laws.FnConcave', WHERE WHAT IT READS IS OF BULK AT MOST 1048576: true; the input reads as it did. -/
def fnConcaveUptoRow : OpenClaim := { program := "ytcklinoiaiilgabdoor", sum := "d8b1d9d7b15a763600f1301451e8e844958169ac86e149f414adc804231b9d1c", func := "loop.example/matchpolys/laws.FnConcave", spec := "fnConcave", unfollowed := true, recurses := true, named := ["math/bits.deBruijn32tab", "math/bits.deBruijn64tab"], apart := false, laid := [("math/bits.deBruijn32tab", laid_math_bits_deBruijn32tab), ("math/bits.deBruijn64tab", laid_math_bits_deBruijn64tab)], narrowed := true }
def FnConcaveUptoSaid : Prop := fnConcaveUptoRow.holds Tryd.pinned (OpenSpec.upto fnConcaveSpec)

/-- 'laws.FnCover', WHERE WHAT IT READS IS OF BULK AT MOST 1048576: true; the input reads as it did. -/
def fnCoverUptoRow : OpenClaim := { program := "ytcklinoiaiilgabdoor", sum := "d8b1d9d7b15a763600f1301451e8e844958169ac86e149f414adc804231b9d1c", func := "loop.example/matchpolys/laws.FnCover", spec := "fnCover", unfollowed := true, recurses := true, named := ["math/bits.deBruijn32tab", "math/bits.deBruijn64tab"], apart := false, laid := [("math/bits.deBruijn32tab", laid_math_bits_deBruijn32tab), ("math/bits.deBruijn64tab", laid_math_bits_deBruijn64tab)], narrowed := true }
def FnCoverUptoSaid : Prop := fnCoverUptoRow.holds Tryd.pinned (OpenSpec.upto fnCoverSpec)

/-- 'laws.FnLoss', WHERE WHAT IT READS IS OF BULK AT MOST 1048576: true; the input reads as it did. -/
def fnLossUptoRow : OpenClaim := { program := "ytcklinoiaiilgabdoor", sum := "d8b1d9d7b15a763600f1301451e8e844958169ac86e149f414adc804231b9d1c", func := "loop.example/matchpolys/laws.FnLoss", spec := "fnLoss", unfollowed := true, recurses := true, named := ["math/bits.deBruijn32tab", "math/bits.deBruijn64tab"], apart := false, laid := [("math/bits.deBruijn32tab", laid_math_bits_deBruijn32tab), ("math/bits.deBruijn64tab", laid_math_bits_deBruijn64tab)], narrowed := true }
def FnLossUptoSaid : Prop := fnLossUptoRow.holds Tryd.pinned (OpenSpec.upto fnLossSpec)

/-- 'laws.FnCoverEdges', WHERE WHAT IT READS IS OF BULK AT MOST 1048576: true; the input reads as it did. -/
def fnCoverEdgesUptoRow : OpenClaim := { program := "ytcklinoiaiilgabdoor", sum := "d8b1d9d7b15a763600f1301451e8e844958169ac86e149f414adc804231b9d1c", func := "loop.example/matchpolys/laws.FnCoverEdges", spec := "fnCoverEdges", unfollowed := true, recurses := true, named := ["math/bits.deBruijn32tab", "math/bits.deBruijn64tab"], apart := false, laid := [("math/bits.deBruijn32tab", laid_math_bits_deBruijn32tab), ("math/bits.deBruijn64tab", laid_math_bits_deBruijn64tab)], narrowed := true }
def FnCoverEdgesUptoSaid : Prop := fnCoverEdgesUptoRow.holds Tryd.pinned (OpenSpec.upto fnCoverEdgesSpec)

/-- 'laws.FnGreatest', WHERE WHAT IT READS IS OF BULK AT MOST 1048576: true; the input reads as it did. -/
def fnGreatestUptoRow : OpenClaim := { program := "ytcklinoiaiilgabdoor", sum := "d8b1d9d7b15a763600f1301451e8e844958169ac86e149f414adc804231b9d1c", func := "loop.example/matchpolys/laws.FnGreatest", spec := "fnGreatest", unfollowed := true, recurses := true, named := ["math/bits.deBruijn32tab", "math/bits.deBruijn64tab"], apart := false, laid := [("math/bits.deBruijn32tab", laid_math_bits_deBruijn32tab), ("math/bits.deBruijn64tab", laid_math_bits_deBruijn64tab)], narrowed := true }
def FnGreatestUptoSaid : Prop := fnGreatestUptoRow.holds Tryd.pinned (OpenSpec.upto fnGreatestSpec)

/-- 'laws.FnCritical', WHERE WHAT IT READS IS OF BULK AT MOST 1048576: true; the input reads as it did. -/
def fnCriticalUptoRow : OpenClaim := { program := "ytcklinoiaiilgabdoor", sum := "d8b1d9d7b15a763600f1301451e8e844958169ac86e149f414adc804231b9d1c", func := "loop.example/matchpolys/laws.FnCritical", spec := "fnCritical", unfollowed := true, recurses := true, named := ["math/bits.deBruijn32tab", "math/bits.deBruijn64tab"], apart := false, laid := [("math/bits.deBruijn32tab", laid_math_bits_deBruijn32tab), ("math/bits.deBruijn64tab", laid_math_bits_deBruijn64tab)], narrowed := true }
def FnCriticalUptoSaid : Prop := fnCriticalUptoRow.holds Tryd.pinned (OpenSpec.upto fnCriticalSpec)

end Rows
end Go.Proofs.YtcklinoiaiilgabDoor
