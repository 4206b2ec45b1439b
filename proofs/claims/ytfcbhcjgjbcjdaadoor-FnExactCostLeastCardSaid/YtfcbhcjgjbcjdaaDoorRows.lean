/-
  NARROWER THAN 'FOR EVERY INPUT', by the rows' own cells (each row's printed sentence says how): FnExactMarketAll: laid · FnExactCostLeast: laid · FnExactCostNarrow: laid · FnExactCostPrices: laid · FnExactCostHalf: laid · FnExactTableGraph: laid · FnExactTablePoint: laid · FnExactTableFits: laid · FnExactMatchIn: laid · FnExactMatchMissed: laid · FnExactMatchFull: laid · FnExactMatchFirst: laid.
  DERIVED. THE GIVEN ROWS OF THIS SEAT. 12 by the template 'for every input the law returns true; each argument reads behind the call as it read before'; 0 by the template 'total and deterministic' (their statements: YtfcbhcjgjbcjdaaDoorTotals.lean).
  GIVEN WITH THE SEED: the statements are not yours to turn. If you find one false, say at which input.
  Laid BY PROGRAM, IN A SANDBOX (cutbox-rows.mjs): the forced cells as the released guide's own fill.sh prints them over the translation bb64d4125e77f0a9… (all of the seat's roots in one cut). By AI agents, Wed Nov 11 2026. No macro, syntax, notation, axiom, sorry.
-/
import Derived.Test.YtfcbhcjgjbcjdaaDoorChecked
import GoSem.Claim
import GoSem.ClaimJoined
import GoSem.ClaimMapViews
import Derived.JoinedTies
import Derived.KernelRfl
namespace Go.Proofs.YtfcbhcjgjbcjdaaDoor
/- THE CELL 'sum', in the pinned program and in every row, IS THE sha256 OF THE DUMP (.gsa) THAT YtfcbhcjgjbcjdaaDoorProg.lean LOADS. Nothing in Lean hashes anything: it is a label: what it is worth is what the hold of that sum in a sandbox is worth. -/
noncomputable def Tryd.pinned : Pinned := { name := "ytfcbhcjgjbcjdaadoor", sum := "bb64d4125e77f0a93d9c329d1a7cac8900ad6dfe066eb6faec6770491ddbf047", checked := Tryd.checked }
namespace Rows
def none {H : Type} : Left H := { results := [], args := [] }

/- WHAT THE LISTED PACKAGE-LEVEL VARIABLES READ AS WHEN THE CALL BEGINS. Each datum BY PROGRAM (the guide's laid-datum.mjs) off the statement by which the dump's own 'gosem.cut.vars' lays the variable. In a bare row this is a premise. The card (YtfcbhcjgjbcjdaaDoorCards.lean) ties it to the program's text. -/
def laid_math_bits_deBruijn32tab {H : Type} : DataW H := .agg [.lit (.int .u8 0), .lit (.int .u8 1), .lit (.int .u8 28), .lit (.int .u8 2), .lit (.int .u8 29), .lit (.int .u8 14), .lit (.int .u8 24), .lit (.int .u8 3), .lit (.int .u8 30), .lit (.int .u8 22), .lit (.int .u8 20), .lit (.int .u8 15), .lit (.int .u8 25), .lit (.int .u8 17), .lit (.int .u8 4), .lit (.int .u8 8), .lit (.int .u8 31), .lit (.int .u8 27), .lit (.int .u8 13), .lit (.int .u8 23), .lit (.int .u8 21), .lit (.int .u8 19), .lit (.int .u8 16), .lit (.int .u8 7), .lit (.int .u8 26), .lit (.int .u8 12), .lit (.int .u8 18), .lit (.int .u8 6), .lit (.int .u8 11), .lit (.int .u8 5), .lit (.int .u8 10), .lit (.int .u8 9)]
def laid_math_bits_deBruijn64tab {H : Type} : DataW H := .agg [.lit (.int .u8 0), .lit (.int .u8 1), .lit (.int .u8 56), .lit (.int .u8 2), .lit (.int .u8 57), .lit (.int .u8 49), .lit (.int .u8 28), .lit (.int .u8 3), .lit (.int .u8 61), .lit (.int .u8 58), .lit (.int .u8 42), .lit (.int .u8 50), .lit (.int .u8 38), .lit (.int .u8 29), .lit (.int .u8 17), .lit (.int .u8 4), .lit (.int .u8 62), .lit (.int .u8 47), .lit (.int .u8 59), .lit (.int .u8 36), .lit (.int .u8 45), .lit (.int .u8 43), .lit (.int .u8 51), .lit (.int .u8 22), .lit (.int .u8 53), .lit (.int .u8 39), .lit (.int .u8 33), .lit (.int .u8 30), .lit (.int .u8 24), .lit (.int .u8 18), .lit (.int .u8 12), .lit (.int .u8 5), .lit (.int .u8 63), .lit (.int .u8 55), .lit (.int .u8 48), .lit (.int .u8 27), .lit (.int .u8 60), .lit (.int .u8 41), .lit (.int .u8 37), .lit (.int .u8 16), .lit (.int .u8 46), .lit (.int .u8 35), .lit (.int .u8 44), .lit (.int .u8 21), .lit (.int .u8 52), .lit (.int .u8 32), .lit (.int .u8 23), .lit (.int .u8 11), .lit (.int .u8 54), .lit (.int .u8 26), .lit (.int .u8 40), .lit (.int .u8 15), .lit (.int .u8 34), .lit (.int .u8 20), .lit (.int .u8 31), .lit (.int .u8 10), .lit (.int .u8 25), .lit (.int .u8 14), .lit (.int .u8 19), .lit (.int .u8 9), .lit (.int .u8 13), .lit (.int .u8 8), .lit (.int .u8 7), .lit (.int .u8 6)]

/-- 'laws.FnExactMarketAll': WHATEVER THE INPUT: true; the input reads as it did. -/
def fnExactMarketAllSpec : ChangeSpec := { name := "fnExactMarketAll", fn := fun _ => fun
  | [d] => { results := [.lit (.bool true)], args := [d] }
  | _ => none }
def fnExactMarketAllRow : OpenClaim := { program := "ytfcbhcjgjbcjdaadoor", sum := "bb64d4125e77f0a93d9c329d1a7cac8900ad6dfe066eb6faec6770491ddbf047", func := "loop.example/matchpolys/laws.FnExactMarketAll", spec := "fnExactMarketAll", unfollowed := true, recurses := true, named := ["math/bits.deBruijn32tab", "math/bits.deBruijn64tab"], apart := false, laid := [("math/bits.deBruijn32tab", laid_math_bits_deBruijn32tab), ("math/bits.deBruijn64tab", laid_math_bits_deBruijn64tab)] }
def FnExactMarketAllSaid : Prop := fnExactMarketAllRow.holds Tryd.pinned (OpenSpec.ofChange fnExactMarketAllSpec)

/-- ITS FALSE NEIGHBOUR: 'it returns false'. Refute it at one input. -/
def fnExactMarketAllWrong : ChangeSpec := { name := "fnExactMarketAll", fn := fun _ => fun
  | [d] => { results := [.lit (.bool false)], args := [d] }
  | _ => none }
def FnExactMarketAllWrongFalsely : Prop := fnExactMarketAllRow.holds Tryd.pinned (OpenSpec.ofChange fnExactMarketAllWrong)

/-- 'laws.FnExactCostLeast': WHATEVER THE INPUT: true; the input reads as it did. -/
def fnExactCostLeastSpec : ChangeSpec := { name := "fnExactCostLeast", fn := fun _ => fun
  | [d] => { results := [.lit (.bool true)], args := [d] }
  | _ => none }
def fnExactCostLeastRow : OpenClaim := { program := "ytfcbhcjgjbcjdaadoor", sum := "bb64d4125e77f0a93d9c329d1a7cac8900ad6dfe066eb6faec6770491ddbf047", func := "loop.example/matchpolys/laws.FnExactCostLeast", spec := "fnExactCostLeast", unfollowed := true, recurses := true, named := ["math/bits.deBruijn32tab", "math/bits.deBruijn64tab"], apart := false, laid := [("math/bits.deBruijn32tab", laid_math_bits_deBruijn32tab), ("math/bits.deBruijn64tab", laid_math_bits_deBruijn64tab)] }
def FnExactCostLeastSaid : Prop := fnExactCostLeastRow.holds Tryd.pinned (OpenSpec.ofChange fnExactCostLeastSpec)

/-- ITS FALSE NEIGHBOUR: 'it returns false'. Refute it at one input. -/
def fnExactCostLeastWrong : ChangeSpec := { name := "fnExactCostLeast", fn := fun _ => fun
  | [d] => { results := [.lit (.bool false)], args := [d] }
  | _ => none }
def FnExactCostLeastWrongFalsely : Prop := fnExactCostLeastRow.holds Tryd.pinned (OpenSpec.ofChange fnExactCostLeastWrong)

/-- 'laws.FnExactCostNarrow': WHATEVER THE INPUT: true; the input reads as it did. -/
def fnExactCostNarrowSpec : ChangeSpec := { name := "fnExactCostNarrow", fn := fun _ => fun
  | [d] => { results := [.lit (.bool true)], args := [d] }
  | _ => none }
def fnExactCostNarrowRow : OpenClaim := { program := "ytfcbhcjgjbcjdaadoor", sum := "bb64d4125e77f0a93d9c329d1a7cac8900ad6dfe066eb6faec6770491ddbf047", func := "loop.example/matchpolys/laws.FnExactCostNarrow", spec := "fnExactCostNarrow", unfollowed := true, recurses := true, named := ["math/bits.deBruijn32tab", "math/bits.deBruijn64tab"], apart := false, laid := [("math/bits.deBruijn32tab", laid_math_bits_deBruijn32tab), ("math/bits.deBruijn64tab", laid_math_bits_deBruijn64tab)] }
def FnExactCostNarrowSaid : Prop := fnExactCostNarrowRow.holds Tryd.pinned (OpenSpec.ofChange fnExactCostNarrowSpec)

/-- ITS FALSE NEIGHBOUR: 'it returns false'. Refute it at one input. -/
def fnExactCostNarrowWrong : ChangeSpec := { name := "fnExactCostNarrow", fn := fun _ => fun
  | [d] => { results := [.lit (.bool false)], args := [d] }
  | _ => none }
def FnExactCostNarrowWrongFalsely : Prop := fnExactCostNarrowRow.holds Tryd.pinned (OpenSpec.ofChange fnExactCostNarrowWrong)

/-- 'laws.FnExactCostPrices': WHATEVER THE INPUT: true; the input reads as it did. -/
def fnExactCostPricesSpec : ChangeSpec := { name := "fnExactCostPrices", fn := fun _ => fun
  | [d] => { results := [.lit (.bool true)], args := [d] }
  | _ => none }
def fnExactCostPricesRow : OpenClaim := { program := "ytfcbhcjgjbcjdaadoor", sum := "bb64d4125e77f0a93d9c329d1a7cac8900ad6dfe066eb6faec6770491ddbf047", func := "loop.example/matchpolys/laws.FnExactCostPrices", spec := "fnExactCostPrices", unfollowed := true, recurses := true, named := ["math/bits.deBruijn32tab", "math/bits.deBruijn64tab"], apart := false, laid := [("math/bits.deBruijn32tab", laid_math_bits_deBruijn32tab), ("math/bits.deBruijn64tab", laid_math_bits_deBruijn64tab)] }
def FnExactCostPricesSaid : Prop := fnExactCostPricesRow.holds Tryd.pinned (OpenSpec.ofChange fnExactCostPricesSpec)

/-- ITS FALSE NEIGHBOUR: 'it returns false'. Refute it at one input. -/
def fnExactCostPricesWrong : ChangeSpec := { name := "fnExactCostPrices", fn := fun _ => fun
  | [d] => { results := [.lit (.bool false)], args := [d] }
  | _ => none }
def FnExactCostPricesWrongFalsely : Prop := fnExactCostPricesRow.holds Tryd.pinned (OpenSpec.ofChange fnExactCostPricesWrong)

/-- 'laws.FnExactCostHalf': WHATEVER THE INPUT: true; the input reads as it did. -/
def fnExactCostHalfSpec : ChangeSpec := { name := "fnExactCostHalf", fn := fun _ => fun
  | [d] => { results := [.lit (.bool true)], args := [d] }
  | _ => none }
def fnExactCostHalfRow : OpenClaim := { program := "ytfcbhcjgjbcjdaadoor", sum := "bb64d4125e77f0a93d9c329d1a7cac8900ad6dfe066eb6faec6770491ddbf047", func := "loop.example/matchpolys/laws.FnExactCostHalf", spec := "fnExactCostHalf", unfollowed := true, recurses := true, named := ["math/bits.deBruijn32tab", "math/bits.deBruijn64tab"], apart := false, laid := [("math/bits.deBruijn32tab", laid_math_bits_deBruijn32tab), ("math/bits.deBruijn64tab", laid_math_bits_deBruijn64tab)] }
def FnExactCostHalfSaid : Prop := fnExactCostHalfRow.holds Tryd.pinned (OpenSpec.ofChange fnExactCostHalfSpec)

/-- ITS FALSE NEIGHBOUR: 'it returns false'. Refute it at one input. -/
def fnExactCostHalfWrong : ChangeSpec := { name := "fnExactCostHalf", fn := fun _ => fun
  | [d] => { results := [.lit (.bool false)], args := [d] }
  | _ => none }
def FnExactCostHalfWrongFalsely : Prop := fnExactCostHalfRow.holds Tryd.pinned (OpenSpec.ofChange fnExactCostHalfWrong)

/-- 'laws.FnExactTableGraph': WHATEVER THE INPUT: true; the input reads as it did. -/
def fnExactTableGraphSpec : ChangeSpec := { name := "fnExactTableGraph", fn := fun _ => fun
  | [d] => { results := [.lit (.bool true)], args := [d] }
  | _ => none }
def fnExactTableGraphRow : OpenClaim := { program := "ytfcbhcjgjbcjdaadoor", sum := "bb64d4125e77f0a93d9c329d1a7cac8900ad6dfe066eb6faec6770491ddbf047", func := "loop.example/matchpolys/laws.FnExactTableGraph", spec := "fnExactTableGraph", unfollowed := true, recurses := true, named := ["math/bits.deBruijn32tab", "math/bits.deBruijn64tab"], apart := false, laid := [("math/bits.deBruijn32tab", laid_math_bits_deBruijn32tab), ("math/bits.deBruijn64tab", laid_math_bits_deBruijn64tab)] }
def FnExactTableGraphSaid : Prop := fnExactTableGraphRow.holds Tryd.pinned (OpenSpec.ofChange fnExactTableGraphSpec)

/-- ITS FALSE NEIGHBOUR: 'it returns false'. Refute it at one input. -/
def fnExactTableGraphWrong : ChangeSpec := { name := "fnExactTableGraph", fn := fun _ => fun
  | [d] => { results := [.lit (.bool false)], args := [d] }
  | _ => none }
def FnExactTableGraphWrongFalsely : Prop := fnExactTableGraphRow.holds Tryd.pinned (OpenSpec.ofChange fnExactTableGraphWrong)

/-- 'laws.FnExactTablePoint': WHATEVER THE INPUT: true; the input reads as it did. -/
def fnExactTablePointSpec : ChangeSpec := { name := "fnExactTablePoint", fn := fun _ => fun
  | [d1, d2] => { results := [.lit (.bool true)], args := [d1, d2] }
  | _ => none }
def fnExactTablePointRow : OpenClaim := { program := "ytfcbhcjgjbcjdaadoor", sum := "bb64d4125e77f0a93d9c329d1a7cac8900ad6dfe066eb6faec6770491ddbf047", func := "loop.example/matchpolys/laws.FnExactTablePoint", spec := "fnExactTablePoint", unfollowed := true, recurses := true, named := ["math/bits.deBruijn32tab", "math/bits.deBruijn64tab"], apart := false, laid := [("math/bits.deBruijn32tab", laid_math_bits_deBruijn32tab), ("math/bits.deBruijn64tab", laid_math_bits_deBruijn64tab)] }
def FnExactTablePointSaid : Prop := fnExactTablePointRow.holds Tryd.pinned (OpenSpec.ofChange fnExactTablePointSpec)

/-- ITS FALSE NEIGHBOUR: 'it returns false'. Refute it at one input. -/
def fnExactTablePointWrong : ChangeSpec := { name := "fnExactTablePoint", fn := fun _ => fun
  | [d1, d2] => { results := [.lit (.bool false)], args := [d1, d2] }
  | _ => none }
def FnExactTablePointWrongFalsely : Prop := fnExactTablePointRow.holds Tryd.pinned (OpenSpec.ofChange fnExactTablePointWrong)

/-- 'laws.FnExactTableFits': WHATEVER THE INPUT: true; the input reads as it did. -/
def fnExactTableFitsSpec : ChangeSpec := { name := "fnExactTableFits", fn := fun _ => fun
  | [d1, d2] => { results := [.lit (.bool true)], args := [d1, d2] }
  | _ => none }
def fnExactTableFitsRow : OpenClaim := { program := "ytfcbhcjgjbcjdaadoor", sum := "bb64d4125e77f0a93d9c329d1a7cac8900ad6dfe066eb6faec6770491ddbf047", func := "loop.example/matchpolys/laws.FnExactTableFits", spec := "fnExactTableFits", unfollowed := true, recurses := true, named := ["math/bits.deBruijn32tab", "math/bits.deBruijn64tab"], apart := false, laid := [("math/bits.deBruijn32tab", laid_math_bits_deBruijn32tab), ("math/bits.deBruijn64tab", laid_math_bits_deBruijn64tab)] }
def FnExactTableFitsSaid : Prop := fnExactTableFitsRow.holds Tryd.pinned (OpenSpec.ofChange fnExactTableFitsSpec)

/-- ITS FALSE NEIGHBOUR: 'it returns false'. Refute it at one input. -/
def fnExactTableFitsWrong : ChangeSpec := { name := "fnExactTableFits", fn := fun _ => fun
  | [d1, d2] => { results := [.lit (.bool false)], args := [d1, d2] }
  | _ => none }
def FnExactTableFitsWrongFalsely : Prop := fnExactTableFitsRow.holds Tryd.pinned (OpenSpec.ofChange fnExactTableFitsWrong)

/-- 'laws.FnExactMatchIn': WHATEVER THE INPUT: true; the input reads as it did. -/
def fnExactMatchInSpec : ChangeSpec := { name := "fnExactMatchIn", fn := fun _ => fun
  | [d1, d2] => { results := [.lit (.bool true)], args := [d1, d2] }
  | _ => none }
def fnExactMatchInRow : OpenClaim := { program := "ytfcbhcjgjbcjdaadoor", sum := "bb64d4125e77f0a93d9c329d1a7cac8900ad6dfe066eb6faec6770491ddbf047", func := "loop.example/matchpolys/laws.FnExactMatchIn", spec := "fnExactMatchIn", unfollowed := true, recurses := true, named := ["math/bits.deBruijn32tab", "math/bits.deBruijn64tab"], apart := false, laid := [("math/bits.deBruijn32tab", laid_math_bits_deBruijn32tab), ("math/bits.deBruijn64tab", laid_math_bits_deBruijn64tab)] }
def FnExactMatchInSaid : Prop := fnExactMatchInRow.holds Tryd.pinned (OpenSpec.ofChange fnExactMatchInSpec)

/-- ITS FALSE NEIGHBOUR: 'it returns false'. Refute it at one input. -/
def fnExactMatchInWrong : ChangeSpec := { name := "fnExactMatchIn", fn := fun _ => fun
  | [d1, d2] => { results := [.lit (.bool false)], args := [d1, d2] }
  | _ => none }
def FnExactMatchInWrongFalsely : Prop := fnExactMatchInRow.holds Tryd.pinned (OpenSpec.ofChange fnExactMatchInWrong)

/-- 'laws.FnExactMatchMissed': WHATEVER THE INPUT: true; the input reads as it did. -/
def fnExactMatchMissedSpec : ChangeSpec := { name := "fnExactMatchMissed", fn := fun _ => fun
  | [d1, d2] => { results := [.lit (.bool true)], args := [d1, d2] }
  | _ => none }
def fnExactMatchMissedRow : OpenClaim := { program := "ytfcbhcjgjbcjdaadoor", sum := "bb64d4125e77f0a93d9c329d1a7cac8900ad6dfe066eb6faec6770491ddbf047", func := "loop.example/matchpolys/laws.FnExactMatchMissed", spec := "fnExactMatchMissed", unfollowed := true, recurses := true, named := ["math/bits.deBruijn32tab", "math/bits.deBruijn64tab"], apart := false, laid := [("math/bits.deBruijn32tab", laid_math_bits_deBruijn32tab), ("math/bits.deBruijn64tab", laid_math_bits_deBruijn64tab)] }
def FnExactMatchMissedSaid : Prop := fnExactMatchMissedRow.holds Tryd.pinned (OpenSpec.ofChange fnExactMatchMissedSpec)

/-- ITS FALSE NEIGHBOUR: 'it returns false'. Refute it at one input. -/
def fnExactMatchMissedWrong : ChangeSpec := { name := "fnExactMatchMissed", fn := fun _ => fun
  | [d1, d2] => { results := [.lit (.bool false)], args := [d1, d2] }
  | _ => none }
def FnExactMatchMissedWrongFalsely : Prop := fnExactMatchMissedRow.holds Tryd.pinned (OpenSpec.ofChange fnExactMatchMissedWrong)

/-- 'laws.FnExactMatchFull': WHATEVER THE INPUT: true; the input reads as it did. -/
def fnExactMatchFullSpec : ChangeSpec := { name := "fnExactMatchFull", fn := fun _ => fun
  | [d1, d2] => { results := [.lit (.bool true)], args := [d1, d2] }
  | _ => none }
def fnExactMatchFullRow : OpenClaim := { program := "ytfcbhcjgjbcjdaadoor", sum := "bb64d4125e77f0a93d9c329d1a7cac8900ad6dfe066eb6faec6770491ddbf047", func := "loop.example/matchpolys/laws.FnExactMatchFull", spec := "fnExactMatchFull", unfollowed := true, recurses := true, named := ["math/bits.deBruijn32tab", "math/bits.deBruijn64tab"], apart := false, laid := [("math/bits.deBruijn32tab", laid_math_bits_deBruijn32tab), ("math/bits.deBruijn64tab", laid_math_bits_deBruijn64tab)] }
def FnExactMatchFullSaid : Prop := fnExactMatchFullRow.holds Tryd.pinned (OpenSpec.ofChange fnExactMatchFullSpec)

/-- ITS FALSE NEIGHBOUR: 'it returns false'. Refute it at one input. -/
def fnExactMatchFullWrong : ChangeSpec := { name := "fnExactMatchFull", fn := fun _ => fun
  | [d1, d2] => { results := [.lit (.bool false)], args := [d1, d2] }
  | _ => none }
def FnExactMatchFullWrongFalsely : Prop := fnExactMatchFullRow.holds Tryd.pinned (OpenSpec.ofChange fnExactMatchFullWrong)

/-- 'laws.FnExactMatchFirst': WHATEVER THE INPUT: true; the input reads as it did. -/
def fnExactMatchFirstSpec : ChangeSpec := { name := "fnExactMatchFirst", fn := fun _ => fun
  | [d] => { results := [.lit (.bool true)], args := [d] }
  | _ => none }
def fnExactMatchFirstRow : OpenClaim := { program := "ytfcbhcjgjbcjdaadoor", sum := "bb64d4125e77f0a93d9c329d1a7cac8900ad6dfe066eb6faec6770491ddbf047", func := "loop.example/matchpolys/laws.FnExactMatchFirst", spec := "fnExactMatchFirst", unfollowed := true, recurses := true, named := ["math/bits.deBruijn32tab", "math/bits.deBruijn64tab"], apart := false, laid := [("math/bits.deBruijn32tab", laid_math_bits_deBruijn32tab), ("math/bits.deBruijn64tab", laid_math_bits_deBruijn64tab)] }
def FnExactMatchFirstSaid : Prop := fnExactMatchFirstRow.holds Tryd.pinned (OpenSpec.ofChange fnExactMatchFirstSpec)

/-- ITS FALSE NEIGHBOUR: 'it returns false'. Refute it at one input. -/
def fnExactMatchFirstWrong : ChangeSpec := { name := "fnExactMatchFirst", fn := fun _ => fun
  | [d] => { results := [.lit (.bool false)], args := [d] }
  | _ => none }
def FnExactMatchFirstWrongFalsely : Prop := fnExactMatchFirstRow.holds Tryd.pinned (OpenSpec.ofChange fnExactMatchFirstWrong)

/- THE SECOND FORM. 'bulk': how many values and letters a reading holds, each counted each time it is reached (what is shared counts as often as it is met; a slice's spare places count too). A statement '..UptoSaid' is the law's where the arguments, and the package variables that the reading takes, are together of bulk at most 1048576: NARROWER than '..Said'. Prove '..Said' where nothing that the law and all that it calls make is longer than what came in: it says more and counts as full. Else prove '..UptoSaid'. A law counts once. -/
mutual
def uptoBulk {H : Type} : DataW H → Nat
  | .lit (.string bytes) => bytes.length + 1
  | .lit _ => 1
  | .nil => 1
  | .ptr d => uptoBulk d + 1
  | .slice elems spare => uptoBulkAll elems + uptoBulkAll spare + 1
  | .agg parts => uptoBulkAll parts + 1
  | .iface _ d => uptoBulk d + 1
  | .map entries => uptoBulkEntries entries + 1
  | .held _ => 1
def uptoBulkAll {H : Type} : List (DataW H) → Nat
  | [] => 0
  | d :: r => uptoBulk d + uptoBulkAll r
def uptoBulkEntries {H : Type} : List (Lit × DataW H) → Nat
  | [] => 0
  | x :: r => uptoBulkEntry x + uptoBulkEntries r
def uptoBulkEntry {H : Type} : Lit × DataW H → Nat
  | (.string bytes, d) => bytes.length + uptoBulk d + 1
  | (_, d) => uptoBulk d + 1
 end
def uptoSmall : (H : Type) → List (DataW H) → Bool := fun _ ds => decide (uptoBulkAll ds ≤ 1048576)
def OpenSpec.upto (s : _root_.Go.ChangeSpec) : _root_.Go.OpenSpec := { _root_.Go.OpenSpec.ofChange s with cond := some uptoSmall }

/-- 'laws.FnExactMarketAll', WHERE WHAT IT READS IS OF BULK AT MOST 1048576: true; the input reads as it did. -/
def fnExactMarketAllUptoRow : OpenClaim := { program := "ytfcbhcjgjbcjdaadoor", sum := "bb64d4125e77f0a93d9c329d1a7cac8900ad6dfe066eb6faec6770491ddbf047", func := "loop.example/matchpolys/laws.FnExactMarketAll", spec := "fnExactMarketAll", unfollowed := true, recurses := true, named := ["math/bits.deBruijn32tab", "math/bits.deBruijn64tab"], apart := false, laid := [("math/bits.deBruijn32tab", laid_math_bits_deBruijn32tab), ("math/bits.deBruijn64tab", laid_math_bits_deBruijn64tab)], narrowed := true }
def FnExactMarketAllUptoSaid : Prop := fnExactMarketAllUptoRow.holds Tryd.pinned (OpenSpec.upto fnExactMarketAllSpec)

/-- 'laws.FnExactCostLeast', WHERE WHAT IT READS IS OF BULK AT MOST 1048576: true; the input reads as it did. -/
def fnExactCostLeastUptoRow : OpenClaim := { program := "ytfcbhcjgjbcjdaadoor", sum := "bb64d4125e77f0a93d9c329d1a7cac8900ad6dfe066eb6faec6770491ddbf047", func := "loop.example/matchpolys/laws.FnExactCostLeast", spec := "fnExactCostLeast", unfollowed := true, recurses := true, named := ["math/bits.deBruijn32tab", "math/bits.deBruijn64tab"], apart := false, laid := [("math/bits.deBruijn32tab", laid_math_bits_deBruijn32tab), ("math/bits.deBruijn64tab", laid_math_bits_deBruijn64tab)], narrowed := true }
def FnExactCostLeastUptoSaid : Prop := fnExactCostLeastUptoRow.holds Tryd.pinned (OpenSpec.upto fnExactCostLeastSpec)

/-- 'laws.FnExactCostNarrow', WHERE WHAT IT READS IS OF BULK AT MOST 1048576: true; the input reads as it did. -/
def fnExactCostNarrowUptoRow : OpenClaim := { program := "ytfcbhcjgjbcjdaadoor", sum := "bb64d4125e77f0a93d9c329d1a7cac8900ad6dfe066eb6faec6770491ddbf047", func := "loop.example/matchpolys/laws.FnExactCostNarrow", spec := "fnExactCostNarrow", unfollowed := true, recurses := true, named := ["math/bits.deBruijn32tab", "math/bits.deBruijn64tab"], apart := false, laid := [("math/bits.deBruijn32tab", laid_math_bits_deBruijn32tab), ("math/bits.deBruijn64tab", laid_math_bits_deBruijn64tab)], narrowed := true }
def FnExactCostNarrowUptoSaid : Prop := fnExactCostNarrowUptoRow.holds Tryd.pinned (OpenSpec.upto fnExactCostNarrowSpec)

/-- 'laws.FnExactCostPrices', WHERE WHAT IT READS IS OF BULK AT MOST 1048576: true; the input reads as it did. -/
def fnExactCostPricesUptoRow : OpenClaim := { program := "ytfcbhcjgjbcjdaadoor", sum := "bb64d4125e77f0a93d9c329d1a7cac8900ad6dfe066eb6faec6770491ddbf047", func := "loop.example/matchpolys/laws.FnExactCostPrices", spec := "fnExactCostPrices", unfollowed := true, recurses := true, named := ["math/bits.deBruijn32tab", "math/bits.deBruijn64tab"], apart := false, laid := [("math/bits.deBruijn32tab", laid_math_bits_deBruijn32tab), ("math/bits.deBruijn64tab", laid_math_bits_deBruijn64tab)], narrowed := true }
def FnExactCostPricesUptoSaid : Prop := fnExactCostPricesUptoRow.holds Tryd.pinned (OpenSpec.upto fnExactCostPricesSpec)

/-- 'laws.FnExactCostHalf', WHERE WHAT IT READS IS OF BULK AT MOST 1048576: true; the input reads as it did. -/
def fnExactCostHalfUptoRow : OpenClaim := { program := "ytfcbhcjgjbcjdaadoor", sum := "bb64d4125e77f0a93d9c329d1a7cac8900ad6dfe066eb6faec6770491ddbf047", func := "loop.example/matchpolys/laws.FnExactCostHalf", spec := "fnExactCostHalf", unfollowed := true, recurses := true, named := ["math/bits.deBruijn32tab", "math/bits.deBruijn64tab"], apart := false, laid := [("math/bits.deBruijn32tab", laid_math_bits_deBruijn32tab), ("math/bits.deBruijn64tab", laid_math_bits_deBruijn64tab)], narrowed := true }
def FnExactCostHalfUptoSaid : Prop := fnExactCostHalfUptoRow.holds Tryd.pinned (OpenSpec.upto fnExactCostHalfSpec)

/-- 'laws.FnExactTableGraph', WHERE WHAT IT READS IS OF BULK AT MOST 1048576: true; the input reads as it did. -/
def fnExactTableGraphUptoRow : OpenClaim := { program := "ytfcbhcjgjbcjdaadoor", sum := "bb64d4125e77f0a93d9c329d1a7cac8900ad6dfe066eb6faec6770491ddbf047", func := "loop.example/matchpolys/laws.FnExactTableGraph", spec := "fnExactTableGraph", unfollowed := true, recurses := true, named := ["math/bits.deBruijn32tab", "math/bits.deBruijn64tab"], apart := false, laid := [("math/bits.deBruijn32tab", laid_math_bits_deBruijn32tab), ("math/bits.deBruijn64tab", laid_math_bits_deBruijn64tab)], narrowed := true }
def FnExactTableGraphUptoSaid : Prop := fnExactTableGraphUptoRow.holds Tryd.pinned (OpenSpec.upto fnExactTableGraphSpec)

/-- 'laws.FnExactTablePoint', WHERE WHAT IT READS IS OF BULK AT MOST 1048576: true; the input reads as it did. -/
def fnExactTablePointUptoRow : OpenClaim := { program := "ytfcbhcjgjbcjdaadoor", sum := "bb64d4125e77f0a93d9c329d1a7cac8900ad6dfe066eb6faec6770491ddbf047", func := "loop.example/matchpolys/laws.FnExactTablePoint", spec := "fnExactTablePoint", unfollowed := true, recurses := true, named := ["math/bits.deBruijn32tab", "math/bits.deBruijn64tab"], apart := false, laid := [("math/bits.deBruijn32tab", laid_math_bits_deBruijn32tab), ("math/bits.deBruijn64tab", laid_math_bits_deBruijn64tab)], narrowed := true }
def FnExactTablePointUptoSaid : Prop := fnExactTablePointUptoRow.holds Tryd.pinned (OpenSpec.upto fnExactTablePointSpec)

/-- 'laws.FnExactTableFits', WHERE WHAT IT READS IS OF BULK AT MOST 1048576: true; the input reads as it did. -/
def fnExactTableFitsUptoRow : OpenClaim := { program := "ytfcbhcjgjbcjdaadoor", sum := "bb64d4125e77f0a93d9c329d1a7cac8900ad6dfe066eb6faec6770491ddbf047", func := "loop.example/matchpolys/laws.FnExactTableFits", spec := "fnExactTableFits", unfollowed := true, recurses := true, named := ["math/bits.deBruijn32tab", "math/bits.deBruijn64tab"], apart := false, laid := [("math/bits.deBruijn32tab", laid_math_bits_deBruijn32tab), ("math/bits.deBruijn64tab", laid_math_bits_deBruijn64tab)], narrowed := true }
def FnExactTableFitsUptoSaid : Prop := fnExactTableFitsUptoRow.holds Tryd.pinned (OpenSpec.upto fnExactTableFitsSpec)

/-- 'laws.FnExactMatchIn', WHERE WHAT IT READS IS OF BULK AT MOST 1048576: true; the input reads as it did. -/
def fnExactMatchInUptoRow : OpenClaim := { program := "ytfcbhcjgjbcjdaadoor", sum := "bb64d4125e77f0a93d9c329d1a7cac8900ad6dfe066eb6faec6770491ddbf047", func := "loop.example/matchpolys/laws.FnExactMatchIn", spec := "fnExactMatchIn", unfollowed := true, recurses := true, named := ["math/bits.deBruijn32tab", "math/bits.deBruijn64tab"], apart := false, laid := [("math/bits.deBruijn32tab", laid_math_bits_deBruijn32tab), ("math/bits.deBruijn64tab", laid_math_bits_deBruijn64tab)], narrowed := true }
def FnExactMatchInUptoSaid : Prop := fnExactMatchInUptoRow.holds Tryd.pinned (OpenSpec.upto fnExactMatchInSpec)

/-- 'laws.FnExactMatchMissed', WHERE WHAT IT READS IS OF BULK AT MOST 1048576: true; the input reads as it did. -/
def fnExactMatchMissedUptoRow : OpenClaim := { program := "ytfcbhcjgjbcjdaadoor", sum := "bb64d4125e77f0a93d9c329d1a7cac8900ad6dfe066eb6faec6770491ddbf047", func := "loop.example/matchpolys/laws.FnExactMatchMissed", spec := "fnExactMatchMissed", unfollowed := true, recurses := true, named := ["math/bits.deBruijn32tab", "math/bits.deBruijn64tab"], apart := false, laid := [("math/bits.deBruijn32tab", laid_math_bits_deBruijn32tab), ("math/bits.deBruijn64tab", laid_math_bits_deBruijn64tab)], narrowed := true }
def FnExactMatchMissedUptoSaid : Prop := fnExactMatchMissedUptoRow.holds Tryd.pinned (OpenSpec.upto fnExactMatchMissedSpec)

/-- 'laws.FnExactMatchFull', WHERE WHAT IT READS IS OF BULK AT MOST 1048576: true; the input reads as it did. -/
def fnExactMatchFullUptoRow : OpenClaim := { program := "ytfcbhcjgjbcjdaadoor", sum := "bb64d4125e77f0a93d9c329d1a7cac8900ad6dfe066eb6faec6770491ddbf047", func := "loop.example/matchpolys/laws.FnExactMatchFull", spec := "fnExactMatchFull", unfollowed := true, recurses := true, named := ["math/bits.deBruijn32tab", "math/bits.deBruijn64tab"], apart := false, laid := [("math/bits.deBruijn32tab", laid_math_bits_deBruijn32tab), ("math/bits.deBruijn64tab", laid_math_bits_deBruijn64tab)], narrowed := true }
def FnExactMatchFullUptoSaid : Prop := fnExactMatchFullUptoRow.holds Tryd.pinned (OpenSpec.upto fnExactMatchFullSpec)

/-- 'laws.FnExactMatchFirst', WHERE WHAT IT READS IS OF BULK AT MOST 1048576: true; the input reads as it did. -/
def fnExactMatchFirstUptoRow : OpenClaim := { program := "ytfcbhcjgjbcjdaadoor", sum := "bb64d4125e77f0a93d9c329d1a7cac8900ad6dfe066eb6faec6770491ddbf047", func := "loop.example/matchpolys/laws.FnExactMatchFirst", spec := "fnExactMatchFirst", unfollowed := true, recurses := true, named := ["math/bits.deBruijn32tab", "math/bits.deBruijn64tab"], apart := false, laid := [("math/bits.deBruijn32tab", laid_math_bits_deBruijn32tab), ("math/bits.deBruijn64tab", laid_math_bits_deBruijn64tab)], narrowed := true }
def FnExactMatchFirstUptoSaid : Prop := fnExactMatchFirstUptoRow.holds Tryd.pinned (OpenSpec.upto fnExactMatchFirstSpec)

end Rows
end Go.Proofs.YtfcbhcjgjbcjdaaDoor
