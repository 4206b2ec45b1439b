/-
  NARROWER THAN 'FOR EVERY INPUT', by the rows' own cells (each row's printed sentence says how): FnExactCostNarrow: laid · FnExactCostPrices: laid · FnExactCostHalf: laid · FnCosts: laid · FnCostOf: laid · FnFit: laid · FnCostTurned: laid · FnMore: laid · FnNarrow: laid · FnLeastCost: laid · FnPrices: laid · FnExactTableFits: laid.
  DERIVED. THE GIVEN ROWS OF THIS SEAT. 12 by the template 'for every input the law returns true; each argument reads behind the call as it read before'; 0 by the template 'total and deterministic' (their statements: YtjbgjebbfkhidabDoorTotals.lean).
  GIVEN WITH THE SEED: the statements are not yours to turn. If you find one false, say at which input.
  Laid BY PROGRAM, IN A SANDBOX (cutbox-rows.mjs): the forced cells as the released guide's own fill.sh prints them over the translation d1560140d4326629… (all of the seat's roots in one cut). By AI agents, Wed Nov 11 2026. No macro, syntax, notation, axiom, sorry.
-/
import Derived.Test.YtjbgjebbfkhidabDoorChecked
import GoSem.Claim
import GoSem.ClaimJoined
import GoSem.ClaimMapViews
import Derived.JoinedTies
import Derived.KernelRfl
namespace Go.Proofs.YtjbgjebbfkhidabDoor
/- THE CELL 'sum', in the pinned program and in every row, IS THE sha256 OF THE DUMP (.gsa) THAT YtjbgjebbfkhidabDoorProg.lean LOADS. Nothing in Lean hashes anything: it is a label: what it is worth is what the hold of that sum in a sandbox is worth. -/
noncomputable def Tryd.pinned : Pinned := { name := "ytjbgjebbfkhidabdoor", sum := "d1560140d432662943fefb9f6ab58c17933be02545156583f916301bf930fa50", checked := Tryd.checked }
namespace Rows
def none {H : Type} : Left H := { results := [], args := [] }

/- WHAT THE LISTED PACKAGE-LEVEL VARIABLES READ AS WHEN THE CALL BEGINS. Each datum BY PROGRAM (the guide's laid-datum.mjs) off the statement by which the dump's own 'gosem.cut.vars' lays the variable. In a bare row this is a premise. The card (YtjbgjebbfkhidabDoorCards.lean) ties it to the program's text. -/
def laid_math_bits_deBruijn32tab {H : Type} : DataW H := .agg [.lit (.int .u8 0), .lit (.int .u8 1), .lit (.int .u8 28), .lit (.int .u8 2), .lit (.int .u8 29), .lit (.int .u8 14), .lit (.int .u8 24), .lit (.int .u8 3), .lit (.int .u8 30), .lit (.int .u8 22), .lit (.int .u8 20), .lit (.int .u8 15), .lit (.int .u8 25), .lit (.int .u8 17), .lit (.int .u8 4), .lit (.int .u8 8), .lit (.int .u8 31), .lit (.int .u8 27), .lit (.int .u8 13), .lit (.int .u8 23), .lit (.int .u8 21), .lit (.int .u8 19), .lit (.int .u8 16), .lit (.int .u8 7), .lit (.int .u8 26), .lit (.int .u8 12), .lit (.int .u8 18), .lit (.int .u8 6), .lit (.int .u8 11), .lit (.int .u8 5), .lit (.int .u8 10), .lit (.int .u8 9)]
def laid_math_bits_deBruijn64tab {H : Type} : DataW H := .agg [.lit (.int .u8 0), .lit (.int .u8 1), .lit (.int .u8 56), .lit (.int .u8 2), .lit (.int .u8 57), .lit (.int .u8 49), .lit (.int .u8 28), .lit (.int .u8 3), .lit (.int .u8 61), .lit (.int .u8 58), .lit (.int .u8 42), .lit (.int .u8 50), .lit (.int .u8 38), .lit (.int .u8 29), .lit (.int .u8 17), .lit (.int .u8 4), .lit (.int .u8 62), .lit (.int .u8 47), .lit (.int .u8 59), .lit (.int .u8 36), .lit (.int .u8 45), .lit (.int .u8 43), .lit (.int .u8 51), .lit (.int .u8 22), .lit (.int .u8 53), .lit (.int .u8 39), .lit (.int .u8 33), .lit (.int .u8 30), .lit (.int .u8 24), .lit (.int .u8 18), .lit (.int .u8 12), .lit (.int .u8 5), .lit (.int .u8 63), .lit (.int .u8 55), .lit (.int .u8 48), .lit (.int .u8 27), .lit (.int .u8 60), .lit (.int .u8 41), .lit (.int .u8 37), .lit (.int .u8 16), .lit (.int .u8 46), .lit (.int .u8 35), .lit (.int .u8 44), .lit (.int .u8 21), .lit (.int .u8 52), .lit (.int .u8 32), .lit (.int .u8 23), .lit (.int .u8 11), .lit (.int .u8 54), .lit (.int .u8 26), .lit (.int .u8 40), .lit (.int .u8 15), .lit (.int .u8 34), .lit (.int .u8 20), .lit (.int .u8 31), .lit (.int .u8 10), .lit (.int .u8 25), .lit (.int .u8 14), .lit (.int .u8 19), .lit (.int .u8 9), .lit (.int .u8 13), .lit (.int .u8 8), .lit (.int .u8 7), .lit (.int .u8 6)]

/-- 'laws.FnExactCostNarrow': WHATEVER THE INPUT: true; the input reads as it did. -/
def fnExactCostNarrowSpec : ChangeSpec := { name := "fnExactCostNarrow", fn := fun _ => fun
  | [d] => { results := [.lit (.bool true)], args := [d] }
  | _ => none }
def fnExactCostNarrowRow : OpenClaim := { program := "ytjbgjebbfkhidabdoor", sum := "d1560140d432662943fefb9f6ab58c17933be02545156583f916301bf930fa50", func := "loop.example/matchpolys/laws.FnExactCostNarrow", spec := "fnExactCostNarrow", unfollowed := true, recurses := true, named := ["math/bits.deBruijn32tab", "math/bits.deBruijn64tab"], apart := false, laid := [("math/bits.deBruijn32tab", laid_math_bits_deBruijn32tab), ("math/bits.deBruijn64tab", laid_math_bits_deBruijn64tab)] }
def FnExactCostNarrowSaid : Prop := fnExactCostNarrowRow.holds Tryd.pinned (OpenSpec.ofChange fnExactCostNarrowSpec)

/-- ITS FALSE NEIGHBOUR: 'it returns false'. Refute it at one input. -/
def fnExactCostNarrowWrong : ChangeSpec := { name := "fnExactCostNarrow", fn := fun _ => fun
  | [d] => { results := [.lit (.bool false)], args := [d] }
  | _ => none }
def FnExactCostNarrowWrongFalsely : Prop := fnExactCostNarrowRow.holds Tryd.pinned (OpenSpec.ofChange fnExactCostNarrowWrong)

/-- 'laws.FnExactCostPrices': WHATEVER THE INPUT: true; the input reads as it did. -/
def fnExactCostPricesSpec : ChangeSpec := { name := "fnExactCostPrices", fn := fun _ => fun
  | [d] => { results := [.lit (.bool true)], args := [d] }
  | _ => none }
def fnExactCostPricesRow : OpenClaim := { program := "ytjbgjebbfkhidabdoor", sum := "d1560140d432662943fefb9f6ab58c17933be02545156583f916301bf930fa50", func := "loop.example/matchpolys/laws.FnExactCostPrices", spec := "fnExactCostPrices", unfollowed := true, recurses := true, named := ["math/bits.deBruijn32tab", "math/bits.deBruijn64tab"], apart := false, laid := [("math/bits.deBruijn32tab", laid_math_bits_deBruijn32tab), ("math/bits.deBruijn64tab", laid_math_bits_deBruijn64tab)] }
def FnExactCostPricesSaid : Prop := fnExactCostPricesRow.holds Tryd.pinned (OpenSpec.ofChange fnExactCostPricesSpec)

/-- ITS FALSE NEIGHBOUR: 'it returns false'. Refute it at one input. -/
def fnExactCostPricesWrong : ChangeSpec := { name := "fnExactCostPrices", fn := fun _ => fun
  | [d] => { results := [.lit (.bool false)], args := [d] }
  | _ => none }
def FnExactCostPricesWrongFalsely : Prop := fnExactCostPricesRow.holds Tryd.pinned (OpenSpec.ofChange fnExactCostPricesWrong)

/-- 'laws.FnExactCostHalf': WHATEVER THE INPUT: true; the input reads as it did. -/
def fnExactCostHalfSpec : ChangeSpec := { name := "fnExactCostHalf", fn := fun _ => fun
  | [d] => { results := [.lit (.bool true)], args := [d] }
  | _ => none }
def fnExactCostHalfRow : OpenClaim := { program := "ytjbgjebbfkhidabdoor", sum := "d1560140d432662943fefb9f6ab58c17933be02545156583f916301bf930fa50", func := "loop.example/matchpolys/laws.FnExactCostHalf", spec := "fnExactCostHalf", unfollowed := true, recurses := true, named := ["math/bits.deBruijn32tab", "math/bits.deBruijn64tab"], apart := false, laid := [("math/bits.deBruijn32tab", laid_math_bits_deBruijn32tab), ("math/bits.deBruijn64tab", laid_math_bits_deBruijn64tab)] }
def FnExactCostHalfSaid : Prop := fnExactCostHalfRow.holds Tryd.pinned (OpenSpec.ofChange fnExactCostHalfSpec)

/-- ITS FALSE NEIGHBOUR: 'it returns false'. Refute it at one input. -/
def fnExactCostHalfWrong : ChangeSpec := { name := "fnExactCostHalf", fn := fun _ => fun
  | [d] => { results := [.lit (.bool false)], args := [d] }
  | _ => none }
def FnExactCostHalfWrongFalsely : Prop := fnExactCostHalfRow.holds Tryd.pinned (OpenSpec.ofChange fnExactCostHalfWrong)

/-- 'laws.FnCosts': WHATEVER THE INPUT: true; the input reads as it did. -/
def fnCostsSpec : ChangeSpec := { name := "fnCosts", fn := fun _ => fun
  | [d] => { results := [.lit (.bool true)], args := [d] }
  | _ => none }
def fnCostsRow : OpenClaim := { program := "ytjbgjebbfkhidabdoor", sum := "d1560140d432662943fefb9f6ab58c17933be02545156583f916301bf930fa50", func := "loop.example/matchpolys/laws.FnCosts", spec := "fnCosts", unfollowed := true, recurses := true, named := ["math/bits.deBruijn32tab", "math/bits.deBruijn64tab"], apart := false, laid := [("math/bits.deBruijn32tab", laid_math_bits_deBruijn32tab), ("math/bits.deBruijn64tab", laid_math_bits_deBruijn64tab)] }
def FnCostsSaid : Prop := fnCostsRow.holds Tryd.pinned (OpenSpec.ofChange fnCostsSpec)

/-- ITS FALSE NEIGHBOUR: 'it returns false'. Refute it at one input. -/
def fnCostsWrong : ChangeSpec := { name := "fnCosts", fn := fun _ => fun
  | [d] => { results := [.lit (.bool false)], args := [d] }
  | _ => none }
def FnCostsWrongFalsely : Prop := fnCostsRow.holds Tryd.pinned (OpenSpec.ofChange fnCostsWrong)

/-- 'laws.FnCostOf': WHATEVER THE INPUT: true; the input reads as it did. -/
def fnCostOfSpec : ChangeSpec := { name := "fnCostOf", fn := fun _ => fun
  | [d] => { results := [.lit (.bool true)], args := [d] }
  | _ => none }
def fnCostOfRow : OpenClaim := { program := "ytjbgjebbfkhidabdoor", sum := "d1560140d432662943fefb9f6ab58c17933be02545156583f916301bf930fa50", func := "loop.example/matchpolys/laws.FnCostOf", spec := "fnCostOf", unfollowed := true, recurses := true, named := ["math/bits.deBruijn32tab", "math/bits.deBruijn64tab"], apart := false, laid := [("math/bits.deBruijn32tab", laid_math_bits_deBruijn32tab), ("math/bits.deBruijn64tab", laid_math_bits_deBruijn64tab)] }
def FnCostOfSaid : Prop := fnCostOfRow.holds Tryd.pinned (OpenSpec.ofChange fnCostOfSpec)

/-- ITS FALSE NEIGHBOUR: 'it returns false'. Refute it at one input. -/
def fnCostOfWrong : ChangeSpec := { name := "fnCostOf", fn := fun _ => fun
  | [d] => { results := [.lit (.bool false)], args := [d] }
  | _ => none }
def FnCostOfWrongFalsely : Prop := fnCostOfRow.holds Tryd.pinned (OpenSpec.ofChange fnCostOfWrong)

/-- 'laws.FnFit': WHATEVER THE INPUT: true; the input reads as it did. -/
def fnFitSpec : ChangeSpec := { name := "fnFit", fn := fun _ => fun
  | [d] => { results := [.lit (.bool true)], args := [d] }
  | _ => none }
def fnFitRow : OpenClaim := { program := "ytjbgjebbfkhidabdoor", sum := "d1560140d432662943fefb9f6ab58c17933be02545156583f916301bf930fa50", func := "loop.example/matchpolys/laws.FnFit", spec := "fnFit", unfollowed := true, recurses := true, named := ["math/bits.deBruijn32tab", "math/bits.deBruijn64tab"], apart := false, laid := [("math/bits.deBruijn32tab", laid_math_bits_deBruijn32tab), ("math/bits.deBruijn64tab", laid_math_bits_deBruijn64tab)] }
def FnFitSaid : Prop := fnFitRow.holds Tryd.pinned (OpenSpec.ofChange fnFitSpec)

/-- ITS FALSE NEIGHBOUR: 'it returns false'. Refute it at one input. -/
def fnFitWrong : ChangeSpec := { name := "fnFit", fn := fun _ => fun
  | [d] => { results := [.lit (.bool false)], args := [d] }
  | _ => none }
def FnFitWrongFalsely : Prop := fnFitRow.holds Tryd.pinned (OpenSpec.ofChange fnFitWrong)

/-- 'laws.FnCostTurned': WHATEVER THE INPUT: true; the input reads as it did. -/
def fnCostTurnedSpec : ChangeSpec := { name := "fnCostTurned", fn := fun _ => fun
  | [d] => { results := [.lit (.bool true)], args := [d] }
  | _ => none }
def fnCostTurnedRow : OpenClaim := { program := "ytjbgjebbfkhidabdoor", sum := "d1560140d432662943fefb9f6ab58c17933be02545156583f916301bf930fa50", func := "loop.example/matchpolys/laws.FnCostTurned", spec := "fnCostTurned", unfollowed := true, recurses := true, named := ["math/bits.deBruijn32tab", "math/bits.deBruijn64tab"], apart := false, laid := [("math/bits.deBruijn32tab", laid_math_bits_deBruijn32tab), ("math/bits.deBruijn64tab", laid_math_bits_deBruijn64tab)] }
def FnCostTurnedSaid : Prop := fnCostTurnedRow.holds Tryd.pinned (OpenSpec.ofChange fnCostTurnedSpec)

/-- ITS FALSE NEIGHBOUR: 'it returns false'. Refute it at one input. -/
def fnCostTurnedWrong : ChangeSpec := { name := "fnCostTurned", fn := fun _ => fun
  | [d] => { results := [.lit (.bool false)], args := [d] }
  | _ => none }
def FnCostTurnedWrongFalsely : Prop := fnCostTurnedRow.holds Tryd.pinned (OpenSpec.ofChange fnCostTurnedWrong)

/-- 'laws.FnMore': WHATEVER THE INPUT: true; the input reads as it did. -/
def fnMoreSpec : ChangeSpec := { name := "fnMore", fn := fun _ => fun
  | [d] => { results := [.lit (.bool true)], args := [d] }
  | _ => none }
def fnMoreRow : OpenClaim := { program := "ytjbgjebbfkhidabdoor", sum := "d1560140d432662943fefb9f6ab58c17933be02545156583f916301bf930fa50", func := "loop.example/matchpolys/laws.FnMore", spec := "fnMore", unfollowed := true, recurses := true, named := ["math/bits.deBruijn32tab", "math/bits.deBruijn64tab"], apart := false, laid := [("math/bits.deBruijn32tab", laid_math_bits_deBruijn32tab), ("math/bits.deBruijn64tab", laid_math_bits_deBruijn64tab)] }
def FnMoreSaid : Prop := fnMoreRow.holds Tryd.pinned (OpenSpec.ofChange fnMoreSpec)

/-- ITS FALSE NEIGHBOUR: 'it returns false'. Refute it at one input. -/
def fnMoreWrong : ChangeSpec := { name := "fnMore", fn := fun _ => fun
  | [d] => { results := [.lit (.bool false)], args := [d] }
  | _ => none }
def FnMoreWrongFalsely : Prop := fnMoreRow.holds Tryd.pinned (OpenSpec.ofChange fnMoreWrong)

/-- 'laws.FnNarrow': WHATEVER THE INPUT: true; the input reads as it did. -/
def fnNarrowSpec : ChangeSpec := { name := "fnNarrow", fn := fun _ => fun
  | [d] => { results := [.lit (.bool true)], args := [d] }
  | _ => none }
def fnNarrowRow : OpenClaim := { program := "ytjbgjebbfkhidabdoor", sum := "d1560140d432662943fefb9f6ab58c17933be02545156583f916301bf930fa50", func := "loop.example/matchpolys/laws.FnNarrow", spec := "fnNarrow", unfollowed := true, recurses := true, named := ["math/bits.deBruijn32tab", "math/bits.deBruijn64tab"], apart := false, laid := [("math/bits.deBruijn32tab", laid_math_bits_deBruijn32tab), ("math/bits.deBruijn64tab", laid_math_bits_deBruijn64tab)] }
def FnNarrowSaid : Prop := fnNarrowRow.holds Tryd.pinned (OpenSpec.ofChange fnNarrowSpec)

/-- ITS FALSE NEIGHBOUR: 'it returns false'. Refute it at one input. -/
def fnNarrowWrong : ChangeSpec := { name := "fnNarrow", fn := fun _ => fun
  | [d] => { results := [.lit (.bool false)], args := [d] }
  | _ => none }
def FnNarrowWrongFalsely : Prop := fnNarrowRow.holds Tryd.pinned (OpenSpec.ofChange fnNarrowWrong)

/-- 'laws.FnLeastCost': WHATEVER THE INPUT: true; the input reads as it did. -/
def fnLeastCostSpec : ChangeSpec := { name := "fnLeastCost", fn := fun _ => fun
  | [d] => { results := [.lit (.bool true)], args := [d] }
  | _ => none }
def fnLeastCostRow : OpenClaim := { program := "ytjbgjebbfkhidabdoor", sum := "d1560140d432662943fefb9f6ab58c17933be02545156583f916301bf930fa50", func := "loop.example/matchpolys/laws.FnLeastCost", spec := "fnLeastCost", unfollowed := true, recurses := true, named := ["math/bits.deBruijn32tab", "math/bits.deBruijn64tab"], apart := false, laid := [("math/bits.deBruijn32tab", laid_math_bits_deBruijn32tab), ("math/bits.deBruijn64tab", laid_math_bits_deBruijn64tab)] }
def FnLeastCostSaid : Prop := fnLeastCostRow.holds Tryd.pinned (OpenSpec.ofChange fnLeastCostSpec)

/-- ITS FALSE NEIGHBOUR: 'it returns false'. Refute it at one input. -/
def fnLeastCostWrong : ChangeSpec := { name := "fnLeastCost", fn := fun _ => fun
  | [d] => { results := [.lit (.bool false)], args := [d] }
  | _ => none }
def FnLeastCostWrongFalsely : Prop := fnLeastCostRow.holds Tryd.pinned (OpenSpec.ofChange fnLeastCostWrong)

/-- 'laws.FnPrices': WHATEVER THE INPUT: true; the input reads as it did. -/
def fnPricesSpec : ChangeSpec := { name := "fnPrices", fn := fun _ => fun
  | [d] => { results := [.lit (.bool true)], args := [d] }
  | _ => none }
def fnPricesRow : OpenClaim := { program := "ytjbgjebbfkhidabdoor", sum := "d1560140d432662943fefb9f6ab58c17933be02545156583f916301bf930fa50", func := "loop.example/matchpolys/laws.FnPrices", spec := "fnPrices", unfollowed := true, recurses := true, named := ["math/bits.deBruijn32tab", "math/bits.deBruijn64tab"], apart := false, laid := [("math/bits.deBruijn32tab", laid_math_bits_deBruijn32tab), ("math/bits.deBruijn64tab", laid_math_bits_deBruijn64tab)] }
def FnPricesSaid : Prop := fnPricesRow.holds Tryd.pinned (OpenSpec.ofChange fnPricesSpec)

/-- ITS FALSE NEIGHBOUR: 'it returns false'. Refute it at one input. -/
def fnPricesWrong : ChangeSpec := { name := "fnPrices", fn := fun _ => fun
  | [d] => { results := [.lit (.bool false)], args := [d] }
  | _ => none }
def FnPricesWrongFalsely : Prop := fnPricesRow.holds Tryd.pinned (OpenSpec.ofChange fnPricesWrong)

/-- 'laws.FnExactTableFits': WHATEVER THE INPUT: true; the input reads as it did. -/
def fnExactTableFitsSpec : ChangeSpec := { name := "fnExactTableFits", fn := fun _ => fun
  | [d1, d2] => { results := [.lit (.bool true)], args := [d1, d2] }
  | _ => none }
def fnExactTableFitsRow : OpenClaim := { program := "ytjbgjebbfkhidabdoor", sum := "d1560140d432662943fefb9f6ab58c17933be02545156583f916301bf930fa50", func := "loop.example/matchpolys/laws.FnExactTableFits", spec := "fnExactTableFits", unfollowed := true, recurses := true, named := ["math/bits.deBruijn32tab", "math/bits.deBruijn64tab"], apart := false, laid := [("math/bits.deBruijn32tab", laid_math_bits_deBruijn32tab), ("math/bits.deBruijn64tab", laid_math_bits_deBruijn64tab)] }
def FnExactTableFitsSaid : Prop := fnExactTableFitsRow.holds Tryd.pinned (OpenSpec.ofChange fnExactTableFitsSpec)

/-- ITS FALSE NEIGHBOUR: 'it returns false'. Refute it at one input. -/
def fnExactTableFitsWrong : ChangeSpec := { name := "fnExactTableFits", fn := fun _ => fun
  | [d1, d2] => { results := [.lit (.bool false)], args := [d1, d2] }
  | _ => none }
def FnExactTableFitsWrongFalsely : Prop := fnExactTableFitsRow.holds Tryd.pinned (OpenSpec.ofChange fnExactTableFitsWrong)

/- THE SECOND FORM. 'bulk': how many values and letters a reading holds, each counted each time it is reached (what is shared counts as often as it is met; a slice's spare places count too). A statement '..UptoSaid' is the law's where the arguments, and the package variables that the reading takes, are together of bulk at most 1048576: NARROWER than '..Said'. Prove '..Said' where nothing that the law and all that it calls make is longer than what came in: it says more and counts as full. Else prove '..UptoSaid'. A law counts once. -/
mutual
def uptoBulk {H : Type} : DataW H → Nat
  | .lit (.string bytes) => bytes.length + 1
  | .lit _ => 1
  | .nil => 1
  | .ptr d => uptoBulk d + 1
  | .slice elems spare => uptoBulkAll elems + uptoBulkAll spare + 1
  | .agg parts => uptoBulkAll parts + 1
  | .iface _ d => uptoBulk d + 1
  | .map entries => uptoBulkEntries entries + 1
  | .held _ => 1
def uptoBulkAll {H : Type} : List (DataW H) → Nat
  | [] => 0
  | d :: r => uptoBulk d + uptoBulkAll r
def uptoBulkEntries {H : Type} : List (Lit × DataW H) → Nat
  | [] => 0
  | x :: r => uptoBulkEntry x + uptoBulkEntries r
def uptoBulkEntry {H : Type} : Lit × DataW H → Nat
  | (.string bytes, d) => bytes.length + uptoBulk d + 1
  | (_, d) => uptoBulk d + 1
 end
def uptoSmall : (H : Type) → List (DataW H) → Bool := fun _ ds => decide (uptoBulkAll ds ≤ 1048576)
def OpenSpec.upto (s : _root_.Go.ChangeSpec) : _root_.Go.OpenSpec := { _root_.Go.OpenSpec.ofChange s with cond := some uptoSmall }

/-- 'laws.FnExactCostNarrow', WHERE WHAT IT READS IS OF BULK AT MOST 1048576: true; the input reads as it did. -/
def fnExactCostNarrowUptoRow : OpenClaim := { program := "ytjbgjebbfkhidabdoor", sum := "d1560140d432662943fefb9f6ab58c17933be02545156583f916301bf930fa50", func := "loop.example/matchpolys/laws.FnExactCostNarrow", spec := "fnExactCostNarrow", unfollowed := true, recurses := true, named := ["math/bits.deBruijn32tab", "math/bits.deBruijn64tab"], apart := false, laid := [("math/bits.deBruijn32tab", laid_math_bits_deBruijn32tab), ("math/bits.deBruijn64tab", laid_math_bits_deBruijn64tab)], narrowed := true }
def FnExactCostNarrowUptoSaid : Prop := fnExactCostNarrowUptoRow.holds Tryd.pinned (OpenSpec.upto fnExactCostNarrowSpec)

/-- 'laws.FnExactCostPrices', WHERE WHAT IT READS IS OF BULK AT MOST 1048576: true; the input reads as it did. -/
def fnExactCostPricesUptoRow : OpenClaim := { program := "ytjbgjebbfkhidabdoor", sum := "d1560140d432662943fefb9f6ab58c17933be02545156583f916301bf930fa50", func := "loop.example/matchpolys/laws.FnExactCostPrices", spec := "fnExactCostPrices", unfollowed := true, recurses := true, named := ["math/bits.deBruijn32tab", "math/bits.deBruijn64tab"], apart := false, laid := [("math/bits.deBruijn32tab", laid_math_bits_deBruijn32tab), ("math/bits.deBruijn64tab", laid_math_bits_deBruijn64tab)], narrowed := true }
def FnExactCostPricesUptoSaid : Prop := fnExactCostPricesUptoRow.holds Tryd.pinned (OpenSpec.upto fnExactCostPricesSpec)

/-- 'laws.FnExactCostHalf', WHERE WHAT IT READS IS OF BULK AT MOST 1048576: true; the input reads as it did. -/
def fnExactCostHalfUptoRow : OpenClaim := { program := "ytjbgjebbfkhidabdoor", sum := "d1560140d432662943fefb9f6ab58c17933be02545156583f916301bf930fa50", func := "loop.example/matchpolys/laws.FnExactCostHalf", spec := "fnExactCostHalf", unfollowed := true, recurses := true, named := ["math/bits.deBruijn32tab", "math/bits.deBruijn64tab"], apart := false, laid := [("math/bits.deBruijn32tab", laid_math_bits_deBruijn32tab), ("math/bits.deBruijn64tab", laid_math_bits_deBruijn64tab)], narrowed := true }
def FnExactCostHalfUptoSaid : Prop := fnExactCostHalfUptoRow.holds Tryd.pinned (OpenSpec.upto fnExactCostHalfSpec)

/-- 'laws.FnCosts', WHERE WHAT IT READS IS OF BULK AT MOST 1048576: true; the input reads as it did. -/
def fnCostsUptoRow : OpenClaim := { program := "ytjbgjebbfkhidabdoor", sum := "d1560140d432662943fefb9f6ab58c17933be02545156583f916301bf930fa50", func := "loop.example/matchpolys/laws.FnCosts", spec := "fnCosts", unfollowed := true, recurses := true, named := ["math/bits.deBruijn32tab", "math/bits.deBruijn64tab"], apart := false, laid := [("math/bits.deBruijn32tab", laid_math_bits_deBruijn32tab), ("math/bits.deBruijn64tab", laid_math_bits_deBruijn64tab)], narrowed := true }
def FnCostsUptoSaid : Prop := fnCostsUptoRow.holds Tryd.pinned (OpenSpec.upto fnCostsSpec)

/-- 'laws.FnCostOf', WHERE WHAT IT READS IS OF BULK AT MOST 1048576: true; the input reads as it did. -/
def fnCostOfUptoRow : OpenClaim := { program := "ytjbgjebbfkhidabdoor", sum := "d1560140d432662943fefb9f6ab58c17933be02545156583f916301bf930fa50", func := "loop.example/matchpolys/laws.FnCostOf", spec := "fnCostOf", unfollowed := true, recurses := true, named := ["math/bits.deBruijn32tab", "math/bits.deBruijn64tab"], apart := false, laid := [("math/bits.deBruijn32tab", laid_math_bits_deBruijn32tab), ("math/bits.deBruijn64tab", laid_math_bits_deBruijn64tab)], narrowed := true }
def FnCostOfUptoSaid : Prop := fnCostOfUptoRow.holds Tryd.pinned (OpenSpec.upto fnCostOfSpec)

/-- 'laws.FnFit', WHERE WHAT IT READS IS OF BULK AT MOST 1048576: true; the input reads as it did. -/
def fnFitUptoRow : OpenClaim := { program := "ytjbgjebbfkhidabdoor", sum := "d1560140d432662943fefb9f6ab58c17933be02545156583f916301bf930fa50", func := "loop.example/matchpolys/laws.FnFit", spec := "fnFit", unfollowed := true, recurses := true, named := ["math/bits.deBruijn32tab", "math/bits.deBruijn64tab"], apart := false, laid := [("math/bits.deBruijn32tab", laid_math_bits_deBruijn32tab), ("math/bits.deBruijn64tab", laid_math_bits_deBruijn64tab)], narrowed := true }
def FnFitUptoSaid : Prop := fnFitUptoRow.holds Tryd.pinned (OpenSpec.upto fnFitSpec)

/-- 'laws.FnCostTurned', WHERE WHAT IT READS IS OF BULK AT MOST 1048576: true; the input reads as it did. -/
def fnCostTurnedUptoRow : OpenClaim := { program := "ytjbgjebbfkhidabdoor", sum := "d1560140d432662943fefb9f6ab58c17933be02545156583f916301bf930fa50", func := "loop.example/matchpolys/laws.FnCostTurned", spec := "fnCostTurned", unfollowed := true, recurses := true, named := ["math/bits.deBruijn32tab", "math/bits.deBruijn64tab"], apart := false, laid := [("math/bits.deBruijn32tab", laid_math_bits_deBruijn32tab), ("math/bits.deBruijn64tab", laid_math_bits_deBruijn64tab)], narrowed := true }
def FnCostTurnedUptoSaid : Prop := fnCostTurnedUptoRow.holds Tryd.pinned (OpenSpec.upto fnCostTurnedSpec)

/-- 'laws.FnMore', WHERE WHAT IT READS IS OF BULK AT MOST 1048576: true; the input reads as it did. -/
def fnMoreUptoRow : OpenClaim := { program := "ytjbgjebbfkhidabdoor", sum := "d1560140d432662943fefb9f6ab58c17933be02545156583f916301bf930fa50", func := "loop.example/matchpolys/laws.FnMore", spec := "fnMore", unfollowed := true, recurses := true, named := ["math/bits.deBruijn32tab", "math/bits.deBruijn64tab"], apart := false, laid := [("math/bits.deBruijn32tab", laid_math_bits_deBruijn32tab), ("math/bits.deBruijn64tab", laid_math_bits_deBruijn64tab)], narrowed := true }
def FnMoreUptoSaid : Prop := fnMoreUptoRow.holds Tryd.pinned (OpenSpec.upto fnMoreSpec)

/-- 'laws.FnNarrow', WHERE WHAT IT READS IS OF BULK AT MOST 1048576: true; the input reads as it did. -/
def fnNarrowUptoRow : OpenClaim := { program := "ytjbgjebbfkhidabdoor", sum := "d1560140d432662943fefb9f6ab58c17933be02545156583f916301bf930fa50", func := "loop.example/matchpolys/laws.FnNarrow", spec := "fnNarrow", unfollowed := true, recurses := true, named := ["math/bits.deBruijn32tab", "math/bits.deBruijn64tab"], apart := false, laid := [("math/bits.deBruijn32tab", laid_math_bits_deBruijn32tab), ("math/bits.deBruijn64tab", laid_math_bits_deBruijn64tab)], narrowed := true }
def FnNarrowUptoSaid : Prop := fnNarrowUptoRow.holds Tryd.pinned (OpenSpec.upto fnNarrowSpec)

/-- 'laws.FnLeastCost', WHERE WHAT IT READS IS OF BULK AT MOST 1048576: true; the input reads as it did. -/
def fnLeastCostUptoRow : OpenClaim := { program := "ytjbgjebbfkhidabdoor", sum := "d1560140d432662943fefb9f6ab58c17933be02545156583f916301bf930fa50", func := "loop.example/matchpolys/laws.FnLeastCost", spec := "fnLeastCost", unfollowed := true, recurses := true, named := ["math/bits.deBruijn32tab", "math/bits.deBruijn64tab"], apart := false, laid := [("math/bits.deBruijn32tab", laid_math_bits_deBruijn32tab), ("math/bits.deBruijn64tab", laid_math_bits_deBruijn64tab)], narrowed := true }
def FnLeastCostUptoSaid : Prop := fnLeastCostUptoRow.holds Tryd.pinned (OpenSpec.upto fnLeastCostSpec)

/-- 'laws.FnPrices', WHERE WHAT IT READS IS OF BULK AT MOST 1048576: true; the input reads as it did. -/
def fnPricesUptoRow : OpenClaim := { program := "ytjbgjebbfkhidabdoor", sum := "d1560140d432662943fefb9f6ab58c17933be02545156583f916301bf930fa50", func := "loop.example/matchpolys/laws.FnPrices", spec := "fnPrices", unfollowed := true, recurses := true, named := ["math/bits.deBruijn32tab", "math/bits.deBruijn64tab"], apart := false, laid := [("math/bits.deBruijn32tab", laid_math_bits_deBruijn32tab), ("math/bits.deBruijn64tab", laid_math_bits_deBruijn64tab)], narrowed := true }
def FnPricesUptoSaid : Prop := fnPricesUptoRow.holds Tryd.pinned (OpenSpec.upto fnPricesSpec)

/-- 'laws.FnExactTableFits', WHERE WHAT IT READS IS OF BULK AT MOST 1048576: true; the input reads as it did. -/
def fnExactTableFitsUptoRow : OpenClaim := { program := "ytjbgjebbfkhidabdoor", sum := "d1560140d432662943fefb9f6ab58c17933be02545156583f916301bf930fa50", func := "loop.example/matchpolys/laws.FnExactTableFits", spec := "fnExactTableFits", unfollowed := true, recurses := true, named := ["math/bits.deBruijn32tab", "math/bits.deBruijn64tab"], apart := false, laid := [("math/bits.deBruijn32tab", laid_math_bits_deBruijn32tab), ("math/bits.deBruijn64tab", laid_math_bits_deBruijn64tab)], narrowed := true }
def FnExactTableFitsUptoSaid : Prop := fnExactTableFitsUptoRow.holds Tryd.pinned (OpenSpec.upto fnExactTableFitsSpec)

end Rows
end Go.Proofs.YtjbgjebbfkhidabDoor
