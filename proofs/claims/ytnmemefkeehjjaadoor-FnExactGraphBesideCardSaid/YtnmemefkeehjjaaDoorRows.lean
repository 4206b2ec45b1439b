/-
  NARROWER THAN 'FOR EVERY INPUT', by the rows' own cells (each row's printed sentence says how): FnExactTableGraph: laid · FnExactCoverThree: laid · FnExactGraphBeside: laid · FnExactMatchIn: laid · FnExactCoverLoss: laid · FnExactMatchAllowed: laid · FnNumbers: laid · FnPolyCut: laid.
  DERIVED. THE GIVEN ROWS OF THIS SEAT. 8 by the template 'for every input the law returns true; each argument reads behind the call as it read before'; 0 by the template 'total and deterministic' (their statements: YtnmemefkeehjjaaDoorTotals.lean).
  GIVEN WITH THE SEED: the statements are not yours to turn. If you find one false, say at which input.
  Laid BY PROGRAM, IN A SANDBOX (cutbox-rows.mjs): the forced cells as the released guide's own fill.sh prints them over the translation 3cb45c4cd36e3664… (all of the seat's roots in one cut). By AI agents, Wed Nov 11 2026. No macro, syntax, notation, axiom, sorry.
-/
import Derived.Test.YtnmemefkeehjjaaDoorChecked
import GoSem.Claim
import GoSem.ClaimJoined
import GoSem.ClaimMapViews
import Derived.JoinedTies
import Derived.KernelRfl
namespace Go.Proofs.YtnmemefkeehjjaaDoor
/- THE CELL 'sum', in the pinned program and in every row, IS THE sha256 OF THE DUMP (.gsa) THAT YtnmemefkeehjjaaDoorProg.lean LOADS. Nothing in Lean hashes anything: it is a label: what it is worth is what the hold of that sum in a sandbox is worth. -/
noncomputable def Tryd.pinned : Pinned := { name := "ytnmemefkeehjjaadoor", sum := "3cb45c4cd36e3664a5950660747f14c695b44aa3b3050177c0e0a3966517c073", checked := Tryd.checked }
namespace Rows
def none {H : Type} : Left H := { results := [], args := [] }

/- WHAT THE LISTED PACKAGE-LEVEL VARIABLES READ AS WHEN THE CALL BEGINS. Each datum BY PROGRAM (the guide's laid-datum.mjs) off the statement by which the dump's own 'gosem.cut.vars' lays the variable. In a bare row this is a premise. The card (YtnmemefkeehjjaaDoorCards.lean) ties it to the program's text. -/
def laid_math_bits_deBruijn32tab {H : Type} : DataW H := .agg [.lit (.int .u8 0), .lit (.int .u8 1), .lit (.int .u8 28), .lit (.int .u8 2), .lit (.int .u8 29), .lit (.int .u8 14), .lit (.int .u8 24), .lit (.int .u8 3), .lit (.int .u8 30), .lit (.int .u8 22), .lit (.int .u8 20), .lit (.int .u8 15), .lit (.int .u8 25), .lit (.int .u8 17), .lit (.int .u8 4), .lit (.int .u8 8), .lit (.int .u8 31), .lit (.int .u8 27), .lit (.int .u8 13), .lit (.int .u8 23), .lit (.int .u8 21), .lit (.int .u8 19), .lit (.int .u8 16), .lit (.int .u8 7), .lit (.int .u8 26), .lit (.int .u8 12), .lit (.int .u8 18), .lit (.int .u8 6), .lit (.int .u8 11), .lit (.int .u8 5), .lit (.int .u8 10), .lit (.int .u8 9)]
def laid_math_bits_deBruijn64tab {H : Type} : DataW H := .agg [.lit (.int .u8 0), .lit (.int .u8 1), .lit (.int .u8 56), .lit (.int .u8 2), .lit (.int .u8 57), .lit (.int .u8 49), .lit (.int .u8 28), .lit (.int .u8 3), .lit (.int .u8 61), .lit (.int .u8 58), .lit (.int .u8 42), .lit (.int .u8 50), .lit (.int .u8 38), .lit (.int .u8 29), .lit (.int .u8 17), .lit (.int .u8 4), .lit (.int .u8 62), .lit (.int .u8 47), .lit (.int .u8 59), .lit (.int .u8 36), .lit (.int .u8 45), .lit (.int .u8 43), .lit (.int .u8 51), .lit (.int .u8 22), .lit (.int .u8 53), .lit (.int .u8 39), .lit (.int .u8 33), .lit (.int .u8 30), .lit (.int .u8 24), .lit (.int .u8 18), .lit (.int .u8 12), .lit (.int .u8 5), .lit (.int .u8 63), .lit (.int .u8 55), .lit (.int .u8 48), .lit (.int .u8 27), .lit (.int .u8 60), .lit (.int .u8 41), .lit (.int .u8 37), .lit (.int .u8 16), .lit (.int .u8 46), .lit (.int .u8 35), .lit (.int .u8 44), .lit (.int .u8 21), .lit (.int .u8 52), .lit (.int .u8 32), .lit (.int .u8 23), .lit (.int .u8 11), .lit (.int .u8 54), .lit (.int .u8 26), .lit (.int .u8 40), .lit (.int .u8 15), .lit (.int .u8 34), .lit (.int .u8 20), .lit (.int .u8 31), .lit (.int .u8 10), .lit (.int .u8 25), .lit (.int .u8 14), .lit (.int .u8 19), .lit (.int .u8 9), .lit (.int .u8 13), .lit (.int .u8 8), .lit (.int .u8 7), .lit (.int .u8 6)]

/-- 'laws.FnExactTableGraph': WHATEVER THE INPUT: true; the input reads as it did. -/
def fnExactTableGraphSpec : ChangeSpec := { name := "fnExactTableGraph", fn := fun _ => fun
  | [d] => { results := [.lit (.bool true)], args := [d] }
  | _ => none }
def fnExactTableGraphRow : OpenClaim := { program := "ytnmemefkeehjjaadoor", sum := "3cb45c4cd36e3664a5950660747f14c695b44aa3b3050177c0e0a3966517c073", func := "loop.example/matchpolys/laws.FnExactTableGraph", spec := "fnExactTableGraph", unfollowed := true, recurses := true, named := ["math/bits.deBruijn32tab", "math/bits.deBruijn64tab"], apart := false, laid := [("math/bits.deBruijn32tab", laid_math_bits_deBruijn32tab), ("math/bits.deBruijn64tab", laid_math_bits_deBruijn64tab)] }
def FnExactTableGraphSaid : Prop := fnExactTableGraphRow.holds Tryd.pinned (OpenSpec.ofChange fnExactTableGraphSpec)

/-- ITS FALSE NEIGHBOUR: 'it returns false'. Refute it at one input. -/
def fnExactTableGraphWrong : ChangeSpec := { name := "fnExactTableGraph", fn := fun _ => fun
  | [d] => { results := [.lit (.bool false)], args := [d] }
  | _ => none }
def FnExactTableGraphWrongFalsely : Prop := fnExactTableGraphRow.holds Tryd.pinned (OpenSpec.ofChange fnExactTableGraphWrong)

/-- 'laws.FnExactCoverThree': WHATEVER THE INPUT: true; the input reads as it did. -/
def fnExactCoverThreeSpec : ChangeSpec := { name := "fnExactCoverThree", fn := fun _ => fun
  | [d] => { results := [.lit (.bool true)], args := [d] }
  | _ => none }
def fnExactCoverThreeRow : OpenClaim := { program := "ytnmemefkeehjjaadoor", sum := "3cb45c4cd36e3664a5950660747f14c695b44aa3b3050177c0e0a3966517c073", func := "loop.example/matchpolys/laws.FnExactCoverThree", spec := "fnExactCoverThree", unfollowed := true, recurses := true, named := ["math/bits.deBruijn32tab", "math/bits.deBruijn64tab"], apart := false, laid := [("math/bits.deBruijn32tab", laid_math_bits_deBruijn32tab), ("math/bits.deBruijn64tab", laid_math_bits_deBruijn64tab)] }
def FnExactCoverThreeSaid : Prop := fnExactCoverThreeRow.holds Tryd.pinned (OpenSpec.ofChange fnExactCoverThreeSpec)

/-- ITS FALSE NEIGHBOUR: 'it returns false'. Refute it at one input. -/
def fnExactCoverThreeWrong : ChangeSpec := { name := "fnExactCoverThree", fn := fun _ => fun
  | [d] => { results := [.lit (.bool false)], args := [d] }
  | _ => none }
def FnExactCoverThreeWrongFalsely : Prop := fnExactCoverThreeRow.holds Tryd.pinned (OpenSpec.ofChange fnExactCoverThreeWrong)

/-- 'laws.FnExactGraphBeside': WHATEVER THE INPUT: true; the input reads as it did. -/
def fnExactGraphBesideSpec : ChangeSpec := { name := "fnExactGraphBeside", fn := fun _ => fun
  | [d1, d2] => { results := [.lit (.bool true)], args := [d1, d2] }
  | _ => none }
def fnExactGraphBesideRow : OpenClaim := { program := "ytnmemefkeehjjaadoor", sum := "3cb45c4cd36e3664a5950660747f14c695b44aa3b3050177c0e0a3966517c073", func := "loop.example/matchpolys/laws.FnExactGraphBeside", spec := "fnExactGraphBeside", unfollowed := true, recurses := true, named := ["math/bits.deBruijn32tab", "math/bits.deBruijn64tab"], apart := false, laid := [("math/bits.deBruijn32tab", laid_math_bits_deBruijn32tab), ("math/bits.deBruijn64tab", laid_math_bits_deBruijn64tab)] }
def FnExactGraphBesideSaid : Prop := fnExactGraphBesideRow.holds Tryd.pinned (OpenSpec.ofChange fnExactGraphBesideSpec)

/-- ITS FALSE NEIGHBOUR: 'it returns false'. Refute it at one input. -/
def fnExactGraphBesideWrong : ChangeSpec := { name := "fnExactGraphBeside", fn := fun _ => fun
  | [d1, d2] => { results := [.lit (.bool false)], args := [d1, d2] }
  | _ => none }
def FnExactGraphBesideWrongFalsely : Prop := fnExactGraphBesideRow.holds Tryd.pinned (OpenSpec.ofChange fnExactGraphBesideWrong)

/-- 'laws.FnExactMatchIn': WHATEVER THE INPUT: true; the input reads as it did. -/
def fnExactMatchInSpec : ChangeSpec := { name := "fnExactMatchIn", fn := fun _ => fun
  | [d1, d2] => { results := [.lit (.bool true)], args := [d1, d2] }
  | _ => none }
def fnExactMatchInRow : OpenClaim := { program := "ytnmemefkeehjjaadoor", sum := "3cb45c4cd36e3664a5950660747f14c695b44aa3b3050177c0e0a3966517c073", func := "loop.example/matchpolys/laws.FnExactMatchIn", spec := "fnExactMatchIn", unfollowed := true, recurses := true, named := ["math/bits.deBruijn32tab", "math/bits.deBruijn64tab"], apart := false, laid := [("math/bits.deBruijn32tab", laid_math_bits_deBruijn32tab), ("math/bits.deBruijn64tab", laid_math_bits_deBruijn64tab)] }
def FnExactMatchInSaid : Prop := fnExactMatchInRow.holds Tryd.pinned (OpenSpec.ofChange fnExactMatchInSpec)

/-- ITS FALSE NEIGHBOUR: 'it returns false'. Refute it at one input. -/
def fnExactMatchInWrong : ChangeSpec := { name := "fnExactMatchIn", fn := fun _ => fun
  | [d1, d2] => { results := [.lit (.bool false)], args := [d1, d2] }
  | _ => none }
def FnExactMatchInWrongFalsely : Prop := fnExactMatchInRow.holds Tryd.pinned (OpenSpec.ofChange fnExactMatchInWrong)

/-- 'laws.FnExactCoverLoss': WHATEVER THE INPUT: true; the input reads as it did. -/
def fnExactCoverLossSpec : ChangeSpec := { name := "fnExactCoverLoss", fn := fun _ => fun
  | [d1, d2] => { results := [.lit (.bool true)], args := [d1, d2] }
  | _ => none }
def fnExactCoverLossRow : OpenClaim := { program := "ytnmemefkeehjjaadoor", sum := "3cb45c4cd36e3664a5950660747f14c695b44aa3b3050177c0e0a3966517c073", func := "loop.example/matchpolys/laws.FnExactCoverLoss", spec := "fnExactCoverLoss", unfollowed := true, recurses := true, named := ["math/bits.deBruijn32tab", "math/bits.deBruijn64tab"], apart := false, laid := [("math/bits.deBruijn32tab", laid_math_bits_deBruijn32tab), ("math/bits.deBruijn64tab", laid_math_bits_deBruijn64tab)] }
def FnExactCoverLossSaid : Prop := fnExactCoverLossRow.holds Tryd.pinned (OpenSpec.ofChange fnExactCoverLossSpec)

/-- ITS FALSE NEIGHBOUR: 'it returns false'. Refute it at one input. -/
def fnExactCoverLossWrong : ChangeSpec := { name := "fnExactCoverLoss", fn := fun _ => fun
  | [d1, d2] => { results := [.lit (.bool false)], args := [d1, d2] }
  | _ => none }
def FnExactCoverLossWrongFalsely : Prop := fnExactCoverLossRow.holds Tryd.pinned (OpenSpec.ofChange fnExactCoverLossWrong)

/-- 'laws.FnExactMatchAllowed': WHATEVER THE INPUT: true; the input reads as it did. -/
def fnExactMatchAllowedSpec : ChangeSpec := { name := "fnExactMatchAllowed", fn := fun _ => fun
  | [d] => { results := [.lit (.bool true)], args := [d] }
  | _ => none }
def fnExactMatchAllowedRow : OpenClaim := { program := "ytnmemefkeehjjaadoor", sum := "3cb45c4cd36e3664a5950660747f14c695b44aa3b3050177c0e0a3966517c073", func := "loop.example/matchpolys/laws.FnExactMatchAllowed", spec := "fnExactMatchAllowed", unfollowed := true, recurses := true, named := ["math/bits.deBruijn32tab", "math/bits.deBruijn64tab"], apart := false, laid := [("math/bits.deBruijn32tab", laid_math_bits_deBruijn32tab), ("math/bits.deBruijn64tab", laid_math_bits_deBruijn64tab)] }
def FnExactMatchAllowedSaid : Prop := fnExactMatchAllowedRow.holds Tryd.pinned (OpenSpec.ofChange fnExactMatchAllowedSpec)

/-- ITS FALSE NEIGHBOUR: 'it returns false'. Refute it at one input. -/
def fnExactMatchAllowedWrong : ChangeSpec := { name := "fnExactMatchAllowed", fn := fun _ => fun
  | [d] => { results := [.lit (.bool false)], args := [d] }
  | _ => none }
def FnExactMatchAllowedWrongFalsely : Prop := fnExactMatchAllowedRow.holds Tryd.pinned (OpenSpec.ofChange fnExactMatchAllowedWrong)

/-- 'laws.FnNumbers': WHATEVER THE INPUT: true; the input reads as it did. -/
def fnNumbersSpec : ChangeSpec := { name := "fnNumbers", fn := fun _ => fun
  | [d] => { results := [.lit (.bool true)], args := [d] }
  | _ => none }
def fnNumbersRow : OpenClaim := { program := "ytnmemefkeehjjaadoor", sum := "3cb45c4cd36e3664a5950660747f14c695b44aa3b3050177c0e0a3966517c073", func := "loop.example/matchpolys/laws.FnNumbers", spec := "fnNumbers", unfollowed := true, recurses := true, named := ["math/bits.deBruijn32tab", "math/bits.deBruijn64tab"], apart := false, laid := [("math/bits.deBruijn32tab", laid_math_bits_deBruijn32tab), ("math/bits.deBruijn64tab", laid_math_bits_deBruijn64tab)] }
def FnNumbersSaid : Prop := fnNumbersRow.holds Tryd.pinned (OpenSpec.ofChange fnNumbersSpec)

/-- ITS FALSE NEIGHBOUR: 'it returns false'. Refute it at one input. -/
def fnNumbersWrong : ChangeSpec := { name := "fnNumbers", fn := fun _ => fun
  | [d] => { results := [.lit (.bool false)], args := [d] }
  | _ => none }
def FnNumbersWrongFalsely : Prop := fnNumbersRow.holds Tryd.pinned (OpenSpec.ofChange fnNumbersWrong)

/-- 'laws.FnPolyCut': WHATEVER THE INPUT: true; the input reads as it did. -/
def fnPolyCutSpec : ChangeSpec := { name := "fnPolyCut", fn := fun _ => fun
  | [d] => { results := [.lit (.bool true)], args := [d] }
  | _ => none }
def fnPolyCutRow : OpenClaim := { program := "ytnmemefkeehjjaadoor", sum := "3cb45c4cd36e3664a5950660747f14c695b44aa3b3050177c0e0a3966517c073", func := "loop.example/matchpolys/laws.FnPolyCut", spec := "fnPolyCut", unfollowed := true, recurses := true, named := ["math/bits.deBruijn32tab", "math/bits.deBruijn64tab"], apart := false, laid := [("math/bits.deBruijn32tab", laid_math_bits_deBruijn32tab), ("math/bits.deBruijn64tab", laid_math_bits_deBruijn64tab)] }
def FnPolyCutSaid : Prop := fnPolyCutRow.holds Tryd.pinned (OpenSpec.ofChange fnPolyCutSpec)

/-- ITS FALSE NEIGHBOUR: 'it returns false'. Refute it at one input. -/
def fnPolyCutWrong : ChangeSpec := { name := "fnPolyCut", fn := fun _ => fun
  | [d] => { results := [.lit (.bool false)], args := [d] }
  | _ => none }
def FnPolyCutWrongFalsely : Prop := fnPolyCutRow.holds Tryd.pinned (OpenSpec.ofChange fnPolyCutWrong)

/- THE SECOND FORM. 'bulk': how many values and letters a reading holds, each counted each time it is reached (what is shared counts as often as it is met; a slice's spare places count too). A statement '..UptoSaid' is the law's where the arguments, and the package variables that the reading takes, are together of bulk at most 1048576: NARROWER than '..Said'. Prove '..Said' where nothing that the law and all that it calls make is longer than what came in: it says more and counts as full. Else prove '..UptoSaid'. A law counts once. -/
mutual
def uptoBulk {H : Type} : DataW H → Nat
  | .lit (.string bytes) => bytes.length + 1
  | .lit _ => 1
  | .nil => 1
  | .ptr d => uptoBulk d + 1
  | .slice elems spare => uptoBulkAll elems + uptoBulkAll spare + 1
  | .agg parts => uptoBulkAll parts + 1
  | .iface _ d => uptoBulk d + 1
  | .map entries => uptoBulkEntries entries + 1
  | .held _ => 1
def uptoBulkAll {H : Type} : List (DataW H) → Nat
  | [] => 0
  | d :: r => uptoBulk d + uptoBulkAll r
def uptoBulkEntries {H : Type} : List (Lit × DataW H) → Nat
  | [] => 0
  | x :: r => uptoBulkEntry x + uptoBulkEntries r
def uptoBulkEntry {H : Type} : Lit × DataW H → Nat
  | (.string bytes, d) => bytes.length + uptoBulk d + 1
  | (_, d) => uptoBulk d + 1
 end
def uptoSmall : (H : Type) → List (DataW H) → Bool := fun _ ds => decide (uptoBulkAll ds ≤ 1048576)
def OpenSpec.upto (s : _root_.Go.ChangeSpec) : _root_.Go.OpenSpec := { _root_.Go.OpenSpec.ofChange s with cond := some uptoSmall }

/-- 'laws.FnExactTableGraph', WHERE WHAT IT READS IS OF BULK AT MOST 1048576: true; the input reads as it did. -/
def fnExactTableGraphUptoRow : OpenClaim := { program := "ytnmemefkeehjjaadoor", sum := "3cb45c4cd36e3664a5950660747f14c695b44aa3b3050177c0e0a3966517c073", func := "loop.example/matchpolys/laws.FnExactTableGraph", spec := "fnExactTableGraph", unfollowed := true, recurses := true, named := ["math/bits.deBruijn32tab", "math/bits.deBruijn64tab"], apart := false, laid := [("math/bits.deBruijn32tab", laid_math_bits_deBruijn32tab), ("math/bits.deBruijn64tab", laid_math_bits_deBruijn64tab)], narrowed := true }
def FnExactTableGraphUptoSaid : Prop := fnExactTableGraphUptoRow.holds Tryd.pinned (OpenSpec.upto fnExactTableGraphSpec)

/-- 'laws.FnExactCoverThree', WHERE WHAT IT READS IS OF BULK AT MOST 1048576: true; the input reads as it did. -/
def fnExactCoverThreeUptoRow : OpenClaim := { program := "ytnmemefkeehjjaadoor", sum := "3cb45c4cd36e3664a5950660747f14c695b44aa3b3050177c0e0a3966517c073", func := "loop.example/matchpolys/laws.FnExactCoverThree", spec := "fnExactCoverThree", unfollowed := true, recurses := true, named := ["math/bits.deBruijn32tab", "math/bits.deBruijn64tab"], apart := false, laid := [("math/bits.deBruijn32tab", laid_math_bits_deBruijn32tab), ("math/bits.deBruijn64tab", laid_math_bits_deBruijn64tab)], narrowed := true }
def FnExactCoverThreeUptoSaid : Prop := fnExactCoverThreeUptoRow.holds Tryd.pinned (OpenSpec.upto fnExactCoverThreeSpec)

/-- 'laws.FnExactGraphBeside', WHERE WHAT IT READS IS OF BULK AT MOST 1048576: true; the input reads as it did. -/
def fnExactGraphBesideUptoRow : OpenClaim := { program := "ytnmemefkeehjjaadoor", sum := "3cb45c4cd36e3664a5950660747f14c695b44aa3b3050177c0e0a3966517c073", func := "loop.example/matchpolys/laws.FnExactGraphBeside", spec := "fnExactGraphBeside", unfollowed := true, recurses := true, named := ["math/bits.deBruijn32tab", "math/bits.deBruijn64tab"], apart := false, laid := [("math/bits.deBruijn32tab", laid_math_bits_deBruijn32tab), ("math/bits.deBruijn64tab", laid_math_bits_deBruijn64tab)], narrowed := true }
def FnExactGraphBesideUptoSaid : Prop := fnExactGraphBesideUptoRow.holds Tryd.pinned (OpenSpec.upto fnExactGraphBesideSpec)

/-- 'laws.FnExactMatchIn', WHERE WHAT IT READS IS OF BULK AT MOST 1048576: true; the input reads as it did. -/
def fnExactMatchInUptoRow : OpenClaim := { program := "ytnmemefkeehjjaadoor", sum := "3cb45c4cd36e3664a5950660747f14c695b44aa3b3050177c0e0a3966517c073", func := "loop.example/matchpolys/laws.FnExactMatchIn", spec := "fnExactMatchIn", unfollowed := true, recurses := true, named := ["math/bits.deBruijn32tab", "math/bits.deBruijn64tab"], apart := false, laid := [("math/bits.deBruijn32tab", laid_math_bits_deBruijn32tab), ("math/bits.deBruijn64tab", laid_math_bits_deBruijn64tab)], narrowed := true }
def FnExactMatchInUptoSaid : Prop := fnExactMatchInUptoRow.holds Tryd.pinned (OpenSpec.upto fnExactMatchInSpec)

/-- 'laws.FnExactCoverLoss', WHERE WHAT IT READS IS OF BULK AT MOST 1048576: true; the input reads as it did. -/
def fnExactCoverLossUptoRow : OpenClaim := { program := "ytnmemefkeehjjaadoor", sum := "3cb45c4cd36e3664a5950660747f14c695b44aa3b3050177c0e0a3966517c073", func := "loop.example/matchpolys/laws.FnExactCoverLoss", spec := "fnExactCoverLoss", unfollowed := true, recurses := true, named := ["math/bits.deBruijn32tab", "math/bits.deBruijn64tab"], apart := false, laid := [("math/bits.deBruijn32tab", laid_math_bits_deBruijn32tab), ("math/bits.deBruijn64tab", laid_math_bits_deBruijn64tab)], narrowed := true }
def FnExactCoverLossUptoSaid : Prop := fnExactCoverLossUptoRow.holds Tryd.pinned (OpenSpec.upto fnExactCoverLossSpec)

/-- 'laws.FnExactMatchAllowed', WHERE WHAT IT READS IS OF BULK AT MOST 1048576: true; the input reads as it did. -/
def fnExactMatchAllowedUptoRow : OpenClaim := { program := "ytnmemefkeehjjaadoor", sum := "3cb45c4cd36e3664a5950660747f14c695b44aa3b3050177c0e0a3966517c073", func := "loop.example/matchpolys/laws.FnExactMatchAllowed", spec := "fnExactMatchAllowed", unfollowed := true, recurses := true, named := ["math/bits.deBruijn32tab", "math/bits.deBruijn64tab"], apart := false, laid := [("math/bits.deBruijn32tab", laid_math_bits_deBruijn32tab), ("math/bits.deBruijn64tab", laid_math_bits_deBruijn64tab)], narrowed := true }
def FnExactMatchAllowedUptoSaid : Prop := fnExactMatchAllowedUptoRow.holds Tryd.pinned (OpenSpec.upto fnExactMatchAllowedSpec)

/-- 'laws.FnNumbers', WHERE WHAT IT READS IS OF BULK AT MOST 1048576: true; the input reads as it did. -/
def fnNumbersUptoRow : OpenClaim := { program := "ytnmemefkeehjjaadoor", sum := "3cb45c4cd36e3664a5950660747f14c695b44aa3b3050177c0e0a3966517c073", func := "loop.example/matchpolys/laws.FnNumbers", spec := "fnNumbers", unfollowed := true, recurses := true, named := ["math/bits.deBruijn32tab", "math/bits.deBruijn64tab"], apart := false, laid := [("math/bits.deBruijn32tab", laid_math_bits_deBruijn32tab), ("math/bits.deBruijn64tab", laid_math_bits_deBruijn64tab)], narrowed := true }
def FnNumbersUptoSaid : Prop := fnNumbersUptoRow.holds Tryd.pinned (OpenSpec.upto fnNumbersSpec)

/-- 'laws.FnPolyCut', WHERE WHAT IT READS IS OF BULK AT MOST 1048576: true; the input reads as it did. -/
def fnPolyCutUptoRow : OpenClaim := { program := "ytnmemefkeehjjaadoor", sum := "3cb45c4cd36e3664a5950660747f14c695b44aa3b3050177c0e0a3966517c073", func := "loop.example/matchpolys/laws.FnPolyCut", spec := "fnPolyCut", unfollowed := true, recurses := true, named := ["math/bits.deBruijn32tab", "math/bits.deBruijn64tab"], apart := false, laid := [("math/bits.deBruijn32tab", laid_math_bits_deBruijn32tab), ("math/bits.deBruijn64tab", laid_math_bits_deBruijn64tab)], narrowed := true }
def FnPolyCutUptoSaid : Prop := fnPolyCutUptoRow.holds Tryd.pinned (OpenSpec.upto fnPolyCutSpec)

end Rows
end Go.Proofs.YtnmemefkeehjjaaDoor
