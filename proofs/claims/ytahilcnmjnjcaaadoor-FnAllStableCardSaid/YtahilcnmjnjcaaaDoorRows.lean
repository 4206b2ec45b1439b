/-
  NARROWER THAN 'FOR EVERY INPUT', by the rows' own cells (each row's printed sentence says how): FnExactMarketAll: laid · FnMarket: laid · FnPairing: laid · FnMarketTurned: laid · FnLeft: laid · FnRight: laid · FnAllStable: laid.
  DERIVED. THE GIVEN ROWS OF THIS SEAT. 7 by the template 'for every input the law returns true; each argument reads behind the call as it read before'; 0 by the template 'total and deterministic' (their statements: YtahilcnmjnjcaaaDoorTotals.lean).
  GIVEN WITH THE SEED: the statements are not yours to turn. If you find one false, say at which input.
  Laid BY PROGRAM, IN A SANDBOX (cutbox-rows.mjs): the forced cells as the released guide's own fill.sh prints them over the translation 89f0003ef629ecf7… (all of the seat's roots in one cut). By AI agents, Wed Nov 11 2026. No macro, syntax, notation, axiom, sorry.
-/
import Derived.Test.YtahilcnmjnjcaaaDoorChecked
import GoSem.Claim
import GoSem.ClaimJoined
import GoSem.ClaimMapViews
import Derived.JoinedTies
import Derived.KernelRfl
namespace Go.Proofs.YtahilcnmjnjcaaaDoor
/- THE CELL 'sum', in the pinned program and in every row, IS THE sha256 OF THE DUMP (.gsa) THAT YtahilcnmjnjcaaaDoorProg.lean LOADS. Nothing in Lean hashes anything: it is a label: what it is worth is what the hold of that sum in a sandbox is worth. -/
noncomputable def Tryd.pinned : Pinned := { name := "ytahilcnmjnjcaaadoor", sum := "89f0003ef629ecf7f5918c5a234b8f71a8727d0f865b0c6258d9c43828351de5", checked := Tryd.checked }
namespace Rows
def none {H : Type} : Left H := { results := [], args := [] }

/- WHAT THE LISTED PACKAGE-LEVEL VARIABLES READ AS WHEN THE CALL BEGINS. Each datum BY PROGRAM (the guide's laid-datum.mjs) off the statement by which the dump's own 'gosem.cut.vars' lays the variable. In a bare row this is a premise. The card (YtahilcnmjnjcaaaDoorCards.lean) ties it to the program's text. -/
def laid_math_bits_deBruijn32tab {H : Type} : DataW H := .agg [.lit (.int .u8 0), .lit (.int .u8 1), .lit (.int .u8 28), .lit (.int .u8 2), .lit (.int .u8 29), .lit (.int .u8 14), .lit (.int .u8 24), .lit (.int .u8 3), .lit (.int .u8 30), .lit (.int .u8 22), .lit (.int .u8 20), .lit (.int .u8 15), .lit (.int .u8 25), .lit (.int .u8 17), .lit (.int .u8 4), .lit (.int .u8 8), .lit (.int .u8 31), .lit (.int .u8 27), .lit (.int .u8 13), .lit (.int .u8 23), .lit (.int .u8 21), .lit (.int .u8 19), .lit (.int .u8 16), .lit (.int .u8 7), .lit (.int .u8 26), .lit (.int .u8 12), .lit (.int .u8 18), .lit (.int .u8 6), .lit (.int .u8 11), .lit (.int .u8 5), .lit (.int .u8 10), .lit (.int .u8 9)]
def laid_math_bits_deBruijn64tab {H : Type} : DataW H := .agg [.lit (.int .u8 0), .lit (.int .u8 1), .lit (.int .u8 56), .lit (.int .u8 2), .lit (.int .u8 57), .lit (.int .u8 49), .lit (.int .u8 28), .lit (.int .u8 3), .lit (.int .u8 61), .lit (.int .u8 58), .lit (.int .u8 42), .lit (.int .u8 50), .lit (.int .u8 38), .lit (.int .u8 29), .lit (.int .u8 17), .lit (.int .u8 4), .lit (.int .u8 62), .lit (.int .u8 47), .lit (.int .u8 59), .lit (.int .u8 36), .lit (.int .u8 45), .lit (.int .u8 43), .lit (.int .u8 51), .lit (.int .u8 22), .lit (.int .u8 53), .lit (.int .u8 39), .lit (.int .u8 33), .lit (.int .u8 30), .lit (.int .u8 24), .lit (.int .u8 18), .lit (.int .u8 12), .lit (.int .u8 5), .lit (.int .u8 63), .lit (.int .u8 55), .lit (.int .u8 48), .lit (.int .u8 27), .lit (.int .u8 60), .lit (.int .u8 41), .lit (.int .u8 37), .lit (.int .u8 16), .lit (.int .u8 46), .lit (.int .u8 35), .lit (.int .u8 44), .lit (.int .u8 21), .lit (.int .u8 52), .lit (.int .u8 32), .lit (.int .u8 23), .lit (.int .u8 11), .lit (.int .u8 54), .lit (.int .u8 26), .lit (.int .u8 40), .lit (.int .u8 15), .lit (.int .u8 34), .lit (.int .u8 20), .lit (.int .u8 31), .lit (.int .u8 10), .lit (.int .u8 25), .lit (.int .u8 14), .lit (.int .u8 19), .lit (.int .u8 9), .lit (.int .u8 13), .lit (.int .u8 8), .lit (.int .u8 7), .lit (.int .u8 6)]

/-- 'laws.FnExactMarketAll': WHATEVER THE INPUT: true; the input reads as it did. -/
def fnExactMarketAllSpec : ChangeSpec := { name := "fnExactMarketAll", fn := fun _ => fun
  | [d] => { results := [.lit (.bool true)], args := [d] }
  | _ => none }
def fnExactMarketAllRow : OpenClaim := { program := "ytahilcnmjnjcaaadoor", sum := "89f0003ef629ecf7f5918c5a234b8f71a8727d0f865b0c6258d9c43828351de5", func := "loop.example/matchpolys/laws.FnExactMarketAll", spec := "fnExactMarketAll", unfollowed := true, recurses := true, named := ["math/bits.deBruijn32tab", "math/bits.deBruijn64tab"], apart := false, laid := [("math/bits.deBruijn32tab", laid_math_bits_deBruijn32tab), ("math/bits.deBruijn64tab", laid_math_bits_deBruijn64tab)] }
def FnExactMarketAllSaid : Prop := fnExactMarketAllRow.holds Tryd.pinned (OpenSpec.ofChange fnExactMarketAllSpec)

/-- ITS FALSE NEIGHBOUR: 'it returns false'. Refute it at one input. -/
def fnExactMarketAllWrong : ChangeSpec := { name := "fnExactMarketAll", fn := fun _ => fun
  | [d] => { results := [.lit (.bool false)], args := [d] }
  | _ => none }
def FnExactMarketAllWrongFalsely : Prop := fnExactMarketAllRow.holds Tryd.pinned (OpenSpec.ofChange fnExactMarketAllWrong)

/-- 'laws.FnMarket': WHATEVER THE INPUT: true; the input reads as it did. -/
def fnMarketSpec : ChangeSpec := { name := "fnMarket", fn := fun _ => fun
  | [d] => { results := [.lit (.bool true)], args := [d] }
  | _ => none }
def fnMarketRow : OpenClaim := { program := "ytahilcnmjnjcaaadoor", sum := "89f0003ef629ecf7f5918c5a234b8f71a8727d0f865b0c6258d9c43828351de5", func := "loop.example/matchpolys/laws.FnMarket", spec := "fnMarket", unfollowed := true, recurses := true, named := ["math/bits.deBruijn32tab", "math/bits.deBruijn64tab"], apart := false, laid := [("math/bits.deBruijn32tab", laid_math_bits_deBruijn32tab), ("math/bits.deBruijn64tab", laid_math_bits_deBruijn64tab)] }
def FnMarketSaid : Prop := fnMarketRow.holds Tryd.pinned (OpenSpec.ofChange fnMarketSpec)

/-- ITS FALSE NEIGHBOUR: 'it returns false'. Refute it at one input. -/
def fnMarketWrong : ChangeSpec := { name := "fnMarket", fn := fun _ => fun
  | [d] => { results := [.lit (.bool false)], args := [d] }
  | _ => none }
def FnMarketWrongFalsely : Prop := fnMarketRow.holds Tryd.pinned (OpenSpec.ofChange fnMarketWrong)

/-- 'laws.FnPairing': WHATEVER THE INPUT: true; the input reads as it did. -/
def fnPairingSpec : ChangeSpec := { name := "fnPairing", fn := fun _ => fun
  | [d] => { results := [.lit (.bool true)], args := [d] }
  | _ => none }
def fnPairingRow : OpenClaim := { program := "ytahilcnmjnjcaaadoor", sum := "89f0003ef629ecf7f5918c5a234b8f71a8727d0f865b0c6258d9c43828351de5", func := "loop.example/matchpolys/laws.FnPairing", spec := "fnPairing", unfollowed := true, recurses := true, named := ["math/bits.deBruijn32tab", "math/bits.deBruijn64tab"], apart := false, laid := [("math/bits.deBruijn32tab", laid_math_bits_deBruijn32tab), ("math/bits.deBruijn64tab", laid_math_bits_deBruijn64tab)] }
def FnPairingSaid : Prop := fnPairingRow.holds Tryd.pinned (OpenSpec.ofChange fnPairingSpec)

/-- ITS FALSE NEIGHBOUR: 'it returns false'. Refute it at one input. -/
def fnPairingWrong : ChangeSpec := { name := "fnPairing", fn := fun _ => fun
  | [d] => { results := [.lit (.bool false)], args := [d] }
  | _ => none }
def FnPairingWrongFalsely : Prop := fnPairingRow.holds Tryd.pinned (OpenSpec.ofChange fnPairingWrong)

/-- 'laws.FnMarketTurned': WHATEVER THE INPUT: true; the input reads as it did. -/
def fnMarketTurnedSpec : ChangeSpec := { name := "fnMarketTurned", fn := fun _ => fun
  | [d] => { results := [.lit (.bool true)], args := [d] }
  | _ => none }
def fnMarketTurnedRow : OpenClaim := { program := "ytahilcnmjnjcaaadoor", sum := "89f0003ef629ecf7f5918c5a234b8f71a8727d0f865b0c6258d9c43828351de5", func := "loop.example/matchpolys/laws.FnMarketTurned", spec := "fnMarketTurned", unfollowed := true, recurses := true, named := ["math/bits.deBruijn32tab", "math/bits.deBruijn64tab"], apart := false, laid := [("math/bits.deBruijn32tab", laid_math_bits_deBruijn32tab), ("math/bits.deBruijn64tab", laid_math_bits_deBruijn64tab)] }
def FnMarketTurnedSaid : Prop := fnMarketTurnedRow.holds Tryd.pinned (OpenSpec.ofChange fnMarketTurnedSpec)

/-- ITS FALSE NEIGHBOUR: 'it returns false'. Refute it at one input. -/
def fnMarketTurnedWrong : ChangeSpec := { name := "fnMarketTurned", fn := fun _ => fun
  | [d] => { results := [.lit (.bool false)], args := [d] }
  | _ => none }
def FnMarketTurnedWrongFalsely : Prop := fnMarketTurnedRow.holds Tryd.pinned (OpenSpec.ofChange fnMarketTurnedWrong)

/-- 'laws.FnLeft': WHATEVER THE INPUT: true; the input reads as it did. -/
def fnLeftSpec : ChangeSpec := { name := "fnLeft", fn := fun _ => fun
  | [d] => { results := [.lit (.bool true)], args := [d] }
  | _ => none }
def fnLeftRow : OpenClaim := { program := "ytahilcnmjnjcaaadoor", sum := "89f0003ef629ecf7f5918c5a234b8f71a8727d0f865b0c6258d9c43828351de5", func := "loop.example/matchpolys/laws.FnLeft", spec := "fnLeft", unfollowed := true, recurses := true, named := ["math/bits.deBruijn32tab", "math/bits.deBruijn64tab"], apart := false, laid := [("math/bits.deBruijn32tab", laid_math_bits_deBruijn32tab), ("math/bits.deBruijn64tab", laid_math_bits_deBruijn64tab)] }
def FnLeftSaid : Prop := fnLeftRow.holds Tryd.pinned (OpenSpec.ofChange fnLeftSpec)

/-- ITS FALSE NEIGHBOUR: 'it returns false'. Refute it at one input. -/
def fnLeftWrong : ChangeSpec := { name := "fnLeft", fn := fun _ => fun
  | [d] => { results := [.lit (.bool false)], args := [d] }
  | _ => none }
def FnLeftWrongFalsely : Prop := fnLeftRow.holds Tryd.pinned (OpenSpec.ofChange fnLeftWrong)

/-- 'laws.FnRight': WHATEVER THE INPUT: true; the input reads as it did. -/
def fnRightSpec : ChangeSpec := { name := "fnRight", fn := fun _ => fun
  | [d] => { results := [.lit (.bool true)], args := [d] }
  | _ => none }
def fnRightRow : OpenClaim := { program := "ytahilcnmjnjcaaadoor", sum := "89f0003ef629ecf7f5918c5a234b8f71a8727d0f865b0c6258d9c43828351de5", func := "loop.example/matchpolys/laws.FnRight", spec := "fnRight", unfollowed := true, recurses := true, named := ["math/bits.deBruijn32tab", "math/bits.deBruijn64tab"], apart := false, laid := [("math/bits.deBruijn32tab", laid_math_bits_deBruijn32tab), ("math/bits.deBruijn64tab", laid_math_bits_deBruijn64tab)] }
def FnRightSaid : Prop := fnRightRow.holds Tryd.pinned (OpenSpec.ofChange fnRightSpec)

/-- ITS FALSE NEIGHBOUR: 'it returns false'. Refute it at one input. -/
def fnRightWrong : ChangeSpec := { name := "fnRight", fn := fun _ => fun
  | [d] => { results := [.lit (.bool false)], args := [d] }
  | _ => none }
def FnRightWrongFalsely : Prop := fnRightRow.holds Tryd.pinned (OpenSpec.ofChange fnRightWrong)

/-- 'laws.FnAllStable': WHATEVER THE INPUT: true; the input reads as it did. -/
def fnAllStableSpec : ChangeSpec := { name := "fnAllStable", fn := fun _ => fun
  | [d] => { results := [.lit (.bool true)], args := [d] }
  | _ => none }
def fnAllStableRow : OpenClaim := { program := "ytahilcnmjnjcaaadoor", sum := "89f0003ef629ecf7f5918c5a234b8f71a8727d0f865b0c6258d9c43828351de5", func := "loop.example/matchpolys/laws.FnAllStable", spec := "fnAllStable", unfollowed := true, recurses := true, named := ["math/bits.deBruijn32tab", "math/bits.deBruijn64tab"], apart := false, laid := [("math/bits.deBruijn32tab", laid_math_bits_deBruijn32tab), ("math/bits.deBruijn64tab", laid_math_bits_deBruijn64tab)] }
def FnAllStableSaid : Prop := fnAllStableRow.holds Tryd.pinned (OpenSpec.ofChange fnAllStableSpec)

/-- ITS FALSE NEIGHBOUR: 'it returns false'. Refute it at one input. -/
def fnAllStableWrong : ChangeSpec := { name := "fnAllStable", fn := fun _ => fun
  | [d] => { results := [.lit (.bool false)], args := [d] }
  | _ => none }
def FnAllStableWrongFalsely : Prop := fnAllStableRow.holds Tryd.pinned (OpenSpec.ofChange fnAllStableWrong)

/- THE SECOND FORM. 'bulk': how many values and letters a reading holds, each counted each time it is reached (what is shared counts as often as it is met; a slice's spare places count too). A statement '..UptoSaid' is the law's where the arguments, and the package variables that the reading takes, are together of bulk at most 1048576: NARROWER than '..Said'. Prove '..Said' where nothing that the law and all that it calls make is longer than what came in: it says more and counts as full. Else prove '..UptoSaid'. A law counts once. -/
mutual
def uptoBulk {H : Type} : DataW H → Nat
  | .lit (.string bytes) => bytes.length + 1
  | .lit _ => 1
  | .nil => 1
  | .ptr d => uptoBulk d + 1
  | .slice elems spare => uptoBulkAll elems + uptoBulkAll spare + 1
  | .agg parts => uptoBulkAll parts + 1
  | .iface _ d => uptoBulk d + 1
  | .map entries => uptoBulkEntries entries + 1
  | .held _ => 1
def uptoBulkAll {H : Type} : List (DataW H) → Nat
  | [] => 0
  | d :: r => uptoBulk d + uptoBulkAll r
def uptoBulkEntries {H : Type} : List (Lit × DataW H) → Nat
  | [] => 0
  | x :: r => uptoBulkEntry x + uptoBulkEntries r
def uptoBulkEntry {H : Type} : Lit × DataW H → Nat
  | (.string bytes, d) => bytes.length + uptoBulk d + 1
  | (_, d) => uptoBulk d + 1
 end
def uptoSmall : (H : Type) → List (DataW H) → Bool := fun _ ds => decide (uptoBulkAll ds ≤ 1048576)
def OpenSpec.upto (s : _root_.Go.ChangeSpec) : _root_.Go.OpenSpec := { _root_.Go.OpenSpec.ofChange s with cond := some uptoSmall }

/-- 'laws.FnExactMarketAll', WHERE WHAT IT READS IS OF BULK AT MOST 1048576: true; the input reads as it did. -/
def fnExactMarketAllUptoRow : OpenClaim := { program := "ytahilcnmjnjcaaadoor", sum := "89f0003ef629ecf7f5918c5a234b8f71a8727d0f865b0c6258d9c43828351de5", func := "loop.example/matchpolys/laws.FnExactMarketAll", spec := "fnExactMarketAll", unfollowed := true, recurses := true, named := ["math/bits.deBruijn32tab", "math/bits.deBruijn64tab"], apart := false, laid := [("math/bits.deBruijn32tab", laid_math_bits_deBruijn32tab), ("math/bits.deBruijn64tab", laid_math_bits_deBruijn64tab)], narrowed := true }
def FnExactMarketAllUptoSaid : Prop := fnExactMarketAllUptoRow.holds Tryd.pinned (OpenSpec.upto fnExactMarketAllSpec)

/-- 'laws.FnMarket', WHERE WHAT IT READS IS OF BULK AT MOST 1048576: true; the input reads as it did. -/
def fnMarketUptoRow : OpenClaim := { program := "ytahilcnmjnjcaaadoor", sum := "89f0003ef629ecf7f5918c5a234b8f71a8727d0f865b0c6258d9c43828351de5", func := "loop.example/matchpolys/laws.FnMarket", spec := "fnMarket", unfollowed := true, recurses := true, named := ["math/bits.deBruijn32tab", "math/bits.deBruijn64tab"], apart := false, laid := [("math/bits.deBruijn32tab", laid_math_bits_deBruijn32tab), ("math/bits.deBruijn64tab", laid_math_bits_deBruijn64tab)], narrowed := true }
def FnMarketUptoSaid : Prop := fnMarketUptoRow.holds Tryd.pinned (OpenSpec.upto fnMarketSpec)

/-- 'laws.FnPairing', WHERE WHAT IT READS IS OF BULK AT MOST 1048576: true; the input reads as it did. -/
def fnPairingUptoRow : OpenClaim := { program := "ytahilcnmjnjcaaadoor", sum := "89f0003ef629ecf7f5918c5a234b8f71a8727d0f865b0c6258d9c43828351de5", func := "loop.example/matchpolys/laws.FnPairing", spec := "fnPairing", unfollowed := true, recurses := true, named := ["math/bits.deBruijn32tab", "math/bits.deBruijn64tab"], apart := false, laid := [("math/bits.deBruijn32tab", laid_math_bits_deBruijn32tab), ("math/bits.deBruijn64tab", laid_math_bits_deBruijn64tab)], narrowed := true }
def FnPairingUptoSaid : Prop := fnPairingUptoRow.holds Tryd.pinned (OpenSpec.upto fnPairingSpec)

/-- 'laws.FnMarketTurned', WHERE WHAT IT READS IS OF BULK AT MOST 1048576: true; the input reads as it did. -/
def fnMarketTurnedUptoRow : OpenClaim := { program := "ytahilcnmjnjcaaadoor", sum := "89f0003ef629ecf7f5918c5a234b8f71a8727d0f865b0c6258d9c43828351de5", func := "loop.example/matchpolys/laws.FnMarketTurned", spec := "fnMarketTurned", unfollowed := true, recurses := true, named := ["math/bits.deBruijn32tab", "math/bits.deBruijn64tab"], apart := false, laid := [("math/bits.deBruijn32tab", laid_math_bits_deBruijn32tab), ("math/bits.deBruijn64tab", laid_math_bits_deBruijn64tab)], narrowed := true }
def FnMarketTurnedUptoSaid : Prop := fnMarketTurnedUptoRow.holds Tryd.pinned (OpenSpec.upto fnMarketTurnedSpec)

/-- 'laws.FnLeft', WHERE WHAT IT READS IS OF BULK AT MOST 1048576: true; the input reads as it did. -/
def fnLeftUptoRow : OpenClaim := { program := "ytahilcnmjnjcaaadoor", sum := "89f0003ef629ecf7f5918c5a234b8f71a8727d0f865b0c6258d9c43828351de5", func := "loop.example/matchpolys/laws.FnLeft", spec := "fnLeft", unfollowed := true, recurses := true, named := ["math/bits.deBruijn32tab", "math/bits.deBruijn64tab"], apart := false, laid := [("math/bits.deBruijn32tab", laid_math_bits_deBruijn32tab), ("math/bits.deBruijn64tab", laid_math_bits_deBruijn64tab)], narrowed := true }
def FnLeftUptoSaid : Prop := fnLeftUptoRow.holds Tryd.pinned (OpenSpec.upto fnLeftSpec)

/-- 'laws.FnRight', WHERE WHAT IT READS IS OF BULK AT MOST 1048576: true; the input reads as it did. -/
def fnRightUptoRow : OpenClaim := { program := "ytahilcnmjnjcaaadoor", sum := "89f0003ef629ecf7f5918c5a234b8f71a8727d0f865b0c6258d9c43828351de5", func := "loop.example/matchpolys/laws.FnRight", spec := "fnRight", unfollowed := true, recurses := true, named := ["math/bits.deBruijn32tab", "math/bits.deBruijn64tab"], apart := false, laid := [("math/bits.deBruijn32tab", laid_math_bits_deBruijn32tab), ("math/bits.deBruijn64tab", laid_math_bits_deBruijn64tab)], narrowed := true }
def FnRightUptoSaid : Prop := fnRightUptoRow.holds Tryd.pinned (OpenSpec.upto fnRightSpec)

/-- 'laws.FnAllStable', WHERE WHAT IT READS IS OF BULK AT MOST 1048576: true; the input reads as it did. -/
def fnAllStableUptoRow : OpenClaim := { program := "ytahilcnmjnjcaaadoor", sum := "89f0003ef629ecf7f5918c5a234b8f71a8727d0f865b0c6258d9c43828351de5", func := "loop.example/matchpolys/laws.FnAllStable", spec := "fnAllStable", unfollowed := true, recurses := true, named := ["math/bits.deBruijn32tab", "math/bits.deBruijn64tab"], apart := false, laid := [("math/bits.deBruijn32tab", laid_math_bits_deBruijn32tab), ("math/bits.deBruijn64tab", laid_math_bits_deBruijn64tab)], narrowed := true }
def FnAllStableUptoSaid : Prop := fnAllStableUptoRow.holds Tryd.pinned (OpenSpec.upto fnAllStableSpec)

end Rows
end Go.Proofs.YtahilcnmjnjcaaaDoor
