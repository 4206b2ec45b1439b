/-
  No cell of these rows narrows 'for every input' (looked for: loops, veiled, ifaces, maps, wideKeys, modest, calm, conditions, laid).
  DERIVED. THE GIVEN ROWS OF THIS SEAT. 7 by the template 'for every input the law returns true; each argument reads behind the call as it read before'; 0 by the template 'total and deterministic' (their statements: YtjhjfopokiaiiaaTotals.lean).
  GIVEN WITH THE SEED: the statements are not yours to turn. If you find one false, say at which input.
  Laid BY PROGRAM, IN A SANDBOX (cutbox-rows.mjs): the forced cells as the released guide's own fill.sh prints them over the translation 321e62e20e0096bc… (all of the seat's roots in one cut). By AI agents, Wed Nov 11 2026. No macro, syntax, notation, axiom, sorry.
-/
import Derived.Test.YtjhjfopokiaiiaaChecked
import GoSem.Claim
import GoSem.ClaimJoined
import GoSem.ClaimMapViews
import Derived.JoinedTies
import Derived.KernelRfl
namespace Go.Proofs.Ytjhjfopokiaiiaa
/- THE CELL 'sum', in the pinned program and in every row, IS THE sha256 OF THE DUMP (.gsa) THAT YtjhjfopokiaiiaaProg.lean LOADS. Nothing in Lean hashes anything: it is a label: what it is worth is what the hold of that sum in a sandbox is worth. -/
noncomputable def Try.pinned : Pinned := { name := "ytjhjfopokiaiiaa", sum := "321e62e20e0096bc106156b44e92262acff5121747a8b23f7563242e638a1183", checked := Try.checked }
namespace Rows
def none {H : Type} : Left H := { results := [], args := [] }

/-- 'laws.FnExactMarketLeft': WHATEVER THE INPUT: true; the input reads as it did. -/
def fnExactMarketLeftSpec : ChangeSpec := { name := "fnExactMarketLeft", fn := fun _ => fun
  | [d] => { results := [.lit (.bool true)], args := [d] }
  | _ => none }
def fnExactMarketLeftRow : OpenClaim := { program := "ytjhjfopokiaiiaa", sum := "321e62e20e0096bc106156b44e92262acff5121747a8b23f7563242e638a1183", func := "loop.example/matchpolys/laws.FnExactMarketLeft", spec := "fnExactMarketLeft", apart := false }
def FnExactMarketLeftSaid : Prop := fnExactMarketLeftRow.holds Try.pinned (OpenSpec.ofChange fnExactMarketLeftSpec)

/-- ITS FALSE NEIGHBOUR: 'it returns false'. Refute it at one input. -/
def fnExactMarketLeftWrong : ChangeSpec := { name := "fnExactMarketLeft", fn := fun _ => fun
  | [d] => { results := [.lit (.bool false)], args := [d] }
  | _ => none }
def FnExactMarketLeftWrongFalsely : Prop := fnExactMarketLeftRow.holds Try.pinned (OpenSpec.ofChange fnExactMarketLeftWrong)

/-- 'laws.FnExactMarketRight': WHATEVER THE INPUT: true; the input reads as it did. -/
def fnExactMarketRightSpec : ChangeSpec := { name := "fnExactMarketRight", fn := fun _ => fun
  | [d] => { results := [.lit (.bool true)], args := [d] }
  | _ => none }
def fnExactMarketRightRow : OpenClaim := { program := "ytjhjfopokiaiiaa", sum := "321e62e20e0096bc106156b44e92262acff5121747a8b23f7563242e638a1183", func := "loop.example/matchpolys/laws.FnExactMarketRight", spec := "fnExactMarketRight", apart := false }
def FnExactMarketRightSaid : Prop := fnExactMarketRightRow.holds Try.pinned (OpenSpec.ofChange fnExactMarketRightSpec)

/-- ITS FALSE NEIGHBOUR: 'it returns false'. Refute it at one input. -/
def fnExactMarketRightWrong : ChangeSpec := { name := "fnExactMarketRight", fn := fun _ => fun
  | [d] => { results := [.lit (.bool false)], args := [d] }
  | _ => none }
def FnExactMarketRightWrongFalsely : Prop := fnExactMarketRightRow.holds Try.pinned (OpenSpec.ofChange fnExactMarketRightWrong)

/-- 'laws.FnExactCostIn': WHATEVER THE INPUT: true; the input reads as it did. -/
def fnExactCostInSpec : ChangeSpec := { name := "fnExactCostIn", fn := fun _ => fun
  | [d] => { results := [.lit (.bool true)], args := [d] }
  | _ => none }
def fnExactCostInRow : OpenClaim := { program := "ytjhjfopokiaiiaa", sum := "321e62e20e0096bc106156b44e92262acff5121747a8b23f7563242e638a1183", func := "loop.example/matchpolys/laws.FnExactCostIn", spec := "fnExactCostIn", unfollowed := true, recurses := true, apart := false }
def FnExactCostInSaid : Prop := fnExactCostInRow.holds Try.pinned (OpenSpec.ofChange fnExactCostInSpec)

/-- ITS FALSE NEIGHBOUR: 'it returns false'. Refute it at one input. -/
def fnExactCostInWrong : ChangeSpec := { name := "fnExactCostIn", fn := fun _ => fun
  | [d] => { results := [.lit (.bool false)], args := [d] }
  | _ => none }
def FnExactCostInWrongFalsely : Prop := fnExactCostInRow.holds Try.pinned (OpenSpec.ofChange fnExactCostInWrong)

/-- 'laws.FnExactCostOf': WHATEVER THE INPUT: true; the input reads as it did. -/
def fnExactCostOfSpec : ChangeSpec := { name := "fnExactCostOf", fn := fun _ => fun
  | [d1, d2] => { results := [.lit (.bool true)], args := [d1, d2] }
  | _ => none }
def fnExactCostOfRow : OpenClaim := { program := "ytjhjfopokiaiiaa", sum := "321e62e20e0096bc106156b44e92262acff5121747a8b23f7563242e638a1183", func := "loop.example/matchpolys/laws.FnExactCostOf", spec := "fnExactCostOf", unfollowed := true, recurses := true, apart := false }
def FnExactCostOfSaid : Prop := fnExactCostOfRow.holds Try.pinned (OpenSpec.ofChange fnExactCostOfSpec)

/-- ITS FALSE NEIGHBOUR: 'it returns false'. Refute it at one input. -/
def fnExactCostOfWrong : ChangeSpec := { name := "fnExactCostOf", fn := fun _ => fun
  | [d1, d2] => { results := [.lit (.bool false)], args := [d1, d2] }
  | _ => none }
def FnExactCostOfWrongFalsely : Prop := fnExactCostOfRow.holds Try.pinned (OpenSpec.ofChange fnExactCostOfWrong)

/-- 'laws.FnExactCostFit': WHATEVER THE INPUT: true; the input reads as it did. -/
def fnExactCostFitSpec : ChangeSpec := { name := "fnExactCostFit", fn := fun _ => fun
  | [d1, d2] => { results := [.lit (.bool true)], args := [d1, d2] }
  | _ => none }
def fnExactCostFitRow : OpenClaim := { program := "ytjhjfopokiaiiaa", sum := "321e62e20e0096bc106156b44e92262acff5121747a8b23f7563242e638a1183", func := "loop.example/matchpolys/laws.FnExactCostFit", spec := "fnExactCostFit", unfollowed := true, recurses := true, apart := false }
def FnExactCostFitSaid : Prop := fnExactCostFitRow.holds Try.pinned (OpenSpec.ofChange fnExactCostFitSpec)

/-- ITS FALSE NEIGHBOUR: 'it returns false'. Refute it at one input. -/
def fnExactCostFitWrong : ChangeSpec := { name := "fnExactCostFit", fn := fun _ => fun
  | [d1, d2] => { results := [.lit (.bool false)], args := [d1, d2] }
  | _ => none }
def FnExactCostFitWrongFalsely : Prop := fnExactCostFitRow.holds Try.pinned (OpenSpec.ofChange fnExactCostFitWrong)

/-- 'laws.FnExactCostTurned': WHATEVER THE INPUT: true; the input reads as it did. -/
def fnExactCostTurnedSpec : ChangeSpec := { name := "fnExactCostTurned", fn := fun _ => fun
  | [d] => { results := [.lit (.bool true)], args := [d] }
  | _ => none }
def fnExactCostTurnedRow : OpenClaim := { program := "ytjhjfopokiaiiaa", sum := "321e62e20e0096bc106156b44e92262acff5121747a8b23f7563242e638a1183", func := "loop.example/matchpolys/laws.FnExactCostTurned", spec := "fnExactCostTurned", unfollowed := true, recurses := true, apart := false }
def FnExactCostTurnedSaid : Prop := fnExactCostTurnedRow.holds Try.pinned (OpenSpec.ofChange fnExactCostTurnedSpec)

/-- ITS FALSE NEIGHBOUR: 'it returns false'. Refute it at one input. -/
def fnExactCostTurnedWrong : ChangeSpec := { name := "fnExactCostTurned", fn := fun _ => fun
  | [d] => { results := [.lit (.bool false)], args := [d] }
  | _ => none }
def FnExactCostTurnedWrongFalsely : Prop := fnExactCostTurnedRow.holds Try.pinned (OpenSpec.ofChange fnExactCostTurnedWrong)

/-- 'laws.FnExactCostMore': WHATEVER THE INPUT: true; the input reads as it did. -/
def fnExactCostMoreSpec : ChangeSpec := { name := "fnExactCostMore", fn := fun _ => fun
  | [d1, d2, d3] => { results := [.lit (.bool true)], args := [d1, d2, d3] }
  | _ => none }
def fnExactCostMoreRow : OpenClaim := { program := "ytjhjfopokiaiiaa", sum := "321e62e20e0096bc106156b44e92262acff5121747a8b23f7563242e638a1183", func := "loop.example/matchpolys/laws.FnExactCostMore", spec := "fnExactCostMore", unfollowed := true, recurses := true, apart := false }
def FnExactCostMoreSaid : Prop := fnExactCostMoreRow.holds Try.pinned (OpenSpec.ofChange fnExactCostMoreSpec)

/-- ITS FALSE NEIGHBOUR: 'it returns false'. Refute it at one input. -/
def fnExactCostMoreWrong : ChangeSpec := { name := "fnExactCostMore", fn := fun _ => fun
  | [d1, d2, d3] => { results := [.lit (.bool false)], args := [d1, d2, d3] }
  | _ => none }
def FnExactCostMoreWrongFalsely : Prop := fnExactCostMoreRow.holds Try.pinned (OpenSpec.ofChange fnExactCostMoreWrong)

/- THE SECOND FORM. 'bulk': how many values and letters a reading holds, each counted each time it is reached (what is shared counts as often as it is met; a slice's spare places count too). A statement '..UptoSaid' is the law's where the arguments, and the package variables that the reading takes, are together of bulk at most 1048576: NARROWER than '..Said'. Prove '..Said' where nothing that the law and all that it calls make is longer than what came in: it says more and counts as full. Else prove '..UptoSaid'. A law counts once. -/
mutual
def uptoBulk {H : Type} : DataW H → Nat
  | .lit (.string bytes) => bytes.length + 1
  | .lit _ => 1
  | .nil => 1
  | .ptr d => uptoBulk d + 1
  | .slice elems spare => uptoBulkAll elems + uptoBulkAll spare + 1
  | .agg parts => uptoBulkAll parts + 1
  | .iface _ d => uptoBulk d + 1
  | .map entries => uptoBulkEntries entries + 1
  | .held _ => 1
def uptoBulkAll {H : Type} : List (DataW H) → Nat
  | [] => 0
  | d :: r => uptoBulk d + uptoBulkAll r
def uptoBulkEntries {H : Type} : List (Lit × DataW H) → Nat
  | [] => 0
  | x :: r => uptoBulkEntry x + uptoBulkEntries r
def uptoBulkEntry {H : Type} : Lit × DataW H → Nat
  | (.string bytes, d) => bytes.length + uptoBulk d + 1
  | (_, d) => uptoBulk d + 1
 end
def uptoSmall : (H : Type) → List (DataW H) → Bool := fun _ ds => decide (uptoBulkAll ds ≤ 1048576)
def OpenSpec.upto (s : _root_.Go.ChangeSpec) : _root_.Go.OpenSpec := { _root_.Go.OpenSpec.ofChange s with cond := some uptoSmall }

/-- 'laws.FnExactMarketLeft', WHERE WHAT IT READS IS OF BULK AT MOST 1048576: true; the input reads as it did. -/
def fnExactMarketLeftUptoRow : OpenClaim := { program := "ytjhjfopokiaiiaa", sum := "321e62e20e0096bc106156b44e92262acff5121747a8b23f7563242e638a1183", func := "loop.example/matchpolys/laws.FnExactMarketLeft", spec := "fnExactMarketLeft", apart := false, narrowed := true }
def FnExactMarketLeftUptoSaid : Prop := fnExactMarketLeftUptoRow.holds Try.pinned (OpenSpec.upto fnExactMarketLeftSpec)

/-- 'laws.FnExactMarketRight', WHERE WHAT IT READS IS OF BULK AT MOST 1048576: true; the input reads as it did. -/
def fnExactMarketRightUptoRow : OpenClaim := { program := "ytjhjfopokiaiiaa", sum := "321e62e20e0096bc106156b44e92262acff5121747a8b23f7563242e638a1183", func := "loop.example/matchpolys/laws.FnExactMarketRight", spec := "fnExactMarketRight", apart := false, narrowed := true }
def FnExactMarketRightUptoSaid : Prop := fnExactMarketRightUptoRow.holds Try.pinned (OpenSpec.upto fnExactMarketRightSpec)

/-- 'laws.FnExactCostIn', WHERE WHAT IT READS IS OF BULK AT MOST 1048576: true; the input reads as it did. -/
def fnExactCostInUptoRow : OpenClaim := { program := "ytjhjfopokiaiiaa", sum := "321e62e20e0096bc106156b44e92262acff5121747a8b23f7563242e638a1183", func := "loop.example/matchpolys/laws.FnExactCostIn", spec := "fnExactCostIn", unfollowed := true, recurses := true, apart := false, narrowed := true }
def FnExactCostInUptoSaid : Prop := fnExactCostInUptoRow.holds Try.pinned (OpenSpec.upto fnExactCostInSpec)

/-- 'laws.FnExactCostOf', WHERE WHAT IT READS IS OF BULK AT MOST 1048576: true; the input reads as it did. -/
def fnExactCostOfUptoRow : OpenClaim := { program := "ytjhjfopokiaiiaa", sum := "321e62e20e0096bc106156b44e92262acff5121747a8b23f7563242e638a1183", func := "loop.example/matchpolys/laws.FnExactCostOf", spec := "fnExactCostOf", unfollowed := true, recurses := true, apart := false, narrowed := true }
def FnExactCostOfUptoSaid : Prop := fnExactCostOfUptoRow.holds Try.pinned (OpenSpec.upto fnExactCostOfSpec)

/-- 'laws.FnExactCostFit', WHERE WHAT IT READS IS OF BULK AT MOST 1048576: true; the input reads as it did. -/
def fnExactCostFitUptoRow : OpenClaim := { program := "ytjhjfopokiaiiaa", sum := "321e62e20e0096bc106156b44e92262acff5121747a8b23f7563242e638a1183", func := "loop.example/matchpolys/laws.FnExactCostFit", spec := "fnExactCostFit", unfollowed := true, recurses := true, apart := false, narrowed := true }
def FnExactCostFitUptoSaid : Prop := fnExactCostFitUptoRow.holds Try.pinned (OpenSpec.upto fnExactCostFitSpec)

/-- 'laws.FnExactCostTurned', WHERE WHAT IT READS IS OF BULK AT MOST 1048576: true; the input reads as it did. -/
def fnExactCostTurnedUptoRow : OpenClaim := { program := "ytjhjfopokiaiiaa", sum := "321e62e20e0096bc106156b44e92262acff5121747a8b23f7563242e638a1183", func := "loop.example/matchpolys/laws.FnExactCostTurned", spec := "fnExactCostTurned", unfollowed := true, recurses := true, apart := false, narrowed := true }
def FnExactCostTurnedUptoSaid : Prop := fnExactCostTurnedUptoRow.holds Try.pinned (OpenSpec.upto fnExactCostTurnedSpec)

/-- 'laws.FnExactCostMore', WHERE WHAT IT READS IS OF BULK AT MOST 1048576: true; the input reads as it did. -/
def fnExactCostMoreUptoRow : OpenClaim := { program := "ytjhjfopokiaiiaa", sum := "321e62e20e0096bc106156b44e92262acff5121747a8b23f7563242e638a1183", func := "loop.example/matchpolys/laws.FnExactCostMore", spec := "fnExactCostMore", unfollowed := true, recurses := true, apart := false, narrowed := true }
def FnExactCostMoreUptoSaid : Prop := fnExactCostMoreUptoRow.holds Try.pinned (OpenSpec.upto fnExactCostMoreSpec)

end Rows
end Go.Proofs.Ytjhjfopokiaiiaa
