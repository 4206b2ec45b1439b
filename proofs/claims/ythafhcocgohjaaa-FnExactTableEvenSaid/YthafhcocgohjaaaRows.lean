/-
  No cell of these rows narrows 'for every input' (looked for: loops, veiled, ifaces, maps, wideKeys, modest, calm, conditions, laid).
  DERIVED. THE GIVEN ROWS OF THIS SEAT. 3 by the template 'for every input the law returns true; each argument reads behind the call as it read before'; 0 by the template 'total and deterministic' (their statements: YthafhcocgohjaaaTotals.lean).
  GIVEN WITH THE SEED: the statements are not yours to turn. If you find one false, say at which input.
  Laid BY PROGRAM, IN A SANDBOX (cutbox-rows.mjs): the forced cells as the released guide's own fill.sh prints them over the translation 571efe1528d584f9… (all of the seat's roots in one cut). By AI agents, Wed Nov 11 2026. No macro, syntax, notation, axiom, sorry.
-/
import Derived.Test.YthafhcocgohjaaaChecked
import GoSem.Claim
import GoSem.ClaimJoined
import GoSem.ClaimMapViews
import Derived.JoinedTies
import Derived.KernelRfl
namespace Go.Proofs.Ythafhcocgohjaaa
/- THE CELL 'sum', in the pinned program and in every row, IS THE sha256 OF THE DUMP (.gsa) THAT YthafhcocgohjaaaProg.lean LOADS. Nothing in Lean hashes anything: it is a label: what it is worth is what the hold of that sum in a sandbox is worth. -/
noncomputable def Try.pinned : Pinned := { name := "ythafhcocgohjaaa", sum := "571efe1528d584f9669716df0244b9193797baffddfca1cccc57173f37814ef6", checked := Try.checked }
namespace Rows
def none {H : Type} : Left H := { results := [], args := [] }

/-- 'laws.FnExactTableIn': WHATEVER THE INPUT: true; the input reads as it did. -/
def fnExactTableInSpec : ChangeSpec := { name := "fnExactTableIn", fn := fun _ => fun
  | [d] => { results := [.lit (.bool true)], args := [d] }
  | _ => none }
def fnExactTableInRow : OpenClaim := { program := "ythafhcocgohjaaa", sum := "571efe1528d584f9669716df0244b9193797baffddfca1cccc57173f37814ef6", func := "loop.example/matchpolys/laws.FnExactTableIn", spec := "fnExactTableIn", apart := false }
def FnExactTableInSaid : Prop := fnExactTableInRow.holds Try.pinned (OpenSpec.ofChange fnExactTableInSpec)

/-- ITS FALSE NEIGHBOUR: 'it returns false'. Refute it at one input. -/
def fnExactTableInWrong : ChangeSpec := { name := "fnExactTableIn", fn := fun _ => fun
  | [d] => { results := [.lit (.bool false)], args := [d] }
  | _ => none }
def FnExactTableInWrongFalsely : Prop := fnExactTableInRow.holds Try.pinned (OpenSpec.ofChange fnExactTableInWrong)

/-- 'laws.FnExactTableSkew': WHATEVER THE INPUT: true; the input reads as it did. -/
def fnExactTableSkewSpec : ChangeSpec := { name := "fnExactTableSkew", fn := fun _ => fun
  | [d] => { results := [.lit (.bool true)], args := [d] }
  | _ => none }
def fnExactTableSkewRow : OpenClaim := { program := "ythafhcocgohjaaa", sum := "571efe1528d584f9669716df0244b9193797baffddfca1cccc57173f37814ef6", func := "loop.example/matchpolys/laws.FnExactTableSkew", spec := "fnExactTableSkew", apart := false }
def FnExactTableSkewSaid : Prop := fnExactTableSkewRow.holds Try.pinned (OpenSpec.ofChange fnExactTableSkewSpec)

/-- ITS FALSE NEIGHBOUR: 'it returns false'. Refute it at one input. -/
def fnExactTableSkewWrong : ChangeSpec := { name := "fnExactTableSkew", fn := fun _ => fun
  | [d] => { results := [.lit (.bool false)], args := [d] }
  | _ => none }
def FnExactTableSkewWrongFalsely : Prop := fnExactTableSkewRow.holds Try.pinned (OpenSpec.ofChange fnExactTableSkewWrong)

/-- 'laws.FnExactTableEven': WHATEVER THE INPUT: true; the input reads as it did. -/
def fnExactTableEvenSpec : ChangeSpec := { name := "fnExactTableEven", fn := fun _ => fun
  | [d] => { results := [.lit (.bool true)], args := [d] }
  | _ => none }
def fnExactTableEvenRow : OpenClaim := { program := "ythafhcocgohjaaa", sum := "571efe1528d584f9669716df0244b9193797baffddfca1cccc57173f37814ef6", func := "loop.example/matchpolys/laws.FnExactTableEven", spec := "fnExactTableEven", apart := false }
def FnExactTableEvenSaid : Prop := fnExactTableEvenRow.holds Try.pinned (OpenSpec.ofChange fnExactTableEvenSpec)

/-- ITS FALSE NEIGHBOUR: 'it returns false'. Refute it at one input. -/
def fnExactTableEvenWrong : ChangeSpec := { name := "fnExactTableEven", fn := fun _ => fun
  | [d] => { results := [.lit (.bool false)], args := [d] }
  | _ => none }
def FnExactTableEvenWrongFalsely : Prop := fnExactTableEvenRow.holds Try.pinned (OpenSpec.ofChange fnExactTableEvenWrong)

/- THE SECOND FORM. 'bulk': how many values and letters a reading holds, each counted each time it is reached (what is shared counts as often as it is met; a slice's spare places count too). A statement '..UptoSaid' is the law's where the arguments, and the package variables that the reading takes, are together of bulk at most 1048576: NARROWER than '..Said'. Prove '..Said' where nothing that the law and all that it calls make is longer than what came in: it says more and counts as full. Else prove '..UptoSaid'. A law counts once. -/
mutual
def uptoBulk {H : Type} : DataW H → Nat
  | .lit (.string bytes) => bytes.length + 1
  | .lit _ => 1
  | .nil => 1
  | .ptr d => uptoBulk d + 1
  | .slice elems spare => uptoBulkAll elems + uptoBulkAll spare + 1
  | .agg parts => uptoBulkAll parts + 1
  | .iface _ d => uptoBulk d + 1
  | .map entries => uptoBulkEntries entries + 1
  | .held _ => 1
def uptoBulkAll {H : Type} : List (DataW H) → Nat
  | [] => 0
  | d :: r => uptoBulk d + uptoBulkAll r
def uptoBulkEntries {H : Type} : List (Lit × DataW H) → Nat
  | [] => 0
  | x :: r => uptoBulkEntry x + uptoBulkEntries r
def uptoBulkEntry {H : Type} : Lit × DataW H → Nat
  | (.string bytes, d) => bytes.length + uptoBulk d + 1
  | (_, d) => uptoBulk d + 1
 end
def uptoSmall : (H : Type) → List (DataW H) → Bool := fun _ ds => decide (uptoBulkAll ds ≤ 1048576)
def OpenSpec.upto (s : _root_.Go.ChangeSpec) : _root_.Go.OpenSpec := { _root_.Go.OpenSpec.ofChange s with cond := some uptoSmall }

/-- 'laws.FnExactTableIn', WHERE WHAT IT READS IS OF BULK AT MOST 1048576: true; the input reads as it did. -/
def fnExactTableInUptoRow : OpenClaim := { program := "ythafhcocgohjaaa", sum := "571efe1528d584f9669716df0244b9193797baffddfca1cccc57173f37814ef6", func := "loop.example/matchpolys/laws.FnExactTableIn", spec := "fnExactTableIn", apart := false, narrowed := true }
def FnExactTableInUptoSaid : Prop := fnExactTableInUptoRow.holds Try.pinned (OpenSpec.upto fnExactTableInSpec)

/-- 'laws.FnExactTableSkew', WHERE WHAT IT READS IS OF BULK AT MOST 1048576: true; the input reads as it did. -/
def fnExactTableSkewUptoRow : OpenClaim := { program := "ythafhcocgohjaaa", sum := "571efe1528d584f9669716df0244b9193797baffddfca1cccc57173f37814ef6", func := "loop.example/matchpolys/laws.FnExactTableSkew", spec := "fnExactTableSkew", apart := false, narrowed := true }
def FnExactTableSkewUptoSaid : Prop := fnExactTableSkewUptoRow.holds Try.pinned (OpenSpec.upto fnExactTableSkewSpec)

/-- 'laws.FnExactTableEven', WHERE WHAT IT READS IS OF BULK AT MOST 1048576: true; the input reads as it did. -/
def fnExactTableEvenUptoRow : OpenClaim := { program := "ythafhcocgohjaaa", sum := "571efe1528d584f9669716df0244b9193797baffddfca1cccc57173f37814ef6", func := "loop.example/matchpolys/laws.FnExactTableEven", spec := "fnExactTableEven", apart := false, narrowed := true }
def FnExactTableEvenUptoSaid : Prop := fnExactTableEvenUptoRow.holds Try.pinned (OpenSpec.upto fnExactTableEvenSpec)

end Rows
end Go.Proofs.Ythafhcocgohjaaa
