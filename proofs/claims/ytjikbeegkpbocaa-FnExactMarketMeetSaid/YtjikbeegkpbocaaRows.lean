/-
  No cell of these rows narrows 'for every input' (looked for: loops, veiled, ifaces, maps, wideKeys, modest, calm, conditions, laid).
  DERIVED. THE GIVEN ROWS OF THIS SEAT. 9 by the template 'for every input the law returns true; each argument reads behind the call as it read before'; 0 by the template 'total and deterministic' (their statements: YtjikbeegkpbocaaTotals.lean).
  GIVEN WITH THE SEED: the statements are not yours to turn. If you find one false, say at which input.
  Laid BY PROGRAM, IN A SANDBOX (cutbox-rows.mjs): the forced cells as the released guide's own fill.sh prints them over the translation 54cefb377cc1b733… (all of the seat's roots in one cut). By AI agents, Wed Nov 11 2026. No macro, syntax, notation, axiom, sorry.
-/
import Derived.Test.YtjikbeegkpbocaaChecked
import GoSem.Claim
import GoSem.ClaimJoined
import GoSem.ClaimMapViews
import Derived.JoinedTies
import Derived.KernelRfl
namespace Go.Proofs.Ytjikbeegkpbocaa
/- THE CELL 'sum', in the pinned program and in every row, IS THE sha256 OF THE DUMP (.gsa) THAT YtjikbeegkpbocaaProg.lean LOADS. Nothing in Lean hashes anything: it is a label: what it is worth is what the hold of that sum in a sandbox is worth. -/
noncomputable def Try.pinned : Pinned := { name := "ytjikbeegkpbocaa", sum := "54cefb377cc1b733cddc5531aba6bb1f88f572ef6dfc01d711303b95e7b9184c", checked := Try.checked }
namespace Rows
def none {H : Type} : Left H := { results := [], args := [] }

/-- 'laws.FnExactMarketIn': WHATEVER THE INPUT: true; the input reads as it did. -/
def fnExactMarketInSpec : ChangeSpec := { name := "fnExactMarketIn", fn := fun _ => fun
  | [d] => { results := [.lit (.bool true)], args := [d] }
  | _ => none }
def fnExactMarketInRow : OpenClaim := { program := "ytjikbeegkpbocaa", sum := "54cefb377cc1b733cddc5531aba6bb1f88f572ef6dfc01d711303b95e7b9184c", func := "loop.example/matchpolys/laws.FnExactMarketIn", spec := "fnExactMarketIn", apart := false }
def FnExactMarketInSaid : Prop := fnExactMarketInRow.holds Try.pinned (OpenSpec.ofChange fnExactMarketInSpec)

/-- ITS FALSE NEIGHBOUR: 'it returns false'. Refute it at one input. -/
def fnExactMarketInWrong : ChangeSpec := { name := "fnExactMarketIn", fn := fun _ => fun
  | [d] => { results := [.lit (.bool false)], args := [d] }
  | _ => none }
def FnExactMarketInWrongFalsely : Prop := fnExactMarketInRow.holds Try.pinned (OpenSpec.ofChange fnExactMarketInWrong)

/-- 'laws.FnExactMarketPairing': WHATEVER THE INPUT: true; the input reads as it did. -/
def fnExactMarketPairingSpec : ChangeSpec := { name := "fnExactMarketPairing", fn := fun _ => fun
  | [d1, d2] => { results := [.lit (.bool true)], args := [d1, d2] }
  | _ => none }
def fnExactMarketPairingRow : OpenClaim := { program := "ytjikbeegkpbocaa", sum := "54cefb377cc1b733cddc5531aba6bb1f88f572ef6dfc01d711303b95e7b9184c", func := "loop.example/matchpolys/laws.FnExactMarketPairing", spec := "fnExactMarketPairing", apart := false }
def FnExactMarketPairingSaid : Prop := fnExactMarketPairingRow.holds Try.pinned (OpenSpec.ofChange fnExactMarketPairingSpec)

/-- ITS FALSE NEIGHBOUR: 'it returns false'. Refute it at one input. -/
def fnExactMarketPairingWrong : ChangeSpec := { name := "fnExactMarketPairing", fn := fun _ => fun
  | [d1, d2] => { results := [.lit (.bool false)], args := [d1, d2] }
  | _ => none }
def FnExactMarketPairingWrongFalsely : Prop := fnExactMarketPairingRow.holds Try.pinned (OpenSpec.ofChange fnExactMarketPairingWrong)

/-- 'laws.FnExactMarketCost': WHATEVER THE INPUT: true; the input reads as it did. -/
def fnExactMarketCostSpec : ChangeSpec := { name := "fnExactMarketCost", fn := fun _ => fun
  | [d1, d2] => { results := [.lit (.bool true)], args := [d1, d2] }
  | _ => none }
def fnExactMarketCostRow : OpenClaim := { program := "ytjikbeegkpbocaa", sum := "54cefb377cc1b733cddc5531aba6bb1f88f572ef6dfc01d711303b95e7b9184c", func := "loop.example/matchpolys/laws.FnExactMarketCost", spec := "fnExactMarketCost", apart := false }
def FnExactMarketCostSaid : Prop := fnExactMarketCostRow.holds Try.pinned (OpenSpec.ofChange fnExactMarketCostSpec)

/-- ITS FALSE NEIGHBOUR: 'it returns false'. Refute it at one input. -/
def fnExactMarketCostWrong : ChangeSpec := { name := "fnExactMarketCost", fn := fun _ => fun
  | [d1, d2] => { results := [.lit (.bool false)], args := [d1, d2] }
  | _ => none }
def FnExactMarketCostWrongFalsely : Prop := fnExactMarketCostRow.holds Try.pinned (OpenSpec.ofChange fnExactMarketCostWrong)

/-- 'laws.FnExactMarketTurned': WHATEVER THE INPUT: true; the input reads as it did. -/
def fnExactMarketTurnedSpec : ChangeSpec := { name := "fnExactMarketTurned", fn := fun _ => fun
  | [d] => { results := [.lit (.bool true)], args := [d] }
  | _ => none }
def fnExactMarketTurnedRow : OpenClaim := { program := "ytjikbeegkpbocaa", sum := "54cefb377cc1b733cddc5531aba6bb1f88f572ef6dfc01d711303b95e7b9184c", func := "loop.example/matchpolys/laws.FnExactMarketTurned", spec := "fnExactMarketTurned", apart := false }
def FnExactMarketTurnedSaid : Prop := fnExactMarketTurnedRow.holds Try.pinned (OpenSpec.ofChange fnExactMarketTurnedSpec)

/-- ITS FALSE NEIGHBOUR: 'it returns false'. Refute it at one input. -/
def fnExactMarketTurnedWrong : ChangeSpec := { name := "fnExactMarketTurned", fn := fun _ => fun
  | [d] => { results := [.lit (.bool false)], args := [d] }
  | _ => none }
def FnExactMarketTurnedWrongFalsely : Prop := fnExactMarketTurnedRow.holds Try.pinned (OpenSpec.ofChange fnExactMarketTurnedWrong)

/-- 'laws.FnExactMarketAbove': WHATEVER THE INPUT: true; the input reads as it did. -/
def fnExactMarketAboveSpec : ChangeSpec := { name := "fnExactMarketAbove", fn := fun _ => fun
  | [d1, d2, d3] => { results := [.lit (.bool true)], args := [d1, d2, d3] }
  | _ => none }
def fnExactMarketAboveRow : OpenClaim := { program := "ytjikbeegkpbocaa", sum := "54cefb377cc1b733cddc5531aba6bb1f88f572ef6dfc01d711303b95e7b9184c", func := "loop.example/matchpolys/laws.FnExactMarketAbove", spec := "fnExactMarketAbove", unfollowed := true, recurses := true, apart := false }
def FnExactMarketAboveSaid : Prop := fnExactMarketAboveRow.holds Try.pinned (OpenSpec.ofChange fnExactMarketAboveSpec)

/-- ITS FALSE NEIGHBOUR: 'it returns false'. Refute it at one input. -/
def fnExactMarketAboveWrong : ChangeSpec := { name := "fnExactMarketAbove", fn := fun _ => fun
  | [d1, d2, d3] => { results := [.lit (.bool false)], args := [d1, d2, d3] }
  | _ => none }
def FnExactMarketAboveWrongFalsely : Prop := fnExactMarketAboveRow.holds Try.pinned (OpenSpec.ofChange fnExactMarketAboveWrong)

/-- 'laws.FnExactMarketJoin': WHATEVER THE INPUT: true; the input reads as it did. -/
def fnExactMarketJoinSpec : ChangeSpec := { name := "fnExactMarketJoin", fn := fun _ => fun
  | [d1, d2, d3] => { results := [.lit (.bool true)], args := [d1, d2, d3] }
  | _ => none }
def fnExactMarketJoinRow : OpenClaim := { program := "ytjikbeegkpbocaa", sum := "54cefb377cc1b733cddc5531aba6bb1f88f572ef6dfc01d711303b95e7b9184c", func := "loop.example/matchpolys/laws.FnExactMarketJoin", spec := "fnExactMarketJoin", unfollowed := true, recurses := true, apart := false }
def FnExactMarketJoinSaid : Prop := fnExactMarketJoinRow.holds Try.pinned (OpenSpec.ofChange fnExactMarketJoinSpec)

/-- ITS FALSE NEIGHBOUR: 'it returns false'. Refute it at one input. -/
def fnExactMarketJoinWrong : ChangeSpec := { name := "fnExactMarketJoin", fn := fun _ => fun
  | [d1, d2, d3] => { results := [.lit (.bool false)], args := [d1, d2, d3] }
  | _ => none }
def FnExactMarketJoinWrongFalsely : Prop := fnExactMarketJoinRow.holds Try.pinned (OpenSpec.ofChange fnExactMarketJoinWrong)

/-- 'laws.FnExactMarketMeet': WHATEVER THE INPUT: true; the input reads as it did. -/
def fnExactMarketMeetSpec : ChangeSpec := { name := "fnExactMarketMeet", fn := fun _ => fun
  | [d1, d2, d3] => { results := [.lit (.bool true)], args := [d1, d2, d3] }
  | _ => none }
def fnExactMarketMeetRow : OpenClaim := { program := "ytjikbeegkpbocaa", sum := "54cefb377cc1b733cddc5531aba6bb1f88f572ef6dfc01d711303b95e7b9184c", func := "loop.example/matchpolys/laws.FnExactMarketMeet", spec := "fnExactMarketMeet", unfollowed := true, recurses := true, apart := false }
def FnExactMarketMeetSaid : Prop := fnExactMarketMeetRow.holds Try.pinned (OpenSpec.ofChange fnExactMarketMeetSpec)

/-- ITS FALSE NEIGHBOUR: 'it returns false'. Refute it at one input. -/
def fnExactMarketMeetWrong : ChangeSpec := { name := "fnExactMarketMeet", fn := fun _ => fun
  | [d1, d2, d3] => { results := [.lit (.bool false)], args := [d1, d2, d3] }
  | _ => none }
def FnExactMarketMeetWrongFalsely : Prop := fnExactMarketMeetRow.holds Try.pinned (OpenSpec.ofChange fnExactMarketMeetWrong)

/-- 'laws.FnExactMarketBlocks': WHATEVER THE INPUT: true; the input reads as it did. -/
def fnExactMarketBlocksSpec : ChangeSpec := { name := "fnExactMarketBlocks", fn := fun _ => fun
  | [d1, d2] => { results := [.lit (.bool true)], args := [d1, d2] }
  | _ => none }
def fnExactMarketBlocksRow : OpenClaim := { program := "ytjikbeegkpbocaa", sum := "54cefb377cc1b733cddc5531aba6bb1f88f572ef6dfc01d711303b95e7b9184c", func := "loop.example/matchpolys/laws.FnExactMarketBlocks", spec := "fnExactMarketBlocks", unfollowed := true, recurses := true, apart := false }
def FnExactMarketBlocksSaid : Prop := fnExactMarketBlocksRow.holds Try.pinned (OpenSpec.ofChange fnExactMarketBlocksSpec)

/-- ITS FALSE NEIGHBOUR: 'it returns false'. Refute it at one input. -/
def fnExactMarketBlocksWrong : ChangeSpec := { name := "fnExactMarketBlocks", fn := fun _ => fun
  | [d1, d2] => { results := [.lit (.bool false)], args := [d1, d2] }
  | _ => none }
def FnExactMarketBlocksWrongFalsely : Prop := fnExactMarketBlocksRow.holds Try.pinned (OpenSpec.ofChange fnExactMarketBlocksWrong)

/-- 'laws.FnCost': WHATEVER THE INPUT: true; the input reads as it did. -/
def fnCostSpec : ChangeSpec := { name := "fnCost", fn := fun _ => fun
  | [d] => { results := [.lit (.bool true)], args := [d] }
  | _ => none }
def fnCostRow : OpenClaim := { program := "ytjikbeegkpbocaa", sum := "54cefb377cc1b733cddc5531aba6bb1f88f572ef6dfc01d711303b95e7b9184c", func := "loop.example/matchpolys/laws.FnCost", spec := "fnCost", recurses := true, apart := false }
def FnCostSaid : Prop := fnCostRow.holds Try.pinned (OpenSpec.ofChange fnCostSpec)

/-- ITS FALSE NEIGHBOUR: 'it returns false'. Refute it at one input. -/
def fnCostWrong : ChangeSpec := { name := "fnCost", fn := fun _ => fun
  | [d] => { results := [.lit (.bool false)], args := [d] }
  | _ => none }
def FnCostWrongFalsely : Prop := fnCostRow.holds Try.pinned (OpenSpec.ofChange fnCostWrong)

/- THE SECOND FORM. 'bulk': how many values and letters a reading holds, each counted each time it is reached (what is shared counts as often as it is met; a slice's spare places count too). A statement '..UptoSaid' is the law's where the arguments, and the package variables that the reading takes, are together of bulk at most 1048576: NARROWER than '..Said'. Prove '..Said' where nothing that the law and all that it calls make is longer than what came in: it says more and counts as full. Else prove '..UptoSaid'. A law counts once. -/
mutual
def uptoBulk {H : Type} : DataW H → Nat
  | .lit (.string bytes) => bytes.length + 1
  | .lit _ => 1
  | .nil => 1
  | .ptr d => uptoBulk d + 1
  | .slice elems spare => uptoBulkAll elems + uptoBulkAll spare + 1
  | .agg parts => uptoBulkAll parts + 1
  | .iface _ d => uptoBulk d + 1
  | .map entries => uptoBulkEntries entries + 1
  | .held _ => 1
def uptoBulkAll {H : Type} : List (DataW H) → Nat
  | [] => 0
  | d :: r => uptoBulk d + uptoBulkAll r
def uptoBulkEntries {H : Type} : List (Lit × DataW H) → Nat
  | [] => 0
  | x :: r => uptoBulkEntry x + uptoBulkEntries r
def uptoBulkEntry {H : Type} : Lit × DataW H → Nat
  | (.string bytes, d) => bytes.length + uptoBulk d + 1
  | (_, d) => uptoBulk d + 1
 end
def uptoSmall : (H : Type) → List (DataW H) → Bool := fun _ ds => decide (uptoBulkAll ds ≤ 1048576)
def OpenSpec.upto (s : _root_.Go.ChangeSpec) : _root_.Go.OpenSpec := { _root_.Go.OpenSpec.ofChange s with cond := some uptoSmall }

/-- 'laws.FnExactMarketIn', WHERE WHAT IT READS IS OF BULK AT MOST 1048576: true; the input reads as it did. -/
def fnExactMarketInUptoRow : OpenClaim := { program := "ytjikbeegkpbocaa", sum := "54cefb377cc1b733cddc5531aba6bb1f88f572ef6dfc01d711303b95e7b9184c", func := "loop.example/matchpolys/laws.FnExactMarketIn", spec := "fnExactMarketIn", apart := false, narrowed := true }
def FnExactMarketInUptoSaid : Prop := fnExactMarketInUptoRow.holds Try.pinned (OpenSpec.upto fnExactMarketInSpec)

/-- 'laws.FnExactMarketPairing', WHERE WHAT IT READS IS OF BULK AT MOST 1048576: true; the input reads as it did. -/
def fnExactMarketPairingUptoRow : OpenClaim := { program := "ytjikbeegkpbocaa", sum := "54cefb377cc1b733cddc5531aba6bb1f88f572ef6dfc01d711303b95e7b9184c", func := "loop.example/matchpolys/laws.FnExactMarketPairing", spec := "fnExactMarketPairing", apart := false, narrowed := true }
def FnExactMarketPairingUptoSaid : Prop := fnExactMarketPairingUptoRow.holds Try.pinned (OpenSpec.upto fnExactMarketPairingSpec)

/-- 'laws.FnExactMarketCost', WHERE WHAT IT READS IS OF BULK AT MOST 1048576: true; the input reads as it did. -/
def fnExactMarketCostUptoRow : OpenClaim := { program := "ytjikbeegkpbocaa", sum := "54cefb377cc1b733cddc5531aba6bb1f88f572ef6dfc01d711303b95e7b9184c", func := "loop.example/matchpolys/laws.FnExactMarketCost", spec := "fnExactMarketCost", apart := false, narrowed := true }
def FnExactMarketCostUptoSaid : Prop := fnExactMarketCostUptoRow.holds Try.pinned (OpenSpec.upto fnExactMarketCostSpec)

/-- 'laws.FnExactMarketTurned', WHERE WHAT IT READS IS OF BULK AT MOST 1048576: true; the input reads as it did. -/
def fnExactMarketTurnedUptoRow : OpenClaim := { program := "ytjikbeegkpbocaa", sum := "54cefb377cc1b733cddc5531aba6bb1f88f572ef6dfc01d711303b95e7b9184c", func := "loop.example/matchpolys/laws.FnExactMarketTurned", spec := "fnExactMarketTurned", apart := false, narrowed := true }
def FnExactMarketTurnedUptoSaid : Prop := fnExactMarketTurnedUptoRow.holds Try.pinned (OpenSpec.upto fnExactMarketTurnedSpec)

/-- 'laws.FnExactMarketAbove', WHERE WHAT IT READS IS OF BULK AT MOST 1048576: true; the input reads as it did. -/
def fnExactMarketAboveUptoRow : OpenClaim := { program := "ytjikbeegkpbocaa", sum := "54cefb377cc1b733cddc5531aba6bb1f88f572ef6dfc01d711303b95e7b9184c", func := "loop.example/matchpolys/laws.FnExactMarketAbove", spec := "fnExactMarketAbove", unfollowed := true, recurses := true, apart := false, narrowed := true }
def FnExactMarketAboveUptoSaid : Prop := fnExactMarketAboveUptoRow.holds Try.pinned (OpenSpec.upto fnExactMarketAboveSpec)

/-- 'laws.FnExactMarketJoin', WHERE WHAT IT READS IS OF BULK AT MOST 1048576: true; the input reads as it did. -/
def fnExactMarketJoinUptoRow : OpenClaim := { program := "ytjikbeegkpbocaa", sum := "54cefb377cc1b733cddc5531aba6bb1f88f572ef6dfc01d711303b95e7b9184c", func := "loop.example/matchpolys/laws.FnExactMarketJoin", spec := "fnExactMarketJoin", unfollowed := true, recurses := true, apart := false, narrowed := true }
def FnExactMarketJoinUptoSaid : Prop := fnExactMarketJoinUptoRow.holds Try.pinned (OpenSpec.upto fnExactMarketJoinSpec)

/-- 'laws.FnExactMarketMeet', WHERE WHAT IT READS IS OF BULK AT MOST 1048576: true; the input reads as it did. -/
def fnExactMarketMeetUptoRow : OpenClaim := { program := "ytjikbeegkpbocaa", sum := "54cefb377cc1b733cddc5531aba6bb1f88f572ef6dfc01d711303b95e7b9184c", func := "loop.example/matchpolys/laws.FnExactMarketMeet", spec := "fnExactMarketMeet", unfollowed := true, recurses := true, apart := false, narrowed := true }
def FnExactMarketMeetUptoSaid : Prop := fnExactMarketMeetUptoRow.holds Try.pinned (OpenSpec.upto fnExactMarketMeetSpec)

/-- 'laws.FnExactMarketBlocks', WHERE WHAT IT READS IS OF BULK AT MOST 1048576: true; the input reads as it did. -/
def fnExactMarketBlocksUptoRow : OpenClaim := { program := "ytjikbeegkpbocaa", sum := "54cefb377cc1b733cddc5531aba6bb1f88f572ef6dfc01d711303b95e7b9184c", func := "loop.example/matchpolys/laws.FnExactMarketBlocks", spec := "fnExactMarketBlocks", unfollowed := true, recurses := true, apart := false, narrowed := true }
def FnExactMarketBlocksUptoSaid : Prop := fnExactMarketBlocksUptoRow.holds Try.pinned (OpenSpec.upto fnExactMarketBlocksSpec)

/-- 'laws.FnCost', WHERE WHAT IT READS IS OF BULK AT MOST 1048576: true; the input reads as it did. -/
def fnCostUptoRow : OpenClaim := { program := "ytjikbeegkpbocaa", sum := "54cefb377cc1b733cddc5531aba6bb1f88f572ef6dfc01d711303b95e7b9184c", func := "loop.example/matchpolys/laws.FnCost", spec := "fnCost", recurses := true, apart := false, narrowed := true }
def FnCostUptoSaid : Prop := fnCostUptoRow.holds Try.pinned (OpenSpec.upto fnCostSpec)

end Rows
end Go.Proofs.Ytjikbeegkpbocaa
