/-
  No cell of these rows narrows 'for every input' (looked for: loops, veiled, ifaces, maps, wideKeys, modest, calm, conditions, laid).
  DERIVED. THE GIVEN ROWS OF THIS SEAT. 5 by the template 'for every input the law returns true; each argument reads behind the call as it read before'; 0 by the template 'total and deterministic' (their statements: YtldnipbpjohikabTotals.lean).
  GIVEN WITH THE SEED: the statements are not yours to turn. If you find one false, say at which input.
  Laid BY PROGRAM, IN A SANDBOX (cutbox-rows.mjs): the forced cells as the released guide's own fill.sh prints them over the translation ad0ffc95ab335a46… (all of the seat's roots in one cut). By AI agents, Wed Nov 11 2026. No macro, syntax, notation, axiom, sorry.
-/
import Derived.Test.YtldnipbpjohikabChecked
import GoSem.Claim
import GoSem.ClaimJoined
import GoSem.ClaimMapViews
import Derived.JoinedTies
import Derived.KernelRfl
namespace Go.Proofs.Ytldnipbpjohikab
/- THE CELL 'sum', in the pinned program and in every row, IS THE sha256 OF THE DUMP (.gsa) THAT YtldnipbpjohikabProg.lean LOADS. Nothing in Lean hashes anything: it is a label: what it is worth is what the hold of that sum in a sandbox is worth. -/
noncomputable def Try.pinned : Pinned := { name := "ytldnipbpjohikab", sum := "ad0ffc95ab335a461576564fe58d34a07009a0b5bc8bf903cd91f045100ffd21", checked := Try.checked }
namespace Rows
def none {H : Type} : Left H := { results := [], args := [] }

/-- 'laws.FnPoly': WHATEVER THE INPUT: true; the input reads as it did. -/
def fnPolySpec : ChangeSpec := { name := "fnPoly", fn := fun _ => fun
  | [d] => { results := [.lit (.bool true)], args := [d] }
  | _ => none }
def fnPolyRow : OpenClaim := { program := "ytldnipbpjohikab", sum := "ad0ffc95ab335a461576564fe58d34a07009a0b5bc8bf903cd91f045100ffd21", func := "loop.example/matchpolys/laws.FnPoly", spec := "fnPoly", unfollowed := true, recurses := true, apart := false }
def FnPolySaid : Prop := fnPolyRow.holds Try.pinned (OpenSpec.ofChange fnPolySpec)

/-- ITS FALSE NEIGHBOUR: 'it returns false'. Refute it at one input. -/
def fnPolyWrong : ChangeSpec := { name := "fnPoly", fn := fun _ => fun
  | [d] => { results := [.lit (.bool false)], args := [d] }
  | _ => none }
def FnPolyWrongFalsely : Prop := fnPolyRow.holds Try.pinned (OpenSpec.ofChange fnPolyWrong)

/-- 'laws.FnPolyAdd': WHATEVER THE INPUT: true; the input reads as it did. -/
def fnPolyAddSpec : ChangeSpec := { name := "fnPolyAdd", fn := fun _ => fun
  | [d] => { results := [.lit (.bool true)], args := [d] }
  | _ => none }
def fnPolyAddRow : OpenClaim := { program := "ytldnipbpjohikab", sum := "ad0ffc95ab335a461576564fe58d34a07009a0b5bc8bf903cd91f045100ffd21", func := "loop.example/matchpolys/laws.FnPolyAdd", spec := "fnPolyAdd", unfollowed := true, recurses := true, apart := false }
def FnPolyAddSaid : Prop := fnPolyAddRow.holds Try.pinned (OpenSpec.ofChange fnPolyAddSpec)

/-- ITS FALSE NEIGHBOUR: 'it returns false'. Refute it at one input. -/
def fnPolyAddWrong : ChangeSpec := { name := "fnPolyAdd", fn := fun _ => fun
  | [d] => { results := [.lit (.bool false)], args := [d] }
  | _ => none }
def FnPolyAddWrongFalsely : Prop := fnPolyAddRow.holds Try.pinned (OpenSpec.ofChange fnPolyAddWrong)

/-- 'laws.FnPolyTimes': WHATEVER THE INPUT: true; the input reads as it did. -/
def fnPolyTimesSpec : ChangeSpec := { name := "fnPolyTimes", fn := fun _ => fun
  | [d] => { results := [.lit (.bool true)], args := [d] }
  | _ => none }
def fnPolyTimesRow : OpenClaim := { program := "ytldnipbpjohikab", sum := "ad0ffc95ab335a461576564fe58d34a07009a0b5bc8bf903cd91f045100ffd21", func := "loop.example/matchpolys/laws.FnPolyTimes", spec := "fnPolyTimes", unfollowed := true, recurses := true, apart := false }
def FnPolyTimesSaid : Prop := fnPolyTimesRow.holds Try.pinned (OpenSpec.ofChange fnPolyTimesSpec)

/-- ITS FALSE NEIGHBOUR: 'it returns false'. Refute it at one input. -/
def fnPolyTimesWrong : ChangeSpec := { name := "fnPolyTimes", fn := fun _ => fun
  | [d] => { results := [.lit (.bool false)], args := [d] }
  | _ => none }
def FnPolyTimesWrongFalsely : Prop := fnPolyTimesRow.holds Try.pinned (OpenSpec.ofChange fnPolyTimesWrong)

/-- 'laws.FnPolyDerive': WHATEVER THE INPUT: true; the input reads as it did. -/
def fnPolyDeriveSpec : ChangeSpec := { name := "fnPolyDerive", fn := fun _ => fun
  | [d] => { results := [.lit (.bool true)], args := [d] }
  | _ => none }
def fnPolyDeriveRow : OpenClaim := { program := "ytldnipbpjohikab", sum := "ad0ffc95ab335a461576564fe58d34a07009a0b5bc8bf903cd91f045100ffd21", func := "loop.example/matchpolys/laws.FnPolyDerive", spec := "fnPolyDerive", unfollowed := true, recurses := true, apart := false }
def FnPolyDeriveSaid : Prop := fnPolyDeriveRow.holds Try.pinned (OpenSpec.ofChange fnPolyDeriveSpec)

/-- ITS FALSE NEIGHBOUR: 'it returns false'. Refute it at one input. -/
def fnPolyDeriveWrong : ChangeSpec := { name := "fnPolyDerive", fn := fun _ => fun
  | [d] => { results := [.lit (.bool false)], args := [d] }
  | _ => none }
def FnPolyDeriveWrongFalsely : Prop := fnPolyDeriveRow.holds Try.pinned (OpenSpec.ofChange fnPolyDeriveWrong)

/-- 'laws.FnPolyAt': WHATEVER THE INPUT: true; the input reads as it did. -/
def fnPolyAtSpec : ChangeSpec := { name := "fnPolyAt", fn := fun _ => fun
  | [d] => { results := [.lit (.bool true)], args := [d] }
  | _ => none }
def fnPolyAtRow : OpenClaim := { program := "ytldnipbpjohikab", sum := "ad0ffc95ab335a461576564fe58d34a07009a0b5bc8bf903cd91f045100ffd21", func := "loop.example/matchpolys/laws.FnPolyAt", spec := "fnPolyAt", apart := false }
def FnPolyAtSaid : Prop := fnPolyAtRow.holds Try.pinned (OpenSpec.ofChange fnPolyAtSpec)

/-- ITS FALSE NEIGHBOUR: 'it returns false'. Refute it at one input. -/
def fnPolyAtWrong : ChangeSpec := { name := "fnPolyAt", fn := fun _ => fun
  | [d] => { results := [.lit (.bool false)], args := [d] }
  | _ => none }
def FnPolyAtWrongFalsely : Prop := fnPolyAtRow.holds Try.pinned (OpenSpec.ofChange fnPolyAtWrong)

/- THE SECOND FORM. 'bulk': how many values and letters a reading holds, each counted each time it is reached (what is shared counts as often as it is met; a slice's spare places count too). A statement '..UptoSaid' is the law's where the arguments, and the package variables that the reading takes, are together of bulk at most 1048576: NARROWER than '..Said'. Prove '..Said' where nothing that the law and all that it calls make is longer than what came in: it says more and counts as full. Else prove '..UptoSaid'. A law counts once. -/
mutual
def uptoBulk {H : Type} : DataW H → Nat
  | .lit (.string bytes) => bytes.length + 1
  | .lit _ => 1
  | .nil => 1
  | .ptr d => uptoBulk d + 1
  | .slice elems spare => uptoBulkAll elems + uptoBulkAll spare + 1
  | .agg parts => uptoBulkAll parts + 1
  | .iface _ d => uptoBulk d + 1
  | .map entries => uptoBulkEntries entries + 1
  | .held _ => 1
def uptoBulkAll {H : Type} : List (DataW H) → Nat
  | [] => 0
  | d :: r => uptoBulk d + uptoBulkAll r
def uptoBulkEntries {H : Type} : List (Lit × DataW H) → Nat
  | [] => 0
  | x :: r => uptoBulkEntry x + uptoBulkEntries r
def uptoBulkEntry {H : Type} : Lit × DataW H → Nat
  | (.string bytes, d) => bytes.length + uptoBulk d + 1
  | (_, d) => uptoBulk d + 1
 end
def uptoSmall : (H : Type) → List (DataW H) → Bool := fun _ ds => decide (uptoBulkAll ds ≤ 1048576)
def OpenSpec.upto (s : _root_.Go.ChangeSpec) : _root_.Go.OpenSpec := { _root_.Go.OpenSpec.ofChange s with cond := some uptoSmall }

/-- 'laws.FnPoly', WHERE WHAT IT READS IS OF BULK AT MOST 1048576: true; the input reads as it did. -/
def fnPolyUptoRow : OpenClaim := { program := "ytldnipbpjohikab", sum := "ad0ffc95ab335a461576564fe58d34a07009a0b5bc8bf903cd91f045100ffd21", func := "loop.example/matchpolys/laws.FnPoly", spec := "fnPoly", unfollowed := true, recurses := true, apart := false, narrowed := true }
def FnPolyUptoSaid : Prop := fnPolyUptoRow.holds Try.pinned (OpenSpec.upto fnPolySpec)

/-- 'laws.FnPolyAdd', WHERE WHAT IT READS IS OF BULK AT MOST 1048576: true; the input reads as it did. -/
def fnPolyAddUptoRow : OpenClaim := { program := "ytldnipbpjohikab", sum := "ad0ffc95ab335a461576564fe58d34a07009a0b5bc8bf903cd91f045100ffd21", func := "loop.example/matchpolys/laws.FnPolyAdd", spec := "fnPolyAdd", unfollowed := true, recurses := true, apart := false, narrowed := true }
def FnPolyAddUptoSaid : Prop := fnPolyAddUptoRow.holds Try.pinned (OpenSpec.upto fnPolyAddSpec)

/-- 'laws.FnPolyTimes', WHERE WHAT IT READS IS OF BULK AT MOST 1048576: true; the input reads as it did. -/
def fnPolyTimesUptoRow : OpenClaim := { program := "ytldnipbpjohikab", sum := "ad0ffc95ab335a461576564fe58d34a07009a0b5bc8bf903cd91f045100ffd21", func := "loop.example/matchpolys/laws.FnPolyTimes", spec := "fnPolyTimes", unfollowed := true, recurses := true, apart := false, narrowed := true }
def FnPolyTimesUptoSaid : Prop := fnPolyTimesUptoRow.holds Try.pinned (OpenSpec.upto fnPolyTimesSpec)

/-- 'laws.FnPolyDerive', WHERE WHAT IT READS IS OF BULK AT MOST 1048576: true; the input reads as it did. -/
def fnPolyDeriveUptoRow : OpenClaim := { program := "ytldnipbpjohikab", sum := "ad0ffc95ab335a461576564fe58d34a07009a0b5bc8bf903cd91f045100ffd21", func := "loop.example/matchpolys/laws.FnPolyDerive", spec := "fnPolyDerive", unfollowed := true, recurses := true, apart := false, narrowed := true }
def FnPolyDeriveUptoSaid : Prop := fnPolyDeriveUptoRow.holds Try.pinned (OpenSpec.upto fnPolyDeriveSpec)

/-- 'laws.FnPolyAt', WHERE WHAT IT READS IS OF BULK AT MOST 1048576: true; the input reads as it did. -/
def fnPolyAtUptoRow : OpenClaim := { program := "ytldnipbpjohikab", sum := "ad0ffc95ab335a461576564fe58d34a07009a0b5bc8bf903cd91f045100ffd21", func := "loop.example/matchpolys/laws.FnPolyAt", spec := "fnPolyAt", apart := false, narrowed := true }
def FnPolyAtUptoSaid : Prop := fnPolyAtUptoRow.holds Try.pinned (OpenSpec.upto fnPolyAtSpec)

end Rows
end Go.Proofs.Ytldnipbpjohikab
