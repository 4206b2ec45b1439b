/-
  No cell of these rows narrows 'for every input' (looked for: loops, veiled, ifaces, maps, wideKeys, modest, calm, conditions, laid).
  DERIVED. THE GIVEN ROWS OF THIS SEAT. 8 by the template 'for every input the law returns true; each argument reads behind the call as it read before'; 0 by the template 'total and deterministic' (their statements: YtldnipbpjohikaaTotals.lean).
  GIVEN WITH THE SEED: the statements are not yours to turn. If you find one false, say at which input.
  Laid BY PROGRAM, IN A SANDBOX (cutbox-rows.mjs): the forced cells as the released guide's own fill.sh prints them over the translation 0bbf4a18be82707c… (all of the seat's roots in one cut). By AI agents, Wed Nov 11 2026. No macro, syntax, notation, axiom, sorry.
-/
import Derived.Test.YtldnipbpjohikaaChecked
import GoSem.Claim
import GoSem.ClaimJoined
import GoSem.ClaimMapViews
import Derived.JoinedTies
import Derived.KernelRfl
namespace Go.Proofs.Ytldnipbpjohikaa
/- THE CELL 'sum', in the pinned program and in every row, IS THE sha256 OF THE DUMP (.gsa) THAT YtldnipbpjohikaaProg.lean LOADS. Nothing in Lean hashes anything: it is a label: what it is worth is what the hold of that sum in a sandbox is worth. -/
noncomputable def Try.pinned : Pinned := { name := "ytldnipbpjohikaa", sum := "0bbf4a18be82707cd69a6c3db14e8cd7ac9e8f7fb751119375fc5f1315ebafb0", checked := Try.checked }
namespace Rows
def none {H : Type} : Left H := { results := [], args := [] }

/-- 'laws.FnExactPolyIn': WHATEVER THE INPUT: true; the input reads as it did. -/
def fnExactPolyInSpec : ChangeSpec := { name := "fnExactPolyIn", fn := fun _ => fun
  | [d] => { results := [.lit (.bool true)], args := [d] }
  | _ => none }
def fnExactPolyInRow : OpenClaim := { program := "ytldnipbpjohikaa", sum := "0bbf4a18be82707cd69a6c3db14e8cd7ac9e8f7fb751119375fc5f1315ebafb0", func := "loop.example/matchpolys/laws.FnExactPolyIn", spec := "fnExactPolyIn", apart := false }
def FnExactPolyInSaid : Prop := fnExactPolyInRow.holds Try.pinned (OpenSpec.ofChange fnExactPolyInSpec)

/-- ITS FALSE NEIGHBOUR: 'it returns false'. Refute it at one input. -/
def fnExactPolyInWrong : ChangeSpec := { name := "fnExactPolyIn", fn := fun _ => fun
  | [d] => { results := [.lit (.bool false)], args := [d] }
  | _ => none }
def FnExactPolyInWrongFalsely : Prop := fnExactPolyInRow.holds Try.pinned (OpenSpec.ofChange fnExactPolyInWrong)

/-- 'laws.FnExactPolyAdd': WHATEVER THE INPUT: true; the input reads as it did. -/
def fnExactPolyAddSpec : ChangeSpec := { name := "fnExactPolyAdd", fn := fun _ => fun
  | [d1, d2] => { results := [.lit (.bool true)], args := [d1, d2] }
  | _ => none }
def fnExactPolyAddRow : OpenClaim := { program := "ytldnipbpjohikaa", sum := "0bbf4a18be82707cd69a6c3db14e8cd7ac9e8f7fb751119375fc5f1315ebafb0", func := "loop.example/matchpolys/laws.FnExactPolyAdd", spec := "fnExactPolyAdd", unfollowed := true, recurses := true, apart := false }
def FnExactPolyAddSaid : Prop := fnExactPolyAddRow.holds Try.pinned (OpenSpec.ofChange fnExactPolyAddSpec)

/-- ITS FALSE NEIGHBOUR: 'it returns false'. Refute it at one input. -/
def fnExactPolyAddWrong : ChangeSpec := { name := "fnExactPolyAdd", fn := fun _ => fun
  | [d1, d2] => { results := [.lit (.bool false)], args := [d1, d2] }
  | _ => none }
def FnExactPolyAddWrongFalsely : Prop := fnExactPolyAddRow.holds Try.pinned (OpenSpec.ofChange fnExactPolyAddWrong)

/-- 'laws.FnExactPolyTimes': WHATEVER THE INPUT: true; the input reads as it did. -/
def fnExactPolyTimesSpec : ChangeSpec := { name := "fnExactPolyTimes", fn := fun _ => fun
  | [d1, d2] => { results := [.lit (.bool true)], args := [d1, d2] }
  | _ => none }
def fnExactPolyTimesRow : OpenClaim := { program := "ytldnipbpjohikaa", sum := "0bbf4a18be82707cd69a6c3db14e8cd7ac9e8f7fb751119375fc5f1315ebafb0", func := "loop.example/matchpolys/laws.FnExactPolyTimes", spec := "fnExactPolyTimes", unfollowed := true, recurses := true, apart := false }
def FnExactPolyTimesSaid : Prop := fnExactPolyTimesRow.holds Try.pinned (OpenSpec.ofChange fnExactPolyTimesSpec)

/-- ITS FALSE NEIGHBOUR: 'it returns false'. Refute it at one input. -/
def fnExactPolyTimesWrong : ChangeSpec := { name := "fnExactPolyTimes", fn := fun _ => fun
  | [d1, d2] => { results := [.lit (.bool false)], args := [d1, d2] }
  | _ => none }
def FnExactPolyTimesWrongFalsely : Prop := fnExactPolyTimesRow.holds Try.pinned (OpenSpec.ofChange fnExactPolyTimesWrong)

/-- 'laws.FnExactPolyDerive': WHATEVER THE INPUT: true; the input reads as it did. -/
def fnExactPolyDeriveSpec : ChangeSpec := { name := "fnExactPolyDerive", fn := fun _ => fun
  | [d] => { results := [.lit (.bool true)], args := [d] }
  | _ => none }
def fnExactPolyDeriveRow : OpenClaim := { program := "ytldnipbpjohikaa", sum := "0bbf4a18be82707cd69a6c3db14e8cd7ac9e8f7fb751119375fc5f1315ebafb0", func := "loop.example/matchpolys/laws.FnExactPolyDerive", spec := "fnExactPolyDerive", unfollowed := true, recurses := true, apart := false }
def FnExactPolyDeriveSaid : Prop := fnExactPolyDeriveRow.holds Try.pinned (OpenSpec.ofChange fnExactPolyDeriveSpec)

/-- ITS FALSE NEIGHBOUR: 'it returns false'. Refute it at one input. -/
def fnExactPolyDeriveWrong : ChangeSpec := { name := "fnExactPolyDerive", fn := fun _ => fun
  | [d] => { results := [.lit (.bool false)], args := [d] }
  | _ => none }
def FnExactPolyDeriveWrongFalsely : Prop := fnExactPolyDeriveRow.holds Try.pinned (OpenSpec.ofChange fnExactPolyDeriveWrong)

/-- 'laws.FnExactPolyAt': WHATEVER THE INPUT: true; the input reads as it did. -/
def fnExactPolyAtSpec : ChangeSpec := { name := "fnExactPolyAt", fn := fun _ => fun
  | [d1, d2] => { results := [.lit (.bool true)], args := [d1, d2] }
  | _ => none }
def fnExactPolyAtRow : OpenClaim := { program := "ytldnipbpjohikaa", sum := "0bbf4a18be82707cd69a6c3db14e8cd7ac9e8f7fb751119375fc5f1315ebafb0", func := "loop.example/matchpolys/laws.FnExactPolyAt", spec := "fnExactPolyAt", apart := false }
def FnExactPolyAtSaid : Prop := fnExactPolyAtRow.holds Try.pinned (OpenSpec.ofChange fnExactPolyAtSpec)

/-- ITS FALSE NEIGHBOUR: 'it returns false'. Refute it at one input. -/
def fnExactPolyAtWrong : ChangeSpec := { name := "fnExactPolyAt", fn := fun _ => fun
  | [d1, d2] => { results := [.lit (.bool false)], args := [d1, d2] }
  | _ => none }
def FnExactPolyAtWrongFalsely : Prop := fnExactPolyAtRow.holds Try.pinned (OpenSpec.ofChange fnExactPolyAtWrong)

/-- 'laws.FnExactPolyHermite': WHATEVER THE INPUT: true; the input reads as it did. -/
def fnExactPolyHermiteSpec : ChangeSpec := { name := "fnExactPolyHermite", fn := fun _ => fun
  | [d] => { results := [.lit (.bool true)], args := [d] }
  | _ => none }
def fnExactPolyHermiteRow : OpenClaim := { program := "ytldnipbpjohikaa", sum := "0bbf4a18be82707cd69a6c3db14e8cd7ac9e8f7fb751119375fc5f1315ebafb0", func := "loop.example/matchpolys/laws.FnExactPolyHermite", spec := "fnExactPolyHermite", unfollowed := true, recurses := true, apart := false }
def FnExactPolyHermiteSaid : Prop := fnExactPolyHermiteRow.holds Try.pinned (OpenSpec.ofChange fnExactPolyHermiteSpec)

/-- ITS FALSE NEIGHBOUR: 'it returns false'. Refute it at one input. -/
def fnExactPolyHermiteWrong : ChangeSpec := { name := "fnExactPolyHermite", fn := fun _ => fun
  | [d] => { results := [.lit (.bool false)], args := [d] }
  | _ => none }
def FnExactPolyHermiteWrongFalsely : Prop := fnExactPolyHermiteRow.holds Try.pinned (OpenSpec.ofChange fnExactPolyHermiteWrong)

/-- 'laws.FnExactPolyWay': WHATEVER THE INPUT: true; the input reads as it did. -/
def fnExactPolyWaySpec : ChangeSpec := { name := "fnExactPolyWay", fn := fun _ => fun
  | [d] => { results := [.lit (.bool true)], args := [d] }
  | _ => none }
def fnExactPolyWayRow : OpenClaim := { program := "ytldnipbpjohikaa", sum := "0bbf4a18be82707cd69a6c3db14e8cd7ac9e8f7fb751119375fc5f1315ebafb0", func := "loop.example/matchpolys/laws.FnExactPolyWay", spec := "fnExactPolyWay", unfollowed := true, recurses := true, apart := false }
def FnExactPolyWaySaid : Prop := fnExactPolyWayRow.holds Try.pinned (OpenSpec.ofChange fnExactPolyWaySpec)

/-- ITS FALSE NEIGHBOUR: 'it returns false'. Refute it at one input. -/
def fnExactPolyWayWrong : ChangeSpec := { name := "fnExactPolyWay", fn := fun _ => fun
  | [d] => { results := [.lit (.bool false)], args := [d] }
  | _ => none }
def FnExactPolyWayWrongFalsely : Prop := fnExactPolyWayRow.holds Try.pinned (OpenSpec.ofChange fnExactPolyWayWrong)

/-- 'laws.FnExactPolyRing': WHATEVER THE INPUT: true; the input reads as it did. -/
def fnExactPolyRingSpec : ChangeSpec := { name := "fnExactPolyRing", fn := fun _ => fun
  | [d] => { results := [.lit (.bool true)], args := [d] }
  | _ => none }
def fnExactPolyRingRow : OpenClaim := { program := "ytldnipbpjohikaa", sum := "0bbf4a18be82707cd69a6c3db14e8cd7ac9e8f7fb751119375fc5f1315ebafb0", func := "loop.example/matchpolys/laws.FnExactPolyRing", spec := "fnExactPolyRing", unfollowed := true, recurses := true, apart := false }
def FnExactPolyRingSaid : Prop := fnExactPolyRingRow.holds Try.pinned (OpenSpec.ofChange fnExactPolyRingSpec)

/-- ITS FALSE NEIGHBOUR: 'it returns false'. Refute it at one input. -/
def fnExactPolyRingWrong : ChangeSpec := { name := "fnExactPolyRing", fn := fun _ => fun
  | [d] => { results := [.lit (.bool false)], args := [d] }
  | _ => none }
def FnExactPolyRingWrongFalsely : Prop := fnExactPolyRingRow.holds Try.pinned (OpenSpec.ofChange fnExactPolyRingWrong)

/- THE SECOND FORM. 'bulk': how many values and letters a reading holds, each counted each time it is reached (what is shared counts as often as it is met; a slice's spare places count too). A statement '..UptoSaid' is the law's where the arguments, and the package variables that the reading takes, are together of bulk at most 1048576: NARROWER than '..Said'. Prove '..Said' where nothing that the law and all that it calls make is longer than what came in: it says more and counts as full. Else prove '..UptoSaid'. A law counts once. -/
mutual
def uptoBulk {H : Type} : DataW H → Nat
  | .lit (.string bytes) => bytes.length + 1
  | .lit _ => 1
  | .nil => 1
  | .ptr d => uptoBulk d + 1
  | .slice elems spare => uptoBulkAll elems + uptoBulkAll spare + 1
  | .agg parts => uptoBulkAll parts + 1
  | .iface _ d => uptoBulk d + 1
  | .map entries => uptoBulkEntries entries + 1
  | .held _ => 1
def uptoBulkAll {H : Type} : List (DataW H) → Nat
  | [] => 0
  | d :: r => uptoBulk d + uptoBulkAll r
def uptoBulkEntries {H : Type} : List (Lit × DataW H) → Nat
  | [] => 0
  | x :: r => uptoBulkEntry x + uptoBulkEntries r
def uptoBulkEntry {H : Type} : Lit × DataW H → Nat
  | (.string bytes, d) => bytes.length + uptoBulk d + 1
  | (_, d) => uptoBulk d + 1
 end
def uptoSmall : (H : Type) → List (DataW H) → Bool := fun _ ds => decide (uptoBulkAll ds ≤ 1048576)
def OpenSpec.upto (s : _root_.Go.ChangeSpec) : _root_.Go.OpenSpec := { _root_.Go.OpenSpec.ofChange s with cond := some uptoSmall }

/-- 'laws.FnExactPolyIn', WHERE WHAT IT READS IS OF BULK AT MOST 1048576: true; the input reads as it did. -/
def fnExactPolyInUptoRow : OpenClaim := { program := "ytldnipbpjohikaa", sum := "0bbf4a18be82707cd69a6c3db14e8cd7ac9e8f7fb751119375fc5f1315ebafb0", func := "loop.example/matchpolys/laws.FnExactPolyIn", spec := "fnExactPolyIn", apart := false, narrowed := true }
def FnExactPolyInUptoSaid : Prop := fnExactPolyInUptoRow.holds Try.pinned (OpenSpec.upto fnExactPolyInSpec)

/-- 'laws.FnExactPolyAdd', WHERE WHAT IT READS IS OF BULK AT MOST 1048576: true; the input reads as it did. -/
def fnExactPolyAddUptoRow : OpenClaim := { program := "ytldnipbpjohikaa", sum := "0bbf4a18be82707cd69a6c3db14e8cd7ac9e8f7fb751119375fc5f1315ebafb0", func := "loop.example/matchpolys/laws.FnExactPolyAdd", spec := "fnExactPolyAdd", unfollowed := true, recurses := true, apart := false, narrowed := true }
def FnExactPolyAddUptoSaid : Prop := fnExactPolyAddUptoRow.holds Try.pinned (OpenSpec.upto fnExactPolyAddSpec)

/-- 'laws.FnExactPolyTimes', WHERE WHAT IT READS IS OF BULK AT MOST 1048576: true; the input reads as it did. -/
def fnExactPolyTimesUptoRow : OpenClaim := { program := "ytldnipbpjohikaa", sum := "0bbf4a18be82707cd69a6c3db14e8cd7ac9e8f7fb751119375fc5f1315ebafb0", func := "loop.example/matchpolys/laws.FnExactPolyTimes", spec := "fnExactPolyTimes", unfollowed := true, recurses := true, apart := false, narrowed := true }
def FnExactPolyTimesUptoSaid : Prop := fnExactPolyTimesUptoRow.holds Try.pinned (OpenSpec.upto fnExactPolyTimesSpec)

/-- 'laws.FnExactPolyDerive', WHERE WHAT IT READS IS OF BULK AT MOST 1048576: true; the input reads as it did. -/
def fnExactPolyDeriveUptoRow : OpenClaim := { program := "ytldnipbpjohikaa", sum := "0bbf4a18be82707cd69a6c3db14e8cd7ac9e8f7fb751119375fc5f1315ebafb0", func := "loop.example/matchpolys/laws.FnExactPolyDerive", spec := "fnExactPolyDerive", unfollowed := true, recurses := true, apart := false, narrowed := true }
def FnExactPolyDeriveUptoSaid : Prop := fnExactPolyDeriveUptoRow.holds Try.pinned (OpenSpec.upto fnExactPolyDeriveSpec)

/-- 'laws.FnExactPolyAt', WHERE WHAT IT READS IS OF BULK AT MOST 1048576: true; the input reads as it did. -/
def fnExactPolyAtUptoRow : OpenClaim := { program := "ytldnipbpjohikaa", sum := "0bbf4a18be82707cd69a6c3db14e8cd7ac9e8f7fb751119375fc5f1315ebafb0", func := "loop.example/matchpolys/laws.FnExactPolyAt", spec := "fnExactPolyAt", apart := false, narrowed := true }
def FnExactPolyAtUptoSaid : Prop := fnExactPolyAtUptoRow.holds Try.pinned (OpenSpec.upto fnExactPolyAtSpec)

/-- 'laws.FnExactPolyHermite', WHERE WHAT IT READS IS OF BULK AT MOST 1048576: true; the input reads as it did. -/
def fnExactPolyHermiteUptoRow : OpenClaim := { program := "ytldnipbpjohikaa", sum := "0bbf4a18be82707cd69a6c3db14e8cd7ac9e8f7fb751119375fc5f1315ebafb0", func := "loop.example/matchpolys/laws.FnExactPolyHermite", spec := "fnExactPolyHermite", unfollowed := true, recurses := true, apart := false, narrowed := true }
def FnExactPolyHermiteUptoSaid : Prop := fnExactPolyHermiteUptoRow.holds Try.pinned (OpenSpec.upto fnExactPolyHermiteSpec)

/-- 'laws.FnExactPolyWay', WHERE WHAT IT READS IS OF BULK AT MOST 1048576: true; the input reads as it did. -/
def fnExactPolyWayUptoRow : OpenClaim := { program := "ytldnipbpjohikaa", sum := "0bbf4a18be82707cd69a6c3db14e8cd7ac9e8f7fb751119375fc5f1315ebafb0", func := "loop.example/matchpolys/laws.FnExactPolyWay", spec := "fnExactPolyWay", unfollowed := true, recurses := true, apart := false, narrowed := true }
def FnExactPolyWayUptoSaid : Prop := fnExactPolyWayUptoRow.holds Try.pinned (OpenSpec.upto fnExactPolyWaySpec)

/-- 'laws.FnExactPolyRing', WHERE WHAT IT READS IS OF BULK AT MOST 1048576: true; the input reads as it did. -/
def fnExactPolyRingUptoRow : OpenClaim := { program := "ytldnipbpjohikaa", sum := "0bbf4a18be82707cd69a6c3db14e8cd7ac9e8f7fb751119375fc5f1315ebafb0", func := "loop.example/matchpolys/laws.FnExactPolyRing", spec := "fnExactPolyRing", unfollowed := true, recurses := true, apart := false, narrowed := true }
def FnExactPolyRingUptoSaid : Prop := fnExactPolyRingUptoRow.holds Try.pinned (OpenSpec.upto fnExactPolyRingSpec)

end Rows
end Go.Proofs.Ytldnipbpjohikaa
