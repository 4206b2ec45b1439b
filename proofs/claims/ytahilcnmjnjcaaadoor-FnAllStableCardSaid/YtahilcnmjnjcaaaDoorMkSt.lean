/-
  A MARKET AND A PAIRING THAT WERE DRAWN: what stands of them from one call to the next.
-/
import Derived.Test.YtahilcnmjnjcaaaDoorMktFun
import Derived.Test.YtahilcnmjnjcaaaDoorCore1
namespace Go.Proofs.YtahilcnmjnjcaaaDoor
set_option linter.unusedVariables false
set_option linter.unusedSimpArgs false
open Go.RowKit

structure MkSt (w W : World) (L R : Value) (ls rs : List (List Int)) : Prop where
  bel : Below w.heap.size w W
  l : IntRows W L ls
  r : IntRows W R rs
theorem MkSt.below {w W W' : World} {L R : Value} {ls rs : List (List Int)} (h : MkSt w W L R ls rs) (hb : Below W.heap.size W W') : MkSt w W' L R ls rs :=
  ⟨step_below h.bel hb, h.l.below hb, h.r.below hb⟩
theorem MkSt.drewN {w W : World} {L R : Value} {ls rs : List (List Int)} (h : MkSt w W L R ls rs) (q : Nat) : MkSt w (W.drewN q) L R ls rs :=
  ⟨below_drewN h.bel q, h.l.drewN q, h.r.drewN q⟩

/-- The same, the market in a block of its own. -/
structure MkB (w W : World) (Bm : Nat) (L R : Value) (ls rs : List (List Int)) : Prop where
  bel : Below w.heap.size w W
  l : IntRows W L ls
  r : IntRows W R rs
  bx : W.heap[Bm]? = some (.cells (two L R) 28 (0, 0))
theorem rows_one {w : World} {v : Value} {xss : List (List Int)} (h : IntRows w v xss) : v.oneCell' = true := by obtain ⟨A, c, us, rfl, _⟩ := h; rfl
/-- A market that was drawn. -/
def GivesM0 (w : World) (e : Ending) (w' : World) : Prop :=
  ∃ L R ls rs, e = .returned (.agg (two L R)) ∧ MkSt w w' L R ls rs ∧ ls.length ≤ 4
/-- A market and a pairing that were drawn. -/
def GivesM1 (w : World) (e : Ending) (w' : World) : Prop :=
  ∃ L R ls rs v xs, e = .returned (.tuple #[.agg (two L R), v]) ∧ MkSt w w' L R ls rs ∧ ls.length ≤ 4 ∧ Ints w' v xs
/-- A market and two pairings that were drawn. -/
def GivesM2 (w : World) (e : Ending) (w' : World) : Prop :=
  ∃ L R ls rs v xs u ys, e = .returned (.tuple #[.agg (two L R), v, u]) ∧ MkSt w w' L R ls rs ∧ Ints w' v xs ∧ Ints w' u ys

end Go.Proofs.YtahilcnmjnjcaaaDoor
