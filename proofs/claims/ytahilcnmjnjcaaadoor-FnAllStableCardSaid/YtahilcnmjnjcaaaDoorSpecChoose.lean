/-
  spec.l6mChoose: the better partners, or the worse ones.
-/
import Derived.Test.YtahilcnmjnjcaaaDoorSpecStab
import Derived.Test.YtahilcnmjnjcaaaDoorReadStab
namespace Go.Proofs.YtahilcnmjnjcaaaDoor
set_option linter.unusedVariables false
set_option linter.unusedSimpArgs false
open Go.RowKit

def chooseAt (ls : List (List Int)) (ps qs : List Int) (better : Bool) (i : Nat) : Int :=
  if (decide (place (ls.getD i []) (ps.getD i 0) < place (ls.getD i []) (qs.getD i 0)) == better) = true then ps.getD i 0 else qs.getD i 0
def chooseTo (ls : List (List Int)) (ps qs : List Int) (better : Bool) (k : Nat) : List Int := (List.range k).map (chooseAt ls ps qs better)
theorem chooseTo_succ (ls : List (List Int)) (ps qs : List Int) (better : Bool) (k : Nat) : chooseTo ls ps qs better (k + 1) = chooseTo ls ps qs better k ++ [chooseAt ls ps qs better k] := by
  simp [chooseTo, List.range_succ]
theorem chooseTo_len (ls : List (List Int)) (ps qs : List Int) (better : Bool) (k : Nat) : (chooseTo ls ps qs better k).length = k := by simp [chooseTo]
def chooseOf (ls rs : List (List Int)) (ps qs : List Int) (better : Bool) : List Int := if bothB ls rs ps qs = true then chooseTo ls ps qs better ls.length else []
theorem chooseOf_yes {ls rs : List (List Int)} {ps qs : List Int} {better : Bool} (h : bothB ls rs ps qs = true) : chooseOf ls rs ps qs better = chooseTo ls ps qs better ls.length := if_pos h
theorem chooseOf_no {ls rs : List (List Int)} {ps qs : List Int} {better : Bool} (h : bothB ls rs ps qs = false) : chooseOf ls rs ps qs better = [] := by unfold chooseOf; rw [h]; rfl
theorem chooseOf_len (ls rs : List (List Int)) (ps qs : List Int) (better : Bool) : (chooseOf ls rs ps qs better).length ≤ 1048576 := by
  cases h : bothB ls rs ps qs with
  | true =>
    rw [chooseOf_yes h, chooseTo_len]
    unfold bothB at h
    rw [Bool.and_eq_true] at h
    have := (pair_parts (stable_parts h.1).1).2.1
    omega
  | false => rw [chooseOf_no h]; simp
theorem gives_ints_no {w W : World} (hb : Below w.heap.size w W) : GivesInts w false [] (.returned (.tuple #[nilS, .bool false])) W := ⟨nilS, rfl, hb, World.ownsRow_nil _ _ _ _⟩

/-- What stands while partners are chosen. -/
structure ChSt (w wr : World) (L R v : Value) (xs : List Int) : Prop where
  bel : Below w.heap.size w wr
  box : wr.heap[w.heap.size]? = some (.cells (two L R) 28 (0, 0))
  out : wr.ownsRow w.heap.size 3 1 v xs.length (vals xs)
theorem ChSt.drewN {w wr : World} {L R v : Value} {xs : List Int} (h : ChSt w wr L R v xs) (n : Nat) : ChSt w (wr.drewN n) L R v xs := ⟨below_drewN h.bel n, h.box, h.out⟩
theorem ChSt.push {w wr w3 : World} {L R v v' : Value} {xs : List Int} {x : Int} (h : ChSt w wr L R v xs) (hown : w3.ownsRow w.heap.size 3 1 v' (xs.length + 1) (vals xs ++ [.int .i64 x])) (hg : (wr.alloc (.cells #[.int .i64 x] 3)).grownBy w3 v.ownBlock) : ChSt w w3 L R v' (xs ++ [x]) := by
  have hb : Below wr.heap.size wr (wr.alloc (.cells #[.int .i64 x] 3)) := (Below.refl _ _).alloc (Nat.le_refl _) _
  refine ⟨(step_below h.bel hb).grown hg (by have := h.bel.size; simp; omega) (fun k hk => (h.out.lt k hk).1), ?_, ?_⟩
  · refine ((hg.block _ (by have := (Array.getElem?_eq_some_iff.1 h.box).1; simp; omega) (fun e => ?_)).trans (kept_obj hb h.box))
    obtain ⟨c1, f1, hc1⟩ := row_cells h.out e.symm
    rw [h.box] at hc1
    simp at hc1
  · have e : (xs ++ [x]).length = xs.length + 1 := by simp
    rw [e]
    simpa [vals] using hown




end Go.Proofs.YtahilcnmjnjcaaaDoor
