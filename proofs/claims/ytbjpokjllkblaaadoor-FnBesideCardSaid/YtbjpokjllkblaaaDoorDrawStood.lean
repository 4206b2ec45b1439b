/-
  WHAT STANDS BEHIND A DRAWN GRAPH: the reader goes on.
-/
import Derived.Test.YtbjpokjllkblaaaDoorDraw1
namespace Go.Proofs.YtbjpokjllkblaaaDoor
set_option linter.unusedVariables false
set_option linter.unusedSimpArgs false
open Go.RowKit
set_option maxRecDepth 100000

/-- A list and a number that were drawn. -/
def GivesSet (w : World) (most : Nat) (e : Ending) (w' : World) : Prop :=
  ∃ G xs a, e = .returned (.tuple #[.slice (some ⟨G, 0, none⟩) xs.length xs.length, .int .i64 a]) ∧ 1 ≤ xs.length ∧ xs.length ≤ most ∧ (∀ x ∈ xs, I64 x) ∧ I64 a ∧ Below w.heap.size w w' ∧ Ints w' (.slice (some ⟨G, 0, none⟩) xs.length xs.length) xs

/-- How things stand behind the graph. -/
def Stood (w1 : World) (r M cap G : Nat) (A : Option Addr) (xs : List Int) (p : Nat) (W : World) : Prop :=
  W.heap[r]? = some (.cells (rcells A M cap p) 55 (0, 0)) ∧ W.ownsRow w1.heap.size 3 1 (.slice (some ⟨G, 0, none⟩) xs.length xs.length) xs.length (vals xs) ∧ Within r (r + 1) w1 W
theorem Stood.drewN {w1 : World} {r M cap G : Nat} {A : Option Addr} {xs : List Int} {p : Nat} {W : World} (h : Stood w1 r M cap G A xs p W) (q : Nat) : Stood w1 r M cap G A xs p (W.drewN q) :=
  ⟨h.1, h.2.1, h.2.2.drewN q⟩
theorem stood_pick {w1 W : World} {r M cap G p m : Nat} {A : Option Addr} {xs : List Int} (h : Stood w1 r M cap G A xs p W) (hxr : Bytes w1 r A M) (hM : M ≤ 2000) (hrw : r < w1.heap.size) (hp : p ≤ 100000) (hm : 1 ≤ m) (hm2 : m ≤ 1000) :
    Calls Tryd.prog 12 #[.pointer (some ⟨r, 0, none⟩), .int .i64 m] W fun e W' => ∃ v : Nat, v < m ∧ e = .returned (.int .i64 v) ∧ Stood w1 r M cap G A xs (p + 1) W' := by
  refine (pick_any W r p m M cap A h.1 (hxr.within h.2.2) (by omega) hM hm hm2).mono ?_
  rintro e W' ⟨v, hv, rfl, hr4, hw4⟩
  exact ⟨v, hv, rfl, hr4, owns_within (w := w1) h.2.1 hw4 hrw, h.2.2.trans hw4⟩

theorem quo23 {v : Nat} (h : v < 24) : ∃ d : Nat, (v : Int) / 23 = (d : Int) ∧ (v : Int).tdiv 23 = (d : Int) ∧ d ≤ 1 := by
  refine ⟨v / 23, by omega, ?_, by omega⟩
  rw [Int.tdiv_eq_ediv_of_nonneg (by omega)]; omega
theorem sub_some (v d : Nat) (hv : v ≤ 1000) (hd : d ≤ 1) : ∃ x : Int, IntKind.i64.wrap ((v : Int) - (d : Int)) = x ∧ wrap64 ((v : Int) - (d : Int)) = x ∧ I64 x := by
  refine ⟨(v : Int) - (d : Int), ?_, ?_, ?_⟩
  · rw [IntKind.wrap_i64]; omega
  · unfold wrap64; omega
  · unfold I64; omega

end Go.Proofs.YtbjpokjllkblaaaDoor
