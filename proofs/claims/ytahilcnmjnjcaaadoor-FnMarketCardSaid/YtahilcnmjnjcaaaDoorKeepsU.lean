/-
  What stays while orders are given out: the tables, all cells but those of lists of lists, and what is no cells.
-/
import Derived.Test.YtahilcnmjnjcaaaDoorAllB
import Derived.Test.YtahilcnmjnjcaaaDoorMarks
import Derived.Test.YtahilcnmjnjcaaaDoorNest
import Derived.RangeFuncWrites
import Derived.Maps.AppendAt
namespace Go.Proofs.YtahilcnmjnjcaaaDoor
set_option linter.unusedVariables false
set_option linter.unusedSimpArgs false
open Go.RowKit

structure KeepsU (B : Nat) (X Y : World) : Prop where
  low : Below (1 + 1) X Y
  cells : ∀ (k : Nat) (c : Array Value) (t : TypeId) (fr : Nat × Nat), X.heap[k]? = some (.cells c t fr) → t ≠ 39 → t ≠ 22 → Y.heap[k]? = some (.cells c t fr)
  other : ∀ (k : Nat) (o : Obj), B ≤ k → X.heap[k]? = some o → o.isCells = false → Y.heap[k]? = some o
theorem KeepsU.refl (B : Nat) (X : World) : KeepsU B X X := ⟨Below.refl _ _, fun _ _ _ _ h _ _ => h, fun _ _ _ h _ => h⟩
theorem KeepsU.trans {B : Nat} {X Y Z : World} (h : KeepsU B X Y) (k : KeepsU B Y Z) : KeepsU B X Z :=
  ⟨h.low.trans k.low, fun i c t fr hi h1 h2 => k.cells i c t fr (h.cells i c t fr hi h1 h2) h1 h2, fun i o hb hi ho => k.other i o hb (h.other i o hb hi ho) ho⟩
theorem KeepsU.below {B : Nat} {X Y : World} (h : Below X.heap.size X Y) (ht : 1 < X.heap.size) : KeepsU B X Y :=
  ⟨h.mono (by omega), fun i c t fr hi _ _ => (h.block i (Array.getElem?_eq_some_iff.1 hi).1).trans hi, fun i o _ hi _ => (h.block i (Array.getElem?_eq_some_iff.1 hi).1).trans hi⟩
theorem KeepsU.size {B : Nat} {X Y : World} (h : KeepsU B X Y) : X.heap.size ≤ Y.heap.size := h.low.size
/-- New blocks may turn. -/
theorem KeepsU.grown {B : Nat} {X Y Z : World} {row : Option Nat} (h : KeepsU B X Y) (ht : 1 < X.heap.size) (hg : Y.grownBy Z row) (hr : ∀ r, row = some r → X.heap.size ≤ r) : KeepsU B X Z := by
  have hb : ∀ k, k < X.heap.size → Z.heap[k]? = Y.heap[k]? := fun k hk => hg.block k (Nat.lt_of_lt_of_le hk h.size) (fun e => by have := hr k e.symm; omega)
  refine ⟨⟨hg.os.trans h.low.os, hg.tape.trans h.low.tape, hg.output.trans h.low.output, Nat.le_trans h.size hg.size, fun k hk => (hb k (by omega)).trans (h.low.block k hk)⟩, fun i c t fr hi h1 h2 => ?_, fun i o hbi hi ho => ?_⟩
  · exact (hb i (Array.getElem?_eq_some_iff.1 hi).1).trans (h.cells i c t fr hi h1 h2)
  · exact (hb i (Array.getElem?_eq_some_iff.1 hi).1).trans (h.other i o hbi hi ho)
theorem KeepsU.lower {B B' : Nat} {X Y : World} (h : KeepsU B X Y) (hB : B ≤ B') : KeepsU B' X Y := ⟨h.low, h.cells, fun i o hb => h.other i o (Nat.le_trans hB hb)⟩
theorem KeepsU.from {B B' : Nat} {X Y : World} (h : KeepsU B X Y) (hB : B ≤ B') : KeepsFrom B' X Y := ⟨h.size, fun i o hb hi ho => h.other i o (Nat.le_trans hB hb) hi ho⟩
theorem Tab.keepsU {B : Nat} {X Y : World} (h : Tab X) (k : KeepsU B X Y) : Tab Y := h.below k.low (by omega)
theorem owns_keepsU {B : Nat} {X Y : World} {b n : Nat} {v : Value} {xs : List Value} (h : X.ownsRow b 3 1 v n xs) (k : KeepsU B X Y) : Y.ownsRow b 3 1 v n xs := by
  refine ⟨h.1, ?_⟩
  rcases h.2 with hn | ⟨g, cap, cur, hv, hb, hg, rest⟩
  · exact .inl hn
  · exact .inr ⟨g, cap, cur, hv, hb, k.cells _ _ _ _ hg (by decide) (by decide), rest⟩
theorem box_keepsU {B : Nat} {X Y : World} {b : Nat} {v : Value} {t : TypeId} (h : Boxed X b t v) (k : KeepsU B X Y) (h1 : t ≠ 39) (h2 : t ≠ 22) : Boxed Y b t v := k.cells _ _ _ _ h h1 h2

end Go.Proofs.YtahilcnmjnjcaaaDoor
