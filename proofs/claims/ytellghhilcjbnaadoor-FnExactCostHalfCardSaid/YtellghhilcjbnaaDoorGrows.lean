/-
  A list of lists that calls make longer: what of it stands from one call to the next.
-/
import Derived.Test.YtellghhilcjbnaaDoorCore1
namespace Go.Proofs.YtellghhilcjbnaaDoor
set_option linter.unusedVariables false
set_option linter.unusedSimpArgs false
open Go.RowKit

/-- From a world on, no old block turned but that of the list; the list lies there, or in a new block. -/
def Longer (w w' : World) (v v' : Value) : Prop := w.grownBy w' v.ownBlock ∧ (v'.ownBlock = v.ownBlock ∨ ∀ b, v'.ownBlock = some b → w.heap.size ≤ b)
theorem Longer.refl (w : World) (v : Value) : Longer w w v v := ⟨⟨rfl, rfl, rfl, Nat.le_refl _, fun _ _ _ => rfl⟩, .inl rfl⟩
theorem Longer.trans {w w1 w2 : World} {v v1 v2 : Value} (h : Longer w w1 v v1) (h2 : Longer w1 w2 v1 v2) : Longer w w2 v v2 := by
  refine ⟨⟨h2.1.os.trans h.1.os, h2.1.tape.trans h.1.tape, h2.1.output.trans h.1.output, Nat.le_trans h.1.size h2.1.size, fun k hk ho => (h2.1.block k (Nat.lt_of_lt_of_le hk h.1.size) fun e => ?_).trans (h.1.block k hk ho)⟩, ?_⟩
  · rcases h.2 with h3 | h3
    · exact ho (e.trans h3)
    · have := h3 k e.symm; omega
  · rcases h2.2 with h3 | h3
    · rcases h.2 with h4 | h4
      · exact .inl (h3.trans h4)
      · exact .inr fun b hb => h4 b (h3.symm.trans hb)
    · exact .inr fun b hb => Nat.le_trans h.1.size (h3 b hb)
theorem Longer.below {w w1 : World} {v : Value} (hb : Below w.heap.size w w1) : Longer w w1 v v := ⟨⟨hb.os, hb.tape, hb.output, hb.size, fun k hk _ => hb.block k hk⟩, .inl rfl⟩
theorem Longer.drewN {w w1 : World} {v v1 : Value} (h : Longer w w1 v v1) (n : Nat) : Longer w (w1.drewN n) v v1 := ⟨⟨h.1.os, h.1.tape, h.1.output, h.1.size, h.1.block⟩, h.2⟩
/-- A list of integers is not the list of lists. -/
theorem Longer.owns {w w1 : World} {v v1 u : Value} {xs : List Int} {us : List Value} {n b lo : Nat} (h : Longer w w1 v v1) (hu : Owns w b u xs) (hv : w.ownsRow lo 24 1 v n us) : Owns w1 b u xs :=
  hu.kept h.1 (rows_apart hu hv (by decide))
theorem Longer.heap {w w1 : World} {v v1 : Value} (h : Longer w w1 v v1) {lo : Nat} {us : List Value} {n : Nat} (hv : w.ownsRow lo 24 1 v n us) (hlo : w.heap.size ≤ lo) : Below w.heap.size w w1 :=
  ⟨h.1.os, h.1.tape, h.1.output, h.1.size, fun k hk => h.1.block k hk fun e => by have := (hv.lt k e.symm).1; omega⟩
theorem Longer.bel {w0 w w1 : World} {v v1 : Value} (h0 : Below w0.heap.size w0 w) (h : Longer w w1 v v1) {lo : Nat} {us : List Value} {n : Nat} (hv : w.ownsRow lo 24 1 v n us) (hlo : w0.heap.size ≤ lo) : Below w0.heap.size w0 w1 :=
  ⟨h.1.os.trans h0.os, h.1.tape.trans h0.tape, h.1.output.trans h0.output, Nat.le_trans h0.size h.1.size, fun k hk => (h.1.block k (Nat.lt_of_lt_of_le hk h0.size) fun e => by have := (hv.lt k e.symm).1; omega).trans (h0.block k hk)⟩

end Go.Proofs.YtellghhilcjbnaaDoor
